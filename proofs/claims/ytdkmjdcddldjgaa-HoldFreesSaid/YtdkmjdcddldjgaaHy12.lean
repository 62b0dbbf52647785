/-
  ScGM: The document's left (layer 20), over the loaded program: of all of some, or one of some. No condition but the sizes that each contract names.
  ScGO: The document's left (layer 20), over the loaded program: of what is not. No condition but the sizes that each contract names.
  ScH: The document's left and May (layer 20), over the loaded program: each one's contract. No condition but the sizes that each contract names.
-/
import Derived.Test.YtdkmjdcddldjgaaHy11
import Derived.BigQuiet
set_option linter.unusedVariables false
set_option maxRecDepth 100000
namespace Go.Proofs.Ytdkmjdcddldjgaa
section
open Go.RowKit
set_option maxHeartbeats 8000000 in
theorem zleft_many (S : Nat → Prop) (f : Nat) (ih : LeftIh S f) (t : Ns (Sc f)) (v : Value) (n d : Int) (w : World) (hn2 : n ≤ 1000) (hd2 : d ≤ 1000) (h1 : 1 ≤ n) (h2 : 1 ≤ d) (hop : t.op = 6 ∨ t.op = 7) (hv : ZV w S (f + 1) v t) :
    Calls Try.prog 46 #[v, .int .i64 n, .int .i64 d] w fun e w' => e = .returned (.int .i64 (leftS (f + 1) t n d)) ∧ Below w.heap.size w w' := by
  obtain ⟨c0, c1, c2, c3, c4, rfl, rfl, hk, rfl, hml, rfl, hfr, rfl, hto, hks⟩ := hv
  obtain ⟨A3, cap3, e3, hl3, hm3⟩ := hks.form
  subst e3
  obtain ⟨r, hr⟩ : ∃ r, r = leftS (f + 1) t n d := ⟨_, rfl⟩
  rw [← hr]
  have HU : Hid (¬ (t.name = [] ∧ t.from_ = 0 ∧ t.to_ = 0 ∧ 2 ≤ t.kids.length) → r = -1) := fun h => hr.trans (zleft_unfit t (by
    cases hb : fitsS t with
    | false => rfl
    | true => exact absurd ((zfit_many hop).1 hb) h))
  have HU9 : Hid (n - 1 < (t.kids.length : Int) → r = -1) := fun a => hr.trans (zleft_wide t a)
  have HF : Hid (t.name = [] ∧ t.from_ = 0 ∧ t.to_ = 0 ∧ 2 ≤ t.kids.length → (∀ m : Int, (((t.kids.take t.kids.length).all fun u => okS f u (d - 1)) = true) → m = n - 1 - (sumS f t.kids t.kids.length : Int) → 0 ≤ m → r = m)) :=
    fun a m b c e => hr.trans (zleft_all t ((zfit_many hop).2 a) h2 b c e)
  have HST : Hid (∀ (m : Int) (j : Nat) (hj : j < t.kids.length), m = n - 1 - (sumS f t.kids j : Int) → leftS f t.kids[j] m (d - 1) < 0 → r = -1) := fun m j hj a b => hr.trans (zleft_stop t hj a b)
  have HGO : Hid (∀ (m : Int) (j : Nat) (hj : j < t.kids.length), m = n - 1 - (sumS f t.kids j : Int) → ((t.kids.take j).all fun u => okS f u (d - 1)) = true → 0 ≤ leftS f t.kids[j] m (d - 1) →
      leftS f t.kids[j] m (d - 1) = n - 1 - (sumS f t.kids (j + 1) : Int) ∧ ((t.kids.take (j + 1)).all fun u => okS f u (d - 1)) = true) := fun m j hj a b e => zleft_step t hj a b e
  clear hr
  have HNM : Hid (∀ W : World, Calls Try.prog 55 #[.int .i64 t.op] W fun e w' => e = .returned (.bool false) ∧ w' = W) := fun W => by
    have := znamed_any t.op W
    rwa [show namedS t.op = false from by unfold namedS; exact decide_eq_false (by omega)] at this
  have HMM : Hid (∀ W : World, Calls Try.prog 48 #[.int .i64 t.op] W fun e w' => e = .returned (.bool true) ∧ w' = W) := fun W => by
    have := zmany_any t.op W
    rwa [show manyS t.op = true from by unfold manyS; exact decide_eq_true hop] at this
  have HNA := Lib.hid (fun W : World => rname_any t.name hml W)
  generalize t.op = k at *
  generalize t.from_ = fr at *
  generalize t.to_ = to_ at *
  generalize t.name = l at *
  generalize t.kids = ks at *
  clear t
  have hlen : ks.length ≤ 9223372036854775807 := by unfold maxLen at hm3; omega
  have hlz : ((⟨l.toArray⟩ : ByteArray).size : Int) = (l.length : Int) := rfl
  have W1 : wrap64 (n - 1) = n - 1 := IntWalk.wrap64_in _ (by omega)
  have W2 : wrap64 (d - 1) = d - 1 := IntWalk.wrap64_in _ (by omega)
  have I1 : IntKind.i64.wrap (n - 1) = n - 1 := by rw [IntKind.wrap_i64]; omega
  have I2 : IntKind.i64.wrap (d - 1) = d - 1 := by rw [IntKind.wrap_i64]; omega
  have HM2 := Lib.hid (zne_if ⟨l.toArray⟩ l rfl)
  have HM : Hid (l = [] → ((⟨l.toArray⟩ : ByteArray).toList != []) = false ∧ ((⟨l.toArray⟩ : ByteArray).toList != (⟨#[]⟩ : ByteArray).toList) = false ∧ (⟨l.toArray⟩ : ByteArray).toList = [] ∧ (⟨l.toArray⟩ : ByteArray).toList.isEmpty = true) := fun h => zne_not ⟨l.toArray⟩ (by rw [h])
  unfold strV at *
  obtain ⟨s, hs⟩ : ∃ s : ByteArray, s = ⟨l.toArray⟩ := ⟨_, rfl⟩
  rw [← hs] at HNA HM HM2 ⊢
  clear hs hlz hml
  obtain ⟨kl, hkl⟩ : ∃ kl, kl = ks.length := ⟨_, rfl⟩
  rw [← hkl] at hks hl3 hlen HU HU9 ⊢
  have HKL := Lib.hid hkl
  clear hkl
  have kb := KB.new w 25 #[.int .i64 k, .string s, .int .i64 fr, .int .i64 to_, .slice A3 kl cap3]
  have B0 := (Below.refl w.heap.size w).alloc (Nat.le_refl _) (.cells #[.int .i64 k, .string s, .int .i64 fr, .int .i64 to_, .slice A3 kl cap3] 25)
  have B1 := Below_drawn B0 1
  have kc := kb.below (Below_drawn (Below.refl _ _) 1) kb.lt
  have E1 : decide (n < 1) = false := decide_eq_false (by omega)
  have E2 : decide (d < 1) = false := decide_eq_false (by omega)
  have E3 : decide (k < 1) = false := decide_eq_false (by omega)
  have E4 : decide (8 < k) = false := decide_eq_false (by omega)
  have E5 : (k == 5) = false := beq_eq_false_iff_ne.2 (by omega)
  have E6 : (k == 8) = false := beq_eq_false_iff_ne.2 (by omega)
  have E7 : (k != 8) = true := bne_iff_ne.2 (by omega)
  by_cases h5 : l = []
  case neg =>
    obtain rfl := HU.out (fun h => h5 h.1)
    obtain ⟨E8, E8b⟩ := (HM2.out h5).2.2
    clear HU HM HM2
    go_enter Try.func46, Try.ntmps46
    go_wp2_with fail
    rename_i KK hKK
    have HKK := Lib.hid hKK
    clear hKK
    refine wp_region_held_drew (S := (fun W => W.cell? ⟨w.heap.size, 0, none⟩ = some (.int .i64 k) ∧ W.cell? ⟨w.heap.size, 1, none⟩ = some (.string s))) (by kernel_rfl) ⟨kb.cell 0, kb.cell 1⟩ (fun hHeld => ?_)
    refine hyY (some 26) 0 rfl hHeld ?_; go_frame
    refine hyY (some 27) 1 rfl hHeld ?_; go_frame
    refine hyY (some 29) 3 rfl hHeld ?_; go_frame
    refine hyY (some 30) 4 rfl hHeld ?_; go_frame
    refine hyY (some 31) 5 rfl hHeld ?_; go_frame
    refine hyO (some 28) 2 rfl (fun K hK => ?_)
    go_simp
    go_at_call 55
    refine (HNM.out _).mono ?_
    rintro e w5 ⟨rfl, rfl⟩
    go_wp2_with fail
    refine hK.out _ _ ?_ (fun hH2 => ?_)
    · exact ⟨kb.cell 0, kb.cell 1⟩
    clear hHeld hK K; have hHeld := hH2; clear hH2; try go_frame
    refine hyY (some 32) 6 rfl hHeld ?_; go_frame
    refine hyY (some 33) 7 rfl hHeld ?_; go_frame
    refine hyN (some 34) 8 rfl hHeld ?_; go_frame
    refine hyN (some 35) 9 rfl hHeld ?_; go_frame
    refine hyN (some 36) 10 rfl hHeld ?_; go_frame
    refine hyN (some 37) 11 rfl hHeld ?_; go_frame
    refine hyN (some 38) 12 rfl hHeld ?_; go_frame
    refine hyN (some 39) 13 rfl hHeld ?_; go_frame
    refine hyN (some 40) 14 rfl hHeld ?_; go_frame
    refine hyN (some 41) 15 rfl hHeld ?_; go_frame
    refine hyN (some 42) 16 rfl hHeld ?_; go_frame
    refine hyY (some 43) 17 rfl hHeld ?_; go_frame
    refine wpAnyH_done (by kernel_rfl) ?_ _
    have hKK := HKK.out
    go_wp2_with fail
    go_ret
    exact ⟨rfl, B1⟩
  obtain ⟨E8, E8b⟩ := (HM.out h5).2.2
  clear HM HM2
  go_enter Try.func46, Try.ntmps46
  go_wp2_with fail
  rename_i KK hKK
  have HKK := Lib.hid hKK
  clear hKK
  refine wp_region_held_drew (S := (fun W => W.cell? ⟨w.heap.size, 0, none⟩ = some (.int .i64 k) ∧ W.cell? ⟨w.heap.size, 1, none⟩ = some (.string s))) (by kernel_rfl) ⟨kb.cell 0, kb.cell 1⟩ (fun hHeld => ?_)
  refine hyY (some 26) 0 rfl hHeld ?_; go_frame
  refine hyY (some 27) 1 rfl hHeld ?_; go_frame
  refine hyY (some 29) 3 rfl hHeld ?_; go_frame
  refine hyY (some 30) 4 rfl hHeld ?_; go_frame
  refine hyY (some 31) 5 rfl hHeld ?_; go_frame
  refine hyO (some 28) 2 rfl (fun K hK => ?_)
  go_simp
  go_at_call 55
  refine (HNM.out _).mono ?_
  rintro e w5 ⟨rfl, rfl⟩
  go_wp2_with fail
  refine hK.out _ _ ?_ (fun hH2 => ?_)
  · exact ⟨kb.cell 0, kb.cell 1⟩
  clear hHeld hK K; have hHeld := hH2; clear hH2; try go_frame
  refine hyY (some 32) 6 rfl hHeld ?_; go_frame
  refine hyY (some 33) 7 rfl hHeld ?_; go_frame
  refine hyY (some 34) 8 rfl hHeld ?_; go_frame
  refine hyY (some 35) 9 rfl hHeld ?_; go_frame
  refine hyO (some 36) 10 rfl (fun K hK => ?_)
  go_simp
  go_at_call 55
  refine (HNM.out _).mono ?_
  rintro e w5 ⟨rfl, rfl⟩
  go_wp2_with fail
  refine hK.out _ _ ?_ (fun hH2 => ?_)
  · exact ⟨kb.cell 0, kb.cell 1⟩
  clear hHeld hK K; have hHeld := hH2; clear hH2; try go_frame
  refine hyY (some 37) 11 rfl hHeld ?_; go_frame
  refine hyN (some 38) 12 rfl hHeld ?_; go_frame
  refine hyN (some 39) 13 rfl hHeld ?_; go_frame
  refine hyN (some 40) 14 rfl hHeld ?_; go_frame
  refine hyN (some 41) 15 rfl hHeld ?_; go_frame
  refine hyY (some 42) 16 rfl hHeld ?_; go_frame
  refine hyY (some 43) 17 rfl hHeld ?_; go_frame
  refine wpAnyH_done (by kernel_rfl) ?_ _
  have hKK := HKK.out
  by_cases a1 : fr = 0
  case neg =>
    have E9 : (fr != 0) = true := bne_iff_ne.2 a1
    obtain rfl := HU.out (by intro h; exact a1 h.2.1)
    go_wp2_with (go_at_call 48; refine (HMM.out _).mono ?_; rintro e wq ⟨rfl, rfl⟩)
    go_ret
    exact ⟨rfl, B1⟩
  subst a1
  by_cases a2 : to_ = 0
  case neg =>
    have E10 : (to_ != 0) = true := bne_iff_ne.2 a2
    obtain rfl := HU.out (by intro h; exact a2 h.2.2.1)
    go_wp2_with (go_at_call 48; refine (HMM.out _).mono ?_; rintro e wq ⟨rfl, rfl⟩)
    go_ret
    exact ⟨rfl, B1⟩
  subst a2
  by_cases a4 : kl < 2
  · have E12 : decide ((kl : Int) < 2) = true := decide_eq_true (by omega)
    have E13 : decide (kl < 2) = true := decide_eq_true a4
    obtain rfl := HU.out (by intro h; have := h.2.2.2; omega)
    go_wp2_with (go_at_call 48; refine (HMM.out _).mono ?_; rintro e wq ⟨rfl, rfl⟩)
    go_ret
    exact ⟨rfl, B1⟩
  have E12 : decide ((kl : Int) < 2) = false := decide_eq_false (by omega)
  have E13 : decide (kl < 2) = false := decide_eq_false a4
  by_cases a5 : n - 1 < (kl : Int)
  · have E14 := decide_eq_true a5
    obtain rfl := HU9.out a5
    go_wp2_with (go_at_call 48; refine (HMM.out _).mono ?_; rintro e wq ⟨rfl, rfl⟩)
    go_ret
    exact ⟨rfl, B1⟩
  have E14 : decide (n - 1 < (kl : Int)) = false := decide_eq_false a5
  have HF2 := Lib.hid (HF.out ⟨h5, rfl, rfl, by have := HKL.out; omega⟩)
  clear HU HU9 HF
  go_wp2_with (go_at_call 48; refine (HMM.out _).mono ?_; rintro e wq ⟨rfl, rfl⟩)
  clear E1 E2 E8 E8b E14
  go_loopw [1, 7] (fun mv iv wr => ∃ (m : Int) (j : Nat), -1 ≤ m ∧ m ≤ 1000 ∧ j ≤ kl ∧ mv = .int .i64 m ∧ iv = .int .i64 j ∧
    Hid ((0 ≤ m ∧ m = n - 1 - (sumS f ks j : Int) ∧ ((ks.take j).all fun u => okS f u (d - 1)) = true) ∨ (m < 0 ∧ r = -1 ∧ m = -1)) ∧
    KB wr w.heap.size 25 #[.int .i64 k, .string s, .int .i64 0, .int .i64 0, .slice A3 kl cap3] ∧ Below w.heap.size w wr) (fun _ iv _ => kl - (intOf iv).toNat)
  case atStart => exact ⟨n - 1, 0, by omega, by omega, by omega, rfl, rfl, .inl ⟨by omega, by unfold sumS; simp, rfl⟩, kc, B1⟩
  case round =>
    obtain ⟨m, j, hm1, hm2, hj, rfl, rfl, hst, K, B⟩ := hrel
    have q3 : wr.cell? ⟨w.heap.size, 4, none⟩ = some (.slice A3 kl cap3) := K.cell 4
    by_cases hlt : j < kl
    · have hltI : (j : Int) < (kl : Int) := by omega
      by_cases hm0 : 0 ≤ m
      · have hst1 : m = n - 1 - (sumS f ks j : Int) ∧ ((ks.take j).all fun u => okS f u (d - 1)) = true := by
          rcases hst.out with h | h
          · exact h.2
          · omega
        have hjk : j < ks.length := by rw [← HKL.out]; exact hlt
        obtain ⟨b, o, e0, e1, e2, e3, e4, rfl, _, k0, k1, k2, k3, k4, hv⟩ := kid_zb hks HKL.out.symm B j hjk
        have hc := ih ks[j] (.agg #[e0, e1, e2, e3, e4]) m (d - 1) wr hm1 hm2 (by omega) (by omega) hv
        have hb := zleft_le ks[j] m (d - 1) hm1
        have HS : Hid (leftS f ks[j] m (d - 1) < 0 → r = -1) := fun h => HST.out m j hjk hst1.1 h
        have HG : Hid (0 ≤ leftS f ks[j] m (d - 1) → leftS f ks[j] m (d - 1) = n - 1 - (sumS f ks (j + 1) : Int) ∧ ((ks.take (j + 1)).all fun u => okS f u (d - 1)) = true) := fun h => HGO.out m j hjk hst1.1 hst1.2 h
        clear hv hst hst1
        generalize leftS f ks[j] m (d - 1) = m5 at *
        go_wp2_with fail
        refine hc.mono ?_
        rintro e w5 ⟨rfl, b5⟩
        have K5 := K.below b5 K.lt
        have B5 := B.trans (b5.mono B.size)
        have HW : Hid ((0 ≤ m5 ∧ m5 = n - 1 - (sumS f ks (j + 1) : Int) ∧ ((ks.take (j + 1)).all fun u => okS f u (d - 1)) = true) ∨ (m5 < 0 ∧ r = -1 ∧ m5 = -1)) := by
          by_cases h : 0 ≤ m5
          · exact .inl ⟨h, HG.out h⟩
          · exact .inr ⟨by omega, HS.out (by omega), by omega⟩
        clear hc HS HG hjk
        go_wp2_with fail
        go_roundw
        case rel => exact ⟨m5, j + 1, by omega, by omega, by omega, rfl, by go_num, HW, K5, B5⟩
        case measure => simp [intOf]; omega
      · have hr : r = -1 ∧ m = -1 := by
          rcases hst.out with h | h
          · omega
          · exact h.2
        obtain ⟨rfl, rfl⟩ := hr
        clear hst HF2 HST HGO
        go_wp2_with fail
        go_ret
        exact ⟨rfl, B⟩
    · obtain rfl : j = kl := by omega
      have hr : r = m := by
        rcases hst.out with h | h
        · have e := HKL.out
          rw [e] at h
          exact HF2.out m h.2.2 h.2.1 h.1
        · rw [h.2.1, h.2.2]
      subst hr
      clear hst HF2 HST HGO
      go_wp2_with fail
      go_ret
      exact ⟨rfl, B⟩
end
section
open Go.RowKit
set_option maxHeartbeats 8000000 in
theorem zleft_not_ (S : Nat → Prop) (f : Nat) (ih : LeftIh S f) (t : Ns (Sc f)) (v : Value) (n d : Int) (w : World) (hn2 : n ≤ 1000) (hd2 : d ≤ 1000) (h1 : 1 ≤ n) (h2 : 1 ≤ d) (hop : t.op = 8) (hv : ZV w S (f + 1) v t) :
    Calls Try.prog 46 #[v, .int .i64 n, .int .i64 d] w fun e w' => e = .returned (.int .i64 (leftS (f + 1) t n d)) ∧ Below w.heap.size w w' := by
  obtain ⟨c0, c1, c2, c3, c4, rfl, rfl, hk, rfl, hml, rfl, hfr, rfl, hto, hks⟩ := hv
  obtain ⟨A3, cap3, e3, hl3, hm3⟩ := hks.form
  subst e3
  obtain ⟨r, hr⟩ : ∃ r, r = leftS (f + 1) t n d := ⟨_, rfl⟩
  rw [← hr]
  have HU : Hid (¬ (t.name = [] ∧ t.from_ = 0 ∧ t.to_ = 0 ∧ t.kids.length = 1) → r = -1) := fun h => hr.trans (zleft_unfit t (by
    cases hb : fitsS t with
    | false => rfl
    | true => exact absurd ((zfit_not hop).1 hb) h))
  have HU9 : Hid (n - 1 < (t.kids.length : Int) → r = -1) := fun a => hr.trans (zleft_wide t a)
  have HF : Hid (t.name = [] ∧ t.from_ = 0 ∧ t.to_ = 0 ∧ t.kids.length = 1 → (∀ m : Int, (((t.kids.take t.kids.length).all fun u => okS f u (d - 1)) = true) → m = n - 1 - (sumS f t.kids t.kids.length : Int) → 0 ≤ m → r = m)) :=
    fun a m b c e => hr.trans (zleft_all t ((zfit_not hop).2 a) h2 b c e)
  have HST : Hid (∀ (m : Int) (j : Nat) (hj : j < t.kids.length), m = n - 1 - (sumS f t.kids j : Int) → leftS f t.kids[j] m (d - 1) < 0 → r = -1) := fun m j hj a b => hr.trans (zleft_stop t hj a b)
  have HGO : Hid (∀ (m : Int) (j : Nat) (hj : j < t.kids.length), m = n - 1 - (sumS f t.kids j : Int) → ((t.kids.take j).all fun u => okS f u (d - 1)) = true → 0 ≤ leftS f t.kids[j] m (d - 1) →
      leftS f t.kids[j] m (d - 1) = n - 1 - (sumS f t.kids (j + 1) : Int) ∧ ((t.kids.take (j + 1)).all fun u => okS f u (d - 1)) = true) := fun m j hj a b e => zleft_step t hj a b e
  clear hr
  have HNM : Hid (∀ W : World, Calls Try.prog 55 #[.int .i64 t.op] W fun e w' => e = .returned (.bool false) ∧ w' = W) := fun W => by
    have := znamed_any t.op W
    rwa [show namedS t.op = false from by unfold namedS; exact decide_eq_false (by omega)] at this
  have HMM : Hid (∀ W : World, Calls Try.prog 48 #[.int .i64 t.op] W fun e w' => e = .returned (.bool false) ∧ w' = W) := fun W => by
    have := zmany_any t.op W
    rwa [show manyS t.op = false from by unfold manyS; exact decide_eq_false (by omega)] at this
  have HNA := Lib.hid (fun W : World => rname_any t.name hml W)
  generalize t.op = k at *
  generalize t.from_ = fr at *
  generalize t.to_ = to_ at *
  generalize t.name = l at *
  generalize t.kids = ks at *
  clear t
  have hlen : ks.length ≤ 9223372036854775807 := by unfold maxLen at hm3; omega
  have hlz : ((⟨l.toArray⟩ : ByteArray).size : Int) = (l.length : Int) := rfl
  have W1 : wrap64 (n - 1) = n - 1 := IntWalk.wrap64_in _ (by omega)
  have W2 : wrap64 (d - 1) = d - 1 := IntWalk.wrap64_in _ (by omega)
  have I1 : IntKind.i64.wrap (n - 1) = n - 1 := by rw [IntKind.wrap_i64]; omega
  have I2 : IntKind.i64.wrap (d - 1) = d - 1 := by rw [IntKind.wrap_i64]; omega
  have HM2 := Lib.hid (zne_if ⟨l.toArray⟩ l rfl)
  have HM : Hid (l = [] → ((⟨l.toArray⟩ : ByteArray).toList != []) = false ∧ ((⟨l.toArray⟩ : ByteArray).toList != (⟨#[]⟩ : ByteArray).toList) = false ∧ (⟨l.toArray⟩ : ByteArray).toList = [] ∧ (⟨l.toArray⟩ : ByteArray).toList.isEmpty = true) := fun h => zne_not ⟨l.toArray⟩ (by rw [h])
  unfold strV at *
  obtain ⟨s, hs⟩ : ∃ s : ByteArray, s = ⟨l.toArray⟩ := ⟨_, rfl⟩
  rw [← hs] at HNA HM HM2 ⊢
  clear hs hlz hml
  obtain ⟨kl, hkl⟩ : ∃ kl, kl = ks.length := ⟨_, rfl⟩
  rw [← hkl] at hks hl3 hlen HU HU9 ⊢
  have HKL := Lib.hid hkl
  clear hkl
  subst hop
  have kb := KB.new w 25 #[.int .i64 8, .string s, .int .i64 fr, .int .i64 to_, .slice A3 kl cap3]
  have B0 := (Below.refl w.heap.size w).alloc (Nat.le_refl _) (.cells #[.int .i64 8, .string s, .int .i64 fr, .int .i64 to_, .slice A3 kl cap3] 25)
  have B1 := Below_drawn B0 1
  have kc := kb.below (Below_drawn (Below.refl _ _) 1) kb.lt
  have E1 : decide (n < 1) = false := decide_eq_false (by omega)
  have E2 : decide (d < 1) = false := decide_eq_false (by omega)
  by_cases h5 : l = []
  case neg =>
    obtain rfl := HU.out (fun h => h5 h.1)
    obtain ⟨E8, E8b⟩ := (HM2.out h5).2.2
    clear HU HM HM2
    go_enter Try.func46, Try.ntmps46
    go_wp2_with fail
    rename_i KK hKK
    have HKK := Lib.hid hKK
    clear hKK
    refine wp_region_held_drew (S := (fun W => W.cell? ⟨w.heap.size, 0, none⟩ = some (.int .i64 8) ∧ W.cell? ⟨w.heap.size, 1, none⟩ = some (.string s))) (by kernel_rfl) ⟨kb.cell 0, kb.cell 1⟩ (fun hHeld => ?_)
    refine hyY (some 26) 0 rfl hHeld ?_; go_frame
    refine hyY (some 27) 1 rfl hHeld ?_; go_frame
    refine hyY (some 29) 3 rfl hHeld ?_; go_frame
    refine hyY (some 30) 4 rfl hHeld ?_; go_frame
    refine hyY (some 31) 5 rfl hHeld ?_; go_frame
    refine hyO (some 28) 2 rfl (fun K hK => ?_)
    go_simp
    go_at_call 55
    refine (HNM.out _).mono ?_
    rintro e w5 ⟨rfl, rfl⟩
    go_wp2_with fail
    refine hK.out _ _ ?_ (fun hH2 => ?_)
    · exact ⟨kb.cell 0, kb.cell 1⟩
    clear hHeld hK K; have hHeld := hH2; clear hH2; try go_frame
    refine hyY (some 32) 6 rfl hHeld ?_; go_frame
    refine hyY (some 33) 7 rfl hHeld ?_; go_frame
    refine hyN (some 34) 8 rfl hHeld ?_; go_frame
    refine hyN (some 35) 9 rfl hHeld ?_; go_frame
    refine hyN (some 36) 10 rfl hHeld ?_; go_frame
    refine hyN (some 37) 11 rfl hHeld ?_; go_frame
    refine hyN (some 38) 12 rfl hHeld ?_; go_frame
    refine hyN (some 39) 13 rfl hHeld ?_; go_frame
    refine hyN (some 40) 14 rfl hHeld ?_; go_frame
    refine hyN (some 41) 15 rfl hHeld ?_; go_frame
    refine hyN (some 42) 16 rfl hHeld ?_; go_frame
    refine hyY (some 43) 17 rfl hHeld ?_; go_frame
    refine wpAnyH_done (by kernel_rfl) ?_ _
    have hKK := HKK.out
    go_wp2_with fail
    go_ret
    exact ⟨rfl, B1⟩
  obtain ⟨E8, E8b⟩ := (HM.out h5).2.2
  clear HM HM2
  go_enter Try.func46, Try.ntmps46
  go_wp2_with fail
  rename_i KK hKK
  have HKK := Lib.hid hKK
  clear hKK
  refine wp_region_held_drew (S := (fun W => W.cell? ⟨w.heap.size, 0, none⟩ = some (.int .i64 8) ∧ W.cell? ⟨w.heap.size, 1, none⟩ = some (.string s))) (by kernel_rfl) ⟨kb.cell 0, kb.cell 1⟩ (fun hHeld => ?_)
  refine hyY (some 26) 0 rfl hHeld ?_; go_frame
  refine hyY (some 27) 1 rfl hHeld ?_; go_frame
  refine hyY (some 29) 3 rfl hHeld ?_; go_frame
  refine hyY (some 30) 4 rfl hHeld ?_; go_frame
  refine hyY (some 31) 5 rfl hHeld ?_; go_frame
  refine hyO (some 28) 2 rfl (fun K hK => ?_)
  go_simp
  go_at_call 55
  refine (HNM.out _).mono ?_
  rintro e w5 ⟨rfl, rfl⟩
  go_wp2_with fail
  refine hK.out _ _ ?_ (fun hH2 => ?_)
  · exact ⟨kb.cell 0, kb.cell 1⟩
  clear hHeld hK K; have hHeld := hH2; clear hH2; try go_frame
  refine hyY (some 32) 6 rfl hHeld ?_; go_frame
  refine hyY (some 33) 7 rfl hHeld ?_; go_frame
  refine hyY (some 34) 8 rfl hHeld ?_; go_frame
  refine hyY (some 35) 9 rfl hHeld ?_; go_frame
  refine hyO (some 36) 10 rfl (fun K hK => ?_)
  go_simp
  go_at_call 55
  refine (HNM.out _).mono ?_
  rintro e w5 ⟨rfl, rfl⟩
  go_wp2_with fail
  refine hK.out _ _ ?_ (fun hH2 => ?_)
  · exact ⟨kb.cell 0, kb.cell 1⟩
  clear hHeld hK K; have hHeld := hH2; clear hH2; try go_frame
  refine hyY (some 37) 11 rfl hHeld ?_; go_frame
  refine hyN (some 38) 12 rfl hHeld ?_; go_frame
  refine hyN (some 39) 13 rfl hHeld ?_; go_frame
  refine hyN (some 40) 14 rfl hHeld ?_; go_frame
  refine hyN (some 41) 15 rfl hHeld ?_; go_frame
  refine hyY (some 42) 16 rfl hHeld ?_; go_frame
  refine hyY (some 43) 17 rfl hHeld ?_; go_frame
  refine wpAnyH_done (by kernel_rfl) ?_ _
  have hKK := HKK.out
  by_cases a1 : fr = 0
  case neg =>
    have E9 : (fr != 0) = true := bne_iff_ne.2 a1
    obtain rfl := HU.out (by intro h; exact a1 h.2.1)
    go_wp2_with (go_at_call 48; refine (HMM.out _).mono ?_; rintro e wq ⟨rfl, rfl⟩)
    go_ret
    exact ⟨rfl, B1⟩
  subst a1
  by_cases a2 : to_ = 0
  case neg =>
    have E10 : (to_ != 0) = true := bne_iff_ne.2 a2
    obtain rfl := HU.out (by intro h; exact a2 h.2.2.1)
    go_wp2_with (go_at_call 48; refine (HMM.out _).mono ?_; rintro e wq ⟨rfl, rfl⟩)
    go_ret
    exact ⟨rfl, B1⟩
  subst a2
  by_cases a4 : ¬ kl = 1
  · have E12 : ((kl : Int) != 1) = true := bne_iff_ne.2 (by omega)
    have E13 : (kl != 1) = true := bne_iff_ne.2 a4
    obtain rfl := HU.out (by intro h; exact a4 h.2.2.2)
    go_wp2_with (go_at_call 48; refine (HMM.out _).mono ?_; rintro e wq ⟨rfl, rfl⟩)
    go_ret
    exact ⟨rfl, B1⟩
  obtain rfl : kl = 1 := Classical.byContradiction a4
  by_cases a5 : n - 1 < (1 : Int)
  · have E14 := decide_eq_true a5
    obtain rfl := HU9.out a5
    go_wp2_with (go_at_call 48; refine (HMM.out _).mono ?_; rintro e wq ⟨rfl, rfl⟩)
    go_ret
    exact ⟨rfl, B1⟩
  have E14 : decide (n - 1 < (1 : Int)) = false := decide_eq_false a5
  have HF2 := Lib.hid (HF.out ⟨h5, rfl, rfl, by have := HKL.out; omega⟩)
  clear HU HU9 HF
  go_wp2_with (go_at_call 48; refine (HMM.out _).mono ?_; rintro e wq ⟨rfl, rfl⟩)
  clear E1 E2 E8 E8b E14
  go_loopw [1, 7] (fun mv iv wr => ∃ (m : Int) (j : Nat), -1 ≤ m ∧ m ≤ 1000 ∧ j ≤ 1 ∧ mv = .int .i64 m ∧ iv = .int .i64 j ∧
    Hid ((0 ≤ m ∧ m = n - 1 - (sumS f ks j : Int) ∧ ((ks.take j).all fun u => okS f u (d - 1)) = true) ∨ (m < 0 ∧ r = -1 ∧ m = -1)) ∧
    KB wr w.heap.size 25 #[.int .i64 8, .string s, .int .i64 0, .int .i64 0, .slice A3 1 cap3] ∧ Below w.heap.size w wr) (fun _ iv _ => 1 - (intOf iv).toNat)
  case atStart => exact ⟨n - 1, 0, by omega, by omega, by omega, rfl, rfl, .inl ⟨by omega, by unfold sumS; simp, rfl⟩, kc, B1⟩
  case round =>
    obtain ⟨m, j, hm1, hm2, hj, rfl, rfl, hst, K, B⟩ := hrel
    have q3 : wr.cell? ⟨w.heap.size, 4, none⟩ = some (.slice A3 1 cap3) := K.cell 4
    by_cases hlt : j < 1
    · have hltI : (j : Int) < (1 : Int) := by omega
      by_cases hm0 : 0 ≤ m
      · have hst1 : m = n - 1 - (sumS f ks j : Int) ∧ ((ks.take j).all fun u => okS f u (d - 1)) = true := by
          rcases hst.out with h | h
          · exact h.2
          · omega
        have hjk : j < ks.length := by rw [← HKL.out]; exact hlt
        obtain ⟨b, o, e0, e1, e2, e3, e4, rfl, _, k0, k1, k2, k3, k4, hv⟩ := kid_zb hks HKL.out.symm B j hjk
        have hc := ih ks[j] (.agg #[e0, e1, e2, e3, e4]) m (d - 1) wr hm1 hm2 (by omega) (by omega) hv
        have hb := zleft_le ks[j] m (d - 1) hm1
        have HS : Hid (leftS f ks[j] m (d - 1) < 0 → r = -1) := fun h => HST.out m j hjk hst1.1 h
        have HG : Hid (0 ≤ leftS f ks[j] m (d - 1) → leftS f ks[j] m (d - 1) = n - 1 - (sumS f ks (j + 1) : Int) ∧ ((ks.take (j + 1)).all fun u => okS f u (d - 1)) = true) := fun h => HGO.out m j hjk hst1.1 hst1.2 h
        clear hv hst hst1
        generalize leftS f ks[j] m (d - 1) = m5 at *
        go_wp2_with fail
        refine hc.mono ?_
        rintro e w5 ⟨rfl, b5⟩
        have K5 := K.below b5 K.lt
        have B5 := B.trans (b5.mono B.size)
        have HW : Hid ((0 ≤ m5 ∧ m5 = n - 1 - (sumS f ks (j + 1) : Int) ∧ ((ks.take (j + 1)).all fun u => okS f u (d - 1)) = true) ∨ (m5 < 0 ∧ r = -1 ∧ m5 = -1)) := by
          by_cases h : 0 ≤ m5
          · exact .inl ⟨h, HG.out h⟩
          · exact .inr ⟨by omega, HS.out (by omega), by omega⟩
        clear hc HS HG hjk
        go_wp2_with fail
        go_roundw
        case rel => exact ⟨m5, j + 1, by omega, by omega, by omega, rfl, by go_num, HW, K5, B5⟩
        case measure => simp [intOf]; omega
      · have hr : r = -1 ∧ m = -1 := by
          rcases hst.out with h | h
          · omega
          · exact h.2
        obtain ⟨rfl, rfl⟩ := hr
        clear hst HF2 HST HGO
        go_wp2_with fail
        go_ret
        exact ⟨rfl, B⟩
    · obtain rfl : j = 1 := by omega
      have hr : r = m := by
        rcases hst.out with h | h
        · have e := HKL.out
          rw [e] at h
          exact HF2.out m h.2.2 h.2.1 h.1
        · rw [h.2.1, h.2.2]
      subst hr
      clear hst HF2 HST HGO
      go_wp2_with fail
      go_ret
      exact ⟨rfl, B⟩
end
section
open Go.RowKit
theorem zleft_any (S : Nat → Prop) : ∀ f : Nat, LeftIh S f
  | 0 => fun t => nomatch t
  | f + 1 => fun (t : Ns (Sc f)) v n d w hn hn2 hd hd2 hv => by
    have ih := zleft_any S f
    by_cases h : n < 1 ∨ d < 1 ∨ t.op < 1 ∨ 8 < t.op
    · exact zleft_none S f t v n d w hn hn2 hd hd2 h hv
    by_cases h1 : t.op = 1
    · exact zleft_all_ S f ih t v n d w hn2 hd2 (by omega) (by omega) h1 hv
    by_cases h2 : t.op = 2 ∨ t.op = 3 ∨ t.op = 4
    · exact zleft_named S f ih t v n d w hn2 hd2 (by omega) (by omega) h2 hv
    by_cases h3 : t.op = 5
    · exact zleft_time S f ih t v n d w hn2 hd2 (by omega) (by omega) h3 hv
    by_cases h4 : t.op = 6 ∨ t.op = 7
    · exact zleft_many S f ih t v n d w hn2 hd2 (by omega) (by omega) h4 hv
    · exact zleft_not_ S f ih t v n d w hn2 hd2 (by omega) (by omega) (by omega) hv
theorem zrmay_any (S : Nat → Prop) (f : Nat) (t : Sc f) (v : Value) (w : World) (hv : ZV w S f v t) :
    Calls Try.prog 27 #[v] w fun e w' => e = .returned (.bool (mayS f t)) ∧ Below w.heap.size w w' := by
  obtain ⟨c0, c1, c2, c3, c4, rfl, ht⟩ := hv
  have hv2 : ZV (w.alloc (.cells #[c0, c1, c2, c3, c4] 25)) S f (.agg #[c0, c1, c2, c3, c4]) t := ZV.alloc ⟨c0, c1, c2, c3, c4, rfl, ht⟩ _
  have hr := zleft_any S f t _ 24 8 _ (by omega) (by omega) (by omega) (by omega) hv2
  have hm := zleft_may t
  clear hv2
  have B0 := (Below.refl w.heap.size w).alloc (Nat.le_refl _) (.cells #[c0, c1, c2, c3, c4] 25)
  obtain ⟨i0, l1, i2, i3, X4, n4, z4, rfl, rfl, rfl, rfl, rfl⟩ := ht.form
  unfold strV at *
  clear ht
  generalize leftS f t 24 8 = n at *
  generalize mayS f t = r at *
  subst hm
  go_enter Try.func27, Try.ntmps27
  go_wp2_with fail
  refine hr.mono ?_
  rintro e w5 ⟨rfl, b5⟩
  have B5 := B0.trans (b5.mono (by simp))
  clear hr
  go_wp2_with fail
  go_ret
  exact ⟨rfl, B5⟩
end
end Go.Proofs.Ytdkmjdcddldjgaa
