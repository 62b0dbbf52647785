/-
  ScGO: The document's left (layer 20), over the loaded program: of what is not. No condition but the sizes that each contract names.
  ScH: The document's left and May (layer 20), over the loaded program: each one's contract. No condition but the sizes that each contract names.
  TlvA: The reader of tlv, its small methods: each one's contract over the loaded program (Ok, Left, fail, pass, clone, Take, New). No condition but the worlds' shapes that each contract names.
  TlvB: The reader of tlv: Num, Int, Count, Text: each one's contract over the loaded program. No condition but the worlds' shapes that each contract names.
-/
import Derived.Test.YtcbkokhjdleoeaaSz03
import Derived.BigQuiet
import Derived.Test.YtcbkokhjdleoeaaSz04
import Derived.Test.YtcbkokhjdleoeaaProg
import Derived.Test.YtcbkokhjdleoeaaSz00
import Derived.Test.YtcbkokhjdleoeaaSz01
import Derived.WalkKit
import Derived.WalkSpells
import Derived.Deep.QuietTactic
set_option linter.unusedVariables false
set_option maxRecDepth 100000
namespace Go.Proofs.Ytcbkokhjdleoeaa
section
open Go.RowKit
set_option maxHeartbeats 8000000 in
theorem zleft_not_ (S : Nat → Prop) (f : Nat) (ih : LeftIh S f) (t : Ns (Sc f)) (v : Value) (n d : Int) (w : World) (hn2 : n ≤ 1000) (hd2 : d ≤ 1000) (h1 : 1 ≤ n) (h2 : 1 ≤ d) (hop : t.op = 8) (hv : ZV w S (f + 1) v t) :
    Calls Try.prog 41 #[v, .int .i64 n, .int .i64 d] w fun e w' => e = .returned (.int .i64 (leftS (f + 1) t n d)) ∧ Below w.heap.size w w' := by
  obtain ⟨c0, c1, c2, c3, c4, rfl, rfl, hk, rfl, hml, rfl, hfr, rfl, hto, hks⟩ := hv
  obtain ⟨A3, cap3, e3, hl3, hm3⟩ := hks.form
  subst e3
  obtain ⟨r, hr⟩ : ∃ r, r = leftS (f + 1) t n d := ⟨_, rfl⟩
  rw [← hr]
  have HU : Hid (¬ (t.name = [] ∧ t.from_ = 0 ∧ t.to_ = 0 ∧ t.kids.length = 1) → r = -1) := fun h => hr.trans (zleft_unfit t (by
    cases hb : fitsS t with
    | false => rfl
    | true => exact absurd ((zfit_not hop).1 hb) h))
  have HU9 : Hid (n - 1 < (t.kids.length : Int) → r = -1) := fun a => hr.trans (zleft_wide t a)
  have HF : Hid (t.name = [] ∧ t.from_ = 0 ∧ t.to_ = 0 ∧ t.kids.length = 1 → (∀ m : Int, (((t.kids.take t.kids.length).all fun u => okS f u (d - 1)) = true) → m = n - 1 - (sumS f t.kids t.kids.length : Int) → 0 ≤ m → r = m)) :=
    fun a m b c e => hr.trans (zleft_all t ((zfit_not hop).2 a) h2 b c e)
  have HST : Hid (∀ (m : Int) (j : Nat) (hj : j < t.kids.length), m = n - 1 - (sumS f t.kids j : Int) → leftS f t.kids[j] m (d - 1) < 0 → r = -1) := fun m j hj a b => hr.trans (zleft_stop t hj a b)
  have HGO : Hid (∀ (m : Int) (j : Nat) (hj : j < t.kids.length), m = n - 1 - (sumS f t.kids j : Int) → ((t.kids.take j).all fun u => okS f u (d - 1)) = true → 0 ≤ leftS f t.kids[j] m (d - 1) →
      leftS f t.kids[j] m (d - 1) = n - 1 - (sumS f t.kids (j + 1) : Int) ∧ ((t.kids.take (j + 1)).all fun u => okS f u (d - 1)) = true) := fun m j hj a b e => zleft_step t hj a b e
  clear hr
  have HNM : Hid (∀ W : World, Calls Try.prog 42 #[.int .i64 t.op] W fun e w' => e = .returned (.bool false) ∧ w' = W) := fun W => by
    have := znamed_any t.op W
    rwa [show namedS t.op = false from by unfold namedS; exact decide_eq_false (by omega)] at this
  have HMM : Hid (∀ W : World, Calls Try.prog 37 #[.int .i64 t.op] W fun e w' => e = .returned (.bool false) ∧ w' = W) := fun W => by
    have := zmany_any t.op W
    rwa [show manyS t.op = false from by unfold manyS; exact decide_eq_false (by omega)] at this
  have HNA := Lib.hid (fun W : World => rname_any t.name hml W)
  generalize t.op = k at *
  generalize t.from_ = fr at *
  generalize t.to_ = to_ at *
  generalize t.name = l at *
  generalize t.kids = ks at *
  clear t
  have hlen : ks.length ≤ 9223372036854775807 := by unfold maxLen at hm3; omega
  have hlz : ((⟨l.toArray⟩ : ByteArray).size : Int) = (l.length : Int) := rfl
  have W1 : wrap64 (n - 1) = n - 1 := IntWalk.wrap64_in _ (by omega)
  have W2 : wrap64 (d - 1) = d - 1 := IntWalk.wrap64_in _ (by omega)
  have I1 : IntKind.i64.wrap (n - 1) = n - 1 := by rw [IntKind.wrap_i64]; omega
  have I2 : IntKind.i64.wrap (d - 1) = d - 1 := by rw [IntKind.wrap_i64]; omega
  have HM2 := Lib.hid (zne_if ⟨l.toArray⟩ l rfl)
  have HM : Hid (l = [] → ((⟨l.toArray⟩ : ByteArray).toList != []) = false ∧ ((⟨l.toArray⟩ : ByteArray).toList != (⟨#[]⟩ : ByteArray).toList) = false ∧ (⟨l.toArray⟩ : ByteArray).toList = [] ∧ (⟨l.toArray⟩ : ByteArray).toList.isEmpty = true) := fun h => zne_not ⟨l.toArray⟩ (by rw [h])
  unfold strV at *
  obtain ⟨s, hs⟩ : ∃ s : ByteArray, s = ⟨l.toArray⟩ := ⟨_, rfl⟩
  rw [← hs] at HNA HM HM2 ⊢
  clear hs hlz hml
  obtain ⟨kl, hkl⟩ : ∃ kl, kl = ks.length := ⟨_, rfl⟩
  rw [← hkl] at hks hl3 hlen HU HU9 ⊢
  have HKL := Lib.hid hkl
  clear hkl
  subst hop
  have kb := KB.new w 24 #[.int .i64 8, .string s, .int .i64 fr, .int .i64 to_, .slice A3 kl cap3]
  have B0 := (Below.refl w.heap.size w).alloc (Nat.le_refl _) (.cells #[.int .i64 8, .string s, .int .i64 fr, .int .i64 to_, .slice A3 kl cap3] 24)
  have B1 := Below_drawn B0 1
  have kc := kb.below (Below_drawn (Below.refl _ _) 1) kb.lt
  have E1 : decide (n < 1) = false := decide_eq_false (by omega)
  have E2 : decide (d < 1) = false := decide_eq_false (by omega)
  by_cases h5 : l = []
  case neg =>
    obtain rfl := HU.out (fun h => h5 h.1)
    obtain ⟨E8, E8b⟩ := (HM2.out h5).2.2
    clear HU HM HM2
    go_enter Try.func41, Try.ntmps41
    go_wp2_with fail
    rename_i KK hKK
    have HKK := Lib.hid hKK
    clear hKK
    refine wp_region_held_drew (S := (fun W => W.cell? ⟨w.heap.size, 0, none⟩ = some (.int .i64 8) ∧ W.cell? ⟨w.heap.size, 1, none⟩ = some (.string s))) (by kernel_rfl) ⟨kb.cell 0, kb.cell 1⟩ (fun hHeld => ?_)
    refine hyY (some 26) 0 rfl hHeld ?_; go_frame
    refine hyY (some 27) 1 rfl hHeld ?_; go_frame
    refine hyY (some 29) 3 rfl hHeld ?_; go_frame
    refine hyY (some 30) 4 rfl hHeld ?_; go_frame
    refine hyY (some 31) 5 rfl hHeld ?_; go_frame
    refine hyO (some 28) 2 rfl (fun K hK => ?_)
    go_simp
    go_at_call 42
    refine (HNM.out _).mono ?_
    rintro e w5 ⟨rfl, rfl⟩
    go_wp2_with fail
    refine hK.out _ _ ?_ (fun hH2 => ?_)
    · exact ⟨kb.cell 0, kb.cell 1⟩
    clear hHeld hK K; have hHeld := hH2; clear hH2; try go_frame
    refine hyY (some 32) 6 rfl hHeld ?_; go_frame
    refine hyY (some 33) 7 rfl hHeld ?_; go_frame
    refine hyN (some 34) 8 rfl hHeld ?_; go_frame
    refine hyN (some 35) 9 rfl hHeld ?_; go_frame
    refine hyN (some 36) 10 rfl hHeld ?_; go_frame
    refine hyN (some 37) 11 rfl hHeld ?_; go_frame
    refine hyN (some 38) 12 rfl hHeld ?_; go_frame
    refine hyN (some 39) 13 rfl hHeld ?_; go_frame
    refine hyN (some 40) 14 rfl hHeld ?_; go_frame
    refine hyN (some 41) 15 rfl hHeld ?_; go_frame
    refine hyN (some 42) 16 rfl hHeld ?_; go_frame
    refine hyY (some 43) 17 rfl hHeld ?_; go_frame
    refine wpAnyH_done (by kernel_rfl) ?_ _
    have hKK := HKK.out
    go_wp2_with fail
    go_ret
    exact ⟨rfl, B1⟩
  obtain ⟨E8, E8b⟩ := (HM.out h5).2.2
  clear HM HM2
  go_enter Try.func41, Try.ntmps41
  go_wp2_with fail
  rename_i KK hKK
  have HKK := Lib.hid hKK
  clear hKK
  refine wp_region_held_drew (S := (fun W => W.cell? ⟨w.heap.size, 0, none⟩ = some (.int .i64 8) ∧ W.cell? ⟨w.heap.size, 1, none⟩ = some (.string s))) (by kernel_rfl) ⟨kb.cell 0, kb.cell 1⟩ (fun hHeld => ?_)
  refine hyY (some 26) 0 rfl hHeld ?_; go_frame
  refine hyY (some 27) 1 rfl hHeld ?_; go_frame
  refine hyY (some 29) 3 rfl hHeld ?_; go_frame
  refine hyY (some 30) 4 rfl hHeld ?_; go_frame
  refine hyY (some 31) 5 rfl hHeld ?_; go_frame
  refine hyO (some 28) 2 rfl (fun K hK => ?_)
  go_simp
  go_at_call 42
  refine (HNM.out _).mono ?_
  rintro e w5 ⟨rfl, rfl⟩
  go_wp2_with fail
  refine hK.out _ _ ?_ (fun hH2 => ?_)
  · exact ⟨kb.cell 0, kb.cell 1⟩
  clear hHeld hK K; have hHeld := hH2; clear hH2; try go_frame
  refine hyY (some 32) 6 rfl hHeld ?_; go_frame
  refine hyY (some 33) 7 rfl hHeld ?_; go_frame
  refine hyY (some 34) 8 rfl hHeld ?_; go_frame
  refine hyY (some 35) 9 rfl hHeld ?_; go_frame
  refine hyO (some 36) 10 rfl (fun K hK => ?_)
  go_simp
  go_at_call 42
  refine (HNM.out _).mono ?_
  rintro e w5 ⟨rfl, rfl⟩
  go_wp2_with fail
  refine hK.out _ _ ?_ (fun hH2 => ?_)
  · exact ⟨kb.cell 0, kb.cell 1⟩
  clear hHeld hK K; have hHeld := hH2; clear hH2; try go_frame
  refine hyY (some 37) 11 rfl hHeld ?_; go_frame
  refine hyN (some 38) 12 rfl hHeld ?_; go_frame
  refine hyN (some 39) 13 rfl hHeld ?_; go_frame
  refine hyN (some 40) 14 rfl hHeld ?_; go_frame
  refine hyN (some 41) 15 rfl hHeld ?_; go_frame
  refine hyY (some 42) 16 rfl hHeld ?_; go_frame
  refine hyY (some 43) 17 rfl hHeld ?_; go_frame
  refine wpAnyH_done (by kernel_rfl) ?_ _
  have hKK := HKK.out
  by_cases a1 : fr = 0
  case neg =>
    have E9 : (fr != 0) = true := bne_iff_ne.2 a1
    obtain rfl := HU.out (by intro h; exact a1 h.2.1)
    go_wp2_with (go_at_call 37; refine (HMM.out _).mono ?_; rintro e wq ⟨rfl, rfl⟩)
    go_ret
    exact ⟨rfl, B1⟩
  subst a1
  by_cases a2 : to_ = 0
  case neg =>
    have E10 : (to_ != 0) = true := bne_iff_ne.2 a2
    obtain rfl := HU.out (by intro h; exact a2 h.2.2.1)
    go_wp2_with (go_at_call 37; refine (HMM.out _).mono ?_; rintro e wq ⟨rfl, rfl⟩)
    go_ret
    exact ⟨rfl, B1⟩
  subst a2
  by_cases a4 : ¬ kl = 1
  · have E12 : ((kl : Int) != 1) = true := bne_iff_ne.2 (by omega)
    have E13 : (kl != 1) = true := bne_iff_ne.2 a4
    obtain rfl := HU.out (by intro h; exact a4 h.2.2.2)
    go_wp2_with (go_at_call 37; refine (HMM.out _).mono ?_; rintro e wq ⟨rfl, rfl⟩)
    go_ret
    exact ⟨rfl, B1⟩
  obtain rfl : kl = 1 := Classical.byContradiction a4
  by_cases a5 : n - 1 < (1 : Int)
  · have E14 := decide_eq_true a5
    obtain rfl := HU9.out a5
    go_wp2_with (go_at_call 37; refine (HMM.out _).mono ?_; rintro e wq ⟨rfl, rfl⟩)
    go_ret
    exact ⟨rfl, B1⟩
  have E14 : decide (n - 1 < (1 : Int)) = false := decide_eq_false a5
  have HF2 := Lib.hid (HF.out ⟨h5, rfl, rfl, by have := HKL.out; omega⟩)
  clear HU HU9 HF
  go_wp2_with (go_at_call 37; refine (HMM.out _).mono ?_; rintro e wq ⟨rfl, rfl⟩)
  clear E1 E2 E8 E8b E14
  go_loopw [1, 7] (fun mv iv wr => ∃ (m : Int) (j : Nat), -1 ≤ m ∧ m ≤ 1000 ∧ j ≤ 1 ∧ mv = .int .i64 m ∧ iv = .int .i64 j ∧
    Hid ((0 ≤ m ∧ m = n - 1 - (sumS f ks j : Int) ∧ ((ks.take j).all fun u => okS f u (d - 1)) = true) ∨ (m < 0 ∧ r = -1 ∧ m = -1)) ∧
    KB wr w.heap.size 24 #[.int .i64 8, .string s, .int .i64 0, .int .i64 0, .slice A3 1 cap3] ∧ Below w.heap.size w wr) (fun _ iv _ => 1 - (intOf iv).toNat)
  case atStart => exact ⟨n - 1, 0, by omega, by omega, by omega, rfl, rfl, .inl ⟨by omega, by unfold sumS; simp, rfl⟩, kc, B1⟩
  case round =>
    obtain ⟨m, j, hm1, hm2, hj, rfl, rfl, hst, K, B⟩ := hrel
    have q3 : wr.cell? ⟨w.heap.size, 4, none⟩ = some (.slice A3 1 cap3) := K.cell 4
    by_cases hlt : j < 1
    · have hltI : (j : Int) < (1 : Int) := by omega
      by_cases hm0 : 0 ≤ m
      · have hst1 : m = n - 1 - (sumS f ks j : Int) ∧ ((ks.take j).all fun u => okS f u (d - 1)) = true := by
          rcases hst.out with h | h
          · exact h.2
          · omega
        have hjk : j < ks.length := by rw [← HKL.out]; exact hlt
        obtain ⟨b, o, e0, e1, e2, e3, e4, rfl, _, k0, k1, k2, k3, k4, hv⟩ := kid_zb hks HKL.out.symm B j hjk
        have hc := ih ks[j] (.agg #[e0, e1, e2, e3, e4]) m (d - 1) wr hm1 hm2 (by omega) (by omega) hv
        have hb := zleft_le ks[j] m (d - 1) hm1
        have HS : Hid (leftS f ks[j] m (d - 1) < 0 → r = -1) := fun h => HST.out m j hjk hst1.1 h
        have HG : Hid (0 ≤ leftS f ks[j] m (d - 1) → leftS f ks[j] m (d - 1) = n - 1 - (sumS f ks (j + 1) : Int) ∧ ((ks.take (j + 1)).all fun u => okS f u (d - 1)) = true) := fun h => HGO.out m j hjk hst1.1 hst1.2 h
        clear hv hst hst1
        generalize leftS f ks[j] m (d - 1) = m5 at *
        go_wp2_with fail
        refine hc.mono ?_
        rintro e w5 ⟨rfl, b5⟩
        have K5 := K.below b5 K.lt
        have B5 := B.trans (b5.mono B.size)
        have HW : Hid ((0 ≤ m5 ∧ m5 = n - 1 - (sumS f ks (j + 1) : Int) ∧ ((ks.take (j + 1)).all fun u => okS f u (d - 1)) = true) ∨ (m5 < 0 ∧ r = -1 ∧ m5 = -1)) := by
          by_cases h : 0 ≤ m5
          · exact .inl ⟨h, HG.out h⟩
          · exact .inr ⟨by omega, HS.out (by omega), by omega⟩
        clear hc HS HG hjk
        go_wp2_with fail
        go_roundw
        case rel => exact ⟨m5, j + 1, by omega, by omega, by omega, rfl, by go_num, HW, K5, B5⟩
        case measure => simp [intOf]; omega
      · have hr : r = -1 ∧ m = -1 := by
          rcases hst.out with h | h
          · omega
          · exact h.2
        obtain ⟨rfl, rfl⟩ := hr
        clear hst HF2 HST HGO
        go_wp2_with fail
        go_ret
        exact ⟨rfl, B⟩
    · obtain rfl : j = 1 := by omega
      have hr : r = m := by
        rcases hst.out with h | h
        · have e := HKL.out
          rw [e] at h
          exact HF2.out m h.2.2 h.2.1 h.1
        · rw [h.2.1, h.2.2]
      subst hr
      clear hst HF2 HST HGO
      go_wp2_with fail
      go_ret
      exact ⟨rfl, B⟩
end
section
open Go.RowKit
theorem zleft_any (S : Nat → Prop) : ∀ f : Nat, LeftIh S f
  | 0 => fun t => nomatch t
  | f + 1 => fun (t : Ns (Sc f)) v n d w hn hn2 hd hd2 hv => by
    have ih := zleft_any S f
    by_cases h : n < 1 ∨ d < 1 ∨ t.op < 1 ∨ 8 < t.op
    · exact zleft_none S f t v n d w hn hn2 hd hd2 h hv
    by_cases h1 : t.op = 1
    · exact zleft_all_ S f ih t v n d w hn2 hd2 (by omega) (by omega) h1 hv
    by_cases h2 : t.op = 2 ∨ t.op = 3 ∨ t.op = 4
    · exact zleft_named S f ih t v n d w hn2 hd2 (by omega) (by omega) h2 hv
    by_cases h3 : t.op = 5
    · exact zleft_time S f ih t v n d w hn2 hd2 (by omega) (by omega) h3 hv
    by_cases h4 : t.op = 6 ∨ t.op = 7
    · exact zleft_many S f ih t v n d w hn2 hd2 (by omega) (by omega) h4 hv
    · exact zleft_not_ S f ih t v n d w hn2 hd2 (by omega) (by omega) (by omega) hv
theorem zrmay_any (S : Nat → Prop) (f : Nat) (t : Sc f) (v : Value) (w : World) (hv : ZV w S f v t) :
    Calls Try.prog 24 #[v] w fun e w' => e = .returned (.bool (mayS f t)) ∧ Below w.heap.size w w' := by
  obtain ⟨c0, c1, c2, c3, c4, rfl, ht⟩ := hv
  have hv2 : ZV (w.alloc (.cells #[c0, c1, c2, c3, c4] 24)) S f (.agg #[c0, c1, c2, c3, c4]) t := ZV.alloc ⟨c0, c1, c2, c3, c4, rfl, ht⟩ _
  have hr := zleft_any S f t _ 24 8 _ (by omega) (by omega) (by omega) (by omega) hv2
  have hm := zleft_may t
  clear hv2
  have B0 := (Below.refl w.heap.size w).alloc (Nat.le_refl _) (.cells #[c0, c1, c2, c3, c4] 24)
  obtain ⟨i0, l1, i2, i3, X4, n4, z4, rfl, rfl, rfl, rfl, rfl⟩ := ht.form
  unfold strV at *
  clear ht
  generalize leftS f t 24 8 = n at *
  generalize mayS f t = r at *
  subst hm
  go_enter Try.func24, Try.ntmps24
  go_wp2_with fail
  refine hr.mono ?_
  rintro e w5 ⟨rfl, b5⟩
  have B5 := B0.trans (b5.mono (by simp))
  clear hr
  go_wp2_with fail
  go_ret
  exact ⟨rfl, B5⟩
end
section
open Go.RowKit
def RD (w : World) (g : Nat) (S : Nat → Prop) (st : Option (List UInt8)) : Prop :=
  ∃ v, KB w g 69 #[v, .bool st.isSome] ∧ BS w S v (st.getD []) ∧ ¬ S g
theorem RD.keep {w w' : World} {g : Nat} {S : Nat → Prop} {st : Option (List UInt8)} (h : RD w g S st) (hs : w.heap.size ≤ w'.heap.size) (hg : w'.heap[g]? = w.heap[g]?) (hk : ∀ b, S b → b < w.heap.size → w'.heap[b]? = w.heap[b]?) : RD w' g S st := by
  obtain ⟨v, h1, h2, h3⟩ := h
  exact ⟨v, h1.keep hg, h2.keep hs hk, h3⟩
theorem RD.below {w w' : World} {g : Nat} {S : Nat → Prop} {st : Option (List UInt8)} (h : RD w g S st) (hb : Below w.heap.size w w') : RD w' g S st := by
  obtain ⟨v, h1, h2, h3⟩ := h
  exact ⟨v, h1.below hb h1.lt, h2.below' hb, h3⟩
theorem RD.lt {w : World} {g : Nat} {S : Nat → Prop} {st : Option (List UInt8)} (h : RD w g S st) : g < w.heap.size := by
  obtain ⟨v, h1, h2, h3⟩ := h
  exact h1.lt
theorem ok_any (g : Nat) (v : Value) (b : Bool) (w : World) (h : KB w g 69 #[v, .bool b]) :
    Calls Try.prog 29 #[.pointer (some ⟨g, 0, none⟩)] w fun e w' => e = .returned (.bool b) ∧ w = w' := by
  have c1 : w.cell? ⟨g, 1, none⟩ = some (.bool b) := h.cell 1
  go_enter Try.func29, Try.ntmps29
  go_wp2
  go_ret
  exact ⟨rfl, rfl⟩
theorem ok_nil (w : World) :
    Calls Try.prog 29 #[.pointer none] w fun e w' => e = .returned (.bool false) ∧ w = w' := by
  go_enter Try.func29, Try.ntmps29
  go_wp2
  go_ret
  exact ⟨rfl, rfl⟩
theorem left_yes (g : Nat) (A : Option Addr) (n c : Nat) (w : World) (h : KB w g 69 #[.slice A n c, .bool true]) :
    Calls Try.prog 30 #[.pointer (some ⟨g, 0, none⟩)] w fun e w' => e = .returned (.int .i64 n) ∧ w = w' := by
  have c0 : w.cell? ⟨g, 0, none⟩ = some (.slice A n c) := h.cell 0
  go_enter Try.func30, Try.ntmps30
  go_wp2_with (go_at_call 29; refine (ok_any _ _ _ _ h).mono ?_; rintro e w' ⟨rfl, rfl⟩)
  go_ret
  exact ⟨rfl, rfl⟩
theorem left_no (g : Nat) (v : Value) (w : World) (h : KB w g 69 #[v, .bool false]) :
    Calls Try.prog 30 #[.pointer (some ⟨g, 0, none⟩)] w fun e w' => e = .returned (.int .i64 0) ∧ w = w' := by
  go_enter Try.func30, Try.ntmps30
  go_wp2_with (go_at_call 29; refine (ok_any _ _ _ _ h).mono ?_; rintro e w' ⟨rfl, rfl⟩)
  go_ret
  exact ⟨rfl, rfl⟩
theorem left_nil (w : World) :
    Calls Try.prog 30 #[.pointer none] w fun e w' => e = .returned (.int .i64 0) ∧ w = w' := by
  go_enter Try.func30, Try.ntmps30
  go_wp2_with (go_at_call 29; refine (ok_nil _).mono ?_; rintro e w' ⟨rfl, rfl⟩)
  go_ret
  exact ⟨rfl, rfl⟩
theorem fail_nil (w : World) :
    Calls Try.prog 61 #[.pointer none] w fun e w' => e = .returned (.tuple #[]) ∧ w = w' := by
  go_enter Try.func61, Try.ntmps61
  go_wp2
  go_end0
  exact ⟨rfl, rfl⟩
theorem fail_some (g : Nat) (v : Value) (b : Bool) (w : World) (h : KB w g 69 #[v, .bool b]) :
    Calls Try.prog 61 #[.pointer (some ⟨g, 0, none⟩)] w fun e w' => e = .returned (.tuple #[]) ∧ w' = (w.setCell ⟨g, 0, none⟩ (.slice none 0 0)).setCell ⟨g, 1, none⟩ (.bool false) := by
  have c0 : w.cell? ⟨g, 0, none⟩ = some v := h.cell 0
  have c1 : w.cell? ⟨g, 1, none⟩ = some (.bool b) := h.cell 1
  have f0 := h.free 0
  have f1 := h.free 1
  go_enter Try.func61, Try.ntmps61
  go_wp2
  go_end0
  exact ⟨rfl, rfl⟩
theorem fail_rd (g : Nat) (S : Nat → Prop) (st : Option (List UInt8)) (w : World) (h : RD w g S st) :
    Calls Try.prog 61 #[.pointer (some ⟨g, 0, none⟩)] w fun e w' => e = .returned (.tuple #[]) ∧ RD w' g S none ∧ w.grownBy w' (some g) := by
  obtain ⟨v, h1, h2, h3⟩ := h
  refine (fail_some g v _ w h1).mono ?_
  rintro e w' ⟨rfl, rfl⟩
  exact ⟨rfl, ⟨_, (h1.put 0 _).put 1 _, BS.nil _ _, h3⟩, grown_trans (grown_set _ _ _ _) (grown_set _ _ _ _)⟩
theorem pass_nil (n : Int) (w : World) :
    Calls Try.prog 59 #[.pointer none, .int .i64 n] w fun e w' => e = .returned (.slice none 0 0) ∧ w = w' := by
  by_cases h0 : n < 0
  · go_enter Try.func59, Try.ntmps59
    go_wp2_with (first | (go_at_call 30; refine (left_nil _).mono ?_; rintro e w' ⟨rfl, rfl⟩) | (go_at_call 61; refine (fail_nil _).mono ?_; rintro e w' ⟨rfl, rfl⟩))
    go_ret
    exact ⟨rfl, rfl⟩
  · by_cases h1 : n = 0
    · subst h1
      go_enter Try.func59, Try.ntmps59
      go_wp2_with (first | (go_at_call 30; refine (left_nil _).mono ?_; rintro e w' ⟨rfl, rfl⟩) | (go_at_call 61; refine (fail_nil _).mono ?_; rintro e w' ⟨rfl, rfl⟩))
      go_ret
      exact ⟨rfl, rfl⟩
    · have h2 : 0 < n := by omega
      go_enter Try.func59, Try.ntmps59
      go_wp2_with (first | (go_at_call 30; refine (left_nil _).mono ?_; rintro e w' ⟨rfl, rfl⟩) | (go_at_call 61; refine (fail_nil _).mono ?_; rintro e w' ⟨rfl, rfl⟩))
      go_ret
      exact ⟨rfl, rfl⟩
theorem left_rd (g : Nat) (S : Nat → Prop) (st : Option (List UInt8)) (w : World) (h : RD w g S st) :
    Calls Try.prog 30 #[.pointer (some ⟨g, 0, none⟩)] w fun e w' => e = .returned (.int .i64 ((st.getD []).length : Int)) ∧ w = w' := by
  obtain ⟨v, h1, h2, h3⟩ := h
  cases st with
  | none => exact left_no g v w h1
  | some l =>
    obtain ⟨A, c, rfl, _⟩ := h2.form
    exact left_yes g A _ c w h1
theorem ok_rd (g : Nat) (S : Nat → Prop) (st : Option (List UInt8)) (w : World) (h : RD w g S st) :
    Calls Try.prog 29 #[.pointer (some ⟨g, 0, none⟩)] w fun e w' => e = .returned (.bool st.isSome) ∧ w = w' := by
  obtain ⟨v, h1, h2, h3⟩ := h
  exact ok_any g v _ w h1
theorem pass_rd (n : Int) (g : Nat) (S : Nat → Prop) (st : Option (List UInt8)) (w : World) (h : RD w g S st) :
    Calls Try.prog 59 #[.pointer (some ⟨g, 0, none⟩), .int .i64 n] w fun e w' => ∃ v, e = .returned v ∧ RD w' g S (passed n st).1 ∧ BS w' S v (passed n st).2 ∧ w.grownBy w' (some g) := by
  by_cases h0 : n < 0
  · have e0 : passed n st = (none, []) := by unfold passed; rw [if_pos (.inl h0)]
    rw [e0]
    clear e0
    go_enter Try.func59, Try.ntmps59
    go_wp2_with (first | (go_at_call 61; refine (fail_rd _ _ _ _ h).mono ?_; rintro e w' ⟨rfl, hr, hg⟩))
    go_ret
    exact ⟨_, rfl, hr, BS.nil _ _, hg⟩
  · by_cases h1 : ((st.getD []).length : Int) < n
    · have e0 : passed n st = (none, []) := by unfold passed; rw [if_pos (.inr h1)]
      rw [e0]
      clear e0
      go_enter Try.func59, Try.ntmps59
      go_wp2_with (first | (go_at_call 61; refine (fail_rd _ _ _ _ h).mono ?_; rintro e w' ⟨rfl, hr, hg⟩) | (go_at_call 30; refine (left_rd _ _ _ _ h).mono ?_; rintro e w' ⟨rfl, rfl⟩))
      go_ret
      exact ⟨_, rfl, hr, BS.nil _ _, hg⟩
    · have e0 : passed n st = (st.map (·.drop n.toNat), (st.getD []).take n.toNat) := by unfold passed; rw [if_neg (by omega)]
      rw [e0]
      clear e0
      by_cases h2 : n = 0
      · subst h2
        have e1 : st.map (fun l => l.drop (0 : Int).toNat) = st := by cases st <;> simp
        have e2 : (st.getD []).take (0 : Int).toNat = [] := by simp
        rw [e1, e2]
        clear e1 e2
        go_enter Try.func59, Try.ntmps59
        go_wp2_with (first | (go_at_call 30; refine (left_rd _ _ _ _ h).mono ?_; rintro e w' ⟨rfl, rfl⟩))
        go_ret
        exact ⟨_, rfl, h, BS.nil _ _, World.grownBy.refl _ _⟩
      · obtain ⟨v, k1, k2, k3⟩ := h
        have hR : RD w g S st := ⟨v, k1, k2, k3⟩
        obtain ⟨A, c, rfl, kl, kc, _⟩ := k2.form
        obtain ⟨b, o, rfl, sb, hb, hx⟩ := k2.at_ (by omega)
        cases st with
        | none => simp at h1; omega
        | some l =>
          obtain ⟨k, rfl⟩ := Int.eq_ofNat_of_zero_le (show 0 ≤ n by omega)
          simp only [Option.getD_some, Option.map_some, Int.toNat_natCast] at *
          have t1 := k2.take k (by omega)
          have t2 := k2.drop k (by omega)
          have c0 : w.cell? ⟨g, 0, none⟩ = some (.slice (some ⟨b, o, none⟩) l.length c) := k1.cell 0
          have f0 := k1.free 0
          have b1 : (k : Int) ≤ l.length := by omega
          have b2 : l.length ≤ 9223372036854775807 := by unfold maxLen at kc; omega
          have b3 : c ≤ 9223372036854775807 := kc
          have b4 : ¬ (k : Int) = 0 := h2
          clear hx hb k2
          go_enter Try.func59, Try.ntmps59
          go_wp2_with (first | (go_at_call 30; refine (left_rd _ _ _ _ hR).mono ?_; rintro e w' ⟨rfl, rfl⟩))
          all_goals go_ret
          · have hck : c = k := by assumption
            subst hck
            rw [if_pos rfl, Nat.sub_self] at t2
            exact ⟨_, rfl, ⟨_, k1.put 0 _, t2.setCell k3 _, k3⟩, t1.setCell k3 _, grown_set _ _ _ _⟩
          · have hck : ¬ c = k := by assumption
            rw [if_neg hck] at t2
            exact ⟨_, rfl, ⟨_, k1.put 0 _, t2.setCell k3 _, k3⟩, t1.setCell k3 _, grown_set _ _ _ _⟩
theorem clone_any (S : Nat → Prop) (v : Value) (l : List UInt8) (w : World) (h : BS w S v l) (hl : l.length ≤ 140737488355328) :
    Calls Try.prog 47 #[v] w fun e w' => Fresh w e w' l := by
  obtain ⟨i0, hi, hz0, hz1, hz2⟩ := info_parts info_byte
  go_enter Try.func47, Try.ntmps47
  go_wp2_with (at_builtin; refine wpList_grow _ rfl _ _ _ rfl w.heap.size 5 i0 Try.underlying27 hi hz0 hz1 hz2 (.slice none 0 0) [] rfl (World.ownsRow_nil _ _ _ _) S _ l rfl h (by simp; omega) (Nat.le_refl _) ?_; intro v1 w1 hown hg _)
  go_ret
  exact ⟨_, rfl, hown, (Below.refl _ _).grown hg (Nat.le_refl _) (by simp [Value.ownBlock])⟩
theorem new_any (S : Nat → Prop) (v : Value) (l : List UInt8) (w : World) (h : BS w S v l) (hl : l.length ≤ 140737488355328) :
    Calls Try.prog 27 #[v] w fun e w' => ∃ g, e = .returned (.pointer (some ⟨g, 0, none⟩)) ∧ w.heap.size ≤ g ∧ g < w'.heap.size ∧ RD w' g (fun b => w.heap.size ≤ b ∧ b < g) (some l) ∧ Below w.heap.size w w' := by
  go_enter Try.func27, Try.ntmps27
  go_wp2_with (go_at_call 47; refine (clone_any S v l _ h hl).mono ?_; rintro e w1 ⟨v1, rfl, hown, hb⟩; obtain ⟨A1, c1, rfl, _⟩ := (own_BS hown).form)
  go_ret
  have hs := hb.size
  exact ⟨_, rfl, by omega, by simp, ⟨_, KB.new _ _ _, (own_BS hown).alloc _, by omega⟩, hb.alloc hs _⟩
theorem take_rd (n : Int) (g : Nat) (S : Nat → Prop) (st : Option (List UInt8)) (w : World) (h : RD w g S st) (hl : (st.getD []).length ≤ 140737488355328) :
    Calls Try.prog 48 #[.pointer (some ⟨g, 0, none⟩), .int .i64 n] w fun e w' => ∃ v, e = .returned v ∧ RD w' g S (passed n st).1 ∧
      w'.ownsRow w.heap.size 5 1 v (passed n st).2.length ((passed n st).2.map bv) ∧ w.grownBy w' (some g) := by
  go_enter Try.func48, Try.ntmps48
  go_wp2_with (first | (go_at_call 59; refine (pass_rd n g S st w h).mono ?_; rintro e w1 ⟨v1, rfl, hr1, hb1, hg1⟩) | (go_at_call 47; refine (clone_any S v1 _ _ hb1 (by unfold passed; split <;> simp <;> omega)).mono ?_; rintro e w2 ⟨v2, rfl, hown, hb2⟩))
  go_ret
  have hs := hg1.size
  obtain ⟨v, k1, k2, k3⟩ := hr1
  exact ⟨_, rfl, ⟨v, k1.below hb2 k1.lt, k2.below' hb2, k3⟩, own_base hown hs, grown_trans hg1 (grown_of_below hb2 _)⟩
end
section
open Go.RowKit
theorem num_nil (w : World) :
    Calls Try.prog 60 #[.pointer none] w fun e w' => e = .returned (.int .u64 0) ∧ w = w' := by
  go_enter Try.func60, Try.ntmps60
  go_wp2_with (go_at_call 59; refine (pass_nil _ _).mono ?_; rintro e w' ⟨rfl, rfl⟩)
  go_ret
  exact ⟨rfl, rfl⟩
theorem shl_or (a : Nat) (b : UInt8) : (a * 256) ||| b.toNat = a * 256 + b.toNat := by
  have := b.toNat_lt
  rw [show a * 256 = a <<< 8 from by rw [Nat.shiftLeft_eq], ← Nat.shiftLeft_add_eq_or_of_lt (by omega)]
theorem or_step (a : Nat) (b : UInt8) (h : a < 72057594037927936) : bits .or .u64 (IntKind.u64.wrap ((a : Int) * 256)) (IntKind.u64.wrap (b.toNat : Int)) = ((a * 256 + b.toNat : Nat) : Int) := by
  have hb := b.toNat_lt
  rw [IntWalk.u64_in _ (by omega), IntWalk.u64_in _ (by omega), show (a : Int) * 256 = ((a * 256 : Nat) : Int) from by omega, u64_or_nat _ _ (by omega) (by omega), shl_or]
theorem pass_to (n : Int) (g : Nat) (S : Nat → Prop) (st : Option (List UInt8)) (w : World) (st' : Option (List UInt8)) (l : List UInt8) (h : RD w g S st) (hp : passed n st = (st', l)) :
    Calls Try.prog 59 #[.pointer (some ⟨g, 0, none⟩), .int .i64 n] w fun e w' => ∃ A c, e = .returned (.slice A l.length c) ∧ RD w' g S st' ∧ BS w' S (.slice A l.length c) l ∧ w.grownBy w' (some g) := by
  refine (pass_rd n g S st w h).mono ?_
  rintro e w' ⟨v, rfl, hr, hb, hg⟩
  rw [hp] at hr hb
  obtain ⟨A, c, rfl, _⟩ := hb.form
  exact ⟨A, c, rfl, hr, hb, hg⟩
theorem num_some (g : Nat) (S : Nat → Prop) (st : Option (List UInt8)) (w : World) (h : RD w g S st) :
    Calls Try.prog 60 #[.pointer (some ⟨g, 0, none⟩)] w fun e w' => e = .returned (.int .u64 (numOf st).2) ∧ RD w' g S (numOf st).1 ∧ w.grownBy w' (some g) := by
  by_cases hst : (st.getD []) = []
  · have e0 : numOf st = (none, 0) := by
      rcases st with _ | l
      · rfl
      · simp at hst; subst hst; rfl
    have e1 : passed 1 st = (none, []) := by simp [passed, hst]
    rw [e0]
    have E1 := Lib.hid e1
    clear e0 e1 hst
    go_enter Try.func60, Try.ntmps60
    go_wp2_with (go_at_call 59; refine (pass_to 1 g S st _ none [] h E1.out).mono ?_; rintro e w1 ⟨A1, c1, rfl, hr1, hb1, hg1⟩)
    go_ret
    exact ⟨rfl, hr1, hg1⟩
  · obtain ⟨x, t, rfl⟩ : ∃ x t, st = some (x :: t) := by
      rcases st with _ | l
      · simp at hst
      · rcases l with _ | ⟨x, t⟩
        · simp at hst
        · exact ⟨x, t, rfl⟩
    clear hst
    have e1 : passed 1 (some (x :: t)) = (some t, [x]) := by
      unfold passed
      rw [if_neg (by simp; omega)]
      rfl
    have E1 := Lib.hid e1
    clear e1
    have hx := x.toNat_lt
    by_cases h8 : 8 < x.toNat
    · have e0 : numOf (some (x :: t)) = (none, 0) := by simp [numOf, h8]
      rw [e0]
      clear e0
      go_enter Try.func60, Try.ntmps60
      go_wp2_with (first | (go_at_call 59; refine (pass_to 1 g S _ _ _ [x] h E1.out).mono ?_; rintro e w1 ⟨A1, c1, rfl, hr1, hb1, hg1⟩; obtain ⟨b1, o1, rfl, _, _, hc1⟩ := hb1.at_ (by simp); have k1 : w1.cell? ⟨b1, o1, none⟩ = some (.int .u8 (x.toNat : Int)) := hc1 0 x rfl; clear hc1) | (go_at_call 61; refine (fail_rd _ _ _ _ hr1).mono ?_; rintro e w2 ⟨rfl, hr2, hg2⟩))
      go_ret
      exact ⟨rfl, hr2, grown_trans hg1 hg2⟩
    · obtain ⟨st2, ds, e2, e0, hds⟩ : ∃ st2 ds, passed (x.toNat : Int) (some t) = (st2, ds) ∧ numOf (some (x :: t)) = (if ds.head? = some 0 then (none, 0) else (st2, val ds)) ∧ ds.length ≤ 8 := by
        by_cases ht : t.length < x.toNat
        · exact ⟨none, [], by simp [passed, ht], by simp [numOf, ht, val], by simp⟩
        · refine ⟨some (t.drop x.toNat), t.take x.toNat, by simp [passed, ht], ?_, by simp; omega⟩
          simp only [numOf, h8, ht, false_or]
      have E2 := Lib.hid e2
      clear e2
      rcases ds with _ | ⟨d, ds⟩
      · rw [e0]
        simp only [List.head?_nil, reduceCtorEq, if_false, val]
        clear e0 hds
        go_enter Try.func60, Try.ntmps60
        go_wp2_with fail
        refine (pass_to 1 g S _ _ _ [x] h E1.out).mono ?_
        rintro e w1 ⟨A1, c1, rfl, hr1, hb1, hg1⟩
        obtain ⟨b1, o1, rfl, _, _, hc1⟩ := hb1.at_ (by simp)
        have k1 : w1.cell? ⟨b1, o1, none⟩ = some (.int .u8 (x.toNat : Int)) := hc1 0 x rfl
        clear hc1
        go_wp2_with fail
        refine (pass_to _ g S _ _ _ [] hr1 E2.out).mono ?_
        rintro e w2 ⟨A2, c2, rfl, hr2, hb2, hg2⟩
        go_wp2
        go_loop [5, 38] (fun n i => n = .int .u64 0 ∧ i = .int .i64 0) (fun _ _ => 0)
        case atStart => exact ⟨rfl, rfl⟩
        case round =>
          obtain ⟨rfl, rfl⟩ := hrel
          go_wp2
          go_ret
          exact ⟨rfl, hr2, grown_trans hg1 hg2⟩
      · by_cases hd : d = 0
        · subst hd
          rw [e0]
          simp only [List.head?_cons, if_true]
          clear e0 hds
          go_enter Try.func60, Try.ntmps60
          go_wp2_with fail
          refine (pass_to 1 g S _ _ _ [x] h E1.out).mono ?_
          rintro e w1 ⟨A1, c1, rfl, hr1, hb1, hg1⟩
          obtain ⟨b1, o1, rfl, _, _, hc1⟩ := hb1.at_ (by simp)
          have k1 : w1.cell? ⟨b1, o1, none⟩ = some (.int .u8 (x.toNat : Int)) := hc1 0 x rfl
          clear hc1
          go_wp2_with fail
          refine (pass_to _ g S _ _ _ (0 :: ds) hr1 E2.out).mono ?_
          rintro e w2 ⟨A2, c2, rfl, hr2, hb2, hg2⟩
          obtain ⟨b2, o2, rfl, _, _, hc2⟩ := hb2.at_ (by simp)
          have k2 : w2.cell? ⟨b2, o2, none⟩ = some (.int .u8 0) := hc2 0 0 rfl
          clear hc2
          go_wp2_with (go_at_call 61; refine (fail_rd _ _ _ _ hr2).mono ?_; rintro e w3 ⟨rfl, hr3, hg3⟩)
          go_ret
          exact ⟨rfl, hr3, grown_trans hg1 (grown_trans hg2 hg3)⟩
        · rw [e0]
          have hd' : ¬ d.toNat = 0 := fun e => hd (UInt8.toNat_inj.1 (by simpa using e))
          have hd0 := d.toNat_lt
          simp only [List.head?_cons, Option.some.injEq, hd, if_false]
          obtain ⟨L, hL⟩ : ∃ L, L = d :: ds := ⟨_, rfl⟩
          rw [← hL] at hds ⊢
          have HL := Lib.hid hL
          have hlp : 0 < L.length := by rw [hL]; simp
          rw [← hL] at E2
          clear e0 hL hd
          go_enter Try.func60, Try.ntmps60
          go_wp2_with fail
          refine (pass_to 1 g S _ _ _ [x] h E1.out).mono ?_
          rintro e w1 ⟨A1, c1, rfl, hr1, hb1, hg1⟩
          obtain ⟨b1, o1, rfl, _, _, hc1⟩ := hb1.at_ (by simp)
          have k1 : w1.cell? ⟨b1, o1, none⟩ = some (.int .u8 (x.toNat : Int)) := hc1 0 x rfl
          clear hc1
          go_wp2_with fail
          refine (pass_to _ g S _ _ _ L hr1 E2.out).mono ?_
          rintro e w2 ⟨A2, c2, rfl, hr2, hb2, hg2⟩
          obtain ⟨b2, o2, rfl, _, _, hc2⟩ := hb2.at_ hlp
          have k2 : w2.cell? ⟨b2, o2, none⟩ = some (.int .u8 (d.toNat : Int)) := hc2 0 d (by rw [HL.out]; rfl)
          have HC := Lib.hid hc2
          clear hc2
          go_wp2
          go_loop [5, 38] (fun n i => ∃ k : Nat, k ≤ L.length ∧ i = .int .i64 k ∧ n = .int .u64 (val (L.take k) : Nat)) (fun _ i => L.length - (intOf i).toNat)
          case atStart => exact ⟨0, by omega, rfl, rfl⟩
          case round =>
            obtain ⟨k, hk, rfl, rfl⟩ := hrel
            by_cases hlt : k < L.length
            · have kc := HC.out k L[k] (List.getElem?_eq_getElem hlt)
              go_wp2
              go_round
              case rel =>
                refine ⟨k + 1, by omega, by go_num, ?_⟩
                rw [or_step _ _ (val_lt_seven _ (by simp; omega)), val_take_succ L k hlt]
              case measure => simp [intOf]; omega
            · go_wp2
              go_ret
              refine ⟨?_, hr2, grown_trans hg1 hg2⟩
              rw [List.take_of_length_le (by omega)]
              rfl
theorem count_some (most : Int) (h1 : most ≤ 9223372036854775807) (g : Nat) (S : Nat → Prop) (st : Option (List UInt8)) (w : World) (h : RD w g S st) :
    Calls Try.prog 50 #[.pointer (some ⟨g, 0, none⟩), .int .i64 most] w fun e w' => e = .returned (.int .i64 (cntOf most st).2) ∧ RD w' g S (cntOf most st).1 ∧ w.grownBy w' (some g) := by
  unfold cntOf
  obtain ⟨n, hn⟩ : ∃ n, n = (numOf st).2 := ⟨_, rfl⟩
  obtain ⟨st', hst'⟩ : ∃ s, s = (numOf st).1 := ⟨_, rfl⟩
  have hp : numOf st = (st', n) := by rw [hn, hst']
  have hc := num_some g S st w h
  rw [← hn, ← hst'] at hc
  rw [hp]
  simp only
  have HC := Lib.hid hc
  clear hc hn hst' hp
  by_cases h0 : most < 0
  · rw [if_pos (.inl h0)]
    go_enter Try.func50, Try.ntmps50
    go_wp2_with (first | (go_at_call 60; refine (HC.out).mono ?_; rintro e w1 ⟨rfl, hr, hg⟩) | (go_at_call 61; refine (fail_rd _ _ _ _ hr).mono ?_; rintro e w2 ⟨rfl, hr2, hg2⟩))
    go_ret
    exact ⟨rfl, hr2, grown_trans hg hg2⟩
  · by_cases hm : most < n
    · rw [if_pos (.inr hm)]
      have b0 : 0 ≤ most := by omega
      go_enter Try.func50, Try.ntmps50
      go_wp2_with (first | (go_at_call 60; refine (HC.out).mono ?_; rintro e w1 ⟨rfl, hr, hg⟩) | (go_at_call 61; refine (fail_rd _ _ _ _ hr).mono ?_; rintro e w2 ⟨rfl, hr2, hg2⟩))
      go_ret
      exact ⟨rfl, hr2, grown_trans hg hg2⟩
    · rw [if_neg (by omega)]
      have b0 : 0 ≤ most := by omega
      have b1 : (n : Int) ≤ most := by omega
      go_enter Try.func50, Try.ntmps50
      go_wp2_with (first | (go_at_call 60; refine (HC.out).mono ?_; rintro e w1 ⟨rfl, hr, hg⟩) | (go_at_call 61; refine (fail_rd _ _ _ _ hr).mono ?_; rintro e w2 ⟨rfl, hr2, hg2⟩))
      go_ret
      exact ⟨rfl, hr, hg⟩
theorem numOf_len (st : Option (List UInt8)) : ((numOf st).1.getD []).length ≤ (st.getD []).length := by
  unfold numOf
  split
  · split <;> simp
    omega
  · simp
theorem cntOf_len (most : Int) (st : Option (List UInt8)) : ((cntOf most st).1.getD []).length ≤ (st.getD []).length := by
  unfold cntOf
  split
  · simp
  · exact numOf_len st
theorem text_some (most : Int) (h1 : most ≤ 9223372036854775807) (g : Nat) (S : Nat → Prop) (st : Option (List UInt8)) (w : World) (h : RD w g S st) (hl : (st.getD []).length ≤ 140737488355328) :
    Calls Try.prog 49 #[.pointer (some ⟨g, 0, none⟩), .int .i64 most] w fun e w' => ∃ v, e = .returned v ∧ RD w' g S (txtOf most st).1 ∧
      w'.ownsRow w.heap.size 5 1 v (txtOf most st).2.length ((txtOf most st).2.map bv) ∧ w.grownBy w' (some g) := by
  have hc := count_some most h1 g S st w h
  have hcl := cntOf_len most st
  unfold txtOf
  generalize cntOf most st = r at hc hcl ⊢
  obtain ⟨st', n⟩ := r
  simp only at hc hcl ⊢
  have HC := Lib.hid hc
  have hl' : (st'.getD []).length ≤ 140737488355328 := by omega
  clear hc hcl hl
  go_enter Try.func49, Try.ntmps49
  go_wp2_with (first | (go_at_call 50; refine (HC.out).mono ?_; rintro e w1 ⟨rfl, hr, hg⟩) | (go_at_call 48; refine (take_rd _ _ _ _ _ hr hl').mono ?_; rintro e w2 ⟨v, rfl, hr2, hown, hg2⟩))
  go_ret
  exact ⟨_, rfl, hr2, own_base hown hg.size, grown_trans hg hg2⟩
end
end Go.Proofs.Ytcbkokhjdleoeaa
