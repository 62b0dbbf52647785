/-
  ScGO: The document's left (layer 20), over the loaded program: of what is not. No condition but the sizes that each contract names.
  ScH: The document's left and May (layer 20), over the loaded program: each one's contract. No condition but the sizes that each contract names.
  Res: What a function hands back whose results are a variable of several cells and a value, over any program. General. No condition.
  WtP: The document's Parse (layer 21), over the loaded program: its contract. No condition but the size that it names.
-/
import Derived.Test.YtjecjlhofnnnpaaGreatDoorWy19
import Derived.BigQuiet
import Derived.Test.YtjecjlhofnnnpaaGreatDoorWy20
import Derived.Test.YtjecjlhofnnnpaaGreatDoorWy01
import Derived.Laws.Rows
import Derived.Test.YtjecjlhofnnnpaaGreatDoorWy10
import Derived.Test.YtjecjlhofnnnpaaGreatDoorWy18
set_option linter.unusedVariables false
set_option maxRecDepth 100000
namespace Go.Proofs.YtjecjlhofnnnpaaGreatDoor
section
open Go.RowKit
set_option maxHeartbeats 8000000 in
theorem zleft_not_ (S : Nat → Prop) (f : Nat) (ih : LeftIh S f) (t : Ns (Sc f)) (v : Value) (n d : Int) (w : World) (hn2 : n ≤ 1000) (hd2 : d ≤ 1000) (h1 : 1 ≤ n) (h2 : 1 ≤ d) (hop : t.op = 8) (hv : ZV w S (f + 1) v t) :
    Calls Tryz.prog 26 #[v, .int .i64 n, .int .i64 d] w fun e w' => e = .returned (.int .i64 (leftS (f + 1) t n d)) ∧ Below w.heap.size w w' := by
  obtain ⟨c0, c1, c2, c3, c4, rfl, rfl, hk, rfl, hml, rfl, hfr, rfl, hto, hks⟩ := hv
  obtain ⟨A3, cap3, e3, hl3, hm3⟩ := hks.form
  subst e3
  obtain ⟨r, hr⟩ : ∃ r, r = leftS (f + 1) t n d := ⟨_, rfl⟩
  rw [← hr]
  have HU : Hid (¬ (t.name = [] ∧ t.from_ = 0 ∧ t.to_ = 0 ∧ t.kids.length = 1) → r = -1) := fun h => hr.trans (zleft_unfit t (by
    cases hb : fitsS t with
    | false => rfl
    | true => exact absurd ((zfit_not hop).1 hb) h))
  have HU9 : Hid (n - 1 < (t.kids.length : Int) → r = -1) := fun a => hr.trans (zleft_wide t a)
  have HF : Hid (t.name = [] ∧ t.from_ = 0 ∧ t.to_ = 0 ∧ t.kids.length = 1 → (∀ m : Int, (((t.kids.take t.kids.length).all fun u => okS f u (d - 1)) = true) → m = n - 1 - (sumS f t.kids t.kids.length : Int) → 0 ≤ m → r = m)) :=
    fun a m b c e => hr.trans (zleft_all t ((zfit_not hop).2 a) h2 b c e)
  have HST : Hid (∀ (m : Int) (j : Nat) (hj : j < t.kids.length), m = n - 1 - (sumS f t.kids j : Int) → leftS f t.kids[j] m (d - 1) < 0 → r = -1) := fun m j hj a b => hr.trans (zleft_stop t hj a b)
  have HGO : Hid (∀ (m : Int) (j : Nat) (hj : j < t.kids.length), m = n - 1 - (sumS f t.kids j : Int) → ((t.kids.take j).all fun u => okS f u (d - 1)) = true → 0 ≤ leftS f t.kids[j] m (d - 1) →
      leftS f t.kids[j] m (d - 1) = n - 1 - (sumS f t.kids (j + 1) : Int) ∧ ((t.kids.take (j + 1)).all fun u => okS f u (d - 1)) = true) := fun m j hj a b e => zleft_step t hj a b e
  clear hr
  have HNM : Hid (∀ W : World, Calls Tryz.prog 41 #[.int .i64 t.op] W fun e w' => e = .returned (.bool false) ∧ w' = W) := fun W => by
    have := znamed_any t.op W
    rwa [show namedS t.op = false from by unfold namedS; exact decide_eq_false (by omega)] at this
  have HMM : Hid (∀ W : World, Calls Tryz.prog 43 #[.int .i64 t.op] W fun e w' => e = .returned (.bool false) ∧ w' = W) := fun W => by
    have := zmany_any t.op W
    rwa [show manyS t.op = false from by unfold manyS; exact decide_eq_false (by omega)] at this
  have HNA := Lib.hid (fun W : World => rname_any t.name hml W)
  generalize t.op = k at *
  generalize t.from_ = fr at *
  generalize t.to_ = to_ at *
  generalize t.name = l at *
  generalize t.kids = ks at *
  clear t
  have hlen : ks.length ≤ 9223372036854775807 := by unfold maxLen at hm3; omega
  have hlz : ((⟨l.toArray⟩ : ByteArray).size : Int) = (l.length : Int) := rfl
  have W1 : wrap64 (n - 1) = n - 1 := IntWalk.wrap64_in _ (by omega)
  have W2 : wrap64 (d - 1) = d - 1 := IntWalk.wrap64_in _ (by omega)
  have I1 : IntKind.i64.wrap (n - 1) = n - 1 := by rw [IntKind.wrap_i64]; omega
  have I2 : IntKind.i64.wrap (d - 1) = d - 1 := by rw [IntKind.wrap_i64]; omega
  have HM2 := Lib.hid (zne_if ⟨l.toArray⟩ l rfl)
  have HM : Hid (l = [] → ((⟨l.toArray⟩ : ByteArray).toList != []) = false ∧ ((⟨l.toArray⟩ : ByteArray).toList != (⟨#[]⟩ : ByteArray).toList) = false ∧ (⟨l.toArray⟩ : ByteArray).toList = [] ∧ (⟨l.toArray⟩ : ByteArray).toList.isEmpty = true) := fun h => zne_not ⟨l.toArray⟩ (by rw [h])
  unfold strV at *
  obtain ⟨s, hs⟩ : ∃ s : ByteArray, s = ⟨l.toArray⟩ := ⟨_, rfl⟩
  rw [← hs] at HNA HM HM2 ⊢
  clear hs hlz hml
  obtain ⟨kl, hkl⟩ : ∃ kl, kl = ks.length := ⟨_, rfl⟩
  rw [← hkl] at hks hl3 hlen HU HU9 ⊢
  have HKL := Lib.hid hkl
  clear hkl
  subst hop
  have kb := KB.new w 24 #[.int .i64 8, .string s, .int .i64 fr, .int .i64 to_, .slice A3 kl cap3]
  have B0 := (Below.refl w.heap.size w).alloc (Nat.le_refl _) (.cells #[.int .i64 8, .string s, .int .i64 fr, .int .i64 to_, .slice A3 kl cap3] 24)
  have B1 := Below_drawn B0 1
  have kc := kb.below (Below_drawn (Below.refl _ _) 1) kb.lt
  have E1 : decide (n < 1) = false := decide_eq_false (by omega)
  have E2 : decide (d < 1) = false := decide_eq_false (by omega)
  by_cases h5 : l = []
  case neg =>
    obtain rfl := HU.out (fun h => h5 h.1)
    obtain ⟨E8, E8b⟩ := (HM2.out h5).2.2
    clear HU HM HM2
    go_enter Tryz.func26, Tryz.ntmps26
    go_wp2_with fail
    rename_i KK hKK
    have HKK := Lib.hid hKK
    clear hKK
    refine wp_region_held_drew (S := (fun W => W.cell? ⟨w.heap.size, 0, none⟩ = some (.int .i64 8) ∧ W.cell? ⟨w.heap.size, 1, none⟩ = some (.string s))) (by kernel_rfl) ⟨kb.cell 0, kb.cell 1⟩ (fun hHeld => ?_)
    refine hyY (some 26) 0 rfl hHeld ?_; go_frame
    refine hyY (some 27) 1 rfl hHeld ?_; go_frame
    refine hyY (some 29) 3 rfl hHeld ?_; go_frame
    refine hyY (some 30) 4 rfl hHeld ?_; go_frame
    refine hyY (some 31) 5 rfl hHeld ?_; go_frame
    refine hyO (some 28) 2 rfl (fun K hK => ?_)
    go_simp
    go_at_call 41
    refine (HNM.out _).mono ?_
    rintro e w5 ⟨rfl, rfl⟩
    go_wp2_with fail
    refine hK.out _ _ ?_ (fun hH2 => ?_)
    · exact ⟨kb.cell 0, kb.cell 1⟩
    clear hHeld hK K; have hHeld := hH2; clear hH2; try go_frame
    refine hyY (some 32) 6 rfl hHeld ?_; go_frame
    refine hyY (some 33) 7 rfl hHeld ?_; go_frame
    refine hyN (some 34) 8 rfl hHeld ?_; go_frame
    refine hyN (some 35) 9 rfl hHeld ?_; go_frame
    refine hyN (some 36) 10 rfl hHeld ?_; go_frame
    refine hyN (some 37) 11 rfl hHeld ?_; go_frame
    refine hyN (some 38) 12 rfl hHeld ?_; go_frame
    refine hyN (some 39) 13 rfl hHeld ?_; go_frame
    refine hyN (some 40) 14 rfl hHeld ?_; go_frame
    refine hyN (some 41) 15 rfl hHeld ?_; go_frame
    refine hyN (some 42) 16 rfl hHeld ?_; go_frame
    refine hyY (some 43) 17 rfl hHeld ?_; go_frame
    refine wpAnyH_done (by kernel_rfl) ?_ _
    have hKK := HKK.out
    go_wp2_with fail
    go_ret
    exact ⟨rfl, B1⟩
  obtain ⟨E8, E8b⟩ := (HM.out h5).2.2
  clear HM HM2
  go_enter Tryz.func26, Tryz.ntmps26
  go_wp2_with fail
  rename_i KK hKK
  have HKK := Lib.hid hKK
  clear hKK
  refine wp_region_held_drew (S := (fun W => W.cell? ⟨w.heap.size, 0, none⟩ = some (.int .i64 8) ∧ W.cell? ⟨w.heap.size, 1, none⟩ = some (.string s))) (by kernel_rfl) ⟨kb.cell 0, kb.cell 1⟩ (fun hHeld => ?_)
  refine hyY (some 26) 0 rfl hHeld ?_; go_frame
  refine hyY (some 27) 1 rfl hHeld ?_; go_frame
  refine hyY (some 29) 3 rfl hHeld ?_; go_frame
  refine hyY (some 30) 4 rfl hHeld ?_; go_frame
  refine hyY (some 31) 5 rfl hHeld ?_; go_frame
  refine hyO (some 28) 2 rfl (fun K hK => ?_)
  go_simp
  go_at_call 41
  refine (HNM.out _).mono ?_
  rintro e w5 ⟨rfl, rfl⟩
  go_wp2_with fail
  refine hK.out _ _ ?_ (fun hH2 => ?_)
  · exact ⟨kb.cell 0, kb.cell 1⟩
  clear hHeld hK K; have hHeld := hH2; clear hH2; try go_frame
  refine hyY (some 32) 6 rfl hHeld ?_; go_frame
  refine hyY (some 33) 7 rfl hHeld ?_; go_frame
  refine hyY (some 34) 8 rfl hHeld ?_; go_frame
  refine hyY (some 35) 9 rfl hHeld ?_; go_frame
  refine hyO (some 36) 10 rfl (fun K hK => ?_)
  go_simp
  go_at_call 41
  refine (HNM.out _).mono ?_
  rintro e w5 ⟨rfl, rfl⟩
  go_wp2_with fail
  refine hK.out _ _ ?_ (fun hH2 => ?_)
  · exact ⟨kb.cell 0, kb.cell 1⟩
  clear hHeld hK K; have hHeld := hH2; clear hH2; try go_frame
  refine hyY (some 37) 11 rfl hHeld ?_; go_frame
  refine hyN (some 38) 12 rfl hHeld ?_; go_frame
  refine hyN (some 39) 13 rfl hHeld ?_; go_frame
  refine hyN (some 40) 14 rfl hHeld ?_; go_frame
  refine hyN (some 41) 15 rfl hHeld ?_; go_frame
  refine hyY (some 42) 16 rfl hHeld ?_; go_frame
  refine hyY (some 43) 17 rfl hHeld ?_; go_frame
  refine wpAnyH_done (by kernel_rfl) ?_ _
  have hKK := HKK.out
  by_cases a1 : fr = 0
  case neg =>
    have E9 : (fr != 0) = true := bne_iff_ne.2 a1
    obtain rfl := HU.out (by intro h; exact a1 h.2.1)
    go_wp2_with (go_at_call 43; refine (HMM.out _).mono ?_; rintro e wq ⟨rfl, rfl⟩)
    go_ret
    exact ⟨rfl, B1⟩
  subst a1
  by_cases a2 : to_ = 0
  case neg =>
    have E10 : (to_ != 0) = true := bne_iff_ne.2 a2
    obtain rfl := HU.out (by intro h; exact a2 h.2.2.1)
    go_wp2_with (go_at_call 43; refine (HMM.out _).mono ?_; rintro e wq ⟨rfl, rfl⟩)
    go_ret
    exact ⟨rfl, B1⟩
  subst a2
  by_cases a4 : ¬ kl = 1
  · have E12 : ((kl : Int) != 1) = true := bne_iff_ne.2 (by omega)
    have E13 : (kl != 1) = true := bne_iff_ne.2 a4
    obtain rfl := HU.out (by intro h; exact a4 h.2.2.2)
    go_wp2_with (go_at_call 43; refine (HMM.out _).mono ?_; rintro e wq ⟨rfl, rfl⟩)
    go_ret
    exact ⟨rfl, B1⟩
  obtain rfl : kl = 1 := Classical.byContradiction a4
  by_cases a5 : n - 1 < (1 : Int)
  · have E14 := decide_eq_true a5
    obtain rfl := HU9.out a5
    go_wp2_with (go_at_call 43; refine (HMM.out _).mono ?_; rintro e wq ⟨rfl, rfl⟩)
    go_ret
    exact ⟨rfl, B1⟩
  have E14 : decide (n - 1 < (1 : Int)) = false := decide_eq_false a5
  have HF2 := Lib.hid (HF.out ⟨h5, rfl, rfl, by have := HKL.out; omega⟩)
  clear HU HU9 HF
  go_wp2_with (go_at_call 43; refine (HMM.out _).mono ?_; rintro e wq ⟨rfl, rfl⟩)
  clear E1 E2 E8 E8b E14
  go_loopw [1, 7] (fun mv iv wr => ∃ (m : Int) (j : Nat), -1 ≤ m ∧ m ≤ 1000 ∧ j ≤ 1 ∧ mv = .int .i64 m ∧ iv = .int .i64 j ∧
    Hid ((0 ≤ m ∧ m = n - 1 - (sumS f ks j : Int) ∧ ((ks.take j).all fun u => okS f u (d - 1)) = true) ∨ (m < 0 ∧ r = -1 ∧ m = -1)) ∧
    KB wr w.heap.size 24 #[.int .i64 8, .string s, .int .i64 0, .int .i64 0, .slice A3 1 cap3] ∧ Below w.heap.size w wr) (fun _ iv _ => 1 - (intOf iv).toNat)
  case atStart => exact ⟨n - 1, 0, by omega, by omega, by omega, rfl, rfl, .inl ⟨by omega, by unfold sumS; simp, rfl⟩, kc, B1⟩
  case round =>
    obtain ⟨m, j, hm1, hm2, hj, rfl, rfl, hst, K, B⟩ := hrel
    have q3 : wr.cell? ⟨w.heap.size, 4, none⟩ = some (.slice A3 1 cap3) := K.cell 4
    by_cases hlt : j < 1
    · have hltI : (j : Int) < (1 : Int) := by omega
      by_cases hm0 : 0 ≤ m
      · have hst1 : m = n - 1 - (sumS f ks j : Int) ∧ ((ks.take j).all fun u => okS f u (d - 1)) = true := by
          rcases hst.out with h | h
          · exact h.2
          · omega
        have hjk : j < ks.length := by rw [← HKL.out]; exact hlt
        obtain ⟨b, o, e0, e1, e2, e3, e4, rfl, _, k0, k1, k2, k3, k4, hv⟩ := kid_zb hks HKL.out.symm B j hjk
        have hc := ih ks[j] (.agg #[e0, e1, e2, e3, e4]) m (d - 1) wr hm1 hm2 (by omega) (by omega) hv
        have hb := zleft_le ks[j] m (d - 1) hm1
        have HS : Hid (leftS f ks[j] m (d - 1) < 0 → r = -1) := fun h => HST.out m j hjk hst1.1 h
        have HG : Hid (0 ≤ leftS f ks[j] m (d - 1) → leftS f ks[j] m (d - 1) = n - 1 - (sumS f ks (j + 1) : Int) ∧ ((ks.take (j + 1)).all fun u => okS f u (d - 1)) = true) := fun h => HGO.out m j hjk hst1.1 hst1.2 h
        clear hv hst hst1
        generalize leftS f ks[j] m (d - 1) = m5 at *
        go_wp2_with fail
        refine hc.mono ?_
        rintro e w5 ⟨rfl, b5⟩
        have K5 := K.below b5 K.lt
        have B5 := B.trans (b5.mono B.size)
        have HW : Hid ((0 ≤ m5 ∧ m5 = n - 1 - (sumS f ks (j + 1) : Int) ∧ ((ks.take (j + 1)).all fun u => okS f u (d - 1)) = true) ∨ (m5 < 0 ∧ r = -1 ∧ m5 = -1)) := by
          by_cases h : 0 ≤ m5
          · exact .inl ⟨h, HG.out h⟩
          · exact .inr ⟨by omega, HS.out (by omega), by omega⟩
        clear hc HS HG hjk
        go_wp2_with fail
        go_roundw
        case rel => exact ⟨m5, j + 1, by omega, by omega, by omega, rfl, by go_num, HW, K5, B5⟩
        case measure => simp [intOf]; omega
      · have hr : r = -1 ∧ m = -1 := by
          rcases hst.out with h | h
          · omega
          · exact h.2
        obtain ⟨rfl, rfl⟩ := hr
        clear hst HF2 HST HGO
        go_wp2_with fail
        go_ret
        exact ⟨rfl, B⟩
    · obtain rfl : j = 1 := by omega
      have hr : r = m := by
        rcases hst.out with h | h
        · have e := HKL.out
          rw [e] at h
          exact HF2.out m h.2.2 h.2.1 h.1
        · rw [h.2.1, h.2.2]
      subst hr
      clear hst HF2 HST HGO
      go_wp2_with fail
      go_ret
      exact ⟨rfl, B⟩
end
section
open Go.RowKit
theorem zleft_any (S : Nat → Prop) : ∀ f : Nat, LeftIh S f
  | 0 => fun t => nomatch t
  | f + 1 => fun (t : Ns (Sc f)) v n d w hn hn2 hd hd2 hv => by
    have ih := zleft_any S f
    by_cases h : n < 1 ∨ d < 1 ∨ t.op < 1 ∨ 8 < t.op
    · exact zleft_none S f t v n d w hn hn2 hd hd2 h hv
    by_cases h1 : t.op = 1
    · exact zleft_all_ S f ih t v n d w hn2 hd2 (by omega) (by omega) h1 hv
    by_cases h2 : t.op = 2 ∨ t.op = 3 ∨ t.op = 4
    · exact zleft_named S f ih t v n d w hn2 hd2 (by omega) (by omega) h2 hv
    by_cases h3 : t.op = 5
    · exact zleft_time S f ih t v n d w hn2 hd2 (by omega) (by omega) h3 hv
    by_cases h4 : t.op = 6 ∨ t.op = 7
    · exact zleft_many S f ih t v n d w hn2 hd2 (by omega) (by omega) h4 hv
    · exact zleft_not_ S f ih t v n d w hn2 hd2 (by omega) (by omega) (by omega) hv
theorem zrmay_any (S : Nat → Prop) (f : Nat) (t : Sc f) (v : Value) (w : World) (hv : ZV w S f v t) :
    Calls Tryz.prog 16 #[v] w fun e w' => e = .returned (.bool (mayS f t)) ∧ Below w.heap.size w w' := by
  obtain ⟨c0, c1, c2, c3, c4, rfl, ht⟩ := hv
  have hv2 : ZV (w.alloc (.cells #[c0, c1, c2, c3, c4] 24)) S f (.agg #[c0, c1, c2, c3, c4]) t := ZV.alloc ⟨c0, c1, c2, c3, c4, rfl, ht⟩ _
  have hr := zleft_any S f t _ 24 8 _ (by omega) (by omega) (by omega) (by omega) hv2
  have hm := zleft_may t
  clear hv2
  have B0 := (Below.refl w.heap.size w).alloc (Nat.le_refl _) (.cells #[c0, c1, c2, c3, c4] 24)
  obtain ⟨i0, l1, i2, i3, X4, n4, z4, rfl, rfl, rfl, rfl, rfl⟩ := ht.form
  unfold strV at *
  clear ht
  generalize leftS f t 24 8 = n at *
  generalize mayS f t = r at *
  subst hm
  go_enter Tryz.func16, Tryz.ntmps16
  go_wp2_with fail
  refine hr.mono ?_
  rintro e w5 ⟨rfl, b5⟩
  have B5 := B0.trans (b5.mono (by simp))
  clear hr
  go_wp2_with fail
  go_ret
  exact ⟨rfl, B5⟩
end
section
open Go.RowKit
theorem results_cell_tmp {P : Program} {fn : Func} {p u : Tmp} {ty : TypeId} (h : fn.results = #[.cell p ty, .tmp u]) (tmps : Array Value) (w : World) (g : Nat) (t : TypeId) (cs : Array Value) (fr : Nat × Nat) (d : TypeDesc)
    (hp : tmps.getD p undef = .pointer (some ⟨g, 0, none⟩)) (hg : w.heap[g]? = some (.cells cs t fr))
    (hu : P.underlying ty = some d) (hd : (match d with | .struct _ | .array _ _ => true | _ => false) = true) (hi : (P.info? ty).map (·.size) = some cs.size) :
    (results fn tmps).run P w = .ok (.tuple #[.agg cs, tmps.getD u undef]) w := by
  have hp' : tmps[p]?.getD undef = .pointer (some ⟨g, 0, none⟩) := by simpa using hp
  simp [results, h, hp', asAddr, run_loadVar_row w g t ty cs fr d hg hu hd hi]
theorem KB.put3 {w : World} {g : Nat} {t : TypeId} {a b c : Value} (h : KB w g t #[a, b, c]) (x y z : Value) : KB (((w.setCell ⟨g, 0, none⟩ x).setCell ⟨g, 1, none⟩ y).setCell ⟨g, 2, none⟩ z) g t #[x, y, z] :=
  ((h.put 0 x).put 1 y).put 2 z
theorem res_three (w : World) (g : Nat) (x y z : Value) : w.grownBy (((w.setCell ⟨g, 0, none⟩ x).setCell ⟨g, 1, none⟩ y).setCell ⟨g, 2, none⟩ z) (some g) :=
  grown_trans (grown_trans (grown_set _ _ _ _) (grown_set _ _ _ _)) (grown_set _ _ _ _)
end
section
open Go.RowKit
theorem wordsW_few : ∀ (l : List UInt8), (wordsW l).length ≤ l.length + 1 ∧ ∀ u ∈ wordsW l, u.length ≤ l.length
  | [] => ⟨by simp [wordsW], fun u h => by simp [wordsW] at h; simp [h]⟩
  | b :: l => by
    obtain ⟨h1, h2⟩ := wordsW_few l
    rw [wordsW]
    cases hq : wordsW l with
    | nil => exact ⟨by simp, fun u h => by simp at h; simp [h]⟩
    | cons v vs =>
      rw [hq] at h1 h2
      dsimp only
      split
      · refine ⟨by simp at h1 ⊢; omega, fun u h => ?_⟩
        rw [List.mem_cons] at h
        rcases h with h | h
        · rw [h]; simp
        · have := h2 u h; simp; omega
      · refine ⟨by simp at h1 ⊢; omega, fun u h => ?_⟩
        rw [List.mem_cons] at h
        rcases h with h | h
        · rw [h]; have := h2 v (List.mem_cons_self ..); simp; omega
        · have := h2 u (List.mem_cons_of_mem _ h); simp; omega
def ParseZ (w : World) (r : Ns (Sc 84) × Int) (e : Ending) (w' : World) : Prop := ∃ u, e = .returned (.tuple #[u, .int .i64 r.2]) ∧ ZV w' (fun x => w.heap.size ≤ x ∧ x < w'.heap.size) (84 + 1) u r.1 ∧ Below w.heap.size w w'
def TopIh : Prop := ∀ (S : Nat → Prop) (g : Nat) (ws : List Wv) (w : World), SW w g S (some ws) → (∀ b, S b → b < w.heap.size) → ws.length ≤ 1000000 →
    Calls Tryz.prog 21 #[.pointer (some ⟨g, 0, none⟩), .int .i64 7, .int .i64 41] w (FactV w g S (84 + 1) (orV (f := 83) (factW 41) ws))
theorem top_any : TopIh := fun S g ws w h hS hL =>
  wor_any 84 41 (andV (f := 83) (factW 41)) (andW_shrinks (factW_shrinks 41)) S (fun g st w h hS hL => wand_any 83 41 (factW 41) (factW_shrinks 41) S (wfactor_any S 41 (by omega)) g st w h hS hL) g (some ws) w h hS hL
set_option maxHeartbeats 4000000 in
theorem wparse_long (l : List UInt8) (hl : 1000 < l.length) (hm : l.length ≤ maxLen) (w : World) : Calls Tryz.prog 11 #[strV l] w (ParseZ w (zeroNs, 3)) := by
  have hs : ((⟨l.toArray⟩ : ByteArray).size : Int) = (l.length : Int) := rfl
  have K := KB.new w 24 #[.int .i64 0, .string ⟨#[]⟩, .int .i64 0, .int .i64 0, .slice none 0 0]
  have B := (Below.refl w.heap.size w).alloc (Nat.le_refl _) (.cells #[.int .i64 0, .string ⟨#[]⟩, .int .i64 0, .int .i64 0, .slice none 0 0] 24)
  have hml : l.length ≤ 9223372036854775807 := by unfold maxLen at hm; omega
  unfold strV
  generalize (⟨l.toArray⟩ : ByteArray) = s at *
  go_enter Tryz.func11, Tryz.ntmps11
  go_wp2_with fail
  exact bodyPost_ret (results_cell_tmp (P := Tryz.prog) (p := 2) (u := 3) rfl _ _ w.heap.size _ _ (0, 0) _ rfl K Tryz.underlying24 rfl (by kernel_rfl)) rfl ⟨_, rfl, zero_ZV _ _ _, B⟩
set_option maxHeartbeats 8000000 in
theorem wparse_short (l : List UInt8) (hl : l.length ≤ 1000) (w : World) (r : Ns (Sc 84) × Int) (o : Option (Sc (84 + 1) × List Wv)) (ho : o = orV (f := 83) (factW 41) (wordsW l))
    (r0 : o = none → r = (zeroNs, 2)) (r1 : ∀ x y ys, o = some (x, y :: ys) → r = (zeroNs, 2)) (r2 : ∀ x, o = some (x, []) → mayS (84 + 1) x = false → r = (zeroNs, 1)) (r3 : ∀ x : Sc (84 + 1), o = some (x, []) → mayS (84 + 1) x = true → r = ((x : Ns (Sc 84)), 0)) :
    Calls Tryz.prog 11 #[strV l] w (ParseZ w r) := by
  have hs : ((⟨l.toArray⟩ : ByteArray).size : Int) = (l.length : Int) := rfl
  have K := KB.new w 24 #[.int .i64 0, .string ⟨#[]⟩, .int .i64 0, .int .i64 0, .slice none 0 0]
  have B := (Below.refl w.heap.size w).alloc (Nat.le_refl _) (.cells #[.int .i64 0, .string ⟨#[]⟩, .int .i64 0, .int .i64 0, .slice none 0 0] 24)
  have hwd := wwords_any l hl (w.alloc (.cells #[.int .i64 0, .string ⟨#[]⟩, .int .i64 0, .int .i64 0, .slice none 0 0] 24))
  have hfew := wordsW_few l
  have htop := fun S g W => top_any S g (wordsW l) W
  rw [← ho] at htop
  clear ho
  generalize wordsW l = ws at *
  replace htop := Lib.hid htop
  replace r0 := Lib.hid r0
  replace r1 := Lib.hid r1
  replace r2 := Lib.hid r2
  replace r3 := Lib.hid r3
  replace hfew := Lib.hid hfew
  unfold strV at hwd ⊢
  generalize (⟨l.toArray⟩ : ByteArray) = s at *
  go_enter Tryz.func11, Tryz.ntmps11
  go_wp2_with fail
  refine hwd.mono ?_
  rintro e w1 ⟨v1, rfl, how, b1⟩
  have K1 := K.below b1 K.lt
  have B1 := B.trans (b1.mono B.size)
  have hcs := (CS.of_own how).lt
  obtain ⟨A1, c1, rfl, _⟩ := hcs.form
  have hn1 : (ws.map strV).length = ws.length := by simp
  have s1 : w.heap.size + 1 ≤ w1.heap.size := by have := b1.size; simpa using this
  have R1 : SW (w1.alloc (.cells #[.slice A1 (ws.map strV).length c1, .bool false] 50)) w1.heap.size (fun x => w.heap.size < x ∧ x < w1.heap.size) (some ws) :=
    ⟨_, _, _, ws, KB.new w1 _ _, (hcs.keep (by simp) fun b _ hb => Below.heap_alloc w1 _ b hb).mono fun b hb => ⟨by have := hb.1; simp at this; omega, hb.2⟩, by omega, fun u hu => by have := hfew.out.2 u hu; omega, fun l e => by injection e⟩
  have K2 := K1.alloc (.cells #[.slice A1 (ws.map strV).length c1, .bool false] 50)
  have B2 := B1.alloc B1.size (.cells #[.slice A1 (ws.map strV).length c1, .bool false] 50)
  have hc := htop.out _ w1.heap.size _ R1 (fun b hb => by simp; omega) (by have := hfew.out.1; omega)
  rw [hn1] at hc K2 B2
  clear R1 hcs how b1 B1 K1 hwd htop hfew K B hn1
  go_wp2_with fail
  refine hc.mono ?_
  rintro e w3 ⟨v3, x3, rfl, R3, tv3, hx3, G3⟩
  replace hx3 := Lib.hid hx3
  obtain ⟨e0, e1, e2, e3, e4, rfl, tm⟩ := tv3
  obtain ⟨j0, l1, j2, j3, X4, n4, z4, rfl, rfl, rfl, rfl, rfl⟩ := tm.form
  unfold strV at *
  have K3 := (K2.grown G3 (by simp; omega)).alloc (.cells #[.int .i64 j0, .string ⟨l1.toArray⟩, .int .i64 j2, .int .i64 j3, .slice X4 n4 z4] 24)
  have B3 := B2.grown G3 B2.size (fun k hk => by injection hk with hk; omega)
  have B4 := B3.alloc B3.size (.cells #[.int .i64 j0, .string ⟨l1.toArray⟩, .int .i64 j2, .int .i64 j3, .slice X4 n4 z4] 24)
  have R4 := R3.alloc (.cells #[.int .i64 j0, .string ⟨l1.toArray⟩, .int .i64 j2, .int .i64 j3, .slice X4 n4 z4] 24)
  have g3 := G3.size
  rw [World.size_alloc] at g3
  clear hc K2 B2 B3 R3 G3
  cases o with
  | none =>
    have hr := r0.out rfl
    subst hr
    clear r0 r1 r2 r3 hx3
    obtain ⟨⟨Ar, nr, cr, q1⟩, q2, _⟩ := R4.cells
    have q2 : (w3.alloc (.cells #[.int .i64 j0, .string ⟨l1.toArray⟩, .int .i64 j2, .int .i64 j3, .slice X4 n4 z4] 24)).cell? ⟨w1.heap.size, 1, none⟩ = some (.bool true) := q2
    clear R4 tm
    have c0 : (w3.alloc (.cells #[.int .i64 j0, .string ⟨l1.toArray⟩, .int .i64 j2, .int .i64 j3, .slice X4 n4 z4] 24)).cell? ⟨w.heap.size, 0, none⟩ = some (.int .i64 0) := K3.cell 0
    have c1 : (w3.alloc (.cells #[.int .i64 j0, .string ⟨l1.toArray⟩, .int .i64 j2, .int .i64 j3, .slice X4 n4 z4] 24)).cell? ⟨w.heap.size, 1, none⟩ = some (.string ⟨#[]⟩) := K3.cell 1
    have c2 : (w3.alloc (.cells #[.int .i64 j0, .string ⟨l1.toArray⟩, .int .i64 j2, .int .i64 j3, .slice X4 n4 z4] 24)).cell? ⟨w.heap.size, 2, none⟩ = some (.int .i64 0) := K3.cell 2
    have c3 : (w3.alloc (.cells #[.int .i64 j0, .string ⟨l1.toArray⟩, .int .i64 j2, .int .i64 j3, .slice X4 n4 z4] 24)).cell? ⟨w.heap.size, 3, none⟩ = some (.int .i64 0) := K3.cell 3
    have c4 : (w3.alloc (.cells #[.int .i64 j0, .string ⟨l1.toArray⟩, .int .i64 j2, .int .i64 j3, .slice X4 n4 z4] 24)).cell? ⟨w.heap.size, 4, none⟩ = some (.slice none 0 0) := K3.cell 4
    have f0 := K3.free 0
    have f1 := K3.free 1
    have f2 := K3.free 2
    have f3 := K3.free 3
    have f4 := K3.free 4
    go_wp2_with fail
    exact bodyPost_ret (results_cell_tmp (P := Tryz.prog) (p := 2) (u := 3) rfl _ _ w.heap.size _ _ (0, 0) _ rfl (zput_five K3) Tryz.underlying24 rfl (by kernel_rfl)) rfl ⟨_, rfl, zero_ZV _ _ _, B4.trans (below_of_grown' (zgrown_five _ _ _ _ _ _ _) (Nat.le_refl _) B4.size)⟩
  | some p =>
    obtain ⟨x, rest⟩ := p
    obtain rfl : x3 = x := hx3.out _ rfl
    obtain ⟨Ar, nr, cr, wsr, k1, k2, _, _, k5⟩ := R4
    obtain rfl := k5 rest rfl
    obtain ⟨_, _, ea, hl2, hm2⟩ := k2.form
    injection ea with ea1 ea2 ea3
    subst ea1 ea2 ea3
    have q1 : (w3.alloc (.cells #[.int .i64 j0, .string ⟨l1.toArray⟩, .int .i64 j2, .int .i64 j3, .slice X4 n4 z4] 24)).cell? ⟨w1.heap.size, 0, none⟩ = some (.slice Ar (wsr.map strV).length cr) := k1.cell 0
    have q2 : (w3.alloc (.cells #[.int .i64 j0, .string ⟨l1.toArray⟩, .int .i64 j2, .int .i64 j3, .slice X4 n4 z4] 24)).cell? ⟨w1.heap.size, 1, none⟩ = some (.bool false) := k1.cell 1
    cases wsr with
    | cons y ys =>
      have hr := r1.out x3 y ys rfl
      subst hr
      have hlen : ((y :: ys).map strV).length ≤ 9223372036854775807 := by unfold maxLen at hm2; omega
      have hpos : (0 : Int) < (((y :: ys).map strV).length : Int) := by simp
      have hposN : 0 < ((y :: ys).map strV).length := by simp
      clear r0 r1 r2 r3 hx3 k1 k2 k5 tm
      generalize ((y :: ys).map strV).length = ln at *
      have c0 : (w3.alloc (.cells #[.int .i64 j0, .string ⟨l1.toArray⟩, .int .i64 j2, .int .i64 j3, .slice X4 n4 z4] 24)).cell? ⟨w.heap.size, 0, none⟩ = some (.int .i64 0) := K3.cell 0
      have c1 : (w3.alloc (.cells #[.int .i64 j0, .string ⟨l1.toArray⟩, .int .i64 j2, .int .i64 j3, .slice X4 n4 z4] 24)).cell? ⟨w.heap.size, 1, none⟩ = some (.string ⟨#[]⟩) := K3.cell 1
      have c2 : (w3.alloc (.cells #[.int .i64 j0, .string ⟨l1.toArray⟩, .int .i64 j2, .int .i64 j3, .slice X4 n4 z4] 24)).cell? ⟨w.heap.size, 2, none⟩ = some (.int .i64 0) := K3.cell 2
      have c3 : (w3.alloc (.cells #[.int .i64 j0, .string ⟨l1.toArray⟩, .int .i64 j2, .int .i64 j3, .slice X4 n4 z4] 24)).cell? ⟨w.heap.size, 3, none⟩ = some (.int .i64 0) := K3.cell 3
      have c4 : (w3.alloc (.cells #[.int .i64 j0, .string ⟨l1.toArray⟩, .int .i64 j2, .int .i64 j3, .slice X4 n4 z4] 24)).cell? ⟨w.heap.size, 4, none⟩ = some (.slice none 0 0) := K3.cell 4
      have f0 := K3.free 0
      have f1 := K3.free 1
      have f2 := K3.free 2
      have f3 := K3.free 3
      have f4 := K3.free 4
      go_wp2_with fail
      exact bodyPost_ret (results_cell_tmp (P := Tryz.prog) (p := 2) (u := 3) rfl _ _ w.heap.size _ _ (0, 0) _ rfl (zput_five K3) Tryz.underlying24 rfl (by kernel_rfl)) rfl ⟨_, rfl, zero_ZV _ _ _, B4.trans (below_of_grown' (zgrown_five _ _ _ _ _ _ _) (Nat.le_refl _) B4.size)⟩
    | nil =>
      have q1 : (w3.alloc (.cells #[.int .i64 j0, .string ⟨l1.toArray⟩, .int .i64 j2, .int .i64 j3, .slice X4 n4 z4] 24)).cell? ⟨w1.heap.size, 0, none⟩ = some (.slice Ar 0 cr) := q1
      clear k1 k2 k5 hl2 hm2
      have K7 := KB.new w3 24 #[.int .i64 j0, .string ⟨l1.toArray⟩, .int .i64 j2, .int .i64 j3, .slice X4 n4 z4]
      have tv3 : ZV (w3.alloc (.cells #[.int .i64 j0, .string ⟨l1.toArray⟩, .int .i64 j2, .int .i64 j3, .slice X4 n4 z4] 24)) (fun x => w.heap.size < x ∧ x < (w3.alloc (.cells #[.int .i64 j0, .string ⟨l1.toArray⟩, .int .i64 j2, .int .i64 j3, .slice X4 n4 z4] 24)).heap.size) (84 + 1) (.agg #[.int .i64 j0, .string ⟨l1.toArray⟩, .int .i64 j2, .int .i64 j3, .slice X4 n4 z4]) x3 := ZV.alloc ⟨_, _, _, _, _, rfl, ZX.keepS tm (Nat.le_refl _) (fun _ _ _ => rfl) fun x hx => ⟨by have := hx.1; simp at this; omega, by have := hx.2; simp; omega⟩⟩ _
      have hmy := zrmay_any _ (84 + 1) x3 _ _ tv3
      clear tm
      cases hmay : mayS (84 + 1) x3 with
      | false =>
        have hr := r2.out x3 rfl hmay
        subst hr
        rw [hmay] at hmy
        clear r0 r1 r2 r3 hx3 hmay
        have d0 : (w3.alloc (.cells #[.int .i64 j0, .string ⟨l1.toArray⟩, .int .i64 j2, .int .i64 j3, .slice X4 n4 z4] 24)).cell? ⟨w3.heap.size, 0, none⟩ = some (.int .i64 j0) := K7.cell 0
        have d1 : (w3.alloc (.cells #[.int .i64 j0, .string ⟨l1.toArray⟩, .int .i64 j2, .int .i64 j3, .slice X4 n4 z4] 24)).cell? ⟨w3.heap.size, 1, none⟩ = some (.string ⟨l1.toArray⟩) := K7.cell 1
        have d2 : (w3.alloc (.cells #[.int .i64 j0, .string ⟨l1.toArray⟩, .int .i64 j2, .int .i64 j3, .slice X4 n4 z4] 24)).cell? ⟨w3.heap.size, 2, none⟩ = some (.int .i64 j2) := K7.cell 2
        have d3 : (w3.alloc (.cells #[.int .i64 j0, .string ⟨l1.toArray⟩, .int .i64 j2, .int .i64 j3, .slice X4 n4 z4] 24)).cell? ⟨w3.heap.size, 3, none⟩ = some (.int .i64 j3) := K7.cell 3
        have d4 : (w3.alloc (.cells #[.int .i64 j0, .string ⟨l1.toArray⟩, .int .i64 j2, .int .i64 j3, .slice X4 n4 z4] 24)).cell? ⟨w3.heap.size, 4, none⟩ = some (.slice X4 n4 z4) := K7.cell 4
        go_wp2_with fail
        refine hmy.mono ?_
        rintro e w4 ⟨rfl, b4⟩
        have K4 := K3.below b4 K3.lt
        have K8 := K7.below b4 K7.lt
        have B5 := B4.trans (b4.mono B4.size)
        have tv4 := tv3.below' b4
        have s4 := b4.size
        clear hmy q1 q2 d0 d1 d2 d3 d4 K3 K7 B4 tv3 b4
        have c0 : (w4).cell? ⟨w.heap.size, 0, none⟩ = some (.int .i64 0) := K4.cell 0
        have c1 : (w4).cell? ⟨w.heap.size, 1, none⟩ = some (.string ⟨#[]⟩) := K4.cell 1
        have c2 : (w4).cell? ⟨w.heap.size, 2, none⟩ = some (.int .i64 0) := K4.cell 2
        have c3 : (w4).cell? ⟨w.heap.size, 3, none⟩ = some (.int .i64 0) := K4.cell 3
        have c4 : (w4).cell? ⟨w.heap.size, 4, none⟩ = some (.slice none 0 0) := K4.cell 4
        have f0 := K4.free 0
        have f1 := K4.free 1
        have f2 := K4.free 2
        have f3 := K4.free 3
        have f4 := K4.free 4
        go_wp2_with fail
        exact bodyPost_ret (results_cell_tmp (P := Tryz.prog) (p := 2) (u := 3) rfl _ _ w.heap.size _ _ (0, 0) _ rfl (zput_five K4) Tryz.underlying24 rfl (by kernel_rfl)) rfl ⟨_, rfl, zero_ZV _ _ _, B5.trans (below_of_grown' (zgrown_five _ _ _ _ _ _ _) (Nat.le_refl _) B5.size)⟩
      | true =>
        have hr := r3.out x3 rfl hmay
        subst hr
        rw [hmay] at hmy
        clear r0 r1 r2 r3 hx3 hmay
        have d0 : (w3.alloc (.cells #[.int .i64 j0, .string ⟨l1.toArray⟩, .int .i64 j2, .int .i64 j3, .slice X4 n4 z4] 24)).cell? ⟨w3.heap.size, 0, none⟩ = some (.int .i64 j0) := K7.cell 0
        have d1 : (w3.alloc (.cells #[.int .i64 j0, .string ⟨l1.toArray⟩, .int .i64 j2, .int .i64 j3, .slice X4 n4 z4] 24)).cell? ⟨w3.heap.size, 1, none⟩ = some (.string ⟨l1.toArray⟩) := K7.cell 1
        have d2 : (w3.alloc (.cells #[.int .i64 j0, .string ⟨l1.toArray⟩, .int .i64 j2, .int .i64 j3, .slice X4 n4 z4] 24)).cell? ⟨w3.heap.size, 2, none⟩ = some (.int .i64 j2) := K7.cell 2
        have d3 : (w3.alloc (.cells #[.int .i64 j0, .string ⟨l1.toArray⟩, .int .i64 j2, .int .i64 j3, .slice X4 n4 z4] 24)).cell? ⟨w3.heap.size, 3, none⟩ = some (.int .i64 j3) := K7.cell 3
        have d4 : (w3.alloc (.cells #[.int .i64 j0, .string ⟨l1.toArray⟩, .int .i64 j2, .int .i64 j3, .slice X4 n4 z4] 24)).cell? ⟨w3.heap.size, 4, none⟩ = some (.slice X4 n4 z4) := K7.cell 4
        go_wp2_with fail
        refine hmy.mono ?_
        rintro e w4 ⟨rfl, b4⟩
        have K4 := K3.below b4 K3.lt
        have K8 := K7.below b4 K7.lt
        have B5 := B4.trans (b4.mono B4.size)
        have tv4 := tv3.below' b4
        have s4 := b4.size
        clear hmy q1 q2 d0 d1 d2 d3 d4 K3 K7 B4 tv3 b4
        have c0 : (w4).cell? ⟨w.heap.size, 0, none⟩ = some (.int .i64 0) := K4.cell 0
        have c1 : (w4).cell? ⟨w.heap.size, 1, none⟩ = some (.string ⟨#[]⟩) := K4.cell 1
        have c2 : (w4).cell? ⟨w.heap.size, 2, none⟩ = some (.int .i64 0) := K4.cell 2
        have c3 : (w4).cell? ⟨w.heap.size, 3, none⟩ = some (.int .i64 0) := K4.cell 3
        have c4 : (w4).cell? ⟨w.heap.size, 4, none⟩ = some (.slice none 0 0) := K4.cell 4
        have f0 := K4.free 0
        have f1 := K4.free 1
        have f2 := K4.free 2
        have f3 := K4.free 3
        have f4 := K4.free 4
        have d0 : (w4).cell? ⟨w3.heap.size, 0, none⟩ = some (.int .i64 j0) := K8.cell 0
        have d1 : (w4).cell? ⟨w3.heap.size, 1, none⟩ = some (.string ⟨l1.toArray⟩) := K8.cell 1
        have d2 : (w4).cell? ⟨w3.heap.size, 2, none⟩ = some (.int .i64 j2) := K8.cell 2
        have d3 : (w4).cell? ⟨w3.heap.size, 3, none⟩ = some (.int .i64 j3) := K8.cell 3
        have d4 : (w4).cell? ⟨w3.heap.size, 4, none⟩ = some (.slice X4 n4 z4) := K8.cell 4
        have hfin : ZV (((((w4.setCell ⟨w.heap.size, 0, none⟩ (.int .i64 j0)).setCell ⟨w.heap.size, 1, none⟩ (.string ⟨l1.toArray⟩)).setCell ⟨w.heap.size, 2, none⟩ (.int .i64 j2)).setCell ⟨w.heap.size, 3, none⟩ (.int .i64 j3)).setCell ⟨w.heap.size, 4, none⟩ (.slice X4 n4 z4)) (fun x => w.heap.size ≤ x ∧ x < (((((w4.setCell ⟨w.heap.size, 0, none⟩ (.int .i64 j0)).setCell ⟨w.heap.size, 1, none⟩ (.string ⟨l1.toArray⟩)).setCell ⟨w.heap.size, 2, none⟩ (.int .i64 j2)).setCell ⟨w.heap.size, 3, none⟩ (.int .i64 j3)).setCell ⟨w.heap.size, 4, none⟩ (.slice X4 n4 z4)).heap.size) (84 + 1) (.agg #[.int .i64 j0, .string ⟨l1.toArray⟩, .int .i64 j2, .int .i64 j3, .slice X4 n4 z4]) x3 :=
          tv4.keepL (Nat.le_of_eq (zsets_size _ _ _ _ _ _ _)) (fun x hx _ => zsets_block _ _ _ _ _ _ _ _ (by have := hx.1; omega)) fun x hx hlt => ⟨by have := hx.1; omega, by rw [← zsets_size]; exact hlt⟩
        replace hfin := Lib.hid hfin
        clear tv4
        go_wp2_with fail
        exact bodyPost_ret (results_cell_tmp (P := Tryz.prog) (p := 2) (u := 3) rfl _ _ w.heap.size _ _ (0, 0) _ rfl (zput_five K4) Tryz.underlying24 rfl (by kernel_rfl)) rfl ⟨_, rfl, hfin.out, B5.trans (below_of_grown' (zgrown_five _ _ _ _ _ _ _) (Nat.le_refl _) B5.size)⟩
def parseT (o : Option (Sc (84 + 1) × List Wv)) : Ns (Sc 84) × Int := match o with
  | some (x, []) => if mayS 85 x = true then (x, 0) else (zeroNs, 1)
  | _ => (zeroNs, 2)
theorem parse_is (l : List UInt8) : parseSc l = if 1000 < l.length then (zeroNs, 3) else parseT (orV (f := 83) (factW 41) (wordsW l)) := rfl
theorem wparse_any (l : List UInt8) (hm : l.length ≤ maxLen) (w : World) : Calls Tryz.prog 11 #[strV l] w (ParseZ w (parseSc l)) := by
  rw [parse_is]
  by_cases h : 1000 < l.length
  · rw [if_pos h]; exact wparse_long l h hm w
  · rw [if_neg h]
    refine wparse_short l (by omega) w _ _ rfl (fun e => ?_) (fun x y ys e => ?_) (fun x e hb => ?_) (fun x e hb => ?_)
    · rw [e]; rfl
    · rw [e]; rfl
    · rw [e]; exact if_neg (by rw [hb]; simp)
    · rw [e]; exact if_pos hb
end
end Go.Proofs.YtjecjlhofnnnpaaGreatDoor
