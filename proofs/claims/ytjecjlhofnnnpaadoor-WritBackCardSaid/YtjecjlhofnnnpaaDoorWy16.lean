/-
  SdG: The program's fits (layer 20), over the loaded program: of what does not, and of all: its contract. No condition.
  SdH: The program's within, mayBe and Check (layer 20), over the loaded program: each one's contract. No condition but the sizes that each contract names.
-/
import Derived.Test.YtjecjlhofnnnpaaDoorWy05
import Derived.Test.YtjecjlhofnnnpaaDoorWy13
import Derived.Test.YtjecjlhofnnnpaaDoorWy14
import Derived.Test.YtjecjlhofnnnpaaDoorWy09
import Derived.Test.YtjecjlhofnnnpaaDoorWy15
import Derived.BigQuiet
set_option linter.unusedVariables false
set_option maxRecDepth 100000
namespace Go.Proofs.YtjecjlhofnnnpaaDoor
section
open Go.RowKit
set_option maxHeartbeats 8000000 in
theorem zpfits_8 (S : Nat → Prop) (f : Nat) (t : Ns (Sc f)) (v : Value) (w : World) (hop : t.op = 8) (hv : ZV w S (f + 1) v t) :
    Calls Tryd.prog 23 #[v] w fun e w' => e = .returned (.bool (fitsS t)) ∧ Below w.heap.size w w' := by
  obtain ⟨c0, c1, c2, c3, c4, rfl, rfl, hk, rfl, hml, rfl, hfr, rfl, hto, hks⟩ := hv
  obtain ⟨A3, cap3, e3, hl3, hm3⟩ := hks.form
  subst e3
  clear hks
  obtain ⟨r, hr⟩ : ∃ r, r = fitsS t := ⟨_, rfl⟩
  rw [← hr]
  have HU : Hid (¬ (t.name = [] ∧ t.from_ = 0 ∧ t.to_ = 0 ∧ t.kids.length = 1) → r = false) := fun h => hr.trans (by
    cases hb : fitsS t with
    | false => rfl
    | true => exact absurd ((zfit_not hop).1 hb) h)
  have HF : Hid (t.name = [] ∧ t.from_ = 0 ∧ t.to_ = 0 ∧ t.kids.length = 1 → r = true) := fun h => hr.trans ((zfit_not hop).2 h)
  clear hr
  rw [hop] at hk ⊢
  generalize t.op = k at *
  generalize t.from_ = fr at *
  generalize t.to_ = to_ at *
  generalize t.name = l at *
  generalize t.kids.length = kl at *
  clear hop
  clear t
  have hlen : kl ≤ 9223372036854775807 := by unfold maxLen at hm3; omega
  obtain ⟨nm, hnm⟩ : ∃ nm : Bool, nm = !decide (l = []) := ⟨_, rfl⟩
  have HN1 : Hid (nm = false → l = []) := fun h => by rw [hnm] at h; simpa using h
  have HN2 : Hid (nm = true → ¬ l = []) := fun h => by rw [hnm] at h; simpa using h
  unfold strV at *
  obtain ⟨s, hs⟩ : ∃ s : ByteArray, s = ⟨l.toArray⟩ := ⟨_, rfl⟩
  have E8 : (s.toList != (⟨#[]⟩ : ByteArray).toList) = nm ∧ (s.toList != []) = nm ∧ (!s.toList.isEmpty) = nm ∧ s.toList.isEmpty = !nm := by
    rw [hnm]
    by_cases h : l = []
    · subst h
      subst hs
      exact ⟨by simp, by simp, by simp, by simp⟩
    · obtain ⟨a1, a2, a3, a4⟩ := zne_if s l hs h
      exact ⟨by rw [a2]; simp [h], by rw [a1]; simp [h], by rw [a4]; simp [h], by rw [a4]; simp [h]⟩
  obtain ⟨E81, E82, E83, E84⟩ := E8
  rw [← hs]
  clear hs hml hnm
  have kb := KB.new w 24 #[.int .i64 8, .string s, .int .i64 fr, .int .i64 to_, .slice A3 kl cap3]
  have B0 := (Below.refl w.heap.size w).alloc (Nat.le_refl _) (.cells #[.int .i64 8, .string s, .int .i64 fr, .int .i64 to_, .slice A3 kl cap3] 24)
  have B1 := Below_drawn B0 1
  have kc := kb.below (Below_drawn (Below.refl _ _) 1) kb.lt
  have W1 : wrap64 ((kl : Int) - 1) = (kl : Int) - 1 := IntWalk.wrap64_in _ (by omega)
  have I1 : IntKind.i64.wrap ((kl : Int) - 1) = (kl : Int) - 1 := by rw [IntKind.wrap_i64]; omega
  by_cases h5 : fr = 0
  · subst h5
    go_enter Tryd.func23, Tryd.ntmps23
    go_wp2_with fail
    rename_i KK hKK
    have HKK := Lib.hid hKK
    clear hKK
    refine wp_region_held_drew (S := (fun W => W.cell? ⟨w.heap.size, 1, none⟩ = some (.string s) ∧ W.cell? ⟨w.heap.size, 2, none⟩ = some (.int .i64 0) ∧ W.cell? ⟨w.heap.size, 3, none⟩ = some (.int .i64 to_) ∧ W.cell? ⟨w.heap.size, 4, none⟩ = some (.slice A3 kl cap3))) (by kernel_rfl) ⟨kb.cell 1, kb.cell 2, kb.cell 3, kb.cell 4⟩ (fun hHeld => ?_)
    refine hyY (some 6) 0 rfl hHeld ?_; go_frame
    refine hyY (some 7) 1 rfl hHeld ?_; go_frame
    refine hyY (some 8) 2 rfl hHeld ?_; go_frame
    refine hyY (some 9) 3 rfl hHeld ?_; go_frame
    refine hyY (some 10) 4 rfl hHeld ?_; go_frame
    refine hyY (some 11) 5 rfl hHeld ?_; go_frame
    refine hyY (some 12) 6 rfl hHeld ?_; go_frame
    refine hyY (some 13) 7 rfl hHeld ?_; go_frame
    refine hyY (some 14) 8 rfl hHeld ?_; go_frame
    refine hyY (some 15) 9 rfl hHeld ?_; go_frame
    refine hyY (some 16) 10 rfl hHeld ?_; go_frame
    refine hyY (some 17) 11 rfl hHeld ?_; go_frame
    refine hyY (some 18) 12 rfl hHeld ?_; go_frame
    refine hyY (some 19) 13 rfl hHeld ?_; go_frame
    refine hyY (some 3) 14 rfl hHeld ?_; go_frame
    refine hyY (some 4) 15 rfl hHeld ?_; go_frame
    refine hyY (some 5) 16 rfl hHeld ?_; go_frame
    refine wpAnyH_done (by kernel_rfl) ?_ _
    have hKK := HKK.out
    cases nm with
    | true =>
      obtain rfl := HU.out (fun h => HN2.out rfl h.1)
      clear HU HF
      go_wp2_with fail
      go_ret
      exact ⟨rfl, B1⟩
    | false =>
      have hl0 := HN1.out rfl
      subst hl0
      by_cases h6 : to_ = 0
      · subst h6
        by_cases a4 : kl = 1
        · subst a4
          obtain rfl := HF.out (by refine ⟨?_, ?_, ?_, ?_⟩ <;> first | trivial | rfl | omega)
          clear HU HF
          go_wp2_with fail
          go_ret
          exact ⟨rfl, B1⟩
        · obtain rfl := HU.out (fun h => a4 h.2.2.2)
          have g7 : ((kl : Int) - 1 == 0) = false := beq_eq_false_iff_ne.2 (by omega)
          clear HU HF
          go_wp2_with fail
          go_ret
          exact ⟨rfl, B1⟩
      · obtain rfl := HU.out (fun h => h6 h.2.2.1)
        have g6 : (to_ != 0) = true := bne_iff_ne.2 h6
        clear HU HF
        go_wp2_with fail
        go_ret
        exact ⟨rfl, B1⟩
  · have g5 : (fr != 0) = true := bne_iff_ne.2 h5
    go_enter Tryd.func23, Tryd.ntmps23
    go_wp2_with fail
    rename_i KK hKK
    have HKK := Lib.hid hKK
    clear hKK
    refine wp_region_held_drew (S := (fun W => W.cell? ⟨w.heap.size, 1, none⟩ = some (.string s) ∧ W.cell? ⟨w.heap.size, 2, none⟩ = some (.int .i64 fr) ∧ W.cell? ⟨w.heap.size, 3, none⟩ = some (.int .i64 to_) ∧ W.cell? ⟨w.heap.size, 4, none⟩ = some (.slice A3 kl cap3))) (by kernel_rfl) ⟨kb.cell 1, kb.cell 2, kb.cell 3, kb.cell 4⟩ (fun hHeld => ?_)
    refine hyY (some 6) 0 rfl hHeld ?_; go_frame
    refine hyY (some 7) 1 rfl hHeld ?_; go_frame
    refine hyY (some 8) 2 rfl hHeld ?_; go_frame
    refine hyY (some 9) 3 rfl hHeld ?_; go_frame
    refine hyY (some 10) 4 rfl hHeld ?_; go_frame
    refine hyY (some 11) 5 rfl hHeld ?_; go_frame
    refine hyY (some 12) 6 rfl hHeld ?_; go_frame
    refine hyN (some 13) 7 rfl hHeld ?_; go_frame
    refine hyN (some 14) 8 rfl hHeld ?_; go_frame
    refine hyN (some 15) 9 rfl hHeld ?_; go_frame
    refine hyY (some 16) 10 rfl hHeld ?_; go_frame
    refine hyY (some 17) 11 rfl hHeld ?_; go_frame
    refine hyY (some 18) 12 rfl hHeld ?_; go_frame
    refine hyY (some 19) 13 rfl hHeld ?_; go_frame
    refine hyY (some 3) 14 rfl hHeld ?_; go_frame
    refine hyY (some 4) 15 rfl hHeld ?_; go_frame
    refine hyY (some 5) 16 rfl hHeld ?_; go_frame
    refine wpAnyH_done (by kernel_rfl) ?_ _
    have hKK := HKK.out
    cases nm with
    | true =>
      obtain rfl := HU.out (fun h => HN2.out rfl h.1)
      clear HU HF
      go_wp2_with fail
      go_ret
      exact ⟨rfl, B1⟩
    | false =>
      have hl0 := HN1.out rfl
      subst hl0
      obtain rfl := HU.out (fun h => h5 h.2.1)
      clear HU HF
      go_wp2_with fail
      go_ret
      exact ⟨rfl, B1⟩
set_option maxHeartbeats 8000000 in
theorem zpfits_1 (S : Nat → Prop) (f : Nat) (t : Ns (Sc f)) (v : Value) (w : World) (hop : t.op = 1) (hv : ZV w S (f + 1) v t) :
    Calls Tryd.prog 23 #[v] w fun e w' => e = .returned (.bool (fitsS t)) ∧ Below w.heap.size w w' := by
  obtain ⟨c0, c1, c2, c3, c4, rfl, rfl, hk, rfl, hml, rfl, hfr, rfl, hto, hks⟩ := hv
  obtain ⟨A3, cap3, e3, hl3, hm3⟩ := hks.form
  subst e3
  clear hks
  obtain ⟨r, hr⟩ : ∃ r, r = fitsS t := ⟨_, rfl⟩
  rw [← hr]
  have HU : Hid (¬ (t.name = [] ∧ t.from_ = 0 ∧ t.to_ = 0 ∧ t.kids.length = 0) → r = false) := fun h => hr.trans (by
    cases hb : fitsS t with
    | false => rfl
    | true => exact absurd ((zfit_all hop).1 hb) h)
  have HF : Hid (t.name = [] ∧ t.from_ = 0 ∧ t.to_ = 0 ∧ t.kids.length = 0 → r = true) := fun h => hr.trans ((zfit_all hop).2 h)
  clear hr
  rw [hop] at hk ⊢
  generalize t.op = k at *
  generalize t.from_ = fr at *
  generalize t.to_ = to_ at *
  generalize t.name = l at *
  generalize t.kids.length = kl at *
  clear hop
  clear t
  have hlen : kl ≤ 9223372036854775807 := by unfold maxLen at hm3; omega
  obtain ⟨nm, hnm⟩ : ∃ nm : Bool, nm = !decide (l = []) := ⟨_, rfl⟩
  have HN1 : Hid (nm = false → l = []) := fun h => by rw [hnm] at h; simpa using h
  have HN2 : Hid (nm = true → ¬ l = []) := fun h => by rw [hnm] at h; simpa using h
  unfold strV at *
  obtain ⟨s, hs⟩ : ∃ s : ByteArray, s = ⟨l.toArray⟩ := ⟨_, rfl⟩
  have E8 : (s.toList != (⟨#[]⟩ : ByteArray).toList) = nm ∧ (s.toList != []) = nm ∧ (!s.toList.isEmpty) = nm ∧ s.toList.isEmpty = !nm := by
    rw [hnm]
    by_cases h : l = []
    · subst h
      subst hs
      exact ⟨by simp, by simp, by simp, by simp⟩
    · obtain ⟨a1, a2, a3, a4⟩ := zne_if s l hs h
      exact ⟨by rw [a2]; simp [h], by rw [a1]; simp [h], by rw [a4]; simp [h], by rw [a4]; simp [h]⟩
  obtain ⟨E81, E82, E83, E84⟩ := E8
  rw [← hs]
  clear hs hml hnm
  have kb := KB.new w 24 #[.int .i64 1, .string s, .int .i64 fr, .int .i64 to_, .slice A3 kl cap3]
  have B0 := (Below.refl w.heap.size w).alloc (Nat.le_refl _) (.cells #[.int .i64 1, .string s, .int .i64 fr, .int .i64 to_, .slice A3 kl cap3] 24)
  have B1 := Below_drawn B0 1
  have kc := kb.below (Below_drawn (Below.refl _ _) 1) kb.lt
  by_cases h5 : fr = 0
  · subst h5
    go_enter Tryd.func23, Tryd.ntmps23
    go_wp2_with fail
    rename_i KK hKK
    have HKK := Lib.hid hKK
    clear hKK
    refine wp_region_held_drew (S := (fun W => W.cell? ⟨w.heap.size, 1, none⟩ = some (.string s) ∧ W.cell? ⟨w.heap.size, 2, none⟩ = some (.int .i64 0) ∧ W.cell? ⟨w.heap.size, 3, none⟩ = some (.int .i64 to_) ∧ W.cell? ⟨w.heap.size, 4, none⟩ = some (.slice A3 kl cap3))) (by kernel_rfl) ⟨kb.cell 1, kb.cell 2, kb.cell 3, kb.cell 4⟩ (fun hHeld => ?_)
    refine hyY (some 6) 0 rfl hHeld ?_; go_frame
    refine hyY (some 7) 1 rfl hHeld ?_; go_frame
    refine hyY (some 8) 2 rfl hHeld ?_; go_frame
    refine hyY (some 9) 3 rfl hHeld ?_; go_frame
    refine hyY (some 10) 4 rfl hHeld ?_; go_frame
    refine hyY (some 11) 5 rfl hHeld ?_; go_frame
    refine hyY (some 12) 6 rfl hHeld ?_; go_frame
    refine hyY (some 13) 7 rfl hHeld ?_; go_frame
    refine hyY (some 14) 8 rfl hHeld ?_; go_frame
    refine hyY (some 15) 9 rfl hHeld ?_; go_frame
    refine hyY (some 16) 10 rfl hHeld ?_; go_frame
    refine hyY (some 17) 11 rfl hHeld ?_; go_frame
    refine hyY (some 18) 12 rfl hHeld ?_; go_frame
    refine hyY (some 19) 13 rfl hHeld ?_; go_frame
    refine hyY (some 3) 14 rfl hHeld ?_; go_frame
    refine hyY (some 4) 15 rfl hHeld ?_; go_frame
    refine hyY (some 5) 16 rfl hHeld ?_; go_frame
    refine wpAnyH_done (by kernel_rfl) ?_ _
    have hKK := HKK.out
    cases nm with
    | true =>
      obtain rfl := HU.out (fun h => HN2.out rfl h.1)
      clear HU HF
      go_wp2_with fail
      go_ret
      exact ⟨rfl, B1⟩
    | false =>
      have hl0 := HN1.out rfl
      subst hl0
      by_cases h6 : to_ = 0
      · subst h6
        by_cases a4 : kl = 0
        · subst a4
          obtain rfl := HF.out (by refine ⟨?_, ?_, ?_, ?_⟩ <;> first | trivial | rfl | omega)
          clear HU HF
          go_wp2_with fail
          go_ret
          exact ⟨rfl, B1⟩
        · obtain rfl := HU.out (fun h => a4 h.2.2.2)
          have g7 : ((kl : Int) == 0) = false := beq_eq_false_iff_ne.2 (by omega)
          clear HU HF
          go_wp2_with fail
          go_ret
          exact ⟨rfl, B1⟩
      · obtain rfl := HU.out (fun h => h6 h.2.2.1)
        have g6 : (to_ != 0) = true := bne_iff_ne.2 h6
        clear HU HF
        go_wp2_with fail
        go_ret
        exact ⟨rfl, B1⟩
  · have g5 : (fr != 0) = true := bne_iff_ne.2 h5
    go_enter Tryd.func23, Tryd.ntmps23
    go_wp2_with fail
    rename_i KK hKK
    have HKK := Lib.hid hKK
    clear hKK
    refine wp_region_held_drew (S := (fun W => W.cell? ⟨w.heap.size, 1, none⟩ = some (.string s) ∧ W.cell? ⟨w.heap.size, 2, none⟩ = some (.int .i64 fr) ∧ W.cell? ⟨w.heap.size, 3, none⟩ = some (.int .i64 to_) ∧ W.cell? ⟨w.heap.size, 4, none⟩ = some (.slice A3 kl cap3))) (by kernel_rfl) ⟨kb.cell 1, kb.cell 2, kb.cell 3, kb.cell 4⟩ (fun hHeld => ?_)
    refine hyY (some 6) 0 rfl hHeld ?_; go_frame
    refine hyY (some 7) 1 rfl hHeld ?_; go_frame
    refine hyY (some 8) 2 rfl hHeld ?_; go_frame
    refine hyY (some 9) 3 rfl hHeld ?_; go_frame
    refine hyY (some 10) 4 rfl hHeld ?_; go_frame
    refine hyY (some 11) 5 rfl hHeld ?_; go_frame
    refine hyY (some 12) 6 rfl hHeld ?_; go_frame
    refine hyN (some 13) 7 rfl hHeld ?_; go_frame
    refine hyN (some 14) 8 rfl hHeld ?_; go_frame
    refine hyN (some 15) 9 rfl hHeld ?_; go_frame
    refine hyY (some 16) 10 rfl hHeld ?_; go_frame
    refine hyY (some 17) 11 rfl hHeld ?_; go_frame
    refine hyY (some 18) 12 rfl hHeld ?_; go_frame
    refine hyY (some 19) 13 rfl hHeld ?_; go_frame
    refine hyY (some 3) 14 rfl hHeld ?_; go_frame
    refine hyY (some 4) 15 rfl hHeld ?_; go_frame
    refine hyY (some 5) 16 rfl hHeld ?_; go_frame
    refine wpAnyH_done (by kernel_rfl) ?_ _
    have hKK := HKK.out
    cases nm with
    | true =>
      obtain rfl := HU.out (fun h => HN2.out rfl h.1)
      clear HU HF
      go_wp2_with fail
      go_ret
      exact ⟨rfl, B1⟩
    | false =>
      have hl0 := HN1.out rfl
      subst hl0
      obtain rfl := HU.out (fun h => h5 h.2.1)
      clear HU HF
      go_wp2_with fail
      go_ret
      exact ⟨rfl, B1⟩
set_option maxHeartbeats 8000000 in
theorem zpfits_none (S : Nat → Prop) (f : Nat) (t : Ns (Sc f)) (v : Value) (w : World) (hop : t.op < 1 ∨ 8 < t.op) (hv : ZV w S (f + 1) v t) :
    Calls Tryd.prog 23 #[v] w fun e w' => e = .returned (.bool (fitsS t)) ∧ Below w.heap.size w w' := by
  obtain ⟨c0, c1, c2, c3, c4, rfl, rfl, hk, rfl, hml, rfl, hfr, rfl, hto, hks⟩ := hv
  obtain ⟨A3, cap3, e3, hl3, hm3⟩ := hks.form
  subst e3
  clear hks
  obtain ⟨r, hr⟩ : ∃ r, r = fitsS t := ⟨_, rfl⟩
  rw [← hr]
  obtain rfl : r = false := hr.trans (zunfit_op hop)
  clear hr
  generalize t.op = k at *
  generalize t.from_ = fr at *
  generalize t.to_ = to_ at *
  generalize t.name = l at *
  generalize t.kids.length = kl at *
  clear t
  have hlen : kl ≤ 9223372036854775807 := by unfold maxLen at hm3; omega
  obtain ⟨nm, hnm⟩ : ∃ nm : Bool, nm = !decide (l = []) := ⟨_, rfl⟩
  have HN1 : Hid (nm = false → l = []) := fun h => by rw [hnm] at h; simpa using h
  have HN2 : Hid (nm = true → ¬ l = []) := fun h => by rw [hnm] at h; simpa using h
  unfold strV at *
  obtain ⟨s, hs⟩ : ∃ s : ByteArray, s = ⟨l.toArray⟩ := ⟨_, rfl⟩
  have E8 : (s.toList != (⟨#[]⟩ : ByteArray).toList) = nm ∧ (s.toList != []) = nm ∧ (!s.toList.isEmpty) = nm ∧ s.toList.isEmpty = !nm := by
    rw [hnm]
    by_cases h : l = []
    · subst h
      subst hs
      exact ⟨by simp, by simp, by simp, by simp⟩
    · obtain ⟨a1, a2, a3, a4⟩ := zne_if s l hs h
      exact ⟨by rw [a2]; simp [h], by rw [a1]; simp [h], by rw [a4]; simp [h], by rw [a4]; simp [h]⟩
  obtain ⟨E81, E82, E83, E84⟩ := E8
  rw [← hs]
  clear hs hml hnm
  have kb := KB.new w 24 #[.int .i64 k, .string s, .int .i64 fr, .int .i64 to_, .slice A3 kl cap3]
  have k1 : (k == 1) = false := beq_eq_false_iff_ne.2 (by omega)
  have k2 : (k == 2) = false := beq_eq_false_iff_ne.2 (by omega)
  have k3 : (k == 3) = false := beq_eq_false_iff_ne.2 (by omega)
  have k4 : (k == 4) = false := beq_eq_false_iff_ne.2 (by omega)
  have k5 : (k == 5) = false := beq_eq_false_iff_ne.2 (by omega)
  have k6 : (k == 6) = false := beq_eq_false_iff_ne.2 (by omega)
  have k7 : (k == 7) = false := beq_eq_false_iff_ne.2 (by omega)
  have k8 : (k == 8) = false := beq_eq_false_iff_ne.2 (by omega)
  have B0 := (Below.refl w.heap.size w).alloc (Nat.le_refl _) (.cells #[.int .i64 k, .string s, .int .i64 fr, .int .i64 to_, .slice A3 kl cap3] 24)
  have B1 := Below_drawn B0 1
  have kc := kb.below (Below_drawn (Below.refl _ _) 1) kb.lt
  by_cases h5 : fr = 0
  · subst h5
    go_enter Tryd.func23, Tryd.ntmps23
    go_wp2_with fail
    rename_i KK hKK
    have HKK := Lib.hid hKK
    clear hKK
    refine wp_region_held_drew (S := (fun W => W.cell? ⟨w.heap.size, 1, none⟩ = some (.string s) ∧ W.cell? ⟨w.heap.size, 2, none⟩ = some (.int .i64 0) ∧ W.cell? ⟨w.heap.size, 3, none⟩ = some (.int .i64 to_) ∧ W.cell? ⟨w.heap.size, 4, none⟩ = some (.slice A3 kl cap3))) (by kernel_rfl) ⟨kb.cell 1, kb.cell 2, kb.cell 3, kb.cell 4⟩ (fun hHeld => ?_)
    refine hyY (some 6) 0 rfl hHeld ?_; go_frame
    refine hyY (some 7) 1 rfl hHeld ?_; go_frame
    refine hyY (some 8) 2 rfl hHeld ?_; go_frame
    refine hyY (some 9) 3 rfl hHeld ?_; go_frame
    refine hyY (some 10) 4 rfl hHeld ?_; go_frame
    refine hyY (some 11) 5 rfl hHeld ?_; go_frame
    refine hyY (some 12) 6 rfl hHeld ?_; go_frame
    refine hyY (some 13) 7 rfl hHeld ?_; go_frame
    refine hyY (some 14) 8 rfl hHeld ?_; go_frame
    refine hyY (some 15) 9 rfl hHeld ?_; go_frame
    refine hyY (some 16) 10 rfl hHeld ?_; go_frame
    refine hyY (some 17) 11 rfl hHeld ?_; go_frame
    refine hyY (some 18) 12 rfl hHeld ?_; go_frame
    refine hyY (some 19) 13 rfl hHeld ?_; go_frame
    refine hyY (some 3) 14 rfl hHeld ?_; go_frame
    refine hyY (some 4) 15 rfl hHeld ?_; go_frame
    refine hyY (some 5) 16 rfl hHeld ?_; go_frame
    refine wpAnyH_done (by kernel_rfl) ?_ _
    have hKK := HKK.out
    go_wp2_with fail
    go_ret
    exact ⟨rfl, B1⟩
  · have g5 : (fr != 0) = true := bne_iff_ne.2 h5
    go_enter Tryd.func23, Tryd.ntmps23
    go_wp2_with fail
    rename_i KK hKK
    have HKK := Lib.hid hKK
    clear hKK
    refine wp_region_held_drew (S := (fun W => W.cell? ⟨w.heap.size, 1, none⟩ = some (.string s) ∧ W.cell? ⟨w.heap.size, 2, none⟩ = some (.int .i64 fr) ∧ W.cell? ⟨w.heap.size, 3, none⟩ = some (.int .i64 to_) ∧ W.cell? ⟨w.heap.size, 4, none⟩ = some (.slice A3 kl cap3))) (by kernel_rfl) ⟨kb.cell 1, kb.cell 2, kb.cell 3, kb.cell 4⟩ (fun hHeld => ?_)
    refine hyY (some 6) 0 rfl hHeld ?_; go_frame
    refine hyY (some 7) 1 rfl hHeld ?_; go_frame
    refine hyY (some 8) 2 rfl hHeld ?_; go_frame
    refine hyY (some 9) 3 rfl hHeld ?_; go_frame
    refine hyY (some 10) 4 rfl hHeld ?_; go_frame
    refine hyY (some 11) 5 rfl hHeld ?_; go_frame
    refine hyY (some 12) 6 rfl hHeld ?_; go_frame
    refine hyN (some 13) 7 rfl hHeld ?_; go_frame
    refine hyN (some 14) 8 rfl hHeld ?_; go_frame
    refine hyN (some 15) 9 rfl hHeld ?_; go_frame
    refine hyY (some 16) 10 rfl hHeld ?_; go_frame
    refine hyY (some 17) 11 rfl hHeld ?_; go_frame
    refine hyY (some 18) 12 rfl hHeld ?_; go_frame
    refine hyY (some 19) 13 rfl hHeld ?_; go_frame
    refine hyY (some 3) 14 rfl hHeld ?_; go_frame
    refine hyY (some 4) 15 rfl hHeld ?_; go_frame
    refine hyY (some 5) 16 rfl hHeld ?_; go_frame
    refine wpAnyH_done (by kernel_rfl) ?_ _
    have hKK := HKK.out
    go_wp2_with fail
    go_ret
    exact ⟨rfl, B1⟩
theorem zpfits_any (S : Nat → Prop) (f : Nat) (t : Ns (Sc f)) (v : Value) (w : World) (hv : ZV w S (f + 1) v t) :
    Calls Tryd.prog 23 #[v] w fun e w' => e = .returned (.bool (fitsS t)) ∧ Below w.heap.size w w' := by
  by_cases h1 : t.op = 1
  · exact zpfits_1 S f t v w h1 hv
  by_cases h2 : t.op = 2
  · exact zpfits_2 S f t v w h2 hv
  by_cases h3 : t.op = 3
  · exact zpfits_3 S f t v w h3 hv
  by_cases h4 : t.op = 4
  · exact zpfits_4 S f t v w h4 hv
  by_cases h5 : t.op = 5
  · exact zpfits_5 S f t v w h5 hv
  by_cases h6 : t.op = 6
  · exact zpfits_6 S f t v w h6 hv
  by_cases h7 : t.op = 7
  · exact zpfits_7 S f t v w h7 hv
  by_cases h8 : t.op = 8
  · exact zpfits_8 S f t v w h8 hv
  exact zpfits_none S f t v w (by omega) hv
end
section
open Go.RowKit
theorem ZV.grown {w w' : World} {S : Nat → Prop} {f : Nat} {v : Value} {t : Sc f} {p : Nat} (h : ZV w S f v t) (hg : w.grownBy w' (some p)) (hp : ¬ S p) : ZV w' S f v t :=
  h.keepL hg.size (fun b sb hb => hg.block b hb (by intro e; injection e with e; exact hp (e ▸ sb))) fun _ h _ => h
set_option maxHeartbeats 2000000 in
theorem zwithin_any (p : Nat) (n d : Int) (w : World) (h0 : 0 ≤ n) (h1 : n ≤ 1000) (h : KB w p 3 #[.int .i64 n]) :
    Calls Tryd.prog 22 #[.int .i64 d, .pointer (some ⟨p, 0, none⟩)] w fun e w' => e = .returned (.bool (decide (n + 1 ≤ 24 ∧ d ≤ 8))) ∧ KB w' p 3 #[.int .i64 (n + 1)] ∧ w.grownBy w' (some p) := by
  have c0 : w.cell? ⟨p, 0, none⟩ = some (.int .i64 n) := h.cell 0
  have f0 := h.free 0
  have K1 : KB (w.setCell ⟨p, 0, none⟩ (.int .i64 (n + 1))) p 3 #[.int .i64 (n + 1)] := h.put 0 _
  have G1 := grown_set w p 0 (.int .i64 (n + 1))
  have c1 : (w.setCell ⟨p, 0, none⟩ (.int .i64 (n + 1))).cell? ⟨p, 0, none⟩ = some (.int .i64 (n + 1)) := K1.cell 0
  have W1 : wrap64 (n + 1) = n + 1 := IntWalk.wrap64_in _ (by omega)
  have I1 : IntKind.i64.wrap (n + 1) = n + 1 := by rw [IntKind.wrap_i64]; omega
  have hp := h.lt
  by_cases a1 : n + 1 ≤ 24
  · have E1 : decide (n + 1 ≤ 24) = true := decide_eq_true a1
    by_cases a2 : d ≤ 8
    · have E2 : decide (d ≤ 8) = true := decide_eq_true a2
      rw [decide_eq_true (show n + 1 ≤ 24 ∧ d ≤ 8 from ⟨a1, a2⟩)]
      clear h
      go_enter Tryd.func22, Tryd.ntmps22
      go_wp2_with fail
      go_ret
      exact ⟨rfl, K1, G1⟩
    · have E2 : decide (d ≤ 8) = false := decide_eq_false a2
      rw [decide_eq_false (show ¬ (n + 1 ≤ 24 ∧ d ≤ 8) from fun h => a2 h.2)]
      clear h
      go_enter Tryd.func22, Tryd.ntmps22
      go_wp2_with fail
      go_ret
      exact ⟨rfl, K1, G1⟩
  · have E1 : decide (n + 1 ≤ 24) = false := decide_eq_false a1
    rw [decide_eq_false (show ¬ (n + 1 ≤ 24 ∧ d ≤ 8) from fun h => a1 h.1)]
    clear h
    go_enter Tryd.func22, Tryd.ntmps22
    go_wp2_with fail
    go_ret
    exact ⟨rfl, K1, G1⟩
def MayIh (S : Nat → Prop) (p f : Nat) : Prop := ∀ (t : Sc f) (v : Value) (n d : Int) (w : World), 0 ≤ n → n ≤ 24 → 1 ≤ d → d ≤ 9 → KB w p 3 #[.int .i64 n] → ZV w S f v t →
    Calls Tryd.prog 15 #[v, .int .i64 d, .pointer (some ⟨p, 0, none⟩)] w fun e w' => ∃ m : Int, e = .returned (.bool (decide (0 ≤ leftS f t (24 - n) (9 - d)))) ∧ KB w' p 3 #[.int .i64 m] ∧ (0 ≤ leftS f t (24 - n) (9 - d) → m = 24 - leftS f t (24 - n) (9 - d)) ∧ w.grownBy w' (some p)
set_option maxHeartbeats 8000000 in
theorem zpmaybe_any (S : Nat → Prop) (p : Nat) (hSp : ¬ S p) : ∀ f : Nat, MayIh S p f := by
  intro f
  induction f with
  | zero => intro t; exact nomatch t
  | succ f ih =>
    intro t v n d w hn0 hn1 hd0 hd1 hp hv
    have hv0 := hv
    change Ns (Sc f) at t
    obtain ⟨c0, c1, c2, c3, c4, rfl, rfl, hk, rfl, hml, rfl, hfr, rfl, hto, hks⟩ := hv
    obtain ⟨A3, cap3, e3, hl3, hm3⟩ := hks.form
    rw [e3] at hks hv0 ⊢
    clear e3
    have hlen : t.kids.length ≤ 9223372036854775807 := by unfold maxLen at hm3; omega
    obtain ⟨L, hL⟩ : ∃ L, L = leftS (f + 1) t (24 - n) (9 - d) := ⟨_, rfl⟩
    rw [← hL]
    have HW : Hid (¬ (n + 1 ≤ 24 ∧ d ≤ 8) → L = -1) := fun h => by
      rw [hL]
      by_cases a : n + 1 ≤ 24
      · exact zleft_flat t (by have : ¬ d ≤ 8 := fun b => h ⟨a, b⟩; omega)
      · exact zleft_low _ (by omega)
    have HU : Hid (fitsS t = false → L = -1) := fun h => hL.trans (zleft_unfit t h)
    have HF : Hid (d ≤ 8 → fitsS t = true → (∀ m : Int, (((t.kids.take t.kids.length).all fun u => okS f u (8 - d)) = true) → m = 24 - n - 1 - (sumS f t.kids t.kids.length : Int) → 0 ≤ m → L = m)) :=
      fun hd a m b c e => hL.trans (zleft_all t a (by omega) (by rw [show 9 - d - 1 = 8 - d from by omega]; exact b) c e)
    have HST : Hid (∀ (m : Int) (j : Nat) (hj : j < t.kids.length), m = 24 - n - 1 - (sumS f t.kids j : Int) → leftS f t.kids[j] m (8 - d) < 0 → L = -1) := fun m j hj a b => hL.trans (zleft_stop t hj a (by rw [show 9 - d - 1 = 8 - d from by omega]; exact b))
    have HGO : Hid (∀ (m : Int) (j : Nat) (hj : j < t.kids.length), m = 24 - n - 1 - (sumS f t.kids j : Int) → ((t.kids.take j).all fun u => okS f u (8 - d)) = true → 0 ≤ leftS f t.kids[j] m (8 - d) →
        leftS f t.kids[j] m (8 - d) = 24 - n - 1 - (sumS f t.kids (j + 1) : Int) ∧ ((t.kids.take (j + 1)).all fun u => okS f u (8 - d)) = true) := fun m j hj a b e => by
      have := zleft_step (n := 24 - n) (d := 9 - d) t hj a (by rw [show 9 - d - 1 = 8 - d from by omega]; exact b) (by rw [show 9 - d - 1 = 8 - d from by omega]; exact e)
      rw [show 9 - d - 1 = 8 - d from by omega] at this
      exact this
    have HLE : Hid (∀ (m : Int) (j : Nat) (hj : j < t.kids.length), -1 ≤ m → leftS f t.kids[j] m (8 - d) ≤ m) := fun m j hj h => (zleft_le t.kids[j] m (8 - d) h).2
    obtain ⟨D, hD⟩ : ∃ D : Ending → World → Prop, D = fun e w' => ∃ m : Int, e = .returned (.bool (decide (0 ≤ L))) ∧ KB w' p 3 #[.int .i64 m] ∧ (0 ≤ L → m = 24 - L) ∧ w.grownBy w' (some p) := ⟨_, rfl⟩
    have HNO : Hid (L = -1 → ∀ W (m : Int), KB W p 3 #[.int .i64 m] → w.grownBy W (some p) → D (.returned (.bool false)) W) := fun h W m hk hg => by
      rw [hD, h]
      exact ⟨m, rfl, hk, fun h => absurd h (by decide), hg⟩
    have HYES : Hid (∀ W (m : Int), L = m → 0 ≤ m → KB W p 3 #[.int .i64 (24 - m)] → w.grownBy W (some p) → D (.returned (.bool true)) W) := fun W m h h0 hk hg => by
      rw [hD, h]
      exact ⟨24 - m, by rw [decide_eq_true h0], hk, fun _ => rfl, hg⟩
    rw [← hD]
    clear hD hL
    have B0 := (Below.refl w.heap.size w).alloc (Nat.le_refl _) (.cells #[.int .i64 t.op, strV t.name, .int .i64 t.from_, .int .i64 t.to_, .slice A3 t.kids.length cap3] 24)
    have kb := KB.new w 24 #[.int .i64 t.op, strV t.name, .int .i64 t.from_, .int .i64 t.to_, .slice A3 t.kids.length cap3]
    have hplt := hp.lt
    have hne : (some p : Option Nat) ≠ some w.heap.size := by intro e; injection e with e; omega
    have hwi := zwithin_any p n d _ hn0 (by omega) (hp.alloc (.cells #[.int .i64 t.op, strV t.name, .int .i64 t.from_, .int .i64 t.to_, .slice A3 t.kids.length cap3] 24))
    have HFI := Lib.hid (fun W (hW : w.grownBy W (some p)) => zpfits_any S f t _ W (hv0.grown hW hSp))
    have G0 : w.grownBy (w.alloc (.cells #[.int .i64 t.op, strV t.name, .int .i64 t.from_, .int .i64 t.to_, .slice A3 t.kids.length cap3] 24)) (some p) := grown_of_below B0 _
    clear hv0 hp
    generalize t.op = k at *
    generalize t.from_ = fr at *
    generalize t.to_ = to_ at *
    generalize t.name = l at *
    unfold strV at *
    generalize (⟨l.toArray⟩ : ByteArray) = s at *
    generalize fitsS t = ft at *
    generalize t.kids = ks at *
    clear t
    obtain ⟨kl, hkl⟩ : ∃ kl, kl = ks.length := ⟨_, rfl⟩
    rw [← hkl] at hks hl3 hlen hwi HFI B0 kb G0 ⊢
    have HKL := Lib.hid hkl
    clear hkl
    have W1 : wrap64 (d + 1) = d + 1 := IntWalk.wrap64_in _ (by omega)
    have I1 : IntKind.i64.wrap (d + 1) = d + 1 := by rw [IntKind.wrap_i64]; omega
    go_enter Tryd.func15, Tryd.ntmps15
    go_wp2_with fail
    refine hwi.mono ?_
    rintro e w1 ⟨rfl, P1, G1⟩
    have G01 := grown_trans G0 G1
    have kb1 := kb.grown G1 hne
    clear hwi kb B0 G0 G1
    by_cases a1 : n + 1 ≤ 24 ∧ d ≤ 8
    case neg =>
      have hd := HNO.out (HW.out a1) w1 _ P1 G01
      rw [decide_eq_false a1]
      clear HW HU HF HST HGO HLE HNO HYES HFI
      go_wp2_with fail
      first | exact hd | (go_ret; exact hd)
    rw [decide_eq_true a1]
    have q0 := kb1.cell 0
    have q1 := kb1.cell 1
    have q2 := kb1.cell 2
    have q3 := kb1.cell 3
    have q4 := kb1.cell 4
    simp only [List.getElem?_toArray, List.getElem?_cons_zero, List.getElem?_cons_succ] at q0 q1 q2 q3 q4
    go_wp2_with fail
    refine (HFI.out w1 G01).mono ?_
    rintro e w2 ⟨rfl, b2⟩
    have G02 := grown_trans G01 (grown_of_below b2 _)
    have P2 := P1.below b2 P1.lt
    have kb2 := kb1.below b2 kb1.lt
    clear G01 P1 kb1 q0 q1 q2 q3 q4 b2 HFI HW
    cases ft with
    | false =>
      have hd := HNO.out (HU.out rfl) w2 _ P2 G02
      clear HU HF HST HGO HLE HNO HYES
      go_wp2_with fail
      first | exact hd | (go_ret; exact hd)
    | true =>
      have HF2 := Lib.hid (HF.out a1.2 rfl)
      have hd8 := a1.2
      have hn24 := a1.1
      clear HU HF a1
      have q4 : w2.cell? ⟨w.heap.size, 4, none⟩ = some (.slice A3 kl cap3) := kb2.cell 4
      go_wp2_with fail
      clear q4
      go_loopw [21] (fun iv wr => ∃ (j : Nat) (c : Int), j ≤ kl ∧ c = n + 1 + (sumS f ks j : Int) ∧ c ≤ 24 ∧ Hid (((ks.take j).all fun u => okS f u (8 - d)) = true) ∧ iv = .int .i64 j ∧ KB wr p 3 #[.int .i64 c] ∧ w.grownBy wr (some p)) (fun iv _ => kl - (intOf iv).toNat)
      case atStart => exact ⟨0, n + 1, by omega, by simp [sumS], by omega, by simp [Lib.hid], rfl, P2, G02⟩
      case round =>
        clear P2 G02 kb2
        obtain ⟨j, c, hj, hc, hc24, hall, rfl, P, G⟩ := hrel
        have HCC := Lib.hid hc
        clear hc
        by_cases hlt : j < kl
        · have hltI : (j : Int) < (kl : Int) := by omega
          have hlt2 : j < ks.length := by have := HKL.out; omega
          obtain ⟨b, o, e0, e1, e2, e3, e4, rfl, hb, k0, k1, k2, k3, k4, hx⟩ := kid_z hks HKL.out.symm G.size (fun b sb hb => G.block b hb (by intro e; injection e with e; exact hSp (e ▸ sb))) j hlt2
          have hkd := ih ks[j] (.agg #[e0, e1, e2, e3, e4]) c (d + 1) (wr.alloc (.cells #[e0, e1, e2, e3, e4] 24)) (by have := HCC.out; omega) hc24 (by omega) (by omega) (P.alloc _) ⟨_, _, _, _, _, rfl, hx.alloc _⟩
          rw [show 9 - (d + 1) = 8 - d from by omega] at hkd
          have HS2 : Hid (leftS f ks[j] (24 - c) (8 - d) < 0 → L = -1) := fun h => HST.out (24 - c) j hlt2 (by have := HCC.out; omega) h
          have HG2 : Hid (0 ≤ leftS f ks[j] (24 - c) (8 - d) → leftS f ks[j] (24 - c) (8 - d) = 24 - n - 1 - (sumS f ks (j + 1) : Int) ∧ ((ks.take (j + 1)).all fun u => okS f u (8 - d)) = true) := fun h => HGO.out (24 - c) j hlt2 (by have := HCC.out; omega) hall.out h
          obtain ⟨i0, l1, i2, i3, X4, n4, z4, rfl, rfl, rfl, rfl, rfl⟩ := hx.form
          unfold strV at *
          generalize (⟨l1.toArray⟩ : ByteArray) = s1 at *
          have G1 : w.grownBy (wr.alloc (.cells #[.int .i64 i0, .string s1, .int .i64 i2, .int .i64 i3, .slice X4 n4 z4] 24)) (some p) := grown_trans G (grown_of_below ((Below.refl _ _).alloc (Nat.le_refl _) _) _)
          have hbr : b < wr.heap.size := Nat.lt_of_lt_of_le hb G.size
          clear hx hks HF2 HST HGO HLE HYES P
          obtain ⟨M, hM⟩ : ∃ M, M = leftS f ks[j] (24 - c) (8 - d) := ⟨_, rfl⟩
          rw [← hM] at hkd HS2 HG2
          clear hM
          go_wp2_with fail
          refine hkd.mono ?_
          rintro e w5 ⟨m, rfl, P5, hm5, g5⟩
          have G5 := grown_trans G1 g5
          clear hkd G1 g5 k0 k1 k2 k3 k4 G
          by_cases hM0 : 0 ≤ M
          · obtain ⟨h1, h2⟩ := HG2.out hM0
            have hm := hm5 hM0
            have h2 := Lib.hid h2
            rw [decide_eq_true hM0]
            clear HS2 HG2 hm5
            have H1 := Lib.hid h1
            have HM := Lib.hid hm
            have HM0 := Lib.hid hM0
            clear h1 hm hM0
            go_wp2_with fail
            go_roundw
            case rel => exact ⟨j + 1, m, by omega, by have := H1.out; have := HM.out; omega, by have := HM.out; have := HM0.out; omega, h2, by go_num, P5, G5⟩
            case measure => simp [intOf]; omega
          · have hd := HNO.out (HS2.out (by omega)) w5 _ P5 G5
            rw [decide_eq_false hM0]
            clear HS2 HG2 hm5
            go_wp2_with fail
            first | exact hd | (go_ret; exact hd)
        · obtain rfl : j = kl := by omega
          have hd := HYES.out wr (24 - c) (HF2.out (24 - c) (by have := hall.out; rw [← HKL.out]; exact this) (by have := HCC.out; rw [← HKL.out]; omega) (by omega)) (by omega) (by rw [show 24 - (24 - c) = c from by omega]; exact P) G
          clear HF2 HST HGO HLE HNO HYES
          go_wp2_with fail
          first | exact hd | (go_ret; exact hd)
theorem zpcheck_any (S : Nat → Prop) (f : Nat) (t : Sc f) (v : Value) (w : World) (hS : ∀ b, S b → b < w.heap.size) (hv : ZV w S f v t) :
    Calls Tryd.prog 11 #[v] w fun e w' => e = .returned (.int .i64 (if mayS f t = true then 0 else 1)) ∧ Below w.heap.size w w' := by
  obtain ⟨c0, c1, c2, c3, c4, rfl, ht⟩ := hv
  have hv2 : ZV ((w.alloc (.cells #[c0, c1, c2, c3, c4] 24)).alloc (.cells #[.int .i64 0] 3)) S f (.agg #[c0, c1, c2, c3, c4]) t := ZV.alloc (ZV.alloc ⟨c0, c1, c2, c3, c4, rfl, ht⟩ _) _
  obtain ⟨kx, ky, B0⟩ := ztwo_boxes w #[c0, c1, c2, c3, c4] #[.int .i64 0] 24 3
  have hr := zpmaybe_any S (w.heap.size + 1) (fun h => by have := hS _ h; omega) f t _ 0 1 _ (by omega) (by omega) (by omega) (by omega) ky hv2
  have hm := zleft_may t
  rw [show (24 : Int) - 0 = 24 from rfl, show (9 : Int) - 1 = 8 from rfl, hm] at hr
  clear hv2 hm
  obtain ⟨i0, l1, i2, i3, X4, n4, z4, rfl, rfl, rfl, rfl, rfl⟩ := ht.form
  unfold strV at *
  clear ht hS
  obtain ⟨r, hr0⟩ : ∃ r, r = mayS f t := ⟨_, rfl⟩
  rw [← hr0] at hr ⊢
  clear hr0
  cases r with
  | false =>
    rw [if_neg (by decide)]
    go_enter Tryd.func11, Tryd.ntmps11
    go_wp2_with fail
    refine hr.mono ?_
    rintro e w5 ⟨m, rfl, _, _, g5⟩
    have B5 := B0.trans (below_of_grown' g5 (by omega) (by simp; omega))
    clear hr g5
    go_wp2_with fail
    go_ret
    exact ⟨rfl, B5⟩
  | true =>
    rw [if_pos rfl]
    go_enter Tryd.func11, Tryd.ntmps11
    go_wp2_with fail
    refine hr.mono ?_
    rintro e w5 ⟨m, rfl, _, _, g5⟩
    have B5 := B0.trans (below_of_grown' g5 (by omega) (by simp; omega))
    clear hr g5
    go_wp2_with fail
    go_ret
    exact ⟨rfl, B5⟩
end
end Go.Proofs.YtjecjlhofnnnpaaDoor
