/-
  SdF: The program's fits (layer 20), over the loaded program: of some: its contract. No condition.
  SdG: The program's fits (layer 20), over the loaded program: of what does not, and of all: its contract. No condition.
-/
import Derived.Test.YtdkmjdcddldjgaaHy03
import Derived.Test.YtdkmjdcddldjgaaHy10
import Derived.Test.YtdkmjdcddldjgaaHy11
import Derived.Test.YtdkmjdcddldjgaaHy05
import Derived.Test.YtdkmjdcddldjgaaHy16
import Derived.BigQuiet
set_option linter.unusedVariables false
set_option maxRecDepth 100000
namespace Go.Proofs.Ytdkmjdcddldjgaa
section
open Go.RowKit
set_option maxHeartbeats 8000000 in
theorem zpfits_6 (S : Nat → Prop) (f : Nat) (t : Ns (Sc f)) (v : Value) (w : World) (hop : t.op = 6) (hv : ZV w S (f + 1) v t) :
    Calls Try.prog 54 #[v] w fun e w' => e = .returned (.bool (fitsS t)) ∧ Below w.heap.size w w' := by
  obtain ⟨c0, c1, c2, c3, c4, rfl, rfl, hk, rfl, hml, rfl, hfr, rfl, hto, hks⟩ := hv
  obtain ⟨A3, cap3, e3, hl3, hm3⟩ := hks.form
  subst e3
  clear hks
  obtain ⟨r, hr⟩ : ∃ r, r = fitsS t := ⟨_, rfl⟩
  rw [← hr]
  have HU : Hid (¬ (t.name = [] ∧ t.from_ = 0 ∧ t.to_ = 0 ∧ 2 ≤ t.kids.length) → r = false) := fun h => hr.trans (by
    cases hb : fitsS t with
    | false => rfl
    | true => exact absurd ((zfit_many (.inl hop)).1 hb) h)
  have HF : Hid (t.name = [] ∧ t.from_ = 0 ∧ t.to_ = 0 ∧ 2 ≤ t.kids.length → r = true) := fun h => hr.trans ((zfit_many (.inl hop)).2 h)
  clear hr
  rw [hop] at hk ⊢
  generalize t.op = k at *
  generalize t.from_ = fr at *
  generalize t.to_ = to_ at *
  generalize t.name = l at *
  generalize t.kids.length = kl at *
  clear hop
  clear t
  have hlen : kl ≤ 9223372036854775807 := by unfold maxLen at hm3; omega
  obtain ⟨nm, hnm⟩ : ∃ nm : Bool, nm = !decide (l = []) := ⟨_, rfl⟩
  have HN1 : Hid (nm = false → l = []) := fun h => by rw [hnm] at h; simpa using h
  have HN2 : Hid (nm = true → ¬ l = []) := fun h => by rw [hnm] at h; simpa using h
  unfold strV at *
  obtain ⟨s, hs⟩ : ∃ s : ByteArray, s = ⟨l.toArray⟩ := ⟨_, rfl⟩
  have E8 : (s.toList != (⟨#[]⟩ : ByteArray).toList) = nm ∧ (s.toList != []) = nm ∧ (!s.toList.isEmpty) = nm ∧ s.toList.isEmpty = !nm := by
    rw [hnm]
    by_cases h : l = []
    · subst h
      subst hs
      exact ⟨by simp, by simp, by simp, by simp⟩
    · obtain ⟨a1, a2, a3, a4⟩ := zne_if s l hs h
      exact ⟨by rw [a2]; simp [h], by rw [a1]; simp [h], by rw [a4]; simp [h], by rw [a4]; simp [h]⟩
  obtain ⟨E81, E82, E83, E84⟩ := E8
  rw [← hs]
  clear hs hml hnm
  have kb := KB.new w 25 #[.int .i64 6, .string s, .int .i64 fr, .int .i64 to_, .slice A3 kl cap3]
  have B0 := (Below.refl w.heap.size w).alloc (Nat.le_refl _) (.cells #[.int .i64 6, .string s, .int .i64 fr, .int .i64 to_, .slice A3 kl cap3] 25)
  have B1 := Below_drawn B0 1
  have kc := kb.below (Below_drawn (Below.refl _ _) 1) kb.lt
  by_cases h5 : fr = 0
  · subst h5
    go_enter Try.func54, Try.ntmps54
    go_wp2_with fail
    rename_i KK hKK
    have HKK := Lib.hid hKK
    clear hKK
    refine wp_region_held_drew (S := (fun W => W.cell? ⟨w.heap.size, 1, none⟩ = some (.string s) ∧ W.cell? ⟨w.heap.size, 2, none⟩ = some (.int .i64 0) ∧ W.cell? ⟨w.heap.size, 3, none⟩ = some (.int .i64 to_) ∧ W.cell? ⟨w.heap.size, 4, none⟩ = some (.slice A3 kl cap3))) (by kernel_rfl) ⟨kb.cell 1, kb.cell 2, kb.cell 3, kb.cell 4⟩ (fun hHeld => ?_)
    refine hyY (some 6) 0 rfl hHeld ?_; go_frame
    refine hyY (some 7) 1 rfl hHeld ?_; go_frame
    refine hyY (some 8) 2 rfl hHeld ?_; go_frame
    refine hyY (some 9) 3 rfl hHeld ?_; go_frame
    refine hyY (some 10) 4 rfl hHeld ?_; go_frame
    refine hyY (some 11) 5 rfl hHeld ?_; go_frame
    refine hyY (some 12) 6 rfl hHeld ?_; go_frame
    refine hyY (some 13) 7 rfl hHeld ?_; go_frame
    refine hyY (some 14) 8 rfl hHeld ?_; go_frame
    refine hyY (some 15) 9 rfl hHeld ?_; go_frame
    refine hyY (some 16) 10 rfl hHeld ?_; go_frame
    refine hyY (some 17) 11 rfl hHeld ?_; go_frame
    refine hyY (some 18) 12 rfl hHeld ?_; go_frame
    refine hyY (some 19) 13 rfl hHeld ?_; go_frame
    refine hyY (some 3) 14 rfl hHeld ?_; go_frame
    refine hyY (some 4) 15 rfl hHeld ?_; go_frame
    refine hyY (some 5) 16 rfl hHeld ?_; go_frame
    refine wpAnyH_done (by kernel_rfl) ?_ _
    have hKK := HKK.out
    by_cases a1 : (kl : Int) < 2
    · obtain rfl := HU.out (fun h => by have := h.2.2.2; omega)
      have E1 : decide ((kl : Int) < 2) = true := decide_eq_true a1
      clear HU HF
      go_wp2_with fail
      go_ret
      exact ⟨rfl, B1⟩
    · have E1 : decide ((kl : Int) < 2) = false := decide_eq_false a1
      cases nm with
      | true =>
        obtain rfl := HU.out (fun h => HN2.out rfl h.1)
        clear HU HF
        go_wp2_with fail
        go_ret
        exact ⟨rfl, B1⟩
      | false =>
        have hl0 := HN1.out rfl
        subst hl0
        by_cases h6 : to_ = 0
        · subst h6
          obtain rfl := HF.out (by refine ⟨?_, ?_, ?_, ?_⟩ <;> first | trivial | rfl | omega)
          clear HU HF
          go_wp2_with fail
          go_ret
          exact ⟨rfl, B1⟩
        · obtain rfl := HU.out (fun h => h6 h.2.2.1)
          have g6 : (to_ != 0) = true := bne_iff_ne.2 h6
          clear HU HF
          go_wp2_with fail
          go_ret
          exact ⟨rfl, B1⟩
  · have g5 : (fr != 0) = true := bne_iff_ne.2 h5
    go_enter Try.func54, Try.ntmps54
    go_wp2_with fail
    rename_i KK hKK
    have HKK := Lib.hid hKK
    clear hKK
    refine wp_region_held_drew (S := (fun W => W.cell? ⟨w.heap.size, 1, none⟩ = some (.string s) ∧ W.cell? ⟨w.heap.size, 2, none⟩ = some (.int .i64 fr) ∧ W.cell? ⟨w.heap.size, 3, none⟩ = some (.int .i64 to_) ∧ W.cell? ⟨w.heap.size, 4, none⟩ = some (.slice A3 kl cap3))) (by kernel_rfl) ⟨kb.cell 1, kb.cell 2, kb.cell 3, kb.cell 4⟩ (fun hHeld => ?_)
    refine hyY (some 6) 0 rfl hHeld ?_; go_frame
    refine hyY (some 7) 1 rfl hHeld ?_; go_frame
    refine hyY (some 8) 2 rfl hHeld ?_; go_frame
    refine hyY (some 9) 3 rfl hHeld ?_; go_frame
    refine hyY (some 10) 4 rfl hHeld ?_; go_frame
    refine hyY (some 11) 5 rfl hHeld ?_; go_frame
    refine hyY (some 12) 6 rfl hHeld ?_; go_frame
    refine hyN (some 13) 7 rfl hHeld ?_; go_frame
    refine hyN (some 14) 8 rfl hHeld ?_; go_frame
    refine hyN (some 15) 9 rfl hHeld ?_; go_frame
    refine hyY (some 16) 10 rfl hHeld ?_; go_frame
    refine hyY (some 17) 11 rfl hHeld ?_; go_frame
    refine hyY (some 18) 12 rfl hHeld ?_; go_frame
    refine hyY (some 19) 13 rfl hHeld ?_; go_frame
    refine hyY (some 3) 14 rfl hHeld ?_; go_frame
    refine hyY (some 4) 15 rfl hHeld ?_; go_frame
    refine hyY (some 5) 16 rfl hHeld ?_; go_frame
    refine wpAnyH_done (by kernel_rfl) ?_ _
    have hKK := HKK.out
    by_cases a1 : (kl : Int) < 2
    · obtain rfl := HU.out (fun h => by have := h.2.2.2; omega)
      have E1 : decide ((kl : Int) < 2) = true := decide_eq_true a1
      clear HU HF
      go_wp2_with fail
      go_ret
      exact ⟨rfl, B1⟩
    · have E1 : decide ((kl : Int) < 2) = false := decide_eq_false a1
      cases nm with
      | true =>
        obtain rfl := HU.out (fun h => HN2.out rfl h.1)
        clear HU HF
        go_wp2_with fail
        go_ret
        exact ⟨rfl, B1⟩
      | false =>
        have hl0 := HN1.out rfl
        subst hl0
        obtain rfl := HU.out (fun h => h5 h.2.1)
        clear HU HF
        go_wp2_with fail
        go_ret
        exact ⟨rfl, B1⟩
set_option maxHeartbeats 8000000 in
theorem zpfits_7 (S : Nat → Prop) (f : Nat) (t : Ns (Sc f)) (v : Value) (w : World) (hop : t.op = 7) (hv : ZV w S (f + 1) v t) :
    Calls Try.prog 54 #[v] w fun e w' => e = .returned (.bool (fitsS t)) ∧ Below w.heap.size w w' := by
  obtain ⟨c0, c1, c2, c3, c4, rfl, rfl, hk, rfl, hml, rfl, hfr, rfl, hto, hks⟩ := hv
  obtain ⟨A3, cap3, e3, hl3, hm3⟩ := hks.form
  subst e3
  clear hks
  obtain ⟨r, hr⟩ : ∃ r, r = fitsS t := ⟨_, rfl⟩
  rw [← hr]
  have HU : Hid (¬ (t.name = [] ∧ t.from_ = 0 ∧ t.to_ = 0 ∧ 2 ≤ t.kids.length) → r = false) := fun h => hr.trans (by
    cases hb : fitsS t with
    | false => rfl
    | true => exact absurd ((zfit_many (.inr hop)).1 hb) h)
  have HF : Hid (t.name = [] ∧ t.from_ = 0 ∧ t.to_ = 0 ∧ 2 ≤ t.kids.length → r = true) := fun h => hr.trans ((zfit_many (.inr hop)).2 h)
  clear hr
  rw [hop] at hk ⊢
  generalize t.op = k at *
  generalize t.from_ = fr at *
  generalize t.to_ = to_ at *
  generalize t.name = l at *
  generalize t.kids.length = kl at *
  clear hop
  clear t
  have hlen : kl ≤ 9223372036854775807 := by unfold maxLen at hm3; omega
  obtain ⟨nm, hnm⟩ : ∃ nm : Bool, nm = !decide (l = []) := ⟨_, rfl⟩
  have HN1 : Hid (nm = false → l = []) := fun h => by rw [hnm] at h; simpa using h
  have HN2 : Hid (nm = true → ¬ l = []) := fun h => by rw [hnm] at h; simpa using h
  unfold strV at *
  obtain ⟨s, hs⟩ : ∃ s : ByteArray, s = ⟨l.toArray⟩ := ⟨_, rfl⟩
  have E8 : (s.toList != (⟨#[]⟩ : ByteArray).toList) = nm ∧ (s.toList != []) = nm ∧ (!s.toList.isEmpty) = nm ∧ s.toList.isEmpty = !nm := by
    rw [hnm]
    by_cases h : l = []
    · subst h
      subst hs
      exact ⟨by simp, by simp, by simp, by simp⟩
    · obtain ⟨a1, a2, a3, a4⟩ := zne_if s l hs h
      exact ⟨by rw [a2]; simp [h], by rw [a1]; simp [h], by rw [a4]; simp [h], by rw [a4]; simp [h]⟩
  obtain ⟨E81, E82, E83, E84⟩ := E8
  rw [← hs]
  clear hs hml hnm
  have kb := KB.new w 25 #[.int .i64 7, .string s, .int .i64 fr, .int .i64 to_, .slice A3 kl cap3]
  have B0 := (Below.refl w.heap.size w).alloc (Nat.le_refl _) (.cells #[.int .i64 7, .string s, .int .i64 fr, .int .i64 to_, .slice A3 kl cap3] 25)
  have B1 := Below_drawn B0 1
  have kc := kb.below (Below_drawn (Below.refl _ _) 1) kb.lt
  by_cases h5 : fr = 0
  · subst h5
    go_enter Try.func54, Try.ntmps54
    go_wp2_with fail
    rename_i KK hKK
    have HKK := Lib.hid hKK
    clear hKK
    refine wp_region_held_drew (S := (fun W => W.cell? ⟨w.heap.size, 1, none⟩ = some (.string s) ∧ W.cell? ⟨w.heap.size, 2, none⟩ = some (.int .i64 0) ∧ W.cell? ⟨w.heap.size, 3, none⟩ = some (.int .i64 to_) ∧ W.cell? ⟨w.heap.size, 4, none⟩ = some (.slice A3 kl cap3))) (by kernel_rfl) ⟨kb.cell 1, kb.cell 2, kb.cell 3, kb.cell 4⟩ (fun hHeld => ?_)
    refine hyY (some 6) 0 rfl hHeld ?_; go_frame
    refine hyY (some 7) 1 rfl hHeld ?_; go_frame
    refine hyY (some 8) 2 rfl hHeld ?_; go_frame
    refine hyY (some 9) 3 rfl hHeld ?_; go_frame
    refine hyY (some 10) 4 rfl hHeld ?_; go_frame
    refine hyY (some 11) 5 rfl hHeld ?_; go_frame
    refine hyY (some 12) 6 rfl hHeld ?_; go_frame
    refine hyY (some 13) 7 rfl hHeld ?_; go_frame
    refine hyY (some 14) 8 rfl hHeld ?_; go_frame
    refine hyY (some 15) 9 rfl hHeld ?_; go_frame
    refine hyY (some 16) 10 rfl hHeld ?_; go_frame
    refine hyY (some 17) 11 rfl hHeld ?_; go_frame
    refine hyY (some 18) 12 rfl hHeld ?_; go_frame
    refine hyY (some 19) 13 rfl hHeld ?_; go_frame
    refine hyY (some 3) 14 rfl hHeld ?_; go_frame
    refine hyY (some 4) 15 rfl hHeld ?_; go_frame
    refine hyY (some 5) 16 rfl hHeld ?_; go_frame
    refine wpAnyH_done (by kernel_rfl) ?_ _
    have hKK := HKK.out
    by_cases a1 : (kl : Int) < 2
    · obtain rfl := HU.out (fun h => by have := h.2.2.2; omega)
      have E1 : decide ((kl : Int) < 2) = true := decide_eq_true a1
      clear HU HF
      go_wp2_with fail
      go_ret
      exact ⟨rfl, B1⟩
    · have E1 : decide ((kl : Int) < 2) = false := decide_eq_false a1
      cases nm with
      | true =>
        obtain rfl := HU.out (fun h => HN2.out rfl h.1)
        clear HU HF
        go_wp2_with fail
        go_ret
        exact ⟨rfl, B1⟩
      | false =>
        have hl0 := HN1.out rfl
        subst hl0
        by_cases h6 : to_ = 0
        · subst h6
          obtain rfl := HF.out (by refine ⟨?_, ?_, ?_, ?_⟩ <;> first | trivial | rfl | omega)
          clear HU HF
          go_wp2_with fail
          go_ret
          exact ⟨rfl, B1⟩
        · obtain rfl := HU.out (fun h => h6 h.2.2.1)
          have g6 : (to_ != 0) = true := bne_iff_ne.2 h6
          clear HU HF
          go_wp2_with fail
          go_ret
          exact ⟨rfl, B1⟩
  · have g5 : (fr != 0) = true := bne_iff_ne.2 h5
    go_enter Try.func54, Try.ntmps54
    go_wp2_with fail
    rename_i KK hKK
    have HKK := Lib.hid hKK
    clear hKK
    refine wp_region_held_drew (S := (fun W => W.cell? ⟨w.heap.size, 1, none⟩ = some (.string s) ∧ W.cell? ⟨w.heap.size, 2, none⟩ = some (.int .i64 fr) ∧ W.cell? ⟨w.heap.size, 3, none⟩ = some (.int .i64 to_) ∧ W.cell? ⟨w.heap.size, 4, none⟩ = some (.slice A3 kl cap3))) (by kernel_rfl) ⟨kb.cell 1, kb.cell 2, kb.cell 3, kb.cell 4⟩ (fun hHeld => ?_)
    refine hyY (some 6) 0 rfl hHeld ?_; go_frame
    refine hyY (some 7) 1 rfl hHeld ?_; go_frame
    refine hyY (some 8) 2 rfl hHeld ?_; go_frame
    refine hyY (some 9) 3 rfl hHeld ?_; go_frame
    refine hyY (some 10) 4 rfl hHeld ?_; go_frame
    refine hyY (some 11) 5 rfl hHeld ?_; go_frame
    refine hyY (some 12) 6 rfl hHeld ?_; go_frame
    refine hyN (some 13) 7 rfl hHeld ?_; go_frame
    refine hyN (some 14) 8 rfl hHeld ?_; go_frame
    refine hyN (some 15) 9 rfl hHeld ?_; go_frame
    refine hyY (some 16) 10 rfl hHeld ?_; go_frame
    refine hyY (some 17) 11 rfl hHeld ?_; go_frame
    refine hyY (some 18) 12 rfl hHeld ?_; go_frame
    refine hyY (some 19) 13 rfl hHeld ?_; go_frame
    refine hyY (some 3) 14 rfl hHeld ?_; go_frame
    refine hyY (some 4) 15 rfl hHeld ?_; go_frame
    refine hyY (some 5) 16 rfl hHeld ?_; go_frame
    refine wpAnyH_done (by kernel_rfl) ?_ _
    have hKK := HKK.out
    by_cases a1 : (kl : Int) < 2
    · obtain rfl := HU.out (fun h => by have := h.2.2.2; omega)
      have E1 : decide ((kl : Int) < 2) = true := decide_eq_true a1
      clear HU HF
      go_wp2_with fail
      go_ret
      exact ⟨rfl, B1⟩
    · have E1 : decide ((kl : Int) < 2) = false := decide_eq_false a1
      cases nm with
      | true =>
        obtain rfl := HU.out (fun h => HN2.out rfl h.1)
        clear HU HF
        go_wp2_with fail
        go_ret
        exact ⟨rfl, B1⟩
      | false =>
        have hl0 := HN1.out rfl
        subst hl0
        obtain rfl := HU.out (fun h => h5 h.2.1)
        clear HU HF
        go_wp2_with fail
        go_ret
        exact ⟨rfl, B1⟩
end
section
open Go.RowKit
set_option maxHeartbeats 8000000 in
theorem zpfits_8 (S : Nat → Prop) (f : Nat) (t : Ns (Sc f)) (v : Value) (w : World) (hop : t.op = 8) (hv : ZV w S (f + 1) v t) :
    Calls Try.prog 54 #[v] w fun e w' => e = .returned (.bool (fitsS t)) ∧ Below w.heap.size w w' := by
  obtain ⟨c0, c1, c2, c3, c4, rfl, rfl, hk, rfl, hml, rfl, hfr, rfl, hto, hks⟩ := hv
  obtain ⟨A3, cap3, e3, hl3, hm3⟩ := hks.form
  subst e3
  clear hks
  obtain ⟨r, hr⟩ : ∃ r, r = fitsS t := ⟨_, rfl⟩
  rw [← hr]
  have HU : Hid (¬ (t.name = [] ∧ t.from_ = 0 ∧ t.to_ = 0 ∧ t.kids.length = 1) → r = false) := fun h => hr.trans (by
    cases hb : fitsS t with
    | false => rfl
    | true => exact absurd ((zfit_not hop).1 hb) h)
  have HF : Hid (t.name = [] ∧ t.from_ = 0 ∧ t.to_ = 0 ∧ t.kids.length = 1 → r = true) := fun h => hr.trans ((zfit_not hop).2 h)
  clear hr
  rw [hop] at hk ⊢
  generalize t.op = k at *
  generalize t.from_ = fr at *
  generalize t.to_ = to_ at *
  generalize t.name = l at *
  generalize t.kids.length = kl at *
  clear hop
  clear t
  have hlen : kl ≤ 9223372036854775807 := by unfold maxLen at hm3; omega
  obtain ⟨nm, hnm⟩ : ∃ nm : Bool, nm = !decide (l = []) := ⟨_, rfl⟩
  have HN1 : Hid (nm = false → l = []) := fun h => by rw [hnm] at h; simpa using h
  have HN2 : Hid (nm = true → ¬ l = []) := fun h => by rw [hnm] at h; simpa using h
  unfold strV at *
  obtain ⟨s, hs⟩ : ∃ s : ByteArray, s = ⟨l.toArray⟩ := ⟨_, rfl⟩
  have E8 : (s.toList != (⟨#[]⟩ : ByteArray).toList) = nm ∧ (s.toList != []) = nm ∧ (!s.toList.isEmpty) = nm ∧ s.toList.isEmpty = !nm := by
    rw [hnm]
    by_cases h : l = []
    · subst h
      subst hs
      exact ⟨by simp, by simp, by simp, by simp⟩
    · obtain ⟨a1, a2, a3, a4⟩ := zne_if s l hs h
      exact ⟨by rw [a2]; simp [h], by rw [a1]; simp [h], by rw [a4]; simp [h], by rw [a4]; simp [h]⟩
  obtain ⟨E81, E82, E83, E84⟩ := E8
  rw [← hs]
  clear hs hml hnm
  have kb := KB.new w 25 #[.int .i64 8, .string s, .int .i64 fr, .int .i64 to_, .slice A3 kl cap3]
  have B0 := (Below.refl w.heap.size w).alloc (Nat.le_refl _) (.cells #[.int .i64 8, .string s, .int .i64 fr, .int .i64 to_, .slice A3 kl cap3] 25)
  have B1 := Below_drawn B0 1
  have kc := kb.below (Below_drawn (Below.refl _ _) 1) kb.lt
  have W1 : wrap64 ((kl : Int) - 1) = (kl : Int) - 1 := IntWalk.wrap64_in _ (by omega)
  have I1 : IntKind.i64.wrap ((kl : Int) - 1) = (kl : Int) - 1 := by rw [IntKind.wrap_i64]; omega
  by_cases h5 : fr = 0
  · subst h5
    go_enter Try.func54, Try.ntmps54
    go_wp2_with fail
    rename_i KK hKK
    have HKK := Lib.hid hKK
    clear hKK
    refine wp_region_held_drew (S := (fun W => W.cell? ⟨w.heap.size, 1, none⟩ = some (.string s) ∧ W.cell? ⟨w.heap.size, 2, none⟩ = some (.int .i64 0) ∧ W.cell? ⟨w.heap.size, 3, none⟩ = some (.int .i64 to_) ∧ W.cell? ⟨w.heap.size, 4, none⟩ = some (.slice A3 kl cap3))) (by kernel_rfl) ⟨kb.cell 1, kb.cell 2, kb.cell 3, kb.cell 4⟩ (fun hHeld => ?_)
    refine hyY (some 6) 0 rfl hHeld ?_; go_frame
    refine hyY (some 7) 1 rfl hHeld ?_; go_frame
    refine hyY (some 8) 2 rfl hHeld ?_; go_frame
    refine hyY (some 9) 3 rfl hHeld ?_; go_frame
    refine hyY (some 10) 4 rfl hHeld ?_; go_frame
    refine hyY (some 11) 5 rfl hHeld ?_; go_frame
    refine hyY (some 12) 6 rfl hHeld ?_; go_frame
    refine hyY (some 13) 7 rfl hHeld ?_; go_frame
    refine hyY (some 14) 8 rfl hHeld ?_; go_frame
    refine hyY (some 15) 9 rfl hHeld ?_; go_frame
    refine hyY (some 16) 10 rfl hHeld ?_; go_frame
    refine hyY (some 17) 11 rfl hHeld ?_; go_frame
    refine hyY (some 18) 12 rfl hHeld ?_; go_frame
    refine hyY (some 19) 13 rfl hHeld ?_; go_frame
    refine hyY (some 3) 14 rfl hHeld ?_; go_frame
    refine hyY (some 4) 15 rfl hHeld ?_; go_frame
    refine hyY (some 5) 16 rfl hHeld ?_; go_frame
    refine wpAnyH_done (by kernel_rfl) ?_ _
    have hKK := HKK.out
    cases nm with
    | true =>
      obtain rfl := HU.out (fun h => HN2.out rfl h.1)
      clear HU HF
      go_wp2_with fail
      go_ret
      exact ⟨rfl, B1⟩
    | false =>
      have hl0 := HN1.out rfl
      subst hl0
      by_cases h6 : to_ = 0
      · subst h6
        by_cases a4 : kl = 1
        · subst a4
          obtain rfl := HF.out (by refine ⟨?_, ?_, ?_, ?_⟩ <;> first | trivial | rfl | omega)
          clear HU HF
          go_wp2_with fail
          go_ret
          exact ⟨rfl, B1⟩
        · obtain rfl := HU.out (fun h => a4 h.2.2.2)
          have g7 : ((kl : Int) - 1 == 0) = false := beq_eq_false_iff_ne.2 (by omega)
          clear HU HF
          go_wp2_with fail
          go_ret
          exact ⟨rfl, B1⟩
      · obtain rfl := HU.out (fun h => h6 h.2.2.1)
        have g6 : (to_ != 0) = true := bne_iff_ne.2 h6
        clear HU HF
        go_wp2_with fail
        go_ret
        exact ⟨rfl, B1⟩
  · have g5 : (fr != 0) = true := bne_iff_ne.2 h5
    go_enter Try.func54, Try.ntmps54
    go_wp2_with fail
    rename_i KK hKK
    have HKK := Lib.hid hKK
    clear hKK
    refine wp_region_held_drew (S := (fun W => W.cell? ⟨w.heap.size, 1, none⟩ = some (.string s) ∧ W.cell? ⟨w.heap.size, 2, none⟩ = some (.int .i64 fr) ∧ W.cell? ⟨w.heap.size, 3, none⟩ = some (.int .i64 to_) ∧ W.cell? ⟨w.heap.size, 4, none⟩ = some (.slice A3 kl cap3))) (by kernel_rfl) ⟨kb.cell 1, kb.cell 2, kb.cell 3, kb.cell 4⟩ (fun hHeld => ?_)
    refine hyY (some 6) 0 rfl hHeld ?_; go_frame
    refine hyY (some 7) 1 rfl hHeld ?_; go_frame
    refine hyY (some 8) 2 rfl hHeld ?_; go_frame
    refine hyY (some 9) 3 rfl hHeld ?_; go_frame
    refine hyY (some 10) 4 rfl hHeld ?_; go_frame
    refine hyY (some 11) 5 rfl hHeld ?_; go_frame
    refine hyY (some 12) 6 rfl hHeld ?_; go_frame
    refine hyN (some 13) 7 rfl hHeld ?_; go_frame
    refine hyN (some 14) 8 rfl hHeld ?_; go_frame
    refine hyN (some 15) 9 rfl hHeld ?_; go_frame
    refine hyY (some 16) 10 rfl hHeld ?_; go_frame
    refine hyY (some 17) 11 rfl hHeld ?_; go_frame
    refine hyY (some 18) 12 rfl hHeld ?_; go_frame
    refine hyY (some 19) 13 rfl hHeld ?_; go_frame
    refine hyY (some 3) 14 rfl hHeld ?_; go_frame
    refine hyY (some 4) 15 rfl hHeld ?_; go_frame
    refine hyY (some 5) 16 rfl hHeld ?_; go_frame
    refine wpAnyH_done (by kernel_rfl) ?_ _
    have hKK := HKK.out
    cases nm with
    | true =>
      obtain rfl := HU.out (fun h => HN2.out rfl h.1)
      clear HU HF
      go_wp2_with fail
      go_ret
      exact ⟨rfl, B1⟩
    | false =>
      have hl0 := HN1.out rfl
      subst hl0
      obtain rfl := HU.out (fun h => h5 h.2.1)
      clear HU HF
      go_wp2_with fail
      go_ret
      exact ⟨rfl, B1⟩
set_option maxHeartbeats 8000000 in
theorem zpfits_1 (S : Nat → Prop) (f : Nat) (t : Ns (Sc f)) (v : Value) (w : World) (hop : t.op = 1) (hv : ZV w S (f + 1) v t) :
    Calls Try.prog 54 #[v] w fun e w' => e = .returned (.bool (fitsS t)) ∧ Below w.heap.size w w' := by
  obtain ⟨c0, c1, c2, c3, c4, rfl, rfl, hk, rfl, hml, rfl, hfr, rfl, hto, hks⟩ := hv
  obtain ⟨A3, cap3, e3, hl3, hm3⟩ := hks.form
  subst e3
  clear hks
  obtain ⟨r, hr⟩ : ∃ r, r = fitsS t := ⟨_, rfl⟩
  rw [← hr]
  have HU : Hid (¬ (t.name = [] ∧ t.from_ = 0 ∧ t.to_ = 0 ∧ t.kids.length = 0) → r = false) := fun h => hr.trans (by
    cases hb : fitsS t with
    | false => rfl
    | true => exact absurd ((zfit_all hop).1 hb) h)
  have HF : Hid (t.name = [] ∧ t.from_ = 0 ∧ t.to_ = 0 ∧ t.kids.length = 0 → r = true) := fun h => hr.trans ((zfit_all hop).2 h)
  clear hr
  rw [hop] at hk ⊢
  generalize t.op = k at *
  generalize t.from_ = fr at *
  generalize t.to_ = to_ at *
  generalize t.name = l at *
  generalize t.kids.length = kl at *
  clear hop
  clear t
  have hlen : kl ≤ 9223372036854775807 := by unfold maxLen at hm3; omega
  obtain ⟨nm, hnm⟩ : ∃ nm : Bool, nm = !decide (l = []) := ⟨_, rfl⟩
  have HN1 : Hid (nm = false → l = []) := fun h => by rw [hnm] at h; simpa using h
  have HN2 : Hid (nm = true → ¬ l = []) := fun h => by rw [hnm] at h; simpa using h
  unfold strV at *
  obtain ⟨s, hs⟩ : ∃ s : ByteArray, s = ⟨l.toArray⟩ := ⟨_, rfl⟩
  have E8 : (s.toList != (⟨#[]⟩ : ByteArray).toList) = nm ∧ (s.toList != []) = nm ∧ (!s.toList.isEmpty) = nm ∧ s.toList.isEmpty = !nm := by
    rw [hnm]
    by_cases h : l = []
    · subst h
      subst hs
      exact ⟨by simp, by simp, by simp, by simp⟩
    · obtain ⟨a1, a2, a3, a4⟩ := zne_if s l hs h
      exact ⟨by rw [a2]; simp [h], by rw [a1]; simp [h], by rw [a4]; simp [h], by rw [a4]; simp [h]⟩
  obtain ⟨E81, E82, E83, E84⟩ := E8
  rw [← hs]
  clear hs hml hnm
  have kb := KB.new w 25 #[.int .i64 1, .string s, .int .i64 fr, .int .i64 to_, .slice A3 kl cap3]
  have B0 := (Below.refl w.heap.size w).alloc (Nat.le_refl _) (.cells #[.int .i64 1, .string s, .int .i64 fr, .int .i64 to_, .slice A3 kl cap3] 25)
  have B1 := Below_drawn B0 1
  have kc := kb.below (Below_drawn (Below.refl _ _) 1) kb.lt
  by_cases h5 : fr = 0
  · subst h5
    go_enter Try.func54, Try.ntmps54
    go_wp2_with fail
    rename_i KK hKK
    have HKK := Lib.hid hKK
    clear hKK
    refine wp_region_held_drew (S := (fun W => W.cell? ⟨w.heap.size, 1, none⟩ = some (.string s) ∧ W.cell? ⟨w.heap.size, 2, none⟩ = some (.int .i64 0) ∧ W.cell? ⟨w.heap.size, 3, none⟩ = some (.int .i64 to_) ∧ W.cell? ⟨w.heap.size, 4, none⟩ = some (.slice A3 kl cap3))) (by kernel_rfl) ⟨kb.cell 1, kb.cell 2, kb.cell 3, kb.cell 4⟩ (fun hHeld => ?_)
    refine hyY (some 6) 0 rfl hHeld ?_; go_frame
    refine hyY (some 7) 1 rfl hHeld ?_; go_frame
    refine hyY (some 8) 2 rfl hHeld ?_; go_frame
    refine hyY (some 9) 3 rfl hHeld ?_; go_frame
    refine hyY (some 10) 4 rfl hHeld ?_; go_frame
    refine hyY (some 11) 5 rfl hHeld ?_; go_frame
    refine hyY (some 12) 6 rfl hHeld ?_; go_frame
    refine hyY (some 13) 7 rfl hHeld ?_; go_frame
    refine hyY (some 14) 8 rfl hHeld ?_; go_frame
    refine hyY (some 15) 9 rfl hHeld ?_; go_frame
    refine hyY (some 16) 10 rfl hHeld ?_; go_frame
    refine hyY (some 17) 11 rfl hHeld ?_; go_frame
    refine hyY (some 18) 12 rfl hHeld ?_; go_frame
    refine hyY (some 19) 13 rfl hHeld ?_; go_frame
    refine hyY (some 3) 14 rfl hHeld ?_; go_frame
    refine hyY (some 4) 15 rfl hHeld ?_; go_frame
    refine hyY (some 5) 16 rfl hHeld ?_; go_frame
    refine wpAnyH_done (by kernel_rfl) ?_ _
    have hKK := HKK.out
    cases nm with
    | true =>
      obtain rfl := HU.out (fun h => HN2.out rfl h.1)
      clear HU HF
      go_wp2_with fail
      go_ret
      exact ⟨rfl, B1⟩
    | false =>
      have hl0 := HN1.out rfl
      subst hl0
      by_cases h6 : to_ = 0
      · subst h6
        by_cases a4 : kl = 0
        · subst a4
          obtain rfl := HF.out (by refine ⟨?_, ?_, ?_, ?_⟩ <;> first | trivial | rfl | omega)
          clear HU HF
          go_wp2_with fail
          go_ret
          exact ⟨rfl, B1⟩
        · obtain rfl := HU.out (fun h => a4 h.2.2.2)
          have g7 : ((kl : Int) == 0) = false := beq_eq_false_iff_ne.2 (by omega)
          clear HU HF
          go_wp2_with fail
          go_ret
          exact ⟨rfl, B1⟩
      · obtain rfl := HU.out (fun h => h6 h.2.2.1)
        have g6 : (to_ != 0) = true := bne_iff_ne.2 h6
        clear HU HF
        go_wp2_with fail
        go_ret
        exact ⟨rfl, B1⟩
  · have g5 : (fr != 0) = true := bne_iff_ne.2 h5
    go_enter Try.func54, Try.ntmps54
    go_wp2_with fail
    rename_i KK hKK
    have HKK := Lib.hid hKK
    clear hKK
    refine wp_region_held_drew (S := (fun W => W.cell? ⟨w.heap.size, 1, none⟩ = some (.string s) ∧ W.cell? ⟨w.heap.size, 2, none⟩ = some (.int .i64 fr) ∧ W.cell? ⟨w.heap.size, 3, none⟩ = some (.int .i64 to_) ∧ W.cell? ⟨w.heap.size, 4, none⟩ = some (.slice A3 kl cap3))) (by kernel_rfl) ⟨kb.cell 1, kb.cell 2, kb.cell 3, kb.cell 4⟩ (fun hHeld => ?_)
    refine hyY (some 6) 0 rfl hHeld ?_; go_frame
    refine hyY (some 7) 1 rfl hHeld ?_; go_frame
    refine hyY (some 8) 2 rfl hHeld ?_; go_frame
    refine hyY (some 9) 3 rfl hHeld ?_; go_frame
    refine hyY (some 10) 4 rfl hHeld ?_; go_frame
    refine hyY (some 11) 5 rfl hHeld ?_; go_frame
    refine hyY (some 12) 6 rfl hHeld ?_; go_frame
    refine hyN (some 13) 7 rfl hHeld ?_; go_frame
    refine hyN (some 14) 8 rfl hHeld ?_; go_frame
    refine hyN (some 15) 9 rfl hHeld ?_; go_frame
    refine hyY (some 16) 10 rfl hHeld ?_; go_frame
    refine hyY (some 17) 11 rfl hHeld ?_; go_frame
    refine hyY (some 18) 12 rfl hHeld ?_; go_frame
    refine hyY (some 19) 13 rfl hHeld ?_; go_frame
    refine hyY (some 3) 14 rfl hHeld ?_; go_frame
    refine hyY (some 4) 15 rfl hHeld ?_; go_frame
    refine hyY (some 5) 16 rfl hHeld ?_; go_frame
    refine wpAnyH_done (by kernel_rfl) ?_ _
    have hKK := HKK.out
    cases nm with
    | true =>
      obtain rfl := HU.out (fun h => HN2.out rfl h.1)
      clear HU HF
      go_wp2_with fail
      go_ret
      exact ⟨rfl, B1⟩
    | false =>
      have hl0 := HN1.out rfl
      subst hl0
      obtain rfl := HU.out (fun h => h5 h.2.1)
      clear HU HF
      go_wp2_with fail
      go_ret
      exact ⟨rfl, B1⟩
set_option maxHeartbeats 8000000 in
theorem zpfits_none (S : Nat → Prop) (f : Nat) (t : Ns (Sc f)) (v : Value) (w : World) (hop : t.op < 1 ∨ 8 < t.op) (hv : ZV w S (f + 1) v t) :
    Calls Try.prog 54 #[v] w fun e w' => e = .returned (.bool (fitsS t)) ∧ Below w.heap.size w w' := by
  obtain ⟨c0, c1, c2, c3, c4, rfl, rfl, hk, rfl, hml, rfl, hfr, rfl, hto, hks⟩ := hv
  obtain ⟨A3, cap3, e3, hl3, hm3⟩ := hks.form
  subst e3
  clear hks
  obtain ⟨r, hr⟩ : ∃ r, r = fitsS t := ⟨_, rfl⟩
  rw [← hr]
  obtain rfl : r = false := hr.trans (zunfit_op hop)
  clear hr
  generalize t.op = k at *
  generalize t.from_ = fr at *
  generalize t.to_ = to_ at *
  generalize t.name = l at *
  generalize t.kids.length = kl at *
  clear t
  have hlen : kl ≤ 9223372036854775807 := by unfold maxLen at hm3; omega
  obtain ⟨nm, hnm⟩ : ∃ nm : Bool, nm = !decide (l = []) := ⟨_, rfl⟩
  have HN1 : Hid (nm = false → l = []) := fun h => by rw [hnm] at h; simpa using h
  have HN2 : Hid (nm = true → ¬ l = []) := fun h => by rw [hnm] at h; simpa using h
  unfold strV at *
  obtain ⟨s, hs⟩ : ∃ s : ByteArray, s = ⟨l.toArray⟩ := ⟨_, rfl⟩
  have E8 : (s.toList != (⟨#[]⟩ : ByteArray).toList) = nm ∧ (s.toList != []) = nm ∧ (!s.toList.isEmpty) = nm ∧ s.toList.isEmpty = !nm := by
    rw [hnm]
    by_cases h : l = []
    · subst h
      subst hs
      exact ⟨by simp, by simp, by simp, by simp⟩
    · obtain ⟨a1, a2, a3, a4⟩ := zne_if s l hs h
      exact ⟨by rw [a2]; simp [h], by rw [a1]; simp [h], by rw [a4]; simp [h], by rw [a4]; simp [h]⟩
  obtain ⟨E81, E82, E83, E84⟩ := E8
  rw [← hs]
  clear hs hml hnm
  have kb := KB.new w 25 #[.int .i64 k, .string s, .int .i64 fr, .int .i64 to_, .slice A3 kl cap3]
  have k1 : (k == 1) = false := beq_eq_false_iff_ne.2 (by omega)
  have k2 : (k == 2) = false := beq_eq_false_iff_ne.2 (by omega)
  have k3 : (k == 3) = false := beq_eq_false_iff_ne.2 (by omega)
  have k4 : (k == 4) = false := beq_eq_false_iff_ne.2 (by omega)
  have k5 : (k == 5) = false := beq_eq_false_iff_ne.2 (by omega)
  have k6 : (k == 6) = false := beq_eq_false_iff_ne.2 (by omega)
  have k7 : (k == 7) = false := beq_eq_false_iff_ne.2 (by omega)
  have k8 : (k == 8) = false := beq_eq_false_iff_ne.2 (by omega)
  have B0 := (Below.refl w.heap.size w).alloc (Nat.le_refl _) (.cells #[.int .i64 k, .string s, .int .i64 fr, .int .i64 to_, .slice A3 kl cap3] 25)
  have B1 := Below_drawn B0 1
  have kc := kb.below (Below_drawn (Below.refl _ _) 1) kb.lt
  by_cases h5 : fr = 0
  · subst h5
    go_enter Try.func54, Try.ntmps54
    go_wp2_with fail
    rename_i KK hKK
    have HKK := Lib.hid hKK
    clear hKK
    refine wp_region_held_drew (S := (fun W => W.cell? ⟨w.heap.size, 1, none⟩ = some (.string s) ∧ W.cell? ⟨w.heap.size, 2, none⟩ = some (.int .i64 0) ∧ W.cell? ⟨w.heap.size, 3, none⟩ = some (.int .i64 to_) ∧ W.cell? ⟨w.heap.size, 4, none⟩ = some (.slice A3 kl cap3))) (by kernel_rfl) ⟨kb.cell 1, kb.cell 2, kb.cell 3, kb.cell 4⟩ (fun hHeld => ?_)
    refine hyY (some 6) 0 rfl hHeld ?_; go_frame
    refine hyY (some 7) 1 rfl hHeld ?_; go_frame
    refine hyY (some 8) 2 rfl hHeld ?_; go_frame
    refine hyY (some 9) 3 rfl hHeld ?_; go_frame
    refine hyY (some 10) 4 rfl hHeld ?_; go_frame
    refine hyY (some 11) 5 rfl hHeld ?_; go_frame
    refine hyY (some 12) 6 rfl hHeld ?_; go_frame
    refine hyY (some 13) 7 rfl hHeld ?_; go_frame
    refine hyY (some 14) 8 rfl hHeld ?_; go_frame
    refine hyY (some 15) 9 rfl hHeld ?_; go_frame
    refine hyY (some 16) 10 rfl hHeld ?_; go_frame
    refine hyY (some 17) 11 rfl hHeld ?_; go_frame
    refine hyY (some 18) 12 rfl hHeld ?_; go_frame
    refine hyY (some 19) 13 rfl hHeld ?_; go_frame
    refine hyY (some 3) 14 rfl hHeld ?_; go_frame
    refine hyY (some 4) 15 rfl hHeld ?_; go_frame
    refine hyY (some 5) 16 rfl hHeld ?_; go_frame
    refine wpAnyH_done (by kernel_rfl) ?_ _
    have hKK := HKK.out
    go_wp2_with fail
    go_ret
    exact ⟨rfl, B1⟩
  · have g5 : (fr != 0) = true := bne_iff_ne.2 h5
    go_enter Try.func54, Try.ntmps54
    go_wp2_with fail
    rename_i KK hKK
    have HKK := Lib.hid hKK
    clear hKK
    refine wp_region_held_drew (S := (fun W => W.cell? ⟨w.heap.size, 1, none⟩ = some (.string s) ∧ W.cell? ⟨w.heap.size, 2, none⟩ = some (.int .i64 fr) ∧ W.cell? ⟨w.heap.size, 3, none⟩ = some (.int .i64 to_) ∧ W.cell? ⟨w.heap.size, 4, none⟩ = some (.slice A3 kl cap3))) (by kernel_rfl) ⟨kb.cell 1, kb.cell 2, kb.cell 3, kb.cell 4⟩ (fun hHeld => ?_)
    refine hyY (some 6) 0 rfl hHeld ?_; go_frame
    refine hyY (some 7) 1 rfl hHeld ?_; go_frame
    refine hyY (some 8) 2 rfl hHeld ?_; go_frame
    refine hyY (some 9) 3 rfl hHeld ?_; go_frame
    refine hyY (some 10) 4 rfl hHeld ?_; go_frame
    refine hyY (some 11) 5 rfl hHeld ?_; go_frame
    refine hyY (some 12) 6 rfl hHeld ?_; go_frame
    refine hyN (some 13) 7 rfl hHeld ?_; go_frame
    refine hyN (some 14) 8 rfl hHeld ?_; go_frame
    refine hyN (some 15) 9 rfl hHeld ?_; go_frame
    refine hyY (some 16) 10 rfl hHeld ?_; go_frame
    refine hyY (some 17) 11 rfl hHeld ?_; go_frame
    refine hyY (some 18) 12 rfl hHeld ?_; go_frame
    refine hyY (some 19) 13 rfl hHeld ?_; go_frame
    refine hyY (some 3) 14 rfl hHeld ?_; go_frame
    refine hyY (some 4) 15 rfl hHeld ?_; go_frame
    refine hyY (some 5) 16 rfl hHeld ?_; go_frame
    refine wpAnyH_done (by kernel_rfl) ?_ _
    have hKK := HKK.out
    go_wp2_with fail
    go_ret
    exact ⟨rfl, B1⟩
theorem zpfits_any (S : Nat → Prop) (f : Nat) (t : Ns (Sc f)) (v : Value) (w : World) (hv : ZV w S (f + 1) v t) :
    Calls Try.prog 54 #[v] w fun e w' => e = .returned (.bool (fitsS t)) ∧ Below w.heap.size w w' := by
  by_cases h1 : t.op = 1
  · exact zpfits_1 S f t v w h1 hv
  by_cases h2 : t.op = 2
  · exact zpfits_2 S f t v w h2 hv
  by_cases h3 : t.op = 3
  · exact zpfits_3 S f t v w h3 hv
  by_cases h4 : t.op = 4
  · exact zpfits_4 S f t v w h4 hv
  by_cases h5 : t.op = 5
  · exact zpfits_5 S f t v w h5 hv
  by_cases h6 : t.op = 6
  · exact zpfits_6 S f t v w h6 hv
  by_cases h7 : t.op = 7
  · exact zpfits_7 S f t v w h7 hv
  by_cases h8 : t.op = 8
  · exact zpfits_8 S f t v w h8 hv
  exact zpfits_none S f t v w (by omega) hv
end
end Go.Proofs.Ytdkmjdcddldjgaa
