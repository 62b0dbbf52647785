/-
  PaF: Plain mathematics of layer 18 (parse): what a text costs (P18.4). No program. No condition.
  RvE: The program's actWord (layer 17), over the loaded program: its contract. No condition.
  RuP0: Plain mathematics of layer 17 (rule): where the first rule of a class stands; which error Check tells. No program. No condition.
-/
import Derived.Test.YthindhlogkhclaaGreatDoorPz30
import Derived.Test.YthindhlogkhclaaGreatDoorPz05
import Derived.Test.YthindhlogkhclaaGreatDoorPz03
import Derived.Test.YthindhlogkhclaaGreatDoorPz07
set_option linter.unusedVariables false
set_option maxRecDepth 100000
namespace Go.Proofs.YthindhlogkhclaaGreatDoor
section
theorem read_bad {t : List UInt8} {n : Int} (h : (allS t).2.2 ≠ 0) : readP t n = ([], (allS t).2.1, (allS t).2.2, 0) := by unfold readP; rw [if_neg h]
theorem read_wrong {t : List UInt8} {n : Int} (h : (allS t).2.2 = 0) (h1 : (runP (allS t).1 n).2.e ≠ 0) : readP t n = ([], hereP t.length (runP (allS t).1 n).2, (runP (allS t).1 n).2.e, (runP (allS t).1 n).2.used) := by
  unfold readP
  rw [if_pos h]
  exact if_neg h1
theorem read_not {t : List UInt8} {n : Int} (h : (allS t).2.2 = 0) (h1 : (runP (allS t).1 n).2.e = 0) (h2 : checkR 17 (runP (allS t).1 n).1 ≠ 0) : readP t n = ([], 0, checkR 17 (runP (allS t).1 n).1, (runP (allS t).1 n).2.used) := by
  unfold readP
  rw [if_pos h]
  exact (if_pos h1).trans (if_neg h2)
theorem read_good {t : List UInt8} {n : Int} (h : (allS t).2.2 = 0) (h1 : (runP (allS t).1 n).2.e = 0) (h2 : checkR 17 (runP (allS t).1 n).1 = 0) : readP t n = ((runP (allS t).1 n).1, t.length, 0, (runP (allS t).1 n).2.used) := by
  unfold readP
  rw [if_pos h]
  exact (if_pos h1).trans (if_pos h2)
theorem read_ok {t : List UInt8} {n : Int} (h : (readP t n).2.2.1 = 0) : (allS t).2.2 = 0 ∧ (runP (allS t).1 n).2.e = 0 ∧ checkR 17 (runP (allS t).1 n).1 = 0 := by
  by_cases h0 : (allS t).2.2 = 0
  case neg => rw [read_bad h0] at h; exact absurd h h0
  by_cases h1 : (runP (allS t).1 n).2.e = 0
  case neg => rw [read_wrong h0 h1] at h; exact absurd h h1
  by_cases h2 : checkR 17 (runP (allS t).1 n).1 = 0
  case neg => rw [read_not h0 h1 h2] at h; exact absurd h h2
  exact ⟨h0, h1, h2⟩
theorem read_more {t : List UInt8} {n k : Int} (hk : 0 ≤ k) (h : (readP t n).2.2.1 ≠ 14) : readP t (n + k) = readP t n := by
  by_cases h0 : (allS t).2.2 = 0
  case neg => rw [read_bad h0, read_bad h0]
  have he : (runP (allS t).1 n).2.e ≠ 14 := fun hn => h (by rw [read_wrong h0 (by rw [hn]; decide)]; exact hn)
  obtain ⟨g1, g2, g3, g4, _⟩ := run_more (allS t).1 n k hk he
  have hh : ∀ s s' : Ps, s'.rest = s.rest → hereP t.length s' = hereP t.length s := fun s s' e => by unfold hereP; rw [e]
  by_cases h1 : (runP (allS t).1 n).2.e = 0
  case neg => rw [read_wrong h0 h1, read_wrong h0 (by rw [g3]; exact h1), g3, g4, hh _ _ g2]
  by_cases h2 : checkR 17 (runP (allS t).1 n).1 = 0
  case neg => rw [read_not h0 h1 h2, read_not h0 (by rw [g3]; exact h1) (by rw [g1]; exact h2), g1, g4]
  rw [read_good h0 h1 h2, read_good h0 (by rw [g3]; exact h1) (by rw [g1]; exact h2), g1, g4]
theorem read_enough {t : List UInt8} {n : Int} (h : 2 * ((allS t).1.length : Int) + 1 ≤ n) (hl : (allS t).2.2 ≠ 14) (hc : ∀ l, checkR 17 l ≠ 14) : (readP t n).2.2.1 ≠ 14 := by
  have he := run_enough (allS t).1 n h
  by_cases h0 : (allS t).2.2 = 0
  case neg => rw [read_bad h0]; exact hl
  by_cases h1 : (runP (allS t).1 n).2.e = 0
  case neg => rw [read_wrong h0 h1]; exact he
  by_cases h2 : checkR 17 (runP (allS t).1 n).1 = 0
  case neg => rw [read_not h0 h1 h2]; exact hc _
  rw [read_good h0 h1 h2]; show (0 : Int) ≠ 14; decide
theorem check_small (f : Nat) (l : List (Rl f)) : checkR f l ≠ 14 := by
  unfold checkR
  split
  · decide
  · split
    · decide
    · split <;> decide
theorem read_just {t : List UInt8} {n : Int} (h0 : 0 ≤ n) (h : (readP t n).2.2.1 = 0) : readP t (readP t n).2.2.2 = readP t n := by
  obtain ⟨h1, h2, h3⟩ := read_ok h
  obtain ⟨g1, g2, g3, g4⟩ := run_just (allS t).1 n h0 (by rw [h2]; decide)
  have e := read_good h1 h2 h3
  rw [e]
  dsimp only
  rw [read_good h1 (g3.trans h2) (by rw [g1]; exact h3), g1, g4]
theorem read_less {t : List UInt8} {n m : Int} (h : (readP t n).2.2.1 = 0) (h0 : 0 ≤ m) (hm : m < (readP t n).2.2.2) (hn : m ≤ n) : (readP t m).2.2.1 = 14 ∧ (readP t m).1 = [] := by
  obtain ⟨h1, h2, h3⟩ := read_ok h
  rw [read_good h1 h2 h3] at hm
  have he := run_less (allS t).1 n m (by rw [h2]; decide) h0 hm hn
  rw [read_wrong h1 (by rw [he]; decide)]
  exact ⟨he, rfl⟩
end
section
open Go.RowKit
def actW (n : Int) : List UInt8 := if n = 1 then [100, 101, 115, 116, 114, 111, 121] else if n = 2 then [114, 101, 118, 105, 101, 119] else if n = 3 then [107, 101, 101, 112] else []
theorem actW_in {n : Int} (h : 1 ≤ n ∧ n ≤ 3) : actW n = actS n ∧ actW n ≠ [] := by
  unfold actW actS
  rcases (show n = 1 ∨ n = 2 ∨ n = 3 by omega) with rfl | rfl | rfl <;> exact ⟨by decide, by decide⟩
theorem actW_out {n : Int} (h : ¬ (1 ≤ n ∧ n ≤ 3)) : actW n = [] := by
  unfold actW
  rw [if_neg (by omega), if_neg (by omega), if_neg (by omega)]
theorem actword_any (n : Int) (w : World) : Calls Tryz.prog 36 #[.int .i64 n] w fun e w' => e = .returned (strV (actW n)) ∧ w = w' := by
  by_cases h1 : n = 1
  · subst h1
    go_enter Tryz.func36, Tryz.ntmps36
    go_wp2
    go_ret
    exact ⟨rfl, rfl⟩
  by_cases h2 : n = 2
  · subst h2
    go_enter Tryz.func36, Tryz.ntmps36
    go_wp2
    go_ret
    exact ⟨rfl, rfl⟩
  by_cases h3 : n = 3
  · subst h3
    go_enter Tryz.func36, Tryz.ntmps36
    go_wp2
    go_ret
    exact ⟨rfl, rfl⟩
  rw [actW_out (by omega)]
  have E1 : (n == 1) = false := beq_eq_false_iff_ne.2 h1
  have E2 : (n == 2) = false := beq_eq_false_iff_ne.2 h2
  have E3 : (n == 3) = false := beq_eq_false_iff_ne.2 h3
  go_enter Tryz.func36, Tryz.ntmps36
  go_wp2
  go_ret
  exact ⟨rfl, rfl⟩
end
section
def placeR (f : Nat) (l : List (Rl f)) (c : List UInt8) : Int := match l.findIdx? (fun r => decide (r.cls = c)) with | some i => (i : Int) | none => -1
theorem place_none {f : Nat} {l : List (Rl f)} {c : List UInt8} (h : ∀ (i : Nat) (hi : i < l.length), l[i].cls ≠ c) : placeR f l c = -1 := by
  unfold placeR
  have : l.findIdx? (fun r => decide (r.cls = c)) = none := by
    rw [List.findIdx?_eq_none_iff]
    intro r hr
    obtain ⟨i, hi, e⟩ := List.mem_iff_getElem.1 hr
    rw [← e]
    exact decide_eq_false (h i hi)
  rw [this]
theorem place_some {f : Nat} {l : List (Rl f)} {c : List UInt8} {j : Nat} (hj : j < l.length) (h1 : ∀ (i : Nat) (hi : i < l.length), i < j → l[i].cls ≠ c) (h2 : l[j].cls = c) : placeR f l c = (j : Int) := by
  unfold placeR
  have : l.findIdx? (fun r => decide (r.cls = c)) = some j := by
    rw [List.findIdx?_eq_some_iff_getElem]
    exact ⟨hj, decide_eq_true h2, fun i hi => by simpa using h1 i (by omega) hi⟩
  rw [this]
theorem place_is (f : Nat) (l : List (Rl f)) (c : List UInt8) : (placeR f l c = -1 ∧ ∀ (i : Nat) (hi : i < l.length), l[i].cls ≠ c) ∨ ∃ (j : Nat) (hj : j < l.length), placeR f l c = (j : Int) ∧ l[j].cls = c ∧ ∀ (i : Nat) (hi : i < l.length), i < j → l[i].cls ≠ c := by
  unfold placeR
  cases hq : l.findIdx? (fun r => decide (r.cls = c)) with
  | none =>
    rw [List.findIdx?_eq_none_iff] at hq
    exact .inl ⟨rfl, fun i hi => of_decide_eq_false (hq l[i] (List.getElem_mem hi))⟩
  | some j =>
    rw [List.findIdx?_eq_some_iff_getElem] at hq
    obtain ⟨hj, h1, h2⟩ := hq
    exact .inr ⟨j, hj, rfl, of_decide_eq_true h1, fun i hi hlt => by simpa using h2 i hlt⟩
def dupR (f : Nat) (l : List (Rl f)) : Prop := ∃ (i k : Nat) (hi : i < l.length) (hk : k < i), l[k].cls = l[i].cls
theorem dup_nodup (f : Nat) (l : List (Rl f)) : (l.map (·.cls)).Nodup ↔ ¬ dupR f l := by
  rw [List.nodup_iff_pairwise_ne, List.pairwise_iff_getElem]
  constructor
  · rintro h ⟨i, k, hi, hk, e⟩
    have := h k i (by simp; omega) (by simpa using hi) hk
    simp at this
    exact this e
  · intro h i j hi hj hij e
    simp at hi hj e
    exact h ⟨j, i, hj, hij, e⟩
theorem check_many {f : Nat} {l : List (Rl f)} (h : 12 < l.length) : checkR f l = 4 := by unfold checkR; rw [if_pos h]
theorem check_bad {f : Nat} {l : List (Rl f)} (h : ¬ 12 < l.length) {j : Nat} (hj : j < l.length) (hb : goodR f l[j] = false) : checkR f l = 1 := by
  unfold checkR
  have : l.all (goodR f) = false := by
    cases hq : l.all (goodR f) with
    | false => rfl
    | true =>
      have := List.all_eq_true.1 hq l[j] (List.getElem_mem hj)
      rw [hb] at this
      cases this
  rw [if_neg h, if_pos this]
theorem check_dup {f : Nat} {l : List (Rl f)} (h : ¬ 12 < l.length) (hg : ∀ (j : Nat) (hj : j < l.length), goodR f l[j] = true) (hd : dupR f l) : checkR f l = 6 := by
  unfold checkR
  have : l.all (goodR f) = true := List.all_eq_true.2 fun r hr => by
    obtain ⟨i, hi, e⟩ := List.mem_iff_getElem.1 hr
    rw [← e]
    exact hg i hi
  rw [if_neg h, this, if_neg (by decide), if_neg (fun hn => (dup_nodup f l).1 hn hd)]
theorem check_ok {f : Nat} {l : List (Rl f)} (h : ¬ 12 < l.length) (hg : ∀ (j : Nat) (hj : j < l.length), goodR f l[j] = true) (hd : ¬ dupR f l) : checkR f l = 0 := by
  unfold checkR
  have : l.all (goodR f) = true := List.all_eq_true.2 fun r hr => by
    obtain ⟨i, hi, e⟩ := List.mem_iff_getElem.1 hr
    rw [← e]
    exact hg i hi
  rw [if_neg h, this, if_neg (by decide), if_pos ((dup_nodup f l).2 hd)]
theorem check_zero {f : Nat} {l : List (Rl f)} (h : checkR f l = 0) : ¬ 12 < l.length ∧ l.all (goodR f) = true ∧ (l.map (·.cls)).Nodup := by
  unfold checkR at h
  by_cases h1 : 12 < l.length
  · rw [if_pos h1] at h; omega
  · rw [if_neg h1] at h
    by_cases h2 : l.all (goodR f) = false
    · rw [if_pos h2] at h; omega
    · rw [if_neg h2] at h
      by_cases h3 : (l.map (·.cls)).Nodup
      · exact ⟨h1, by simpa using h2, h3⟩
      · rw [if_neg h3] at h; omega
theorem place_dup {f : Nat} {l : List (Rl f)} {j : Nat} (hj : j < l.length) (h : placeR f l l[j].cls < (j : Int)) : dupR f l := by
  rcases place_is f l l[j].cls with ⟨h1, h2⟩ | ⟨i, hi, h1, h2, _⟩
  · exact absurd rfl (h2 j hj)
  · exact ⟨j, i, hj, by omega, h2⟩
theorem place_apart {f : Nat} {l : List (Rl f)} (h : ∀ (j : Nat) (hj : j < l.length), ¬ placeR f l l[j].cls < (j : Int)) : ¬ dupR f l := by
  rintro ⟨i, k, hi, hk, e⟩
  refine h i hi ?_
  rcases place_is f l l[i].cls with ⟨h1, h2⟩ | ⟨m, hm, h1, h2, h3⟩
  · exact absurd rfl (h2 i hi)
  · rw [h1]
    rcases Nat.lt_or_ge k m with h' | h'
    · exact absurd e (h3 k (by omega) h')
    · omega
end
end Go.Proofs.YthindhlogkhclaaGreatDoor
