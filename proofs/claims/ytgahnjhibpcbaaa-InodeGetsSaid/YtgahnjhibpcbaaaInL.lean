/-
  num, huge, and live: the page's example (layer 12), over the loaded program. No condition.
-/
import Derived.Test.YtgahnjhibpcbaaaInD
import Derived.Test.YtgahnjhibpcbaaaSame
namespace Go.Proofs.Ytgahnjhibpcbaaa
open Go.RowKit
set_option maxRecDepth 100000
set_option linter.unusedVariables false

/-- num. -/
theorem num12_any (x : Int) (w : World) : Calls Try.prog 11 #[.int .i64 x] w fun e w' => e = .returned (.int .i64 x) ∧ w = w' := by
  go_enter Try.func11, Try.ntmps11
  go_wp2
  go_ret
  exact ⟨rfl, rfl⟩

/-- true, and nothing of what was there has turned. -/
def Yes12 (w : World) (e : Ending) (w' : World) : Prop := e = .returned (.bool true) ∧ Below w.heap.size w w'

set_option maxHeartbeats 1000000 in
/-- live. -/
theorem live_any (w : World) : Calls Try.prog 7 #[] w (Yes12 w) := by
  have h1 := name_any [97, 45, 49, 46, 120]
  rw [name_ex] at h1
  have h2 := name_any [65]
  rw [name_ex2] at h2
  have i1 := ((IS.lit w 3 [2] (by simp [maxLen])).lt).mono (S' := fun b => b < (w.alloc (.cells ([2].map iv).toArray 3)).heap.size) fun b h => h.2
  have v1 := IV.mk [97] 1 i1 (by constructor <;> omega) (by simp [maxLen])
  have hp := put_any _ _ 8 (by simp) _ v1
  rw [put_ex] at hp
  have B0 := (Below.refl w.heap.size w).alloc (Nat.le_refl _) (.cells ([2].map iv).toArray 3)
  clear i1 v1
  change ∀ W : World, Calls Try.prog 13 #[.string ⟨#[97, 45, 49, 46, 120]⟩] W fun e w' => e = .returned (.bool true) ∧ Below W.heap.size W w' at h1
  change ∀ W : World, Calls Try.prog 13 #[.string ⟨#[65]⟩] W fun e w' => e = .returned (.bool false) ∧ Below W.heap.size W w' at h2
  go_enter Try.func7, Try.ntmps7
  go_wp2_with fail
  refine hp.mono ?_
  rintro e w1 ⟨v1, rfl, x1, b1⟩
  replace B0 := B0.trans (b1.mono B0.size)
  obtain ⟨A1, c1, rfl, _⟩ := x1.form
  clear hp b1
  go_wp2_with fail
  refine (num12_any _ _).mono ?_
  rintro e w' ⟨rfl, rfl⟩
  have x2 := BS.lit w1 5 [1, 1, 97, 1, 1, 32] (by simp [maxLen])
  replace x1 := x1.alloc (.cells (([1, 1, 97, 1, 1, 32] : List UInt8).map bv).toArray 5)
  replace B0 := B0.alloc B0.size (.cells (([1, 1, 97, 1, 1, 32] : List UInt8).map bv).toArray 5)
  go_wp2_with fail
  refine (same_to _ _ _ _ _ _ x1 x2).mono ?_
  rintro e w2 ⟨rfl, b2⟩
  replace B0 := B0.trans (b2.mono B0.size)
  clear x1 x2 b2
  go_wp2_with fail
  refine (h1 _).mono ?_
  rintro e w3 ⟨rfl, b3⟩
  replace B0 := B0.trans (b3.mono B0.size)
  clear h1 b3
  go_wp2_with fail
  refine (h2 _).mono ?_
  rintro e w4 ⟨rfl, b4⟩
  replace B0 := B0.trans (b4.mono B0.size)
  clear h2 b4
  go_wp2_with fail
  go_ret
  exact ⟨rfl, B0⟩

/-- What huge tells. -/
def hugeS (x : Ino) (n : Int) : Bool := decide (200 < x.name.length) || (decide (200 < x.at_.length) || (decide (300 < n) && decide (n ≤ 1024)))
theorem huge_no {x : Ino} {n : Int} (h : hugeS x n = false) : x.name.length ≤ 200 ∧ x.at_.length ≤ 200 := by
  unfold hugeS at h
  simp at h
  omega

set_option maxHeartbeats 1000000 in
/-- huge. -/
theorem huge_any (S : Nat → Prop) (v : Value) (x : Ino) (n : Int) (w : World) (h : IV w S v x) :
    Calls Try.prog 6 #[v, .int .i64 n] w fun e w' => e = .returned (.bool (hugeS x n)) ∧ Below w.heap.size w w' := by
  obtain ⟨a, rfl, ha, hz, hl⟩ := h
  obtain ⟨A, c, rfl, hc, hcm, _⟩ := ha.form
  have hs : ((⟨x.name.toArray⟩ : ByteArray).size : Int) = (x.name.length : Int) := rfl
  have hlen : x.at_.length ≤ 9223372036854775807 := by unfold maxLen at hcm; omega
  unfold strV
  generalize (⟨x.name.toArray⟩ : ByteArray) = sx at *
  have B := (Below.refl w.heap.size w).alloc (Nat.le_refl _) (.cells #[.string sx, .int .i64 x.size, .slice A x.at_.length c] 24)
  obtain ⟨r, hr⟩ : ∃ r, r = hugeS x n := ⟨_, rfl⟩
  rw [← hr]
  unfold hugeS at hr
  have e1 : decide (200 < x.name.length) = decide ((200 : Int) < (sx.size : Int)) := decide_eq_decide.2 (by omega)
  have e2 : decide (200 < x.at_.length) = decide ((200 : Int) < (x.at_.length : Int)) := decide_eq_decide.2 (by omega)
  rw [e1, e2] at hr
  clear e1 e2 ha hl hs hz
  generalize x.at_.length = L at *
  cases g1 : decide ((200 : Int) < (sx.size : Int)) with
  | true =>
    rw [g1] at hr
    simp only [Bool.true_or] at hr
    subst hr
    go_enter Try.func6, Try.ntmps6
    go_wp2
    go_ret
    exact ⟨rfl, B⟩
  | false =>
    rw [g1] at hr
    simp only [Bool.false_or] at hr
    cases g2 : decide ((200 : Int) < (L : Int)) with
    | true =>
      rw [g2] at hr
      simp only [Bool.true_or] at hr
      subst hr
      go_enter Try.func6, Try.ntmps6
      go_wp2
      go_ret
      exact ⟨rfl, B⟩
    | false =>
      rw [g2] at hr
      simp only [Bool.false_or] at hr
      cases g3 : decide ((300 : Int) < n) with
      | true =>
        rw [g3] at hr
        simp only [Bool.true_and] at hr
        subst hr
        go_enter Try.func6, Try.ntmps6
        go_wp2
        go_ret
        exact ⟨rfl, B⟩
      | false =>
        rw [g3] at hr
        simp only [Bool.false_and] at hr
        subst hr
        go_enter Try.func6, Try.ntmps6
        go_wp2
        go_ret
        exact ⟨rfl, B⟩
end Go.Proofs.Ytgahnjhibpcbaaa
