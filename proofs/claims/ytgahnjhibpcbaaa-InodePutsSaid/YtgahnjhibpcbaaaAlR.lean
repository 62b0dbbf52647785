/-
  The document's own Has and Pages (layer 11), over the loaded program: each one's contract. No condition but sizes that each contract names.
-/
import Derived.Test.YtgahnjhibpcbaaaAlA
namespace Go.Proofs.Ytgahnjhibpcbaaa
open Go.RowKit
set_option maxRecDepth 100000
set_option linter.unusedVariables false

/-- Pages. -/
theorem rpages_any (n : Int) (hn : I64 n) (w : World) :
    Calls Try.prog 48 #[.int .i64 n] w fun e w' => e = .returned (.int .i64 (pagesS n)) ∧ w = w' := by
  obtain ⟨h1, h2⟩ := hn
  unfold pagesS
  by_cases h : n < 1
  · rw [if_pos h]
    go_enter Try.func48, Try.ntmps48
    go_wp2
    go_ret
    exact ⟨rfl, rfl⟩
  · rw [if_neg h]
    have e1 : (n - 1).tdiv 256 = (n - 1) / 256 := Int.tdiv_eq_ediv_of_nonneg (by omega)
    go_enter Try.func48, Try.ntmps48
    go_wp2
    go_ret
    exact ⟨rfl, rfl⟩

theorem mem_take_no {l : List Int} {k : Nat} {z : Int} (h : ∀ i, i < k → l[i]? ≠ some z) (hk : k = l.length) : ¬ z ∈ l := fun hm => by
  obtain ⟨i, hi, e⟩ := List.mem_iff_getElem.1 hm
  exact h i (by omega) (by rw [List.getElem?_eq_getElem hi, e])

/-- Has. -/
theorem has_any (S : Nat → Prop) (v : Value) (l : List Int) (z : Int) (w : World) (h : IS w S v l) :
    Calls Try.prog 49 #[v, .int .i64 z] w fun e w' => e = .returned (.bool (decide (z ∈ l))) ∧ w = w' := by
  obtain ⟨A, c, rfl, hc, hcm, _⟩ := h.form
  have hlen : l.length ≤ 9223372036854775807 := by unfold maxLen at hcm; omega
  obtain ⟨R, hR⟩ : ∃ R, R = decide (z ∈ l) := ⟨_, rfl⟩
  have HR := Lib.hid hR
  rw [← hR]
  clear hR hc hcm
  go_enter Try.func49, Try.ntmps49
  go_wp2
  go_loopw [5] (fun iw wr => ∃ k : Nat, k ≤ l.length ∧ iw = .int .i64 k ∧ Hid (∀ i, i < k → l[i]? ≠ some z) ∧ wr = w) (fun iw _ => l.length - (intOf iw).toNat)
  case atStart => exact ⟨0, by omega, rfl, fun i hi => absurd hi (Nat.not_lt_zero _), rfl⟩
  case round =>
    obtain ⟨k, hk, rfl, HS, rfl⟩ := hrel
    by_cases hlt : k < l.length
    · obtain ⟨b, o, rfl, _, _, h1⟩ := h.at_ (by omega)
      have hg : l[k]? = some l[k] := List.getElem?_eq_getElem hlt
      have k1 := h1 k _ hg
      have HG := Lib.hid hg
      have HM : Hid (l[k] ∈ l) := List.getElem_mem hlt
      clear h1 h hg
      generalize l[k] = y at *
      by_cases e : y = z
      · subst e
        have hr : R = true := by rw [HR.out]; exact decide_eq_true HM.out
        subst hr
        clear HS HR HG HM
        go_wp2
        go_ret
        exact ⟨rfl, rfl⟩
      · have HS2 : Hid (∀ i, i < k + 1 → l[i]? ≠ some z) := fun i hi hz => by
          by_cases e2 : i = k
          · subst e2
            rw [HG.out] at hz
            injection hz with hz
            exact e hz
          · exact HS.out i (by omega) hz
        have D1 : decide (y = z) = false := decide_eq_false e
        have D2 : (y == z) = false := by simp [e]
        clear HS HR HG HM
        go_wp2
        go_roundw
        case rel => exact ⟨k + 1, by omega, by go_num, HS2, trivial⟩
        case measure => simp [intOf]; omega
    · obtain rfl : k = l.length := by omega
      have hr : R = false := by rw [HR.out]; exact decide_eq_false (mem_take_no HS.out rfl)
      subst hr
      clear HS HR
      go_wp2
      go_ret
      exact ⟨rfl, rfl⟩

end Go.Proofs.Ytgahnjhibpcbaaa
