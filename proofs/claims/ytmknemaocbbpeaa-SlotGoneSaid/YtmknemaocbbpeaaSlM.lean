/-
  A slot written over, plainly: what a disk holds behind a Write and a Flush of one sector. No condition.
-/
import Derived.Test.YtmknemaocbbpeaaDkE
import Derived.Test.YtmknemaocbbpeaaSectM
namespace Go.Proofs.Ytmknemaocbbpeaa
open Go.RowKit Gau
set_option linter.unusedVariables false

theorem z256_zs : z256 = zs 256 := rfl
theorem set_other {l : List (List UInt8)} {i j : Nat} (x : List UInt8) (h : i ≠ j) : (l.set i x)[j]? = l[j]? := by
  rw [List.getElem?_set_ne h]

/-- A disk of n sectors of which nothing is pending. -/
structure Rests (s : Dk) (n : Nat) : Prop where
  len : s.safe.length = n
  pend : ∀ i, s.pend i = none

/-- One sector written, and flushed: the disk, and the error. -/
def layD (s : Dk) (i : Nat) (l : List UInt8) : Dk × Int :=
  if s.fuse = 0 then (s, 8) else if (s.wrote i l).acted.fuse = 0 then ((s.wrote i l).acted, 8) else ((s.wrote i l).acted.flushed, 0)

section
variable {s : Dk} {n i : Nat} {l : List UInt8}
theorem flushed_safe (h : Rests s n) : (s.wrote i l).acted.flushed.safe = s.safe.set i l := by
  show over s.safe (upd s.pend i l) = _
  rw [← over_set, over_none _ _ h.pend]
theorem lay_rests (h : Rests s n) :
    ((layD s i l).2 = 0 ∧ (layD s i l).1.safe = s.safe.set i l ∧ Rests (layD s i l).1 n) ∨
    ((layD s i l).2 = 8 ∧ (layD s i l).1.safe = s.safe ∧ (layD s i l).1.fuse = 0 ∧ ∀ j, j ≠ i → (layD s i l).1.pend j = none) := by
  unfold layD
  split
  · exact .inr ⟨rfl, rfl, by assumption, fun j _ => h.pend j⟩
  · split
    · refine .inr ⟨rfl, rfl, by assumption, fun j hj => ?_⟩
      show upd s.pend i l j = none
      unfold upd
      rw [if_neg hj]
      exact h.pend j
    · exact .inl ⟨rfl, flushed_safe h, ⟨by rw [flushed_safe h, List.length_set]; exact h.len, fun _ => rfl⟩⟩
theorem lay_ok (h : s.ok) (hi : i < s.safe.length) (hl : l.length = 256) : (layD s i l).1.safe.length = s.safe.length := by
  unfold layD
  split
  · rfl
  · split
    · rfl
    · exact over_len _ _
theorem acted_live (h : s.fuse = -1) : s.acted.fuse = -1 := by
  unfold Dk.acted
  dsimp only
  rw [h]
  rfl
theorem wrote_fuse (hf : s.fuse = -1) : (s.wrote i l).acted.fuse = -1 := acted_live hf
theorem flushed_fuse (hf : s.fuse = -1) : s.flushed.fuse = -1 := acted_live hf
theorem lay_live (h : Rests s n) (hf : s.fuse = -1) : (layD s i l).2 = 0 ∧ (layD s i l).1.safe = s.safe.set i l ∧ Rests (layD s i l).1 n ∧ (layD s i l).1.fuse = -1 := by
  have e : layD s i l = ((s.wrote i l).acted.flushed, 0) := by
    unfold layD
    rw [if_neg (by rw [hf]; decide), if_neg (by rw [wrote_fuse hf]; decide)]
  rw [e]
  exact ⟨rfl, flushed_safe h, ⟨by rw [flushed_safe h, List.length_set]; exact h.len, fun _ => rfl⟩, flushed_fuse (wrote_fuse hf)⟩
theorem lay_dead (hf : s.fuse = 0) : layD s i l = (s, 8) := if_pos hf
theorem now_at (h : s.pend i = none) {l : List UInt8} (hl : s.safe[i]? = some l) : s.now i = l := by
  unfold Dk.now
  rw [h, Option.getD_none, List.getD_eq_getElem?_getD, hl]
  rfl
theorem now_get (h : s.pend i = none) (hi : i < s.safe.length) : s.safe[i]? = some (s.now i) := by
  unfold Dk.now
  rw [h, Option.getD_none, List.getD_eq_getElem?_getD, List.getElem?_eq_getElem hi]
  rfl

/-- A slot's sector made zero, where it is not: the disk, and the error. -/
def clearD (s : Dk) (i : Nat) : Dk × Int := if s.now i = zs 256 then (s, 0) else layD s i (zs 256)

theorem clear_rests (h : Rests s n) (hi : i < n) :
    ((clearD s i).2 = 0 ∧ (clearD s i).1.safe[i]? = some (zs 256) ∧ Rests (clearD s i).1 n) ∨
    ((clearD s i).2 = 8 ∧ (clearD s i).1.safe = s.safe ∧ (clearD s i).1.fuse = 0 ∧ ∀ j, j ≠ i → (clearD s i).1.pend j = none) := by
  unfold clearD
  split
  · rename_i e
    refine .inl ⟨rfl, ?_, h⟩
    rw [← e]
    exact now_get (h.pend i) (by rw [h.len]; exact hi)
  · rcases lay_rests (i := i) (l := zs 256) h with ⟨a, b, c⟩ | r
    · refine .inl ⟨a, ?_, c⟩
      rw [b, List.getElem?_set_self (by rw [h.len]; exact hi)]
    · exact .inr r

end
end Go.Proofs.Ytmknemaocbbpeaa
