/-
  A row of the call's own, of which cells are written over; what '^' makes of two bytes: over the loaded program. No condition.
-/
import Derived.Test.YtfhkkmhidccdmaaBase
namespace Go.Proofs.Ytfhkkmhidccdmaa
open Go.RowKit
set_option linter.unusedVariables false

/-- A row of the call's own, of which a cell is written over. -/
def Own (w : World) (g : Nat) (l : List UInt8) (cap : Nat) : Prop := ∃ cur : List Value, KB w g 5 cur.toArray ∧ cur.take l.length = l.map bv ∧ l.length ≤ cap ∧ cap ≤ maxLen

theorem Own.of {w : World} {B : Nat} {v : Value} {l : List UInt8} (h : w.ownsRow B 5 1 v l.length (l.map bv)) (hl : 0 < l.length) :
    ∃ g cap, v = .slice (some ⟨g, 0, none⟩) l.length cap ∧ B ≤ g ∧ Own w g l cap := by
  obtain ⟨_, h2⟩ := h
  rcases h2 with ⟨rfl, h0⟩ | ⟨g, cap, cur, rfl, hb, hg, hnc, hcm, hcs, htk⟩
  · omega
  · exact ⟨g, cap, rfl, hb, cur.toList, hg, by simpa using htk, hnc, hcm⟩

theorem Own.BS {w : World} {g : Nat} {l : List UInt8} {cap : Nat} (h : Own w g l cap) : BS w (fun b => b = g) (.slice (some ⟨g, 0, none⟩) l.length cap) l := by
  obtain ⟨cur, hk, ht, hc, hm⟩ := h
  refine ⟨_, cap, rfl, hc, hm, (fun h => by cases h), fun h0 => ⟨g, 0, rfl, rfl, hk.lt, fun j u hu => ?_⟩⟩
  rw [Nat.zero_add, hk.cell]
  have hj := (List.getElem?_eq_some_iff.1 hu).1
  have : (cur.take l.length)[j]? = some (bv u) := by rw [ht, List.getElem?_map, hu]; rfl
  rw [List.getElem?_take, if_pos hj] at this
  simpa using this

theorem Own.set {w : World} {g : Nat} {l : List UInt8} {cap : Nat} (h : Own w g l cap) (i : Nat) (u : UInt8) : Own (w.setCell ⟨g, i, none⟩ (bv u)) g (l.set i u) cap := by
  obtain ⟨cur, hk, ht, hc, hm⟩ := h
  refine ⟨cur.set i (bv u), ?_, ?_, by simpa using hc, hm⟩
  · have := hk.put i (bv u)
    simpa using this
  · rw [List.length_set, List.take_set, ht, List.map_set]

theorem Own.below {w w' : World} {g : Nat} {l : List UInt8} {cap : Nat} (h : Own w g l cap) (hb : Below w.heap.size w w') : Own w' g l cap := by
  obtain ⟨cur, hk, r⟩ := h
  exact ⟨cur, hk.below hb hk.lt, r⟩

theorem Own.free {w : World} {g : Nat} {l : List UInt8} {cap : Nat} (h : Own w g l cap) (i : Nat) : w.frozen? ⟨g, i, none⟩ = false := by
  obtain ⟨cur, hk, r⟩ := h
  exact hk.free i

/-- What '^' makes of two bytes. -/
theorem xor_byte (a b : UInt8) : bits .xor .u8 (a.toNat : Int) (b.toNat : Int) = ((a ^^^ b).toNat : Int) := by
  have ha := a.toNat_lt
  have hb := b.toNat_lt
  have hx : a.toNat ^^^ b.toNat < 2 ^ 8 := Nat.xor_lt_two_pow (by omega) (by omega)
  have h1 : (BitVec.ofInt 8 (a.toNat : Int)).toNat = a.toNat := by
    rw [BitVec.ofInt_natCast, BitVec.toNat_ofNat]; exact Nat.mod_eq_of_lt (by omega)
  have h2 : (BitVec.ofInt 8 (b.toNat : Int)).toNat = b.toNat := by
    rw [BitVec.ofInt_natCast, BitVec.toNat_ofNat]; exact Nat.mod_eq_of_lt (by omega)
  have h3 : (a ^^^ b).toNat = a.toNat ^^^ b.toNat := UInt8.toNat_xor a b
  show IntKind.u8.wrap ((BitVec.ofInt 8 (a.toNat : Int) ^^^ BitVec.ofInt 8 (b.toNat : Int)).toNat : Int) = _
  rw [BitVec.toNat_xor, h1, h2, IntKind.wrap_u8, h3]
  omega

end Go.Proofs.Ytfhkkmhidccdmaa
