/-
  WbE: Arguments of the statements of layer 10, opened: a list of patches. No condition.
  Own: A row of the call's own, of which cells are written over; what '^' makes of two bytes: over the loaded program. No condition.
-/
import Derived.Test.YtgoifhpinoodgaaDoorWo36
import Derived.Test.YtgoifhpinoodgaaDoorWo46
import Derived.Test.YtgoifhpinoodgaaDoorWo00

section
namespace Go.Proofs.YtgoifhpinoodgaaDoor
open Go.RowKit Go.ChangeShapes Go.WideShapes Go.Joins
set_option maxRecDepth 100000
set_option linter.unusedVariables false

theorem cells_put : Tryd.prog.cellsOf 61 = 3 := by kernel_rfl
def puRow (q : Pu) : List Value := [.int .i64 q.1, bv q.2.1, .bool q.2.2]

theorem open_put {H : Type} {enc : TypeId × Value → H} {W : World} {fuel : Nat} {cs : List Value} {x : DataW H × List MemPlace}
    (h : DataW.trod enc Tryd.prog W 0 (fun _ => true) true fuel 61 cs = some x) : ∃ a : Pu, cs = puRow a := by
  obtain ⟨xs, n, _, _, hl, hlen, hf⟩ := DataW.trod_struct Tryd.underlying61 h
  rw [cells_put] at hl
  match cs, hl with
  | [c0, c1, c2], _ =>
    have hxs : xs.length = 3 := by simpa using hlen
    have at_ : ∀ i, (hi : i < 3) → xs[i]? = some (xs[i]'(by omega)) := fun i hi => List.getElem?_eq_getElem (by omega)
    have k0 : DataW.trod enc Tryd.prog W 0 (fun _ => true) true n 3 ([c0, c1, c2].drop 0 |>.take (Tryd.prog.cellsOf 3)) = some (xs[0]'(by omega)) := (hf 0 _ rfl).trans (at_ 0 (by omega))
    have k1 : DataW.trod enc Tryd.prog W 0 (fun _ => true) true n 5 ([c0, c1, c2].drop 1 |>.take (Tryd.prog.cellsOf 5)) = some (xs[1]'(by omega)) := (hf 1 _ rfl).trans (at_ 1 (by omega))
    have k2 : DataW.trod enc Tryd.prog W 0 (fun _ => true) true n 4 ([c0, c1, c2].drop 2 |>.take (Tryd.prog.cellsOf 4)) = some (xs[2]'(by omega)) := (hf 2 _ rfl).trans (at_ 2 (by omega))
    rw [cells_i] at k0
    rw [cells_byte] at k1
    rw [cells_bool] at k2
    obtain ⟨t, e0, _, w0⟩ := DataW.trod_int Tryd.underlying3 k0
    obtain ⟨c, e1, _, w1⟩ := DataW.trod_int Tryd.underlying5 k1
    obtain ⟨s, e2, _⟩ := DataW.trod_bool Tryd.underlying4 k2
    simp at e0 e1 e2
    subst e0 e1 e2
    refine ⟨(t, byteOf c, s), ?_⟩
    unfold puRow bv
    dsimp only
    rw [byteOf_nat w1]

/-- A list of patches that came in. -/
theorem open_puts {H : Type} {enc : TypeId × Value → H} {W : World} {base : Nat} {v : Value} {d : DataW H} {p : List MemPlace}
    (ok : Value.okWide Tryd.prog W .any base 22 v) (h : DataW.Trod enc Tryd.prog W 0 (fun _ => true) true 22 v d p) : ∃ l : List Pu, US W v l := by
  obtain ⟨a0, len, cap, rfl⟩ := okWide_slice Tryd.underlying22 ok
  obtain ⟨fuel, hf⟩ := h
  rcases DataW.trod_slice Tryd.underlying22 hf with ⟨hcs, _⟩ | ⟨a, len', cap', elems, rest, n, _, hcs, _, _, hlc, hm, hel, hi, _, _⟩
  · simp [Value.cells] at hcs
    obtain ⟨rfl, rfl, rfl⟩ := hcs
    exact ⟨[], none, 0, rfl, by simp, by simp [maxLen], fun h => absurd h (by simp)⟩
  · simp [Value.cells] at hcs
    obtain ⟨rfl, rfl, rfl⟩ := hcs
    rw [cells_put] at hi
    have hi2 : ∀ i, i < len → ∃ b : Pu, ∀ (j : Nat) (u : Value), (puRow b)[j]? = some u → W.cell? ((a.add (i * 3)).add j) = some u := by
      intro i hil
      have := hi i hil
      rw [List.getElem?_eq_getElem (by omega)] at this
      obtain ⟨cs, hcs, htr⟩ := Option.bind_eq_some_iff.1 this
      obtain ⟨b, rfl⟩ := open_put htr
      obtain ⟨_, _, hcell⟩ := World.cells?_some hcs
      refine ⟨b, fun j u hj => ?_⟩
      have hjl := (List.getElem?_eq_some_iff.1 hj).1
      rw [hcell j (by simpa [puRow] using hjl)]
      exact hj
    haveI : Inhabited Pu := ⟨(0, 0, false)⟩
    obtain ⟨f, hf⟩ := Deep.choose_lt (α := Pu) hi2
    have hlen : ((List.range len).map f).length = len := by simp
    refine ⟨(List.range len).map f, some a, cap, by rw [hlen], by omega, hm, fun h0 => ?_⟩
    rw [hlen] at h0
    obtain ⟨b, o, spot⟩ := a
    have k0 := hf 0 h0 0 _ rfl
    have hspot : spot = none := by simpa [Addr.add] using World.cell?_spot k0
    subst hspot
    rw [add_plain, add_plain] at k0
    refine ⟨b, o, rfl, World.block_lt_of_cell? _ _ k0, fun i x hix => ?_⟩
    have hil : i < len := by
      have := (List.getElem?_eq_some_iff.1 hix).1
      omega
    simp [hil] at hix
    subst hix
    have q0 := hf i hil 0 _ rfl
    have q1 := hf i hil 1 _ rfl
    have q2 := hf i hil 2 _ rfl
    rw [add_plain, add_plain] at q0 q1 q2
    exact ⟨q0, q1, q2⟩
end Go.Proofs.YtgoifhpinoodgaaDoor
end

section
namespace Go.Proofs.YtgoifhpinoodgaaDoor
open Go.RowKit
set_option maxRecDepth 100000
set_option linter.unusedVariables false

/-- A row of the call's own, of which a cell is written over. -/
def Own (w : World) (g : Nat) (l : List UInt8) (cap : Nat) : Prop := ∃ cur : List Value, KB w g 5 cur.toArray ∧ cur.take l.length = l.map bv ∧ l.length ≤ cap ∧ cap ≤ maxLen

theorem Own.of {w : World} {B : Nat} {v : Value} {l : List UInt8} (h : w.ownsRow B 5 1 v l.length (l.map bv)) (hl : 0 < l.length) :
    ∃ g cap, v = .slice (some ⟨g, 0, none⟩) l.length cap ∧ B ≤ g ∧ Own w g l cap := by
  obtain ⟨_, h2⟩ := h
  rcases h2 with ⟨rfl, h0⟩ | ⟨g, cap, cur, rfl, hb, hg, hnc, hcm, hcs, htk⟩
  · omega
  · exact ⟨g, cap, rfl, hb, cur.toList, hg, by simpa using htk, hnc, hcm⟩

theorem Own.BS {w : World} {g : Nat} {l : List UInt8} {cap : Nat} (h : Own w g l cap) : BS w (fun b => b = g) (.slice (some ⟨g, 0, none⟩) l.length cap) l := by
  obtain ⟨cur, hk, ht, hc, hm⟩ := h
  refine ⟨_, cap, rfl, hc, hm, (fun h => by cases h), fun h0 => ⟨g, 0, rfl, rfl, hk.lt, fun j u hu => ?_⟩⟩
  rw [Nat.zero_add, hk.cell]
  have hj := (List.getElem?_eq_some_iff.1 hu).1
  have : (cur.take l.length)[j]? = some (bv u) := by rw [ht, List.getElem?_map, hu]; rfl
  rw [List.getElem?_take, if_pos hj] at this
  simpa using this

theorem Own.set {w : World} {g : Nat} {l : List UInt8} {cap : Nat} (h : Own w g l cap) (i : Nat) (u : UInt8) : Own (w.setCell ⟨g, i, none⟩ (bv u)) g (l.set i u) cap := by
  obtain ⟨cur, hk, ht, hc, hm⟩ := h
  refine ⟨cur.set i (bv u), ?_, ?_, by simpa using hc, hm⟩
  · have := hk.put i (bv u)
    simpa using this
  · rw [List.length_set, List.take_set, ht, List.map_set]

theorem Own.below {w w' : World} {g : Nat} {l : List UInt8} {cap : Nat} (h : Own w g l cap) (hb : Below w.heap.size w w') : Own w' g l cap := by
  obtain ⟨cur, hk, r⟩ := h
  exact ⟨cur, hk.below hb hk.lt, r⟩

theorem Own.free {w : World} {g : Nat} {l : List UInt8} {cap : Nat} (h : Own w g l cap) (i : Nat) : w.frozen? ⟨g, i, none⟩ = false := by
  obtain ⟨cur, hk, r⟩ := h
  exact hk.free i

/-- What '^' makes of two bytes. -/
theorem xor_byte (a b : UInt8) : bits .xor .u8 (a.toNat : Int) (b.toNat : Int) = ((a ^^^ b).toNat : Int) := by
  have ha := a.toNat_lt
  have hb := b.toNat_lt
  have hx : a.toNat ^^^ b.toNat < 2 ^ 8 := Nat.xor_lt_two_pow (by omega) (by omega)
  have h1 : (BitVec.ofInt 8 (a.toNat : Int)).toNat = a.toNat := by
    rw [BitVec.ofInt_natCast, BitVec.toNat_ofNat]; exact Nat.mod_eq_of_lt (by omega)
  have h2 : (BitVec.ofInt 8 (b.toNat : Int)).toNat = b.toNat := by
    rw [BitVec.ofInt_natCast, BitVec.toNat_ofNat]; exact Nat.mod_eq_of_lt (by omega)
  have h3 : (a ^^^ b).toNat = a.toNat ^^^ b.toNat := UInt8.toNat_xor a b
  show IntKind.u8.wrap ((BitVec.ofInt 8 (a.toNat : Int) ^^^ BitVec.ofInt 8 (b.toNat : Int)).toNat : Int) = _
  rw [BitVec.toNat_xor, h1, h2, IntKind.wrap_u8, h3]
  omega

end Go.Proofs.YtgoifhpinoodgaaDoor
end
