/-
  WbL: Arguments of the statement WalOpens, opened: a list of spoils; the law. No condition but the table roots.
-/
import Derived.Test.YtgoifhpinoodgaaDoorWo48

section
namespace Go.Proofs.YtgoifhpinoodgaaDoor
open Go.RowKit Go.ChangeShapes Go.WideShapes Go.Joins
set_option maxRecDepth 100000
set_option linter.unusedVariables false

theorem cells_spoil : Tryd.prog.cellsOf 42 = 2 := by kernel_rfl
theorem open_sp {H : Type} {enc : TypeId × Value → H} {W : World} {fuel : Nat} {cs : List Value} {x : DataW H × List MemPlace}
    (h : DataW.trod enc Tryd.prog W 0 (fun _ => true) true fuel 42 cs = some x) : ∃ a : Sp, cs = [.int .i64 a.1, .int .u8 (a.2.toNat : Int)] := by
  obtain ⟨xs, n, _, _, hl, hlen, hf⟩ := DataW.trod_struct Tryd.underlying42 h
  rw [cells_spoil] at hl
  match cs, hl with
  | [c0, c1], _ =>
    have hxs : xs.length = 2 := by simpa using hlen
    have at_ : ∀ i, (hi : i < 2) → xs[i]? = some (xs[i]'(by omega)) := fun i hi => List.getElem?_eq_getElem (by omega)
    have k0 : DataW.trod enc Tryd.prog W 0 (fun _ => true) true n 3 ([c0, c1].drop 0 |>.take (Tryd.prog.cellsOf 3)) = some (xs[0]'(by omega)) := (hf 0 _ rfl).trans (at_ 0 (by omega))
    have k1 : DataW.trod enc Tryd.prog W 0 (fun _ => true) true n 5 ([c0, c1].drop 1 |>.take (Tryd.prog.cellsOf 5)) = some (xs[1]'(by omega)) := (hf 1 _ rfl).trans (at_ 1 (by omega))
    rw [cells_i] at k0
    rw [cells_byte] at k1
    obtain ⟨t, e0, _, w0⟩ := DataW.trod_int Tryd.underlying3 k0
    obtain ⟨c, e1, _, w1⟩ := DataW.trod_int Tryd.underlying5 k1
    simp at e0 e1
    subst e0 e1
    refine ⟨(t, byteOf c), ?_⟩
    dsimp only
    rw [byteOf_nat w1]

/-- A list of spoils that came in. -/
theorem open_spoils {H : Type} {enc : TypeId × Value → H} {W : World} {base : Nat} {v : Value} {d : DataW H} {p : List MemPlace}
    (ok : Value.okWide Tryd.prog W .any base 23 v) (h : DataW.Trod enc Tryd.prog W 0 (fun _ => true) true 23 v d p) : ∃ l : List Sp, SS W v l := by
  obtain ⟨a0, len, cap, rfl⟩ := okWide_slice Tryd.underlying23 ok
  obtain ⟨fuel, hf⟩ := h
  rcases DataW.trod_slice Tryd.underlying23 hf with ⟨hcs, _⟩ | ⟨a, len', cap', elems, rest, n, _, hcs, _, _, hlc, hm, hel, hi, _, _⟩
  · simp [Value.cells] at hcs
    obtain ⟨rfl, rfl, rfl⟩ := hcs
    exact ⟨[], none, 0, rfl, by simp, by simp [maxLen], fun h => absurd h (by simp)⟩
  · simp [Value.cells] at hcs
    obtain ⟨rfl, rfl, rfl⟩ := hcs
    rw [cells_spoil] at hi
    have hi2 : ∀ i, i < len → ∃ b : Sp, W.cell? ((a.add (i * 2)).add 0) = some (.int .i64 b.1) ∧ W.cell? ((a.add (i * 2)).add 1) = some (.int .u8 (b.2.toNat : Int)) := by
      intro i hil
      have := hi i hil
      rw [List.getElem?_eq_getElem (by omega)] at this
      obtain ⟨cs, hcs, htr⟩ := Option.bind_eq_some_iff.1 this
      obtain ⟨b, rfl⟩ := open_sp htr
      obtain ⟨_, _, hcell⟩ := World.cells?_some hcs
      exact ⟨b, hcell 0 (by simp), hcell 1 (by simp)⟩
    haveI : Inhabited Sp := ⟨(0, 0)⟩
    obtain ⟨f, hf⟩ := Deep.choose_lt (α := Sp) hi2
    have hlen : ((List.range len).map f).length = len := by simp
    refine ⟨(List.range len).map f, some a, cap, by rw [hlen], by omega, hm, fun h0 => ?_⟩
    rw [hlen] at h0
    obtain ⟨b, o, spot⟩ := a
    obtain ⟨k0, _⟩ := hf 0 h0
    have hspot : spot = none := by simpa [Addr.add] using World.cell?_spot k0
    subst hspot
    rw [add_plain, add_plain] at k0
    refine ⟨b, o, rfl, World.block_lt_of_cell? _ _ k0, fun i x hix => ?_⟩
    have hil : i < len := by
      have := (List.getElem?_eq_some_iff.1 hix).1
      omega
    simp [hil] at hix
    subst hix
    obtain ⟨q0, q1⟩ := hf i hil
    rw [add_plain, add_plain] at q0 q1
    exact ⟨q0, q1⟩

theorem walOpens_law {H : Type} (enc : TypeId × Value → H) (W : World) (base : Nat) (ht : Tab W) (v0 : Value) (d0 : DataW H) (p0 : List MemPlace) (v1 : Value) (d1 : DataW H) (p1 : List MemPlace) (v2 : Value) (d2 : DataW H) (p2 : List MemPlace)
    (ok0 : Value.okWide Tryd.prog W .any base 3 v0) (ok1 : Value.okWide Tryd.prog W .any base 22 v1) (ok2 : Value.okWide Tryd.prog W .any base 23 v2)
    (h0 : DataW.Trod enc Tryd.prog W 0 (fun _ => true) true 3 v0 d0 p0) (h1 : DataW.Trod enc Tryd.prog W 0 (fun _ => true) true 22 v1 d1 p1) (h2 : DataW.Trod enc Tryd.prog W 0 (fun _ => true) true 23 v2 d2 p2) :
    Calls Tryd.prog 3 #[v0, v1, v2] W fun e W' => e = .returned (.bool true) ∧ Below W.heap.size W W' := by
  obtain ⟨n, rfl, rfl, rfl, w0⟩ := open_int Tryd.underlying3 ok0 h0
  obtain ⟨l1, u1⟩ := open_puts ok1 h1
  obtain ⟨l2, u2⟩ := open_spoils ok2 h2
  by_cases hs : l1.length ≤ 20 ∧ l2.length ≤ 20 ∧ 2 ≤ n ∧ n ≤ 20
  · obtain ⟨k1, k2, k3, k4⟩ := hs
    obtain ⟨m, rfl⟩ := Int.eq_ofNat_of_zero_le (show 0 ≤ n by omega)
    exact opens_walk m l1 l2 v1 v2 W ht u1 u2 k1 k2 (by omega) (by omega)
  · have hd : 20 < l1.length ∨ 20 < l2.length ∨ n < 2 ∨ 20 < n := by clear u1 u2; omega
    obtain ⟨A1, c1, rfl, _⟩ := u1
    obtain ⟨A2, c2, rfl, _⟩ := u2
    exact opens_long n l1.length l2.length A1 A2 c1 c2 W ht hd
end Go.Proofs.YtgoifhpinoodgaaDoor
end
