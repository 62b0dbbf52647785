/-
  WbF: Arguments of the statement WalAtomic, opened: a list of crashes; the law. No condition but the table roots.
-/
import Derived.Test.YtgoifhpinoodgaaGreatDoorWz40
import Derived.Test.YtgoifhpinoodgaaGreatDoorWz44

section
namespace Go.Proofs.YtgoifhpinoodgaaGreatDoor
open Go.RowKit Go.ChangeShapes Go.WideShapes Go.Joins
set_option maxRecDepth 100000
set_option linter.unusedVariables false

theorem cells_crash : Tryz.prog.cellsOf 42 = 2 := by kernel_rfl

theorem keep_of_trod {H : Type} {enc : TypeId × Value → H} {W : World} {fuel : Nat} {cs : List Value} {x : DataW H × List MemPlace}
    (h : DataW.trod enc Tryz.prog W 0 (fun _ => true) true fuel 40 cs = some x) : ∃ A n c, ∃ ks : List Bool, cs = [.slice A n c] ∧ CS W (fun b => b < W.heap.size) (.slice A n c) (ks.map Value.bool) := by
  rcases Deep.open_bools Tryz.underlying40 Tryz.underlying4 (by kernel_rfl) h with ⟨hcs, _⟩ | ⟨a, len, cap, B, hcs, _, hl, hm, _, hc⟩
  · exact ⟨none, 0, 0, [], hcs, CS.nil _ _⟩
  · have hlen : (((List.range len).map B).map Value.bool).length = len := by simp
    refine ⟨some a, len, cap, (List.range len).map B, hcs, some a, cap, by rw [hlen], by omega, hm, fun h0 => ?_⟩
    rw [hlen] at h0
    obtain ⟨b, o, spot⟩ := a
    have k0 := hc 0 (by omega)
    have hspot : spot = none := by simpa [Addr.add] using World.cell?_spot k0
    subst hspot
    rw [add_plain] at k0
    refine ⟨b, o, rfl, World.block_lt_of_cell? _ _ k0, World.block_lt_of_cell? _ _ k0, fun j u hu => ?_⟩
    have hj : j < len := by
      have := (List.getElem?_eq_some_iff.1 hu).1
      omega
    have kj := hc j (by omega)
    rw [add_plain] at kj
    rw [kj]
    simpa [hj] using hu

theorem open_cr {H : Type} {enc : TypeId × Value → H} {W : World} {fuel : Nat} {cs : List Value} {x : DataW H × List MemPlace}
    (h : DataW.trod enc Tryz.prog W 0 (fun _ => true) true fuel 42 cs = some x) : ∃ a : Cr, ∃ A n c, cs = [.int .i64 a.1, .slice A n c] ∧ I64 a.1 ∧ CS W (fun b => b < W.heap.size) (.slice A n c) (a.2.map Value.bool) := by
  obtain ⟨xs, n, _, _, hl, hlen, hf⟩ := DataW.trod_struct Tryz.underlying42 h
  rw [cells_crash] at hl
  match cs, hl with
  | [c0, c1], _ =>
    have hxs : xs.length = 2 := by simpa using hlen
    have at_ : ∀ i, (hi : i < 2) → xs[i]? = some (xs[i]'(by omega)) := fun i hi => List.getElem?_eq_getElem (by omega)
    have k0 : DataW.trod enc Tryz.prog W 0 (fun _ => true) true n 3 ([c0, c1].drop 0 |>.take (Tryz.prog.cellsOf 3)) = some (xs[0]'(by omega)) := (hf 0 _ rfl).trans (at_ 0 (by omega))
    have k1 : DataW.trod enc Tryz.prog W 0 (fun _ => true) true n 40 ([c0, c1].drop 1 |>.take (Tryz.prog.cellsOf 40)) = some (xs[1]'(by omega)) := (hf 1 _ rfl).trans (at_ 1 (by omega))
    rw [cells_i] at k0
    rw [cells_bools] at k1
    obtain ⟨t, e0, _, w0⟩ := DataW.trod_int Tryz.underlying3 k0
    obtain ⟨A, m, c, ks, e1, hc⟩ := keep_of_trod k1
    simp at e0 e1
    subst e0 e1
    have ht : -9223372036854775808 ≤ t ∧ t ≤ 9223372036854775807 := by simpa [Lit.wf, IntKind.min, IntKind.max, IntKind.signed, IntKind.bits] using w0
    exact ⟨(t, ks), A, m, c, rfl, ht, hc⟩

/-- A list of crashes that came in. -/
theorem open_crashes {H : Type} {enc : TypeId × Value → H} {W : World} {base : Nat} {v : Value} {d : DataW H} {p : List MemPlace}
    (ok : Value.okWide Tryz.prog W .any base 23 v) (h : DataW.Trod enc Tryz.prog W 0 (fun _ => true) true 23 v d p) : ∃ l : List Cr, ES W v l := by
  obtain ⟨a0, len, cap, rfl⟩ := okWide_slice Tryz.underlying23 ok
  obtain ⟨fuel, hf⟩ := h
  rcases DataW.trod_slice Tryz.underlying23 hf with ⟨hcs, _⟩ | ⟨a, len', cap', elems, rest, n, _, hcs, _, _, hlc, hm, hel, hi, _, _⟩
  · simp [Value.cells] at hcs
    obtain ⟨rfl, rfl, rfl⟩ := hcs
    exact ⟨[], none, 0, rfl, by simp, by simp [maxLen], fun h => absurd h (by simp)⟩
  · simp [Value.cells] at hcs
    obtain ⟨rfl, rfl, rfl⟩ := hcs
    rw [cells_crash] at hi
    have hi2 : ∀ i, i < len → ∃ b : Cr, I64 b.1 ∧ ∃ A m c, CS W (fun b => b < W.heap.size) (.slice A m c) (b.2.map Value.bool) ∧ W.cell? ((a.add (i * 2)).add 0) = some (.int .i64 b.1) ∧ W.cell? ((a.add (i * 2)).add 1) = some (.slice A m c) := by
      intro i hil
      have := hi i hil
      rw [List.getElem?_eq_getElem (by omega)] at this
      obtain ⟨cs, hcs, htr⟩ := Option.bind_eq_some_iff.1 this
      obtain ⟨b, A, m, c, rfl, hb, hk⟩ := open_cr htr
      obtain ⟨_, _, hcell⟩ := World.cells?_some hcs
      exact ⟨b, hb, A, m, c, hk, hcell 0 (by simp), hcell 1 (by simp)⟩
    haveI : Inhabited Cr := ⟨(0, [])⟩
    obtain ⟨f, hf⟩ := Deep.choose_lt (α := Cr) hi2
    have hlen : ((List.range len).map f).length = len := by simp
    refine ⟨(List.range len).map f, some a, cap, by rw [hlen], by omega, hm, fun h0 => ?_⟩
    rw [hlen] at h0
    obtain ⟨b, o, spot⟩ := a
    obtain ⟨_, _, _, _, _, k0, _⟩ := hf 0 h0
    have hspot : spot = none := by simpa [Addr.add] using World.cell?_spot k0
    subst hspot
    rw [add_plain, add_plain] at k0
    refine ⟨b, o, rfl, World.block_lt_of_cell? _ _ k0, fun i x hix => ?_⟩
    have hil : i < len := by
      have := (List.getElem?_eq_some_iff.1 hix).1
      omega
    simp [hil] at hix
    subst hix
    obtain ⟨hb, A, m, c, hk, q0, q1⟩ := hf i hil
    rw [add_plain, add_plain] at q0 q1
    exact ⟨q0, hb, A, m, c, q1, hk⟩

theorem walAtomic_law {H : Type} (enc : TypeId × Value → H) (W : World) (base : Nat) (ht : Tab W) (v0 : Value) (d0 : DataW H) (p0 : List MemPlace) (v1 : Value) (d1 : DataW H) (p1 : List MemPlace) (v2 : Value) (d2 : DataW H) (p2 : List MemPlace)
    (ok0 : Value.okWide Tryz.prog W .any base 22 v0) (ok1 : Value.okWide Tryz.prog W .any base 22 v1) (ok2 : Value.okWide Tryz.prog W .any base 23 v2)
    (h0 : DataW.Trod enc Tryz.prog W 0 (fun _ => true) true 22 v0 d0 p0) (h1 : DataW.Trod enc Tryz.prog W 0 (fun _ => true) true 22 v1 d1 p1) (h2 : DataW.Trod enc Tryz.prog W 0 (fun _ => true) true 23 v2 d2 p2) :
    Calls Tryz.prog 3 #[v0, v1, v2] W fun e W' => e = .returned (.bool true) ∧ Below W.heap.size W W' := by
  obtain ⟨l0, u0⟩ := open_puts ok0 h0
  obtain ⟨l1, u1⟩ := open_puts ok1 h1
  obtain ⟨l2, u2⟩ := open_crashes ok2 h2
  by_cases hs : l0.length ≤ 20 ∧ l1.length ≤ 20 ∧ l2.length ≤ 6
  · exact atomic_walk l0 l1 l2 v0 v1 v2 W ht u0 u1 u2 hs.1 hs.2.1 hs.2.2
  · have hd : 20 < l0.length ∨ 20 < l1.length ∨ 6 < l2.length := by clear u0 u1 u2; omega
    obtain ⟨A0, c0, rfl, _⟩ := u0
    obtain ⟨A1, c1, rfl, _⟩ := u1
    obtain ⟨A2, c2, rfl, _⟩ := u2
    exact atomic_long l0.length l1.length l2.length A0 A1 A2 c0 c1 c2 W ht hd
end Go.Proofs.YtgoifhpinoodgaaGreatDoor
end
