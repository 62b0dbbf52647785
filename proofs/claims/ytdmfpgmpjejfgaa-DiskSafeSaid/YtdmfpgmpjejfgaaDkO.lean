/-
  Arguments of the statements of layer 8, opened: a list of acts, and a list of bools. No condition.
-/
import Derived.Test.YtdmfpgmpjejfgaaArgs
import Derived.Test.YtdmfpgmpjejfgaaKp
import Derived.Test.YtdmfpgmpjejfgaaRow
import Derived.Deep.Grids
namespace Go.Proofs.Ytdmfpgmpjejfgaa
open Go.RowKit Go.ChangeShapes Go.WideShapes Go.Joins
set_option linter.unusedVariables false

/-- A list of bools that came in. -/
theorem open_keep {H : Type} {enc : TypeId × Value → H} {W : World} {base : Nat} {v : Value} {d : DataW H} {p : List MemPlace}
    (ok : Value.okWide Try.prog W .any base 23 v) (h : DataW.Trod enc Try.prog W 0 (fun _ => true) true 23 v d p) : ∃ ks : List Bool, CS W (fun b => b < W.heap.size) v (ks.map Value.bool) := by
  obtain ⟨a0, len, cap, rfl⟩ := okWide_slice Try.underlying23 ok
  obtain ⟨fuel, hf⟩ := h
  rcases Deep.open_bools Try.underlying23 Try.underlying4 (by kernel_rfl) hf with ⟨hcs, _⟩ | ⟨a, len', cap', B, hcs, _, hl, hm, _, hc⟩
  · simp [Value.cells] at hcs
    obtain ⟨rfl, rfl, rfl⟩ := hcs
    exact ⟨[], CS.nil _ _⟩
  · simp [Value.cells] at hcs
    obtain ⟨rfl, rfl, rfl⟩ := hcs
    have hlen : (((List.range len).map B).map Value.bool).length = len := by simp
    refine ⟨(List.range len).map B, some a, cap, by rw [hlen], by omega, hm, fun h0 => ?_⟩
    rw [hlen] at h0
    obtain ⟨b, o, spot⟩ := a
    have k0 := hc 0 (by omega)
    have hspot : spot = none := by simpa [Addr.add] using World.cell?_spot k0
    subst hspot
    rw [add_plain] at k0
    refine ⟨b, o, rfl, World.block_lt_of_cell? _ _ k0, World.block_lt_of_cell? _ _ k0, fun j u hu => ?_⟩
    have hj : j < len := by
      have := (List.getElem?_eq_some_iff.1 hu).1
      omega
    have kj := hc j (by omega)
    rw [add_plain] at kj
    rw [kj]
    simpa [hj] using hu

/-- An act, as a law takes it. -/
structure Ac where
  kind : Int
  at_ : Int
  c : UInt8
  short : Bool
  keep : Value
def acRow (a : Ac) : List Value := [.int .i64 a.kind, .int .i64 a.at_, bv a.c, .bool a.short, a.keep]
def Ac.ok (a : Ac) : Prop := (∃ A n c, a.keep = .slice A n c) ∧ -9223372036854775808 ≤ a.kind ∧ a.kind ≤ 9223372036854775807 ∧ -9223372036854775808 ≤ a.at_ ∧ a.at_ ≤ 9223372036854775807

/-- The slice value v reads, in w, as the acts l. -/
def AS (w : World) (v : Value) (l : List Ac) : Prop :=
  ∃ A c, v = .slice A l.length c ∧ l.length ≤ c ∧ c ≤ maxLen ∧ (0 < l.length → ∃ b o, A = some ⟨b, o, none⟩ ∧ b < w.heap.size ∧ ∀ (i : Nat) (a : Ac), l[i]? = some a → a.ok ∧ w.rangeAt b (o + i * 5) (acRow a))
theorem AS.below {w w' : World} {v : Value} {l : List Ac} (h : AS w v l) (hb : Below w.heap.size w w') : AS w' v l := by
  obtain ⟨A, c, e, h1, h2, hx⟩ := h
  refine ⟨A, c, e, h1, h2, fun h0 => ?_⟩
  obtain ⟨b, o, ea, hlt, hx⟩ := hx h0
  refine ⟨b, o, ea, Nat.lt_of_lt_of_le hlt hb.size, fun i a hi => ⟨(hx i a hi).1, fun j u hj => ?_⟩⟩
  exact (World.cell?_of_block (w := w) (hb.block b hlt)).trans ((hx i a hi).2 j u hj)

theorem cells_act : Try.prog.cellsOf 32 = 5 := by kernel_rfl
theorem cells_bool : Try.prog.cellsOf 4 = 1 := by kernel_rfl
theorem cells_i : Try.prog.cellsOf 3 = 1 := by kernel_rfl
theorem cells_bools : Try.prog.cellsOf 23 = 1 := by kernel_rfl

theorem open_act {H : Type} {enc : TypeId × Value → H} {W : World} {fuel : Nat} {cs : List Value} {x : DataW H × List MemPlace}
    (h : DataW.trod enc Try.prog W 0 (fun _ => true) true fuel 32 cs = some x) : ∃ a : Ac, a.ok ∧ cs = acRow a := by
  obtain ⟨xs, n, _, _, hl, hlen, hf⟩ := DataW.trod_struct Try.underlying32 h
  rw [cells_act] at hl
  match cs, hl with
  | [c0, c1, c2, c3, c4], _ =>
    have hxs : xs.length = 5 := by simpa using hlen
    have at_ : ∀ i, (hi : i < 5) → xs[i]? = some (xs[i]'(by omega)) := fun i hi => List.getElem?_eq_getElem (by omega)
    have k0 : DataW.trod enc Try.prog W 0 (fun _ => true) true n 3 ([c0, c1, c2, c3, c4].drop 0 |>.take (Try.prog.cellsOf 3)) = some (xs[0]'(by omega)) := (hf 0 _ rfl).trans (at_ 0 (by omega))
    have k1 : DataW.trod enc Try.prog W 0 (fun _ => true) true n 3 ([c0, c1, c2, c3, c4].drop 1 |>.take (Try.prog.cellsOf 3)) = some (xs[1]'(by omega)) := (hf 1 _ rfl).trans (at_ 1 (by omega))
    have k2 : DataW.trod enc Try.prog W 0 (fun _ => true) true n 5 ([c0, c1, c2, c3, c4].drop 2 |>.take (Try.prog.cellsOf 5)) = some (xs[2]'(by omega)) := (hf 2 _ rfl).trans (at_ 2 (by omega))
    have k3 : DataW.trod enc Try.prog W 0 (fun _ => true) true n 4 ([c0, c1, c2, c3, c4].drop 3 |>.take (Try.prog.cellsOf 4)) = some (xs[3]'(by omega)) := (hf 3 _ rfl).trans (at_ 3 (by omega))
    have k4 : DataW.trod enc Try.prog W 0 (fun _ => true) true n 23 ([c0, c1, c2, c3, c4].drop 4 |>.take (Try.prog.cellsOf 23)) = some (xs[4]'(by omega)) := (hf 4 _ rfl).trans (at_ 4 (by omega))
    rw [cells_i] at k0 k1
    rw [cells_byte] at k2
    rw [cells_bool] at k3
    rw [cells_bools] at k4
    obtain ⟨kd, e0, _, w0⟩ := DataW.trod_int Try.underlying3 k0
    obtain ⟨t, e1, _, w1⟩ := DataW.trod_int Try.underlying3 k1
    obtain ⟨c, e2, _, w2⟩ := DataW.trod_int Try.underlying5 k2
    obtain ⟨s, e3, _⟩ := DataW.trod_bool Try.underlying4 k3
    obtain ⟨A, n', cc, e4⟩ := slice_form Try.underlying23 k4
    simp at e0 e1 e2 e3 e4
    subst e0 e1 e2 e3 e4
    have hk : -9223372036854775808 ≤ kd ∧ kd ≤ 9223372036854775807 := by simpa [Lit.wf, IntKind.min, IntKind.max, IntKind.signed, IntKind.bits] using w0
    have ht : -9223372036854775808 ≤ t ∧ t ≤ 9223372036854775807 := by simpa [Lit.wf, IntKind.min, IntKind.max, IntKind.signed, IntKind.bits] using w1
    refine ⟨⟨kd, t, byteOf c, s, .slice A n' cc⟩, ⟨⟨A, n', cc, rfl⟩, hk.1, hk.2, ht.1, ht.2⟩, ?_⟩
    unfold acRow bv
    rw [byteOf_nat w2]

/-- A list of acts that came in. -/
theorem open_acts {H : Type} {enc : TypeId × Value → H} {W : World} {base : Nat} {v : Value} {d : DataW H} {p : List MemPlace}
    (ok : Value.okWide Try.prog W .any base 22 v) (h : DataW.Trod enc Try.prog W 0 (fun _ => true) true 22 v d p) : ∃ l : List Ac, AS W v l := by
  obtain ⟨a0, len, cap, rfl⟩ := okWide_slice Try.underlying22 ok
  obtain ⟨fuel, hf⟩ := h
  rcases DataW.trod_slice Try.underlying22 hf with ⟨hcs, _⟩ | ⟨a, len', cap', elems, rest, n, _, hcs, _, _, hlc, hm, hel, hi, _, _⟩
  · simp [Value.cells] at hcs
    obtain ⟨rfl, rfl, rfl⟩ := hcs
    exact ⟨[], none, 0, rfl, by simp, by simp [maxLen], fun h => absurd h (by simp)⟩
  · simp [Value.cells] at hcs
    obtain ⟨rfl, rfl, rfl⟩ := hcs
    rw [cells_act] at hi
    have hi2 : ∀ i, i < len → ∃ b : Ac, b.ok ∧ ∀ (j : Nat) (u : Value), (acRow b)[j]? = some u → W.cell? ((a.add (i * 5)).add j) = some u := by
      intro i hil
      have := hi i hil
      rw [List.getElem?_eq_getElem (by omega)] at this
      obtain ⟨cs, hcs, htr⟩ := Option.bind_eq_some_iff.1 this
      obtain ⟨b, hb, rfl⟩ := open_act htr
      obtain ⟨_, _, hcell⟩ := World.cells?_some hcs
      refine ⟨b, hb, fun j u hj => ?_⟩
      have hjl := (List.getElem?_eq_some_iff.1 hj).1
      rw [hcell j (by simpa [acRow] using hjl)]
      exact hj
    haveI : Inhabited Ac := ⟨⟨0, 0, 0, false, .int .i64 0⟩⟩
    obtain ⟨f, hf⟩ := Deep.choose_lt (α := Ac) hi2
    have hlen : ((List.range len).map f).length = len := by simp
    refine ⟨(List.range len).map f, some a, cap, by rw [hlen], by omega, hm, fun h0 => ?_⟩
    rw [hlen] at h0
    obtain ⟨b, o, spot⟩ := a
    have k0 := (hf 0 h0).2 0 _ rfl
    have hspot : spot = none := by simpa [Addr.add] using World.cell?_spot k0
    subst hspot
    rw [add_plain, add_plain] at k0
    refine ⟨b, o, rfl, World.block_lt_of_cell? _ _ k0, fun i x hix => ?_⟩
    have hil : i < len := by
      have := (List.getElem?_eq_some_iff.1 hix).1
      omega
    simp [hil] at hix
    subst hix
    refine ⟨(hf i hil).1, fun j u hj => ?_⟩
    have := (hf i hil).2 j u hj
    rw [add_plain, add_plain] at this
    exact this
end Go.Proofs.Ytdmfpgmpjejfgaa
