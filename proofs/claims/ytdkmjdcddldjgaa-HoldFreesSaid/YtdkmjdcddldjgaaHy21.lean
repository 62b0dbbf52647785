/-
  ScZ: Records that came in, as scopes ask of them (layer 20); over the loaded program. No condition.
-/
import Derived.Test.YtdkmjdcddldjgaaHy06
import Derived.Test.YtdkmjdcddldjgaaHy01
set_option linter.unusedVariables false
set_option maxRecDepth 100000
namespace Go.Proofs.Ytdkmjdcddldjgaa
section
open Go.RowKit Go.ChangeShapes Go.WideShapes Go.Joins
theorem cells_zrec : Try.prog.cellsOf 40 = 6 := by kernel_rfl
theorem zsix_of {cs : List Value} (h : cs.length = 6) : ∃ c0 c1 c2 c3 c4 c5, cs = [c0, c1, c2, c3, c4, c5] := by
  match cs, h with
  | [a, b, c, d, e, f], _ => exact ⟨a, b, c, d, e, f, rfl⟩
theorem open_zrec {H : Type} {enc : TypeId × Value → H} {W : World} {base : Nat} {v : Value} {d : DataW H} {p : List MemPlace}
    (ok : Value.okWide Try.prog W .any base 40 v) (h : DataW.Trod enc Try.prog W 0 (fun _ => true) true 40 v d p) :
    ∃ r : Rc, RcV v r := by
  obtain ⟨cs, rfl, hsz⟩ := okWide_struct Try.underlying40 ok
  obtain ⟨n, hn⟩ := h
  have e0 : (Value.agg cs).cells.toList = cs.toList := by simp [Value.cells]
  rw [e0] at hn
  obtain ⟨xs, m, rfl, _, hl, hxl, hf⟩ := DataW.trod_struct Try.underlying40 hn
  rw [cells_zrec] at hl
  generalize hcl : cs.toList = ls at *
  obtain ⟨c0, c1, c2, c3, c4, c5, rfl⟩ := zsix_of hl
  have hcs : cs = #[c0, c1, c2, c3, c4, c5] := Array.toList_inj.1 hcl
  obtain ⟨x0, x1, x2, x3, x4, x5, rfl⟩ : ∃ x0 x1 x2 x3 x4 x5, xs = [x0, x1, x2, x3, x4, x5] := by
    match xs, hxl with
    | [a, b, c, d, e, f], _ => exact ⟨a, b, c, d, e, f, rfl⟩
  have cs1 : Try.prog.cellsOf 9 = 1 := by kernel_rfl
  have cs2 : Try.prog.cellsOf 3 = 1 := by kernel_rfl
  have g0 : DataW.trod enc Try.prog W 0 (fun _ => true) true m 9 (List.take (Try.prog.cellsOf 9) [c0, c1, c2, c3, c4, c5]) = some x0 := hf 0 _ rfl
  have g1 : DataW.trod enc Try.prog W 0 (fun _ => true) true m 9 (List.take (Try.prog.cellsOf 9) [c1, c2, c3, c4, c5]) = some x1 := hf 1 _ rfl
  have g2 : DataW.trod enc Try.prog W 0 (fun _ => true) true m 9 (List.take (Try.prog.cellsOf 9) [c2, c3, c4, c5]) = some x2 := hf 2 _ rfl
  have g3 : DataW.trod enc Try.prog W 0 (fun _ => true) true m 9 (List.take (Try.prog.cellsOf 9) [c3, c4, c5]) = some x3 := hf 3 _ rfl
  have g4 : DataW.trod enc Try.prog W 0 (fun _ => true) true m 3 (List.take (Try.prog.cellsOf 3) [c4, c5]) = some x4 := hf 4 _ rfl
  have g5 : DataW.trod enc Try.prog W 0 (fun _ => true) true m 3 (List.take (Try.prog.cellsOf 3) [c5]) = some x5 := hf 5 _ rfl
  rw [cs1] at g0 g1 g2 g3
  rw [cs2] at g4 g5
  obtain ⟨s0, e0, _, _⟩ := DataW.trod_string Try.underlying9 g0
  obtain ⟨s1, e1, _, _⟩ := DataW.trod_string Try.underlying9 g1
  obtain ⟨s2, e2, _, _⟩ := DataW.trod_string Try.underlying9 g2
  obtain ⟨s3, e3, _, _⟩ := DataW.trod_string Try.underlying9 g3
  obtain ⟨u4, e4, _, wu⟩ := DataW.trod_int Try.underlying3 g4
  obtain ⟨u5, e5, _, _⟩ := DataW.trod_int Try.underlying3 g5
  simp at e0 e1 e2 e3 e4 e5
  subst e0 e1 e2 e3 e4 e5
  exact ⟨⟨s1.data.toList, s2.data.toList, s3.data.toList, u4⟩, s0.data.toList, u5, by rw [hcs]; rfl⟩
end
end Go.Proofs.Ytdkmjdcddldjgaa
