/-
  Milestones that came in: no name of theirs is longer than what the reading holds; one milestone, a record, a case that came in. No condition but what each theorem names.
-/
import Derived.Test.YtommcdgognlfcaaDuY
import Derived.Test.YtommcdgognlfcaaRuV
import Derived.SizedLaws
namespace Go.Proofs.Ytommcdgognlfcaa
open Go.RowKit Go.ChangeShapes Go.WideShapes Go.Joins
set_option maxRecDepth 100000
set_option linter.unusedVariables false

theorem MX_weight {H : Type} {enc : TypeId × Value → H} {W : World} (n : Nat) (cs : List Value) (x : DataW H × List MemPlace) (h : DataW.trod enc Try.prog W 0 (fun _ => true) true n 43 cs = some x) :
    ∃ (m : Ml), cs = [strV m.1, .int .i64 m.2] ∧ I64 m.2 ∧ m.1.length ≤ maxLen ∧ m.1.length ∈ x.1.weights Try.prog 43 := by
  obtain ⟨xs, m, rfl, rfl, hl, hxl, hf⟩ := DataW.trod_struct Try.underlying43 h
  rw [cells_mile] at hl
  obtain ⟨c0, c1, rfl⟩ : ∃ c0 c1, cs = [c0, c1] := by
    match cs, hl with
    | [a, b], _ => exact ⟨a, b, rfl⟩
  obtain ⟨x0, x1, rfl⟩ : ∃ x0 x1, xs = [x0, x1] := by
    match xs, hxl with
    | [a, b], _ => exact ⟨a, b, rfl⟩
  have g0 : DataW.trod enc Try.prog W 0 (fun _ => true) true m 9 (List.take (Try.prog.cellsOf 9) [c0, c1]) = some x0 := hf 0 _ rfl
  have g1 : DataW.trod enc Try.prog W 0 (fun _ => true) true m 3 (List.take (Try.prog.cellsOf 3) [c1]) = some x1 := hf 1 _ rfl
  have cs1 : Try.prog.cellsOf 9 = 1 := by kernel_rfl
  have cs2 : Try.prog.cellsOf 3 = 1 := by kernel_rfl
  rw [cs1] at g0
  rw [cs2] at g1
  obtain ⟨s, e0, rfl, ws⟩ := DataW.trod_string Try.underlying9 g0
  obtain ⟨u, e2, rfl, wu⟩ := DataW.trod_int Try.underlying3 g1
  simp at e0 e2
  subst e0 e2
  have hu : I64 u := by simpa [I64, Lit.wf, IntKind.min, IntKind.max, IntKind.signed, IntKind.bits] using wu
  have hsz : s.data.toList.length = s.size := by rw [Array.length_toList]; rfl
  refine ⟨(s.data.toList, u), rfl, hu, by show s.data.toList.length ≤ _; omega, ?_⟩
  simp [DataW.weights, DataW.weightsEach, Try.underlying43]

theorem weights_all {H : Type} {P : Program} {e : TypeId} : ∀ {ds : List (DataW H)} {d : DataW H}, d ∈ ds → ∀ n ∈ d.weights P e, n ∈ DataW.weightsAll P e ds
  | d0 :: ds, d, h, n, hn => by
    rw [DataW.weightsAll, List.mem_append]
    cases h with
    | head => exact .inl hn
    | tail _ h => exact .inr (weights_all h n hn)
  | [], _, h, _, _ => by cases h

/-- No name is longer than the reach of what is read. -/
theorem ml_names {H : Type} {enc : TypeId × Value → H} {W : World} {S : Nat → Prop} {n0 : Nat} {v : Value} {x : DataW H × List MemPlace} {l : List Ml} {R : Nat}
    (h : DataW.trod enc Try.prog W 0 (fun _ => true) true n0 25 [v] = some x) (hz : ∀ n ∈ x.1.weights Try.prog 25, n ≤ R) (hm : ML W S v l) : ∀ m ∈ l, m.1.length ≤ R := by
  intro m hx
  obtain ⟨j, hj, rfl⟩ := List.mem_iff_getElem.1 hx
  obtain ⟨A, c, rfl, _⟩ := hm.form
  rcases DataW.trod_slice Try.underlying25 h with ⟨hcs, _⟩ | ⟨a, len, cap, elems, rest, n, rfl, hcs, rfl, _, hlc, hmx, hel, hi, _, _⟩
  · simp at hcs
    omega
  · simp at hcs
    obtain ⟨rfl, rfl, rfl⟩ := hcs
    rw [cells_mile] at hi
    have hji := hi j hj
    rw [List.getElem?_eq_getElem (by omega)] at hji
    obtain ⟨cs, hcs, htr⟩ := Option.bind_eq_some_iff.1 hji
    obtain ⟨m', rfl, _, _, hw⟩ := MX_weight n cs _ htr
    obtain ⟨_, _, hcell⟩ := World.cells?_some hcs
    have k0 : W.cell? ((a.add (j * 2)).add 0) = some (strV m'.1) := hcell 0 (by omega)
    obtain ⟨b, o, ea, _, _, hc⟩ := hm.at_ (by omega)
    injection ea with ea
    subst ea
    obtain ⟨h0, _, _, _⟩ := hc j _ (List.getElem?_eq_getElem hj)
    rw [add_plain, add_plain] at k0
    have e : strV l[j].1 = strV m'.1 := Option.some.inj (h0.symm.trans k0)
    have e' : l[j].1 = m'.1 := by
      unfold strV at e
      injection e with e
      injection e with e
      simpa using congrArg Array.toList e
    rw [e']
    refine hz _ ?_
    simp only [DataW.weights, Try.underlying25]
    refine List.mem_cons_of_mem _ (List.mem_append_left _ (weights_all ?_ _ hw))
    exact List.mem_map.2 ⟨_, List.getElem_mem (by omega), rfl⟩

theorem reach_le {n : Nat} (h : n ≤ reachBytes) : n ≤ 140737488355328 := Nat.le_trans h (by decide)

/-- One milestone that came in. -/
theorem open_mile {H : Type} {enc : TypeId × Value → H} {W : World} {base : Nat} {v : Value} {d : DataW H} {p : List MemPlace}
    (ok : Value.okWide Try.prog W .any base 43 v) (h : DataW.Trod enc Try.prog W 0 (fun _ => true) true 43 v d p) (hz : ∀ n ∈ d.weights Try.prog 43, n ≤ reachBytes) :
    ∃ m : Ml, v = .agg #[strV m.1, .int .i64 m.2] ∧ I64 m.2 ∧ m.1.length ≤ 140737488355328 := by
  obtain ⟨cs, rfl, hsz⟩ := okWide_struct Try.underlying43 ok
  obtain ⟨n, hn⟩ := h
  obtain ⟨m, e, h1, _, h3⟩ := MX_weight n _ _ hn
  refine ⟨m, ?_, h1, reach_le (hz _ h3)⟩
  have : cs = #[strV m.1, .int .i64 m.2] := by
    apply Array.toList_inj.1
    simpa [Value.cells] using e
  rw [this]

/-- Milestones that came in, and how long their names are. -/
theorem open_miles_sized {H : Type} {enc : TypeId × Value → H} {W : World} {base : Nat} {v : Value} {d : DataW H} {p : List MemPlace}
    (ok : Value.okWide Try.prog W .any base 25 v) (h : DataW.Trod enc Try.prog W 0 (fun _ => true) true 25 v d p) (hz : ∀ n ∈ d.weights Try.prog 25, n ≤ reachBytes) :
    ∃ l : List Ml, ML W (fun b => b < W.heap.size) v l ∧ ∀ m ∈ l, m.1.length ≤ 140737488355328 := by
  obtain ⟨l, hl⟩ := open_miles ok h
  obtain ⟨A, c, rfl, _⟩ := hl.form
  obtain ⟨n0, hn⟩ := h
  exact ⟨l, hl, fun m hm => reach_le (ml_names hn hz hl m hm)⟩

theorem cells_rec : Try.prog.cellsOf 33 = 6 := by kernel_rfl
theorem cells_case : Try.prog.cellsOf 35 = 2 := by kernel_rfl
/-- A record that came in. -/
theorem open_rec {H : Type} {enc : TypeId × Value → H} {W : World} {base : Nat} {v : Value} {d : DataW H} {p : List MemPlace}
    (ok : Value.okWide Try.prog W .any base 33 v) (h : DataW.Trod enc Try.prog W 0 (fun _ => true) true 33 v d p) :
    ∃ (a0 a1 a2 : ByteArray) (cl : List UInt8) (t st : Int), v = .agg #[.string a0, .string a1, .string a2, strV cl, .int .i64 t, .int .i64 st] ∧ I64 t := by
  obtain ⟨cs, rfl, hsz⟩ := okWide_struct Try.underlying33 ok
  obtain ⟨n, hn⟩ := h
  have e0 : (Value.agg cs).cells.toList = cs.toList := by simp [Value.cells]
  rw [e0] at hn
  obtain ⟨xs, m, rfl, _, hl, hxl, hf⟩ := DataW.trod_struct Try.underlying33 hn
  rw [cells_rec] at hl
  generalize hcl : cs.toList = ls at *
  obtain ⟨c0, c1, c2, c3, c4, c5, rfl⟩ := six_of hl
  have hcs : cs = #[c0, c1, c2, c3, c4, c5] := Array.toList_inj.1 hcl
  obtain ⟨x0, x1, x2, x3, x4, x5, rfl⟩ : ∃ x0 x1 x2 x3 x4 x5, xs = [x0, x1, x2, x3, x4, x5] := by
    match xs, hxl with
    | [a, b, c, d, e, f], _ => exact ⟨a, b, c, d, e, f, rfl⟩
  have cs1 : Try.prog.cellsOf 9 = 1 := by kernel_rfl
  have cs2 : Try.prog.cellsOf 3 = 1 := by kernel_rfl
  have g0 : DataW.trod enc Try.prog W 0 (fun _ => true) true m 9 (List.take (Try.prog.cellsOf 9) [c0, c1, c2, c3, c4, c5]) = some x0 := hf 0 _ rfl
  have g1 : DataW.trod enc Try.prog W 0 (fun _ => true) true m 9 (List.take (Try.prog.cellsOf 9) [c1, c2, c3, c4, c5]) = some x1 := hf 1 _ rfl
  have g2 : DataW.trod enc Try.prog W 0 (fun _ => true) true m 9 (List.take (Try.prog.cellsOf 9) [c2, c3, c4, c5]) = some x2 := hf 2 _ rfl
  have g3 : DataW.trod enc Try.prog W 0 (fun _ => true) true m 9 (List.take (Try.prog.cellsOf 9) [c3, c4, c5]) = some x3 := hf 3 _ rfl
  have g4 : DataW.trod enc Try.prog W 0 (fun _ => true) true m 3 (List.take (Try.prog.cellsOf 3) [c4, c5]) = some x4 := hf 4 _ rfl
  have g5 : DataW.trod enc Try.prog W 0 (fun _ => true) true m 3 (List.take (Try.prog.cellsOf 3) [c5]) = some x5 := hf 5 _ rfl
  rw [cs1] at g0 g1 g2 g3
  rw [cs2] at g4 g5
  obtain ⟨s0, e0, _, _⟩ := DataW.trod_string Try.underlying9 g0
  obtain ⟨s1, e1, _, _⟩ := DataW.trod_string Try.underlying9 g1
  obtain ⟨s2, e2, _, _⟩ := DataW.trod_string Try.underlying9 g2
  obtain ⟨s3, e3, _, _⟩ := DataW.trod_string Try.underlying9 g3
  obtain ⟨u4, e4, _, wu⟩ := DataW.trod_int Try.underlying3 g4
  obtain ⟨u5, e5, _, _⟩ := DataW.trod_int Try.underlying3 g5
  simp at e0 e1 e2 e3 e4 e5
  subst e0 e1 e2 e3 e4 e5
  have hu : I64 u4 := by simpa [I64, Lit.wf, IntKind.min, IntKind.max, IntKind.signed, IntKind.bits] using wu
  exact ⟨s0, s1, s2, s3.data.toList, u4, u5, by rw [hcs]; rfl, hu⟩

/-- A case that came in. -/
theorem open_case {H : Type} {enc : TypeId × Value → H} {W : World} {base : Nat} {v : Value} {d : DataW H} {p : List MemPlace}
    (ok : Value.okWide Try.prog W .any base 35 v) (h : DataW.Trod enc Try.prog W 0 (fun _ => true) true 35 v d p) (hz : ∀ n ∈ d.weights Try.prog 35, n ≤ reachBytes) :
    ∃ (id : ByteArray) (vm : Value) (l : List Ml), v = .agg #[.string id, vm] ∧ ML W (fun b => b < W.heap.size) vm l ∧ ∀ m ∈ l, m.1.length ≤ 140737488355328 := by
  obtain ⟨cs, rfl, hsz⟩ := okWide_struct Try.underlying35 ok
  obtain ⟨n, hn⟩ := h
  have e0 : (Value.agg cs).cells.toList = cs.toList := by simp [Value.cells]
  rw [e0] at hn
  obtain ⟨xs, m, rfl, hd, hl, hxl, hf⟩ := DataW.trod_struct Try.underlying35 hn
  rw [cells_case] at hl
  generalize hcl : cs.toList = ls at *
  obtain ⟨c0, c1, rfl⟩ : ∃ c0 c1, ls = [c0, c1] := by
    match ls, hl with
    | [a, b], _ => exact ⟨a, b, rfl⟩
  have hcs : cs = #[c0, c1] := Array.toList_inj.1 hcl
  obtain ⟨x0, x1, rfl⟩ : ∃ x0 x1, xs = [x0, x1] := by
    match xs, hxl with
    | [a, b], _ => exact ⟨a, b, rfl⟩
  have cs1 : Try.prog.cellsOf 9 = 1 := by kernel_rfl
  have cs2 : Try.prog.cellsOf 25 = 1 := by kernel_rfl
  have g0 : DataW.trod enc Try.prog W 0 (fun _ => true) true m 9 (List.take (Try.prog.cellsOf 9) [c0, c1]) = some x0 := hf 0 _ rfl
  have g1 : DataW.trod enc Try.prog W 0 (fun _ => true) true m 25 (List.take (Try.prog.cellsOf 25) [c1]) = some x1 := hf 1 _ rfl
  rw [cs1] at g0
  rw [cs2] at g1
  obtain ⟨s0, e0, _, _⟩ := DataW.trod_string Try.underlying9 g0
  simp at e0
  subst e0
  have g1' : DataW.trod enc Try.prog W 0 (fun _ => true) true m 25 [c1] = some x1 := g1
  obtain ⟨A, n1, k1, rfl⟩ : ∃ A n k, c1 = .slice A n k := by
    rcases DataW.trod_slice Try.underlying25 g1' with ⟨hc, _⟩ | ⟨a, len, cap, elems, rest, n, _, hc, _⟩
    · simp at hc; exact ⟨_, _, _, hc⟩
    · simp at hc; exact ⟨_, _, _, hc⟩
  obtain ⟨l, hl⟩ := ML_of_trod g1'
  refine ⟨s0, _, l, by rw [hcs], hl, fun m hm => reach_le (ml_names g1' (fun n hn => hz n ?_) hl m hm)⟩
  have hd1 : d = .agg [x0.1, x1.1] := congrArg Prod.fst hd
  rw [hd1]
  simp only [DataW.weights, Try.underlying35]
  simp [DataW.weightsEach, hn]
end Go.Proofs.Ytommcdgognlfcaa
