/-
  Rows of milestones of a call's own: what they read as, append onto them; milestones that came in. No condition.
-/
import Derived.Test.YtommcdgognlfcaaDuV
import Derived.Test.YtommcdgognlfcaaStep
import Derived.Test.YtommcdgognlfcaaArgs
namespace Go.Proofs.Ytommcdgognlfcaa
open Go.RowKit Go.ChangeShapes Go.WideShapes Go.Joins
set_option maxRecDepth 100000
set_option linter.unusedVariables false

/-- A row of milestones of a call's own reads as milestones. -/
theorem ML_of_own {w : World} {S : Nat → Prop} {base : Nat} {v : Value} {l : List Ml} (h : w.ownsRow base 43 2 v l.length (flatM l)) (hm : ∀ m ∈ l, I64 m.2 ∧ m.1.length ≤ maxLen)
    (hS : ∀ b, base ≤ b → b < w.heap.size → S b) : ML w S v l := by
  obtain ⟨_, h2⟩ := h
  rcases h2 with ⟨rfl, h0⟩ | ⟨g, cap, cur, rfl, hb, hg, hnc, hcm, hcs, htk⟩
  · obtain rfl : l = [] := List.eq_nil_of_length_eq_zero h0
    exact ML.nil _ _
  · have hlt : g < w.heap.size := (Array.getElem?_eq_some_iff.1 hg).1
    refine ⟨_, cap, rfl, hnc, hcm, (fun h => by cases h), fun h0 => ⟨g, 0, rfl, hS g hb hlt, hlt, fun i t hi => ?_⟩⟩
    have hil := (List.getElem?_eq_some_iff.1 hi).1
    obtain ⟨e0, e1⟩ := flatM_at l i _ hi
    have cell : ∀ k u, k < 2 → (flatM l)[i * 2 + k]? = some u → w.cell? ⟨g, 0 + i * 2 + k, none⟩ = some u := fun k u hk hu => by
      rw [cell_of_row w g (0 + i * 2 + k) cur _ (0, 0) hg, Nat.zero_add]
      rw [← htk, List.getElem?_take, if_pos (by omega)] at hu
      simpa using hu
    exact ⟨cell 0 _ (by omega) e0, cell 1 _ (by omega) e1, hm t (List.mem_of_getElem? hi)⟩

theorem info_mile : (Try.prog.info? 43).map (fun i => (i.zero, i.size, i.bytes)) = some (some (.agg #[.string ⟨#[]⟩, .int .i64 0]), 2, 24) := by kernel_rfl
theorem cells_mile : Try.prog.cellsOf 43 = 2 := by kernel_rfl

theorem run_growM (w : World) (base : Nat) (v : Value) (l : List Ml) (hown : w.ownsRow base 43 2 v l.length (flatM l)) (ad : Addr) (c : Nat) (us : List Ml) (hx : ∀ j u, (flatM us)[j]? = some u → w.cell? (ad.add j) = some u)
    (hb : l.length + us.length ≤ 1000000000) (hbase : base ≤ w.heap.size) (ty : TypeId) :
    ∃ v' w', (Builtin.append_ #[25, 25] ty #[v, .slice (some ad) us.length c]).run Try.prog w = .ok v' w' ∧ w'.ownsRow base 43 2 v' (l ++ us).length (flatM (l ++ us)) ∧ w.grownBy w' v.ownBlock ∧
      (v'.ownBlock = v.ownBlock ∨ v'.ownBlock = some w.heap.size) := by
  obtain ⟨i0, hi, hz0, hz1, hz2⟩ := info_parts info_mile
  obtain ⟨v', w', a1, a2, a3, _, a5⟩ := run_append_own_at (P := Try.prog) (w := w) base 25 ty 43 i0 _ 2 24 Try.underlying25 hi hz0 hz1 hz2 rfl (by omega) v l.length _ hown ad us.length c (flatM us) (flatM_length us) hx (flatM_cells1 us)
    (by unfold maxLen; omega) (by omega) hbase
  exact ⟨v', w', a1, by rw [List.length_append, flatM_append]; exact a2, a3, a5⟩
theorem wpList_growM (w : World) {ops : Array Oper} {rest : List Oper} {o : Oper} {a : Act} {Q : Exit → Act → World → Prop} (hgd : o.guard = none) (s x : Operand)
    (ho : o.op = .call { callee := .builtin .append, args := #[s, x], argTypes := #[25, 25] })
    (base : Nat) (v : Value) (l : List Ml) (hs : a.eval s = v) (hown : w.ownsRow base 43 2 v l.length (flatM l))
    (ad : Addr) (c n : Nat) (us : List Ml) (hxe : a.eval x = .slice (some ad) n c) (hn : n = us.length) (hx : ∀ j u, (flatM us)[j]? = some u → w.cell? (ad.add j) = some u)
    (hb : l.length + us.length ≤ 1000000000) (hbase : base ≤ w.heap.size)
    (h : ∀ v' w', w'.ownsRow base 43 2 v' (l ++ us).length (flatM (l ++ us)) → w.grownBy w' v.ownBlock → (v'.ownBlock = v.ownBlock ∨ v'.ownBlock = some w.heap.size) → wpList Try.prog ops Q rest (a.put o.dst v') w') :
    wpList Try.prog ops Q (o :: rest) a w := by
  subst hn
  refine wpList_plain hgd fun K hK => ?_
  obtain ⟨v', w', hrun, h2, h3, h4⟩ := run_growM w base v l hown ad c us hx hb hbase o.type
  unfold Oper.wp execOp
  simp only [ho, resolve, invoke, builtin, Sem.run_bind, Sem.run_pure, Result.andThen_ok, List.map_toArray, List.map_cons, List.map_nil, hs, hxe, hrun]
  exact hK _ _ (h v' w' h2 h3 h4)

theorem MX_of_trod {H : Type} {enc : TypeId × Value → H} {W : World} (n : Nat) (cs : List Value) (x : DataW H × List MemPlace) (h : DataW.trod enc Try.prog W 0 (fun _ => true) true n 43 cs = some x) :
    ∃ (m : Ml), cs = [strV m.1, .int .i64 m.2] ∧ I64 m.2 ∧ m.1.length ≤ maxLen := by
  obtain ⟨xs, m, rfl, _, hl, hxl, hf⟩ := DataW.trod_struct Try.underlying43 h
  rw [cells_mile] at hl
  obtain ⟨c0, c1, rfl⟩ : ∃ c0 c1, cs = [c0, c1] := by
    match cs, hl with
    | [a, b], _ => exact ⟨a, b, rfl⟩
  obtain ⟨x0, x1, rfl⟩ : ∃ x0 x1, xs = [x0, x1] := by
    match xs, hxl with
    | [a, b], _ => exact ⟨a, b, rfl⟩
  have g0 : DataW.trod enc Try.prog W 0 (fun _ => true) true m 9 (List.take (Try.prog.cellsOf 9) [c0, c1]) = some x0 := hf 0 _ rfl
  have g1 : DataW.trod enc Try.prog W 0 (fun _ => true) true m 3 (List.take (Try.prog.cellsOf 3) [c1]) = some x1 := hf 1 _ rfl
  have cs1 : Try.prog.cellsOf 9 = 1 := by kernel_rfl
  have cs2 : Try.prog.cellsOf 3 = 1 := by kernel_rfl
  rw [cs1] at g0
  rw [cs2] at g1
  obtain ⟨s, e0, _, ws⟩ := DataW.trod_string Try.underlying9 g0
  obtain ⟨u, e2, _, wu⟩ := DataW.trod_int Try.underlying3 g1
  simp at e0 e2
  subst e0 e2
  have hu : I64 u := by simpa [I64, Lit.wf, IntKind.min, IntKind.max, IntKind.signed, IntKind.bits] using wu
  have hsz : s.data.toList.length = s.size := by rw [Array.length_toList]; rfl
  exact ⟨(s.data.toList, u), rfl, hu, by show s.data.toList.length ≤ _; omega⟩

/-- Milestones that came in. -/
theorem ML_of_trod {H : Type} {enc : TypeId × Value → H} {W : World} {a0 : Option Addr} {len0 cap0 n0 : Nat} {x : DataW H × List MemPlace}
    (hn : DataW.trod enc Try.prog W 0 (fun _ => true) true n0 25 [.slice a0 len0 cap0] = some x) :
    ∃ l : List Ml, ML W (fun b => b < W.heap.size) (.slice a0 len0 cap0) l := by
  rcases DataW.trod_slice Try.underlying25 hn with ⟨hcs, _⟩ | ⟨a, len, cap, elems, rest, n, rfl, hcs, _, _, hlc, hm, hel, hi, _, _⟩
  · simp at hcs
    obtain ⟨rfl, rfl, rfl⟩ := hcs
    exact ⟨[], ML.nil _ _⟩
  · simp at hcs
    obtain ⟨rfl, rfl, rfl⟩ := hcs
    rw [cells_mile] at hi
    have hi2 : ∀ i, i < len0 → ∃ m : Ml, W.cell? (a.add (i * 2)) = some (strV m.1) ∧ W.cell? ((a.add (i * 2)).add 1) = some (.int .i64 m.2) ∧ I64 m.2 ∧ m.1.length ≤ maxLen := by
      intro i hil
      have := hi i hil
      rw [List.getElem?_eq_getElem (by omega)] at this
      obtain ⟨cs, hcs, htr⟩ := Option.bind_eq_some_iff.1 this
      obtain ⟨m, rfl, h1, h2⟩ := MX_of_trod n cs _ htr
      obtain ⟨_, _, hcell⟩ := World.cells?_some hcs
      have k0 := hcell 0 (by omega)
      have k1 := hcell 1 (by omega)
      refine ⟨m, ?_, k1, h1, h2⟩
      have : (a.add (i * 2)).add 0 = a.add (i * 2) := rfl
      rw [← this]; exact k0
    by_cases hz : len0 = 0
    · subst hz
      exact ⟨[], _, _, rfl, by simp, hm, (fun h => by cases h), fun h => absurd h (by simp)⟩
    haveI : Inhabited Ml := ⟨([], 0)⟩
    obtain ⟨f, hf⟩ := Deep.choose_lt (α := Ml) hi2
    have hlen : ((List.range len0).map f).length = len0 := by simp
    refine ⟨(List.range len0).map f, some a, cap0, by rw [hlen], by omega, hm, (fun h => by cases h), fun h0 => ?_⟩
    rw [hlen] at h0
    obtain ⟨b, o, spot⟩ := a
    have hspot : spot = none := by
      obtain ⟨k0, _⟩ := hf 0 h0
      simpa [Addr.add] using World.cell?_spot k0
    subst hspot
    have hb : b < W.heap.size := by
      obtain ⟨k0, _⟩ := hf 0 h0
      rw [add_plain] at k0
      exact World.block_lt_of_cell? _ _ k0
    refine ⟨b, o, rfl, hb, hb, fun i m hit => ?_⟩
    have hil : i < len0 := by
      have := (List.getElem?_eq_some_iff.1 hit).1
      omega
    simp [hil] at hit
    subst hit
    obtain ⟨k0, k1, h1, h2⟩ := hf i hil
    rw [add_plain] at k0 k1
    rw [add_plain] at k1
    exact ⟨k0, k1, h1, h2⟩
theorem open_miles {H : Type} {enc : TypeId × Value → H} {W : World} {base : Nat} {v : Value} {d : DataW H} {p : List MemPlace}
    (ok : Value.okWide Try.prog W .any base 25 v) (h : DataW.Trod enc Try.prog W 0 (fun _ => true) true 25 v d p) :
    ∃ l : List Ml, ML W (fun b => b < W.heap.size) v l := by
  obtain ⟨a0, len0, cap0, rfl⟩ := okWide_slice Try.underlying25 ok
  obtain ⟨n0, hn⟩ := h
  exact ML_of_trod hn
end Go.Proofs.Ytommcdgognlfcaa
