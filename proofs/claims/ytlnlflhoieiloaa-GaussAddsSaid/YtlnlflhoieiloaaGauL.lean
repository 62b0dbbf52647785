/-
  The statements' own helpers of layer 3 ('of', 'Is', 'live'), over the loaded program: each one's contract. No condition but the sizes that each contract names.
-/
import Derived.Test.YtlnlflhoieiloaaGauS
import Derived.Deep.RegionHeld3
namespace Go.Proofs.Ytlnlflhoieiloaa
open Go.RowKit Gau
set_option linter.unusedVariables false

theorem is_yes (a : G) (w : World) :
    Calls Try.prog 8 #[cz a, rz a] w fun e w' => e = .returned (.bool true) ∧ Below w.heap.size w w' := by
  have hp := parts_cz a
  unfold rz
  generalize cz a = x at *
  go_enter Try.func8, Try.ntmps8
  go_wp2_with fail
  refine (hp _).mono ?_
  rintro e w1 ⟨rfl, rfl⟩
  go_wp2
  go_ret
  exact ⟨rfl, (Below.refl _ _).alloc (Nat.le_refl _) _⟩

theorem results_tmp_cell {P : Program} {fn : Func} {p u : Tmp} {ty : TypeId} (h : fn.results = #[.tmp u, .cell p ty]) (tmps : Array Value) (w : World) (g : Nat) (t : TypeId) (cs : Array Value) (fr : Nat × Nat) (d : TypeDesc)
    (hp : tmps.getD p undef = .pointer (some ⟨g, 0, none⟩)) (hg : w.heap[g]? = some (.cells cs t fr))
    (hu : P.underlying ty = some d) (hd : (match d with | .struct _ | .array _ _ => true | _ => false) = true) (hi : (P.info? ty).map (·.size) = some cs.size) :
    (results fn tmps).run P w = .ok (.tuple #[tmps.getD u undef, .agg cs]) w := by
  have hp' : tmps[p]?.getD undef = .pointer (some ⟨g, 0, none⟩) := by simpa using hp
  simp [results, h, hp', asAddr, run_loadVar_row w g t ty cs fr d hg hu hd hi]

theorem of_law (re im : Int) (h : -9223372036854775808 ≤ re) (h2 : re ≤ 9223372036854775807) (h3 : -9223372036854775808 ≤ im) (h4 : im ≤ 9223372036854775807) (w : World) :
    Calls Try.prog 7 #[.agg #[.int .i64 re, .int .i64 im]] w fun e w' => e = .returned (.tuple #[cz (gI re im), rz (gI re im)]) ∧ Below w.heap.size w w' := by
  have ho := of_any re im h h2 h3 h4
  have hr := rof_any re im h h2 h3 h4
  clear h h2 h3 h4
  generalize gI re im = a at *
  unfold rz at *
  go_enter Try.func7, Try.ntmps7
  go_wp2
  have hz0 := (KB.new w 23 #[.int .i64 re, .int .i64 im]).alloc (.cells #[.int .i64 0, .int .i64 0] 25)
  have hk0 := KB.new (w.alloc (.cells #[.int .i64 re, .int .i64 im] 23)) 25 #[.int .i64 0, .int .i64 0]
  have hB0 : Below w.heap.size w _ := ((Below.refl w.heap.size w).alloc (Nat.le_refl _) (.cells #[.int .i64 re, .int .i64 im] 23)).alloc (by simp) (.cells #[.int .i64 0, .int .i64 0] 25)
  rw [alloc_size] at hk0
  generalize (w.alloc (.cells #[.int .i64 re, .int .i64 im] 23)).alloc (.cells #[.int .i64 0, .int .i64 0] 25) = w0 at *
  have z0 := hz0.lt
  have z1 := hk0.lt
  have c0 : w0.cell? ⟨w.heap.size, 0, none⟩ = some (.int .i64 re) := hz0.cell 0
  have c1 : w0.cell? ⟨w.heap.size, 1, none⟩ = some (.int .i64 im) := hz0.cell 1
  go_region_held3 (fun w' => w'.cell? ⟨w.heap.size, 0, none⟩ = some (.int .i64 re) ∧ w'.cell? ⟨w.heap.size, 1, none⟩ = some (.int .i64 im))
    (first | go_keep | exact ⟨(KB.below (w := w0.drew) hz0 b1 z0).cell 0, (KB.below (w := w0.drew) hz0 b1 z0).cell 1⟩)
    (first
      | (go_at_call 25; refine (ho _).mono ?_; rintro e w1 ⟨rfl, rfl⟩)
      | (go_at_call 26; refine (hr _).mono ?_; rintro e w1 ⟨rfl, b1⟩; have k1 := KB.below (w := w0.drew) hk0 b1 z1; have d0 : w1.cell? ⟨w.heap.size + 1, 0, none⟩ = some (.int .i64 0) := k1.cell 0; have d1 : w1.cell? ⟨w.heap.size + 1, 1, none⟩ = some (.int .i64 0) := k1.cell 1; have f0 := k1.free 0; have f1 := k1.free 1))
  have B1 : Below w.heap.size w w1 := (show Below w.heap.size w w0.drew from Below_drawn hB0 1).trans (b1.mono hB0.size)
  clear c0 c1 z0 z1 b1 d0 d1 f0 f1
  go_wp2
  refine bodyPost_ret (results_tmp_cell (P := Try.prog) rfl _ _ (w.heap.size + 1) _ _ (0, 0) _ rfl (put_two k1) Try.underlying25 rfl (by kernel_rfl)) rfl ⟨rfl, B1.trans (below_of_grown' (grown_two _ _ _ _) (by omega) B1.size)⟩

theorem ex_17 : gmul (gI 4 1) (gI 4 (-1)) = ⟨17, 0⟩ := by decide
theorem ex_2 : gI 2 0 ≠ zero := by decide
theorem ex_4096 : ginv (gI 2 0) = ⟨4096, 0⟩ := by
  apply cancel (gI 2 0) _ _ ex_2
  rw [mul_inv _ ex_2]; decide

theorem live_any (w : World) :
    Calls Try.prog 19 #[] w fun e w' => e = .returned (.bool true) ∧ Below w.heap.size w w' := by
  have o2 := of_any 2 0 (by omega) (by omega) (by omega) (by omega)
  have o4 := of_any 4 1 (by omega) (by omega) (by omega) (by omega)
  have o5 := of_any 4 (-1) (by omega) (by omega) (by omega) (by omega)
  have hi := inv_some (gI 2 0) ex_2
  rw [ex_4096] at hi
  have hm := mul_any (gI 4 1) (gI 4 (-1))
  rw [ex_17] at hm
  have i1 := is_yes ⟨17, 0⟩
  rw [show rz ⟨17, 0⟩ = .agg #[.int .i64 17, .int .i64 0] from rfl] at i1
  have i2 := is_yes ⟨4096, 0⟩
  rw [show rz ⟨4096, 0⟩ = .agg #[.int .i64 4096, .int .i64 0] from rfl] at i2
  generalize cz (gI 2 0) = x2 at *
  generalize cz (gI 4 1) = x4 at *
  generalize cz (gI 4 (-1)) = x5 at *
  generalize cz ⟨17, 0⟩ = x17 at *
  generalize cz ⟨4096, 0⟩ = x40 at *
  go_enter Try.func19, Try.ntmps19
  go_wp2_with fail
  refine (o2 _).mono ?_
  rintro e w' ⟨rfl, rfl⟩
  go_wp2_with fail
  refine (hi _).mono ?_
  rintro e w' ⟨rfl, rfl⟩
  go_wp2_with fail
  refine (o4 _).mono ?_
  rintro e w' ⟨rfl, rfl⟩
  go_wp2_with fail
  refine (o5 _).mono ?_
  rintro e w' ⟨rfl, rfl⟩
  go_wp2_with fail
  refine (hm _).mono ?_
  rintro e w' ⟨rfl, rfl⟩
  go_wp2_with fail
  refine (i1 _).mono ?_
  rintro e w1 ⟨rfl, b1⟩
  go_wp2_with fail
  refine (i2 _).mono ?_
  rintro e w2 ⟨rfl, b2⟩
  go_wp2
  go_ret
  exact ⟨rfl, b1.trans (b2.mono b1.size)⟩
end Go.Proofs.Ytlnlflhoieiloaa
