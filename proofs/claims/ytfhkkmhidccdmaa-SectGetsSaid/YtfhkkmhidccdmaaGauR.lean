/-
  The document's own answers of layer 3, over the loaded program: each one's contract: what it answers; of memory only new blocks.
  No condition but the sizes that each contract names.
-/
import Derived.Test.YtfhkkmhidccdmaaGauB
import Derived.Test.YtfhkkmhidccdmaaMem
namespace Go.Proofs.Ytfhkkmhidccdmaa
open Go.RowKit Gau
set_option linter.unusedVariables false

theorem rest_any (n : Int) (h : -9223372036854775808 ≤ n) (h2 : n ≤ 9223372036854775807) (w : World) :
    Calls Try.prog 37 #[.int .i64 n] w fun e w' => e = .returned (.int .i64 ((ofI n).val : Int)) ∧ w = w' := by
  have e := Int.tmod_eq_emod (a := n) (b := 8191)
  have ev := ofI_val n
  by_cases hn : n.tmod 8191 < 0
  · have e2 : wrap64 (n.tmod 8191 + 8191) = ((ofI n).val : Int) := by
      rw [ofI_val, IntWalk.wrap64_in _ (by split at e <;> omega)]
      split at e <;> omega
    clear e ev
    go_enter Try.func37, Try.ntmps37
    go_wp2
    go_ret
    exact ⟨congrArg Ending.returned (int_eq e2), rfl⟩
  · have e2 : n.tmod 8191 = ((ofI n).val : Int) := by
      rw [ofI_val]
      split at e <;> omega
    clear e ev
    go_enter Try.func37, Try.ntmps37
    go_wp2
    go_ret
    exact ⟨rfl, rfl⟩

/-- A number of the field as the document's text holds it. -/
def rz (a : G) : Value := .agg #[.int .i64 a.re.val, .int .i64 a.im.val]

theorem rof_any (a b : Int) (h : -9223372036854775808 ≤ a) (h2 : a ≤ 9223372036854775807) (h3 : -9223372036854775808 ≤ b) (h4 : b ≤ 9223372036854775807) (w : World) :
    Calls Try.prog 34 #[.int .i64 a, .int .i64 b] w fun e w' => e = .returned (rz (gI a b)) ∧ Below w.heap.size w w' := by
  go_enter Try.func34, Try.ntmps34
  go_wp2_with fail
  refine (rest_any a h h2 _).mono ?_
  rintro e w' ⟨rfl, rfl⟩
  go_wp2_with fail
  refine (rest_any b h3 h4 _).mono ?_
  rintro e w' ⟨rfl, rfl⟩
  go_wp2
  refine bodyPost_ret (results_cell_row (P := Try.prog) rfl _ _ w.heap.size _ #[.int .i64 (ofI a).val, .int .i64 (ofI b).val] (0, 0) _ rfl (heap_alloc_new _ _) Try.underlying50 rfl (by kernel_rfl)) rfl ⟨rfl, (Below.refl _ _).alloc (Nat.le_refl _) _⟩

theorem alloc_size (w : World) (o : Obj) : (w.alloc o).heap.size = w.heap.size + 1 := by simp

/-- The last of three new blocks behind a call. -/
theorem third {w w1 : World} {A B : Obj} {cs : Array Value} {t : TypeId} (hb : Below (((w.alloc A).alloc B).alloc (.cells cs t)).heap.size (((w.alloc A).alloc B).alloc (.cells cs t)) w1) :
    KB w1 (w.heap.size + 2) t cs ∧ Below w.heap.size w w1 := by
  have h := (KB.new ((w.alloc A).alloc B) t cs).below hb (by simp)
  rw [alloc_size, alloc_size] at h
  refine ⟨h, ((((Below.refl _ _).alloc (Nat.le_refl _) A).alloc (by simp) B).alloc (by simp only [alloc_size]; omega) _).trans (hb.mono (by simp only [alloc_size]; omega))⟩
theorem second {w w1 : World} {A : Obj} {cs : Array Value} {t : TypeId} (hb : Below ((w.alloc A).alloc (.cells cs t)).heap.size ((w.alloc A).alloc (.cells cs t)) w1) :
    KB w1 (w.heap.size + 1) t cs ∧ Below w.heap.size w w1 := by
  have h := (KB.new (w.alloc A) t cs).below hb (by simp)
  rw [alloc_size] at h
  refine ⟨h, (((Below.refl _ _).alloc (Nat.le_refl _) A).alloc (by simp) _).trans (hb.mono (by simp only [alloc_size]; omega))⟩

theorem KB.other {w : World} {g h i : Nat} {t : TypeId} {cs : Array Value} {v : Value} (k : KB w g t cs) (hne : h ≠ g) : KB (w.setCell ⟨h, i, none⟩ v) g t cs :=
  k.keep (Below.heap_setCell w ⟨h, i, none⟩ v g hne.symm)
theorem put_two {w : World} {g : Nat} {t : TypeId} {a b x y : Value} (h : KB w g t #[a, b]) : KB ((w.setCell ⟨g, 0, none⟩ x).setCell ⟨g, 1, none⟩ y) g t #[x, y] := (h.put 0 x).put 1 y
theorem grown_two (w : World) (g : Nat) (x y : Value) : w.grownBy ((w.setCell ⟨g, 0, none⟩ x).setCell ⟨g, 1, none⟩ y) (some g) := grown_trans (grown_set _ _ _ _) (grown_set _ _ _ _)

theorem radd_any (a b : G) (w : World) :
    Calls Try.prog 31 #[rz a, rz b] w fun e w' => e = .returned (rz (gadd a b)) ∧ Below w.heap.size w w' := by
  have h1 := a.re.isLt
  have h2 := b.re.isLt
  have h3 := a.im.isLt
  have h4 := b.im.isLt
  have W1 : wrap64 ((a.re.val : Int) + b.re.val) = a.re.val + b.re.val := IntWalk.wrap64_in _ (by omega)
  have W2 : wrap64 ((a.im.val : Int) + b.im.val) = a.im.val + b.im.val := IntWalk.wrap64_in _ (by omega)
  have hr := fun w => rof_any (a.re.val + b.re.val) (a.im.val + b.im.val) (by omega) (by omega) (by omega) (by omega) w
  rw [gI_add] at hr
  unfold rz at *
  go_enter Try.func31, Try.ntmps31
  go_wp2_with fail
  refine (hr _).mono ?_
  rintro e w1 ⟨rfl, hb⟩
  obtain ⟨hk, hbw⟩ := third hb
  clear hb hr
  have c0 : w1.cell? ⟨w.heap.size + 2, 0, none⟩ = some (.int .i64 0) := hk.cell 0
  have c1 : w1.cell? ⟨w.heap.size + 2, 1, none⟩ = some (.int .i64 0) := hk.cell 1
  have f0 := hk.free 0
  have f1 := hk.free 1
  go_wp2
  refine bodyPost_ret (results_cell_row (P := Try.prog) rfl _ _ (w.heap.size + 2) _ _ (0, 0) _ rfl (put_two hk) Try.underlying50 rfl (by kernel_rfl)) rfl ⟨rfl, hbw.trans (below_of_grown' (grown_two _ _ _ _) (by omega) hbw.size)⟩
theorem rmul_any (a b : G) (w : World) :
    Calls Try.prog 32 #[rz a, rz b] w fun e w' => e = .returned (rz (gmul a b)) ∧ Below w.heap.size w w' := by
  have h1 := prod_le a.re b.re
  have h2 := prod_le a.im b.im
  have h3 := prod_le a.re b.im
  have h4 := prod_le a.im b.re
  have W1 : wrap64 ((a.re.val : Int) * b.re.val) = a.re.val * b.re.val := IntWalk.wrap64_in _ (by omega)
  have W2 : wrap64 ((a.im.val : Int) * b.im.val) = a.im.val * b.im.val := IntWalk.wrap64_in _ (by omega)
  have W3 : wrap64 ((a.re.val : Int) * b.im.val) = a.re.val * b.im.val := IntWalk.wrap64_in _ (by omega)
  have W4 : wrap64 ((a.im.val : Int) * b.re.val) = a.im.val * b.re.val := IntWalk.wrap64_in _ (by omega)
  have W5 : wrap64 ((a.re.val : Int) * b.re.val - a.im.val * b.im.val) = a.re.val * b.re.val - a.im.val * b.im.val := IntWalk.wrap64_in _ (by omega)
  have W6 : wrap64 ((a.re.val : Int) * b.im.val + a.im.val * b.re.val) = a.re.val * b.im.val + a.im.val * b.re.val := IntWalk.wrap64_in _ (by omega)
  have hr := fun w => rof_any ((a.re.val : Int) * b.re.val - a.im.val * b.im.val) ((a.re.val : Int) * b.im.val + a.im.val * b.re.val) (by omega) (by omega) (by omega) (by omega) w
  rw [gI_mul] at hr
  clear h1 h2 h3 h4
  unfold rz at *
  go_enter Try.func32, Try.ntmps32
  go_wp2_with fail
  refine (hr _).mono ?_
  rintro e w1 ⟨rfl, hb⟩
  obtain ⟨hk, hbw⟩ := third hb
  clear hb hr
  have c0 : w1.cell? ⟨w.heap.size + 2, 0, none⟩ = some (.int .i64 0) := hk.cell 0
  have c1 : w1.cell? ⟨w.heap.size + 2, 1, none⟩ = some (.int .i64 0) := hk.cell 1
  have f0 := hk.free 0
  have f1 := hk.free 1
  go_wp2
  refine bodyPost_ret (results_cell_row (P := Try.prog) rfl _ _ (w.heap.size + 2) _ _ (0, 0) _ rfl (put_two hk) Try.underlying50 rfl (by kernel_rfl)) rfl ⟨rfl, hbw.trans (below_of_grown' (grown_two _ _ _ _) (by omega) hbw.size)⟩
end Go.Proofs.Ytfhkkmhidccdmaa
