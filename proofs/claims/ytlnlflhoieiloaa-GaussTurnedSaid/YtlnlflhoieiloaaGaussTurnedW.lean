/-
  The law GaussTurned over the loaded program: the power by 8191 is the number turned about; powers of a product are products of powers. No condition.
-/
import Derived.Test.YtlnlflhoieiloaaGauZ
namespace Go.Proofs.Ytlnlflhoieiloaa
open Go.RowKit Gau Go.ChangeShapes Go.WideShapes Go.Joins
set_option linter.unusedVariables false

theorem turned_out (x1 x2 y1 y2 n : Int) (hn : n < 0 ∨ 1099511627776 < n) (w : World) :
    Calls Try.prog 6 #[.agg #[.int .i64 x1, .int .i64 x2], .agg #[.int .i64 y1, .int .i64 y2], .int .i64 n] w fun e w' => e = .returned (.bool true) ∧ Below w.heap.size w w' := by
  by_cases h1 : n < 0
  · go_enter Try.func6, Try.ntmps6
    go_wp2_with fail
    refine (live_any _).mono ?_
    rintro e w1 ⟨rfl, b1⟩
    go_wp2
    go_ret
    exact ⟨rfl, (((Below.refl _ _).alloc (Nat.le_refl _) _).alloc (by simp) _).trans (b1.mono (by simp only [alloc_size]; omega))⟩
  · have h2 : 1099511627776 < n := by omega
    go_enter Try.func6, Try.ntmps6
    go_wp2_with fail
    refine (live_any _).mono ?_
    rintro e w1 ⟨rfl, b1⟩
    go_wp2
    go_ret
    exact ⟨rfl, (((Below.refl _ _).alloc (Nat.le_refl _) _).alloc (by simp) _).trans (b1.mono (by simp only [alloc_size]; omega))⟩

theorem turned_main (x1 x2 y1 y2 : Int) (hx1 : I64 x1) (hx2 : I64 x2) (hy1 : I64 y1) (hy2 : I64 y2) (n : Int) (h0 : 0 ≤ n) (h1 : n ≤ 1099511627776) (w : World) :
    Calls Try.prog 6 #[.agg #[.int .i64 x1, .int .i64 x2], .agg #[.int .i64 y1, .int .i64 y2], .int .i64 n] w fun e w' => e = .returned (.bool true) ∧ Below w.heap.size w w' := by
  have hx := of_z x1 x2 hx1 hx2
  have hy := of_z y1 y2 hy1 hy2
  have hp := fun (a : G) w => pow_any a n (by omega) (by omega) w
  have hE : zpow (gmul (gI x1 x2) (gI y1 y2)) n = gmul (zpow (gI x1 x2) n) (zpow (gI y1 y2) n) := by
    unfold zpow
    rw [if_neg (by omega), if_neg (by omega), if_neg (by omega), gpow_mul]
  have hq := pow_nat (gI x1 x2) 8191 (by omega)
  rw [gpow_p] at hq
  generalize gI x1 x2 = a at *
  generalize gI y1 y2 = b at *
  have hc := conj_any a
  have hm := mul_any a b
  have hpm := hp (gmul a b)
  rw [hE] at hpm
  have hpa := hp a
  have hpb := hp b
  generalize zpow a n = p at *
  generalize zpow b n = q at *
  have hm2 := mul_any p q
  have hP := parts_cz (gconj a)
  have hQ := parts_cz (gmul p q)
  unfold rz at *
  clear hp hE hx1 hx2 hy1 hy2
  generalize gconj a = c at *
  generalize gmul p q = pq at *
  generalize gmul a b = ab at *
  go_enter Try.func6, Try.ntmps6
  go_wp2_with fail
  refine (hx _).mono ?_
  rintro e w1 ⟨rfl, b1⟩
  obtain ⟨k1, B1⟩ := second b1
  have z1 := k1.lt
  have c0 : w1.cell? ⟨w.heap.size + 1, 0, none⟩ = some (.int .i64 y1) := k1.cell 0
  have c1 : w1.cell? ⟨w.heap.size + 1, 1, none⟩ = some (.int .i64 y2) := k1.cell 1
  go_wp2_with fail
  refine (hy _).mono ?_
  rintro e w2 ⟨rfl, b2⟩
  have B2 : Below w.heap.size w w2 := (B1.alloc B1.size _).trans (b2.mono (by simp only [alloc_size]; have := B1.size; omega))
  clear b1 b2 k1 c0 c1 z1 B1
  go_wp2_with fail
  refine (hq _).mono ?_
  rintro e w' ⟨rfl, rfl⟩
  go_wp2_with fail
  refine (hP _).mono ?_
  rintro e w' ⟨rfl, rfl⟩
  go_wp2_with fail
  refine (hc _).mono ?_
  rintro e w' ⟨rfl, rfl⟩
  go_wp2_with fail
  refine (hP _).mono ?_
  rintro e w' ⟨rfl, rfl⟩
  go_wp2_with fail
  refine (hm _).mono ?_
  rintro e w' ⟨rfl, rfl⟩
  go_wp2_with fail
  refine (hpm _).mono ?_
  rintro e w' ⟨rfl, rfl⟩
  go_wp2_with fail
  refine (hQ _).mono ?_
  rintro e w' ⟨rfl, rfl⟩
  go_wp2_with fail
  refine (hpa _).mono ?_
  rintro e w' ⟨rfl, rfl⟩
  go_wp2_with fail
  refine (hpb _).mono ?_
  rintro e w' ⟨rfl, rfl⟩
  go_wp2_with fail
  refine (hm2 _).mono ?_
  rintro e w' ⟨rfl, rfl⟩
  go_wp2_with fail
  refine (hQ _).mono ?_
  rintro e w' ⟨rfl, rfl⟩
  go_wp2_with fail
  refine (live_any _).mono ?_
  rintro e w3 ⟨rfl, b3⟩
  go_wp2
  go_ret
  exact ⟨rfl, (B2.alloc B2.size _).trans (b3.mono (by simp only [alloc_size]; have := B2.size; omega))⟩

theorem gaussTurned_law {H : Type} (enc : TypeId × Value → H) (W : World) (base : Nat) (v0 : Value) (d0 : DataW H) (p0 : List MemPlace) (v1 : Value) (d1 : DataW H) (p1 : List MemPlace) (v2 : Value) (d2 : DataW H) (p2 : List MemPlace)
    (ok0 : Value.okWide Try.prog W .any base 23 v0) (ok1 : Value.okWide Try.prog W .any base 23 v1) (ok2 : Value.okWide Try.prog W .any base 3 v2)
    (h0 : DataW.Trod enc Try.prog W 0 (fun _ => true) true 23 v0 d0 p0) (h1 : DataW.Trod enc Try.prog W 0 (fun _ => true) true 23 v1 d1 p1) (h2 : DataW.Trod enc Try.prog W 0 (fun _ => true) true 3 v2 d2 p2) :
    Calls Try.prog 6 #[v0, v1, v2] W fun e W' => e = .returned (.bool true) ∧ Below W.heap.size W W' := by
  obtain ⟨x1, x2, rfl, hx1, hx2⟩ := open_z ok0 h0
  obtain ⟨y1, y2, rfl, hy1, hy2⟩ := open_z ok1 h1
  obtain ⟨n, rfl, rfl, rfl, wn⟩ := open_int Try.underlying3 ok2 h2
  by_cases hn : n < 0 ∨ 1099511627776 < n
  · exact turned_out x1 x2 y1 y2 n hn W
  · exact turned_main x1 x2 y1 y2 hx1 hx2 hy1 hy2 n (by omega) (by omega) W
end Go.Proofs.Ytlnlflhoieiloaa
