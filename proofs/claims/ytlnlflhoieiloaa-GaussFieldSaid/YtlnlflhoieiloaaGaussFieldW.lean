/-
  The law GaussField over the loaded program: sums and products in any order, products of sums, inverses. No condition.
-/
import Derived.Test.YtlnlflhoieiloaaGauZ
namespace Go.Proofs.Ytlnlflhoieiloaa
open Go.RowKit Gau Go.ChangeShapes Go.WideShapes Go.Joins
set_option linter.unusedVariables false

set_option maxHeartbeats 1000000 in
theorem field_main (x1 x2 y1 y2 z1 z2 : Int) (hx1 : I64 x1) (hx2 : I64 x2) (hy1 : I64 y1) (hy2 : I64 y2) (hz1 : I64 z1) (hz2 : I64 z2) (w : World) :
    Calls Try.prog 5 #[.agg #[.int .i64 x1, .int .i64 x2], .agg #[.int .i64 y1, .int .i64 y2], .agg #[.int .i64 z1, .int .i64 z2]] w fun e w' => e = .returned (.bool true) ∧ Below w.heap.size w w' := by
  have hx := of_z x1 x2 hx1 hx2
  have hy := of_z y1 y2 hy1 hy2
  have hz := of_z z1 z2 hz1 hz2
  clear hx1 hx2 hy1 hy2 hz1 hz2
  generalize gI x1 x2 = a at *
  generalize gI y1 y2 = b at *
  generalize gI z1 z2 = c at *
  have m1 := add_any b c
  have m2 := mul_any a (gadd b c)
  have m3 := mul_any a b
  have m4 := mul_any a c
  have m5 := add_any (gmul a b) (gmul a c)
  rw [← gmul_add] at m5
  have m6 := mul_any (gmul a b) c
  have m7 := mul_any c b
  have m8 := mul_any a (gmul c b)
  rw [gmul_comm c b, ← gmul_assoc] at m8
  rw [gmul_comm c b] at m7
  have m9 := sub_any a b
  have m10 := add_any (gsub a b) b
  rw [gsub_add] at m10
  have hi := inv_any a
  have hp1 := parts_cz (gmul a (gadd b c))
  have hp2 := parts_cz (gmul (gmul a b) c)
  have hpa := parts_cz a
  have hmi := mul_any a (ginv a)
  have hE := parts_zero a
  have hone : a ≠ zero → gmul a (ginv a) = one := mul_inv a
  have hyes := is_yes one
  rw [show rz one = .agg #[.int .i64 1, .int .i64 0] from rfl] at hyes
  unfold rz at *
  generalize (a.re.val : Int) = E at *
  generalize (a.im.val : Int) = F at *
  generalize gmul a (gadd b c) = p1 at *
  generalize gmul (gmul a b) c = p2 at *
  go_enter Try.func5, Try.ntmps5
  go_wp2_with fail
  obtain ⟨k0, k1, k2, B0⟩ := three w #[.int .i64 x1, .int .i64 x2] #[.int .i64 y1, .int .i64 y2] #[.int .i64 z1, .int .i64 z2] 23
  generalize ((w.alloc (.cells #[.int .i64 x1, .int .i64 x2] 23)).alloc (.cells #[.int .i64 y1, .int .i64 y2] 23)).alloc (.cells #[.int .i64 z1, .int .i64 z2] 23) = w0 at *
  refine (hx _).mono ?_
  rintro e w1 ⟨rfl, b1⟩
  replace k1 := k1.below b1 k1.lt
  replace k2 := k2.below b1 k2.lt
  have B1 := B0.trans (b1.mono B0.size)
  clear b1 k0 B0 hx
  have l1 := k1.lt
  have c0 : w1.cell? ⟨w.heap.size + 1, 0, none⟩ = some (.int .i64 y1) := k1.cell 0
  have c1 : w1.cell? ⟨w.heap.size + 1, 1, none⟩ = some (.int .i64 y2) := k1.cell 1
  go_wp2_with fail
  refine (hy _).mono ?_
  rintro e w2 ⟨rfl, b2⟩
  have k2' := k2.alloc (.cells #[.int .i64 E, .int .i64 F] 25)
  replace k2 := k2'.below b2 k2'.lt
  have B2 := (B1.alloc B1.size (.cells #[.int .i64 E, .int .i64 F] 25)).trans (b2.mono (by simp only [alloc_size]; have := B1.size; omega))
  clear b2 k1 B1 l1 c0 c1 k2' hy
  have l2 := k2.lt
  have c0 : w2.cell? ⟨w.heap.size + 2, 0, none⟩ = some (.int .i64 z1) := k2.cell 0
  have c1 : w2.cell? ⟨w.heap.size + 2, 1, none⟩ = some (.int .i64 z2) := k2.cell 1
  go_wp2_with fail
  refine (hz _).mono ?_
  rintro e w3 ⟨rfl, b3⟩
  have B3 := (B2.alloc B2.size (.cells #[.int .i64 b.re.val, .int .i64 b.im.val] 25)).trans (b3.mono (by simp only [alloc_size]; have := B2.size; omega))
  clear b3 k2 B2 l2 c0 c1 hz
  go_wp2_with fail
  refine (m1 _).mono ?_
  rintro e w' ⟨rfl, rfl⟩
  have k3 := KB.new (w3.alloc (.cells #[.int .i64 c.re.val, .int .i64 c.im.val] 25)) 25 #[.int .i64 1, .int .i64 0]
  rw [alloc_size] at k3
  have B4 := (B3.alloc B3.size (.cells #[.int .i64 c.re.val, .int .i64 c.im.val] 25)).alloc (by simp only [alloc_size]; have := B3.size; omega) (.cells #[.int .i64 1, .int .i64 0] 25)
  generalize (w3.alloc (.cells #[.int .i64 c.re.val, .int .i64 c.im.val] 25)).alloc (.cells #[.int .i64 1, .int .i64 0] 25) = w4 at *
  go_wp2_with fail
  refine (m2 _).mono ?_
  rintro e w' ⟨rfl, rfl⟩
  go_wp2_with fail
  refine (hp1 _).mono ?_
  rintro e w' ⟨rfl, rfl⟩
  go_wp2_with fail
  refine (m3 _).mono ?_
  rintro e w' ⟨rfl, rfl⟩
  go_wp2_with fail
  refine (m4 _).mono ?_
  rintro e w' ⟨rfl, rfl⟩
  go_wp2_with fail
  refine (m5 _).mono ?_
  rintro e w' ⟨rfl, rfl⟩
  go_wp2_with fail
  refine (hp1 _).mono ?_
  rintro e w' ⟨rfl, rfl⟩
  go_wp2_with fail
  refine (m3 _).mono ?_
  rintro e w' ⟨rfl, rfl⟩
  go_wp2_with fail
  refine (m6 _).mono ?_
  rintro e w' ⟨rfl, rfl⟩
  go_wp2_with fail
  refine (hp2 _).mono ?_
  rintro e w' ⟨rfl, rfl⟩
  go_wp2_with fail
  refine (m7 _).mono ?_
  rintro e w' ⟨rfl, rfl⟩
  go_wp2_with fail
  refine (m8 _).mono ?_
  rintro e w' ⟨rfl, rfl⟩
  go_wp2_with fail
  refine (hp2 _).mono ?_
  rintro e w' ⟨rfl, rfl⟩
  go_wp2_with fail
  refine (hpa _).mono ?_
  rintro e w' ⟨rfl, rfl⟩
  by_cases ha : a = zero
  · have hd : decide (a ≠ zero) = false := by simpa using ha
    obtain ⟨rfl, rfl⟩ := hE.1 ha
    rw [hd] at hi
    clear ha hd hE hone hmi hyes
    go_wp2_with fail
    refine (hi _).mono ?_
    rintro e w' ⟨rfl, rfl⟩
    go_wp2_with fail
    go_quiet (fail)
    go_wp2_with fail
    refine (m9 _).mono ?_
    rintro e w' ⟨rfl, rfl⟩
    go_wp2_with fail
    refine (m10 _).mono ?_
    rintro e w' ⟨rfl, rfl⟩
    go_wp2_with fail
    refine (hpa _).mono ?_
    rintro e w' ⟨rfl, rfl⟩
    go_wp2_with fail
    refine (live_any _).mono ?_
    rintro e w9 ⟨rfl, b9⟩
    go_wp2
    go_ret
    exact ⟨rfl, (Below_drawn B4 nq).trans (b9.mono (Below_drawn B4 nq).size)⟩
  · have hd : decide (a ≠ zero) = true := by simpa using ha
    rw [hd] at hi
    rw [hone ha] at hmi
    have hEF : ¬ (E = 0 ∧ F = 0) := fun h => ha (hE.2 h)
    clear ha hd hE hone
    go_wp2_with fail
    refine (hi _).mono ?_
    rintro e w' ⟨rfl, rfl⟩
    have l3 := k3.lt
    have c0 : w4.cell? ⟨w3.heap.size + 1, 0, none⟩ = some (.int .i64 1) := k3.cell 0
    have c1 : w4.cell? ⟨w3.heap.size + 1, 1, none⟩ = some (.int .i64 0) := k3.cell 1
    by_cases e1 : E = 0
    · subst e1
      have e1 : ¬ F = 0 := fun h => hEF ⟨rfl, h⟩
      have e2 : decide (F = 0) = false := by simpa using e1
      have e3 : decide (F ≠ 0) = true := by simpa using e1
      have e4 : (F != 0) = true := by simpa using e1
      have e5 : (F == 0) = false := by simpa using e1
      clear hEF
      go_wp2_with fail
      refine wp_still_tail 15 (by kernel_rfl) (by kernel_rfl) (fun W => KB W (w3.heap.size + 1) 25 #[.int .i64 1, .int .i64 0] ∧ Below w.heap.size w W) ⟨k3, Below_drawn B4 1⟩ ?_
      clear c0 c1 l3 k3 B4
      rintro w5 ⟨k5, B5⟩
      have c0 : w5.cell? ⟨w3.heap.size + 1, 0, none⟩ = some (.int .i64 1) := k5.cell 0
      have c1 : w5.cell? ⟨w3.heap.size + 1, 1, none⟩ = some (.int .i64 0) := k5.cell 1
      simp only [List.take_succ_cons, List.take_zero, List.drop_succ_cons, List.drop_zero]
      repeat still_step
      still_call ((hmi _).mono fun e w' h => ⟨h.1, h.2.symm⟩)
      repeat still_step
      refine wpStill_nil ?_
      go_wp2_with fail
      refine (hyes _).mono ?_
      rintro e w6 ⟨rfl, b6⟩
      have B6 := B5.trans (b6.mono B5.size)
      clear b6 c0 c1 k5 B5
      go_wp2_with fail
      refine (m9 _).mono ?_
      rintro e w' ⟨rfl, rfl⟩
      go_wp2_with fail
      refine (m10 _).mono ?_
      rintro e w' ⟨rfl, rfl⟩
      go_wp2_with fail
      refine (hpa _).mono ?_
      rintro e w' ⟨rfl, rfl⟩
      go_wp2_with fail
      refine (live_any _).mono ?_
      rintro e w9 ⟨rfl, b9⟩
      go_wp2
      go_ret
      exact ⟨rfl, (B6).trans (b9.mono (B6).size)⟩
    · have e2 : decide (E = 0) = false := by simpa using e1
      have e3 : decide (E ≠ 0) = true := by simpa using e1
      have e4 : (E != 0) = true := by simpa using e1
      have e5 : (E == 0) = false := by simpa using e1
      clear hEF
      go_wp2_with fail
      refine wp_still_tail 15 (by kernel_rfl) (by kernel_rfl) (fun W => KB W (w3.heap.size + 1) 25 #[.int .i64 1, .int .i64 0] ∧ Below w.heap.size w W) ⟨k3, Below_drawn B4 1⟩ ?_
      clear c0 c1 l3 k3 B4
      rintro w5 ⟨k5, B5⟩
      have c0 : w5.cell? ⟨w3.heap.size + 1, 0, none⟩ = some (.int .i64 1) := k5.cell 0
      have c1 : w5.cell? ⟨w3.heap.size + 1, 1, none⟩ = some (.int .i64 0) := k5.cell 1
      simp only [List.take_succ_cons, List.take_zero, List.drop_succ_cons, List.drop_zero]
      repeat still_step
      still_call ((hmi _).mono fun e w' h => ⟨h.1, h.2.symm⟩)
      repeat still_step
      refine wpStill_nil ?_
      go_wp2_with fail
      refine (hyes _).mono ?_
      rintro e w6 ⟨rfl, b6⟩
      have B6 := B5.trans (b6.mono B5.size)
      clear b6 c0 c1 k5 B5
      go_wp2_with fail
      refine (m9 _).mono ?_
      rintro e w' ⟨rfl, rfl⟩
      go_wp2_with fail
      refine (m10 _).mono ?_
      rintro e w' ⟨rfl, rfl⟩
      go_wp2_with fail
      refine (hpa _).mono ?_
      rintro e w' ⟨rfl, rfl⟩
      go_wp2_with fail
      refine (live_any _).mono ?_
      rintro e w9 ⟨rfl, b9⟩
      go_wp2
      go_ret
      exact ⟨rfl, (B6).trans (b9.mono (B6).size)⟩

theorem gaussField_law {H : Type} (enc : TypeId × Value → H) (W : World) (base : Nat) (v0 : Value) (d0 : DataW H) (p0 : List MemPlace) (v1 : Value) (d1 : DataW H) (p1 : List MemPlace) (v2 : Value) (d2 : DataW H) (p2 : List MemPlace)
    (ok0 : Value.okWide Try.prog W .any base 23 v0) (ok1 : Value.okWide Try.prog W .any base 23 v1) (ok2 : Value.okWide Try.prog W .any base 23 v2)
    (h0 : DataW.Trod enc Try.prog W 0 (fun _ => true) true 23 v0 d0 p0) (h1 : DataW.Trod enc Try.prog W 0 (fun _ => true) true 23 v1 d1 p1) (h2 : DataW.Trod enc Try.prog W 0 (fun _ => true) true 23 v2 d2 p2) :
    Calls Try.prog 5 #[v0, v1, v2] W fun e W' => e = .returned (.bool true) ∧ Below W.heap.size W W' := by
  obtain ⟨x1, x2, rfl, hx1, hx2⟩ := open_z ok0 h0
  obtain ⟨y1, y2, rfl, hy1, hy2⟩ := open_z ok1 h1
  obtain ⟨z1, z2, rfl, hz1, hz2⟩ := open_z ok2 h2
  exact field_main x1 x2 y1 y2 z1 z2 hx1 hx2 hy1 hy2 hz1 hz2 W
end Go.Proofs.Ytlnlflhoieiloaa
