/-
  The law GaussPowers over the loaded program: every number's inverse, and its powers, below 0 too. No condition.
-/
import Derived.Test.YtlnlflhoieiloaaGauZ
namespace Go.Proofs.Ytlnlflhoieiloaa
open Go.RowKit Gau Go.ChangeShapes Go.WideShapes Go.Joins
set_option linter.unusedVariables false

theorem powers_out (x1 x2 n : Int) (hn : n < -1099511627776 ∨ 1099511627776 < n) (w : World) :
    Calls Try.prog 4 #[.agg #[.int .i64 x1, .int .i64 x2], .int .i64 n] w fun e w' => e = .returned (.bool true) ∧ Below w.heap.size w w' := by
  by_cases h1 : n < -1099511627776
  · go_enter Try.func4, Try.ntmps4
    go_wp2_with fail
    refine (live_any _).mono ?_
    rintro e w1 ⟨rfl, b1⟩
    go_wp2
    go_ret
    exact ⟨rfl, ((Below.refl _ _).alloc (Nat.le_refl _) _).trans (b1.mono (by simp only [alloc_size]; omega))⟩
  · have h2 : 1099511627776 < n := by omega
    go_enter Try.func4, Try.ntmps4
    go_wp2_with fail
    refine (live_any _).mono ?_
    rintro e w1 ⟨rfl, b1⟩
    go_wp2
    go_ret
    exact ⟨rfl, ((Below.refl _ _).alloc (Nat.le_refl _) _).trans (b1.mono (by simp only [alloc_size]; omega))⟩

set_option maxHeartbeats 1000000 in
theorem powers_main (x1 x2 : Int) (hx1 : I64 x1) (hx2 : I64 x2) (n : Int) (h0 : -1099511627776 ≤ n) (h1 : n ≤ 1099511627776) (w : World) :
    Calls Try.prog 4 #[.agg #[.int .i64 x1, .int .i64 x2], .int .i64 n] w fun e w' => e = .returned (.bool true) ∧ Below w.heap.size w w' := by
  have hx := of_z x1 x2 hx1 hx2
  clear hx1 hx2
  generalize gI x1 x2 = a at *
  have hp := pow_any a n (by omega) (by omega)
  have hrp := rpow_any a n (by omega) (by omega)
  have hi := inv_any a
  have hri := rinv_any a
  have hy1 := SameZ.mk (ginv a)
  have hy2 := SameZ.mk (zpow a n)
  have hE := parts_zero a
  generalize ginv a = i at *
  generalize zpow a n = p at *
  have hxi : ∃ u, u = rz i := ⟨_, rfl⟩
  have hxp : ∃ u, u = rz p := ⟨_, rfl⟩
  obtain ⟨ri, hxi⟩ := hxi
  obtain ⟨rp, hxp⟩ := hxp
  rw [← hxi] at hri hy1
  rw [← hxp] at hrp hy2
  clear hxi hxp
  unfold rz at *
  generalize (a.re.val : Int) = E at *
  generalize (a.im.val : Int) = F at *
  generalize cz a = ca at *
  generalize cz i = ci at *
  generalize cz p = cp at *
  go_enter Try.func4, Try.ntmps4
  go_wp2_with fail
  refine (hx _).mono ?_
  rintro e w1 ⟨rfl, b1⟩
  have B1 := ((Below.refl w.heap.size w).alloc (Nat.le_refl _) (.cells #[.int .i64 x1, .int .i64 x2] 23)).trans (b1.mono (by simp only [alloc_size]; omega))
  have B2 := B1.alloc B1.size (.cells #[.int .i64 E, .int .i64 F] 25)
  have k2 := KB.new w1 25 #[.int .i64 E, .int .i64 F]
  clear b1 hx
  by_cases ha : a = zero
  · have hd : decide (a ≠ zero) = false := by simpa using ha
    obtain ⟨rfl, rfl⟩ := hE.1 ha
    rw [hd] at hi
    clear ha hd hE
    go_wp2_with fail
    refine (hi _).mono ?_
    rintro e w' ⟨rfl, rfl⟩
    generalize w1.alloc (.cells #[.int .i64 0, .int .i64 0] 25) = w2 at *
    have l2 := k2.lt
    have c0 : w2.cell? ⟨w1.heap.size, 0, none⟩ = some (.int .i64 0) := k2.cell 0
    have c1 : w2.cell? ⟨w1.heap.size, 1, none⟩ = some (.int .i64 0) := k2.cell 1
    go_wp2_with fail
    have K : KB w2.drew w1.heap.size 25 #[.int .i64 0, .int .i64 0] := k2
    have B : Below w.heap.size w w2.drew := Below_drawn B2 1
    clear k2 B2 l2
    go_region_held3 (fun w' => w'.cell? ⟨w1.heap.size, 0, none⟩ = some (.int .i64 0) ∧ w'.cell? ⟨w1.heap.size, 1, none⟩ = some (.int .i64 0))
      (first | exact ⟨K.cell 0, K.cell 1⟩ | go_keep)
      (first
        | (go_at_call 21; refine (hri _).mono ?_; rintro e w3 ⟨rfl, b3⟩; replace K := K.below b3 K.lt; replace B := B.trans (b3.mono B.size); clear b3)
        | (go_at_call 8; refine (is_same _ _ (by assumption) _).mono ?_; rintro e w3 ⟨rfl, b3⟩; replace K := K.below b3 K.lt; replace B := B.trans (b3.mono B.size); clear b3)
        | (go_at_call 22; refine (hp _).mono ?_; rintro e w' ⟨rfl, rfl⟩)
        | (go_at_call 23; refine (hrp _).mono ?_; rintro e w3 ⟨rfl, b3⟩; replace K := K.below b3 K.lt; replace B := B.trans (b3.mono B.size); clear b3)
        | (go_at_call 19; refine (live_any _).mono ?_; rintro e w3 ⟨rfl, b3⟩; replace K := K.below b3 K.lt; replace B := B.trans (b3.mono B.size); clear b3))
    go_wp2
    go_ret
    exact ⟨rfl, B⟩
  · have hd : decide (a ≠ zero) = true := by simpa using ha
    rw [hd] at hi
    have hEF : ¬ (E = 0 ∧ F = 0) := fun h => ha (hE.2 h)
    clear ha hd hE
    by_cases e1 : E = 0
    · subst e1
      have e1 : ¬ F = 0 := fun h => hEF ⟨rfl, h⟩
      have e2 : decide (F = 0) = false := by simpa using e1
      have e5 : (F == 0) = false := by simpa using e1
      clear hEF
      go_wp2_with fail
      refine (hi _).mono ?_
      rintro e w' ⟨rfl, rfl⟩
      generalize w1.alloc (.cells #[.int .i64 0, .int .i64 F] 25) = w2 at *
      have l2 := k2.lt
      have c0 : w2.cell? ⟨w1.heap.size, 0, none⟩ = some (.int .i64 0) := k2.cell 0
      have c1 : w2.cell? ⟨w1.heap.size, 1, none⟩ = some (.int .i64 F) := k2.cell 1
      go_wp2_with fail
      have K : KB w2.drew w1.heap.size 25 #[.int .i64 0, .int .i64 F] := k2
      have B : Below w.heap.size w w2.drew := Below_drawn B2 1
      clear k2 B2 l2
      go_region_held3 (fun w' => w'.cell? ⟨w1.heap.size, 0, none⟩ = some (.int .i64 0) ∧ w'.cell? ⟨w1.heap.size, 1, none⟩ = some (.int .i64 F))
        (first | exact ⟨K.cell 0, K.cell 1⟩ | go_keep)
        (first
          | (go_at_call 21; refine (hri _).mono ?_; rintro e w3 ⟨rfl, b3⟩; replace K := K.below b3 K.lt; replace B := B.trans (b3.mono B.size); clear b3)
          | (go_at_call 8; refine (is_same _ _ (by assumption) _).mono ?_; rintro e w3 ⟨rfl, b3⟩; replace K := K.below b3 K.lt; replace B := B.trans (b3.mono B.size); clear b3)
          | (go_at_call 22; refine (hp _).mono ?_; rintro e w' ⟨rfl, rfl⟩)
          | (go_at_call 23; refine (hrp _).mono ?_; rintro e w3 ⟨rfl, b3⟩; replace K := K.below b3 K.lt; replace B := B.trans (b3.mono B.size); clear b3)
          | (go_at_call 19; refine (live_any _).mono ?_; rintro e w3 ⟨rfl, b3⟩; replace K := K.below b3 K.lt; replace B := B.trans (b3.mono B.size); clear b3))
      go_wp2
      go_ret
      exact ⟨rfl, B⟩
    · have e2 : decide (E = 0) = false := by simpa using e1
      have e5 : (E == 0) = false := by simpa using e1
      clear hEF
      go_wp2_with fail
      refine (hi _).mono ?_
      rintro e w' ⟨rfl, rfl⟩
      generalize w1.alloc (.cells #[.int .i64 E, .int .i64 F] 25) = w2 at *
      have l2 := k2.lt
      have c0 : w2.cell? ⟨w1.heap.size, 0, none⟩ = some (.int .i64 E) := k2.cell 0
      have c1 : w2.cell? ⟨w1.heap.size, 1, none⟩ = some (.int .i64 F) := k2.cell 1
      go_wp2_with fail
      have K : KB w2.drew w1.heap.size 25 #[.int .i64 E, .int .i64 F] := k2
      have B : Below w.heap.size w w2.drew := Below_drawn B2 1
      clear k2 B2 l2
      go_region_held3 (fun w' => w'.cell? ⟨w1.heap.size, 0, none⟩ = some (.int .i64 E) ∧ w'.cell? ⟨w1.heap.size, 1, none⟩ = some (.int .i64 F))
        (first | exact ⟨K.cell 0, K.cell 1⟩ | go_keep)
        (first
          | (go_at_call 21; refine (hri _).mono ?_; rintro e w3 ⟨rfl, b3⟩; replace K := K.below b3 K.lt; replace B := B.trans (b3.mono B.size); clear b3)
          | (go_at_call 8; refine (is_same _ _ (by assumption) _).mono ?_; rintro e w3 ⟨rfl, b3⟩; replace K := K.below b3 K.lt; replace B := B.trans (b3.mono B.size); clear b3)
          | (go_at_call 22; refine (hp _).mono ?_; rintro e w' ⟨rfl, rfl⟩)
          | (go_at_call 23; refine (hrp _).mono ?_; rintro e w3 ⟨rfl, b3⟩; replace K := K.below b3 K.lt; replace B := B.trans (b3.mono B.size); clear b3)
          | (go_at_call 19; refine (live_any _).mono ?_; rintro e w3 ⟨rfl, b3⟩; replace K := K.below b3 K.lt; replace B := B.trans (b3.mono B.size); clear b3))
      go_wp2
      go_ret
      exact ⟨rfl, B⟩

theorem gaussPowers_law {H : Type} (enc : TypeId × Value → H) (W : World) (base : Nat) (v0 : Value) (d0 : DataW H) (p0 : List MemPlace) (v1 : Value) (d1 : DataW H) (p1 : List MemPlace)
    (ok0 : Value.okWide Try.prog W .any base 23 v0) (ok1 : Value.okWide Try.prog W .any base 3 v1)
    (h0 : DataW.Trod enc Try.prog W 0 (fun _ => true) true 23 v0 d0 p0) (h1 : DataW.Trod enc Try.prog W 0 (fun _ => true) true 3 v1 d1 p1) :
    Calls Try.prog 4 #[v0, v1] W fun e W' => e = .returned (.bool true) ∧ Below W.heap.size W W' := by
  obtain ⟨x1, x2, rfl, hx1, hx2⟩ := open_z ok0 h0
  obtain ⟨n, rfl, rfl, rfl, wn⟩ := open_int Try.underlying3 ok1 h1
  by_cases hn : n < -1099511627776 ∨ 1099511627776 < n
  · exact powers_out x1 x2 n hn W
  · exact powers_main x1 x2 hx1 hx2 n (by omega) (by omega) W
end Go.Proofs.Ytlnlflhoieiloaa
