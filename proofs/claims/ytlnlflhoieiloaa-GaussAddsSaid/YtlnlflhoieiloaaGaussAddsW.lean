/-
  The law GaussAdds over the loaded program: every two numbers' sum, difference, product; what is turned about, and the norm. No condition.
-/
import Derived.Test.YtlnlflhoieiloaaGauZ
namespace Go.Proofs.Ytlnlflhoieiloaa
open Go.RowKit Gau Go.ChangeShapes Go.WideShapes Go.Joins
set_option linter.unusedVariables false

set_option maxHeartbeats 2000000 in
theorem adds_main (x1 x2 y1 y2 : Int) (hx1 : I64 x1) (hx2 : I64 x2) (hy1 : I64 y1) (hy2 : I64 y2) (w : World) :
    Calls Try.prog 3 #[.agg #[.int .i64 x1, .int .i64 x2], .agg #[.int .i64 y1, .int .i64 y2]] w fun e w' => e = .returned (.bool true) ∧ Below w.heap.size w w' := by
  have hx := of_z x1 x2 hx1 hx2
  have hy := of_z y1 y2 hy1 hy2
  clear hx1 hx2 hy1 hy2
  generalize gI x1 x2 = a at *
  generalize gI y1 y2 = b at *
  have s0 := SameZ.mk a
  have s1 := SameZ.mk (gadd a b)
  have s2 := SameZ.mk (gsub a b)
  have s3 := SameZ.mk (gmul a b)
  have s4 := SameZ.mk (gconj a)
  have m1 := add_any a b
  have m2 := sub_any a b
  have m3 := mul_any a b
  have m4 := conj_any a
  have m5 := norm_any a
  have r1 := radd_any a b
  have r2 := rsub_any a b
  have r3 := rmul_any a b
  have r4 := rconj_any a
  have r5 := rnorm_any a
  generalize cz (gadd a b) = p1 at *
  generalize cz (gsub a b) = p2 at *
  generalize cz (gmul a b) = p3 at *
  generalize cz (gconj a) = p4 at *
  generalize cz a = pa at *
  generalize cz b = pb at *
  generalize rz (gadd a b) = q1 at *
  generalize rz (gsub a b) = q2 at *
  generalize rz (gmul a b) = q3 at *
  generalize rz (gconj a) = q4 at *
  generalize ((gnorm a).val : Int) = n at *
  unfold rz at *
  generalize (a.re.val : Int) = A1 at *
  generalize (a.im.val : Int) = A2 at *
  generalize (b.re.val : Int) = B1 at *
  generalize (b.im.val : Int) = B2 at *
  go_enter Try.func3, Try.ntmps3
  go_wp2_with fail
  refine (hx _).mono ?_
  rintro e w1 ⟨rfl, b1⟩
  obtain ⟨k1, D1⟩ := second b1
  have z1 := k1.lt
  have c0 : w1.cell? ⟨w.heap.size + 1, 0, none⟩ = some (.int .i64 y1) := k1.cell 0
  have c1 : w1.cell? ⟨w.heap.size + 1, 1, none⟩ = some (.int .i64 y2) := k1.cell 1
  go_wp2_with fail
  refine (hy _).mono ?_
  rintro e w2 ⟨rfl, b2⟩
  have D2 := (D1.alloc D1.size (.cells #[.int .i64 A1, .int .i64 A2] 25)).trans (b2.mono (by simp only [alloc_size]; have := D1.size; omega))
  have k2' := KB.new w1 25 #[.int .i64 A1, .int .i64 A2]
  have k2 := k2'.below b2 k2'.lt
  clear b1 b2 k1 c0 c1 z1 D1 k2' hx hy
  have D3 := D2.alloc D2.size (.cells #[.int .i64 B1, .int .i64 B2] 25)
  have k3 := KB.new w2 25 #[.int .i64 B1, .int .i64 B2]
  have j3 := k2.alloc (.cells #[.int .i64 B1, .int .i64 B2] 25)
  clear k2 D2
  go_wp2_with fail
  generalize w2.alloc (.cells #[.int .i64 B1, .int .i64 B2] 25) = w3 at *
  have K : KB w3.drew w1.heap.size 25 #[.int .i64 A1, .int .i64 A2] := j3
  have L : KB w3.drew w2.heap.size 25 #[.int .i64 B1, .int .i64 B2] := k3
  have c0 : w3.cell? ⟨w1.heap.size, 0, none⟩ = some (.int .i64 A1) := j3.cell 0
  have c1 : w3.cell? ⟨w1.heap.size, 1, none⟩ = some (.int .i64 A2) := j3.cell 1
  have d0 : w3.cell? ⟨w2.heap.size, 0, none⟩ = some (.int .i64 B1) := k3.cell 0
  have d1 : w3.cell? ⟨w2.heap.size, 1, none⟩ = some (.int .i64 B2) := k3.cell 1
  have B : Below w.heap.size w w3.drew := Below_drawn D3 1
  clear j3 k3 D3
  go_region_held3 (fun w' => w'.cell? ⟨w1.heap.size, 0, none⟩ = some (.int .i64 A1) ∧ w'.cell? ⟨w1.heap.size, 1, none⟩ = some (.int .i64 A2) ∧ w'.cell? ⟨w2.heap.size, 0, none⟩ = some (.int .i64 B1) ∧ w'.cell? ⟨w2.heap.size, 1, none⟩ = some (.int .i64 B2))
    (first | exact ⟨K.cell 0, K.cell 1, L.cell 0, L.cell 1⟩ | go_keep)
    (first
        | (go_at_call 8; refine (is_same _ _ (by assumption) _).mono ?_; rintro e w5 ⟨rfl, b5⟩; replace K := K.below b5 K.lt; replace L := L.below b5 L.lt; replace B := B.trans (b5.mono B.size); clear b5)
        | (go_at_call 9; refine (m1 _).mono ?_; rintro e w' ⟨rfl, rfl⟩)
        | (go_at_call 10; refine (r1 _).mono ?_; rintro e w5 ⟨rfl, b5⟩; replace K := K.below b5 K.lt; replace L := L.below b5 L.lt; replace B := B.trans (b5.mono B.size); clear b5)
        | (go_at_call 11; refine (m2 _).mono ?_; rintro e w' ⟨rfl, rfl⟩)
        | (go_at_call 12; refine (r2 _).mono ?_; rintro e w5 ⟨rfl, b5⟩; replace K := K.below b5 K.lt; replace L := L.below b5 L.lt; replace B := B.trans (b5.mono B.size); clear b5)
        | (go_at_call 13; refine (m3 _).mono ?_; rintro e w' ⟨rfl, rfl⟩)
        | (go_at_call 14; refine (r3 _).mono ?_; rintro e w5 ⟨rfl, b5⟩; replace K := K.below b5 K.lt; replace L := L.below b5 L.lt; replace B := B.trans (b5.mono B.size); clear b5)
        | (go_at_call 15; refine (m4 _).mono ?_; rintro e w' ⟨rfl, rfl⟩)
        | (go_at_call 16; refine (r4 _).mono ?_; rintro e w5 ⟨rfl, b5⟩; replace K := K.below b5 K.lt; replace L := L.below b5 L.lt; replace B := B.trans (b5.mono B.size); clear b5)
        | (go_at_call 17; refine (m5 _).mono ?_; rintro e w' ⟨rfl, rfl⟩)
        | (go_at_call 18; refine (r5 _).mono ?_; rintro e w5 ⟨rfl, b5⟩; replace K := K.below b5 K.lt; replace L := L.below b5 L.lt; replace B := B.trans (b5.mono B.size); clear b5)
        | (go_at_call 19; refine (live_any _).mono ?_; rintro e w5 ⟨rfl, b5⟩; replace K := K.below b5 K.lt; replace L := L.below b5 L.lt; replace B := B.trans (b5.mono B.size); clear b5))
  go_wp2
  go_ret
  exact ⟨rfl, B⟩

theorem gaussAdds_law {H : Type} (enc : TypeId × Value → H) (W : World) (base : Nat) (v0 : Value) (d0 : DataW H) (p0 : List MemPlace) (v1 : Value) (d1 : DataW H) (p1 : List MemPlace)
    (ok0 : Value.okWide Try.prog W .any base 23 v0) (ok1 : Value.okWide Try.prog W .any base 23 v1)
    (h0 : DataW.Trod enc Try.prog W 0 (fun _ => true) true 23 v0 d0 p0) (h1 : DataW.Trod enc Try.prog W 0 (fun _ => true) true 23 v1 d1 p1) :
    Calls Try.prog 3 #[v0, v1] W fun e W' => e = .returned (.bool true) ∧ Below W.heap.size W W' := by
  obtain ⟨x1, x2, rfl, hx1, hx2⟩ := open_z ok0 h0
  obtain ⟨y1, y2, rfl, hy1, hy2⟩ := open_z ok1 h1
  exact adds_main x1 x2 y1 y2 hx1 hx2 hy1 hy2 W
end Go.Proofs.Ytlnlflhoieiloaa
