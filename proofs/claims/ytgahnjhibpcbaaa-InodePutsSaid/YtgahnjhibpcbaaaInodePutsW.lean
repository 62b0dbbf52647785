/-
  The law InodePuts over the loaded program: which inodes may be, and their bytes; which names may be. No condition.
-/
import Derived.Test.YtgahnjhibpcbaaaInT
import Derived.Test.YtgahnjhibpcbaaaInL
namespace Go.Proofs.Ytgahnjhibpcbaaa
open Go.RowKit Go.ChangeShapes Go.WideShapes Go.Joins
set_option maxRecDepth 100000
set_option linter.unusedVariables false

theorem chk_put (x : Ino) (n : Int) : chkS x n = (putS x n).2 := by
  unfold chkS putS
  split <;> rfl

theorem iputs_out (v : Value) (x : Ino) (n : Int) (l : List UInt8) (hx : hugeS x n = true ∨ 200 < l.length) (w : World) (h : IV w (fun b => b < w.heap.size) v x) :
    Calls Try.prog 3 #[v, .int .i64 n, strV l] w (Yes12 w) := by
  obtain ⟨a, rfl, ha, hz, hl⟩ := id h
  obtain ⟨A, c, rfl, hc, hcm, _⟩ := ha.form
  have hs : ((⟨l.toArray⟩ : ByteArray).size : Int) = (l.length : Int) := rfl
  have hu := fun W (h : IV W (fun b => b < w.heap.size) (.agg #[strV x.name, .int .i64 x.size, .slice A x.at_.length c]) x) => huge_any _ _ x n W h
  have h1 := h.alloc (.cells #[strV x.name, .int .i64 x.size, .slice A x.at_.length c] 24)
  have B := (Below.refl w.heap.size w).alloc (Nat.le_refl _) (.cells #[strV x.name, .int .i64 x.size, .slice A x.at_.length c] 24)
  generalize strV x.name = X at *
  unfold strV
  generalize (⟨l.toArray⟩ : ByteArray) = sl at *
  clear h ha hl hz
  cases hg : hugeS x n with
  | true =>
    rw [hg] at hu
    clear hx hg
    go_enter Try.func3, Try.ntmps3
    go_wp2_with fail
    refine (hu _ h1).mono ?_
    rintro e w1 ⟨rfl, b1⟩
    replace B := B.trans (b1.mono B.size)
    go_wp2_with fail
    refine (live_any _).mono ?_
    rintro e w2 ⟨rfl, b2⟩
    go_wp2
    go_ret
    exact ⟨rfl, B.trans (b2.mono B.size)⟩
  | false =>
    rw [hg] at hu hx
    have D : decide ((200 : Int) < (sl.size : Int)) = true := decide_eq_true (by simp at hx; omega)
    clear hx hg hs
    go_enter Try.func3, Try.ntmps3
    go_wp2_with fail
    refine (hu _ h1).mono ?_
    rintro e w1 ⟨rfl, b1⟩
    replace B := B.trans (b1.mono B.size)
    go_wp2_with fail
    refine (live_any _).mono ?_
    rintro e w2 ⟨rfl, b2⟩
    go_wp2
    go_ret
    exact ⟨rfl, B.trans (b2.mono B.size)⟩

set_option maxHeartbeats 2000000 in
theorem iputs_main (v : Value) (x : Ino) (n : Int) (l : List UInt8) (hg : hugeS x n = false) (hll : ¬ 200 < l.length) (w : World) (h : IV w (fun b => b < w.heap.size) v x) :
    Calls Try.prog 3 #[v, .int .i64 n, strV l] w (Yes12 w) := by
  have hsm : x.at_.length ≤ 1000000000 := by have := (huge_no hg).2; omega
  have hnm := name_any l
  have hrn := fun W => rname_any l (by unfold maxLen; omega) W
  have hp := fun v W h => put_any v x n hsm W h
  have hq := fun v W h => rput_any v x n W h
  have hk := fun v W h => check_any v x n hsm W h
  rw [chk_put] at hk
  have hu := fun v W S h => huge_any S v x n W h
  rw [hg] at hu
  obtain ⟨a, rfl, ha, hz, hl⟩ := id h
  obtain ⟨A, c, rfl, hc, hcm, _⟩ := ha.form
  have hs : ((⟨l.toArray⟩ : ByteArray).size : Int) = (l.length : Int) := rfl
  have h1 := h.alloc (.cells #[strV x.name, .int .i64 x.size, .slice A x.at_.length c] 24)
  have B := (Below.refl w.heap.size w).alloc (Nat.le_refl _) (.cells #[strV x.name, .int .i64 x.size, .slice A x.at_.length c] 24)
  have K := KB.new w 24 #[strV x.name, .int .i64 x.size, .slice A x.at_.length c]
  have HIV : Hid (∀ W, Below w.heap.size w W → IV W (fun b => b < W.heap.size) (.agg #[strV x.name, .int .i64 x.size, .slice A x.at_.length c]) x) := fun W hb => (h.below' hb).mono fun b hlt => by have := hb.size; omega
  generalize strV x.name = X at *
  unfold strV at *
  generalize (⟨l.toArray⟩ : ByteArray) = sl at *
  have D : decide ((200 : Int) < (sl.size : Int)) = false := decide_eq_false (by omega)
  generalize putS x n = r at *
  generalize nameS l = m at *
  obtain ⟨pb, pe⟩ := r
  have E1 : (pe == pe) = true := by simp
  have E2 : (m == m) = true := by simp
  clear h ha hl hz hs hg hll
  go_enter Try.func3, Try.ntmps3
  go_wp2_with fail
  refine (hu _ _ _ h1).mono ?_
  rintro e w1 ⟨rfl, b1⟩
  replace B := B.trans (b1.mono B.size)
  replace K := K.below b1 K.lt
  have c0 : w1.cell? ⟨w.heap.size, 0, none⟩ = some X := K.cell 0
  have c1 : w1.cell? ⟨w.heap.size, 1, none⟩ = some (.int .i64 x.size) := K.cell 1
  have c2 : w1.cell? ⟨w.heap.size, 2, none⟩ = some (.slice A x.at_.length c) := K.cell 2
  clear b1 hu h1
  go_wp2_with fail
  refine (hp _ _ (HIV.out _ B)).mono ?_
  rintro e w2 ⟨v2, rfl, x2, b2⟩
  replace B := B.trans (b2.mono B.size)
  replace K := K.below b2 K.lt
  obtain ⟨A2, q2, rfl, _⟩ := x2.form
  clear c0 c1 c2 hp b2
  have c0 : w2.cell? ⟨w.heap.size, 0, none⟩ = some X := K.cell 0
  have c1 : w2.cell? ⟨w.heap.size, 1, none⟩ = some (.int .i64 x.size) := K.cell 1
  have c2 : w2.cell? ⟨w.heap.size, 2, none⟩ = some (.slice A x.at_.length c) := K.cell 2
  go_wp2_with fail
  refine (hq _ _ (HIV.out _ B)).mono ?_
  rintro e w3 ⟨v3, rfl, x3, b3⟩
  replace B := B.trans (b3.mono B.size)
  replace K := K.below b3 K.lt
  replace x2 := x2.below' b3
  obtain ⟨A3, q3, rfl, _⟩ := x3.form
  clear c0 c1 c2 hq b3
  go_wp2_with fail
  refine (same_to _ _ _ _ _ _ x2 x3).mono ?_
  rintro e w4 ⟨rfl, b4⟩
  replace B := B.trans (b4.mono B.size)
  replace K := K.below b4 K.lt
  have c0 : w4.cell? ⟨w.heap.size, 0, none⟩ = some X := K.cell 0
  have c1 : w4.cell? ⟨w.heap.size, 1, none⟩ = some (.int .i64 x.size) := K.cell 1
  have c2 : w4.cell? ⟨w.heap.size, 2, none⟩ = some (.slice A x.at_.length c) := K.cell 2
  clear x2 x3 b4
  go_wp2_with fail
  refine (num12_any _ _).mono ?_
  rintro e w' ⟨rfl, rfl⟩
  go_wp2_with fail
  refine (hk _ _ (HIV.out _ B)).mono ?_
  rintro e w5 ⟨rfl, b5⟩
  replace B := B.trans (b5.mono B.size)
  clear b5 hk c0 c1 c2
  go_wp2_with fail
  refine (num12_any _ _).mono ?_
  rintro e w' ⟨rfl, rfl⟩
  go_wp2_with fail
  refine (hnm _).mono ?_
  rintro e w6 ⟨rfl, b6⟩
  replace B := B.trans (b6.mono B.size)
  clear b6 hnm
  go_wp2_with fail
  refine (hrn _).mono ?_
  rintro e w' ⟨rfl, rfl⟩
  clear hrn
  go_wp2_with fail
  refine (live_any _).mono ?_
  rintro e w7 ⟨rfl, b7⟩
  go_wp2
  go_ret
  exact ⟨rfl, B.trans (b7.mono B.size)⟩

/-- The law InodePuts, from the arguments as they come. -/
theorem inodePuts_law {H : Type} (enc : TypeId × Value → H) (W : World) (base : Nat)
    (v0 : Value) (d0 : DataW H) (p0 : List MemPlace) (v1 : Value) (d1 : DataW H) (p1 : List MemPlace) (v2 : Value) (d2 : DataW H) (p2 : List MemPlace)
    (k0 : Value.okWide Try.prog W .any base 24 v0) (k1 : Value.okWide Try.prog W .any base 3 v1) (k2 : Value.okWide Try.prog W .any base 9 v2)
    (h0 : DataW.Trod enc Try.prog W 0 (fun _ => true) true 24 v0 d0 p0) (h1 : DataW.Trod enc Try.prog W 0 (fun _ => true) true 3 v1 d1 p1) (h2 : DataW.Trod enc Try.prog W 0 (fun _ => true) true 9 v2 d2 p2) :
    Calls Try.prog 3 #[v0, v1, v2] W fun e W' => e = .returned (.bool true) ∧ Below W.heap.size W W' := by
  obtain ⟨x, hx, _⟩ := open_ino k0 h0
  obtain ⟨n, rfl, rfl, rfl, wn⟩ := open_int Try.underlying3 k1 h1
  obtain ⟨l, rfl, hl⟩ := open_str k2 h2
  by_cases hh : hugeS x n = true ∨ 200 < l.length
  · exact iputs_out v0 x n l hh W hx
  · exact iputs_main v0 x n l (by cases h : hugeS x n with | false => rfl | true => exact absurd (.inl h) hh) (fun h => hh (.inr h)) W hx
end Go.Proofs.Ytgahnjhibpcbaaa
