/-
  The law InodeBack over the loaded program: what was put is got, and back; its bytes are few. No condition.
-/
import Derived.Test.YtgahnjhibpcbaaaInF
import Derived.Test.YtgahnjhibpcbaaaInL
namespace Go.Proofs.Ytgahnjhibpcbaaa
open Go.RowKit Go.ChangeShapes Go.WideShapes Go.Joins
set_option maxRecDepth 100000
set_option linter.unusedVariables false

theorem get_two (b : List UInt8) (n : Int) : (getS b n).2 = 0 ∨ getS b n = (ino0, 2) := by
  unfold getS
  split
  · exact .inl rfl
  · exact .inr rfl

theorem iback_out (v u : Value) (x : Ino) (n : Int) (l : List UInt8) (S : Nat → Prop) (hx : hugeS x n = true ∨ 400 < l.length) (w : World) (h : IV w (fun b => b < w.heap.size) v x) (hu : BS w S u l) :
    Calls Try.prog 5 #[v, .int .i64 n, u] w (Yes12 w) := by
  obtain ⟨a, rfl, ha, hz, hl⟩ := id h
  obtain ⟨A, c, rfl, hc, hcm, _⟩ := ha.form
  obtain ⟨A', c', rfl, hc', hcm', _⟩ := hu.form
  have hlen : l.length ≤ 9223372036854775807 := by unfold maxLen at hcm'; omega
  have hu := fun W (h : IV W (fun b => b < w.heap.size) (.agg #[strV x.name, .int .i64 x.size, .slice A x.at_.length c]) x) => huge_any _ _ x n W h
  have h1 := h.alloc (.cells #[strV x.name, .int .i64 x.size, .slice A x.at_.length c] 24)
  have B := (Below.refl w.heap.size w).alloc (Nat.le_refl _) (.cells #[strV x.name, .int .i64 x.size, .slice A x.at_.length c] 24)
  generalize strV x.name = X at *
  clear h ha hl hz hc' hcm'
  cases hg : hugeS x n with
  | true =>
    rw [hg] at hu
    clear hx hg
    go_enter Try.func5, Try.ntmps5
    go_wp2_with fail
    refine (hu _ h1).mono ?_
    rintro e w1 ⟨rfl, b1⟩
    replace B := B.trans (b1.mono B.size)
    go_wp2_with fail
    refine (live_any _).mono ?_
    rintro e w9 ⟨rfl, b9⟩
    go_wp2
    go_ret
    exact ⟨rfl, B.trans (b9.mono B.size)⟩
  | false =>
    rw [hg] at hu hx
    have D : decide ((400 : Int) < (l.length : Int)) = true := decide_eq_true (by simp at hx; omega)
    clear hx hg
    go_enter Try.func5, Try.ntmps5
    go_wp2_with fail
    refine (hu _ h1).mono ?_
    rintro e w1 ⟨rfl, b1⟩
    replace B := B.trans (b1.mono B.size)
    go_wp2_with fail
    refine (live_any _).mono ?_
    rintro e w9 ⟨rfl, b9⟩
    go_wp2
    go_ret
    exact ⟨rfl, B.trans (b9.mono B.size)⟩

set_option maxHeartbeats 4000000 in
theorem iback_main (v u : Value) (x : Ino) (n : Int) (l : List UInt8) (S : Nat → Prop) (hg : hugeS x n = false) (hll : ¬ 400 < l.length) (w : World) (h : IV w (fun b => b < w.heap.size) v x) (hb : BS w S u l) :
    Calls Try.prog 5 #[v, .int .i64 n, u] w (Yes12 w) := by
  have hsm : x.at_.length ≤ 1000000000 := by have := (huge_no hg).2; omega
  have hp := fun v W h => put_any v x n hsm W h
  have hu := fun v W S h => huge_any S v x n W h
  rw [hg] at hu
  obtain ⟨a, rfl, ha, hz, hl⟩ := id h
  obtain ⟨A, c, rfl, hc, hcm, _⟩ := ha.form
  obtain ⟨A', c', rfl, hc', hcm', _⟩ := hb.form
  have D : decide ((400 : Int) < (l.length : Int)) = false := decide_eq_false (by omega)
  have hgb := fun W (h : BS W S (.slice A' l.length c') l) => get_any S _ l n W h (by omega)
  have HBS : Hid (∀ W, Below w.heap.size w W → BS W S (.slice A' l.length c') l) := fun W k => hb.below' k
  have HGOT := Lib.hid (fun k => got_put (b := l) (n := n) k)
  have HSTR : Hid ((getS l n).1.at_.length ≤ 1000000000) := by
    rcases get_two l n with h0 | h0
    · obtain ⟨q1, q2, q3⟩ := got_put (b := l) (n := n) (by omega)
      obtain ⟨f1, f2, f3, f4, f5⟩ := (fit_iff _ n).1 q1
      have : pagesS (getS l n).1.size ≤ 24576 := by unfold pagesS; split <;> omega
      show _ ≤ _
      omega
    · show _ ≤ _
      rw [h0]; simp [ino0]
  have hpz := fun v (k : (getS l n).1.at_.length ≤ 1000000000) W h => put_any v (getS l n).1 n k W h
  have h1 := h.alloc (.cells #[strV x.name, .int .i64 x.size, .slice A x.at_.length c] 24)
  have B := (Below.refl w.heap.size w).alloc (Nat.le_refl _) (.cells #[strV x.name, .int .i64 x.size, .slice A x.at_.length c] 24)
  have K := KB.new w 24 #[strV x.name, .int .i64 x.size, .slice A x.at_.length c]
  have HIV : Hid (∀ W, Below w.heap.size w W → IV W (fun b => b < W.heap.size) (.agg #[strV x.name, .int .i64 x.size, .slice A x.at_.length c]) x) := fun W hb => (h.below' hb).mono fun b hlt => by have := hb.size; omega
  obtain ⟨sx, hX⟩ : ∃ s : ByteArray, Value.string s = strV x.name := ⟨_, rfl⟩
  rw [← hX] at h1 B K HIV ⊢
  have HX := Lib.hid hX
  clear h ha hl hz hg hll hc' hcm' hX hb
  go_enter Try.func5, Try.ntmps5
  go_wp2_with fail
  refine (hu _ _ _ h1).mono ?_
  rintro e w1 ⟨rfl, b1⟩
  replace B := B.trans (b1.mono B.size)
  replace K := K.below b1 K.lt
  have c0 : w1.cell? ⟨w.heap.size, 0, none⟩ = some (.string sx) := K.cell 0
  have c1 : w1.cell? ⟨w.heap.size, 1, none⟩ = some (.int .i64 x.size) := K.cell 1
  have c2 : w1.cell? ⟨w.heap.size, 2, none⟩ = some (.slice A x.at_.length c) := K.cell 2
  clear b1 hu h1
  go_wp2_with fail
  refine (hp _ _ (HIV.out _ B)).mono ?_
  rintro e w2 ⟨v2, rfl, x2, b2⟩
  replace B := B.trans (b2.mono B.size)
  replace K := K.below b2 K.lt
  obtain ⟨A2, q2, rfl, _⟩ := x2.form
  clear c0 c1 c2 hp b2
  have c0 : w2.cell? ⟨w.heap.size, 0, none⟩ = some (.string sx) := K.cell 0
  have c1 : w2.cell? ⟨w.heap.size, 1, none⟩ = some (.int .i64 x.size) := K.cell 1
  have c2 : w2.cell? ⟨w.heap.size, 2, none⟩ = some (.slice A x.at_.length c) := K.cell 2
  by_cases hf : fitS x n = true
  · have hpe : putS x n = (putB x n, 0) := if_pos hf
    have hgp := fun W h => get_any (fun b => w1.heap.size ≤ b) (.slice A2 (putB x n).length q2) (putB x n) n W h (by have := put_few hf; omega)
    rw [put_got hf] at hgp
    have hfew := put_few hf
    have D2 : decide ((160 : Int) < ((putB x n).length : Int)) = false := decide_eq_false (by omega)
    rw [hpe] at x2 ⊢
    simp only at x2 ⊢
    have hlb : (putB x n).length ≤ 9223372036854775807 := by omega
    clear hpe hf hfew
    generalize putB x n = PB at *
    go_wp2_with fail
    refine (num12_any _ _).mono ?_
    rintro e w' ⟨rfl, rfl⟩
    go_wp2_with fail
    refine (hgp _ x2).mono ?_
    rintro e w3 ⟨v3, rfl, x3, b3⟩
    replace B := B.trans (b3.mono B.size)
    replace K := K.below b3 K.lt
    obtain ⟨a3, e3, ia3, z3, n3⟩ := id x3
    obtain ⟨A3, q3, rfl, _⟩ := ia3.form
    simp only at e3 x3 n3 ia3
    rw [← HX.out] at e3
    subst e3
    clear hgp x2 b3 c0 c1 c2 z3 n3 ia3
    have h4 := x3.alloc (.cells #[.string sx, .int .i64 x.size, .slice A3 x.at_.length q3] 24)
    have K4 := KB.new w3 24 #[.string sx, .int .i64 x.size, .slice A3 x.at_.length q3]
    have b4 := (Below.refl w3.heap.size w3).alloc (Nat.le_refl _) (.cells #[.string sx, .int .i64 x.size, .slice A3 x.at_.length q3] 24)
    replace B := B.trans (b4.mono B.size)
    replace K := K.below b4 K.lt
    replace h4 := h4.lt.mono (S' := fun b => b < (w3.alloc (.cells #[.string sx, .int .i64 x.size, .slice A3 x.at_.length q3] 24)).heap.size) fun b hb => hb.2
    have his := isame_any _ _ x x _ (HIV.out _ B) h4
    rw [sameI_refl] at his
    clear x3 b4 h4
    go_wp2_with fail
    refine (num12_any _ _).mono ?_
    rintro e w' ⟨rfl, rfl⟩
    have c0 : (w3.alloc (.cells #[.string sx, .int .i64 x.size, .slice A3 x.at_.length q3] 24)).cell? ⟨w.heap.size, 0, none⟩ = some (.string sx) := K.cell 0
    have c1 : (w3.alloc (.cells #[.string sx, .int .i64 x.size, .slice A3 x.at_.length q3] 24)).cell? ⟨w.heap.size, 1, none⟩ = some (.int .i64 x.size) := K.cell 1
    have c2 : (w3.alloc (.cells #[.string sx, .int .i64 x.size, .slice A3 x.at_.length q3] 24)).cell? ⟨w.heap.size, 2, none⟩ = some (.slice A x.at_.length c) := K.cell 2
    go_wp2_with fail
    refine his.mono ?_
    rintro e w5 ⟨rfl, b5⟩
    replace B := B.trans (b5.mono B.size)
    clear his b5 c0 c1 c2 K K4
    go_wp2_with fail
    refine (hgb _ (HBS.out _ B)).mono ?_
    rintro e wt1 ⟨vt, rfl, xt, bt1⟩
    replace B := B.trans (bt1.mono B.size)
    obtain ⟨at2, rfl, ia, zt, nt⟩ := id xt
    obtain ⟨At, ct, rfl, _⟩ := ia.form
    clear bt1 ia
    have BT := B.alloc B.size (.cells #[strV (getS l n).1.name, .int .i64 (getS l n).1.size, .slice At (getS l n).1.at_.length ct] 24)
    have KT := KB.new wt1 24 #[strV (getS l n).1.name, .int .i64 (getS l n).1.size, .slice At (getS l n).1.at_.length ct]
    have xt2 := (xt.alloc (.cells #[strV (getS l n).1.name, .int .i64 (getS l n).1.size, .slice At (getS l n).1.at_.length ct] 24)).lt.mono (S' := fun b => b < (wt1.alloc (.cells #[strV (getS l n).1.name, .int .i64 (getS l n).1.size, .slice At (getS l n).1.at_.length ct] 24)).heap.size) fun b hb => hb.2
    clear xt
    by_cases h2 : (getS l n).2 = 2
    · rw [h2]
      clear HGOT HSTR h2 xt2 KT hpz
      generalize (getS l n).1 = y at *
      unfold strV at *
      generalize (⟨y.name.toArray⟩ : ByteArray) = sy at *
      go_wp2_with fail
      refine (num12_any _ _).mono ?_
      rintro e w' ⟨rfl, rfl⟩
      go_wp2_with fail
      refine (live_any _).mono ?_
      rintro e w9 ⟨rfl, b9⟩
      go_wp2
      go_ret
      exact ⟨rfl, BT.trans (b9.mono BT.size)⟩
    · obtain ⟨q1, q2, q3⟩ := HGOT.out h2
      rw [q3]
      have hpt := hpz (.agg #[strV (getS l n).1.name, .int .i64 (getS l n).1.size, .slice At (getS l n).1.at_.length ct]) (HSTR.out) _ xt2
      rw [show putS (getS l n).1 n = (l, 0) by unfold putS; rw [if_pos q1, q2]] at hpt
      clear HGOT HSTR h2 q1 q2 q3 xt2 hpz
      generalize (getS l n).1 = y at *
      unfold strV at *
      generalize (⟨y.name.toArray⟩ : ByteArray) = sy at *
      go_wp2_with fail
      refine (num12_any _ _).mono ?_
      rintro e w' ⟨rfl, rfl⟩
      go_wp2_with fail
      refine hpt.mono ?_
      rintro e wt3 ⟨vc, rfl, xc, bt3⟩
      replace BT := BT.trans (bt3.mono BT.size)
      obtain ⟨Ac, cc, rfl, _⟩ := xc.form
      clear hpt bt3
      go_wp2_with fail
      refine (num12_any _ _).mono ?_
      rintro e w' ⟨rfl, rfl⟩
      go_wp2_with fail
      refine (same_to _ _ _ _ _ _ xc (HBS.out _ BT)).mono ?_
      rintro e wt4 ⟨rfl, bt4⟩
      replace BT := BT.trans (bt4.mono BT.size)
      clear xc bt4
      go_wp2_with fail
      refine (live_any _).mono ?_
      rintro e w9 ⟨rfl, b9⟩
      go_wp2
      go_ret
      exact ⟨rfl, BT.trans (b9.mono BT.size)⟩
  · have hpe : putS x n = ([], 1) := if_neg hf
    rw [hpe] at x2 ⊢
    simp only at x2 ⊢
    clear hpe hf c0 c1 c2 K
    go_wp2_with fail
    refine (num12_any _ _).mono ?_
    rintro e w' ⟨rfl, rfl⟩
    go_wp2_with fail
    refine (hgb _ (HBS.out _ B)).mono ?_
    rintro e wt1 ⟨vt, rfl, xt, bt1⟩
    replace B := B.trans (bt1.mono B.size)
    obtain ⟨at2, rfl, ia, zt, nt⟩ := id xt
    obtain ⟨At, ct, rfl, _⟩ := ia.form
    clear bt1 ia
    have BT := B.alloc B.size (.cells #[strV (getS l n).1.name, .int .i64 (getS l n).1.size, .slice At (getS l n).1.at_.length ct] 24)
    have KT := KB.new wt1 24 #[strV (getS l n).1.name, .int .i64 (getS l n).1.size, .slice At (getS l n).1.at_.length ct]
    have xt2 := (xt.alloc (.cells #[strV (getS l n).1.name, .int .i64 (getS l n).1.size, .slice At (getS l n).1.at_.length ct] 24)).lt.mono (S' := fun b => b < (wt1.alloc (.cells #[strV (getS l n).1.name, .int .i64 (getS l n).1.size, .slice At (getS l n).1.at_.length ct] 24)).heap.size) fun b hb => hb.2
    clear xt
    by_cases h2 : (getS l n).2 = 2
    · rw [h2]
      clear HGOT HSTR h2 xt2 KT hpz
      generalize (getS l n).1 = y at *
      unfold strV at *
      generalize (⟨y.name.toArray⟩ : ByteArray) = sy at *
      go_wp2_with fail
      refine (num12_any _ _).mono ?_
      rintro e w' ⟨rfl, rfl⟩
      go_wp2_with fail
      refine (live_any _).mono ?_
      rintro e w9 ⟨rfl, b9⟩
      go_wp2
      go_ret
      exact ⟨rfl, BT.trans (b9.mono BT.size)⟩
    · obtain ⟨q1, q2, q3⟩ := HGOT.out h2
      rw [q3]
      have hpt := hpz (.agg #[strV (getS l n).1.name, .int .i64 (getS l n).1.size, .slice At (getS l n).1.at_.length ct]) (HSTR.out) _ xt2
      rw [show putS (getS l n).1 n = (l, 0) by unfold putS; rw [if_pos q1, q2]] at hpt
      clear HGOT HSTR h2 q1 q2 q3 xt2 hpz
      generalize (getS l n).1 = y at *
      unfold strV at *
      generalize (⟨y.name.toArray⟩ : ByteArray) = sy at *
      go_wp2_with fail
      refine (num12_any _ _).mono ?_
      rintro e w' ⟨rfl, rfl⟩
      go_wp2_with fail
      refine hpt.mono ?_
      rintro e wt3 ⟨vc, rfl, xc, bt3⟩
      replace BT := BT.trans (bt3.mono BT.size)
      obtain ⟨Ac, cc, rfl, _⟩ := xc.form
      clear hpt bt3
      go_wp2_with fail
      refine (num12_any _ _).mono ?_
      rintro e w' ⟨rfl, rfl⟩
      go_wp2_with fail
      refine (same_to _ _ _ _ _ _ xc (HBS.out _ BT)).mono ?_
      rintro e wt4 ⟨rfl, bt4⟩
      replace BT := BT.trans (bt4.mono BT.size)
      clear xc bt4
      go_wp2_with fail
      refine (live_any _).mono ?_
      rintro e w9 ⟨rfl, b9⟩
      go_wp2
      go_ret
      exact ⟨rfl, BT.trans (b9.mono BT.size)⟩

/-- The law InodeBack, from the arguments as they come. -/
theorem inodeBack_law {H : Type} (enc : TypeId × Value → H) (W : World) (base : Nat)
    (v0 : Value) (d0 : DataW H) (p0 : List MemPlace) (v1 : Value) (d1 : DataW H) (p1 : List MemPlace) (v2 : Value) (d2 : DataW H) (p2 : List MemPlace)
    (k0 : Value.okWide Try.prog W .any base 24 v0) (k1 : Value.okWide Try.prog W .any base 3 v1) (k2 : Value.okWide Try.prog W .any base 27 v2)
    (h0 : DataW.Trod enc Try.prog W 0 (fun _ => true) true 24 v0 d0 p0) (h1 : DataW.Trod enc Try.prog W 0 (fun _ => true) true 3 v1 d1 p1) (h2 : DataW.Trod enc Try.prog W 0 (fun _ => true) true 27 v2 d2 p2) :
    Calls Try.prog 5 #[v0, v1, v2] W fun e W' => e = .returned (.bool true) ∧ Below W.heap.size W W' := by
  obtain ⟨x, hx, _⟩ := open_ino k0 h0
  obtain ⟨n, rfl, rfl, rfl, wn⟩ := open_int Try.underlying3 k1 h1
  obtain ⟨l, hl⟩ := BS_of_arg k2 h2
  by_cases hh : hugeS x n = true ∨ 400 < l.length
  · exact iback_out v0 v2 x n l _ hh W hx hl
  · exact iback_main v0 v2 x n l _ (by cases h : hugeS x n with | false => rfl | true => exact absurd (.inl h) hh) (fun h => hh (.inr h)) W hx hl
end Go.Proofs.Ytgahnjhibpcbaaa
