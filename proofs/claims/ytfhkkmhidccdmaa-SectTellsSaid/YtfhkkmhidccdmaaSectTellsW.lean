/-
  The law SectTells over the loaded program, where a byte is turned, or two are. No condition.
-/
import Derived.Test.YtfhkkmhidccdmaaSectTellsU
namespace Go.Proofs.Ytfhkkmhidccdmaa
open Go.RowKit Gau Go.ChangeShapes Go.WideShapes Go.Joins
set_option linter.unusedVariables false

set_option maxRecDepth 100000 in
set_option maxHeartbeats 1000000 in
theorem tells_in_a (S : Nat → Prop) (v : Value) (l : List UInt8) (i j : Nat) (hi : i < 256) (hj : j < 256) (b c : UInt8) (bi ci : Int) (hb : Hid (bi = (b.toNat : Int))) (hc : Hid (ci = (c.toNat : Int))) (he : (putS 7 l).2 = 0) (h5 : bi = 0) (w : World) (h : BS w S v l) :
    Calls Try.prog 6 #[v, .agg #[.int .i64 i, .int .u8 bi], .agg #[.int .i64 j, .int .u8 ci]] w (Yes9 w) := by
  have hl := put7_len he
  have hok : (getS (putS 7 l).1).2.2 = 0 := by rw [get_put he]
  have hi1 : ¬ (i : Int) < 0 := by omega
  have hi2 : ¬ (256 : Int) ≤ i := by omega
  have hj1 : ¬ (j : Int) < 0 := by omega
  have hj2 : ¬ (256 : Int) ≤ j := by omega
  have n5 : (bi != 0) = false := by rw [h5]; rfl
  have hone : b = 0 ∨ c = 0 ∨ i = j ∨ (i ≤ 251 ∧ j ≤ 251) := .inl (byte_nil (hb.out.symm.trans h5))
  clear h5
  have h0 := h.lt.mono (S' := fun b => b < w.heap.size) fun _ h => h.2
  obtain ⟨A, cap, rfl, _⟩ := h.form
  clear h
  go_enter Try.func6, Try.ntmps6
  have kx := (KB.new w 39 #[.int .i64 i, .int .u8 bi]).alloc (.cells #[.int .i64 j, .int .u8 ci] 39)
  have ky := KB.new (w.alloc (.cells #[.int .i64 i, .int .u8 bi] 39)) 39 #[.int .i64 j, .int .u8 ci]
  rw [World.size_alloc] at ky
  have B := ((Below.refl w.heap.size w).alloc (Nat.le_refl _) (.cells #[.int .i64 i, .int .u8 bi] 39)).alloc (by simp) (.cells #[.int .i64 j, .int .u8 ci] 39)
  have hp := put_sect 7 _ _ l _ ((h0.alloc (.cells #[.int .i64 i, .int .u8 bi] 39)).alloc (.cells #[.int .i64 j, .int .u8 ci] 39))
  clear h0
  generalize putS 7 l = r at *
  obtain ⟨p, e⟩ := r
  dsimp only at he hl hok
  subst he
  have HL := Lib.hid hl
  have HOK := Lib.hid hok
  clear hl hok
  go_wp2_with fail
  refine hp.mono ?_
  rintro _ w1 ⟨v1, rfl, how1, b1⟩
  have q1 : BS w1 _ v1 p := own_BS how1
  replace kx := kx.below b1 kx.lt
  replace ky := ky.below b1 ky.lt
  replace B := B.trans (b1.mono B.size)
  have x0 : w1.cell? ⟨w.heap.size, 0, none⟩ = some (.int .i64 i) := kx.cell 0
  have x1 : w1.cell? ⟨w.heap.size, 1, none⟩ = some (.int .u8 bi) := kx.cell 1
  have y0 : w1.cell? ⟨w.heap.size + 1, 0, none⟩ = some (.int .i64 j) := ky.cell 0
  have y1 : w1.cell? ⟨w.heap.size + 1, 1, none⟩ = some (.int .u8 ci) := ky.cell 1
  obtain ⟨A1, c1, rfl, _⟩ := q1.form
  rw [HL.out] at q1 ⊢
  clear hp b1
  clear how1
  go_wp2_with (go_at_call 11; refine (num9_any _ _).mono ?_; rintro _ w' ⟨rfl, rfl⟩)
  refine (copy_any _ _ p w1 q1 (by rw [HL.out]; omega)).mono ?_
  rintro _ w2 ⟨vc, rfl, how2, b2⟩
  obtain ⟨g, cap1, rfl, hg, O⟩ := Own.of how2 (by rw [HL.out]; omega)
  rw [HL.out]
  replace q1 : BS w2 (fun b => b < w1.heap.size) _ p := (q1.below' b2).mono fun _ h => h.2
  have hw1 : w.heap.size + 1 < w1.heap.size := ky.lt
  replace ky := ky.below b2 ky.lt
  have hx0 : w2.cell? ⟨w.heap.size, 0, none⟩ = some (.int .i64 i) := (kx.below b2 kx.lt).cell 0
  have hx1 : w2.cell? ⟨w.heap.size, 1, none⟩ = some (.int .u8 bi) := (kx.below b2 kx.lt).cell 1
  replace B := B.trans (b2.mono B.size)
  have hgw : w1.heap.size ≤ g := hg
  clear b2 how2 x0 x1 y0 y1 hg kx
  obtain ⟨_, _, ea, _, _, hcell⟩ := O.BS.at_ (by rw [HL.out]; omega)
  injection ea with ea
  injection ea with ea eo
  subst ea eo
  obtain ⟨pi, hpi⟩ : ∃ u, p[i]? = some u := ⟨_, List.getElem?_eq_getElem (by rw [HL.out]; exact hi)⟩
  have c0 := hcell i pi hpi
  rw [Nat.zero_add] at c0
  have f0 := O.free i
  clear hcell
  go_wp2
  go_region
  rw [hb.out, xor_byte]
  have ky2 : KB (w2.setCell ⟨g, i, none⟩ (bv (pi ^^^ b))).drew (w.heap.size + 1) 39 #[.int .i64 j, .int .u8 ci] := ky.other (by omega)
  have O2 : Own (w2.setCell ⟨g, i, none⟩ (bv (pi ^^^ b))).drew g (p.set i (pi ^^^ b)) cap1 := O.set i _
  have q2 : BS (w2.setCell ⟨g, i, none⟩ (bv (pi ^^^ b))).drew (fun b => b < w1.heap.size) (.slice A1 256 c1) p := q1.setCell (by show ¬ g < w1.heap.size; omega) _
  have B2 : Below w.heap.size w (w2.setCell ⟨g, i, none⟩ (bv (pi ^^^ b))).drew := Below_drawn (B.trans (below_of_grown' (grown_set _ _ _ _) (by omega) B.size)) 1
  clear ky O q1 B hx0 hx1 c0 f0
  generalize (w2.setCell ⟨g, i, none⟩ (bv (pi ^^^ b))).drew = w3 at *
  obtain ⟨p1, e1⟩ : ∃ p1, p1 = p.set i (pi ^^^ b) := ⟨_, rfl⟩
  have hl1 : p1.length = 256 := by rw [e1, List.length_set, HL.out]
  rw [← e1] at O2
  obtain ⟨qj, hqj⟩ : ∃ u, p1[j]? = some u := ⟨_, List.getElem?_eq_getElem (by rw [hl1]; exact hj)⟩
  have y0 : w3.cell? ⟨w.heap.size + 1, 0, none⟩ = some (.int .i64 j) := ky2.cell 0
  have y1 : w3.cell? ⟨w.heap.size + 1, 1, none⟩ = some (.int .u8 ci) := ky2.cell 1
  obtain ⟨_, _, ea, _, _, hcell⟩ := O2.BS.at_ (by rw [hl1]; omega)
  injection ea with ea
  injection ea with ea eo
  subst ea eo
  have c0 := hcell j qj hqj
  rw [Nat.zero_add] at c0
  have f0 := O2.free j
  clear hcell
  have HL1 := Lib.hid hl1
  clear hl1
  go_wp2
  go_region
  rw [hc.out, xor_byte]
  have O3 : Own (w3.setCell ⟨g, j, none⟩ (bv (qj ^^^ c))).drew g (p1.set j (qj ^^^ c)) cap1 := O2.set j _
  have q3 : BS (w3.setCell ⟨g, j, none⟩ (bv (qj ^^^ c))).drew (fun b => b < w1.heap.size) (.slice A1 256 c1) p := q2.setCell (by show ¬ g < w1.heap.size; omega) _
  have B3 : Below w.heap.size w (w3.setCell ⟨g, j, none⟩ (bv (qj ^^^ c))).drew := Below_drawn (B2.trans (below_of_grown' (grown_set _ _ _ _) (by omega) B2.size)) 1
  clear ky2 O2 q2 B2 y0 y1 c0 f0
  generalize (w3.setCell ⟨g, j, none⟩ (bv (qj ^^^ c))).drew = w4 at *
  obtain ⟨p2, e2⟩ : ∃ p2, p2 = p1.set j (qj ^^^ c) := ⟨_, rfl⟩
  have hl2 : p2.length = 256 := by rw [e2, List.length_set, HL1.out]
  rw [← e2] at O3
  subst e1
  have T := sect_tells p p2 HOK.out i j b c pi qj hpi hqj e2 hone
  clear e2 hqj hpi HL1 hone
  have t3 := O3.BS
  rw [hl2] at t3
  clear O3 hl2
  have hg3 := get_sect _ _ p2 w4 t3
  go_wp2_with fail
  refine hg3.mono ?_
  rintro _ w5 ⟨v5, rfl, how5, b5⟩
  replace q3 := q3.below' b5
  replace t3 := t3.below' b5
  replace B3 := B3.trans (b5.mono B3.size)
  have hs := same_is _ _ _ _ p p2 w5 q3 t3
  rw [← T] at hs
  clear b5 how5 hg3 q3 t3 T
  generalize (getS p2).2.2 = f at *
  generalize (getS p2).1 = n at *
  by_cases hf : f = 0
  · subst hf
    rw [decide_eq_true rfl] at hs
    go_wp2_with (go_at_call 11; refine (num9_any _ _).mono ?_; rintro _ w' ⟨rfl, rfl⟩)
    refine hs.mono ?_
    rintro _ w6 ⟨rfl, b6⟩
    replace B3 := B3.trans (b6.mono B3.size)
    clear b6 hs
    go_wp2_with fail
    refine (live_any _).mono ?_
    rintro _ w7 ⟨rfl, b7⟩
    go_wp2
    go_ret
    exact ⟨rfl, B3.trans (b7.mono B3.size)⟩
  · rw [decide_eq_false hf] at hs
    have hf1 : (f == 0) = false := beq_eq_false_iff_ne.2 hf
    have hf2 : decide (f = 0) = false := decide_eq_false hf
    go_wp2_with (go_at_call 11; refine (num9_any _ _).mono ?_; rintro _ w' ⟨rfl, rfl⟩)
    refine hs.mono ?_
    rintro _ w6 ⟨rfl, b6⟩
    replace B3 := B3.trans (b6.mono B3.size)
    clear b6 hs
    go_wp2_with fail
    refine (live_any _).mono ?_
    rintro _ w7 ⟨rfl, b7⟩
    go_wp2
    go_ret
    exact ⟨rfl, B3.trans (b7.mono B3.size)⟩

set_option maxRecDepth 100000 in
set_option maxHeartbeats 1000000 in
theorem tells_in_b (S : Nat → Prop) (v : Value) (l : List UInt8) (i j : Nat) (hi : i < 256) (hj : j < 256) (b c : UInt8) (bi ci : Int) (hb : Hid (bi = (b.toNat : Int))) (hc : Hid (ci = (c.toNat : Int))) (he : (putS 7 l).2 = 0) (h5 : ¬ bi = 0) (h6 : ci = 0) (w : World) (h : BS w S v l) :
    Calls Try.prog 6 #[v, .agg #[.int .i64 i, .int .u8 bi], .agg #[.int .i64 j, .int .u8 ci]] w (Yes9 w) := by
  have hl := put7_len he
  have hok : (getS (putS 7 l).1).2.2 = 0 := by rw [get_put he]
  have hi1 : ¬ (i : Int) < 0 := by omega
  have hi2 : ¬ (256 : Int) ≤ i := by omega
  have hj1 : ¬ (j : Int) < 0 := by omega
  have hj2 : ¬ (256 : Int) ≤ j := by omega
  have n5 : (bi != 0) = true := bne_iff_ne.2 h5
  have n6 : (ci != 0) = false := by rw [h6]; rfl
  have hone : b = 0 ∨ c = 0 ∨ i = j ∨ (i ≤ 251 ∧ j ≤ 251) := .inr (.inl (byte_nil (hc.out.symm.trans h6)))
  clear h6
  have h0 := h.lt.mono (S' := fun b => b < w.heap.size) fun _ h => h.2
  obtain ⟨A, cap, rfl, _⟩ := h.form
  clear h
  go_enter Try.func6, Try.ntmps6
  have kx := (KB.new w 39 #[.int .i64 i, .int .u8 bi]).alloc (.cells #[.int .i64 j, .int .u8 ci] 39)
  have ky := KB.new (w.alloc (.cells #[.int .i64 i, .int .u8 bi] 39)) 39 #[.int .i64 j, .int .u8 ci]
  rw [World.size_alloc] at ky
  have B := ((Below.refl w.heap.size w).alloc (Nat.le_refl _) (.cells #[.int .i64 i, .int .u8 bi] 39)).alloc (by simp) (.cells #[.int .i64 j, .int .u8 ci] 39)
  have hp := put_sect 7 _ _ l _ ((h0.alloc (.cells #[.int .i64 i, .int .u8 bi] 39)).alloc (.cells #[.int .i64 j, .int .u8 ci] 39))
  clear h0
  generalize putS 7 l = r at *
  obtain ⟨p, e⟩ := r
  dsimp only at he hl hok
  subst he
  have HL := Lib.hid hl
  have HOK := Lib.hid hok
  clear hl hok
  go_wp2_with fail
  refine hp.mono ?_
  rintro _ w1 ⟨v1, rfl, how1, b1⟩
  have q1 : BS w1 _ v1 p := own_BS how1
  replace kx := kx.below b1 kx.lt
  replace ky := ky.below b1 ky.lt
  replace B := B.trans (b1.mono B.size)
  have x0 : w1.cell? ⟨w.heap.size, 0, none⟩ = some (.int .i64 i) := kx.cell 0
  have x1 : w1.cell? ⟨w.heap.size, 1, none⟩ = some (.int .u8 bi) := kx.cell 1
  have y0 : w1.cell? ⟨w.heap.size + 1, 0, none⟩ = some (.int .i64 j) := ky.cell 0
  have y1 : w1.cell? ⟨w.heap.size + 1, 1, none⟩ = some (.int .u8 ci) := ky.cell 1
  obtain ⟨A1, c1, rfl, _⟩ := q1.form
  rw [HL.out] at q1 ⊢
  clear hp b1
  clear how1
  go_wp2_with (go_at_call 11; refine (num9_any _ _).mono ?_; rintro _ w' ⟨rfl, rfl⟩)
  refine (copy_any _ _ p w1 q1 (by rw [HL.out]; omega)).mono ?_
  rintro _ w2 ⟨vc, rfl, how2, b2⟩
  obtain ⟨g, cap1, rfl, hg, O⟩ := Own.of how2 (by rw [HL.out]; omega)
  rw [HL.out]
  replace q1 : BS w2 (fun b => b < w1.heap.size) _ p := (q1.below' b2).mono fun _ h => h.2
  have hw1 : w.heap.size + 1 < w1.heap.size := ky.lt
  replace ky := ky.below b2 ky.lt
  have hx0 : w2.cell? ⟨w.heap.size, 0, none⟩ = some (.int .i64 i) := (kx.below b2 kx.lt).cell 0
  have hx1 : w2.cell? ⟨w.heap.size, 1, none⟩ = some (.int .u8 bi) := (kx.below b2 kx.lt).cell 1
  replace B := B.trans (b2.mono B.size)
  have hgw : w1.heap.size ≤ g := hg
  clear b2 how2 x0 x1 y0 y1 hg kx
  obtain ⟨_, _, ea, _, _, hcell⟩ := O.BS.at_ (by rw [HL.out]; omega)
  injection ea with ea
  injection ea with ea eo
  subst ea eo
  obtain ⟨pi, hpi⟩ : ∃ u, p[i]? = some u := ⟨_, List.getElem?_eq_getElem (by rw [HL.out]; exact hi)⟩
  have c0 := hcell i pi hpi
  rw [Nat.zero_add] at c0
  have f0 := O.free i
  clear hcell
  go_wp2
  go_region
  rw [hb.out, xor_byte]
  have ky2 : KB (w2.setCell ⟨g, i, none⟩ (bv (pi ^^^ b))).drew (w.heap.size + 1) 39 #[.int .i64 j, .int .u8 ci] := ky.other (by omega)
  have O2 : Own (w2.setCell ⟨g, i, none⟩ (bv (pi ^^^ b))).drew g (p.set i (pi ^^^ b)) cap1 := O.set i _
  have q2 : BS (w2.setCell ⟨g, i, none⟩ (bv (pi ^^^ b))).drew (fun b => b < w1.heap.size) (.slice A1 256 c1) p := q1.setCell (by show ¬ g < w1.heap.size; omega) _
  have B2 : Below w.heap.size w (w2.setCell ⟨g, i, none⟩ (bv (pi ^^^ b))).drew := Below_drawn (B.trans (below_of_grown' (grown_set _ _ _ _) (by omega) B.size)) 1
  clear ky O q1 B hx0 hx1 c0 f0
  generalize (w2.setCell ⟨g, i, none⟩ (bv (pi ^^^ b))).drew = w3 at *
  obtain ⟨p1, e1⟩ : ∃ p1, p1 = p.set i (pi ^^^ b) := ⟨_, rfl⟩
  have hl1 : p1.length = 256 := by rw [e1, List.length_set, HL.out]
  rw [← e1] at O2
  obtain ⟨qj, hqj⟩ : ∃ u, p1[j]? = some u := ⟨_, List.getElem?_eq_getElem (by rw [hl1]; exact hj)⟩
  have y0 : w3.cell? ⟨w.heap.size + 1, 0, none⟩ = some (.int .i64 j) := ky2.cell 0
  have y1 : w3.cell? ⟨w.heap.size + 1, 1, none⟩ = some (.int .u8 ci) := ky2.cell 1
  obtain ⟨_, _, ea, _, _, hcell⟩ := O2.BS.at_ (by rw [hl1]; omega)
  injection ea with ea
  injection ea with ea eo
  subst ea eo
  have c0 := hcell j qj hqj
  rw [Nat.zero_add] at c0
  have f0 := O2.free j
  clear hcell
  have HL1 := Lib.hid hl1
  clear hl1
  go_wp2
  go_region
  rw [hc.out, xor_byte]
  have O3 : Own (w3.setCell ⟨g, j, none⟩ (bv (qj ^^^ c))).drew g (p1.set j (qj ^^^ c)) cap1 := O2.set j _
  have q3 : BS (w3.setCell ⟨g, j, none⟩ (bv (qj ^^^ c))).drew (fun b => b < w1.heap.size) (.slice A1 256 c1) p := q2.setCell (by show ¬ g < w1.heap.size; omega) _
  have B3 : Below w.heap.size w (w3.setCell ⟨g, j, none⟩ (bv (qj ^^^ c))).drew := Below_drawn (B2.trans (below_of_grown' (grown_set _ _ _ _) (by omega) B2.size)) 1
  clear ky2 O2 q2 B2 y0 y1 c0 f0
  generalize (w3.setCell ⟨g, j, none⟩ (bv (qj ^^^ c))).drew = w4 at *
  obtain ⟨p2, e2⟩ : ∃ p2, p2 = p1.set j (qj ^^^ c) := ⟨_, rfl⟩
  have hl2 : p2.length = 256 := by rw [e2, List.length_set, HL1.out]
  rw [← e2] at O3
  subst e1
  have T := sect_tells p p2 HOK.out i j b c pi qj hpi hqj e2 hone
  clear e2 hqj hpi HL1 hone
  have t3 := O3.BS
  rw [hl2] at t3
  clear O3 hl2
  have hg3 := get_sect _ _ p2 w4 t3
  go_wp2_with fail
  refine hg3.mono ?_
  rintro _ w5 ⟨v5, rfl, how5, b5⟩
  replace q3 := q3.below' b5
  replace t3 := t3.below' b5
  replace B3 := B3.trans (b5.mono B3.size)
  have hs := same_is _ _ _ _ p p2 w5 q3 t3
  rw [← T] at hs
  clear b5 how5 hg3 q3 t3 T
  generalize (getS p2).2.2 = f at *
  generalize (getS p2).1 = n at *
  by_cases hf : f = 0
  · subst hf
    rw [decide_eq_true rfl] at hs
    go_wp2_with (go_at_call 11; refine (num9_any _ _).mono ?_; rintro _ w' ⟨rfl, rfl⟩)
    refine hs.mono ?_
    rintro _ w6 ⟨rfl, b6⟩
    replace B3 := B3.trans (b6.mono B3.size)
    clear b6 hs
    go_wp2_with fail
    refine (live_any _).mono ?_
    rintro _ w7 ⟨rfl, b7⟩
    go_wp2
    go_ret
    exact ⟨rfl, B3.trans (b7.mono B3.size)⟩
  · rw [decide_eq_false hf] at hs
    have hf1 : (f == 0) = false := beq_eq_false_iff_ne.2 hf
    have hf2 : decide (f = 0) = false := decide_eq_false hf
    go_wp2_with (go_at_call 11; refine (num9_any _ _).mono ?_; rintro _ w' ⟨rfl, rfl⟩)
    refine hs.mono ?_
    rintro _ w6 ⟨rfl, b6⟩
    replace B3 := B3.trans (b6.mono B3.size)
    clear b6 hs
    go_wp2_with fail
    refine (live_any _).mono ?_
    rintro _ w7 ⟨rfl, b7⟩
    go_wp2
    go_ret
    exact ⟨rfl, B3.trans (b7.mono B3.size)⟩

set_option maxRecDepth 100000 in
set_option maxHeartbeats 1000000 in
theorem tells_in_c (S : Nat → Prop) (v : Value) (l : List UInt8) (i j : Nat) (hi : i < 256) (hj : j < 256) (b c : UInt8) (bi ci : Int) (hb : Hid (bi = (b.toNat : Int))) (hc : Hid (ci = (c.toNat : Int))) (he : (putS 7 l).2 = 0) (h5 : ¬ bi = 0) (h6 : ¬ ci = 0) (h7 : i = j) (w : World) (h : BS w S v l) :
    Calls Try.prog 6 #[v, .agg #[.int .i64 i, .int .u8 bi], .agg #[.int .i64 j, .int .u8 ci]] w (Yes9 w) := by
  have hl := put7_len he
  have hok : (getS (putS 7 l).1).2.2 = 0 := by rw [get_put he]
  have hi1 : ¬ (i : Int) < 0 := by omega
  have hi2 : ¬ (256 : Int) ≤ i := by omega
  have hj1 : ¬ (j : Int) < 0 := by omega
  have hj2 : ¬ (256 : Int) ≤ j := by omega
  have n5 : (bi != 0) = true := bne_iff_ne.2 h5
  have n6 : (ci != 0) = true := bne_iff_ne.2 h6
  have hone : b = 0 ∨ c = 0 ∨ i = j ∨ (i ≤ 251 ∧ j ≤ 251) := .inr (.inr (.inl h7))
  have n7 : ((i : Int) != (j : Int)) = false := by rw [h7]; simp
  clear h7
  have h0 := h.lt.mono (S' := fun b => b < w.heap.size) fun _ h => h.2
  obtain ⟨A, cap, rfl, _⟩ := h.form
  clear h
  go_enter Try.func6, Try.ntmps6
  have kx := (KB.new w 39 #[.int .i64 i, .int .u8 bi]).alloc (.cells #[.int .i64 j, .int .u8 ci] 39)
  have ky := KB.new (w.alloc (.cells #[.int .i64 i, .int .u8 bi] 39)) 39 #[.int .i64 j, .int .u8 ci]
  rw [World.size_alloc] at ky
  have B := ((Below.refl w.heap.size w).alloc (Nat.le_refl _) (.cells #[.int .i64 i, .int .u8 bi] 39)).alloc (by simp) (.cells #[.int .i64 j, .int .u8 ci] 39)
  have hp := put_sect 7 _ _ l _ ((h0.alloc (.cells #[.int .i64 i, .int .u8 bi] 39)).alloc (.cells #[.int .i64 j, .int .u8 ci] 39))
  clear h0
  generalize putS 7 l = r at *
  obtain ⟨p, e⟩ := r
  dsimp only at he hl hok
  subst he
  have HL := Lib.hid hl
  have HOK := Lib.hid hok
  clear hl hok
  go_wp2_with fail
  refine hp.mono ?_
  rintro _ w1 ⟨v1, rfl, how1, b1⟩
  have q1 : BS w1 _ v1 p := own_BS how1
  replace kx := kx.below b1 kx.lt
  replace ky := ky.below b1 ky.lt
  replace B := B.trans (b1.mono B.size)
  have x0 : w1.cell? ⟨w.heap.size, 0, none⟩ = some (.int .i64 i) := kx.cell 0
  have x1 : w1.cell? ⟨w.heap.size, 1, none⟩ = some (.int .u8 bi) := kx.cell 1
  have y0 : w1.cell? ⟨w.heap.size + 1, 0, none⟩ = some (.int .i64 j) := ky.cell 0
  have y1 : w1.cell? ⟨w.heap.size + 1, 1, none⟩ = some (.int .u8 ci) := ky.cell 1
  obtain ⟨A1, c1, rfl, _⟩ := q1.form
  rw [HL.out] at q1 ⊢
  clear hp b1
  clear how1
  go_wp2_with (go_at_call 11; refine (num9_any _ _).mono ?_; rintro _ w' ⟨rfl, rfl⟩)
  refine (copy_any _ _ p w1 q1 (by rw [HL.out]; omega)).mono ?_
  rintro _ w2 ⟨vc, rfl, how2, b2⟩
  obtain ⟨g, cap1, rfl, hg, O⟩ := Own.of how2 (by rw [HL.out]; omega)
  rw [HL.out]
  replace q1 : BS w2 (fun b => b < w1.heap.size) _ p := (q1.below' b2).mono fun _ h => h.2
  have hw1 : w.heap.size + 1 < w1.heap.size := ky.lt
  replace ky := ky.below b2 ky.lt
  have hx0 : w2.cell? ⟨w.heap.size, 0, none⟩ = some (.int .i64 i) := (kx.below b2 kx.lt).cell 0
  have hx1 : w2.cell? ⟨w.heap.size, 1, none⟩ = some (.int .u8 bi) := (kx.below b2 kx.lt).cell 1
  replace B := B.trans (b2.mono B.size)
  have hgw : w1.heap.size ≤ g := hg
  clear b2 how2 x0 x1 y0 y1 hg kx
  obtain ⟨_, _, ea, _, _, hcell⟩ := O.BS.at_ (by rw [HL.out]; omega)
  injection ea with ea
  injection ea with ea eo
  subst ea eo
  obtain ⟨pi, hpi⟩ : ∃ u, p[i]? = some u := ⟨_, List.getElem?_eq_getElem (by rw [HL.out]; exact hi)⟩
  have c0 := hcell i pi hpi
  rw [Nat.zero_add] at c0
  have f0 := O.free i
  clear hcell
  go_wp2
  go_region
  rw [hb.out, xor_byte]
  have ky2 : KB (w2.setCell ⟨g, i, none⟩ (bv (pi ^^^ b))).drew (w.heap.size + 1) 39 #[.int .i64 j, .int .u8 ci] := ky.other (by omega)
  have O2 : Own (w2.setCell ⟨g, i, none⟩ (bv (pi ^^^ b))).drew g (p.set i (pi ^^^ b)) cap1 := O.set i _
  have q2 : BS (w2.setCell ⟨g, i, none⟩ (bv (pi ^^^ b))).drew (fun b => b < w1.heap.size) (.slice A1 256 c1) p := q1.setCell (by show ¬ g < w1.heap.size; omega) _
  have B2 : Below w.heap.size w (w2.setCell ⟨g, i, none⟩ (bv (pi ^^^ b))).drew := Below_drawn (B.trans (below_of_grown' (grown_set _ _ _ _) (by omega) B.size)) 1
  clear ky O q1 B hx0 hx1 c0 f0
  generalize (w2.setCell ⟨g, i, none⟩ (bv (pi ^^^ b))).drew = w3 at *
  obtain ⟨p1, e1⟩ : ∃ p1, p1 = p.set i (pi ^^^ b) := ⟨_, rfl⟩
  have hl1 : p1.length = 256 := by rw [e1, List.length_set, HL.out]
  rw [← e1] at O2
  obtain ⟨qj, hqj⟩ : ∃ u, p1[j]? = some u := ⟨_, List.getElem?_eq_getElem (by rw [hl1]; exact hj)⟩
  have y0 : w3.cell? ⟨w.heap.size + 1, 0, none⟩ = some (.int .i64 j) := ky2.cell 0
  have y1 : w3.cell? ⟨w.heap.size + 1, 1, none⟩ = some (.int .u8 ci) := ky2.cell 1
  obtain ⟨_, _, ea, _, _, hcell⟩ := O2.BS.at_ (by rw [hl1]; omega)
  injection ea with ea
  injection ea with ea eo
  subst ea eo
  have c0 := hcell j qj hqj
  rw [Nat.zero_add] at c0
  have f0 := O2.free j
  clear hcell
  have HL1 := Lib.hid hl1
  clear hl1
  go_wp2
  go_region
  rw [hc.out, xor_byte]
  have O3 : Own (w3.setCell ⟨g, j, none⟩ (bv (qj ^^^ c))).drew g (p1.set j (qj ^^^ c)) cap1 := O2.set j _
  have q3 : BS (w3.setCell ⟨g, j, none⟩ (bv (qj ^^^ c))).drew (fun b => b < w1.heap.size) (.slice A1 256 c1) p := q2.setCell (by show ¬ g < w1.heap.size; omega) _
  have B3 : Below w.heap.size w (w3.setCell ⟨g, j, none⟩ (bv (qj ^^^ c))).drew := Below_drawn (B2.trans (below_of_grown' (grown_set _ _ _ _) (by omega) B2.size)) 1
  clear ky2 O2 q2 B2 y0 y1 c0 f0
  generalize (w3.setCell ⟨g, j, none⟩ (bv (qj ^^^ c))).drew = w4 at *
  obtain ⟨p2, e2⟩ : ∃ p2, p2 = p1.set j (qj ^^^ c) := ⟨_, rfl⟩
  have hl2 : p2.length = 256 := by rw [e2, List.length_set, HL1.out]
  rw [← e2] at O3
  subst e1
  have T := sect_tells p p2 HOK.out i j b c pi qj hpi hqj e2 hone
  clear e2 hqj hpi HL1 hone
  have t3 := O3.BS
  rw [hl2] at t3
  clear O3 hl2
  have hg3 := get_sect _ _ p2 w4 t3
  go_wp2_with fail
  refine hg3.mono ?_
  rintro _ w5 ⟨v5, rfl, how5, b5⟩
  replace q3 := q3.below' b5
  replace t3 := t3.below' b5
  replace B3 := B3.trans (b5.mono B3.size)
  have hs := same_is _ _ _ _ p p2 w5 q3 t3
  rw [← T] at hs
  clear b5 how5 hg3 q3 t3 T
  generalize (getS p2).2.2 = f at *
  generalize (getS p2).1 = n at *
  by_cases hf : f = 0
  · subst hf
    rw [decide_eq_true rfl] at hs
    go_wp2_with (go_at_call 11; refine (num9_any _ _).mono ?_; rintro _ w' ⟨rfl, rfl⟩)
    refine hs.mono ?_
    rintro _ w6 ⟨rfl, b6⟩
    replace B3 := B3.trans (b6.mono B3.size)
    clear b6 hs
    go_wp2_with fail
    refine (live_any _).mono ?_
    rintro _ w7 ⟨rfl, b7⟩
    go_wp2
    go_ret
    exact ⟨rfl, B3.trans (b7.mono B3.size)⟩
  · rw [decide_eq_false hf] at hs
    have hf1 : (f == 0) = false := beq_eq_false_iff_ne.2 hf
    have hf2 : decide (f = 0) = false := decide_eq_false hf
    go_wp2_with (go_at_call 11; refine (num9_any _ _).mono ?_; rintro _ w' ⟨rfl, rfl⟩)
    refine hs.mono ?_
    rintro _ w6 ⟨rfl, b6⟩
    replace B3 := B3.trans (b6.mono B3.size)
    clear b6 hs
    go_wp2_with fail
    refine (live_any _).mono ?_
    rintro _ w7 ⟨rfl, b7⟩
    go_wp2
    go_ret
    exact ⟨rfl, B3.trans (b7.mono B3.size)⟩

set_option maxRecDepth 100000 in
set_option maxHeartbeats 1000000 in
theorem tells_in_d (S : Nat → Prop) (v : Value) (l : List UInt8) (i j : Nat) (hi : i < 256) (hj : j < 256) (b c : UInt8) (bi ci : Int) (hb : Hid (bi = (b.toNat : Int))) (hc : Hid (ci = (c.toNat : Int))) (he : (putS 7 l).2 = 0) (h5 : ¬ bi = 0) (h6 : ¬ ci = 0) (h7 : ¬ i = j) (h8 : i ≤ 251) (h9 : j ≤ 251) (w : World) (h : BS w S v l) :
    Calls Try.prog 6 #[v, .agg #[.int .i64 i, .int .u8 bi], .agg #[.int .i64 j, .int .u8 ci]] w (Yes9 w) := by
  have hl := put7_len he
  have hok : (getS (putS 7 l).1).2.2 = 0 := by rw [get_put he]
  have hi1 : ¬ (i : Int) < 0 := by omega
  have hi2 : ¬ (256 : Int) ≤ i := by omega
  have hj1 : ¬ (j : Int) < 0 := by omega
  have hj2 : ¬ (256 : Int) ≤ j := by omega
  have n5 : (bi != 0) = true := bne_iff_ne.2 h5
  have n6 : (ci != 0) = true := bne_iff_ne.2 h6
  have h7i : ¬ (i : Int) = j := by omega
  have n7 : ((i : Int) != (j : Int)) = true := bne_iff_ne.2 h7i
  have h8i : ¬ (251 : Int) < i := by omega
  have h9i : ¬ (251 : Int) < j := by omega
  have hone : b = 0 ∨ c = 0 ∨ i = j ∨ (i ≤ 251 ∧ j ≤ 251) := .inr (.inr (.inr ⟨h8, h9⟩))
  clear h7 h8 h9
  have h0 := h.lt.mono (S' := fun b => b < w.heap.size) fun _ h => h.2
  obtain ⟨A, cap, rfl, _⟩ := h.form
  clear h
  go_enter Try.func6, Try.ntmps6
  have kx := (KB.new w 39 #[.int .i64 i, .int .u8 bi]).alloc (.cells #[.int .i64 j, .int .u8 ci] 39)
  have ky := KB.new (w.alloc (.cells #[.int .i64 i, .int .u8 bi] 39)) 39 #[.int .i64 j, .int .u8 ci]
  rw [World.size_alloc] at ky
  have B := ((Below.refl w.heap.size w).alloc (Nat.le_refl _) (.cells #[.int .i64 i, .int .u8 bi] 39)).alloc (by simp) (.cells #[.int .i64 j, .int .u8 ci] 39)
  have hp := put_sect 7 _ _ l _ ((h0.alloc (.cells #[.int .i64 i, .int .u8 bi] 39)).alloc (.cells #[.int .i64 j, .int .u8 ci] 39))
  clear h0
  generalize putS 7 l = r at *
  obtain ⟨p, e⟩ := r
  dsimp only at he hl hok
  subst he
  have HL := Lib.hid hl
  have HOK := Lib.hid hok
  clear hl hok
  go_wp2_with fail
  refine hp.mono ?_
  rintro _ w1 ⟨v1, rfl, how1, b1⟩
  have q1 : BS w1 _ v1 p := own_BS how1
  replace kx := kx.below b1 kx.lt
  replace ky := ky.below b1 ky.lt
  replace B := B.trans (b1.mono B.size)
  have x0 : w1.cell? ⟨w.heap.size, 0, none⟩ = some (.int .i64 i) := kx.cell 0
  have x1 : w1.cell? ⟨w.heap.size, 1, none⟩ = some (.int .u8 bi) := kx.cell 1
  have y0 : w1.cell? ⟨w.heap.size + 1, 0, none⟩ = some (.int .i64 j) := ky.cell 0
  have y1 : w1.cell? ⟨w.heap.size + 1, 1, none⟩ = some (.int .u8 ci) := ky.cell 1
  obtain ⟨A1, c1, rfl, _⟩ := q1.form
  rw [HL.out] at q1 ⊢
  clear hp b1
  clear how1
  go_wp2_with (go_at_call 11; refine (num9_any _ _).mono ?_; rintro _ w' ⟨rfl, rfl⟩)
  refine (copy_any _ _ p w1 q1 (by rw [HL.out]; omega)).mono ?_
  rintro _ w2 ⟨vc, rfl, how2, b2⟩
  obtain ⟨g, cap1, rfl, hg, O⟩ := Own.of how2 (by rw [HL.out]; omega)
  rw [HL.out]
  replace q1 : BS w2 (fun b => b < w1.heap.size) _ p := (q1.below' b2).mono fun _ h => h.2
  have hw1 : w.heap.size + 1 < w1.heap.size := ky.lt
  replace ky := ky.below b2 ky.lt
  have hx0 : w2.cell? ⟨w.heap.size, 0, none⟩ = some (.int .i64 i) := (kx.below b2 kx.lt).cell 0
  have hx1 : w2.cell? ⟨w.heap.size, 1, none⟩ = some (.int .u8 bi) := (kx.below b2 kx.lt).cell 1
  replace B := B.trans (b2.mono B.size)
  have hgw : w1.heap.size ≤ g := hg
  clear b2 how2 x0 x1 y0 y1 hg kx
  obtain ⟨_, _, ea, _, _, hcell⟩ := O.BS.at_ (by rw [HL.out]; omega)
  injection ea with ea
  injection ea with ea eo
  subst ea eo
  obtain ⟨pi, hpi⟩ : ∃ u, p[i]? = some u := ⟨_, List.getElem?_eq_getElem (by rw [HL.out]; exact hi)⟩
  have c0 := hcell i pi hpi
  rw [Nat.zero_add] at c0
  have f0 := O.free i
  clear hcell
  go_wp2
  go_region
  rw [hb.out, xor_byte]
  have ky2 : KB (w2.setCell ⟨g, i, none⟩ (bv (pi ^^^ b))).drew (w.heap.size + 1) 39 #[.int .i64 j, .int .u8 ci] := ky.other (by omega)
  have O2 : Own (w2.setCell ⟨g, i, none⟩ (bv (pi ^^^ b))).drew g (p.set i (pi ^^^ b)) cap1 := O.set i _
  have q2 : BS (w2.setCell ⟨g, i, none⟩ (bv (pi ^^^ b))).drew (fun b => b < w1.heap.size) (.slice A1 256 c1) p := q1.setCell (by show ¬ g < w1.heap.size; omega) _
  have B2 : Below w.heap.size w (w2.setCell ⟨g, i, none⟩ (bv (pi ^^^ b))).drew := Below_drawn (B.trans (below_of_grown' (grown_set _ _ _ _) (by omega) B.size)) 1
  clear ky O q1 B hx0 hx1 c0 f0
  generalize (w2.setCell ⟨g, i, none⟩ (bv (pi ^^^ b))).drew = w3 at *
  obtain ⟨p1, e1⟩ : ∃ p1, p1 = p.set i (pi ^^^ b) := ⟨_, rfl⟩
  have hl1 : p1.length = 256 := by rw [e1, List.length_set, HL.out]
  rw [← e1] at O2
  obtain ⟨qj, hqj⟩ : ∃ u, p1[j]? = some u := ⟨_, List.getElem?_eq_getElem (by rw [hl1]; exact hj)⟩
  have y0 : w3.cell? ⟨w.heap.size + 1, 0, none⟩ = some (.int .i64 j) := ky2.cell 0
  have y1 : w3.cell? ⟨w.heap.size + 1, 1, none⟩ = some (.int .u8 ci) := ky2.cell 1
  obtain ⟨_, _, ea, _, _, hcell⟩ := O2.BS.at_ (by rw [hl1]; omega)
  injection ea with ea
  injection ea with ea eo
  subst ea eo
  have c0 := hcell j qj hqj
  rw [Nat.zero_add] at c0
  have f0 := O2.free j
  clear hcell
  have HL1 := Lib.hid hl1
  clear hl1
  go_wp2
  go_region
  rw [hc.out, xor_byte]
  have O3 : Own (w3.setCell ⟨g, j, none⟩ (bv (qj ^^^ c))).drew g (p1.set j (qj ^^^ c)) cap1 := O2.set j _
  have q3 : BS (w3.setCell ⟨g, j, none⟩ (bv (qj ^^^ c))).drew (fun b => b < w1.heap.size) (.slice A1 256 c1) p := q2.setCell (by show ¬ g < w1.heap.size; omega) _
  have B3 : Below w.heap.size w (w3.setCell ⟨g, j, none⟩ (bv (qj ^^^ c))).drew := Below_drawn (B2.trans (below_of_grown' (grown_set _ _ _ _) (by omega) B2.size)) 1
  clear ky2 O2 q2 B2 y0 y1 c0 f0
  generalize (w3.setCell ⟨g, j, none⟩ (bv (qj ^^^ c))).drew = w4 at *
  obtain ⟨p2, e2⟩ : ∃ p2, p2 = p1.set j (qj ^^^ c) := ⟨_, rfl⟩
  have hl2 : p2.length = 256 := by rw [e2, List.length_set, HL1.out]
  rw [← e2] at O3
  subst e1
  have T := sect_tells p p2 HOK.out i j b c pi qj hpi hqj e2 hone
  clear e2 hqj hpi HL1 hone
  have t3 := O3.BS
  rw [hl2] at t3
  clear O3 hl2
  have hg3 := get_sect _ _ p2 w4 t3
  go_wp2_with fail
  refine hg3.mono ?_
  rintro _ w5 ⟨v5, rfl, how5, b5⟩
  replace q3 := q3.below' b5
  replace t3 := t3.below' b5
  replace B3 := B3.trans (b5.mono B3.size)
  have hs := same_is _ _ _ _ p p2 w5 q3 t3
  rw [← T] at hs
  clear b5 how5 hg3 q3 t3 T
  generalize (getS p2).2.2 = f at *
  generalize (getS p2).1 = n at *
  by_cases hf : f = 0
  · subst hf
    rw [decide_eq_true rfl] at hs
    go_wp2_with (go_at_call 11; refine (num9_any _ _).mono ?_; rintro _ w' ⟨rfl, rfl⟩)
    refine hs.mono ?_
    rintro _ w6 ⟨rfl, b6⟩
    replace B3 := B3.trans (b6.mono B3.size)
    clear b6 hs
    go_wp2_with fail
    refine (live_any _).mono ?_
    rintro _ w7 ⟨rfl, b7⟩
    go_wp2
    go_ret
    exact ⟨rfl, B3.trans (b7.mono B3.size)⟩
  · rw [decide_eq_false hf] at hs
    have hf1 : (f == 0) = false := beq_eq_false_iff_ne.2 hf
    have hf2 : decide (f = 0) = false := decide_eq_false hf
    go_wp2_with (go_at_call 11; refine (num9_any _ _).mono ?_; rintro _ w' ⟨rfl, rfl⟩)
    refine hs.mono ?_
    rintro _ w6 ⟨rfl, b6⟩
    replace B3 := B3.trans (b6.mono B3.size)
    clear b6 hs
    go_wp2_with fail
    refine (live_any _).mono ?_
    rintro _ w7 ⟨rfl, b7⟩
    go_wp2
    go_ret
    exact ⟨rfl, B3.trans (b7.mono B3.size)⟩

theorem sectTells_law {H : Type} (enc : TypeId × Value → H) (W : World) (base : Nat) (v0 : Value) (d0 : DataW H) (p0 : List MemPlace) (v1 : Value) (d1 : DataW H) (p1 : List MemPlace) (v2 : Value) (d2 : DataW H) (p2 : List MemPlace)
    (ok0 : Value.okWide Try.prog W .any base 22 v0) (ok1 : Value.okWide Try.prog W .any base 39 v1) (ok2 : Value.okWide Try.prog W .any base 39 v2)
    (h0 : DataW.Trod enc Try.prog W 0 (fun _ => true) true 22 v0 d0 p0) (h1 : DataW.Trod enc Try.prog W 0 (fun _ => true) true 39 v1 d1 p1)
    (h2 : DataW.Trod enc Try.prog W 0 (fun _ => true) true 39 v2 d2 p2) :
    Calls Try.prog 6 #[v0, v1, v2] W fun e W' => e = .returned (.bool true) ∧ Below W.heap.size W W' := by
  obtain ⟨l, hl⟩ := BS_of_arg ok0 h0
  obtain ⟨i, b, rfl⟩ := open_t9 ok1 h1
  obtain ⟨j, c, rfl⟩ := open_t9 ok2 h2
  by_cases he : (putS 7 l).2 = 0
  · by_cases k1 : i < 0
    · exact tells_lo _ _ l i j _ _ he k1 W hl
    · by_cases k2 : 256 ≤ i
      · exact tells_hi _ _ l i j _ _ he k1 k2 W hl
      · by_cases k3 : j < 0
        · exact tells_lo2 _ _ l i j _ _ he k1 k2 k3 W hl
        · by_cases k4 : 256 ≤ j
          · exact tells_hi2 _ _ l i j _ _ he k1 k2 k3 k4 W hl
          · obtain ⟨m, rfl⟩ : ∃ m : Nat, i = (m : Int) := ⟨i.toNat, by omega⟩
            obtain ⟨n, rfl⟩ : ∃ n : Nat, j = (n : Int) := ⟨j.toNat, by omega⟩
            by_cases h5 : (b.toNat : Int) = 0
            · exact tells_in_a _ _ l m n (by omega) (by omega) b c _ _ rfl rfl he h5 W hl
            · by_cases h6 : (c.toNat : Int) = 0
              · exact tells_in_b _ _ l m n (by omega) (by omega) b c _ _ rfl rfl he h5 h6 W hl
              · by_cases h7 : m = n
                · exact tells_in_c _ _ l m n (by omega) (by omega) b c _ _ rfl rfl he h5 h6 h7 W hl
                · by_cases h8 : (251 : Int) < m
                  · exact tells_far _ _ l m n _ _ he k1 k2 k3 k4 h5 h6 (by omega) h8 W hl
                  · by_cases h9 : (251 : Int) < n
                    · exact tells_far2 _ _ l m n _ _ he k1 k2 k3 k4 h5 h6 (by omega) h8 h9 W hl
                    · exact tells_in_d _ _ l m n (by omega) (by omega) b c _ _ rfl rfl he h5 h6 h7 (by omega) (by omega) W hl
  · exact tells_er _ _ l i j _ _ he W hl
end Go.Proofs.Ytfhkkmhidccdmaa
