/-
  The law MarkJoins over the loaded program: the mark of two texts, one behind the other, comes of theirs. No condition.
-/
import Derived.Test.YtcjegcmijdkekaaMarkL
import Derived.Test.YtcjegcmijdkekaaMarkR
import Derived.Test.YtcjegcmijdkekaaArgs
import Derived.Test.YtcjegcmijdkekaaStep
import Derived.Deep.RegionHeld3
namespace Go.Proofs.Ytcjegcmijdkekaa
open Go.RowKit Gau Go.ChangeShapes Go.WideShapes Go.Joins
set_option linter.unusedVariables false

theorem joined_len (l m : List UInt8) : joined (mk l) (mk m) (m.length : Int) = mk (l ++ m) := by
  unfold joined
  rw [if_neg (by omega), mk_join]; rfl

/-- 'Of' of two texts. -/
theorem mark_two (S : Nat → Prop) (x y : Value) (l m : List UInt8) (w : World) (h : BS w S x l) (g : BS w S y m) :
    Calls Try.prog 10 #[.slice (some ⟨w.heap.size, 0, none⟩) 2 2] (w.alloc (.cells #[x, y] 22)) fun e w' => e = .returned (cz (mk (l ++ m))) ∧ (w.alloc (.cells #[x, y] 22)) = w' := by
  have := mark_any _ _ [l, m] _ (LS.two (t := 22) h g)
  simpa using this

set_option maxHeartbeats 1000000 in
theorem joins_pos (S : Nat → Prop) (v u : Value) (l m : List UInt8) (hl : l.length ≤ 2000) (hm : m.length ≤ 2000) (n : Int) (hn0 : 0 ≤ n) (hn : n ≤ 1099511627776) (w : World) (h : BS w S v l) (g : BS w S u m) :
    Calls Try.prog 4 #[v, u, .int .i64 n] w fun e w' => e = .returned (.bool true) ∧ Below w.heap.size w w' := by
  obtain ⟨i0, hi, hz0, hz1, hz2⟩ := info_parts info_byte
  replace h := h.lt.mono (S' := fun b => b < w.heap.size) fun _ h => h.2
  replace g := g.lt.mono (S' := fun b => b < w.heap.size) fun _ h => h.2
  obtain ⟨A, c, rfl, _⟩ := h.form
  obtain ⟨A', c', rfl, _⟩ := g.form
  have J1 : joined (mk l) (mk m) (m.length : Int) = mk (l ++ m) := joined_len l m
  have jn1 := join_any (mk l) (mk m) (m.length : Int) (by omega)
  rw [J1] at jn1
  clear J1
  have jn2 := join_any (mk l) (mk m) n (by omega)
  have mw := fun (w : World) (S : Nat → Prop) (x y : Value) (h : BS w S x l) (g : BS w S y m) => mark_two S x y l m w h g
  obtain ⟨lm, elm⟩ : ∃ lm, lm = l ++ m := ⟨_, rfl⟩
  have hlm : lm.length ≤ 4000 := by rw [elm, List.length_append]; omega
  have elm' := Lib.hid elm
  rw [← elm] at jn1 mw
  clear elm
  have hp := fun w => rpow_pos base n.natAbs (by omega) w
  rw [show ((n.natAbs : Nat) : Int) = n by omega] at hp
  have hml := rmul_any (mk l) (gpow base n.natAbs)
  have had := radd_any (gmul (mk l) (gpow base n.natAbs)) (mk m)
  rw [show gadd (gmul (mk l) (gpow base n.natAbs)) (mk m) = joined (mk l) (mk m) n by unfold joined; rw [if_neg (by omega)]] at had
  have SA := SameZ.mk (mk lm)
  have SB := SameZ.mk (joined (mk l) (mk m) n)
  have o1 := mark_one _ _ l w h
  have h1 := h.alloc (.cells #[.slice A l.length c] 22)
  have g1 := g.alloc (.cells #[.slice A l.length c] 22)
  have B1 := (Below.refl w.heap.size w).alloc (Nat.le_refl _) (.cells #[.slice A l.length c] 22)
  clear h g
  go_enter Try.func4, Try.ntmps4
  go_wp2_with fail
  refine o1.mono ?_
  rintro e w' ⟨rfl, rfl⟩
  clear o1
  generalize w.alloc (.cells #[.slice A l.length c] 22) = w1 at *
  have o2 := mark_one _ _ m w1 g1
  have h2 := h1.alloc (.cells #[.slice A' m.length c'] 22)
  have g2 := g1.alloc (.cells #[.slice A' m.length c'] 22)
  have B2 := B1.alloc B1.size (.cells #[.slice A' m.length c'] 22)
  clear h1 g1 B1
  go_wp2_with fail
  refine o2.mono ?_
  rintro e w' ⟨rfl, rfl⟩
  clear o2
  generalize w1.alloc (.cells #[.slice A' m.length c'] 22) = w2 at *
  have cp := copy_any _ _ l w2 h2 (by omega)
  go_wp2_with fail
  refine cp.mono ?_
  rintro e w3 ⟨v3, rfl, how, b3⟩
  have h3 := h2.below' b3
  have g3 := g2.below' b3
  have B3 := B2.trans (b3.mono B2.size)
  replace how := own_base how B2.size
  clear h2 g2 B2 cp b3
  go_wp2_with (at_builtin; refine wpList_grow _ rfl _ _ _ rfl w.heap.size 5 i0 Try.underlying22 hi hz0 hz1 hz2 _ _ rfl how _ _ _ rfl g3 (by omega) B3.size ?_; intro v4 w4 how4 hg4 _)
  have hne : ∀ k, v3.ownBlock = some k → w.heap.size ≤ k := fun k hk => own_ge how k hk
  have h4 := h3.grown hg4 fun k hk hb => absurd (hne k hk) (by show ¬ w.heap.size ≤ k; have : k < w.heap.size := hb; omega)
  have g4 := g3.grown hg4 fun k hk hb => absurd (hne k hk) (by show ¬ w.heap.size ≤ k; have : k < w.heap.size := hb; omega)
  have B4 := B3.grown hg4 B3.size hne
  rw [← elm'.out] at how4
  have b4 := own_BS how4
  clear h3 g3 B3 how how4 hg4 hne
  have cp := copy_any _ _ lm w4 b4 (by omega)
  obtain ⟨A4, c4, rfl, _⟩ := b4.form
  clear b4
  go_wp2_with fail
  refine cp.mono ?_
  rintro e w5 ⟨v5, rfl, how, b5⟩
  have h5 := h4.below' b5
  have g5 := g4.below' b5
  have B5 := B4.trans (b5.mono B4.size)
  have q5 := own_BS how
  obtain ⟨A5, c5, rfl, _⟩ := q5.form
  clear h4 g4 B4 cp b5 how
  have o3 := mark_one _ _ lm w5 q5
  have h6 := h5.alloc (.cells #[.slice A5 lm.length c5] 22)
  have g6 := g5.alloc (.cells #[.slice A5 lm.length c5] 22)
  have B6 := B5.alloc B5.size (.cells #[.slice A5 lm.length c5] 22)
  clear h5 g5 B5 q5
  have hrl := fun (w : World) (S : Nat → Prop) (x : Value) (h : BS w S x l) => rmark_any S x l w h
  have hrm := fun (w : World) (S : Nat → Prop) (x : Value) (h : BS w S x m) => rmark_any S x m w h
  have hrb := rbase_any
  have pz := parts_cz (mk lm)
  generalize joined (mk l) (mk m) n = J at *
  generalize gmul (mk l) (gpow base n.natAbs) = GP at *
  generalize gpow base n.natAbs = P at *
  generalize mk lm = z at *
  generalize mk l = z1 at *
  generalize mk m = z2 at *
  generalize rz z1 = r1 at *
  generalize rz z2 = r2 at *
  generalize rz P = rp at *
  generalize rz GP = rgp at *
  generalize rz base = rb at *
  generalize cz J = xj at *
  unfold rz at had SA SB
  generalize (J.re.val : Int) = j1 at *
  generalize (J.im.val : Int) = j2 at *
  generalize (z.re.val : Int) = t1 at *
  generalize (z.im.val : Int) = t2 at *
  generalize cz z = xz at *
  generalize cz z1 = x1 at *
  generalize cz z2 = x2 at *
  go_wp2_with fail
  refine o3.mono ?_
  rintro e w' ⟨rfl, rfl⟩
  clear o3
  generalize w5.alloc (.cells #[.slice A5 lm.length c5] 22) = w6 at *
  have K7 := KB.new w6 29 #[.int .i64 0, .int .i64 0]
  have h7 := h6.alloc (.cells #[.int .i64 0, .int .i64 0] 29)
  have g7 := g6.alloc (.cells #[.int .i64 0, .int .i64 0] 29)
  have B7 := B6.alloc B6.size (.cells #[.int .i64 0, .int .i64 0] 29)
  have hG := B6.size
  clear h6 g6 B6
  go_wp2_with fail
  generalize w6.alloc (.cells #[.int .i64 0, .int .i64 0] 29) = w7 at *
  refine (hrl _ _ _ h7).mono ?_
  rintro e w8 ⟨rfl, b8⟩
  have h8 := h7.below' b8
  have g8 := g7.below' b8
  have K8 := K7.below b8 K7.lt
  have B8 := B7.trans (b8.mono B7.size)
  clear h7 g7 K7 B7 b8
  go_wp2_with fail
  refine (hrb _).mono ?_
  rintro e w9 ⟨rfl, b9⟩
  have h9 := h8.below' b9
  have g9 := g8.below' b9
  have K9 := K8.below b9 K8.lt
  have B9 := B8.trans (b9.mono B8.size)
  clear h8 g8 K8 B8 b9
  go_wp2_with fail
  refine (hp _).mono ?_
  rintro e w10 ⟨rfl, b10⟩
  have h10 := h9.below' b10
  have g10 := g9.below' b10
  have K10 := K9.below b10 K9.lt
  have B10 := B9.trans (b10.mono B9.size)
  clear h9 g9 K9 B9 b10
  go_wp2_with fail
  refine (hml _).mono ?_
  rintro e w11 ⟨rfl, b11⟩
  have h11 := h10.below' b11
  have g11 := g10.below' b11
  have K11 := K10.below b11 K10.lt
  have B11 := B10.trans (b11.mono B10.size)
  clear h10 g10 K10 B10 b11
  go_wp2_with fail
  refine (hrm _ _ _ g11).mono ?_
  rintro e w12 ⟨rfl, b12⟩
  have h12 := h11.below' b12
  have g12 := g11.below' b12
  have K12 := K11.below b12 K11.lt
  have B12 := B11.trans (b12.mono B11.size)
  clear h11 g11 K11 B11 b12
  go_wp2_with fail
  refine (had _).mono ?_
  rintro e w13 ⟨rfl, b13⟩
  have h13 := h12.below' b13
  have g13 := g12.below' b13
  have K13 := K12.below b13 K12.lt
  have B13 := B12.trans (b13.mono B12.size)
  clear h12 g12 K12 B12 b13
  have d0 : w13.cell? ⟨w6.heap.size, 0, none⟩ = some (.int .i64 0) := K13.cell 0
  have d1 : w13.cell? ⟨w6.heap.size, 1, none⟩ = some (.int .i64 0) := K13.cell 1
  have f0 := K13.free 0
  have f1 := K13.free 1
  go_wp2_with fail
  refine (jn1 _).mono ?_
  rintro e w' ⟨rfl, rfl⟩
  go_wp2_with fail
  have K14 : KB ((w13.setCell ⟨w6.heap.size, 0, none⟩ (.int .i64 j1)).setCell ⟨w6.heap.size, 1, none⟩ (.int .i64 j2)) w6.heap.size 29 #[.int .i64 j1, .int .i64 j2] := put_two K13
  have h14 := (h13.setCell (p := ⟨w6.heap.size, 0, none⟩) (by show ¬ w6.heap.size < w.heap.size; omega) (.int .i64 j1)).setCell (p := ⟨w6.heap.size, 1, none⟩) (by show ¬ w6.heap.size < w.heap.size; omega) (.int .i64 j2)
  have g14 := (g13.setCell (p := ⟨w6.heap.size, 0, none⟩) (by show ¬ w6.heap.size < w.heap.size; omega) (.int .i64 j1)).setCell (p := ⟨w6.heap.size, 1, none⟩) (by show ¬ w6.heap.size < w.heap.size; omega) (.int .i64 j2)
  have B14 := B13.trans (below_of_grown' (grown_two w13 w6.heap.size (.int .i64 j1) (.int .i64 j2)) hG B13.size)
  clear h13 g13 K13 B13 d0 d1 f0 f1
  generalize (w13.setCell ⟨w6.heap.size, 0, none⟩ (.int .i64 j1)).setCell ⟨w6.heap.size, 1, none⟩ (.int .i64 j2) = w14 at *
  refine (pz _).mono ?_
  rintro e w' ⟨rfl, rfl⟩
  have K : KB w14.drew w6.heap.size 29 #[.int .i64 j1, .int .i64 j2] := K14
  have h : BS w14.drew (fun b => b < w.heap.size) (.slice A l.length c) l := h14
  have g : BS w14.drew (fun b => b < w.heap.size) (.slice A' m.length c') m := g14
  have B : Below w.heap.size w w14.drew := Below_drawn B14 1
  have c0 : w14.cell? ⟨w6.heap.size, 0, none⟩ = some (.int .i64 j1) := K14.cell 0
  have c1 : w14.cell? ⟨w6.heap.size, 1, none⟩ = some (.int .i64 j2) := K14.cell 1
  clear K14 h14 g14 B14 pz jn1
  go_wp2
  go_region_held3 (fun w' => w'.cell? ⟨w6.heap.size, 0, none⟩ = some (.int .i64 j1) ∧ w'.cell? ⟨w6.heap.size, 1, none⟩ = some (.int .i64 j2))
    (first | exact ⟨K.cell 0, K.cell 1⟩ | exact ⟨(K.alloc _).cell 0, (K.alloc _).cell 1⟩ | go_keep)
    (first
      | (go_at_call 9; refine (is_same _ _ (by assumption) _).mono ?_; rintro e w15 ⟨rfl, b5⟩; replace h := h.below' b5; replace g := g.below' b5; replace K := K.below b5 K.lt; replace B := B.trans (b5.mono B.size); clear b5)
      | (go_at_call 10; refine (mw _ _ _ _ h g).mono ?_; rintro e w' ⟨rfl, rfl⟩; replace h := h.alloc (.cells #[.slice A l.length c, .slice A' m.length c'] 22); replace g := g.alloc (.cells #[.slice A l.length c, .slice A' m.length c'] 22); replace K := K.alloc (.cells #[.slice A l.length c, .slice A' m.length c'] 22); replace B := B.alloc B.size (.cells #[.slice A l.length c, .slice A' m.length c'] 22))
      | (go_at_call 21; refine (jn2 _).mono ?_; rintro e w' ⟨rfl, rfl⟩)
      | (go_at_call 7; refine (live_any _).mono ?_; rintro e w15 ⟨rfl, b5⟩; replace K := K.below b5 K.lt; replace B := B.trans (b5.mono B.size); clear b5))
  all_goals
    go_wp2
    go_ret
    exact ⟨rfl, B⟩

set_option maxHeartbeats 1000000 in
theorem joins_neg (S : Nat → Prop) (v u : Value) (l m : List UInt8) (hl : l.length ≤ 2000) (hm : m.length ≤ 2000) (n : Int) (hn : n < 0) (w : World) (h : BS w S v l) (g : BS w S u m) :
    Calls Try.prog 4 #[v, u, .int .i64 n] w fun e w' => e = .returned (.bool true) ∧ Below w.heap.size w w' := by
  obtain ⟨i0, hi, hz0, hz1, hz2⟩ := info_parts info_byte
  replace h := h.lt.mono (S' := fun b => b < w.heap.size) fun _ h => h.2
  replace g := g.lt.mono (S' := fun b => b < w.heap.size) fun _ h => h.2
  obtain ⟨A, c, rfl, _⟩ := h.form
  obtain ⟨A', c', rfl, _⟩ := g.form
  have J1 : joined (mk l) (mk m) (m.length : Int) = mk (l ++ m) := joined_len l m
  have jn1 := join_any (mk l) (mk m) (m.length : Int) (by omega)
  rw [J1] at jn1
  clear J1
  have jn2 := join_any (mk l) (mk m) n (by omega)
  have mw := fun (w : World) (S : Nat → Prop) (x y : Value) (h : BS w S x l) (g : BS w S y m) => mark_two S x y l m w h g
  obtain ⟨lm, elm⟩ : ∃ lm, lm = l ++ m := ⟨_, rfl⟩
  have hlm : lm.length ≤ 4000 := by rw [elm, List.length_append]; omega
  have elm' := Lib.hid elm
  rw [← elm] at jn1 mw
  clear elm
  rw [show joined (mk l) (mk m) n = zero by unfold joined; rw [if_pos hn]] at jn2
  have SA := SameZ.mk (mk lm)
  have SB := SameZ.mk (zero)
  have o1 := mark_one _ _ l w h
  have h1 := h.alloc (.cells #[.slice A l.length c] 22)
  have g1 := g.alloc (.cells #[.slice A l.length c] 22)
  have B1 := (Below.refl w.heap.size w).alloc (Nat.le_refl _) (.cells #[.slice A l.length c] 22)
  clear h g
  go_enter Try.func4, Try.ntmps4
  go_wp2_with fail
  refine o1.mono ?_
  rintro e w' ⟨rfl, rfl⟩
  clear o1
  generalize w.alloc (.cells #[.slice A l.length c] 22) = w1 at *
  have o2 := mark_one _ _ m w1 g1
  have h2 := h1.alloc (.cells #[.slice A' m.length c'] 22)
  have g2 := g1.alloc (.cells #[.slice A' m.length c'] 22)
  have B2 := B1.alloc B1.size (.cells #[.slice A' m.length c'] 22)
  clear h1 g1 B1
  go_wp2_with fail
  refine o2.mono ?_
  rintro e w' ⟨rfl, rfl⟩
  clear o2
  generalize w1.alloc (.cells #[.slice A' m.length c'] 22) = w2 at *
  have cp := copy_any _ _ l w2 h2 (by omega)
  go_wp2_with fail
  refine cp.mono ?_
  rintro e w3 ⟨v3, rfl, how, b3⟩
  have h3 := h2.below' b3
  have g3 := g2.below' b3
  have B3 := B2.trans (b3.mono B2.size)
  replace how := own_base how B2.size
  clear h2 g2 B2 cp b3
  go_wp2_with (at_builtin; refine wpList_grow _ rfl _ _ _ rfl w.heap.size 5 i0 Try.underlying22 hi hz0 hz1 hz2 _ _ rfl how _ _ _ rfl g3 (by omega) B3.size ?_; intro v4 w4 how4 hg4 _)
  have hne : ∀ k, v3.ownBlock = some k → w.heap.size ≤ k := fun k hk => own_ge how k hk
  have h4 := h3.grown hg4 fun k hk hb => absurd (hne k hk) (by show ¬ w.heap.size ≤ k; have : k < w.heap.size := hb; omega)
  have g4 := g3.grown hg4 fun k hk hb => absurd (hne k hk) (by show ¬ w.heap.size ≤ k; have : k < w.heap.size := hb; omega)
  have B4 := B3.grown hg4 B3.size hne
  rw [← elm'.out] at how4
  have b4 := own_BS how4
  clear h3 g3 B3 how how4 hg4 hne
  have cp := copy_any _ _ lm w4 b4 (by omega)
  obtain ⟨A4, c4, rfl, _⟩ := b4.form
  clear b4
  go_wp2_with fail
  refine cp.mono ?_
  rintro e w5 ⟨v5, rfl, how, b5⟩
  have h5 := h4.below' b5
  have g5 := g4.below' b5
  have B5 := B4.trans (b5.mono B4.size)
  have q5 := own_BS how
  obtain ⟨A5, c5, rfl, _⟩ := q5.form
  clear h4 g4 B4 cp b5 how
  have o3 := mark_one _ _ lm w5 q5
  have h6 := h5.alloc (.cells #[.slice A5 lm.length c5] 22)
  have g6 := g5.alloc (.cells #[.slice A5 lm.length c5] 22)
  have B6 := B5.alloc B5.size (.cells #[.slice A5 lm.length c5] 22)
  clear h5 g5 B5 q5
  have pz := parts_cz (mk lm)
  generalize mk lm = z at *
  generalize mk l = z1 at *
  generalize mk m = z2 at *
  generalize cz zero = xj at *
  unfold rz at SA SB
  rw [show ((zero.re.val : Nat) : Int) = 0 from rfl, show ((zero.im.val : Nat) : Int) = 0 from rfl] at SB
  generalize (z.re.val : Int) = t1 at *
  generalize (z.im.val : Int) = t2 at *
  generalize cz z = xz at *
  generalize cz z1 = x1 at *
  generalize cz z2 = x2 at *
  go_wp2_with fail
  refine o3.mono ?_
  rintro e w' ⟨rfl, rfl⟩
  clear o3
  generalize w5.alloc (.cells #[.slice A5 lm.length c5] 22) = w6 at *
  have K7 := KB.new w6 29 #[.int .i64 0, .int .i64 0]
  have h7 := h6.alloc (.cells #[.int .i64 0, .int .i64 0] 29)
  have g7 := g6.alloc (.cells #[.int .i64 0, .int .i64 0] 29)
  have B7 := B6.alloc B6.size (.cells #[.int .i64 0, .int .i64 0] 29)
  have hG := B6.size
  clear h6 g6 B6
  go_wp2_with fail
  refine (jn1 _).mono ?_
  rintro e w' ⟨rfl, rfl⟩
  go_wp2_with fail
  generalize w6.alloc (.cells #[.int .i64 0, .int .i64 0] 29) = w14 at *
  have K14 := K7
  have h14 := h7
  have g14 := g7
  have B14 := B7
  clear K7 h7 g7 B7
  refine (pz _).mono ?_
  rintro e w' ⟨rfl, rfl⟩
  have K : KB w14.drew w6.heap.size 29 #[.int .i64 0, .int .i64 0] := K14
  have h : BS w14.drew (fun b => b < w.heap.size) (.slice A l.length c) l := h14
  have g : BS w14.drew (fun b => b < w.heap.size) (.slice A' m.length c') m := g14
  have B : Below w.heap.size w w14.drew := Below_drawn B14 1
  have c0 : w14.cell? ⟨w6.heap.size, 0, none⟩ = some (.int .i64 0) := K14.cell 0
  have c1 : w14.cell? ⟨w6.heap.size, 1, none⟩ = some (.int .i64 0) := K14.cell 1
  clear K14 h14 g14 B14 pz jn1
  go_wp2
  go_region_held3 (fun w' => w'.cell? ⟨w6.heap.size, 0, none⟩ = some (.int .i64 0) ∧ w'.cell? ⟨w6.heap.size, 1, none⟩ = some (.int .i64 0))
    (first | exact ⟨K.cell 0, K.cell 1⟩ | exact ⟨(K.alloc _).cell 0, (K.alloc _).cell 1⟩ | go_keep)
    (first
      | (go_at_call 9; refine (is_same _ _ (by assumption) _).mono ?_; rintro e w15 ⟨rfl, b5⟩; replace h := h.below' b5; replace g := g.below' b5; replace K := K.below b5 K.lt; replace B := B.trans (b5.mono B.size); clear b5)
      | (go_at_call 10; refine (mw _ _ _ _ h g).mono ?_; rintro e w' ⟨rfl, rfl⟩; replace h := h.alloc (.cells #[.slice A l.length c, .slice A' m.length c'] 22); replace g := g.alloc (.cells #[.slice A l.length c, .slice A' m.length c'] 22); replace K := K.alloc (.cells #[.slice A l.length c, .slice A' m.length c'] 22); replace B := B.alloc B.size (.cells #[.slice A l.length c, .slice A' m.length c'] 22))
      | (go_at_call 21; refine (jn2 _).mono ?_; rintro e w' ⟨rfl, rfl⟩)
      | (go_at_call 7; refine (live_any _).mono ?_; rintro e w15 ⟨rfl, b5⟩; replace K := K.below b5 K.lt; replace B := B.trans (b5.mono B.size); clear b5))
  all_goals
    go_wp2
    go_ret
    exact ⟨rfl, B⟩

/-- The statement asks nothing of these: live alone. -/
theorem joins_out (S S' : Nat → Prop) (v u : Value) (l m : List UInt8) (n : Int) (w : World) (h : BS w S v l) (g : BS w S' u m) (hx : 2000 < l.length ∨ 2000 < m.length ∨ 1099511627776 < n) :
    Calls Try.prog 4 #[v, u, .int .i64 n] w fun e w' => e = .returned (.bool true) ∧ Below w.heap.size w w' := by
  obtain ⟨A, c, rfl, _⟩ := h.form
  obtain ⟨A', c', rfl, _⟩ := g.form
  clear h g
  by_cases h1 : 2000 < l.length
  · clear hx
    go_enter Try.func4, Try.ntmps4
    go_wp2_with fail
    refine (live_any _).mono ?_
    rintro e w1 ⟨rfl, b1⟩
    go_wp2
    go_ret
    exact ⟨rfl, b1⟩
  · by_cases h2 : 2000 < m.length
    · clear hx
      go_enter Try.func4, Try.ntmps4
      go_wp2_with fail
      refine (live_any _).mono ?_
      rintro e w1 ⟨rfl, b1⟩
      go_wp2
      go_ret
      exact ⟨rfl, b1⟩
    · have h3 : 1099511627776 < n := by omega
      clear hx
      go_enter Try.func4, Try.ntmps4
      go_wp2_with fail
      refine (live_any _).mono ?_
      rintro e w1 ⟨rfl, b1⟩
      go_wp2
      go_ret
      exact ⟨rfl, b1⟩

theorem markJoins_law {H : Type} (enc : TypeId × Value → H) (W : World) (base : Nat) (v0 : Value) (d0 : DataW H) (p0 : List MemPlace) (v1 : Value) (d1 : DataW H) (p1 : List MemPlace) (v2 : Value) (d2 : DataW H) (p2 : List MemPlace)
    (ok0 : Value.okWide Try.prog W .any base 22 v0) (ok1 : Value.okWide Try.prog W .any base 22 v1) (ok2 : Value.okWide Try.prog W .any base 3 v2)
    (h0 : DataW.Trod enc Try.prog W 0 (fun _ => true) true 22 v0 d0 p0) (h1 : DataW.Trod enc Try.prog W 0 (fun _ => true) true 22 v1 d1 p1)
    (h2 : DataW.Trod enc Try.prog W 0 (fun _ => true) true 3 v2 d2 p2) :
    Calls Try.prog 4 #[v0, v1, v2] W fun e W' => e = .returned (.bool true) ∧ Below W.heap.size W W' := by
  obtain ⟨l, hb⟩ := BS_of_arg ok0 h0
  obtain ⟨m, hm⟩ := BS_of_arg ok1 h1
  obtain ⟨n, rfl, rfl, rfl, wn⟩ := open_int Try.underlying3 ok2 h2
  by_cases hx : 2000 < l.length ∨ 2000 < m.length ∨ 1099511627776 < n
  · exact joins_out _ _ _ _ l m n W hb hm hx
  · by_cases hn : n < 0
    · exact joins_neg _ _ _ l m (by omega) (by omega) n hn W hb hm
    · exact joins_pos _ _ _ l m (by omega) (by omega) n (by omega) (by omega) W hb hm
end Go.Proofs.Ytcjegcmijdkekaa
