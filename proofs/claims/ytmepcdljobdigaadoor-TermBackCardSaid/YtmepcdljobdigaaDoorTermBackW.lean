/-
  TermBack: what was put is got, whatever stands behind, and back: the law's walk. No condition but that the table lies as the row says.
-/
import Derived.Test.YtmepcdljobdigaaDoorTpL
import Derived.Test.YtmepcdljobdigaaDoorTpN
import Derived.Test.YtmepcdljobdigaaDoorArgs
import Derived.Test.YtmepcdljobdigaaDoorCopy
namespace Go.Proofs.YtmepcdljobdigaaDoor
open Go.RowKit
set_option linter.unusedVariables false

theorem sim_symm : ∀ (f g : Nat) (a : Tm f) (b : Tm g), sim f g a b → sim g f b a
  | 0, _, a, _, _ => nomatch a
  | _ + 1, 0, _, b, _ => nomatch b
  | f + 1, g + 1, ⟨k, n, d, ks⟩, ⟨k', n', d', ks'⟩, h => by
    obtain ⟨h1, h2, h3, h4, h5⟩ := h
    exact ⟨h1.symm, h2.symm, h3.symm, h4.symm, fun i x y hx hy => sim_symm f g y x (h5 i y x hy hx)⟩

/-- What was put is got, whatever stands behind. -/
theorem get_put_more (f : Nat) (t : Tm f) (L more : List UInt8) (h : putOf f t = (L, 0)) (hn : nOk f t) : ∃ u : Nd (Tm 8), getOf (L ++ more) = (u, (L.length : Int), 0) ∧ sim 9 f u t := by
  unfold putOf at h
  split at h
  · rename_i hm
    split at h
    · injection h with _ h2; cases h2
    · rename_i h4
      injection h with h1 _
      obtain ⟨u, hu, hs⟩ := put_get 8 f t (more.take (400 - L.length)) hm hn
      rw [h1] at hu h4
      have ht : (L ++ more).take 400 = L ++ more.take (400 - L.length) := by
        rw [List.take_append, List.take_of_length_le (by omega)]
      refine ⟨u, ?_, sim_symm f 9 t u hs⟩
      unfold getOf
      rw [ht, hu]
      dsimp only
      rw [if_pos (by rw [← sim_may f 9 t u 8 hs]; exact hm), List.length_append]
      congr 2
      omega
  · injection h with _ h2; cases h2

/-- What was got, put again, is what it was. -/
theorem put_get_back (b : List UInt8) : (getOf b).2.2 = 2 ∨ ((getOf b).2.2 = 0 ∧ ∃ L, putOf 9 (getOf b).1 = (L, 0) ∧ (getOf b).2.1 = (L.length : Int) ∧ L.length ≤ b.length ∧ b.take L.length = L) := by
  unfold getOf
  cases e : readT 8 (some (b.take 400)) with
  | mk s u =>
    dsimp only
    cases s with
    | none => exact .inl rfl
    | some l =>
      dsimp only
      cases hm : mayT 9 u 8 with
      | false => rw [if_neg Bool.false_ne_true]; exact .inl rfl
      | true =>
        rw [if_pos rfl]
        refine .inr ⟨rfl, bytesT 9 u, ?_⟩
        have hb : bytesT 9 u ++ l = b.take 400 := get_put 8 _ l u e
        have hlen := congrArg List.length hb
        rw [List.length_append, List.length_take] at hlen
        dsimp only
        refine ⟨?_, by rw [List.length_take]; omega, by omega, ?_⟩
        · unfold putOf
          rw [if_pos hm, if_neg (by omega)]
        · have : (b.take 400).take (bytesT 9 u).length = bytesT 9 u := by rw [← hb]; exact List.take_left
          rwa [List.take_take, Nat.min_eq_left (by omega)] at this

theorem putOf_len (f : Nat) (t : Tm f) : (putOf f t).1.length ≤ 400 := by
  unfold putOf
  split
  · split
    · simp
    · dsimp only; omega
  · simp

theorem putOf_err (f : Nat) (t : Tm f) : I64 (putOf f t).2 := by
  unfold putOf I64
  split
  · split <;> simp
  · simp
theorem i64_60' : I64 60 := by unfold I64; omega

set_option maxHeartbeats 4000000 in
theorem termBack_any (S : Nat → Prop) (f : Nat) (t : Tm f) (v vm vb : Value) (more b : List UInt8) (w : World) (hS : ∀ b, S b → b < w.heap.size) (hsh : Shp w) (hv : TV w S f v t) (xm : BS w (fun x => x < w.heap.size) vm more) (xb : BS w (fun x => x < w.heap.size) vb b) :
    Calls Tryd.prog 6 #[v, vm, vb] w fun e w' => e = .returned (.bool true) ∧ Below w.heap.size w w' := by
  obtain ⟨_, _, _, _, rfl, ht⟩ := hv
  obtain ⟨i0, i1, X2, n2, z2, X3, n3, z3, rfl, rfl, rfl, rfl⟩ := tm_form ht
  have hn := TM.nOk _ _ _ _ _ _ ht
  have tv : TV (w.alloc (.cells #[.int .i64 i0, .int .u64 i1, .slice X2 n2 z2, .slice X3 n3 z3] 26)) S f (.agg #[.int .i64 i0, .int .u64 i1, .slice X2 n2 z2, .slice X3 n3 z3]) t := TV.alloc ⟨_, _, _, _, rfl, ht⟩ _
  have K := KB.new w 26 #[.int .i64 i0, .int .u64 i1, .slice X2 n2 z2, .slice X3 n3 z3]
  have B := (Below.refl w.heap.size w).alloc (Nat.le_refl _) (.cells #[.int .i64 i0, .int .u64 i1, .slice X2 n2 z2, .slice X3 n3 z3] 26)
  replace hsh := hsh.alloc (.cells #[.int .i64 i0, .int .u64 i1, .slice X2 n2 z2, .slice X3 n3 z3] 26)
  replace hS := fun b hb => Nat.lt_of_lt_of_le (hS b hb) B.size
  replace xm := xm.alloc (.cells #[.int .i64 i0, .int .u64 i1, .slice X2 n2 z2, .slice X3 n3 z3] 26)
  replace xb := xb.alloc (.cells #[.int .i64 i0, .int .u64 i1, .slice X2 n2 z2, .slice X3 n3 z3] 26)
  have hsm := small_any S f t _ 60 _ i64_60' tv
  obtain ⟨Am, cm, rfl, _⟩ := xm.form
  obtain ⟨Ab, cb, rfl, hbc, hbm, _⟩ := xb.form
  have hbm' : cb ≤ 9223372036854775807 := hbm
  have hpe := putOf_err f t
  have hgm := get_put_more f t
  have hgb := put_get_back b
  have h00 : I64 0 := by unfold I64; omega
  have h22 : I64 2 := by unfold I64; omega
  obtain ⟨i8, hi8, hz0, hz1, hz2⟩ := info_parts info_byte
  clear ht
  generalize hml : more.length = ml at *
  generalize hbl : b.length = bl at *
  have HML := Lib.hid hml
  have HBL := Lib.hid hbl
  have HGB := Lib.hid hgb
  have HGM := Lib.hid hgm
  have HN := Lib.hid hn
  clear hml hbl hgb hgm hn
  have hpl := putOf_len f t
  obtain ⟨L, pe, hPO⟩ : ∃ L pe, putOf f t = (L, pe) := ⟨_, _, rfl⟩
  rw [hPO] at hpe hpl
  dsimp only at hpe hpl
  have HPO := Lib.hid hPO
  clear hPO
  by_cases hm5 : 500 < ml
  · go_enter Tryd.func6, Tryd.ntmps6
    go_wp2_with fail
    refine hsm.mono ?_
    rintro e w5 ⟨bb, rfl, b5⟩
    clear hsm
    replace K := K.below b5 K.lt
    replace tv := tv.below' b5
    replace hsh := hsh.below b5
    replace hS := fun b hb => Nat.lt_of_lt_of_le (hS b hb) b5.size
    replace xm := xm.below' b5
    replace xb := xb.below' b5
    replace B := B.trans (b5.mono B.size)
    clear b5
    have c0 : w5.cell? ⟨w.heap.size, 0, none⟩ = some (.int .i64 i0) := K.cell 0
    have c1 : w5.cell? ⟨w.heap.size, 1, none⟩ = some (.int .u64 i1) := K.cell 1
    have c2 : w5.cell? ⟨w.heap.size, 2, none⟩ = some (.slice X2 n2 z2) := K.cell 2
    have c3 : w5.cell? ⟨w.heap.size, 3, none⟩ = some (.slice X3 n3 z3) := K.cell 3
    cases bb with
    | false =>
      clear c0 c1 c2 c3
      go_wp2_with fail
      refine (live_any _ hsh).mono ?_
      rintro e w6 ⟨rfl, b6⟩
      replace B := B.trans (b6.mono B.size)
      clear b6
      go_wp2_with fail
      go_ret
      exact ⟨rfl, B⟩
    | true =>
      clear c0 c1 c2 c3
      go_wp2_with fail
      refine (live_any _ hsh).mono ?_
      rintro e w6 ⟨rfl, b6⟩
      replace B := B.trans (b6.mono B.size)
      clear b6
      go_wp2_with fail
      go_ret
      exact ⟨rfl, B⟩
  by_cases hb1 : 1000 < bl
  · go_enter Tryd.func6, Tryd.ntmps6
    go_wp2_with fail
    refine hsm.mono ?_
    rintro e w5 ⟨bb, rfl, b5⟩
    clear hsm
    replace K := K.below b5 K.lt
    replace tv := tv.below' b5
    replace hsh := hsh.below b5
    replace hS := fun b hb => Nat.lt_of_lt_of_le (hS b hb) b5.size
    replace xm := xm.below' b5
    replace xb := xb.below' b5
    replace B := B.trans (b5.mono B.size)
    clear b5
    have c0 : w5.cell? ⟨w.heap.size, 0, none⟩ = some (.int .i64 i0) := K.cell 0
    have c1 : w5.cell? ⟨w.heap.size, 1, none⟩ = some (.int .u64 i1) := K.cell 1
    have c2 : w5.cell? ⟨w.heap.size, 2, none⟩ = some (.slice X2 n2 z2) := K.cell 2
    have c3 : w5.cell? ⟨w.heap.size, 3, none⟩ = some (.slice X3 n3 z3) := K.cell 3
    cases bb with
    | false =>
      clear c0 c1 c2 c3
      go_wp2_with fail
      refine (live_any _ hsh).mono ?_
      rintro e w6 ⟨rfl, b6⟩
      replace B := B.trans (b6.mono B.size)
      clear b6
      go_wp2_with fail
      go_ret
      exact ⟨rfl, B⟩
    | true =>
      clear c0 c1 c2 c3
      go_wp2_with fail
      refine (live_any _ hsh).mono ?_
      rintro e w6 ⟨rfl, b6⟩
      replace B := B.trans (b6.mono B.size)
      clear b6
      go_wp2_with fail
      go_ret
      exact ⟨rfl, B⟩
  go_enter Tryd.func6, Tryd.ntmps6
  go_wp2_with fail
  refine hsm.mono ?_
  rintro e w5 ⟨bb, rfl, b5⟩
  clear hsm
  replace K := K.below b5 K.lt
  replace tv := tv.below' b5
  replace hsh := hsh.below b5
  replace hS := fun b hb => Nat.lt_of_lt_of_le (hS b hb) b5.size
  replace xm := xm.below' b5
  replace xb := xb.below' b5
  replace B := B.trans (b5.mono B.size)
  clear b5
  have c0 : w5.cell? ⟨w.heap.size, 0, none⟩ = some (.int .i64 i0) := K.cell 0
  have c1 : w5.cell? ⟨w.heap.size, 1, none⟩ = some (.int .u64 i1) := K.cell 1
  have c2 : w5.cell? ⟨w.heap.size, 2, none⟩ = some (.slice X2 n2 z2) := K.cell 2
  have c3 : w5.cell? ⟨w.heap.size, 3, none⟩ = some (.slice X3 n3 z3) := K.cell 3
  cases bb with
  | false =>
    clear c0 c1 c2 c3
    go_wp2_with fail
    refine (live_any _ hsh).mono ?_
    rintro e w6 ⟨rfl, b6⟩
    replace B := B.trans (b6.mono B.size)
    clear b6
    go_wp2_with fail
    go_ret
    exact ⟨rfl, B⟩
  | true =>
    have hp := put_any S f t _ w5 hS hsh tv
    rw [HPO.out] at hp
    dsimp only at hp
    go_wp2_with fail
    refine hp.mono ?_
    clear hp
    rintro e w6 ⟨u6, rfl, how6, b5⟩
    have x1 := own_BS how6
    obtain ⟨A6, c6, rfl⟩ := own_form how6
    clear c0 c1 c2 c3 how6
    replace K := K.below b5 K.lt
    replace tv := tv.below' b5
    replace hsh := hsh.below b5
    replace hS := fun b hb => Nat.lt_of_lt_of_le (hS b hb) b5.size
    replace xm := xm.below' b5
    replace xb := xb.below' b5
    replace B := B.trans (b5.mono B.size)
    clear b5
    by_cases hp0 : pe = 0
    case neg =>
      have hpn : (pe == 0) = false := beq_eq_false_iff_ne.2 hp0
      clear HGM HN tv K hS xm x1 HPO hpl
      go_wp2_with fail
      refine (errno_any _ _ hpe).mono ?_
      rintro e w' ⟨rfl, rfl⟩
      clear hpe
      go_wp2_with fail
      refine (get_any _ _ b _ hsh xb).mono ?_
      rintro e wg ⟨ug, rfl, Tg, bg⟩
      replace hsh := hsh.below bg
      replace xb := xb.below' bg
      replace B := B.trans (bg.mono B.size)
      clear bg
      obtain ⟨_, _, _, _, rfl, mg⟩ := Tg
      obtain ⟨g0, g1, Y2, p2, y2, Y3, p3, y3, rfl, rfl, rfl, rfl⟩ := tm_form mg
      replace hsh := hsh.alloc (.cells #[.int .i64 g0, .int .u64 g1, .slice Y2 p2 y2, .slice Y3 p3 y3] 26)
      replace xb := xb.alloc (.cells #[.int .i64 g0, .int .u64 g1, .slice Y2 p2 y2, .slice Y3 p3 y3] 26)
      replace B := B.alloc B.size (.cells #[.int .i64 g0, .int .u64 g1, .slice Y2 p2 y2, .slice Y3 p3 y3] 26)
      have tg : TV (wg.alloc (.cells #[.int .i64 g0, .int .u64 g1, .slice Y2 p2 y2, .slice Y3 p3 y3] 26)) (fun x => x < wg.heap.size) 9 (.agg #[.int .i64 g0, .int .u64 g1, .slice Y2 p2 y2, .slice Y3 p3 y3]) (getOf b).1 := (TV.alloc ⟨_, _, _, _, rfl, mg⟩ _).mono fun x hx => hx.2
      have hpt := put_any _ 9 _ _ _ (fun x hx => by simp; omega) hsh tg
      clear mg
      rcases HGB.out with h2 | ⟨h0, L, hp, hq, hL1, hL2⟩
      · clear HGB hpt tg
        rw [h2]
        go_wp2_with fail
        refine (errno_any _ _ h22).mono ?_
        rintro e w' ⟨rfl, rfl⟩
        go_wp2_with fail
        refine (live_any _ hsh).mono ?_
        rintro e w9 ⟨rfl, b6⟩
        replace B := B.trans (b6.mono B.size)
        clear b6
        go_wp2_with fail
        go_ret
        exact ⟨rfl, B⟩
      · rw [hp] at hpt
        dsimp only at hpt
        rw [h0, hq]
        have hbn := xb.take L.length (by rw [HBL.out]; exact hL1)
        rw [hL2] at hbn
        have hL1' : (L.length : Int) ≤ bl := by omega
        have hL3 : (L.length : Int) ≤ cb := by omega
        clear HGB tg hL2 h0 hp hq xb
        go_wp2_with fail
        refine (errno_any _ _ h00).mono ?_
        rintro e w' ⟨rfl, rfl⟩
        go_wp2_with fail
        refine hpt.mono ?_
        clear hpt
        rintro e wp ⟨up, rfl, howp, bp⟩
        have xp := own_BS howp
        obtain ⟨Ap, cp, rfl⟩ := own_form howp
        replace hsh := hsh.below bp
        replace hbn := hbn.below' bp
        replace B := B.trans (bp.mono B.size)
        clear bp howp
        have hsame := same_to _ _ _ _ L _ xp hbn
        clear xp hbn
        go_wp2_with fail
        refine (errno_any _ _ h00).mono ?_
        rintro e w' ⟨rfl, rfl⟩
        go_wp2_with fail
        refine hsame.mono ?_
        clear hsame
        rintro e wq ⟨rfl, bq⟩
        replace hsh := hsh.below bq
        replace B := B.trans (bq.mono B.size)
        clear bq
        go_wp2_with fail
        refine (live_any _ hsh).mono ?_
        rintro e w9 ⟨rfl, b6⟩
        replace B := B.trans (b6.mono B.size)
        clear b6
        go_wp2_with fail
        go_ret
        exact ⟨rfl, B⟩
    subst hp0
    obtain ⟨u, hgu, hsim⟩ := HGM.out L more HPO.out HN.out
    clear HGM HN HPO hpe
    have c0 : w6.cell? ⟨w.heap.size, 0, none⟩ = some (.int .i64 i0) := K.cell 0
    have c1 : w6.cell? ⟨w.heap.size, 1, none⟩ = some (.int .u64 i1) := K.cell 1
    have c2 : w6.cell? ⟨w.heap.size, 2, none⟩ = some (.slice X2 n2 z2) := K.cell 2
    have c3 : w6.cell? ⟨w.heap.size, 3, none⟩ = some (.slice X3 n3 z3) := K.cell 3
    go_wp2_with fail
    refine (errno_any _ _ h00).mono ?_
    rintro e w' ⟨rfl, rfl⟩
    go_wp2_with fail
    refine (copy_any _ _ L _ x1 (by omega)).mono ?_
    rintro e w7 ⟨v7, rfl, how7, b5⟩
    have hb67 := b5.size
    have xm7 := xm.below' b5
    clear x1 c0 c1 c2 c3
    have HLM : Hid (L.length + more.length ≤ 140737488355328) := by have := HML.out; show _ ≤ _; omega
    go_wp2_with (at_builtin; refine wpList_grow _ rfl _ _ _ rfl w6.heap.size 5 i8 Tryd.underlying23 hi8 hz0 hz1 hz2 _ _ rfl how7 _ _ _ rfl xm7 HLM.out hb67 ?_; intro v8 w8 how8 hg8 _)
    have b8 : Below w6.heap.size w6 w8 := b5.trans ⟨hg8.os, hg8.tape, hg8.output, hg8.size, fun k hk => hg8.block k (by omega) (fun e => by have := own_ge how7 k e.symm; omega)⟩
    have x8 := own_BS how8
    clear b5 hg8 how7 how8 xm7 HLM HML hb67
    replace K := K.below b8 K.lt
    replace tv := tv.below' b8
    replace hsh := hsh.below b8
    replace hS := fun b hb => Nat.lt_of_lt_of_le (hS b hb) b8.size
    replace xb := xb.below' b8
    replace B := B.trans (b8.mono B.size)
    clear b8
    clear xm
    have hgt := get_any _ _ _ _ hsh x8
    rw [hgu] at hgt
    dsimp only at hgt
    clear hgu x8
    refine hgt.mono ?_
    clear hgt
    rintro e w9 ⟨u9, rfl, T9, b9⟩
    replace K := K.below b9 K.lt
    replace tv := tv.below' b9
    replace hsh := hsh.below b9
    replace hS := fun b hb => Nat.lt_of_lt_of_le (hS b hb) b9.size
    replace xb := xb.below' b9
    replace B := B.trans (b9.mono B.size)
    clear b9
    have c0 : w9.cell? ⟨w.heap.size, 0, none⟩ = some (.int .i64 i0) := K.cell 0
    have c1 : w9.cell? ⟨w.heap.size, 1, none⟩ = some (.int .u64 i1) := K.cell 1
    have c2 : w9.cell? ⟨w.heap.size, 2, none⟩ = some (.slice X2 n2 z2) := K.cell 2
    have c3 : w9.cell? ⟨w.heap.size, 3, none⟩ = some (.slice X3 n3 z3) := K.cell 3
    obtain ⟨_, _, _, _, rfl, m9⟩ := T9
    obtain ⟨j0, j1, Z2, q2, y2, Z3, q3, y3, rfl, rfl, rfl, rfl⟩ := tm_form m9
    have t9 := TV.alloc ⟨_, _, _, _, rfl, TM.sim 9 f u t _ _ _ _ hsim m9⟩ (.cells #[.int .i64 j0, .int .u64 j1, .slice Z2 q2 y2, .slice Z3 q3 y3] 26)
    have hlt9 : w.heap.size < w9.heap.size := K.lt
    replace tv := tv.alloc (.cells #[.int .i64 j0, .int .u64 j1, .slice Z2 q2 y2, .slice Z3 q3 y3] 26)
    replace hsh := hsh.alloc (.cells #[.int .i64 j0, .int .u64 j1, .slice Z2 q2 y2, .slice Z3 q3 y3] 26)
    replace xb := xb.alloc (.cells #[.int .i64 j0, .int .u64 j1, .slice Z2 q2 y2, .slice Z3 q3 y3] 26)
    replace B := B.alloc B.size (.cells #[.int .i64 j0, .int .u64 j1, .slice Z2 q2 y2, .slice Z3 q3 y3] 26)
    have hps := psame_any _ _ f t t _ _ _ t9 tv
    rw [(sameT_iff f t t).2 rfl] at hps
    clear m9 hsim t9 tv K hS
    go_wp2_with fail
    refine (errno_any _ _ h00).mono ?_
    rintro e w' ⟨rfl, rfl⟩
    go_wp2_with fail
    refine hps.mono ?_
    clear hps c0 c1 c2 c3
    rintro e w10 ⟨rfl, b10⟩
    replace hsh := hsh.below b10
    replace xb := xb.below' b10
    replace B := B.trans (b10.mono B.size)
    clear b10 hlt9
    go_wp2_with fail
    refine (get_any _ _ b _ hsh xb).mono ?_
    rintro e wg ⟨ug, rfl, Tg, bg⟩
    replace hsh := hsh.below bg
    replace xb := xb.below' bg
    replace B := B.trans (bg.mono B.size)
    clear bg
    obtain ⟨_, _, _, _, rfl, mg⟩ := Tg
    obtain ⟨g0, g1, Y2, p2, y2, Y3, p3, y3, rfl, rfl, rfl, rfl⟩ := tm_form mg
    replace hsh := hsh.alloc (.cells #[.int .i64 g0, .int .u64 g1, .slice Y2 p2 y2, .slice Y3 p3 y3] 26)
    replace xb := xb.alloc (.cells #[.int .i64 g0, .int .u64 g1, .slice Y2 p2 y2, .slice Y3 p3 y3] 26)
    replace B := B.alloc B.size (.cells #[.int .i64 g0, .int .u64 g1, .slice Y2 p2 y2, .slice Y3 p3 y3] 26)
    have tg : TV (wg.alloc (.cells #[.int .i64 g0, .int .u64 g1, .slice Y2 p2 y2, .slice Y3 p3 y3] 26)) (fun x => x < wg.heap.size) 9 (.agg #[.int .i64 g0, .int .u64 g1, .slice Y2 p2 y2, .slice Y3 p3 y3]) (getOf b).1 := (TV.alloc ⟨_, _, _, _, rfl, mg⟩ _).mono fun x hx => hx.2
    have hpt := put_any _ 9 _ _ _ (fun x hx => by simp; omega) hsh tg
    clear mg
    rcases HGB.out with h2 | ⟨h0, L, hp, hq, hL1, hL2⟩
    · clear HGB hpt tg
      rw [h2]
      go_wp2_with fail
      refine (errno_any _ _ h22).mono ?_
      rintro e w' ⟨rfl, rfl⟩
      go_wp2_with fail
      refine (live_any _ hsh).mono ?_
      rintro e w9 ⟨rfl, b6⟩
      replace B := B.trans (b6.mono B.size)
      clear b6
      go_wp2_with fail
      go_ret
      exact ⟨rfl, B⟩
    · rw [hp] at hpt
      dsimp only at hpt
      rw [h0, hq]
      have hbn := xb.take L.length (by rw [HBL.out]; exact hL1)
      rw [hL2] at hbn
      have hL1' : (L.length : Int) ≤ bl := by omega
      have hL3 : (L.length : Int) ≤ cb := by omega
      clear HGB tg hL2 h0 hp hq xb
      go_wp2_with fail
      refine (errno_any _ _ h00).mono ?_
      rintro e w' ⟨rfl, rfl⟩
      go_wp2_with fail
      refine hpt.mono ?_
      clear hpt
      rintro e wp ⟨up, rfl, howp, bp⟩
      have xp := own_BS howp
      obtain ⟨Ap, cp, rfl⟩ := own_form howp
      replace hsh := hsh.below bp
      replace hbn := hbn.below' bp
      replace B := B.trans (bp.mono B.size)
      clear bp howp
      have hsame := same_to _ _ _ _ L _ xp hbn
      clear xp hbn
      go_wp2_with fail
      refine (errno_any _ _ h00).mono ?_
      rintro e w' ⟨rfl, rfl⟩
      go_wp2_with fail
      refine hsame.mono ?_
      clear hsame
      rintro e wq ⟨rfl, bq⟩
      replace hsh := hsh.below bq
      replace B := B.trans (bq.mono B.size)
      clear bq
      go_wp2_with fail
      refine (live_any _ hsh).mono ?_
      rintro e w9 ⟨rfl, b6⟩
      replace B := B.trans (b6.mono B.size)
      clear b6
      go_wp2_with fail
      go_ret
      exact ⟨rfl, B⟩

theorem termBack_law {H : Type} (enc : TypeId × Value → H) (W : World) (base : Nat) (ht : Shp W) (v0 : Value) (d0 : DataW H) (p0 : List MemPlace) (v1 : Value) (d1 : DataW H) (p1 : List MemPlace) (v2 : Value) (d2 : DataW H) (p2 : List MemPlace)
    (ok0 : Value.okWide Tryd.prog W .any base 26 v0) (ok1 : Value.okWide Tryd.prog W .any base 23 v1) (ok2 : Value.okWide Tryd.prog W .any base 23 v2)
    (h0 : DataW.Trod enc Tryd.prog W 0 (fun _ => true) true 26 v0 d0 p0) (h1 : DataW.Trod enc Tryd.prog W 0 (fun _ => true) true 23 v1 d1 p1) (h2 : DataW.Trod enc Tryd.prog W 0 (fun _ => true) true 23 v2 d2 p2) :
    Calls Tryd.prog 6 #[v0, v1, v2] W fun e W' => e = .returned (.bool true) ∧ Below W.heap.size W W' := by
  obtain ⟨n, hn⟩ := open_term ok0 h0
  obtain ⟨t, tv⟩ := hn n (Nat.le_refl _)
  obtain ⟨l, hl⟩ := BS_of_arg ok1 h1
  obtain ⟨m, hm⟩ := BS_of_arg ok2 h2
  exact termBack_any _ n t v0 v1 v2 l m W (fun b h => h) ht tv (hl.lt.mono fun _ h => h.2) (hm.lt.mono fun _ h => h.2)
end Go.Proofs.YtmepcdljobdigaaDoor
