/-
  The law LexJoins over the loaded program: two texts, a line feed between, have the words of both. No condition.
-/
import Derived.Test.YtndmdenhmcmbcaaDoorLxL
import Derived.Test.YtndmdenhmcmbcaaDoorArgs
import Derived.BigQuiet
namespace Go.Proofs.YtndmdenhmcmbcaaDoor
open Go.RowKit Go.ChangeShapes Go.WideShapes Go.Joins
set_option maxRecDepth 100000
set_option linter.unusedVariables false

set_option maxHeartbeats 8000000 in
theorem lex_joins (s t : List UInt8) (hs : s.length ≤ maxLen) (ht : t.length ≤ maxLen) (w : World) :
    Calls Tryd.prog 5 #[strV s, strV t] w fun e w' => e = .returned (.bool true) ∧ Below w.heap.size w w' := by
  have hzs : ((⟨s.toArray⟩ : ByteArray).size : Int) = (s.length : Int) := rfl
  have hzt : ((⟨t.toArray⟩ : ByteArray).size : Int) = (t.length : Int) := rfl
  have hlive := live16_any
  have hnum := num16_any
  by_cases h0 : 300 < s.length
  · have D : decide ((300 : Int) < (s.length : Int)) = true := decide_eq_true (by omega)
    unfold strV at *
    generalize (⟨s.toArray⟩ : ByteArray) = z at *
    generalize (⟨t.toArray⟩ : ByteArray) = y at *
    clear hs ht
    go_enter Tryd.func5, Tryd.ntmps5
    go_wp2_with (go_at_call 6; refine (hlive _).mono ?_; rintro e w5 ⟨rfl, b5⟩)
    go_ret
    exact ⟨rfl, b5⟩
  by_cases h1 : 290 < t.length
  · have D : decide ((300 : Int) < (s.length : Int)) = false := decide_eq_false (by omega)
    have D2 : decide ((290 : Int) < (t.length : Int)) = true := decide_eq_true (by omega)
    unfold strV at *
    generalize (⟨s.toArray⟩ : ByteArray) = z at *
    generalize (⟨t.toArray⟩ : ByteArray) = y at *
    clear hs ht
    go_enter Tryd.func5, Tryd.ntmps5
    go_wp2_with (go_at_call 6; refine (hlive _).mono ?_; rintro e w5 ⟨rfl, b5⟩)
    go_ret
    exact ⟨rfl, b5⟩
  have D : decide ((300 : Int) < (s.length : Int)) = false := decide_eq_false (by omega)
  have D2 : decide ((290 : Int) < (t.length : Int)) = false := decide_eq_false (by omega)
  have hlen : (s ++ 10 :: t).length = s.length + t.length + 1 := by rw [List.length_append, List.length_cons]; omega
  have ha := all16_any s hs
  have hb := all16_any t ht
  have hc := all16_any (s ++ 10 :: t) (by rw [hlen]; unfold maxLen; omega)
  have hp1 := txt_add s [10] (by simp only [List.length_singleton]; omega)
  have hp2 := txt_add (s ++ [10]) t (by simp only [List.length_append, List.length_singleton]; omega)
  rw [List.append_assoc, List.singleton_append] at hp2
  have hj := @all_join s t (by omega) (by omega)
  unfold AllAs at ha hb hc
  obtain ⟨r1, hr1⟩ : ∃ r, r = allS s := ⟨_, rfl⟩
  obtain ⟨r2, hr2⟩ : ∃ r, r = allS t := ⟨_, rfl⟩
  obtain ⟨r3, hr3⟩ : ∃ r, r = allS (s ++ 10 :: t) := ⟨_, rfl⟩
  rw [← hr1] at ha hj
  rw [← hr2] at hb hj
  rw [← hr3] at hc hj
  have hc1 := lex_count (s.length + 1) 0 s (by omega)
  have hcnt : r1.1.length ≤ 1000 ∧ r2.1.length ≤ 1000 := by
    have key : ∀ u : List UInt8, u.length ≤ 300 → (allS u).1.length ≤ 1000 := by
      intro u hu
      have := lex_count (u.length + 1) 0 u (by omega)
      rw [all_short (by omega)]
      split
      · omega
      · simp
    rw [hr1, hr2]
    exact ⟨key s (by omega), key t (by omega)⟩
  have HQ : Hid (∀ (q : Tk), q ∈ r2.1 → q.at_ ≤ 1000) := by
    intro q hq
    rw [hr2, all_short (by omega)] at hq
    split at hq
    · have := (lex_text (t.length + 1) 0 t q (by omega) hq).2
      omega
    · cases hq
  obtain ⟨ta, na, ea⟩ := r1
  obtain ⟨tb, nb, eb⟩ := r2
  obtain ⟨tc, nc, ec⟩ := r3
  dsimp only at ha hb hc hj hcnt HQ
  unfold strV at *
  obtain ⟨z, hz⟩ : ∃ z : ByteArray, z = ⟨s.toArray⟩ := ⟨_, rfl⟩
  obtain ⟨y, hy⟩ : ∃ z : ByteArray, z = ⟨t.toArray⟩ := ⟨_, rfl⟩
  obtain ⟨x, hx⟩ : ∃ z : ByteArray, z = ⟨(s ++ 10 :: t).toArray⟩ := ⟨_, rfl⟩
  obtain ⟨x1, hx1⟩ : ∃ z : ByteArray, z = ⟨(s ++ [10]).toArray⟩ := ⟨_, rfl⟩
  rw [← hz] at ha hzs hp1 ⊢
  rw [← hy] at hb hzt hp2 ⊢
  rw [← hx] at hc hp2
  rw [← hx1] at hp1 hp2
  clear hr1 hr2 hr3 hs ht hc1 hz hy hx hx1 hlen
  by_cases h2 : ea = 0
  · by_cases h3 : eb = 0
    · subst h2 h3
      have hj' := hj rfl rfl
      injection hj' with e1 e2
      injection e2 with e2 e3
      subst e2 e3
      have HTC := Lib.hid e1
      have hcl : tc.length = ta.length + tb.length := by rw [e1, List.length_append, List.length_map]
      clear hj e1
      have hw1 : IntKind.i64.wrap ((s.length : Int) + (t.length : Int)) = (s.length : Int) + (t.length : Int) := by rw [IntKind.wrap_i64]; omega
      have hw2 : IntKind.i64.wrap ((s.length : Int) + (t.length : Int) + 1) = (s.length : Int) + (t.length : Int) + 1 := by rw [IntKind.wrap_i64]; omega
      have hw3 : IntKind.i64.wrap ((ta.length : Int) + (tb.length : Int)) = (ta.length : Int) + (tb.length : Int) := by rw [IntKind.wrap_i64]; omega
      have hcl2 : (tc.length : Int) = (ta.length : Int) + (tb.length : Int) := by omega
      have hq1 : ((tc.length : Int) != (ta.length : Int) + (tb.length : Int)) = false := by rw [hcl2]; simp
      go_enter Tryd.func5, Tryd.ntmps5
      go_wp2_with fail
      refine (ha _).mono ?_
      rintro e w1 ⟨v1, rfl, t1, b1⟩
      go_wp2_with fail
      refine (hb _).mono ?_
      rintro e w2 ⟨v2, rfl, t2, b2⟩
      go_wp2_with fail
      refine (hc _).mono ?_
      rintro e w3 ⟨v3, rfl, t3, b3⟩
      have t1' := (t1.below' b2).below' b3
      have t2' := t2.below' b3
      have BB := b1.trans ((b2.mono b1.size).trans (b3.mono (Nat.le_trans b1.size b2.size)))
      obtain ⟨A1, c1, rfl, _⟩ := t1.form
      obtain ⟨A2, c2, rfl, _⟩ := t2.form
      obtain ⟨A3, c3, rfl, _⟩ := t3.form
      clear ha hb hc hp1 hp2 t1 t2 b1 b2 b3
      go_wp2_with (go_at_call 10; refine (hnum _ _).mono ?_; rintro e w4 ⟨rfl, rfl⟩)
      go_loopw [14] (fun iv wr => ∃ i : Nat, i ≤ tc.length ∧ iv = .int .i64 (i : Int) ∧ Below w3.heap.size w3 wr) (fun iv _ => tc.length - (intOf iv).toNat)
      case atStart => exact ⟨0, Nat.zero_le _, rfl, Below.refl _ _⟩
      case round =>
        obtain ⟨i, hi, rfl, bl⟩ := hrel
        by_cases hlt : i < tc.length
        · have hltI : (i : Int) < (tc.length : Int) := by omega
          have hwi : IntKind.i64.wrap ((i : Int) + 1) = ((i + 1 : Nat) : Int) := by rw [IntKind.wrap_i64]; omega
          obtain ⟨tt, htt⟩ : ∃ t, tc[i]? = some t := ⟨_, List.getElem?_eq_getElem hlt⟩
          obtain ⟨bc, oc, rfl, _, hbc, hxc⟩ := (t3.below' bl).at_ (by omega)
          obtain ⟨z0, z1, z2, z3⟩ := hxc i tt htt
          by_cases hia : i < ta.length
          · have hiaI : (i : Int) < (ta.length : Int) := by omega
            have hat : ta[i]? = some tt := by rw [HTC.out, List.getElem?_append_left hia] at htt; exact htt
            obtain ⟨ba, oa, rfl, _, hba, hxa⟩ := (t1'.below' bl).at_ (by omega)
            obtain ⟨y0, y1, y2, y3⟩ := hxa i tt hat
            obtain ⟨kd, tx, nn, at_⟩ := tt
            dsimp only at z0 z1 z2 z3 y0 y1 y2 y3
            unfold strV at *
            generalize (⟨tx.toArray⟩ : ByteArray) = u at *
            have K0 := KB.new wr 34 #[.int .i64 (kd : Int), .string u, .int .i64 nn, .int .i64 (at_ : Int)]
            have B0 := bl.alloc bl.size (.cells #[.int .i64 (kd : Int), .string u, .int .i64 nn, .int .i64 (at_ : Int)] 34)
            have BN := (Below.refl wr.heap.size wr).alloc (Nat.le_refl _) (.cells #[.int .i64 (kd : Int), .string u, .int .i64 nn, .int .i64 (at_ : Int)] 34)
            clear hxa hxc htt hat t1' t2' t3 HTC bl
            have HK := Lib.hid K0
            have HB := Lib.hid B0
            have HN := Lib.hid BN
            clear K0 B0 BN
            go_wp2
            have g0 := (HN.out.cell (p := ⟨bc, oc + i * 4, none⟩) hbc).trans z0
            have g1 := (HN.out.cell (p := ⟨bc, oc + i * 4 + 1, none⟩) hbc).trans z1
            have g2 := (HN.out.cell (p := ⟨bc, oc + i * 4 + 2, none⟩) hbc).trans z2
            have g3 := (HN.out.cell (p := ⟨bc, oc + i * 4 + 3, none⟩) hbc).trans z3
            have k0 : (wr.alloc (.cells #[.int .i64 (kd : Int), .string u, .int .i64 nn, .int .i64 (at_ : Int)] 34)).cell? ⟨wr.heap.size, 0, none⟩ = some (.int .i64 (kd : Int)) := HK.out.cell 0
            have k1 : (wr.alloc (.cells #[.int .i64 (kd : Int), .string u, .int .i64 nn, .int .i64 (at_ : Int)] 34)).cell? ⟨wr.heap.size, 1, none⟩ = some (.string u) := HK.out.cell 1
            have k2 : (wr.alloc (.cells #[.int .i64 (kd : Int), .string u, .int .i64 nn, .int .i64 (at_ : Int)] 34)).cell? ⟨wr.heap.size, 2, none⟩ = some (.int .i64 nn) := HK.out.cell 2
            have k3 : (wr.alloc (.cells #[.int .i64 (kd : Int), .string u, .int .i64 nn, .int .i64 (at_ : Int)] 34)).cell? ⟨wr.heap.size, 3, none⟩ = some (.int .i64 (at_ : Int)) := HK.out.cell 3
            clear z0 z1 z2 z3 HN HK
            generalize wr.alloc (.cells #[.int .i64 (kd : Int), .string u, .int .i64 nn, .int .i64 (at_ : Int)] 34) = wn at g0 g1 g2 g3 k0 k1 k2 k3 HB ⊢
            go_quiet (fail)
            have bq := Below_drawn HB.out nq
            go_wp2
            go_roundw
            case rel => exact ⟨i + 1, by omega, by first | rfl | (rw [hwi]), bq⟩
            case measure => simp [intOf]; omega
          · have hib : i - ta.length < tb.length := by omega
            have hiaI : ¬ (i : Int) < (ta.length : Int) := by omega
            have hwj : IntKind.i64.wrap ((i : Int) - (ta.length : Int)) = ((i - ta.length : Nat) : Int) := by rw [IntKind.wrap_i64]; omega
            obtain ⟨qq, hqq⟩ : ∃ q, tb[i - ta.length]? = some q := ⟨_, List.getElem?_eq_getElem hib⟩
            have hto : tt = qq.on (s.length + 1) := by
              rw [HTC.out, List.getElem?_append_right (by omega), List.getElem?_map, hqq] at htt
              exact (Option.some.inj htt).symm
            obtain ⟨ba, oa, rfl, _, hba, hxa⟩ := (t2'.below' bl).at_ (by omega)
            obtain ⟨y0, y1, y2, y3⟩ := hxa _ qq hqq
            have hqa := HQ.out qq (List.mem_of_getElem? hqq)
            subst hto
            obtain ⟨kd, tx, nn, at_⟩ := qq
            unfold Tk.on at z0 z1 z2 z3
            dsimp only at z0 z1 z2 z3 y0 y1 y2 y3 hqa
            unfold strV at *
            generalize (⟨tx.toArray⟩ : ByteArray) = u at *
            obtain ⟨j, hj⟩ : ∃ j, j = i - ta.length := ⟨_, rfl⟩
            obtain ⟨ao, hao⟩ : ∃ j, j = at_ + (s.length + 1) := ⟨_, rfl⟩
            obtain ⟨am, ham⟩ : ∃ j, j = at_ + s.length := ⟨_, rfl⟩
            rw [← hj] at hwj y0 y1 y2 y3
            rw [← hao] at z3
            have hwm : IntKind.i64.wrap ((at_ : Int) + (s.length : Int)) = (am : Int) := by rw [IntKind.wrap_i64]; omega
            have hwo : IntKind.i64.wrap ((am : Int) + 1) = (ao : Int) := by rw [IntKind.wrap_i64]; omega
            have hjb : j < tb.length := by omega
            have hjI : (j : Int) < (tb.length : Int) := by omega
            have K0 := KB.new wr 34 #[.int .i64 (kd : Int), .string u, .int .i64 nn, .int .i64 (ao : Int)]
            have B0 := bl.alloc bl.size (.cells #[.int .i64 (kd : Int), .string u, .int .i64 nn, .int .i64 (ao : Int)] 34)
            have BN := (Below.refl wr.heap.size wr).alloc (Nat.le_refl _) (.cells #[.int .i64 (kd : Int), .string u, .int .i64 nn, .int .i64 (ao : Int)] 34)
            clear hxa hxc htt t1' t2' t3 HTC bl hqq hj hao ham hib
            have HK := Lib.hid K0
            have HB := Lib.hid B0
            have HN := Lib.hid BN
            clear K0 B0 BN
            go_wp2
            have g0 := (HN.out.cell (p := ⟨bc, oc + i * 4, none⟩) hbc).trans z0
            have g1 := (HN.out.cell (p := ⟨bc, oc + i * 4 + 1, none⟩) hbc).trans z1
            have g2 := (HN.out.cell (p := ⟨bc, oc + i * 4 + 2, none⟩) hbc).trans z2
            have g3 := (HN.out.cell (p := ⟨bc, oc + i * 4 + 3, none⟩) hbc).trans z3
            have k0 : (wr.alloc (.cells #[.int .i64 (kd : Int), .string u, .int .i64 nn, .int .i64 (ao : Int)] 34)).cell? ⟨wr.heap.size, 0, none⟩ = some (.int .i64 (kd : Int)) := HK.out.cell 0
            have k1 : (wr.alloc (.cells #[.int .i64 (kd : Int), .string u, .int .i64 nn, .int .i64 (ao : Int)] 34)).cell? ⟨wr.heap.size, 1, none⟩ = some (.string u) := HK.out.cell 1
            have k2 : (wr.alloc (.cells #[.int .i64 (kd : Int), .string u, .int .i64 nn, .int .i64 (ao : Int)] 34)).cell? ⟨wr.heap.size, 2, none⟩ = some (.int .i64 nn) := HK.out.cell 2
            have k3 : (wr.alloc (.cells #[.int .i64 (kd : Int), .string u, .int .i64 nn, .int .i64 (ao : Int)] 34)).cell? ⟨wr.heap.size, 3, none⟩ = some (.int .i64 (ao : Int)) := HK.out.cell 3
            clear z0 z1 z2 z3 HN HK
            generalize wr.alloc (.cells #[.int .i64 (kd : Int), .string u, .int .i64 nn, .int .i64 (ao : Int)] 34) = wn at g0 g1 g2 g3 k0 k1 k2 k3 HB ⊢
            go_quiet (fail)
            have bq := Below_drawn HB.out nq
            go_wp2
            go_roundw
            case rel => exact ⟨i + 1, by omega, by first | rfl | (rw [hwi]), bq⟩
            case measure => simp [intOf]; omega
        · obtain rfl : i = tc.length := by omega
          clear HTC t1' t2' t3
          go_wp2_with (go_at_call 6; refine (hlive _).mono ?_; rintro e w5 ⟨rfl, b5⟩)
          go_ret
          exact ⟨rfl, BB.trans ((bl.mono BB.size).trans (b5.mono (Nat.le_trans BB.size bl.size)))⟩
    · have hne : (eb != 0) = true := by simpa using h3
      subst h2
      clear hj hcnt
      go_enter Tryd.func5, Tryd.ntmps5
      go_wp2_with fail
      refine (ha _).mono ?_
      rintro e w1 ⟨v1, rfl, t1, b1⟩
      go_wp2_with fail
      refine (hb _).mono ?_
      rintro e w2 ⟨v2, rfl, t2, b2⟩
      go_wp2_with fail
      refine (hc _).mono ?_
      rintro e w3 ⟨v3, rfl, t3, b3⟩
      obtain ⟨A1, c1, rfl, _⟩ := t1.form
      obtain ⟨A2, c2, rfl, _⟩ := t2.form
      obtain ⟨A3, c3, rfl, _⟩ := t3.form
      go_wp2_with (first
        | (go_at_call 10; refine (hnum _ _).mono ?_; rintro e w4 ⟨rfl, rfl⟩)
        | (go_at_call 6; refine (hlive _).mono ?_; rintro e w5 ⟨rfl, b5⟩))
      go_ret
      exact ⟨rfl, b1.trans ((b2.mono b1.size).trans ((b3.mono (Nat.le_trans b1.size b2.size)).trans (b5.mono (Nat.le_trans b1.size (Nat.le_trans b2.size b3.size)))))⟩
  · have hne : (ea != 0) = true := by simpa using h2
    clear hj hcnt
    go_enter Tryd.func5, Tryd.ntmps5
    go_wp2_with fail
    refine (ha _).mono ?_
    rintro e w1 ⟨v1, rfl, t1, b1⟩
    go_wp2_with fail
    refine (hb _).mono ?_
    rintro e w2 ⟨v2, rfl, t2, b2⟩
    go_wp2_with fail
    refine (hc _).mono ?_
    rintro e w3 ⟨v3, rfl, t3, b3⟩
    obtain ⟨A1, c1, rfl, _⟩ := t1.form
    obtain ⟨A2, c2, rfl, _⟩ := t2.form
    obtain ⟨A3, c3, rfl, _⟩ := t3.form
    go_wp2_with (first
      | (go_at_call 10; refine (hnum _ _).mono ?_; rintro e w4 ⟨rfl, rfl⟩)
      | (go_at_call 6; refine (hlive _).mono ?_; rintro e w5 ⟨rfl, b5⟩))
    go_ret
    exact ⟨rfl, b1.trans ((b2.mono b1.size).trans ((b3.mono (Nat.le_trans b1.size b2.size)).trans (b5.mono (Nat.le_trans b1.size (Nat.le_trans b2.size b3.size)))))⟩

theorem lexJoins_law {H : Type} (enc : TypeId × Value → H) (W : World) (base : Nat) (v0 : Value) (d0 : DataW H) (p0 : List MemPlace) (v1 : Value) (d1 : DataW H) (p1 : List MemPlace)
    (o0 : Value.okWide Tryd.prog W .any base 9 v0) (o1 : Value.okWide Tryd.prog W .any base 9 v1)
    (h0 : DataW.Trod enc Tryd.prog W 0 (fun _ => true) true 9 v0 d0 p0) (h1 : DataW.Trod enc Tryd.prog W 0 (fun _ => true) true 9 v1 d1 p1) :
    Calls Tryd.prog 5 #[v0, v1] W fun e W' => e = .returned (.bool true) ∧ Below W.heap.size W W' := by
  obtain ⟨l, rfl, hl⟩ := open_str o0 h0
  obtain ⟨m, rfl, hm⟩ := open_str o1 h1
  exact lex_joins l m hl hm W
end Go.Proofs.YtndmdenhmcmbcaaDoor
