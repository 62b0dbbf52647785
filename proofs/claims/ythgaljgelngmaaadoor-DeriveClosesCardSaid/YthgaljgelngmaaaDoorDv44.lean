/-
  DcV: The example of the page of layer 6 ('live' of its statements): it is as the page says. No condition but that the table lies as the row says.
-/
import Derived.Test.YthgaljgelngmaaaDoorDv43
import Derived.Deep.CutRange

section
namespace Go.Proofs.YthgaljgelngmaaaDoor
open Go.RowKit
set_option linter.unusedVariables false

set_option maxHeartbeats 4000000 in
theorem dlive_any (w : World) (h : Shp w) :
    Calls Tryd.prog 7 #[] w fun e w' => e = .returned (.bool true) ∧ Below w.heap.size w w' := by
  have hcv := fun (w : World) (C : Array Value) (n c : Nat) => Lib.run_convert_bytes_const (P := Tryd.prog) w 33 5 C n c Tryd.underlying33 Tryd.underlying5
  go_enter Tryd.func7, Tryd.ntmps7
  go_wp2_with fail
  refine (data_any 0 _ _ [97] _ (BS.lit w 5 [97] (by simp [maxLen]) (1, 2)) (by simp)).mono ?_
  rintro e w1 ⟨u1, rfl, T1, b1⟩
  have B1 : Below w.heap.size w w1 := ((Below.refl _ _).alloc (Nat.le_refl _) _).trans (b1.mono (by simp))
  obtain ⟨_, _, _, _, rfl, m1⟩ := id T1
  obtain ⟨i0, i1, X2, n2, z2, X3, n3, z3, rfl, rfl, rfl, rfl⟩ := tm_form m1
  clear b1 m1
  go_wp2_with fail
  refine (key_any 0 7 _ (by omega)).mono ?_
  rintro e w2 ⟨u2, rfl, T2, b2⟩
  have B2 : Below w.heap.size w w2 := B1.trans (b2.mono B1.size)
  obtain ⟨_, _, _, _, rfl, m2⟩ := id T2
  obtain ⟨j0, j1, Y2, p2, y2, Y3, p3, y3, rfl, rfl, rfl, rfl⟩ := tm_form m2
  have A1 : Ask w2 1 _ _ := ⟨⟨by simp, by simp, fun u h => by simp at h⟩, _, fun b hb => Nat.lt_of_lt_of_le hb.2 b2.size, T1.below' b2⟩
  have A2 : Ask w2 1 _ _ := ⟨⟨by simp, by simp, fun u h => by simp at h⟩, _, fun b hb => hb.2, T2⟩
  clear b2 m2 T1 T2 B1
  go_wp2_with fail
  refine (enc_any 1 exD1 exK1 _ _ w2 1 (by omega) A1 A2).mono ?_
  rintro e w3 ⟨u3, rfl, T3, b3⟩
  have B3 : Below w.heap.size w w3 := B2.trans (b3.mono B2.size)
  obtain ⟨_, _, _, _, rfl, m3⟩ := id T3
  obtain ⟨k0, k1, U2, q2, x2, U3, q3, x3, rfl, rfl, rfl, rfl⟩ := tm_form m3
  clear b3 m3 A1 A2 B2
  go_wp2_with fail
  have KX0 := KB.new w3 35 #[.int .i64 k0, .int .u64 k1, .slice U2 q2 x2, .slice U3 q3 x3]
  have B4 := B3.alloc B3.size (.cells #[.int .i64 k0, .int .u64 k1, .slice U2 q2 x2, .slice U3 q3 x3] 35)
  obtain ⟨_, _, _, _, eq3, tx3⟩ := T3.alloc (.cells #[.int .i64 k0, .int .u64 k1, .slice U2 q2 x2, .slice U3 q3 x3] 35)
  injection eq3 with eq3
  simp only [Array.mk.injEq, List.cons.injEq, and_true] at eq3
  obtain ⟨rfl, rfl, rfl, rfl⟩ := eq3
  have hsh := h.below B4
  obtain ⟨w4, hw4⟩ : ∃ w4, w4 = w3.alloc (.cells #[.int .i64 k0, .int .u64 k1, .slice U2 q2 x2, .slice U3 q3 x3] 35) := ⟨_, rfl⟩
  have hs34 : w3.heap.size ≤ w4.heap.size := by rw [hw4]; simp
  rw [← hw4] at KX0 B4 tx3 hsh ⊢
  have TX : TM w4 (fun b => b < w4.heap.size) 2 exX (.int .i64 k0) (.int .u64 k1) (.slice U2 q2 x2) (.slice U3 q3 x3) := TM.keepS 2 _ _ _ _ _ tx3 (Nat.le_refl _) (fun _ _ _ => rfl) fun b hb => Nat.lt_of_lt_of_le hb.2 hs34
  have KX := KX0
  clear hw4 hs34 tx3 T3 B3 KX0 hcv
  go_cut [2, 3] from 11 to 20 (fun a b wc => a = .bool true ∧ b = .int .i64 0 ∧ Below w4.heap.size w4 wc)
  case first =>
    refine wp_region_any (by kernel_rfl) ?_
    change wpAny _ _ _ _ _ _ _ (World.drew _)
    refine wpAny_inv (fun listed act w' => ∃ (rx rk rl rt rc rd : Bool) (sx sk sl st sc sd : Value) (gL gl : Nat), listed = #[rx, rk, rl, rt, rc, rd, false, false, false, false, false, false] ∧ act = { tmps := #[.bool false, .pointer (some ⟨w3.heap.size, 0, none⟩), undef, undef, undef, undef, .slice (some ⟨w.heap.size, 0, none⟩) 1 1, .slice (some ⟨w.heap.size, 0, none⟩) 1 1, .agg #[.int .i64 i0, .int .u64 i1, .slice X2 n2 z2, .slice X3 n3 z3], .agg #[.int .i64 j0, .int .u64 j1, .slice Y2 p2 y2, .slice Y3 p3 y3], .agg #[.int .i64 k0, .int .u64 k1, .slice U2 q2 x2, .slice U3 q3 x3], undef, sx, sk, sl, st, sc, sd, undef, undef, undef, undef, undef, undef, undef, undef, undef, undef, undef, undef, undef, undef, undef, undef, undef, undef, undef, undef, undef, undef, undef, undef, undef, undef, undef, undef, undef, undef, undef, undef, undef, undef, undef], defers := [] } ∧ PL w4 (.agg #[.int .i64 k0, .int .u64 k1, .slice U2 q2 x2, .slice U3 q3 x3]) (fun u => ∃ (w9 : World) (S9 : Nat → Prop), TV w9 S9 2 u exK) 35 2 (fun cs => ∃ y0 y1 y2 y3, cs = #[.int .i64 k0, .int .u64 k1, .slice U2 q2 x2, .slice U3 q3 x3, y0, y1, y2, y3] ∧ ∀ (w : World) (S : Nat → Prop), TM w S 2 exK y0 y1 y2 y3) rx rk rl rt rc rd sx sk sl st sc sd gL gl w' ∧ (rl = true → rx = true ∧ rk = true)) ?_ ?_ _ _ _ _
      ⟨false, false, false, false, false, false, _, _, _, _, _, _, 0, 0, rfl, rfl, PL.start w4 _ _ _ _ _ 1, (fun h => by cases h)⟩ rfl
    · rintro fuel listed act w' ⟨rx, rk, rl, rt, rc, rd, sx, sk, sl, st, sc, sd, gL, gl, rfl, rfl, hPL, hDL⟩ _ hr
      exfalso
      have hnr : ∀ i : Nat, ¬ i ∈ ([] : List Nat) := by simp
      rw [← hr] at hnr
      have tx : rx = true := by
        exact not_ready2 (hnr 0) (by simp [Region.binds])
      subst tx
      have tk : rk = true := by
        exact not_ready2 (hnr 1) (by simp [Region.binds])
      subst tk
      have tt : rt = true := by
        exact not_ready2 (hnr 3) (by simp [Region.binds])
      subst tt
      have tl : rl = true := by
        exact not_ready2 (hnr 2) (by simp [Region.binds])
      subst tl
      have tc : rc = true := by
        exact not_ready2 (hnr 4) (by simp [Region.binds])
      subst tc
      have td : rd = true := by
        exact not_ready2 (hnr 5) (by simp [Region.binds])
      subst td
      have hF : false = true := by
        exact not_ready2 (hnr 6) (by simp [Region.binds])
      cases hF
    · rintro fuel listed act w' ⟨rx, rk, rl, rt, rc, rd, sx, sk, sl, st, sc, sd, gL, gl, rfl, rfl, hPL, hDL⟩ hcnt
      by_cases hall : rx = true ∧ rk = true ∧ rl = true ∧ rt = true ∧ rc = true ∧ rd = true
      · obtain ⟨rfl, rfl, rfl, rfl, rfl, rfl⟩ := hall
        obtain rfl : fuel = 5 := by
          have h3 : (6 : Nat) = fuel + 1 := hcnt
          omega
        left
        clear hcnt
        obtain ⟨cs, rfl, _, kL, ⟨l0, l1, l2, l3, rfl, ty⟩⟩ := hPL.el rfl
        obtain ⟨_, tvD⟩ := hPL.ed rfl
        have b8 := hPL.bl
        have hks := KS_two kL (TM.keepS 2 _ _ _ _ _ TX b8.size (fun b hb hl => b8.block b hl) fun b hb => Nat.lt_of_lt_of_le hb b8.size) (ty _ _)
        have hfo := follows_any _ _ 2 [exX, exK] exD _ _ w' (fun b h => h) (fun b h => h) (hsh.below b8) hks tvD
        rw [ex_yes.1, ex_yes.2] at hfo
        clear hPL kL hks tvD
        refine wpAny_ready (rs := [6]) (by kernel_rfl) (by simp) ?_
        refine AllReady.cons rfl (fun K0 hK => ?_) AllReady.nil
        go_simp
        refine hfo.mono ?_
        rintro e w9 ⟨rfl, b9⟩
        have BE := b8.trans (b9.mono b8.size)
        clear hfo
        refine hK _ _ ?_
        clear hK K0
        refine wpAny_ready (rs := [7]) (by kernel_rfl) (by simp) ?_
        refine AllReady.cons rfl (fun K0 hK => ?_) AllReady.nil
        go_simp
        refine hK _ _ ?_
        clear hK K0
        refine wpAny_ready (rs := [8, 9]) (by kernel_rfl) (by simp) ?_
        refine AllReady.cons rfl (fun K0 hK => ?_) (AllReady.cons rfl (fun K0 hK => ?_) (AllReady.nil))
        · go_simp
          refine hK _ _ ?_
          clear hK K0
          refine wpAny_ready (rs := [9, 10]) (by kernel_rfl) (by simp) ?_
          refine AllReady.cons rfl (fun K0 hK => ?_) (AllReady.cons rfl (fun K0 hK => ?_) (AllReady.nil))
          · go_simp
            refine hK _ _ ?_
            clear hK K0
            refine wpAny_ready (rs := [10]) (by kernel_rfl) (by simp) ?_
            refine AllReady.cons rfl (fun K0 hK => ?_) AllReady.nil
            go_simp
            refine hK _ _ ?_
            clear hK K0
            refine wpAny_ready (rs := [11]) (by kernel_rfl) (by simp) ?_
            refine AllReady.cons rfl (fun K0 hK => ?_) AllReady.nil
            go_simp
            refine hK _ _ ?_
            clear hK K0
            refine wpAny_done (by kernel_rfl) ?_ _
            go_wp2_with fail
            go_meet
            exact ⟨rfl, rfl, BE⟩
          · go_simp
            refine hK _ _ ?_
            clear hK K0
            refine wpAny_ready (rs := [9]) (by kernel_rfl) (by simp) ?_
            refine AllReady.cons rfl (fun K0 hK => ?_) AllReady.nil
            go_simp
            refine hK _ _ ?_
            clear hK K0
            refine wpAny_ready (rs := [11]) (by kernel_rfl) (by simp) ?_
            refine AllReady.cons rfl (fun K0 hK => ?_) AllReady.nil
            go_simp
            refine hK _ _ ?_
            clear hK K0
            refine wpAny_done (by kernel_rfl) ?_ _
            go_wp2_with fail
            go_meet
            exact ⟨rfl, rfl, BE⟩
        · go_simp
          refine hK _ _ ?_
          clear hK K0
          refine wpAny_ready (rs := [8]) (by kernel_rfl) (by simp) ?_
          refine AllReady.cons rfl (fun K0 hK => ?_) AllReady.nil
          go_simp
          refine hK _ _ ?_
          clear hK K0
          refine wpAny_ready (rs := [10]) (by kernel_rfl) (by simp) ?_
          refine AllReady.cons rfl (fun K0 hK => ?_) AllReady.nil
          go_simp
          refine hK _ _ ?_
          clear hK K0
          refine wpAny_ready (rs := [11]) (by kernel_rfl) (by simp) ?_
          refine AllReady.cons rfl (fun K0 hK => ?_) AllReady.nil
          go_simp
          refine hK _ _ ?_
          clear hK K0
          refine wpAny_done (by kernel_rfl) ?_ _
          go_wp2_with fail
          go_meet
          exact ⟨rfl, rfl, BE⟩
      · right
        intro i hi
        obtain ⟨hlt9, hfl, ha⟩ := mem_ready hi
        have hi9 : i < 12 := hlt9
        have K9 := KX.below hPL.bl KX.lt
        clear hlt9 hi
        have c0 : w'.cell? ⟨w3.heap.size, 0, none⟩ = some (.int .i64 k0) := K9.cell 0
        have c1 : w'.cell? ⟨w3.heap.size, 1, none⟩ = some (.int .u64 k1) := K9.cell 1
        have c2 : w'.cell? ⟨w3.heap.size, 2, none⟩ = some (.slice U2 q2 x2) := K9.cell 2
        have c3 : w'.cell? ⟨w3.heap.size, 3, none⟩ = some (.slice U3 q3 x3) := K9.cell 3
        have hcase : i = 0 ∨ i = 1 ∨ i = 2 ∨ i = 3 ∨ i = 4 ∨ i = 5 ∨ i = 6 ∨ i = 7 ∨ i = 8 ∨ i = 9 ∨ i = 10 ∨ i = 11 := by omega
        rcases hcase with rfl | rfl | rfl | rfl | rfl | rfl | rfl | rfl | rfl | rfl | rfl | rfl
        · refine wpOp_step rfl (fun K0 hK => ?_)
          go_simp
          refine hK _ _ ?_
          exact ⟨true, rk, rl, rt, rc, rd, _, sk, sl, st, sc, sd, gL, gl, rfl, rfl, hPL.lx, (fun k => ⟨rfl, (hDL k).2⟩)⟩
        · refine wpOp_step rfl (fun K0 hK => ?_)
          go_simp
          go_at_call 19
          refine (key_any 1 7 _ (by omega)).mono ?_
          rintro e w9 ⟨u9, rfl, tv9, b9⟩
          refine hK _ _ ?_
          exact ⟨rx, true, rl, rt, rc, rd, sx, _, sl, st, sc, sd, gL, gl, rfl, rfl, hPL.lk b9 ⟨_, _, tv9⟩, (fun k => ⟨(hDL k).1, rfl⟩)⟩
        · have hd : rx = true ∧ rk = true := by
            have := ha _ rfl
            simp [Region.binds] at this
            simp_all
          obtain ⟨gx, gk⟩ := hd
          obtain rfl := hPL.ex gx
          obtain ⟨w9, S9, y0, y1, y2', y3', rfl, ty⟩ := hPL.ek gk
          obtain ⟨l0, l1, V2, v2, vv2, V3, v3, vv3, rfl, rfl, rfl, rfl⟩ := tm_form ty
          refine wpOp_step rfl (fun K0 hK => ?_)
          go_simp
          refine hK _ _ ?_
          exact ⟨rx, rk, true, rt, rc, rd, _, _, _, st, sc, sd, _, gl, rfl, rfl, hPL.nl ⟨_, _, _, _, rfl, fun w S => key_free ty⟩, (fun _ => ⟨gx, gk⟩)⟩
        · have hc0 : rc = false := by
            cases hrc : rc with
            | false => rfl
            | true =>
              have h1 := (hPL.ec hrc).1
              subst h1
              cases hfl
          refine wpOp_step rfl (fun K0 hK => ?_)
          go_simp
          refine hK _ _ ?_
          exact ⟨rx, rk, rl, true, rc, rd, sx, sk, sl, _, sc, sd, gL, _, rfl, rfl, hPL.nt hc0, hDL⟩
        · have hd : rt = true := by
            have := ha _ rfl
            simp [Region.binds] at this
            simp_all
          have gt := hd
          have hc0 : rc = false := hfl
          obtain ⟨w9, hrun, h9⟩ := hPL.conv gt hc0
          obtain ⟨rfl, _⟩ := hPL.et gt
          refine wpOp_step rfl (fun K0 hK => ?_)
          go_simp
          refine hK _ _ ?_
          exact ⟨rx, rk, rl, rt, true, rd, sx, sk, sl, _, _, sd, gL, gl, rfl, rfl, h9, hDL⟩
        · have hd : rc = true ∧ rk = true := by
            have := ha _ rfl
            simp [Region.binds] at this
            simp_all
          obtain ⟨gc, gk⟩ := hd
          have hbs := hPL.bs gc
          obtain ⟨_, rfl⟩ := hPL.ec gc
          refine wpOp_step rfl (fun K0 hK => ?_)
          go_simp
          go_at_call 18
          refine (data_any 1 _ _ [97] _ hbs (by simp)).mono ?_
          rintro e w9 ⟨u9, rfl, tv9, b9⟩
          refine hK _ _ ?_
          exact ⟨rx, rk, rl, rt, rc, true, sx, sk, sl, st, _, _, gL, gl, rfl, rfl, hPL.kd gc b9 tv9, hDL⟩
        · exfalso
          apply hall
          have h1 := ha _ rfl
          simp [Region.binds] at h1
          have c1 := hPL.ec
          have c2 := hPL.ed
          simp_all
        · exfalso
          have := ha _ rfl
          simp [Region.binds] at this
        · exfalso
          have := ha _ rfl
          simp [Region.binds] at this
        · exfalso
          have := ha _ rfl
          simp [Region.binds] at this
        · exfalso
          have := ha _ rfl
          simp [Region.binds] at this
        · exfalso
          have := ha _ rfl
          simp [Region.binds] at this
  case rest =>
    obtain ⟨rfl, rfl, hb5⟩ := hcut
    obtain ⟨w5, rfl⟩ : ∃ w5, w5 = wc := ⟨_, rfl⟩
    have B5 := B4.trans (hb5.mono B4.size)
    have KX5 := KX.below hb5 KX.lt
    have TX5 := TM.keepS 2 _ _ _ _ _ TX hb5.size (fun b hb hl => hb5.block b hl) fun b hb => Nat.lt_of_lt_of_le hb hb5.size
    replace hsh := hsh.below hb5
    clear KX TX hb5 B4
    have KX := KX5
    have TX := TX5
    clear KX5 TX5
    go_wp2_with fail
    go_cut [4, 5] from 21 to 29 (fun a b wc => a = .bool false ∧ b = .int .i64 0 ∧ Below w5.heap.size w5 wc)
    case first =>
      refine wp_region_any (by kernel_rfl) ?_
      change wpAny _ _ _ _ _ _ _ (World.drew _)
      refine wpAny_inv (fun listed act w' => ∃ (rx rl rt rc rd : Bool) (sx sl st sc sd : Value) (gL gl : Nat), listed = #[rx, rl, rt, rc, rd, false, false, false, false, false, false] ∧ act = { tmps := #[.bool false, .pointer (some ⟨w3.heap.size, 0, none⟩), .bool true, .int .i64 0, undef, undef, .slice (some ⟨w.heap.size, 0, none⟩) 1 1, .slice (some ⟨w.heap.size, 0, none⟩) 1 1, .agg #[.int .i64 i0, .int .u64 i1, .slice X2 n2 z2, .slice X3 n3 z3], .agg #[.int .i64 j0, .int .u64 j1, .slice Y2 p2 y2, .slice Y3 p3 y3], .agg #[.int .i64 k0, .int .u64 k1, .slice U2 q2 x2, .slice U3 q3 x3], u11, u12, u13, u14, u15, u16, u17, u18, u19, u20, undef, sx, sl, st, sc, sd, undef, undef, undef, undef, undef, undef, undef, undef, undef, undef, undef, undef, undef, undef, undef, undef, undef, undef, undef, undef, undef, undef, undef, undef, undef, undef], defers := [] } ∧ PL w5 (.agg #[.int .i64 k0, .int .u64 k1, .slice U2 q2 x2, .slice U3 q3 x3]) (fun _ => True) 35 1 (fun cs => cs = #[.int .i64 k0, .int .u64 k1, .slice U2 q2 x2, .slice U3 q3 x3]) rx true rl rt rc rd sx undef sl st sc sd gL gl w' ∧ (rl = true → rx = true)) ?_ ?_ _ _ _ _
        ⟨false, false, false, false, false, _, _, _, _, _, 0, 0, rfl, rfl, PL.start' w5 _ _ _ _ 1, (fun h => by cases h)⟩ rfl
      · rintro fuel listed act w' ⟨rx, rl, rt, rc, rd, sx, sl, st, sc, sd, gL, gl, rfl, rfl, hPL, hDL⟩ _ hr
        exfalso
        have hnr : ∀ i : Nat, ¬ i ∈ ([] : List Nat) := by simp
        rw [← hr] at hnr
        have tx : rx = true := by
          exact not_ready2 (hnr 0) (by simp [Region.binds])
        subst tx
        have tt : rt = true := by
          exact not_ready2 (hnr 2) (by simp [Region.binds])
        subst tt
        have tl : rl = true := by
          exact not_ready2 (hnr 1) (by simp [Region.binds])
        subst tl
        have tc : rc = true := by
          exact not_ready2 (hnr 3) (by simp [Region.binds])
        subst tc
        have td : rd = true := by
          exact not_ready2 (hnr 4) (by simp [Region.binds])
        subst td
        have hF : false = true := by
          exact not_ready2 (hnr 5) (by simp [Region.binds])
        cases hF
      · rintro fuel listed act w' ⟨rx, rl, rt, rc, rd, sx, sl, st, sc, sd, gL, gl, rfl, rfl, hPL, hDL⟩ hcnt
        by_cases hall : rx = true ∧ rl = true ∧ rt = true ∧ rc = true ∧ rd = true
        · obtain ⟨rfl, rfl, rfl, rfl, rfl⟩ := hall
          obtain rfl : fuel = 5 := by
            have h3 : (6 : Nat) = fuel + 1 := hcnt
            omega
          left
          clear hcnt
          obtain ⟨cs, rfl, _, kL, rfl⟩ := hPL.el rfl
          obtain ⟨_, tvD⟩ := hPL.ed rfl
          have b8 := hPL.bl
          have hks := KS_sing kL (TM.keepS 2 _ _ _ _ _ TX b8.size (fun b hb hl => b8.block b hl) fun b hb => Nat.lt_of_lt_of_le hb b8.size)
          have hfo := follows_any _ _ 2 [exX] exD _ _ w' (fun b h => h) (fun b h => h) (hsh.below b8) hks tvD
          rw [ex_no.1, ex_no.2] at hfo
          clear hPL kL hks tvD
          refine wpAny_ready (rs := [5]) (by kernel_rfl) (by simp) ?_
          refine AllReady.cons rfl (fun K0 hK => ?_) AllReady.nil
          go_simp
          refine hfo.mono ?_
          rintro e w9 ⟨rfl, b9⟩
          have BE := b8.trans (b9.mono b8.size)
          clear hfo
          refine hK _ _ ?_
          clear hK K0
          refine wpAny_ready (rs := [6]) (by kernel_rfl) (by simp) ?_
          refine AllReady.cons rfl (fun K0 hK => ?_) AllReady.nil
          go_simp
          refine hK _ _ ?_
          clear hK K0
          refine wpAny_ready (rs := [7, 8]) (by kernel_rfl) (by simp) ?_
          refine AllReady.cons rfl (fun K0 hK => ?_) (AllReady.cons rfl (fun K0 hK => ?_) (AllReady.nil))
          · go_simp
            refine hK _ _ ?_
            clear hK K0
            refine wpAny_ready (rs := [8, 9]) (by kernel_rfl) (by simp) ?_
            refine AllReady.cons rfl (fun K0 hK => ?_) (AllReady.cons rfl (fun K0 hK => ?_) (AllReady.nil))
            · go_simp
              refine hK _ _ ?_
              clear hK K0
              refine wpAny_ready (rs := [9]) (by kernel_rfl) (by simp) ?_
              refine AllReady.cons rfl (fun K0 hK => ?_) AllReady.nil
              go_simp
              refine hK _ _ ?_
              clear hK K0
              refine wpAny_ready (rs := [10]) (by kernel_rfl) (by simp) ?_
              refine AllReady.cons rfl (fun K0 hK => ?_) AllReady.nil
              go_simp
              refine hK _ _ ?_
              clear hK K0
              refine wpAny_done (by kernel_rfl) ?_ _
              go_wp2_with fail
              go_meet
              exact ⟨rfl, rfl, BE⟩
            · go_simp
              refine hK _ _ ?_
              clear hK K0
              refine wpAny_ready (rs := [8]) (by kernel_rfl) (by simp) ?_
              refine AllReady.cons rfl (fun K0 hK => ?_) AllReady.nil
              go_simp
              refine hK _ _ ?_
              clear hK K0
              refine wpAny_ready (rs := [10]) (by kernel_rfl) (by simp) ?_
              refine AllReady.cons rfl (fun K0 hK => ?_) AllReady.nil
              go_simp
              refine hK _ _ ?_
              clear hK K0
              refine wpAny_done (by kernel_rfl) ?_ _
              go_wp2_with fail
              go_meet
              exact ⟨rfl, rfl, BE⟩
          · go_simp
            refine hK _ _ ?_
            clear hK K0
            refine wpAny_ready (rs := [7]) (by kernel_rfl) (by simp) ?_
            refine AllReady.cons rfl (fun K0 hK => ?_) AllReady.nil
            go_simp
            refine hK _ _ ?_
            clear hK K0
            refine wpAny_ready (rs := [9]) (by kernel_rfl) (by simp) ?_
            refine AllReady.cons rfl (fun K0 hK => ?_) AllReady.nil
            go_simp
            refine hK _ _ ?_
            clear hK K0
            refine wpAny_ready (rs := [10]) (by kernel_rfl) (by simp) ?_
            refine AllReady.cons rfl (fun K0 hK => ?_) AllReady.nil
            go_simp
            refine hK _ _ ?_
            clear hK K0
            refine wpAny_done (by kernel_rfl) ?_ _
            go_wp2_with fail
            go_meet
            exact ⟨rfl, rfl, BE⟩
        · right
          intro i hi
          obtain ⟨hlt9, hfl, ha⟩ := mem_ready hi
          have hi9 : i < 11 := hlt9
          have K9 := KX.below hPL.bl KX.lt
          clear hlt9 hi
          have c0 : w'.cell? ⟨w3.heap.size, 0, none⟩ = some (.int .i64 k0) := K9.cell 0
          have c1 : w'.cell? ⟨w3.heap.size, 1, none⟩ = some (.int .u64 k1) := K9.cell 1
          have c2 : w'.cell? ⟨w3.heap.size, 2, none⟩ = some (.slice U2 q2 x2) := K9.cell 2
          have c3 : w'.cell? ⟨w3.heap.size, 3, none⟩ = some (.slice U3 q3 x3) := K9.cell 3
          have hcase : i = 0 ∨ i = 1 ∨ i = 2 ∨ i = 3 ∨ i = 4 ∨ i = 5 ∨ i = 6 ∨ i = 7 ∨ i = 8 ∨ i = 9 ∨ i = 10 := by omega
          rcases hcase with rfl | rfl | rfl | rfl | rfl | rfl | rfl | rfl | rfl | rfl | rfl
          · refine wpOp_step rfl (fun K0 hK => ?_)
            go_simp
            refine hK _ _ ?_
            exact ⟨true, rl, rt, rc, rd, _, sl, st, sc, sd, gL, gl, rfl, rfl, hPL.lx, (fun _ => rfl)⟩
          · have hd : rx = true := by
              have := ha _ rfl
              simp [Region.binds] at this
              simp_all
            have gx := hd
            obtain rfl := hPL.ex gx
            refine wpOp_step rfl (fun K0 hK => ?_)
            go_simp
            refine hK _ _ ?_
            exact ⟨rx, true, rt, rc, rd, _, _, st, sc, sd, _, gl, rfl, rfl, hPL.nl rfl, (fun _ => gx)⟩
          · have hc0 : rc = false := by
              cases hrc : rc with
              | false => rfl
              | true =>
                have h1 := (hPL.ec hrc).1
                subst h1
                cases hfl
            refine wpOp_step rfl (fun K0 hK => ?_)
            go_simp
            refine hK _ _ ?_
            exact ⟨rx, rl, true, rc, rd, sx, sl, _, sc, sd, gL, _, rfl, rfl, hPL.nt hc0, hDL⟩
          · have hd : rt = true := by
              have := ha _ rfl
              simp [Region.binds] at this
              simp_all
            have gt := hd
            have hc0 : rc = false := hfl
            obtain ⟨w9, hrun, h9⟩ := hPL.conv gt hc0
            obtain ⟨rfl, _⟩ := hPL.et gt
            refine wpOp_step rfl (fun K0 hK => ?_)
            go_simp
            refine hK _ _ ?_
            exact ⟨rx, rl, rt, true, rd, sx, sl, _, _, sd, gL, gl, rfl, rfl, h9, hDL⟩
          · have hd : rc = true := by
              have := ha _ rfl
              simp [Region.binds] at this
              simp_all
            have gc := hd
            have hbs := hPL.bs gc
            obtain ⟨_, rfl⟩ := hPL.ec gc
            refine wpOp_step rfl (fun K0 hK => ?_)
            go_simp
            go_at_call 18
            refine (data_any 1 _ _ [97] _ hbs (by simp)).mono ?_
            rintro e w9 ⟨u9, rfl, tv9, b9⟩
            refine hK _ _ ?_
            exact ⟨rx, rl, rt, rc, true, sx, sl, st, _, _, gL, gl, rfl, rfl, hPL.kd gc b9 tv9, hDL⟩
          · exfalso
            apply hall
            have h1 := ha _ rfl
            simp [Region.binds] at h1
            have c1 := hPL.ec
            have c2 := hPL.ed
            simp_all
          · exfalso
            have := ha _ rfl
            simp [Region.binds] at this
          · exfalso
            have := ha _ rfl
            simp [Region.binds] at this
          · exfalso
            have := ha _ rfl
            simp [Region.binds] at this
          · exfalso
            have := ha _ rfl
            simp [Region.binds] at this
          · exfalso
            have := ha _ rfl
            simp [Region.binds] at this
    case rest =>
      obtain ⟨rfl, rfl, hb6⟩ := hcut
      obtain ⟨w6, rfl⟩ : ∃ w6, w6 = wc := ⟨_, rfl⟩
      have B6 := B5.trans (hb6.mono B5.size)
      have KX6 := KX.below hb6 KX.lt
      have TX6 := TM.keepS 2 _ _ _ _ _ TX hb6.size (fun b hb hl => hb6.block b hl) fun b hb => Nat.lt_of_lt_of_le hb hb6.size
      replace hsh := hsh.below hb6
      clear KX TX hb6 B5
      have KX := KX6
      have TX := TX6
      clear KX6 TX6
      go_wp2_with fail
      refine wp_region_any (by kernel_rfl) ?_
      change wpAny _ _ _ _ _ _ _ (World.drew _)
      refine wpAny_ready (rs := [0]) (by kernel_rfl) (by simp) ?_
      refine AllReady.cons rfl (fun K0 hK => ?_) AllReady.nil
      go_simp
      refine hK _ _ ?_
      clear hK K0
      refine wpAny_ready (rs := [1]) (by kernel_rfl) (by simp) ?_
      refine AllReady.cons rfl (fun K0 hK => ?_) AllReady.nil
      go_simp
      go_at_call 11
      refine (num6_any 0 _ (by unfold I64; omega)).mono ?_
      rintro e w9 ⟨rfl, rfl⟩
      refine hK _ _ ?_
      clear hK K0
      refine wpAny_ready (rs := [2]) (by kernel_rfl) (by simp) ?_
      refine AllReady.cons rfl (fun K0 hK => ?_) AllReady.nil
      go_simp
      refine hK _ _ ?_
      clear hK K0
      refine wpAny_ready (rs := [3]) (by kernel_rfl) (by simp) ?_
      refine AllReady.cons rfl (fun K0 hK => ?_) AllReady.nil
      go_simp
      refine hK _ _ ?_
      clear hK K0
      refine wpAny_ready (rs := [4]) (by kernel_rfl) (by simp) ?_
      refine AllReady.cons rfl (fun K0 hK => ?_) AllReady.nil
      go_simp
      refine hK _ _ ?_
      clear hK K0
      refine wpAny_ready (rs := [5]) (by kernel_rfl) (by simp) ?_
      refine AllReady.cons rfl (fun K0 hK => ?_) AllReady.nil
      go_simp
      go_at_call 11
      refine (num6_any 0 _ (by unfold I64; omega)).mono ?_
      rintro e w9 ⟨rfl, rfl⟩
      refine hK _ _ ?_
      clear hK K0
      refine wpAny_ready (rs := [6]) (by kernel_rfl) (by simp) ?_
      refine AllReady.cons rfl (fun K0 hK => ?_) AllReady.nil
      go_simp
      refine hK _ _ ?_
      clear hK K0
      refine wpAny_ready (rs := [7]) (by kernel_rfl) (by simp) ?_
      refine AllReady.cons rfl (fun K0 hK => ?_) AllReady.nil
      go_simp
      refine hK _ _ ?_
      clear hK K0
      refine wpAny_ready (rs := [8]) (by kernel_rfl) (by simp) ?_
      refine AllReady.cons rfl (fun K0 hK => ?_) AllReady.nil
      go_simp
      refine hK _ _ ?_
      clear hK K0
      refine wpAny_ready (rs := [9]) (by kernel_rfl) (by simp) ?_
      refine AllReady.cons rfl (fun K0 hK => ?_) AllReady.nil
      go_simp
      refine hK _ _ ?_
      clear hK K0
      refine wpAny_ready (rs := [10]) (by kernel_rfl) (by simp) ?_
      refine AllReady.cons rfl (fun K0 hK => ?_) AllReady.nil
      go_simp
      refine hK _ _ ?_
      clear hK K0
      refine wpAny_ready (rs := [11]) (by kernel_rfl) (by simp) ?_
      refine AllReady.cons rfl (fun K0 hK => ?_) AllReady.nil
      go_simp
      refine hK _ _ ?_
      clear hK K0
      refine wpAny_ready (rs := [12]) (by kernel_rfl) (by simp) ?_
      refine AllReady.cons rfl (fun K0 hK => ?_) AllReady.nil
      go_simp
      refine hK _ _ ?_
      clear hK K0
      refine wpAny_ready (rs := [13]) (by kernel_rfl) (by simp) ?_
      refine AllReady.cons rfl (fun K0 hK => ?_) AllReady.nil
      go_simp
      refine hK _ _ ?_
      clear hK K0
      refine wpAny_ready (rs := [14]) (by kernel_rfl) (by simp) ?_
      refine AllReady.cons rfl (fun K0 hK => ?_) AllReady.nil
      go_simp
      refine hK _ _ ?_
      clear hK K0
      refine wpAny_ready (rs := [15]) (by kernel_rfl) (by simp) ?_
      refine AllReady.cons rfl (fun K0 hK => ?_) AllReady.nil
      go_simp
      refine hK _ _ ?_
      clear hK K0
      refine wpAny_inv (fun listed act w' => ∃ (rx rl rt rc rd : Bool) (sx sl st sc sd : Value) (gL gl : Nat), listed = #[true, true, true, true, true, true, true, true, true, true, true, true, true, true, true, true, rx, rt, rc, rd, rl, false, false, false] ∧ act = { tmps := #[.bool false, .pointer (some ⟨w3.heap.size, 0, none⟩), .bool true, .int .i64 0, .bool false, .int .i64 0, .slice (some ⟨w.heap.size, 0, none⟩) 1 1, .slice (some ⟨w.heap.size, 0, none⟩) 1 1, .agg #[.int .i64 i0, .int .u64 i1, .slice X2 n2 z2, .slice X3 n3 z3], .agg #[.int .i64 j0, .int .u64 j1, .slice Y2 p2 y2, .slice Y3 p3 y3], .agg #[.int .i64 k0, .int .u64 k1, .slice U2 q2 x2, .slice U3 q3 x3], u11, u12, u13, u14, u15, u16, u17, u18, u19, u20, u21, u22, u23, u24, u25, u26, u27, u28, u29, .int .i64 0, .int .i64 0, .bool true, .bool true, .int .i64 0, .int .i64 0, .bool true, .bool true, .bool true, .bool true, .bool true, .bool true, .bool false, .bool true, .bool true, .bool true, sx, st, sc, sd, sl, undef, undef], defers := [] } ∧ PL w6 (.agg #[.int .i64 k0, .int .u64 k1, .slice U2 q2 x2, .slice U3 q3 x3]) (fun _ => True) 32 1 (fun cs => cs = #[.int .u64 7]) rx true rl rt rc rd sx undef sl st sc sd gL gl w' ∧ (rl = true → True)) ?_ ?_ _ _ _ _
        ⟨false, false, false, false, false, _, _, _, _, _, 0, 0, rfl, rfl, PL.start' w6 _ _ _ _ 1, (fun h => by cases h)⟩ rfl
      · rintro fuel listed act w' ⟨rx, rl, rt, rc, rd, sx, sl, st, sc, sd, gL, gl, rfl, rfl, hPL, hDL⟩ _ hr
        exfalso
        have hnr : ∀ i : Nat, ¬ i ∈ ([] : List Nat) := by simp
        rw [← hr] at hnr
        have tx : rx = true := by
          exact not_ready2 (hnr 16) (by simp [Region.binds])
        subst tx
        have tt : rt = true := by
          exact not_ready2 (hnr 17) (by simp [Region.binds])
        subst tt
        have tl : rl = true := by
          exact not_ready2 (hnr 20) (by simp [Region.binds])
        subst tl
        have tc : rc = true := by
          exact not_ready2 (hnr 18) (by simp [Region.binds])
        subst tc
        have td : rd = true := by
          exact not_ready2 (hnr 19) (by simp [Region.binds])
        subst td
        have hF : false = true := by
          exact not_ready2 (hnr 21) (by simp [Region.binds])
        cases hF
      · rintro fuel listed act w' ⟨rx, rl, rt, rc, rd, sx, sl, st, sc, sd, gL, gl, rfl, rfl, hPL, hDL⟩ hcnt
        by_cases hall : rx = true ∧ rl = true ∧ rt = true ∧ rc = true ∧ rd = true
        · obtain ⟨rfl, rfl, rfl, rfl, rfl⟩ := hall
          obtain rfl : fuel = 2 := by
            have h3 : (3 : Nat) = fuel + 1 := hcnt
            omega
          left
          clear hcnt
          obtain rfl := hPL.ex rfl
          obtain ⟨cs, rfl, _, kL, rfl⟩ := hPL.el rfl
          obtain ⟨_, tvD⟩ := hPL.ed rfl
          have b8 := hPL.bl
          have hfo := guarded_any (fun b => b < w'.heap.size) _ _ 2 exX exD [7] (.agg #[.int .i64 k0, .int .u64 k1, .slice U2 q2 x2, .slice U3 q3 x3]) _ _ w' (fun b h => h) (hsh.below b8) ex_may ⟨_, _, _, _, rfl, TM.keepS 2 _ _ _ _ _ TX b8.size (fun b hb hl => b8.block b hl) fun b hb => Nat.lt_of_lt_of_le hb b8.size⟩ tvD (US_one kL)
          rw [ex_guard] at hfo
          clear hPL kL tvD
          refine wpAny_ready (rs := [21]) (by kernel_rfl) (by simp) ?_
          refine AllReady.cons rfl (fun K0 hK => ?_) AllReady.nil
          go_simp
          refine hfo.mono ?_
          rintro e w9 ⟨rfl, b9⟩
          have BE := b8.trans (b9.mono b8.size)
          clear hfo
          refine hK _ _ ?_
          clear hK K0
          refine wpAny_ready (rs := [22]) (by kernel_rfl) (by simp) ?_
          refine AllReady.cons rfl (fun K0 hK => ?_) AllReady.nil
          go_simp
          refine hK _ _ ?_
          clear hK K0
          refine wpAny_ready (rs := [23]) (by kernel_rfl) (by simp) ?_
          refine AllReady.cons rfl (fun K0 hK => ?_) AllReady.nil
          go_simp
          refine hK _ _ ?_
          clear hK K0
          refine wpAny_done (by kernel_rfl) ?_ _
          go_wp2_with fail
          go_ret
          exact ⟨rfl, B6.trans (BE.mono B6.size)⟩
        · right
          intro i hi
          obtain ⟨hlt9, hfl, ha⟩ := mem_ready hi
          have hi9 : i < 24 := hlt9
          have K9 := KX.below hPL.bl KX.lt
          clear hlt9 hi
          have c0 : w'.cell? ⟨w3.heap.size, 0, none⟩ = some (.int .i64 k0) := K9.cell 0
          have c1 : w'.cell? ⟨w3.heap.size, 1, none⟩ = some (.int .u64 k1) := K9.cell 1
          have c2 : w'.cell? ⟨w3.heap.size, 2, none⟩ = some (.slice U2 q2 x2) := K9.cell 2
          have c3 : w'.cell? ⟨w3.heap.size, 3, none⟩ = some (.slice U3 q3 x3) := K9.cell 3
          have hcase : i = 0 ∨ i = 1 ∨ i = 2 ∨ i = 3 ∨ i = 4 ∨ i = 5 ∨ i = 6 ∨ i = 7 ∨ i = 8 ∨ i = 9 ∨ i = 10 ∨ i = 11 ∨ i = 12 ∨ i = 13 ∨ i = 14 ∨ i = 15 ∨ i = 16 ∨ i = 17 ∨ i = 18 ∨ i = 19 ∨ i = 20 ∨ i = 21 ∨ i = 22 ∨ i = 23 := by omega
          rcases hcase with rfl | rfl | rfl | rfl | rfl | rfl | rfl | rfl | rfl | rfl | rfl | rfl | rfl | rfl | rfl | rfl | rfl | rfl | rfl | rfl | rfl | rfl | rfl | rfl
          · cases (show true = false from hfl)
          · cases (show true = false from hfl)
          · cases (show true = false from hfl)
          · cases (show true = false from hfl)
          · cases (show true = false from hfl)
          · cases (show true = false from hfl)
          · cases (show true = false from hfl)
          · cases (show true = false from hfl)
          · cases (show true = false from hfl)
          · cases (show true = false from hfl)
          · cases (show true = false from hfl)
          · cases (show true = false from hfl)
          · cases (show true = false from hfl)
          · cases (show true = false from hfl)
          · cases (show true = false from hfl)
          · cases (show true = false from hfl)
          · refine wpOp_step rfl (fun K0 hK => ?_)
            go_simp
            refine hK _ _ ?_
            exact ⟨true, rl, rt, rc, rd, _, sl, st, sc, sd, gL, gl, rfl, rfl, hPL.lx, hDL⟩
          · have hc0 : rc = false := by
              cases hrc : rc with
              | false => rfl
              | true =>
                have h1 := (hPL.ec hrc).1
                subst h1
                cases hfl
            refine wpOp_step rfl (fun K0 hK => ?_)
            go_simp
            refine hK _ _ ?_
            exact ⟨rx, rl, true, rc, rd, sx, sl, _, sc, sd, gL, _, rfl, rfl, hPL.nt hc0, hDL⟩
          · have hd : rt = true := by
              have := ha _ rfl
              simp [Region.binds] at this
              simp_all
            have gt := hd
            have hc0 : rc = false := hfl
            obtain ⟨w9, hrun, h9⟩ := hPL.conv gt hc0
            obtain ⟨rfl, _⟩ := hPL.et gt
            refine wpOp_step rfl (fun K0 hK => ?_)
            go_simp
            refine hK _ _ ?_
            exact ⟨rx, rl, rt, true, rd, sx, sl, _, _, sd, gL, gl, rfl, rfl, h9, hDL⟩
          · have hd : rc = true := by
              have := ha _ rfl
              simp [Region.binds] at this
              simp_all
            have gc := hd
            have hbs := hPL.bs gc
            obtain ⟨_, rfl⟩ := hPL.ec gc
            refine wpOp_step rfl (fun K0 hK => ?_)
            go_simp
            go_at_call 18
            refine (data_any 1 _ _ [97] _ hbs (by simp)).mono ?_
            rintro e w9 ⟨u9, rfl, tv9, b9⟩
            refine hK _ _ ?_
            exact ⟨rx, rl, rt, rc, true, sx, sl, st, _, _, gL, gl, rfl, rfl, hPL.kd gc b9 tv9, hDL⟩
          · refine wpOp_step rfl (fun K0 hK => ?_)
            go_simp
            refine hK _ _ ?_
            exact ⟨rx, true, rt, rc, rd, sx, _, st, sc, sd, _, gl, rfl, rfl, hPL.nl rfl, (fun _ => trivial)⟩
          · exfalso
            apply hall
            have h1 := ha _ rfl
            simp [Region.binds] at h1
            have c1 := hPL.ec
            have c2 := hPL.ed
            simp_all
          · exfalso
            have := ha _ rfl
            simp [Region.binds] at this
          · exfalso
            have := ha _ rfl
            simp [Region.binds] at this
end Go.Proofs.YthgaljgelngmaaaDoor
end
