/-
  TermSame: whether two terms are the same, the parts of one, what is made of two: the law's walk, where the first may not be. No condition but that the table lies as the row says.
-/
import Derived.Test.YtmepcdljobdigaaDoorTpL
import Derived.Test.YtmepcdljobdigaaDoorTpN
import Derived.Test.YtmepcdljobdigaaDoorTpR
import Derived.Test.YtmepcdljobdigaaDoorTermX
import Derived.Test.YtmepcdljobdigaaDoorTpS
import Derived.Test.YtmepcdljobdigaaDoorArgs
namespace Go.Proofs.YtmepcdljobdigaaDoor
open Go.RowKit
set_option linter.unusedVariables false

set_option maxHeartbeats 8000000 in
theorem termSame_not (S : Nat → Prop) (f : Nat) (a b : Tm f) (x y : Value) (n : Nat) (hn : n < 18446744073709551616) (w : World) (hS : ∀ b, S b → b < w.heap.size) (hsh : Shp w) (hx : TV w S f x a) (hy : TV w S f y b) (hm : mayT f a 8 = false) :
    Calls Tryd.prog 5 #[x, y, .int .u64 n] w fun e w' => e = .returned (.bool true) ∧ Below w.heap.size w w' := by
  have i64_60 : I64 60 := by unfold I64; omega
  obtain ⟨_, _, _, _, rfl, tma⟩ := hx
  obtain ⟨a0, a1, A2, n2, c2, A3, n3, c3, rfl, rfl, rfl, rfl⟩ := tm_form tma
  obtain ⟨_, _, _, _, rfl, tmb⟩ := hy
  obtain ⟨b0, b1, B2, m2, d2, B3, m3, d3, rfl, rfl, rfl, rfl⟩ := tm_form tmb
  have ta : TV ((w.alloc (.cells #[.int .i64 a0, .int .u64 a1, .slice A2 n2 c2, .slice A3 n3 c3] 26)).alloc (.cells #[.int .i64 b0, .int .u64 b1, .slice B2 m2 d2, .slice B3 m3 d3] 26)) S f (.agg #[.int .i64 a0, .int .u64 a1, .slice A2 n2 c2, .slice A3 n3 c3]) a := (TV.alloc ⟨_, _, _, _, rfl, tma⟩ _).alloc _
  have tb : TV ((w.alloc (.cells #[.int .i64 a0, .int .u64 a1, .slice A2 n2 c2, .slice A3 n3 c3] 26)).alloc (.cells #[.int .i64 b0, .int .u64 b1, .slice B2 m2 d2, .slice B3 m3 d3] 26)) S f (.agg #[.int .i64 b0, .int .u64 b1, .slice B2 m2 d2, .slice B3 m3 d3]) b := (TV.alloc ⟨_, _, _, _, rfl, tmb⟩ _).alloc _
  obtain ⟨KA, KB1, B⟩ := two_boxes w #[.int .i64 a0, .int .u64 a1, .slice A2 n2 c2, .slice A3 n3 c3] #[.int .i64 b0, .int .u64 b1, .slice B2 m2 d2, .slice B3 m3 d3] 26
  replace hsh := (hsh.alloc (.cells #[.int .i64 a0, .int .u64 a1, .slice A2 n2 c2, .slice A3 n3 c3] 26)).alloc (.cells #[.int .i64 b0, .int .u64 b1, .slice B2 m2 d2, .slice B3 m3 d3] 26)
  replace hS := fun b hb => Nat.lt_of_lt_of_le (hS b hb) B.size
  clear tma tmb
  have hsm := small_few S f a _ 60 _ i64_60 (by omega) ta
  generalize hw1 : (w.alloc (.cells #[.int .i64 a0, .int .u64 a1, .slice A2 n2 c2, .slice A3 n3 c3] 26)).alloc (.cells #[.int .i64 b0, .int .u64 b1, .slice B2 m2 d2, .slice B3 m3 d3] 26) = w1 at ta tb KA KB1 B hsh hS
  have HW1 := Lib.hid hw1
  clear hw1
  go_enter Tryd.func5, Tryd.ntmps5
  go_wp2_with fail
  refine hsm.mono ?_
  rintro e w5 ⟨bb, rfl, hfa, b5⟩
  clear hsm
  rw [HW1.out] at b5
  have HFA := Lib.hid hfa
  clear hfa HW1
  replace KA := KA.below b5 KA.lt
  replace KB1 := KB1.below b5 KB1.lt
  replace ta := ta.below' b5
  replace tb := tb.below' b5
  replace hsh := hsh.below b5
  replace hS := fun b hb => Nat.lt_of_lt_of_le (hS b hb) b5.size
  replace B := B.trans (b5.mono B.size)
  clear b5
  have x0 : w5.cell? ⟨w.heap.size, 0, none⟩ = some (.int .i64 a0) := KA.cell 0
  have x1 : w5.cell? ⟨w.heap.size, 1, none⟩ = some (.int .u64 a1) := KA.cell 1
  have x2 : w5.cell? ⟨w.heap.size, 2, none⟩ = some (.slice A2 n2 c2) := KA.cell 2
  have x3 : w5.cell? ⟨w.heap.size, 3, none⟩ = some (.slice A3 n3 c3) := KA.cell 3
  have y0 : w5.cell? ⟨w.heap.size + 1, 0, none⟩ = some (.int .i64 b0) := KB1.cell 0
  have y1 : w5.cell? ⟨w.heap.size + 1, 1, none⟩ = some (.int .u64 b1) := KB1.cell 1
  have y2 : w5.cell? ⟨w.heap.size + 1, 2, none⟩ = some (.slice B2 m2 d2) := KB1.cell 2
  have y3 : w5.cell? ⟨w.heap.size + 1, 3, none⟩ = some (.slice B3 m3 d3) := KB1.cell 3
  cases bb with
  | false =>
    clear x0 x1 x2 x3 y0 y1 y2 y3
    clear HFA
    go_wp2_with fail
    refine (live_any _ hsh).mono ?_
    rintro e w6 ⟨rfl, b6⟩
    replace B := B.trans (b6.mono B.size)
    clear b6
    go_wp2_with fail
    go_ret
    exact ⟨rfl, B⟩
  | true =>
    have hfa := HFA.out rfl
    clear HFA
    have hsm := small_few S f b _ 60 _ i64_60 (by omega) tb
    go_wp2_with fail
    refine hsm.mono ?_
    clear hsm
    rintro e w6 ⟨bb, rfl, hfb, b5⟩
    have HFB := Lib.hid hfb
    clear hfb
    clear x0 x1 x2 x3 y0 y1 y2 y3
    replace KA := KA.below b5 KA.lt
    replace KB1 := KB1.below b5 KB1.lt
    replace ta := ta.below' b5
    replace tb := tb.below' b5
    replace hsh := hsh.below b5
    replace hS := fun b hb => Nat.lt_of_lt_of_le (hS b hb) b5.size
    replace B := B.trans (b5.mono B.size)
    clear b5
    have x0 : w6.cell? ⟨w.heap.size, 0, none⟩ = some (.int .i64 a0) := KA.cell 0
    have x1 : w6.cell? ⟨w.heap.size, 1, none⟩ = some (.int .u64 a1) := KA.cell 1
    have x2 : w6.cell? ⟨w.heap.size, 2, none⟩ = some (.slice A2 n2 c2) := KA.cell 2
    have x3 : w6.cell? ⟨w.heap.size, 3, none⟩ = some (.slice A3 n3 c3) := KA.cell 3
    have y0 : w6.cell? ⟨w.heap.size + 1, 0, none⟩ = some (.int .i64 b0) := KB1.cell 0
    have y1 : w6.cell? ⟨w.heap.size + 1, 1, none⟩ = some (.int .u64 b1) := KB1.cell 1
    have y2 : w6.cell? ⟨w.heap.size + 1, 2, none⟩ = some (.slice B2 m2 d2) := KB1.cell 2
    have y3 : w6.cell? ⟨w.heap.size + 1, 3, none⟩ = some (.slice B3 m3 d3) := KB1.cell 3
    cases bb with
    | false =>
      clear x0 x1 x2 x3 y0 y1 y2 y3
      clear HFB
      go_wp2_with fail
      refine (live_any _ hsh).mono ?_
      rintro e w7 ⟨rfl, b6⟩
      replace B := B.trans (b6.mono B.size)
      clear b6
      go_wp2_with fail
      go_ret
      exact ⟨rfl, B⟩
    | true =>
      have hfb := HFB.out rfl
      clear HFB
      have hmy := rMay_any S f a _ w6 ta
      rw [hm] at hmy
      go_wp2_with fail
      refine hmy.mono ?_
      clear hmy
      rintro e w7 ⟨rfl, b5⟩
      clear x0 x1 x2 x3 y0 y1 y2 y3
      replace KA := KA.below b5 KA.lt
      replace KB1 := KB1.below b5 KB1.lt
      replace ta := ta.below' b5
      replace tb := tb.below' b5
      replace hsh := hsh.below b5
      replace hS := fun b hb => Nat.lt_of_lt_of_le (hS b hb) b5.size
      replace B := B.trans (b5.mono B.size)
      clear b5
      have x0 : w7.cell? ⟨w.heap.size, 0, none⟩ = some (.int .i64 a0) := KA.cell 0
      have x1 : w7.cell? ⟨w.heap.size, 1, none⟩ = some (.int .u64 a1) := KA.cell 1
      have x2 : w7.cell? ⟨w.heap.size, 2, none⟩ = some (.slice A2 n2 c2) := KA.cell 2
      have x3 : w7.cell? ⟨w.heap.size, 3, none⟩ = some (.slice A3 n3 c3) := KA.cell 3
      have y0 : w7.cell? ⟨w.heap.size + 1, 0, none⟩ = some (.int .i64 b0) := KB1.cell 0
      have y1 : w7.cell? ⟨w.heap.size + 1, 1, none⟩ = some (.int .u64 b1) := KB1.cell 1
      have y2 : w7.cell? ⟨w.heap.size + 1, 2, none⟩ = some (.slice B2 m2 d2) := KB1.cell 2
      have y3 : w7.cell? ⟨w.heap.size + 1, 3, none⟩ = some (.slice B3 m3 d3) := KB1.cell 3
      have KW : KS w7 (fun b => b < w7.heap.size) (TM w7 (fun b => b < w7.heap.size) f) (.slice none 0 0) ([] : List (Tm f)) := ⟨none, 0, rfl, by simp, by simp [maxLen], fun _ => rfl, fun h => absurd h (by simp)⟩
      have hRL : RL (fun (u : UT) (x : Tm f) => sim u.1 f u.2 x) (partsOf f a) [] := by unfold partsOf; rw [if_neg (by rw [hm]; simp)]; exact trivial
      generalize ([] : List (Tm f)) = wl at *
      clear hm
      go_wp2_with fail
      obtain ⟨TP, hTP⟩ : ∃ TP : Tm (f + 1), TP = (⟨4, 0, [], [a, b]⟩ : Nd (Tm f)) := ⟨_, rfl⟩
      obtain ⟨TX, hTX⟩ : ∃ TX : Tm (f + 1), TX = (⟨5, n, [], [a, b]⟩ : Nd (Tm f)) := ⟨_, rfl⟩
      obtain ⟨TH, hTH⟩ : ∃ TH : Tm (f + 1), TH = (⟨6, 0, [], [a]⟩ : Nd (Tm f)) := ⟨_, rfl⟩
      have HTP := Lib.hid hTP
      have HTX := Lib.hid hTX
      have HTH := Lib.hid hTH
      clear hTP hTX hTH
      have hcp := fun (w5 : World) (p : Ask w5 f (Value.agg #[.int .i64 a0, .int .u64 a1, .slice A2 n2 c2, .slice A3 n3 c3]) a) (q : Ask w5 f (Value.agg #[.int .i64 b0, .int .u64 b1, .slice B2 m2 d2, .slice B3 m3 d3]) b) => pair_any f a b _ _ w5 p q
      have hcx := fun (w5 : World) (p : Ask w5 f (Value.agg #[.int .i64 a0, .int .u64 a1, .slice A2 n2 c2, .slice A3 n3 c3]) a) (q : Ask w5 f (Value.agg #[.int .i64 b0, .int .u64 b1, .slice B2 m2 d2, .slice B3 m3 d3]) b) => enc_any f a b _ _ w5 n hn p q
      have hch := fun (w5 : World) (p : Ask w5 f (Value.agg #[.int .i64 a0, .int .u64 a1, .slice A2 n2 c2, .slice A3 n3 c3]) a) => hash_any f a _ w5 p
      rw [← HTP.out] at hcp
      rw [← HTX.out] at hcx
      rw [← HTH.out] at hch
      have aska : Ask w7 f (Value.agg #[.int .i64 a0, .int .u64 a1, .slice A2 n2 c2, .slice A3 n3 c3]) a := ⟨hfa, S, hS, ta⟩
      have askb : Ask w7 f (Value.agg #[.int .i64 b0, .int .u64 b1, .slice B2 m2 d2, .slice B3 m3 d3]) b := ⟨hfb, S, hS, tb⟩
      refine wp_region_any (by kernel_rfl) ?_
      change wpAny _ _ _ _ _ _ _ (World.drew _)
      have BL0 : Below w7.heap.size w7 w7.drew := Below_drawn (Below.refl _ _) 1
      refine wpAny_inv (fun listed act w' => ∃ (r0 r1 r2 r3 r4 r5 r6 r7 r8 r9 r10 r11 : Bool) (u24 u25 u26 u27 u28 u29 u30 u31 u32 u8 u9 u10 : Value) (gp gx gh : Nat), listed = #[r0, r1, r2, r3, r4, r5, r6, r7, r8, r9, r10, r11, false, false, false] ∧ act = { tmps := #[.agg #[.int .i64 a0, .int .u64 a1, .slice A2 n2 c2, .slice A3 n3 c3], .agg #[.int .i64 b0, .int .u64 b1, .slice B2 m2 d2, .slice B3 m3 d3], .int .u64 n, .pointer (some ⟨w.heap.size, 0, none⟩), .pointer (some ⟨w.heap.size + 1, 0, none⟩), undef, .bool false, .slice none 0 0, u8, u9, u10, .agg #[.int .i64 a0, .int .u64 a1, .slice A2 n2 c2, .slice A3 n3 c3], .bool true, .bool false, .bool false, .agg #[.int .i64 b0, .int .u64 b1, .slice B2 m2 d2, .slice B3 m3 d3], .bool true, .bool false, .bool false, undef, .agg #[.int .i64 a0, .int .u64 a1, .slice A2 n2 c2, .slice A3 n3 c3], .bool false, undef, undef, u24, u25, u26, u27, u28, u29, u30, u31, u32, undef, undef, undef, undef, undef, undef, undef, undef, undef, undef, undef, undef, undef, undef, undef, undef, undef, undef, undef, undef, undef, undef, undef, undef, undef, undef, undef, undef, undef, undef, undef, undef, undef, undef, undef, undef, undef, undef, undef, undef, undef, undef, undef, undef, undef, undef, undef, undef, undef, undef, undef, undef, undef, undef, undef, undef, undef, undef, undef, undef, undef, undef, undef, undef, undef, undef, undef, undef, undef, undef], defers := [] } ∧ PA w7 (f + 1) TP TX TH (Value.agg #[.int .i64 a0, .int .u64 a1, .slice A2 n2 c2, .slice A3 n3 c3]) (Value.agg #[.int .i64 b0, .int .u64 b1, .slice B2 m2 d2, .slice B3 m3 d3]) (.int .u64 n) r0 r1 r2 r3 r4 r5 r6 r7 r8 r9 r10 r11 u24 u25 u26 u27 u28 u29 u30 u31 u32 u8 u9 u10 gp gx gh w') ?_ ?_ _ _ _ _
        ⟨false, false, false, false, false, false, false, false, false, false, false, false, undef, undef, undef, undef, undef, undef, undef, undef, undef, undef, undef, undef, 0, 0, 0, rfl, rfl, ⟨BL0, (fun k => by cases k), (fun k => by cases k), (fun k => by cases k), (fun k => by cases k), (fun k => by cases k), (fun k => by cases k), (fun k => by cases k), (fun k => by cases k), (fun k => by cases k), (fun k => by cases k), (fun k => by cases k), (fun k => by cases k), (fun k => by cases k), (fun k => by cases k), (fun k => by cases k), (fun k => by cases k), (fun k => by cases k), (fun k => by cases k)⟩⟩ (by rfl)
      · rintro fuel listed act w' ⟨r0, r1, r2, r3, r4, r5, r6, r7, r8, r9, r10, r11, u24, u25, u26, u27, u28, u29, u30, u31, u32, u8, u9, u10, gp, gx, gh, rfl, rfl, hPA⟩ _ hr
        exfalso
        have hnr : ∀ i : Nat, ¬ i ∈ ([] : List Nat) := by simp
        rw [← hr] at hnr
        have t0 : r0 = true := by
          exact not_ready2 (hnr 0) (by simp [Region.binds])
        subst t0
        have t1 : r1 = true := by
          exact not_ready2 (hnr 1) (by simp [Region.binds])
        subst t1
        have t3 : r3 = true := by
          exact not_ready2 (hnr 3) (by simp [Region.binds])
        subst t3
        have t4 : r4 = true := by
          exact not_ready2 (hnr 4) (by simp [Region.binds])
        subst t4
        have t5 : r5 = true := by
          exact not_ready2 (hnr 5) (by simp [Region.binds])
        subst t5
        have t7 : r7 = true := by
          exact not_ready2 (hnr 7) (by simp [Region.binds])
        subst t7
        have t9 : r9 = true := by
          exact not_ready2 (hnr 9) (by simp [Region.binds])
        subst t9
        have t10 : r10 = true := by
          exact not_ready2 (hnr 10) (by simp [Region.binds])
        subst t10
        have t11 : r11 = true := by
          exact not_ready2 (hnr 11) (by simp [Region.binds])
        subst t11
        have t2 : r2 = true := by
          exact not_ready2 (hnr 2) (by simp [Region.binds])
        subst t2
        have t6 : r6 = true := by
          exact not_ready2 (hnr 6) (by simp [Region.binds])
        subst t6
        have t8 : r8 = true := by
          exact not_ready2 (hnr 8) (by simp [Region.binds])
        subst t8
        have h12 : false = true := by
          exact not_ready2 (hnr 12) (by simp [Region.binds])
        cases h12
      · rintro fuel listed act w' ⟨r0, r1, r2, r3, r4, r5, r6, r7, r8, r9, r10, r11, u24, u25, u26, u27, u28, u29, u30, u31, u32, u8, u9, u10, gp, gx, gh, rfl, rfl, hPA⟩ hcnt
        by_cases hall : r8 = true ∧ r9 = true ∧ r10 = true ∧ r11 = true
        · obtain ⟨rfl, rfl, rfl, rfl⟩ := hall
          obtain ⟨rfl, rfl⟩ := hPA.c8 rfl
          obtain ⟨rfl, rfl, rfl, rfl⟩ := hPA.c6 rfl
          obtain ⟨rfl, rfl⟩ := hPA.c2 rfl
          obtain rfl : fuel = 2 := by
            have h3 : (3 : Nat) = fuel + 1 := hcnt
            omega
          left
          obtain ⟨_, _, _, _, _, _, rfl, tmp⟩ := hPA.p rfl
          obtain ⟨p0, p1, P2, pn2, pc2, P3, pn3, pc3, rfl, rfl, rfl, rfl⟩ := tm_form tmp
          obtain ⟨_, _, _, _, _, _, rfl, tmx⟩ := hPA.x rfl
          obtain ⟨e0, e1, E2, en2, ec2, E3, en3, ec3, rfl, rfl, rfl, rfl⟩ := tm_form tmx
          obtain ⟨_, _, _, _, _, _, rfl, tmh⟩ := hPA.h rfl
          obtain ⟨h0, h1, H2, hn2, hc2, H3, hn3, hc3, rfl, rfl, rfl, rfl⟩ := tm_form tmh
          obtain ⟨rfl, lp, kp⟩ := hPA.vp rfl
          obtain ⟨rfl, lx, kx⟩ := hPA.vx rfl
          obtain ⟨rfl, lh, kh⟩ := hPA.vh rfl
          have d1 : ¬ gp = gx := hPA.d1 rfl rfl
          have d2 : ¬ gp = gh := hPA.d2 rfl rfl
          have d3 : ¬ gx = gh := hPA.d3 rfl rfl
          have d1' : ¬ gx = gp := fun e => d1 e.symm
          have d2' : ¬ gh = gp := fun e => d2 e.symm
          have d3' : ¬ gh = gx := fun e => d3 e.symm
          have qp0 : w'.cell? ⟨gp, 0, none⟩ = some (.int .i64 0) := kp.cell 0
          have fp0 := kp.free 0
          have qp1 : w'.cell? ⟨gp, 1, none⟩ = some (.int .u64 0) := kp.cell 1
          have fp1 := kp.free 1
          have qp2 : w'.cell? ⟨gp, 2, none⟩ = some (.slice none 0 0) := kp.cell 2
          have fp2 := kp.free 2
          have qp3 : w'.cell? ⟨gp, 3, none⟩ = some (.slice none 0 0) := kp.cell 3
          have fp3 := kp.free 3
          have qe0 : w'.cell? ⟨gx, 0, none⟩ = some (.int .i64 0) := kx.cell 0
          have fe0 := kx.free 0
          have qe1 : w'.cell? ⟨gx, 1, none⟩ = some (.int .u64 0) := kx.cell 1
          have fe1 := kx.free 1
          have qe2 : w'.cell? ⟨gx, 2, none⟩ = some (.slice none 0 0) := kx.cell 2
          have fe2 := kx.free 2
          have qe3 : w'.cell? ⟨gx, 3, none⟩ = some (.slice none 0 0) := kx.cell 3
          have fe3 := kx.free 3
          have qh0 : w'.cell? ⟨gh, 0, none⟩ = some (.int .i64 0) := kh.cell 0
          have fh0 := kh.free 0
          have qh1 : w'.cell? ⟨gh, 1, none⟩ = some (.int .u64 0) := kh.cell 1
          have fh1 := kh.free 1
          have qh2 : w'.cell? ⟨gh, 2, none⟩ = some (.slice none 0 0) := kh.cell 2
          have fh2 := kh.free 2
          have qh3 : w'.cell? ⟨gh, 3, none⟩ = some (.slice none 0 0) := kh.cell 3
          have fh3 := kh.free 3
          have hfin := hPA.fin rfl
          have hcnt' := hcnt
          clear hPA tmp tmx tmh hcnt hcp hcx hch BL0 x0 x1 x2 x3 y0 y1 y2 y3
          refine wpAny_ready (rs := [12]) (by kernel_rfl) (by simp) ?_
          refine AllReady.cons rfl (fun K hK => ?_) AllReady.nil
          go_simp
          refine hK _ _ ?_
          clear hK K
          refine wpAny_ready (rs := [13]) (by kernel_rfl) (by simp) ?_
          refine AllReady.cons rfl (fun K hK => ?_) AllReady.nil
          go_simp
          refine hK _ _ ?_
          clear hK K
          refine wpAny_ready (rs := [14]) (by kernel_rfl) (by simp) ?_
          refine AllReady.cons rfl (fun K hK => ?_) AllReady.nil
          go_simp
          refine hK _ _ ?_
          clear hK K
          refine wpAny_done (by kernel_rfl) ?_ _
          clear qp0 qp1 qp2 qp3 fp0 fp1 fp2 fp3 qe0 qe1 qe2 qe3 fe0 fe1 fe2 fe3 qh0 qh1 qh2 qh3 fh0 fh1 fh2 fh3 d1 d2 d3 d1' d2' d3' kp kx kh
          obtain ⟨w9, hw9⟩ : ∃ w9, w9 = set4 (set4 (set4 w' gp (.int .i64 p0) (.int .u64 p1) (.slice P2 pn2 pc2) (.slice P3 pn3 pc3)) gx (.int .i64 e0) (.int .u64 e1) (.slice E2 en2 ec2) (.slice E3 en3 ec3)) gh (.int .i64 h0) (.int .u64 h1) (.slice H2 hn2 hc2) (.slice H3 hn3 hc3) := ⟨_, rfl⟩
          rw [← hw9] at hfin
          obtain ⟨BL, kp, kx, kh, tp, tx, th⟩ := hfin
          dsimp only [set4] at hw9
          rw [← hw9]
          clear hw9
          replace KA := KA.below BL KA.lt
          replace KB1 := KB1.below BL KB1.lt
          replace ta := ta.below' BL
          replace tb := tb.below' BL
          replace hsh := hsh.below BL
          replace hS := fun b hb => Nat.lt_of_lt_of_le (hS b hb) BL.size
          replace KW := KT.keep KW BL
          replace B := B.trans (BL.mono B.size)
          clear BL aska askb hcnt'
          have sp := kp.lt
          have sx := kx.lt
          have sh := kh.lt
          have sA := KA.lt
          have sB := KB1.lt
          have x0 : w9.cell? ⟨w.heap.size, 0, none⟩ = some (.int .i64 a0) := KA.cell 0
          have x1 : w9.cell? ⟨w.heap.size, 1, none⟩ = some (.int .u64 a1) := KA.cell 1
          have x2 : w9.cell? ⟨w.heap.size, 2, none⟩ = some (.slice A2 n2 c2) := KA.cell 2
          have x3 : w9.cell? ⟨w.heap.size, 3, none⟩ = some (.slice A3 n3 c3) := KA.cell 3
          have y0 : w9.cell? ⟨w.heap.size + 1, 0, none⟩ = some (.int .i64 b0) := KB1.cell 0
          have y1 : w9.cell? ⟨w.heap.size + 1, 1, none⟩ = some (.int .u64 b1) := KB1.cell 1
          have y2 : w9.cell? ⟨w.heap.size + 1, 2, none⟩ = some (.slice B2 m2 d2) := KB1.cell 2
          have y3 : w9.cell? ⟨w.heap.size + 1, 3, none⟩ = some (.slice B3 m3 d3) := KB1.cell 3
          have vp0 : w9.cell? ⟨gp, 0, none⟩ = some (.int .i64 p0) := kp.cell 0
          have vp1 : w9.cell? ⟨gp, 1, none⟩ = some (.int .u64 p1) := kp.cell 1
          have vp2 : w9.cell? ⟨gp, 2, none⟩ = some (.slice P2 pn2 pc2) := kp.cell 2
          have vp3 : w9.cell? ⟨gp, 3, none⟩ = some (.slice P3 pn3 pc3) := kp.cell 3
          have l2 := lit_two hS ta tb (k := 4) (n := 0) (by unfold I64; omega) (by omega)
          have hs1 := rsame_any _ _ (f + 1) TP TP _ _ _ (tp.alloc (.cells #[.int .i64 a0, .int .u64 a1, .slice A2 n2 c2, .slice A3 n3 c3, .int .i64 b0, .int .u64 b1, .slice B2 m2 d2, .slice B3 m3 d3] 26)) (by rw [HTP.out]; exact l2)
          rw [(sameT_iff (f + 1) TP TP).2 rfl] at hs1
          clear l2
          go_wp2_with fail
          refine hs1.mono ?_
          clear hs1
          rintro e wa ⟨rfl, b5⟩
          have b6 : Below w9.heap.size w9 wa := ((Below.refl _ _).alloc (Nat.le_refl _) (.cells #[.int .i64 a0, .int .u64 a1, .slice A2 n2 c2, .slice A3 n3 c3, .int .i64 b0, .int .u64 b1, .slice B2 m2 d2, .slice B3 m3 d3] 26)).trans (b5.mono (by simp))
          clear b5 vp0 vp1 vp2 vp3 x0 x1 x2 x3 y0 y1 y2 y3 tp kp sp
          replace KA := KA.below b6 KA.lt
          replace KB1 := KB1.below b6 KB1.lt
          replace ta := ta.below' b6
          replace tb := tb.below' b6
          replace hsh := hsh.below b6
          replace hS := fun b hb => Nat.lt_of_lt_of_le (hS b hb) b6.size
          replace KW := KT.keep KW b6
          replace B := B.trans (b6.mono B.size)
          replace kx := kx.below b6 sx
          replace kh := kh.below b6 sh
          replace tx := tx.below' b6
          replace th := th.below' b6
          clear b6 sx sh sA sB
          have sx := kx.lt
          have sA := KA.lt
          have sB := KB1.lt
          have x0 : wa.cell? ⟨w.heap.size, 0, none⟩ = some (.int .i64 a0) := KA.cell 0
          have x1 : wa.cell? ⟨w.heap.size, 1, none⟩ = some (.int .u64 a1) := KA.cell 1
          have x2 : wa.cell? ⟨w.heap.size, 2, none⟩ = some (.slice A2 n2 c2) := KA.cell 2
          have x3 : wa.cell? ⟨w.heap.size, 3, none⟩ = some (.slice A3 n3 c3) := KA.cell 3
          have y0 : wa.cell? ⟨w.heap.size + 1, 0, none⟩ = some (.int .i64 b0) := KB1.cell 0
          have y1 : wa.cell? ⟨w.heap.size + 1, 1, none⟩ = some (.int .u64 b1) := KB1.cell 1
          have y2 : wa.cell? ⟨w.heap.size + 1, 2, none⟩ = some (.slice B2 m2 d2) := KB1.cell 2
          have y3 : wa.cell? ⟨w.heap.size + 1, 3, none⟩ = some (.slice B3 m3 d3) := KB1.cell 3
          have vp0 : wa.cell? ⟨gx, 0, none⟩ = some (.int .i64 e0) := kx.cell 0
          have vp1 : wa.cell? ⟨gx, 1, none⟩ = some (.int .u64 e1) := kx.cell 1
          have vp2 : wa.cell? ⟨gx, 2, none⟩ = some (.slice E2 en2 ec2) := kx.cell 2
          have vp3 : wa.cell? ⟨gx, 3, none⟩ = some (.slice E3 en3 ec3) := kx.cell 3
          have l2 := lit_two hS ta tb (k := 5) (n := n) (by unfold I64; omega) hn
          have hs1 := rsame_any _ _ (f + 1) TX TX _ _ _ (tx.alloc (.cells #[.int .i64 a0, .int .u64 a1, .slice A2 n2 c2, .slice A3 n3 c3, .int .i64 b0, .int .u64 b1, .slice B2 m2 d2, .slice B3 m3 d3] 26)) (by rw [HTX.out]; exact l2)
          rw [(sameT_iff (f + 1) TX TX).2 rfl] at hs1
          clear l2
          go_wp2_with fail
          refine hs1.mono ?_
          clear hs1
          rintro e wb ⟨rfl, b5⟩
          have b6 : Below wa.heap.size wa wb := ((Below.refl _ _).alloc (Nat.le_refl _) (.cells #[.int .i64 a0, .int .u64 a1, .slice A2 n2 c2, .slice A3 n3 c3, .int .i64 b0, .int .u64 b1, .slice B2 m2 d2, .slice B3 m3 d3] 26)).trans (b5.mono (by simp))
          clear b5 vp0 vp1 vp2 vp3 x0 x1 x2 x3 y0 y1 y2 y3 tx kx sx
          replace KA := KA.below b6 KA.lt
          replace KB1 := KB1.below b6 KB1.lt
          replace ta := ta.below' b6
          replace tb := tb.below' b6
          replace hsh := hsh.below b6
          replace hS := fun b hb => Nat.lt_of_lt_of_le (hS b hb) b6.size
          replace KW := KT.keep KW b6
          replace B := B.trans (b6.mono B.size)
          replace kh := kh.below b6 kh.lt
          replace th := th.below' b6
          clear b6 sA sB
          have sh := kh.lt
          have sA := KA.lt
          have sB := KB1.lt
          have x0 : wb.cell? ⟨w.heap.size, 0, none⟩ = some (.int .i64 a0) := KA.cell 0
          have x1 : wb.cell? ⟨w.heap.size, 1, none⟩ = some (.int .u64 a1) := KA.cell 1
          have x2 : wb.cell? ⟨w.heap.size, 2, none⟩ = some (.slice A2 n2 c2) := KA.cell 2
          have x3 : wb.cell? ⟨w.heap.size, 3, none⟩ = some (.slice A3 n3 c3) := KA.cell 3
          have y0 : wb.cell? ⟨w.heap.size + 1, 0, none⟩ = some (.int .i64 b0) := KB1.cell 0
          have y1 : wb.cell? ⟨w.heap.size + 1, 1, none⟩ = some (.int .u64 b1) := KB1.cell 1
          have y2 : wb.cell? ⟨w.heap.size + 1, 2, none⟩ = some (.slice B2 m2 d2) := KB1.cell 2
          have y3 : wb.cell? ⟨w.heap.size + 1, 3, none⟩ = some (.slice B3 m3 d3) := KB1.cell 3
          have vp0 : wb.cell? ⟨gh, 0, none⟩ = some (.int .i64 h0) := kh.cell 0
          have vp1 : wb.cell? ⟨gh, 1, none⟩ = some (.int .u64 h1) := kh.cell 1
          have vp2 : wb.cell? ⟨gh, 2, none⟩ = some (.slice H2 hn2 hc2) := kh.cell 2
          have vp3 : wb.cell? ⟨gh, 3, none⟩ = some (.slice H3 hn3 hc3) := kh.cell 3
          have l2 := lit_one' hS ta (k := 6) (n := 0) (by unfold I64; omega) (by omega)
          have hs1 := rsame_any _ _ (f + 1) TH TH _ _ _ (th.alloc (.cells #[.int .i64 a0, .int .u64 a1, .slice A2 n2 c2, .slice A3 n3 c3] 26)) (by rw [HTH.out]; exact l2)
          rw [(sameT_iff (f + 1) TH TH).2 rfl] at hs1
          clear l2
          go_wp2_with fail
          refine hs1.mono ?_
          clear hs1
          rintro e wc ⟨rfl, b5⟩
          have b6 : Below wb.heap.size wb wc := ((Below.refl _ _).alloc (Nat.le_refl _) (.cells #[.int .i64 a0, .int .u64 a1, .slice A2 n2 c2, .slice A3 n3 c3] 26)).trans (b5.mono (by simp))
          clear b5 vp0 vp1 vp2 vp3 x0 x1 x2 x3 y0 y1 y2 y3 th kh sh
          replace KA := KA.below b6 KA.lt
          replace KB1 := KB1.below b6 KB1.lt
          replace ta := ta.below' b6
          replace tb := tb.below' b6
          replace hsh := hsh.below b6
          replace hS := fun b hb => Nat.lt_of_lt_of_le (hS b hb) b6.size
          replace KW := KT.keep KW b6
          replace B := B.trans (b6.mono B.size)
          clear b6 sA sB HTP HTX HTH
          obtain ⟨_, _, _, _, eqa, tma⟩ := id ta
          injection eqa with eqa
          simp only [Array.mk.injEq, List.cons.injEq, and_true] at eqa
          obtain ⟨rfl, rfl, rfl, rfl⟩ := eqa
          obtain ⟨dd, hdd, hdl⟩ := tm_data tma hfa
          clear tma
          have x2 : wc.cell? ⟨w.heap.size, 2, none⟩ = some (.slice A2 n2 c2) := KA.cell 2
          have hdl' : dd.length ≤ 140737488355328 := by omega
          have hI1 : I64 1 := by unfold I64; omega
          have hI2 : I64 2 := by unfold I64; omega
          have hI3 : I64 3 := by unfold I64; omega
          have hsN : ∀ (w : World) (S : Nat → Prop) (u : Value), TV w S (f + 1) u (⟨1, n, [], []⟩ : Nd (Tm f)) → Calls Tryd.prog 17 #[u, .agg #[.int .i64 1, .int .u64 n, .slice none 0 0, .slice none 0 0]] w fun e w' => e = .returned (.bool true) ∧ Below w.heap.size w w' := fun w S u h => rsame_yes S S (f + 1) _ _ _ w h (⟨_, _, _, _, rfl, TM.plain hI1 hn⟩ : TV w S (f + 1) (.agg #[.int .i64 1, .int .u64 n, .slice none 0 0, .slice none 0 0]) (⟨1, n, [], []⟩ : Nd (Tm f)))
          have hsK : ∀ (w : World) (S : Nat → Prop) (u : Value), TV w S (f + 1) u (⟨2, n, [], []⟩ : Nd (Tm f)) → Calls Tryd.prog 17 #[u, .agg #[.int .i64 2, .int .u64 n, .slice none 0 0, .slice none 0 0]] w fun e w' => e = .returned (.bool true) ∧ Below w.heap.size w w' := fun w S u h => rsame_yes S S (f + 1) _ _ _ w h (⟨_, _, _, _, rfl, TM.plain hI2 hn⟩ : TV w S (f + 1) (.agg #[.int .i64 2, .int .u64 n, .slice none 0 0, .slice none 0 0]) (⟨2, n, [], []⟩ : Nd (Tm f)))
          have hsD : ∀ (w : World) (S S' : Nat → Prop) (u : Value), TV w S (f + 1) u (⟨3, 0, dd, []⟩ : Nd (Tm f)) → BS w S' (.slice A2 n2 c2) dd → Calls Tryd.prog 17 #[u, .agg #[.int .i64 3, .int .u64 0, .slice A2 n2 c2, .slice none 0 0]] w fun e w' => e = .returned (.bool true) ∧ Below w.heap.size w w' := fun w S S' u h hb => rsame_yes S S' (f + 1) _ _ _ w h (⟨_, _, _, _, rfl, rfl, hI3, rfl, by show (0 : Nat) < _; omega, hb, ⟨none, 0, rfl, by simp, by simp [maxLen], fun _ => rfl, fun h => absurd h (by simp)⟩⟩ : TV w S' (f + 1) (.agg #[.int .i64 3, .int .u64 0, .slice A2 n2 c2, .slice none 0 0]) (⟨3, 0, dd, []⟩ : Nd (Tm f)))
          have bd : Below wc.heap.size wc wc.drew := Below_drawn (Below.refl _ _) 1
          replace KA := KA.below bd KA.lt
          replace KB1 := KB1.below bd KB1.lt
          replace ta := ta.below' bd
          replace tb := tb.below' bd
          replace hsh := hsh.below bd
          replace hS := fun b hb => Nat.lt_of_lt_of_le (hS b hb) bd.size
          replace KW := KT.keep KW bd
          replace B := B.trans (bd.mono B.size)
          replace hdd := hdd.below' bd
          go_wp2_with fail
          go_region_law
            (first
              | (go_simp; go_at_call 22; refine (name_any f n _ hn).mono ?_; rintro e w5 ⟨u5, rfl, tN, b5⟩; replace KA := KA.below b5 KA.lt; replace KB1 := KB1.below b5 KB1.lt; replace ta := ta.below' b5; replace tb := tb.below' b5; replace hsh := hsh.below b5; replace hS := (fun b hb => Nat.lt_of_lt_of_le (hS b hb) b5.size); replace KW := KT.keep KW b5; replace B := B.trans (b5.mono B.size); replace hdd := hdd.below' b5; clear x2; have x2 : w5.cell? ⟨w.heap.size, 2, none⟩ = some (.slice A2 n2 c2) := KA.cell 2)
              | (go_simp; go_at_call 23; refine (key_any f n _ hn).mono ?_; rintro e w5 ⟨u5, rfl, tK, b5⟩; replace KA := KA.below b5 KA.lt; replace KB1 := KB1.below b5 KB1.lt; replace ta := ta.below' b5; replace tb := tb.below' b5; replace hsh := hsh.below b5; replace hS := (fun b hb => Nat.lt_of_lt_of_le (hS b hb) b5.size); replace KW := KT.keep KW b5; replace B := B.trans (b5.mono B.size); replace hdd := hdd.below' b5; clear x2; have x2 : w5.cell? ⟨w.heap.size, 2, none⟩ = some (.slice A2 n2 c2) := KA.cell 2)
              | (go_simp; go_at_call 24; refine (data_any f _ _ dd _ hdd hdl').mono ?_; rintro e w5 ⟨u5, rfl, tD, b5⟩; replace KA := KA.below b5 KA.lt; replace KB1 := KB1.below b5 KB1.lt; replace ta := ta.below' b5; replace tb := tb.below' b5; replace hsh := hsh.below b5; replace hS := (fun b hb => Nat.lt_of_lt_of_le (hS b hb) b5.size); replace KW := KT.keep KW b5; replace B := B.trans (b5.mono B.size); replace hdd := hdd.below' b5; clear x2; have x2 : w5.cell? ⟨w.heap.size, 2, none⟩ = some (.slice A2 n2 c2) := KA.cell 2)
              | (go_simp; go_at_call 17; refine (hsN _ _ _ tN).mono ?_; rintro e w5 ⟨rfl, b5⟩; clear tN; replace KA := KA.below b5 KA.lt; replace KB1 := KB1.below b5 KB1.lt; replace ta := ta.below' b5; replace tb := tb.below' b5; replace hsh := hsh.below b5; replace hS := (fun b hb => Nat.lt_of_lt_of_le (hS b hb) b5.size); replace KW := KT.keep KW b5; replace B := B.trans (b5.mono B.size); replace hdd := hdd.below' b5; clear x2; have x2 : w5.cell? ⟨w.heap.size, 2, none⟩ = some (.slice A2 n2 c2) := KA.cell 2)
              | (go_simp; go_at_call 17; refine (hsK _ _ _ tK).mono ?_; rintro e w5 ⟨rfl, b5⟩; clear tK; replace KA := KA.below b5 KA.lt; replace KB1 := KB1.below b5 KB1.lt; replace ta := ta.below' b5; replace tb := tb.below' b5; replace hsh := hsh.below b5; replace hS := (fun b hb => Nat.lt_of_lt_of_le (hS b hb) b5.size); replace KW := KT.keep KW b5; replace B := B.trans (b5.mono B.size); replace hdd := hdd.below' b5; clear x2; have x2 : w5.cell? ⟨w.heap.size, 2, none⟩ = some (.slice A2 n2 c2) := KA.cell 2)
              | (go_simp; go_at_call 17; refine (hsD _ _ _ _ tD hdd).mono ?_; rintro e w5 ⟨rfl, b5⟩; clear tD; replace KA := KA.below b5 KA.lt; replace KB1 := KB1.below b5 KB1.lt; replace ta := ta.below' b5; replace tb := tb.below' b5; replace hsh := hsh.below b5; replace hS := (fun b hb => Nat.lt_of_lt_of_le (hS b hb) b5.size); replace KW := KT.keep KW b5; replace B := B.trans (b5.mono B.size); replace hdd := hdd.below' b5; clear x2; have x2 : w5.cell? ⟨w.heap.size, 2, none⟩ = some (.slice A2 n2 c2) := KA.cell 2))
          all_goals
            clear x2 hsN hsK hsD hdd
            have x0 : w5.cell? ⟨w.heap.size, 0, none⟩ = some (.int .i64 a0) := KA.cell 0
            have x1 : w5.cell? ⟨w.heap.size, 1, none⟩ = some (.int .u64 a1) := KA.cell 1
            have x2 : w5.cell? ⟨w.heap.size, 2, none⟩ = some (.slice A2 n2 c2) := KA.cell 2
            have x3 : w5.cell? ⟨w.heap.size, 3, none⟩ = some (.slice A3 n3 c3) := KA.cell 3
            have y0 : w5.cell? ⟨w.heap.size + 1, 0, none⟩ = some (.int .i64 b0) := KB1.cell 0
            have y1 : w5.cell? ⟨w.heap.size + 1, 1, none⟩ = some (.int .u64 b1) := KB1.cell 1
            have y2 : w5.cell? ⟨w.heap.size + 1, 2, none⟩ = some (.slice B2 m2 d2) := KB1.cell 2
            have y3 : w5.cell? ⟨w.heap.size + 1, 3, none⟩ = some (.slice B3 m3 d3) := KB1.cell 3
            have bd : Below w5.heap.size w5 w5.drew := Below_drawn (Below.refl _ _) 1
            replace KA := KA.below bd KA.lt
            replace KB1 := KB1.below bd KB1.lt
            replace ta := ta.below' bd
            replace tb := tb.below' bd
            replace hsh := hsh.below bd
            replace hS := fun b hb => Nat.lt_of_lt_of_le (hS b hb) bd.size
            replace KW := KT.keep KW bd
            replace B := B.trans (bd.mono B.size)
            have haa : SameQ w5.drew f (.agg #[.int .i64 a0, .int .u64 a1, .slice A2 n2 c2, .slice A3 n3 c3]) (.agg #[.int .i64 a0, .int .u64 a1, .slice A2 n2 c2, .slice A3 n3 c3]) true := ⟨_, _, a, a, ta, ta, (sameT_iff f a a).2 rfl⟩
            obtain ⟨r, hab⟩ : ∃ r, SameQ w5.drew f (.agg #[.int .i64 a0, .int .u64 a1, .slice A2 n2 c2, .slice A3 n3 c3]) (.agg #[.int .i64 b0, .int .u64 b1, .slice B2 m2 d2, .slice B3 m3 d3]) r := ⟨_, _, _, a, b, ta, tb, rfl⟩
            clear tb bd
            cases r
            all_goals
              go_wp2_with fail
              go_region_held3 (fun w' => w'.cell? ⟨w.heap.size, 0, none⟩ = some (.int .i64 a0) ∧ w'.cell? ⟨w.heap.size, 1, none⟩ = some (.int .u64 a1) ∧ w'.cell? ⟨w.heap.size, 2, none⟩ = some (.slice A2 n2 c2) ∧ w'.cell? ⟨w.heap.size, 3, none⟩ = some (.slice A3 n3 c3) ∧ w'.cell? ⟨w.heap.size + 1, 0, none⟩ = some (.int .i64 b0) ∧ w'.cell? ⟨w.heap.size + 1, 1, none⟩ = some (.int .u64 b1) ∧ w'.cell? ⟨w.heap.size + 1, 2, none⟩ = some (.slice B2 m2 d2) ∧ w'.cell? ⟨w.heap.size + 1, 3, none⟩ = some (.slice B3 m3 d3))
                (first | exact ⟨x0, x1, x2, x3, y0, y1, y2, y3⟩ | exact ⟨KA.cell 0, KA.cell 1, KA.cell 2, KA.cell 3, KB1.cell 0, KB1.cell 1, KB1.cell 2, KB1.cell 3⟩ | go_keep)
                (first
                  | (go_at_call 25; refine (psame_q (by assumption)).mono ?_; rintro e w6 ⟨rfl, b5⟩; replace KA := KA.below b5 KA.lt; replace KB1 := KB1.below b5 KB1.lt; replace ta := ta.below' b5; replace hsh := hsh.below b5; replace hS := (fun b hb => Nat.lt_of_lt_of_le (hS b hb) b5.size); replace KW := KT.keep KW b5; replace hab := hab.below b5; replace haa := haa.below b5; replace B := B.trans (b5.mono B.size))
                  | (go_at_call 17; refine (rsame_q (by assumption)).mono ?_; rintro e w6 ⟨rfl, b5⟩; replace KA := KA.below b5 KA.lt; replace KB1 := KB1.below b5 KB1.lt; replace ta := ta.below' b5; replace hsh := hsh.below b5; replace hS := (fun b hb => Nat.lt_of_lt_of_le (hS b hb) b5.size); replace KW := KT.keep KW b5; replace hab := hab.below b5; replace haa := haa.below b5; replace B := B.trans (b5.mono B.size))
                  | (go_at_call 27; refine (parts_any S f a _ _ hS hsh ta).mono ?_; rintro e w6 ⟨u6, rfl, hKU, b5⟩; replace KA := KA.below b5 KA.lt; replace KB1 := KB1.below b5 KB1.lt; replace ta := ta.below' b5; replace hsh := hsh.below b5; replace hS := (fun b hb => Nat.lt_of_lt_of_le (hS b hb) b5.size); replace KW := KT.keep KW b5; replace hab := hab.below b5; replace haa := haa.below b5; replace B := B.trans (b5.mono B.size))
                  | (go_at_call 26; refine (sameAll_yes _ _ f _ wl _ _ _ hKU KW hRL).mono ?_; rintro e w6 ⟨rfl, b5⟩; clear hKU; replace KA := KA.below b5 KA.lt; replace KB1 := KB1.below b5 KB1.lt; replace ta := ta.below' b5; replace hsh := hsh.below b5; replace hS := (fun b hb => Nat.lt_of_lt_of_le (hS b hb) b5.size); replace KW := KT.keep KW b5; replace hab := hab.below b5; replace haa := haa.below b5; replace B := B.trans (b5.mono B.size))
                  | (go_at_call 8; refine (live_any _ hsh).mono ?_; rintro e w6 ⟨rfl, b5⟩; replace KA := KA.below b5 KA.lt; replace KB1 := KB1.below b5 KB1.lt; replace ta := ta.below' b5; replace hsh := hsh.below b5; replace hS := (fun b hb => Nat.lt_of_lt_of_le (hS b hb) b5.size); replace KW := KT.keep KW b5; replace hab := hab.below b5; replace haa := haa.below b5; replace B := B.trans (b5.mono B.size)))
              clear x0 x1 x2 x3 y0 y1 y2 y3
              go_wp2_with fail
              go_ret
              exact ⟨rfl, B⟩
        · right
          intro i hi
          obtain ⟨hlt, hfl, ha⟩ := mem_ready hi
          have hi15 : i < 15 := hlt
          have KA' := KA.below hPA.bl KA.lt
          have KB' := KB1.below hPA.bl KB1.lt
          have aska' := aska.below hPA.bl
          have askb' := askb.below hPA.bl
          clear x0 x1 x2 x3 y0 y1 y2 y3 hlt hi
          have x0 : w'.cell? ⟨w.heap.size, 0, none⟩ = some (.int .i64 a0) := KA'.cell 0
          have x1 : w'.cell? ⟨w.heap.size, 1, none⟩ = some (.int .u64 a1) := KA'.cell 1
          have x2 : w'.cell? ⟨w.heap.size, 2, none⟩ = some (.slice A2 n2 c2) := KA'.cell 2
          have x3 : w'.cell? ⟨w.heap.size, 3, none⟩ = some (.slice A3 n3 c3) := KA'.cell 3
          have y0 : w'.cell? ⟨w.heap.size + 1, 0, none⟩ = some (.int .i64 b0) := KB'.cell 0
          have y1 : w'.cell? ⟨w.heap.size + 1, 1, none⟩ = some (.int .u64 b1) := KB'.cell 1
          have y2 : w'.cell? ⟨w.heap.size + 1, 2, none⟩ = some (.slice B2 m2 d2) := KB'.cell 2
          have y3 : w'.cell? ⟨w.heap.size + 1, 3, none⟩ = some (.slice B3 m3 d3) := KB'.cell 3
          have hcase : i = 0 ∨ i = 1 ∨ i = 2 ∨ i = 3 ∨ i = 4 ∨ i = 5 ∨ i = 6 ∨ i = 7 ∨ i = 8 ∨ i = 9 ∨ i = 10 ∨ i = 11 ∨ i = 12 ∨ i = 13 ∨ i = 14 := by omega
          rcases hcase with rfl | rfl | rfl | rfl | rfl | rfl | rfl | rfl | rfl | rfl | rfl | rfl | rfl | rfl | rfl
          · refine wpOp_step rfl (fun K hK => ?_)
            go_simp
            refine hK _ _ ?_
            exact ⟨true, r1, r2, r3, r4, r5, r6, r7, r8, r9, r10, r11, (Value.agg #[.int .i64 a0, .int .u64 a1, .slice A2 n2 c2, .slice A3 n3 c3]), u25, u26, u27, u28, u29, u30, u31, u32, u8, u9, u10, gp, gx, gh, rfl, rfl, hPA.l0⟩
          · refine wpOp_step rfl (fun K hK => ?_)
            go_simp
            refine hK _ _ ?_
            exact ⟨r0, true, r2, r3, r4, r5, r6, r7, r8, r9, r10, r11, u24, (Value.agg #[.int .i64 b0, .int .u64 b1, .slice B2 m2 d2, .slice B3 m3 d3]), u26, u27, u28, u29, u30, u31, u32, u8, u9, u10, gp, gx, gh, rfl, rfl, hPA.l1⟩
          · have hd : r0 = true ∧ r1 = true := by
              have := ha _ rfl
              simp [Region.binds] at this
              simp_all
            obtain ⟨g0, g1⟩ := hd
            obtain rfl := hPA.e0 g0
            obtain rfl := hPA.e1 g1
            refine wpOp_step rfl (fun K hK => ?_)
            go_simp
            go_at_call 19
            refine (hcp _ aska' askb').mono ?_
            rintro e w5 ⟨v5, rfl, tv5, b5⟩
            refine hK _ _ ?_
            exact ⟨r0, r1, true, r3, r4, r5, r6, r7, r8, r9, r10, r11, _, _, v5, u27, u28, u29, u30, u31, u32, u8, u9, u10, gp, gx, gh, rfl, rfl, hPA.k2 g0 g1 b5 tv5⟩
          · refine wpOp_step rfl (fun K hK => ?_)
            go_simp
            refine hK _ _ ?_
            exact ⟨r0, r1, r2, true, r4, r5, r6, r7, r8, r9, r10, r11, u24, u25, u26, (.int .u64 n), u28, u29, u30, u31, u32, u8, u9, u10, gp, gx, gh, rfl, rfl, hPA.l3⟩
          · refine wpOp_step rfl (fun K hK => ?_)
            go_simp
            refine hK _ _ ?_
            exact ⟨r0, r1, r2, r3, true, r5, r6, r7, r8, r9, r10, r11, u24, u25, u26, u27, (Value.agg #[.int .i64 a0, .int .u64 a1, .slice A2 n2 c2, .slice A3 n3 c3]), u29, u30, u31, u32, u8, u9, u10, gp, gx, gh, rfl, rfl, hPA.l4⟩
          · refine wpOp_step rfl (fun K hK => ?_)
            go_simp
            refine hK _ _ ?_
            exact ⟨r0, r1, r2, r3, r4, true, r6, r7, r8, r9, r10, r11, u24, u25, u26, u27, u28, (Value.agg #[.int .i64 b0, .int .u64 b1, .slice B2 m2 d2, .slice B3 m3 d3]), u30, u31, u32, u8, u9, u10, gp, gx, gh, rfl, rfl, hPA.l5⟩
          · have hd : r2 = true ∧ r3 = true ∧ r4 = true ∧ r5 = true := by
              have := ha _ rfl
              simp [Region.binds] at this
              simp_all
            obtain ⟨g2, g3, g4, g5⟩ := hd
            obtain rfl := hPA.e3 g3
            obtain rfl := hPA.e4 g4
            obtain rfl := hPA.e5 g5
            refine wpOp_step rfl (fun K hK => ?_)
            go_simp
            go_at_call 20
            refine (hcx _ aska' askb').mono ?_
            rintro e w5 ⟨v5, rfl, tv5, b5⟩
            refine hK _ _ ?_
            exact ⟨r0, r1, r2, r3, r4, r5, true, r7, r8, r9, r10, r11, u24, u25, u26, _, _, _, v5, u31, u32, u8, u9, u10, gp, gx, gh, rfl, rfl, hPA.k6 g2 g3 g4 g5 b5 tv5⟩
          · refine wpOp_step rfl (fun K hK => ?_)
            go_simp
            refine hK _ _ ?_
            exact ⟨r0, r1, r2, r3, r4, r5, r6, true, r8, r9, r10, r11, u24, u25, u26, u27, u28, u29, u30, (Value.agg #[.int .i64 a0, .int .u64 a1, .slice A2 n2 c2, .slice A3 n3 c3]), u32, u8, u9, u10, gp, gx, gh, rfl, rfl, hPA.l7⟩
          · have hd : r6 = true ∧ r7 = true := by
              have := ha _ rfl
              simp [Region.binds] at this
              simp_all
            obtain ⟨g6, g7⟩ := hd
            obtain rfl := hPA.e7 g7
            refine wpOp_step rfl (fun K hK => ?_)
            go_simp
            go_at_call 21
            refine (hch _ aska').mono ?_
            rintro e w5 ⟨v5, rfl, tv5, b5⟩
            refine hK _ _ ?_
            exact ⟨r0, r1, r2, r3, r4, r5, r6, r7, true, r9, r10, r11, u24, u25, u26, u27, u28, u29, u30, _, v5, u8, u9, u10, gp, gx, gh, rfl, rfl, hPA.k8 g6 g7 b5 tv5⟩
          · refine wpOp_step rfl (fun K hK => ?_)
            go_simp
            refine hK _ _ ?_
            exact ⟨r0, r1, r2, r3, r4, r5, r6, r7, r8, true, r10, r11, u24, u25, u26, u27, u28, u29, u30, u31, u32, _, u9, u10, _, gx, gh, rfl, rfl, hPA.n9⟩
          · refine wpOp_step rfl (fun K hK => ?_)
            go_simp
            refine hK _ _ ?_
            exact ⟨r0, r1, r2, r3, r4, r5, r6, r7, r8, r9, true, r11, u24, u25, u26, u27, u28, u29, u30, u31, u32, u8, _, u10, gp, _, gh, rfl, rfl, hPA.n10⟩
          · refine wpOp_step rfl (fun K hK => ?_)
            go_simp
            refine hK _ _ ?_
            exact ⟨r0, r1, r2, r3, r4, r5, r6, r7, r8, r9, r10, true, u24, u25, u26, u27, u28, u29, u30, u31, u32, u8, u9, _, gp, gx, _, rfl, rfl, hPA.n11⟩
          · exfalso
            have := ha _ rfl
            first
              | (simp [Region.binds] at this; done)
              | (simp [Region.binds] at this; simp_all)
          · exfalso
            have := ha _ rfl
            first
              | (simp [Region.binds] at this; done)
              | (simp [Region.binds] at this; simp_all)
          · exfalso
            have := ha _ rfl
            first
              | (simp [Region.binds] at this; done)
              | (simp [Region.binds] at this; simp_all)
end Go.Proofs.YtmepcdljobdigaaDoor
