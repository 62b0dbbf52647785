/-
  The law TlvReads over the loaded program: what every bytes are read as, whatever is asked for. No condition.
-/
import Derived.Test.YtcmklfknhlfenaaLiveA
import Derived.Test.YtcmklfknhlfenaaRefB
import Derived.Test.YtcmklfknhlfenaaArgs
import Derived.Deep.RegionHeld3
import Derived.ChangeSame
namespace Go.Proofs.Ytcmklfknhlfenaa
open Go.RowKit Go.ChangeShapes Go.WideShapes Go.Joins

theorem RD.other {w w' : World} {g h : Nat} {S : Nat → Prop} {st : Option (List UInt8)} (k : RD w g S st) (hg : w.grownBy w' (some h)) (h1 : g ≠ h) (h2 : ¬ S h) : RD w' g S st := by
  obtain ⟨v, k1, k2, k3⟩ := k
  exact ⟨v, k1.grown hg (by simp; omega), k2.grown hg (by rintro x hx; injection hx with hx; subst hx; exact h2), k3⟩
theorem RR.other {w w' : World} {g h : Nat} {S : Nat → Prop} {st : Option (List UInt8)} (k : RR w g S st) (hg : w.grownBy w' (some h)) (h1 : g ≠ h) (h2 : ¬ S h) : RR w' g S st := by
  obtain ⟨v, l, k1, k2, k3, k4⟩ := k
  exact ⟨v, l, k1.grown hg (by simp; omega), k2.grown hg (by rintro x hx; injection hx with hx; subst hx; exact h2), k3, k4⟩

theorem passed_len (n : Int) (st : Option (List UInt8)) : ((passed n st).1.getD []).length ≤ (st.getD []).length := by
  unfold passed
  split
  · simp
  · cases st <;> simp
theorem txtOf_len (n : Int) (st : Option (List UInt8)) : ((txtOf n st).1.getD []).length ≤ (st.getD []).length :=
  Nat.le_trans (passed_len _ _) (cntOf_len _ _)

/-- The value v reads, in w, as the asks l: two numbers each. -/
def AS (w : World) (v : Value) (l : List (Int × Int)) : Prop :=
  ∃ A c, v = .slice A l.length c ∧ l.length ≤ c ∧ c ≤ maxLen ∧
    (0 < l.length → ∃ b o, A = some ⟨b, o, none⟩ ∧ b < w.heap.size ∧ ∀ j x, l[j]? = some x → w.cell? ⟨b, o + j * 2, none⟩ = some (.int .i64 x.1) ∧ w.cell? ⟨b, o + j * 2 + 1, none⟩ = some (.int .i64 x.2) ∧ x.2 ≤ 9223372036854775807)

theorem reads_long (vb vl : Value) (A : Option Addr) (n c : Nat) (A' : Option Addr) (n' c' : Nat) (e1 : vb = .slice A n c) (e2 : vl = .slice A' n' c') (w : World) (h : 2000 < n ∨ 100 < n') :
    Calls Try.prog 4 #[vb, vl] w fun e w' => e = .returned (.bool true) ∧ Below w.heap.size w w' := by
  subst e1 e2
  by_cases h1 : 2000 < n
  · go_enter Try.func4, Try.ntmps4
    go_wp2_with fail
    refine (live_any _).mono ?_
    rintro e w1 ⟨rfl, b1⟩
    go_wp2
    go_ret
    exact ⟨rfl, b1⟩
  · have h2 : 100 < n' := by omega
    go_enter Try.func4, Try.ntmps4
    go_wp2_with fail
    refine (live_any _).mono ?_
    rintro e w1 ⟨rfl, b1⟩
    go_wp2
    go_ret
    exact ⟨rfl, b1⟩

theorem far_cell {w w' : World} {g b o : Nat} {v : Value} (hg : w.grownBy w' (some g)) (h : w.cell? ⟨b, o, none⟩ = some v) (hne : b ≠ g) : w'.cell? ⟨b, o, none⟩ = some v := hg.cell h (by simpa using hne)

theorem step_below {w0 w w' : World} {g : Nat} (h : Below w0.heap.size w0 w) (hg : w.grownBy w' (some g)) (hl : w0.heap.size ≤ g) : Below w0.heap.size w0 w' := h.trans (below_of_grown' hg hl h.size)

theorem ok_q (g : Nat) (S : Nat → Prop) (st : Option (List UInt8)) (b : Bool) (hb : st.isSome = b) (w : World) (h : RD w g S st) :
    Calls Try.prog 27 #[.pointer (some ⟨g, 0, none⟩)] w fun e w' => e = .returned (.bool b) ∧ w' = w := by
  subst hb
  exact (ok_rd g S st w h).mono fun _ _ ⟨a, b⟩ => ⟨a, b.symm⟩
theorem left_q (g : Nat) (S : Nat → Prop) (st : Option (List UInt8)) (n : Nat) (hn : (st.getD []).length = n) (w : World) (h : RD w g S st) :
    Calls Try.prog 28 #[.pointer (some ⟨g, 0, none⟩)] w fun e w' => e = .returned (.int .i64 n) ∧ w' = w := by
  subst hn
  exact (left_rd g S st w h).mono fun _ _ ⟨a, b⟩ => ⟨a, b.symm⟩
theorem rleft_q (g : Nat) (S : Nat → Prop) (st : Option (List UInt8)) (n : Nat) (hn : (st.getD []).length = n) (w : World) (h : RR w g S st) :
    Calls Try.prog 29 #[.pointer (some ⟨g, 0, none⟩)] w fun e w' => e = .returned (.int .i64 n) ∧ w' = w := by
  subst hn
  exact (rleft g S st w h).mono fun _ _ ⟨a, b⟩ => ⟨a, b.symm⟩

set_option maxRecDepth 100000 in
set_option maxHeartbeats 4000000 in
theorem reads_main (vb vl : Value) (l : List UInt8) (asks : List (Int × Int)) (w : World) (hb : BS w (fun b => b < w.heap.size) vb l) (ha : AS w vl asks) (h1 : l.length ≤ 2000) (h2 : asks.length ≤ 100) :
    Calls Try.prog 4 #[vb, vl] w fun e w' => e = .returned (.bool true) ∧ Below w.heap.size w w' := by
  obtain ⟨Ab, cb, rfl, _⟩ := hb.form
  obtain ⟨Aa, ca, rfl, hac, hacm, hacell⟩ := ha
  have HA := Lib.hid hacell
  clear hacell hac hacm
  go_enter Try.func4, Try.ntmps4
  go_wp2_with fail
  refine (new_any _ _ _ _ hb (by omega)).mono ?_
  rintro e w1 ⟨g, rfl, hg, hgl, hr1, b1⟩
  have hb1 := hb.below' b1
  have z1 := b1.size
  have hS1 : ∀ b, (fun b => w.heap.size ≤ b ∧ b < g) b → b < g := fun b h => h.2
  generalize (fun b => w.heap.size ≤ b ∧ b < g) = S at hr1 hS1
  go_wp2_with fail
  refine (copy_any _ _ _ _ hb1 (by omega)).mono ?_
  rintro e w2 ⟨v2, rfl, ho2, b2⟩
  obtain ⟨A2, c2, rfl, _⟩ := (own_BS ho2).form
  have x2 := own_BS ho2
  have hr2 := hr1.below b2
  have B2 := b1.trans (b2.mono z1)
  have z2 := B2.size
  have z2' := b2.size
  clear hr1 b1 b2 ho2 hb1 hb
  have hy3 : RR (w2.alloc (.cells #[.slice A2 l.length c2, .bool false] 37)) w2.heap.size (fun b => w1.heap.size ≤ b ∧ b < w2.heap.size) (some l) :=
    ⟨_, l, KB.new _ _ _, x2.alloc _, by omega, fun _ h => by injection h⟩
  have hr3 : RD (w2.alloc (.cells #[.slice A2 l.length c2, .bool false] 37)) g S (some l) := hr2.below ((Below.refl _ _).alloc (Nat.le_refl _) _)
  have B3 := B2.alloc z2 (.cells #[.slice A2 l.length c2, .bool false] 37)
  have hgne : g ≠ w2.heap.size := by omega
  have hSg2 : ¬ S w2.heap.size := fun h => by have := hS1 _ h; omega
  have hS2g : ¬ (fun b => w1.heap.size ≤ b ∧ b < w2.heap.size) g := fun h => by have := h.1; omega
  generalize (fun b => w1.heap.size ≤ b ∧ b < w2.heap.size) = S2 at hy3 hS2g
  have zB := B3.size
  clear x2 hr2 z2' hgl
  go_wp2_with fail
  generalize (w2.alloc (.cells #[.slice A2 l.length c2, .bool false] 37)) = W3 at *
  have hgw : w.heap.size ≤ g := by omega
  generalize w2.heap.size = g2 at *
  go_loopw [7] (fun i wr => ∃ (k : Nat) (st : Option (List UInt8)), k ≤ asks.length ∧ i = .int .i64 k ∧ RD wr g S st ∧ RR wr g2 S2 st ∧ Below w.heap.size w wr ∧ (st.getD []).length ≤ 2000) (fun i _ => asks.length - (intOf i).toNat)
  case atStart => exact ⟨0, some l, by omega, rfl, hr3, hy3, B3, h1⟩
  case round =>
    clear hr3 hy3 B3 zB
    obtain ⟨k, st, hk, rfl, hr, hy, hbl, hl⟩ := hrel
    by_cases hlt : k < asks.length
    · obtain ⟨b, o, rfl, hba, hc⟩ := HA.out (by omega)
      obtain ⟨c0, c1, hn⟩ := hc k asks[k] (List.getElem?_eq_getElem hlt)
      generalize asks[k].1 = kd at c0
      generalize asks[k].2 = n at c1 hn
      have d0 := (hbl.cell (p := ⟨b, o + k * 2, none⟩) hba).trans c0
      have d1 := (hbl.cell (p := ⟨b, o + k * 2 + 1, none⟩) hba).trans c1
      have k0 : (0 : Int) ≤ (k : Int) := by omega
      have k1 : (k : Int) < (asks.length : Int) := by omega
      clear hc c0 c1 HA
      have hz := hbl.size
      have hbz : b < wr.heap.size := by omega
      have hbg : b ≠ g := by omega
      have hbg2 : b ≠ g2 := by omega
      have hgl2 := hy.lt
      by_cases e0 : kd = 0
      · subst e0
        go_wp2_with fail
        refine (num_some g S st _ hr).mono ?_
        rintro e w4 ⟨rfl, hr4, g4⟩
        have hy4 := hy.other g4 (Ne.symm hgne) hS2g
        have B4 := step_below hbl g4 hgw
        go_wp2_with fail
        refine (rnum_rd g2 S2 st _ hy4 (by omega)).mono ?_
        rintro e w5 ⟨rfl, hy5, g5⟩
        have hr5 := hr4.other g5 hgne hSg2
        have B5 := step_below B4 g5 z2
        have l5 := Nat.le_trans (numOf_len st) hl
        generalize (numOf st).1 = s5 at *
        clear hr hy hr4 hy4 g4 g5 B4 hbl hl
        rcases s5 with _ | lT
        · have kf : w5.cell? ⟨g2, 1, none⟩ = some (.bool true) := hy5.bad.1
          go_wp2_with fail
          go_quiet (first | (go_at_call 27; exact Calls.quiet_of_same (ok_q g S none false rfl _ hr5)) | (go_at_call 28; exact Calls.quiet_of_same (left_q g S none 0 rfl _ hr5)) | (go_at_call 29; exact Calls.quiet_of_same (rleft_q g2 S2 none 0 rfl _ hy5)))
          go_wp2_with fail
          go_roundw
          case rel => exact ⟨k + 1, none, by omega, by go_num, hr5, hy5, Below_drawn B5 _, l5⟩
          case measure => simp [intOf]; omega
        · have kf : w5.cell? ⟨g2, 1, none⟩ = some (.bool false) := hy5.good.1
          go_wp2_with fail
          go_quiet (first | (go_at_call 27; exact Calls.quiet_of_same (ok_q g S (some lT) true rfl _ hr5)) | (go_at_call 28; exact Calls.quiet_of_same (left_q g S (some lT) lT.length rfl _ hr5)) | (go_at_call 29; exact Calls.quiet_of_same (rleft_q g2 S2 (some lT) lT.length rfl _ hy5)))
          go_wp2_with fail
          go_roundw
          case rel => exact ⟨k + 1, some lT, by omega, by go_num, hr5, hy5, Below_drawn B5 _, l5⟩
          case measure => simp [intOf]; omega
      · by_cases e1 : kd = 1
        · subst e1
          clear e0
          go_wp2_with fail
          refine (int_some g S st _ hr).mono ?_
          rintro e w4 ⟨rfl, hr4, g4⟩
          have hy4 := hy.other g4 (Ne.symm hgne) hS2g
          have B4 := step_below hbl g4 hgw
          go_wp2_with fail
          refine (rnum_rd g2 S2 st _ hy4 (by omega)).mono ?_
          rintro e w5 ⟨rfl, hy5, g5⟩
          have hr5 := hr4.other g5 hgne hSg2
          have B5 := step_below B4 g5 z2
          have l5 := Nat.le_trans (numOf_len st) hl
          generalize (numOf st).1 = s5 at *
          clear hr hy hr4 hy4 g4 g5 B4 hbl hl
          rcases s5 with _ | lT
          · have kf : w5.cell? ⟨g2, 1, none⟩ = some (.bool true) := hy5.bad.1
            go_wp2_with fail
            go_quiet (first | (go_at_call 27; exact Calls.quiet_of_same (ok_q g S none false rfl _ hr5)) | (go_at_call 28; exact Calls.quiet_of_same (left_q g S none 0 rfl _ hr5)) | (go_at_call 29; exact Calls.quiet_of_same (rleft_q g2 S2 none 0 rfl _ hy5)))
            go_wp2_with fail
            go_roundw
            case rel => exact ⟨k + 1, none, by omega, by go_num, hr5, hy5, Below_drawn B5 _, l5⟩
            case measure => simp [intOf]; omega
          · have kf : w5.cell? ⟨g2, 1, none⟩ = some (.bool false) := hy5.good.1
            go_wp2_with fail
            go_quiet (first | (go_at_call 27; exact Calls.quiet_of_same (ok_q g S (some lT) true rfl _ hr5)) | (go_at_call 28; exact Calls.quiet_of_same (left_q g S (some lT) lT.length rfl _ hr5)) | (go_at_call 29; exact Calls.quiet_of_same (rleft_q g2 S2 (some lT) lT.length rfl _ hy5)))
            go_wp2_with fail
            go_roundw
            case rel => exact ⟨k + 1, some lT, by omega, by go_num, hr5, hy5, Below_drawn B5 _, l5⟩
            case measure => simp [intOf]; omega
        · by_cases e2 : kd = 2
          · subst e2
            clear e0 e1
            go_wp2_with fail
            go_region_held3 (fun w' => w'.cell? ⟨b, o + k * 2 + 1, none⟩ = some (.int .i64 n)) (first | go_keep | exact far_cell g5 (far_cell g4 d1 hbg) hbg2 | exact far_cell g4 d1 hbg) (first | (go_at_call 21; refine (count_some n hn g S st _ (by exact hr)).mono ?_; rintro e w4 ⟨rfl, hr4, g4⟩) | (go_at_call 22; refine (rcount n hn g2 S2 st _ (by exact RR.other (show RR wr.drew g2 S2 st from hy) g4 (Ne.symm hgne) hS2g) (by omega)).mono ?_; rintro e w5 ⟨rfl, hy5, g5⟩))
            have hr5 := hr4.other g5 hgne hSg2
            have B5 := step_below (step_below (w := wr.drew) (Below_drawn hbl 1) g4 hgw) g5 z2
            have l5 := Nat.le_trans (cntOf_len n st) hl
            generalize (cntOf n st).1 = s5 at *
            clear hr hy hr4 g4 g5 hbl hl d0 d1
            rcases s5 with _ | lT
            · have kf : w5.cell? ⟨g2, 1, none⟩ = some (.bool true) := hy5.bad.1
              go_wp2_with fail
              go_quiet (first | (go_at_call 27; exact Calls.quiet_of_same (ok_q g S none false rfl _ hr5)) | (go_at_call 28; exact Calls.quiet_of_same (left_q g S none 0 rfl _ hr5)) | (go_at_call 29; exact Calls.quiet_of_same (rleft_q g2 S2 none 0 rfl _ hy5)))
              go_wp2_with fail
              go_roundw
              case rel => exact ⟨k + 1, none, by omega, by go_num, hr5, hy5, Below_drawn B5 _, l5⟩
              case measure => simp [intOf]; omega
            · have kf : w5.cell? ⟨g2, 1, none⟩ = some (.bool false) := hy5.good.1
              go_wp2_with fail
              go_quiet (first | (go_at_call 27; exact Calls.quiet_of_same (ok_q g S (some lT) true rfl _ hr5)) | (go_at_call 28; exact Calls.quiet_of_same (left_q g S (some lT) lT.length rfl _ hr5)) | (go_at_call 29; exact Calls.quiet_of_same (rleft_q g2 S2 (some lT) lT.length rfl _ hy5)))
              go_wp2_with fail
              go_roundw
              case rel => exact ⟨k + 1, some lT, by omega, by go_num, hr5, hy5, Below_drawn B5 _, l5⟩
              case measure => simp [intOf]; omega
          · by_cases e3 : kd = 3
            · subst e3
              clear e0 e1 e2
              go_wp2_with fail
              go_region_held3 (fun w' => w'.cell? ⟨b, o + k * 2 + 1, none⟩ = some (.int .i64 n)) (first | go_keep | exact (b6.cell (p := ⟨b, o + k * 2 + 1, none⟩) (by exact Nat.lt_of_lt_of_le hbz (Nat.le_trans g4.size g5.size))).trans (far_cell g5 (far_cell g4 d1 hbg) hbg2) | exact far_cell g5 (far_cell g4 d1 hbg) hbg2 | exact far_cell g4 d1 hbg) (first | (go_at_call 23; refine (text_some n hn g S st _ (by exact hr) (by omega)).mono ?_; rintro e w4 ⟨v4, rfl, hr4, ho4, g4⟩; obtain ⟨A4, c4, rfl, _⟩ := (own_BS ho4).form) | (go_at_call 24; refine (rtext n hn g2 S2 st _ (by exact RR.other (show RR wr.drew g2 S2 st from hy) g4 (Ne.symm hgne) hS2g) (by omega)).mono ?_; rintro e w5 ⟨v5, rfl, hy5, x5, g5⟩; obtain ⟨A5, c5, rfl, _⟩ := x5.form) | (go_at_call 8; refine (same_to _ _ _ _ (txtOf n st).2 _ (by exact (own_BS ho4).grown g5 (by rintro x hx hx2; injection hx with hx; subst hx; exact absurd hx2.1 (by simpa using hgl2))) (by exact x5)).mono ?_; rintro e w6 ⟨rfl, b6⟩))
              have hr5 := (hr4.other g5 hgne hSg2).below b6
              have hy6 := hy5.below b6
              have B4 := step_below (w := wr.drew) (Below_drawn hbl 1) g4 hgw
              have B5 := step_below B4 g5 z2
              have B6 := B5.trans (b6.mono B5.size)
              have l5 := Nat.le_trans (txtOf_len n st) hl
              generalize (txtOf n st).1 = s5 at *
              clear hr hy hr4 g4 g5 hbl hl d0 d1 hy5 x5 ho4 B4 B5 b6
              rcases s5 with _ | lT
              · have kf : w6.cell? ⟨g2, 1, none⟩ = some (.bool true) := hy6.bad.1
                go_wp2_with fail
                go_quiet (first | (go_at_call 27; exact Calls.quiet_of_same (ok_q g S none false rfl _ hr5)) | (go_at_call 28; exact Calls.quiet_of_same (left_q g S none 0 rfl _ hr5)) | (go_at_call 29; exact Calls.quiet_of_same (rleft_q g2 S2 none 0 rfl _ hy6)))
                go_wp2_with fail
                go_roundw
                case rel => exact ⟨k + 1, none, by omega, by go_num, hr5, hy6, Below_drawn B6 _, l5⟩
                case measure => simp [intOf]; omega
              · have kf : w6.cell? ⟨g2, 1, none⟩ = some (.bool false) := hy6.good.1
                go_wp2_with fail
                go_quiet (first | (go_at_call 27; exact Calls.quiet_of_same (ok_q g S (some lT) true rfl _ hr5)) | (go_at_call 28; exact Calls.quiet_of_same (left_q g S (some lT) lT.length rfl _ hr5)) | (go_at_call 29; exact Calls.quiet_of_same (rleft_q g2 S2 (some lT) lT.length rfl _ hy6)))
                go_wp2_with fail
                go_roundw
                case rel => exact ⟨k + 1, some lT, by omega, by go_num, hr5, hy6, Below_drawn B6 _, l5⟩
                case measure => simp [intOf]; omega
            · by_cases e4 : kd = 4
              · subst e4
                clear e0 e1 e2 e3
                go_wp2_with fail
                go_region_held3 (fun w' => w'.cell? ⟨b, o + k * 2 + 1, none⟩ = some (.int .i64 n)) (first | go_keep | exact (b6.cell (p := ⟨b, o + k * 2 + 1, none⟩) (by exact Nat.lt_of_lt_of_le hbz (Nat.le_trans g4.size g5.size))).trans (far_cell g5 (far_cell g4 d1 hbg) hbg2) | exact far_cell g5 (far_cell g4 d1 hbg) hbg2 | exact far_cell g4 d1 hbg) (first | (go_at_call 25; refine (take_rd n g S st _ (by exact hr) (by omega)).mono ?_; rintro e w4 ⟨v4, rfl, hr4, ho4, g4⟩; obtain ⟨A4, c4, rfl, _⟩ := (own_BS ho4).form) | (go_at_call 26; refine (rtake n g2 S2 st _ (by exact RR.other (show RR wr.drew g2 S2 st from hy) g4 (Ne.symm hgne) hS2g) (by omega)).mono ?_; rintro e w5 ⟨v5, rfl, hy5, x5, g5⟩; obtain ⟨A5, c5, rfl, _⟩ := x5.form) | (go_at_call 8; refine (same_to _ _ _ _ (passed n st).2 _ (by exact (own_BS ho4).grown g5 (by rintro x hx hx2; injection hx with hx; subst hx; exact absurd hx2.1 (by simpa using hgl2))) (by exact x5)).mono ?_; rintro e w6 ⟨rfl, b6⟩))
                have hr5 := (hr4.other g5 hgne hSg2).below b6
                have hy6 := hy5.below b6
                have B4 := step_below (w := wr.drew) (Below_drawn hbl 1) g4 hgw
                have B5 := step_below B4 g5 z2
                have B6 := B5.trans (b6.mono B5.size)
                have l5 := Nat.le_trans (passed_len n st) hl
                generalize (passed n st).1 = s5 at *
                clear hr hy hr4 g4 g5 hbl hl d0 d1 hy5 x5 ho4 B4 B5 b6
                rcases s5 with _ | lT
                · have kf : w6.cell? ⟨g2, 1, none⟩ = some (.bool true) := hy6.bad.1
                  go_wp2_with fail
                  go_quiet (first | (go_at_call 27; exact Calls.quiet_of_same (ok_q g S none false rfl _ hr5)) | (go_at_call 28; exact Calls.quiet_of_same (left_q g S none 0 rfl _ hr5)) | (go_at_call 29; exact Calls.quiet_of_same (rleft_q g2 S2 none 0 rfl _ hy6)))
                  go_wp2_with fail
                  go_roundw
                  case rel => exact ⟨k + 1, none, by omega, by go_num, hr5, hy6, Below_drawn B6 _, l5⟩
                  case measure => simp [intOf]; omega
                · have kf : w6.cell? ⟨g2, 1, none⟩ = some (.bool false) := hy6.good.1
                  go_wp2_with fail
                  go_quiet (first | (go_at_call 27; exact Calls.quiet_of_same (ok_q g S (some lT) true rfl _ hr5)) | (go_at_call 28; exact Calls.quiet_of_same (left_q g S (some lT) lT.length rfl _ hr5)) | (go_at_call 29; exact Calls.quiet_of_same (rleft_q g2 S2 (some lT) lT.length rfl _ hy6)))
                  go_wp2_with fail
                  go_roundw
                  case rel => exact ⟨k + 1, some lT, by omega, by go_num, hr5, hy6, Below_drawn B6 _, l5⟩
                  case measure => simp [intOf]; omega
              · have f0 : (kd == 0) = false := by simpa using e0
                have f1 : (kd == 1) = false := by simpa using e1
                have f2 : (kd == 2) = false := by simpa using e2
                have f3 : (kd == 3) = false := by simpa using e3
                have f4 : (kd == 4) = false := by simpa using e4
                clear e0 e1 e2 e3 e4
                rcases st with _ | lT
                · have kf : wr.cell? ⟨g2, 1, none⟩ = some (.bool true) := hy.bad.1
                  go_wp2_with fail
                  go_quiet (first | (go_at_call 27; exact Calls.quiet_of_same (ok_q g S none false rfl _ hr)) | (go_at_call 28; exact Calls.quiet_of_same (left_q g S none 0 rfl _ hr)) | (go_at_call 29; exact Calls.quiet_of_same (rleft_q g2 S2 none 0 rfl _ hy)))
                  go_wp2_with fail
                  go_roundw
                  case rel => exact ⟨k + 1, none, by omega, by go_num, hr, hy, Below_drawn hbl _, hl⟩
                  case measure => simp [intOf]; omega
                · have kf : wr.cell? ⟨g2, 1, none⟩ = some (.bool false) := hy.good.1
                  go_wp2_with fail
                  go_quiet (first | (go_at_call 27; exact Calls.quiet_of_same (ok_q g S (some lT) true rfl _ hr)) | (go_at_call 28; exact Calls.quiet_of_same (left_q g S (some lT) lT.length rfl _ hr)) | (go_at_call 29; exact Calls.quiet_of_same (rleft_q g2 S2 (some lT) lT.length rfl _ hy)))
                  go_wp2_with fail
                  go_roundw
                  case rel => exact ⟨k + 1, some lT, by omega, by go_num, hr, hy, Below_drawn hbl _, hl⟩
                  case measure => simp [intOf]; omega
    · go_wp2_with fail
      refine (live_any _).mono ?_
      rintro e w4 ⟨rfl, b4⟩
      go_wp2
      go_ret
      exact ⟨rfl, hbl.trans (b4.mono hbl.size)⟩

theorem cells_ask : Try.prog.cellsOf 39 = 2 := by kernel_rfl
theorem cells_int : Try.prog.cellsOf 3 = 1 := by kernel_rfl

theorem AS_of_trod {H : Type} {enc : TypeId × Value → H} {W : World} {fuel : Nat} {v : Value} {x : DataW H × List MemPlace}
    (h : DataW.trod enc Try.prog W 0 (fun _ => true) true fuel 32 [v] = some x) : ∃ l, AS W v l := by
  rcases Deep.open_slice Try.underlying32 h with ⟨hcs, _⟩ | ⟨a, len, cap, m, n, D, Pl, hcs, _, hl, hm, hmm, _, hi⟩
  · simp at hcs
    subst hcs
    exact ⟨[], none, 0, rfl, by simp, by simp [maxLen], fun h0 => absurd h0 (by simp)⟩
  · simp at hcs
    subst hcs
    simp only [if_true] at hmm
    rw [cells_ask] at hi
    have hp : ∀ i, i < m → ∃ q : Int × Int, W.cell? (a.add (i * 2)) = some (.int .i64 q.1) ∧ W.cell? (a.add (i * 2 + 1)) = some (.int .i64 q.2) ∧ q.2 ≤ 9223372036854775807 := by
      intro i him
      obtain ⟨cs', hc, ht⟩ := hi i him
      obtain ⟨y0, y1, k, _, hlen, e0, e1⟩ := trod_struct2 Try.underlying39 ht
      obtain ⟨_, _, hat⟩ := World.cells?_some hc
      rw [cells_ask] at hlen
      match cs', hlen with
      | [p, q], _ =>
        simp only [cells_int] at e0 e1
        obtain ⟨n0, f0, _, _⟩ := DataW.trod_int Try.underlying3 e0
        obtain ⟨n1, f1, _, w1⟩ := DataW.trod_int Try.underlying3 e1
        simp at f0 f1
        subst f0 f1
        have h0 := hat 0 (by omega)
        have h1 := hat 1 (by omega)
        rw [Deep.add_add] at h0 h1
        refine ⟨(n0, n1), h0, h1, ?_⟩
        have hx : -9223372036854775808 ≤ n1 ∧ n1 ≤ 9223372036854775807 := by simpa [Lit.wf, IntKind.min, IntKind.max, IntKind.signed, IntKind.bits] using w1
        exact hx.2
    obtain ⟨f, hf⟩ := Deep.choose_lt (α := Int × Int) (n := m) hp
    have hlen : ((List.range len).map f).length = len := by simp
    refine ⟨(List.range len).map f, some a, cap, by rw [hlen], by omega, hm, fun h0 => ?_⟩
    rw [hlen] at h0
    obtain ⟨b, o, spot⟩ := a
    have hspot : spot = none := by simpa [Addr.add] using World.cell?_spot (hf 0 (by omega)).1
    subst hspot
    have hc0 := (hf 0 (by omega)).1
    rw [add_plain] at hc0
    refine ⟨b, o, rfl, World.block_lt_of_cell? _ _ hc0, fun j x hj => ?_⟩
    have hjl : j < len := by
      have := (List.getElem?_eq_some_iff.1 hj).1
      omega
    obtain ⟨g0, g1, g2⟩ := hf j (by omega)
    rw [add_plain] at g0 g1
    simp [hjl] at hj
    subst hj
    exact ⟨g0, by rw [Nat.add_assoc]; exact g1, g2⟩

theorem tlvReads_law {H : Type} (enc : TypeId × Value → H) (W : World) (base : Nat) (v0 : Value) (d0 : DataW H) (p0 : List MemPlace) (v1 : Value) (d1 : DataW H) (p1 : List MemPlace)
    (ok0 : Value.okWide Try.prog W .any base 25 v0) (ok1 : Value.okWide Try.prog W .any base 32 v1)
    (h0 : DataW.Trod enc Try.prog W 0 (fun _ => true) true 25 v0 d0 p0) (h1 : DataW.Trod enc Try.prog W 0 (fun _ => true) true 32 v1 d1 p1) :
    Calls Try.prog 4 #[v0, v1] W fun e W' => e = .returned (.bool true) ∧ Below W.heap.size W W' := by
  obtain ⟨l, hl⟩ := BS_of_arg ok0 h0
  obtain ⟨a1, n1, c1, rfl⟩ := okWide_slice Try.underlying32 ok1
  obtain ⟨fuel, hf⟩ := h1
  obtain ⟨asks, ha⟩ := AS_of_trod (x := _) hf
  obtain ⟨A, c, rfl, _⟩ := hl.form
  obtain ⟨A', c', e, _⟩ := id ha
  injection e with e1 e2 e3
  by_cases hlong : 2000 < l.length ∨ 100 < n1
  · exact reads_long _ _ A l.length c a1 n1 c1 rfl rfl W hlong
  · exact reads_main _ _ l asks W (hl.lt.mono fun _ h => h.2) ha (by omega) (by omega)

end Go.Proofs.Ytcmklfknhlfenaa
