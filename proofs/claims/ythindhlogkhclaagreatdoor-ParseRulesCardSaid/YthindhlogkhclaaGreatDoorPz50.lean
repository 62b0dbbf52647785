/-
  PbL: The law's own functions of layer 18: num, live (the page's example), over the loaded program: each one's contract. No condition.
  RuH: The document's Same (layer 17), over the loaded program: its contract. No condition but the sizes that it names.
-/
import Derived.Test.YthindhlogkhclaaGreatDoorPz41
import Derived.Test.YthindhlogkhclaaGreatDoorPz10
import Derived.Test.YthindhlogkhclaaGreatDoorHeld
set_option linter.unusedVariables false
set_option maxRecDepth 100000
namespace Go.Proofs.YthindhlogkhclaaGreatDoor
section
open Go.RowKit
theorem num18_any (n : Int) (w : World) : Calls Tryz.prog 10 #[.int .i64 n] w fun e w' => e = .returned (.int .i64 n) ∧ w = w' := by
  go_enter Tryz.func10, Tryz.ntmps10
  go_wp2
  go_ret
  exact ⟨rfl, rfl⟩
def liveP : List UInt8 := (100 :: 101 :: 102 :: 97 :: 117 :: 108 :: 116 :: 32 :: 107 :: 101 :: 101 :: 112 :: 32 :: 50 :: 121 :: 32 :: 97 :: 102 :: 116 :: 101 :: 114 :: 32 :: 99 :: 108 :: 111 :: 115 :: 101 :: 100 :: 32 :: 116 :: 104 :: 101 :: 110 :: 32 :: 100 :: 101 :: 115 :: 116 :: 114 :: 111 :: 121 :: 59 :: [])
theorem live_cost : costP liveP = (9, 0) := by decide +kernel
theorem live_nine : (readP liveP 9).1.length = 1 ∧ (readP liveP 9).2.1 = 42 ∧ (readP liveP 9).2.2.1 = 0 := by decide +kernel
theorem live_eight : (readP liveP 8).2.2.1 = 14 := by decide +kernel
theorem live_str : strV liveP = .string ⟨#[100, 101, 102, 97, 117, 108, 116, 32, 107, 101, 101, 112, 32, 50, 121, 32, 97, 102, 116, 101, 114, 32, 99, 108, 111, 115, 101, 100, 32, 116, 104, 101, 110, 32, 100, 101, 115, 116, 114, 111, 121, 59]⟩ := rfl
set_option maxHeartbeats 4000000 in
theorem live18_any (w : World) : Calls Tryz.prog 4 #[] w fun e w' => e = .returned (.bool true) ∧ Below w.heap.size w w' := by
  have hn := num18_any
  have HC : Hid (∀ W, Calls Tryz.prog 7 #[strV liveP] W fun e w' => e = .returned (.tuple #[.int .i64 (costP liveP).1, .int .i64 (costP liveP).2]) ∧ Below W.heap.size W w') := fun W => cost18_any liveP (by unfold maxLen liveP; simp) W
  have H9 : Hid (∀ W, Calls Tryz.prog 5 #[strV liveP, .int .i64 9] W (RulesAs liveP 9 W)) := fun W => rules18_any liveP (by unfold maxLen liveP; simp) 9 (by unfold I64; omega) W
  have H8 : Hid (∀ W, Calls Tryz.prog 5 #[strV liveP, .int .i64 8] W (RulesAs liveP 8 W)) := fun W => rules18_any liveP (by unfold maxLen liveP; simp) 8 (by unfold I64; omega) W
  unfold RulesAs at H9 H8
  obtain ⟨l1, l2, l3⟩ := live_nine
  rw [l2, l3] at H9
  rw [live_eight] at H8
  rw [live_cost] at HC
  rw [live_str] at HC H9 H8
  dsimp only at HC
  have B := Below.refl w.heap.size w
  obtain ⟨x, hx⟩ : ∃ x : ByteArray, x = ⟨#[100, 101, 102, 97, 117, 108, 116, 32, 107, 101, 101, 112, 32, 50, 121, 32, 97, 102, 116, 101, 114, 32, 99, 108, 111, 115, 101, 100, 32, 116, 104, 101, 110, 32, 100, 101, 115, 116, 114, 111, 121, 59]⟩ := ⟨_, rfl⟩
  rw [← hx] at HC H9 H8
  have HX := Lib.hid hx
  clear hx
  generalize (readP liveP 8).1 = m8 at *
  generalize ((readP liveP 8).2.1 : Int) = n8 at *
  go_enter Tryz.func4, Tryz.ntmps4
  go_wp2_with fail
  rw [← HX.out]
  refine (HC.out _).mono ?_
  rintro e w1 ⟨rfl, b1⟩
  replace B := B.trans (b1.mono B.size)
  clear b1 HC
  go_wp2_with fail
  rw [← HX.out]
  refine (H9.out _).mono ?_
  rintro e w1 ⟨v9, rfl, hv9, b1⟩
  replace B := B.trans (b1.mono B.size)
  obtain ⟨A9, c9, rfl, _⟩ := hv9.form
  rw [l1]
  clear b1 H9 hv9
  go_wp2_with fail
  rw [← HX.out]
  refine (H8.out _).mono ?_
  rintro e w1 ⟨v8, rfl, hv8, b1⟩
  replace B := B.trans (b1.mono B.size)
  obtain ⟨A8, c8, rfl, _⟩ := hv8.form
  clear b1 H8 hv8
  go_wp2_with (go_at_call 10; refine (hn _ _).mono ?_; rintro e w4 ⟨rfl, rfl⟩)
  go_ret
  exact ⟨rfl, B⟩
end
section
open Go.RowKit
set_option maxHeartbeats 8000000 in
theorem rsame_any (S S' : Nat → Prop) (f : Nat) (la lb : List (Rl f)) (x y : Value) (w : World) (hx : RS w S f x la) (hy : RS w S' f y lb) :
    Calls Tryz.prog 9 #[x, y] w fun e w' => e = .returned (.bool (sameXL (sameR f f) la lb)) ∧ Below w.heap.size w w' := by
  obtain ⟨A3, cap3, rfl, hl3, hm3⟩ := hx.form
  obtain ⟨A3', cap3', rfl, hl3', _⟩ := hy.form
  have hlen : la.length ≤ 9223372036854775807 := by unfold maxLen at hm3; omega
  by_cases h3 : la.length = lb.length
  case neg =>
    rw [sameXL_len h3]
    have g1 : (la.length != lb.length) = true := bne_iff_ne.2 h3
    have g2 : ((la.length : Int) != (lb.length : Int)) = true := bne_iff_ne.2 (by omega)
    go_enter Tryz.func9, Tryz.ntmps9
    go_wp2_with fail
    go_ret
    exact ⟨rfl, Below.refl _ _⟩
  rw [← h3] at hy ⊢
  have HR : Hid ((∀ (i : Nat) (u v : Rl f), la[i]? = some u → lb[i]? = some v → sameR f f u v = true) → sameXL (sameR f f) la lb = true) := fun h => sameXL_all h3 h
  have HN : Hid (∀ (i : Nat) (u v : Rl f), la[i]? = some u → lb[i]? = some v → sameR f f u v = false → sameXL (sameR f f) la lb = false) := fun i u v h1 h2 h => sameXL_stop h1 h2 h
  have H3 := Lib.hid h3
  clear h3
  generalize sameXL (sameR f f) la lb = r at *
  go_enter Tryz.func9, Tryz.ntmps9
  go_wp2_with fail
  go_loopw [5] (fun iv wr => ∃ j : Nat, j ≤ la.length ∧ Hid (∀ (i : Nat) (u v : Rl f), i < j → la[i]? = some u → lb[i]? = some v → sameR f f u v = true) ∧ iv = .int .i64 j ∧ Below w.heap.size w wr) (fun iv _ => la.length - (intOf iv).toNat)
  case atStart => exact ⟨0, by omega, fun i u v h => absurd h (by omega), rfl, Below.refl _ _⟩
  case round =>
    obtain ⟨j, hj, hall, rfl, B⟩ := hrel
    by_cases hlt : j < la.length
    · have hltI : (j : Int) < (la.length : Int) := by omega
      have hlt' : j < lb.length := by have := H3.out; omega
      obtain ⟨b, o, e1, e2, e3, e4, rfl, hb, k0, k1, k2, k3, k4, k5, hv, _, _⟩ := rule_b hx rfl B j hlt
      obtain ⟨b', o', d1, d2, d3, d4, rfl, hb', m0, m1, m2, m3, m4, m5, hv', _, _⟩ := rule_b hy H3.out.symm B j hlt'
      have hc := rsamex_any S S' f la[j].when_ lb[j].when_ _ _ wr.drew (hv.below' (Below_drawn (Below.refl _ _) 1)) (hv'.below' (Below_drawn (Below.refl _ _) 1))
      have hp : sameR f f la[j] lb[j] = (decide (la[j].cls = lb[j].cls) && decide (la[j].act = lb[j].act) && sameX f f la[j].when_ lb[j].when_) := rfl
      have hyes : Hid (sameR f f la[j] lb[j] = true → ∀ (i : Nat) (u v : Rl f), i < j + 1 → la[i]? = some u → lb[i]? = some v → sameR f f u v = true) := by
        intro hp i u v hi hu hw
        rcases Nat.lt_or_ge i j with h | h
        · exact hall.out i u v h hu hw
        · obtain rfl : i = j := by omega
          rw [List.getElem?_eq_getElem hlt] at hu
          rw [List.getElem?_eq_getElem hlt'] at hw
          injection hu with hu
          injection hw with hw
          rw [← hu, ← hw]; exact hp
      have hno : Hid (sameR f f la[j] lb[j] = false → r = false) := fun hp => HN.out j _ _ (List.getElem?_eq_getElem hlt) (List.getElem?_eq_getElem hlt') hp
      rw [hp] at hyes hno
      clear hv hv' hp hx hy HR HN hall
      unfold strV at k0 m0
      obtain ⟨s, hs⟩ : ∃ s : ByteArray, s = ⟨la[j].cls.toArray⟩ := ⟨_, rfl⟩
      obtain ⟨s', hs'⟩ : ∃ s : ByteArray, s = ⟨lb[j].cls.toArray⟩ := ⟨_, rfl⟩
      rw [← hs] at k0
      rw [← hs'] at m0
      have gs := ne_txt s s' _ _ hs hs'
      have gq := eq_txt s s' _ _ hs hs'
      clear hs hs'
      generalize decide (la[j].cls = lb[j].cls) = ec at *
      generalize la[j].act = ac at *
      generalize lb[j].act = ac' at *
      generalize sameX f f la[j].when_ lb[j].when_ = p at *
      have B' : Below w.heap.size w wr.drew := Below_drawn B 1
      have HC : Hid (∀ W, Below wr.heap.size wr W → W.cell? ⟨b, o + j * 6, none⟩ = some (.string s) ∧ W.cell? ⟨b, o + j * 6 + 1, none⟩ = some e1 ∧ W.cell? ⟨b, o + j * 6 + 2, none⟩ = some e2 ∧ W.cell? ⟨b, o + j * 6 + 3, none⟩ = some e3 ∧ W.cell? ⟨b, o + j * 6 + 4, none⟩ = some e4 ∧ W.cell? ⟨b, o + j * 6 + 5, none⟩ = some (.int .i64 ac) ∧ W.cell? ⟨b', o' + j * 6, none⟩ = some (.string s') ∧ W.cell? ⟨b', o' + j * 6 + 1, none⟩ = some d1 ∧ W.cell? ⟨b', o' + j * 6 + 2, none⟩ = some d2 ∧ W.cell? ⟨b', o' + j * 6 + 3, none⟩ = some d3 ∧ W.cell? ⟨b', o' + j * 6 + 4, none⟩ = some d4 ∧ W.cell? ⟨b', o' + j * 6 + 5, none⟩ = some (.int .i64 ac')) := fun W hb5 => by
        have far : ∀ (g : Nat) (i : Nat) (u : Value), g < w.heap.size → wr.cell? ⟨g, i, none⟩ = some u → W.cell? ⟨g, i, none⟩ = some u := fun g i u hg hu =>
          (World.cell?_of_block (w := wr) (hb5.block g (Nat.lt_of_lt_of_le hg B.size))).trans hu
        exact ⟨far _ _ _ hb k0, far _ _ _ hb k1, far _ _ _ hb k2, far _ _ _ hb k3, far _ _ _ hb k4, far _ _ _ hb k5, far _ _ _ hb' m0, far _ _ _ hb' m1, far _ _ _ hb' m2, far _ _ _ hb' m3, far _ _ _ hb' m4, far _ _ _ hb' m5⟩
      cases ec with
      | false =>
        obtain rfl := hno.out rfl
        rw [Bool.not_false] at gs
        clear hc hyes hno
        go_wp2_with fail
        rename_i KK hKK
        have HKK := Lib.hid hKK
        clear hKK k0 k1 k2 k3 k4 k5 m0 m1 m2 m3 m4 m5
        refine wp_region_held_drew (S := (fun W => W.cell? ⟨b, o + j * 6, none⟩ = some (.string s) ∧ W.cell? ⟨b, o + j * 6 + 1, none⟩ = some e1 ∧ W.cell? ⟨b, o + j * 6 + 2, none⟩ = some e2 ∧ W.cell? ⟨b, o + j * 6 + 3, none⟩ = some e3 ∧ W.cell? ⟨b, o + j * 6 + 4, none⟩ = some e4 ∧ W.cell? ⟨b, o + j * 6 + 5, none⟩ = some (.int .i64 ac) ∧ W.cell? ⟨b', o' + j * 6, none⟩ = some (.string s') ∧ W.cell? ⟨b', o' + j * 6 + 1, none⟩ = some d1 ∧ W.cell? ⟨b', o' + j * 6 + 2, none⟩ = some d2 ∧ W.cell? ⟨b', o' + j * 6 + 3, none⟩ = some d3 ∧ W.cell? ⟨b', o' + j * 6 + 4, none⟩ = some d4 ∧ W.cell? ⟨b', o' + j * 6 + 5, none⟩ = some (.int .i64 ac'))) (by kernel_rfl) (HC.out _ (Below_drawn (Below.refl _ _) 1)) (fun hHeld => ?_)
        refine hyY (some 17) 0 rfl hHeld ?_; go_frame
        refine hyY (some 18) 1 rfl hHeld ?_; go_frame
        refine hyY (some 19) 2 rfl hHeld ?_; go_frame
        refine hyY (some 20) 3 rfl hHeld ?_; go_frame
        refine hyY (some 21) 4 rfl hHeld ?_; go_frame
        refine hyY (some 22) 5 rfl hHeld ?_; go_frame
        refine hyY (some 23) 6 rfl hHeld ?_; go_frame
        refine hyY (some 24) 7 rfl hHeld ?_; go_frame
        refine hyY (some 25) 8 rfl hHeld ?_; go_frame
        refine hyY (some 26) 9 rfl hHeld ?_; go_frame
        refine hyY (some 27) 10 rfl hHeld ?_; go_frame
        refine hyY (some 28) 11 rfl hHeld ?_; go_frame
        refine hyN (some 29) 12 rfl hHeld ?_; go_frame
        refine hyN (some 30) 13 rfl hHeld ?_; go_frame
        refine hyN (some 31) 14 rfl hHeld ?_; go_frame
        refine hyN (some 32) 15 rfl hHeld ?_; go_frame
        refine hyN (some 33) 16 rfl hHeld ?_; go_frame
        refine hyN (some 34) 17 rfl hHeld ?_; go_frame
        refine hyN (some 35) 18 rfl hHeld ?_; go_frame
        refine hyN (some 36) 19 rfl hHeld ?_; go_frame
        refine hyN (some 37) 20 rfl hHeld ?_; go_frame
        refine hyN (some 38) 21 rfl hHeld ?_; go_frame
        refine hyN (some 39) 22 rfl hHeld ?_; go_frame
        refine hyY (some 40) 23 rfl hHeld ?_; go_frame
        refine hyY (some 41) 24 rfl hHeld ?_; go_frame
        refine hyN (some 42) 25 rfl hHeld ?_; go_frame
        refine hyN (some 43) 26 rfl hHeld ?_; go_frame
        refine hyN (some 44) 27 rfl hHeld ?_; go_frame
        refine hyN (some 45) 28 rfl hHeld ?_; go_frame
        refine hyN (some 46) 29 rfl hHeld ?_; go_frame
        refine hyN (some 47) 30 rfl hHeld ?_; go_frame
        refine hyN (some 48) 31 rfl hHeld ?_; go_frame
        refine hyN (some 49) 32 rfl hHeld ?_; go_frame
        refine hyN (some 50) 33 rfl hHeld ?_; go_frame
        refine hyN (some 51) 34 rfl hHeld ?_; go_frame
        refine hyN (some 52) 35 rfl hHeld ?_; go_frame
        refine hyN (some 53) 36 rfl hHeld ?_; go_frame
        refine hyY (some 54) 37 rfl hHeld ?_; go_frame
        refine wpAnyH_done (by kernel_rfl) ?_ _
        have hKK := HKK.out
        go_wp2_with fail
        go_ret
        exact ⟨rfl, B'⟩
      | true =>
        rw [Bool.true_and] at hyes hno
        rw [Bool.not_true] at gs
        by_cases ha : ac = ac'
        case neg =>
          rw [decide_eq_false ha, Bool.false_and] at hno
          obtain rfl := hno.out rfl
          have ga : (ac != ac') = true := bne_iff_ne.2 ha
          clear hc hyes hno
          go_wp2_with fail
          rename_i KK hKK
          have HKK := Lib.hid hKK
          clear hKK k0 k1 k2 k3 k4 k5 m0 m1 m2 m3 m4 m5
          refine wp_region_held_drew (S := (fun W => W.cell? ⟨b, o + j * 6, none⟩ = some (.string s) ∧ W.cell? ⟨b, o + j * 6 + 1, none⟩ = some e1 ∧ W.cell? ⟨b, o + j * 6 + 2, none⟩ = some e2 ∧ W.cell? ⟨b, o + j * 6 + 3, none⟩ = some e3 ∧ W.cell? ⟨b, o + j * 6 + 4, none⟩ = some e4 ∧ W.cell? ⟨b, o + j * 6 + 5, none⟩ = some (.int .i64 ac) ∧ W.cell? ⟨b', o' + j * 6, none⟩ = some (.string s') ∧ W.cell? ⟨b', o' + j * 6 + 1, none⟩ = some d1 ∧ W.cell? ⟨b', o' + j * 6 + 2, none⟩ = some d2 ∧ W.cell? ⟨b', o' + j * 6 + 3, none⟩ = some d3 ∧ W.cell? ⟨b', o' + j * 6 + 4, none⟩ = some d4 ∧ W.cell? ⟨b', o' + j * 6 + 5, none⟩ = some (.int .i64 ac'))) (by kernel_rfl) (HC.out _ (Below_drawn (Below.refl _ _) 1)) (fun hHeld => ?_)
          refine hyY (some 17) 0 rfl hHeld ?_; go_frame
          refine hyY (some 18) 1 rfl hHeld ?_; go_frame
          refine hyY (some 19) 2 rfl hHeld ?_; go_frame
          refine hyY (some 20) 3 rfl hHeld ?_; go_frame
          refine hyY (some 21) 4 rfl hHeld ?_; go_frame
          refine hyY (some 22) 5 rfl hHeld ?_; go_frame
          refine hyY (some 23) 6 rfl hHeld ?_; go_frame
          refine hyY (some 24) 7 rfl hHeld ?_; go_frame
          refine hyY (some 25) 8 rfl hHeld ?_; go_frame
          refine hyY (some 26) 9 rfl hHeld ?_; go_frame
          refine hyY (some 27) 10 rfl hHeld ?_; go_frame
          refine hyY (some 28) 11 rfl hHeld ?_; go_frame
          refine hyY (some 29) 12 rfl hHeld ?_; go_frame
          refine hyY (some 30) 13 rfl hHeld ?_; go_frame
          refine hyY (some 31) 14 rfl hHeld ?_; go_frame
          refine hyY (some 32) 15 rfl hHeld ?_; go_frame
          refine hyY (some 33) 16 rfl hHeld ?_; go_frame
          refine hyY (some 34) 17 rfl hHeld ?_; go_frame
          refine hyY (some 35) 18 rfl hHeld ?_; go_frame
          refine hyY (some 36) 19 rfl hHeld ?_; go_frame
          refine hyY (some 37) 20 rfl hHeld ?_; go_frame
          refine hyY (some 38) 21 rfl hHeld ?_; go_frame
          refine hyY (some 39) 22 rfl hHeld ?_; go_frame
          refine hyY (some 40) 23 rfl hHeld ?_; go_frame
          refine hyY (some 41) 24 rfl hHeld ?_; go_frame
          refine hyN (some 42) 25 rfl hHeld ?_; go_frame
          refine hyN (some 43) 26 rfl hHeld ?_; go_frame
          refine hyN (some 44) 27 rfl hHeld ?_; go_frame
          refine hyN (some 45) 28 rfl hHeld ?_; go_frame
          refine hyN (some 46) 29 rfl hHeld ?_; go_frame
          refine hyN (some 47) 30 rfl hHeld ?_; go_frame
          refine hyN (some 48) 31 rfl hHeld ?_; go_frame
          refine hyN (some 49) 32 rfl hHeld ?_; go_frame
          refine hyN (some 50) 33 rfl hHeld ?_; go_frame
          refine hyN (some 51) 34 rfl hHeld ?_; go_frame
          refine hyN (some 52) 35 rfl hHeld ?_; go_frame
          refine hyN (some 53) 36 rfl hHeld ?_; go_frame
          refine hyY (some 54) 37 rfl hHeld ?_; go_frame
          refine wpAnyH_done (by kernel_rfl) ?_ _
          have hKK := HKK.out
          go_wp2_with fail
          go_ret
          exact ⟨rfl, B'⟩
        subst ha
        rw [decide_eq_true rfl, Bool.true_and] at hyes hno
        have ga : (ac != ac) = false := by simp
        go_wp2_with fail
        rename_i KK hKK
        have HKK := Lib.hid hKK
        clear hKK k0 k1 k2 k3 k4 k5 m0 m1 m2 m3 m4 m5
        refine wp_region_held_drew (S := (fun W => W.cell? ⟨b, o + j * 6, none⟩ = some (.string s) ∧ W.cell? ⟨b, o + j * 6 + 1, none⟩ = some e1 ∧ W.cell? ⟨b, o + j * 6 + 2, none⟩ = some e2 ∧ W.cell? ⟨b, o + j * 6 + 3, none⟩ = some e3 ∧ W.cell? ⟨b, o + j * 6 + 4, none⟩ = some e4 ∧ W.cell? ⟨b, o + j * 6 + 5, none⟩ = some (.int .i64 ac) ∧ W.cell? ⟨b', o' + j * 6, none⟩ = some (.string s') ∧ W.cell? ⟨b', o' + j * 6 + 1, none⟩ = some d1 ∧ W.cell? ⟨b', o' + j * 6 + 2, none⟩ = some d2 ∧ W.cell? ⟨b', o' + j * 6 + 3, none⟩ = some d3 ∧ W.cell? ⟨b', o' + j * 6 + 4, none⟩ = some d4 ∧ W.cell? ⟨b', o' + j * 6 + 5, none⟩ = some (.int .i64 ac))) (by kernel_rfl) (HC.out _ (Below_drawn (Below.refl _ _) 1)) (fun hHeld => ?_)
        refine hyY (some 17) 0 rfl hHeld ?_; go_frame
        refine hyY (some 18) 1 rfl hHeld ?_; go_frame
        refine hyY (some 19) 2 rfl hHeld ?_; go_frame
        refine hyY (some 20) 3 rfl hHeld ?_; go_frame
        refine hyY (some 21) 4 rfl hHeld ?_; go_frame
        refine hyY (some 22) 5 rfl hHeld ?_; go_frame
        refine hyY (some 23) 6 rfl hHeld ?_; go_frame
        refine hyY (some 24) 7 rfl hHeld ?_; go_frame
        refine hyY (some 25) 8 rfl hHeld ?_; go_frame
        refine hyY (some 26) 9 rfl hHeld ?_; go_frame
        refine hyY (some 27) 10 rfl hHeld ?_; go_frame
        refine hyY (some 28) 11 rfl hHeld ?_; go_frame
        refine hyY (some 29) 12 rfl hHeld ?_; go_frame
        refine hyY (some 30) 13 rfl hHeld ?_; go_frame
        refine hyY (some 31) 14 rfl hHeld ?_; go_frame
        refine hyY (some 32) 15 rfl hHeld ?_; go_frame
        refine hyY (some 33) 16 rfl hHeld ?_; go_frame
        refine hyY (some 34) 17 rfl hHeld ?_; go_frame
        refine hyY (some 35) 18 rfl hHeld ?_; go_frame
        refine hyY (some 36) 19 rfl hHeld ?_; go_frame
        refine hyY (some 37) 20 rfl hHeld ?_; go_frame
        refine hyY (some 38) 21 rfl hHeld ?_; go_frame
        refine hyY (some 39) 22 rfl hHeld ?_; go_frame
        refine hyY (some 40) 23 rfl hHeld ?_; go_frame
        refine hyY (some 41) 24 rfl hHeld ?_; go_frame
        refine hyY (some 42) 25 rfl hHeld ?_; go_frame
        refine hyY (some 43) 26 rfl hHeld ?_; go_frame
        refine hyY (some 44) 27 rfl hHeld ?_; go_frame
        refine hyY (some 45) 28 rfl hHeld ?_; go_frame
        refine hyY (some 46) 29 rfl hHeld ?_; go_frame
        refine hyY (some 47) 30 rfl hHeld ?_; go_frame
        refine hyY (some 48) 31 rfl hHeld ?_; go_frame
        refine hyY (some 49) 32 rfl hHeld ?_; go_frame
        refine hyY (some 50) 33 rfl hHeld ?_; go_frame
        refine hyY (some 51) 34 rfl hHeld ?_; go_frame
        refine hyO (some 52) 35 rfl (fun K hK => ?_)
        go_simp
        go_at_call 13
        refine hc.mono ?_
        rintro e w5 ⟨rfl, b5⟩
        have B5 := B'.trans (b5.mono B'.size)
        go_wp2_with fail
        refine hK.out _ _ ?_ (fun hH2 => ?_)
        · exact HC.out _ ((Below_drawn (Below.refl _ _) 1).trans b5)
        clear hHeld hK K; have hHeld := hH2; clear hH2; try go_frame
        refine hyY (some 53) 36 rfl hHeld ?_; go_frame
        refine hyY (some 54) 37 rfl hHeld ?_; go_frame
        refine wpAnyH_done (by kernel_rfl) ?_ _
        have hKK := HKK.out
        clear hc b5
        cases p with
        | true =>
          have hy := Lib.hid (hyes.out rfl)
          clear hyes hno
          go_wp2_with fail
          go_roundw
          case rel => exact ⟨j + 1, by omega, hy.out, by go_num, B5⟩
          case measure =>
            simp [intOf]
            omega
        | false =>
          have hr := hno.out rfl
          clear hyes hno
          subst hr
          go_wp2_with fail
          go_ret
          exact ⟨rfl, B5⟩
    · have hr : r = true := HR.out fun i u v hu hv => hall.out i u v (by have := (List.getElem?_eq_some_iff.1 hu).1; omega) hu hv
      clear HR HN hall
      subst hr
      go_wp2_with fail
      go_ret
      exact ⟨rfl, B⟩
end
end Go.Proofs.YthindhlogkhclaaGreatDoor
