/-
  HdT: The document's Same (layer 22), over the loaded program: its contract. No condition. (wip/gen/store/HdT.src is printed by wip/gen/hold/mk_hdt.py.)
  HoldTurnsW: The law HoldTurns over the loaded program: every holds, with one placed, released, amended. No condition. (Printed by wip/gen/hold/mk_turns.py.)
-/
import Derived.Test.YtdkmjdcddldjgaaHy04
import Derived.Test.YtdkmjdcddldjgaaHy06
import Derived.Test.YtdkmjdcddldjgaaHy13
import Derived.Test.YtdkmjdcddldjgaaHy19
set_option linter.unusedVariables false
set_option maxRecDepth 100000
namespace Go.Proofs.Ytdkmjdcddldjgaa
section
open Go.RowKit Go.ChangeShapes Go.WideShapes Go.Joins
set_option maxHeartbeats 8000000 in
theorem xhsame_any (S S' : Nat → Prop) (f g : Nat) (a : List (Hl f)) (b : List (Hl g)) (va vb : Value) (w : World) (ha : HS w S f va a) (hb : HS w S' g vb b) :
    Calls Try.prog 15 #[va, vb] w fun e w' => e = .returned (.bool (sameSL (sameH f g) a b)) ∧ Below w.heap.size w w' := by
  obtain ⟨A, cap, rfl, hl3, hm3, _⟩ := ha.form
  obtain ⟨A', cap', rfl, _⟩ := hb.form
  have hlen : a.length ≤ 9223372036854775807 := by unfold maxLen at hm3; omega
  by_cases h3 : a.length = b.length
  case neg =>
    rw [zsame_long h3]
    have g2 : ((a.length : Int) != (b.length : Int)) = true := bne_iff_ne.2 (by omega)
    clear ha hb hl3 hm3
    go_enter Try.func15, Try.ntmps15
    go_wp2_with fail
    go_ret
    exact ⟨rfl, Below.refl _ _⟩
  rw [← h3] at hb ⊢
  have HR : Hid ((∀ (i : Nat) (u : Hl f) (v : Hl g), a[i]? = some u → b[i]? = some v → sameH f g u v = true) → sameSL (sameH f g) a b = true) := fun h => zsame_yes h3 h
  have HN : Hid (∀ (i : Nat) (u : Hl f) (v : Hl g), a[i]? = some u → b[i]? = some v → sameH f g u v = false → sameSL (sameH f g) a b = false) := fun i u v h1 h2 h => zsame_stop h1 h2 h
  have H3 := Lib.hid h3
  have HAT := Lib.hid (fun W (hb : Below w.heap.size w W) j (hj : j < a.length) => hold_atb ha rfl hb j hj)
  have HBT := Lib.hid (fun W (hbb : Below w.heap.size w W) j (hj : j < b.length) => hold_atb hb h3.symm hbb j hj)
  clear h3 ha hb hl3 hm3
  generalize sameSL (sameH f g) a b = r at *
  go_enter Try.func15, Try.ntmps15
  go_wp2_with fail
  go_loopw [5] (fun iv wr => ∃ j : Nat, j ≤ a.length ∧ Hid (∀ (i : Nat) (u : Hl f) (v : Hl g), i < j → a[i]? = some u → b[i]? = some v → sameH f g u v = true) ∧ iv = .int .i64 j ∧ Below w.heap.size w wr) (fun iv _ => a.length - (intOf iv).toNat)
  case atStart => exact ⟨0, by omega, fun i u v h => absurd h (by omega), rfl, Below.refl _ _⟩
  case round =>
    obtain ⟨j, hj, hall, rfl, B⟩ := hrel
    by_cases hlt : j < a.length
    · have hlt' : j < b.length := by have := H3.out; omega
      have hltI : (j : Int) < (a.length : Int) := by omega
      obtain ⟨b1, o1, e0, e1, e2, e3, e4, e5, e6, rfl, hb1, k0, k1, k2, k3, k4, k5, k6, h0, _, hz, h6⟩ := HAT.out _ B j hlt
      obtain ⟨b2, o2, d0, d1, d2, d3, d4, d5, d6, rfl, hb2, m0, m1, m2, m3, m4, m5, m6, h0', _, hz', h6'⟩ := HBT.out _ B j hlt'
      obtain ⟨s, hs⟩ : ∃ s : ByteArray, s = ⟨a[j].id.toArray⟩ := ⟨_, rfl⟩
      obtain ⟨s', hs'⟩ : ∃ s : ByteArray, s = ⟨b[j].id.toArray⟩ := ⟨_, rfl⟩
      have g0 : e0 = .string s := by rw [h0, hs]; rfl
      have g0' : d0 = .string s' := by rw [h0', hs']; rfl
      have gq := zeq_txt s s' _ _ hs hs'
      have B' : Below w.heap.size w wr.drew := Below_drawn B 1
      have hc := zrsame_any S S' f g a[j].sc b[j].sc _ _ wr.drew ⟨_, _, _, _, _, rfl, hz.below' (Below_drawn (Below.refl _ _) 1)⟩ ⟨_, _, _, _, _, rfl, hz'.below' (Below_drawn (Below.refl _ _) 1)⟩
      obtain ⟨i1, l2, i3, i4, X5, n5, z5, rfl, rfl, rfl, rfl, rfl⟩ := hz.form
      obtain ⟨i1', l2', i3', i4', X5', n5', z5', rfl, rfl, rfl, rfl, rfl⟩ := hz'.form
      obtain ⟨s2, hs2⟩ : ∃ s : ByteArray, strV l2 = .string s := ⟨_, rfl⟩
      obtain ⟨s2', hs2'⟩ : ∃ s : ByteArray, strV l2' = .string s := ⟨_, rfl⟩
      rw [hs2] at k2 hc
      rw [hs2'] at m2 hc
      subst g0 g0' h6 h6'
      have hyes : Hid (sameH f g a[j] b[j] = true → ∀ (i : Nat) (u : Hl f) (v : Hl g), i < j + 1 → a[i]? = some u → b[i]? = some v → sameH f g u v = true) := by
        intro hp i u v hi hu hw
        rcases Nat.lt_or_ge i j with h | h
        · exact hall.out i u v h hu hw
        · obtain rfl : i = j := by omega
          rw [List.getElem?_eq_getElem hlt] at hu
          rw [List.getElem?_eq_getElem hlt'] at hw
          injection hu with hu
          injection hw with hw
          rw [← hu, ← hw]; exact hp
      have hno : Hid (sameH f g a[j] b[j] = false → r = false) := fun hp => HN.out j _ _ (List.getElem?_eq_getElem hlt) (List.getElem?_eq_getElem hlt') hp
      have hpt : sameH f g a[j] b[j] = (decide (a[j].id = b[j].id) && decide (a[j].act = b[j].act) && sameS f g a[j].sc b[j].sc) := rfl
      have hl1 : b1 < wr.drew.heap.size := Nat.lt_of_lt_of_le hb1 B.size
      have hl2 : b2 < wr.drew.heap.size := Nat.lt_of_lt_of_le hb2 B.size
      generalize a[j].act = p at *
      generalize b[j].act = q at *
      have hc := Lib.hid hc
      have hcells : ∀ W, Below wr.drew.heap.size wr.drew W → W.cell? ⟨b1, o1 + j * 7, none⟩ = some (.string s) ∧ W.cell? ⟨b1, o1 + j * 7 + 1, none⟩ = some (.int .i64 i1) ∧ W.cell? ⟨b1, o1 + j * 7 + 2, none⟩ = some (.string s2) ∧ W.cell? ⟨b1, o1 + j * 7 + 3, none⟩ = some (.int .i64 i3) ∧ W.cell? ⟨b1, o1 + j * 7 + 4, none⟩ = some (.int .i64 i4) ∧ W.cell? ⟨b1, o1 + j * 7 + 5, none⟩ = some (.slice X5 n5 z5) ∧ W.cell? ⟨b1, o1 + j * 7 + 6, none⟩ = some (.bool p) ∧ W.cell? ⟨b2, o2 + j * 7, none⟩ = some (.string s') ∧ W.cell? ⟨b2, o2 + j * 7 + 1, none⟩ = some (.int .i64 i1') ∧ W.cell? ⟨b2, o2 + j * 7 + 2, none⟩ = some (.string s2') ∧ W.cell? ⟨b2, o2 + j * 7 + 3, none⟩ = some (.int .i64 i3') ∧ W.cell? ⟨b2, o2 + j * 7 + 4, none⟩ = some (.int .i64 i4') ∧ W.cell? ⟨b2, o2 + j * 7 + 5, none⟩ = some (.slice X5' n5' z5') ∧ W.cell? ⟨b2, o2 + j * 7 + 6, none⟩ = some (.bool q) := fun W hb => ⟨zfar hb hl1 k0, zfar hb hl1 k1, zfar hb hl1 k2, zfar hb hl1 k3, zfar hb hl1 k4, zfar hb hl1 k5, zfar hb hl1 k6, zfar hb hl2 m0, zfar hb hl2 m1, zfar hb hl2 m2, zfar hb hl2 m3, zfar hb hl2 m4, zfar hb hl2 m5, zfar hb hl2 m6⟩
      have HC := Lib.hid hcells
      clear hcells HAT HBT HN hall hz hz' hs hs' hs2 hs2' h0 h0'
      clear k0 k1 k2 k3 k4 k5 k6 m0 m1 m2 m3 m4 m5 m6 hb1 hb2
      by_cases hid : a[j].id = b[j].id
      case neg =>
        rw [decide_eq_false hid] at gq hpt
        have hr := hno.out (by rw [hpt]; rfl)
        clear hno hyes hpt hid hc HR
        subst hr
        go_wp2_with fail
        rename_i KK hKK
        have HKK := Lib.hid hKK
        clear hKK
        refine wp_region_held_drew (S := (fun W => W.cell? ⟨b1, o1 + j * 7, none⟩ = some (.string s) ∧ W.cell? ⟨b1, o1 + j * 7 + 1, none⟩ = some (.int .i64 i1) ∧ W.cell? ⟨b1, o1 + j * 7 + 2, none⟩ = some (.string s2) ∧ W.cell? ⟨b1, o1 + j * 7 + 3, none⟩ = some (.int .i64 i3) ∧ W.cell? ⟨b1, o1 + j * 7 + 4, none⟩ = some (.int .i64 i4) ∧ W.cell? ⟨b1, o1 + j * 7 + 5, none⟩ = some (.slice X5 n5 z5) ∧ W.cell? ⟨b1, o1 + j * 7 + 6, none⟩ = some (.bool p) ∧ W.cell? ⟨b2, o2 + j * 7, none⟩ = some (.string s') ∧ W.cell? ⟨b2, o2 + j * 7 + 1, none⟩ = some (.int .i64 i1') ∧ W.cell? ⟨b2, o2 + j * 7 + 2, none⟩ = some (.string s2') ∧ W.cell? ⟨b2, o2 + j * 7 + 3, none⟩ = some (.int .i64 i3') ∧ W.cell? ⟨b2, o2 + j * 7 + 4, none⟩ = some (.int .i64 i4') ∧ W.cell? ⟨b2, o2 + j * 7 + 5, none⟩ = some (.slice X5' n5' z5') ∧ W.cell? ⟨b2, o2 + j * 7 + 6, none⟩ = some (.bool q))) (by kernel_rfl) (HC.out _ (Below.refl _ _)) (fun hHeld => ?_)
        refine hyY (some 17) 0 rfl hHeld ?_; go_frame
        refine hyY (some 18) 1 rfl hHeld ?_; go_frame
        refine hyY (some 19) 2 rfl hHeld ?_; go_frame
        refine hyY (some 20) 3 rfl hHeld ?_; go_frame
        refine hyY (some 21) 4 rfl hHeld ?_; go_frame
        refine hyY (some 22) 5 rfl hHeld ?_; go_frame
        refine hyY (some 23) 6 rfl hHeld ?_; go_frame
        refine hyY (some 24) 7 rfl hHeld ?_; go_frame
        refine hyY (some 25) 8 rfl hHeld ?_; go_frame
        refine hyY (some 26) 9 rfl hHeld ?_; go_frame
        refine hyY (some 27) 10 rfl hHeld ?_; go_frame
        refine hyY (some 28) 11 rfl hHeld ?_; go_frame
        refine hyN (some 29) 12 rfl hHeld ?_; go_frame
        refine hyN (some 30) 13 rfl hHeld ?_; go_frame
        refine hyN (some 31) 14 rfl hHeld ?_; go_frame
        refine hyN (some 32) 15 rfl hHeld ?_; go_frame
        refine hyN (some 33) 16 rfl hHeld ?_; go_frame
        refine hyN (some 34) 17 rfl hHeld ?_; go_frame
        refine hyN (some 35) 18 rfl hHeld ?_; go_frame
        refine hyN (some 36) 19 rfl hHeld ?_; go_frame
        refine hyN (some 37) 20 rfl hHeld ?_; go_frame
        refine hyN (some 38) 21 rfl hHeld ?_; go_frame
        refine hyN (some 39) 22 rfl hHeld ?_; go_frame
        refine hyY (some 40) 23 rfl hHeld ?_; go_frame
        refine hyY (some 41) 24 rfl hHeld ?_; go_frame
        refine hyN (some 42) 25 rfl hHeld ?_; go_frame
        refine hyN (some 43) 26 rfl hHeld ?_; go_frame
        refine hyN (some 44) 27 rfl hHeld ?_; go_frame
        refine hyN (some 45) 28 rfl hHeld ?_; go_frame
        refine hyN (some 46) 29 rfl hHeld ?_; go_frame
        refine hyN (some 47) 30 rfl hHeld ?_; go_frame
        refine hyN (some 48) 31 rfl hHeld ?_; go_frame
        refine hyN (some 49) 32 rfl hHeld ?_; go_frame
        refine hyN (some 50) 33 rfl hHeld ?_; go_frame
        refine hyN (some 51) 34 rfl hHeld ?_; go_frame
        refine hyN (some 52) 35 rfl hHeld ?_; go_frame
        refine hyN (some 53) 36 rfl hHeld ?_; go_frame
        refine hyY (some 54) 37 rfl hHeld ?_; go_frame
        refine wpAnyH_done (by kernel_rfl) ?_ _
        have hKK := HKK.out
        go_wp2_with fail
        go_ret
        exact ⟨rfl, B'⟩
      rw [decide_eq_true hid] at gq hpt
      by_cases hac : p = q
      case neg =>
        have gp : (p == q) = false := beq_eq_false_iff_ne.2 hac
        rw [decide_eq_false hac] at hpt
        have hr := hno.out (by rw [hpt]; rfl)
        clear hno hyes hpt hid hc HR hac
        subst hr
        go_wp2_with fail
        rename_i KK hKK
        have HKK := Lib.hid hKK
        clear hKK
        refine wp_region_held_drew (S := (fun W => W.cell? ⟨b1, o1 + j * 7, none⟩ = some (.string s) ∧ W.cell? ⟨b1, o1 + j * 7 + 1, none⟩ = some (.int .i64 i1) ∧ W.cell? ⟨b1, o1 + j * 7 + 2, none⟩ = some (.string s2) ∧ W.cell? ⟨b1, o1 + j * 7 + 3, none⟩ = some (.int .i64 i3) ∧ W.cell? ⟨b1, o1 + j * 7 + 4, none⟩ = some (.int .i64 i4) ∧ W.cell? ⟨b1, o1 + j * 7 + 5, none⟩ = some (.slice X5 n5 z5) ∧ W.cell? ⟨b1, o1 + j * 7 + 6, none⟩ = some (.bool p) ∧ W.cell? ⟨b2, o2 + j * 7, none⟩ = some (.string s') ∧ W.cell? ⟨b2, o2 + j * 7 + 1, none⟩ = some (.int .i64 i1') ∧ W.cell? ⟨b2, o2 + j * 7 + 2, none⟩ = some (.string s2') ∧ W.cell? ⟨b2, o2 + j * 7 + 3, none⟩ = some (.int .i64 i3') ∧ W.cell? ⟨b2, o2 + j * 7 + 4, none⟩ = some (.int .i64 i4') ∧ W.cell? ⟨b2, o2 + j * 7 + 5, none⟩ = some (.slice X5' n5' z5') ∧ W.cell? ⟨b2, o2 + j * 7 + 6, none⟩ = some (.bool q))) (by kernel_rfl) (HC.out _ (Below.refl _ _)) (fun hHeld => ?_)
        refine hyY (some 17) 0 rfl hHeld ?_; go_frame
        refine hyY (some 18) 1 rfl hHeld ?_; go_frame
        refine hyY (some 19) 2 rfl hHeld ?_; go_frame
        refine hyY (some 20) 3 rfl hHeld ?_; go_frame
        refine hyY (some 21) 4 rfl hHeld ?_; go_frame
        refine hyY (some 22) 5 rfl hHeld ?_; go_frame
        refine hyY (some 23) 6 rfl hHeld ?_; go_frame
        refine hyY (some 24) 7 rfl hHeld ?_; go_frame
        refine hyY (some 25) 8 rfl hHeld ?_; go_frame
        refine hyY (some 26) 9 rfl hHeld ?_; go_frame
        refine hyY (some 27) 10 rfl hHeld ?_; go_frame
        refine hyY (some 28) 11 rfl hHeld ?_; go_frame
        refine hyY (some 29) 12 rfl hHeld ?_; go_frame
        refine hyY (some 30) 13 rfl hHeld ?_; go_frame
        refine hyY (some 31) 14 rfl hHeld ?_; go_frame
        refine hyY (some 32) 15 rfl hHeld ?_; go_frame
        refine hyY (some 33) 16 rfl hHeld ?_; go_frame
        refine hyY (some 34) 17 rfl hHeld ?_; go_frame
        refine hyY (some 35) 18 rfl hHeld ?_; go_frame
        refine hyY (some 36) 19 rfl hHeld ?_; go_frame
        refine hyY (some 37) 20 rfl hHeld ?_; go_frame
        refine hyY (some 38) 21 rfl hHeld ?_; go_frame
        refine hyY (some 39) 22 rfl hHeld ?_; go_frame
        refine hyY (some 40) 23 rfl hHeld ?_; go_frame
        refine hyY (some 41) 24 rfl hHeld ?_; go_frame
        refine hyN (some 42) 25 rfl hHeld ?_; go_frame
        refine hyN (some 43) 26 rfl hHeld ?_; go_frame
        refine hyN (some 44) 27 rfl hHeld ?_; go_frame
        refine hyN (some 45) 28 rfl hHeld ?_; go_frame
        refine hyN (some 46) 29 rfl hHeld ?_; go_frame
        refine hyN (some 47) 30 rfl hHeld ?_; go_frame
        refine hyN (some 48) 31 rfl hHeld ?_; go_frame
        refine hyN (some 49) 32 rfl hHeld ?_; go_frame
        refine hyN (some 50) 33 rfl hHeld ?_; go_frame
        refine hyN (some 51) 34 rfl hHeld ?_; go_frame
        refine hyN (some 52) 35 rfl hHeld ?_; go_frame
        refine hyN (some 53) 36 rfl hHeld ?_; go_frame
        refine hyY (some 54) 37 rfl hHeld ?_; go_frame
        refine wpAnyH_done (by kernel_rfl) ?_ _
        have hKK := HKK.out
        go_wp2_with fail
        go_ret
        exact ⟨rfl, B'⟩
      · have gp : (p == q) = true := by rw [hac]; simp
        rw [decide_eq_true hac, Bool.true_and, Bool.true_and] at hpt
        have HP := Lib.hid hpt
        clear hpt hid hac
        generalize sameS f g a[j].sc b[j].sc = t at *
        go_wp2_with fail
        rename_i KK hKK
        have HKK := Lib.hid hKK
        clear hKK
        refine wp_region_held_drew (S := (fun W => W.cell? ⟨b1, o1 + j * 7, none⟩ = some (.string s) ∧ W.cell? ⟨b1, o1 + j * 7 + 1, none⟩ = some (.int .i64 i1) ∧ W.cell? ⟨b1, o1 + j * 7 + 2, none⟩ = some (.string s2) ∧ W.cell? ⟨b1, o1 + j * 7 + 3, none⟩ = some (.int .i64 i3) ∧ W.cell? ⟨b1, o1 + j * 7 + 4, none⟩ = some (.int .i64 i4) ∧ W.cell? ⟨b1, o1 + j * 7 + 5, none⟩ = some (.slice X5 n5 z5) ∧ W.cell? ⟨b1, o1 + j * 7 + 6, none⟩ = some (.bool p) ∧ W.cell? ⟨b2, o2 + j * 7, none⟩ = some (.string s') ∧ W.cell? ⟨b2, o2 + j * 7 + 1, none⟩ = some (.int .i64 i1') ∧ W.cell? ⟨b2, o2 + j * 7 + 2, none⟩ = some (.string s2') ∧ W.cell? ⟨b2, o2 + j * 7 + 3, none⟩ = some (.int .i64 i3') ∧ W.cell? ⟨b2, o2 + j * 7 + 4, none⟩ = some (.int .i64 i4') ∧ W.cell? ⟨b2, o2 + j * 7 + 5, none⟩ = some (.slice X5' n5' z5') ∧ W.cell? ⟨b2, o2 + j * 7 + 6, none⟩ = some (.bool q))) (by kernel_rfl) (HC.out _ (Below.refl _ _)) (fun hHeld => ?_)
        refine hyY (some 17) 0 rfl hHeld ?_; go_frame
        refine hyY (some 18) 1 rfl hHeld ?_; go_frame
        refine hyY (some 19) 2 rfl hHeld ?_; go_frame
        refine hyY (some 20) 3 rfl hHeld ?_; go_frame
        refine hyY (some 21) 4 rfl hHeld ?_; go_frame
        refine hyY (some 22) 5 rfl hHeld ?_; go_frame
        refine hyY (some 23) 6 rfl hHeld ?_; go_frame
        refine hyY (some 24) 7 rfl hHeld ?_; go_frame
        refine hyY (some 25) 8 rfl hHeld ?_; go_frame
        refine hyY (some 26) 9 rfl hHeld ?_; go_frame
        refine hyY (some 27) 10 rfl hHeld ?_; go_frame
        refine hyY (some 28) 11 rfl hHeld ?_; go_frame
        refine hyY (some 29) 12 rfl hHeld ?_; go_frame
        refine hyY (some 30) 13 rfl hHeld ?_; go_frame
        refine hyY (some 31) 14 rfl hHeld ?_; go_frame
        refine hyY (some 32) 15 rfl hHeld ?_; go_frame
        refine hyY (some 33) 16 rfl hHeld ?_; go_frame
        refine hyY (some 34) 17 rfl hHeld ?_; go_frame
        refine hyY (some 35) 18 rfl hHeld ?_; go_frame
        refine hyY (some 36) 19 rfl hHeld ?_; go_frame
        refine hyY (some 37) 20 rfl hHeld ?_; go_frame
        refine hyY (some 38) 21 rfl hHeld ?_; go_frame
        refine hyY (some 39) 22 rfl hHeld ?_; go_frame
        refine hyY (some 40) 23 rfl hHeld ?_; go_frame
        refine hyY (some 41) 24 rfl hHeld ?_; go_frame
        refine hyY (some 42) 25 rfl hHeld ?_; go_frame
        refine hyY (some 43) 26 rfl hHeld ?_; go_frame
        refine hyY (some 44) 27 rfl hHeld ?_; go_frame
        refine hyY (some 45) 28 rfl hHeld ?_; go_frame
        refine hyY (some 46) 29 rfl hHeld ?_; go_frame
        refine hyY (some 47) 30 rfl hHeld ?_; go_frame
        refine hyY (some 48) 31 rfl hHeld ?_; go_frame
        refine hyY (some 49) 32 rfl hHeld ?_; go_frame
        refine hyY (some 50) 33 rfl hHeld ?_; go_frame
        refine hyY (some 51) 34 rfl hHeld ?_; go_frame
        refine hyO (some 52) 35 rfl (fun K hK => ?_)
        go_simp
        go_at_call 34
        refine hc.out.mono ?_
        rintro e w5 ⟨rfl, b5⟩
        go_wp2_with fail
        refine hK.out _ _ ?_ (fun hH2 => ?_)
        · exact HC.out _ b5
        clear hHeld hK K; have hHeld := hH2; clear hH2; try go_frame
        refine hyY (some 53) 36 rfl hHeld ?_; go_frame
        refine hyY (some 54) 37 rfl hHeld ?_; go_frame
        refine wpAnyH_done (by kernel_rfl) ?_ _
        skip
        have hKK := HKK.out
        replace B' := B'.trans (b5.mono B'.size)
        clear hc b5 HC hHeld
        cases t with
        | true =>
          have hy := Lib.hid (hyes.out HP.out)
          clear hyes hno HP
          go_wp2_with fail
          go_roundw
          case rel => exact ⟨j + 1, by omega, hy.out, by go_num, B'⟩
          case measure => simp [intOf]; omega
        | false =>
          have hr := hno.out HP.out
          clear hyes hno HP HR
          subst hr
          go_wp2_with fail
          go_ret
          exact ⟨rfl, B'⟩
    · have hr : r = true := HR.out fun i u v hu hv => hall.out i u v (by have := (List.getElem?_eq_some_iff.1 hu).1; omega) hu hv
      clear HR HN hall HAT HBT
      subst hr
      go_wp2_with fail
      go_ret
      exact ⟨rfl, B⟩
end
section
open Go.RowKit Go.ChangeShapes Go.WideShapes Go.Joins
theorem hsame_yes {f : Nat} {p : List (Hl f)} {v1 v2 : Value} {w1 w2 : World} (h1 : HS w1 (fun b => b < w1.heap.size) f v1 p) (b : Below w1.heap.size w1 w2) (h2 : HS w2 (fun b => b < w2.heap.size) f v2 p) (W : World) (hb : Below w2.heap.size w2 W) :
    Calls Try.prog 15 #[v1, v2] W fun e w' => e = .returned (.bool true) ∧ Below W.heap.size W w' := by
  have h := xhsame_any _ _ f f p p v1 v2 W (h1.below' (b.trans (hb.mono b.size))) (h2.below' hb)
  rw [(sameHL_iff f p p).2 rfl] at h
  exact h
set_option maxHeartbeats 8000000 in
theorem holdTurns_main (f : Nat) (l : List (Hl f)) (id : List UInt8) (hid : id.length ≤ maxLen) (x : Sc f) (v vx : Value) (w : World) (hv : HS w (fun b => b < w.heap.size) f v l) (hx : ZV w (fun b => b < w.heap.size) f vx x) :
    Calls Try.prog 3 #[v, strV id, vx] w fun e w' => e = .returned (.bool true) ∧ Below w.heap.size w w' := by
  obtain ⟨c0, c1, c2, c3, c4, rfl, hx5⟩ := hx
  obtain ⟨i0, l1, i2, i3, X4, n4, z4, rfl, rfl, rfl, rfl, rfl⟩ := hx5.form
  have K := KB.new w 25 #[.int .i64 i0, strV l1, .int .i64 i2, .int .i64 i3, .slice X4 n4 z4]
  have B := (Below.refl w.heap.size w).alloc (Nat.le_refl _) (.cells #[.int .i64 i0, strV l1, .int .i64 i2, .int .i64 i3, .slice X4 n4 z4] 25)
  obtain ⟨s1, hs1⟩ : ∃ s : ByteArray, strV l1 = .string s := ⟨_, rfl⟩
  obtain ⟨s, hs⟩ : ∃ s : ByteArray, s = ⟨id.toArray⟩ := ⟨_, rfl⟩
  have hsv : strV id = .string s := by rw [hs]; rfl
  have hsz : (s.size : Int) = (id.length : Int) := by rw [hs]; rfl
  rw [hs1] at K B hx5 ⊢
  have HL0 := Lib.hid (fun W => hlive_any W)
  have HSM := Lib.hid (fun W (hb : Below w.heap.size w W) => xhsmall_any _ f l v W (hv.below' hb))
  have HZM := Lib.hid (fun W (hb : Below w.heap.size w W) => zsmall_any _ f x _ W ⟨_, _, _, _, _, rfl, hx5.below' hb⟩)
  have HV : ∀ W, Below w.heap.size w W → HS W (fun b => b < W.heap.size) f v l := fun W hb => (hv.below' hb).mono fun b h => Nat.lt_of_lt_of_le h hb.size
  have HX : ∀ W, Below w.heap.size w W → ZV W (fun b => b < W.heap.size) f (.agg #[.int .i64 i0, .string s1, .int .i64 i2, .int .i64 i3, .slice X4 n4 z4]) x := fun W hb => ⟨_, _, _, _, _, rfl, (hx5.below' hb).mono fun b h => Nat.lt_of_lt_of_le h hb.size⟩
  have hc1 : FewH f l → id.length ≤ 100 → fewZ f x → ∀ W, Below w.heap.size w W → Calls Try.prog 9 #[v, .string s, .agg #[.int .i64 i0, .string s1, .int .i64 i2, .int .i64 i3, .slice X4 n4 z4]] W (HoldsErr W f (placeH f l id x)) := fun hl hi hx0 W hb => by
    rw [← hsv]; exact hplace_any f l hl id (by omega) x hx0 v _ W (HV W hb) (HX W hb)
  have HC1 := Lib.hid hc1
  have hc2 : FewH f l → id.length ≤ 100 → fewZ f x → ∀ W, Below w.heap.size w W → Calls Try.prog 10 #[v, .string s, .agg #[.int .i64 i0, .string s1, .int .i64 i2, .int .i64 i3, .slice X4 n4 z4]] W (HoldsErr W f (placeH f l id x)) := fun hl hi hx0 W hb => by
    rw [← hsv]; exact xhplace_any f l hl.1 id hid x v _ W (HV W hb) (HX W hb)
  have HC2 := Lib.hid hc2
  have hc3 : FewH f l → id.length ≤ 100 → fewZ f x → ∀ W, Below w.heap.size w W → Calls Try.prog 11 #[v, .string s] W (HoldsErr W f (releaseH f l id)) := fun hl hi hx0 W hb => by
    rw [← hsv]; exact hrelease_any f l hl id v W (HV W hb)
  have HC3 := Lib.hid hc3
  have hc4 : FewH f l → id.length ≤ 100 → fewZ f x → ∀ W, Below w.heap.size w W → Calls Try.prog 12 #[v, .string s] W (HoldsErr W f (releaseH f l id)) := fun hl hi hx0 W hb => by
    rw [← hsv]; exact xhrelease_any f l hl.1 id hid v W (HV W hb)
  have HC4 := Lib.hid hc4
  have hc5 : FewH f l → id.length ≤ 100 → fewZ f x → ∀ W, Below w.heap.size w W → Calls Try.prog 13 #[v, .string s, .agg #[.int .i64 i0, .string s1, .int .i64 i2, .int .i64 i3, .slice X4 n4 z4]] W (HoldsErr W f (amendH f l id x)) := fun hl hi hx0 W hb => by
    rw [← hsv]; exact hamend_any f l hl id x hx0 v _ W (HV W hb) (HX W hb)
  have HC5 := Lib.hid hc5
  have hc6 : FewH f l → id.length ≤ 100 → fewZ f x → ∀ W, Below w.heap.size w W → Calls Try.prog 14 #[v, .string s, .agg #[.int .i64 i0, .string s1, .int .i64 i2, .int .i64 i3, .slice X4 n4 z4]] W (HoldsErr W f (amendH f l id x)) := fun hl hi hx0 W hb => by
    rw [← hsv]; exact xhamend_any f l hl.1 id hid x v _ W (HV W hb) (HX W hb)
  have HC6 := Lib.hid hc6
  rw [hsv]
  clear hv hx5 hid HV HX hc1 hc2 hc3 hc4 hc5 hc6 hs hsv hs1
  generalize placeH f l id x = p1 at *
  generalize releaseH f l id = p2 at *
  generalize amendH f l id x = p3 at *
  go_enter Try.func3, Try.ntmps3
  go_wp2_with fail
  refine (HSM.out _ B).mono ?_
  rintro e w1 ⟨sm, rfl, hsm, b1⟩
  replace K := K.below b1 K.lt
  replace B := B.trans (b1.mono B.size)
  have HM := Lib.hid hsm
  clear hsm b1 HSM
  cases sm with
  | false =>
    clear HM HZM HC1 HC2 HC3 HC4 HC5 HC6
    go_wp2_with fail
    refine (HL0.out _).mono ?_
    rintro e w2 ⟨rfl, b2⟩
    replace B := B.trans (b2.mono B.size)
    clear b2 HL0
    go_wp2_with fail
    go_ret
    exact ⟨rfl, B⟩
  | true =>
  have HLF := Lib.hid (FewH.of_small (HM.out rfl))
  clear HM
  by_cases h100 : 100 < id.length
  · have d1 : decide ((100 : Int) < (s.size : Int)) = true := decide_eq_true (by omega)
    clear HZM HC1 HC2 HC3 HC4 HC5 HC6 HLF hsz
    go_wp2_with fail
    refine (HL0.out _).mono ?_
    rintro e w2 ⟨rfl, b2⟩
    replace B := B.trans (b2.mono B.size)
    clear b2 HL0
    go_wp2_with fail
    go_ret
    exact ⟨rfl, B⟩
  have d1 : decide ((100 : Int) < (s.size : Int)) = false := decide_eq_false (by omega)
  have HI := Lib.hid (show id.length ≤ 100 by omega)
  clear hsz h100
  have q0 := K.cell 0
  have q1 := K.cell 1
  have q2 := K.cell 2
  have q3 := K.cell 3
  have q4 := K.cell 4
  go_wp2_with fail
  refine (HZM.out _ B).mono ?_
  rintro e w2 ⟨zm, rfl, hz, b2⟩
  have HZ := Lib.hid hz
  clear hz
  replace K := K.below b2 K.lt
  replace B := B.trans (b2.mono B.size)
  clear b2 HZM q0 q1 q2 q3 q4
  cases zm with
  | false =>
    clear HC1 HC2 HC3 HC4 HC5 HC6 HLF HI HZ
    go_wp2_with fail
    refine (HL0.out _).mono ?_
    rintro e w2 ⟨rfl, b2⟩
    replace B := B.trans (b2.mono B.size)
    clear b2 HL0
    go_wp2_with fail
    go_ret
    exact ⟨rfl, B⟩
  | true =>
  have hq1 := Lib.hid (HC1.out HLF.out HI.out (HZ.out (by first | rfl | trivial)))
  have hq2 := Lib.hid (HC2.out HLF.out HI.out (HZ.out (by first | rfl | trivial)))
  have hq3 := Lib.hid (HC3.out HLF.out HI.out (HZ.out (by first | rfl | trivial)))
  have hq4 := Lib.hid (HC4.out HLF.out HI.out (HZ.out (by first | rfl | trivial)))
  have hq5 := Lib.hid (HC5.out HLF.out HI.out (HZ.out (by first | rfl | trivial)))
  have hq6 := Lib.hid (HC6.out HLF.out HI.out (HZ.out (by first | rfl | trivial)))
  clear HC1 HC2 HC3 HC4 HC5 HC6 HLF HI HZ
  have q0 := K.cell 0
  have q1 := K.cell 1
  have q2 := K.cell 2
  have q3 := K.cell 3
  have q4 := K.cell 4
  go_wp2_with fail
  refine (hq1.out _ B).mono ?_
  rintro e w3 ⟨v1, rfl, hv1, b1⟩
  replace K := K.below b1 K.lt
  replace B := B.trans (b1.mono B.size)
  clear hq1 q0 q1 q2 q3 q4
  have H1 := Lib.hid hv1
  have C1 := Lib.hid b1
  clear hv1 b1
  have q0 := K.cell 0
  have q1 := K.cell 1
  have q2 := K.cell 2
  have q3 := K.cell 3
  have q4 := K.cell 4
  go_wp2_with fail
  refine (hq2.out _ B).mono ?_
  rintro e w4 ⟨v2, rfl, hv2, b2⟩
  replace K := K.below b2 K.lt
  replace B := B.trans (b2.mono B.size)
  clear hq2 q0 q1 q2 q3 q4
  have S1 := Lib.hid (fun W hb => hsame_yes H1.out b2 hv2 W hb)
  have E1 := Below.refl w4.heap.size w4
  clear H1 C1 hv2 b2
  have q0 := K.cell 0
  have q1 := K.cell 1
  have q2 := K.cell 2
  have q3 := K.cell 3
  have q4 := K.cell 4
  go_wp2_with fail
  refine (hq3.out _ B).mono ?_
  rintro e w5 ⟨v3, rfl, hv3, b3⟩
  replace K := K.below b3 K.lt
  replace B := B.trans (b3.mono B.size)
  clear hq3 q0 q1 q2 q3 q4
  replace E1 := E1.trans (b3.mono E1.size)
  have H3 := Lib.hid hv3
  have C3 := Lib.hid b3
  clear hv3 b3
  have q0 := K.cell 0
  have q1 := K.cell 1
  have q2 := K.cell 2
  have q3 := K.cell 3
  have q4 := K.cell 4
  go_wp2_with fail
  refine (hq4.out _ B).mono ?_
  rintro e w6 ⟨v4, rfl, hv4, b4⟩
  replace K := K.below b4 K.lt
  replace B := B.trans (b4.mono B.size)
  clear hq4 q0 q1 q2 q3 q4
  replace E1 := E1.trans (b4.mono E1.size)
  have S2 := Lib.hid (fun W hb => hsame_yes H3.out b4 hv4 W hb)
  have E2 := Below.refl w6.heap.size w6
  clear H3 C3 hv4 b4
  have q0 := K.cell 0
  have q1 := K.cell 1
  have q2 := K.cell 2
  have q3 := K.cell 3
  have q4 := K.cell 4
  go_wp2_with fail
  refine (hq5.out _ B).mono ?_
  rintro e w7 ⟨v5, rfl, hv5, b5⟩
  replace K := K.below b5 K.lt
  replace B := B.trans (b5.mono B.size)
  clear hq5 q0 q1 q2 q3 q4
  replace E1 := E1.trans (b5.mono E1.size)
  replace E2 := E2.trans (b5.mono E2.size)
  have H5 := Lib.hid hv5
  have C5 := Lib.hid b5
  clear hv5 b5
  have q0 := K.cell 0
  have q1 := K.cell 1
  have q2 := K.cell 2
  have q3 := K.cell 3
  have q4 := K.cell 4
  go_wp2_with fail
  refine (hq6.out _ B).mono ?_
  rintro e w8 ⟨v6, rfl, hv6, b6⟩
  replace K := K.below b6 K.lt
  replace B := B.trans (b6.mono B.size)
  clear hq6 q0 q1 q2 q3 q4
  replace E1 := E1.trans (b6.mono E1.size)
  replace E2 := E2.trans (b6.mono E2.size)
  have S3 := Lib.hid (fun W hb => hsame_yes H5.out b6 hv6 W hb)
  have E3 := Below.refl w8.heap.size w8
  clear H5 C5 hv6 b6
  clear K
  have HN := Lib.hid (fun e W => hlnum_any e W)
  go_wp2_with fail
  refine (S1.out _ E1).mono ?_
  rintro e w9 ⟨rfl, b9⟩
  replace B := B.trans (b9.mono B.size)
  replace E2 := E2.trans (b9.mono E2.size)
  replace E3 := E3.trans (b9.mono E3.size)
  clear b9 S1 E1
  go_wp2_with fail
  refine (HN.out _ _).mono ?_
  rintro e w12 ⟨rfl, rfl⟩
  go_wp2_with fail
  refine (S2.out _ E2).mono ?_
  rintro e w10 ⟨rfl, b9⟩
  replace B := B.trans (b9.mono B.size)
  replace E3 := E3.trans (b9.mono E3.size)
  clear b9 S2 E2
  go_wp2_with fail
  refine (HN.out _ _).mono ?_
  rintro e w12 ⟨rfl, rfl⟩
  go_wp2_with fail
  refine (S3.out _ E3).mono ?_
  rintro e w11 ⟨rfl, b9⟩
  replace B := B.trans (b9.mono B.size)
  clear b9 S3 E3
  go_wp2_with fail
  refine (HN.out _ _).mono ?_
  rintro e w12 ⟨rfl, rfl⟩
  clear HN
  go_wp2_with fail
  refine (HL0.out _).mono ?_
  rintro e w2 ⟨rfl, b2⟩
  replace B := B.trans (b2.mono B.size)
  clear b2 HL0
  go_wp2_with fail
  go_ret
  exact ⟨rfl, B⟩
theorem holdTurns_law {H : Type} (enc : TypeId × Value → H) (W : World) (base : Nat)
    (v0 : Value) (d0 : DataW H) (p0 : List MemPlace) (v1 : Value) (d1 : DataW H) (p1 : List MemPlace) (v2 : Value) (d2 : DataW H) (p2 : List MemPlace)
    (k0 : Value.okWide Try.prog W .any base 22 v0) (k1 : Value.okWide Try.prog W .any base 9 v1) (k2 : Value.okWide Try.prog W .any base 25 v2)
    (h0 : DataW.Trod enc Try.prog W 0 (fun _ => true) true 22 v0 d0 p0) (h1 : DataW.Trod enc Try.prog W 0 (fun _ => true) true 9 v1 d1 p1) (h2 : DataW.Trod enc Try.prog W 0 (fun _ => true) true 25 v2 d2 p2) :
    Calls Try.prog 3 #[v0, v1, v2] W fun e W' => e = .returned (.bool true) ∧ Below W.heap.size W W' := by
  obtain ⟨n0, hn0⟩ := open_holds k0 h0
  obtain ⟨n2, hn2⟩ := open_scope k2 h2
  obtain ⟨l, hl⟩ := hn0 (max n0 n2) (Nat.le_max_left _ _)
  obtain ⟨x, hx⟩ := hn2 (max n0 n2) (Nat.le_max_right _ _)
  obtain ⟨id, rfl, hid⟩ := open_str k1 h1
  exact holdTurns_main _ l id hid x v0 v2 W hl hx
end
end Go.Proofs.Ytdkmjdcddldjgaa
