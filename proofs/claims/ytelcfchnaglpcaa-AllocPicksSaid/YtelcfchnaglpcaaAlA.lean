/-
  The program's own functions of layer 11: groups, Pages, mayBe, bit, Count, Pick: each one's contract over the loaded program.
  No condition but sizes that each contract names.
-/
import Derived.Test.YtelcfchnaglpcaaInts
import Derived.Test.YtelcfchnaglpcaaBools
import Derived.Test.YtelcfchnaglpcaaAlM
import Derived.Test.YtelcfchnaglpcaaStep
namespace Go.Proofs.Ytelcfchnaglpcaa
open Go.RowKit
set_option maxRecDepth 100000
set_option linter.unusedVariables false

/-- groups. -/
theorem groups_any (n : Int) (hn : I64 n) (s : Int) (hs : 2 ≤ s) (w : World) :
    Calls Try.prog 24 #[.int .i64 n, .int .i64 s] w fun e w' => e = .returned (.int .i64 (if n < 1 then 0 else (n - 1) / s + 1)) ∧ w = w' := by
  obtain ⟨h1, h2⟩ := hn
  by_cases h : n < 1
  · rw [if_pos h]
    go_enter Try.func24, Try.ntmps24
    go_wp2
    go_ret
    exact ⟨rfl, rfl⟩
  · rw [if_neg h]
    have e1 : (n - 1).tdiv s = (n - 1) / s := Int.tdiv_eq_ediv_of_nonneg (by omega)
    have h3 : 0 ≤ (n - 1) / s := Int.ediv_nonneg (by omega) (by omega)
    have h4 : (n - 1) / s ≤ n - 1 := Int.ediv_le_self _ (by omega)
    go_enter Try.func24, Try.ntmps24
    go_wp2
    go_ret
    exact ⟨rfl, rfl⟩

theorem pow_bit (i : Nat) : (2 : Int) ^ (7 - i % 8) % 256 = ((2 ^ (7 - i % 8) : Nat) : Int) := by
  have h : 7 - i % 8 < 8 := by omega
  generalize 7 - i % 8 = r at *
  match r, h with
  | 0, _ | 1, _ | 2, _ | 3, _ | 4, _ | 5, _ | 6, _ | 7, _ => rfl

/-- bit. -/
theorem bit_any (i : Nat) (hi : i ≤ 1000000) (w : World) :
    Calls Try.prog 25 #[.int .i64 (i : Int)] w fun e w' => e = .returned (.int .u8 ((2 ^ (7 - i % 8) : Nat) : Int)) ∧ w = w' := by
  go_enter Try.func25, Try.ntmps25
  go_wp2
  go_ret
  exact ⟨ret_int (pow_bit i), rfl⟩

/-- mayBe. -/
theorem mayBe_any (n : Int) (w : World) :
    Calls Try.prog 23 #[.int .i64 n] w fun e w' => e = .returned (.bool (decide (0 ≤ n ∧ n ≤ 4096))) ∧ w = w' := by
  by_cases h : 0 ≤ n
  · have e : decide (0 ≤ n ∧ n ≤ 4096) = decide (n ≤ 4096) := by simp [h]
    rw [e]
    have D0 := decide_eq_true h
    go_enter Try.func23, Try.ntmps23
    go_wp2
    go_ret
    exact ⟨rfl, rfl⟩
  · have e : decide (0 ≤ n ∧ n ≤ 4096) = false := by simp [h]
    rw [e]
    have D0 := decide_eq_false h
    go_enter Try.func23, Try.ntmps23
    go_wp2
    go_ret
    exact ⟨rfl, rfl⟩

/-- Count. -/
theorem count_any (S : Nat → Prop) (v : Value) (us : List Bool) (w : World) (h : BO w S v us) :
    Calls Try.prog 11 #[v] w fun e w' => e = .returned (.int .i64 (countS us : Int)) ∧ w = w' := by
  obtain ⟨A, c, rfl, hc, hcm⟩ := h.form
  have hlen : us.length ≤ 9223372036854775807 := by unfold maxLen at hcm; omega
  obtain ⟨R, hR⟩ : ∃ R, R = countS us := ⟨_, rfl⟩
  have HR : Hid ((selK (usedF us) us.length).length = R) := hR.symm
  rw [← hR]
  clear hR hc hcm
  go_enter Try.func11, Try.ntmps11
  go_wp2
  go_loopw [3, 8] (fun nv iw wr => ∃ k m : Nat, k ≤ us.length ∧ m ≤ k ∧ nv = .int .i64 m ∧ iw = .int .i64 k ∧ Hid ((selK (usedF us) k).length = m) ∧ wr = w) (fun _ iw _ => us.length - (intOf iw).toNat)
  case atStart => exact ⟨0, 0, by omega, by omega, rfl, rfl, rfl, rfl⟩
  case round =>
    obtain ⟨k, m, hk, hm, rfl, rfl, HS, rfl⟩ := hrel
    by_cases hlt : k < us.length
    · obtain ⟨b, o, rfl, _, _, h1⟩ := h.at_ (by omega)
      have hg : us[k]? = some us[k] := List.getElem?_eq_getElem hlt
      have k1 := h1 k _ hg
      have HG := Lib.hid hg
      clear h1 h hg
      generalize us[k] = u at *
      cases u with
      | true =>
        have HS2 : Hid ((selK (usedF us) (k + 1)).length = m + 1) := by
          show _ = _
          rw [selK_yes (by simp [usedF, HG.out]), List.length_append, HS.out]; rfl
        go_wp2
        go_roundw
        case rel => exact ⟨k + 1, m + 1, by omega, by omega, by go_num, by go_num, HS2, trivial⟩
        case measure => simp [intOf]; omega
      | false =>
        have HS2 : Hid ((selK (usedF us) (k + 1)).length = m) := by
          show _ = _
          rw [selK_no (by simp [usedF, HG.out])]; exact HS.out
        go_wp2
        go_roundw
        case rel => exact ⟨k + 1, m, by omega, by omega, by go_num, by go_num, HS2, trivial⟩
        case measure => simp [intOf]; omega
    · obtain rfl : k = us.length := by omega
      have hr := HR.out
      rw [HS.out] at hr
      subst hr
      clear HS HR
      go_wp2
      go_ret
      exact ⟨rfl, rfl⟩

/-- Pages. -/
theorem pages_any (n : Int) (hn : I64 n) (w : World) :
    Calls Try.prog 21 #[.int .i64 n] w fun e w' => e = .returned (.int .i64 (pagesS n)) ∧ w = w' := by
  have hg := groups_any n hn 256 (by omega) w
  unfold pagesS
  generalize (if n < 1 then 0 else (n - 1) / 256 + 1) = r at *
  go_enter Try.func21, Try.ntmps21
  go_wp2_with (go_at_call 24; refine hg.mono ?_; rintro e w' ⟨rfl, rfl⟩)
  go_ret
  exact ⟨rfl, rfl⟩

/-- What a call hands back: numbers in new memory, and whether there are such. -/
def IntsAs (w : World) (r : List Int × Bool) (e : Ending) (w' : World) : Prop :=
  ∃ v, e = .returned (.tuple #[v, .bool r.2]) ∧ w'.ownsRow w.heap.size 3 1 v r.1.length (r.1.map iv) ∧ Below w.heap.size w w'
theorem ints_none (w w' : World) (h : Below w.heap.size w w') : IntsAs w ([], false) (.returned (.tuple #[.slice none 0 0, .bool false])) w' := ⟨_, rfl, World.ownsRow_nil _ _ _ _, h⟩

theorem pick_neg (S : Nat → Prop) (v : Value) (us : List Bool) (n : Int) (hn : n < 0) (w : World) (h : BO w S v us) :
    Calls Try.prog 8 #[v, .int .i64 n] w (IntsAs w ([], false)) := by
  have hq := ints_none w w (Below.refl _ _)
  obtain ⟨A, c, rfl, hc, hcm⟩ := h.form
  have D0 := decide_eq_true hn
  clear h
  go_enter Try.func8, Try.ntmps8
  go_wp2
  go_ret2
  exact hq
theorem pick_few (S : Nat → Prop) (v : Value) (us : List Bool) (n : Int) (hn : ¬ n < 0) (hf : ((selK (freeF us) us.length).length : Int) < n) (w : World) (h : BO w S v us) :
    Calls Try.prog 8 #[v, .int .i64 n] w (IntsAs w ([], false)) := by
  have hq := ints_none w w (Below.refl _ _)
  have hct := count_any S v us w h
  have hfu := free_used us.length (Nat.le_refl _)
  have hcu : countS us = (selK (usedF us) us.length).length := rfl
  obtain ⟨A, c, rfl, hc, hcm⟩ := h.form
  have hlen : us.length ≤ 9223372036854775807 := by unfold maxLen at hcm; omega
  have D0 := decide_eq_false hn
  have D1 : decide ((us.length : Int) - (countS us : Int) < n) = true := decide_eq_true (by omega)
  have hcl : countS us ≤ us.length := by omega
  clear h hfu hcu hf hc hcm
  generalize countS us = q at *
  generalize us.length = m at *
  go_enter Try.func8, Try.ntmps8
  go_wp2_with (go_at_call 11; refine hct.mono ?_; rintro e w' ⟨rfl, rfl⟩)
  go_ret2
  exact hq

set_option maxHeartbeats 1000000 in
theorem pick_yes (v : Value) (us : List Bool) (n : Nat) (hf : n ≤ (selK (freeF us) us.length).length) (hsm : us.length ≤ 1000000000) (w : World) (h : BO w (fun b => b < w.heap.size) v us) :
    Calls Try.prog 8 #[v, .int .i64 (n : Int)] w (IntsAs w (ofN ((selK (freeF us) us.length).take n), true)) := by
  have hct := count_any _ v us w h
  have hfu := free_used us.length (Nat.le_refl _)
  have hcu : countS us = (selK (usedF us) us.length).length := rfl
  obtain ⟨A, c, rfl, hc, hcm⟩ := h.form
  have D0 : decide ((n : Int) < 0) = false := decide_eq_false (by omega)
  have D1 : decide ((us.length : Int) - (countS us : Int) < (n : Int)) = false := decide_eq_false (by omega)
  have hcl : countS us ≤ us.length := by omega
  have hnl : n ≤ us.length := by omega
  clear hfu hcu hc hcm hf
  generalize countS us = q at *
  obtain ⟨R, hR⟩ : ∃ R, R = ofN ((selK (freeF us) us.length).take n) := ⟨_, rfl⟩
  have HR : Hid (ofN ((selK (freeF us) us.length).take n) = R) := hR.symm
  rw [← hR]
  clear hR
  go_enter Try.func8, Try.ntmps8
  go_wp2_with (go_at_call 11; refine hct.mono ?_; rintro e w' ⟨rfl, rfl⟩)
  go_loopw [6, 21] (fun fv iw wr => ∃ (k : Nat) (L : List Int), k ≤ us.length ∧ iw = .int .i64 k ∧ L.length ≤ k ∧ Hid (ofN ((selK (freeF us) k).take n) = L) ∧ wr.ownsRow w.heap.size 3 1 fv L.length (L.map iv) ∧ Below w.heap.size w wr) (fun _ iw _ => us.length - (intOf iw).toNat)
  case atStart => exact ⟨0, [], by omega, rfl, by simp, by show _ = _; simp [selK_zero, ofN], World.ownsRow_nil _ _ _ _, Below.refl _ _⟩
  case round =>
    obtain ⟨k, L, hk, rfl, hL, HS, how, bl⟩ := hrel
    by_cases hlt : k < us.length
    · have hg : us[k]? = some us[k] := List.getElem?_eq_getElem hlt
      obtain ⟨b, o, rfl, hbs, hb, h1⟩ := (h.below' bl).at_ (by omega)
      have k1 := h1 k _ hg
      have HG := Lib.hid hg
      clear h1 hg hct
      generalize us[k] = u at *
      have hLn : L.length = ((selK (freeF us) k).take n).length := by rw [← HS.out, ofN_length]
      obtain ⟨A1, c1, rfl, _⟩ := (own_IS how).form
      cases u with
      | true =>
        have HS2 : Hid (ofN ((selK (freeF us) (k + 1)).take n) = L) := by
          show _ = _
          rw [selK_no (by simp [freeF, HG.out])]; exact HS.out
        by_cases hl : L.length < n
        · have D2 : decide ((L.length : Int) < (n : Int)) = true := decide_eq_true (by omega)
          clear hLn
          go_wp2
          go_roundw
          case rel => exact ⟨k + 1, L, by omega, by go_num, by omega, HS2, how, bl⟩
          case measure => simp [intOf]; omega
        · have D2 : decide ((L.length : Int) < (n : Int)) = false := decide_eq_false (by omega)
          clear hLn
          go_wp2
          go_roundw
          case rel => exact ⟨k + 1, L, by omega, by go_num, by omega, HS2, how, bl⟩
          case measure => simp [intOf]; omega
      | false =>
        by_cases hl : L.length < n
        · have HS2 : Hid (ofN ((selK (freeF us) (k + 1)).take n) = L ++ [(k : Int)]) := by
            show _ = _
            rw [selK_yes (by simp [freeF, HG.out]), take_more (by rw [← hLn]; exact hl), ofN_add, HS.out]; rfl
          have D2 : decide ((L.length : Int) < (n : Int)) = true := decide_eq_true (by omega)
          have how1 := own_past ((Below.refl wr.heap.size wr).alloc (Nat.le_refl _) (.cells #[.int .i64 (k : Int)] 3)) how
          have bl1 := bl.alloc bl.size (.cells #[.int .i64 (k : Int)] 3)
          have kx := (KB.new wr 3 #[.int .i64 (k : Int)]).cell 0
          have hll : L.length ≤ 1000000000 := by omega
          obtain ⟨L2, hL2⟩ : ∃ L2, L2 = L ++ [(k : Int)] := ⟨_, rfl⟩
          rw [← hL2] at HS2
          have hl2 : L2.length ≤ k + 1 := by rw [hL2, List.length_append]; simp; omega
          have HL2 := Lib.hid hL2.symm
          clear hLn how HS hL2
          go_wp2_with (at_builtin; refine wpList_grow1 _ rfl _ _ rfl w.heap.size _ L rfl how1 (k : Int) wr.heap.size 1 rfl kx hll bl1.size ?_; intro v2 w2 how2 g2 _; rw [HL2.out] at how2; have bl2 := bl1.grown g2 bl1.size (fun g e => own_ge how1 g e))
          go_roundw
          case rel => exact ⟨k + 1, L2, by omega, by go_num, hl2, HS2, how2, bl2⟩
          case measure => simp [intOf]; omega
        · have HS2 : Hid (ofN ((selK (freeF us) (k + 1)).take n) = L) := by
            show _ = _
            rw [selK_yes (by simp [freeF, HG.out]), take_full (by rw [← hLn]; exact hl)]; exact HS.out
          have D2 : decide ((L.length : Int) < (n : Int)) = false := decide_eq_false (by omega)
          clear hLn
          go_wp2
          go_roundw
          case rel => exact ⟨k + 1, L, by omega, by go_num, by omega, HS2, how, bl⟩
          case measure => simp [intOf]; omega
    · obtain rfl : k = us.length := by omega
      have hr := HR.out
      rw [HS.out] at hr
      subst hr
      clear HS HR
      go_wp2
      go_ret2
      exact ⟨_, rfl, how, bl⟩

/-- Pick. -/
theorem pick_any (v : Value) (us : List Bool) (n : Int) (hsm : us.length ≤ 1000000000) (w : World) (h : BO w (fun b => b < w.heap.size) v us) :
    Calls Try.prog 8 #[v, .int .i64 n] w (IntsAs w (pickS us n)) := by
  unfold pickS
  by_cases h0 : n < 0
  · rw [if_pos (.inl h0)]
    exact pick_neg _ v us n h0 w h
  · by_cases h1 : ((selK (freeF us) us.length).length : Int) < n
    · rw [if_pos (.inr h1)]
      exact pick_few _ v us n h0 h1 w h
    · rw [if_neg (fun h => h.elim h0 h1)]
      obtain ⟨k, rfl⟩ := Int.eq_ofNat_of_zero_le (by omega : 0 ≤ n)
      rw [Int.toNat_natCast]
      exact pick_yes v us k (by omega) hsm w h
end Go.Proofs.Ytelcfchnaglpcaa
