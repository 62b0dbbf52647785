/-
  The document's own Count, Pick, Has and Pages (layer 11), over the loaded program: each one's contract. No condition but sizes that each contract names.
-/
import Derived.Test.YtelcfchnaglpcaaAlA
namespace Go.Proofs.Ytelcfchnaglpcaa
open Go.RowKit
set_option maxRecDepth 100000
set_option linter.unusedVariables false

/-- Count. -/
theorem rcount_any (S : Nat → Prop) (v : Value) (us : List Bool) (w : World) (h : BO w S v us) :
    Calls Try.prog 12 #[v] w fun e w' => e = .returned (.int .i64 (countS us : Int)) ∧ w = w' := by
  obtain ⟨A, c, rfl, hc, hcm⟩ := h.form
  have hlen : us.length ≤ 9223372036854775807 := by unfold maxLen at hcm; omega
  obtain ⟨R, hR⟩ : ∃ R, R = countS us := ⟨_, rfl⟩
  have HR : Hid ((selK (usedF us) us.length).length = R) := hR.symm
  rw [← hR]
  clear hR hc hcm
  go_enter Try.func12, Try.ntmps12
  go_wp2
  go_loopw [3, 4] (fun nv iw wr => ∃ k m : Nat, k ≤ us.length ∧ m ≤ k ∧ nv = .int .i64 m ∧ iw = .int .i64 k ∧ Hid ((selK (usedF us) k).length = m) ∧ wr = w) (fun _ iw _ => us.length - (intOf iw).toNat)
  case atStart => exact ⟨0, 0, by omega, by omega, rfl, rfl, rfl, rfl⟩
  case round =>
    obtain ⟨k, m, hk, hm, rfl, rfl, HS, rfl⟩ := hrel
    by_cases hlt : k < us.length
    · obtain ⟨b, o, rfl, _, _, h1⟩ := h.at_ (by omega)
      have hg : us[k]? = some us[k] := List.getElem?_eq_getElem hlt
      have k1 := h1 k _ hg
      have HG := Lib.hid hg
      clear h1 h hg
      generalize us[k] = u at *
      cases u with
      | true =>
        have HS2 : Hid ((selK (usedF us) (k + 1)).length = m + 1) := by
          show _ = _
          rw [selK_yes (by simp [usedF, HG.out]), List.length_append, HS.out]; rfl
        go_wp2
        go_roundw
        case rel => exact ⟨k + 1, m + 1, by omega, by omega, by go_num, by go_num, HS2, trivial⟩
        case measure => simp [intOf]; omega
      | false =>
        have HS2 : Hid ((selK (usedF us) (k + 1)).length = m) := by
          show _ = _
          rw [selK_no (by simp [usedF, HG.out])]; exact HS.out
        go_wp2
        go_roundw
        case rel => exact ⟨k + 1, m, by omega, by omega, by go_num, by go_num, HS2, trivial⟩
        case measure => simp [intOf]; omega
    · obtain rfl : k = us.length := by omega
      have hr := HR.out
      rw [HS.out] at hr
      subst hr
      clear HS HR
      go_wp2
      go_ret
      exact ⟨rfl, rfl⟩

/-- Pages. -/
theorem rpages_any (n : Int) (hn : I64 n) (w : World) :
    Calls Try.prog 22 #[.int .i64 n] w fun e w' => e = .returned (.int .i64 (pagesS n)) ∧ w = w' := by
  obtain ⟨h1, h2⟩ := hn
  unfold pagesS
  by_cases h : n < 1
  · rw [if_pos h]
    go_enter Try.func22, Try.ntmps22
    go_wp2
    go_ret
    exact ⟨rfl, rfl⟩
  · rw [if_neg h]
    have e1 : (n - 1).tdiv 256 = (n - 1) / 256 := Int.tdiv_eq_ediv_of_nonneg (by omega)
    go_enter Try.func22, Try.ntmps22
    go_wp2
    go_ret
    exact ⟨rfl, rfl⟩

theorem mem_take_no {l : List Int} {k : Nat} {z : Int} (h : ∀ i, i < k → l[i]? ≠ some z) (hk : k = l.length) : ¬ z ∈ l := fun hm => by
  obtain ⟨i, hi, e⟩ := List.mem_iff_getElem.1 hm
  exact h i (by omega) (by rw [List.getElem?_eq_getElem hi, e])

/-- Has. -/
theorem has_any (S : Nat → Prop) (v : Value) (l : List Int) (z : Int) (w : World) (h : IS w S v l) :
    Calls Try.prog 26 #[v, .int .i64 z] w fun e w' => e = .returned (.bool (decide (z ∈ l))) ∧ w = w' := by
  obtain ⟨A, c, rfl, hc, hcm, _⟩ := h.form
  have hlen : l.length ≤ 9223372036854775807 := by unfold maxLen at hcm; omega
  obtain ⟨R, hR⟩ : ∃ R, R = decide (z ∈ l) := ⟨_, rfl⟩
  have HR := Lib.hid hR
  rw [← hR]
  clear hR hc hcm
  go_enter Try.func26, Try.ntmps26
  go_wp2
  go_loopw [5] (fun iw wr => ∃ k : Nat, k ≤ l.length ∧ iw = .int .i64 k ∧ Hid (∀ i, i < k → l[i]? ≠ some z) ∧ wr = w) (fun iw _ => l.length - (intOf iw).toNat)
  case atStart => exact ⟨0, by omega, rfl, fun i hi => absurd hi (Nat.not_lt_zero _), rfl⟩
  case round =>
    obtain ⟨k, hk, rfl, HS, rfl⟩ := hrel
    by_cases hlt : k < l.length
    · obtain ⟨b, o, rfl, _, _, h1⟩ := h.at_ (by omega)
      have hg : l[k]? = some l[k] := List.getElem?_eq_getElem hlt
      have k1 := h1 k _ hg
      have HG := Lib.hid hg
      have HM : Hid (l[k] ∈ l) := List.getElem_mem hlt
      clear h1 h hg
      generalize l[k] = y at *
      by_cases e : y = z
      · subst e
        have hr : R = true := by rw [HR.out]; exact decide_eq_true HM.out
        subst hr
        clear HS HR HG HM
        go_wp2
        go_ret
        exact ⟨rfl, rfl⟩
      · have HS2 : Hid (∀ i, i < k + 1 → l[i]? ≠ some z) := fun i hi hz => by
          by_cases e2 : i = k
          · subst e2
            rw [HG.out] at hz
            injection hz with hz
            exact e hz
          · exact HS.out i (by omega) hz
        have D1 : decide (y = z) = false := decide_eq_false e
        have D2 : (y == z) = false := by simp [e]
        clear HS HR HG HM
        go_wp2
        go_roundw
        case rel => exact ⟨k + 1, by omega, by go_num, HS2, trivial⟩
        case measure => simp [intOf]; omega
    · obtain rfl : k = l.length := by omega
      have hr : R = false := by rw [HR.out]; exact decide_eq_false (mem_take_no HS.out rfl)
      subst hr
      clear HS HR
      go_wp2
      go_ret
      exact ⟨rfl, rfl⟩

set_option maxHeartbeats 1000000 in
/-- Pick. -/
theorem rpick_any (v : Value) (us : List Bool) (n : Int) (hsm : us.length ≤ 1000000000) (w : World) (h : BO w (fun b => b < w.heap.size) v us) :
    Calls Try.prog 9 #[v, .int .i64 n] w (IntsAs w (pickS us n)) := by
  obtain ⟨A, c, rfl, hc, hcm⟩ := h.form
  obtain ⟨R, hR⟩ : ∃ R, R = pickS us n := ⟨_, rfl⟩
  have HN : Hid (n < 0 → R = ([], false)) := fun h => by rw [hR]; exact if_pos (.inl h)
  have HF : Hid (((selK (freeF us) us.length).length : Int) < n → R = ([], false)) := fun h => by rw [hR]; exact if_pos (.inr h)
  have HY : Hid (∀ k, k ≤ us.length → ((selK (freeF us) k).length : Int) = n → R = (ofN (selK (freeF us) k), true)) := fun k hk h => by
    have ht := selK_take (freeF us) (k := k) us.length hk
    have hl : (selK (freeF us) k).length ≤ (selK (freeF us) us.length).length := by rw [← ht]; simp; omega
    rw [hR]
    unfold pickS
    rw [if_neg (by omega), show n.toNat = (selK (freeF us) k).length from by omega, ht]
  rw [← hR]
  clear hR hc hcm
  go_enter Try.func9, Try.ntmps9
  go_wp2
  go_loopw [6, 7] (fun fv iw wr => ∃ (k : Nat) (L : List Int), k ≤ us.length ∧ iw = .int .i64 k ∧ L.length ≤ k ∧ (L.length = 0 ∨ (L.length : Int) ≤ n) ∧ Hid (ofN (selK (freeF us) k) = L) ∧ wr.ownsRow w.heap.size 3 1 fv L.length (L.map iv) ∧ Below w.heap.size w wr) (fun _ iw _ => us.length - (intOf iw).toNat)
  case atStart => exact ⟨0, [], by omega, rfl, by simp, .inl rfl, rfl, World.ownsRow_nil _ _ _ _, Below.refl _ _⟩
  case round =>
    obtain ⟨k, L, hk, rfl, hL, hLn, HS, how, bl⟩ := hrel
    obtain ⟨A1, c1, rfl, _⟩ := (own_IS how).form
    have hLs : L.length = (selK (freeF us) k).length := by rw [← HS.out, ofN_length]
    have HLS := Lib.hid hLs
    clear hLs
    by_cases hlt : k < us.length ∧ (L.length : Int) < n
    · obtain ⟨hlt, hl⟩ := hlt
      have hg : us[k]? = some us[k] := List.getElem?_eq_getElem hlt
      obtain ⟨b, o, rfl, hbs, hb, h1⟩ := (h.below' bl).at_ (by omega)
      have k1 := h1 k _ hg
      have HG := Lib.hid hg
      have D1 : decide ((k : Int) < (us.length : Int)) = true := decide_eq_true (by omega)
      have D2 : decide ((L.length : Int) < n) = true := decide_eq_true hl
      clear h1 hg
      generalize us[k] = u at *
      cases u with
      | true =>
        have HS2 : Hid (ofN (selK (freeF us) (k + 1)) = L) := by
          show _ = _
          rw [selK_no (by simp [freeF, HG.out])]; exact HS.out
        go_wp2
        go_roundw
        case rel => exact ⟨k + 1, L, by omega, by go_num, by omega, by omega, HS2, how, bl⟩
        case measure => simp [intOf]; omega
      | false =>
        have HS2 : Hid (ofN (selK (freeF us) (k + 1)) = L ++ [(k : Int)]) := by
          show _ = _
          rw [selK_yes (by simp [freeF, HG.out]), ofN_add, HS.out]; rfl
        have how1 := own_past ((Below.refl wr.heap.size wr).alloc (Nat.le_refl _) (.cells #[.int .i64 (k : Int)] 3)) how
        have bl1 := bl.alloc bl.size (.cells #[.int .i64 (k : Int)] 3)
        have kx := (KB.new wr 3 #[.int .i64 (k : Int)]).cell 0
        have hll : L.length ≤ 1000000000 := by omega
        obtain ⟨L2, hL2⟩ : ∃ L2, L2 = L ++ [(k : Int)] := ⟨_, rfl⟩
        rw [← hL2] at HS2
        have hl2 : L2.length = L.length + 1 := by rw [hL2, List.length_append]; rfl
        have hl3 : L2.length ≤ k + 1 ∧ (L2.length = 0 ∨ (L2.length : Int) ≤ n) := by omega
        have HL3 := Lib.hid hl3
        have HL2 := Lib.hid hL2.symm
        clear how HS hL2 hl2 hl3
        go_wp2_with (at_builtin; refine wpList_grow1 _ rfl _ _ rfl w.heap.size _ L rfl how1 (k : Int) wr.heap.size 1 rfl kx hll bl1.size ?_; intro v2 w2 how2 g2 _; rw [HL2.out] at how2; have bl2 := bl1.grown g2 bl1.size (fun g e => own_ge how1 g e))
        go_roundw
        case rel => exact ⟨k + 1, L2, by omega, by go_num, HL3.out.1, HL3.out.2, HS2, how2, bl2⟩
        case measure => simp [intOf]; omega
    · by_cases h0 : n < 0
      · have hr := HN.out h0
        subst hr
        have hq := ints_none w wr bl
        have D2 : decide ((L.length : Int) < n) = false := decide_eq_false (by omega)
        have D3 : decide (n < 0) = true := decide_eq_true h0
        clear HS HLS HN HF HY hlt
        by_cases hk1 : k < us.length
        · have D1 : decide ((k : Int) < (us.length : Int)) = true := decide_eq_true (by omega)
          go_wp2
          go_ret2
          exact hq
        · have D1 : decide ((k : Int) < (us.length : Int)) = false := decide_eq_false (by omega)
          go_wp2
          go_ret2
          exact hq
      · have D3 : decide (n < 0) = false := decide_eq_false h0
        by_cases hl : (L.length : Int) < n
        · obtain rfl : k = us.length := by omega
          have hr := HF.out (by rw [← HLS.out]; exact hl)
          subst hr
          have hq := ints_none w wr bl
          have D2 : decide ((L.length : Int) < n) = true := decide_eq_true hl
          clear HS HLS HN HF HY hlt
          go_wp2
          go_ret2
          exact hq
        · have hr := HY.out k hk (by rw [← HLS.out]; omega)
          rw [HS.out] at hr
          subst hr
          have D2 : decide ((L.length : Int) < n) = false := decide_eq_false hl
          clear HS HLS HN HF HY hlt
          by_cases hk1 : k < us.length
          · have D1 : decide ((k : Int) < (us.length : Int)) = true := decide_eq_true (by omega)
            go_wp2
            go_ret2
            exact ⟨_, rfl, how, bl⟩
          · have D1 : decide ((k : Int) < (us.length : Int)) = false := decide_eq_false (by omega)
            go_wp2
            go_ret2
            exact ⟨_, rfl, how, bl⟩
end Go.Proofs.Ytelcfchnaglpcaa
