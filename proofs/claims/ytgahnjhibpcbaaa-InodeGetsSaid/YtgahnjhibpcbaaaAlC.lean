/-
  The program's List, over the loaded program: its contract. No condition but sizes that it names.
-/
import Derived.Test.YtgahnjhibpcbaaaAlB
namespace Go.Proofs.Ytgahnjhibpcbaaa
open Go.RowKit
set_option maxRecDepth 100000
set_option linter.unusedVariables false

theorem list_wrong (S : Nat → Prop) (v : Value) (b : List UInt8) (n : Int) (hn : n < 0 ∨ 4096 < n) (w : World) (h : BS w S v b) :
    Calls Try.prog 34 #[v, .int .i64 n] w (IntsAs w ([], false)) := by
  have hq := ints_none w w (Below.refl _ _)
  obtain ⟨A, c, rfl, hc, hcm, _⟩ := h.form
  have hm := mayBe_any n w
  rw [decide_eq_false (by omega)] at hm
  clear h hn
  go_enter Try.func34, Try.ntmps34
  go_wp2_with (go_at_call 44; refine hm.mono ?_; rintro e w' ⟨rfl, rfl⟩)
  go_ret2
  exact hq

theorem list_short (S : Nat → Prop) (v : Value) (b : List UInt8) (n : Int) (hn : ¬ n < 0) (hn2 : ¬ 4096 < n) (hb : b.length ≠ bytesN n) (w : World) (h : BS w S v b) :
    Calls Try.prog 34 #[v, .int .i64 n] w (IntsAs w ([], false)) := by
  have hq := ints_none w w (Below.refl _ _)
  have hgr := groups_8 n hn hn2 w
  obtain ⟨A, c, rfl, hc, hcm, _⟩ := h.form
  have hm := mayBe_any n w
  rw [decide_eq_true (by omega)] at hm
  generalize bytesN n = m at *
  have D0 : ((b.length : Int) != (m : Int)) = true := by simp; omega
  have D1 : ¬ (b.length : Int) = (m : Int) := by omega
  clear h hn
  generalize b.length = q at *
  go_enter Try.func34, Try.ntmps34
  go_wp2_with (first
    | (go_at_call 44; refine hm.mono ?_; rintro e w' ⟨rfl, rfl⟩)
    | (go_at_call 45; refine hgr.mono ?_; rintro e w' ⟨rfl, rfl⟩))
  go_ret2
  exact hq

set_option maxHeartbeats 2000000 in
theorem list_right (v : Value) (b : List UInt8) (n : Nat) (hn : n ≤ 4096) (hl : b.length = bytesN n) (w : World) (h : BS w (fun b => b < w.heap.size) v b) :
    Calls Try.prog 34 #[v, .int .i64 (n : Int)] w (IntsAs w (if ∃ i, i < 8 * b.length ∧ n ≤ i ∧ bitAt b i = true then ([], false) else (ofN (selK (bitAt b) (8 * b.length)), true))) := by
  have hgr := groups_8 n (by omega) (by omega) w
  have hm := mayBe_any n w
  rw [decide_eq_true (by omega)] at hm
  have hml : b.length ≤ 512 := by rw [hl]; unfold bytesN; omega
  rw [← hl] at hgr
  obtain ⟨R, hR⟩ : ∃ R, R = if ∃ i, i < 8 * b.length ∧ n ≤ i ∧ bitAt b i = true then ([], false) else (ofN (selK (bitAt b) (8 * b.length)), true) := ⟨_, rfl⟩
  have HN : Hid (∀ i, i < 8 * b.length → n ≤ i → bitAt b i = true → R = ([], false)) := fun i h1 h2 h3 => by rw [hR, if_pos ⟨i, h1, h2, h3⟩]
  have HY : Hid ((∀ i, i < 8 * b.length → bitAt b i = true → i < n) → R = (ofN (selK (bitAt b) (8 * b.length)), true)) := fun hh => by
    rw [hR, if_neg]
    rintro ⟨i, h1, h2, h3⟩
    have := hh i h1 h3
    omega
  rw [← hR]
  obtain ⟨A, c, rfl, hc, hcm, _⟩ := h.form
  clear hR hl hc hcm
  go_enter Try.func34, Try.ntmps34
  go_wp2_with (first
    | (go_at_call 44; refine hm.mono ?_; rintro e w' ⟨rfl, rfl⟩)
    | (go_at_call 45; refine hgr.mono ?_; rintro e w' ⟨rfl, rfl⟩))
  go_loopw [6, 21] (fun av iw wr => ∃ (k : Nat) (L : List Int), k ≤ 8 * b.length ∧ iw = .int .i64 k ∧ L.length ≤ k ∧ Hid (ofN (selK (bitAt b) k) = L) ∧ Hid (∀ i, i < k → bitAt b i = true → i < n) ∧
    wr.ownsRow w.heap.size 3 1 av L.length (L.map iv) ∧ Below w.heap.size w wr) (fun _ iw _ => 8 * b.length - (intOf iw).toNat)
  case atStart =>
    exact ⟨0, [], by omega, rfl, by simp, by show _ = _; simp [selK_zero, ofN], fun i hi => absurd hi (Nat.not_lt_zero _), World.ownsRow_nil _ _ _ _, Below.refl _ _⟩
  case round =>
    clear hm hgr
    obtain ⟨k, L, hk, rfl, hL, HS, HA, how, bl⟩ := hrel
    by_cases hlt : k < 8 * b.length
    · obtain ⟨bb, o, rfl, hbs, hbb, h1⟩ := (h.below' bl).at_ (by omega)
      have hql : k / 8 < b.length := by omega
      obtain ⟨x, hx⟩ : ∃ x, b[k / 8]? = some x := ⟨_, List.getElem?_eq_getElem hql⟩
      have kx := h1 (k / 8) x hx
      have hbit := fun W => (bit_any k (by omega) W).mono fun e w' h => (⟨h.1, h.2.symm⟩ : e = .returned (.int .u8 ((2 ^ (7 - k % 8) : Nat) : Int)) ∧ w' = W)
      have hB : 2 ^ (7 - k % 8) < 256 := Nat.lt_of_le_of_lt (Nat.pow_le_pow_right (by omega) (by omega : 7 - k % 8 ≤ 7)) (by decide)
      have hba := bitAt_and hx
      generalize 2 ^ (7 - k % 8) = B at *
      have hand := u8_and_nat x.toNat B x.toNat_lt hB
      have hq8 : (k : Int) / 8 = ((k / 8 : Nat) : Int) := by omega
      have hqw : IntKind.i64.wrap ((k / 8 : Nat) : Int) = ((k / 8 : Nat) : Int) := by rw [IntWalk.i64_in _ (by omega)]
      generalize x.toNat &&& B = E at *
      generalize x.toNat = xn at *
      generalize k / 8 = q at *
      obtain ⟨A1, c1, rfl, _⟩ := (own_IS how).form
      clear hx h1 hB
      cases hbk : bitAt b k with
      | false =>
        rw [hbk] at hba
        have hE : E = 0 := by simpa using hba
        have HS2 : Hid (ofN (selK (bitAt b) (k + 1)) = L) := by show _ = _; rw [selK_no hbk]; exact HS.out
        have HA2 : Hid (∀ i, i < k + 1 → bitAt b i = true → i < n) := fun i hi hbi => by
          by_cases e : i = k
          · subst e; rw [hbk] at hbi; cases hbi
          · exact HA.out i (by omega) hbi
        subst hE
        clear hba hbk HS HA
        go_wp2
        go_quiet (first | (go_at_call 46; exact Calls.quiet_of_same (hbit _)) | fail)
        go_wp2
        go_roundw
        case rel => exact ⟨k + 1, L, by omega, by go_num, by omega, HS2, HA2, how, Below_drawn bl _⟩
        case measure => simp [intOf]; omega
      | true =>
        rw [hbk] at hba
        have hE : E ≠ 0 := by simpa using hba
        have D0 : decide ((E : Int) = 0) = false := decide_eq_false (by omega)
        have D1 : ((E : Int) == 0) = false := by simp; omega
        have D2 : ¬ (E : Int) = 0 := by omega
        by_cases hkn : k < n
        · have HS2 : Hid (ofN (selK (bitAt b) (k + 1)) = L ++ [(k : Int)]) := by show _ = _; rw [selK_yes hbk, ofN_add, HS.out]; rfl
          have HA2 : Hid (∀ i, i < k + 1 → bitAt b i = true → i < n) := fun i hi hbi => by
            by_cases e : i = k
            · subst e; exact hkn
            · exact HA.out i (by omega) hbi
          have D3 : decide ((n : Int) ≤ (k : Int)) = false := decide_eq_false (by omega)
          obtain ⟨L2, hL2⟩ : ∃ L2, L2 = L ++ [(k : Int)] := ⟨_, rfl⟩
          rw [← hL2] at HS2
          have hl2 : L2.length ≤ k + 1 := by rw [hL2, List.length_append]; simp; omega
          have HL2 := Lib.hid hL2.symm
          have hll : L.length ≤ 1000000000 := by omega
          clear hba hbk HS HA hL2
          go_wp2
          go_quiet (first | (go_at_call 46; exact Calls.quiet_of_same (hbit _)) | fail)
          replace how : (wr.drewN nq).ownsRow w.heap.size 3 1 (.slice A1 L.length c1) L.length (L.map iv) := how
          replace bl := Below_drawn bl nq
          generalize wr.drewN nq = w1 at *
          have how1 := own_past ((Below.refl w1.heap.size w1).alloc (Nat.le_refl _) (.cells #[.int .i64 (k : Int)] 3)) how
          have bl1 := bl.alloc bl.size (.cells #[.int .i64 (k : Int)] 3)
          have kx2 := (KB.new w1 3 #[.int .i64 (k : Int)]).cell 0
          clear how bl
          go_wp2_with (at_builtin; refine wpList_grow1 _ rfl _ _ rfl w.heap.size _ L rfl how1 (k : Int) w1.heap.size 1 rfl kx2 hll bl1.size ?_; intro v2 w2 how2 g2 _; rw [HL2.out] at how2; have bl2 := bl1.grown g2 bl1.size (fun g e => own_ge how1 g e))
          go_roundw
          case rel => exact ⟨k + 1, L2, by omega, by go_num, hl2, HS2, HA2, how2, bl2⟩
          case measure => simp [intOf]; omega
        · have hr := HN.out k hlt (by omega) hbk
          subst hr
          have D3 : decide ((n : Int) ≤ (k : Int)) = true := decide_eq_true (by omega)
          clear hba hbk HS HA HN HY
          go_wp2
          go_quiet (first | (go_at_call 46; exact Calls.quiet_of_same (hbit _)) | fail)
          have hq := ints_none w _ (Below_drawn bl nq)
          go_wp2
          go_ret2
          exact hq
    · obtain rfl : k = 8 * b.length := by omega
      have hr := HY.out fun i hi hbi => HA.out i hi hbi
      rw [HS.out] at hr
      subst hr
      clear HS HA HN HY
      go_wp2
      go_ret2
      exact ⟨_, rfl, how, bl⟩

/-- List. -/
theorem list_any (v : Value) (b : List UInt8) (n : Int) (w : World) (h : BS w (fun b => b < w.heap.size) v b) :
    Calls Try.prog 34 #[v, .int .i64 n] w (IntsAs w (listS b n)) := by
  unfold listS
  by_cases h0 : n < 0
  · rw [if_pos (.inl h0)]
    exact list_wrong _ v b n (.inl h0) w h
  · by_cases h1 : 4096 < n
    · rw [if_pos (.inr (.inl h1))]
      exact list_wrong _ v b n (.inr h1) w h
    · by_cases h2 : b.length = bytesN n
      · obtain ⟨k, rfl⟩ := Int.eq_ofNat_of_zero_le (by omega : 0 ≤ n)
        have hr := list_right v b k (by omega) h2 w h
        by_cases h3 : ∃ i, i < 8 * b.length ∧ k ≤ i ∧ bitAt b i = true
        · rw [if_pos h3] at hr
          obtain ⟨i, a, c, d⟩ := h3
          rw [if_pos (.inr (.inr (.inr ⟨i, a, by omega, d⟩)))]
          exact hr
        · rw [if_neg h3] at hr
          rw [if_neg]
          · exact hr
          · rintro (h | h | h | ⟨i, a, c, d⟩)
            · exact h0 h
            · exact h1 h
            · exact h h2
            · exact h3 ⟨i, a, by omega, d⟩
      · rw [if_pos (.inr (.inr (.inl h2)))]
        exact list_short _ v b n h0 h1 h2 w h
end Go.Proofs.Ytgahnjhibpcbaaa
