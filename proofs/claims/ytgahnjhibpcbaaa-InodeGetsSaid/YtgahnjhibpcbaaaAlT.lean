/-
  The document's own List (layer 11), over the loaded program: its contract. No condition but sizes that it names.
-/
import Derived.Test.YtgahnjhibpcbaaaAlR
import Derived.Test.YtgahnjhibpcbaaaAlB
namespace Go.Proofs.Ytgahnjhibpcbaaa
open Go.RowKit
set_option maxRecDepth 100000
set_option linter.unusedVariables false

theorem rlist_wrong (S : Nat → Prop) (v : Value) (b : List UInt8) (n : Int) (hn : n < 0 ∨ 4096 < n) (w : World) (h : BS w S v b) :
    Calls Try.prog 41 #[v, .int .i64 n] w (IntsAs w ([], false)) := by
  have hq := ints_none w w (Below.refl _ _)
  obtain ⟨A, c, rfl, hc, hcm, _⟩ := h.form
  clear h
  by_cases h0 : n < 0
  · have D0 := decide_eq_true h0
    clear hn
    go_enter Try.func41, Try.ntmps41
    go_wp2
    go_ret2
    exact hq
  · have D0 := decide_eq_false h0
    have h1 : 4096 < n := by omega
    have D1 := decide_eq_true h1
    clear hn
    go_enter Try.func41, Try.ntmps41
    go_wp2
    go_ret2
    exact hq

theorem bytes_int (n : Int) (h : ¬ n < 0) : (n + 7) / 8 = (bytesN n : Int) := by unfold bytesN; omega

theorem rlist_short (S : Nat → Prop) (v : Value) (b : List UInt8) (n : Int) (hn : ¬ n < 0) (hn2 : ¬ 4096 < n) (hb : b.length ≠ bytesN n) (w : World) (h : BS w S v b) :
    Calls Try.prog 41 #[v, .int .i64 n] w (IntsAs w ([], false)) := by
  have hq := ints_none w w (Below.refl _ _)
  obtain ⟨A, c, rfl, hc, hcm, _⟩ := h.form
  have D0 := decide_eq_false hn
  have D1 := decide_eq_false hn2
  have e1 := bytes_int n hn
  have e2 : (n + 7).tdiv 8 = (n + 7) / 8 := Int.tdiv_eq_ediv_of_nonneg (by omega)
  have hml : bytesN n ≤ 512 := by unfold bytesN; omega
  have hw : IntKind.i64.wrap (bytesN n : Int) = (bytesN n : Int) := IntWalk.i64_in _ (by omega)
  generalize bytesN n = m at *
  have D2 : ((b.length : Int) != (m : Int)) = true := by simp; omega
  have D3 : ¬ (b.length : Int) = (m : Int) := by omega
  clear h
  generalize b.length = q at *
  go_enter Try.func41, Try.ntmps41
  go_wp2
  go_ret2
  exact hq

set_option maxHeartbeats 4000000 in
theorem rlist_right (v : Value) (b : List UInt8) (n : Nat) (hn : n ≤ 4096) (hl : b.length = bytesN n) (w : World) (h : BS w (fun b => b < w.heap.size) v b) :
    Calls Try.prog 41 #[v, .int .i64 (n : Int)] w (IntsAs w (if ∃ i, i < 8 * b.length ∧ n ≤ i ∧ bitAt b i = true then ([], false) else (ofN (selK (bitAt b) (8 * b.length)), true))) := by
  have hml : b.length ≤ 512 := by rw [hl]; unfold bytesN; omega
  obtain ⟨R, hR⟩ : ∃ R, R = if ∃ i, i < 8 * b.length ∧ n ≤ i ∧ bitAt b i = true then ([], false) else (ofN (selK (bitAt b) (8 * b.length)), true) := ⟨_, rfl⟩
  have HN : Hid (∀ i, i < 8 * b.length → n ≤ i → bitAt b i = true → R = ([], false)) := fun i h1 h2 h3 => by rw [hR, if_pos ⟨i, h1, h2, h3⟩]
  have HY : Hid ((∀ i, i < 8 * b.length → bitAt b i = true → i < n) → R = (ofN (selK (bitAt b) (8 * b.length)), true)) := fun hh => by
    rw [hR, if_neg]
    rintro ⟨i, h1, h2, h3⟩
    have := hh i h1 h3
    omega
  rw [← hR]
  obtain ⟨A, c, rfl, hc, hcm, _⟩ := h.form
  have D0 : decide ((n : Int) < 0) = false := decide_eq_false (by omega)
  have D1 : decide ((4096 : Int) < (n : Int)) = false := decide_eq_false (by omega)
  have e1 : ((n : Int) + 7) / 8 = (b.length : Int) := by rw [bytes_int _ (by omega), hl]
  have hw : IntKind.i64.wrap (b.length : Int) = (b.length : Int) := IntWalk.i64_in _ (by omega)
  clear hR hl hc hcm
  go_enter Try.func41, Try.ntmps41
  go_wp2
  clear e1 D0 D1 hw
  go_loopw [6, 7] (fun av iw wr => ∃ (k : Nat) (L : List Int), k ≤ 8 * b.length ∧ iw = .int .i64 k ∧ L.length ≤ k ∧ Hid (ofN (selK (bitAt b) k) = L) ∧ Hid (∀ i, i < k → bitAt b i = true → i < n) ∧
    wr.ownsRow w.heap.size 3 1 av L.length (L.map iv) ∧ Below w.heap.size w wr) (fun _ iw _ => 8 * b.length - (intOf iw).toNat)
  case atStart =>
    exact ⟨0, [], by omega, rfl, by simp, by show _ = _; simp [selK_zero, ofN], fun i hi => absurd hi (Nat.not_lt_zero _), World.ownsRow_nil _ _ _ _, Below.refl _ _⟩
  case round =>
    obtain ⟨k, L, hk, rfl, hL, HS, HA, how, bl⟩ := hrel
    obtain ⟨A1, c1, rfl, _⟩ := (own_IS how).form
    generalize wr = w1 at *
    by_cases hlt : k < 8 * b.length
    · obtain ⟨bb, o, rfl, hbs, hbb, h1⟩ := (h.below' bl).at_ (by omega)
      have hql : k / 8 < b.length := by omega
      obtain ⟨x, hx⟩ : ∃ x, b[k / 8]? = some x := ⟨_, List.getElem?_eq_getElem hql⟩
      have kx := h1 (k / 8) x hx
      have hba := bitAt_of hx
      have hxl := x.toNat_lt
      have hq8 : (k : Int) / 8 = ((k / 8 : Nat) : Int) := by omega
      have hqw : IntKind.i64.wrap ((k / 8 : Nat) : Int) = ((k / 8 : Nat) : Int) := by rw [IntWalk.i64_in _ (by omega)]
      have hr8 : (k : Int) % 8 = ((k % 8 : Nat) : Int) := by omega
      have hrl : k % 8 < 8 := Nat.mod_lt _ (by omega)
      generalize x.toNat = xn at *
      generalize k / 8 = q at *
      generalize k % 8 = r at *
      clear hx h1
      go_wp2
      go_loopw [8, 9] (fun cw jw wr => ∃ (j cc : Nat), j ≤ 7 ∧ r ≤ j ∧ cw = .int .i64 cc ∧ jw = .int .i64 j ∧ Hid (xn / 2 ^ (7 - j) = cc) ∧ cc ≤ 255 ∧ wr = w1) (fun _ jw _ => (intOf jw).toNat)
      case atStart => exact ⟨7, xn, by omega, by omega, by go_num, rfl, by show _ = _; simp, by omega, rfl⟩
      case round =>
        obtain ⟨j, cc, hj, hrj, rfl, rfl, HC, hcc, rfl⟩ := hrel
        by_cases hjr : r < j
        · have HC2 : Hid (xn / 2 ^ (7 - (j - 1)) = cc / 2) := by
            show _ = _
            rw [← HC.out, Nat.div_div_eq_div_mul, show 7 - (j - 1) = (7 - j) + 1 from by omega, Nat.pow_succ]
          clear HC
          go_wp2
          go_roundw
          case rel => exact ⟨j - 1, cc / 2, by omega, by omega, by go_num, by go_num, HC2, by omega, trivial⟩
          case measure => simp [intOf]; omega
        · obtain rfl : j = r := by omega
          rw [HC.out] at hba
          clear HC
          cases hbk : bitAt b k with
          | false =>
            rw [hbk] at hba
            have hcc2 : cc % 2 ≠ 1 := by simpa using hba.symm
            have hmod : (cc : Int) % 2 = 0 := by omega
            have HS2 : Hid (ofN (selK (bitAt b) (k + 1)) = L) := by show _ = _; rw [selK_no hbk]; exact HS.out
            have HA2 : Hid (∀ i, i < k + 1 → bitAt b i = true → i < n) := fun i hi hbi => by
              by_cases e : i = k
              · subst e; rw [hbk] at hbi; cases hbi
              · exact HA.out i (by omega) hbi
            clear hba hbk HS HA hcc2
            go_wp2
            go_roundw
            case rel => exact ⟨k + 1, L, by omega, by go_num, by omega, HS2, HA2, how, bl⟩
            case measure => simp [intOf]; omega
          | true =>
            rw [hbk] at hba
            have hcc2 : cc % 2 = 1 := by simpa using hba.symm
            have hmod : (cc : Int) % 2 = 1 := by omega
            by_cases hkn : k < n
            · have HS2 : Hid (ofN (selK (bitAt b) (k + 1)) = L ++ [(k : Int)]) := by show _ = _; rw [selK_yes hbk, ofN_add, HS.out]; rfl
              have HA2 : Hid (∀ i, i < k + 1 → bitAt b i = true → i < n) := fun i hi hbi => by
                by_cases e : i = k
                · subst e; exact hkn
                · exact HA.out i (by omega) hbi
              have D3 : decide ((n : Int) ≤ (k : Int)) = false := decide_eq_false (by omega)
              obtain ⟨L2, hL2⟩ : ∃ L2, L2 = L ++ [(k : Int)] := ⟨_, rfl⟩
              rw [← hL2] at HS2
              have hl2 : L2.length ≤ k + 1 := by rw [hL2, List.length_append]; simp; omega
              have HL2 := Lib.hid hL2.symm
              have hll : L.length ≤ 1000000000 := by omega
              have how1 := own_past ((Below.refl wr.heap.size wr).alloc (Nat.le_refl _) (.cells #[.int .i64 (k : Int)] 3)) how
              have bl1 := bl.alloc bl.size (.cells #[.int .i64 (k : Int)] 3)
              have kx2 := (KB.new wr 3 #[.int .i64 (k : Int)]).cell 0
              clear hba hbk HS HA hL2 hcc2 how bl
              go_wp2_with (at_builtin; refine wpList_grow1 _ rfl _ _ rfl w.heap.size _ L rfl how1 (k : Int) wr.heap.size 1 rfl kx2 hll bl1.size ?_; intro v2 w2 how2 g2 _; rw [HL2.out] at how2; have bl2 := bl1.grown g2 bl1.size (fun g e => own_ge how1 g e))
              go_roundw
              case rel => exact ⟨k + 1, L2, by omega, by go_num, hl2, HS2, HA2, how2, bl2⟩
              case measure => simp [intOf]; omega
            · have hr := HN.out k hlt (by omega) hbk
              subst hr
              have D3 : decide ((n : Int) ≤ (k : Int)) = true := decide_eq_true (by omega)
              have hq := ints_none w _ bl
              clear hba hbk HS HA HN HY hcc2
              go_wp2
              go_ret2
              exact hq
    · obtain rfl : k = 8 * b.length := by omega
      have hr := HY.out fun i hi hbi => HA.out i hi hbi
      rw [HS.out] at hr
      subst hr
      clear HS HA HN HY
      go_wp2
      go_ret2
      exact ⟨_, rfl, how, bl⟩

/-- List. -/
theorem rlist_any (v : Value) (b : List UInt8) (n : Int) (w : World) (h : BS w (fun b => b < w.heap.size) v b) :
    Calls Try.prog 41 #[v, .int .i64 n] w (IntsAs w (listS b n)) := by
  unfold listS
  by_cases h0 : n < 0
  · rw [if_pos (.inl h0)]
    exact rlist_wrong _ v b n (.inl h0) w h
  · by_cases h1 : 4096 < n
    · rw [if_pos (.inr (.inl h1))]
      exact rlist_wrong _ v b n (.inr h1) w h
    · by_cases h2 : b.length = bytesN n
      · obtain ⟨k, rfl⟩ := Int.eq_ofNat_of_zero_le (by omega : 0 ≤ n)
        have hr := rlist_right v b k (by omega) h2 w h
        by_cases h3 : ∃ i, i < 8 * b.length ∧ k ≤ i ∧ bitAt b i = true
        · rw [if_pos h3] at hr
          obtain ⟨i, a, c, d⟩ := h3
          rw [if_pos (.inr (.inr (.inr ⟨i, a, by omega, d⟩)))]
          exact hr
        · rw [if_neg h3] at hr
          rw [if_neg]
          · exact hr
          · rintro (h | h | h | ⟨i, a, c, d⟩)
            · exact h0 h
            · exact h1 h
            · exact h h2
            · exact h3 ⟨i, a, by omega, d⟩
      · rw [if_pos (.inr (.inr (.inl h2)))]
        exact rlist_short _ v b n h0 h1 h2 w h
end Go.Proofs.Ytgahnjhibpcbaaa
