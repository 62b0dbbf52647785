/-
  The document's own Bits (layer 11), over the loaded program: its contract. No condition but sizes that it names.
-/
import Derived.Test.YtgahnjhibpcbaaaAlR
import Derived.Test.YtgahnjhibpcbaaaAlB
import Derived.Laws.BitsAll
namespace Go.Proofs.Ytgahnjhibpcbaaa
open Go.RowKit
set_option maxRecDepth 100000
set_option linter.unusedVariables false

theorem rbits_wrong (S : Nat → Prop) (v : Value) (l : List Int) (n : Int) (hn : n < 0 ∨ 4096 < n) (w : World) (h : IS w S v l) :
    Calls Try.prog 24 #[v, .int .i64 n] w (BytesAs w ([], false)) := by
  have hq := bytes_none w w (Below.refl _ _)
  obtain ⟨A, c, rfl, hc, hcm, _⟩ := h.form
  clear h
  by_cases h0 : n < 0
  · have D0 := decide_eq_true h0
    clear hn
    go_enter Try.func24, Try.ntmps24
    go_wp2
    go_ret2
    exact hq
  · have D0 := decide_eq_false h0
    have h1 : 4096 < n := by omega
    have D1 := decide_eq_true h1
    clear hn
    go_enter Try.func24, Try.ntmps24
    go_wp2
    go_ret2
    exact hq

theorem lit_byte (cc : Nat) (h : cc ≤ 255) : ∃ y : UInt8, UInt8.ofNat cc = y ∧ bv y = .int .u8 (cc : Int) := by
  refine ⟨_, rfl, ?_⟩
  have : (UInt8.ofNat cc).toNat = cc := by simp; omega
  unfold bv
  rw [this]
theorem okA_fail {l : List Int} {n : Int} {k : Nat} (hk : k < l.length) (h : ¬ okA l n k) : ¬ okB l n := fun hh => h (hh k hk)

set_option maxHeartbeats 4000000 in
theorem rbits_right (v : Value) (l : List Int) (n : Nat) (hn : n ≤ 4096) (w : World) (h : IS w (fun b => b < w.heap.size) v l) :
    Calls Try.prog 24 #[v, .int .i64 (n : Int)] w (BytesAs w (if okB l n then (bitsB l (bytesN n), true) else ([], false))) := by
  have hmn : ∀ j : Nat, (8 * j < n ↔ j < bytesN n) := fun j => by unfold bytesN; omega
  have hml : bytesN n ≤ 512 := by unfold bytesN; omega
  have hmn2 := hmn
  obtain ⟨i0, hi, hz0, hz1, hz2⟩ := info_parts info_byte
  have hhas := fun (z : Int) (W : World) (hW : Below w.heap.size w W) => has_any _ v l z W (h.below' hW)
  generalize bytesN (n : Int) = m at *
  obtain ⟨R, hR⟩ : ∃ R, R = if okB l n then (bitsB l m, true) else ([], false) := ⟨_, rfl⟩
  have HY : Hid (okB l n → R = (bitsB l m, true)) := fun h => by rw [hR, if_pos h]
  have HN : Hid (∀ k, k < l.length → ¬ okA l n k → R = ([], false)) := fun k hk h => by rw [hR, if_neg (okA_fail hk h)]
  rw [← hR]
  obtain ⟨A, c, rfl, hc, hcm, _⟩ := h.form
  have hlen : l.length ≤ 9223372036854775807 := by unfold maxLen at hcm; omega
  have D0 : decide ((n : Int) < 0) = false := decide_eq_false (by omega)
  have D1 : decide ((4096 : Int) < (n : Int)) = false := decide_eq_false (by omega)
  have HMN := Lib.hid hmn
  clear hR hc hcm hmn hmn2
  go_enter Try.func24, Try.ntmps24
  go_wp2
  go_loopw [6] (fun iw wr => ∃ k : Nat, k ≤ l.length ∧ iw = .int .i64 k ∧ Hid (∀ j, j < k → okA l n j) ∧ Below w.heap.size w wr) (fun iw _ => l.length - (intOf iw).toNat)
  case atStart => exact ⟨0, by omega, rfl, fun j hj => absurd hj (Nat.not_lt_zero _), Below.refl _ _⟩
  case round =>
    obtain ⟨k, hk, rfl, HS, bl⟩ := hrel
    by_cases hlt : k < l.length
    · obtain ⟨b, o, rfl, hbs, hb, h1⟩ := (h.below' bl).at_ (by omega)
      obtain ⟨z, hz⟩ : ∃ z, l[k]? = some z := ⟨_, List.getElem?_eq_getElem hlt⟩
      have k1 := h1 k z hz
      have hgz := getD_of hz
      have hok : okA l n k ↔ 0 ≤ z ∧ z < n ∧ (0 < k → l.getD (k - 1) 0 < z) := by unfold okA; rw [hgz]
      have HNO := Lib.hid (HN.out k hlt)
      by_cases z0 : z < 0
      · have hr := HNO.out fun ho => by have := (hok.1 ho).1; omega
        subst hr
        have E0 : decide (z < 0) = true := decide_eq_true z0
        clear hok hgz hz HNO HN HY HS h1
        go_wp2
        go_quiet (fail)
        have hq := bytes_none w _ (Below_drawn bl nq)
        go_wp2
        go_ret2
        exact hq
      · have E0 : decide (z < 0) = false := decide_eq_false z0
        by_cases z1 : (n : Int) ≤ z
        · have hr := HNO.out fun ho => by have := (hok.1 ho).2.1; omega
          subst hr
          have E1 : decide ((n : Int) ≤ z) = true := decide_eq_true z1
          clear hok hgz hz HNO HN HY HS h1
          go_wp2
          go_quiet (fail)
          have hq := bytes_none w _ (Below_drawn bl nq)
          go_wp2
          go_ret2
          exact hq
        · have E1 : decide ((n : Int) ≤ z) = false := decide_eq_false z1
          by_cases k0 : 0 < k
          · have E2 : decide ((0 : Int) < (k : Int)) = true := decide_eq_true (by omega)
            obtain ⟨y, hy⟩ : ∃ y, l[k - 1]? = some y := ⟨_, List.getElem?_eq_getElem (by omega)⟩
            have k2 := h1 (k - 1) y hy
            rw [getD_of hy] at hok
            by_cases z2 : z ≤ y
            · have hr := HNO.out fun ho => by have := (hok.1 ho).2.2 k0; omega
              subst hr
              have E3 : decide (z ≤ y) = true := decide_eq_true z2
              clear hok hgz hz HNO HN HY HS hy h1
              go_wp2
              go_quiet (fail)
              have hq := bytes_none w _ (Below_drawn bl nq)
              go_wp2
              go_ret2
              exact hq
            · have E3 : decide (z ≤ y) = false := decide_eq_false z2
              have HS2 : Hid (∀ j, j < k + 1 → okA l n j) := fun j hj => by
                by_cases e : j = k
                · subst e; exact hok.2 ⟨by omega, by omega, fun _ => by omega⟩
                · exact HS.out j (by omega)
              clear hok hgz hz HNO HS hy h1
              go_wp2
              go_quiet (fail)
              go_wp2
              go_roundw
              case rel => exact ⟨k + 1, by omega, by go_num, HS2, Below_drawn bl _⟩
              case measure => simp [intOf]; omega
          · have E2 : decide ((0 : Int) < (k : Int)) = false := decide_eq_false (by omega)
            have HS2 : Hid (∀ j, j < k + 1 → okA l n j) := fun j hj => by
              by_cases e : j = k
              · subst e; exact hok.2 ⟨by omega, by omega, fun h => absurd h k0⟩
              · exact HS.out j (by omega)
            clear hok hgz hz HNO HS h1
            go_wp2
            go_quiet (fail)
            go_wp2
            go_roundw
            case rel => exact ⟨k + 1, by omega, by go_num, HS2, Below_drawn bl _⟩
            case measure => simp [intOf]; omega
    · obtain rfl : k = l.length := by omega
      have hr := HY.out fun j hj => HS.out j hj
      subst hr
      clear HS HY HN
      generalize wr = w1 at *
      clear D0 D1
      go_wp2
      go_loopw [7, 8] (fun ov iw wr => ∃ (j : Nat) (L : List UInt8), j ≤ m ∧ iw = .int .i64 (8 * (j : Int)) ∧ Hid (bitsB l j = L) ∧ L.length ≤ 512 ∧ wr.ownsRow w.heap.size 5 1 ov L.length (L.map bv) ∧ Below w.heap.size w wr) (fun _ iw _ => n + 8 - (intOf iw).toNat)
      case atStart => exact ⟨0, [], by omega, by rfl, rfl, by simp, World.ownsRow_nil _ _ _ _, bl⟩
      case round =>
        clear bl
        obtain ⟨j, L, hj, rfl, HS, hL, how, bl⟩ := hrel
        generalize wr = w1 at *
        obtain ⟨A1, c1, rfl, _⟩ := (own_BS how).form
        have hmj := HMN.out j
        by_cases hlt : 8 * j < n
        · have hjm : j < m := by omega
          have D2 : decide (8 * (j : Int) < (n : Int)) = true := decide_eq_true (by omega)
          clear hmj
          go_wp2
          go_loopw [9, 10] (fun cw kw wr => ∃ (k cc : Nat), k ≤ 8 ∧ cw = .int .i64 cc ∧ kw = .int .i64 k ∧ Hid (cK (fun i => inF l (8 * j + i)) k = cc) ∧ cc ≤ 255 ∧ wr = w1) (fun _ kw _ => 8 - (intOf kw).toNat)
          case atStart => exact ⟨0, 0, by omega, rfl, rfl, rfl, by omega, rfl⟩
          case round =>
            obtain ⟨k, cc, hk, rfl, rfl, HC, hcc, rfl⟩ := hrel
            by_cases hk8 : k < 8
            · have hh := hhas (8 * (j : Int) + (k : Int)) _ bl
              have hin : decide (8 * (j : Int) + (k : Int) ∈ l) = inF l (8 * j + k) := by
                unfold inF
                rw [show ((8 * j + k : Nat) : Int) = 8 * (j : Int) + (k : Int) from by omega]
              rw [hin] at hh
              have hle := cK_le (fun i => inF l (8 * j + i)) (k := k + 1) (by omega)
              have HC2 : cK (fun i => inF l (8 * j + i)) (k + 1) = 2 * cc + (inF l (8 * j + k)).toNat := by rw [cK, HC.out]
              rw [HC2] at hle
              have HC3 := Lib.hid HC2
              clear hin HC2 HC
              generalize inF l (8 * j + k) = bb at *
              cases bb with
              | true =>
                have hle2 : 2 * cc + 1 ≤ 255 := hle
                clear hle
                go_wp2_with (go_at_call 49; refine hh.mono ?_; rintro e w' ⟨rfl, rfl⟩)
                go_roundw
                case rel => exact ⟨k + 1, 2 * cc + 1, by omega, by go_num, by go_num, HC3, hle2, trivial⟩
                case measure => simp [intOf]; omega
              | false =>
                have hle2 : 2 * cc ≤ 255 := hle
                clear hle
                go_wp2_with (go_at_call 49; refine hh.mono ?_; rintro e w' ⟨rfl, rfl⟩)
                go_roundw
                case rel => exact ⟨k + 1, 2 * cc, by omega, by go_num, by go_num, HC3, hle2, trivial⟩
                case measure => simp [intOf]; omega
            · obtain rfl : k = 8 := by omega
              obtain ⟨y, hy, hbv⟩ := lit_byte cc hcc
              have HB : Hid (bitsB l (j + 1) = L ++ [y]) := by
                show _ = _
                rw [bitsB_more, HS.out, ← hy, ← HC.out]; rfl
              obtain ⟨L2, hL2⟩ : ∃ L2, L2 = L ++ [y] := ⟨_, rfl⟩
              rw [← hL2] at HB
              have hl2 : L2.length = L.length + 1 := by rw [hL2, List.length_append]; rfl
              have hl3 : L.length = j := by rw [← HS.out, bitsB_length]
              have hl4 : L2.length ≤ 512 := by omega
              have HL2 := Lib.hid hL2.symm
              have HL4 := Lib.hid hl4
              have hsm : L.length + ([y] : List UInt8).length ≤ 140737488355328 := by simp; omega
              have o1 : (wr.alloc (.cells #[.int .u8 (cc : Int)] 5)).ownsRow wr.heap.size 5 1 (.slice (some ⟨wr.heap.size, 0, none⟩) 1 1) ([y] : List UInt8).length (([y] : List UInt8).map bv) := by
                rw [← hbv]; exact World.ownsRow_lit wr #[bv y] 1 (Nat.le_refl _) (by simp [maxLen]) rfl
              have x1 := own_BS o1
              have how1 := own_past ((Below.refl wr.heap.size wr).alloc (Nat.le_refl _) (.cells #[.int .u8 (cc : Int)] 5)) how
              have bl1 := bl.alloc bl.size (.cells #[.int .u8 (cc : Int)] 5)
              clear hL2 hl2 hl3 hl4 HC HS how o1 hy hbv
              go_wp2_with (at_builtin; refine wpList_grow _ rfl _ _ _ rfl w.heap.size 5 i0 Try.underlying27 hi hz0 hz1 hz2 (.slice A1 L.length c1) L rfl how1 _ _ [y] rfl x1 hsm bl1.size ?_; intro v2 w2 how2 g2 _; rw [HL2.out] at how2; have bl2 := bl1.grown g2 bl1.size (fun g e => own_ge how1 g e))
              go_roundw
              case rel => exact ⟨j + 1, L2, by omega, by go_num, HB, HL4.out, how2, bl2⟩
              case measure => simp [intOf]; omega
        · have hjm : j = m := by omega
          subst hjm
          have D2 : decide (8 * (j : Int) < (n : Int)) = false := decide_eq_false (by omega)
          have hb := own_BS how
          have hb2 : BS w1 (fun b => w.heap.size ≤ b) (.slice A1 L.length c1) (bitsB l j, true).fst := by
            show BS _ _ _ (bitsB l j)
            rw [HS.out]
            exact hb.mono fun b h => h.1
          clear HS HMN hmj hb
          go_wp2
          go_ret2
          exact ⟨_, rfl, hb2, bl⟩

/-- Bits. -/
theorem rbits_any (v : Value) (l : List Int) (n : Int) (w : World) (h : IS w (fun b => b < w.heap.size) v l) :
    Calls Try.prog 24 #[v, .int .i64 n] w (BytesAs w (bitsS l n)) := by
  unfold bitsS
  by_cases h0 : n < 0 ∨ 4096 < n
  · rw [if_pos (by rcases h0 with h | h; exact .inl h; exact .inr (.inl h))]
    exact rbits_wrong _ v l n h0 w h
  · obtain ⟨k, rfl⟩ := Int.eq_ofNat_of_zero_le (by omega : 0 ≤ n)
    have hb := rbits_right v l k (by omega) w h
    by_cases h1 : okB l k
    · rw [if_pos h1] at hb
      rw [if_neg (fun h => by rcases h with h | h | h; exact h0 (.inl h); exact h0 (.inr h); exact h h1)]
      exact hb
    · rw [if_neg h1] at hb
      rw [if_pos (.inr (.inr h1))]
      exact hb
end Go.Proofs.Ytgahnjhibpcbaaa
