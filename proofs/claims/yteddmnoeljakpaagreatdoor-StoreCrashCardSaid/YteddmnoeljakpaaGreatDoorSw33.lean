/-
  AlB: The program's Bits, over the loaded program: its contract. No condition but sizes that it names.
-/
import Derived.Test.YteddmnoeljakpaaGreatDoorSw22
import Derived.Test.YteddmnoeljakpaaGreatDoorSw01
import Derived.Laws.BitsAll
set_option linter.unusedVariables false
set_option maxRecDepth 100000
namespace Go.Proofs.YteddmnoeljakpaaGreatDoor
section
open Go.RowKit
theorem KB.bsA {w : World} {g : Nat} {t : TypeId} {l : List UInt8} {n : Nat} (h : KB w g t (l.map bv).toArray) (hn : l.length = n) (hm : n ≤ maxLen) : BS w (fun b => b = g) (.slice (some ⟨g, 0, none⟩) n n) l := by
  subst hn
  refine ⟨_, _, rfl, Nat.le_refl _, hm, (fun h => by cases h), fun _ => ⟨g, 0, rfl, rfl, h.lt, fun j u hu => ?_⟩⟩
  rw [Nat.zero_add, h.cell]
  simp [hu]
def BytesAs (w : World) (r : List UInt8 × Bool) (e : Ending) (w' : World) : Prop :=
  ∃ v, e = .returned (.tuple #[v, .bool r.2]) ∧ BS w' (fun b => w.heap.size ≤ b) v r.1 ∧ Below w.heap.size w w'
theorem bytes_none (w w' : World) (h : Below w.heap.size w w') : BytesAs w ([], false) (.returned (.tuple #[.slice none 0 0, .bool false])) w' := ⟨_, rfl, BS.nil _ _, h⟩
theorem groups_8 (n : Int) (h : ¬ n < 0) (h2 : ¬ 4096 < n) (w : World) : Calls Tryz.prog 112 #[.int .i64 n, .int .i64 8] w fun e w' => e = .returned (.int .i64 (bytesN n : Int)) ∧ w = w' := by
  refine (groups_any n ⟨by omega, by omega⟩ 8 (by omega) w).mono ?_
  rintro e w' ⟨rfl, rfl⟩
  refine ⟨ret_int ?_, rfl⟩
  unfold bytesN
  split <;> omega
theorem make_bytes (w : World) (m : Nat) (hm : m ≤ 1000000) : (Instr.makeSlice 55 (.int .i64 m) (.int .i64 m)).run Tryz.prog w = .ok (.slice (some ⟨w.heap.size, 0, none⟩) m m) (w.alloc (.cells ((List.replicate m (0 : UInt8)).map bv).toArray 5)) := by
  obtain ⟨i0, hi, hz0, hz1, hz2⟩ := info_parts info_byte
  have hmk := run_make (P := Tryz.prog) w 55 5 i0 _ Tryz.underlying55 hi hz0 .i64 .i64 m m (by omega) (by omega) (by rw [hz2]; omega) (by omega)
  rw [hz1, Int.toNat_natCast, madeCells_of (.int .u8 0) (.int .u8 0) 1 m (by omega) rfl, Nat.mul_one] at hmk
  rw [hmk, List.map_replicate, List.toArray_replicate]; rfl
theorem bits_wrong (S : Nat → Prop) (v : Value) (l : List Int) (n : Int) (hn : n < 0 ∨ 4096 < n) (w : World) (h : IS w S v l) :
    Calls Tryz.prog 154 #[v, .int .i64 n] w (BytesAs w ([], false)) := by
  have hq := bytes_none w w (Below.refl _ _)
  obtain ⟨A, c, rfl, hc, hcm, _⟩ := h.form
  have hm := mayBe_any n w
  rw [decide_eq_false (by omega)] at hm
  clear h hn
  go_enter Tryz.func154, Tryz.ntmps154
  go_wp2_with (go_at_call 166; refine hm.mono ?_; rintro e w' ⟨rfl, rfl⟩)
  go_ret2
  exact hq
theorem getD_drop (l : List Int) (d : Nat) : (l.drop d)[0]? = l[d]? := by rw [List.getElem?_drop, Nat.add_zero]
set_option maxHeartbeats 2000000 in
theorem bits_right (v : Value) (l : List Int) (n : Nat) (hn : n ≤ 4096) (hsm : l.length ≤ 1000000000) (w : World) (h : IS w (fun b => b < w.heap.size) v l) :
    Calls Tryz.prog 154 #[v, .int .i64 (n : Int)] w (BytesAs w (if okB l n then (bitsB l (bytesN n), true) else ([], false))) := by
  have hgr := groups_8 n (by omega) (by omega) w
  have hm := mayBe_any n w
  rw [decide_eq_true (by omega)] at hm
  have hmn : n ≤ 8 * bytesN n := by unfold bytesN; omega
  have hml : bytesN n ≤ 512 := by unfold bytesN; omega
  generalize bytesN (n : Int) = m at *
  have hmk := make_bytes w m (by omega)
  rw [← bitsB_nil] at hmk
  have K0 : KB (w.alloc (.cells ((bitsB [] m).map bv).toArray 5)) w.heap.size 5 ((bitsB (l.take 0) m).map bv).toArray := KB.new _ _ _
  have B0 := (Below.refl w.heap.size w).alloc (Nat.le_refl _) (.cells ((bitsB [] m).map bv).toArray 5)
  have I0 : IS (w.alloc (.cells ((bitsB [] m).map bv).toArray 5)) (fun b => b < w.heap.size) v (l.drop 0) := h.alloc _
  obtain ⟨R, hR⟩ : ∃ R, R = if okB l n then (bitsB l m, true) else ([], false) := ⟨_, rfl⟩
  have HY : Hid (okB l n → R = (bitsB l m, true)) := fun h => by rw [hR, if_pos h]
  have HN : Hid (¬ okB l n → R = ([], false)) := fun h => by rw [hR, if_neg h]
  rw [← hR]
  obtain ⟨A, c, rfl, hc, hcm, _⟩ := h.form
  clear hR h hc hcm
  generalize ((bitsB [] m).map bv).toArray = C at *
  go_enter Tryz.func154, Tryz.ntmps154
  go_wp2_with (first
    | (go_at_call 166; refine hm.mono ?_; rintro e w' ⟨rfl, rfl⟩)
    | (go_at_call 112; refine hgr.mono ?_; rintro e w' ⟨rfl, rfl⟩))
  go_loopw [0, 15] (fun av iw wr => ∃ (k d : Nat) (L : List Int), k ≤ n ∧ d ≤ l.length ∧ iw = .int .i64 k ∧ Hid (l.drop d = L) ∧ Hid (StB l n k d) ∧
    IS wr (fun b => b < w.heap.size) av L ∧ KB wr w.heap.size 5 ((bitsB (l.take d) m).map bv).toArray ∧ Below w.heap.size w wr) (fun _ iw _ => n - (intOf iw).toNat)
  case atStart =>
    exact ⟨0, 0, _, by omega, by omega, rfl, rfl, StB.zero _ _, I0, K0, B0⟩
  case round =>
    clear I0 K0 B0 hmk hgr hm
    obtain ⟨k, d, L, hk, hd, rfl, HL, HS, is, kb, bl⟩ := hrel
    have hL0 : L[0]? = l[d]? := by rw [← HL.out, getD_drop]
    obtain ⟨A1, c1, rfl, hc1, hcm1, hn1⟩ := is.form
    by_cases hlt : k < n
    · by_cases hp : 0 < L.length
      · obtain ⟨b, o, rfl, hbs, hb, h1⟩ := is.at_ hp
        obtain ⟨z, hz⟩ : ∃ z, L[0]? = some z := ⟨_, List.getElem?_eq_getElem hp⟩
        have k1 : wr.cell? ⟨b, o, none⟩ = some (.int .i64 z) := h1 0 z hz
        rw [hz] at hL0
        have HZ := Lib.hid hL0
        have D0 : decide ((0 : Int) < (L.length : Int)) = true := decide_eq_true (by omega)
        clear h1 hz hL0
        by_cases e : z = (k : Int)
        · subst e
          have HS2 := Lib.hid (HS.out.take HZ.out.symm)
          have hdl := (List.getElem?_eq_some_iff.1 HZ.out.symm).1
          have HT : Hid (l.take (d + 1) = l.take d ++ [(k : Int)]) := by show _ = _; rw [List.take_add_one, ← HZ.out]; rfl
          have HB2 : Hid (bitsB (l.take (d + 1)) m = (bitsB (l.take d) m).set (k / 8) (UInt8.ofNat (cK (fun j => inF (l.take d) (8 * (k / 8) + j)) 8 ||| 2 ^ (7 - k % 8)))) := by
            show _ = _; rw [HT.out]; exact bitsB_set _ (by omega)
          have hbx := bitsB_at (l.take d) (m := m) (j := k / 8) (by omega)
          obtain ⟨x, hx⟩ : ∃ x, x = by8 fun j => inF (l.take d) (8 * (k / 8) + j) := ⟨_, rfl⟩
          have hxn : x.toNat = cK (fun j => inF (l.take d) (8 * (k / 8) + j)) 8 := by rw [hx, by8_nat]
          rw [← hx] at hbx
          rw [← hxn] at HB2
          have hbit := fun W => (bit_any k (by omega) W).mono fun e w' h => (⟨h.1, h.2.symm⟩ : e = .returned (.int .u8 ((2 ^ (7 - k % 8) : Nat) : Int)) ∧ w' = W)
          have hB : 2 ^ (7 - k % 8) < 256 := Nat.lt_of_le_of_lt (Nat.pow_le_pow_right (by omega) (by omega : 7 - k % 8 ≤ 7)) (by decide)
          generalize 2 ^ (7 - k % 8) = B at *
          have hor := u8_or_nat x.toNat B x.toNat_lt hB
          have hq8 : (k : Int) / 8 = ((k / 8 : Nat) : Int) := by omega
          have hqm : k / 8 < m := by omega
          have hqw : IntKind.i64.wrap ((k / 8 : Nat) : Int) = ((k / 8 : Nat) : Int) := by rw [IntWalk.i64_in _ (by omega)]
          have kx : wr.cell? ⟨w.heap.size, k / 8, none⟩ = some (.int .u8 (x.toNat : Int)) := by
            rw [kb.cell, List.getElem?_toArray, List.getElem?_map, hbx]; rfl
          have kf := kb.free (k / 8)
          have HE : Hid (((x.toNat ||| B : Nat) : Int) = ((UInt8.ofNat (x.toNat ||| B)).toNat : Int)) := by
            show _ = _
            have h8 : x.toNat ||| B < 2 ^ 8 := Nat.or_lt_two_pow x.toNat_lt hB
            generalize x.toNat ||| B = E at *
            have e1 : (UInt8.ofNat E).toNat = E % 256 := by simp
            rw [e1, Nat.mod_eq_of_lt h8]
          generalize x.toNat ||| B = E at *
          generalize x.toNat = xn at *
          generalize k / 8 = q at *
          clear hB hx hxn hbx HS HZ HT
          go_wp2
          refine wp_still_tail 8 (by kernel_rfl) (by kernel_rfl) (fun W => (W.cell? ⟨w.heap.size, q, none⟩ = some (.int .u8 (xn : Int)) ∧ W.frozen? ⟨w.heap.size, q, none⟩ = false) ∧ KB W w.heap.size 5 ((bitsB (l.take d) m).map bv).toArray ∧ IS W (fun b => b < w.heap.size) (.slice (some ⟨b, o, none⟩) L.length c1) L ∧ Below w.heap.size w W) ⟨⟨kx, kf⟩, kb, is, Below_drawn bl 1⟩ ?_
          clear kx kf kb is bl
          rintro W2 ⟨⟨kx, kf⟩, kb, is, bl⟩
          simp only [List.take_succ_cons, List.take_zero, List.drop_succ_cons, List.drop_zero]
          repeat still_step
          still_call (hbit W2)
          repeat still_step
          refine wpStill_nil ?_
          have is2 := is.setCell (p := ⟨w.heap.size, q, none⟩) (by simp) (.int .u8 ((UInt8.ofNat E).toNat : Int))
          have kb2 : KB (W2.setCell ⟨w.heap.size, q, none⟩ (.int .u8 ((UInt8.ofNat E).toNat : Int))) w.heap.size 5 ((bitsB (l.take (d + 1)) m).map bv).toArray := by
            have := kb.put q (bv (UInt8.ofNat E))
            rw [List.setIfInBounds_toArray, ← List.map_set, ← HB2.out] at this
            exact this
          have bl2 : Below w.heap.size w (W2.setCell ⟨w.heap.size, q, none⟩ (.int .u8 ((UInt8.ofNat E).toNat : Int))) := bl.setCell (Nat.le_refl _) _
          rw [HE.out]
          have is3 := is2.drop 1 hp
          obtain ⟨L2, hL2⟩ : ∃ L2, L2 = L.drop 1 := ⟨_, rfl⟩
          have HL2 : Hid (l.drop (d + 1) = L2) := by show _ = _; rw [hL2, ← HL.out, List.drop_drop]
          rw [← hL2] at is3
          rw [apply_ite some] at is3
          clear hL2 is is2 kb bl HB2 hor
          generalize (UInt8.ofNat E).toNat = F at *
          go_wp2
          go_roundw
          case rel => exact ⟨k + 1, d + 1, L2, by omega, by omega, by go_num, HL2, HS2, is3, kb2, bl2⟩
          case measure => simp [intOf]; omega
        · have HS2 := Lib.hid (HS.out.pass (by rw [← HZ.out]; intro h; injection h with h; exact e h))
          have D1 : decide (z = (k : Int)) = false := decide_eq_false e
          have D2 : (z == (k : Int)) = false := by simp [e]
          clear HZ HS
          go_wp2
          go_roundw
          case rel => exact ⟨k + 1, d, L, by omega, hd, by go_num, HL, HS2, is, kb, bl⟩
          case measure => simp [intOf]; omega
      · have hL : L = [] := List.eq_nil_of_length_eq_zero (by omega)
        have HS2 := Lib.hid (HS.out.pass (by rw [← hL0, hL]; intro h; cases h))
        have D0 : decide ((0 : Int) < (L.length : Int)) = false := decide_eq_false (by omega)
        clear hL hL0 HS
        go_wp2
        go_roundw
        case rel => exact ⟨k + 1, d, L, by omega, hd, by go_num, HL, HS2, is, kb, bl⟩
        case measure => simp [intOf]; omega
    · obtain rfl : k = n := by omega
      by_cases hp : 0 < L.length
      · have hdl : d < l.length := by rw [← HL.out, List.length_drop] at hp; omega
        have hr := HN.out (HS.out.no hdl)
        subst hr
        have D0 : decide ((0 : Int) < (L.length : Int)) = true := decide_eq_true (by omega)
        have hq := bytes_none w wr bl
        clear HS HL HY HN
        go_wp2
        go_ret2
        exact hq
      · have hdl : d = l.length := by rw [← HL.out, List.length_drop] at hp; omega
        subst hdl
        have hr := HY.out (HS.out.yes)
        subst hr
        have D0 : decide ((0 : Int) < (L.length : Int)) = false := decide_eq_false (by omega)
        rw [List.take_length] at kb
        have hbs := (kb.bsA (bitsB_length l m) (by simp [maxLen]; omega)).mono (S' := fun b => w.heap.size ≤ b) fun b e => by omega
        clear HS HL HY HN kb
        go_wp2
        go_ret2
        exact ⟨_, rfl, hbs, bl⟩
theorem bits_any (v : Value) (l : List Int) (n : Int) (hsm : l.length ≤ 1000000000) (w : World) (h : IS w (fun b => b < w.heap.size) v l) :
    Calls Tryz.prog 154 #[v, .int .i64 n] w (BytesAs w (bitsS l n)) := by
  unfold bitsS
  by_cases h0 : n < 0 ∨ 4096 < n
  · rw [if_pos (by rcases h0 with h | h; exact .inl h; exact .inr (.inl h))]
    exact bits_wrong _ v l n h0 w h
  · obtain ⟨k, rfl⟩ := Int.eq_ofNat_of_zero_le (by omega : 0 ≤ n)
    have hb := bits_right v l k (by omega) hsm w h
    by_cases h1 : okB l k
    · rw [if_pos h1] at hb
      rw [if_neg (fun h => by rcases h with h | h | h; exact h0 (.inl h); exact h0 (.inr h); exact h h1)]
      exact hb
    · rw [if_neg h1] at hb
      rw [if_pos (.inr (.inr h1))]
      exact hb
end
end Go.Proofs.YteddmnoeljakpaaGreatDoor
