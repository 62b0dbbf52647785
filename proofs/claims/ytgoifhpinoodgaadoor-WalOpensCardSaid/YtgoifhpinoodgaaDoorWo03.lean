/-
  ShaB: The words of a block: schedule, and the document's own words: each one's contract over the loaded program. No condition but the worlds' shapes that each contract names.
-/
import Derived.Test.YtgoifhpinoodgaaDoorWo02
import Derived.StillTailTactics
import Derived.BigRegion

section
namespace Go.Proofs.YtgoifhpinoodgaaDoor
open Go.RowKit
set_option linter.unusedVariables false

theorem row_zero : (#[Value.int .u32 0, Value.int .u32 0, Value.int .u32 0, Value.int .u32 0, Value.int .u32 0, Value.int .u32 0, Value.int .u32 0, Value.int .u32 0, Value.int .u32 0, Value.int .u32 0, Value.int .u32 0, Value.int .u32 0, Value.int .u32 0, Value.int .u32 0, Value.int .u32 0, Value.int .u32 0, Value.int .u32 0, Value.int .u32 0, Value.int .u32 0, Value.int .u32 0, Value.int .u32 0, Value.int .u32 0, Value.int .u32 0, Value.int .u32 0, Value.int .u32 0, Value.int .u32 0, Value.int .u32 0, Value.int .u32 0, Value.int .u32 0, Value.int .u32 0, Value.int .u32 0, Value.int .u32 0, Value.int .u32 0, Value.int .u32 0, Value.int .u32 0, Value.int .u32 0, Value.int .u32 0, Value.int .u32 0, Value.int .u32 0, Value.int .u32 0, Value.int .u32 0, Value.int .u32 0, Value.int .u32 0, Value.int .u32 0, Value.int .u32 0, Value.int .u32 0, Value.int .u32 0, Value.int .u32 0, Value.int .u32 0, Value.int .u32 0, Value.int .u32 0, Value.int .u32 0, Value.int .u32 0, Value.int .u32 0, Value.int .u32 0, Value.int .u32 0, Value.int .u32 0, Value.int .u32 0, Value.int .u32 0, Value.int .u32 0, Value.int .u32 0, Value.int .u32 0, Value.int .u32 0, Value.int .u32 0] : Array Value) = (rowW [] 64).toArray := rfl

theorem KB.word {w : World} {g : Nat} {ty : TypeId} {ws : List Nat} {n : Nat} (h : KB w g ty (rowW ws n).toArray) {i : Nat} (hi : i < ws.length) : w.cell? ⟨g, i, none⟩ = some (.int .u32 ((ws.getD i 0 : Nat) : Int)) := by
  rw [h.cell, List.getElem?_toArray, rowW_get ws n i hi]

theorem KB.room {w : World} {g : Nat} {ty : TypeId} {ws : List Nat} {n : Nat} (h : KB w g ty (rowW ws n).toArray) {i : Nat} (hi : i < n) : ∃ x : Nat, w.cell? ⟨g, i, none⟩ = some (.int .u32 (x : Int)) := by
  obtain ⟨x, hx⟩ := rowW_some ws n i hi
  exact ⟨x, by rw [h.cell, List.getElem?_toArray, hx]⟩

theorem KB.put_word {w : World} {g : Nat} {ty : TypeId} {ws : List Nat} {n : Nat} (h : KB w g ty (rowW ws n).toArray) (i : Nat) (hi : i = ws.length) (hn : i < n) (x : Nat) : KB (w.setCell ⟨g, i, none⟩ (.int .u32 (x : Int))) g ty (rowW (ws ++ [x]) n).toArray := by
  subst hi
  have := h.put ws.length (wv x)
  rw [← rowW_set ws n x hn]
  simpa using this

theorem list_four (l : List UInt8) (k : Nat) (h : k + 4 ≤ l.length) : l.drop k = l.getD k 0 :: l.getD (k + 1) 0 :: l.getD (k + 2) 0 :: l.getD (k + 3) 0 :: l.drop (k + 4) := by
  rw [List.drop_eq_getElem_cons (by omega), List.drop_eq_getElem_cons (by omega), List.drop_eq_getElem_cons (by omega), List.drop_eq_getElem_cons (by omega)]
  simp [List.getD, List.getElem?_eq_getElem (show k < l.length by omega), List.getElem?_eq_getElem (show k + 1 < l.length by omega), List.getElem?_eq_getElem (show k + 2 < l.length by omega), List.getElem?_eq_getElem (show k + 3 < l.length by omega)]

theorem add_val4 (a b c d : Nat) : ((a : Int) + (b : Int) + (c : Int) + (d : Int)) % 4294967296 = ((add32 (add32 (add32 a b) c) d : Nat) : Int) := by unfold add32; omega
theorem words_one (ws : List Nat) : ∀ v ∈ ws.map wv, v.oneCell' = true := by
  intro v hv
  obtain ⟨x, _, rfl⟩ := List.mem_map.1 hv
  rfl

theorem schedule_any (S : Nat → Prop) (v : Value) (l : List UInt8) (hl : 64 ≤ l.length) (w : World) (h : BS w S v l) :
    Calls Tryd.prog 106 #[v] w fun e w' => e = .returned (.agg ((wordsTo l 64).map wv).toArray) ∧ Below w.heap.size w w' := by
  obtain ⟨A, c, rfl, hc, hm, _⟩ := h.form
  obtain ⟨b, o, rfl, sb, hb, _⟩ := h.at_ (by omega)
  have hm' : c ≤ 9223372036854775807 := hm
  clear hm
  go_enter Tryd.func106, Tryd.ntmps106
  go_wp2
  rw [row_zero]
  have B0 : Below w.heap.size w ((w.alloc (.cells (rowW [] 64).toArray 116)).alloc (.cells (rowW [] 64).toArray 116)) := ((Below.refl _ _).alloc (Nat.le_refl _) _).alloc (by simp) _
  have hr : KB ((w.alloc (.cells (rowW [] 64).toArray 116)).alloc (.cells (rowW [] 64).toArray 116)) w.heap.size 116 (rowW [] 64).toArray := (KB.new _ _ _).alloc _
  have hg : KB ((w.alloc (.cells (rowW [] 64).toArray 116)).alloc (.cells (rowW [] 64).toArray 116)) (w.heap.size + 1) 116 (rowW [] 64).toArray := by
    have := KB.new (w.alloc (.cells (rowW [] 64).toArray 116)) 116 (rowW [] 64).toArray
    simpa using this
  have ht := h.lt.below' B0
  generalize (w.alloc (.cells (rowW [] 64).toArray 116)).alloc (.cells (rowW [] 64).toArray 116) = W0 at *
  clear h sb hb
  go_loopw [10] (fun i wr => ∃ k : Nat, k ≤ 16 ∧ i = .int .i64 k ∧ KB wr (w.heap.size + 1) 116 (rowW (wordsTo l k) 64).toArray ∧ W0.grownBy wr (some (w.heap.size + 1))) (fun i _ => 16 - (intOf i).toNat)
  case atStart => exact ⟨0, by omega, rfl, hg, World.grownBy.refl _ _⟩
  case round =>
    obtain ⟨k, hk, rfl, hgk, hgr⟩ := hrel
    have htk := ht.grown hgr (by rintro g hg; injection hg; omega)
    by_cases hlt : k < 16
    · have hd := htk.drop (4 * k) (by omega)
      rw [list_four l (4 * k) (by omega), if_neg (by omega)] at hd
      obtain ⟨x, hx⟩ := hgk.room (i := k) (by omega)
      have hf := hgk.free k
      have h4 : (4 : Int) * k ≤ l.length := by omega
      have h5 : (4 : Int) * k ≤ c := by omega
      have h6 : ¬ c = 4 * k := by omega
      go_wp2_with fail
      refine (word_any _ _ _ _ _ _ _ _ rfl _ hd).mono ?_
      rintro e w1 ⟨rfl, n, rfl⟩
      go_wp2
      go_roundw
      case rel =>
        refine ⟨k + 1, by omega, by go_num, ?_, grown_trans hgr (grown_trans (grown_of_below (Below_drawn (Below.refl _ _) n) _) (grown_set _ _ _ _))⟩
        show KB _ _ _ (rowW (wordsTo l k ++ [nextW l (wordsTo l k)]) 64).toArray
        rw [nextW_low l k hlt]
        exact (hgk.drewN n).put_word k (wordsTo_length l k).symm (by omega) _
      case measure => simp [intOf]; omega
    · obtain rfl : k = 16 := by omega
      go_wp2
      clear htk
      rw [show (((16 : Nat) : Int)) = 16 from rfl]
      go_loopw [5] (fun i wr => ∃ k : Nat, 16 ≤ k ∧ k ≤ 64 ∧ i = .int .i64 k ∧ KB wr (w.heap.size + 1) 116 (rowW (wordsTo l k) 64).toArray ∧ W0.grownBy wr (some (w.heap.size + 1))) (fun i _ => 64 - (intOf i).toNat)
      case atStart => exact ⟨16, by omega, by omega, rfl, hgk, hgr⟩
      case round =>
        clear hgk hgr
        obtain ⟨k, hk1, hk2, rfl, hgk, hgr⟩ := hrel
        by_cases hlt : k < 64
        · obtain ⟨x, hx⟩ := hgk.room (i := k) (by omega)
          have hf := hgk.free k
          have hz : k < (wordsTo l k).length + 1 := by rw [wordsTo_length]; omega
          have r15 := hgk.word (i := k - 15) (by omega)
          have r2 := hgk.word (i := k - 2) (by omega)
          have r7 := hgk.word (i := k - 7) (by omega)
          have r16 := hgk.word (i := k - 16) (by omega)
          have b15 := wordsTo_getD_lt l k (k - 15)
          have b2 := wordsTo_getD_lt l k (k - 2)
          have HN := Lib.hid (nextW_high l k hk1)
          generalize (wordsTo l k).getD (k - 15) 0 = x15 at r15 b15 HN
          generalize (wordsTo l k).getD (k - 2) 0 = x2 at r2 b2 HN
          generalize (wordsTo l k).getD (k - 7) 0 = x7 at r7 HN
          generalize (wordsTo l k).getD (k - 16) 0 = x16 at r16 HN
          have HB0 := Lib.hid (sig0_val x15 b15)
          have HB1 := Lib.hid (sig1_val x2 b2)
          clear hz
          go_wp2
          go_quiet (fail)
          go_wp2_with fail
          refine (rot_any x15 7 _ rfl b15 (by omega) (by omega) _).mono ?_
          rintro e w' ⟨rfl, rfl⟩
          go_wp2_with fail
          refine (rot_any x15 18 _ rfl b15 (by omega) (by omega) _).mono ?_
          rintro e w' ⟨rfl, rfl⟩
          go_wp2_with fail
          simp only [HB0.out]
          refine (rot_any x2 17 _ rfl b2 (by omega) (by omega) _).mono ?_
          rintro e w' ⟨rfl, rfl⟩
          go_wp2_with fail
          refine (rot_any x2 19 _ rfl b2 (by omega) (by omega) _).mono ?_
          rintro e w' ⟨rfl, rfl⟩
          go_wp2_with fail
          simp only [HB1.out]
          go_region
          go_wp2
          go_roundw
          case rel =>
            refine ⟨k + 1, by omega, by omega, by go_num, ?_, grown_trans hgr (grown_trans (grown_of_below (Below_drawn (Below.refl _ _) _) _) (grown_set _ _ _ _))⟩
            show KB _ _ _ (rowW (wordsTo l k ++ [nextW l (wordsTo l k)]) 64).toArray
            rw [HN.out, add_val4]
            exact (hgk.drewN _).put_word k (wordsTo_length l k).symm (by omega) _
          case measure => simp [intOf]; omega
        · obtain rfl : k = 64 := by omega
          have HE := Lib.hid (rowW_full (wordsTo l 64) 64 (wordsTo_length l 64))
          have HL : Hid (((wordsTo l 64).map wv).length = 64) := by show _ = _; rw [List.length_map, wordsTo_length]
          have hw1 : ∀ v ∈ (wordsTo l 64).map wv, v.oneCell' = true := words_one _
          rw [HE.out] at hgk
          generalize hcs : (wordsTo l 64).map wv = cs at *
          have HC := Lib.hid hcs
          clear hcs
          have hr' := hr.grown hgr (by simp)
          have b1 := B0.trans (below_of_grown' hgr (by simp) B0.size)
          go_wp2_with (first
            | (refine wpList_load_kb rfl 116 (.tmp 3) rfl (w.heap.size + 1) rfl _ cs hgk _ Tryd.underlying116 rfl 64 (by kernel_rfl) HL.out ?_)
            | (refine wpList_store_kb rfl 116 (.tmp 2) (.tmp 64) rfl w.heap.size cs rfl rfl _ _ hr' 64 (by kernel_rfl) (by rw [rowW_length _ _ (by simp)]) HL.out hw1 ?_; intro w2 k2 g2))
          refine bodyPost_ret (results_cell_row (P := Tryd.prog) rfl _ w2 w.heap.size _ cs.toArray (0, 0) _ rfl k2 Tryd.underlying116 rfl (by rw [show cs.toArray.size = 64 from by simpa using HL.out]; kernel_rfl)) rfl ⟨by rw [HC.out], b1.trans (below_of_grown' g2 (Nat.le_refl _) b1.size)⟩

theorem turn_left (x k : Nat) (n : Int) (hn : n = k) (hx : x < 4294967296) (hk : 1 ≤ k) (hk2 : k ≤ 31) (w : World) :
    Calls Tryd.prog 76 #[.int .u32 x, .int .u64 n] w fun e w' => e = .returned (.int .u32 (rotr x k : Nat)) ∧ w' = w :=
  (turn_any x k n hn hx hk hk2 w).mono fun e w' h => ⟨h.1, h.2.symm⟩

set_option maxRecDepth 100000 in
set_option maxHeartbeats 1000000 in
theorem words_any (S : Nat → Prop) (v : Value) (l : List UInt8) (hl : 64 ≤ l.length) (w : World) (h : BS w S v l) :
    Calls Tryd.prog 74 #[v] w fun e w' => e = .returned (.agg ((wordsTo l 64).map wv).toArray) ∧ Below w.heap.size w w' := by
  obtain ⟨A, c, rfl, hc, hm, _⟩ := h.form
  obtain ⟨b, o, rfl, sb, hb, _⟩ := h.at_ (by omega)
  have hl2 : l.length ≤ 9223372036854775807 := by unfold maxLen at hm; omega
  clear hm
  go_enter Tryd.func74, Tryd.ntmps74
  go_wp2
  rw [row_zero]
  have B0 : Below w.heap.size w ((w.alloc (.cells (rowW [] 64).toArray 116)).alloc (.cells (rowW [] 64).toArray 116)) := ((Below.refl _ _).alloc (Nat.le_refl _) _).alloc (by simp) _
  have hr : KB ((w.alloc (.cells (rowW [] 64).toArray 116)).alloc (.cells (rowW [] 64).toArray 116)) w.heap.size 116 (rowW [] 64).toArray := (KB.new _ _ _).alloc _
  have hg : KB ((w.alloc (.cells (rowW [] 64).toArray 116)).alloc (.cells (rowW [] 64).toArray 116)) (w.heap.size + 1) 116 (rowW [] 64).toArray := by
    have := KB.new (w.alloc (.cells (rowW [] 64).toArray 116)) 116 (rowW [] 64).toArray
    simpa using this
  have ht := h.lt.below' B0
  generalize (w.alloc (.cells (rowW [] 64).toArray 116)).alloc (.cells (rowW [] 64).toArray 116) = W0 at *
  clear h sb hb
  go_loopw [4] (fun i wr => ∃ k : Nat, k ≤ 64 ∧ i = .int .i64 k ∧ KB wr (w.heap.size + 1) 116 (rowW (wordsTo l k) 64).toArray ∧ W0.grownBy wr (some (w.heap.size + 1))) (fun i _ => 64 - (intOf i).toNat)
  case atStart => exact ⟨0, by omega, rfl, hg, World.grownBy.refl _ _⟩
  case round =>
    obtain ⟨k, hk, rfl, hgk, hgr⟩ := hrel
    have htk := ht.grown hgr (by rintro g hg; injection hg; omega)
    by_cases hlt : k < 64
    · obtain ⟨x, hx⟩ := hgk.room (i := k) (by omega)
      have hf := hgk.free k
      by_cases h16 : k < 16
      · obtain ⟨b', o', eb, _, _, hcell⟩ := htk.at_ (by omega)
        injection eb with eb
        injection eb with e1 e2
        subst e1 e2
        have d0 := hcell (4 * k) (l.getD (4 * k) 0) (by rw [List.getD_eq_getElem?_getD, List.getElem?_eq_getElem (by omega)]; rfl)
        have d1 := hcell (4 * k + 1) (l.getD (4 * k + 1) 0) (by rw [List.getD_eq_getElem?_getD, List.getElem?_eq_getElem (by omega)]; rfl)
        have d2 := hcell (4 * k + 2) (l.getD (4 * k + 2) 0) (by rw [List.getD_eq_getElem?_getD, List.getElem?_eq_getElem (by omega)]; rfl)
        have d3 := hcell (4 * k + 3) (l.getD (4 * k + 3) 0) (by rw [List.getD_eq_getElem?_getD, List.getElem?_eq_getElem (by omega)]; rfl)
        have HN := Lib.hid (nextW_low l k h16)
        generalize l.getD (4 * k) 0 = y0 at d0 HN
        generalize l.getD (4 * k + 1) 0 = y1 at d1 HN
        generalize l.getD (4 * k + 2) 0 = y2 at d2 HN
        generalize l.getD (4 * k + 3) 0 = y3 at d3 HN
        have l0 : 4 * (k : Int) < l.length := by omega
        have l1 : 4 * (k : Int) + 1 < l.length := by omega
        have l2 : 4 * (k : Int) + 2 < l.length := by omega
        have l3 : 4 * (k : Int) + 3 < l.length := by omega
        clear hcell htk ht
        go_wp2
        go_region
        go_wp2
        go_roundw
        case rel =>
          refine ⟨k + 1, by omega, by go_num, ?_, grown_trans hgr (grown_trans (grown_set _ _ _ _) (grown_of_below (Below_drawn (Below.refl _ _) 1) _))⟩
          show KB _ _ _ (rowW (wordsTo l k ++ [nextW l (wordsTo l k)]) 64).toArray
          rw [HN.out, word4_val]
          exact (hgk.put_word k (wordsTo_length l k).symm (by omega) _).drewN 1
        case measure => simp [intOf]; omega
      · have hz : k < (wordsTo l k).length + 1 := by rw [wordsTo_length]; omega
        have r15 := hgk.word (i := k - 15) (by omega)
        have r2 := hgk.word (i := k - 2) (by omega)
        have r7 := hgk.word (i := k - 7) (by omega)
        have r16 := hgk.word (i := k - 16) (by omega)
        have b15 := wordsTo_getD_lt l k (k - 15)
        have b2 := wordsTo_getD_lt l k (k - 2)
        have HN := Lib.hid (nextW_high l k (by omega))
        generalize (wordsTo l k).getD (k - 15) 0 = x15 at r15 b15 HN
        generalize (wordsTo l k).getD (k - 2) 0 = x2 at r2 b2 HN
        generalize (wordsTo l k).getD (k - 7) 0 = x7 at r7 HN
        generalize (wordsTo l k).getD (k - 16) 0 = x16 at r16 HN
        have HB0 := Lib.hid (sig0_val x15 b15)
        have HB1 := Lib.hid (sig1_val x2 b2)
        have h16' : 16 ≤ k := by omega
        clear hz htk ht
        go_wp2
        go_quiet (fail)
        have t1 : IntKind.i64.wrap ((k : Int) - 7) = (k : Int) - 7 := IntWalk.i64_in _ (by omega)
        have t2 : IntKind.i64.wrap ((k : Int) - 16) = (k : Int) - 16 := IntWalk.i64_in _ (by omega)
        have t3 : ((k : Int) - 7).toNat = k - 7 := by omega
        have t4 : ((k : Int) - 16).toNat = k - 16 := by omega
        have t5 : (7 : Int) ≤ (k : Int) := by omega
        have t6 : (16 : Int) ≤ (k : Int) := by omega
        have t7 : (k : Int) - 7 < 64 := by omega
        have t8 : (k : Int) - 16 < 64 := by omega
        go_wp2
        refine wp_still_tail 29 (by kernel_rfl) (by kernel_rfl) (fun W2 => (W2.cell? ⟨w.heap.size + 1, k - 7, none⟩ = some (.int .u32 (x7 : Int)) ∧ W2.cell? ⟨w.heap.size + 1, k - 16, none⟩ = some (.int .u32 (x16 : Int)) ∧
          W2.cell? ⟨w.heap.size + 1, k, none⟩ = some (.int .u32 (x : Int)) ∧ W2.frozen? ⟨w.heap.size + 1, k, none⟩ = false) ∧ KB W2 (w.heap.size + 1) 116 (rowW (wordsTo l k) 64).toArray ∧ W0.grownBy W2 (some (w.heap.size + 1)))
          ⟨⟨r7, r16, hx, hf⟩, hgk, ⟨hgr.os, hgr.tape, hgr.output, hgr.size, hgr.block⟩⟩ ?_
        clear r7 r16 r15 r2 hx hf hgk hgr
        rintro W2 ⟨⟨r7, r16, hx, hf⟩, hgk, hgr⟩
        simp only [List.take_succ_cons, List.take_zero, List.drop_succ_cons, List.drop_zero]
        repeat still_step
        still_call (turn_left x2 17 _ rfl b2 (by omega) (by omega) _)
        repeat still_step
        still_call (turn_left x2 19 _ rfl b2 (by omega) (by omega) _)
        repeat still_step
        still_call (turn_left x15 7 _ rfl b15 (by omega) (by omega) _)
        repeat still_step
        still_call (turn_left x15 18 _ rfl b15 (by omega) (by omega) _)
        repeat still_step
        refine wpStill_nil ?_
        simp only [HB0.out, HB1.out]
        clear t1 t2 t3 t4 t7 t8
        go_wp2
        go_roundw
        case rel =>
          refine ⟨k + 1, by omega, by go_num, ?_, grown_trans hgr (grown_set _ _ _ _)⟩
          show KB _ _ _ (rowW (wordsTo l k ++ [nextW l (wordsTo l k)]) 64).toArray
          rw [HN.out, add_val4]
          exact hgk.put_word k (wordsTo_length l k).symm (by omega) _
        case measure => simp [intOf]; omega
    · obtain rfl : k = 64 := by omega
      have HE := Lib.hid (rowW_full (wordsTo l 64) 64 (wordsTo_length l 64))
      have HL : Hid (((wordsTo l 64).map wv).length = 64) := by show _ = _; rw [List.length_map, wordsTo_length]
      have hw1 : ∀ v ∈ (wordsTo l 64).map wv, v.oneCell' = true := words_one _
      rw [HE.out] at hgk
      generalize hcs : (wordsTo l 64).map wv = cs at *
      have HC := Lib.hid hcs
      clear hcs
      have hr' := hr.grown hgr (by simp)
      have b1 := B0.trans (below_of_grown' hgr (by simp) B0.size)
      go_wp2_with (first
        | (refine wpList_load_kb rfl 116 (.tmp 3) rfl (w.heap.size + 1) rfl _ cs hgk _ Tryd.underlying116 rfl 64 (by kernel_rfl) HL.out ?_)
        | (refine wpList_store_kb rfl 116 (.tmp 2) (.tmp 85) rfl w.heap.size cs rfl rfl _ _ hr' 64 (by kernel_rfl) (by rw [rowW_length _ _ (by simp)]) HL.out hw1 ?_; intro w2 k2 g2))
      refine bodyPost_ret (results_cell_row (P := Tryd.prog) rfl _ w2 w.heap.size _ cs.toArray (0, 0) _ rfl k2 Tryd.underlying116 rfl (by rw [show cs.toArray.size = 64 from by simpa using HL.out]; kernel_rfl)) rfl ⟨by rw [HC.out], b1.trans (below_of_grown' g2 (Nat.le_refl _) b1.size)⟩
end Go.Proofs.YtgoifhpinoodgaaDoor
end
