/-
  What stands ahead of a part's kids' bytes, by the program: its contract over the loaded program. No condition but what it names.
-/
import Derived.Test.YtmepcdljobdigaaDoorTpD
import Derived.Test.YtmepcdljobdigaaDoorTermU
namespace Go.Proofs.YtmepcdljobdigaaDoor
open Go.RowKit
set_option linter.unusedVariables false

set_option maxHeartbeats 1000000 in
theorem head_any (S : Nat → Prop) (f : Nat) (t : Nd (Tm f)) (v : Value) (w : World) (h : Shp w) (hv : TV w S (f + 1) v t) (hlen : (headB t).length ≤ 1000000) :
    Calls Tryd.prog 32 #[v] w fun e w' => Fresh w e w' (headB t) := by
  obtain ⟨i0, hi, hz0, hz1, hz2⟩ := info_parts info_byte
  obtain ⟨c0, c1, c2, c3, rfl, rfl, hk, rfl, hn, hdat, hks⟩ := hv
  obtain ⟨A2, cap2, rfl, _⟩ := hdat.form
  obtain ⟨A3, cap3, rfl, _⟩ := hks
  obtain ⟨k, n, d, ks⟩ := t
  simp only at hk hn hdat ⊢
  have hhd : headB (⟨k, n, d, ks⟩ : Nd (Tm f)) = UInt8.ofNat (k % 256).toNat :: ((if numK k = true then numb n else []) ++ (if k = 3 then texb d else [])) := rfl
  have kb := KB.new w 26 #[.int .i64 k, .int .u64 n, .slice A2 d.length cap2, .slice A3 ks.length cap3]
  have B0 := (Below.refl w.heap.size w).alloc (Nat.le_refl _) (.cells #[.int .i64 k, .int .u64 n, .slice A2 d.length cap2, .slice A3 ks.length cap3] 26)
  have hsh := shapeOf_any k _ (h.alloc (.cells #[.int .i64 k, .int .u64 n, .slice A2 d.length cap2, .slice A3 ks.length cap3] 26))
  have hdw := hdat.alloc (.cells #[.int .i64 k, .int .u64 n, .slice A2 d.length cap2, .slice A3 ks.length cap3] 26)
  have eb := byte_int k
  have h3N : k = 3 → numK k = false := fun h => by subst h; rfl
  have H3 : Hid (decide (k = 3) = true ↔ k = 3) := decide_eq_true_iff
  have H30 : Hid (decide (k = 3) = false ↔ ¬ k = 3) := decide_eq_false_iff_not
  rw [hhd] at hlen ⊢
  clear hhd
  generalize UInt8.ofNat (k % 256).toNat = h0 at *
  unfold shp at hsh
  generalize kidsP k = P at *
  have EB := Lib.hid eb
  clear eb h
  cases hN : numK k with
  | true =>
    have hD : decide (k = 3) = false := H30.out.2 fun h => by rw [h3N h] at hN; cases hN
    have hk3 := H30.out.1 hD
    rw [hN, hD] at hsh
    rw [hN, if_pos rfl, if_neg hk3, List.append_nil] at hlen
    rw [if_pos rfl, if_neg hk3, List.append_nil]
    have hln : (numb n).length + 1 ≤ 1000000 := by simpa using hlen
    have hnum := fun w => num_any n w hn
    have HD : Hid (h0 :: numb n = [h0] ++ numb n) := rfl
    rw [HD.out]
    clear hN hD hk3 hlen h3N H3 H30
    generalize numb n = M1 at *
    go_enter Tryd.func32, Tryd.ntmps32
    go_wp2_with fail
    refine hsh.mono ?_
    rintro e w5 ⟨rfl, b5⟩
    have B5 := B0.trans (b5.mono B0.size)
    have K5 := kb.below b5 kb.lt
    have d5 := hdw.below' b5
    have hz : w.heap.size < w5.heap.size := K5.lt
    have q0 : w5.cell? ⟨w.heap.size, 0, none⟩ = some (.int .i64 k) := K5.cell 0
    have q1 : w5.cell? ⟨w.heap.size, 1, none⟩ = some (.int .u64 n) := K5.cell 1
    have q2 : w5.cell? ⟨w.heap.size, 2, none⟩ = some (.slice A2 d.length cap2) := K5.cell 2
    have how := lit_b (w5.alloc (.cells #[.bool true, .bool false, .int .i64 P] 62)) h0 (w5.heap.size + 1) (by simp)
    rw [World.size_alloc] at how
    have L5 := (KB.new w5 62 #[.bool true, .bool false, .int .i64 P]).alloc (.cells #[bv h0] 5)
    have B6 := (B5.alloc (by have := B5.size; omega) (.cells #[.bool true, .bool false, .int .i64 P] 62)).alloc (by have := B5.size; simp; omega) (.cells #[bv h0] 5)
    have d6 := (d5.alloc (.cells #[.bool true, .bool false, .int .i64 P] 62)).alloc (.cells #[bv h0] 5)
    clear hsh K5 d5 b5 kb B0 hdw
    go_wp2_with fail
    (first | rw [EB.out] | skip)
    refine (hnum _).mono ?_
    rintro e w7 ⟨v7, rfl, hf7, b7⟩
    have L7 := L5.below b7 L5.lt
    have B7 := B6.trans (b7.mono B6.size)
    have how7 := own_past b7 how
    have hz5 := L7.lt
    clear q0 q1 q2 hnum
    go_wp2_with (at_builtin; refine wpList_grow _ rfl _ _ _ rfl (w5.heap.size + 1) 5 i0 Tryd.underlying23 hi hz0 hz1 hz2 _ _ rfl how7 _ _ _ rfl (own_BS hf7) (by simp; omega) hz5 ?_; intro v8 w8 how8 hg8 _; have L8 := L7.grown hg8 (own_ne how7 (Nat.lt_succ_self _)); have B8 := B7.grown hg8 B7.size fun x hx => Nat.le_trans (Nat.le_succ_of_le (Nat.le_of_lt hz)) (own_ge how7 x hx); have r1 : w8.cell? ⟨w5.heap.size, 1, none⟩ = some (.bool false) := L8.cell 1)
    go_ret
    exact ⟨_, rfl, own_base how8 (by omega), B8⟩
  | false =>
    cases hD : decide (k = 3) with
    | true =>
      have hk3 := H3.out.1 hD
      rw [hN, hD] at hsh
      rw [hN, if_neg (by simp), if_pos hk3, List.nil_append] at hlen
      rw [if_neg (by simp), if_pos hk3, List.nil_append]
      have hln : (texb d).length + 1 ≤ 1000000 := by simpa using hlen
      have hdl : d.length ≤ 140737488000000 := by
        have : d.length ≤ (texb d).length := by simp [texb]
        omega
      have HD : Hid (h0 :: texb d = [h0] ++ texb d) := rfl
      rw [HD.out]
      have HT : Hid (∀ (S : Nat → Prop) (v : Value) (w : World), BS w S v d → Calls Tryd.prog 53 #[v] w fun e w' => Fresh w e w' (texb d)) := fun S v w h => text_any S v d w h hdl
      clear hN hD hk3 hlen h3N H3 H30 hdl hdat
      generalize texb d = M1 at *
      go_enter Tryd.func32, Tryd.ntmps32
      go_wp2_with fail
      refine hsh.mono ?_
      rintro e w5 ⟨rfl, b5⟩
      have B5 := B0.trans (b5.mono B0.size)
      have K5 := kb.below b5 kb.lt
      have d5 := hdw.below' b5
      have hz : w.heap.size < w5.heap.size := K5.lt
      have q0 : w5.cell? ⟨w.heap.size, 0, none⟩ = some (.int .i64 k) := K5.cell 0
      have q1 : w5.cell? ⟨w.heap.size, 1, none⟩ = some (.int .u64 n) := K5.cell 1
      have q2 : w5.cell? ⟨w.heap.size, 2, none⟩ = some (.slice A2 d.length cap2) := K5.cell 2
      have how := lit_b (w5.alloc (.cells #[.bool false, .bool true, .int .i64 P] 62)) h0 (w5.heap.size + 1) (by simp)
      rw [World.size_alloc] at how
      have L5 := (KB.new w5 62 #[.bool false, .bool true, .int .i64 P]).alloc (.cells #[bv h0] 5)
      have B6 := (B5.alloc (by have := B5.size; omega) (.cells #[.bool false, .bool true, .int .i64 P] 62)).alloc (by have := B5.size; simp; omega) (.cells #[bv h0] 5)
      have d6 := (d5.alloc (.cells #[.bool false, .bool true, .int .i64 P] 62)).alloc (.cells #[bv h0] 5)
      clear hsh K5 d5 b5 kb B0 hdw
      go_wp2_with fail
      (first | rw [EB.out] | skip)
      refine (HT.out _ _ _ d6).mono ?_
      rintro e w7 ⟨v7, rfl, hf7, b7⟩
      have L7 := L5.below b7 L5.lt
      have B7 := B6.trans (b7.mono B6.size)
      have how7 := own_past b7 how
      have hz5 := L7.lt
      clear q0 q1 q2 d6
      go_wp2_with (at_builtin; refine wpList_grow _ rfl _ _ _ rfl (w5.heap.size + 1) 5 i0 Tryd.underlying23 hi hz0 hz1 hz2 _ _ rfl how7 _ _ _ rfl (own_BS hf7) (by simp; omega) hz5 ?_; intro v8 w8 how8 hg8 _; have L8 := L7.grown hg8 (own_ne how7 (Nat.lt_succ_self _)); have B8 := B7.grown hg8 B7.size fun x hx => Nat.le_trans (Nat.le_succ_of_le (Nat.le_of_lt hz)) (own_ge how7 x hx))
      go_ret
      exact ⟨_, rfl, own_base how8 (by omega), B8⟩
    | false =>
      have hk3 := H30.out.1 hD
      rw [hN, hD] at hsh
      rw [hN, if_neg (by simp), if_neg hk3, List.nil_append] at hlen
      rw [if_neg (by simp), if_neg hk3, List.nil_append]
      clear hN hD hk3 hlen h3N H3 H30
      go_enter Tryd.func32, Tryd.ntmps32
      go_wp2_with fail
      refine hsh.mono ?_
      rintro e w5 ⟨rfl, b5⟩
      have B5 := B0.trans (b5.mono B0.size)
      have K5 := kb.below b5 kb.lt
      have d5 := hdw.below' b5
      have hz : w.heap.size < w5.heap.size := K5.lt
      have q0 : w5.cell? ⟨w.heap.size, 0, none⟩ = some (.int .i64 k) := K5.cell 0
      have q1 : w5.cell? ⟨w.heap.size, 1, none⟩ = some (.int .u64 n) := K5.cell 1
      have q2 : w5.cell? ⟨w.heap.size, 2, none⟩ = some (.slice A2 d.length cap2) := K5.cell 2
      have how := lit_b (w5.alloc (.cells #[.bool false, .bool false, .int .i64 P] 62)) h0 (w5.heap.size + 1) (by simp)
      rw [World.size_alloc] at how
      have L5 := (KB.new w5 62 #[.bool false, .bool false, .int .i64 P]).alloc (.cells #[bv h0] 5)
      have B6 := (B5.alloc (by have := B5.size; omega) (.cells #[.bool false, .bool false, .int .i64 P] 62)).alloc (by have := B5.size; simp; omega) (.cells #[bv h0] 5)
      have d6 := (d5.alloc (.cells #[.bool false, .bool false, .int .i64 P] 62)).alloc (.cells #[bv h0] 5)
      clear hsh K5 d5 b5 kb B0 hdw
      go_wp2_with fail
      go_ret
      rw [EB.out]
      exact ⟨_, rfl, own_base how (by omega), B6⟩
end Go.Proofs.YtmepcdljobdigaaDoor
