/-
  ShaD: The document's own keys and block: each one's contract over the loaded program. No condition but the worlds' shapes that each contract names.
-/
import Derived.Test.YtgoifhpinoodgaaDoorWo39

section
namespace Go.Proofs.YtgoifhpinoodgaaDoor
open Go.RowKit
set_option linter.unusedVariables false

theorem turn_lit (x : Nat) (hx : x < 4294967296) (w : World) :
    Calls Tryd.prog 76 #[.int .u32 x, .int .u64 6] w (fun e w' => e = .returned (.int .u32 (rotr x 6 : Nat)) ∧ w' = w) ∧
    Calls Tryd.prog 76 #[.int .u32 x, .int .u64 11] w (fun e w' => e = .returned (.int .u32 (rotr x 11 : Nat)) ∧ w' = w) ∧
    Calls Tryd.prog 76 #[.int .u32 x, .int .u64 25] w (fun e w' => e = .returned (.int .u32 (rotr x 25 : Nat)) ∧ w' = w) ∧
    Calls Tryd.prog 76 #[.int .u32 x, .int .u64 2] w (fun e w' => e = .returned (.int .u32 (rotr x 2 : Nat)) ∧ w' = w) ∧
    Calls Tryd.prog 76 #[.int .u32 x, .int .u64 13] w (fun e w' => e = .returned (.int .u32 (rotr x 13 : Nat)) ∧ w' = w) ∧
    Calls Tryd.prog 76 #[.int .u32 x, .int .u64 22] w (fun e w' => e = .returned (.int .u32 (rotr x 22 : Nat)) ∧ w' = w) :=
  ⟨turn_left x 6 6 rfl hx (by decide) (by decide) w, turn_left x 11 11 rfl hx (by decide) (by decide) w, turn_left x 25 25 rfl hx (by decide) (by decide) w,
   turn_left x 2 2 rfl hx (by decide) (by decide) w, turn_left x 13 13 rfl hx (by decide) (by decide) w, turn_left x 22 22 rfl hx (by decide) (by decide) w⟩

set_option maxRecDepth 100000 in
set_option maxHeartbeats 4000000 in
theorem block_any (S : Nat → Prop) (v : Value) (l : List UInt8) (hl : 64 ≤ l.length) (s : S8) (hs : s.Ok) (w : World) (h : BS w S v l) :
    Calls Tryd.prog 61 #[.agg s.vals.toArray, v] w fun e w' => e = .returned (.agg (block8 s l).vals.toArray) ∧ Below w.heap.size w w' := by
  obtain ⟨A, c, rfl, hc, hm, _⟩ := h.form
  go_enter Tryd.func61, Tryd.ntmps61
  go_wp2_with fail
  have h1 := (h.lt.alloc (.cells s.vals.toArray 98)).alloc (.cells zero8 98)
  have kw : KB ((w.alloc (.cells s.vals.toArray 98)).alloc (.cells zero8 98)) w.heap.size 98 s.vals.toArray := (KB.new _ _ _).alloc _
  have kr : KB ((w.alloc (.cells s.vals.toArray 98)).alloc (.cells zero8 98)) (w.heap.size + 1) 98 zero8 := by
    have := KB.new (w.alloc (.cells s.vals.toArray 98)) 98 zero8
    simpa using this
  have B0 : Below w.heap.size w ((w.alloc (.cells s.vals.toArray 98)).alloc (.cells zero8 98)) := ((Below.refl _ _).alloc (Nat.le_refl _) _).alloc (by simp) _
  unfold zero8 at h1 kw kr B0
  generalize (w.alloc (.cells s.vals.toArray 98)).alloc (.cells _ 98) = W0 at *
  refine (words_any _ _ l hl _ h1).mono ?_
  rintro e W1 ⟨rfl, b1⟩
  have kw1 := kw.below b1 kw.lt
  have kr1 := kr.below b1 kr.lt
  have B1 := B0.trans (b1.mono B0.size)
  clear kw kr b1 B0 h1 h
  go_wp2_with fail
  refine (keys_any _).mono ?_
  rintro e W2 ⟨rfl, b2⟩
  have kw2 := kw1.below b2 kw1.lt
  have kr2 := kr1.below b2 kr1.lt
  have B2 := B1.trans (b2.mono B1.size)
  have z2 := B2.size
  have zr := kr2.lt
  clear kw1 kr1 b2 B1
  have hw1 : ∀ v ∈ (wordsTo l 64).map wv, v.oneCell' = true := words_one _
  have HL : Hid (((wordsTo l 64).map wv).length = 64) := by show _ = _; rw [List.length_map, wordsTo_length]
  have HW : Hid ((wordsTo l 64).length = 64) := wordsTo_length l 64
  have HB : Hid (block8 s l = s.plus (roundsTo (wordsTo l 64) s 64)) := rfl
  obtain ⟨R, hRR⟩ : ∃ R, R = block8 s l := ⟨_, rfl⟩
  rw [← hRR] at HB
  have HRR := Lib.hid hRR
  clear hRR
  generalize wordsTo l 64 = ws at *
  have hk1 : ∀ v ∈ keysL.map wv, v.oneCell' = true := words_one _
  have HK : Hid (keysL = keysL) := rfl
  have HKL : Hid ((keysL.map wv).length = 64) := rfl
  generalize hks : keysL = ks at hk1 HK HKL ⊢
  have HKS := Lib.hid hks
  clear hks HK
  go_wp2_with (first
    | (refine wpList_store_kb rfl 116 (.tmp 5) (.tmp 15) rfl W2.heap.size (ws.map wv) rfl rfl 116 (rowW [] 64) (by rw [row_zero]; exact (KB.new _ _ _).alloc _) 64 (by kernel_rfl) (by rw [rowW_length _ _ (by simp)]) HL.out hw1 ?_; intro W3 k3 g3; rw [row_zero] at g3
       have b3 : Below W2.heap.size W2 W3 := (((Below.refl _ _).alloc (Nat.le_refl _) _).alloc (by simp) _).grown g3 (by simp; omega) (by simp)
       have k4 : KB W3 (W2.heap.size + 1) 116 (rowW [] 64).toArray := (show KB _ (W2.heap.size + 1) _ _ by simpa using KB.new (W2.alloc (.cells (rowW [] 64).toArray 116)) 116 (rowW [] 64).toArray).grown g3 (by simp)
       clear g3)
    | (refine wpList_store_kb rfl 116 (.tmp 6) (.tmp 16) rfl (W2.heap.size + 1) (ks.map wv) rfl rfl 116 (rowW [] 64) k4 64 (by kernel_rfl) (by rw [rowW_length _ _ (by simp)]) HKL.out hk1 ?_; intro W4 k5 g4
       have b4 : Below W2.heap.size W2 W4 := b3.grown g4 b3.size (by simp)
       have k3' := k3.grown g4 (by simp)
       have kw4 := kw2.below b4 kw2.lt
       have kr4 := kr2.below b4 kr2.lt
       have B4 := B2.trans (b4.mono z2)
       have z4 := k5.lt
       clear k3 k4 g4 b3 b4 kw2 kr2 B2)
    | (refine wpList_load_kb rfl 98 (.tmp 2) rfl w.heap.size rfl _ s.vals kw4 _ Tryd.underlying98 rfl 8 (by kernel_rfl) (vals_length s) ?_)
    | (refine wpList_store_kb rfl 98 (.tmp 7) (.tmp 17) rfl W4.heap.size s.vals rfl rfl 98 [wv 0, wv 0, wv 0, wv 0, wv 0, wv 0, wv 0, wv 0] (KB.new _ _ _) 8 (by kernel_rfl) rfl (vals_length s) (vals_one s) ?_; intro W5 k7 g5
       have b5 : Below W4.heap.size W4 W5 := ((Below.refl _ _).alloc (Nat.le_refl _) _).grown g5 (by simp) (by simp)
       clear g5))
  have k3 := k3'.below b5 k3'.lt
  have k6 := k5.below b5 k5.lt
  have kw5 := kw4.below b5 kw4.lt
  have kr5 := kr4.below b5 kr4.lt
  have B5 := B4.trans (b5.mono B4.size)
  have z5 := k7.lt
  clear k3' k5 kw4 kr4 b5 B4
  generalize W2.heap.size = g2 at *
  generalize W4.heap.size = g4 at *
  clear HW
  go_loopw [8] (fun i wr => ∃ (k : Nat) (v : S8), k ≤ 64 ∧ i = .int .i64 k ∧ Hid (v = roundsTo ws s k) ∧ v.Ok ∧ KB wr g4 98 v.vals.toArray ∧ W5.grownBy wr (some g4)) (fun i _ => 64 - (intOf i).toNat)
  case atStart => exact ⟨0, s, by omega, rfl, rfl, hs, k7, World.grownBy.refl _ _⟩
  case round =>
    obtain ⟨k, v, hk, rfl, HVk, ok, kv, hgr⟩ := hrel
    have k3r := k3.grown hgr (by simp; omega)
    have k6r := k6.grown hgr (by simp; omega)
    by_cases hlt : k < 64
    · have r1 : wr.cell? ⟨g2 + 1, k, none⟩ = some (.int .u32 ((ks.getD k 0 : Nat) : Int)) := by
        have hk' : k < ks.length := by have := HKL.out; simp at this; omega
        rw [k6r.cell, List.getElem?_toArray, List.getElem?_map, List.getD_eq_getElem?_getD, List.getElem?_eq_getElem hk']; rfl
      have r2 : wr.cell? ⟨g2, k, none⟩ = some (.int .u32 ((ws.getD k 0 : Nat) : Int)) := by
        have hk' : k < ws.length := by have := HL.out; simp at this; omega
        rw [k3r.cell, List.getElem?_toArray, List.getElem?_map, List.getD_eq_getElem?_getD, List.getElem?_eq_getElem hk']; rfl
      have HR : Hid (roundsTo ws s (k + 1) = round8 (ks.getD k 0) (ws.getD k 0) v) := by show _ = _; rw [HVk.out, ← HKS.out]; rfl
      generalize ks.getD k 0 = kk at r1 HR
      generalize ws.getD k 0 = ww at r2 HR
      have hk1 : (k : Int) < 64 := by omega
      have oe := ok.e
      have oa := ok.a
      have c0 : wr.cell? ⟨g4, 0, none⟩ = some (.int .u32 (v.a : Int)) := kv.cell 0
      have c1 : wr.cell? ⟨g4, 1, none⟩ = some (.int .u32 (v.b : Int)) := kv.cell 1
      have c2 : wr.cell? ⟨g4, 2, none⟩ = some (.int .u32 (v.c : Int)) := kv.cell 2
      have c3 : wr.cell? ⟨g4, 3, none⟩ = some (.int .u32 (v.d : Int)) := kv.cell 3
      have c4 : wr.cell? ⟨g4, 4, none⟩ = some (.int .u32 (v.e : Int)) := kv.cell 4
      have c5 : wr.cell? ⟨g4, 5, none⟩ = some (.int .u32 (v.f : Int)) := kv.cell 5
      have c6 : wr.cell? ⟨g4, 6, none⟩ = some (.int .u32 (v.g : Int)) := kv.cell 6
      have c7 : wr.cell? ⟨g4, 7, none⟩ = some (.int .u32 (v.h : Int)) := kv.cell 7
      clear k3r k6r
      go_wp2
      go_quiet (fail)
      have hall : (((wr.drewN nq).cell? ⟨g2 + 1, k, none⟩ = some (.int .u32 (kk : Int)) ∧ (wr.drewN nq).cell? ⟨g2, k, none⟩ = some (.int .u32 (ww : Int))) ∧ KB (wr.drewN nq) g4 98 v.vals.toArray ∧ W5.grownBy (wr.drewN nq) (some g4)) :=
        ⟨⟨r1, r2⟩, kv, ⟨hgr.os, hgr.tape, hgr.output, hgr.size, hgr.block⟩⟩
      clear r1 r2 kv hgr c0 c1 c2 c3 c4 c5 c6 c7
      generalize wr.drewN nq = W6 at *
      obtain ⟨⟨r1, r2⟩, kv, hgr⟩ := hall
      have c1 : W6.cell? ⟨g4, 1, none⟩ = some (.int .u32 (v.b : Int)) := kv.cell 1
      have c2 : W6.cell? ⟨g4, 2, none⟩ = some (.int .u32 (v.c : Int)) := kv.cell 2
      have c5 : W6.cell? ⟨g4, 5, none⟩ = some (.int .u32 (v.f : Int)) := kv.cell 5
      have c6 : W6.cell? ⟨g4, 6, none⟩ = some (.int .u32 (v.g : Int)) := kv.cell 6
      have c7 : W6.cell? ⟨g4, 7, none⟩ = some (.int .u32 (v.h : Int)) := kv.cell 7
      go_wp2
      go_quiet ((first | (go_at_call 76; first | (with_reducible exact Calls.quiet_of_same (turn_lit v.e oe _).1) | (with_reducible exact Calls.quiet_of_same (turn_lit v.e oe _).2.1) | (with_reducible exact Calls.quiet_of_same (turn_lit v.e oe _).2.2.1))))
      have hall : KB (W6.drewN nq) g4 98 v.vals.toArray ∧ W5.grownBy (W6.drewN nq) (some g4) := ⟨kv, ⟨hgr.os, hgr.tape, hgr.output, hgr.size, hgr.block⟩⟩
      clear r1 r2 kv hgr c1 c2 c5 c6 c7
      generalize W6.drewN nq = W7 at *
      obtain ⟨kv, hgr⟩ := hall
      have c1 : W7.cell? ⟨g4, 1, none⟩ = some (.int .u32 (v.b : Int)) := kv.cell 1
      have c2 : W7.cell? ⟨g4, 2, none⟩ = some (.int .u32 (v.c : Int)) := kv.cell 2
      go_wp2
      go_quiet ((first | (go_at_call 76; first | (with_reducible exact Calls.quiet_of_same (turn_lit v.a oa _).2.2.2.1) | (with_reducible exact Calls.quiet_of_same (turn_lit v.a oa _).2.2.2.2.1) | (with_reducible exact Calls.quiet_of_same (turn_lit v.a oa _).2.2.2.2.2))))
      have hall : KB (W7.drewN nq) g4 98 v.vals.toArray ∧ W5.grownBy (W7.drewN nq) (some g4) := ⟨kv, ⟨hgr.os, hgr.tape, hgr.output, hgr.size, hgr.block⟩⟩
      clear kv hgr c1 c2
      generalize W7.drewN nq = W8 at *
      obtain ⟨kv, hgr⟩ := hall
      have c0 : W8.cell? ⟨g4, 0, none⟩ = some (.int .u32 (v.a : Int)) := kv.cell 0
      have c1 : W8.cell? ⟨g4, 1, none⟩ = some (.int .u32 (v.b : Int)) := kv.cell 1
      have c2 : W8.cell? ⟨g4, 2, none⟩ = some (.int .u32 (v.c : Int)) := kv.cell 2
      have c3 : W8.cell? ⟨g4, 3, none⟩ = some (.int .u32 (v.d : Int)) := kv.cell 3
      have c4 : W8.cell? ⟨g4, 4, none⟩ = some (.int .u32 (v.e : Int)) := kv.cell 4
      have c5 : W8.cell? ⟨g4, 5, none⟩ = some (.int .u32 (v.f : Int)) := kv.cell 5
      have c6 : W8.cell? ⟨g4, 6, none⟩ = some (.int .u32 (v.g : Int)) := kv.cell 6
      have HT1 := Lib.hid (turn3_val v.e 6 11 25 oe)
      have HT2 := Lib.hid (turn3_val v.a 2 13 22 oa)
      rw [HT1.out, HT2.out, tOne_val ok, tTwo_val ok]
      have HX : Hid (round8 kk ww v = ⟨add32 (tOne kk ww v) (tTwo v), v.a, v.b, v.c, add32 v.d (tOne kk ww v), v.e, v.f, v.g⟩) := rfl
      generalize tOne kk ww v = y1 at *
      generalize tTwo v = y2 at *
      have hx1 := vals_one (round8 kk ww v)
      have hx2 := round8_ok ok kk ww
      generalize round8 kk ww v = X at *
      go_wp2_with (rw [add_val, add_val]; refine wpList_store_kb rfl 98 (.tmp 7) (.tmp 99) rfl g4 X.vals rfl (by rw [HX.out]; rfl) _ _ kv 8 (by kernel_rfl) (vals_length v) (vals_length X) hx1 ?_; intro W9 k9 g9)
      go_roundw
      case rel => exact ⟨k + 1, X, by omega, by go_num, HR.out.symm, hx2, k9, grown_trans hgr g9⟩
      case measure => simp [intOf]; omega
    · obtain rfl : k = 64 := by omega
      have HS : Hid (R = s.plus v) := by show _ = _; rw [HB.out, HVk.out]
      have kwr := kw5.grown hgr (by simp; omega)
      have krr := kr5.grown hgr (by simp; omega)
      have Br := B5.trans (below_of_grown' hgr (by omega) B5.size)
      have zr' : w.heap.size + 1 < wr.heap.size := krr.lt
      clear kw5 kr5 B5 k3r k6r k3 k6 HL HKL HVk hgr k7
      go_wp2
      obtain ⟨wo, hwo⟩ : ∃ wo : World, wo = wr := ⟨_, rfl⟩
      subst hwo
      go_loopw [13] (fun i wr => ∃ k : Nat, k ≤ 8 ∧ i = .int .i64 k ∧ KB wr w.heap.size 98 (mixV s v k).toArray ∧ wo.grownBy wr (some w.heap.size)) (fun i _ => 8 - (intOf i).toNat)
      case atStart => exact ⟨0, by omega, rfl, kwr, World.grownBy.refl _ _⟩
      case round =>
        obtain ⟨k, hk8, rfl, hkb, hgr⟩ := hrel
        by_cases h8 : k < 8
        · obtain ⟨x, y, e1, e2, e3⟩ := mixV_step s v k h8
          have cx : wr.cell? ⟨w.heap.size, k, none⟩ = some (.int .u32 (x : Int)) := by rw [hkb.cell, List.getElem?_toArray, e1]
          have cy : wr.cell? ⟨g4, k, none⟩ = some (.int .u32 (y : Int)) := by rw [(kv.grown hgr (by simp; omega)).cell, List.getElem?_toArray, e2]
          have fx := hkb.free k
          have E3 := Lib.hid e3
          have hk9 : (k : Int) < 8 := by omega
          clear e1 e2 e3
          go_wp2
          go_region
          go_wp2
          go_roundw
          case rel =>
            refine ⟨k + 1, by omega, by go_num, ?_, grown_trans hgr (grown_trans (grown_set _ _ _ _) (grown_of_below (Below_drawn (Below.refl _ _) 1) _))⟩
            have h9 : KB (wr.setCell ⟨w.heap.size, k, none⟩ (wv (add32 x y))) w.heap.size 98 ((mixV s v k).set k (wv (add32 x y))).toArray := by simpa using hkb.put k (wv (add32 x y))
            rw [← E3.out, add_val]
            exact h9
          case measure => simp [intOf]; omega
        · obtain rfl : k = 8 := by omega
          have kr8 := krr.grown hgr (by simp)
          have B8 := Br.trans (below_of_grown' hgr (Nat.le_refl _) Br.size)
          rw [mixV_eight, ← HS.out] at hkb
          clear hgr krr kwr
          go_wp2_with (first
            | (refine wpList_load_kb rfl 98 (.tmp 2) rfl w.heap.size rfl _ R.vals hkb _ Tryd.underlying98 rfl 8 (by kernel_rfl) (vals_length R) ?_)
            | (refine wpList_store_kb rfl 98 (.tmp 4) (.tmp 113) rfl (w.heap.size + 1) R.vals rfl rfl _ [wv 0, wv 0, wv 0, wv 0, wv 0, wv 0, wv 0, wv 0] kr8 8 (by kernel_rfl) rfl (vals_length R) (vals_one R) ?_; intro w9 k9 g9))
          refine bodyPost_ret (results_cell_row (P := Tryd.prog) rfl _ w9 (w.heap.size + 1) _ R.vals.toArray (0, 0) _ rfl k9 Tryd.underlying98 rfl (by rw [show R.vals.toArray.size = 8 from rfl]; kernel_rfl)) rfl ⟨by rw [HRR.out], B8.trans (below_of_grown' g9 (by omega) B8.size)⟩
end Go.Proofs.YtgoifhpinoodgaaDoor
end
