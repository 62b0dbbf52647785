/-
  A block mixed in: mixed, and the document's own block: each one's contract over the loaded program.
  No condition but the worlds' shapes that each contract names (the table roots among them).
-/
import Derived.Test.YtjcdkfnjlmofiaaDoorShaB
namespace Go.Proofs.YtjcdkfnjlmofiaaDoor
open Go.RowKit
set_option linter.unusedVariables false

/-- The table of the package holds K. -/
def Tab (w : World) : Prop := 0 < w.heap.size ∧ ∀ i, i < 64 → w.cell? ⟨0, i, none⟩ = some (.int .u32 ((keysL.getD i 0 : Nat) : Int))
theorem Tab.keep {w w' : World} (h : Tab w) (hs : w.heap.size ≤ w'.heap.size) (hk : w'.heap[0]? = w.heap[0]?) : Tab w' :=
  ⟨Nat.lt_of_lt_of_le h.1 hs, fun i hi => (World.cell?_of_block (w := w) hk).trans (h.2 i hi)⟩
theorem Tab.below {w w' : World} (h : Tab w) (hb : Below w.heap.size w w') : Tab w' := h.keep hb.size (hb.block _ h.1)
theorem Tab.grown {w w' : World} {g : Nat} (h : Tab w) (hb : w.grownBy w' (some g)) (hg : 0 < g) : Tab w' := h.keep hb.size (hb.block _ h.1 (by simp; omega))

def zero8 : Array Value := #[.int .u32 0, .int .u32 0, .int .u32 0, .int .u32 0, .int .u32 0, .int .u32 0, .int .u32 0, .int .u32 0]
theorem wide_word (x : Nat) : (wv x).oneCell' = true := rfl

theorem turned_e (x : Nat) (hx : x < 4294967296) (w : World) :
    Calls Tryd.prog 37 #[.int .u32 x, .int .i64 6, .int .i64 11, .int .i64 25] w fun e w' => e = .returned (.int .u32 (turn3 x 6 11 25 : Nat)) ∧ w' = w :=
  (turned_any x 6 11 25 hx (by decide) (by decide) (by decide) (by decide) (by decide) (by decide) 6 11 25 rfl rfl rfl w).mono fun e w' h => ⟨h.1, h.2.symm⟩
theorem turned_a (x : Nat) (hx : x < 4294967296) (w : World) :
    Calls Tryd.prog 37 #[.int .u32 x, .int .i64 2, .int .i64 13, .int .i64 22] w fun e w' => e = .returned (.int .u32 (turn3 x 2 13 22 : Nat)) ∧ w = w' :=
  turned_any x 2 13 22 hx (by decide) (by decide) (by decide) (by decide) (by decide) (by decide) 2 13 22 rfl rfl rfl w

set_option maxRecDepth 100000 in
set_option maxHeartbeats 1000000 in
theorem mixed_any (S : Nat → Prop) (v : Value) (l : List UInt8) (hl : 64 ≤ l.length) (s : S8) (hs : s.Ok) (w : World) (h : BS w S v l) (ht : Tab w) :
    Calls Tryd.prog 33 #[.agg s.vals.toArray, v] w fun e w' => e = .returned (.agg (block8 s l).vals.toArray) ∧ Below w.heap.size w w' := by
  obtain ⟨A, c, rfl, hc, hm, _⟩ := h.form
  go_enter Tryd.func33, Tryd.ntmps33
  go_wp2_with fail
  have h1 := (h.lt.alloc (.cells s.vals.toArray 44)).alloc (.cells zero8 44)
  have kw : KB ((w.alloc (.cells s.vals.toArray 44)).alloc (.cells zero8 44)) w.heap.size 44 s.vals.toArray := (KB.new _ _ _).alloc _
  have kr : KB ((w.alloc (.cells s.vals.toArray 44)).alloc (.cells zero8 44)) (w.heap.size + 1) 44 zero8 := by
    have := KB.new (w.alloc (.cells s.vals.toArray 44)) 44 zero8
    simpa using this
  have B0 : Below w.heap.size w ((w.alloc (.cells s.vals.toArray 44)).alloc (.cells zero8 44)) := ((Below.refl _ _).alloc (Nat.le_refl _) _).alloc (by simp) _
  have t0 := ht.below B0
  unfold zero8 at h1 kw kr B0 t0
  generalize (w.alloc (.cells s.vals.toArray 44)).alloc (.cells _ 44) = W0 at *
  refine (schedule_any _ _ l hl _ h1).mono ?_
  rintro e W1 ⟨rfl, b1⟩
  have kw1 := kw.below b1 kw.lt
  have kr1 := kr.below b1 kr.lt
  have t1 := t0.below b1
  have B1 := B0.trans (b1.mono B0.size)
  have z1 := B1.size
  have zr := kr1.lt
  clear kw kr b1 B0 t0 h1 h ht
  have hw1 : ∀ v ∈ (wordsTo l 64).map wv, v.oneCell' = true := words_one _
  have HL : Hid (((wordsTo l 64).map wv).length = 64) := by show _ = _; rw [List.length_map, wordsTo_length]
  have HW : Hid ((wordsTo l 64).length = 64) := wordsTo_length l 64
  have HB : Hid (block8 s l = s.plus (roundsTo (wordsTo l 64) s 64)) := rfl
  obtain ⟨R, hRR⟩ : ∃ R, R = block8 s l := ⟨_, rfl⟩
  rw [← hRR] at HB
  have HRR := Lib.hid hRR
  clear hRR
  generalize wordsTo l 64 = ws at *
  go_wp2_with (refine wpList_store_kb rfl 50 (.tmp 5) (.tmp 20) rfl W1.heap.size (ws.map wv) rfl rfl 50 (rowW [] 64) (by rw [row_zero]; exact KB.new _ _ _) 64 (by kernel_rfl) (by rw [rowW_length _ _ (by simp)]) HL.out hw1 ?_; intro W2 k3 g3)
  have b2 : Below W1.heap.size W1 W2 := ((Below.refl _ _).alloc (Nat.le_refl _) _).grown g3 (by simp) (by simp)
  clear g3
  have kw2 := kw1.below b2 kw1.lt
  have kr2 := kr1.below b2 kr1.lt
  have t2 := t1.below b2
  have B2 := B1.trans (b2.mono z1)
  have z2 := B2.size
  have z3 := k3.lt
  clear kw1 kr1 t1 b2 B1
  have z4 : w.heap.size + 1 < W1.heap.size := zr
  generalize W1.heap.size = g1 at *
  have HV : Hid (s.vals = [wv s.a, wv s.b, wv s.c, wv s.d, wv s.e, wv s.f, wv s.g, wv s.h]) := rfl
  have c0 : W2.cell? ⟨w.heap.size, 0, none⟩ = some (.int .u32 (s.a : Int)) := kw2.cell 0
  have c1 : W2.cell? ⟨w.heap.size, 1, none⟩ = some (.int .u32 (s.b : Int)) := kw2.cell 1
  have c2 : W2.cell? ⟨w.heap.size, 2, none⟩ = some (.int .u32 (s.c : Int)) := kw2.cell 2
  have c3 : W2.cell? ⟨w.heap.size, 3, none⟩ = some (.int .u32 (s.d : Int)) := kw2.cell 3
  have c4 : W2.cell? ⟨w.heap.size, 4, none⟩ = some (.int .u32 (s.e : Int)) := kw2.cell 4
  have c5 : W2.cell? ⟨w.heap.size, 5, none⟩ = some (.int .u32 (s.f : Int)) := kw2.cell 5
  have c6 : W2.cell? ⟨w.heap.size, 6, none⟩ = some (.int .u32 (s.g : Int)) := kw2.cell 6
  have c7 : W2.cell? ⟨w.heap.size, 7, none⟩ = some (.int .u32 (s.h : Int)) := kw2.cell 7
  go_quiet (fail)
  go_wp2
  go_quiet (fail)
  go_wp2
  clear c0 c1 c2 c3 c4 c5 c6 c7
  go_loopw [37, 6, 7, 8, 9, 10, 11, 12, 13] (fun i a b c d e f g h wr => ∃ (k n : Nat) (v : S8), k ≤ 64 ∧ i = .int .i64 k ∧ Hid (v = roundsTo ws s k) ∧ v.Ok ∧ a = .int .u32 v.a ∧ b = .int .u32 v.b ∧ c = .int .u32 v.c ∧ d = .int .u32 v.d ∧
      e = .int .u32 v.e ∧ f = .int .u32 v.f ∧ g = .int .u32 v.g ∧ h = .int .u32 v.h ∧ Hid (wr = W2.drewN n)) (fun i _ _ _ _ _ _ _ _ _ => 64 - (intOf i).toNat)
  case atStart => exact ⟨0, _, s, by omega, rfl, rfl, hs, rfl, rfl, rfl, rfl, rfl, rfl, rfl, rfl, show _ = _ by first | rfl | exact drewN_twice _ _ _⟩
  case round =>
    obtain ⟨k, n, v, hk, rfl, HVk, ok, rfl, rfl, rfl, rfl, rfl, rfl, rfl, rfl, HWr⟩ := hrel
    by_cases hlt : k < 64
    · have r1 : wr.cell? ⟨0, k, none⟩ = some (.int .u32 ((keysL.getD k 0 : Nat) : Int)) := by rw [HWr.out]; exact t2.2 k hlt
      have HR : Hid (roundsTo ws s (k + 1) = round8 (keysL.getD k 0) (ws.getD k 0) v) := by show _ = _; rw [HVk.out]; rfl
      have r2 : wr.cell? ⟨g1, k, none⟩ = some (.int .u32 ((ws.getD k 0 : Nat) : Int)) := by
        have hk' : k < ws.length := by have := HW.out; omega
        rw [HWr.out]
        show W2.cell? _ = _
        rw [k3.cell, List.getElem?_toArray, List.getElem?_map, List.getD_eq_getElem?_getD, List.getElem?_eq_getElem hk']; rfl
      generalize keysL.getD k 0 = kk at r1 HR
      generalize ws.getD k 0 = ww at r2 HR
      have hk1 : (k : Int) < 64 := by omega
      have oe := ok.e
      have oa := ok.a
      go_wp2
      go_quiet ((first | (go_at_call 37; exact Calls.quiet_of_same (turned_e v.e oe _))))
      go_wp2_with fail
      refine (turned_a v.a oa _).mono ?_
      rintro e w' ⟨rfl, rfl⟩
      go_wp2
      go_roundw
      case rel =>
        refine ⟨k + 1, n + nq, round8 kk ww v, by omega, by go_num, HR.out.symm, round8_ok ok _ _, ?_, rfl, rfl, rfl, ?_, rfl, rfl, rfl, ?_⟩
        · rw [tOne_val ok, tTwo_val ok, add_val]; rfl
        · rw [tOne_val ok, add_val]; rfl
        · show _ = _
          rw [HWr.out, drewN_twice]
      case measure => simp [intOf]; omega
    · obtain rfl : k = 64 := by omega
      have HS : Hid (R = s.plus v) := by show _ = _; rw [HB.out, HVk.out]
      have kwr : KB wr w.heap.size 44 s.vals.toArray := by rw [HWr.out]; exact kw2
      have krr : KB wr (w.heap.size + 1) 44 zero8 := by rw [HWr.out]; exact kr2
      have Br : Below w.heap.size w wr := by rw [HWr.out]; exact Below_drawn B2 n
      have zr' : w.heap.size + 1 < wr.heap.size := krr.lt
      clear kw2 kr2 B2 t2 k3 HL HW HVk
      go_wp2
      have krr' := krr
      unfold zero8 at krr'
      obtain ⟨wo, hwo⟩ : ∃ wo : World, wo = wr := ⟨_, rfl⟩
      subst hwo
      go_loopw [97] (fun i wr => ∃ k : Nat, k ≤ 8 ∧ i = .int .i64 k ∧ KB wr w.heap.size 44 (mixV s v k).toArray ∧ wo.grownBy wr (some w.heap.size)) (fun i _ => 8 - (intOf i).toNat)
      case atStart => exact ⟨0, by omega, rfl, kwr, World.grownBy.refl _ _⟩
      case round =>
        obtain ⟨k, hk8, rfl, hkb, hgr⟩ := hrel
        by_cases h8 : k < 8
        · obtain ⟨x, y, e1, e2, e3⟩ := mixV_step s v k h8
          have cx : wr.cell? ⟨w.heap.size, k, none⟩ = some (.int .u32 (x : Int)) := by rw [hkb.cell, List.getElem?_toArray, e1]
          have fx := hkb.free k
          have hix : ∀ W : World, (Instr.index 44 (.agg #[.int .u32 v.a, .int .u32 v.b, .int .u32 v.c, .int .u32 v.d, .int .u32 v.e, .int .u32 v.f, .int .u32 v.g, .int .u32 v.h]) (.int .i64 (k : Int))).run Tryd.prog W = .ok (.int .u32 (y : Int)) W :=
            fun W => run_index_row W _ 43 8 _ _ k _ Tryd.underlying44 (by kernel_rfl) .u32 Tryd.underlying43 h8 (by simpa [S8.vals] using e2)
          have E3 := Lib.hid e3
          have hk9 : (k : Int) < 8 := by omega
          clear e1 e2 e3
          go_wp2
          go_roundw
          case rel =>
            refine ⟨k + 1, by omega, by go_num, ?_, grown_trans hgr (grown_set _ _ _ _)⟩
            have := hkb.put k (wv (add32 x y))
            rw [← E3.out, add_val]
            simpa using this
          case measure => simp [intOf]; omega
        · obtain rfl : k = 8 := by omega
          have kr8 := krr'.grown hgr (by simp)
          have B8 := Br.trans (below_of_grown' hgr (Nat.le_refl _) Br.size)
          rw [mixV_eight, ← HS.out] at hkb
          clear hgr krr krr' kwr
          go_wp2_with (first
            | (refine wpList_load_kb rfl 44 (.tmp 2) rfl w.heap.size rfl _ R.vals hkb _ Tryd.underlying44 rfl 8 (by kernel_rfl) (vals_length R) ?_)
            | (refine wpList_store_kb rfl 44 (.tmp 4) (.tmp 108) rfl (w.heap.size + 1) R.vals rfl rfl _ [wv 0, wv 0, wv 0, wv 0, wv 0, wv 0, wv 0, wv 0] kr8 8 (by kernel_rfl) rfl (vals_length R) (vals_one R) ?_; intro w9 k9 g9))
          refine bodyPost_ret (results_cell_row (P := Tryd.prog) rfl _ w9 (w.heap.size + 1) _ R.vals.toArray (0, 0) _ rfl k9 Tryd.underlying44 rfl (by rw [show R.vals.toArray.size = 8 from rfl]; kernel_rfl)) rfl ⟨by rw [HRR.out], B8.trans (below_of_grown' g9 (by omega) B8.size)⟩
end Go.Proofs.YtjcdkfnjlmofiaaDoor
