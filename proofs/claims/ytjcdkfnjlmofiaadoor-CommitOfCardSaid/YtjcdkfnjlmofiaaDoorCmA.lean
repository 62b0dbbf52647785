/-
  The program's own functions of layer 7: sum, Of, Check, Link: each one's contract over the loaded program.
  No condition but the table's, and lengths that a process can hold.
-/
import Derived.Test.YtjcdkfnjlmofiaaDoorCmV
import Derived.Test.YtjcdkfnjlmofiaaDoorShaH
import Derived.Test.YtjcdkfnjlmofiaaDoorCmR
namespace Go.Proofs.YtjcdkfnjlmofiaaDoor
open Go.RowKit
set_option linter.unusedVariables false

/-- What a call hands back: the sum of T, and nothing that was there has turned. -/
def Sum32 (w : World) (e : Ending) (w' : World) (T : List UInt8) : Prop := e = .returned (.agg ((sumB T).map bv).toArray) ∧ Below w.heap.size w w'

set_option maxRecDepth 100000 in
set_option maxHeartbeats 1000000 in
/-- sum. -/
theorem csum_any (b : UInt8) (x : Value) (ls : List (List UInt8)) (w : World) (h : LS w (fun k => k < w.heap.size) x ls) (hp : 0 < ls.length) (hq : ls.length ≤ 1000) (ht : Tab w) (hlen : (catB ls).length < 1000000000000) :
    Calls Tryd.prog 16 #[.int .u8 (b.toNat : Int), x] w fun e w' => Sum32 w e w' (b :: catB ls) := by
  obtain ⟨ad, c, vs, rfl, hvs, hat⟩ := h.cells hp
  have hvl := hvs.1
  have HVL := Lib.hid hvl
  have HU : Hid (((sumB (b :: catB ls)).map bv).length = 32) := by show _ = _; rw [List.length_map, sumB_length]
  have hu1 := bytes_one' (sumB (b :: catB ls))
  have hof := fun (v : Value) (W : World) (hl : LS W (fun b => b < W.heap.size) v ([[b]] ++ ls)) (ht : Tab W) => of_any v ([[b]] ++ ls) W hl ht (by simp [catB] at hlen ⊢; omega)
  rw [show catB ([[b]] ++ ls) = b :: catB ls from by simp [catB]] at hof
  obtain ⟨ss, hss⟩ : ∃ ss, ss = (sumB (b :: catB ls)).map bv := ⟨_, rfl⟩
  rw [← hss] at hof HU hu1
  have HSS := Lib.hid hss
  have HOF := Lib.hid hof
  clear hvl hss hof
  have KZ0 : KB ((w.alloc (.cells (z32.map bv).toArray 24)).alloc (.cells #[bv b] 5)) w.heap.size 24 (z32.map bv).toArray := (KB.new _ _ _).alloc _
  have KB0 : KB ((w.alloc (.cells (z32.map bv).toArray 24)).alloc (.cells #[bv b] 5)) (w.heap.size + 1) 5 ([b].map bv).toArray := by
    have := KB.new (w.alloc (.cells (z32.map bv).toArray 24)) 5 #[bv b]
    rw [World.size_alloc] at this
    exact this
  have own0 : (((w.alloc (.cells (z32.map bv).toArray 24)).alloc (.cells #[bv b] 5)).alloc (.cells #[.slice (some ⟨w.heap.size + 1, 0, none⟩) 1 1] 23)).ownsRow (w.heap.size + 1 + 1) 23 1 (.slice (some ⟨w.heap.size + 1 + 1, 0, none⟩) 1 1)
      [Value.slice (some ⟨w.heap.size + 1, 0, none⟩) 1 1].length [Value.slice (some ⟨w.heap.size + 1, 0, none⟩) 1 1] := by
    have := World.ownsRow_lit (e := 23) ((w.alloc (.cells (z32.map bv).toArray 24)).alloc (.cells #[bv b] 5)) #[.slice (some ⟨w.heap.size + 1, 0, none⟩) 1 1] 1 (base := w.heap.size + 1 + 1) (size := 1) (by simp) (by simp [maxLen]) rfl
    simp only [World.size_alloc] at this
    exact this
  have KB1 := KB0.alloc (.cells #[.slice (some ⟨w.heap.size + 1, 0, none⟩) 1 1] 23)
  have KZ1 := KZ0.alloc (.cells #[.slice (some ⟨w.heap.size + 1, 0, none⟩) 1 1] 23)
  have B0 : Below w.heap.size w (((w.alloc (.cells (z32.map bv).toArray 24)).alloc (.cells #[bv b] 5)).alloc (.cells #[.slice (some ⟨w.heap.size + 1, 0, none⟩) 1 1] 23)) := (((Below.refl _ _).alloc (Nat.le_refl _) _).alloc (by simp) _).alloc (by simp; omega) _
  have S0 : w.heap.size + 1 + 1 ≤ (((w.alloc (.cells (z32.map bv).toArray 24)).alloc (.cells #[bv b] 5)).alloc (.cells #[.slice (some ⟨w.heap.size + 1, 0, none⟩) 1 1] 23)).heap.size := by simp
  have hv1 := hvs.below' B0
  have hat1 : ∀ j u, vs[j]? = some u → World.cell? (((w.alloc (.cells (z32.map bv).toArray 24)).alloc (.cells #[bv b] 5)).alloc (.cells #[.slice (some ⟨w.heap.size + 1, 0, none⟩) 1 1] 23)) (ad.add j) = some u := fun j u hu => by
    have h1 := hat j u hu
    have hlt : (ad.add j).block < w.heap.size := World.block_lt_of_cell? _ _ h1
    exact (World.cell?_of_block (w := w) (B0.block _ hlt)).trans h1
  have ht1 := ht.below B0
  clear KZ0 KB0 hat
  go_enter Tryd.func16, Tryd.ntmps16
  go_wp2_with (at_builtin; rw [row32]; refine wpList_growL _ rfl (.tmp 7) (.tmp 8) rfl (w.heap.size + 1 + 1) (.slice (some ⟨w.heap.size + 1 + 1, 0, none⟩) 1 1) [.slice (some ⟨w.heap.size + 1, 0, none⟩) 1 1] rfl own0 ad c vs.length vs rfl rfl hat1 hv1.cells1 (by have := HVL.out; simp; omega) S0 ?_; intro v2 w2 own2 g2 _)
  have k1 := KB1.grown g2 (by simp [Value.ownBlock])
  have kz := KZ1.grown g2 (by simp [Value.ownBlock]; omega)
  have hv2 := hv1.keep g2.size (fun k hk _ => g2.block k (by omega) (by simp [Value.ownBlock]; omega))
  have ht2 : Tab w2 := ht1.keep g2.size (g2.block _ (Nat.lt_of_lt_of_le ht.1 B0.size) (by simp [Value.ownBlock]))
  have B2 := B0.grown g2 B0.size (fun g hg => by simp [Value.ownBlock] at hg; omega)
  have hvs2 := (VS.one (k1.bs (n := 1) rfl (by simp [maxLen]))).lt.mono (S' := fun k => k < w2.heap.size) (fun k hk => hk.2)
  have hvv := hvs2.append (hv2.lt.mono fun k hk => hk.2)
  have hls := LS_of_own (S := fun k => k < w2.heap.size) own2 hvv fun k _ h => h
  clear own0 KB1 KZ1 B0 S0 hv1 hat1 ht1 own2 g2 k1 hv2 hvs2 hvv
  go_wp2_with fail
  refine (HOF.out _ _ hls ht2).mono ?_
  rintro e w3 ⟨rfl, b3⟩
  have kz3 := kz.below b3 kz.lt
  have B3 := B2.trans (b3.mono B2.size)
  go_wp2_with (refine wpList_store_kb rfl 24 (.tmp 4) (.tmp 10) rfl w.heap.size ss rfl rfl _ (z32.map bv) kz3 32 (by kernel_rfl) rfl HU.out hu1 ?_; intro Wz kz gz)
  refine bodyPost_ret (results_cell_row (P := Tryd.prog) rfl _ Wz w.heap.size _ ss.toArray (0, 0) _ rfl kz Tryd.underlying24 rfl (by rw [show ss.toArray.size = 32 from by simpa using HU.out]; kernel_rfl)) rfl ⟨by rw [HSS.out], B3.trans (below_of_grown' gz (Nat.le_refl _) B3.size)⟩

set_option maxRecDepth 100000 in
set_option maxHeartbeats 1000000 in
/-- Of. -/
theorem cof_any (S : Nat → Prop) (v : Value) (s : Nat) (l : List UInt8) (w : World) (h : BS w S v l) (hs : s < 18446744073709551616) (hl : l.length ≤ 100000000000) (ht : Tab w) :
    Calls Tryd.prog 7 #[.int .u64 s, v] w fun e w' => Sum32 w e w' (comB s l) := by
  have B0 : Below w.heap.size w (w.alloc (.cells (z32.map bv).toArray 24)) := (Below.refl _ _).alloc (Nat.le_refl _) _
  have k0 : KB (w.alloc (.cells (z32.map bv).toArray 24)) w.heap.size 24 (z32.map bv).toArray := KB.new _ _ _
  have h0 := h.lt.below' B0
  have t0 := ht.below B0
  have HU : Hid (((sumB (comB s l)).map bv).length = 32) := by show _ = _; rw [List.length_map, sumB_length]
  have hu1 := bytes_one' (sumB (comB s l))
  have hnum := fun (W : World) => num_any s W hs
  have htex := fun (W : World) (h : BS W (fun b => S b ∧ b < w.heap.size) v l) => text_any _ v l W h (by omega)
  have hsum := fun (v : Value) (W : World) (h : LS W (fun b => b < W.heap.size) v [numb s, texb l]) (ht : Tab W) => csum_any 1 v [numb s, texb l] W h (by simp) (by simp) ht (by have := numb_len s; have := texb_len l; simp [catB]; omega)
  rw [show (1 : UInt8) :: catB [numb s, texb l] = comB s l from by simp [catB, comB]] at hsum
  unfold Sum32 at hsum
  obtain ⟨ss, hss⟩ : ∃ ss, ss = (sumB (comB s l)).map bv := ⟨_, rfl⟩
  rw [← hss] at hsum HU hu1
  have HSS := Lib.hid hss
  have HSUM := Lib.hid hsum
  have HNUM := Lib.hid hnum
  have HTEX := Lib.hid htex
  clear hss hsum hnum htex
  generalize numb s = N at *
  generalize texb l = T at *
  go_enter Tryd.func7, Tryd.ntmps7
  go_wp2_with fail
  rw [row32]
  refine (HNUM.out _).mono ?_
  rintro e w1 ⟨v1, rfl, how1, b1⟩
  have k1 := k0.below b1 k0.lt
  have h1 := h0.below' b1
  have t1 := t0.below b1
  have B1 := B0.trans (b1.mono B0.size)
  have n1 := own_BS how1
  obtain ⟨A1, c1, rfl, _⟩ := n1.form
  clear k0 h0 t0 B0 b1 how1
  go_wp2_with fail
  refine (HTEX.out _ h1).mono ?_
  rintro e w2 ⟨v2, rfl, how2, b2⟩
  have k2 := k1.below b2 k1.lt
  have t2 := t1.below b2
  have B2 := B1.trans (b2.mono B1.size)
  have n2 := (n1.below' b2).lt.mono (S' := fun k => k < w2.heap.size) (fun k hk => hk.2)
  have m2 := (own_BS how2).mono (S' := fun k => k < w2.heap.size) (fun k hk => hk.2)
  obtain ⟨A2, c2, rfl, _⟩ := m2.form
  clear k1 h1 t1 B1 b2 how2 n1
  have L3 := (LS.two (t := 23) n2 m2).lt
  have k3 := k2.alloc (.cells #[.slice A1 N.length c1, .slice A2 T.length c2] 23)
  have B3 := B2.alloc B2.size (.cells #[.slice A1 N.length c1, .slice A2 T.length c2] 23)
  have t3 := ht.below B3
  clear k2 t2 B2 n2 m2
  go_wp2_with fail
  refine (HSUM.out _ _ L3 t3).mono ?_
  rintro e w4 ⟨rfl, b4⟩
  have k4 := k3.below b4 k3.lt
  have B4 := B3.trans (b4.mono B3.size)
  go_wp2_with (refine wpList_store_kb rfl 24 (.tmp 4) (.tmp 10) rfl w.heap.size ss rfl rfl _ (z32.map bv) k4 32 (by kernel_rfl) rfl HU.out hu1 ?_; intro Wz kz gz)
  refine bodyPost_ret (results_cell_row (P := Tryd.prog) rfl _ Wz w.heap.size _ ss.toArray (0, 0) _ rfl kz Tryd.underlying24 rfl (by rw [show ss.toArray.size = 32 from by simpa using HU.out]; kernel_rfl)) rfl ⟨by rw [HSS.out], B4.trans (below_of_grown' gz (Nat.le_refl _) B4.size)⟩

end Go.Proofs.YtjcdkfnjlmofiaaDoor
