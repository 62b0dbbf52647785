/-
  What the document sums, of layer 7: Text and LinkText: each one's contract over the loaded program.
  No condition but lengths that a process can hold.
-/
import Derived.Test.YtjcdkfnjlmofiaaDoorRefA
import Derived.Test.YtjcdkfnjlmofiaaDoorCmV
namespace Go.Proofs.YtjcdkfnjlmofiaaDoor
open Go.RowKit
set_option linter.unusedVariables false

/-- What is summed for a commitment. -/
def comB (s : Nat) (l : List UInt8) : List UInt8 := 1 :: (numb s ++ texb l)
/-- What is summed for a link. -/
def linkB (i : Int) (p c : List UInt8) : List UInt8 := 2 :: (numb (u64 i) ++ (p ++ c))

theorem numb_len (n : Nat) : (numb n).length ≤ 9 := by have := dig_length_le 8 n; simp [numb]; omega
theorem texb_len (l : List UInt8) : (texb l).length ≤ 9 + l.length := by have := numb_len l.length; unfold texb; rw [List.length_append]; omega

set_option maxRecDepth 100000 in
set_option maxHeartbeats 1000000 in
theorem rtextc_any (S : Nat → Prop) (v : Value) (s : Nat) (l : List UInt8) (w : World) (h : BS w S v l) (hs : s < 18446744073709551616) (hl : l.length ≤ 100000000000) :
    Calls Tryd.prog 13 #[.int .u64 s, v] w fun e w' => Fresh w e w' (comB s l) := by
  obtain ⟨i0, hi, hz0, hz1, hz2⟩ := info_parts info_byte
  have HN := Lib.hid (numb_len s)
  have HT := Lib.hid (texb_len l)
  have HC : Hid (comB s l = ([1] ++ numb s) ++ texb l) := rfl
  have own0 : (w.alloc (.cells #[.int .u8 1] 5)).ownsRow w.heap.size 5 1 (.slice (some ⟨w.heap.size, 0, none⟩) 1 1) ([1] : List UInt8).length (([1] : List UInt8).map bv) := lit_one w 1 w.heap.size (Nat.le_refl _)
  have B0 : Below w.heap.size w (w.alloc (.cells #[.int .u8 1] 5)) := (Below.refl _ _).alloc (Nat.le_refl _) _
  have hb0 := h.lt.below' B0
  have NN := fun W => rnum_any s W hs
  have HL := Lib.hid hl
  clear hl
  generalize numb s = N at *
  go_enter Tryd.func13, Tryd.ntmps13
  go_wp2_with fail
  refine (NN _).mono ?_
  rintro e w1 ⟨v1, rfl, how1, b1⟩
  have own1 := own_past b1 own0
  have hb1 := hb0.below' b1
  have B1 := B0.trans (b1.mono B0.size)
  have bs1 := own_BS how1
  clear how1 own0 B0 hb0 b1
  go_wp2_with (at_builtin; refine wpList_grow _ rfl (.tmp 5) (.tmp 7) _ rfl w.heap.size 5 i0 Tryd.underlying23 hi hz0 hz1 hz2 _ [1] rfl own1 _ _ N rfl bs1 (by have := HN.out; simp; omega) B1.size ?_; intro v2 w2 own2 g2 _)
  have B2 := B1.grown g2 B1.size (fun g hg => (own1.lt g hg).1)
  have hb2 := hb1.grown g2 (fun g hg hs => by have := (own1.lt g hg).1; have := hs.2; omega)
  clear own1 B1 hb1 bs1 g2
  have HM : Hid (([1] ++ N).length ≤ 10) := by have := HN.out; show _ ≤ _; simp; omega
  have hbt := rtext_any _ v l w2 hb2 (by have := HL.out; omega)
  generalize [1] ++ N = M1 at *
  generalize texb l = T at *
  clear HN NN
  go_wp2_with fail
  refine hbt.mono ?_
  rintro e w3 ⟨v3, rfl, how3, b3⟩
  have own3 := own_past b3 own2
  have B3 := B2.trans (b3.mono B2.size)
  have bs3 := own_BS how3
  clear how3 own2 B2 hb2 b3 hbt
  go_wp2_with (at_builtin; refine wpList_grow _ rfl (.tmp 8) (.tmp 10) _ rfl w.heap.size 5 i0 Tryd.underlying23 hi hz0 hz1 hz2 _ M1 rfl own3 _ _ T rfl bs3 (by have := HM.out; have := HT.out; have := HL.out; omega) B3.size ?_; intro v4 w4 own4 g4 _)
  go_ret
  exact ⟨_, rfl, by rw [HC.out]; exact own4, B3.grown g4 B3.size (fun g hg => (own3.lt g hg).1)⟩

set_option maxRecDepth 100000 in
set_option maxHeartbeats 2000000 in
theorem rlinktext_any (i : Int) (p c : List UInt8) (w : World) (hp : p.length = 32) (hc : c.length = 32) :
    Calls Tryd.prog 14 #[.int .i64 i, .agg (p.map bv).toArray, .agg (c.map bv).toArray] w fun e w' => Fresh w e w' (linkB i p c) := by
  obtain ⟨i0, hi, hz0, hz1, hz2⟩ := info_parts info_byte
  have HN := Lib.hid (numb_len (u64 i))
  have HC : Hid (linkB i p c = (([2] ++ numb (u64 i)) ++ p) ++ c) := by show _ = _; simp [linkB]
  have NN := fun W => rint_any i W
  generalize numb (u64 i) = N at *
  have KP0 : KB (w.alloc (.cells (p.map bv).toArray 24)) w.heap.size 24 (p.map bv).toArray := KB.new _ _ _
  have KC0 : KB ((w.alloc (.cells (p.map bv).toArray 24)).alloc (.cells (c.map bv).toArray 24)) (w.heap.size + 1) 24 (c.map bv).toArray := by
    have := KB.new (w.alloc (.cells (p.map bv).toArray 24)) 24 (c.map bv).toArray
    simpa using this
  have KP1 := (KP0.alloc (.cells (c.map bv).toArray 24)).alloc (.cells #[.int .u8 2] 5)
  have KC1 := KC0.alloc (.cells #[.int .u8 2] 5)
  have own0 : (((w.alloc (.cells (p.map bv).toArray 24)).alloc (.cells (c.map bv).toArray 24)).alloc (.cells #[.int .u8 2] 5)).ownsRow (w.heap.size + 1 + 1) 5 1 (.slice (some ⟨w.heap.size + 1 + 1, 0, none⟩) 1 1) ([2] : List UInt8).length (([2] : List UInt8).map bv) := by
    have := lit_one ((w.alloc (.cells (p.map bv).toArray 24)).alloc (.cells (c.map bv).toArray 24)) 2 (w.heap.size + 1 + 1) (by simp)
    simp only [World.size_alloc] at this
    exact this
  have B0 : Below w.heap.size w (((w.alloc (.cells (p.map bv).toArray 24)).alloc (.cells (c.map bv).toArray 24)).alloc (.cells #[.int .u8 2] 5)) := (((Below.refl _ _).alloc (Nat.le_refl _) _).alloc (by simp) _).alloc (by simp; omega) _
  have S0 : w.heap.size + 1 + 1 ≤ (((w.alloc (.cells (p.map bv).toArray 24)).alloc (.cells (c.map bv).toArray 24)).alloc (.cells #[.int .u8 2] 5)).heap.size := by simp
  have hpl : (p.map bv).length = 32 := by rw [List.length_map]; exact hp
  have hcl : (c.map bv).length = 32 := by rw [List.length_map]; exact hc
  clear KP0 KC0
  go_enter Tryd.func14, Tryd.ntmps14
  go_wp2_with fail
  generalize ((w.alloc (.cells (p.map bv).toArray 24)).alloc (.cells (c.map bv).toArray 24)).alloc (.cells #[.int .u8 2] 5) = W0 at *
  refine (NN _).mono ?_
  rintro e w1 ⟨v1, rfl, how1, b1⟩
  have own1 := own_past b1 own0
  have KP := KP1.below b1 KP1.lt
  have KC := KC1.below b1 KC1.lt
  have B1 := B0.trans (b1.mono B0.size)
  have S1 := Nat.le_trans S0 b1.size
  have bs1 := own_BS how1
  clear how1 own0 B0 b1 KP1 KC1 S0
  go_wp2_with (at_builtin; refine wpList_grow _ rfl (.tmp 8) (.tmp 10) _ rfl (w.heap.size + 1 + 1) 5 i0 Tryd.underlying23 hi hz0 hz1 hz2 (.slice (some ⟨w.heap.size + 1 + 1, 0, none⟩) 1 1) [2] rfl own1 _ _ N rfl bs1 (by have := HN.out; simp; omega) S1 ?_; intro v2 w2 own2 g2 _)
  have KP2 := KP.grown g2 (by simp [Value.ownBlock]; omega)
  have KC2 := KC.grown g2 (by simp [Value.ownBlock])
  replace KP2 : KB w2.drew w.heap.size 24 (p.map bv).toArray := KP2
  replace KC2 : KB w2.drew (w.heap.size + 1) 24 (c.map bv).toArray := KC2
  have B2 : Below w.heap.size w w2.drew := Below_drawn (B1.grown g2 B1.size (fun g hg => by have := (own1.lt g hg).1; omega)) 1
  have own2' : w2.drew.ownsRow (w.heap.size + 1 + 1) 5 1 v2 ([2] ++ N).length (([2] ++ N).map bv) := own2
  have S2 : w.heap.size + 1 + 1 ≤ w2.drew.heap.size := Nat.le_trans S1 g2.size
  have HM : Hid (([2] ++ N).length ≤ 10) := by have := HN.out; show _ ≤ _; simp; omega
  clear KP KC B1 own1 own2 S1 bs1 g2 HN
  generalize [2] ++ N = M1 at *
  go_region_law ((first
    | (refine step_grow rfl (.tmp 12) (.tmp 13) _ rfl (w.heap.size + 1 + 1) 5 i0 Tryd.underlying23 hi hz0 hz1 hz2 v2 M1 rfl own2' _ _ p rfl (KP2.bs hp (by simp [maxLen])) (by have := HM.out; omega) S2 ?_; intro v3 w3 own3 g3 _; have KC3 := KC2.grown g3 (own_ne own2' (by omega)); have B3 := B2.grown g3 B2.size (fun g hg => by have := (own2'.lt g hg).1; omega); have S3 := Nat.le_trans S2 g3.size)
    | (refine step_grow rfl (.tmp 14) (.tmp 15) _ rfl (w.heap.size + 1 + 1) 5 i0 Tryd.underlying23 hi hz0 hz1 hz2 _ (M1 ++ p) rfl own3 _ _ c rfl (KC3.bs hc (by simp [maxLen])) (by have := HM.out; rw [List.length_append]; omega) S3 ?_; intro v4 w4 own4 g4 _)))
  all_goals
    go_wp2
    go_ret
    exact ⟨_, rfl, by rw [HC.out]; exact own_base own4 (by omega), B3.grown g4 B3.size (fun g hg => by have := (own3.lt g hg).1; omega)⟩
end Go.Proofs.YtjcdkfnjlmofiaaDoor
