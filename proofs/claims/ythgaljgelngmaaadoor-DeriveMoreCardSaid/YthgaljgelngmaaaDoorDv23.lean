/-
  TpQ: A term's parts, by the program: the contract of what lays one more, and of Parts, over the loaded program. No condition but what it names.
-/
import Derived.Test.YthgaljgelngmaaaDoorDv21
import Derived.Test.YthgaljgelngmaaaDoorDv22
import Derived.Deep.RegionLaw

section
namespace Go.Proofs.YthgaljgelngmaaaDoor
open Go.RowKit
set_option linter.unusedVariables false

abbrev zq : Quad := (.int .i64 0, .int .u64 0, .slice none 0 0, .slice none 0 0)

theorem At_kb {w : World} {g : Nat} (h : KB w g 35 #[.int .i64 0, .int .u64 0, .slice none 0 0, .slice none 0 0]) : At w ⟨g, 0, none⟩ [zq] := by
  intro j u hu
  rw [Addr.add_lit, Nat.zero_add, h.cell]
  simpa [flatQ, quad] using hu

theorem own_KB {w : World} {B : Nat} {v : Value} {qs : List Quad} {z : Quad} (h : w.ownsRow B 35 4 v (qs ++ [z]).length (flatQ (qs ++ [z]))) :
    ∃ g c, v = .slice (some ⟨g, 0, none⟩) (qs ++ [z]).length c ∧ B ≤ g ∧ w.cell? ⟨g, qs.length * 4, none⟩ = some z.1 ∧ w.cell? ⟨g, qs.length * 4 + 1, none⟩ = some z.2.1 ∧ w.cell? ⟨g, qs.length * 4 + 2, none⟩ = some z.2.2.1 ∧ w.cell? ⟨g, qs.length * 4 + 3, none⟩ = some z.2.2.2 ∧ ∀ i, w.frozen? ⟨g, i, none⟩ = false := by
  obtain ⟨h1, h2⟩ := h
  rcases h2 with ⟨_, e⟩ | ⟨g, cap, cur, rfl, hb, hg, hnc, hcm, hcs, htk⟩
  · simp at e
  · have kb : KB w g 35 cur := hg
    obtain ⟨a0, a1, a2, a3⟩ := flatQ_at (qs ++ [z]) qs.length z (by simp)
    have cell : ∀ k u, k < 4 → (flatQ (qs ++ [z]))[qs.length * 4 + k]? = some u → w.cell? ⟨g, qs.length * 4 + k, none⟩ = some u := fun k u hk hu => by
      rw [kb.cell]
      rw [← htk, List.getElem?_take, if_pos (by simp; omega)] at hu
      simpa using hu
    exact ⟨g, cap, rfl, hb, cell 0 _ (by omega) a0, cell 1 _ (by omega) a1, cell 2 _ (by omega) a2, cell 3 _ (by omega) a3, fun i => kb.free i⟩

theorem set_swap (w : World) (g h i j : Nat) (u v : Value) (hne : g ≠ h) : (w.setCell ⟨g, i, none⟩ u).setCell ⟨h, j, none⟩ v = (w.setCell ⟨h, j, none⟩ v).setCell ⟨g, i, none⟩ u := by
  unfold World.setCell
  simp only
  congr 1
  apply Array.ext_getElem?
  intro k
  simp only [Array.getElem?_modify]
  by_cases h1 : g = k
  · subst h1
    rw [if_neg (fun e => hne e.symm), if_pos rfl, if_pos rfl, if_neg (fun e => hne e.symm)]
  · by_cases h2 : h = k
    · subst h2
      rw [if_pos rfl, if_neg hne, if_neg hne, if_pos rfl]
    · rw [if_neg h2, if_neg h1, if_neg h1, if_neg h2]

set_option maxHeartbeats 1000000 in
/-- Behind the append, and the two stores. -/
theorem IQ.put {gb B g7 c7 f : Nat} {P : Nat → Prop} {w w6 w7 : World} {us : List UT} {qs : List Quad} {t : Nd (Tm f)} {vb l0 l1 l2 l3 : Value} {n : Nat} {xs : List Value} (hP : ∀ b, P b → b < w.heap.size) (hPg : ¬ P gb) (hgB : gb < B) (hB : B ≤ w.heap.size) (hPo : ∀ k, vb.ownBlock = some k → ¬ P k)
    (how : w.ownsRow B 35 4 vb n xs) (hq : QU w (SO B w vb) qs us) (B6 : Below w.heap.size w w6) (tm : TM w6 (fun b => w.heap.size ≤ b ∧ b < w6.heap.size) (f + 1) t l0 l1 l2 l3) (kg7 : KB w7 gb 22 #[vb])
    (how7 : w7.ownsRow B 35 4 (.slice (some ⟨g7, 0, none⟩) (qs ++ [zq]).length c7) (qs ++ [zq]).length (flatQ (qs ++ [zq]))) (hg7 : w6.grownBy w7 vb.ownBlock)
    (h7 : (Value.slice (some ⟨g7, 0, none⟩) (qs ++ [zq]).length c7).ownBlock = vb.ownBlock ∨ (Value.slice (some ⟨g7, 0, none⟩) (qs ++ [zq]).length c7).ownBlock = some w6.heap.size) :
    IQ gb B P (((((w7.setCell ⟨g7, qs.length * 4, none⟩ l0).setCell ⟨g7, qs.length * 4 + 1, none⟩ l1).setCell ⟨g7, qs.length * 4 + 2, none⟩ l2).setCell ⟨g7, qs.length * 4 + 3, none⟩ l3).setCell ⟨gb, 0, none⟩ (.slice (some ⟨g7, 0, none⟩) (qs ++ [zq]).length c7)) (us ++ [(⟨f + 1, t⟩ : UT)]) ∧
    KeepP P w (((((w7.setCell ⟨g7, qs.length * 4, none⟩ l0).setCell ⟨g7, qs.length * 4 + 1, none⟩ l1).setCell ⟨g7, qs.length * 4 + 2, none⟩ l2).setCell ⟨g7, qs.length * 4 + 3, none⟩ l3).setCell ⟨gb, 0, none⟩ (.slice (some ⟨g7, 0, none⟩) (qs ++ [zq]).length c7)) := by
  have hvb := own_lt how
  have hB7 : B ≤ g7 := own_ge how7 g7 rfl
  have ho4 := own_last (q := (l0, l1, l2, l3)) how7
  dsimp only at ho4
  have hog : ∀ b, b < w6.heap.size → vb.ownBlock ≠ some b → b ≠ g7 := by
    intro b hb hv e
    subst e
    rcases h7 with h | h
    · exact hv (h ▸ rfl)
    · simp [Value.ownBlock] at h; omega
  have h6 := B6.size
  have h76 := hg7.size
  have hs8 : (((((w7.setCell ⟨g7, qs.length * 4, none⟩ l0).setCell ⟨g7, qs.length * 4 + 1, none⟩ l1).setCell ⟨g7, qs.length * 4 + 2, none⟩ l2).setCell ⟨g7, qs.length * 4 + 3, none⟩ l3).setCell ⟨gb, 0, none⟩ (.slice (some ⟨g7, 0, none⟩) (qs ++ [zq]).length c7)).heap.size = w7.heap.size := by simp [World.setCell]
  have hk8 : ∀ b, b ≠ gb → b ≠ g7 → (((((w7.setCell ⟨g7, qs.length * 4, none⟩ l0).setCell ⟨g7, qs.length * 4 + 1, none⟩ l1).setCell ⟨g7, qs.length * 4 + 2, none⟩ l2).setCell ⟨g7, qs.length * 4 + 3, none⟩ l3).setCell ⟨gb, 0, none⟩ (.slice (some ⟨g7, 0, none⟩) (qs ++ [zq]).length c7)).heap[b]? = w7.heap[b]? := fun b h1 h2 =>
    (Below.heap_setCell _ ⟨gb, 0, none⟩ _ b h1).trans ((Below.heap_setCell _ ⟨g7, qs.length * 4 + 3, none⟩ _ b h2).trans ((Below.heap_setCell _ ⟨g7, qs.length * 4 + 2, none⟩ _ b h2).trans ((Below.heap_setCell _ ⟨g7, qs.length * 4 + 1, none⟩ _ b h2).trans (Below.heap_setCell _ ⟨g7, qs.length * 4, none⟩ _ b h2))))
  have kb8 := ((((kg7.far (h := g7) (i := qs.length * 4) (v := l0) (by omega)).far (h := g7) (i := qs.length * 4 + 1) (v := l1) (by omega)).far (h := g7) (i := qs.length * 4 + 2) (v := l2) (by omega)).far (h := g7) (i := qs.length * 4 + 3) (v := l3) (by omega)).put 0 (.slice (some ⟨g7, 0, none⟩) (qs ++ [zq]).length c7)
  have ho8 := own_grown ho4 (grown_set _ gb 0 (.slice (some ⟨g7, 0, none⟩) (qs ++ [zq]).length c7)) hgB
  have hos : (((((w7.setCell ⟨g7, qs.length * 4, none⟩ l0).setCell ⟨g7, qs.length * 4 + 1, none⟩ l1).setCell ⟨g7, qs.length * 4 + 2, none⟩ l2).setCell ⟨g7, qs.length * 4 + 3, none⟩ l3).setCell ⟨gb, 0, none⟩ (.slice (some ⟨g7, 0, none⟩) (qs ++ [zq]).length c7)).os = w7.os ∧ (((((w7.setCell ⟨g7, qs.length * 4, none⟩ l0).setCell ⟨g7, qs.length * 4 + 1, none⟩ l1).setCell ⟨g7, qs.length * 4 + 2, none⟩ l2).setCell ⟨g7, qs.length * 4 + 3, none⟩ l3).setCell ⟨gb, 0, none⟩ (.slice (some ⟨g7, 0, none⟩) (qs ++ [zq]).length c7)).tape = w7.tape ∧ (((((w7.setCell ⟨g7, qs.length * 4, none⟩ l0).setCell ⟨g7, qs.length * 4 + 1, none⟩ l1).setCell ⟨g7, qs.length * 4 + 2, none⟩ l2).setCell ⟨g7, qs.length * 4 + 3, none⟩ l3).setCell ⟨gb, 0, none⟩ (.slice (some ⟨g7, 0, none⟩) (qs ++ [zq]).length c7)).output = w7.output := ⟨rfl, rfl, rfl⟩
  generalize ((((w7.setCell ⟨g7, qs.length * 4, none⟩ l0).setCell ⟨g7, qs.length * 4 + 1, none⟩ l1).setCell ⟨g7, qs.length * 4 + 2, none⟩ l2).setCell ⟨g7, qs.length * 4 + 3, none⟩ l3).setCell ⟨gb, 0, none⟩ (.slice (some ⟨g7, 0, none⟩) (qs ++ [zq]).length c7) = w8 at *
  have hnP : ¬ P g7 := by
    rcases h7 with h | h
    · exact hPo g7 (h ▸ rfl)
    · simp [Value.ownBlock] at h
      intro hp
      have := hP g7 hp
      omega
  refine ⟨⟨hPg, hgB, by omega, _, qs ++ [(l0, l1, l2, l3)], kb8, ?_, fun k hk => ?_, ?_⟩, ?_⟩
  · have e : (qs ++ [(l0, l1, l2, l3)]).length = (qs ++ [zq]).length := by simp
    rw [e]; exact ho8
  · simp [Value.ownBlock] at hk
    subst hk; exact hnP
  · refine QU.append ?_ ?_
    · refine hq.keepS (by omega) (fun b hb hlt => ?_) fun b hb => ?_
      · obtain ⟨b1, b2, b3⟩ := hb
        rw [hk8 b (by omega) (hog b (by omega) b2), hg7.block b (by omega) (fun e => b2 e.symm), B6.block b hlt]
      · obtain ⟨b1, b2, b3⟩ := hb
        exact ⟨b1, by simp [Value.ownBlock]; exact fun e => hog b (by omega) b2 e.symm, by omega⟩
    · refine QU.keepS (S := fun b => w.heap.size ≤ b ∧ b < w6.heap.size) (QU.one (t := (⟨f + 1, t⟩ : UT)) tm) (by omega) (fun b hb hlt => ?_) fun b hb => ?_
      · have hv : vb.ownBlock ≠ some b := fun e => by have := hvb b e; omega
        rw [hk8 b (by omega) (hog b hb.2 hv), hg7.block b (by omega) (fun e => hv e.symm)]
      · have hv : vb.ownBlock ≠ some b := fun e => by have := hvb b e; omega
        exact ⟨by omega, by simp [Value.ownBlock]; exact fun e => hog b hb.2 hv e.symm, by omega⟩
  · refine ⟨hos.1.trans (hg7.os.trans B6.os), hos.2.1.trans (hg7.tape.trans B6.tape), hos.2.2.trans (hg7.output.trans B6.output), by omega, fun b hb => ?_⟩
    have hbw := hP b hb
    have hv : vb.ownBlock ≠ some b := fun e => hPo b e hb
    rw [hk8 b (fun e => hPg (e ▸ hb)) (hog b (by omega) hv), hg7.block b (by omega) (fun e => hv e.symm), B6.block b hbw]

set_option maxHeartbeats 4000000 in
theorem parts1_any (gb B : Nat) (S : Nat → Prop) (f : Nat) (t : Nd (Tm f)) (v : Value) (d : Int) (s : List UT) (w : World) (P : Nat → Prop) (hP : ∀ b, P b → b < w.heap.size) (hS : ∀ b, S b → P b) (hi : IQ gb B P w s)
    (hlen : s.length + 1 ≤ 1000000) (hfew : few (f + 1) t) (hv : TV w S (f + 1) v t) :
    Calls Tryd.prog 41 #[v, .int .i64 d, .pointer (some ⟨gb, 0, none⟩)] w fun e w' => e = .returned (.bool true) ∧ IQ gb B P w' (s ++ [(⟨f + 1, t⟩ : UT)]) ∧ KeepP P w w' := by
  obtain ⟨hPg, hgB, hB, vb, qs, kg, how, hPo, hq⟩ := hi
  obtain ⟨e0, e1, e2, e3, rfl, ht⟩ := hv
  obtain ⟨j0, j1, X2, n2, z2, X3, n3, z3, rfl, rfl, rfl, rfl⟩ := tm_form ht
  have hask : Ask (w.alloc (.cells #[.int .i64 j0, .int .u64 j1, .slice X2 n2 z2, .slice X3 n3 z3] 35)).drew (f + 1) (.agg #[.int .i64 j0, .int .u64 j1, .slice X2 n2 z2, .slice X3 n3 z3]) t := ⟨hfew, S, fun b hb => by have := hP b (hS b hb); show b < (w.alloc _).heap.size; simp; omega, TV.keep (TV.alloc ⟨_, _, _, _, rfl, ht⟩ _) (Nat.le_refl _) fun _ _ _ => rfl⟩
  have hask2 : Ask ((w.alloc (.cells #[.int .i64 j0, .int .u64 j1, .slice X2 n2 z2, .slice X3 n3 z3] 35)).alloc (.cells #[.int .i64 0, .int .u64 0, .slice none 0 0, .slice none 0 0] 35)).drew (f + 1) (.agg #[.int .i64 j0, .int .u64 j1, .slice X2 n2 z2, .slice X3 n3 z3]) t := ⟨hfew, S, fun b hb => by have := hP b (hS b hb); show b < ((w.alloc _).alloc _).heap.size; simp; omega, TV.keep ((TV.alloc ⟨_, _, _, _, rfl, ht⟩ _).alloc _) (Nat.le_refl _) fun _ _ _ => rfl⟩
  have HL : Hid (qs.length + 1 ≤ 1000000000) := by have := hq.1; show _ ≤ _; omega
  clear hlen ht hfew
  have K0 : KB (w.alloc (.cells #[.int .i64 j0, .int .u64 j1, .slice X2 n2 z2, .slice X3 n3 z3] 35)).drew w.heap.size 35 #[.int .i64 j0, .int .u64 j1, .slice X2 n2 z2, .slice X3 n3 z3] := KB.new w _ _
  have kg0 : KB (w.alloc (.cells #[.int .i64 j0, .int .u64 j1, .slice X2 n2 z2, .slice X3 n3 z3] 35)).drew gb 22 #[vb] := kg.alloc _
  have B0 : Below w.heap.size w (w.alloc (.cells #[.int .i64 j0, .int .u64 j1, .slice X2 n2 z2, .slice X3 n3 z3] 35)).drew := Below_drawn ((Below.refl _ _).alloc (Nat.le_refl _) _) 1
  have how0 : (w.alloc (.cells #[.int .i64 j0, .int .u64 j1, .slice X2 n2 z2, .slice X3 n3 z3] 35)).drew.ownsRow B 35 4 vb qs.length (flatQ qs) := own_past B0 how
  obtain ⟨Ab, cb, rfl⟩ := own_form how
  have hgw := kg.lt
  have qb : w.cell? ⟨gb, 0, none⟩ = some (.slice Ab qs.length cb) := kg.cell 0
  go_enter Tryd.func41, Tryd.ntmps41
  go_wp2_with fail
  generalize hw1 : (w.alloc (.cells #[.int .i64 j0, .int .u64 j1, .slice X2 n2 z2, .slice X3 n3 z3] 35)) = w1 at *
  have sw1 : w1.heap.size = w.heap.size + 1 := by rw [← hw1]; simp
  clear hw1
  have b0 : w1.cell? ⟨w.heap.size, 0, none⟩ = some (.int .i64 j0) := K0.cell 0
  have b1 : w1.cell? ⟨w.heap.size, 1, none⟩ = some (.int .u64 j1) := K0.cell 1
  have b2 : w1.cell? ⟨w.heap.size, 2, none⟩ = some (.slice X2 n2 z2) := K0.cell 2
  have b3 : w1.cell? ⟨w.heap.size, 3, none⟩ = some (.slice X3 n3 z3) := K0.cell 3
  clear qb
  have qb : w1.cell? ⟨gb, 0, none⟩ = some (.slice Ab qs.length cb) := kg0.cell 0
  have fb := kg0.free 0
  have hgw1 : gb < w.heap.size + 1 := by omega
  have hlt1 : (qs.length : Int) < (qs.length : Int) + 1 := by omega
  have hcB : Hid (∀ e w5, Made (w1.alloc (.cells #[.int .i64 0, .int .u64 0, .slice none 0 0, .slice none 0 0] 35)).drew (f + 1) t e w5 → Below w1.drew.heap.size w1.drew w5) := by
    rintro e w5 ⟨_, _, _, b⟩
    have b0 : Below w1.drew.heap.size w1.drew (w1.alloc (.cells #[.int .i64 0, .int .u64 0, .slice none 0 0, .slice none 0 0] 35)).drew := ⟨rfl, rfl, rfl, by show w1.heap.size ≤ (w1.alloc _).heap.size; simp, fun k hk => Below.heap_alloc w1 (.cells #[.int .i64 0, .int .u64 0, .slice none 0 0, .slice none 0 0] 35) k hk⟩
    exact b0.trans (b.mono b0.size)
  have kz0 : KB (w1.alloc (.cells #[.int .i64 0, .int .u64 0, .slice none 0 0, .slice none 0 0] 35)).drew (w.heap.size + 1) 35 #[.int .i64 0, .int .u64 0, .slice none 0 0, .slice none 0 0] := by
    have := KB.new w1 35 #[.int .i64 0, .int .u64 0, .slice none 0 0, .slice none 0 0]
    rw [sw1] at this; exact this
  go_region_law
    (first
      | (go_simp; go_at_call 33; refine (own_ask hask).mono ?_; rintro e w5 ⟨v5, rfl, ⟨d0, d1, d2, d3, rfl, tm5⟩, b5⟩; obtain ⟨l0, l1, Y2, m2, y2, Y3, m3, y3, rfl, rfl, rfl, rfl⟩ := tm_form tm5; have kg5 := kg0.below b5 kg0.lt; have hgw5 := kg5.lt; have B5 := B0.trans (b5.mono B0.size); have how6 := own_past ((Below.refl _ _).alloc (Nat.le_refl _) (.cells #[.int .i64 0, .int .u64 0, .slice none 0 0, .slice none 0 0] 35)) (own_past b5 how0); have B6 := B5.alloc B5.size (.cells #[.int .i64 0, .int .u64 0, .slice none 0 0, .slice none 0 0] 35); have kg6 := kg5.alloc (.cells #[.int .i64 0, .int .u64 0, .slice none 0 0, .slice none 0 0] 35); have hB6 : B ≤ (w5.alloc (.cells #[.int .i64 0, .int .u64 0, .slice none 0 0, .slice none 0 0] 35)).heap.size := Nat.le_trans hB B6.size; have tm6 := TM.keepS (w' := w5.alloc (.cells #[.int .i64 0, .int .u64 0, .slice none 0 0, .slice none 0 0] 35)) (S' := fun b => w.heap.size ≤ b ∧ b < (w5.alloc (.cells #[.int .i64 0, .int .u64 0, .slice none 0 0, .slice none 0 0] 35)).heap.size) (f + 1) t _ _ _ _ tm5 (by simp) (fun b _ hb => Below.heap_alloc w5 (.cells #[.int .i64 0, .int .u64 0, .slice none 0 0, .slice none 0 0] 35) b hb) (fun b hb => ⟨Nat.le_trans B0.size hb.1, by have := hb.2; simp; omega⟩); clear b0 b1 b2 b3 qb fb; have qb : w5.cell? ⟨gb, 0, none⟩ = some (.slice Ab qs.length cb) := kg5.cell 0; have fb := kg5.free 0)
      | (go_simp; go_at_call 33; refine (own_ask hask2).mono ?_; rintro e w5 hmade; have b5 := hcB.out e w5 hmade; obtain ⟨v5, rfl, ⟨d0, d1, d2, d3, rfl, tm5⟩, b5'⟩ := hmade; have kz5 := kz0.below b5' kz0.lt; obtain ⟨l0, l1, Y2, m2, y2, Y3, m3, y3, rfl, rfl, rfl, rfl⟩ := tm_form tm5; have kg5 := kg0.below b5 kg0.lt; have hgw5 := kg5.lt; have B6 := B0.trans (b5.mono B0.size); have how6 := own_past b5 how0; have kg6 := kg5; have hB6 : B ≤ w5.heap.size := Nat.le_trans hB B6.size; have tm6 := TM.keepS (w' := w5) (S' := fun b => w.heap.size ≤ b ∧ b < w5.heap.size) (f + 1) t _ _ _ _ tm5 (Nat.le_refl _) (fun b _ hb => rfl) (fun b hb => ⟨Nat.le_trans (Nat.le_trans B0.size (by show w1.heap.size ≤ (w1.alloc _).heap.size; simp)) hb.1, hb.2⟩); clear b0 b1 b2 b3 qb fb; have qb : w5.cell? ⟨gb, 0, none⟩ = some (.slice Ab qs.length cb) := kg5.cell 0; have fb := kg5.free 0)
      | (refine step_growT rfl _ _ rfl B _ qs rfl how6 _ 1 [zq] rfl (At_new w5 zq) (by intro u hu; simp [flatQ, quad] at hu; rcases hu with rfl | rfl | rfl | rfl <;> rfl) HL.out hB6 ?_; intro v7 w7 how7 hg7 h7; have kg7 := kg6.grown hg7 (own_ne how6 hgB); obtain ⟨g7, c7, rfl, hB7, t0, t1, t2, t3, hfr⟩ := own_KB how7; have r0 := hfr (qs.length * 4); have r1 := hfr (qs.length * 4 + 1); have r2 := hfr (qs.length * 4 + 2); have r3 := hfr (qs.length * 4 + 3); have hne : ¬ g7 = gb := (by omega); have hne' : ¬ gb = g7 := (by omega); clear qb fb hfr; have qb : w7.cell? ⟨gb, 0, none⟩ = some (.slice Ab qs.length cb) := kg7.cell 0; have fb := kg7.free 0)
      | (refine step_growT rfl _ _ rfl B _ qs rfl how6 _ 1 [zq] rfl (At_kb kz5) (by intro u hu; simp [flatQ, quad] at hu; rcases hu with rfl | rfl | rfl | rfl <;> rfl) HL.out hB6 ?_; intro v7 w7 how7 hg7 h7; have kg7 := kg6.grown hg7 (own_ne how6 hgB); obtain ⟨g7, c7, rfl, hB7, t0, t1, t2, t3, hfr⟩ := own_KB how7; have r0 := hfr (qs.length * 4); have r1 := hfr (qs.length * 4 + 1); have r2 := hfr (qs.length * 4 + 2); have r3 := hfr (qs.length * 4 + 3); have hne : ¬ g7 = gb := (by omega); have hne' : ¬ gb = g7 := (by omega); clear qb fb hfr; have qb : w7.cell? ⟨gb, 0, none⟩ = some (.slice Ab qs.length cb) := kg7.cell 0; have fb := kg7.free 0))
  all_goals
    obtain ⟨hI8, hK8⟩ := IQ.put hP hPg hgB hB hPo how hq B6 tm6 kg7 how7 hg7 h7
    (first | rw [set_swap _ gb g7 _ _ _ _ hne', set_swap _ gb g7 _ _ _ _ hne', set_swap _ gb g7 _ _ _ _ hne', set_swap _ gb g7 _ _ _ _ hne'] | skip)
    clear qb fb t0 t1 t2 t3 r0 r1 r2 r3
    rw [List.length_append, List.length_singleton] at hI8 hK8
    go_wp2
    go_ret
    exact ⟨rfl, hI8, hK8⟩
end Go.Proofs.YthgaljgelngmaaaDoor
end
