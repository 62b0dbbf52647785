/-
  DcF: What the program keeps while it takes terms apart: the list so far, and the same terms again by what is seen at once; each in rows of the call's own. Plain words on memory, no condition but what each theorem names.
-/
import Derived.Test.YthgaljgelngmaaaDoorDv30

section
namespace Go.Proofs.YthgaljgelngmaaaDoor
open Go.RowKit
set_option linter.unusedVariables false

theorem own_keep {w w' : World} {B e size n : Nat} {v : Value} {xs : List Value} (h : w.ownsRow B e size v n xs) (hk : ∀ b, v.ownBlock = some b → w'.heap[b]? = w.heap[b]?) : w'.ownsRow B e size v n xs := by
  obtain ⟨h1, h2⟩ := h
  refine ⟨h1, ?_⟩
  rcases h2 with h2 | ⟨g, c, cur, rfl, hb, hg, r⟩
  · exact .inl h2
  · exact .inr ⟨g, c, cur, rfl, hb, (hk g rfl).trans hg, r⟩

def inL (f : Nat) (k : Look) (l : List (Tm f)) : List (Tm f) := l.filter fun t => decide (lookT f t = k)
theorem inL_mem {f : Nat} {l : List (Tm f)} (t : Tm f) : t ∈ inL f (lookT f t) l ↔ t ∈ l := by simp [inL]
theorem inL_append (f : Nat) (k : Look) (l : List (Tm f)) (t : Tm f) : inL f k (l ++ [t]) = if k = lookT f t then inL f k l ++ [t] else inL f k l := by
  unfold inL
  rw [List.filter_append]
  by_cases h : k = lookT f t
  · rw [if_pos h]
    simp [h]
  · rw [if_neg h]
    have : ¬ lookT f t = k := fun e => h e.symm
    simp [this]
theorem inL_len (f : Nat) (k : Look) (l : List (Tm f)) : (inL f k l).length ≤ l.length := List.length_filter_le _ _

/-- The state: block ba holds va, a row that reads as all; map m holds, at each look, a row that reads as those of seen that look so; these blocks are O's. -/
structure LkS (S : Nat → Prop) (B ba m f : Nat) (O : Nat → Prop) (w : World) (va : Value) (qs : List Quad) (vo : Look → Value) (qo : Look → List Quad) (n : Nat) (all seen : List (Tm f)) : Prop where
  kb : KB w ba 22 #[va]
  ro : w.ownsRow B 35 4 va qs.length (flatQ qs)
  qt : QT w S f qs all
  mw : MapW w m vo n
  row : ∀ k, w.ownsRow B 35 4 (vo k) (qo k).length (flatQ (qo k))
  rqt : ∀ k, QT w S f (qo k) (inL f k seen)
  inj : ∀ k k' b, (vo k).ownBlock = some b → (vo k').ownBlock = some b → k = k'
  far : ∀ k b, (vo k).ownBlock = some b → va.ownBlock ≠ some b ∧ b ≠ ba ∧ b ≠ m ∧ O b
  mine : ∀ b, va.ownBlock = some b → b ≠ ba ∧ b ≠ m ∧ O b
  ne : ba ≠ m
  oa : O ba
  om : O m
  ob : ∀ b, O b → B ≤ b ∧ b < w.heap.size
  nn : n ≤ seen.length
  sb : ∀ b, S b → b < B

section
variable {S : Nat → Prop} {B ba m f : Nat} {O : Nat → Prop} {w w' : World} {va : Value} {qs : List Quad} {vo : Look → Value} {qo : Look → List Quad} {n : Nat} {all seen : List (Tm f)} {t' : Tm f}

theorem LkS.keep (h : LkS S B ba m f O w va qs vo qo n all seen) (hs : w.heap.size ≤ w'.heap.size) (ho : ∀ b, O b → w'.heap[b]? = w.heap[b]?) (hS : ∀ b, S b → w'.heap[b]? = w.heap[b]?) : LkS S B ba m f O w' va qs vo qo n all seen :=
  { h with
    kb := h.kb.keep (ho _ h.oa)
    ro := own_keep h.ro fun b hb => ho b (h.mine b hb).2.2
    qt := h.qt.keepS hs (fun b sb _ => hS b sb) fun _ h => h
    mw := h.mw.keep (ho _ h.om)
    row := fun k => own_keep (h.row k) fun b hb => ho b (h.far k b hb).2.2.2
    rqt := fun k => (h.rqt k).keepS hs (fun b sb _ => hS b sb) fun _ h => h
    ob := fun b hb => ⟨(h.ob b hb).1, Nat.lt_of_lt_of_le (h.ob b hb).2 hs⟩ }
theorem LkS.below (h : LkS S B ba m f O w va qs vo qo n all seen) (hb : Below w.heap.size w w') (hB : B ≤ w.heap.size) : LkS S B ba m f O w' va qs vo qo n all seen :=
  h.keep hb.size (fun b ob => hb.block b (h.ob b ob).2) fun b sb => hb.block b (Nat.lt_of_lt_of_le (h.sb b sb) hB)

/-- What stands at a term's look, as a list. -/
theorem LkS.ks (h : LkS S B ba m f O w va qs vo qo n all seen) (hB : B ≤ w.heap.size) (k : Look) : KS w (fun b => b < w.heap.size) (TM w (fun b => b < w.heap.size) f) (vo k) (inL f k seen) :=
  KS_row (h.row k) (h.rqt k) fun b hb => Nat.lt_of_lt_of_le (h.sb b hb) hB

set_option maxHeartbeats 1000000 in
/-- Behind the append of one more term to the list. -/
theorem LkS.grow (h : LkS S B ba m f O w va qs vo qo n all seen) (hB : B ≤ w.heap.size) {w6 w7 : World} {g7 c7 : Nat} {t : Tm f} {l0 l1 l2 l3 : Value} (B6 : Below w.heap.size w w6) (tm : TM w S f t l0 l1 l2 l3)
    (how7 : w7.ownsRow B 35 4 (.slice (some ⟨g7, 0, none⟩) (qs ++ [zq]).length c7) (qs ++ [zq]).length (flatQ (qs ++ [zq]))) (hg7 : w6.grownBy w7 va.ownBlock)
    (h7 : (Value.slice (some ⟨g7, 0, none⟩) (qs ++ [zq]).length c7).ownBlock = va.ownBlock ∨ (Value.slice (some ⟨g7, 0, none⟩) (qs ++ [zq]).length c7).ownBlock = some w6.heap.size) :
    LkS S B ba m f (fun b => O b ∨ b = g7) (((((w7.setCell ⟨g7, qs.length * 4, none⟩ l0).setCell ⟨g7, qs.length * 4 + 1, none⟩ l1).setCell ⟨g7, qs.length * 4 + 2, none⟩ l2).setCell ⟨g7, qs.length * 4 + 3, none⟩ l3).setCell ⟨ba, 0, none⟩ (.slice (some ⟨g7, 0, none⟩) (qs ++ [zq]).length c7))
      (.slice (some ⟨g7, 0, none⟩) (qs ++ [zq]).length c7) (qs ++ [(l0, l1, l2, l3)]) vo qo n (all ++ [t]) seen ∧
    (O g7 ∨ w.heap.size ≤ g7) ∧
    KeepP (fun b => b < w.heap.size ∧ ¬ O b) w (((((w7.setCell ⟨g7, qs.length * 4, none⟩ l0).setCell ⟨g7, qs.length * 4 + 1, none⟩ l1).setCell ⟨g7, qs.length * 4 + 2, none⟩ l2).setCell ⟨g7, qs.length * 4 + 3, none⟩ l3).setCell ⟨ba, 0, none⟩ (.slice (some ⟨g7, 0, none⟩) (qs ++ [zq]).length c7)) := by
  have hg : g7 < w7.heap.size := own_lt how7 g7 rfl
  have ho4 := own_last (q := (l0, l1, l2, l3)) how7
  dsimp only at ho4
  have h6 := B6.size
  have h76 := hg7.size
  have hO7 : O g7 ∨ w6.heap.size = g7 := by
    rcases h7 with e | e
    · exact .inl (h.mine g7 e.symm).2.2
    · simp [Value.ownBlock] at e; exact .inr e.symm
  have hO7' : O g7 ∨ w.heap.size ≤ g7 := hO7.imp id fun e => by omega
  have hne7 : ∀ b, O b → va.ownBlock ≠ some b → b ≠ g7 := by
    intro b ob hv e
    subst e
    rcases h7 with e | e
    · exact hv e.symm
    · simp [Value.ownBlock] at e
      have := (h.ob b ob).2
      omega
  have hba7 : ba ≠ g7 := hne7 ba h.oa fun e => (h.mine ba e).1 rfl
  have hm7 : m ≠ g7 := hne7 m h.om fun e => (h.mine m e).2.1 rfl
  have kg7 : KB w7 ba 22 #[va] := (h.kb.below B6 h.kb.lt).grown hg7 fun e => (h.mine ba e).1 rfl
  have hs8 : (((((w7.setCell ⟨g7, qs.length * 4, none⟩ l0).setCell ⟨g7, qs.length * 4 + 1, none⟩ l1).setCell ⟨g7, qs.length * 4 + 2, none⟩ l2).setCell ⟨g7, qs.length * 4 + 3, none⟩ l3).setCell ⟨ba, 0, none⟩ (.slice (some ⟨g7, 0, none⟩) (qs ++ [zq]).length c7)).heap.size = w7.heap.size := by simp [World.setCell]
  have hk8 : ∀ b, b ≠ ba → b ≠ g7 → (((((w7.setCell ⟨g7, qs.length * 4, none⟩ l0).setCell ⟨g7, qs.length * 4 + 1, none⟩ l1).setCell ⟨g7, qs.length * 4 + 2, none⟩ l2).setCell ⟨g7, qs.length * 4 + 3, none⟩ l3).setCell ⟨ba, 0, none⟩ (.slice (some ⟨g7, 0, none⟩) (qs ++ [zq]).length c7)).heap[b]? = w7.heap[b]? := fun b h1 h2 =>
    (Below.heap_setCell _ ⟨ba, 0, none⟩ _ b h1).trans ((Below.heap_setCell _ ⟨g7, qs.length * 4 + 3, none⟩ _ b h2).trans ((Below.heap_setCell _ ⟨g7, qs.length * 4 + 2, none⟩ _ b h2).trans ((Below.heap_setCell _ ⟨g7, qs.length * 4 + 1, none⟩ _ b h2).trans (Below.heap_setCell _ ⟨g7, qs.length * 4, none⟩ _ b h2))))
  have kb8 := ((((kg7.far (h := g7) (i := qs.length * 4) (v := l0) hba7.symm).far (h := g7) (i := qs.length * 4 + 1) (v := l1) hba7.symm).far (h := g7) (i := qs.length * 4 + 2) (v := l2) hba7.symm).far (h := g7) (i := qs.length * 4 + 3) (v := l3) hba7.symm).put 0 (.slice (some ⟨g7, 0, none⟩) (qs ++ [zq]).length c7)
  have ho8 := own_keep (w' := (((((w7.setCell ⟨g7, qs.length * 4, none⟩ l0).setCell ⟨g7, qs.length * 4 + 1, none⟩ l1).setCell ⟨g7, qs.length * 4 + 2, none⟩ l2).setCell ⟨g7, qs.length * 4 + 3, none⟩ l3).setCell ⟨ba, 0, none⟩ (.slice (some ⟨g7, 0, none⟩) (qs ++ [zq]).length c7))) ho4 fun b hb => by
    simp [Value.ownBlock] at hb
    subst hb
    exact Below.heap_setCell _ ⟨ba, 0, none⟩ _ g7 hba7.symm
  have hos : (((((w7.setCell ⟨g7, qs.length * 4, none⟩ l0).setCell ⟨g7, qs.length * 4 + 1, none⟩ l1).setCell ⟨g7, qs.length * 4 + 2, none⟩ l2).setCell ⟨g7, qs.length * 4 + 3, none⟩ l3).setCell ⟨ba, 0, none⟩ (.slice (some ⟨g7, 0, none⟩) (qs ++ [zq]).length c7)).os = w7.os ∧ (((((w7.setCell ⟨g7, qs.length * 4, none⟩ l0).setCell ⟨g7, qs.length * 4 + 1, none⟩ l1).setCell ⟨g7, qs.length * 4 + 2, none⟩ l2).setCell ⟨g7, qs.length * 4 + 3, none⟩ l3).setCell ⟨ba, 0, none⟩ (.slice (some ⟨g7, 0, none⟩) (qs ++ [zq]).length c7)).tape = w7.tape ∧ (((((w7.setCell ⟨g7, qs.length * 4, none⟩ l0).setCell ⟨g7, qs.length * 4 + 1, none⟩ l1).setCell ⟨g7, qs.length * 4 + 2, none⟩ l2).setCell ⟨g7, qs.length * 4 + 3, none⟩ l3).setCell ⟨ba, 0, none⟩ (.slice (some ⟨g7, 0, none⟩) (qs ++ [zq]).length c7)).output = w7.output := ⟨rfl, rfl, rfl⟩
  generalize ((((w7.setCell ⟨g7, qs.length * 4, none⟩ l0).setCell ⟨g7, qs.length * 4 + 1, none⟩ l1).setCell ⟨g7, qs.length * 4 + 2, none⟩ l2).setCell ⟨g7, qs.length * 4 + 3, none⟩ l3).setCell ⟨ba, 0, none⟩ (.slice (some ⟨g7, 0, none⟩) (qs ++ [zq]).length c7) = w8 at *
  have hva : ∀ b, b < B → va.ownBlock ≠ some b := fun b hb e => by have := own_ge h.ro b e; omega
  have hg7B : B ≤ g7 := own_ge how7 g7 rfl
  -- a block of w that is no row of all's, nor ba, is as it was
  have keep : ∀ b, b < w.heap.size → va.ownBlock ≠ some b → b ≠ ba → b ≠ g7 → w8.heap[b]? = w.heap[b]? := fun b h1 h2 h3 h4 => by
    rw [hk8 b h3 h4, hg7.block b (by omega) (fun e => h2 e.symm), B6.block b h1]
  have keepS : ∀ b, S b → b < w.heap.size → w8.heap[b]? = w.heap[b]? := fun b sb hb => by
    have := h.sb b sb
    exact keep b hb (hva b this) (fun e => by have := (h.ob ba h.oa).1; omega) (by omega)
  refine ⟨{ kb := kb8, ro := ?_, qt := ?_, mw := h.mw.keep (keep m (h.ob m h.om).2 (fun e => (h.mine m e).2.1 rfl) h.ne.symm hm7), row := fun k => own_keep (h.row k) fun b hb => ?_, rqt := fun k => (h.rqt k).keepS (by omega) keepS fun _ h => h, inj := h.inj, far := fun k b hb => ?_, mine := fun b hb => ?_, ne := h.ne, oa := .inl h.oa, om := .inl h.om, ob := fun b hb => ?_, nn := h.nn, sb := h.sb }, hO7', ?_⟩
  · have e : (qs ++ [(l0, l1, l2, l3)]).length = (qs ++ [zq]).length := by simp
    rw [e]; exact ho8
  · exact (h.qt.append (QT.one tm)).keepS (by omega) keepS fun _ h => h
  · have hf := h.far k b hb
    exact keep b (h.ob b hf.2.2.2).2 hf.1 hf.2.1 (hne7 b hf.2.2.2 hf.1)
  · have hf := h.far k b hb
    refine ⟨fun e => ?_, hf.2.1, hf.2.2.1, .inl hf.2.2.2⟩
    simp [Value.ownBlock] at e
    exact hne7 b hf.2.2.2 hf.1 e.symm
  · simp [Value.ownBlock] at hb
    subst hb
    exact ⟨hba7.symm, hm7.symm, .inr rfl⟩
  · rcases hb with hb | rfl
    · exact ⟨(h.ob b hb).1, by have := (h.ob b hb).2; omega⟩
    · exact ⟨hg7B, by omega⟩
  · refine ⟨hos.1.trans (hg7.os.trans B6.os), hos.2.1.trans (hg7.tape.trans B6.tape), hos.2.2.trans (hg7.output.trans B6.output), by omega, fun b hb => ?_⟩
    refine keep b hb.1 (fun e => hb.2 (h.mine b e).2.2) (fun e => hb.2 (e ▸ h.oa)) fun e => ?_
    rcases hO7 with h8 | h8
    · exact hb.2 (e ▸ h8)
    · omega

set_option maxHeartbeats 1000000 in
/-- Behind the append of one more term to those of its look, and the store in the map. -/
theorem LkS.store (h : LkS S B ba m f O w va qs vo qo n (seen ++ [t']) seen) (hB : B ≤ w.heap.size) {w6 w7 w9 : World} {v7 : Value} {l0 l1 l2 l3 : Value} (B6 : Below w.heap.size w w6) (tm : TM w S f t' l0 l1 l2 l3)
    (how7 : w7.ownsRow B 35 4 v7 (qo (lookT f t') ++ [(l0, l1, l2, l3)]).length (flatQ (qo (lookT f t') ++ [(l0, l1, l2, l3)]))) (hg7 : w6.grownBy w7 (vo (lookT f t')).ownBlock)
    (h7 : v7.ownBlock = (vo (lookT f t')).ownBlock ∨ v7.ownBlock = some w6.heap.size)
    (hm9 : MapW w7 m vo n → MapW w9 m (fun k => if k = lookT f t' then v7 else vo k) (n + 1) ∧ w7.grownBy w9 (some m)) :
    LkS S B ba m f (fun b => O b ∨ v7.ownBlock = some b) w9 va qs (fun k => if k = lookT f t' then v7 else vo k) (fun k => if k = lookT f t' then qo (lookT f t') ++ [(l0, l1, l2, l3)] else qo k) (n + 1) (seen ++ [t']) (seen ++ [t']) ∧
    (∀ b, v7.ownBlock = some b → O b ∨ w.heap.size ≤ b) ∧ KeepP (fun b => b < w.heap.size ∧ ¬ O b) w w9 := by
  have h6 := B6.size
  have h76 := hg7.size
  -- v7's block is the elder row's, or new
  have hv7 : ∀ b, v7.ownBlock = some b → (vo (lookT f t')).ownBlock = some b ∨ b = w6.heap.size := fun b hb => by
    rcases h7 with e | e
    · exact .inl (e ▸ hb)
    · right; rw [e] at hb; exact (Option.some.inj hb).symm
  have hfarO : ∀ b, O b → (vo (lookT f t')).ownBlock ≠ some b → v7.ownBlock ≠ some b := fun b ob hn e => by
    rcases hv7 b e with e | e
    · exact hn e
    · have := (h.ob b ob).2; omega
  have hmv : (vo (lookT f t')).ownBlock ≠ some m := fun e => (h.far _ m e).2.2.1 rfl
  have hbav : (vo (lookT f t')).ownBlock ≠ some ba := fun e => (h.far _ ba e).2.1 rfl
  have keep7 : ∀ b, b < w.heap.size → (vo (lookT f t')).ownBlock ≠ some b → w7.heap[b]? = w.heap[b]? := fun b h1 h2 => by
    rw [hg7.block b (by omega) (fun e => h2 e.symm), B6.block b h1]
  obtain ⟨mw9, hg9⟩ := hm9 (h.mw.keep (keep7 m (h.ob m h.om).2 hmv))
  have h97 := hg9.size
  have keep : ∀ b, b < w.heap.size → (vo (lookT f t')).ownBlock ≠ some b → b ≠ m → w9.heap[b]? = w.heap[b]? := fun b h1 h2 h3 => by
    rw [hg9.block b (by omega) (fun e => h3 (Option.some.inj e)), keep7 b h1 h2]
  have hSv : ∀ b, b < B → (vo (lookT f t')).ownBlock ≠ some b := fun b hb e => by have := own_ge (h.row _) b e; omega
  have keepS : ∀ b, S b → b < w.heap.size → w9.heap[b]? = w.heap[b]? := fun b sb hb => by
    have := h.sb b sb
    exact keep b hb (hSv b this) (fun e => by have := (h.ob m h.om).1; omega)
  have hlt7 := own_lt how7
  have hm7 : v7.ownBlock ≠ some m := hfarO m h.om hmv
  refine ⟨{ kb := h.kb.keep (keep ba (h.ob ba h.oa).2 hbav h.ne), ro := own_keep h.ro fun b hb => keep b (h.ob b (h.mine b hb).2.2).2 (fun e => (h.far _ b e).1 hb) (h.mine b hb).2.1, qt := h.qt.keepS (by omega) keepS fun _ h => h, mw := mw9, row := fun k => ?_, rqt := fun k => ?_, inj := fun k k' b hb hb' => ?_, far := fun k b hb => ?_, mine := fun b hb => ?_, ne := h.ne, oa := .inl h.oa, om := .inl h.om, ob := fun b hb => ?_, nn := by rw [List.length_append]; have := h.nn; simp; omega, sb := h.sb }, fun b hb => ?_, ?_⟩
  · by_cases hk : k = lookT f t'
    · rw [if_pos hk, if_pos hk]
      exact own_keep how7 fun b hb => hg9.block b (hlt7 b hb) fun e => hm7 (by rw [hb, Option.some.inj e])
    · rw [if_neg hk, if_neg hk]
      exact own_keep (h.row k) fun b hb => keep b (h.ob b (h.far k b hb).2.2.2).2 (fun e => hk (h.inj _ _ b hb e)) (h.far k b hb).2.2.1
  · rw [inL_append]
    by_cases hk : k = lookT f t'
    · rw [if_pos hk, if_pos hk]
      subst hk
      exact ((h.rqt _).append (QT.one tm)).keepS (by omega) keepS fun _ h => h
    · rw [if_neg hk, if_neg hk]
      exact (h.rqt k).keepS (by omega) keepS fun _ h => h
  · by_cases hk : k = lookT f t'
    · by_cases hk' : k' = lookT f t'
      · rw [hk, hk']
      · rw [if_pos hk] at hb
        rw [if_neg hk'] at hb'
        exfalso
        rcases hv7 b hb with e | e
        · exact hk' (h.inj _ _ b hb' e)
        · have := (h.ob b (h.far k' b hb').2.2.2).2; omega
    · by_cases hk' : k' = lookT f t'
      · rw [if_neg hk] at hb
        rw [if_pos hk'] at hb'
        exfalso
        rcases hv7 b hb' with e | e
        · exact hk (h.inj _ _ b hb e)
        · have := (h.ob b (h.far k b hb).2.2.2).2; omega
      · rw [if_neg hk] at hb
        rw [if_neg hk'] at hb'
        exact h.inj _ _ b hb hb'
  · by_cases hk : k = lookT f t'
    · rw [if_pos hk] at hb
      refine ⟨fun e => ?_, fun e => ?_, fun e => hm7 (e ▸ hb), .inr hb⟩
      · rcases hv7 b hb with e1 | e1
        · exact (h.far _ b e1).1 e
        · have := (h.ob b (h.mine b e).2.2).2; omega
      · exact hfarO ba h.oa hbav (e ▸ hb)
    · rw [if_neg hk] at hb
      have hf := h.far k b hb
      exact ⟨hf.1, hf.2.1, hf.2.2.1, .inl hf.2.2.2⟩
  · have hf := h.mine b hb
    exact ⟨hf.1, hf.2.1, .inl hf.2.2⟩
  · rcases hb with hb | hb
    · exact ⟨(h.ob b hb).1, by have := (h.ob b hb).2; omega⟩
    · exact ⟨own_ge how7 b hb, by have := hlt7 b hb; omega⟩
  · rcases hv7 b hb with e | e
    · exact .inl (h.far _ b e).2.2.2
    · right; omega
  · exact ⟨hg9.os.trans (hg7.os.trans B6.os), hg9.tape.trans (hg7.tape.trans B6.tape), hg9.output.trans (hg7.output.trans B6.output), by omega, fun b hb => keep b hb.1 (fun e => hb.2 (h.far _ b e).2.2.2) (fun e => hb.2 (e ▸ h.om))⟩
end

/-- The state, whatever holds it. -/
def Lk (S : Nat → Prop) (B ba m f : Nat) (O : Nat → Prop) (w : World) (all : List (Tm f)) : Prop := ∃ va qs vo qo n, LkS S B ba m f O w va qs vo qo n all all
end Go.Proofs.YthgaljgelngmaaaDoor
end
