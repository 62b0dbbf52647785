/-
  TermL: The document's reading of a term, over the loaded program: its contract. No condition but the sizes that it names.
-/
import Derived.Test.YthgaljgelngmaaaDoorDv15
import Derived.Test.YthgaljgelngmaaaDoorDv16

section
namespace Go.Proofs.YthgaljgelngmaaaDoor
open Go.RowKit
set_option linter.unusedVariables false

theorem readT_zero (st : Option (List UInt8)) : readT 0 st = (none, zeroN) := rfl
theorem readT_none (d : Nat) : readT d none = (none, zeroN) := by cases d <;> rfl
theorem readT_nil (d : Nat) : readT d (some []) = (none, zeroN) := by cases d <;> rfl
theorem readT_bad (d : Nat) (b : UInt8) (l : List UInt8) (h : kidsN (b.toNat : Int) < 0) : readT (d + 1) (some (b :: l)) = (none, zeroN) := by
  simp only [readT]; rw [if_pos h]
theorem readT_good (d : Nat) (b : UInt8) (l : List UInt8) (h : ¬ kidsN (b.toNat : Int) < 0) : readT (d + 1) (some (b :: l)) =
    ((readL (readT d) (kidsN (b.toNat : Int)).toNat (readD (b.toNat : Int) (readN (b.toNat : Int) (some l)).1).1).1,
      ⟨(b.toNat : Int), (readN (b.toNat : Int) (some l)).2, (readD (b.toNat : Int) (readN (b.toNat : Int) (some l)).1).2, (readL (readT d) (kidsN (b.toNat : Int)).toNat (readD (b.toNat : Int) (readN (b.toNat : Int) (some l)).1).1).2⟩) := by
  simp only [readT]; rw [if_neg h]

theorem passed_none : passed 1 none = (none, []) := rfl
theorem passed_nil : passed 1 (some []) = (none, []) := rfl
theorem passed_cons (b : UInt8) (l : List UInt8) : passed 1 (some (b :: l)) = (some l, [b]) := by
  unfold passed
  rw [if_neg (by simp; omega)]; rfl

theorem numOf_le (st : Option (List UInt8)) : ((numOf st).1.getD []).length ≤ (st.getD []).length := by
  unfold numOf
  split
  · split
    · simp
    · simp; omega
  · simp
theorem passed_le (n : Int) (st : Option (List UInt8)) : ((passed n st).1.getD []).length ≤ (st.getD []).length := by
  unfold passed
  split
  · simp
  · cases st <;> simp
theorem txtOf_le (m : Int) (st : Option (List UInt8)) : ((txtOf m st).1.getD []).length ≤ (st.getD []).length := by
  unfold txtOf
  refine Nat.le_trans (passed_le _ _) ?_
  unfold cntOf
  split
  · simp
  · exact numOf_le st
theorem readL_le {α : Type} {g : Option (List UInt8) → Option (List UInt8) × α} (h : ∀ st, ((g st).1.getD []).length ≤ (st.getD []).length) : ∀ (n : Nat) (st : Option (List UInt8)), ((readL g n st).1.getD []).length ≤ (st.getD []).length
  | 0, st => by rw [readL_zero]; exact Nat.le_refl _
  | n + 1, none => by rw [readL_none]; exact Nat.le_refl _
  | n + 1, some l => by
    rw [readL_some]
    exact Nat.le_trans (readL_le h n _) (h (some l))
theorem readT_le : ∀ (d : Nat) (st : Option (List UInt8)), ((readT d st).1.getD []).length ≤ (st.getD []).length
  | 0, st => by rw [readT_zero]; simp
  | d + 1, none => by rw [readT_none]; simp
  | d + 1, some [] => by rw [readT_nil]; simp
  | d + 1, some (b :: l) => by
    by_cases h : kidsN (b.toNat : Int) < 0
    · rw [readT_bad d b l h]; simp
    · rw [readT_good d b l h]
      refine Nat.le_trans (readL_le (readT_le d) _ _) ?_
      have h1 : ((readD (b.toNat : Int) (readN (b.toNat : Int) (some l)).1).1.getD []).length ≤ ((readN (b.toNat : Int) (some l)).1.getD []).length := by
        unfold readD
        split
        · exact txtOf_le _ _
        · exact Nat.le_refl _
      have h2 : ((readN (b.toNat : Int) (some l)).1.getD []).length ≤ ((some l : Option (List UInt8)).getD []).length := by
        unfold readN
        split
        · exact numOf_le _
        · exact Nat.le_refl _
      have h3 : ((some l : Option (List UInt8)).getD []).length ≤ ((some (b :: l) : Option (List UInt8)).getD []).length := by simp
      omega

theorem KS.restrict {α : Type} {w : World} {S : Nat → Prop} {E E' : α → Value → Value → Value → Value → Prop} {v : Value} {ks : List α} (h : KS w S E v ks) (he : ∀ t c0 c1 c2 c3, E t c0 c1 c2 c3 → E' t c0 c1 c2 c3) :
    KS w (fun b => S b ∧ b < w.heap.size) E' v ks := by
  obtain ⟨A, c, e, hl, hc, hn, hx⟩ := h
  refine ⟨A, c, e, hl, hc, hn, fun h0 => ?_⟩
  obtain ⟨b, o, ea, sb, hb, hx⟩ := hx h0
  refine ⟨b, o, ea, ⟨sb, hb⟩, hb, fun i t hi => ?_⟩
  obtain ⟨c0, c1, c2, c3, k0, k1, k2, k3, ke⟩ := hx i t hi
  exact ⟨c0, c1, c2, c3, k0, k1, k2, k3, he _ _ _ _ _ ke⟩
theorem TM.lt {w : World} {S : Nat → Prop} : ∀ (f : Nat) (t : Tm f) (c0 c1 c2 c3 : Value), TM w S f t c0 c1 c2 c3 → TM w (fun b => S b ∧ b < w.heap.size) f t c0 c1 c2 c3
  | 0, t, _, _, _, _, _ => nomatch t
  | f + 1, (t : Nd (Tm f)), c0, c1, c2, c3, h => by
    obtain ⟨h0, h1, h2, h3, h4, h5⟩ := h
    exact ⟨h0, h1, h2, h3, h4.lt, h5.restrict fun u d0 d1 d2 d3 hu => TM.lt f u d0 d1 d2 d3 hu⟩

/-- What was read, whole. -/
theorem read_TV {wr w' : World} {B g6 d : Nat} {k : Int} {n1 : Nat} {dat : List UInt8} {ks : List (Tm (d + 1))} {qs : List Quad} {kv dv : Value} (hI : I64 k) (hn : n1 < 18446744073709551616) (hbs : BS wr (fun b => g6 < b) dv dat)
    (how : wr.ownsRow (g6 + 1) 35 4 kv qs.length (flatQ qs)) (hq : QT wr (fun b => g6 < b) (d + 1) qs ks) (hB : B ≤ g6) (hs : wr.heap.size = w'.heap.size) (hk : ∀ b, g6 < b → w'.heap[b]? = wr.heap[b]?) :
    TV w' (fun b => B ≤ b ∧ b < w'.heap.size) (d + 1 + 1) (.agg #[.int .i64 k, .int .u64 (n1 : Int), dv, kv]) (⟨k, n1, dat, ks⟩ : Nd (Tm (d + 1))) := by
  have h : TM wr (fun b => g6 < b) (d + 1 + 1) (⟨k, n1, dat, ks⟩ : Nd (Tm (d + 1))) (.int .i64 k) (.int .u64 (n1 : Int)) dv kv := ⟨rfl, hI, rfl, hn, hbs, KS_of_own how hq fun b hb _ => hb⟩
  exact ⟨_, _, _, _, rfl, TM.keepS _ _ _ _ _ _ (TM.lt _ _ _ _ _ _ h) (Nat.le_of_eq hs) (fun b hb _ => hk b hb.1) fun b hb => ⟨by omega, by omega⟩⟩

theorem own_form {w : World} {B e size n : Nat} {v : Value} {xs : List Value} (h : w.ownsRow B e size v n xs) : ∃ A c, v = .slice A n c := by
  obtain ⟨_, h2⟩ := h
  rcases h2 with ⟨rfl, rfl⟩ | ⟨g', c, cur, rfl, _⟩
  · exact ⟨none, 0, rfl⟩
  · exact ⟨_, c, rfl⟩

theorem own_lt {w : World} {B e size n : Nat} {v : Value} {xs : List Value} (h : w.ownsRow B e size v n xs) (k : Nat) (hk : v.ownBlock = some k) : k < w.heap.size := by
  obtain ⟨_, h2⟩ := h
  rcases h2 with ⟨rfl, _⟩ | ⟨g', c, cur, rfl, _, hg, _⟩
  · simp [Value.ownBlock] at hk
  · simp [Value.ownBlock] at hk
    subst hk
    exact (Array.getElem?_eq_some_iff.1 hg).1

/-- The blocks that hold what was read so far: new ones, none of them the row of the kids. -/
def SN (g6 : Nat) (w : World) (kv : Value) : Nat → Prop := fun b => g6 < b ∧ kv.ownBlock ≠ some b ∧ b < w.heap.size

/-- One kid more. -/
theorem QT.more {wr w5 w7 w8 : World} {g g6 d : Nat} {kv v7 : Value} {qs : List Quad} {ks : List (Tm (d + 1))} {e0 e1 e2 e3 : Value} {t : Tm (d + 1)} {o : Obj} {B n e size : Nat} {xs : List Value} (hq : QT wr (SN g6 wr kv) (d + 1) qs ks) (tm : TM w5 (fun b => wr.heap.size ≤ b ∧ b < w5.heap.size) (d + 1) t e0 e1 e2 e3)
    (how : wr.ownsRow B e size kv n xs) (G5 : wr.grownBy w5 (some g)) (hg : g < g6) (h6 : g6 < wr.heap.size) (hg7 : (w5.alloc o).grownBy w7 kv.ownBlock) (h7 : v7.ownBlock = kv.ownBlock ∨ v7.ownBlock = some (w5.alloc o).heap.size)
    (hs : w7.heap.size = w8.heap.size) (hk : ∀ b, b ≠ g6 → w8.heap[b]? = w7.heap[b]?) : QT w8 (SN g6 w8 v7) (d + 1) (qs ++ [(e0, e1, e2, e3)]) (ks ++ [t]) := by
  have s5 := G5.size
  have s7 := hg7.size
  have sa : (w5.alloc o).heap.size = w5.heap.size + 1 := by simp
  have hkv := own_lt how
  refine QT.append ?_ ?_
  · refine hq.keepS (by omega) (fun b hb hlt => ?_) fun b hb => ?_
    · obtain ⟨b1, b2, b3⟩ := hb
      rw [hk b (by omega), hg7.block b (by omega) (fun e => b2 e.symm), Below.heap_alloc w5 o b (by omega), G5.block b hlt (by simp; omega)]
    · obtain ⟨b1, b2, b3⟩ := hb
      refine ⟨b1, ?_, by omega⟩
      rcases h7 with h | h
      · rw [h]; exact b2
      · rw [h]; simp; omega
  · refine (QT.one tm).keepS (by omega) (fun b hb hlt => ?_) fun b hb => ?_
    · have hne : kv.ownBlock ≠ some b := fun e => by have := hkv b e; omega
      rw [hk b (by omega), hg7.block b (by omega) (fun e => hne e.symm), Below.heap_alloc w5 o b (by omega)]
    · have hne : kv.ownBlock ≠ some b := fun e => by have := hkv b e; omega
      refine ⟨by omega, ?_, by omega⟩
      rcases h7 with h | h
      · rw [h]; exact hne
      · rw [h]; simp; omega
theorem BS.more {wr w5 w7 w8 : World} {g g6 : Nat} {kv v7 dv : Value} {dat : List UInt8} {o : Obj} (hb : BS wr (SN g6 wr kv) dv dat) (G5 : wr.grownBy w5 (some g)) (hg : g < g6) (hg7 : (w5.alloc o).grownBy w7 kv.ownBlock) (h7 : v7.ownBlock = kv.ownBlock ∨ v7.ownBlock = some (w5.alloc o).heap.size)
    (hs : w7.heap.size = w8.heap.size) (hk : ∀ b, b ≠ g6 → w8.heap[b]? = w7.heap[b]?) : BS w8 (SN g6 w8 v7) dv dat := by
  have s5 := G5.size
  have s7 := hg7.size
  have sa : (w5.alloc o).heap.size = w5.heap.size + 1 := by simp
  refine (hb.keep (w' := w8) (by omega) (fun b hb hlt => ?_)).mono fun b hb => ?_
  · obtain ⟨b1, b2, b3⟩ := hb
    rw [hk b (by omega), hg7.block b (by omega) (fun e => b2 e.symm), Below.heap_alloc w5 o b (by omega), G5.block b hlt (by simp; omega)]
  · obtain ⟨b1, b2, b3⟩ := hb
    refine ⟨b1, ?_, by omega⟩
    rcases h7 with h | h
    · rw [h]; exact b2
    · rw [h]; simp; omega

theorem grown_newX {a b c : World} {row row2 : Option Nat} (p : a.grownBy b row) (q : b.grownBy c row2) (hh : ∀ x, row2 = some x → a.heap.size ≤ x) : a.grownBy c row :=
  ⟨q.os.trans p.os, q.tape.trans p.tape, q.output.trans p.output, Nat.le_trans p.size q.size, fun k hk hr => (q.block k (Nat.lt_of_lt_of_le hk p.size) (fun e => by have := hh k e.symm; omega)).trans (p.block k hk hr)⟩

theorem sets_size (w : World) (g : Nat) (x y z u : Value) : w.heap.size = ((((w.setCell ⟨g, 0, none⟩ x).setCell ⟨g, 1, none⟩ y).setCell ⟨g, 2, none⟩ z).setCell ⟨g, 3, none⟩ u).heap.size := by simp [World.setCell]
theorem sets_block (w : World) (g b : Nat) (x y z u : Value) (h : b ≠ g) : ((((w.setCell ⟨g, 0, none⟩ x).setCell ⟨g, 1, none⟩ y).setCell ⟨g, 2, none⟩ z).setCell ⟨g, 3, none⟩ u).heap[b]? = w.heap[b]? :=
  (Below.heap_setCell _ ⟨g, 3, none⟩ u b h).trans ((Below.heap_setCell _ ⟨g, 2, none⟩ z b h).trans ((Below.heap_setCell _ ⟨g, 1, none⟩ y b h).trans (Below.heap_setCell w ⟨g, 0, none⟩ x b h)))

end Go.Proofs.YthgaljgelngmaaaDoor
end
