/-
  The document's reading of a term, over the loaded program: its contract. No condition but the sizes that it names.
-/
import Derived.Test.YtmepcdljobdigaaDoorTermK
import Derived.Test.YtmepcdljobdigaaDoorTermW
namespace Go.Proofs.YtmepcdljobdigaaDoor
open Go.RowKit
set_option linter.unusedVariables false

theorem readT_zero (st : Option (List UInt8)) : readT 0 st = (none, zeroN) := rfl
theorem readT_none (d : Nat) : readT d none = (none, zeroN) := by cases d <;> rfl
theorem readT_nil (d : Nat) : readT d (some []) = (none, zeroN) := by cases d <;> rfl
theorem readT_bad (d : Nat) (b : UInt8) (l : List UInt8) (h : kidsN (b.toNat : Int) < 0) : readT (d + 1) (some (b :: l)) = (none, zeroN) := by
  simp only [readT]; rw [if_pos h]
theorem readT_good (d : Nat) (b : UInt8) (l : List UInt8) (h : ¬ kidsN (b.toNat : Int) < 0) : readT (d + 1) (some (b :: l)) =
    ((readL (readT d) (kidsN (b.toNat : Int)).toNat (readD (b.toNat : Int) (readN (b.toNat : Int) (some l)).1).1).1,
      ⟨(b.toNat : Int), (readN (b.toNat : Int) (some l)).2, (readD (b.toNat : Int) (readN (b.toNat : Int) (some l)).1).2, (readL (readT d) (kidsN (b.toNat : Int)).toNat (readD (b.toNat : Int) (readN (b.toNat : Int) (some l)).1).1).2⟩) := by
  simp only [readT]; rw [if_neg h]

theorem passed_none : passed 1 none = (none, []) := rfl
theorem passed_nil : passed 1 (some []) = (none, []) := rfl
theorem passed_cons (b : UInt8) (l : List UInt8) : passed 1 (some (b :: l)) = (some l, [b]) := by
  unfold passed
  rw [if_neg (by simp; omega)]; rfl

theorem numOf_le (st : Option (List UInt8)) : ((numOf st).1.getD []).length ≤ (st.getD []).length := by
  unfold numOf
  split
  · split
    · simp
    · simp; omega
  · simp
theorem passed_le (n : Int) (st : Option (List UInt8)) : ((passed n st).1.getD []).length ≤ (st.getD []).length := by
  unfold passed
  split
  · simp
  · cases st <;> simp
theorem txtOf_le (m : Int) (st : Option (List UInt8)) : ((txtOf m st).1.getD []).length ≤ (st.getD []).length := by
  unfold txtOf
  refine Nat.le_trans (passed_le _ _) ?_
  unfold cntOf
  split
  · simp
  · exact numOf_le st
theorem readL_le {α : Type} {g : Option (List UInt8) → Option (List UInt8) × α} (h : ∀ st, ((g st).1.getD []).length ≤ (st.getD []).length) : ∀ (n : Nat) (st : Option (List UInt8)), ((readL g n st).1.getD []).length ≤ (st.getD []).length
  | 0, st => by rw [readL_zero]; exact Nat.le_refl _
  | n + 1, none => by rw [readL_none]; exact Nat.le_refl _
  | n + 1, some l => by
    rw [readL_some]
    exact Nat.le_trans (readL_le h n _) (h (some l))
theorem readT_le : ∀ (d : Nat) (st : Option (List UInt8)), ((readT d st).1.getD []).length ≤ (st.getD []).length
  | 0, st => by rw [readT_zero]; simp
  | d + 1, none => by rw [readT_none]; simp
  | d + 1, some [] => by rw [readT_nil]; simp
  | d + 1, some (b :: l) => by
    by_cases h : kidsN (b.toNat : Int) < 0
    · rw [readT_bad d b l h]; simp
    · rw [readT_good d b l h]
      refine Nat.le_trans (readL_le (readT_le d) _ _) ?_
      have h1 : ((readD (b.toNat : Int) (readN (b.toNat : Int) (some l)).1).1.getD []).length ≤ ((readN (b.toNat : Int) (some l)).1.getD []).length := by
        unfold readD
        split
        · exact txtOf_le _ _
        · exact Nat.le_refl _
      have h2 : ((readN (b.toNat : Int) (some l)).1.getD []).length ≤ ((some l : Option (List UInt8)).getD []).length := by
        unfold readN
        split
        · exact numOf_le _
        · exact Nat.le_refl _
      have h3 : ((some l : Option (List UInt8)).getD []).length ≤ ((some (b :: l) : Option (List UInt8)).getD []).length := by simp
      omega

theorem KS.restrict {α : Type} {w : World} {S : Nat → Prop} {E E' : α → Value → Value → Value → Value → Prop} {v : Value} {ks : List α} (h : KS w S E v ks) (he : ∀ t c0 c1 c2 c3, E t c0 c1 c2 c3 → E' t c0 c1 c2 c3) :
    KS w (fun b => S b ∧ b < w.heap.size) E' v ks := by
  obtain ⟨A, c, e, hl, hc, hn, hx⟩ := h
  refine ⟨A, c, e, hl, hc, hn, fun h0 => ?_⟩
  obtain ⟨b, o, ea, sb, hb, hx⟩ := hx h0
  refine ⟨b, o, ea, ⟨sb, hb⟩, hb, fun i t hi => ?_⟩
  obtain ⟨c0, c1, c2, c3, k0, k1, k2, k3, ke⟩ := hx i t hi
  exact ⟨c0, c1, c2, c3, k0, k1, k2, k3, he _ _ _ _ _ ke⟩
theorem TM.lt {w : World} {S : Nat → Prop} : ∀ (f : Nat) (t : Tm f) (c0 c1 c2 c3 : Value), TM w S f t c0 c1 c2 c3 → TM w (fun b => S b ∧ b < w.heap.size) f t c0 c1 c2 c3
  | 0, t, _, _, _, _, _ => nomatch t
  | f + 1, (t : Nd (Tm f)), c0, c1, c2, c3, h => by
    obtain ⟨h0, h1, h2, h3, h4, h5⟩ := h
    exact ⟨h0, h1, h2, h3, h4.lt, h5.restrict fun u d0 d1 d2 d3 hu => TM.lt f u d0 d1 d2 d3 hu⟩

/-- What was read, whole. -/
theorem read_TV {wr w' : World} {B g6 d : Nat} {k : Int} {n1 : Nat} {dat : List UInt8} {ks : List (Tm (d + 1))} {qs : List Quad} {kv dv : Value} (hI : I64 k) (hn : n1 < 18446744073709551616) (hbs : BS wr (fun b => g6 < b) dv dat)
    (how : wr.ownsRow (g6 + 1) 26 4 kv qs.length (flatQ qs)) (hq : QT wr (fun b => g6 < b) (d + 1) qs ks) (hB : B ≤ g6) (hs : wr.heap.size = w'.heap.size) (hk : ∀ b, g6 < b → w'.heap[b]? = wr.heap[b]?) :
    TV w' (fun b => B ≤ b ∧ b < w'.heap.size) (d + 1 + 1) (.agg #[.int .i64 k, .int .u64 (n1 : Int), dv, kv]) (⟨k, n1, dat, ks⟩ : Nd (Tm (d + 1))) := by
  have h : TM wr (fun b => g6 < b) (d + 1 + 1) (⟨k, n1, dat, ks⟩ : Nd (Tm (d + 1))) (.int .i64 k) (.int .u64 (n1 : Int)) dv kv := ⟨rfl, hI, rfl, hn, hbs, KS_of_own how hq fun b hb _ => hb⟩
  exact ⟨_, _, _, _, rfl, TM.keepS _ _ _ _ _ _ (TM.lt _ _ _ _ _ _ h) (Nat.le_of_eq hs) (fun b hb _ => hk b hb.1) fun b hb => ⟨by omega, by omega⟩⟩

theorem own_form {w : World} {B e size n : Nat} {v : Value} {xs : List Value} (h : w.ownsRow B e size v n xs) : ∃ A c, v = .slice A n c := by
  obtain ⟨_, h2⟩ := h
  rcases h2 with ⟨rfl, rfl⟩ | ⟨g', c, cur, rfl, _⟩
  · exact ⟨none, 0, rfl⟩
  · exact ⟨_, c, rfl⟩

theorem own_lt {w : World} {B e size n : Nat} {v : Value} {xs : List Value} (h : w.ownsRow B e size v n xs) (k : Nat) (hk : v.ownBlock = some k) : k < w.heap.size := by
  obtain ⟨_, h2⟩ := h
  rcases h2 with ⟨rfl, _⟩ | ⟨g', c, cur, rfl, _, hg, _⟩
  · simp [Value.ownBlock] at hk
  · simp [Value.ownBlock] at hk
    subst hk
    exact (Array.getElem?_eq_some_iff.1 hg).1

theorem RR.grownX {w w' : World} {g : Nat} {S : Nat → Prop} {st : Option (List UInt8)} {row : Option Nat} (r : RR w g S st) (hg : w.grownBy w' row) (h1 : row ≠ some g) (h2 : ∀ x, row = some x → ¬ S x) : RR w' g S st := by
  obtain ⟨v, l, k1, k2, k3, k4⟩ := r
  exact ⟨v, l, k1.grown hg h1, k2.grown hg h2, k3, k4⟩

/-- The blocks that hold what was read so far: new ones, none of them the row of the kids. -/
def SN (g6 : Nat) (w : World) (kv : Value) : Nat → Prop := fun b => g6 < b ∧ kv.ownBlock ≠ some b ∧ b < w.heap.size

/-- One kid more. -/
theorem QT.more {wr w5 w7 w8 : World} {g g6 d : Nat} {kv v7 : Value} {qs : List Quad} {ks : List (Tm (d + 1))} {e0 e1 e2 e3 : Value} {t : Tm (d + 1)} {o : Obj} {B n e size : Nat} {xs : List Value} (hq : QT wr (SN g6 wr kv) (d + 1) qs ks) (tm : TM w5 (fun b => wr.heap.size ≤ b ∧ b < w5.heap.size) (d + 1) t e0 e1 e2 e3)
    (how : wr.ownsRow B e size kv n xs) (G5 : wr.grownBy w5 (some g)) (hg : g < g6) (h6 : g6 < wr.heap.size) (hg7 : (w5.alloc o).grownBy w7 kv.ownBlock) (h7 : v7.ownBlock = kv.ownBlock ∨ v7.ownBlock = some (w5.alloc o).heap.size)
    (hs : w7.heap.size = w8.heap.size) (hk : ∀ b, b ≠ g6 → w8.heap[b]? = w7.heap[b]?) : QT w8 (SN g6 w8 v7) (d + 1) (qs ++ [(e0, e1, e2, e3)]) (ks ++ [t]) := by
  have s5 := G5.size
  have s7 := hg7.size
  have sa : (w5.alloc o).heap.size = w5.heap.size + 1 := by simp
  have hkv := own_lt how
  refine QT.append ?_ ?_
  · refine hq.keepS (by omega) (fun b hb hlt => ?_) fun b hb => ?_
    · obtain ⟨b1, b2, b3⟩ := hb
      rw [hk b (by omega), hg7.block b (by omega) (fun e => b2 e.symm), Below.heap_alloc w5 o b (by omega), G5.block b hlt (by simp; omega)]
    · obtain ⟨b1, b2, b3⟩ := hb
      refine ⟨b1, ?_, by omega⟩
      rcases h7 with h | h
      · rw [h]; exact b2
      · rw [h]; simp; omega
  · refine (QT.one tm).keepS (by omega) (fun b hb hlt => ?_) fun b hb => ?_
    · have hne : kv.ownBlock ≠ some b := fun e => by have := hkv b e; omega
      rw [hk b (by omega), hg7.block b (by omega) (fun e => hne e.symm), Below.heap_alloc w5 o b (by omega)]
    · have hne : kv.ownBlock ≠ some b := fun e => by have := hkv b e; omega
      refine ⟨by omega, ?_, by omega⟩
      rcases h7 with h | h
      · rw [h]; exact hne
      · rw [h]; simp; omega
theorem BS.more {wr w5 w7 w8 : World} {g g6 : Nat} {kv v7 dv : Value} {dat : List UInt8} {o : Obj} (hb : BS wr (SN g6 wr kv) dv dat) (G5 : wr.grownBy w5 (some g)) (hg : g < g6) (hg7 : (w5.alloc o).grownBy w7 kv.ownBlock) (h7 : v7.ownBlock = kv.ownBlock ∨ v7.ownBlock = some (w5.alloc o).heap.size)
    (hs : w7.heap.size = w8.heap.size) (hk : ∀ b, b ≠ g6 → w8.heap[b]? = w7.heap[b]?) : BS w8 (SN g6 w8 v7) dv dat := by
  have s5 := G5.size
  have s7 := hg7.size
  have sa : (w5.alloc o).heap.size = w5.heap.size + 1 := by simp
  refine (hb.keep (w' := w8) (by omega) (fun b hb hlt => ?_)).mono fun b hb => ?_
  · obtain ⟨b1, b2, b3⟩ := hb
    rw [hk b (by omega), hg7.block b (by omega) (fun e => b2 e.symm), Below.heap_alloc w5 o b (by omega), G5.block b hlt (by simp; omega)]
  · obtain ⟨b1, b2, b3⟩ := hb
    refine ⟨b1, ?_, by omega⟩
    rcases h7 with h | h
    · rw [h]; exact b2
    · rw [h]; simp; omega

theorem grown_newX {a b c : World} {row row2 : Option Nat} (p : a.grownBy b row) (q : b.grownBy c row2) (hh : ∀ x, row2 = some x → a.heap.size ≤ x) : a.grownBy c row :=
  ⟨q.os.trans p.os, q.tape.trans p.tape, q.output.trans p.output, Nat.le_trans p.size q.size, fun k hk hr => (q.block k (Nat.lt_of_lt_of_le hk p.size) (fun e => by have := hh k e.symm; omega)).trans (p.block k hk hr)⟩

theorem sets_size (w : World) (g : Nat) (x y z u : Value) : w.heap.size = ((((w.setCell ⟨g, 0, none⟩ x).setCell ⟨g, 1, none⟩ y).setCell ⟨g, 2, none⟩ z).setCell ⟨g, 3, none⟩ u).heap.size := by simp [World.setCell]
theorem sets_block (w : World) (g b : Nat) (x y z u : Value) (h : b ≠ g) : ((((w.setCell ⟨g, 0, none⟩ x).setCell ⟨g, 1, none⟩ y).setCell ⟨g, 2, none⟩ z).setCell ⟨g, 3, none⟩ u).heap[b]? = w.heap[b]? :=
  (Below.heap_setCell _ ⟨g, 3, none⟩ u b h).trans ((Below.heap_setCell _ ⟨g, 2, none⟩ z b h).trans ((Below.heap_setCell _ ⟨g, 1, none⟩ y b h).trans (Below.heap_setCell w ⟨g, 0, none⟩ x b h)))

set_option maxHeartbeats 2000000 in
theorem rread_any (S : Nat → Prop) : ∀ (d : Nat) (g : Nat) (st : Option (List UInt8)) (w : World), RR w g S st → (∀ b, S b → b < w.heap.size) → (st.getD []).length ≤ 1000000 → d ≤ 1000000 →
    Calls Tryd.prog 45 #[.pointer (some ⟨g, 0, none⟩), .int .i64 d] w (ReadPost w g S d st) := by
  intro d
  induction d with
  | zero =>
    intro g st w h hS hlen hd
    rcases st with _ | _ | ⟨b, l⟩
    · exact read_fails S 0 g none none [] w h hS (by simp) hd passed_none (readT_zero _) (.inl rfl)
    · exact read_fails S 0 g (some []) none [] w h hS (by simp) hd passed_nil (readT_zero _) (.inl rfl)
    · exact read_fails S 0 g _ (some l) [b] w h hS (by omega) hd (passed_cons b l) (readT_zero _) (.inr ⟨l, b, rfl, rfl, .inl rfl⟩)
  | succ d ih =>
    intro g st w h hS hlen hd
    rcases st with _ | _ | ⟨b, l⟩
    · exact read_fails S (d + 1) g none none [] w h hS (by simp) hd passed_none (readT_none _) (.inl rfl)
    · exact read_fails S (d + 1) g (some []) none [] w h hS (by simp) hd passed_nil (readT_nil _) (.inl rfl)
    by_cases hkb : kidsN (b.toNat : Int) < 0
    · exact read_fails S (d + 1) g _ (some l) [b] w h hS (by omega) hd (passed_cons b l) (readT_bad d b l hkb) (.inr ⟨l, b, rfl, rfl, .inr ⟨by omega, hkb⟩⟩)
    have hL := hlen
    have hg := h.lt
    unfold ReadPost
    rw [readT_good d b l hkb]
    have hu := b.toNat_lt
    have K := KB.new w 26 #[.int .i64 0, .int .u64 0, .slice none 0 0, .slice none 0 0]
    have G := grown_of_below ((Below.refl w.heap.size w).alloc (Nat.le_refl _) (.cells #[.int .i64 0, .int .u64 0, .slice none 0 0, .slice none 0 0] 26)) (some g)
    have ht := rtake_to 1 g S _ _ (some l) [b] (h.alloc (.cells #[.int .i64 0, .int .u64 0, .slice none 0 0, .slice none 0 0] 26)) (by omega) (passed_cons b l)
    have hkid := kids_any (b.toNat : Int)
    have hnum := number_any (b.toNat : Int)
    have W2 : wrap64 (b.toNat : Int) = (b.toNat : Int) := IntWalk.wrap64_in _ (by omega)
    have g1 : decide (((d + 1 : Nat) : Int) < 1) = false := decide_eq_false (by omega)
    have g2 := decide_eq_false hkb
    have hne : ¬ w.heap.size = g := by omega
    have hne2 : ¬ g = w.heap.size := by omega
    have h3N : (b.toNat : Int) = 3 → numK (b.toNat : Int) = false := fun h => by rw [h]; rfl
    have hkk : (kidsN (b.toNat : Int)).toNat ≤ 2 := by have := kidsN_le (b.toNat : Int); omega
    have hkn : ((kidsN (b.toNat : Int)).toNat : Int) = kidsN (b.toNat : Int) := by omega
    have hI : I64 (b.toNat : Int) := by unfold I64; omega
    generalize hk : (b.toNat : Int) = k at *
    generalize kidsN k = Kn at *
    unfold readN
    generalize numK k = N at *
    cases N with
    | true =>
      have hk3 : ¬ k = 3 := fun h => by have := h3N h; cases this
      have g3 : (k == 3) = false := beq_eq_false_iff_ne.2 hk3
      have hn := numOf_lt (some l)
      rw [if_pos rfl]
      unfold readD
      rw [if_neg hk3]
      clear h3N
      have hrn := fun (w2 : World) (R2 : RR w2 g S (some l)) => rnum_rd g S (some l) w2 R2 (by simp at hL ⊢; omega)
      have hnl := numOf_le (some l)
      have hnlt := numOf_lt (some l)
      generalize numOf (some l) = nn at *
      obtain ⟨s0, n1⟩ := nn
      simp only at hrn hnl hnlt ⊢
      have hsl0 : (s0.getD []).length ≤ 1000000 := by simp at hL hnl; omega
      obtain ⟨RL, hRL⟩ : ∃ RL, RL = readL (readT d) Kn.toNat s0 := ⟨_, rfl⟩
      have HS0 : Hid (Sofar (readT d) RL (Kn.toNat - 0) s0 []) := by show Sofar _ _ _ _ _; rw [hRL]; exact Sofar.start _ _ _
      rw [← hRL]
      obtain ⟨dat, hdat⟩ : ∃ dat : List UInt8, dat = [] := ⟨_, rfl⟩
      rw [← hdat]
      have hbs0 := fun (w : World) (S : Nat → Prop) => (by rw [hdat]; exact BS.nil w S : BS w S (.slice none 0 0) dat)
      clear hdat hRL hnl
      go_enter Tryd.func45, Tryd.ntmps45
      go_wp2_with fail
      refine ht.mono ?_
      rintro e w1 ⟨A, c, rfl, hr1, hb1, hg1⟩
      have K1 := K.grown hg1 (by simp; omega)
      have G1 := grown_trans G hg1
      obtain ⟨q1, q2⟩ := hr1.good
      have hbyte : ∃ bb oo, A = some ⟨bb, oo, none⟩ ∧ w1.cell? ⟨bb, oo, none⟩ = some (.int .u8 (b.toNat : Int)) := by
        obtain ⟨bb, oo, e1, _, _, hx⟩ := hb1.at_ (by simp)
        exact ⟨bb, oo, e1, by have := hx 0 b rfl; simpa using this⟩
      obtain ⟨bb, oo, rfl, hcell⟩ := hbyte
      clear ht K G hb1
      go_wp2_with fail
      refine (hkid _).mono ?_
      rintro e w' ⟨rfl, rfl⟩
      have hw1 : w.heap.size + 1 ≤ w1.heap.size := by have := hg1.size; simpa using this
      have K6 := KB.new w1 26 #[.int .i64 k, .int .u64 0, .slice none 0 0, .slice none 0 0]
      have K4 := K1.alloc (.cells #[.int .i64 k, .int .u64 0, .slice none 0 0, .slice none 0 0] 26)
      have R2 := hr1.alloc (.cells #[.int .i64 k, .int .u64 0, .slice none 0 0, .slice none 0 0] 26)
      have G2 := grown_trans G1 (grown_of_below ((Below.refl w1.heap.size w1).alloc (Nat.le_refl _) (.cells #[.int .i64 k, .int .u64 0, .slice none 0 0, .slice none 0 0] 26)) (some g))
      clear K1 hr1 G1
      go_wp2_with fail
      refine (hnum _).mono ?_
      rintro e w' ⟨rfl, rfl⟩
      generalize hw2 : w1.alloc (.cells #[.int .i64 k, .int .u64 0, .slice none 0 0, .slice none 0 0] 26) = w2 at *
      clear hw2 q1 q2 hcell
      have p0 : w2.cell? ⟨w1.heap.size, 0, none⟩ = some (.int .i64 k) := K6.cell 0
      go_wp2_with fail
      refine (hrn _ R2).mono ?_
      rintro e w3 ⟨rfl, R3, G3⟩
      have K6b := K6.grown G3 (by simp; omega)
      have K4b := K4.grown G3 (by simp; omega)
      have G4 := grown_trans G2 G3
      have p1 : w3.cell? ⟨w1.heap.size, 1, none⟩ = some (.int .u64 0) := K6b.cell 1
      have f1 := K6b.free 1
      have K6c := K6b.put 1 (.int .u64 n1)
      have K4c := K4b.far (h := w1.heap.size) (i := 1) (v := .int .u64 n1) (by omega)
      have R4 := R3.far (h := w1.heap.size) (i := 1) (u := .int .u64 n1) (by omega) (fun h => by have := hS _ h; omega)
      have G5 := grown_new G4 (grown_set w3 w1.heap.size 1 (.int .u64 n1)) (by omega)
      have p0' : (w3.setCell ⟨w1.heap.size, 1, none⟩ (.int .u64 n1)).cell? ⟨w1.heap.size, 0, none⟩ = some (.int .i64 k) := K6c.cell 0
      clear hrn K6 K4 R2 G2 G3 p0 K6b K4b R3 G4
      go_wp2_with fail
      go_loopw [7] (fun iv wr => ∃ (j : Nat) (sj : Option (List UInt8)) (qs : List Quad) (ks : List (Tm (d + 1))) (kv : Value), j ≤ Kn.toNat ∧ ks.length = j ∧ Hid (Sofar (readT d) RL (Kn.toNat - j) sj ks) ∧ (sj.getD []).length ≤ 1000000 ∧ iv = .int .i64 j ∧ RR wr g S sj ∧
        KB wr w.heap.size 26 #[.int .i64 0, .int .u64 0, .slice none 0 0, .slice none 0 0] ∧ KB wr w1.heap.size 26 #[.int .i64 k, .int .u64 n1, .slice none 0 0, kv] ∧ wr.ownsRow (w1.heap.size + 1) 26 4 kv qs.length (flatQ qs) ∧ QT wr (SN w1.heap.size wr kv) (d + 1) qs ks ∧ BS wr (SN w1.heap.size wr kv) (.slice none 0 0) dat ∧ w.grownBy wr (some g)) (fun iv _ => Kn.toNat - (intOf iv).toNat)
      case atStart => exact ⟨0, s0, [], [], .slice none 0 0, by omega, rfl, HS0, hsl0, rfl, R4, K4c, K6c, World.ownsRow_nil _ _ _ _, QT.nil _ _ _, hbs0 _ _, G5⟩
      case round =>
        obtain ⟨j, sj, qs, ks, kv, hj, hkl, hso, hsl, rfl, R, L4, L6, how, hq, hbs, G⟩ := hrel
        obtain ⟨A3, c3v, rfl⟩ := own_form how
        have p0 : wr.cell? ⟨w1.heap.size, 0, none⟩ = some (.int .i64 k) := L6.cell 0
        have done : (Kn.toNat - j = 0 ∨ sj = none) → RL = (sj, ks) := fun he => hso.out.done he
        cases sj with
        | none =>
          have hr := done (.inr rfl)
          clear done hso
          subst hr
          obtain ⟨q1, q2⟩ := R.bad
          by_cases hlt : j < Kn.toNat
          · have hlt' : (j : Int) < Kn := by omega
            have c60 : wr.cell? ⟨w1.heap.size, 0, none⟩ = some (.int .i64 k) := L6.cell 0
            have c61 : wr.cell? ⟨w1.heap.size, 1, none⟩ = some (.int .u64 n1) := L6.cell 1
            have c62 : wr.cell? ⟨w1.heap.size, 2, none⟩ = some (.slice none 0 0) := L6.cell 2
            have c63 : wr.cell? ⟨w1.heap.size, 3, none⟩ = some (.slice A3 qs.length c3v) := L6.cell 3
            have c40 : wr.cell? ⟨w.heap.size, 0, none⟩ = some (.int .i64 0) := L4.cell 0
            have c41 : wr.cell? ⟨w.heap.size, 1, none⟩ = some (.int .u64 0) := L4.cell 1
            have c42 : wr.cell? ⟨w.heap.size, 2, none⟩ = some (.slice none 0 0) := L4.cell 2
            have c43 : wr.cell? ⟨w.heap.size, 3, none⟩ = some (.slice none 0 0) := L4.cell 3
            have f40 := L4.free 0
            have f41 := L4.free 1
            have f42 := L4.free 2
            have f43 := L4.free 3
            have hSg : ¬ S w.heap.size := fun h => Nat.lt_irrefl _ (hS _ h)
            go_wp2_with fail
            refine (hkid _).mono ?_
            rintro e w' ⟨rfl, rfl⟩
            go_wp2_with fail
            refine bodyPost_ret (results_cell_row (P := Tryd.prog) rfl _ _ w.heap.size _ _ (0, 0) _ rfl (put_four L4) Tryd.underlying26 rfl (by kernel_rfl)) rfl
              ⟨_, rfl, (((R.far hne hSg).far hne hSg).far hne hSg).far hne hSg, read_TV hI hnlt (hbs.mono fun b h => h.1) how (hq.mono fun b h => h.1) (by omega) (sets_size _ _ _ _ _ _) (fun b hb => sets_block _ _ _ _ _ _ _ (by omega)), grown_new G (grown_four _ _ _ _ _ _) (Nat.le_refl _)⟩
          · have hlt' : ¬ (j : Int) < Kn := by omega
            have c60 : wr.cell? ⟨w1.heap.size, 0, none⟩ = some (.int .i64 k) := L6.cell 0
            have c61 : wr.cell? ⟨w1.heap.size, 1, none⟩ = some (.int .u64 n1) := L6.cell 1
            have c62 : wr.cell? ⟨w1.heap.size, 2, none⟩ = some (.slice none 0 0) := L6.cell 2
            have c63 : wr.cell? ⟨w1.heap.size, 3, none⟩ = some (.slice A3 qs.length c3v) := L6.cell 3
            have c40 : wr.cell? ⟨w.heap.size, 0, none⟩ = some (.int .i64 0) := L4.cell 0
            have c41 : wr.cell? ⟨w.heap.size, 1, none⟩ = some (.int .u64 0) := L4.cell 1
            have c42 : wr.cell? ⟨w.heap.size, 2, none⟩ = some (.slice none 0 0) := L4.cell 2
            have c43 : wr.cell? ⟨w.heap.size, 3, none⟩ = some (.slice none 0 0) := L4.cell 3
            have f40 := L4.free 0
            have f41 := L4.free 1
            have f42 := L4.free 2
            have f43 := L4.free 3
            have hSg : ¬ S w.heap.size := fun h => Nat.lt_irrefl _ (hS _ h)
            go_wp2_with fail
            refine (hkid _).mono ?_
            rintro e w' ⟨rfl, rfl⟩
            go_wp2_with fail
            refine bodyPost_ret (results_cell_row (P := Tryd.prog) rfl _ _ w.heap.size _ _ (0, 0) _ rfl (put_four L4) Tryd.underlying26 rfl (by kernel_rfl)) rfl
              ⟨_, rfl, (((R.far hne hSg).far hne hSg).far hne hSg).far hne hSg, read_TV hI hnlt (hbs.mono fun b h => h.1) how (hq.mono fun b h => h.1) (by omega) (sets_size _ _ _ _ _ _) (fun b hb => sets_block _ _ _ _ _ _ _ (by omega)), grown_new G (grown_four _ _ _ _ _ _) (Nat.le_refl _)⟩
        | some lj =>
          obtain ⟨q1, q2⟩ := R.good
          by_cases hlt : j < Kn.toNat
          · have hlt' : (j : Int) < Kn := by omega
            have hso2 : Sofar (readT d) RL (Kn.toNat - (j + 1) + 1) (some lj) ks := by
              have := hso.out
              rwa [show Kn.toNat - j = Kn.toNat - (j + 1) + 1 by omega] at this
            have HS2 := Lib.hid hso2.step
            have hls := Nat.le_trans (readT_le d (some lj)) hsl
            have hc := ih g (some lj) wr.drew R (fun b hb => by have := hS b hb; have := G.size; exact Nat.lt_of_lt_of_le (hS b hb) G.size) hsl (by omega)
            unfold ReadPost at hc
            clear done hso hso2 hsl
            generalize readT d (some lj) = RT at *
            have R' : RR wr.drew g S (some lj) := R
            have L4' : KB wr.drew w.heap.size 26 #[.int .i64 0, .int .u64 0, .slice none 0 0, .slice none 0 0] := L4
            have L6' : KB wr.drew w1.heap.size 26 #[.int .i64 k, .int .u64 n1, .slice none 0 0, .slice A3 qs.length c3v] := L6
            have how' : wr.drew.ownsRow (w1.heap.size + 1) 26 4 (.slice A3 qs.length c3v) qs.length (flatQ qs) := how
            have hq' : QT wr.drew (SN w1.heap.size wr.drew (.slice A3 qs.length c3v)) (d + 1) qs ks := hq.keepS (Nat.le_refl _) (fun _ _ _ => rfl) fun _ h => h
            have hbs' : BS wr.drew (SN w1.heap.size wr.drew (.slice A3 qs.length c3v)) (.slice none 0 0) dat := hbs
            have HLq : Hid (qs.length + 1 ≤ 1000000000) := by have := hq.1; show _ ≤ _; omega
            have hg6 : g < w1.heap.size := by omega
            have G' : w.grownBy wr.drew (some g) := ⟨G.os, G.tape, G.output, G.size, G.block⟩
            have c3 : wr.cell? ⟨w1.heap.size, 3, none⟩ = some (.slice A3 qs.length c3v) := L6.cell 3
            have f3 := L6.free 3
            have WW : IntKind.i64.wrap (((d : Int) + 1) - 1) = (d : Int) := by rw [show ((d : Int) + 1) - 1 = d by omega]; simp [IntKind.wrap, IntKind.bits, IntKind.signed]; omega
            have WV : IntKind.i64.wrap (d : Int) = (d : Int) := by simp [IntKind.wrap, IntKind.bits, IntKind.signed]; omega
            clear R L4 L6 how hq hbs G
            go_wp2_with fail
            refine (hkid _).mono ?_
            rintro e w' ⟨rfl, rfl⟩
            go_wp2_with fail
            go_region_law
              (first
                | (go_simp; go_at_call 45; refine hc.mono ?_; rintro e w5 ⟨v5, rfl, R5, tv5, G5⟩; obtain ⟨e0, e1, e2, e3, rfl, tm5⟩ := tv5; have L6a := L6'.grown G5 (by simp; omega); have how5 := own_grown how' G5 (by omega); have how6 := own_past ((Below.refl _ _).alloc (Nat.le_refl _) (.cells #[e0, e1, e2, e3] 26)) how5; have hone := (QT.one tm5).cells1; have hsz : w1.heap.size + 1 ≤ (w5.alloc (.cells #[e0, e1, e2, e3] 26)).heap.size := (by have := L6a.lt; simp; omega); clear c3 f3 how5; have ca : (w5.alloc (.cells #[e0, e1, e2, e3] 26)).cell? ⟨w1.heap.size, 3, none⟩ = some (.slice A3 qs.length c3v) := (L6a.alloc (.cells #[e0, e1, e2, e3] 26)).cell 3; have c3 : w5.cell? ⟨w1.heap.size, 3, none⟩ = some (.slice A3 qs.length c3v) := L6a.cell 3; have f3 := L6a.free 3)
                | (refine step_growT rfl _ _ rfl (w1.heap.size + 1) _ qs rfl how6 _ 1 [(e0, e1, e2, e3)] rfl (At_new w5 (e0, e1, e2, e3)) hone HLq.out hsz ?_; intro v7 w7 how7 hg7 h7; obtain ⟨qq, hqq⟩ : ∃ qq, qq = qs ++ [(e0, e1, e2, e3)] := ⟨_, rfl⟩; rw [← hqq] at how7; have HQQ := Lib.hid hqq; clear hqq; have L6b := (L6a.alloc (.cells #[e0, e1, e2, e3] 26)).grown hg7 (own_ne how6 (Nat.lt_succ_self w1.heap.size)); obtain ⟨A7, c7, rfl⟩ := own_form how7; clear c3 f3; have c3 : w7.cell? ⟨w1.heap.size, 3, none⟩ = some (.slice A3 qs.length c3v) := L6b.cell 3; have f3 := L6b.free 3))
            all_goals
              have h6 : w1.heap.size < wr.drew.heap.size := L6'.lt
              have L6f := L6b.put 3 (.slice A7 qq.length c7)
              have L4f := (((L4'.grown G5 (by simp; omega)).alloc (.cells #[e0, e1, e2, e3] 26)).grown hg7 (own_ne how6 (by omega))).far (h := w1.heap.size) (i := 3) (v := (.slice A7 qq.length c7)) (by omega)
              have Rf := ((R5.alloc (.cells #[e0, e1, e2, e3] 26)).grownX hg7 (own_ne how6 (by omega)) (fun x hx hSx => by have := own_ge how6 x hx; have := hS x hSx; omega)).far (h := w1.heap.size) (i := 3) (u := (.slice A7 qq.length c7)) (by omega) (fun hSx => by have := hS _ hSx; omega)
              have howf := own_grown how7 (grown_set w7 w1.heap.size 3 (.slice A7 qq.length c7)) (Nat.lt_succ_self _)
              have hsz8 : w7.heap.size = (w7.setCell ⟨w1.heap.size, 3, none⟩ (.slice A7 qq.length c7)).heap.size := by simp [World.setCell]
              have hbl8 : ∀ x, x ≠ w1.heap.size → (w7.setCell ⟨w1.heap.size, 3, none⟩ (.slice A7 qq.length c7)).heap[x]? = w7.heap[x]? := fun x hx => Below.heap_setCell w7 ⟨w1.heap.size, 3, none⟩ (.slice A7 qq.length c7) x hx
              have hqf := QT.more hq' tm5 how' G5 hg6 h6 hg7 h7 hsz8 hbl8
              rw [← HQQ.out] at hqf
              have hbsf := BS.more hbs' G5 hg6 hg7 h7 hsz8 hbl8
              have Gf := grown_new (grown_newX (grown_trans (grown_trans G' G5) (grown_of_below ((Below.refl w5.heap.size w5).alloc (Nat.le_refl _) (.cells #[e0, e1, e2, e3] 26)) (some g))) hg7 (fun x hx => by have := own_ge how6 x hx; omega)) (grown_set w7 w1.heap.size 3 (.slice A7 qq.length c7)) (by omega)
              clear hq' hbs' how' how6 how7 hsz8 hbl8 tm5 hg7 h7 hone hsz ca c3 f3 L6a L6b L4' L6' R' R5 G5 G' hc ih
              go_wp2
              go_roundw
              case rel => exact ⟨j + 1, RT.1, qq, ks ++ ([RT.2] : List (Tm (d + 1))), (.slice A7 qq.length c7), by omega, by rw [List.length_append, hkl]; rfl, HS2, hls, by go_num, Rf, L4f, L6f, howf, hqf, hbsf, Gf⟩
              case measure => simp [intOf]; omega
          · have hlt' : ¬ (j : Int) < Kn := by omega
            have hr := done (.inl (by omega))
            clear done hso
            subst hr
            have c60 : wr.cell? ⟨w1.heap.size, 0, none⟩ = some (.int .i64 k) := L6.cell 0
            have c61 : wr.cell? ⟨w1.heap.size, 1, none⟩ = some (.int .u64 n1) := L6.cell 1
            have c62 : wr.cell? ⟨w1.heap.size, 2, none⟩ = some (.slice none 0 0) := L6.cell 2
            have c63 : wr.cell? ⟨w1.heap.size, 3, none⟩ = some (.slice A3 qs.length c3v) := L6.cell 3
            have c40 : wr.cell? ⟨w.heap.size, 0, none⟩ = some (.int .i64 0) := L4.cell 0
            have c41 : wr.cell? ⟨w.heap.size, 1, none⟩ = some (.int .u64 0) := L4.cell 1
            have c42 : wr.cell? ⟨w.heap.size, 2, none⟩ = some (.slice none 0 0) := L4.cell 2
            have c43 : wr.cell? ⟨w.heap.size, 3, none⟩ = some (.slice none 0 0) := L4.cell 3
            have f40 := L4.free 0
            have f41 := L4.free 1
            have f42 := L4.free 2
            have f43 := L4.free 3
            have hSg : ¬ S w.heap.size := fun h => Nat.lt_irrefl _ (hS _ h)
            go_wp2_with fail
            refine (hkid _).mono ?_
            rintro e w' ⟨rfl, rfl⟩
            go_wp2_with fail
            refine bodyPost_ret (results_cell_row (P := Tryd.prog) rfl _ _ w.heap.size _ _ (0, 0) _ rfl (put_four L4) Tryd.underlying26 rfl (by kernel_rfl)) rfl
              ⟨_, rfl, (((R.far hne hSg).far hne hSg).far hne hSg).far hne hSg, read_TV hI hnlt (hbs.mono fun b h => h.1) how (hq.mono fun b h => h.1) (by omega) (sets_size _ _ _ _ _ _) (fun b hb => sets_block _ _ _ _ _ _ _ (by omega)), grown_new G (grown_four _ _ _ _ _ _) (Nat.le_refl _)⟩
    | false =>
      rw [if_neg (by simp)]
      unfold readD
      have hnlt : (0 : Nat) < 18446744073709551616 := by omega
      by_cases hk3 : k = 3
      · rw [if_pos hk3]
        have g3 : (k == 3) = true := beq_iff_eq.2 hk3
        clear h3N hk3
        have hrt := fun (w2 : World) (R2 : RR w2 g S (some l)) => rtext 100 (by omega) g S (some l) w2 R2 (by simp at hL ⊢; omega)
        have hnl := txtOf_le 100 (some l)
        simp only at hrt hnl ⊢
        generalize txtOf 100 (some l) = nn at *
        obtain ⟨s0, dat⟩ := nn
        simp only at hrt hnl ⊢
        have hsl0 : (s0.getD []).length ≤ 1000000 := by simp at hL hnl; omega
        obtain ⟨RL, hRL⟩ : ∃ RL, RL = readL (readT d) Kn.toNat s0 := ⟨_, rfl⟩
        have HS0 : Hid (Sofar (readT d) RL (Kn.toNat - 0) s0 []) := by show Sofar _ _ _ _ _; rw [hRL]; exact Sofar.start _ _ _
        rw [← hRL]
        clear hRL hnl
        go_enter Tryd.func45, Tryd.ntmps45
        go_wp2_with fail
        refine ht.mono ?_
        rintro e w1 ⟨A, c, rfl, hr1, hb1, hg1⟩
        have K1 := K.grown hg1 (by simp; omega)
        have G1 := grown_trans G hg1
        obtain ⟨q1, q2⟩ := hr1.good
        have hbyte : ∃ bb oo, A = some ⟨bb, oo, none⟩ ∧ w1.cell? ⟨bb, oo, none⟩ = some (.int .u8 (b.toNat : Int)) := by
          obtain ⟨bb, oo, e1, _, _, hx⟩ := hb1.at_ (by simp)
          exact ⟨bb, oo, e1, by have := hx 0 b rfl; simpa using this⟩
        obtain ⟨bb, oo, rfl, hcell⟩ := hbyte
        clear ht K G hb1
        go_wp2_with fail
        refine (hkid _).mono ?_
        rintro e w' ⟨rfl, rfl⟩
        have hw1 : w.heap.size + 1 ≤ w1.heap.size := by have := hg1.size; simpa using this
        have K6 := KB.new w1 26 #[.int .i64 k, .int .u64 0, .slice none 0 0, .slice none 0 0]
        have K4 := K1.alloc (.cells #[.int .i64 k, .int .u64 0, .slice none 0 0, .slice none 0 0] 26)
        have R2 := hr1.alloc (.cells #[.int .i64 k, .int .u64 0, .slice none 0 0, .slice none 0 0] 26)
        have G2 := grown_trans G1 (grown_of_below ((Below.refl w1.heap.size w1).alloc (Nat.le_refl _) (.cells #[.int .i64 k, .int .u64 0, .slice none 0 0, .slice none 0 0] 26)) (some g))
        clear K1 hr1 G1
        go_wp2_with fail
        refine (hnum _).mono ?_
        rintro e w' ⟨rfl, rfl⟩
        generalize hw2 : w1.alloc (.cells #[.int .i64 k, .int .u64 0, .slice none 0 0, .slice none 0 0] 26) = w2 at *
        clear hw2 q1 q2 hcell
        have p0 : w2.cell? ⟨w1.heap.size, 0, none⟩ = some (.int .i64 k) := K6.cell 0
        go_wp2_with fail
        refine (hrt _ R2).mono ?_
        rintro e w3 ⟨v3, rfl, R3, hb3, G3⟩
        obtain ⟨A2, c2, rfl, _⟩ := hb3.form
        have hw2 : w1.heap.size < w2.heap.size := K6.lt
        have K6b := K6.grown G3 (by simp; omega)
        have K4b := K4.grown G3 (by simp; omega)
        have G4 := grown_trans G2 G3
        have p2 : w3.cell? ⟨w1.heap.size, 2, none⟩ = some (.slice none 0 0) := K6b.cell 2
        have f2 := K6b.free 2
        have K6c := K6b.put 2 (.slice A2 dat.length c2)
        have K4c := K4b.far (h := w1.heap.size) (i := 2) (v := .slice A2 dat.length c2) (by omega)
        have R4 := R3.far (h := w1.heap.size) (i := 2) (u := .slice A2 dat.length c2) (by omega) (fun h => by have := hS _ h; omega)
        have G5 := grown_new G4 (grown_set w3 w1.heap.size 2 (.slice A2 dat.length c2)) (by omega)
        have hbx : BS (w3.setCell ⟨w1.heap.size, 2, none⟩ (.slice A2 dat.length c2)) (SN w1.heap.size (w3.setCell ⟨w1.heap.size, 2, none⟩ (.slice A2 dat.length c2)) (.slice none 0 0)) (.slice A2 dat.length c2) dat :=
          (hb3.setCell (p := ⟨w1.heap.size, 2, none⟩) (by show ¬ w2.heap.size ≤ w1.heap.size; omega) (.slice A2 dat.length c2)).lt.mono fun b hb => ⟨by have := hb.1; omega, by simp [Value.ownBlock], hb.2⟩
        have p0' : (w3.setCell ⟨w1.heap.size, 2, none⟩ (.slice A2 dat.length c2)).cell? ⟨w1.heap.size, 0, none⟩ = some (.int .i64 k) := K6c.cell 0
        clear hrt K6 K4 R2 G2 G3 p0 K6b K4b R3 G4 hb3
        go_wp2_with fail
        go_loopw [7] (fun iv wr => ∃ (j : Nat) (sj : Option (List UInt8)) (qs : List Quad) (ks : List (Tm (d + 1))) (kv : Value), j ≤ Kn.toNat ∧ ks.length = j ∧ Hid (Sofar (readT d) RL (Kn.toNat - j) sj ks) ∧ (sj.getD []).length ≤ 1000000 ∧ iv = .int .i64 j ∧ RR wr g S sj ∧
          KB wr w.heap.size 26 #[.int .i64 0, .int .u64 0, .slice none 0 0, .slice none 0 0] ∧ KB wr w1.heap.size 26 #[.int .i64 k, .int .u64 0, .slice A2 dat.length c2, kv] ∧ wr.ownsRow (w1.heap.size + 1) 26 4 kv qs.length (flatQ qs) ∧ QT wr (SN w1.heap.size wr kv) (d + 1) qs ks ∧ BS wr (SN w1.heap.size wr kv) (.slice A2 dat.length c2) dat ∧ w.grownBy wr (some g)) (fun iv _ => Kn.toNat - (intOf iv).toNat)
        case atStart => exact ⟨0, s0, [], [], .slice none 0 0, by omega, rfl, HS0, hsl0, rfl, R4, K4c, K6c, World.ownsRow_nil _ _ _ _, QT.nil _ _ _, hbx, G5⟩
        case round =>
          obtain ⟨j, sj, qs, ks, kv, hj, hkl, hso, hsl, rfl, R, L4, L6, how, hq, hbs, G⟩ := hrel
          obtain ⟨A3, c3v, rfl⟩ := own_form how
          have p0 : wr.cell? ⟨w1.heap.size, 0, none⟩ = some (.int .i64 k) := L6.cell 0
          have done : (Kn.toNat - j = 0 ∨ sj = none) → RL = (sj, ks) := fun he => hso.out.done he
          cases sj with
          | none =>
            have hr := done (.inr rfl)
            clear done hso
            subst hr
            obtain ⟨q1, q2⟩ := R.bad
            by_cases hlt : j < Kn.toNat
            · have hlt' : (j : Int) < Kn := by omega
              have c60 : wr.cell? ⟨w1.heap.size, 0, none⟩ = some (.int .i64 k) := L6.cell 0
              have c61 : wr.cell? ⟨w1.heap.size, 1, none⟩ = some (.int .u64 0) := L6.cell 1
              have c62 : wr.cell? ⟨w1.heap.size, 2, none⟩ = some (.slice A2 dat.length c2) := L6.cell 2
              have c63 : wr.cell? ⟨w1.heap.size, 3, none⟩ = some (.slice A3 qs.length c3v) := L6.cell 3
              have c40 : wr.cell? ⟨w.heap.size, 0, none⟩ = some (.int .i64 0) := L4.cell 0
              have c41 : wr.cell? ⟨w.heap.size, 1, none⟩ = some (.int .u64 0) := L4.cell 1
              have c42 : wr.cell? ⟨w.heap.size, 2, none⟩ = some (.slice none 0 0) := L4.cell 2
              have c43 : wr.cell? ⟨w.heap.size, 3, none⟩ = some (.slice none 0 0) := L4.cell 3
              have f40 := L4.free 0
              have f41 := L4.free 1
              have f42 := L4.free 2
              have f43 := L4.free 3
              have hSg : ¬ S w.heap.size := fun h => Nat.lt_irrefl _ (hS _ h)
              go_wp2_with fail
              refine (hkid _).mono ?_
              rintro e w' ⟨rfl, rfl⟩
              go_wp2_with fail
              refine bodyPost_ret (results_cell_row (P := Tryd.prog) rfl _ _ w.heap.size _ _ (0, 0) _ rfl (put_four L4) Tryd.underlying26 rfl (by kernel_rfl)) rfl
                ⟨_, rfl, (((R.far hne hSg).far hne hSg).far hne hSg).far hne hSg, read_TV hI hnlt (hbs.mono fun b h => h.1) how (hq.mono fun b h => h.1) (by omega) (sets_size _ _ _ _ _ _) (fun b hb => sets_block _ _ _ _ _ _ _ (by omega)), grown_new G (grown_four _ _ _ _ _ _) (Nat.le_refl _)⟩
            · have hlt' : ¬ (j : Int) < Kn := by omega
              have c60 : wr.cell? ⟨w1.heap.size, 0, none⟩ = some (.int .i64 k) := L6.cell 0
              have c61 : wr.cell? ⟨w1.heap.size, 1, none⟩ = some (.int .u64 0) := L6.cell 1
              have c62 : wr.cell? ⟨w1.heap.size, 2, none⟩ = some (.slice A2 dat.length c2) := L6.cell 2
              have c63 : wr.cell? ⟨w1.heap.size, 3, none⟩ = some (.slice A3 qs.length c3v) := L6.cell 3
              have c40 : wr.cell? ⟨w.heap.size, 0, none⟩ = some (.int .i64 0) := L4.cell 0
              have c41 : wr.cell? ⟨w.heap.size, 1, none⟩ = some (.int .u64 0) := L4.cell 1
              have c42 : wr.cell? ⟨w.heap.size, 2, none⟩ = some (.slice none 0 0) := L4.cell 2
              have c43 : wr.cell? ⟨w.heap.size, 3, none⟩ = some (.slice none 0 0) := L4.cell 3
              have f40 := L4.free 0
              have f41 := L4.free 1
              have f42 := L4.free 2
              have f43 := L4.free 3
              have hSg : ¬ S w.heap.size := fun h => Nat.lt_irrefl _ (hS _ h)
              go_wp2_with fail
              refine (hkid _).mono ?_
              rintro e w' ⟨rfl, rfl⟩
              go_wp2_with fail
              refine bodyPost_ret (results_cell_row (P := Tryd.prog) rfl _ _ w.heap.size _ _ (0, 0) _ rfl (put_four L4) Tryd.underlying26 rfl (by kernel_rfl)) rfl
                ⟨_, rfl, (((R.far hne hSg).far hne hSg).far hne hSg).far hne hSg, read_TV hI hnlt (hbs.mono fun b h => h.1) how (hq.mono fun b h => h.1) (by omega) (sets_size _ _ _ _ _ _) (fun b hb => sets_block _ _ _ _ _ _ _ (by omega)), grown_new G (grown_four _ _ _ _ _ _) (Nat.le_refl _)⟩
          | some lj =>
            obtain ⟨q1, q2⟩ := R.good
            by_cases hlt : j < Kn.toNat
            · have hlt' : (j : Int) < Kn := by omega
              have hso2 : Sofar (readT d) RL (Kn.toNat - (j + 1) + 1) (some lj) ks := by
                have := hso.out
                rwa [show Kn.toNat - j = Kn.toNat - (j + 1) + 1 by omega] at this
              have HS2 := Lib.hid hso2.step
              have hls := Nat.le_trans (readT_le d (some lj)) hsl
              have hc := ih g (some lj) wr.drew R (fun b hb => by have := hS b hb; have := G.size; exact Nat.lt_of_lt_of_le (hS b hb) G.size) hsl (by omega)
              unfold ReadPost at hc
              clear done hso hso2 hsl
              generalize readT d (some lj) = RT at *
              have R' : RR wr.drew g S (some lj) := R
              have L4' : KB wr.drew w.heap.size 26 #[.int .i64 0, .int .u64 0, .slice none 0 0, .slice none 0 0] := L4
              have L6' : KB wr.drew w1.heap.size 26 #[.int .i64 k, .int .u64 0, .slice A2 dat.length c2, .slice A3 qs.length c3v] := L6
              have how' : wr.drew.ownsRow (w1.heap.size + 1) 26 4 (.slice A3 qs.length c3v) qs.length (flatQ qs) := how
              have hq' : QT wr.drew (SN w1.heap.size wr.drew (.slice A3 qs.length c3v)) (d + 1) qs ks := hq.keepS (Nat.le_refl _) (fun _ _ _ => rfl) fun _ h => h
              have hbs' : BS wr.drew (SN w1.heap.size wr.drew (.slice A3 qs.length c3v)) (.slice A2 dat.length c2) dat := hbs
              have HLq : Hid (qs.length + 1 ≤ 1000000000) := by have := hq.1; show _ ≤ _; omega
              have hg6 : g < w1.heap.size := by omega
              have G' : w.grownBy wr.drew (some g) := ⟨G.os, G.tape, G.output, G.size, G.block⟩
              have c3 : wr.cell? ⟨w1.heap.size, 3, none⟩ = some (.slice A3 qs.length c3v) := L6.cell 3
              have f3 := L6.free 3
              have WW : IntKind.i64.wrap (((d : Int) + 1) - 1) = (d : Int) := by rw [show ((d : Int) + 1) - 1 = d by omega]; simp [IntKind.wrap, IntKind.bits, IntKind.signed]; omega
              have WV : IntKind.i64.wrap (d : Int) = (d : Int) := by simp [IntKind.wrap, IntKind.bits, IntKind.signed]; omega
              clear R L4 L6 how hq hbs G
              go_wp2_with fail
              refine (hkid _).mono ?_
              rintro e w' ⟨rfl, rfl⟩
              go_wp2_with fail
              go_region_law
                (first
                  | (go_simp; go_at_call 45; refine hc.mono ?_; rintro e w5 ⟨v5, rfl, R5, tv5, G5⟩; obtain ⟨e0, e1, e2, e3, rfl, tm5⟩ := tv5; have L6a := L6'.grown G5 (by simp; omega); have how5 := own_grown how' G5 (by omega); have how6 := own_past ((Below.refl _ _).alloc (Nat.le_refl _) (.cells #[e0, e1, e2, e3] 26)) how5; have hone := (QT.one tm5).cells1; have hsz : w1.heap.size + 1 ≤ (w5.alloc (.cells #[e0, e1, e2, e3] 26)).heap.size := (by have := L6a.lt; simp; omega); clear c3 f3 how5; have ca : (w5.alloc (.cells #[e0, e1, e2, e3] 26)).cell? ⟨w1.heap.size, 3, none⟩ = some (.slice A3 qs.length c3v) := (L6a.alloc (.cells #[e0, e1, e2, e3] 26)).cell 3; have c3 : w5.cell? ⟨w1.heap.size, 3, none⟩ = some (.slice A3 qs.length c3v) := L6a.cell 3; have f3 := L6a.free 3)
                  | (refine step_growT rfl _ _ rfl (w1.heap.size + 1) _ qs rfl how6 _ 1 [(e0, e1, e2, e3)] rfl (At_new w5 (e0, e1, e2, e3)) hone HLq.out hsz ?_; intro v7 w7 how7 hg7 h7; obtain ⟨qq, hqq⟩ : ∃ qq, qq = qs ++ [(e0, e1, e2, e3)] := ⟨_, rfl⟩; rw [← hqq] at how7; have HQQ := Lib.hid hqq; clear hqq; have L6b := (L6a.alloc (.cells #[e0, e1, e2, e3] 26)).grown hg7 (own_ne how6 (Nat.lt_succ_self w1.heap.size)); obtain ⟨A7, c7, rfl⟩ := own_form how7; clear c3 f3; have c3 : w7.cell? ⟨w1.heap.size, 3, none⟩ = some (.slice A3 qs.length c3v) := L6b.cell 3; have f3 := L6b.free 3))
              all_goals
                have h6 : w1.heap.size < wr.drew.heap.size := L6'.lt
                have L6f := L6b.put 3 (.slice A7 qq.length c7)
                have L4f := (((L4'.grown G5 (by simp; omega)).alloc (.cells #[e0, e1, e2, e3] 26)).grown hg7 (own_ne how6 (by omega))).far (h := w1.heap.size) (i := 3) (v := (.slice A7 qq.length c7)) (by omega)
                have Rf := ((R5.alloc (.cells #[e0, e1, e2, e3] 26)).grownX hg7 (own_ne how6 (by omega)) (fun x hx hSx => by have := own_ge how6 x hx; have := hS x hSx; omega)).far (h := w1.heap.size) (i := 3) (u := (.slice A7 qq.length c7)) (by omega) (fun hSx => by have := hS _ hSx; omega)
                have howf := own_grown how7 (grown_set w7 w1.heap.size 3 (.slice A7 qq.length c7)) (Nat.lt_succ_self _)
                have hsz8 : w7.heap.size = (w7.setCell ⟨w1.heap.size, 3, none⟩ (.slice A7 qq.length c7)).heap.size := by simp [World.setCell]
                have hbl8 : ∀ x, x ≠ w1.heap.size → (w7.setCell ⟨w1.heap.size, 3, none⟩ (.slice A7 qq.length c7)).heap[x]? = w7.heap[x]? := fun x hx => Below.heap_setCell w7 ⟨w1.heap.size, 3, none⟩ (.slice A7 qq.length c7) x hx
                have hqf := QT.more hq' tm5 how' G5 hg6 h6 hg7 h7 hsz8 hbl8
                rw [← HQQ.out] at hqf
                have hbsf := BS.more hbs' G5 hg6 hg7 h7 hsz8 hbl8
                have Gf := grown_new (grown_newX (grown_trans (grown_trans G' G5) (grown_of_below ((Below.refl w5.heap.size w5).alloc (Nat.le_refl _) (.cells #[e0, e1, e2, e3] 26)) (some g))) hg7 (fun x hx => by have := own_ge how6 x hx; omega)) (grown_set w7 w1.heap.size 3 (.slice A7 qq.length c7)) (by omega)
                clear hq' hbs' how' how6 how7 hsz8 hbl8 tm5 hg7 h7 hone hsz ca c3 f3 L6a L6b L4' L6' R' R5 G5 G' hc ih
                go_wp2
                go_roundw
                case rel => exact ⟨j + 1, RT.1, qq, ks ++ ([RT.2] : List (Tm (d + 1))), (.slice A7 qq.length c7), by omega, by rw [List.length_append, hkl]; rfl, HS2, hls, by go_num, Rf, L4f, L6f, howf, hqf, hbsf, Gf⟩
                case measure => simp [intOf]; omega
            · have hlt' : ¬ (j : Int) < Kn := by omega
              have hr := done (.inl (by omega))
              clear done hso
              subst hr
              have c60 : wr.cell? ⟨w1.heap.size, 0, none⟩ = some (.int .i64 k) := L6.cell 0
              have c61 : wr.cell? ⟨w1.heap.size, 1, none⟩ = some (.int .u64 0) := L6.cell 1
              have c62 : wr.cell? ⟨w1.heap.size, 2, none⟩ = some (.slice A2 dat.length c2) := L6.cell 2
              have c63 : wr.cell? ⟨w1.heap.size, 3, none⟩ = some (.slice A3 qs.length c3v) := L6.cell 3
              have c40 : wr.cell? ⟨w.heap.size, 0, none⟩ = some (.int .i64 0) := L4.cell 0
              have c41 : wr.cell? ⟨w.heap.size, 1, none⟩ = some (.int .u64 0) := L4.cell 1
              have c42 : wr.cell? ⟨w.heap.size, 2, none⟩ = some (.slice none 0 0) := L4.cell 2
              have c43 : wr.cell? ⟨w.heap.size, 3, none⟩ = some (.slice none 0 0) := L4.cell 3
              have f40 := L4.free 0
              have f41 := L4.free 1
              have f42 := L4.free 2
              have f43 := L4.free 3
              have hSg : ¬ S w.heap.size := fun h => Nat.lt_irrefl _ (hS _ h)
              go_wp2_with fail
              refine (hkid _).mono ?_
              rintro e w' ⟨rfl, rfl⟩
              go_wp2_with fail
              refine bodyPost_ret (results_cell_row (P := Tryd.prog) rfl _ _ w.heap.size _ _ (0, 0) _ rfl (put_four L4) Tryd.underlying26 rfl (by kernel_rfl)) rfl
                ⟨_, rfl, (((R.far hne hSg).far hne hSg).far hne hSg).far hne hSg, read_TV hI hnlt (hbs.mono fun b h => h.1) how (hq.mono fun b h => h.1) (by omega) (sets_size _ _ _ _ _ _) (fun b hb => sets_block _ _ _ _ _ _ _ (by omega)), grown_new G (grown_four _ _ _ _ _ _) (Nat.le_refl _)⟩
      · rw [if_neg hk3]
        have g3 : (k == 3) = false := beq_eq_false_iff_ne.2 hk3
        clear h3N
        simp only
        have hsl0 : ((some l : Option (List UInt8)).getD []).length ≤ 1000000 := by simp at hL ⊢; omega
        obtain ⟨RL, hRL⟩ : ∃ RL, RL = readL (readT d) Kn.toNat (some l) := ⟨_, rfl⟩
        have HS0 : Hid (Sofar (readT d) RL (Kn.toNat - 0) (some l) []) := by show Sofar _ _ _ _ _; rw [hRL]; exact Sofar.start _ _ _
        rw [← hRL]
        obtain ⟨dat, hdat⟩ : ∃ dat : List UInt8, dat = [] := ⟨_, rfl⟩
        rw [← hdat]
        have hbs0 := fun (w : World) (S : Nat → Prop) => (by rw [hdat]; exact BS.nil w S : BS w S (.slice none 0 0) dat)
        clear hdat hRL
        go_enter Tryd.func45, Tryd.ntmps45
        go_wp2_with fail
        refine ht.mono ?_
        rintro e w1 ⟨A, c, rfl, hr1, hb1, hg1⟩
        have K1 := K.grown hg1 (by simp; omega)
        have G1 := grown_trans G hg1
        obtain ⟨q1, q2⟩ := hr1.good
        have hbyte : ∃ bb oo, A = some ⟨bb, oo, none⟩ ∧ w1.cell? ⟨bb, oo, none⟩ = some (.int .u8 (b.toNat : Int)) := by
          obtain ⟨bb, oo, e1, _, _, hx⟩ := hb1.at_ (by simp)
          exact ⟨bb, oo, e1, by have := hx 0 b rfl; simpa using this⟩
        obtain ⟨bb, oo, rfl, hcell⟩ := hbyte
        clear ht K G hb1
        go_wp2_with fail
        refine (hkid _).mono ?_
        rintro e w' ⟨rfl, rfl⟩
        have hw1 : w.heap.size + 1 ≤ w1.heap.size := by have := hg1.size; simpa using this
        have K6 := KB.new w1 26 #[.int .i64 k, .int .u64 0, .slice none 0 0, .slice none 0 0]
        have K4 := K1.alloc (.cells #[.int .i64 k, .int .u64 0, .slice none 0 0, .slice none 0 0] 26)
        have R2 := hr1.alloc (.cells #[.int .i64 k, .int .u64 0, .slice none 0 0, .slice none 0 0] 26)
        have G2 := grown_trans G1 (grown_of_below ((Below.refl w1.heap.size w1).alloc (Nat.le_refl _) (.cells #[.int .i64 k, .int .u64 0, .slice none 0 0, .slice none 0 0] 26)) (some g))
        clear K1 hr1 G1
        go_wp2_with fail
        refine (hnum _).mono ?_
        rintro e w' ⟨rfl, rfl⟩
        generalize hw2 : w1.alloc (.cells #[.int .i64 k, .int .u64 0, .slice none 0 0, .slice none 0 0] 26) = w2 at *
        clear hw2 q1 q2 hcell
        have p0 : w2.cell? ⟨w1.heap.size, 0, none⟩ = some (.int .i64 k) := K6.cell 0
        go_wp2_with fail
        go_loopw [7] (fun iv wr => ∃ (j : Nat) (sj : Option (List UInt8)) (qs : List Quad) (ks : List (Tm (d + 1))) (kv : Value), j ≤ Kn.toNat ∧ ks.length = j ∧ Hid (Sofar (readT d) RL (Kn.toNat - j) sj ks) ∧ (sj.getD []).length ≤ 1000000 ∧ iv = .int .i64 j ∧ RR wr g S sj ∧
          KB wr w.heap.size 26 #[.int .i64 0, .int .u64 0, .slice none 0 0, .slice none 0 0] ∧ KB wr w1.heap.size 26 #[.int .i64 k, .int .u64 0, .slice none 0 0, kv] ∧ wr.ownsRow (w1.heap.size + 1) 26 4 kv qs.length (flatQ qs) ∧ QT wr (SN w1.heap.size wr kv) (d + 1) qs ks ∧ BS wr (SN w1.heap.size wr kv) (.slice none 0 0) dat ∧ w.grownBy wr (some g)) (fun iv _ => Kn.toNat - (intOf iv).toNat)
        case atStart => exact ⟨0, (some l), [], [], .slice none 0 0, by omega, rfl, HS0, hsl0, rfl, R2, K4, K6, World.ownsRow_nil _ _ _ _, QT.nil _ _ _, hbs0 _ _, G2⟩
        case round =>
          obtain ⟨j, sj, qs, ks, kv, hj, hkl, hso, hsl, rfl, R, L4, L6, how, hq, hbs, G⟩ := hrel
          obtain ⟨A3, c3v, rfl⟩ := own_form how
          have p0 : wr.cell? ⟨w1.heap.size, 0, none⟩ = some (.int .i64 k) := L6.cell 0
          have done : (Kn.toNat - j = 0 ∨ sj = none) → RL = (sj, ks) := fun he => hso.out.done he
          cases sj with
          | none =>
            have hr := done (.inr rfl)
            clear done hso
            subst hr
            obtain ⟨q1, q2⟩ := R.bad
            by_cases hlt : j < Kn.toNat
            · have hlt' : (j : Int) < Kn := by omega
              have c60 : wr.cell? ⟨w1.heap.size, 0, none⟩ = some (.int .i64 k) := L6.cell 0
              have c61 : wr.cell? ⟨w1.heap.size, 1, none⟩ = some (.int .u64 0) := L6.cell 1
              have c62 : wr.cell? ⟨w1.heap.size, 2, none⟩ = some (.slice none 0 0) := L6.cell 2
              have c63 : wr.cell? ⟨w1.heap.size, 3, none⟩ = some (.slice A3 qs.length c3v) := L6.cell 3
              have c40 : wr.cell? ⟨w.heap.size, 0, none⟩ = some (.int .i64 0) := L4.cell 0
              have c41 : wr.cell? ⟨w.heap.size, 1, none⟩ = some (.int .u64 0) := L4.cell 1
              have c42 : wr.cell? ⟨w.heap.size, 2, none⟩ = some (.slice none 0 0) := L4.cell 2
              have c43 : wr.cell? ⟨w.heap.size, 3, none⟩ = some (.slice none 0 0) := L4.cell 3
              have f40 := L4.free 0
              have f41 := L4.free 1
              have f42 := L4.free 2
              have f43 := L4.free 3
              have hSg : ¬ S w.heap.size := fun h => Nat.lt_irrefl _ (hS _ h)
              go_wp2_with fail
              refine (hkid _).mono ?_
              rintro e w' ⟨rfl, rfl⟩
              go_wp2_with fail
              refine bodyPost_ret (results_cell_row (P := Tryd.prog) rfl _ _ w.heap.size _ _ (0, 0) _ rfl (put_four L4) Tryd.underlying26 rfl (by kernel_rfl)) rfl
                ⟨_, rfl, (((R.far hne hSg).far hne hSg).far hne hSg).far hne hSg, read_TV hI hnlt (hbs.mono fun b h => h.1) how (hq.mono fun b h => h.1) (by omega) (sets_size _ _ _ _ _ _) (fun b hb => sets_block _ _ _ _ _ _ _ (by omega)), grown_new G (grown_four _ _ _ _ _ _) (Nat.le_refl _)⟩
            · have hlt' : ¬ (j : Int) < Kn := by omega
              have c60 : wr.cell? ⟨w1.heap.size, 0, none⟩ = some (.int .i64 k) := L6.cell 0
              have c61 : wr.cell? ⟨w1.heap.size, 1, none⟩ = some (.int .u64 0) := L6.cell 1
              have c62 : wr.cell? ⟨w1.heap.size, 2, none⟩ = some (.slice none 0 0) := L6.cell 2
              have c63 : wr.cell? ⟨w1.heap.size, 3, none⟩ = some (.slice A3 qs.length c3v) := L6.cell 3
              have c40 : wr.cell? ⟨w.heap.size, 0, none⟩ = some (.int .i64 0) := L4.cell 0
              have c41 : wr.cell? ⟨w.heap.size, 1, none⟩ = some (.int .u64 0) := L4.cell 1
              have c42 : wr.cell? ⟨w.heap.size, 2, none⟩ = some (.slice none 0 0) := L4.cell 2
              have c43 : wr.cell? ⟨w.heap.size, 3, none⟩ = some (.slice none 0 0) := L4.cell 3
              have f40 := L4.free 0
              have f41 := L4.free 1
              have f42 := L4.free 2
              have f43 := L4.free 3
              have hSg : ¬ S w.heap.size := fun h => Nat.lt_irrefl _ (hS _ h)
              go_wp2_with fail
              refine (hkid _).mono ?_
              rintro e w' ⟨rfl, rfl⟩
              go_wp2_with fail
              refine bodyPost_ret (results_cell_row (P := Tryd.prog) rfl _ _ w.heap.size _ _ (0, 0) _ rfl (put_four L4) Tryd.underlying26 rfl (by kernel_rfl)) rfl
                ⟨_, rfl, (((R.far hne hSg).far hne hSg).far hne hSg).far hne hSg, read_TV hI hnlt (hbs.mono fun b h => h.1) how (hq.mono fun b h => h.1) (by omega) (sets_size _ _ _ _ _ _) (fun b hb => sets_block _ _ _ _ _ _ _ (by omega)), grown_new G (grown_four _ _ _ _ _ _) (Nat.le_refl _)⟩
          | some lj =>
            obtain ⟨q1, q2⟩ := R.good
            by_cases hlt : j < Kn.toNat
            · have hlt' : (j : Int) < Kn := by omega
              have hso2 : Sofar (readT d) RL (Kn.toNat - (j + 1) + 1) (some lj) ks := by
                have := hso.out
                rwa [show Kn.toNat - j = Kn.toNat - (j + 1) + 1 by omega] at this
              have HS2 := Lib.hid hso2.step
              have hls := Nat.le_trans (readT_le d (some lj)) hsl
              have hc := ih g (some lj) wr.drew R (fun b hb => by have := hS b hb; have := G.size; exact Nat.lt_of_lt_of_le (hS b hb) G.size) hsl (by omega)
              unfold ReadPost at hc
              clear done hso hso2 hsl
              generalize readT d (some lj) = RT at *
              have R' : RR wr.drew g S (some lj) := R
              have L4' : KB wr.drew w.heap.size 26 #[.int .i64 0, .int .u64 0, .slice none 0 0, .slice none 0 0] := L4
              have L6' : KB wr.drew w1.heap.size 26 #[.int .i64 k, .int .u64 0, .slice none 0 0, .slice A3 qs.length c3v] := L6
              have how' : wr.drew.ownsRow (w1.heap.size + 1) 26 4 (.slice A3 qs.length c3v) qs.length (flatQ qs) := how
              have hq' : QT wr.drew (SN w1.heap.size wr.drew (.slice A3 qs.length c3v)) (d + 1) qs ks := hq.keepS (Nat.le_refl _) (fun _ _ _ => rfl) fun _ h => h
              have hbs' : BS wr.drew (SN w1.heap.size wr.drew (.slice A3 qs.length c3v)) (.slice none 0 0) dat := hbs
              have HLq : Hid (qs.length + 1 ≤ 1000000000) := by have := hq.1; show _ ≤ _; omega
              have hg6 : g < w1.heap.size := by omega
              have G' : w.grownBy wr.drew (some g) := ⟨G.os, G.tape, G.output, G.size, G.block⟩
              have c3 : wr.cell? ⟨w1.heap.size, 3, none⟩ = some (.slice A3 qs.length c3v) := L6.cell 3
              have f3 := L6.free 3
              have WW : IntKind.i64.wrap (((d : Int) + 1) - 1) = (d : Int) := by rw [show ((d : Int) + 1) - 1 = d by omega]; simp [IntKind.wrap, IntKind.bits, IntKind.signed]; omega
              have WV : IntKind.i64.wrap (d : Int) = (d : Int) := by simp [IntKind.wrap, IntKind.bits, IntKind.signed]; omega
              clear R L4 L6 how hq hbs G
              go_wp2_with fail
              refine (hkid _).mono ?_
              rintro e w' ⟨rfl, rfl⟩
              go_wp2_with fail
              go_region_law
                (first
                  | (go_simp; go_at_call 45; refine hc.mono ?_; rintro e w5 ⟨v5, rfl, R5, tv5, G5⟩; obtain ⟨e0, e1, e2, e3, rfl, tm5⟩ := tv5; have L6a := L6'.grown G5 (by simp; omega); have how5 := own_grown how' G5 (by omega); have how6 := own_past ((Below.refl _ _).alloc (Nat.le_refl _) (.cells #[e0, e1, e2, e3] 26)) how5; have hone := (QT.one tm5).cells1; have hsz : w1.heap.size + 1 ≤ (w5.alloc (.cells #[e0, e1, e2, e3] 26)).heap.size := (by have := L6a.lt; simp; omega); clear c3 f3 how5; have ca : (w5.alloc (.cells #[e0, e1, e2, e3] 26)).cell? ⟨w1.heap.size, 3, none⟩ = some (.slice A3 qs.length c3v) := (L6a.alloc (.cells #[e0, e1, e2, e3] 26)).cell 3; have c3 : w5.cell? ⟨w1.heap.size, 3, none⟩ = some (.slice A3 qs.length c3v) := L6a.cell 3; have f3 := L6a.free 3)
                  | (refine step_growT rfl _ _ rfl (w1.heap.size + 1) _ qs rfl how6 _ 1 [(e0, e1, e2, e3)] rfl (At_new w5 (e0, e1, e2, e3)) hone HLq.out hsz ?_; intro v7 w7 how7 hg7 h7; obtain ⟨qq, hqq⟩ : ∃ qq, qq = qs ++ [(e0, e1, e2, e3)] := ⟨_, rfl⟩; rw [← hqq] at how7; have HQQ := Lib.hid hqq; clear hqq; have L6b := (L6a.alloc (.cells #[e0, e1, e2, e3] 26)).grown hg7 (own_ne how6 (Nat.lt_succ_self w1.heap.size)); obtain ⟨A7, c7, rfl⟩ := own_form how7; clear c3 f3; have c3 : w7.cell? ⟨w1.heap.size, 3, none⟩ = some (.slice A3 qs.length c3v) := L6b.cell 3; have f3 := L6b.free 3))
              all_goals
                have h6 : w1.heap.size < wr.drew.heap.size := L6'.lt
                have L6f := L6b.put 3 (.slice A7 qq.length c7)
                have L4f := (((L4'.grown G5 (by simp; omega)).alloc (.cells #[e0, e1, e2, e3] 26)).grown hg7 (own_ne how6 (by omega))).far (h := w1.heap.size) (i := 3) (v := (.slice A7 qq.length c7)) (by omega)
                have Rf := ((R5.alloc (.cells #[e0, e1, e2, e3] 26)).grownX hg7 (own_ne how6 (by omega)) (fun x hx hSx => by have := own_ge how6 x hx; have := hS x hSx; omega)).far (h := w1.heap.size) (i := 3) (u := (.slice A7 qq.length c7)) (by omega) (fun hSx => by have := hS _ hSx; omega)
                have howf := own_grown how7 (grown_set w7 w1.heap.size 3 (.slice A7 qq.length c7)) (Nat.lt_succ_self _)
                have hsz8 : w7.heap.size = (w7.setCell ⟨w1.heap.size, 3, none⟩ (.slice A7 qq.length c7)).heap.size := by simp [World.setCell]
                have hbl8 : ∀ x, x ≠ w1.heap.size → (w7.setCell ⟨w1.heap.size, 3, none⟩ (.slice A7 qq.length c7)).heap[x]? = w7.heap[x]? := fun x hx => Below.heap_setCell w7 ⟨w1.heap.size, 3, none⟩ (.slice A7 qq.length c7) x hx
                have hqf := QT.more hq' tm5 how' G5 hg6 h6 hg7 h7 hsz8 hbl8
                rw [← HQQ.out] at hqf
                have hbsf := BS.more hbs' G5 hg6 hg7 h7 hsz8 hbl8
                have Gf := grown_new (grown_newX (grown_trans (grown_trans G' G5) (grown_of_below ((Below.refl w5.heap.size w5).alloc (Nat.le_refl _) (.cells #[e0, e1, e2, e3] 26)) (some g))) hg7 (fun x hx => by have := own_ge how6 x hx; omega)) (grown_set w7 w1.heap.size 3 (.slice A7 qq.length c7)) (by omega)
                clear hq' hbs' how' how6 how7 hsz8 hbl8 tm5 hg7 h7 hone hsz ca c3 f3 L6a L6b L4' L6' R' R5 G5 G' hc ih
                go_wp2
                go_roundw
                case rel => exact ⟨j + 1, RT.1, qq, ks ++ ([RT.2] : List (Tm (d + 1))), (.slice A7 qq.length c7), by omega, by rw [List.length_append, hkl]; rfl, HS2, hls, by go_num, Rf, L4f, L6f, howf, hqf, hbsf, Gf⟩
                case measure => simp [intOf]; omega
            · have hlt' : ¬ (j : Int) < Kn := by omega
              have hr := done (.inl (by omega))
              clear done hso
              subst hr
              have c60 : wr.cell? ⟨w1.heap.size, 0, none⟩ = some (.int .i64 k) := L6.cell 0
              have c61 : wr.cell? ⟨w1.heap.size, 1, none⟩ = some (.int .u64 0) := L6.cell 1
              have c62 : wr.cell? ⟨w1.heap.size, 2, none⟩ = some (.slice none 0 0) := L6.cell 2
              have c63 : wr.cell? ⟨w1.heap.size, 3, none⟩ = some (.slice A3 qs.length c3v) := L6.cell 3
              have c40 : wr.cell? ⟨w.heap.size, 0, none⟩ = some (.int .i64 0) := L4.cell 0
              have c41 : wr.cell? ⟨w.heap.size, 1, none⟩ = some (.int .u64 0) := L4.cell 1
              have c42 : wr.cell? ⟨w.heap.size, 2, none⟩ = some (.slice none 0 0) := L4.cell 2
              have c43 : wr.cell? ⟨w.heap.size, 3, none⟩ = some (.slice none 0 0) := L4.cell 3
              have f40 := L4.free 0
              have f41 := L4.free 1
              have f42 := L4.free 2
              have f43 := L4.free 3
              have hSg : ¬ S w.heap.size := fun h => Nat.lt_irrefl _ (hS _ h)
              go_wp2_with fail
              refine (hkid _).mono ?_
              rintro e w' ⟨rfl, rfl⟩
              go_wp2_with fail
              refine bodyPost_ret (results_cell_row (P := Tryd.prog) rfl _ _ w.heap.size _ _ (0, 0) _ rfl (put_four L4) Tryd.underlying26 rfl (by kernel_rfl)) rfl
                ⟨_, rfl, (((R.far hne hSg).far hne hSg).far hne hSg).far hne hSg, read_TV hI hnlt (hbs.mono fun b h => h.1) how (hq.mono fun b h => h.1) (by omega) (sets_size _ _ _ _ _ _) (fun b hb => sets_block _ _ _ _ _ _ _ (by omega)), grown_new G (grown_four _ _ _ _ _ _) (Nat.le_refl _)⟩
end Go.Proofs.YtmepcdljobdigaaDoor
