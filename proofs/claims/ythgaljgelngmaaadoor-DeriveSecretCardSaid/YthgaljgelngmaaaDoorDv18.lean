/-
  TpG: A term in memory of its own, by the program: the contract of what copies it, over the loaded program. No condition but that it has not too many kids.
-/
import Derived.Test.YthgaljgelngmaaaDoorDv15
import Derived.Test.YthgaljgelngmaaaDoorDv17
import Derived.WalkSpells
import Derived.Laws.EntriesVeiled

section
namespace Go.Proofs.YthgaljgelngmaaaDoor
open Go.RowKit
set_option linter.unusedVariables false

/-- No part has too many kids, or too much data. -/
def few : (f : Nat) → Tm f → Prop
  | 0, t => nomatch t
  | f + 1, (t : Nd (Tm f)) => t.kids.length ≤ 1000000 ∧ t.data.length ≤ 1000000 ∧ ∀ u ∈ t.kids, few f u

theorem may_few : ∀ (f : Nat) (t : Tm f) (n : Int), mayT f t n = true → few f t
  | 0, t, _, _ => nomatch t
  | f + 1, (t : Nd (Tm f)), n, h => by
    have h' : (decide (1 ≤ n) && ownOk t && (t.kids.all fun u => mayT f u (n - 1)) && (decide (t.kind ≠ 5) || decide (kindAt f t.kids 1 = 2))) = true := h
    simp only [Bool.and_eq_true] at h'
    obtain ⟨⟨⟨_, h2⟩, h3⟩, _⟩ := h'
    obtain ⟨k, m, d, ks⟩ := t
    obtain ⟨k0, k1, _, _, k4⟩ := (ownOk_iff k m d ks).1 h2
    have hk : kidsN k ≤ 2 := by unfold kidsN; split; omega; split; omega; split <;> omega
    refine ⟨by show ks.length ≤ _; omega, by show d.length ≤ _; omega, fun u hu => may_few f u (n - 1) ?_⟩
    exact List.all_eq_true.1 h3 u hu

/-- bytes.Clone: the same bytes; new memory, but for nil. -/
theorem clone2_any (S : Nat → Prop) (v : Value) (l : List UInt8) (w : World) (h : BS w S v l) (hl : l.length ≤ 140737488355328) :
    Calls Tryd.prog 34 #[v] w fun e w' => Fresh w e w' l := by
  obtain ⟨i0, hi, hz0, hz1, hz2⟩ := info_parts info_byte
  obtain ⟨A, c, rfl, _, _, hn⟩ := h.form
  have heq := fun (a : Option Addr) (l c : Nat) (w : World) => Lib.run_eql_slice_nil (P := Tryd.prog) w 33 5 a l c 0 0 Tryd.underlying33
  cases A with
  | none =>
    obtain rfl := hn rfl
    have h0 : l = [] := by
      apply List.eq_nil_of_length_eq_zero
      obtain ⟨_, _, e, hl', _⟩ := h
      injection e with _ _ e3
      omega
    subst h0
    go_enter Tryd.func34, Tryd.ntmps34
    go_wp2_with fail
    go_ret
    exact ⟨_, rfl, World.ownsRow_nil _ _ _ _, Below.refl _ _⟩
  | some ad =>
    have hx := h.alloc (.cells #[] 5)
    go_enter Tryd.func34, Tryd.ntmps34
    go_wp2_with (at_builtin; refine wpList_grow _ rfl _ _ _ rfl w.heap.size 5 i0 Tryd.underlying33 hi hz0 hz1 hz2 (.slice (some ⟨w.heap.size, 0, none⟩) 0 0) [] rfl (World.ownsRow_lit w #[] 0 (Nat.le_refl _) (by simp [maxLen]) rfl) S _ l rfl hx (by simp; omega) (by simp) ?_; intro v1 w1 hown hg _)
    go_ret
    exact ⟨_, rfl, hown, ((Below.refl _ _).alloc (Nat.le_refl _) _).grown hg (by simp) (by simp [Value.ownBlock])⟩

/-- The blocks from m on, but for a row's. -/
def SO (m : Nat) (w : World) (kv : Value) : Nat → Prop := fun b => m ≤ b ∧ kv.ownBlock ≠ some b ∧ b < w.heap.size

theorem QT.moreO {wr w5 w7 : World} {m f : Nat} {kv v7 : Value} {qs : List Quad} {ks : List (Tm f)} {e0 e1 e2 e3 : Value} {t : Tm f} {o : Obj} {B n e size : Nat} {xs : List Value} (hq : QT wr (SO m wr kv) f qs ks)
    (tm : TM w5 (fun b => wr.heap.size ≤ b ∧ b < w5.heap.size) f t e0 e1 e2 e3) (how : wr.ownsRow B e size kv n xs) (B5 : Below wr.heap.size wr w5) (hm : m ≤ wr.heap.size) (hg7 : (w5.alloc o).grownBy w7 kv.ownBlock)
    (h7 : v7.ownBlock = kv.ownBlock ∨ v7.ownBlock = some (w5.alloc o).heap.size) : QT w7 (SO m w7 v7) f (qs ++ [(e0, e1, e2, e3)]) (ks ++ [t]) := by
  have s5 := B5.size
  have s7 := hg7.size
  have sa : (w5.alloc o).heap.size = w5.heap.size + 1 := by simp
  have hkv := own_lt how
  refine QT.append ?_ ?_
  · refine hq.keepS (by omega) (fun b hb hlt => ?_) fun b hb => ?_
    · obtain ⟨b1, b2, b3⟩ := hb
      rw [hg7.block b (by omega) (fun e => b2 e.symm), Below.heap_alloc w5 o b (by omega), B5.block b hlt]
    · obtain ⟨b1, b2, b3⟩ := hb
      refine ⟨b1, ?_, by omega⟩
      rcases h7 with h | h
      · rw [h]; exact b2
      · rw [h]; simp; omega
  · refine (QT.one tm).keepS (by omega) (fun b hb hlt => ?_) fun b hb => ?_
    · have hne : kv.ownBlock ≠ some b := fun e => by have := hkv b e; omega
      rw [hg7.block b (by omega) (fun e => hne e.symm), Below.heap_alloc w5 o b (by omega)]
    · have hne : kv.ownBlock ≠ some b := fun e => by have := hkv b e; omega
      refine ⟨by omega, ?_, by omega⟩
      rcases h7 with h | h
      · rw [h]; exact hne
      · rw [h]; simp; omega

theorem BS.moreO {wr w5 w7 : World} {m : Nat} {kv v7 dv : Value} {dat : List UInt8} {o : Obj} (hb : BS wr (SO m wr kv) dv dat) (B5 : Below wr.heap.size wr w5) (hg7 : (w5.alloc o).grownBy w7 kv.ownBlock) (h7 : v7.ownBlock = kv.ownBlock ∨ v7.ownBlock = some (w5.alloc o).heap.size) :
    BS w7 (SO m w7 v7) dv dat := by
  have s5 := B5.size
  have s7 := hg7.size
  have sa : (w5.alloc o).heap.size = w5.heap.size + 1 := by simp
  refine (hb.keep (w' := w7) (by omega) (fun b hb hlt => ?_)).mono fun b hb => ?_
  · obtain ⟨b1, b2, b3⟩ := hb
    rw [hg7.block b (by omega) (fun e => b2 e.symm), Below.heap_alloc w5 o b (by omega), B5.block b hlt]
  · obtain ⟨b1, b2, b3⟩ := hb
    refine ⟨b1, ?_, by omega⟩
    rcases h7 with h | h
    · rw [h]; exact b2
    · rw [h]; simp; omega

theorem QT.take_one {w : World} {S : Nat → Prop} {f : Nat} {qs : List Quad} {ks : List (Tm f)} {j : Nat} (hj : j < ks.length) (h : QT w S f qs (ks.take j ++ [ks[j]])) : QT w S f qs (ks.take (j + 1)) := by
  rw [List.take_add_one, List.getElem?_eq_getElem hj]; exact h

set_option maxHeartbeats 1000000 in
theorem own1_any (gw : Nat) (S : Nat → Prop) : ∀ (f : Nat) (t : Tm f) (v : Value) (w : World), KB w gw 57 #[.func (.func 50) #[] #[.pointer (some ⟨gw, 0, none⟩)]] → (∀ b, S b → b < w.heap.size) → few f t → TV w S f v t →
    Calls Tryd.prog 50 #[v, .pointer (some ⟨gw, 0, none⟩)] w fun e w' => ∃ u, e = .returned u ∧ TV w' (fun b => w.heap.size ≤ b ∧ b < w'.heap.size) f u t ∧ Below w.heap.size w w' := by
  intro f
  induction f with
  | zero => intro t; exact nomatch t
  | succ f ih =>
    intro t v w kw hS hfew hv
    obtain ⟨c0, c1, c2, c3, rfl, rfl, hk, rfl, hn, hdat, hks⟩ := hv
    obtain ⟨A2, cap2, rfl, _⟩ := hdat.form
    obtain ⟨A3, cap3, e3, hl3, hm3, _⟩ := id hks
    obtain ⟨k, n, d, ks⟩ := (t : Nd (Tm f))
    simp only at e3 hks hk hn hdat hl3
    subst e3
    obtain ⟨hf1, hf2, hf3⟩ := hfew
    simp only at hf1 hf2 hf3
    have hgw := kw.lt
    have qw : w.cell? ⟨gw, 0, none⟩ = some (.func (.func 50) #[] #[.pointer (some ⟨gw, 0, none⟩)]) := kw.cell 0
    obtain ⟨k2, k3, B0⟩ := two_boxes w #[.int .i64 k, .int .u64 n, .slice A2 d.length cap2, .slice A3 ks.length cap3] #[.int .i64 0, .int .u64 0, .slice none 0 0, .slice none 0 0] 35
    have hcl := clone2_any S _ d _ ((hdat.alloc (.cells #[.int .i64 k, .int .u64 n, .slice A2 d.length cap2, .slice A3 ks.length cap3] 35)).alloc (.cells #[.int .i64 0, .int .u64 0, .slice none 0 0, .slice none 0 0] 35)) (by omega)
    go_enter Tryd.func50, Tryd.ntmps50
    go_wp2_with fail
    refine hcl.mono ?_
    rintro e w1 ⟨v1, rfl, how1, b1⟩
    generalize (w.alloc (.cells #[.int .i64 k, .int .u64 n, .slice A2 d.length cap2, .slice A3 ks.length cap3] 35)).alloc (.cells #[.int .i64 0, .int .u64 0, .slice none 0 0, .slice none 0 0] 35) = w0 at *
    have hz0 : w.heap.size + 2 ≤ w0.heap.size := k3.lt
    have hz1 := b1.size
    obtain ⟨A1, z1, rfl⟩ := own_form how1
    have hb1 := (own_BS how1).mono (S' := SO (w.heap.size + 2) w1 (.slice none 0 0)) fun b hb => ⟨by omega, by simp [Value.ownBlock], hb.2⟩
    have k2a := k2.below b1 k2.lt
    have k3a := k3.below b1 k3.lt
    have Ba := B0.trans (b1.mono B0.size)
    have q2 : w1.cell? ⟨w.heap.size, 2, none⟩ = some (.slice A2 d.length cap2) := k2a.cell 2
    have f2 := k2a.free 2
    have k2b := k2a.put 2 (.slice A1 d.length z1)
    have k3b := k3a.far (h := w.heap.size) (i := 2) (v := .slice A1 d.length z1) (by omega)
    have hb1b := (hb1.setCell (p := ⟨w.heap.size, 2, none⟩) (fun h => by have h' : w.heap.size + 2 ≤ w.heap.size := h.1; omega) (.slice A1 d.length z1)).mono (S' := SO (w.heap.size + 2) (w1.setCell ⟨w.heap.size, 2, none⟩ (.slice A1 d.length z1)) (.slice none 0 0)) fun b hb => ⟨hb.1, hb.2.1, by have := hb.2.2; simpa [World.setCell] using this⟩
    have Bb := Ba.trans (below_of_grown' (grown_set w1 w.heap.size 2 (.slice A1 d.length z1)) (Nat.le_refl _) Ba.size)
    clear hcl how1 k2 k3 B0 b1 hb1
    have q3 : w1.cell? ⟨w.heap.size, 3, none⟩ = some (.slice A3 ks.length cap3) := k2a.cell 3
    go_wp2_with fail
    clear q2 q3 f2 Ba k2a k3a
    generalize w1.setCell ⟨w.heap.size, 2, none⟩ (.slice A1 d.length z1) = w2 at *
    go_loopw [4, 14] (fun kv iv wr => ∃ (j : Nat) (qs : List Quad), j ≤ ks.length ∧ QT wr (SO (w.heap.size + 2) wr kv) f qs (ks.take j) ∧ iv = .int .i64 j ∧ wr.ownsRow (w.heap.size + 2) 35 4 kv qs.length (flatQ qs) ∧
      KB wr w.heap.size 35 #[.int .i64 k, .int .u64 n, .slice A1 d.length z1, .slice A3 ks.length cap3] ∧ KB wr (w.heap.size + 1) 35 #[.int .i64 0, .int .u64 0, .slice none 0 0, .slice none 0 0] ∧
      BS wr (SO (w.heap.size + 2) wr kv) (.slice A1 d.length z1) d ∧ Below w.heap.size w wr) (fun _ iv _ => ks.length - (intOf iv).toNat)
    case atStart => exact ⟨0, [], by omega, QT.nil _ _ _, rfl, World.ownsRow_nil _ _ _ _, k2b, k3b, hb1b, Bb⟩
    case round =>
      clear k2b k3b hb1b Bb
      obtain ⟨j, qs, hj, hq, rfl, hown, K2, K3, hbs, B⟩ := hrel
      have hs2 : w.heap.size + 2 ≤ wr.heap.size := K3.lt
      by_cases hlt : j < ks.length
      · obtain ⟨b, o, e0, e1, e2, e3, rfl, hb, l0, l1, l2, l3, hv⟩ := kid_as hks rfl B j hlt
        obtain ⟨i0, i1, X2, n2, z2, X3, n3, z3, rfl, rfl, rfl, rfl⟩ := (let ⟨_, _, _, _, e, h⟩ := hv; by injection e with e; simp only [Array.mk.injEq, List.cons.injEq, and_true] at e; obtain ⟨rfl, rfl, rfl, rfl⟩ := e; exact tm_form h : ∃ (i0 i1 : Int) (X2 : Option Addr) (n2 z2 : Nat) (X3 : Option Addr) (n3 z3 : Nat), e0 = .int .i64 i0 ∧ e1 = .int .u64 i1 ∧ e2 = .slice X2 n2 z2 ∧ e3 = .slice X3 n3 z3)
        have qw : wr.cell? ⟨gw, 0, none⟩ = some (.func (.func 50) #[] #[.pointer (some ⟨gw, 0, none⟩)]) := (kw.below B hgw).cell 0
        have hgwr : gw < wr.heap.size := Nat.lt_of_lt_of_le hgw B.size
        have hbr : b < wr.heap.size := Nat.lt_of_lt_of_le hb B.size
        have hc := ih ks[j] _ (wr.alloc (.cells #[.int .i64 i0, .int .u64 i1, .slice X2 n2 z2, .slice X3 n3 z3] 35)) ((kw.below B hgw).alloc _) (fun b hb => by have := hS b hb; have := B.size; simp; omega) (hf3 _ (List.getElem_mem hlt)) (hv.alloc _)
        clear hv
        go_wp2_with fail
        refine hc.mono ?_
        rintro e w5 ⟨u5, rfl, ⟨d0, d1, d2, d3, rfl, tm5⟩, b5⟩
        have B5w : Below wr.heap.size wr w5 := ((Below.refl _ _).alloc (Nat.le_refl _) (.cells #[.int .i64 i0, .int .u64 i1, .slice X2 n2 z2, .slice X3 n3 z3] 35)).trans (b5.mono (by simp))
        have tm5' := TM.keepS f ks[j] d0 d1 d2 d3 tm5 (Nat.le_refl _) (fun _ _ _ => rfl) (fun b (hb : _ ∧ _) => (⟨by have := hb.1; simp at this; omega, hb.2⟩ : wr.heap.size ≤ b ∧ b < w5.heap.size))
        have how5 := own_past ((Below.refl _ _).alloc (Nat.le_refl _) (.cells #[d0, d1, d2, d3] 35)) (own_past B5w hown)
        have K2a := (K2.below B5w K2.lt).alloc (.cells #[d0, d1, d2, d3] 35)
        have K3a := (K3.below B5w K3.lt).alloc (.cells #[d0, d1, d2, d3] 35)
        have Bx := (B.trans (B5w.mono B.size)).alloc (by have := B.size; have := B5w.size; omega) (.cells #[d0, d1, d2, d3] 35)
        have hone := (QT.one tm5).cells1
        have HL : Hid (qs.length + 1 ≤ 1000000000) := by have := hq.1; rw [List.length_take] at this; show _ ≤ _; omega
        have hsz : w.heap.size + 2 ≤ (w5.alloc (.cells #[d0, d1, d2, d3] 35)).heap.size := by have := B5w.size; simp; omega
        clear hc qw l0 l1 l2 l3 tm5
        go_wp2_with (at_builtin; refine wpList_growT _ rfl _ _ rfl (w.heap.size + 2) _ qs rfl how5 _ 1 [(d0, d1, d2, d3)] rfl (At_new w5 (d0, d1, d2, d3)) hone HL.out hsz ?_; intro v7 w7 how7 hg7 h7)
        have hq7 := QT.take_one hlt (QT.moreO hq tm5' hown B5w hs2 hg7 h7)
        have hb7 := BS.moreO hbs B5w hg7 h7
        have K27 := K2a.grown hg7 (own_ne how5 (by omega))
        have K37 := K3a.grown hg7 (own_ne how5 (by omega))
        have B7 := Bx.grown hg7 Bx.size fun x hx => by have := own_ge how5 x hx; omega
        go_roundw
        case rel => exact ⟨j + 1, qs ++ [(d0, d1, d2, d3)], by omega, hq7, by go_num, how7, K27, K37, hb7, B7⟩
        case measure => simp [intOf]; omega
      · obtain rfl : j = ks.length := by omega
        rw [List.take_length] at hq
        obtain ⟨A7, c7, rfl⟩ := own_form hown
        have tmr : TM wr (fun b => w.heap.size + 2 ≤ b ∧ b < wr.heap.size) (f + 1) (⟨k, n, d, ks⟩ : Nd (Tm f)) (.int .i64 k) (.int .u64 n) (.slice A1 d.length z1) (.slice A7 qs.length c7) :=
          ⟨rfl, hk, rfl, hn, hbs.mono fun b hb => ⟨hb.1, hb.2.2⟩, KS_of_own hown (hq.mono fun b hb => ⟨hb.1, hb.2.2⟩) fun b h1 h2 => ⟨h1, h2⟩⟩
        have c0 : wr.cell? ⟨w.heap.size, 0, none⟩ = some (.int .i64 k) := K2.cell 0
        have c1 : wr.cell? ⟨w.heap.size, 1, none⟩ = some (.int .u64 n) := K2.cell 1
        have c2 : wr.cell? ⟨w.heap.size, 2, none⟩ = some (.slice A1 d.length z1) := K2.cell 2
        have c3 : wr.cell? ⟨w.heap.size, 3, none⟩ = some (.slice A3 ks.length cap3) := K2.cell 3
        have f3 := K2.free 3
        have d0 : wr.cell? ⟨w.heap.size + 1, 0, none⟩ = some (.int .i64 0) := K3.cell 0
        have d1 : wr.cell? ⟨w.heap.size + 1, 1, none⟩ = some (.int .u64 0) := K3.cell 1
        have d2 : wr.cell? ⟨w.heap.size + 1, 2, none⟩ = some (.slice none 0 0) := K3.cell 2
        have d3 : wr.cell? ⟨w.heap.size + 1, 3, none⟩ = some (.slice none 0 0) := K3.cell 3
        have g0 := K3.free 0
        have g1 := K3.free 1
        have g2 := K3.free 2
        have g3 := K3.free 3
        have K3b := K3.far (h := w.heap.size) (i := 3) (v := .slice A7 qs.length c7) (by omega)
        have KF := put_four (x := .int .i64 k) (y := .int .u64 n) (z := .slice A1 d.length z1) (u := .slice A7 qs.length c7) K3b
        have s1 := sets_size (wr.setCell ⟨w.heap.size, 3, none⟩ (.slice A7 qs.length c7)) (w.heap.size + 1) (.int .i64 k) (.int .u64 n) (.slice A1 d.length z1) (.slice A7 qs.length c7)
        have s0 : (wr.setCell ⟨w.heap.size, 3, none⟩ (.slice A7 qs.length c7)).heap.size = wr.heap.size := by simp [World.setCell]
        have tmf := TM.keepS (w' := (((((wr.setCell ⟨w.heap.size, 3, none⟩ (.slice A7 qs.length c7)).setCell ⟨w.heap.size + 1, 0, none⟩ (.int .i64 k)).setCell ⟨w.heap.size + 1, 1, none⟩ (.int .u64 n)).setCell ⟨w.heap.size + 1, 2, none⟩ (.slice A1 d.length z1)).setCell ⟨w.heap.size + 1, 3, none⟩ (.slice A7 qs.length c7))) (S' := fun b => w.heap.size ≤ b ∧ b < (((((wr.setCell ⟨w.heap.size, 3, none⟩ (.slice A7 qs.length c7)).setCell ⟨w.heap.size + 1, 0, none⟩ (.int .i64 k)).setCell ⟨w.heap.size + 1, 1, none⟩ (.int .u64 n)).setCell ⟨w.heap.size + 1, 2, none⟩ (.slice A1 d.length z1)).setCell ⟨w.heap.size + 1, 3, none⟩ (.slice A7 qs.length c7)).heap.size) (f + 1) _ _ _ _ _ tmr (by omega)
          (fun b (hb : w.heap.size + 2 ≤ b ∧ b < wr.heap.size) _ => (sets_block _ _ _ _ _ _ _ (by omega)).trans (Below.heap_setCell wr ⟨w.heap.size, 3, none⟩ (.slice A7 qs.length c7) b (fun e => by have e' : b = w.heap.size := e; omega)))
          (fun b (hb : w.heap.size + 2 ≤ b ∧ b < wr.heap.size) => ⟨by omega, by omega⟩)
        have BF := B.trans (below_of_grown' (grown_trans (grown_set wr w.heap.size 3 (.slice A7 qs.length c7)) (World.grownBy.refl _ _)) (Nat.le_refl _) B.size)
        have BF2 := BF.trans (below_of_grown' (grown_four (wr.setCell ⟨w.heap.size, 3, none⟩ (.slice A7 qs.length c7)) (w.heap.size + 1) (.int .i64 k) (.int .u64 n) (.slice A1 d.length z1) (.slice A7 qs.length c7)) (by omega) BF.size)
        clear hq hbs hks tmr K3b BF s0 s1
        go_wp2_with fail
        refine bodyPost_ret (results_cell_row (P := Tryd.prog) rfl _ _ (w.heap.size + 1) _ _ (0, 0) _ rfl KF Tryd.underlying35 rfl (by kernel_rfl)) rfl ⟨_, rfl, ⟨_, _, _, _, rfl, tmf⟩, BF2⟩

set_option maxHeartbeats 400000 in
theorem own_any (S : Nat → Prop) (f : Nat) (t : Tm f) (v : Value) (w : World) (hS : ∀ b, S b → b < w.heap.size) (hfew : few f t) (hv : TV w S f v t) :
    Calls Tryd.prog 33 #[v] w fun e w' => ∃ u, e = .returned u ∧ TV w' (fun b => w.heap.size ≤ b ∧ b < w'.heap.size) f u t ∧ Below w.heap.size w w' := by
  obtain ⟨e0, e1, e2, e3, rfl, ht⟩ := hv
  obtain ⟨i0, i1, X2, n2, z2, X3, n3, z3, rfl, rfl, rfl, rfl⟩ := tm_form ht
  have tv : TV w S f (.agg #[.int .i64 i0, .int .u64 i1, .slice X2 n2 z2, .slice X3 n3 z3]) t := ⟨_, _, _, _, rfl, ht⟩
  obtain ⟨W3, hW3⟩ : ∃ W3, W3 = ((w.alloc (.cells #[.int .i64 i0, .int .u64 i1, .slice X2 n2 z2, .slice X3 n3 z3] 35)).alloc (.cells #[.int .i64 0, .int .u64 0, .slice none 0 0, .slice none 0 0] 35)).alloc (.cells #[.func (.func 50) #[] #[.pointer (some ⟨w.heap.size + 2, 0, none⟩)]] 57) := ⟨_, rfl⟩
  have hc := own1_any (w.heap.size + 2) S f t _ W3
    (by rw [hW3]; have := KB.new ((w.alloc (.cells #[.int .i64 i0, .int .u64 i1, .slice X2 n2 z2, .slice X3 n3 z3] 35)).alloc (.cells #[.int .i64 0, .int .u64 0, .slice none 0 0, .slice none 0 0] 35)) 57 #[.func (.func 50) #[] #[.pointer (some ⟨w.heap.size + 2, 0, none⟩)]]; simpa using this)
    (fun b hb => by have := hS b hb; rw [hW3]; simp; omega) hfew (by rw [hW3]; exact ((tv.alloc _).alloc _).alloc _)
  obtain ⟨_, k3, B0⟩ := two_boxes w #[.int .i64 i0, .int .u64 i1, .slice X2 n2 z2, .slice X3 n3 z3] #[.int .i64 0, .int .u64 0, .slice none 0 0, .slice none 0 0] 35
  have B3 := B0.alloc (by simp; omega) (.cells #[.func (.func 50) #[] #[.pointer (some ⟨w.heap.size + 2, 0, none⟩)]] 57)
  have K3 := k3.alloc (.cells #[.func (.func 50) #[] #[.pointer (some ⟨w.heap.size + 2, 0, none⟩)]] 57)
  rw [← hW3] at B3 K3
  clear k3 B0
  go_enter Tryd.func33, Tryd.ntmps33
  go_wp2_with fail
  (first | rw [← hW3] | skip)
  refine hc.mono ?_
  rintro e w5 ⟨u5, rfl, ⟨d0, d1, d2, d3, rfl, tm5⟩, b5⟩
  obtain ⟨l0, l1, Y2, m2, y2, Y3, m3, y3, rfl, rfl, rfl, rfl⟩ := tm_form tm5
  have hlt3 := K3.lt
  have B5 := B3.trans (b5.mono B3.size)
  have K5 := K3.below b5 K3.lt
  have q0 : w5.cell? ⟨w.heap.size + 1, 0, none⟩ = some (.int .i64 0) := K5.cell 0
  have q1 : w5.cell? ⟨w.heap.size + 1, 1, none⟩ = some (.int .u64 0) := K5.cell 1
  have q2 : w5.cell? ⟨w.heap.size + 1, 2, none⟩ = some (.slice none 0 0) := K5.cell 2
  have q3 : w5.cell? ⟨w.heap.size + 1, 3, none⟩ = some (.slice none 0 0) := K5.cell 3
  have f0 := K5.free 0
  have f1 := K5.free 1
  have f2 := K5.free 2
  have f3 := K5.free 3
  have KF := put_four (x := .int .i64 l0) (y := .int .u64 l1) (z := .slice Y2 m2 y2) (u := .slice Y3 m3 y3) K5
  have s1 := sets_size w5 (w.heap.size + 1) (.int .i64 l0) (.int .u64 l1) (.slice Y2 m2 y2) (.slice Y3 m3 y3)
  have tmf := TM.keepS (w' := (((w5.setCell ⟨w.heap.size + 1, 0, none⟩ (.int .i64 l0)).setCell ⟨w.heap.size + 1, 1, none⟩ (.int .u64 l1)).setCell ⟨w.heap.size + 1, 2, none⟩ (.slice Y2 m2 y2)).setCell ⟨w.heap.size + 1, 3, none⟩ (.slice Y3 m3 y3))
    (S' := fun b => w.heap.size ≤ b ∧ b < ((((w5.setCell ⟨w.heap.size + 1, 0, none⟩ (.int .i64 l0)).setCell ⟨w.heap.size + 1, 1, none⟩ (.int .u64 l1)).setCell ⟨w.heap.size + 1, 2, none⟩ (.slice Y2 m2 y2)).setCell ⟨w.heap.size + 1, 3, none⟩ (.slice Y3 m3 y3)).heap.size) f _ _ _ _ _ tm5 (by omega)
    (fun b (hb : W3.heap.size ≤ b ∧ b < w5.heap.size) _ => sets_block _ _ _ _ _ _ _ (by omega)) (fun b (hb : W3.heap.size ≤ b ∧ b < w5.heap.size) => ⟨by omega, by omega⟩)
  have BF := B5.trans (below_of_grown' (grown_four w5 (w.heap.size + 1) (.int .i64 l0) (.int .u64 l1) (.slice Y2 m2 y2) (.slice Y3 m3 y3)) (by omega) B5.size)
  clear hc K5 K3 tm5 s1 hW3
  go_wp2_with fail
  refine bodyPost_ret (results_cell_row (P := Tryd.prog) rfl _ _ (w.heap.size + 1) _ _ (0, 0) _ rfl KF Tryd.underlying35 rfl (by kernel_rfl)) rfl ⟨_, rfl, ⟨_, _, _, _, rfl, tmf⟩, BF⟩
end Go.Proofs.YthgaljgelngmaaaDoor
end
