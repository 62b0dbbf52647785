/-
  How the program reads a term: the contract of the function that calls itself, over the loaded program. No condition but what it names.
-/
import Derived.Test.YtmepcdljobdigaaDoorTpI
import Derived.Deep.RegionLaw
namespace Go.Proofs.YtmepcdljobdigaaDoor
open Go.RowKit
set_option linter.unusedVariables false

/-- What is told behind a call that reads a part. -/
def NextPost (w : World) (g : Nat) (S : Nat → Prop) {f : Nat} (r : Option (List UInt8) × Tm f) (e : Ending) (w' : World) : Prop :=
  ∃ v, e = .returned v ∧ RD w' g S r.1 ∧ TV w' (fun b => w.heap.size ≤ b ∧ b < w'.heap.size) f v r.2 ∧ w.grownBy w' (some g)

/-- What a call that reads a part finds: the two variables that it knows, the table, the reader. -/
structure Finds (w : World) (g gr gw : Nat) (S : Nat → Prop) (st : Option (List UInt8)) : Prop where
  r : KB w gr 57 #[.pointer (some ⟨g, 0, none⟩)]
  n : KB w gw 59 #[.func (.func 38) #[] #[.pointer (some ⟨gr, 0, none⟩), .pointer (some ⟨gw, 0, none⟩)]]
  t : Shp w
  d : RD w g S st
  s : ∀ b, S b → b < w.heap.size
  ne1 : gr ≠ g
  ne2 : gw ≠ g
  ne3 : 0 ≠ g

theorem Finds.grown {w w' : World} {g gr gw : Nat} {S : Nat → Prop} {st st' : Option (List UInt8)} (h : Finds w g gr gw S st) (hg : w.grownBy w' (some g)) (hr : RD w' g S st') : Finds w' g gr gw S st' :=
  ⟨h.r.grown hg (by simp; exact fun e => h.ne1 e.symm), h.n.grown hg (by simp; exact fun e => h.ne2 e.symm), h.t.grownO hg (by simp; exact fun e => h.ne3 e.symm), hr, fun b hb => Nat.lt_of_lt_of_le (h.s b hb) hg.size, h.ne1, h.ne2, h.ne3⟩
theorem Finds.alloc {w : World} {g gr gw : Nat} {S : Nat → Prop} {st : Option (List UInt8)} (h : Finds w g gr gw S st) (o : Obj) : Finds (w.alloc o) g gr gw S st :=
  ⟨h.r.alloc o, h.n.alloc o, h.t.alloc o, h.d.alloc o, fun b hb => by have := h.s b hb; simp; omega, h.ne1, h.ne2, h.ne3⟩
theorem Finds.below {w w' : World} {g gr gw : Nat} {S : Nat → Prop} {st : Option (List UInt8)} (h : Finds w g gr gw S st) (hb : Below w.heap.size w w') : Finds w' g gr gw S st :=
  ⟨h.r.below hb h.r.lt, h.n.below hb h.n.lt, h.t.below hb, h.d.below hb, fun b hb' => Nat.lt_of_lt_of_le (h.s b hb') hb.size, h.ne1, h.ne2, h.ne3⟩
/-- Kept, if all that was there stays but the reader, and another block. -/
theorem Finds.grownX {w w' : World} {g gr gw B : Nat} {S : Nat → Prop} {st : Option (List UInt8)} {row : Option Nat} (h : Finds w g gr gw S st) (hg : w.grownBy w' row) (hr : ∀ x, row = some x → B ≤ x) (h1 : gr < B) (h2 : gw < B) (h3 : g < B) (h4 : ∀ b, S b → b < B) (h5 : 0 < B) : Finds w' g gr gw S st :=
  ⟨h.r.grown hg (fun e => by have := hr _ e; omega), h.n.grown hg (fun e => by have := hr _ e; omega), h.t.grownO hg (fun e => by have := hr _ e; omega), h.d.grownX hg (fun e => by have := hr _ e; omega) (fun x e hx => by have := hr _ e; have := h4 x hx; omega),
    fun b hb => Nat.lt_of_lt_of_le (h.s b hb) hg.size, h.ne1, h.ne2, h.ne3⟩

set_option maxHeartbeats 4000000 in
theorem next_of {d : Nat} (GK : Option (List UInt8) → Option (List UInt8) × Tm (d + 1)) (L : Nat) (hG : ∀ st, ((GK st).1.getD []).length ≤ (st.getD []).length) (g gr gw : Nat) (S : Nat → Prop)
    (hc : ∀ (st : Option (List UInt8)) (w : World), (st.getD []).length < L → (st.getD []).length ≤ 1000000 → Finds w g gr gw S st → Calls Tryd.prog 38 #[.pointer (some ⟨gr, 0, none⟩), .pointer (some ⟨gw, 0, none⟩)] w (NextPost w g S (GK st)))
    (st : Option (List UInt8)) (w : World) (hL : (st.getD []).length ≤ L) (hlen : (st.getD []).length ≤ 1000000) (hF : Finds w g gr gw S st) :
    Calls Tryd.prog 38 #[.pointer (some ⟨gr, 0, none⟩), .pointer (some ⟨gw, 0, none⟩)] w (NextPost w g S (f := d + 1 + 1) (readBy GK st)) := by
  obtain ⟨sK, hsK⟩ : ∃ sK, sK = readBy GK st := ⟨_, rfl⟩
  have e : readBy GK st = ((readK GK (kidsP (kindB (passed 1 st).2)).toNat (readD (kindB (passed 1 st).2) (readN (kindB (passed 1 st).2) (passed 1 st).1).1).1).1, ⟨kindB (passed 1 st).2, (readN (kindB (passed 1 st).2) (passed 1 st).1).2, (readD (kindB (passed 1 st).2) (readN (kindB (passed 1 st).2) (passed 1 st).1).1).2, (readK GK (kidsP (kindB (passed 1 st).2)).toNat (readD (kindB (passed 1 st).2) (readN (kindB (passed 1 st).2) (passed 1 st).1).1).1).2⟩) := rfl
  rw [e]
  clear e hsK sK
  have hkd := kind_rd g S st (w.alloc (.cells #[.int .i64 0, .int .u64 0, .slice none 0 0, .slice none 0 0] 26)) (hF.d.alloc _) (by omega)
  have hps := passed_short st
  have hpl := passed_le 1 st
  have hki := kindB_in (passed 1 st).2
  generalize kindB (passed 1 st).2 = k at *
  generalize (passed 1 st).1 = s0 at *
  have hI : I64 k := by unfold I64; omega
  have hKn : 0 ≤ kidsP k := by unfold kidsP; split <;> omega
  have hsh := fun (w : World) (h : Shp w) => shapeOf_any k w h
  unfold shp at hsh
  have hs0 : (s0.getD []).length ≤ 1000000 := by omega
  have h3N : k = 3 → numK k = false := fun h => by subst h; rfl
  have H3 : Hid (decide (k = 3) = true ↔ k = 3) := decide_eq_true_iff
  have H30 : Hid (decide (k = 3) = false ↔ ¬ k = 3) := decide_eq_false_iff_not
  have HKL : Hid (kidsP k ≠ 0 → (s0.getD []).length < L) := fun h => by have := hps h; omega
  have HKK : kidsP k ≤ 2 := by unfold kidsP; split; omega; exact kidsN_le k
  generalize kidsP k = Kn at *
  have hgr := hF.r.lt
  have hgw := hF.n.lt
  have hg := hF.d.lt
  have h00 := hF.t.1
  have hS := hF.s
  have K0 := KB.new w 26 #[.int .i64 0, .int .u64 0, .slice none 0 0, .slice none 0 0]
  have G0 := grown_of_below ((Below.refl w.heap.size w).alloc (Nat.le_refl _) (.cells #[.int .i64 0, .int .u64 0, .slice none 0 0, .slice none 0 0] 26)) (some g)
  have F0 := hF.alloc (.cells #[.int .i64 0, .int .u64 0, .slice none 0 0, .slice none 0 0] 26)
  have qr : w.cell? ⟨gr, 0, none⟩ = some (.pointer (some ⟨g, 0, none⟩)) := hF.r.cell 0
  clear hps hpl hL hlen hki
  have HK2 : Hid (Kn ≤ 2) := HKK
  clear HKK
  cases hN : numK k with
  | true =>
    have hD : decide (k = 3) = false := H30.out.2 fun h => by rw [h3N h] at hN; cases hN
    have hk3 := H30.out.1 hD
    rw [hN, hD] at hsh
    unfold readN readD
    rw [hN, if_pos rfl, if_neg hk3]
    have hnl := numOf_le s0
    have hnlt := numOf_lt s0
    have hrn := fun (w2 : World) (R2 : RD w2 g S s0) => num_some g S s0 w2 R2
    clear hN hD hk3 h3N H3 H30
    generalize numOf s0 = nn at *
    obtain ⟨s1, n1⟩ := nn
    simp only at hrn hnl hnlt ⊢
    have hsl0 : (s1.getD []).length ≤ 1000000 := by omega
    have HSL : Hid (Kn ≠ 0 → (s1.getD []).length < L) := fun h => by have := HKL.out h; omega
    obtain ⟨RL, hRL⟩ : ∃ RL, RL = readK GK Kn.toNat s1 := ⟨_, rfl⟩
    have HS0 : Hid (SofarK GK RL (Kn.toNat - 0) s1 []) := by show SofarK _ _ _ _ _; rw [hRL]; exact SofarK.start _ _ _
    rw [← hRL]
    obtain ⟨dat, hdat⟩ : ∃ dat : List UInt8, dat = [] := ⟨_, rfl⟩
    rw [← hdat]
    have hbs0 := fun (w : World) (S : Nat → Prop) => (by rw [hdat]; exact BS.nil w S : BS w S (.slice none 0 0) dat)
    clear hdat hRL hnl HKL
    go_enter Tryd.func38, Tryd.ntmps38
    go_wp2_with fail
    refine hkd.mono ?_
    rintro e w1 ⟨rfl, R1, G1⟩
    have K1 := K0.grown G1 (by simp; omega)
    have Ga := grown_trans G0 G1
    have F1 := F0.grown G1 R1
    have hw1 : w.heap.size + 1 ≤ w1.heap.size := by have := G1.size; simpa using this
    have T1 := KB.new w1 26 #[.int .i64 k, .int .u64 0, .slice none 0 0, .slice none 0 0]
    have K2 := K1.alloc (.cells #[.int .i64 k, .int .u64 0, .slice none 0 0, .slice none 0 0] 26)
    have F2 := F1.alloc (.cells #[.int .i64 k, .int .u64 0, .slice none 0 0, .slice none 0 0] 26)
    have Gb := grown_trans Ga (grown_of_below ((Below.refl w1.heap.size w1).alloc (Nat.le_refl _) (.cells #[.int .i64 k, .int .u64 0, .slice none 0 0, .slice none 0 0] 26)) (some g))
    clear hkd K0 G0 F0 K1 Ga F1 R1 G1 qr
    go_wp2_with fail
    refine (hsh _ F2.t).mono ?_
    rintro e w3 ⟨rfl, b3⟩
    have hw3 : w1.heap.size + 1 ≤ w3.heap.size := by have := b3.size; simpa using this
    have T3 := (T1.below b3 T1.lt).alloc (.cells #[.bool true, .bool false, .int .i64 Kn] 62)
    have K3 := (K2.below b3 K2.lt).alloc (.cells #[.bool true, .bool false, .int .i64 Kn] 62)
    have F3 := (F2.below b3).alloc (.cells #[.bool true, .bool false, .int .i64 Kn] 62)
    have H3b := KB.new w3 62 #[.bool true, .bool false, .int .i64 Kn]
    have Gc := grown_trans Gb (grown_of_below (b3.alloc (by have := b3.size; omega) (.cells #[.bool true, .bool false, .int .i64 Kn] 62)) (some g))
    have qr : w3.cell? ⟨gr, 0, none⟩ = some (.pointer (some ⟨g, 0, none⟩)) := (F2.below b3).r.cell 0
    have hgr3 : gr < w3.heap.size := (F2.below b3).r.lt
    clear hsh T1 K2 F2 Gb b3
    go_wp2_with fail
    refine (hrn _ F3.d).mono ?_
    rintro e w5 ⟨rfl, R5, G5⟩
    have hs35 : w3.heap.size + 1 ≤ w5.heap.size := by have := G5.size; simpa using this
    have T5 := T3.grown G5 (by simp; omega)
    have K5 := K3.grown G5 (by simp; omega)
    have H5 := H3b.grown G5 (by simp; omega)
    have F5 := F3.grown G5 R5
    have Gd := grown_trans Gc G5
    have p1 : w5.cell? ⟨w1.heap.size, 1, none⟩ = some (.int .u64 0) := T5.cell 1
    have f1 := T5.free 1
    have TF := T5.put 1 (.int .u64 n1)
    have KF := K5.far (h := w1.heap.size) (i := 1) (v := .int .u64 n1) (by omega)
    have HF := H5.far (h := w1.heap.size) (i := 1) (v := .int .u64 n1) (by omega)
    have FF := F5.grownX (B := w1.heap.size) (grown_set w5 w1.heap.size 1 (.int .u64 n1)) (fun x hx => by injection hx with hx; omega) (by omega) (by omega) (by omega) (fun x hx => by have := hS x hx; omega) (by omega)
    have GF := grown_new Gd (grown_set w5 w1.heap.size 1 (.int .u64 n1)) (by omega)
    have BF := hbs0 (w5.setCell ⟨w1.heap.size, 1, none⟩ (.int .u64 n1)) (SN w1.heap.size (w5.setCell ⟨w1.heap.size, 1, none⟩ (.int .u64 n1)) (.slice none 0 0))
    have h1 : (w5.setCell ⟨w1.heap.size, 1, none⟩ (.int .u64 n1)).cell? ⟨w3.heap.size, 1, none⟩ = some (.bool false) := HF.cell 1
    have h2 : (w5.setCell ⟨w1.heap.size, 1, none⟩ (.int .u64 n1)).cell? ⟨w3.heap.size, 2, none⟩ = some (.int .i64 Kn) := HF.cell 2
    clear hrn T3 K3 H3b F3 Gc G5 R5 T5 K5 H5 F5 Gd qr HF hbs0
    go_wp2_with fail
    clear p1 f1 h1 h2
    go_loopw [23] (fun iv wr => ∃ (j : Nat) (sj : Option (List UInt8)) (qs : List Quad) (ks : List (Tm (d + 1))) (kv : Value), j ≤ Kn.toNat ∧ ks.length = j ∧ Hid (SofarK GK RL (Kn.toNat - j) sj ks) ∧ Hid (Kn ≠ 0 → (sj.getD []).length < L) ∧ (sj.getD []).length ≤ 1000000 ∧ iv = .int .i64 j ∧ Finds wr g gr gw S sj ∧
        KB wr w.heap.size 26 #[.int .i64 0, .int .u64 0, .slice none 0 0, .slice none 0 0] ∧ KB wr w1.heap.size 26 #[.int .i64 k, .int .u64 n1, .slice none 0 0, kv] ∧ wr.ownsRow (w1.heap.size + 1) 26 4 kv qs.length (flatQ qs) ∧ QT wr (SN w1.heap.size wr kv) (d + 1) qs ks ∧ BS wr (SN w1.heap.size wr kv) (.slice none 0 0) dat ∧ w.grownBy wr (some g)) (fun iv _ => Kn.toNat - (intOf iv).toNat)
    case atStart => exact ⟨0, s1, [], [], .slice none 0 0, by omega, rfl, HS0, HSL, hsl0, rfl, FF, KF, TF, World.ownsRow_nil _ _ _ _, QT.nil _ _ _, BF, GF⟩
    case round =>
      clear FF KF TF BF GF HS0 HSL
      obtain ⟨j, sj, qs, ks, kv, hj, hkl, hso, hsll, hsl, rfl, FR, L4, L6, how, hq, hbs, G⟩ := hrel
      obtain ⟨A3, c3v, rfl⟩ := own_form how
      by_cases hlt : j < Kn.toNat
      · have hlt' : (j : Int) < Kn := by omega
        have hj2 : j ≤ 2 := by have := HK2.out; omega
        have hso2 : SofarK GK RL (Kn.toNat - (j + 1) + 1) sj ks := by
          have := hso.out
          rwa [show Kn.toNat - j = Kn.toNat - (j + 1) + 1 by omega] at this
        have HS2 := Lib.hid hso2.step
        have hls := Nat.le_trans (hG sj) hsl
        have HLS : Hid (Kn ≠ 0 → ((GK sj).1.getD []).length < L) := fun h => Nat.lt_of_le_of_lt (hG sj) (hsll.out h)
        have FR' : Finds wr.drew g gr gw S sj := FR.below (Below_drawn (Below.refl _ _) 1)
        have hcc := hc sj wr.drew (hsll.out (by omega)) hsl FR'
        unfold NextPost at hcc
        clear hso hso2 hsl hsll
        generalize GK sj = RT at *
        have L4' : KB wr.drew w.heap.size 26 #[.int .i64 0, .int .u64 0, .slice none 0 0, .slice none 0 0] := L4
        have L6' : KB wr.drew w1.heap.size 26 #[.int .i64 k, .int .u64 n1, .slice none 0 0, .slice A3 qs.length c3v] := L6
        have how' : wr.drew.ownsRow (w1.heap.size + 1) 26 4 (.slice A3 qs.length c3v) qs.length (flatQ qs) := how
        have hq' : QT wr.drew (SN w1.heap.size wr.drew (.slice A3 qs.length c3v)) (d + 1) qs ks := hq.keepS (Nat.le_refl _) (fun _ _ _ => rfl) fun _ h => h
        have hbs' : BS wr.drew (SN w1.heap.size wr.drew (.slice A3 qs.length c3v)) (.slice none 0 0) dat := hbs
        have HLq : Hid (qs.length + 1 ≤ 1000000000) := by have := hq.1; have := HK2.out; show _ ≤ _; omega
        have hg6 : g < w1.heap.size := by omega
        have G' : w.grownBy wr.drew (some g) := ⟨G.os, G.tape, G.output, G.size, G.block⟩
        have c3 : wr.cell? ⟨w1.heap.size, 3, none⟩ = some (.slice A3 qs.length c3v) := L6.cell 3
        have f3 := L6.free 3
        have qw : wr.cell? ⟨gw, 0, none⟩ = some (.func (.func 38) #[] #[.pointer (some ⟨gr, 0, none⟩), .pointer (some ⟨gw, 0, none⟩)]) := FR.n.cell 0
        clear L4 L6 how hq hbs G FR
        go_wp2_with fail
        go_region_law
          (first
            | (go_simp; go_at_call 38; refine hcc.mono ?_; rintro e w5 ⟨v5, rfl, R5, tv5, G5⟩; obtain ⟨e0, e1, e2, e3, rfl, tm5⟩ := tv5; have F5 := FR'.grown G5 R5; have L6a := L6'.grown G5 (by simp; omega); have how5 := own_grown how' G5 (by omega); have how6 := own_past ((Below.refl _ _).alloc (Nat.le_refl _) (.cells #[e0, e1, e2, e3] 26)) how5; have hone := (QT.one tm5).cells1; have hsz : w1.heap.size + 1 ≤ (w5.alloc (.cells #[e0, e1, e2, e3] 26)).heap.size := (by have := L6a.lt; simp; omega); clear c3 f3 qw how5; have ca : (w5.alloc (.cells #[e0, e1, e2, e3] 26)).cell? ⟨w1.heap.size, 3, none⟩ = some (.slice A3 qs.length c3v) := (L6a.alloc (.cells #[e0, e1, e2, e3] 26)).cell 3; have c3 : w5.cell? ⟨w1.heap.size, 3, none⟩ = some (.slice A3 qs.length c3v) := L6a.cell 3; have f3 := L6a.free 3)
            | (refine step_growT rfl _ _ rfl (w1.heap.size + 1) _ qs rfl how6 _ 1 [(e0, e1, e2, e3)] rfl (At_new w5 (e0, e1, e2, e3)) hone HLq.out hsz ?_; intro v7 w7 how7 hg7 h7; obtain ⟨qq, hqq⟩ : ∃ qq, qq = qs ++ [(e0, e1, e2, e3)] := ⟨_, rfl⟩; rw [← hqq] at how7; have HQQ := Lib.hid hqq; clear hqq; have L6b := (L6a.alloc (.cells #[e0, e1, e2, e3] 26)).grown hg7 (own_ne how6 (Nat.lt_succ_self w1.heap.size)); obtain ⟨A7, c7, rfl⟩ := own_form how7; clear c3 f3; have c3 : w7.cell? ⟨w1.heap.size, 3, none⟩ = some (.slice A3 qs.length c3v) := L6b.cell 3; have f3 := L6b.free 3))
        all_goals
          have h6 : w1.heap.size < wr.drew.heap.size := L6'.lt
          have L6f := L6b.put 3 (.slice A7 qq.length c7)
          have L4f := (((L4'.grown G5 (by simp; omega)).alloc (.cells #[e0, e1, e2, e3] 26)).grown hg7 (own_ne how6 (by omega))).far (h := w1.heap.size) (i := 3) (v := (.slice A7 qq.length c7)) (by omega)
          have Ff := ((F5.alloc (.cells #[e0, e1, e2, e3] 26)).grownX (B := w1.heap.size) hg7 (fun x hx => by have := own_ge how6 x hx; omega) (by omega) (by omega) (by omega) (fun x hx => by have := hS x hx; omega) (by omega)).grownX (B := w1.heap.size) (grown_set w7 w1.heap.size 3 (.slice A7 qq.length c7)) (fun x hx => by injection hx with hx; omega) (by omega) (by omega) (by omega) (fun x hx => by have := hS x hx; omega) (by omega)
          have howf := own_grown how7 (grown_set w7 w1.heap.size 3 (.slice A7 qq.length c7)) (Nat.lt_succ_self _)
          have hsz8 : w7.heap.size = (w7.setCell ⟨w1.heap.size, 3, none⟩ (.slice A7 qq.length c7)).heap.size := by simp [World.setCell]
          have hbl8 : ∀ x, x ≠ w1.heap.size → (w7.setCell ⟨w1.heap.size, 3, none⟩ (.slice A7 qq.length c7)).heap[x]? = w7.heap[x]? := fun x hx => Below.heap_setCell w7 ⟨w1.heap.size, 3, none⟩ (.slice A7 qq.length c7) x hx
          have hqf := QT.more hq' tm5 how' G5 hg6 h6 hg7 h7 hsz8 hbl8
          rw [← HQQ.out] at hqf
          have hbsf := BS.more hbs' G5 hg6 hg7 h7 hsz8 hbl8
          have Gf := grown_new (grown_newX (grown_trans (grown_trans G' G5) (grown_of_below ((Below.refl w5.heap.size w5).alloc (Nat.le_refl _) (.cells #[e0, e1, e2, e3] 26)) (some g))) hg7 (fun x hx => by have := own_ge how6 x hx; omega)) (grown_set w7 w1.heap.size 3 (.slice A7 qq.length c7)) (by omega)
          clear hq' hbs' how' how6 how7 hsz8 hbl8 tm5 hg7 h7 hone hsz ca c3 f3 L6a L6b L4' L6' FR' F5 R5 G5 G' hcc hc
          go_wp2
          go_roundw
          case rel => exact ⟨j + 1, RT.1, qq, ks ++ ([RT.2] : List (Tm (d + 1))), (.slice A7 qq.length c7), by omega, by rw [List.length_append, hkl]; rfl, HS2, HLS, hls, by go_num, Ff, L4f, L6f, howf, hqf, hbsf, Gf⟩
          case measure => simp [intOf]; omega
      · have hlt' : ¬ (j : Int) < Kn := by omega
        have hr : RL = (sj, ks) := by
          have := hso.out
          rw [show Kn.toNat - j = 0 by omega] at this
          exact this.done
        clear hso hc
        subst hr
        have R := FR.d
        have c60 : wr.cell? ⟨w1.heap.size, 0, none⟩ = some (.int .i64 k) := L6.cell 0
        have c61 : wr.cell? ⟨w1.heap.size, 1, none⟩ = some (.int .u64 n1) := L6.cell 1
        have c62 : wr.cell? ⟨w1.heap.size, 2, none⟩ = some (.slice none 0 0) := L6.cell 2
        have c63 : wr.cell? ⟨w1.heap.size, 3, none⟩ = some (.slice A3 qs.length c3v) := L6.cell 3
        have c40 : wr.cell? ⟨w.heap.size, 0, none⟩ = some (.int .i64 0) := L4.cell 0
        have c41 : wr.cell? ⟨w.heap.size, 1, none⟩ = some (.int .u64 0) := L4.cell 1
        have c42 : wr.cell? ⟨w.heap.size, 2, none⟩ = some (.slice none 0 0) := L4.cell 2
        have c43 : wr.cell? ⟨w.heap.size, 3, none⟩ = some (.slice none 0 0) := L4.cell 3
        have f40 := L4.free 0
        have f41 := L4.free 1
        have f42 := L4.free 2
        have f43 := L4.free 3
        have hSg : ¬ S w.heap.size := fun h => Nat.lt_irrefl _ (hS _ h)
        have hne : ¬ w.heap.size = g := by omega
        go_wp2_with fail
        refine bodyPost_ret (results_cell_row (P := Tryd.prog) rfl _ _ w.heap.size _ _ (0, 0) _ rfl (put_four L4) Tryd.underlying26 rfl (by kernel_rfl)) rfl
          ⟨_, rfl, (((R.far hne hSg).far hne hSg).far hne hSg).far hne hSg, read_TV hI hnlt (hbs.mono fun b h => h.1) how (hq.mono fun b h => h.1) (by omega) (sets_size _ _ _ _ _ _) (fun b hb => sets_block _ _ _ _ _ _ _ (by omega)), grown_new G (grown_four _ _ _ _ _ _) (Nat.le_refl _)⟩
  | false =>
    cases hD : decide (k = 3) with
    | true =>
      have hk3 := H3.out.1 hD
      rw [hN, hD] at hsh
      unfold readN readD
      rw [hN, if_neg Bool.false_ne_true, if_pos hk3]
      have hnl := txtOf_le 100 s0
      have hnlt : (0 : Nat) < 18446744073709551616 := by omega
      have hrt := fun (w2 : World) (R2 : RD w2 g S s0) => text_some 100 (by omega) g S s0 w2 R2 (by omega)
      clear hN hD hk3 h3N H3 H30
      dsimp only at hrt hnl ⊢
      generalize txtOf 100 s0 = nn at *
      obtain ⟨s1, dat⟩ := nn
      simp only at hrt hnl ⊢
      have hsl0 : (s1.getD []).length ≤ 1000000 := by omega
      have HSL : Hid (Kn ≠ 0 → (s1.getD []).length < L) := fun h => by have := HKL.out h; omega
      obtain ⟨RL, hRL⟩ : ∃ RL, RL = readK GK Kn.toNat s1 := ⟨_, rfl⟩
      have HS0 : Hid (SofarK GK RL (Kn.toNat - 0) s1 []) := by show SofarK _ _ _ _ _; rw [hRL]; exact SofarK.start _ _ _
      rw [← hRL]
      clear hRL hnl HKL
      go_enter Tryd.func38, Tryd.ntmps38
      go_wp2_with fail
      refine hkd.mono ?_
      rintro e w1 ⟨rfl, R1, G1⟩
      have K1 := K0.grown G1 (by simp; omega)
      have Ga := grown_trans G0 G1
      have F1 := F0.grown G1 R1
      have hw1 : w.heap.size + 1 ≤ w1.heap.size := by have := G1.size; simpa using this
      have T1 := KB.new w1 26 #[.int .i64 k, .int .u64 0, .slice none 0 0, .slice none 0 0]
      have K2 := K1.alloc (.cells #[.int .i64 k, .int .u64 0, .slice none 0 0, .slice none 0 0] 26)
      have F2 := F1.alloc (.cells #[.int .i64 k, .int .u64 0, .slice none 0 0, .slice none 0 0] 26)
      have Gb := grown_trans Ga (grown_of_below ((Below.refl w1.heap.size w1).alloc (Nat.le_refl _) (.cells #[.int .i64 k, .int .u64 0, .slice none 0 0, .slice none 0 0] 26)) (some g))
      clear hkd K0 G0 F0 K1 Ga F1 R1 G1 qr
      go_wp2_with fail
      refine (hsh _ F2.t).mono ?_
      rintro e w3 ⟨rfl, b3⟩
      have hw3 : w1.heap.size + 1 ≤ w3.heap.size := by have := b3.size; simpa using this
      have T3 := (T1.below b3 T1.lt).alloc (.cells #[.bool false, .bool true, .int .i64 Kn] 62)
      have K3 := (K2.below b3 K2.lt).alloc (.cells #[.bool false, .bool true, .int .i64 Kn] 62)
      have F3 := (F2.below b3).alloc (.cells #[.bool false, .bool true, .int .i64 Kn] 62)
      have H3b := KB.new w3 62 #[.bool false, .bool true, .int .i64 Kn]
      have Gc := grown_trans Gb (grown_of_below (b3.alloc (by have := b3.size; omega) (.cells #[.bool false, .bool true, .int .i64 Kn] 62)) (some g))
      have qr : w3.cell? ⟨gr, 0, none⟩ = some (.pointer (some ⟨g, 0, none⟩)) := (F2.below b3).r.cell 0
      have hgr3 : gr < w3.heap.size := (F2.below b3).r.lt
      clear hsh T1 K2 F2 Gb b3
      go_wp2_with fail
      refine (hrt _ F3.d).mono ?_
      rintro e w5 ⟨v5, rfl, R5, how5, G5⟩
      have hs35 : w3.heap.size + 1 ≤ w5.heap.size := by have := G5.size; simpa using this
      have hb5 := own_BS how5
      obtain ⟨A5, c5, rfl⟩ := own_form how5
      have T5 := T3.grown G5 (by simp; omega)
      have K5 := K3.grown G5 (by simp; omega)
      have H5 := H3b.grown G5 (by simp; omega)
      have F5 := F3.grown G5 R5
      have Gd := grown_trans Gc G5
      have p1 : w5.cell? ⟨w1.heap.size, 2, none⟩ = some (.slice none 0 0) := T5.cell 2
      have f1 := T5.free 2
      have TF := T5.put 2 (.slice A5 dat.length c5)
      have KF := K5.far (h := w1.heap.size) (i := 2) (v := .slice A5 dat.length c5) (by omega)
      have HF := H5.far (h := w1.heap.size) (i := 2) (v := .slice A5 dat.length c5) (by omega)
      have FF := F5.grownX (B := w1.heap.size) (grown_set w5 w1.heap.size 2 (.slice A5 dat.length c5)) (fun x hx => by injection hx with hx; omega) (by omega) (by omega) (by omega) (fun x hx => by have := hS x hx; omega) (by omega)
      have GF := grown_new Gd (grown_set w5 w1.heap.size 2 (.slice A5 dat.length c5)) (by omega)
      have BF := (hb5.setCell (p := ⟨w1.heap.size, 2, none⟩) (fun h => by have h' := h.1; simp at h'; omega) (.slice A5 dat.length c5)).mono (S' := SN w1.heap.size (w5.setCell ⟨w1.heap.size, 2, none⟩ (.slice A5 dat.length c5)) (.slice none 0 0)) fun b hb => ⟨by have h' := hb.1; simp at h'; omega, by simp [Value.ownBlock], by have := hb.2; simpa [World.setCell] using this⟩
      have h1 : (w5.setCell ⟨w1.heap.size, 2, none⟩ (.slice A5 dat.length c5)).cell? ⟨w3.heap.size, 2, none⟩ = some (.int .i64 Kn) := HF.cell 2
      clear hrt T3 K3 H3b F3 Gc G5 R5 T5 K5 H5 F5 Gd qr HF hb5 how5
      go_wp2_with fail
      clear p1 f1 h1
      go_loopw [23] (fun iv wr => ∃ (j : Nat) (sj : Option (List UInt8)) (qs : List Quad) (ks : List (Tm (d + 1))) (kv : Value), j ≤ Kn.toNat ∧ ks.length = j ∧ Hid (SofarK GK RL (Kn.toNat - j) sj ks) ∧ Hid (Kn ≠ 0 → (sj.getD []).length < L) ∧ (sj.getD []).length ≤ 1000000 ∧ iv = .int .i64 j ∧ Finds wr g gr gw S sj ∧
          KB wr w.heap.size 26 #[.int .i64 0, .int .u64 0, .slice none 0 0, .slice none 0 0] ∧ KB wr w1.heap.size 26 #[.int .i64 k, .int .u64 0, .slice A5 dat.length c5, kv] ∧ wr.ownsRow (w1.heap.size + 1) 26 4 kv qs.length (flatQ qs) ∧ QT wr (SN w1.heap.size wr kv) (d + 1) qs ks ∧ BS wr (SN w1.heap.size wr kv) (.slice A5 dat.length c5) dat ∧ w.grownBy wr (some g)) (fun iv _ => Kn.toNat - (intOf iv).toNat)
      case atStart => exact ⟨0, s1, [], [], .slice none 0 0, by omega, rfl, HS0, HSL, hsl0, rfl, FF, KF, TF, World.ownsRow_nil _ _ _ _, QT.nil _ _ _, BF, GF⟩
      case round =>
        clear FF KF TF BF GF HS0 HSL
        obtain ⟨j, sj, qs, ks, kv, hj, hkl, hso, hsll, hsl, rfl, FR, L4, L6, how, hq, hbs, G⟩ := hrel
        obtain ⟨A3, c3v, rfl⟩ := own_form how
        by_cases hlt : j < Kn.toNat
        · have hlt' : (j : Int) < Kn := by omega
          have hj2 : j ≤ 2 := by have := HK2.out; omega
          have hso2 : SofarK GK RL (Kn.toNat - (j + 1) + 1) sj ks := by
            have := hso.out
            rwa [show Kn.toNat - j = Kn.toNat - (j + 1) + 1 by omega] at this
          have HS2 := Lib.hid hso2.step
          have hls := Nat.le_trans (hG sj) hsl
          have HLS : Hid (Kn ≠ 0 → ((GK sj).1.getD []).length < L) := fun h => Nat.lt_of_le_of_lt (hG sj) (hsll.out h)
          have FR' : Finds wr.drew g gr gw S sj := FR.below (Below_drawn (Below.refl _ _) 1)
          have hcc := hc sj wr.drew (hsll.out (by omega)) hsl FR'
          unfold NextPost at hcc
          clear hso hso2 hsl hsll
          generalize GK sj = RT at *
          have L4' : KB wr.drew w.heap.size 26 #[.int .i64 0, .int .u64 0, .slice none 0 0, .slice none 0 0] := L4
          have L6' : KB wr.drew w1.heap.size 26 #[.int .i64 k, .int .u64 0, .slice A5 dat.length c5, .slice A3 qs.length c3v] := L6
          have how' : wr.drew.ownsRow (w1.heap.size + 1) 26 4 (.slice A3 qs.length c3v) qs.length (flatQ qs) := how
          have hq' : QT wr.drew (SN w1.heap.size wr.drew (.slice A3 qs.length c3v)) (d + 1) qs ks := hq.keepS (Nat.le_refl _) (fun _ _ _ => rfl) fun _ h => h
          have hbs' : BS wr.drew (SN w1.heap.size wr.drew (.slice A3 qs.length c3v)) (.slice A5 dat.length c5) dat := hbs
          have HLq : Hid (qs.length + 1 ≤ 1000000000) := by have := hq.1; have := HK2.out; show _ ≤ _; omega
          have hg6 : g < w1.heap.size := by omega
          have G' : w.grownBy wr.drew (some g) := ⟨G.os, G.tape, G.output, G.size, G.block⟩
          have c3 : wr.cell? ⟨w1.heap.size, 3, none⟩ = some (.slice A3 qs.length c3v) := L6.cell 3
          have f3 := L6.free 3
          have qw : wr.cell? ⟨gw, 0, none⟩ = some (.func (.func 38) #[] #[.pointer (some ⟨gr, 0, none⟩), .pointer (some ⟨gw, 0, none⟩)]) := FR.n.cell 0
          clear L4 L6 how hq hbs G FR
          go_wp2_with fail
          go_region_law
            (first
              | (go_simp; go_at_call 38; refine hcc.mono ?_; rintro e w5 ⟨v5, rfl, R5, tv5, G5⟩; obtain ⟨e0, e1, e2, e3, rfl, tm5⟩ := tv5; have F5 := FR'.grown G5 R5; have L6a := L6'.grown G5 (by simp; omega); have how5 := own_grown how' G5 (by omega); have how6 := own_past ((Below.refl _ _).alloc (Nat.le_refl _) (.cells #[e0, e1, e2, e3] 26)) how5; have hone := (QT.one tm5).cells1; have hsz : w1.heap.size + 1 ≤ (w5.alloc (.cells #[e0, e1, e2, e3] 26)).heap.size := (by have := L6a.lt; simp; omega); clear c3 f3 qw how5; have ca : (w5.alloc (.cells #[e0, e1, e2, e3] 26)).cell? ⟨w1.heap.size, 3, none⟩ = some (.slice A3 qs.length c3v) := (L6a.alloc (.cells #[e0, e1, e2, e3] 26)).cell 3; have c3 : w5.cell? ⟨w1.heap.size, 3, none⟩ = some (.slice A3 qs.length c3v) := L6a.cell 3; have f3 := L6a.free 3)
              | (refine step_growT rfl _ _ rfl (w1.heap.size + 1) _ qs rfl how6 _ 1 [(e0, e1, e2, e3)] rfl (At_new w5 (e0, e1, e2, e3)) hone HLq.out hsz ?_; intro v7 w7 how7 hg7 h7; obtain ⟨qq, hqq⟩ : ∃ qq, qq = qs ++ [(e0, e1, e2, e3)] := ⟨_, rfl⟩; rw [← hqq] at how7; have HQQ := Lib.hid hqq; clear hqq; have L6b := (L6a.alloc (.cells #[e0, e1, e2, e3] 26)).grown hg7 (own_ne how6 (Nat.lt_succ_self w1.heap.size)); obtain ⟨A7, c7, rfl⟩ := own_form how7; clear c3 f3; have c3 : w7.cell? ⟨w1.heap.size, 3, none⟩ = some (.slice A3 qs.length c3v) := L6b.cell 3; have f3 := L6b.free 3))
          all_goals
            have h6 : w1.heap.size < wr.drew.heap.size := L6'.lt
            have L6f := L6b.put 3 (.slice A7 qq.length c7)
            have L4f := (((L4'.grown G5 (by simp; omega)).alloc (.cells #[e0, e1, e2, e3] 26)).grown hg7 (own_ne how6 (by omega))).far (h := w1.heap.size) (i := 3) (v := (.slice A7 qq.length c7)) (by omega)
            have Ff := ((F5.alloc (.cells #[e0, e1, e2, e3] 26)).grownX (B := w1.heap.size) hg7 (fun x hx => by have := own_ge how6 x hx; omega) (by omega) (by omega) (by omega) (fun x hx => by have := hS x hx; omega) (by omega)).grownX (B := w1.heap.size) (grown_set w7 w1.heap.size 3 (.slice A7 qq.length c7)) (fun x hx => by injection hx with hx; omega) (by omega) (by omega) (by omega) (fun x hx => by have := hS x hx; omega) (by omega)
            have howf := own_grown how7 (grown_set w7 w1.heap.size 3 (.slice A7 qq.length c7)) (Nat.lt_succ_self _)
            have hsz8 : w7.heap.size = (w7.setCell ⟨w1.heap.size, 3, none⟩ (.slice A7 qq.length c7)).heap.size := by simp [World.setCell]
            have hbl8 : ∀ x, x ≠ w1.heap.size → (w7.setCell ⟨w1.heap.size, 3, none⟩ (.slice A7 qq.length c7)).heap[x]? = w7.heap[x]? := fun x hx => Below.heap_setCell w7 ⟨w1.heap.size, 3, none⟩ (.slice A7 qq.length c7) x hx
            have hqf := QT.more hq' tm5 how' G5 hg6 h6 hg7 h7 hsz8 hbl8
            rw [← HQQ.out] at hqf
            have hbsf := BS.more hbs' G5 hg6 hg7 h7 hsz8 hbl8
            have Gf := grown_new (grown_newX (grown_trans (grown_trans G' G5) (grown_of_below ((Below.refl w5.heap.size w5).alloc (Nat.le_refl _) (.cells #[e0, e1, e2, e3] 26)) (some g))) hg7 (fun x hx => by have := own_ge how6 x hx; omega)) (grown_set w7 w1.heap.size 3 (.slice A7 qq.length c7)) (by omega)
            clear hq' hbs' how' how6 how7 hsz8 hbl8 tm5 hg7 h7 hone hsz ca c3 f3 L6a L6b L4' L6' FR' F5 R5 G5 G' hcc hc
            go_wp2
            go_roundw
            case rel => exact ⟨j + 1, RT.1, qq, ks ++ ([RT.2] : List (Tm (d + 1))), (.slice A7 qq.length c7), by omega, by rw [List.length_append, hkl]; rfl, HS2, HLS, hls, by go_num, Ff, L4f, L6f, howf, hqf, hbsf, Gf⟩
            case measure => simp [intOf]; omega
        · have hlt' : ¬ (j : Int) < Kn := by omega
          have hr : RL = (sj, ks) := by
            have := hso.out
            rw [show Kn.toNat - j = 0 by omega] at this
            exact this.done
          clear hso hc
          subst hr
          have R := FR.d
          have c60 : wr.cell? ⟨w1.heap.size, 0, none⟩ = some (.int .i64 k) := L6.cell 0
          have c61 : wr.cell? ⟨w1.heap.size, 1, none⟩ = some (.int .u64 0) := L6.cell 1
          have c62 : wr.cell? ⟨w1.heap.size, 2, none⟩ = some (.slice A5 dat.length c5) := L6.cell 2
          have c63 : wr.cell? ⟨w1.heap.size, 3, none⟩ = some (.slice A3 qs.length c3v) := L6.cell 3
          have c40 : wr.cell? ⟨w.heap.size, 0, none⟩ = some (.int .i64 0) := L4.cell 0
          have c41 : wr.cell? ⟨w.heap.size, 1, none⟩ = some (.int .u64 0) := L4.cell 1
          have c42 : wr.cell? ⟨w.heap.size, 2, none⟩ = some (.slice none 0 0) := L4.cell 2
          have c43 : wr.cell? ⟨w.heap.size, 3, none⟩ = some (.slice none 0 0) := L4.cell 3
          have f40 := L4.free 0
          have f41 := L4.free 1
          have f42 := L4.free 2
          have f43 := L4.free 3
          have hSg : ¬ S w.heap.size := fun h => Nat.lt_irrefl _ (hS _ h)
          have hne : ¬ w.heap.size = g := by omega
          go_wp2_with fail
          refine bodyPost_ret (results_cell_row (P := Tryd.prog) rfl _ _ w.heap.size _ _ (0, 0) _ rfl (put_four L4) Tryd.underlying26 rfl (by kernel_rfl)) rfl
            ⟨_, rfl, (((R.far hne hSg).far hne hSg).far hne hSg).far hne hSg, read_TV hI hnlt (hbs.mono fun b h => h.1) how (hq.mono fun b h => h.1) (by omega) (sets_size _ _ _ _ _ _) (fun b hb => sets_block _ _ _ _ _ _ _ (by omega)), grown_new G (grown_four _ _ _ _ _ _) (Nat.le_refl _)⟩
    | false =>
      have hk3 := H30.out.1 hD
      rw [hN, hD] at hsh
      unfold readN readD
      rw [hN, if_neg Bool.false_ne_true, if_neg hk3]
      have hnlt : (0 : Nat) < 18446744073709551616 := by omega
      clear hN hD hk3 h3N H3 H30
      dsimp only
      obtain ⟨s1, hs1⟩ : ∃ s1, s1 = s0 := ⟨_, rfl⟩
      rw [← hs1] at hs0 HKL hkd ⊢
      clear hs1
      have hsl0 : (s1.getD []).length ≤ 1000000 := by omega
      have HSL : Hid (Kn ≠ 0 → (s1.getD []).length < L) := HKL
      obtain ⟨RL, hRL⟩ : ∃ RL, RL = readK GK Kn.toNat s1 := ⟨_, rfl⟩
      have HS0 : Hid (SofarK GK RL (Kn.toNat - 0) s1 []) := by show SofarK _ _ _ _ _; rw [hRL]; exact SofarK.start _ _ _
      rw [← hRL]
      obtain ⟨dat, hdat⟩ : ∃ dat : List UInt8, dat = [] := ⟨_, rfl⟩
      rw [← hdat]
      have hbs0 := fun (w : World) (S : Nat → Prop) => (by rw [hdat]; exact BS.nil w S : BS w S (.slice none 0 0) dat)
      clear hdat hRL HKL
      go_enter Tryd.func38, Tryd.ntmps38
      go_wp2_with fail
      refine hkd.mono ?_
      rintro e w1 ⟨rfl, R1, G1⟩
      have K1 := K0.grown G1 (by simp; omega)
      have Ga := grown_trans G0 G1
      have F1 := F0.grown G1 R1
      have hw1 : w.heap.size + 1 ≤ w1.heap.size := by have := G1.size; simpa using this
      have T1 := KB.new w1 26 #[.int .i64 k, .int .u64 0, .slice none 0 0, .slice none 0 0]
      have K2 := K1.alloc (.cells #[.int .i64 k, .int .u64 0, .slice none 0 0, .slice none 0 0] 26)
      have F2 := F1.alloc (.cells #[.int .i64 k, .int .u64 0, .slice none 0 0, .slice none 0 0] 26)
      have Gb := grown_trans Ga (grown_of_below ((Below.refl w1.heap.size w1).alloc (Nat.le_refl _) (.cells #[.int .i64 k, .int .u64 0, .slice none 0 0, .slice none 0 0] 26)) (some g))
      clear hkd K0 G0 F0 K1 Ga F1 R1 G1 qr
      go_wp2_with fail
      refine (hsh _ F2.t).mono ?_
      rintro e w3 ⟨rfl, b3⟩
      have hw3 : w1.heap.size + 1 ≤ w3.heap.size := by have := b3.size; simpa using this
      have T3 := (T1.below b3 T1.lt).alloc (.cells #[.bool false, .bool false, .int .i64 Kn] 62)
      have K3 := (K2.below b3 K2.lt).alloc (.cells #[.bool false, .bool false, .int .i64 Kn] 62)
      have F3 := (F2.below b3).alloc (.cells #[.bool false, .bool false, .int .i64 Kn] 62)
      have H3b := KB.new w3 62 #[.bool false, .bool false, .int .i64 Kn]
      have Gc := grown_trans Gb (grown_of_below (b3.alloc (by have := b3.size; omega) (.cells #[.bool false, .bool false, .int .i64 Kn] 62)) (some g))
      have qr : w3.cell? ⟨gr, 0, none⟩ = some (.pointer (some ⟨g, 0, none⟩)) := (F2.below b3).r.cell 0
      have hgr3 : gr < w3.heap.size := (F2.below b3).r.lt
      clear hsh T1 K2 F2 Gb b3
      go_wp2_with fail
      have TF := T3
      have KF := K3
      have FF := F3
      have GF := Gc
      have BF := hbs0 (w3.alloc (.cells #[.bool false, .bool false, .int .i64 Kn] 62)) (SN w1.heap.size (w3.alloc (.cells #[.bool false, .bool false, .int .i64 Kn] 62)) (.slice none 0 0))
      clear T3 K3 H3b F3 Gc qr hbs0
      go_loopw [23] (fun iv wr => ∃ (j : Nat) (sj : Option (List UInt8)) (qs : List Quad) (ks : List (Tm (d + 1))) (kv : Value), j ≤ Kn.toNat ∧ ks.length = j ∧ Hid (SofarK GK RL (Kn.toNat - j) sj ks) ∧ Hid (Kn ≠ 0 → (sj.getD []).length < L) ∧ (sj.getD []).length ≤ 1000000 ∧ iv = .int .i64 j ∧ Finds wr g gr gw S sj ∧
          KB wr w.heap.size 26 #[.int .i64 0, .int .u64 0, .slice none 0 0, .slice none 0 0] ∧ KB wr w1.heap.size 26 #[.int .i64 k, .int .u64 0, .slice none 0 0, kv] ∧ wr.ownsRow (w1.heap.size + 1) 26 4 kv qs.length (flatQ qs) ∧ QT wr (SN w1.heap.size wr kv) (d + 1) qs ks ∧ BS wr (SN w1.heap.size wr kv) (.slice none 0 0) dat ∧ w.grownBy wr (some g)) (fun iv _ => Kn.toNat - (intOf iv).toNat)
      case atStart => exact ⟨0, s1, [], [], .slice none 0 0, by omega, rfl, HS0, HSL, hsl0, rfl, FF, KF, TF, World.ownsRow_nil _ _ _ _, QT.nil _ _ _, BF, GF⟩
      case round =>
        clear FF KF TF BF GF HS0 HSL
        obtain ⟨j, sj, qs, ks, kv, hj, hkl, hso, hsll, hsl, rfl, FR, L4, L6, how, hq, hbs, G⟩ := hrel
        obtain ⟨A3, c3v, rfl⟩ := own_form how
        by_cases hlt : j < Kn.toNat
        · have hlt' : (j : Int) < Kn := by omega
          have hj2 : j ≤ 2 := by have := HK2.out; omega
          have hso2 : SofarK GK RL (Kn.toNat - (j + 1) + 1) sj ks := by
            have := hso.out
            rwa [show Kn.toNat - j = Kn.toNat - (j + 1) + 1 by omega] at this
          have HS2 := Lib.hid hso2.step
          have hls := Nat.le_trans (hG sj) hsl
          have HLS : Hid (Kn ≠ 0 → ((GK sj).1.getD []).length < L) := fun h => Nat.lt_of_le_of_lt (hG sj) (hsll.out h)
          have FR' : Finds wr.drew g gr gw S sj := FR.below (Below_drawn (Below.refl _ _) 1)
          have hcc := hc sj wr.drew (hsll.out (by omega)) hsl FR'
          unfold NextPost at hcc
          clear hso hso2 hsl hsll
          generalize GK sj = RT at *
          have L4' : KB wr.drew w.heap.size 26 #[.int .i64 0, .int .u64 0, .slice none 0 0, .slice none 0 0] := L4
          have L6' : KB wr.drew w1.heap.size 26 #[.int .i64 k, .int .u64 0, .slice none 0 0, .slice A3 qs.length c3v] := L6
          have how' : wr.drew.ownsRow (w1.heap.size + 1) 26 4 (.slice A3 qs.length c3v) qs.length (flatQ qs) := how
          have hq' : QT wr.drew (SN w1.heap.size wr.drew (.slice A3 qs.length c3v)) (d + 1) qs ks := hq.keepS (Nat.le_refl _) (fun _ _ _ => rfl) fun _ h => h
          have hbs' : BS wr.drew (SN w1.heap.size wr.drew (.slice A3 qs.length c3v)) (.slice none 0 0) dat := hbs
          have HLq : Hid (qs.length + 1 ≤ 1000000000) := by have := hq.1; have := HK2.out; show _ ≤ _; omega
          have hg6 : g < w1.heap.size := by omega
          have G' : w.grownBy wr.drew (some g) := ⟨G.os, G.tape, G.output, G.size, G.block⟩
          have c3 : wr.cell? ⟨w1.heap.size, 3, none⟩ = some (.slice A3 qs.length c3v) := L6.cell 3
          have f3 := L6.free 3
          have qw : wr.cell? ⟨gw, 0, none⟩ = some (.func (.func 38) #[] #[.pointer (some ⟨gr, 0, none⟩), .pointer (some ⟨gw, 0, none⟩)]) := FR.n.cell 0
          clear L4 L6 how hq hbs G FR
          go_wp2_with fail
          go_region_law
            (first
              | (go_simp; go_at_call 38; refine hcc.mono ?_; rintro e w5 ⟨v5, rfl, R5, tv5, G5⟩; obtain ⟨e0, e1, e2, e3, rfl, tm5⟩ := tv5; have F5 := FR'.grown G5 R5; have L6a := L6'.grown G5 (by simp; omega); have how5 := own_grown how' G5 (by omega); have how6 := own_past ((Below.refl _ _).alloc (Nat.le_refl _) (.cells #[e0, e1, e2, e3] 26)) how5; have hone := (QT.one tm5).cells1; have hsz : w1.heap.size + 1 ≤ (w5.alloc (.cells #[e0, e1, e2, e3] 26)).heap.size := (by have := L6a.lt; simp; omega); clear c3 f3 qw how5; have ca : (w5.alloc (.cells #[e0, e1, e2, e3] 26)).cell? ⟨w1.heap.size, 3, none⟩ = some (.slice A3 qs.length c3v) := (L6a.alloc (.cells #[e0, e1, e2, e3] 26)).cell 3; have c3 : w5.cell? ⟨w1.heap.size, 3, none⟩ = some (.slice A3 qs.length c3v) := L6a.cell 3; have f3 := L6a.free 3)
              | (refine step_growT rfl _ _ rfl (w1.heap.size + 1) _ qs rfl how6 _ 1 [(e0, e1, e2, e3)] rfl (At_new w5 (e0, e1, e2, e3)) hone HLq.out hsz ?_; intro v7 w7 how7 hg7 h7; obtain ⟨qq, hqq⟩ : ∃ qq, qq = qs ++ [(e0, e1, e2, e3)] := ⟨_, rfl⟩; rw [← hqq] at how7; have HQQ := Lib.hid hqq; clear hqq; have L6b := (L6a.alloc (.cells #[e0, e1, e2, e3] 26)).grown hg7 (own_ne how6 (Nat.lt_succ_self w1.heap.size)); obtain ⟨A7, c7, rfl⟩ := own_form how7; clear c3 f3; have c3 : w7.cell? ⟨w1.heap.size, 3, none⟩ = some (.slice A3 qs.length c3v) := L6b.cell 3; have f3 := L6b.free 3))
          all_goals
            have h6 : w1.heap.size < wr.drew.heap.size := L6'.lt
            have L6f := L6b.put 3 (.slice A7 qq.length c7)
            have L4f := (((L4'.grown G5 (by simp; omega)).alloc (.cells #[e0, e1, e2, e3] 26)).grown hg7 (own_ne how6 (by omega))).far (h := w1.heap.size) (i := 3) (v := (.slice A7 qq.length c7)) (by omega)
            have Ff := ((F5.alloc (.cells #[e0, e1, e2, e3] 26)).grownX (B := w1.heap.size) hg7 (fun x hx => by have := own_ge how6 x hx; omega) (by omega) (by omega) (by omega) (fun x hx => by have := hS x hx; omega) (by omega)).grownX (B := w1.heap.size) (grown_set w7 w1.heap.size 3 (.slice A7 qq.length c7)) (fun x hx => by injection hx with hx; omega) (by omega) (by omega) (by omega) (fun x hx => by have := hS x hx; omega) (by omega)
            have howf := own_grown how7 (grown_set w7 w1.heap.size 3 (.slice A7 qq.length c7)) (Nat.lt_succ_self _)
            have hsz8 : w7.heap.size = (w7.setCell ⟨w1.heap.size, 3, none⟩ (.slice A7 qq.length c7)).heap.size := by simp [World.setCell]
            have hbl8 : ∀ x, x ≠ w1.heap.size → (w7.setCell ⟨w1.heap.size, 3, none⟩ (.slice A7 qq.length c7)).heap[x]? = w7.heap[x]? := fun x hx => Below.heap_setCell w7 ⟨w1.heap.size, 3, none⟩ (.slice A7 qq.length c7) x hx
            have hqf := QT.more hq' tm5 how' G5 hg6 h6 hg7 h7 hsz8 hbl8
            rw [← HQQ.out] at hqf
            have hbsf := BS.more hbs' G5 hg6 hg7 h7 hsz8 hbl8
            have Gf := grown_new (grown_newX (grown_trans (grown_trans G' G5) (grown_of_below ((Below.refl w5.heap.size w5).alloc (Nat.le_refl _) (.cells #[e0, e1, e2, e3] 26)) (some g))) hg7 (fun x hx => by have := own_ge how6 x hx; omega)) (grown_set w7 w1.heap.size 3 (.slice A7 qq.length c7)) (by omega)
            clear hq' hbs' how' how6 how7 hsz8 hbl8 tm5 hg7 h7 hone hsz ca c3 f3 L6a L6b L4' L6' FR' F5 R5 G5 G' hcc hc
            go_wp2
            go_roundw
            case rel => exact ⟨j + 1, RT.1, qq, ks ++ ([RT.2] : List (Tm (d + 1))), (.slice A7 qq.length c7), by omega, by rw [List.length_append, hkl]; rfl, HS2, HLS, hls, by go_num, Ff, L4f, L6f, howf, hqf, hbsf, Gf⟩
            case measure => simp [intOf]; omega
        · have hlt' : ¬ (j : Int) < Kn := by omega
          have hr : RL = (sj, ks) := by
            have := hso.out
            rw [show Kn.toNat - j = 0 by omega] at this
            exact this.done
          clear hso hc
          subst hr
          have R := FR.d
          have c60 : wr.cell? ⟨w1.heap.size, 0, none⟩ = some (.int .i64 k) := L6.cell 0
          have c61 : wr.cell? ⟨w1.heap.size, 1, none⟩ = some (.int .u64 0) := L6.cell 1
          have c62 : wr.cell? ⟨w1.heap.size, 2, none⟩ = some (.slice none 0 0) := L6.cell 2
          have c63 : wr.cell? ⟨w1.heap.size, 3, none⟩ = some (.slice A3 qs.length c3v) := L6.cell 3
          have c40 : wr.cell? ⟨w.heap.size, 0, none⟩ = some (.int .i64 0) := L4.cell 0
          have c41 : wr.cell? ⟨w.heap.size, 1, none⟩ = some (.int .u64 0) := L4.cell 1
          have c42 : wr.cell? ⟨w.heap.size, 2, none⟩ = some (.slice none 0 0) := L4.cell 2
          have c43 : wr.cell? ⟨w.heap.size, 3, none⟩ = some (.slice none 0 0) := L4.cell 3
          have f40 := L4.free 0
          have f41 := L4.free 1
          have f42 := L4.free 2
          have f43 := L4.free 3
          have hSg : ¬ S w.heap.size := fun h => Nat.lt_irrefl _ (hS _ h)
          have hne : ¬ w.heap.size = g := by omega
          go_wp2_with fail
          refine bodyPost_ret (results_cell_row (P := Tryd.prog) rfl _ _ w.heap.size _ _ (0, 0) _ rfl (put_four L4) Tryd.underlying26 rfl (by kernel_rfl)) rfl
            ⟨_, rfl, (((R.far hne hSg).far hne hSg).far hne hSg).far hne hSg, read_TV hI hnlt (hbs.mono fun b h => h.1) how (hq.mono fun b h => h.1) (by omega) (sets_size _ _ _ _ _ _) (fun b hb => sets_block _ _ _ _ _ _ _ (by omega)), grown_new G (grown_four _ _ _ _ _ _) (Nat.le_refl _)⟩

/-- The next term, by the program. -/
theorem next_any (g gr gw : Nat) (S : Nat → Prop) : ∀ (d : Nat) (st : Option (List UInt8)) (w : World), (st.getD []).length ≤ d → (st.getD []).length ≤ 1000000 → Finds w g gr gw S st →
    Calls Tryd.prog 38 #[.pointer (some ⟨gr, 0, none⟩), .pointer (some ⟨gw, 0, none⟩)] w (NextPost w g S (f := d + 1 + 1) (readP d st))
  | 0, st, w, hL, hl, hF => next_of (fun st => (st, (zeroN : Nd (Tm 0)))) 0 (fun _ => Nat.le_refl _) g gr gw S (fun st w h => absurd h (Nat.not_lt_zero _)) st w hL hl hF
  | d + 1, st, w, hL, hl, hF => next_of (readP d) (d + 1) (readP_le d) g gr gw S (fun st w h hl hF => next_any g gr gw S d st w (by omega) hl hF) st w hL hl hF
end Go.Proofs.YtmepcdljobdigaaDoor
