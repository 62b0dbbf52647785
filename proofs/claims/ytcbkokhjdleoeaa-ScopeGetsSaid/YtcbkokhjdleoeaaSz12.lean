/-
  ScR: The document's Get (layer 20), over the loaded program: its contract. No condition but the size that it names.
-/
import Derived.Test.YtcbkokhjdleoeaaSz11
import Derived.Test.YtcbkokhjdleoeaaSz05
import Derived.Test.YtcbkokhjdleoeaaSz06
set_option linter.unusedVariables false
set_option maxRecDepth 100000
namespace Go.Proofs.Ytcbkokhjdleoeaa
section
open Go.RowKit
def GetZ (w : World) (b : List UInt8) (e : Ending) (w' : World) : Prop := ∃ u, e = .returned (.tuple #[u, .int .i64 (getSc b).2]) ∧ ZV w' (fun x => w.heap.size ≤ x ∧ x < w'.heap.size) 9 u (getSc b).1 ∧ Below w.heap.size w w'
set_option maxHeartbeats 4000000 in
theorem zrget_any (S : Nat → Prop) (v : Value) (b : List UInt8) (w : World) (h : BS w S v b) (hl : b.length ≤ 1000000) :
    Calls Try.prog 16 #[v] w (GetZ w b) := by
  obtain ⟨A, c, rfl, hlc, hmc, _⟩ := h.form
  have K := KB.new w 24 #[.int .i64 0, .string ⟨#[]⟩, .int .i64 0, .int .i64 0, .slice none 0 0]
  have B := (Below.refl w.heap.size w).alloc (Nat.le_refl _) (.cells #[.int .i64 0, .string ⟨#[]⟩, .int .i64 0, .int .i64 0, .slice none 0 0] 24)
  have hw := h.alloc (.cells #[.int .i64 0, .string ⟨#[]⟩, .int .i64 0, .int .i64 0, .slice none 0 0] 24)
  have hcp := copy_any S _ b _ hw (by omega)
  unfold GetZ getSc
  have hrd := fun (w1 : World) (g : Nat) (R : RR w1 g (fun x => x < g) (some b)) (hS : ∀ x, x < g → x < w1.heap.size) => zread_any (fun x => x < g) 8 g (some b) w1 R hS (by simpa using hl) (by omega)
  have hle := readSc_le 8 (some b)
  unfold ReadZ at hrd
  simp only [show ((8 : Nat) : Int) = 8 from rfl] at hrd
  generalize readSc 8 (some b) = RT at *
  obtain ⟨st, t⟩ := RT
  dsimp only at hrd hle ⊢
  cases st with
  | none =>
    rw [if_neg (by simp)]
    go_enter Try.func16, Try.ntmps16
    go_wp2_with fail
    refine hcp.mono ?_
    rintro e w1 ⟨v1, rfl, how, b1⟩
    have K1 := K.below b1 K.lt
    have B1 := B.trans (b1.mono B.size)
    have hv := own_BS how
    obtain ⟨A1, c1, rfl, _⟩ := hv.form
    have hw1 : w.heap.size < w1.heap.size := K1.lt
    have R1 : RR (w1.alloc (.cells #[.slice A1 b.length c1, .bool false] 60)) w1.heap.size (fun x => x < w1.heap.size) (some b) :=
      ⟨_, b, KB.new w1 _ _, (hv.alloc _).mono fun x hx => hx.2, Nat.lt_irrefl _, fun l' e => by injection e⟩
    have hc := hrd _ _ R1 (fun x hx => by simp; omega)
    have K2 := K1.alloc (.cells #[.slice A1 b.length c1, .bool false] 60)
    have B2 := B1.alloc B1.size (.cells #[.slice A1 b.length c1, .bool false] 60)
    clear hcp hrd R1 K1 B1 hv how b1 K B
    go_wp2_with fail
    refine hc.mono ?_
    rintro e w2 ⟨tv, rfl, R2, T2, G2⟩
    obtain ⟨e0, e1, e2, e3, e4, rfl, tm⟩ := T2
    obtain ⟨i0, l1, i2, i3, X4, n4, z4, rfl, rfl, rfl, rfl, rfl⟩ := tm.form
    have K3 := (K2.grown G2 (by simp; omega)).alloc (.cells #[.int .i64 i0, strV l1, .int .i64 i2, .int .i64 i3, .slice X4 n4 z4] 24)
    have B3 := (B2.grown G2 B2.size (fun k hk => by injection hk with hk; omega))
    have B4 := B3.alloc B3.size (.cells #[.int .i64 i0, strV l1, .int .i64 i2, .int .i64 i3, .slice X4 n4 z4] 24)
    have R3 := zRR_alloc R2 (.cells #[.int .i64 i0, strV l1, .int .i64 i2, .int .i64 i3, .slice X4 n4 z4] 24)
    have g2 := G2.size
    clear hc K2 B2 B3 R2 G2
    obtain ⟨q1, q2⟩ := R3.bad
    have c0 : (w2.alloc (.cells #[.int .i64 i0, strV l1, .int .i64 i2, .int .i64 i3, .slice X4 n4 z4] 24)).cell? ⟨w.heap.size, 0, none⟩ = some (.int .i64 0) := K3.cell 0
    have c1 : (w2.alloc (.cells #[.int .i64 i0, strV l1, .int .i64 i2, .int .i64 i3, .slice X4 n4 z4] 24)).cell? ⟨w.heap.size, 1, none⟩ = some (.string ⟨#[]⟩) := K3.cell 1
    have c2 : (w2.alloc (.cells #[.int .i64 i0, strV l1, .int .i64 i2, .int .i64 i3, .slice X4 n4 z4] 24)).cell? ⟨w.heap.size, 2, none⟩ = some (.int .i64 0) := K3.cell 2
    have c3 : (w2.alloc (.cells #[.int .i64 i0, strV l1, .int .i64 i2, .int .i64 i3, .slice X4 n4 z4] 24)).cell? ⟨w.heap.size, 3, none⟩ = some (.int .i64 0) := K3.cell 3
    have c4 : (w2.alloc (.cells #[.int .i64 i0, strV l1, .int .i64 i2, .int .i64 i3, .slice X4 n4 z4] 24)).cell? ⟨w.heap.size, 4, none⟩ = some (.slice none 0 0) := K3.cell 4
    have f0 := K3.free 0
    have f1 := K3.free 1
    have f2 := K3.free 2
    have f3 := K3.free 3
    have f4 := K3.free 4
    unfold strV at *
    go_wp2_with fail
    refine bodyPost_ret (results_cell_tmp (P := Try.prog) rfl _ _ w.heap.size _ _ (0, 0) _ rfl (zput_five K3) Try.underlying24 rfl (by kernel_rfl)) rfl ⟨_, rfl, zero_ZV _ _ _, B4.trans (below_of_grown' (zgrown_five _ _ _ _ _ _ _) (Nat.le_refl _) B4.size)⟩
  | some rest =>
    cases rest with
    | cons y ys =>
      rw [if_neg (by simp)]
      go_enter Try.func16, Try.ntmps16
      go_wp2_with fail
      refine hcp.mono ?_
      rintro e w1 ⟨v1, rfl, how, b1⟩
      have K1 := K.below b1 K.lt
      have B1 := B.trans (b1.mono B.size)
      have hv := own_BS how
      obtain ⟨A1, c1, rfl, _⟩ := hv.form
      have hw1 : w.heap.size < w1.heap.size := K1.lt
      have R1 : RR (w1.alloc (.cells #[.slice A1 b.length c1, .bool false] 60)) w1.heap.size (fun x => x < w1.heap.size) (some b) :=
        ⟨_, b, KB.new w1 _ _, (hv.alloc _).mono fun x hx => hx.2, Nat.lt_irrefl _, fun l' e => by injection e⟩
      have hc := hrd _ _ R1 (fun x hx => by simp; omega)
      have K2 := K1.alloc (.cells #[.slice A1 b.length c1, .bool false] 60)
      have B2 := B1.alloc B1.size (.cells #[.slice A1 b.length c1, .bool false] 60)
      clear hcp hrd R1 K1 B1 hv how b1 K B
      go_wp2_with fail
      refine hc.mono ?_
      rintro e w2 ⟨tv, rfl, R2, T2, G2⟩
      obtain ⟨e0, e1, e2, e3, e4, rfl, tm⟩ := T2
      obtain ⟨i0, l1, i2, i3, X4, n4, z4, rfl, rfl, rfl, rfl, rfl⟩ := tm.form
      have K3 := (K2.grown G2 (by simp; omega)).alloc (.cells #[.int .i64 i0, strV l1, .int .i64 i2, .int .i64 i3, .slice X4 n4 z4] 24)
      have B3 := (B2.grown G2 B2.size (fun k hk => by injection hk with hk; omega))
      have B4 := B3.alloc B3.size (.cells #[.int .i64 i0, strV l1, .int .i64 i2, .int .i64 i3, .slice X4 n4 z4] 24)
      have R3 := zRR_alloc R2 (.cells #[.int .i64 i0, strV l1, .int .i64 i2, .int .i64 i3, .slice X4 n4 z4] 24)
      have g2 := G2.size
      clear hc K2 B2 B3 R2 G2
      obtain ⟨q1, q2⟩ := R3.good
      obtain ⟨vr, lr, hkr, hbr, _, hlr⟩ := R3
      obtain rfl := hlr _ rfl
      obtain ⟨Ar, cr, rfl, hl2, hm2⟩ := hbr.form
      have q3 : (w2.alloc (.cells #[.int .i64 i0, strV l1, .int .i64 i2, .int .i64 i3, .slice X4 n4 z4] 24)).cell? ⟨w1.heap.size, 0, none⟩ = some (.slice Ar (y :: ys).length cr) := hkr.cell 0
      have hlen : (y :: ys).length ≤ 9223372036854775807 := by unfold maxLen at hm2; omega
      have hpos : (0 : Int) < ((y :: ys).length : Int) := by simp
      have hposN : 0 < (y :: ys).length := by simp
      generalize (y :: ys).length = ln at *
      have c0 : (w2.alloc (.cells #[.int .i64 i0, strV l1, .int .i64 i2, .int .i64 i3, .slice X4 n4 z4] 24)).cell? ⟨w.heap.size, 0, none⟩ = some (.int .i64 0) := K3.cell 0
      have c1 : (w2.alloc (.cells #[.int .i64 i0, strV l1, .int .i64 i2, .int .i64 i3, .slice X4 n4 z4] 24)).cell? ⟨w.heap.size, 1, none⟩ = some (.string ⟨#[]⟩) := K3.cell 1
      have c2 : (w2.alloc (.cells #[.int .i64 i0, strV l1, .int .i64 i2, .int .i64 i3, .slice X4 n4 z4] 24)).cell? ⟨w.heap.size, 2, none⟩ = some (.int .i64 0) := K3.cell 2
      have c3 : (w2.alloc (.cells #[.int .i64 i0, strV l1, .int .i64 i2, .int .i64 i3, .slice X4 n4 z4] 24)).cell? ⟨w.heap.size, 3, none⟩ = some (.int .i64 0) := K3.cell 3
      have c4 : (w2.alloc (.cells #[.int .i64 i0, strV l1, .int .i64 i2, .int .i64 i3, .slice X4 n4 z4] 24)).cell? ⟨w.heap.size, 4, none⟩ = some (.slice none 0 0) := K3.cell 4
      have f0 := K3.free 0
      have f1 := K3.free 1
      have f2 := K3.free 2
      have f3 := K3.free 3
      have f4 := K3.free 4
      unfold strV at *
      go_wp2_with fail
      refine bodyPost_ret (results_cell_tmp (P := Try.prog) rfl _ _ w.heap.size _ _ (0, 0) _ rfl (zput_five K3) Try.underlying24 rfl (by kernel_rfl)) rfl ⟨_, rfl, zero_ZV _ _ _, B4.trans (below_of_grown' (zgrown_five _ _ _ _ _ _ _) (Nat.le_refl _) B4.size)⟩
    | nil =>
      cases hmay : mayS 9 t with
      | false =>
        rw [if_neg (by simp)]
        go_enter Try.func16, Try.ntmps16
        go_wp2_with fail
        refine hcp.mono ?_
        rintro e w1 ⟨v1, rfl, how, b1⟩
        have K1 := K.below b1 K.lt
        have B1 := B.trans (b1.mono B.size)
        have hv := own_BS how
        obtain ⟨A1, c1, rfl, _⟩ := hv.form
        have hw1 : w.heap.size < w1.heap.size := K1.lt
        have R1 : RR (w1.alloc (.cells #[.slice A1 b.length c1, .bool false] 60)) w1.heap.size (fun x => x < w1.heap.size) (some b) :=
          ⟨_, b, KB.new w1 _ _, (hv.alloc _).mono fun x hx => hx.2, Nat.lt_irrefl _, fun l' e => by injection e⟩
        have hc := hrd _ _ R1 (fun x hx => by simp; omega)
        have K2 := K1.alloc (.cells #[.slice A1 b.length c1, .bool false] 60)
        have B2 := B1.alloc B1.size (.cells #[.slice A1 b.length c1, .bool false] 60)
        clear hcp hrd R1 K1 B1 hv how b1 K B
        go_wp2_with fail
        refine hc.mono ?_
        rintro e w2 ⟨tv, rfl, R2, T2, G2⟩
        obtain ⟨e0, e1, e2, e3, e4, rfl, tm⟩ := T2
        obtain ⟨i0, l1, i2, i3, X4, n4, z4, rfl, rfl, rfl, rfl, rfl⟩ := tm.form
        have K3 := (K2.grown G2 (by simp; omega)).alloc (.cells #[.int .i64 i0, strV l1, .int .i64 i2, .int .i64 i3, .slice X4 n4 z4] 24)
        have B3 := (B2.grown G2 B2.size (fun k hk => by injection hk with hk; omega))
        have B4 := B3.alloc B3.size (.cells #[.int .i64 i0, strV l1, .int .i64 i2, .int .i64 i3, .slice X4 n4 z4] 24)
        have R3 := zRR_alloc R2 (.cells #[.int .i64 i0, strV l1, .int .i64 i2, .int .i64 i3, .slice X4 n4 z4] 24)
        have g2 := G2.size
        clear hc K2 B2 B3 R2 G2
        obtain ⟨q1, q2⟩ := R3.good
        have q3 : ∃ Ar cr, (w2.alloc (.cells #[.int .i64 i0, strV l1, .int .i64 i2, .int .i64 i3, .slice X4 n4 z4] 24)).cell? ⟨w1.heap.size, 0, none⟩ = some (.slice Ar 0 cr) := by
          obtain ⟨vr, lr, hkr, hbr, _, hlr⟩ := R3
          obtain rfl := hlr _ rfl
          obtain ⟨Ar, cr, rfl, hl2, hm2⟩ := hbr.form
          exact ⟨Ar, cr, hkr.cell 0⟩
        obtain ⟨Ar, cr, q3⟩ := q3
        have K7 := KB.new w2 24 #[.int .i64 i0, strV l1, .int .i64 i2, .int .i64 i3, .slice X4 n4 z4]
        have tv3 : ZV (w2.alloc (.cells #[.int .i64 i0, strV l1, .int .i64 i2, .int .i64 i3, .slice X4 n4 z4] 24)) (fun x => w.heap.size < x ∧ x < (w2.alloc (.cells #[.int .i64 i0, strV l1, .int .i64 i2, .int .i64 i3, .slice X4 n4 z4] 24)).heap.size) 9 (.agg #[.int .i64 i0, strV l1, .int .i64 i2, .int .i64 i3, .slice X4 n4 z4]) t := ZV.alloc ⟨_, _, _, _, _, rfl, ZX.keepS tm (Nat.le_refl _) (fun _ _ _ => rfl) fun x hx => ⟨by have := hx.1; simp at this; omega, by have := hx.2; simp; omega⟩⟩ _
        have hmy := zrmay_any _ 9 t _ _ tv3
        rw [hmay] at hmy
        clear tm
        have d0 : (w2.alloc (.cells #[.int .i64 i0, strV l1, .int .i64 i2, .int .i64 i3, .slice X4 n4 z4] 24)).cell? ⟨w2.heap.size, 0, none⟩ = some (.int .i64 i0) := K7.cell 0
        have d1 : (w2.alloc (.cells #[.int .i64 i0, strV l1, .int .i64 i2, .int .i64 i3, .slice X4 n4 z4] 24)).cell? ⟨w2.heap.size, 1, none⟩ = some (strV l1) := K7.cell 1
        have d2 : (w2.alloc (.cells #[.int .i64 i0, strV l1, .int .i64 i2, .int .i64 i3, .slice X4 n4 z4] 24)).cell? ⟨w2.heap.size, 2, none⟩ = some (.int .i64 i2) := K7.cell 2
        have d3 : (w2.alloc (.cells #[.int .i64 i0, strV l1, .int .i64 i2, .int .i64 i3, .slice X4 n4 z4] 24)).cell? ⟨w2.heap.size, 3, none⟩ = some (.int .i64 i3) := K7.cell 3
        have d4 : (w2.alloc (.cells #[.int .i64 i0, strV l1, .int .i64 i2, .int .i64 i3, .slice X4 n4 z4] 24)).cell? ⟨w2.heap.size, 4, none⟩ = some (.slice X4 n4 z4) := K7.cell 4
        unfold strV at *
        go_wp2_with fail
        refine hmy.mono ?_
        rintro e w4 ⟨rfl, b4⟩
        have K4 := K3.below b4 K3.lt
        have K8 := K7.below b4 K7.lt
        have B5 := B4.trans (b4.mono B4.size)
        have tv4 := tv3.below' b4
        have s4 := b4.size
        clear hmy q1 q2 q3 d0 d1 d2 d3 d4 K3 K7 B4 R3 tv3 b4
        have c0 : (w4).cell? ⟨w.heap.size, 0, none⟩ = some (.int .i64 0) := K4.cell 0
        have c1 : (w4).cell? ⟨w.heap.size, 1, none⟩ = some (.string ⟨#[]⟩) := K4.cell 1
        have c2 : (w4).cell? ⟨w.heap.size, 2, none⟩ = some (.int .i64 0) := K4.cell 2
        have c3 : (w4).cell? ⟨w.heap.size, 3, none⟩ = some (.int .i64 0) := K4.cell 3
        have c4 : (w4).cell? ⟨w.heap.size, 4, none⟩ = some (.slice none 0 0) := K4.cell 4
        have f0 := K4.free 0
        have f1 := K4.free 1
        have f2 := K4.free 2
        have f3 := K4.free 3
        have f4 := K4.free 4
        unfold strV at *
        go_wp2_with fail
        refine bodyPost_ret (results_cell_tmp (P := Try.prog) rfl _ _ w.heap.size _ _ (0, 0) _ rfl (zput_five K4) Try.underlying24 rfl (by kernel_rfl)) rfl ⟨_, rfl, zero_ZV _ _ _, B5.trans (below_of_grown' (zgrown_five _ _ _ _ _ _ _) (Nat.le_refl _) B5.size)⟩
      | true =>
        rw [if_pos ⟨rfl, rfl⟩]
        go_enter Try.func16, Try.ntmps16
        go_wp2_with fail
        refine hcp.mono ?_
        rintro e w1 ⟨v1, rfl, how, b1⟩
        have K1 := K.below b1 K.lt
        have B1 := B.trans (b1.mono B.size)
        have hv := own_BS how
        obtain ⟨A1, c1, rfl, _⟩ := hv.form
        have hw1 : w.heap.size < w1.heap.size := K1.lt
        have R1 : RR (w1.alloc (.cells #[.slice A1 b.length c1, .bool false] 60)) w1.heap.size (fun x => x < w1.heap.size) (some b) :=
          ⟨_, b, KB.new w1 _ _, (hv.alloc _).mono fun x hx => hx.2, Nat.lt_irrefl _, fun l' e => by injection e⟩
        have hc := hrd _ _ R1 (fun x hx => by simp; omega)
        have K2 := K1.alloc (.cells #[.slice A1 b.length c1, .bool false] 60)
        have B2 := B1.alloc B1.size (.cells #[.slice A1 b.length c1, .bool false] 60)
        clear hcp hrd R1 K1 B1 hv how b1 K B
        go_wp2_with fail
        refine hc.mono ?_
        rintro e w2 ⟨tv, rfl, R2, T2, G2⟩
        obtain ⟨e0, e1, e2, e3, e4, rfl, tm⟩ := T2
        obtain ⟨i0, l1, i2, i3, X4, n4, z4, rfl, rfl, rfl, rfl, rfl⟩ := tm.form
        have K3 := (K2.grown G2 (by simp; omega)).alloc (.cells #[.int .i64 i0, strV l1, .int .i64 i2, .int .i64 i3, .slice X4 n4 z4] 24)
        have B3 := (B2.grown G2 B2.size (fun k hk => by injection hk with hk; omega))
        have B4 := B3.alloc B3.size (.cells #[.int .i64 i0, strV l1, .int .i64 i2, .int .i64 i3, .slice X4 n4 z4] 24)
        have R3 := zRR_alloc R2 (.cells #[.int .i64 i0, strV l1, .int .i64 i2, .int .i64 i3, .slice X4 n4 z4] 24)
        have g2 := G2.size
        clear hc K2 B2 B3 R2 G2
        obtain ⟨q1, q2⟩ := R3.good
        have q3 : ∃ Ar cr, (w2.alloc (.cells #[.int .i64 i0, strV l1, .int .i64 i2, .int .i64 i3, .slice X4 n4 z4] 24)).cell? ⟨w1.heap.size, 0, none⟩ = some (.slice Ar 0 cr) := by
          obtain ⟨vr, lr, hkr, hbr, _, hlr⟩ := R3
          obtain rfl := hlr _ rfl
          obtain ⟨Ar, cr, rfl, hl2, hm2⟩ := hbr.form
          exact ⟨Ar, cr, hkr.cell 0⟩
        obtain ⟨Ar, cr, q3⟩ := q3
        have K7 := KB.new w2 24 #[.int .i64 i0, strV l1, .int .i64 i2, .int .i64 i3, .slice X4 n4 z4]
        have tv3 : ZV (w2.alloc (.cells #[.int .i64 i0, strV l1, .int .i64 i2, .int .i64 i3, .slice X4 n4 z4] 24)) (fun x => w.heap.size < x ∧ x < (w2.alloc (.cells #[.int .i64 i0, strV l1, .int .i64 i2, .int .i64 i3, .slice X4 n4 z4] 24)).heap.size) 9 (.agg #[.int .i64 i0, strV l1, .int .i64 i2, .int .i64 i3, .slice X4 n4 z4]) t := ZV.alloc ⟨_, _, _, _, _, rfl, ZX.keepS tm (Nat.le_refl _) (fun _ _ _ => rfl) fun x hx => ⟨by have := hx.1; simp at this; omega, by have := hx.2; simp; omega⟩⟩ _
        have hmy := zrmay_any _ 9 t _ _ tv3
        rw [hmay] at hmy
        clear tm
        have d0 : (w2.alloc (.cells #[.int .i64 i0, strV l1, .int .i64 i2, .int .i64 i3, .slice X4 n4 z4] 24)).cell? ⟨w2.heap.size, 0, none⟩ = some (.int .i64 i0) := K7.cell 0
        have d1 : (w2.alloc (.cells #[.int .i64 i0, strV l1, .int .i64 i2, .int .i64 i3, .slice X4 n4 z4] 24)).cell? ⟨w2.heap.size, 1, none⟩ = some (strV l1) := K7.cell 1
        have d2 : (w2.alloc (.cells #[.int .i64 i0, strV l1, .int .i64 i2, .int .i64 i3, .slice X4 n4 z4] 24)).cell? ⟨w2.heap.size, 2, none⟩ = some (.int .i64 i2) := K7.cell 2
        have d3 : (w2.alloc (.cells #[.int .i64 i0, strV l1, .int .i64 i2, .int .i64 i3, .slice X4 n4 z4] 24)).cell? ⟨w2.heap.size, 3, none⟩ = some (.int .i64 i3) := K7.cell 3
        have d4 : (w2.alloc (.cells #[.int .i64 i0, strV l1, .int .i64 i2, .int .i64 i3, .slice X4 n4 z4] 24)).cell? ⟨w2.heap.size, 4, none⟩ = some (.slice X4 n4 z4) := K7.cell 4
        unfold strV at *
        go_wp2_with fail
        refine hmy.mono ?_
        rintro e w4 ⟨rfl, b4⟩
        have K4 := K3.below b4 K3.lt
        have K8 := K7.below b4 K7.lt
        have B5 := B4.trans (b4.mono B4.size)
        have tv4 := tv3.below' b4
        have s4 := b4.size
        clear hmy q1 q2 q3 d0 d1 d2 d3 d4 K3 K7 B4 R3 tv3 b4
        have c0 : (w4).cell? ⟨w.heap.size, 0, none⟩ = some (.int .i64 0) := K4.cell 0
        have c1 : (w4).cell? ⟨w.heap.size, 1, none⟩ = some (.string ⟨#[]⟩) := K4.cell 1
        have c2 : (w4).cell? ⟨w.heap.size, 2, none⟩ = some (.int .i64 0) := K4.cell 2
        have c3 : (w4).cell? ⟨w.heap.size, 3, none⟩ = some (.int .i64 0) := K4.cell 3
        have c4 : (w4).cell? ⟨w.heap.size, 4, none⟩ = some (.slice none 0 0) := K4.cell 4
        have f0 := K4.free 0
        have f1 := K4.free 1
        have f2 := K4.free 2
        have f3 := K4.free 3
        have f4 := K4.free 4
        have d0 : (w4).cell? ⟨w2.heap.size, 0, none⟩ = some (.int .i64 i0) := K8.cell 0
        have d1 : (w4).cell? ⟨w2.heap.size, 1, none⟩ = some (.string ⟨l1.toArray⟩) := K8.cell 1
        have d2 : (w4).cell? ⟨w2.heap.size, 2, none⟩ = some (.int .i64 i2) := K8.cell 2
        have d3 : (w4).cell? ⟨w2.heap.size, 3, none⟩ = some (.int .i64 i3) := K8.cell 3
        have d4 : (w4).cell? ⟨w2.heap.size, 4, none⟩ = some (.slice X4 n4 z4) := K8.cell 4
        have hfin : ZV (((((w4.setCell ⟨w.heap.size, 0, none⟩ (.int .i64 i0)).setCell ⟨w.heap.size, 1, none⟩ (.string ⟨l1.toArray⟩)).setCell ⟨w.heap.size, 2, none⟩ (.int .i64 i2)).setCell ⟨w.heap.size, 3, none⟩ (.int .i64 i3)).setCell ⟨w.heap.size, 4, none⟩ (.slice X4 n4 z4)) (fun x => w.heap.size ≤ x ∧ x < (((((w4.setCell ⟨w.heap.size, 0, none⟩ (.int .i64 i0)).setCell ⟨w.heap.size, 1, none⟩ (.string ⟨l1.toArray⟩)).setCell ⟨w.heap.size, 2, none⟩ (.int .i64 i2)).setCell ⟨w.heap.size, 3, none⟩ (.int .i64 i3)).setCell ⟨w.heap.size, 4, none⟩ (.slice X4 n4 z4)).heap.size) 9 (.agg #[.int .i64 i0, .string ⟨l1.toArray⟩, .int .i64 i2, .int .i64 i3, .slice X4 n4 z4]) t :=
          tv4.keepL (Nat.le_of_eq (zsets_size _ _ _ _ _ _ _)) (fun x hx _ => zsets_block _ _ _ _ _ _ _ _ (by have := hx.1; omega)) fun x hx hlt => ⟨by have := hx.1; omega, by rw [← zsets_size]; exact hlt⟩
        go_wp2_with fail
        refine bodyPost_ret (results_cell_tmp (P := Try.prog) rfl _ _ w.heap.size _ _ (0, 0) _ rfl (zput_five K4) Try.underlying24 rfl (by kernel_rfl)) rfl ⟨_, rfl, hfin, B5.trans (below_of_grown' (zgrown_five _ _ _ _ _ _ _) (Nat.le_refl _) B5.size)⟩
end
end Go.Proofs.Ytcbkokhjdleoeaa
