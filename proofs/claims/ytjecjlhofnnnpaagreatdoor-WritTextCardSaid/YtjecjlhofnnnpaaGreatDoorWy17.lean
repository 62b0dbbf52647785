/-
  WtN: The document's factor (layer 21), over the loaded program: its contract, by the word at its front. No condition but the sizes that it names.
-/
import Derived.Test.YtjecjlhofnnnpaaGreatDoorWy14
set_option linter.unusedVariables false
set_option maxRecDepth 100000
namespace Go.Proofs.YtjecjlhofnnnpaaGreatDoor
section
open Go.RowKit
def FactIh (S : Nat → Prop) (d : Nat) : Prop := ∀ (g : Nat) (st : Option (List Wv)) (w : World), SW w g S st → (∀ b, S b → b < w.heap.size) → (st.getD []).length ≤ 1000000 →
    Calls Tryz.prog 32 #[.pointer (some ⟨g, 0, none⟩), .int .i64 d] w (FactV w g S (2 * d + 1) (st.bind (factW d)))
theorem takeW_len (st : Option (List Wv)) : ((takeW st).2.getD []).length ≤ (st.getD []).length := by
  rcases st with _ | _ | ⟨u, l⟩
  · exact Nat.le_refl _
  · exact Nat.le_refl _
  · simp [takeW]
set_option maxHeartbeats 4000000 in
theorem wfac_zero0 (f g : Nat) (S : Nat → Prop) (st : Option (List Wv)) (w : World) (h : SW w g S st) (hS : ∀ b, S b → b < w.heap.size) :
    Calls Tryz.prog 32 #[.pointer (some ⟨g, 0, none⟩), .int .i64 0] w (FactV w g S (f + 1) none) := by
  have hg := h.lt
  have hne : ¬ w.heap.size = g := by omega
  have hne2 : ¬ g = w.heap.size := by omega
  obtain ⟨⟨A0, n0, z0, sc0⟩, sc1, sf0, sf1⟩ := h.cells
  have hsz : (w.setCell ⟨g, 1, none⟩ (.bool true)).heap.size = w.heap.size := by simp [World.setCell]
  have K := KB.new (w.setCell ⟨g, 1, none⟩ (.bool true)) 24 #[.int .i64 0, .string ⟨#[]⟩, .int .i64 0, .int .i64 0, .slice none 0 0]
  rw [hsz] at K
  have R2 := h.failed.alloc (.cells #[.int .i64 0, .string ⟨#[]⟩, .int .i64 0, .int .i64 0, .slice none 0 0] 24)
  have G2 := grown_trans (grown_set w g 1 (.bool true)) (grown_of_below ((Below.refl (w.setCell ⟨g, 1, none⟩ (.bool true)).heap.size (w.setCell ⟨g, 1, none⟩ (.bool true))).alloc (Nat.le_refl _) (.cells #[.int .i64 0, .string ⟨#[]⟩, .int .i64 0, .int .i64 0, .slice none 0 0] 24)) (some g))
  clear h hsz
  go_enter Tryz.func32, Tryz.ntmps32
  go_wp2_with fail
  exact bodyPost_ret (results_cell_row (P := Tryz.prog) rfl _ _ w.heap.size _ _ (0, 0) _ rfl K Tryz.underlying24 rfl (by kernel_rfl)) rfl
    ⟨_, (leafS 0 [] 0 0 : Sc (f + 1)), rfl, R2, ⟨_, _, _, _, _, rfl, leaf_ZX _ _ f 0 0 0 [] (by unfold I64; omega) (by simp) (by unfold I64; omega) (by unfold I64; omega)⟩, (fun p e => by cases e), G2⟩
theorem wfac_zero (S : Nat → Prop) : FactIh S 0 := fun g st w h hS hL => by
  have ho : st.bind (factW 0) = none := by cases st <;> rfl
  rw [ho]
  exact wfac_zero0 (2 * 0) g S st w h hS
set_option maxHeartbeats 8000000 in
theorem wfac_all (S : Nat → Prop) (d : Nat) (hd : d + 1 ≤ 1000) (g : Nat) (st st1 : Option (List Wv)) (u : Wv) (w : World) (h : SW w g S st) (hS : ∀ b, S b → b < w.heap.size) (hL : (st.getD []).length ≤ 1000000) (e1 : takeW st = (u, st1)) (a_all : u = wAll) :
    Calls Tryz.prog 32 #[.pointer (some ⟨g, 0, none⟩), .int .i64 ((d + 1 : Nat) : Int)] w (FactV w g S (2 * d + 2 + 1) (st.bind (factW (d + 1)))) := by
  have hg := h.lt
  have K := KB.new w 24 #[.int .i64 0, .string ⟨#[]⟩, .int .i64 0, .int .i64 0, .slice none 0 0]
  have G := grown_of_below ((Below.refl w.heap.size w).alloc (Nat.le_refl _) (.cells #[.int .i64 0, .string ⟨#[]⟩, .int .i64 0, .int .i64 0, .slice none 0 0] 24)) (some g)
  have ht := wtake_any g S st _ (h.alloc (.cells #[.int .i64 0, .string ⟨#[]⟩, .int .i64 0, .int .i64 0, .slice none 0 0] 24))
  have hL1 := takeW_len st
  rw [e1] at ht hL1
  dsimp only at ht hL1
  replace hL1 : (st1.getD []).length ≤ 1000000 := by omega
  have hne : ¬ w.heap.size = g := by omega
  have hne2 : ¬ g = w.heap.size := by omega
  have hSg : ¬ S w.heap.size := fun h => Nat.lt_irrefl _ (hS _ h)
  have D0 : decide (((d + 1 : Nat) : Int) < 1) = false := decide_eq_false (by omega)
  have hFT := fact_takes (d := d) e1
  rw [hFT.2.2.1 a_all]
  have a_not : ¬ u = wNot := by rw [a_all]; decide
  have a_open : ¬ u = wOpen := by rw [a_all]; decide
  unfold strV at ht
  obtain ⟨s, hse⟩ : ∃ s : ByteArray, s = ⟨u.toArray⟩ := ⟨_, rfl⟩
  rw [← hse] at ht
  have q_not : (s.toList == (⟨#[110, 111, 116]⟩ : ByteArray).toList) = false := (zeq_txt s _ u wNot hse rfl).trans (by simp [a_not])
  have p_not : ¬ s.toList = (⟨#[110, 111, 116]⟩ : ByteArray).toList := beq_eq_false_iff_ne.1 q_not
  have q_open : (s.toList == (⟨#[40]⟩ : ByteArray).toList) = false := (zeq_txt s _ u wOpen hse rfl).trans (by simp [a_open])
  have p_open : ¬ s.toList = (⟨#[40]⟩ : ByteArray).toList := beq_eq_false_iff_ne.1 q_open
  have q_all : (s.toList == (⟨#[97, 108, 108]⟩ : ByteArray).toList) = true := (zeq_txt s _ u wAll hse rfl).trans (by simp [a_all])
  have p_all :  s.toList = (⟨#[97, 108, 108]⟩ : ByteArray).toList := beq_iff_eq.1 q_all
  clear hse e1 h hFT hL
  go_enter Tryz.func32, Tryz.ntmps32
  go_wp2_with fail
  refine ht.mono ?_
  rintro e w1 ⟨rfl, R1, g1⟩
  have K1 := K.grown g1 (by simp; omega)
  have G1 := grown_trans G g1
  have s1 : w.heap.size + 1 ≤ w1.heap.size := by have := g1.size; simpa using this
  clear ht K G g1
  have c40 : (w1).cell? ⟨w.heap.size, 0, none⟩ = some (.int .i64 0) := K1.cell 0
  have c41 : (w1).cell? ⟨w.heap.size, 1, none⟩ = some (.string ⟨#[]⟩) := K1.cell 1
  have c42 : (w1).cell? ⟨w.heap.size, 2, none⟩ = some (.int .i64 0) := K1.cell 2
  have c43 : (w1).cell? ⟨w.heap.size, 3, none⟩ = some (.int .i64 0) := K1.cell 3
  have c44 : (w1).cell? ⟨w.heap.size, 4, none⟩ = some (.slice none 0 0) := K1.cell 4
  have f40 := K1.free 0
  have f41 := K1.free 1
  have f42 := K1.free 2
  have f43 := K1.free 3
  have f44 := K1.free 4
  have hst : (st1.map fun l => ((leafS 1 [] 0 0 : Sc (2 * d + 2 + 1)), l)).map (·.2) = st1 := by cases st1 <;> rfl
  have hfx : Hid (∀ p, (st1.map fun l => ((leafS 1 [] 0 0 : Sc (2 * d + 2 + 1)), l)) = some p → (leafS 1 [] 0 0 : Sc (2 * d + 2 + 1)) = p.1) := fun p e => by
    cases st1 with
    | none => cases e
    | some l => injection e with e; rw [← e]
  rw [← hst] at R1
  clear hst a_all a_not a_open
  go_wp2_with fail
  exact bodyPost_ret (results_cell_row (P := Tryz.prog) rfl _ _ w.heap.size _ _ (0, 0) _ rfl (zput_five K1) Tryz.underlying24 rfl (by kernel_rfl)) rfl
    (fact_five (leafS 1 [] 0 0 : Sc (2 * d + 2 + 1)) R1 hne hSg G1 (leaf_ZX _ _ (2 * d + 2) 1 0 0 [] (by unfold I64; omega) (by simp) (by unfold I64; omega) (by unfold I64; omega)) hfx.out)
set_option maxHeartbeats 8000000 in
theorem wfac_time (S : Nat → Prop) (d : Nat) (hd : d + 1 ≤ 1000) (g : Nat) (st st1 : Option (List Wv)) (u : Wv) (w : World) (h : SW w g S st) (hS : ∀ b, S b → b < w.heap.size) (hL : (st.getD []).length ≤ 1000000) (e1 : takeW st = (u, st1)) (a_time : u = wTime) :
    Calls Tryz.prog 32 #[.pointer (some ⟨g, 0, none⟩), .int .i64 ((d + 1 : Nat) : Int)] w (FactV w g S (2 * d + 2 + 1) (st.bind (factW (d + 1)))) := by
  have hg := h.lt
  have K := KB.new w 24 #[.int .i64 0, .string ⟨#[]⟩, .int .i64 0, .int .i64 0, .slice none 0 0]
  have G := grown_of_below ((Below.refl w.heap.size w).alloc (Nat.le_refl _) (.cells #[.int .i64 0, .string ⟨#[]⟩, .int .i64 0, .int .i64 0, .slice none 0 0] 24)) (some g)
  have ht := wtake_any g S st _ (h.alloc (.cells #[.int .i64 0, .string ⟨#[]⟩, .int .i64 0, .int .i64 0, .slice none 0 0] 24))
  have hL1 := takeW_len st
  rw [e1] at ht hL1
  dsimp only at ht hL1
  replace hL1 : (st1.getD []).length ≤ 1000000 := by omega
  have hne : ¬ w.heap.size = g := by omega
  have hne2 : ¬ g = w.heap.size := by omega
  have hSg : ¬ S w.heap.size := fun h => Nat.lt_irrefl _ (hS _ h)
  have D0 : decide (((d + 1 : Nat) : Int) < 1) = false := decide_eq_false (by omega)
  have hFT := fact_takes (d := d) e1
  rw [hFT.2.2.2.1 a_time]
  have a_not : ¬ u = wNot := by rw [a_time]; decide
  have a_open : ¬ u = wOpen := by rw [a_time]; decide
  have a_all : ¬ u = wAll := by rw [a_time]; decide
  unfold strV at ht
  obtain ⟨s, hse⟩ : ∃ s : ByteArray, s = ⟨u.toArray⟩ := ⟨_, rfl⟩
  rw [← hse] at ht
  have q_not : (s.toList == (⟨#[110, 111, 116]⟩ : ByteArray).toList) = false := (zeq_txt s _ u wNot hse rfl).trans (by simp [a_not])
  have p_not : ¬ s.toList = (⟨#[110, 111, 116]⟩ : ByteArray).toList := beq_eq_false_iff_ne.1 q_not
  have q_open : (s.toList == (⟨#[40]⟩ : ByteArray).toList) = false := (zeq_txt s _ u wOpen hse rfl).trans (by simp [a_open])
  have p_open : ¬ s.toList = (⟨#[40]⟩ : ByteArray).toList := beq_eq_false_iff_ne.1 q_open
  have q_all : (s.toList == (⟨#[97, 108, 108]⟩ : ByteArray).toList) = false := (zeq_txt s _ u wAll hse rfl).trans (by simp [a_all])
  have p_all : ¬ s.toList = (⟨#[97, 108, 108]⟩ : ByteArray).toList := beq_eq_false_iff_ne.1 q_all
  have q_time : (s.toList == (⟨#[116, 105, 109, 101]⟩ : ByteArray).toList) = true := (zeq_txt s _ u wTime hse rfl).trans (by simp [a_time])
  have p_time :  s.toList = (⟨#[116, 105, 109, 101]⟩ : ByteArray).toList := beq_iff_eq.1 q_time
  clear hse e1 h hFT hL
  go_enter Tryz.func32, Tryz.ntmps32
  go_wp2_with fail
  refine ht.mono ?_
  rintro e w1 ⟨rfl, R1, g1⟩
  have K1 := K.grown g1 (by simp; omega)
  have G1 := grown_trans G g1
  have s1 : w.heap.size + 1 ≤ w1.heap.size := by have := g1.size; simpa using this
  clear ht K G g1
  have hc := wtime_any (2 * d + 2) g S st1 w1 R1 (fun b hb => Nat.lt_of_lt_of_le (hS b hb) (by omega))
  generalize st1.bind (timeQ (2 * d + 2)) = o at *
  clear R1 a_all a_not a_open a_time
  go_wp2_with fail
  refine hc.mono ?_
  rintro e w5 ⟨v5, x5, rfl, R5, tv5, hx5, G5⟩
  replace hx5 := Lib.hid hx5
  obtain ⟨e0, e1, e2, e3, e4, rfl, tm5⟩ := tv5
  obtain ⟨j0, l1, j2, j3, X4, n4, z4, rfl, rfl, rfl, rfl, rfl⟩ := tm5.form
  have K5 := K1.grown G5 (by simp; omega)
  have Gf := grown_trans G1 G5
  have kx := Lib.hid (ZX.mono (S' := fun b => w.heap.size < b ∧ b < w5.heap.size) tm5 fun b hb => ⟨by omega, hb.2⟩)
  unfold strV at *
  have c40 : (w5).cell? ⟨w.heap.size, 0, none⟩ = some (.int .i64 0) := K5.cell 0
  have c41 : (w5).cell? ⟨w.heap.size, 1, none⟩ = some (.string ⟨#[]⟩) := K5.cell 1
  have c42 : (w5).cell? ⟨w.heap.size, 2, none⟩ = some (.int .i64 0) := K5.cell 2
  have c43 : (w5).cell? ⟨w.heap.size, 3, none⟩ = some (.int .i64 0) := K5.cell 3
  have c44 : (w5).cell? ⟨w.heap.size, 4, none⟩ = some (.slice none 0 0) := K5.cell 4
  have f40 := K5.free 0
  have f41 := K5.free 1
  have f42 := K5.free 2
  have f43 := K5.free 3
  have f44 := K5.free 4
  clear tm5 K1 G1 G5 hc
  go_wp2_with fail
  exact bodyPost_ret (results_cell_row (P := Tryz.prog) rfl _ _ w.heap.size _ _ (0, 0) _ rfl (zput_five K5) Tryz.underlying24 rfl (by kernel_rfl)) rfl
    (fact_five x5 R5 hne hSg Gf kx.out hx5.out)
set_option maxHeartbeats 8000000 in
theorem wfac_not (S : Nat → Prop) (d : Nat) (hd : d + 1 ≤ 1000) (ih : FactIh S d) (g : Nat) (st st1 : Option (List Wv)) (u : Wv) (w : World) (h : SW w g S st) (hS : ∀ b, S b → b < w.heap.size) (hL : (st.getD []).length ≤ 1000000) (e1 : takeW st = (u, st1)) (a_not : u = wNot) :
    Calls Tryz.prog 32 #[.pointer (some ⟨g, 0, none⟩), .int .i64 ((d + 1 : Nat) : Int)] w (FactV w g S (2 * d + 2 + 1) (st.bind (factW (d + 1)))) := by
  have hg := h.lt
  have K := KB.new w 24 #[.int .i64 0, .string ⟨#[]⟩, .int .i64 0, .int .i64 0, .slice none 0 0]
  have G := grown_of_below ((Below.refl w.heap.size w).alloc (Nat.le_refl _) (.cells #[.int .i64 0, .string ⟨#[]⟩, .int .i64 0, .int .i64 0, .slice none 0 0] 24)) (some g)
  have ht := wtake_any g S st _ (h.alloc (.cells #[.int .i64 0, .string ⟨#[]⟩, .int .i64 0, .int .i64 0, .slice none 0 0] 24))
  have hL1 := takeW_len st
  rw [e1] at ht hL1
  dsimp only at ht hL1
  replace hL1 : (st1.getD []).length ≤ 1000000 := by omega
  have hne : ¬ w.heap.size = g := by omega
  have hne2 : ¬ g = w.heap.size := by omega
  have hSg : ¬ S w.heap.size := fun h => Nat.lt_irrefl _ (hS _ h)
  have D0 : decide (((d + 1 : Nat) : Int) < 1) = false := decide_eq_false (by omega)
  have hFT := fact_takes (d := d) e1
  rw [hFT.1 a_not]
  obtain ⟨o, ho⟩ : ∃ o, o = st1.bind (factW d) := ⟨_, rfl⟩
  rw [← ho]
  unfold strV at ht
  obtain ⟨s, hse⟩ : ∃ s : ByteArray, s = ⟨u.toArray⟩ := ⟨_, rfl⟩
  rw [← hse] at ht
  have q_not : (s.toList == (⟨#[110, 111, 116]⟩ : ByteArray).toList) = true := (zeq_txt s _ u wNot hse rfl).trans (by simp [a_not])
  have p_not :  s.toList = (⟨#[110, 111, 116]⟩ : ByteArray).toList := beq_iff_eq.1 q_not
  clear hse e1 h hFT hL
  go_enter Tryz.func32, Tryz.ntmps32
  go_wp2_with fail
  refine ht.mono ?_
  rintro e w1 ⟨rfl, R1, g1⟩
  have K1 := K.grown g1 (by simp; omega)
  have G1 := grown_trans G g1
  have s1 : w.heap.size + 1 ≤ w1.heap.size := by have := g1.size; simpa using this
  clear ht K G g1
  have hc := ih g st1 w1 R1 (fun b hb => Nat.lt_of_lt_of_le (hS b hb) (by omega)) hL1
  have WW : IntKind.i64.wrap (((d : Int) + 1) - 1) = (d : Int) := by rw [show ((d : Int) + 1) - 1 = d by omega]; simp [IntKind.wrap, IntKind.bits, IntKind.signed]; omega
  have WV : IntKind.i64.wrap (d : Int) = (d : Int) := by simp [IntKind.wrap, IntKind.bits, IntKind.signed]; omega
  rw [← ho] at hc
  clear R1 a_not ih ho
  go_wp2_with fail
  refine hc.mono ?_
  rintro e w5 ⟨v5, x5, rfl, R5, tv5, hx5, G5⟩
  obtain ⟨e0, e1, e2, e3, e4, rfl, tm5⟩ := tv5
  have K5 := (K1.grown G5 (by simp; omega)).alloc (.cells #[e0, e1, e2, e3, e4] 24)
  have R6 := R5.alloc (.cells #[e0, e1, e2, e3, e4] 24)
  have Gf := grown_trans (grown_trans G1 G5) (grown_of_below ((Below.refl w5.heap.size w5).alloc (Nat.le_refl _) (.cells #[e0, e1, e2, e3, e4] 24)) (some g))
  have s5 := G5.size
  have hone := tm5.cells1
  have kx := Lib.hid (nots_ZX (B := w.heap.size) (by omega) (ZX.mono (S' := fun b => w.heap.size < b ∧ b < w5.heap.size) tm5 fun b hb => ⟨by omega, hb.2⟩) rfl)
  have hst : (o.map fun p => ((notsS p.1 : Sc (2 * d + 2 + 1)), p.2)).map (·.2) = o.map (·.2) := by cases o <;> rfl
  have hfx : Hid (∀ p, (o.map fun p => ((notsS p.1 : Sc (2 * d + 2 + 1)), p.2)) = some p → (notsS x5 : Sc (2 * d + 2 + 1)) = p.1) := fun p e => by
    cases o with
    | none => cases e
    | some q => injection e with e; rw [← e]; exact congrArg notsS (hx5 q rfl)
  rw [← hst] at R6
  have c40 : (w5.alloc (.cells #[e0, e1, e2, e3, e4] 24)).cell? ⟨w.heap.size, 0, none⟩ = some (.int .i64 0) := K5.cell 0
  have c41 : (w5.alloc (.cells #[e0, e1, e2, e3, e4] 24)).cell? ⟨w.heap.size, 1, none⟩ = some (.string ⟨#[]⟩) := K5.cell 1
  have c42 : (w5.alloc (.cells #[e0, e1, e2, e3, e4] 24)).cell? ⟨w.heap.size, 2, none⟩ = some (.int .i64 0) := K5.cell 2
  have c43 : (w5.alloc (.cells #[e0, e1, e2, e3, e4] 24)).cell? ⟨w.heap.size, 3, none⟩ = some (.int .i64 0) := K5.cell 3
  have c44 : (w5.alloc (.cells #[e0, e1, e2, e3, e4] 24)).cell? ⟨w.heap.size, 4, none⟩ = some (.slice none 0 0) := K5.cell 4
  have f40 := K5.free 0
  have f41 := K5.free 1
  have f42 := K5.free 2
  have f43 := K5.free 3
  have f44 := K5.free 4
  clear tm5 K1 G1 G5 hc hx5 hst R5
  go_wp2_with fail
  exact bodyPost_ret (results_cell_row (P := Tryz.prog) rfl _ _ w.heap.size _ _ (0, 0) _ rfl (zput_five K5) Tryz.underlying24 rfl (by kernel_rfl)) rfl
    (fact_five (notsS x5 : Sc (2 * d + 2 + 1)) R6 hne hSg Gf kx.out hfx.out)
end
end Go.Proofs.YtjecjlhofnnnpaaGreatDoor
