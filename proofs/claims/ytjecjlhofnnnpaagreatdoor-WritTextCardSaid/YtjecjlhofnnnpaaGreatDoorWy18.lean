/-
  WtO: The document's factor (layer 21), over the loaded program: brackets; a name behind its word. No condition but the sizes that it names.
-/
import Derived.Test.YtjecjlhofnnnpaaGreatDoorWy17
set_option linter.unusedVariables false
set_option maxRecDepth 100000
namespace Go.Proofs.YtjecjlhofnnnpaaGreatDoor
section
open Go.RowKit
theorem takeW_word {w : World} {g : Nat} {S : Nat → Prop} {st st1 st2 : Option (List Wv)} {u n : Wv} (e1 : takeW st = (u, st1)) (e2 : takeW st1 = (n, st2)) (h : SW w g S st) : n.length ≤ 1000 := by
  rcases st with _ | _ | ⟨v, l⟩
  · have : none = st1 := congrArg Prod.snd e1
    subst this
    have : [] = n := congrArg Prod.fst e2
    rw [← this]; simp
  · have : none = st1 := congrArg Prod.snd e1
    subst this
    have : [] = n := congrArg Prod.fst e2
    rw [← this]; simp
  · have : some l = st1 := congrArg Prod.snd e1
    subst this
    cases l with
    | nil =>
      have : [] = n := congrArg Prod.fst e2
      rw [← this]; simp
    | cons m l =>
      have : m = n := congrArg Prod.fst e2
      subst this
      obtain ⟨A, x, c, ws, h1, h2, h3, h4, h5⟩ := h
      obtain rfl := h5 _ rfl
      exact h4 m (by simp)
set_option maxHeartbeats 8000000 in
theorem wfac_open (S : Nat → Prop) (d : Nat) (hd : d + 1 ≤ 1000) (ih : FactIh S d) (g : Nat) (st st1 : Option (List Wv)) (u : Wv) (w : World) (h : SW w g S st) (hS : ∀ b, S b → b < w.heap.size) (hL : (st.getD []).length ≤ 1000000) (e1 : takeW st = (u, st1)) (a_open : u = wOpen) :
    Calls Tryz.prog 32 #[.pointer (some ⟨g, 0, none⟩), .int .i64 ((d + 1 : Nat) : Int)] w (FactV w g S (2 * d + 2 + 1) (st.bind (factW (d + 1)))) := by
  have hg := h.lt
  have K := KB.new w 24 #[.int .i64 0, .string ⟨#[]⟩, .int .i64 0, .int .i64 0, .slice none 0 0]
  have G := grown_of_below ((Below.refl w.heap.size w).alloc (Nat.le_refl _) (.cells #[.int .i64 0, .string ⟨#[]⟩, .int .i64 0, .int .i64 0, .slice none 0 0] 24)) (some g)
  have ht := wtake_any g S st _ (h.alloc (.cells #[.int .i64 0, .string ⟨#[]⟩, .int .i64 0, .int .i64 0, .slice none 0 0] 24))
  have hL1 := takeW_len st
  rw [e1] at ht hL1
  dsimp only at ht hL1
  replace hL1 : (st1.getD []).length ≤ 1000000 := by omega
  have hne : ¬ w.heap.size = g := by omega
  have hne2 : ¬ g = w.heap.size := by omega
  have hSg : ¬ S w.heap.size := fun h => Nat.lt_irrefl _ (hS _ h)
  have D0 : decide (((d + 1 : Nat) : Int) < 1) = false := decide_eq_false (by omega)
  have hFT := fact_takes (d := d) e1
  rw [hFT.2.1 a_open]
  have a_not : ¬ u = wNot := by rw [a_open]; decide
  have hsv : ∀ W, SW W g S st1 → (∀ b, S b → b < W.heap.size) → Calls Tryz.prog 21 #[.pointer (some ⟨g, 0, none⟩), .int .i64 7, .int .i64 d] W (FactV W g S (2 * d + 2 + 1) (st1.bind (orV (factW d)))) := fun W R hS =>
    wor_any (2 * d + 2) d (andV (factW d)) (andW_shrinks (factW_shrinks d)) S (fun g st w h hS hL => wand_any (2 * d + 1) d (factW d) (factW_shrinks d) S ih g st w h hS hL) g st1 W R hS hL1
  obtain ⟨o, ho⟩ : ∃ o, o = st1.bind (orV (factW d)) := ⟨_, rfl⟩
  rw [← ho] at hsv ⊢
  replace hsv := Lib.hid hsv
  unfold strV at ht
  obtain ⟨s, hse⟩ : ∃ s : ByteArray, s = ⟨u.toArray⟩ := ⟨_, rfl⟩
  rw [← hse] at ht
  have q_not : (s.toList == (⟨#[110, 111, 116]⟩ : ByteArray).toList) = false := (zeq_txt s _ u wNot hse rfl).trans (by simp [a_not])
  have p_not : ¬ s.toList = (⟨#[110, 111, 116]⟩ : ByteArray).toList := beq_eq_false_iff_ne.1 q_not
  have q_open : (s.toList == (⟨#[40]⟩ : ByteArray).toList) = true := (zeq_txt s _ u wOpen hse rfl).trans (by simp [a_open])
  have p_open :  s.toList = (⟨#[40]⟩ : ByteArray).toList := beq_iff_eq.1 q_open
  have r_not : (s.toList == ([110, 111, 116] : List UInt8)) = false := by rw [← (show (⟨#[110, 111, 116]⟩ : ByteArray).toList = ([110, 111, 116] : List UInt8) from Lib.toList_data _)]; exact q_not
  have t_not : ¬ s.toList = ([110, 111, 116] : List UInt8) := beq_eq_false_iff_ne.1 r_not
  clear hse e1 h hFT hL
  go_enter Tryz.func32, Tryz.ntmps32
  go_wp2_with fail
  refine ht.mono ?_
  rintro e w1 ⟨rfl, R1, g1⟩
  have K1 := K.grown g1 (by simp; omega)
  have G1 := grown_trans G g1
  have s1 : w.heap.size + 1 ≤ w1.heap.size := by have := g1.size; simpa using this
  clear ht K G g1
  have hc := hsv.out w1 R1 (fun b hb => Nat.lt_of_lt_of_le (hS b hb) (by omega))
  have WW : IntKind.i64.wrap (((d : Int) + 1) - 1) = (d : Int) := by rw [show ((d : Int) + 1) - 1 = d by omega]; simp [IntKind.wrap, IntKind.bits, IntKind.signed]; omega
  have WV : IntKind.i64.wrap (d : Int) = (d : Int) := by simp [IntKind.wrap, IntKind.bits, IntKind.signed]; omega
  clear R1 a_not a_open ih ho hsv
  go_wp2_with fail
  refine hc.mono ?_
  rintro e w5 ⟨v5, x5, rfl, R5, tv5, hx5, G5⟩
  replace hx5 := Lib.hid hx5
  obtain ⟨e0, e1, e2, e3, e4, rfl, tm5⟩ := tv5
  obtain ⟨j0, l1, j2, j3, X4, n4, z4, rfl, rfl, rfl, rfl, rfl⟩ := tm5.form
  have s5 := G5.size
  have K5 := (K1.grown G5 (by simp; omega)).alloc (.cells #[.int .i64 j0, strV l1, .int .i64 j2, .int .i64 j3, .slice X4 n4 z4] 24)
  have K7 := KB.new w5 24 #[.int .i64 j0, strV l1, .int .i64 j2, .int .i64 j3, .slice X4 n4 z4]
  have Gf := grown_trans (grown_trans G1 G5) (grown_of_below ((Below.refl w5.heap.size w5).alloc (Nat.le_refl _) (.cells #[.int .i64 j0, strV l1, .int .i64 j2, .int .i64 j3, .slice X4 n4 z4] 24)) (some g))
  have kx := ZX.mono (S' := fun b => w.heap.size < b ∧ b < w5.heap.size) tm5 fun b hb => ⟨by omega, hb.2⟩
  have hn7 : ¬ w5.heap.size = g := by omega
  have hn8 : ¬ w5.heap.size = w.heap.size := by omega
  have ht := wtake_any g S _ _ (R5.alloc (.cells #[.int .i64 j0, strV l1, .int .i64 j2, .int .i64 j3, .slice X4 n4 z4] 24))
  obtain ⟨c, s3, ec⟩ : ∃ c s3, takeW (o.map (·.2)) = (c, s3) := ⟨_, _, rfl⟩
  rw [ec] at ht
  dsimp only at ht
  have HY := Lib.hid (fun e : c = wClose => close_yes (e ▸ ec : takeW (o.map (·.2)) = (wClose, s3)))
  have HN := Lib.hid (fun e : ¬ c = wClose => close_no ec e)
  unfold strV at ht K5 K7 kx Gf ⊢
  obtain ⟨s', hse'⟩ : ∃ s : ByteArray, s = ⟨c.toArray⟩ := ⟨_, rfl⟩
  rw [← hse'] at ht
  have gne := zne_txt s' _ c wClose hse' rfl
  have gn2 : (s'.toList != ([41] : List UInt8)) = !decide (c = wClose) := by rw [← (show (⟨#[41]⟩ : ByteArray).toList = ([41] : List UInt8) from Lib.toList_data _)]; exact gne
  clear tm5 K1 G1 G5 hc R5 ec hse'
  go_wp2_with fail
  refine ht.mono ?_
  rintro e w8 ⟨rfl, R8, g8⟩
  have s8 := g8.size
  rw [World.size_alloc] at s8
  have K5 := K5.grown g8 (by simp; omega)
  have K7 := K7.grown g8 (by simp; omega)
  have Gf := grown_trans Gf g8
  have kx := Lib.hid (ZX.keepS (w' := w8) (S' := fun b => w.heap.size < b ∧ b < w8.heap.size) (kx.alloc (.cells #[.int .i64 j0, .string ⟨l1.toArray⟩, .int .i64 j2, .int .i64 j3, .slice X4 n4 z4] 24)) (by rw [World.size_alloc]; omega) (fun b hb hl => g8.block b hl (by simp; omega)) fun b hb => ⟨hb.1, by omega⟩)
  clear ht g8
  have c40 : (w8).cell? ⟨w.heap.size, 0, none⟩ = some (.int .i64 0) := K5.cell 0
  have c41 : (w8).cell? ⟨w.heap.size, 1, none⟩ = some (.string ⟨#[]⟩) := K5.cell 1
  have c42 : (w8).cell? ⟨w.heap.size, 2, none⟩ = some (.int .i64 0) := K5.cell 2
  have c43 : (w8).cell? ⟨w.heap.size, 3, none⟩ = some (.int .i64 0) := K5.cell 3
  have c44 : (w8).cell? ⟨w.heap.size, 4, none⟩ = some (.slice none 0 0) := K5.cell 4
  have f40 := K5.free 0
  have f41 := K5.free 1
  have f42 := K5.free 2
  have f43 := K5.free 3
  have f44 := K5.free 4
  have c70 : w8.cell? ⟨w5.heap.size, 0, none⟩ = some (.int .i64 j0) := K7.cell 0
  have c71 : w8.cell? ⟨w5.heap.size, 1, none⟩ = some (.string ⟨l1.toArray⟩) := K7.cell 1
  have c72 : w8.cell? ⟨w5.heap.size, 2, none⟩ = some (.int .i64 j2) := K7.cell 2
  have c73 : w8.cell? ⟨w5.heap.size, 3, none⟩ = some (.int .i64 j3) := K7.cell 3
  have c74 : w8.cell? ⟨w5.heap.size, 4, none⟩ = some (.slice X4 n4 z4) := K7.cell 4
  by_cases hcc : c = wClose
  · rw [decide_eq_true hcc] at gne gn2
    obtain ⟨y1, y2⟩ := HY.out hcc
    have hfx : Hid (∀ p, o.bind closeQ = some p → x5 = p.1) := fun p e => by
      obtain ⟨q, eq, ep⟩ := y2 p e
      rw [ep, hx5.out q eq]
    rw [← y1] at R8
    clear HY HN y1 y2 hcc hx5
    have gq : s'.toList = (⟨#[41]⟩ : ByteArray).toList := (zeq_prop gne).2 rfl
    have gq2 : s'.toList = ([41] : List UInt8) := gq.trans (Lib.toList_data _)
    go_wp2_with fail
    exact bodyPost_ret (results_cell_row (P := Tryz.prog) rfl _ _ w.heap.size _ _ (0, 0) _ rfl (zput_five K5) Tryz.underlying24 rfl (by kernel_rfl)) rfl
      (fact_five x5 R8 hne hSg Gf kx.out hfx.out)
  · rw [decide_eq_false hcc] at gne gn2
    have ho := HN.out hcc
    obtain ⟨⟨A0, n0, z0, sc0⟩, sc1, sf0, sf1⟩ := R8.cells
    have R9 := R8.failed
    have KF := zKB_far (h := g) (i := 1) (v := .bool true) K5 hne2
    have G9 := grown_trans Gf (grown_set w8 g 1 (.bool true))
    have kx9 := Lib.hid (ZX.keepS (w' := w8.setCell ⟨g, 1, none⟩ (.bool true)) (S' := fun b => w.heap.size < b ∧ b < (w8.setCell ⟨g, 1, none⟩ (.bool true)).heap.size) kx.out (by simp [World.setCell]) (fun b hb hl => Below.heap_setCell w8 ⟨g, 1, none⟩ (.bool true) b (by have := hb.1; show b ≠ g; omega)) fun b hb => ⟨hb.1, by simpa [World.setCell] using hb.2⟩)
    have gq : ¬ s'.toList = (⟨#[41]⟩ : ByteArray).toList := (zeq_prop gne).1 rfl
    have gq2 : ¬ s'.toList = ([41] : List UInt8) := fun e => gq (e.trans (show (⟨#[41]⟩ : ByteArray).toList = ([41] : List UInt8) from Lib.toList_data _).symm)
    have R9 : SW (w8.setCell ⟨g, 1, none⟩ (.bool true)) g S ((o.bind closeQ).map (·.2)) := by rw [ho]; exact R9
    have hfx : Hid (∀ p, o.bind closeQ = some p → x5 = p.1) := fun p e => by rw [ho] at e; cases e
    replace gn2 : (s'.toList != ([41] : List UInt8)) = true := gn2
    have gn3 : (s'.toList == ([41] : List UInt8)) = false := beq_eq_false_iff_ne.2 gq2
    clear HY HN hcc hx5 ho kx R8 K5 K7 Gf
    go_wp2_with fail
    exact bodyPost_ret (results_cell_row (P := Tryz.prog) rfl _ _ w.heap.size _ _ (0, 0) _ rfl (zput_five KF) Tryz.underlying24 rfl (by kernel_rfl)) rfl
      (fact_five x5 R9 hne hSg G9 kx9.out hfx.out)
set_option maxHeartbeats 8000000 in
theorem wfac_case (S : Nat → Prop) (d : Nat) (hd : d + 1 ≤ 1000) (g : Nat) (st st1 : Option (List Wv)) (u : Wv) (w : World) (h : SW w g S st) (hS : ∀ b, S b → b < w.heap.size) (hL : (st.getD []).length ≤ 1000000) (e1 : takeW st = (u, st1)) (a_case : u = wCase) :
    Calls Tryz.prog 32 #[.pointer (some ⟨g, 0, none⟩), .int .i64 ((d + 1 : Nat) : Int)] w (FactV w g S (2 * d + 2 + 1) (st.bind (factW (d + 1)))) := by
  have hg := h.lt
  have K := KB.new w 24 #[.int .i64 0, .string ⟨#[]⟩, .int .i64 0, .int .i64 0, .slice none 0 0]
  have G := grown_of_below ((Below.refl w.heap.size w).alloc (Nat.le_refl _) (.cells #[.int .i64 0, .string ⟨#[]⟩, .int .i64 0, .int .i64 0, .slice none 0 0] 24)) (some g)
  have ht := wtake_any g S st _ (h.alloc (.cells #[.int .i64 0, .string ⟨#[]⟩, .int .i64 0, .int .i64 0, .slice none 0 0] 24))
  have hL1 := takeW_len st
  rw [e1] at ht hL1
  dsimp only at ht hL1
  replace hL1 : (st1.getD []).length ≤ 1000000 := by omega
  have hne : ¬ w.heap.size = g := by omega
  have hne2 : ¬ g = w.heap.size := by omega
  have hSg : ¬ S w.heap.size := fun h => Nat.lt_irrefl _ (hS _ h)
  have D0 : decide (((d + 1 : Nat) : Int) < 1) = false := decide_eq_false (by omega)
  have hFT := fact_takes (d := d) e1
  have a_not : ¬ u = wNot := by rw [a_case]; decide
  have a_open : ¬ u = wOpen := by rw [a_case]; decide
  have a_all : ¬ u = wAll := by rw [a_case]; decide
  have a_time : ¬ u = wTime := by rw [a_case]; decide
  have a_subj : ¬ u = wSubj := by rw [a_case]; decide
  have a_class : ¬ u = wClass := by rw [a_case]; decide
  have hop : namesOp u = 2 := by rw [a_case]; rfl
  rw [hFT.2.2.2.2 a_not a_open a_all a_time, hop]
  obtain ⟨n, st2, e2⟩ : ∃ n st2, takeW st1 = (n, st2) := ⟨_, _, rfl⟩
  obtain ⟨nt1, nt2⟩ := name_takes (f := 2 * d + 2) (op := 2) e2
  have hnl : n.length ≤ 1000 := takeW_word e1 e2 h
  obtain ⟨o, ho⟩ : ∃ o, o = st1.bind (nameQ (2 * d + 2) 2) := ⟨_, rfl⟩
  rw [← ho] at nt1 nt2 ⊢
  replace nt1 := Lib.hid nt1
  replace nt2 := Lib.hid nt2
  clear ho hop
  unfold strV at ht
  obtain ⟨s, hse⟩ : ∃ s : ByteArray, s = ⟨u.toArray⟩ := ⟨_, rfl⟩
  rw [← hse] at ht
  have q_not : (s.toList == (⟨#[110, 111, 116]⟩ : ByteArray).toList) = false := (zeq_txt s _ u wNot hse rfl).trans (by simp [a_not])
  have p_not : ¬ s.toList = (⟨#[110, 111, 116]⟩ : ByteArray).toList := beq_eq_false_iff_ne.1 q_not
  have q_open : (s.toList == (⟨#[40]⟩ : ByteArray).toList) = false := (zeq_txt s _ u wOpen hse rfl).trans (by simp [a_open])
  have p_open : ¬ s.toList = (⟨#[40]⟩ : ByteArray).toList := beq_eq_false_iff_ne.1 q_open
  have q_all : (s.toList == (⟨#[97, 108, 108]⟩ : ByteArray).toList) = false := (zeq_txt s _ u wAll hse rfl).trans (by simp [a_all])
  have p_all : ¬ s.toList = (⟨#[97, 108, 108]⟩ : ByteArray).toList := beq_eq_false_iff_ne.1 q_all
  have q_time : (s.toList == (⟨#[116, 105, 109, 101]⟩ : ByteArray).toList) = false := (zeq_txt s _ u wTime hse rfl).trans (by simp [a_time])
  have p_time : ¬ s.toList = (⟨#[116, 105, 109, 101]⟩ : ByteArray).toList := beq_eq_false_iff_ne.1 q_time
  have q_case : (s.toList == (⟨#[99, 97, 115, 101]⟩ : ByteArray).toList) = true := (zeq_txt s _ u wCase hse rfl).trans (by simp [a_case])
  have p_case :  s.toList = (⟨#[99, 97, 115, 101]⟩ : ByteArray).toList := beq_iff_eq.1 q_case
  have q_subj : (s.toList == (⟨#[115, 117, 98, 106, 101, 99, 116]⟩ : ByteArray).toList) = false := (zeq_txt s _ u wSubj hse rfl).trans (by simp [a_subj])
  have p_subj : ¬ s.toList = (⟨#[115, 117, 98, 106, 101, 99, 116]⟩ : ByteArray).toList := beq_eq_false_iff_ne.1 q_subj
  have q_class : (s.toList == (⟨#[99, 108, 97, 115, 115]⟩ : ByteArray).toList) = false := (zeq_txt s _ u wClass hse rfl).trans (by simp [a_class])
  have p_class : ¬ s.toList = (⟨#[99, 108, 97, 115, 115]⟩ : ByteArray).toList := beq_eq_false_iff_ne.1 q_class
  have r_not : (s.toList == ([110, 111, 116] : List UInt8)) = false := by rw [← (show (⟨#[110, 111, 116]⟩ : ByteArray).toList = ([110, 111, 116] : List UInt8) from Lib.toList_data _)]; exact q_not
  have t_not : ¬ s.toList = ([110, 111, 116] : List UInt8) := beq_eq_false_iff_ne.1 r_not
  have r_open : (s.toList == ([40] : List UInt8)) = false := by rw [← (show (⟨#[40]⟩ : ByteArray).toList = ([40] : List UInt8) from Lib.toList_data _)]; exact q_open
  have t_open : ¬ s.toList = ([40] : List UInt8) := beq_eq_false_iff_ne.1 r_open
  have r_all : (s.toList == ([97, 108, 108] : List UInt8)) = false := by rw [← (show (⟨#[97, 108, 108]⟩ : ByteArray).toList = ([97, 108, 108] : List UInt8) from Lib.toList_data _)]; exact q_all
  have t_all : ¬ s.toList = ([97, 108, 108] : List UInt8) := beq_eq_false_iff_ne.1 r_all
  have r_time : (s.toList == ([116, 105, 109, 101] : List UInt8)) = false := by rw [← (show (⟨#[116, 105, 109, 101]⟩ : ByteArray).toList = ([116, 105, 109, 101] : List UInt8) from Lib.toList_data _)]; exact q_time
  have t_time : ¬ s.toList = ([116, 105, 109, 101] : List UInt8) := beq_eq_false_iff_ne.1 r_time
  have r_subj : (s.toList == ([115, 117, 98, 106, 101, 99, 116] : List UInt8)) = false := by rw [← (show (⟨#[115, 117, 98, 106, 101, 99, 116]⟩ : ByteArray).toList = ([115, 117, 98, 106, 101, 99, 116] : List UInt8) from Lib.toList_data _)]; exact q_subj
  have t_subj : ¬ s.toList = ([115, 117, 98, 106, 101, 99, 116] : List UInt8) := beq_eq_false_iff_ne.1 r_subj
  have r_class : (s.toList == ([99, 108, 97, 115, 115] : List UInt8)) = false := by rw [← (show (⟨#[99, 108, 97, 115, 115]⟩ : ByteArray).toList = ([99, 108, 97, 115, 115] : List UInt8) from Lib.toList_data _)]; exact q_class
  have t_class : ¬ s.toList = ([99, 108, 97, 115, 115] : List UInt8) := beq_eq_false_iff_ne.1 r_class
  clear hse e1 h hFT hL
  go_enter Tryz.func32, Tryz.ntmps32
  go_wp2_with fail
  refine ht.mono ?_
  rintro e w1 ⟨rfl, R1, g1⟩
  have K1 := K.grown g1 (by simp; omega)
  have G1 := grown_trans G g1
  have s1 : w.heap.size + 1 ≤ w1.heap.size := by have := g1.size; simpa using this
  clear ht K G g1
  have ht := wtake_any g S st1 w1 R1
  rw [e2] at ht
  dsimp only at ht
  have hnm := fun W => rname_any n (by unfold maxLen; omega) W
  have hlf := fun W S' => Lib.hid (leaf_ZX W S' (2 * d + 2) 2 0 0 n (by unfold I64; omega) hnl (by unfold I64; omega) (by unfold I64; omega))
  unfold strV at ht hnm hlf
  generalize (⟨n.toArray⟩ : ByteArray) = s' at *
  clear R1 e2 hnl a_not a_open a_all a_time a_case a_subj a_class
  go_wp2_with fail
  refine ht.mono ?_
  rintro e w5 ⟨rfl, R5, g5⟩
  have K5 := K1.grown g5 (by simp; omega)
  have G5 := grown_trans G1 g5
  clear ht K1 G1 g5
  have c40 : (w5).cell? ⟨w.heap.size, 0, none⟩ = some (.int .i64 0) := K5.cell 0
  have c41 : (w5).cell? ⟨w.heap.size, 1, none⟩ = some (.string ⟨#[]⟩) := K5.cell 1
  have c42 : (w5).cell? ⟨w.heap.size, 2, none⟩ = some (.int .i64 0) := K5.cell 2
  have c43 : (w5).cell? ⟨w.heap.size, 3, none⟩ = some (.int .i64 0) := K5.cell 3
  have c44 : (w5).cell? ⟨w.heap.size, 4, none⟩ = some (.slice none 0 0) := K5.cell 4
  have f40 := K5.free 0
  have f41 := K5.free 1
  have f42 := K5.free 2
  have f43 := K5.free 3
  have f44 := K5.free 4
  cases hb : nameS n with
  | true =>
    rw [hb] at hnm
    obtain ⟨y1, y2⟩ := nt2.out (by rw [hb]; decide)
    replace y2 := Lib.hid y2
    rw [← y1] at R5
    clear nt1 nt2 y1 hb
    go_wp2_with fail
    refine (hnm _).mono ?_
    rintro e w6 ⟨rfl, rfl⟩
    go_wp2_with fail
    exact bodyPost_ret (results_cell_row (P := Tryz.prog) rfl _ _ w.heap.size _ _ (0, 0) _ rfl (zput_five K5) Tryz.underlying24 rfl (by kernel_rfl)) rfl
      (fact_five (leafS 2 n 0 0 : Sc (2 * d + 2 + 1)) R5 hne hSg G5 (hlf _ _).out y2.out)
  | false =>
    rw [hb] at hnm
    have ho := nt1.out (.inr hb)
    subst ho
    obtain ⟨⟨A0, n0, z0, sc0⟩, sc1, sf0, sf1⟩ := R5.cells
    have R9 := R5.failed
    have KF := zKB_far (h := g) (i := 1) (v := .bool true) K5 hne2
    have G9 := grown_trans G5 (grown_set w5 g 1 (.bool true))
    clear nt1 nt2 hb R5 K5 G5
    go_wp2_with fail
    refine (hnm _).mono ?_
    rintro e w6 ⟨rfl, rfl⟩
    go_wp2_with fail
    exact bodyPost_ret (results_cell_row (P := Tryz.prog) rfl _ _ w.heap.size _ _ (0, 0) _ rfl (zput_five KF) Tryz.underlying24 rfl (by kernel_rfl)) rfl
      (fact_five (leafS 2 n 0 0 : Sc (2 * d + 2 + 1)) R9 hne hSg G9 (hlf _ _).out (fun p e => by cases e))
set_option maxHeartbeats 8000000 in
theorem wfac_subj (S : Nat → Prop) (d : Nat) (hd : d + 1 ≤ 1000) (g : Nat) (st st1 : Option (List Wv)) (u : Wv) (w : World) (h : SW w g S st) (hS : ∀ b, S b → b < w.heap.size) (hL : (st.getD []).length ≤ 1000000) (e1 : takeW st = (u, st1)) (a_subj : u = wSubj) :
    Calls Tryz.prog 32 #[.pointer (some ⟨g, 0, none⟩), .int .i64 ((d + 1 : Nat) : Int)] w (FactV w g S (2 * d + 2 + 1) (st.bind (factW (d + 1)))) := by
  have hg := h.lt
  have K := KB.new w 24 #[.int .i64 0, .string ⟨#[]⟩, .int .i64 0, .int .i64 0, .slice none 0 0]
  have G := grown_of_below ((Below.refl w.heap.size w).alloc (Nat.le_refl _) (.cells #[.int .i64 0, .string ⟨#[]⟩, .int .i64 0, .int .i64 0, .slice none 0 0] 24)) (some g)
  have ht := wtake_any g S st _ (h.alloc (.cells #[.int .i64 0, .string ⟨#[]⟩, .int .i64 0, .int .i64 0, .slice none 0 0] 24))
  have hL1 := takeW_len st
  rw [e1] at ht hL1
  dsimp only at ht hL1
  replace hL1 : (st1.getD []).length ≤ 1000000 := by omega
  have hne : ¬ w.heap.size = g := by omega
  have hne2 : ¬ g = w.heap.size := by omega
  have hSg : ¬ S w.heap.size := fun h => Nat.lt_irrefl _ (hS _ h)
  have D0 : decide (((d + 1 : Nat) : Int) < 1) = false := decide_eq_false (by omega)
  have hFT := fact_takes (d := d) e1
  have a_not : ¬ u = wNot := by rw [a_subj]; decide
  have a_open : ¬ u = wOpen := by rw [a_subj]; decide
  have a_all : ¬ u = wAll := by rw [a_subj]; decide
  have a_time : ¬ u = wTime := by rw [a_subj]; decide
  have a_case : ¬ u = wCase := by rw [a_subj]; decide
  have a_class : ¬ u = wClass := by rw [a_subj]; decide
  have hop : namesOp u = 3 := by rw [a_subj]; rfl
  rw [hFT.2.2.2.2 a_not a_open a_all a_time, hop]
  obtain ⟨n, st2, e2⟩ : ∃ n st2, takeW st1 = (n, st2) := ⟨_, _, rfl⟩
  obtain ⟨nt1, nt2⟩ := name_takes (f := 2 * d + 2) (op := 3) e2
  have hnl : n.length ≤ 1000 := takeW_word e1 e2 h
  obtain ⟨o, ho⟩ : ∃ o, o = st1.bind (nameQ (2 * d + 2) 3) := ⟨_, rfl⟩
  rw [← ho] at nt1 nt2 ⊢
  replace nt1 := Lib.hid nt1
  replace nt2 := Lib.hid nt2
  clear ho hop
  unfold strV at ht
  obtain ⟨s, hse⟩ : ∃ s : ByteArray, s = ⟨u.toArray⟩ := ⟨_, rfl⟩
  rw [← hse] at ht
  have q_not : (s.toList == (⟨#[110, 111, 116]⟩ : ByteArray).toList) = false := (zeq_txt s _ u wNot hse rfl).trans (by simp [a_not])
  have p_not : ¬ s.toList = (⟨#[110, 111, 116]⟩ : ByteArray).toList := beq_eq_false_iff_ne.1 q_not
  have q_open : (s.toList == (⟨#[40]⟩ : ByteArray).toList) = false := (zeq_txt s _ u wOpen hse rfl).trans (by simp [a_open])
  have p_open : ¬ s.toList = (⟨#[40]⟩ : ByteArray).toList := beq_eq_false_iff_ne.1 q_open
  have q_all : (s.toList == (⟨#[97, 108, 108]⟩ : ByteArray).toList) = false := (zeq_txt s _ u wAll hse rfl).trans (by simp [a_all])
  have p_all : ¬ s.toList = (⟨#[97, 108, 108]⟩ : ByteArray).toList := beq_eq_false_iff_ne.1 q_all
  have q_time : (s.toList == (⟨#[116, 105, 109, 101]⟩ : ByteArray).toList) = false := (zeq_txt s _ u wTime hse rfl).trans (by simp [a_time])
  have p_time : ¬ s.toList = (⟨#[116, 105, 109, 101]⟩ : ByteArray).toList := beq_eq_false_iff_ne.1 q_time
  have q_case : (s.toList == (⟨#[99, 97, 115, 101]⟩ : ByteArray).toList) = false := (zeq_txt s _ u wCase hse rfl).trans (by simp [a_case])
  have p_case : ¬ s.toList = (⟨#[99, 97, 115, 101]⟩ : ByteArray).toList := beq_eq_false_iff_ne.1 q_case
  have q_subj : (s.toList == (⟨#[115, 117, 98, 106, 101, 99, 116]⟩ : ByteArray).toList) = true := (zeq_txt s _ u wSubj hse rfl).trans (by simp [a_subj])
  have p_subj :  s.toList = (⟨#[115, 117, 98, 106, 101, 99, 116]⟩ : ByteArray).toList := beq_iff_eq.1 q_subj
  have q_class : (s.toList == (⟨#[99, 108, 97, 115, 115]⟩ : ByteArray).toList) = false := (zeq_txt s _ u wClass hse rfl).trans (by simp [a_class])
  have p_class : ¬ s.toList = (⟨#[99, 108, 97, 115, 115]⟩ : ByteArray).toList := beq_eq_false_iff_ne.1 q_class
  have r_not : (s.toList == ([110, 111, 116] : List UInt8)) = false := by rw [← (show (⟨#[110, 111, 116]⟩ : ByteArray).toList = ([110, 111, 116] : List UInt8) from Lib.toList_data _)]; exact q_not
  have t_not : ¬ s.toList = ([110, 111, 116] : List UInt8) := beq_eq_false_iff_ne.1 r_not
  have r_open : (s.toList == ([40] : List UInt8)) = false := by rw [← (show (⟨#[40]⟩ : ByteArray).toList = ([40] : List UInt8) from Lib.toList_data _)]; exact q_open
  have t_open : ¬ s.toList = ([40] : List UInt8) := beq_eq_false_iff_ne.1 r_open
  have r_all : (s.toList == ([97, 108, 108] : List UInt8)) = false := by rw [← (show (⟨#[97, 108, 108]⟩ : ByteArray).toList = ([97, 108, 108] : List UInt8) from Lib.toList_data _)]; exact q_all
  have t_all : ¬ s.toList = ([97, 108, 108] : List UInt8) := beq_eq_false_iff_ne.1 r_all
  have r_time : (s.toList == ([116, 105, 109, 101] : List UInt8)) = false := by rw [← (show (⟨#[116, 105, 109, 101]⟩ : ByteArray).toList = ([116, 105, 109, 101] : List UInt8) from Lib.toList_data _)]; exact q_time
  have t_time : ¬ s.toList = ([116, 105, 109, 101] : List UInt8) := beq_eq_false_iff_ne.1 r_time
  have r_case : (s.toList == ([99, 97, 115, 101] : List UInt8)) = false := by rw [← (show (⟨#[99, 97, 115, 101]⟩ : ByteArray).toList = ([99, 97, 115, 101] : List UInt8) from Lib.toList_data _)]; exact q_case
  have t_case : ¬ s.toList = ([99, 97, 115, 101] : List UInt8) := beq_eq_false_iff_ne.1 r_case
  have r_class : (s.toList == ([99, 108, 97, 115, 115] : List UInt8)) = false := by rw [← (show (⟨#[99, 108, 97, 115, 115]⟩ : ByteArray).toList = ([99, 108, 97, 115, 115] : List UInt8) from Lib.toList_data _)]; exact q_class
  have t_class : ¬ s.toList = ([99, 108, 97, 115, 115] : List UInt8) := beq_eq_false_iff_ne.1 r_class
  clear hse e1 h hFT hL
  go_enter Tryz.func32, Tryz.ntmps32
  go_wp2_with fail
  refine ht.mono ?_
  rintro e w1 ⟨rfl, R1, g1⟩
  have K1 := K.grown g1 (by simp; omega)
  have G1 := grown_trans G g1
  have s1 : w.heap.size + 1 ≤ w1.heap.size := by have := g1.size; simpa using this
  clear ht K G g1
  have ht := wtake_any g S st1 w1 R1
  rw [e2] at ht
  dsimp only at ht
  have hnm := fun W => rname_any n (by unfold maxLen; omega) W
  have hlf := fun W S' => Lib.hid (leaf_ZX W S' (2 * d + 2) 3 0 0 n (by unfold I64; omega) hnl (by unfold I64; omega) (by unfold I64; omega))
  unfold strV at ht hnm hlf
  generalize (⟨n.toArray⟩ : ByteArray) = s' at *
  clear R1 e2 hnl a_not a_open a_all a_time a_case a_subj a_class
  go_wp2_with fail
  refine ht.mono ?_
  rintro e w5 ⟨rfl, R5, g5⟩
  have K5 := K1.grown g5 (by simp; omega)
  have G5 := grown_trans G1 g5
  clear ht K1 G1 g5
  have c40 : (w5).cell? ⟨w.heap.size, 0, none⟩ = some (.int .i64 0) := K5.cell 0
  have c41 : (w5).cell? ⟨w.heap.size, 1, none⟩ = some (.string ⟨#[]⟩) := K5.cell 1
  have c42 : (w5).cell? ⟨w.heap.size, 2, none⟩ = some (.int .i64 0) := K5.cell 2
  have c43 : (w5).cell? ⟨w.heap.size, 3, none⟩ = some (.int .i64 0) := K5.cell 3
  have c44 : (w5).cell? ⟨w.heap.size, 4, none⟩ = some (.slice none 0 0) := K5.cell 4
  have f40 := K5.free 0
  have f41 := K5.free 1
  have f42 := K5.free 2
  have f43 := K5.free 3
  have f44 := K5.free 4
  cases hb : nameS n with
  | true =>
    rw [hb] at hnm
    obtain ⟨y1, y2⟩ := nt2.out (by rw [hb]; decide)
    replace y2 := Lib.hid y2
    rw [← y1] at R5
    clear nt1 nt2 y1 hb
    go_wp2_with fail
    refine (hnm _).mono ?_
    rintro e w6 ⟨rfl, rfl⟩
    go_wp2_with fail
    exact bodyPost_ret (results_cell_row (P := Tryz.prog) rfl _ _ w.heap.size _ _ (0, 0) _ rfl (zput_five K5) Tryz.underlying24 rfl (by kernel_rfl)) rfl
      (fact_five (leafS 3 n 0 0 : Sc (2 * d + 2 + 1)) R5 hne hSg G5 (hlf _ _).out y2.out)
  | false =>
    rw [hb] at hnm
    have ho := nt1.out (.inr hb)
    subst ho
    obtain ⟨⟨A0, n0, z0, sc0⟩, sc1, sf0, sf1⟩ := R5.cells
    have R9 := R5.failed
    have KF := zKB_far (h := g) (i := 1) (v := .bool true) K5 hne2
    have G9 := grown_trans G5 (grown_set w5 g 1 (.bool true))
    clear nt1 nt2 hb R5 K5 G5
    go_wp2_with fail
    refine (hnm _).mono ?_
    rintro e w6 ⟨rfl, rfl⟩
    go_wp2_with fail
    exact bodyPost_ret (results_cell_row (P := Tryz.prog) rfl _ _ w.heap.size _ _ (0, 0) _ rfl (zput_five KF) Tryz.underlying24 rfl (by kernel_rfl)) rfl
      (fact_five (leafS 3 n 0 0 : Sc (2 * d + 2 + 1)) R9 hne hSg G9 (hlf _ _).out (fun p e => by cases e))
set_option maxHeartbeats 8000000 in
theorem wfac_class (S : Nat → Prop) (d : Nat) (hd : d + 1 ≤ 1000) (g : Nat) (st st1 : Option (List Wv)) (u : Wv) (w : World) (h : SW w g S st) (hS : ∀ b, S b → b < w.heap.size) (hL : (st.getD []).length ≤ 1000000) (e1 : takeW st = (u, st1)) (a_class : u = wClass) :
    Calls Tryz.prog 32 #[.pointer (some ⟨g, 0, none⟩), .int .i64 ((d + 1 : Nat) : Int)] w (FactV w g S (2 * d + 2 + 1) (st.bind (factW (d + 1)))) := by
  have hg := h.lt
  have K := KB.new w 24 #[.int .i64 0, .string ⟨#[]⟩, .int .i64 0, .int .i64 0, .slice none 0 0]
  have G := grown_of_below ((Below.refl w.heap.size w).alloc (Nat.le_refl _) (.cells #[.int .i64 0, .string ⟨#[]⟩, .int .i64 0, .int .i64 0, .slice none 0 0] 24)) (some g)
  have ht := wtake_any g S st _ (h.alloc (.cells #[.int .i64 0, .string ⟨#[]⟩, .int .i64 0, .int .i64 0, .slice none 0 0] 24))
  have hL1 := takeW_len st
  rw [e1] at ht hL1
  dsimp only at ht hL1
  replace hL1 : (st1.getD []).length ≤ 1000000 := by omega
  have hne : ¬ w.heap.size = g := by omega
  have hne2 : ¬ g = w.heap.size := by omega
  have hSg : ¬ S w.heap.size := fun h => Nat.lt_irrefl _ (hS _ h)
  have D0 : decide (((d + 1 : Nat) : Int) < 1) = false := decide_eq_false (by omega)
  have hFT := fact_takes (d := d) e1
  have a_not : ¬ u = wNot := by rw [a_class]; decide
  have a_open : ¬ u = wOpen := by rw [a_class]; decide
  have a_all : ¬ u = wAll := by rw [a_class]; decide
  have a_time : ¬ u = wTime := by rw [a_class]; decide
  have a_case : ¬ u = wCase := by rw [a_class]; decide
  have a_subj : ¬ u = wSubj := by rw [a_class]; decide
  have hop : namesOp u = 4 := by rw [a_class]; rfl
  rw [hFT.2.2.2.2 a_not a_open a_all a_time, hop]
  obtain ⟨n, st2, e2⟩ : ∃ n st2, takeW st1 = (n, st2) := ⟨_, _, rfl⟩
  obtain ⟨nt1, nt2⟩ := name_takes (f := 2 * d + 2) (op := 4) e2
  have hnl : n.length ≤ 1000 := takeW_word e1 e2 h
  obtain ⟨o, ho⟩ : ∃ o, o = st1.bind (nameQ (2 * d + 2) 4) := ⟨_, rfl⟩
  rw [← ho] at nt1 nt2 ⊢
  replace nt1 := Lib.hid nt1
  replace nt2 := Lib.hid nt2
  clear ho hop
  unfold strV at ht
  obtain ⟨s, hse⟩ : ∃ s : ByteArray, s = ⟨u.toArray⟩ := ⟨_, rfl⟩
  rw [← hse] at ht
  have q_not : (s.toList == (⟨#[110, 111, 116]⟩ : ByteArray).toList) = false := (zeq_txt s _ u wNot hse rfl).trans (by simp [a_not])
  have p_not : ¬ s.toList = (⟨#[110, 111, 116]⟩ : ByteArray).toList := beq_eq_false_iff_ne.1 q_not
  have q_open : (s.toList == (⟨#[40]⟩ : ByteArray).toList) = false := (zeq_txt s _ u wOpen hse rfl).trans (by simp [a_open])
  have p_open : ¬ s.toList = (⟨#[40]⟩ : ByteArray).toList := beq_eq_false_iff_ne.1 q_open
  have q_all : (s.toList == (⟨#[97, 108, 108]⟩ : ByteArray).toList) = false := (zeq_txt s _ u wAll hse rfl).trans (by simp [a_all])
  have p_all : ¬ s.toList = (⟨#[97, 108, 108]⟩ : ByteArray).toList := beq_eq_false_iff_ne.1 q_all
  have q_time : (s.toList == (⟨#[116, 105, 109, 101]⟩ : ByteArray).toList) = false := (zeq_txt s _ u wTime hse rfl).trans (by simp [a_time])
  have p_time : ¬ s.toList = (⟨#[116, 105, 109, 101]⟩ : ByteArray).toList := beq_eq_false_iff_ne.1 q_time
  have q_case : (s.toList == (⟨#[99, 97, 115, 101]⟩ : ByteArray).toList) = false := (zeq_txt s _ u wCase hse rfl).trans (by simp [a_case])
  have p_case : ¬ s.toList = (⟨#[99, 97, 115, 101]⟩ : ByteArray).toList := beq_eq_false_iff_ne.1 q_case
  have q_subj : (s.toList == (⟨#[115, 117, 98, 106, 101, 99, 116]⟩ : ByteArray).toList) = false := (zeq_txt s _ u wSubj hse rfl).trans (by simp [a_subj])
  have p_subj : ¬ s.toList = (⟨#[115, 117, 98, 106, 101, 99, 116]⟩ : ByteArray).toList := beq_eq_false_iff_ne.1 q_subj
  have q_class : (s.toList == (⟨#[99, 108, 97, 115, 115]⟩ : ByteArray).toList) = true := (zeq_txt s _ u wClass hse rfl).trans (by simp [a_class])
  have p_class :  s.toList = (⟨#[99, 108, 97, 115, 115]⟩ : ByteArray).toList := beq_iff_eq.1 q_class
  have r_not : (s.toList == ([110, 111, 116] : List UInt8)) = false := by rw [← (show (⟨#[110, 111, 116]⟩ : ByteArray).toList = ([110, 111, 116] : List UInt8) from Lib.toList_data _)]; exact q_not
  have t_not : ¬ s.toList = ([110, 111, 116] : List UInt8) := beq_eq_false_iff_ne.1 r_not
  have r_open : (s.toList == ([40] : List UInt8)) = false := by rw [← (show (⟨#[40]⟩ : ByteArray).toList = ([40] : List UInt8) from Lib.toList_data _)]; exact q_open
  have t_open : ¬ s.toList = ([40] : List UInt8) := beq_eq_false_iff_ne.1 r_open
  have r_all : (s.toList == ([97, 108, 108] : List UInt8)) = false := by rw [← (show (⟨#[97, 108, 108]⟩ : ByteArray).toList = ([97, 108, 108] : List UInt8) from Lib.toList_data _)]; exact q_all
  have t_all : ¬ s.toList = ([97, 108, 108] : List UInt8) := beq_eq_false_iff_ne.1 r_all
  have r_time : (s.toList == ([116, 105, 109, 101] : List UInt8)) = false := by rw [← (show (⟨#[116, 105, 109, 101]⟩ : ByteArray).toList = ([116, 105, 109, 101] : List UInt8) from Lib.toList_data _)]; exact q_time
  have t_time : ¬ s.toList = ([116, 105, 109, 101] : List UInt8) := beq_eq_false_iff_ne.1 r_time
  have r_case : (s.toList == ([99, 97, 115, 101] : List UInt8)) = false := by rw [← (show (⟨#[99, 97, 115, 101]⟩ : ByteArray).toList = ([99, 97, 115, 101] : List UInt8) from Lib.toList_data _)]; exact q_case
  have t_case : ¬ s.toList = ([99, 97, 115, 101] : List UInt8) := beq_eq_false_iff_ne.1 r_case
  have r_subj : (s.toList == ([115, 117, 98, 106, 101, 99, 116] : List UInt8)) = false := by rw [← (show (⟨#[115, 117, 98, 106, 101, 99, 116]⟩ : ByteArray).toList = ([115, 117, 98, 106, 101, 99, 116] : List UInt8) from Lib.toList_data _)]; exact q_subj
  have t_subj : ¬ s.toList = ([115, 117, 98, 106, 101, 99, 116] : List UInt8) := beq_eq_false_iff_ne.1 r_subj
  clear hse e1 h hFT hL
  go_enter Tryz.func32, Tryz.ntmps32
  go_wp2_with fail
  refine ht.mono ?_
  rintro e w1 ⟨rfl, R1, g1⟩
  have K1 := K.grown g1 (by simp; omega)
  have G1 := grown_trans G g1
  have s1 : w.heap.size + 1 ≤ w1.heap.size := by have := g1.size; simpa using this
  clear ht K G g1
  have ht := wtake_any g S st1 w1 R1
  rw [e2] at ht
  dsimp only at ht
  have hnm := fun W => rname_any n (by unfold maxLen; omega) W
  have hlf := fun W S' => Lib.hid (leaf_ZX W S' (2 * d + 2) 4 0 0 n (by unfold I64; omega) hnl (by unfold I64; omega) (by unfold I64; omega))
  unfold strV at ht hnm hlf
  generalize (⟨n.toArray⟩ : ByteArray) = s' at *
  clear R1 e2 hnl a_not a_open a_all a_time a_case a_subj a_class
  go_wp2_with fail
  refine ht.mono ?_
  rintro e w5 ⟨rfl, R5, g5⟩
  have K5 := K1.grown g5 (by simp; omega)
  have G5 := grown_trans G1 g5
  clear ht K1 G1 g5
  have c40 : (w5).cell? ⟨w.heap.size, 0, none⟩ = some (.int .i64 0) := K5.cell 0
  have c41 : (w5).cell? ⟨w.heap.size, 1, none⟩ = some (.string ⟨#[]⟩) := K5.cell 1
  have c42 : (w5).cell? ⟨w.heap.size, 2, none⟩ = some (.int .i64 0) := K5.cell 2
  have c43 : (w5).cell? ⟨w.heap.size, 3, none⟩ = some (.int .i64 0) := K5.cell 3
  have c44 : (w5).cell? ⟨w.heap.size, 4, none⟩ = some (.slice none 0 0) := K5.cell 4
  have f40 := K5.free 0
  have f41 := K5.free 1
  have f42 := K5.free 2
  have f43 := K5.free 3
  have f44 := K5.free 4
  cases hb : nameS n with
  | true =>
    rw [hb] at hnm
    obtain ⟨y1, y2⟩ := nt2.out (by rw [hb]; decide)
    replace y2 := Lib.hid y2
    rw [← y1] at R5
    clear nt1 nt2 y1 hb
    go_wp2_with fail
    refine (hnm _).mono ?_
    rintro e w6 ⟨rfl, rfl⟩
    go_wp2_with fail
    exact bodyPost_ret (results_cell_row (P := Tryz.prog) rfl _ _ w.heap.size _ _ (0, 0) _ rfl (zput_five K5) Tryz.underlying24 rfl (by kernel_rfl)) rfl
      (fact_five (leafS 4 n 0 0 : Sc (2 * d + 2 + 1)) R5 hne hSg G5 (hlf _ _).out y2.out)
  | false =>
    rw [hb] at hnm
    have ho := nt1.out (.inr hb)
    subst ho
    obtain ⟨⟨A0, n0, z0, sc0⟩, sc1, sf0, sf1⟩ := R5.cells
    have R9 := R5.failed
    have KF := zKB_far (h := g) (i := 1) (v := .bool true) K5 hne2
    have G9 := grown_trans G5 (grown_set w5 g 1 (.bool true))
    clear nt1 nt2 hb R5 K5 G5
    go_wp2_with fail
    refine (hnm _).mono ?_
    rintro e w6 ⟨rfl, rfl⟩
    go_wp2_with fail
    exact bodyPost_ret (results_cell_row (P := Tryz.prog) rfl _ _ w.heap.size _ _ (0, 0) _ rfl (zput_five KF) Tryz.underlying24 rfl (by kernel_rfl)) rfl
      (fact_five (leafS 4 n 0 0 : Sc (2 * d + 2 + 1)) R9 hne hSg G9 (hlf _ _).out (fun p e => by cases e))
set_option maxHeartbeats 8000000 in
theorem wfac_none (S : Nat → Prop) (d : Nat) (hd : d + 1 ≤ 1000) (g : Nat) (st st1 : Option (List Wv)) (u : Wv) (w : World) (h : SW w g S st) (hS : ∀ b, S b → b < w.heap.size) (hL : (st.getD []).length ≤ 1000000) (e1 : takeW st = (u, st1)) (a_not : ¬ u = wNot) (a_open : ¬ u = wOpen) (a_all : ¬ u = wAll) (a_time : ¬ u = wTime) (a_case : ¬ u = wCase) (a_subj : ¬ u = wSubj) (a_class : ¬ u = wClass) :
    Calls Tryz.prog 32 #[.pointer (some ⟨g, 0, none⟩), .int .i64 ((d + 1 : Nat) : Int)] w (FactV w g S (2 * d + 2 + 1) (st.bind (factW (d + 1)))) := by
  have hg := h.lt
  have K := KB.new w 24 #[.int .i64 0, .string ⟨#[]⟩, .int .i64 0, .int .i64 0, .slice none 0 0]
  have G := grown_of_below ((Below.refl w.heap.size w).alloc (Nat.le_refl _) (.cells #[.int .i64 0, .string ⟨#[]⟩, .int .i64 0, .int .i64 0, .slice none 0 0] 24)) (some g)
  have ht := wtake_any g S st _ (h.alloc (.cells #[.int .i64 0, .string ⟨#[]⟩, .int .i64 0, .int .i64 0, .slice none 0 0] 24))
  have hL1 := takeW_len st
  rw [e1] at ht hL1
  dsimp only at ht hL1
  replace hL1 : (st1.getD []).length ≤ 1000000 := by omega
  have hne : ¬ w.heap.size = g := by omega
  have hne2 : ¬ g = w.heap.size := by omega
  have hSg : ¬ S w.heap.size := fun h => Nat.lt_irrefl _ (hS _ h)
  have D0 : decide (((d + 1 : Nat) : Int) < 1) = false := decide_eq_false (by omega)
  have hFT := fact_takes (d := d) e1
  have hop : namesOp u = 0 := by unfold namesOp; rw [if_neg a_case, if_neg a_subj, if_neg a_class]
  rw [hFT.2.2.2.2 a_not a_open a_all a_time, hop]
  obtain ⟨n, st2, e2⟩ : ∃ n st2, takeW st1 = (n, st2) := ⟨_, _, rfl⟩
  obtain ⟨nt1, nt2⟩ := name_takes (f := 2 * d + 2) (op := 0) e2
  have hnl : n.length ≤ 1000 := takeW_word e1 e2 h
  obtain ⟨o, ho⟩ : ∃ o, o = st1.bind (nameQ (2 * d + 2) 0) := ⟨_, rfl⟩
  rw [← ho] at nt1 nt2 ⊢
  replace nt1 := Lib.hid nt1
  replace nt2 := Lib.hid nt2
  clear ho hop
  unfold strV at ht
  obtain ⟨s, hse⟩ : ∃ s : ByteArray, s = ⟨u.toArray⟩ := ⟨_, rfl⟩
  rw [← hse] at ht
  have q_not : (s.toList == (⟨#[110, 111, 116]⟩ : ByteArray).toList) = false := (zeq_txt s _ u wNot hse rfl).trans (by simp [a_not])
  have p_not : ¬ s.toList = (⟨#[110, 111, 116]⟩ : ByteArray).toList := beq_eq_false_iff_ne.1 q_not
  have q_open : (s.toList == (⟨#[40]⟩ : ByteArray).toList) = false := (zeq_txt s _ u wOpen hse rfl).trans (by simp [a_open])
  have p_open : ¬ s.toList = (⟨#[40]⟩ : ByteArray).toList := beq_eq_false_iff_ne.1 q_open
  have q_all : (s.toList == (⟨#[97, 108, 108]⟩ : ByteArray).toList) = false := (zeq_txt s _ u wAll hse rfl).trans (by simp [a_all])
  have p_all : ¬ s.toList = (⟨#[97, 108, 108]⟩ : ByteArray).toList := beq_eq_false_iff_ne.1 q_all
  have q_time : (s.toList == (⟨#[116, 105, 109, 101]⟩ : ByteArray).toList) = false := (zeq_txt s _ u wTime hse rfl).trans (by simp [a_time])
  have p_time : ¬ s.toList = (⟨#[116, 105, 109, 101]⟩ : ByteArray).toList := beq_eq_false_iff_ne.1 q_time
  have q_case : (s.toList == (⟨#[99, 97, 115, 101]⟩ : ByteArray).toList) = false := (zeq_txt s _ u wCase hse rfl).trans (by simp [a_case])
  have p_case : ¬ s.toList = (⟨#[99, 97, 115, 101]⟩ : ByteArray).toList := beq_eq_false_iff_ne.1 q_case
  have q_subj : (s.toList == (⟨#[115, 117, 98, 106, 101, 99, 116]⟩ : ByteArray).toList) = false := (zeq_txt s _ u wSubj hse rfl).trans (by simp [a_subj])
  have p_subj : ¬ s.toList = (⟨#[115, 117, 98, 106, 101, 99, 116]⟩ : ByteArray).toList := beq_eq_false_iff_ne.1 q_subj
  have q_class : (s.toList == (⟨#[99, 108, 97, 115, 115]⟩ : ByteArray).toList) = false := (zeq_txt s _ u wClass hse rfl).trans (by simp [a_class])
  have p_class : ¬ s.toList = (⟨#[99, 108, 97, 115, 115]⟩ : ByteArray).toList := beq_eq_false_iff_ne.1 q_class
  have r_not : (s.toList == ([110, 111, 116] : List UInt8)) = false := by rw [← (show (⟨#[110, 111, 116]⟩ : ByteArray).toList = ([110, 111, 116] : List UInt8) from Lib.toList_data _)]; exact q_not
  have t_not : ¬ s.toList = ([110, 111, 116] : List UInt8) := beq_eq_false_iff_ne.1 r_not
  have r_open : (s.toList == ([40] : List UInt8)) = false := by rw [← (show (⟨#[40]⟩ : ByteArray).toList = ([40] : List UInt8) from Lib.toList_data _)]; exact q_open
  have t_open : ¬ s.toList = ([40] : List UInt8) := beq_eq_false_iff_ne.1 r_open
  have r_all : (s.toList == ([97, 108, 108] : List UInt8)) = false := by rw [← (show (⟨#[97, 108, 108]⟩ : ByteArray).toList = ([97, 108, 108] : List UInt8) from Lib.toList_data _)]; exact q_all
  have t_all : ¬ s.toList = ([97, 108, 108] : List UInt8) := beq_eq_false_iff_ne.1 r_all
  have r_time : (s.toList == ([116, 105, 109, 101] : List UInt8)) = false := by rw [← (show (⟨#[116, 105, 109, 101]⟩ : ByteArray).toList = ([116, 105, 109, 101] : List UInt8) from Lib.toList_data _)]; exact q_time
  have t_time : ¬ s.toList = ([116, 105, 109, 101] : List UInt8) := beq_eq_false_iff_ne.1 r_time
  have r_case : (s.toList == ([99, 97, 115, 101] : List UInt8)) = false := by rw [← (show (⟨#[99, 97, 115, 101]⟩ : ByteArray).toList = ([99, 97, 115, 101] : List UInt8) from Lib.toList_data _)]; exact q_case
  have t_case : ¬ s.toList = ([99, 97, 115, 101] : List UInt8) := beq_eq_false_iff_ne.1 r_case
  have r_subj : (s.toList == ([115, 117, 98, 106, 101, 99, 116] : List UInt8)) = false := by rw [← (show (⟨#[115, 117, 98, 106, 101, 99, 116]⟩ : ByteArray).toList = ([115, 117, 98, 106, 101, 99, 116] : List UInt8) from Lib.toList_data _)]; exact q_subj
  have t_subj : ¬ s.toList = ([115, 117, 98, 106, 101, 99, 116] : List UInt8) := beq_eq_false_iff_ne.1 r_subj
  have r_class : (s.toList == ([99, 108, 97, 115, 115] : List UInt8)) = false := by rw [← (show (⟨#[99, 108, 97, 115, 115]⟩ : ByteArray).toList = ([99, 108, 97, 115, 115] : List UInt8) from Lib.toList_data _)]; exact q_class
  have t_class : ¬ s.toList = ([99, 108, 97, 115, 115] : List UInt8) := beq_eq_false_iff_ne.1 r_class
  clear hse e1 h hFT hL
  go_enter Tryz.func32, Tryz.ntmps32
  go_wp2_with fail
  refine ht.mono ?_
  rintro e w1 ⟨rfl, R1, g1⟩
  have K1 := K.grown g1 (by simp; omega)
  have G1 := grown_trans G g1
  have s1 : w.heap.size + 1 ≤ w1.heap.size := by have := g1.size; simpa using this
  clear ht K G g1
  have ht := wtake_any g S st1 w1 R1
  rw [e2] at ht
  dsimp only at ht
  have hnm := fun W => rname_any n (by unfold maxLen; omega) W
  have hlf := fun W S' => Lib.hid (leaf_ZX W S' (2 * d + 2) 0 0 0 n (by unfold I64; omega) hnl (by unfold I64; omega) (by unfold I64; omega))
  unfold strV at ht hnm hlf
  generalize (⟨n.toArray⟩ : ByteArray) = s' at *
  clear R1 e2 hnl a_not a_open a_all a_time a_case a_subj a_class
  go_wp2_with fail
  refine ht.mono ?_
  rintro e w5 ⟨rfl, R5, g5⟩
  have K5 := K1.grown g5 (by simp; omega)
  have G5 := grown_trans G1 g5
  clear ht K1 G1 g5
  have c40 : (w5).cell? ⟨w.heap.size, 0, none⟩ = some (.int .i64 0) := K5.cell 0
  have c41 : (w5).cell? ⟨w.heap.size, 1, none⟩ = some (.string ⟨#[]⟩) := K5.cell 1
  have c42 : (w5).cell? ⟨w.heap.size, 2, none⟩ = some (.int .i64 0) := K5.cell 2
  have c43 : (w5).cell? ⟨w.heap.size, 3, none⟩ = some (.int .i64 0) := K5.cell 3
  have c44 : (w5).cell? ⟨w.heap.size, 4, none⟩ = some (.slice none 0 0) := K5.cell 4
  have f40 := K5.free 0
  have f41 := K5.free 1
  have f42 := K5.free 2
  have f43 := K5.free 3
  have f44 := K5.free 4
  have ho := nt1.out (.inl (by trivial))
  subst ho
  obtain ⟨⟨A0, n0, z0, sc0⟩, sc1, sf0, sf1⟩ := R5.cells
  have R9 := R5.failed
  have KF := zKB_far (h := g) (i := 1) (v := .bool true) K5 hne2
  have G9 := grown_trans G5 (grown_set w5 g 1 (.bool true))
  clear nt1 nt2 R5 K5 G5
  go_wp2_with fail
  exact bodyPost_ret (results_cell_row (P := Tryz.prog) rfl _ _ w.heap.size _ _ (0, 0) _ rfl (zput_five KF) Tryz.underlying24 rfl (by kernel_rfl)) rfl
    (fact_five (leafS 0 n 0 0 : Sc (2 * d + 2 + 1)) R9 hne hSg G9 (hlf _ _).out (fun p e => by cases e))
theorem wfactor_any (S : Nat → Prop) : ∀ (d : Nat), d ≤ 1000 → FactIh S d
  | 0, _ => wfac_zero S
  | d + 1, hd => fun g st w h hS hL => by
    have ih := wfactor_any S d (by omega)
    obtain ⟨u, st1, e1⟩ : ∃ u st1, takeW st = (u, st1) := ⟨_, _, rfl⟩
    by_cases a1 : u = wNot
    · exact wfac_not S d hd ih g st st1 u w h hS hL e1 a1
    by_cases a2 : u = wOpen
    · exact wfac_open S d hd ih g st st1 u w h hS hL e1 a2
    by_cases a3 : u = wAll
    · exact wfac_all S d hd g st st1 u w h hS hL e1 a3
    by_cases a4 : u = wTime
    · exact wfac_time S d hd g st st1 u w h hS hL e1 a4
    by_cases a5 : u = wCase
    · exact wfac_case S d hd g st st1 u w h hS hL e1 a5
    by_cases a6 : u = wSubj
    · exact wfac_subj S d hd g st st1 u w h hS hL e1 a6
    by_cases a7 : u = wClass
    · exact wfac_class S d hd g st st1 u w h hS hL e1 a7
    exact wfac_none S d hd g st st1 u w h hS hL e1 a1 a2 a3 a4 a5 a6 a7
end
end Go.Proofs.YtjecjlhofnnnpaaGreatDoor
