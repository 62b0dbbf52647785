/-
  WvI: The program's factor (layer 21), over the loaded program: not, brackets; at every depth. No condition but the sizes that it names.
-/
import Derived.Test.YtjecjlhofnnnpaaGreatDoorWy15
set_option linter.unusedVariables false
set_option maxRecDepth 100000
namespace Go.Proofs.YtjecjlhofnnnpaaGreatDoor
section
open Go.RowKit
set_option maxHeartbeats 8000000 in
theorem pfac_not (S : Nat → Prop) (d : Nat) (g : Nat) (st st1 : Option (List Wv)) (u : Wv) (k : Int) (w : World) (h : PW w g S st k) (hS : ∀ b, S b → b < w.heap.size) (hL : (st.getD []).length ≤ 1000000) (e1 : nextW st = (u, st1)) (a_not : u = wNot) (hk0 : 0 ≤ k) (hk : k ≤ 40) (hkd : k = 40 → d = 0) (hone : OneP 49 g S (2 * d + 1) (factW d) (k < 40) (k + 1)) :
    Calls Tryz.prog 49 #[.pointer (some ⟨g, 0, none⟩)] w (PFactV w g S (2 * d + 2 + 1) (st.bind (factW (d + 1))) k) := by
  have hg := h.lt
  have K := KB.new w 24 #[.int .i64 0, .string ⟨#[]⟩, .int .i64 0, .int .i64 0, .slice none 0 0]
  have G := grown_of_below ((Below.refl w.heap.size w).alloc (Nat.le_refl _) (.cells #[.int .i64 0, .string ⟨#[]⟩, .int .i64 0, .int .i64 0, .slice none 0 0] 24)) (some g)
  have ht := pnext_any g S st k _ (h.alloc (.cells #[.int .i64 0, .string ⟨#[]⟩, .int .i64 0, .int .i64 0, .slice none 0 0] 24))
  have hL1 := nextW_len st
  rw [e1] at ht hL1
  dsimp only at ht hL1
  have hne : ¬ w.heap.size = g := by omega
  have hne2 : ¬ g = w.heap.size := by omega
  have hSg : ¬ S w.heap.size := fun h => Nat.lt_irrefl _ (hS _ h)
  have a_all : ¬ u = wAll := by rw [a_not]; decide
  have a_case : ¬ u = wCase := by rw [a_not]; decide
  have a_subj : ¬ u = wSubj := by rw [a_not]; decide
  have a_class : ¬ u = wClass := by rw [a_not]; decide
  have a_time : ¬ u = wTime := by rw [a_not]; decide
  have a_open : ¬ u = wOpen := by rw [a_not]; decide
  have hFT := fact_takes (d := d) (next_take e1 (by rw [a_not]; decide))
  obtain ⟨o, ho⟩ : ∃ o : Option (Sc (2 * d + 1) × List Wv), o = st1.bind (factW d) := ⟨_, rfl⟩
  rw [hFT.1 a_not, ← ho]
  have hif : (if k = 40 then none else st1).bind (factW d) = o := by
    rw [ho]
    split
    · rename_i hk4
      obtain rfl := hkd hk4
      cases st1 <;> rfl
    · rfl
  have HW : Hid (∀ W, PW W g S st1 k → w.heap.size ≤ W.heap.size → Calls Tryz.prog 62 #[.pointer (some ⟨g, 0, none⟩), .func (.func 49) #[.pointer (some ⟨g, 0, none⟩)] #[]] W (PFactV W g S (2 * d + 1) o k)) := fun W h1 h2 => by
    rw [← hif]
    exact pwithin_any 49 g (2 * d + 1) S (factW d) k hk0 hk factor_run hone st1 W h1 (fun b hb => Nat.lt_of_lt_of_le (hS b hb) h2) (by omega)
  have hst : (o.map fun p => ((notsS p.1 : Sc (2 * d + 2 + 1)), p.2)).map (·.2) = o.map (·.2) := by cases o <;> rfl
  have hfx : Hid (∀ x5, (∀ p, o = some p → x5 = p.1) → ∀ p, (o.map fun p => ((notsS p.1 : Sc (2 * d + 2 + 1)), p.2)) = some p → (notsS x5 : Sc (2 * d + 2 + 1)) = p.1) := fun x5 hx5 p e => by
    cases o with
    | none => cases e
    | some q => injection e with e; rw [← e]; exact congrArg notsS (hx5 q rfl)
  obtain ⟨o2, ho2⟩ : ∃ o2, o2 = o.map fun p => ((notsS p.1 : Sc (2 * d + 2 + 1)), p.2) := ⟨_, rfl⟩
  rw [← ho2] at hst hfx ⊢
  unfold strV at ht
  obtain ⟨s, hse⟩ : ∃ s : ByteArray, s = ⟨u.toArray⟩ := ⟨_, rfl⟩
  rw [← hse] at ht
  have q_all : (s.toList == (⟨#[97, 108, 108]⟩ : ByteArray).toList) = false := (zeq_txt s _ u wAll hse rfl).trans (by simp [a_all])
  have p_all : ¬ s.toList = (⟨#[97, 108, 108]⟩ : ByteArray).toList := beq_eq_false_iff_ne.1 q_all
  have r_all : (s.toList == ([97, 108, 108] : List UInt8)) = false := by rw [← (show (⟨#[97, 108, 108]⟩ : ByteArray).toList = ([97, 108, 108] : List UInt8) from Lib.toList_data _)]; exact q_all
  have t_all : ¬ s.toList = ([97, 108, 108] : List UInt8) := beq_eq_false_iff_ne.1 r_all
  have q_case : (s.toList == (⟨#[99, 97, 115, 101]⟩ : ByteArray).toList) = false := (zeq_txt s _ u wCase hse rfl).trans (by simp [a_case])
  have p_case : ¬ s.toList = (⟨#[99, 97, 115, 101]⟩ : ByteArray).toList := beq_eq_false_iff_ne.1 q_case
  have r_case : (s.toList == ([99, 97, 115, 101] : List UInt8)) = false := by rw [← (show (⟨#[99, 97, 115, 101]⟩ : ByteArray).toList = ([99, 97, 115, 101] : List UInt8) from Lib.toList_data _)]; exact q_case
  have t_case : ¬ s.toList = ([99, 97, 115, 101] : List UInt8) := beq_eq_false_iff_ne.1 r_case
  have q_subj : (s.toList == (⟨#[115, 117, 98, 106, 101, 99, 116]⟩ : ByteArray).toList) = false := (zeq_txt s _ u wSubj hse rfl).trans (by simp [a_subj])
  have p_subj : ¬ s.toList = (⟨#[115, 117, 98, 106, 101, 99, 116]⟩ : ByteArray).toList := beq_eq_false_iff_ne.1 q_subj
  have r_subj : (s.toList == ([115, 117, 98, 106, 101, 99, 116] : List UInt8)) = false := by rw [← (show (⟨#[115, 117, 98, 106, 101, 99, 116]⟩ : ByteArray).toList = ([115, 117, 98, 106, 101, 99, 116] : List UInt8) from Lib.toList_data _)]; exact q_subj
  have t_subj : ¬ s.toList = ([115, 117, 98, 106, 101, 99, 116] : List UInt8) := beq_eq_false_iff_ne.1 r_subj
  have q_class : (s.toList == (⟨#[99, 108, 97, 115, 115]⟩ : ByteArray).toList) = false := (zeq_txt s _ u wClass hse rfl).trans (by simp [a_class])
  have p_class : ¬ s.toList = (⟨#[99, 108, 97, 115, 115]⟩ : ByteArray).toList := beq_eq_false_iff_ne.1 q_class
  have r_class : (s.toList == ([99, 108, 97, 115, 115] : List UInt8)) = false := by rw [← (show (⟨#[99, 108, 97, 115, 115]⟩ : ByteArray).toList = ([99, 108, 97, 115, 115] : List UInt8) from Lib.toList_data _)]; exact q_class
  have t_class : ¬ s.toList = ([99, 108, 97, 115, 115] : List UInt8) := beq_eq_false_iff_ne.1 r_class
  have q_time : (s.toList == (⟨#[116, 105, 109, 101]⟩ : ByteArray).toList) = false := (zeq_txt s _ u wTime hse rfl).trans (by simp [a_time])
  have p_time : ¬ s.toList = (⟨#[116, 105, 109, 101]⟩ : ByteArray).toList := beq_eq_false_iff_ne.1 q_time
  have r_time : (s.toList == ([116, 105, 109, 101] : List UInt8)) = false := by rw [← (show (⟨#[116, 105, 109, 101]⟩ : ByteArray).toList = ([116, 105, 109, 101] : List UInt8) from Lib.toList_data _)]; exact q_time
  have t_time : ¬ s.toList = ([116, 105, 109, 101] : List UInt8) := beq_eq_false_iff_ne.1 r_time
  have q_not : (s.toList == (⟨#[110, 111, 116]⟩ : ByteArray).toList) = true := (zeq_txt s _ u wNot hse rfl).trans (by simp [a_not])
  have p_not : s.toList = (⟨#[110, 111, 116]⟩ : ByteArray).toList := beq_iff_eq.1 q_not
  have r_not : (s.toList == ([110, 111, 116] : List UInt8)) = true := by rw [← (show (⟨#[110, 111, 116]⟩ : ByteArray).toList = ([110, 111, 116] : List UInt8) from Lib.toList_data _)]; exact q_not
  have t_not : s.toList = ([110, 111, 116] : List UInt8) := beq_iff_eq.1 r_not
  clear ho ho2 hFT hif hone hkd
  obtain ⟨D, hD⟩ : ∃ D, D = PFactV w g S (2 * d + 2 + 1) o2 k := ⟨_, rfl⟩
  rw [← hD]
  have HD := Lib.hid hD
  clear hse e1 h hL hD
  clear a_all a_case a_subj a_class a_time a_not a_open
  go_enter Tryz.func49, Tryz.ntmps49
  go_wp2_with fail
  refine ht.mono ?_
  rintro e w1 ⟨rfl, R1, g1⟩
  have K1 := K.grown g1 (by simp; omega)
  have G1 := grown_trans G g1
  have s1 : w.heap.size + 1 ≤ w1.heap.size := by have := g1.size; simpa using this
  clear ht K G g1
  have hc := HW.out w1 R1 (by omega)
  clear R1 HW
  go_wp2_with fail
  refine hc.mono ?_
  rintro e w5 ⟨v5, x5, rfl, R5, tv5, hx5, G5⟩
  obtain ⟨e0, e1, e2, e3, e4, rfl, tm5⟩ := tv5
  have s5 := G5.size
  have K5 := (K1.grown G5 (by simp; omega)).alloc (.cells #[e0, e1, e2, e3, e4] 24)
  have R6 := R5.alloc (.cells #[e0, e1, e2, e3, e4] 24)
  have Gf := grown_trans (grown_trans G1 G5) (grown_of_below ((Below.refl w5.heap.size w5).alloc (Nat.le_refl _) (.cells #[e0, e1, e2, e3, e4] 24)) (some g))
  have hone := tm5.cells1
  have kx := nots_ZX (B := w.heap.size) (by omega) (ZX.mono (S' := fun b => w.heap.size < b ∧ b < w5.heap.size) tm5 fun b hb => ⟨by omega, hb.2⟩) rfl
  rw [← hst] at R6
  have hfin := Lib.hid (pfact_five (notsS x5 : Sc (2 * d + 2 + 1)) R6 hg hSg Gf kx (hfx.out x5 hx5))
  rw [← HD.out] at hfin
  have c40 : (w5.alloc (.cells #[e0, e1, e2, e3, e4] 24)).cell? ⟨w.heap.size, 0, none⟩ = some (.int .i64 0) := K5.cell 0
  have c41 : (w5.alloc (.cells #[e0, e1, e2, e3, e4] 24)).cell? ⟨w.heap.size, 1, none⟩ = some (.string ⟨#[]⟩) := K5.cell 1
  have c42 : (w5.alloc (.cells #[e0, e1, e2, e3, e4] 24)).cell? ⟨w.heap.size, 2, none⟩ = some (.int .i64 0) := K5.cell 2
  have c43 : (w5.alloc (.cells #[e0, e1, e2, e3, e4] 24)).cell? ⟨w.heap.size, 3, none⟩ = some (.int .i64 0) := K5.cell 3
  have c44 : (w5.alloc (.cells #[e0, e1, e2, e3, e4] 24)).cell? ⟨w.heap.size, 4, none⟩ = some (.slice none 0 0) := K5.cell 4
  have f40 := K5.free 0
  have f41 := K5.free 1
  have f42 := K5.free 2
  have f43 := K5.free 3
  have f44 := K5.free 4
  clear hc R5 R6 K1 G1 Gf G5 HD tm5 kx hx5 hst hfx
  go_wp2_with fail
  exact bodyPost_ret (results_cell_row (P := Tryz.prog) rfl _ _ w.heap.size _ _ (0, 0) _ rfl (zput_five K5) Tryz.underlying24 rfl (by kernel_rfl)) rfl hfin.out
set_option maxHeartbeats 8000000 in
theorem pfac_open (S : Nat → Prop) (d : Nat) (g : Nat) (st st1 : Option (List Wv)) (u : Wv) (k : Int) (w : World) (h : PW w g S st k) (hS : ∀ b, S b → b < w.heap.size) (hL : (st.getD []).length ≤ 1000000) (e1 : nextW st = (u, st1)) (a_open : u = wOpen) (hk0 : 0 ≤ k) (hk : k ≤ 40) (hkd : k = 40 → d = 0) (hone : OneP 19 g S (2 * d + 2 + 1) (orV (factW d)) (k < 40) (k + 1)) :
    Calls Tryz.prog 49 #[.pointer (some ⟨g, 0, none⟩)] w (PFactV w g S (2 * d + 2 + 1) (st.bind (factW (d + 1))) k) := by
  have hg := h.lt
  have K := KB.new w 24 #[.int .i64 0, .string ⟨#[]⟩, .int .i64 0, .int .i64 0, .slice none 0 0]
  have G := grown_of_below ((Below.refl w.heap.size w).alloc (Nat.le_refl _) (.cells #[.int .i64 0, .string ⟨#[]⟩, .int .i64 0, .int .i64 0, .slice none 0 0] 24)) (some g)
  have ht := pnext_any g S st k _ (h.alloc (.cells #[.int .i64 0, .string ⟨#[]⟩, .int .i64 0, .int .i64 0, .slice none 0 0] 24))
  have hL1 := nextW_len st
  rw [e1] at ht hL1
  dsimp only at ht hL1
  have hne : ¬ w.heap.size = g := by omega
  have hne2 : ¬ g = w.heap.size := by omega
  have hSg : ¬ S w.heap.size := fun h => Nat.lt_irrefl _ (hS _ h)
  have a_all : ¬ u = wAll := by rw [a_open]; decide
  have a_case : ¬ u = wCase := by rw [a_open]; decide
  have a_subj : ¬ u = wSubj := by rw [a_open]; decide
  have a_class : ¬ u = wClass := by rw [a_open]; decide
  have a_time : ¬ u = wTime := by rw [a_open]; decide
  have a_not : ¬ u = wNot := by rw [a_open]; decide
  have hFT := fact_takes (d := d) (next_take e1 (by rw [a_open]; decide))
  obtain ⟨o, ho⟩ : ∃ o : Option (Sc (2 * d + 2 + 1) × List Wv), o = st1.bind (orV (factW d)) := ⟨_, rfl⟩
  rw [hFT.2.1 a_open, ← ho]
  have hif : (if k = 40 then none else st1).bind (orV (factW d)) = o := by
    rw [ho]
    split
    · rename_i hk4
      obtain rfl := hkd hk4
      cases st1 <;> rfl
    · rfl
  have HW : Hid (∀ W, PW W g S st1 k → w.heap.size ≤ W.heap.size → Calls Tryz.prog 62 #[.pointer (some ⟨g, 0, none⟩), .func (.func 19) #[.pointer (some ⟨g, 0, none⟩)] #[]] W (PFactV W g S (2 * d + 2 + 1) o k)) := fun W h1 h2 => by
    rw [← hif]
    exact pwithin_any 19 g (2 * d + 2 + 1) S (orV (factW d)) k hk0 hk scope_run hone st1 W h1 (fun b hb => Nat.lt_of_lt_of_le (hS b hb) h2) (by omega)
  obtain ⟨c, s3, ec⟩ : ∃ c s3, nextW (o.map (·.2)) = (c, s3) := ⟨_, _, rfl⟩
  have HNX : Hid (∀ W, PW W g S (o.map (·.2)) k → Calls Tryz.prog 59 #[.pointer (some ⟨g, 0, none⟩)] W fun e w' => e = .returned (strV c) ∧ PW w' g S s3 k ∧ W.grownBy w' (some g)) := fun W h => by
    have := pnext_any g S (o.map (·.2)) k W h
    rw [ec] at this
    exact this
  have HF := Lib.hid (fun W h => pfail_any g S s3 k W h)
  obtain ⟨o2, ho2⟩ : ∃ o2, o2 = o.bind closeQ := ⟨_, rfl⟩
  rw [← ho2]
  have HY : Hid (c = wClose → o2.map (·.2) = s3 ∧ ∀ p, o2 = some p → ∃ q, o = some q ∧ p.1 = q.1) := fun e => by
    rw [ho2]; subst e; exact close_yes (next_take ec (show wClose ≠ [] by decide))
  have HN : Hid (¬ c = wClose → o2 = none) := fun e => by
    rw [ho2]
    by_cases hc : c = []
    · subst hc
      rcases o with _ | ⟨x, ws⟩
      · rfl
      · cases ws with
        | nil => rfl
        | cons v ws =>
          have : v = [] := congrArg Prod.fst ec
          subst this
          show (if ([] : Wv) = wClose then some (x, ws) else none) = none
          exact if_neg (by decide)
    · exact close_no (next_take ec hc) e
  unfold strV at ht
  obtain ⟨s, hse⟩ : ∃ s : ByteArray, s = ⟨u.toArray⟩ := ⟨_, rfl⟩
  rw [← hse] at ht
  have q_all : (s.toList == (⟨#[97, 108, 108]⟩ : ByteArray).toList) = false := (zeq_txt s _ u wAll hse rfl).trans (by simp [a_all])
  have p_all : ¬ s.toList = (⟨#[97, 108, 108]⟩ : ByteArray).toList := beq_eq_false_iff_ne.1 q_all
  have r_all : (s.toList == ([97, 108, 108] : List UInt8)) = false := by rw [← (show (⟨#[97, 108, 108]⟩ : ByteArray).toList = ([97, 108, 108] : List UInt8) from Lib.toList_data _)]; exact q_all
  have t_all : ¬ s.toList = ([97, 108, 108] : List UInt8) := beq_eq_false_iff_ne.1 r_all
  have q_case : (s.toList == (⟨#[99, 97, 115, 101]⟩ : ByteArray).toList) = false := (zeq_txt s _ u wCase hse rfl).trans (by simp [a_case])
  have p_case : ¬ s.toList = (⟨#[99, 97, 115, 101]⟩ : ByteArray).toList := beq_eq_false_iff_ne.1 q_case
  have r_case : (s.toList == ([99, 97, 115, 101] : List UInt8)) = false := by rw [← (show (⟨#[99, 97, 115, 101]⟩ : ByteArray).toList = ([99, 97, 115, 101] : List UInt8) from Lib.toList_data _)]; exact q_case
  have t_case : ¬ s.toList = ([99, 97, 115, 101] : List UInt8) := beq_eq_false_iff_ne.1 r_case
  have q_subj : (s.toList == (⟨#[115, 117, 98, 106, 101, 99, 116]⟩ : ByteArray).toList) = false := (zeq_txt s _ u wSubj hse rfl).trans (by simp [a_subj])
  have p_subj : ¬ s.toList = (⟨#[115, 117, 98, 106, 101, 99, 116]⟩ : ByteArray).toList := beq_eq_false_iff_ne.1 q_subj
  have r_subj : (s.toList == ([115, 117, 98, 106, 101, 99, 116] : List UInt8)) = false := by rw [← (show (⟨#[115, 117, 98, 106, 101, 99, 116]⟩ : ByteArray).toList = ([115, 117, 98, 106, 101, 99, 116] : List UInt8) from Lib.toList_data _)]; exact q_subj
  have t_subj : ¬ s.toList = ([115, 117, 98, 106, 101, 99, 116] : List UInt8) := beq_eq_false_iff_ne.1 r_subj
  have q_class : (s.toList == (⟨#[99, 108, 97, 115, 115]⟩ : ByteArray).toList) = false := (zeq_txt s _ u wClass hse rfl).trans (by simp [a_class])
  have p_class : ¬ s.toList = (⟨#[99, 108, 97, 115, 115]⟩ : ByteArray).toList := beq_eq_false_iff_ne.1 q_class
  have r_class : (s.toList == ([99, 108, 97, 115, 115] : List UInt8)) = false := by rw [← (show (⟨#[99, 108, 97, 115, 115]⟩ : ByteArray).toList = ([99, 108, 97, 115, 115] : List UInt8) from Lib.toList_data _)]; exact q_class
  have t_class : ¬ s.toList = ([99, 108, 97, 115, 115] : List UInt8) := beq_eq_false_iff_ne.1 r_class
  have q_time : (s.toList == (⟨#[116, 105, 109, 101]⟩ : ByteArray).toList) = false := (zeq_txt s _ u wTime hse rfl).trans (by simp [a_time])
  have p_time : ¬ s.toList = (⟨#[116, 105, 109, 101]⟩ : ByteArray).toList := beq_eq_false_iff_ne.1 q_time
  have r_time : (s.toList == ([116, 105, 109, 101] : List UInt8)) = false := by rw [← (show (⟨#[116, 105, 109, 101]⟩ : ByteArray).toList = ([116, 105, 109, 101] : List UInt8) from Lib.toList_data _)]; exact q_time
  have t_time : ¬ s.toList = ([116, 105, 109, 101] : List UInt8) := beq_eq_false_iff_ne.1 r_time
  have q_not : (s.toList == (⟨#[110, 111, 116]⟩ : ByteArray).toList) = false := (zeq_txt s _ u wNot hse rfl).trans (by simp [a_not])
  have p_not : ¬ s.toList = (⟨#[110, 111, 116]⟩ : ByteArray).toList := beq_eq_false_iff_ne.1 q_not
  have r_not : (s.toList == ([110, 111, 116] : List UInt8)) = false := by rw [← (show (⟨#[110, 111, 116]⟩ : ByteArray).toList = ([110, 111, 116] : List UInt8) from Lib.toList_data _)]; exact q_not
  have t_not : ¬ s.toList = ([110, 111, 116] : List UInt8) := beq_eq_false_iff_ne.1 r_not
  have q_open : (s.toList == (⟨#[40]⟩ : ByteArray).toList) = true := (zeq_txt s _ u wOpen hse rfl).trans (by simp [a_open])
  have p_open : s.toList = (⟨#[40]⟩ : ByteArray).toList := beq_iff_eq.1 q_open
  have r_open : (s.toList == ([40] : List UInt8)) = true := by rw [← (show (⟨#[40]⟩ : ByteArray).toList = ([40] : List UInt8) from Lib.toList_data _)]; exact q_open
  have t_open : s.toList = ([40] : List UInt8) := beq_iff_eq.1 r_open
  clear ho ho2 hFT hif hone hkd ec
  obtain ⟨D, hD⟩ : ∃ D, D = PFactV w g S (2 * d + 2 + 1) o2 k := ⟨_, rfl⟩
  rw [← hD]
  have HD := Lib.hid hD
  clear hse e1 h hL hD
  clear a_all a_case a_subj a_class a_time a_not a_open
  go_enter Tryz.func49, Tryz.ntmps49
  go_wp2_with fail
  refine ht.mono ?_
  rintro e w1 ⟨rfl, R1, g1⟩
  have K1 := K.grown g1 (by simp; omega)
  have G1 := grown_trans G g1
  have s1 : w.heap.size + 1 ≤ w1.heap.size := by have := g1.size; simpa using this
  clear ht K G g1
  have hc := HW.out w1 R1 (by omega)
  clear R1 HW
  go_wp2_with fail
  refine hc.mono ?_
  rintro e w5 ⟨v5, x5, rfl, R5, tv5, hx5, G5⟩
  replace hx5 := Lib.hid hx5
  obtain ⟨e0, e1, e2, e3, e4, rfl, tm5⟩ := tv5
  obtain ⟨j0, l1, j2, j3, X4, n4, z4, rfl, rfl, rfl, rfl, rfl⟩ := tm5.form
  have s5 := G5.size
  have K5 := (K1.grown G5 (by simp; omega)).alloc (.cells #[.int .i64 j0, strV l1, .int .i64 j2, .int .i64 j3, .slice X4 n4 z4] 24)
  have K7 := KB.new w5 24 #[.int .i64 j0, strV l1, .int .i64 j2, .int .i64 j3, .slice X4 n4 z4]
  have Gf := grown_trans (grown_trans G1 G5) (grown_of_below ((Below.refl w5.heap.size w5).alloc (Nat.le_refl _) (.cells #[.int .i64 j0, strV l1, .int .i64 j2, .int .i64 j3, .slice X4 n4 z4] 24)) (some g))
  have kx := ZX.mono (S' := fun b => w.heap.size < b ∧ b < w5.heap.size) tm5 fun b hb => ⟨by omega, hb.2⟩
  have hn7 : ¬ w5.heap.size = g := by omega
  have hn8 : ¬ w5.heap.size = w.heap.size := by omega
  have ht := HNX.out _ (R5.alloc (.cells #[.int .i64 j0, strV l1, .int .i64 j2, .int .i64 j3, .slice X4 n4 z4] 24))
  unfold strV at ht K5 K7 kx Gf ⊢
  obtain ⟨s', hse'⟩ : ∃ s : ByteArray, s = ⟨c.toArray⟩ := ⟨_, rfl⟩
  rw [← hse'] at ht
  have gq := zeq_txt s' _ c wClose hse' rfl
  have gl : (⟨wClose.toArray⟩ : ByteArray) = ⟨#[41]⟩ := rfl
  rw [gl] at gq
  clear tm5 K1 G1 G5 hc R5 hse' HNX gl
  go_wp2_with fail
  refine ht.mono ?_
  rintro e w8 ⟨rfl, R8, g8⟩
  have s8 := g8.size
  rw [World.size_alloc] at s8
  have K5 := K5.grown g8 (by simp; omega)
  have K7 := K7.grown g8 (by simp; omega)
  have Gf := grown_trans Gf g8
  have kx := ZX.keepS (w' := w8) (S' := fun b => w.heap.size < b ∧ b < w8.heap.size) (kx.alloc (.cells #[.int .i64 j0, .string ⟨l1.toArray⟩, .int .i64 j2, .int .i64 j3, .slice X4 n4 z4] 24)) (by rw [World.size_alloc]; omega) (fun b hb hl => g8.block b hl (by simp; omega)) fun b hb => ⟨hb.1, by omega⟩
  have hf := HF.out w8 R8
  clear ht g8
  by_cases hcc : c = wClose
  · rw [decide_eq_true hcc] at gq
    obtain ⟨y1, y2⟩ := HY.out hcc
    rw [← y1] at R8
    have hfin := pfact_five x5 R8 hg hSg Gf kx fun p e => by
      obtain ⟨q, eq, ep⟩ := y2 p e
      rw [ep, hx5.out q eq]
    rw [← HD.out] at hfin
    replace hfin := Lib.hid hfin
    have gp : s'.toList = (⟨#[41]⟩ : ByteArray).toList := beq_iff_eq.1 gq
    have gp2 : s'.toList = ([41] : List UInt8) := gp.trans (Lib.toList_data _)
    have gq2 : (s'.toList == ([41] : List UInt8)) = true := beq_iff_eq.2 gp2
    have gn : (s'.toList != (⟨#[41]⟩ : ByteArray).toList) = false := by rw [bne, gq]; rfl
    have gn2 : (s'.toList != ([41] : List UInt8)) = false := by rw [bne, gq2]; rfl
    have c40 : w8.cell? ⟨w.heap.size, 0, none⟩ = some (.int .i64 0) := K5.cell 0
    have c41 : w8.cell? ⟨w.heap.size, 1, none⟩ = some (.string ⟨#[]⟩) := K5.cell 1
    have c42 : w8.cell? ⟨w.heap.size, 2, none⟩ = some (.int .i64 0) := K5.cell 2
    have c43 : w8.cell? ⟨w.heap.size, 3, none⟩ = some (.int .i64 0) := K5.cell 3
    have c44 : w8.cell? ⟨w.heap.size, 4, none⟩ = some (.slice none 0 0) := K5.cell 4
    have f40 := K5.free 0
    have f41 := K5.free 1
    have f42 := K5.free 2
    have f43 := K5.free 3
    have f44 := K5.free 4
    have c70 : w8.cell? ⟨w5.heap.size, 0, none⟩ = some (.int .i64 j0) := K7.cell 0
    have c71 : w8.cell? ⟨w5.heap.size, 1, none⟩ = some (.string ⟨l1.toArray⟩) := K7.cell 1
    have c72 : w8.cell? ⟨w5.heap.size, 2, none⟩ = some (.int .i64 j2) := K7.cell 2
    have c73 : w8.cell? ⟨w5.heap.size, 3, none⟩ = some (.int .i64 j3) := K7.cell 3
    have c74 : w8.cell? ⟨w5.heap.size, 4, none⟩ = some (.slice X4 n4 z4) := K7.cell 4
    clear HY HN y1 y2 hcc hx5 hf R8 kx Gf HD HF
    go_wp2_with fail
    exact bodyPost_ret (results_cell_row (P := Tryz.prog) rfl _ _ w.heap.size _ _ (0, 0) _ rfl (zput_five K5) Tryz.underlying24 rfl (by kernel_rfl)) rfl hfin.out
  · rw [decide_eq_false hcc] at gq
    have hno := HN.out hcc
    have gp : ¬ s'.toList = (⟨#[41]⟩ : ByteArray).toList := beq_eq_false_iff_ne.1 gq
    have gp2 : ¬ s'.toList = ([41] : List UInt8) := fun e => gp (e.trans (show (⟨#[41]⟩ : ByteArray).toList = ([41] : List UInt8) from Lib.toList_data _).symm)
    have gq2 : (s'.toList == ([41] : List UInt8)) = false := beq_eq_false_iff_ne.2 gp2
    have gn : (s'.toList != (⟨#[41]⟩ : ByteArray).toList) = true := by rw [bne, gq]; rfl
    have gn2 : (s'.toList != ([41] : List UInt8)) = true := by rw [bne, gq2]; rfl
    have HNO := Lib.hid hno
    clear HY HN hcc hx5 R8 HF hno
    go_wp2_with fail
    refine hf.mono ?_
    rintro e w9 ⟨rfl, R9, g9⟩
    have s9 := g9.size
    have K5 := K5.grown g9 (by simp; omega)
    have K7 := K7.grown g9 (by simp; omega)
    have Gf := grown_trans Gf g9
    have kx := ZX.keepS (w' := w9) (S' := fun b => w.heap.size < b ∧ b < w9.heap.size) kx s9 (fun b hb hl => g9.block b hl (by simp; omega)) fun b hb => ⟨hb.1, by omega⟩
    have R9 : PW w9 g S (o2.map (·.2)) k := by rw [HNO.out]; exact R9
    have hfin := pfact_five x5 R9 hg hSg Gf kx fun p e => by rw [HNO.out] at e; cases e
    rw [← HD.out] at hfin
    replace hfin := Lib.hid hfin
    have c40 : w9.cell? ⟨w.heap.size, 0, none⟩ = some (.int .i64 0) := K5.cell 0
    have c41 : w9.cell? ⟨w.heap.size, 1, none⟩ = some (.string ⟨#[]⟩) := K5.cell 1
    have c42 : w9.cell? ⟨w.heap.size, 2, none⟩ = some (.int .i64 0) := K5.cell 2
    have c43 : w9.cell? ⟨w.heap.size, 3, none⟩ = some (.int .i64 0) := K5.cell 3
    have c44 : w9.cell? ⟨w.heap.size, 4, none⟩ = some (.slice none 0 0) := K5.cell 4
    have f40 := K5.free 0
    have f41 := K5.free 1
    have f42 := K5.free 2
    have f43 := K5.free 3
    have f44 := K5.free 4
    have c70 : w9.cell? ⟨w5.heap.size, 0, none⟩ = some (.int .i64 j0) := K7.cell 0
    have c71 : w9.cell? ⟨w5.heap.size, 1, none⟩ = some (.string ⟨l1.toArray⟩) := K7.cell 1
    have c72 : w9.cell? ⟨w5.heap.size, 2, none⟩ = some (.int .i64 j2) := K7.cell 2
    have c73 : w9.cell? ⟨w5.heap.size, 3, none⟩ = some (.int .i64 j3) := K7.cell 3
    have c74 : w9.cell? ⟨w5.heap.size, 4, none⟩ = some (.slice X4 n4 z4) := K7.cell 4
    clear hf R9 kx Gf HD HNO
    go_wp2_with fail
    exact bodyPost_ret (results_cell_row (P := Tryz.prog) rfl _ _ w.heap.size _ _ (0, 0) _ rfl (zput_five K5) Tryz.underlying24 rfl (by kernel_rfl)) rfl hfin.out
def FactP (S : Nat → Prop) (d : Nat) : Prop := ∀ (g : Nat) (k : Int), 0 ≤ k → k ≤ 41 → OneP 49 g S (2 * d + 1) (factW d) (k = 41 - (d : Int) ∧ 1 ≤ d) k
theorem pfac_none (S : Nat → Prop) (f g : Nat) (k : Int) (w : World) (h : PW w g S none k) (hS : ∀ b, S b → b < w.heap.size) : Calls Tryz.prog 49 #[.pointer (some ⟨g, 0, none⟩)] w (PFactV w g S (f + 1) none k) :=
  pfac_bad S f g none none [] k w h hS (by simp) rfl (by decide) (by decide) (by decide) (by decide) (by decide) (by decide) (by decide)
theorem pfactor_any (S : Nat → Prop) : ∀ d : Nat, FactP S d
  | 0 => fun g k hk0 hk st w h hS hL hok => by
    rcases hok with rfl | ⟨_, h1⟩
    · exact pfac_none S (2 * 0) g k w h hS
    · omega
  | d + 1 => fun g k hk0 hk st w h hS hL hok => by
    have ih := pfactor_any S d
    cases hst : st with
    | none =>
      rw [hst] at h
      exact pfac_none S (2 * d + 2) g k w h hS
    | some l =>
      have hkk : k = 40 - (d : Int) := by
        rcases hok with h0 | ⟨h1, _⟩
        · rw [hst] at h0; cases h0
        · omega
      have hone : OneP 49 g S (2 * d + 1) (factW d) (k < 40) (k + 1) := fun st w h1 h2 h3 h4 => ih g (k + 1) (by omega) (by omega) st w h1 h2 h3 (h4.imp id fun h5 => ⟨by omega, by omega⟩)
      have hscp : OneP 19 g S (2 * d + 2 + 1) (orV (factW d)) (k < 40) (k + 1) :=
        pscope_any g (2 * d + 2) S (andV (factW d)) (andW_shrinks (factW_shrinks d)) _ _ (pterm_any g (2 * d + 1) S (factW d) (factW_shrinks d) _ _ hone)
      rw [← hst]
      obtain ⟨u, st1, e1⟩ : ∃ u st1, nextW st = (u, st1) := ⟨_, _, rfl⟩
      by_cases a_all : u = wAll
      · exact pfac_all S d g st st1 u k w h hS hL e1 a_all
      by_cases a_case : u = wCase
      · exact pfac_case S d g st st1 u k w h hS hL e1 a_case
      by_cases a_subj : u = wSubj
      · exact pfac_subj S d g st st1 u k w h hS hL e1 a_subj
      by_cases a_class : u = wClass
      · exact pfac_class S d g st st1 u k w h hS hL e1 a_class
      by_cases a_time : u = wTime
      · exact pfac_time S d g st st1 u k w h hS hL e1 a_time
      by_cases a_not : u = wNot
      · exact pfac_not S d g st st1 u k w h hS hL e1 a_not hk0 (by omega) (fun h => by omega) hone
      by_cases a_open : u = wOpen
      · exact pfac_open S d g st st1 u k w h hS hL e1 a_open hk0 (by omega) (fun h => by omega) hscp
      have hb := fact_bad (d := d) e1 a_all a_case a_subj a_class a_time a_not a_open
      rw [hb]
      exact pfac_bad S (2 * d + 2) g st st1 u k w h hS hL e1 a_all a_case a_subj a_class a_time a_not a_open
end
end Go.Proofs.YtjecjlhofnnnpaaGreatDoor
