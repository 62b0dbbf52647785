/-
  WvH: The program's factor (layer 21), over the loaded program, by the word at its front: all, a name, time, none of them. No condition but the sizes that it names.
-/
import Derived.Test.YtjecjlhofnnnpaaGreatDoorWy12
import Derived.Test.YtjecjlhofnnnpaaGreatDoorWy14
set_option linter.unusedVariables false
set_option maxRecDepth 100000
namespace Go.Proofs.YtjecjlhofnnnpaaGreatDoor
section
open Go.RowKit
theorem next_take {st st1 : Option (List Wv)} {u : Wv} (h : nextW st = (u, st1)) (hu : u ≠ []) : takeW st = (u, st1) := by
  rcases st with _ | _ | ⟨v, l⟩
  · exact absurd (congrArg Prod.fst h).symm hu
  · exact absurd (congrArg Prod.fst h).symm hu
  · exact h
theorem name_none : nameS [] = false := by decide
theorem name_next {f : Nat} {op : Int} {st1 st2 : Option (List Wv)} {n : Wv} (h : nextW st1 = (n, st2)) (h0 : ¬ op = 0) :
    (st1.bind (nameQ f op)).map (·.2) = (if nameS n = true then st2 else none) ∧ ∀ p, st1.bind (nameQ f op) = some p → (leafS op n 0 0 : Sc (f + 1)) = p.1 := by
  rcases st1 with _ | _ | ⟨u, l⟩
  · have h1 : [] = n := congrArg Prod.fst h
    subst h1
    exact ⟨by rw [name_none]; rfl, fun p e => by cases e⟩
  · have h1 : [] = n := congrArg Prod.fst h
    subst h1
    exact ⟨by rw [name_none]; rfl, fun p e => by cases e⟩
  · have h1 : u = n := congrArg Prod.fst h
    have h2 : some l = st2 := congrArg Prod.snd h
    subst h1 h2
    cases hn : nameS u with
    | false =>
      have e : (some (u :: l) : Option (List Wv)).bind (nameQ f op) = none := if_pos (.inr hn)
      rw [e, if_neg (by simp)]
      exact ⟨rfl, fun p e => by cases e⟩
    | true =>
      have e : (some (u :: l) : Option (List Wv)).bind (nameQ f op) = some (leafS op u 0 0, l) := if_neg (by rw [hn]; simp; exact h0)
      rw [e, if_pos rfl]
      exact ⟨rfl, fun p e => by injection e with e; rw [← e]⟩
theorem time_next {f : Nat} {st1 : Option (List Wv)} {a b : Int} (h : ∀ p, timeW (nextW st1).1 = some p → a = p.1 ∧ b = p.2) :
    (st1.bind (timeQ f)).map (·.2) = (if (timeW (nextW st1).1).isSome = true then (nextW st1).2 else none) ∧ ∀ p, st1.bind (timeQ f) = some p → (leafS 5 [] a b : Sc (f + 1)) = p.1 := by
  have h0 : timeW [] = none := rfl
  rcases st1 with _ | _ | ⟨u, l⟩
  · refine ⟨?_, fun p e => by cases e⟩
    show none = if (timeW []).isSome = true then _ else _
    rw [h0]; rfl
  · refine ⟨?_, fun p e => by cases e⟩
    show none = if (timeW []).isSome = true then _ else _
    rw [h0]; rfl
  · have e : (some (u :: l) : Option (List Wv)).bind (timeQ f) = (timeW u).map fun p => (leafS 5 [] (p.1 : Int) (p.2 : Int), l) := rfl
    have en : nextW (some (u :: l)) = (u, some l) := rfl
    rw [en] at h ⊢
    dsimp only at h ⊢
    rw [e]
    cases hq : timeW u with
    | none => exact ⟨rfl, fun p e => by cases e⟩
    | some q =>
      obtain ⟨h1, h2⟩ := h q hq
      exact ⟨rfl, fun p e => by injection e with e; rw [← e, h1, h2]⟩
theorem fact_bad {d : Nat} {st st1 : Option (List Wv)} {u : Wv} (h : nextW st = (u, st1)) (h1 : ¬ u = wAll) (h2 : ¬ u = wCase) (h3 : ¬ u = wSubj) (h4 : ¬ u = wClass) (h5 : ¬ u = wTime) (h6 : ¬ u = wNot) (h7 : ¬ u = wOpen) : st.bind (factW (d + 1)) = none := by
  rcases st with _ | _ | ⟨v, l⟩
  · rfl
  · show factW (d + 1) [] = none
    rw [factW.eq_2]
  · have e1 : v = u := congrArg Prod.fst h
    have e2 : some l = st1 := congrArg Prod.snd h
    subst e1 e2
    have e := (fact_takes (d := d) (st := some (v :: l)) (st1 := some l) rfl).2.2.2.2 h6 h7 h1 h5
    rw [e]
    have hn : namesOp v = 0 := by unfold namesOp; rw [if_neg h2, if_neg h3, if_neg h4]
    rw [hn]
    cases l with
    | nil => rfl
    | cons n l =>
      show (if (0 : Int) = 0 ∨ nameS n = false then none else some ((leafS 0 n 0 0 : Sc (2 * d + 2 + 1)), l)) = none
      exact if_pos (Or.inl rfl)
set_option maxHeartbeats 8000000 in
theorem pfac_all (S : Nat → Prop) (d : Nat) (g : Nat) (st st1 : Option (List Wv)) (u : Wv) (k : Int) (w : World) (h : PW w g S st k) (hS : ∀ b, S b → b < w.heap.size) (hL : (st.getD []).length ≤ 1000000) (e1 : nextW st = (u, st1)) (a_all : u = wAll) :
    Calls Tryz.prog 49 #[.pointer (some ⟨g, 0, none⟩)] w (PFactV w g S (2 * d + 2 + 1) (st.bind (factW (d + 1))) k) := by
  have hg := h.lt
  have K := KB.new w 24 #[.int .i64 0, .string ⟨#[]⟩, .int .i64 0, .int .i64 0, .slice none 0 0]
  have G := grown_of_below ((Below.refl w.heap.size w).alloc (Nat.le_refl _) (.cells #[.int .i64 0, .string ⟨#[]⟩, .int .i64 0, .int .i64 0, .slice none 0 0] 24)) (some g)
  have ht := pnext_any g S st k _ (h.alloc (.cells #[.int .i64 0, .string ⟨#[]⟩, .int .i64 0, .int .i64 0, .slice none 0 0] 24))
  have hL1 := nextW_len st
  rw [e1] at ht hL1
  dsimp only at ht hL1
  have hne : ¬ w.heap.size = g := by omega
  have hne2 : ¬ g = w.heap.size := by omega
  have hSg : ¬ S w.heap.size := fun h => Nat.lt_irrefl _ (hS _ h)
  have hFT := fact_takes (d := d) (next_take e1 (by rw [a_all]; decide))
  obtain ⟨o, ho⟩ : ∃ o : Option (Sc (2 * d + 2 + 1) × List Wv), o = st.bind (factW (d + 1)) := ⟨_, rfl⟩
  rw [← ho]
  have hst : o.map (·.2) = st1 := by rw [ho, hFT.2.2.1 a_all]; cases st1 <;> rfl
  have hfx : Hid (∀ p, o = some p → (leafS 1 [] 0 0 : Sc (2 * d + 2 + 1)) = p.1) := fun p e => by
    rw [ho, hFT.2.2.1 a_all] at e
    cases st1 with
    | none => cases e
    | some l => injection e with e; rw [← e]
  unfold strV at ht
  obtain ⟨s, hse⟩ : ∃ s : ByteArray, s = ⟨u.toArray⟩ := ⟨_, rfl⟩
  rw [← hse] at ht
  have q_all : (s.toList == (⟨#[97, 108, 108]⟩ : ByteArray).toList) = true := (zeq_txt s _ u wAll hse rfl).trans (by simp [a_all])
  have p_all : s.toList = (⟨#[97, 108, 108]⟩ : ByteArray).toList := beq_iff_eq.1 q_all
  have r_all : (s.toList == ([97, 108, 108] : List UInt8)) = true := by rw [← (show (⟨#[97, 108, 108]⟩ : ByteArray).toList = ([97, 108, 108] : List UInt8) from Lib.toList_data _)]; exact q_all
  have t_all : s.toList = ([97, 108, 108] : List UInt8) := beq_iff_eq.1 r_all
  clear ho hFT
  obtain ⟨D, hD⟩ : ∃ D, D = PFactV w g S (2 * d + 2 + 1) o k := ⟨_, rfl⟩
  rw [← hD]
  have HD := Lib.hid hD
  clear hse e1 h hL hD
  clear a_all
  go_enter Tryz.func49, Tryz.ntmps49
  go_wp2_with fail
  refine ht.mono ?_
  rintro e w1 ⟨rfl, R1, g1⟩
  have K1 := K.grown g1 (by simp; omega)
  have G1 := grown_trans G g1
  have s1 : w.heap.size + 1 ≤ w1.heap.size := by have := g1.size; simpa using this
  clear ht K G g1
  rw [← hst] at R1
  have c40 : w1.cell? ⟨w.heap.size, 0, none⟩ = some (.int .i64 0) := K1.cell 0
  have c41 : w1.cell? ⟨w.heap.size, 1, none⟩ = some (.string ⟨#[]⟩) := K1.cell 1
  have c42 : w1.cell? ⟨w.heap.size, 2, none⟩ = some (.int .i64 0) := K1.cell 2
  have c43 : w1.cell? ⟨w.heap.size, 3, none⟩ = some (.int .i64 0) := K1.cell 3
  have c44 : w1.cell? ⟨w.heap.size, 4, none⟩ = some (.slice none 0 0) := K1.cell 4
  have f40 := K1.free 0
  have f41 := K1.free 1
  have f42 := K1.free 2
  have f43 := K1.free 3
  have f44 := K1.free 4
  have hfin := Lib.hid (pfact_five (leafS 1 [] 0 0 : Sc (2 * d + 2 + 1)) R1 hg hSg G1 (leaf_ZX _ _ (2 * d + 2) 1 0 0 [] (by unfold I64; omega) (by simp) (by unfold I64; omega) (by unfold I64; omega)) hfx.out)
  rw [← HD.out] at hfin
  unfold strV at hfin
  clear hst R1 G1 HD
  go_wp2_with fail
  exact bodyPost_ret (results_cell_row (P := Tryz.prog) rfl _ _ w.heap.size _ _ (0, 0) _ rfl (zput_five K1) Tryz.underlying24 rfl (by kernel_rfl)) rfl hfin.out
set_option maxHeartbeats 8000000 in
theorem pfac_case (S : Nat → Prop) (d : Nat) (g : Nat) (st st1 : Option (List Wv)) (u : Wv) (k : Int) (w : World) (h : PW w g S st k) (hS : ∀ b, S b → b < w.heap.size) (hL : (st.getD []).length ≤ 1000000) (e1 : nextW st = (u, st1)) (a_case : u = wCase) :
    Calls Tryz.prog 49 #[.pointer (some ⟨g, 0, none⟩)] w (PFactV w g S (2 * d + 2 + 1) (st.bind (factW (d + 1))) k) := by
  have hg := h.lt
  have K := KB.new w 24 #[.int .i64 0, .string ⟨#[]⟩, .int .i64 0, .int .i64 0, .slice none 0 0]
  have G := grown_of_below ((Below.refl w.heap.size w).alloc (Nat.le_refl _) (.cells #[.int .i64 0, .string ⟨#[]⟩, .int .i64 0, .int .i64 0, .slice none 0 0] 24)) (some g)
  have ht := pnext_any g S st k _ (h.alloc (.cells #[.int .i64 0, .string ⟨#[]⟩, .int .i64 0, .int .i64 0, .slice none 0 0] 24))
  have hL1 := nextW_len st
  rw [e1] at ht hL1
  dsimp only at ht hL1
  have hne : ¬ w.heap.size = g := by omega
  have hne2 : ¬ g = w.heap.size := by omega
  have hSg : ¬ S w.heap.size := fun h => Nat.lt_irrefl _ (hS _ h)
  have a_all : ¬ u = wAll := by rw [a_case]; decide
  have a_subj : ¬ u = wSubj := by rw [a_case]; decide
  have a_class : ¬ u = wClass := by rw [a_case]; decide
  have a_time : ¬ u = wTime := by rw [a_case]; decide
  have a_not : ¬ u = wNot := by rw [a_case]; decide
  have a_open : ¬ u = wOpen := by rw [a_case]; decide
  have hFT := fact_takes (d := d) (next_take e1 (by rw [a_case]; decide))
  have hop : namesOp u = 2 := by rw [a_case]; rfl
  obtain ⟨o, ho⟩ : ∃ o : Option (Sc (2 * d + 2 + 1) × List Wv), o = st.bind (factW (d + 1)) := ⟨_, rfl⟩
  rw [← ho]
  have ho2 := ho
  rw [hFT.2.2.2.2 a_not a_open a_all a_time, hop] at ho2
  obtain ⟨nn, st2, e2⟩ : ∃ n st2, nextW st1 = (n, st2) := ⟨_, _, rfl⟩
  obtain ⟨nt1, nt2⟩ := name_next (f := 2 * d + 2) (op := 2) e2 (by decide)
  rw [← ho2] at nt1 nt2
  have HN := Lib.hid (fun W (R : PW W g S st1 k) => R.word)
  have HNM := Lib.hid (fun W R => pname_any g S st1 k W R)
  rw [e2] at HNM HN
  dsimp only at HNM HN
  rw [← nt1] at HNM
  have hfx := Lib.hid nt2
  unfold strV at ht
  obtain ⟨s, hse⟩ : ∃ s : ByteArray, s = ⟨u.toArray⟩ := ⟨_, rfl⟩
  rw [← hse] at ht
  have q_all : (s.toList == (⟨#[97, 108, 108]⟩ : ByteArray).toList) = false := (zeq_txt s _ u wAll hse rfl).trans (by simp [a_all])
  have p_all : ¬ s.toList = (⟨#[97, 108, 108]⟩ : ByteArray).toList := beq_eq_false_iff_ne.1 q_all
  have r_all : (s.toList == ([97, 108, 108] : List UInt8)) = false := by rw [← (show (⟨#[97, 108, 108]⟩ : ByteArray).toList = ([97, 108, 108] : List UInt8) from Lib.toList_data _)]; exact q_all
  have t_all : ¬ s.toList = ([97, 108, 108] : List UInt8) := beq_eq_false_iff_ne.1 r_all
  have q_case : (s.toList == (⟨#[99, 97, 115, 101]⟩ : ByteArray).toList) = true := (zeq_txt s _ u wCase hse rfl).trans (by simp [a_case])
  have p_case : s.toList = (⟨#[99, 97, 115, 101]⟩ : ByteArray).toList := beq_iff_eq.1 q_case
  have r_case : (s.toList == ([99, 97, 115, 101] : List UInt8)) = true := by rw [← (show (⟨#[99, 97, 115, 101]⟩ : ByteArray).toList = ([99, 97, 115, 101] : List UInt8) from Lib.toList_data _)]; exact q_case
  have t_case : s.toList = ([99, 97, 115, 101] : List UInt8) := beq_iff_eq.1 r_case
  clear ho ho2 hFT nt1 nt2 hop e2
  obtain ⟨D, hD⟩ : ∃ D, D = PFactV w g S (2 * d + 2 + 1) o k := ⟨_, rfl⟩
  rw [← hD]
  have HD := Lib.hid hD
  clear hse e1 h hL hD
  clear a_all a_case a_subj a_class a_time a_not a_open
  go_enter Tryz.func49, Tryz.ntmps49
  go_wp2_with fail
  refine ht.mono ?_
  rintro e w1 ⟨rfl, R1, g1⟩
  have K1 := K.grown g1 (by simp; omega)
  have G1 := grown_trans G g1
  have s1 : w.heap.size + 1 ≤ w1.heap.size := by have := g1.size; simpa using this
  clear ht K G g1
  have hn := HNM.out w1 R1
  have hnl := HN.out w1 R1
  clear R1 HNM HN
  unfold strV at hn
  obtain ⟨sn, hsn⟩ : ∃ s : ByteArray, s = ⟨nn.toArray⟩ := ⟨_, rfl⟩
  rw [← hsn] at hn
  have HSN := Lib.hid hsn
  clear hsn
  go_wp2_with fail
  refine hn.mono ?_
  rintro e w2 ⟨rfl, R2, g2⟩
  have K2 := K1.grown g2 (by simp; omega)
  have G2 := grown_trans G1 g2
  have s2 : w.heap.size + 1 ≤ w2.heap.size := by have := g2.size; omega
  have hfin := pfact_five (leafS 2 nn 0 0 : Sc (2 * d + 2 + 1)) R2 hg hSg G2 (leaf_ZX _ _ (2 * d + 2) 2 0 0 nn (by unfold I64; omega) hnl (by unfold I64; omega) (by unfold I64; omega)) hfx.out
  rw [← HD.out] at hfin
  unfold strV at hfin
  rw [← HSN.out] at hfin
  replace hfin := Lib.hid hfin
  have c40 : w2.cell? ⟨w.heap.size, 0, none⟩ = some (.int .i64 0) := K2.cell 0
  have c41 : w2.cell? ⟨w.heap.size, 1, none⟩ = some (.string ⟨#[]⟩) := K2.cell 1
  have c42 : w2.cell? ⟨w.heap.size, 2, none⟩ = some (.int .i64 0) := K2.cell 2
  have c43 : w2.cell? ⟨w.heap.size, 3, none⟩ = some (.int .i64 0) := K2.cell 3
  have c44 : w2.cell? ⟨w.heap.size, 4, none⟩ = some (.slice none 0 0) := K2.cell 4
  have f40 := K2.free 0
  have f41 := K2.free 1
  have f42 := K2.free 2
  have f43 := K2.free 3
  have f44 := K2.free 4
  clear hn R2 K1 G1 G2 g2 HD hnl
  go_wp2_with fail
  exact bodyPost_ret (results_cell_row (P := Tryz.prog) rfl _ _ w.heap.size _ _ (0, 0) _ rfl (zput_five K2) Tryz.underlying24 rfl (by kernel_rfl)) rfl hfin.out
set_option maxHeartbeats 8000000 in
theorem pfac_subj (S : Nat → Prop) (d : Nat) (g : Nat) (st st1 : Option (List Wv)) (u : Wv) (k : Int) (w : World) (h : PW w g S st k) (hS : ∀ b, S b → b < w.heap.size) (hL : (st.getD []).length ≤ 1000000) (e1 : nextW st = (u, st1)) (a_subj : u = wSubj) :
    Calls Tryz.prog 49 #[.pointer (some ⟨g, 0, none⟩)] w (PFactV w g S (2 * d + 2 + 1) (st.bind (factW (d + 1))) k) := by
  have hg := h.lt
  have K := KB.new w 24 #[.int .i64 0, .string ⟨#[]⟩, .int .i64 0, .int .i64 0, .slice none 0 0]
  have G := grown_of_below ((Below.refl w.heap.size w).alloc (Nat.le_refl _) (.cells #[.int .i64 0, .string ⟨#[]⟩, .int .i64 0, .int .i64 0, .slice none 0 0] 24)) (some g)
  have ht := pnext_any g S st k _ (h.alloc (.cells #[.int .i64 0, .string ⟨#[]⟩, .int .i64 0, .int .i64 0, .slice none 0 0] 24))
  have hL1 := nextW_len st
  rw [e1] at ht hL1
  dsimp only at ht hL1
  have hne : ¬ w.heap.size = g := by omega
  have hne2 : ¬ g = w.heap.size := by omega
  have hSg : ¬ S w.heap.size := fun h => Nat.lt_irrefl _ (hS _ h)
  have a_all : ¬ u = wAll := by rw [a_subj]; decide
  have a_case : ¬ u = wCase := by rw [a_subj]; decide
  have a_class : ¬ u = wClass := by rw [a_subj]; decide
  have a_time : ¬ u = wTime := by rw [a_subj]; decide
  have a_not : ¬ u = wNot := by rw [a_subj]; decide
  have a_open : ¬ u = wOpen := by rw [a_subj]; decide
  have hFT := fact_takes (d := d) (next_take e1 (by rw [a_subj]; decide))
  have hop : namesOp u = 3 := by rw [a_subj]; rfl
  obtain ⟨o, ho⟩ : ∃ o : Option (Sc (2 * d + 2 + 1) × List Wv), o = st.bind (factW (d + 1)) := ⟨_, rfl⟩
  rw [← ho]
  have ho2 := ho
  rw [hFT.2.2.2.2 a_not a_open a_all a_time, hop] at ho2
  obtain ⟨nn, st2, e2⟩ : ∃ n st2, nextW st1 = (n, st2) := ⟨_, _, rfl⟩
  obtain ⟨nt1, nt2⟩ := name_next (f := 2 * d + 2) (op := 3) e2 (by decide)
  rw [← ho2] at nt1 nt2
  have HN := Lib.hid (fun W (R : PW W g S st1 k) => R.word)
  have HNM := Lib.hid (fun W R => pname_any g S st1 k W R)
  rw [e2] at HNM HN
  dsimp only at HNM HN
  rw [← nt1] at HNM
  have hfx := Lib.hid nt2
  unfold strV at ht
  obtain ⟨s, hse⟩ : ∃ s : ByteArray, s = ⟨u.toArray⟩ := ⟨_, rfl⟩
  rw [← hse] at ht
  have q_all : (s.toList == (⟨#[97, 108, 108]⟩ : ByteArray).toList) = false := (zeq_txt s _ u wAll hse rfl).trans (by simp [a_all])
  have p_all : ¬ s.toList = (⟨#[97, 108, 108]⟩ : ByteArray).toList := beq_eq_false_iff_ne.1 q_all
  have r_all : (s.toList == ([97, 108, 108] : List UInt8)) = false := by rw [← (show (⟨#[97, 108, 108]⟩ : ByteArray).toList = ([97, 108, 108] : List UInt8) from Lib.toList_data _)]; exact q_all
  have t_all : ¬ s.toList = ([97, 108, 108] : List UInt8) := beq_eq_false_iff_ne.1 r_all
  have q_case : (s.toList == (⟨#[99, 97, 115, 101]⟩ : ByteArray).toList) = false := (zeq_txt s _ u wCase hse rfl).trans (by simp [a_case])
  have p_case : ¬ s.toList = (⟨#[99, 97, 115, 101]⟩ : ByteArray).toList := beq_eq_false_iff_ne.1 q_case
  have r_case : (s.toList == ([99, 97, 115, 101] : List UInt8)) = false := by rw [← (show (⟨#[99, 97, 115, 101]⟩ : ByteArray).toList = ([99, 97, 115, 101] : List UInt8) from Lib.toList_data _)]; exact q_case
  have t_case : ¬ s.toList = ([99, 97, 115, 101] : List UInt8) := beq_eq_false_iff_ne.1 r_case
  have q_subj : (s.toList == (⟨#[115, 117, 98, 106, 101, 99, 116]⟩ : ByteArray).toList) = true := (zeq_txt s _ u wSubj hse rfl).trans (by simp [a_subj])
  have p_subj : s.toList = (⟨#[115, 117, 98, 106, 101, 99, 116]⟩ : ByteArray).toList := beq_iff_eq.1 q_subj
  have r_subj : (s.toList == ([115, 117, 98, 106, 101, 99, 116] : List UInt8)) = true := by rw [← (show (⟨#[115, 117, 98, 106, 101, 99, 116]⟩ : ByteArray).toList = ([115, 117, 98, 106, 101, 99, 116] : List UInt8) from Lib.toList_data _)]; exact q_subj
  have t_subj : s.toList = ([115, 117, 98, 106, 101, 99, 116] : List UInt8) := beq_iff_eq.1 r_subj
  clear ho ho2 hFT nt1 nt2 hop e2
  obtain ⟨D, hD⟩ : ∃ D, D = PFactV w g S (2 * d + 2 + 1) o k := ⟨_, rfl⟩
  rw [← hD]
  have HD := Lib.hid hD
  clear hse e1 h hL hD
  clear a_all a_case a_subj a_class a_time a_not a_open
  go_enter Tryz.func49, Tryz.ntmps49
  go_wp2_with fail
  refine ht.mono ?_
  rintro e w1 ⟨rfl, R1, g1⟩
  have K1 := K.grown g1 (by simp; omega)
  have G1 := grown_trans G g1
  have s1 : w.heap.size + 1 ≤ w1.heap.size := by have := g1.size; simpa using this
  clear ht K G g1
  have hn := HNM.out w1 R1
  have hnl := HN.out w1 R1
  clear R1 HNM HN
  unfold strV at hn
  obtain ⟨sn, hsn⟩ : ∃ s : ByteArray, s = ⟨nn.toArray⟩ := ⟨_, rfl⟩
  rw [← hsn] at hn
  have HSN := Lib.hid hsn
  clear hsn
  go_wp2_with fail
  refine hn.mono ?_
  rintro e w2 ⟨rfl, R2, g2⟩
  have K2 := K1.grown g2 (by simp; omega)
  have G2 := grown_trans G1 g2
  have s2 : w.heap.size + 1 ≤ w2.heap.size := by have := g2.size; omega
  have hfin := pfact_five (leafS 3 nn 0 0 : Sc (2 * d + 2 + 1)) R2 hg hSg G2 (leaf_ZX _ _ (2 * d + 2) 3 0 0 nn (by unfold I64; omega) hnl (by unfold I64; omega) (by unfold I64; omega)) hfx.out
  rw [← HD.out] at hfin
  unfold strV at hfin
  rw [← HSN.out] at hfin
  replace hfin := Lib.hid hfin
  have c40 : w2.cell? ⟨w.heap.size, 0, none⟩ = some (.int .i64 0) := K2.cell 0
  have c41 : w2.cell? ⟨w.heap.size, 1, none⟩ = some (.string ⟨#[]⟩) := K2.cell 1
  have c42 : w2.cell? ⟨w.heap.size, 2, none⟩ = some (.int .i64 0) := K2.cell 2
  have c43 : w2.cell? ⟨w.heap.size, 3, none⟩ = some (.int .i64 0) := K2.cell 3
  have c44 : w2.cell? ⟨w.heap.size, 4, none⟩ = some (.slice none 0 0) := K2.cell 4
  have f40 := K2.free 0
  have f41 := K2.free 1
  have f42 := K2.free 2
  have f43 := K2.free 3
  have f44 := K2.free 4
  clear hn R2 K1 G1 G2 g2 HD hnl
  go_wp2_with fail
  exact bodyPost_ret (results_cell_row (P := Tryz.prog) rfl _ _ w.heap.size _ _ (0, 0) _ rfl (zput_five K2) Tryz.underlying24 rfl (by kernel_rfl)) rfl hfin.out
set_option maxHeartbeats 8000000 in
theorem pfac_class (S : Nat → Prop) (d : Nat) (g : Nat) (st st1 : Option (List Wv)) (u : Wv) (k : Int) (w : World) (h : PW w g S st k) (hS : ∀ b, S b → b < w.heap.size) (hL : (st.getD []).length ≤ 1000000) (e1 : nextW st = (u, st1)) (a_class : u = wClass) :
    Calls Tryz.prog 49 #[.pointer (some ⟨g, 0, none⟩)] w (PFactV w g S (2 * d + 2 + 1) (st.bind (factW (d + 1))) k) := by
  have hg := h.lt
  have K := KB.new w 24 #[.int .i64 0, .string ⟨#[]⟩, .int .i64 0, .int .i64 0, .slice none 0 0]
  have G := grown_of_below ((Below.refl w.heap.size w).alloc (Nat.le_refl _) (.cells #[.int .i64 0, .string ⟨#[]⟩, .int .i64 0, .int .i64 0, .slice none 0 0] 24)) (some g)
  have ht := pnext_any g S st k _ (h.alloc (.cells #[.int .i64 0, .string ⟨#[]⟩, .int .i64 0, .int .i64 0, .slice none 0 0] 24))
  have hL1 := nextW_len st
  rw [e1] at ht hL1
  dsimp only at ht hL1
  have hne : ¬ w.heap.size = g := by omega
  have hne2 : ¬ g = w.heap.size := by omega
  have hSg : ¬ S w.heap.size := fun h => Nat.lt_irrefl _ (hS _ h)
  have a_all : ¬ u = wAll := by rw [a_class]; decide
  have a_case : ¬ u = wCase := by rw [a_class]; decide
  have a_subj : ¬ u = wSubj := by rw [a_class]; decide
  have a_time : ¬ u = wTime := by rw [a_class]; decide
  have a_not : ¬ u = wNot := by rw [a_class]; decide
  have a_open : ¬ u = wOpen := by rw [a_class]; decide
  have hFT := fact_takes (d := d) (next_take e1 (by rw [a_class]; decide))
  have hop : namesOp u = 4 := by rw [a_class]; rfl
  obtain ⟨o, ho⟩ : ∃ o : Option (Sc (2 * d + 2 + 1) × List Wv), o = st.bind (factW (d + 1)) := ⟨_, rfl⟩
  rw [← ho]
  have ho2 := ho
  rw [hFT.2.2.2.2 a_not a_open a_all a_time, hop] at ho2
  obtain ⟨nn, st2, e2⟩ : ∃ n st2, nextW st1 = (n, st2) := ⟨_, _, rfl⟩
  obtain ⟨nt1, nt2⟩ := name_next (f := 2 * d + 2) (op := 4) e2 (by decide)
  rw [← ho2] at nt1 nt2
  have HN := Lib.hid (fun W (R : PW W g S st1 k) => R.word)
  have HNM := Lib.hid (fun W R => pname_any g S st1 k W R)
  rw [e2] at HNM HN
  dsimp only at HNM HN
  rw [← nt1] at HNM
  have hfx := Lib.hid nt2
  unfold strV at ht
  obtain ⟨s, hse⟩ : ∃ s : ByteArray, s = ⟨u.toArray⟩ := ⟨_, rfl⟩
  rw [← hse] at ht
  have q_all : (s.toList == (⟨#[97, 108, 108]⟩ : ByteArray).toList) = false := (zeq_txt s _ u wAll hse rfl).trans (by simp [a_all])
  have p_all : ¬ s.toList = (⟨#[97, 108, 108]⟩ : ByteArray).toList := beq_eq_false_iff_ne.1 q_all
  have r_all : (s.toList == ([97, 108, 108] : List UInt8)) = false := by rw [← (show (⟨#[97, 108, 108]⟩ : ByteArray).toList = ([97, 108, 108] : List UInt8) from Lib.toList_data _)]; exact q_all
  have t_all : ¬ s.toList = ([97, 108, 108] : List UInt8) := beq_eq_false_iff_ne.1 r_all
  have q_case : (s.toList == (⟨#[99, 97, 115, 101]⟩ : ByteArray).toList) = false := (zeq_txt s _ u wCase hse rfl).trans (by simp [a_case])
  have p_case : ¬ s.toList = (⟨#[99, 97, 115, 101]⟩ : ByteArray).toList := beq_eq_false_iff_ne.1 q_case
  have r_case : (s.toList == ([99, 97, 115, 101] : List UInt8)) = false := by rw [← (show (⟨#[99, 97, 115, 101]⟩ : ByteArray).toList = ([99, 97, 115, 101] : List UInt8) from Lib.toList_data _)]; exact q_case
  have t_case : ¬ s.toList = ([99, 97, 115, 101] : List UInt8) := beq_eq_false_iff_ne.1 r_case
  have q_subj : (s.toList == (⟨#[115, 117, 98, 106, 101, 99, 116]⟩ : ByteArray).toList) = false := (zeq_txt s _ u wSubj hse rfl).trans (by simp [a_subj])
  have p_subj : ¬ s.toList = (⟨#[115, 117, 98, 106, 101, 99, 116]⟩ : ByteArray).toList := beq_eq_false_iff_ne.1 q_subj
  have r_subj : (s.toList == ([115, 117, 98, 106, 101, 99, 116] : List UInt8)) = false := by rw [← (show (⟨#[115, 117, 98, 106, 101, 99, 116]⟩ : ByteArray).toList = ([115, 117, 98, 106, 101, 99, 116] : List UInt8) from Lib.toList_data _)]; exact q_subj
  have t_subj : ¬ s.toList = ([115, 117, 98, 106, 101, 99, 116] : List UInt8) := beq_eq_false_iff_ne.1 r_subj
  have q_class : (s.toList == (⟨#[99, 108, 97, 115, 115]⟩ : ByteArray).toList) = true := (zeq_txt s _ u wClass hse rfl).trans (by simp [a_class])
  have p_class : s.toList = (⟨#[99, 108, 97, 115, 115]⟩ : ByteArray).toList := beq_iff_eq.1 q_class
  have r_class : (s.toList == ([99, 108, 97, 115, 115] : List UInt8)) = true := by rw [← (show (⟨#[99, 108, 97, 115, 115]⟩ : ByteArray).toList = ([99, 108, 97, 115, 115] : List UInt8) from Lib.toList_data _)]; exact q_class
  have t_class : s.toList = ([99, 108, 97, 115, 115] : List UInt8) := beq_iff_eq.1 r_class
  clear ho ho2 hFT nt1 nt2 hop e2
  obtain ⟨D, hD⟩ : ∃ D, D = PFactV w g S (2 * d + 2 + 1) o k := ⟨_, rfl⟩
  rw [← hD]
  have HD := Lib.hid hD
  clear hse e1 h hL hD
  clear a_all a_case a_subj a_class a_time a_not a_open
  go_enter Tryz.func49, Tryz.ntmps49
  go_wp2_with fail
  refine ht.mono ?_
  rintro e w1 ⟨rfl, R1, g1⟩
  have K1 := K.grown g1 (by simp; omega)
  have G1 := grown_trans G g1
  have s1 : w.heap.size + 1 ≤ w1.heap.size := by have := g1.size; simpa using this
  clear ht K G g1
  have hn := HNM.out w1 R1
  have hnl := HN.out w1 R1
  clear R1 HNM HN
  unfold strV at hn
  obtain ⟨sn, hsn⟩ : ∃ s : ByteArray, s = ⟨nn.toArray⟩ := ⟨_, rfl⟩
  rw [← hsn] at hn
  have HSN := Lib.hid hsn
  clear hsn
  go_wp2_with fail
  refine hn.mono ?_
  rintro e w2 ⟨rfl, R2, g2⟩
  have K2 := K1.grown g2 (by simp; omega)
  have G2 := grown_trans G1 g2
  have s2 : w.heap.size + 1 ≤ w2.heap.size := by have := g2.size; omega
  have hfin := pfact_five (leafS 4 nn 0 0 : Sc (2 * d + 2 + 1)) R2 hg hSg G2 (leaf_ZX _ _ (2 * d + 2) 4 0 0 nn (by unfold I64; omega) hnl (by unfold I64; omega) (by unfold I64; omega)) hfx.out
  rw [← HD.out] at hfin
  unfold strV at hfin
  rw [← HSN.out] at hfin
  replace hfin := Lib.hid hfin
  have c40 : w2.cell? ⟨w.heap.size, 0, none⟩ = some (.int .i64 0) := K2.cell 0
  have c41 : w2.cell? ⟨w.heap.size, 1, none⟩ = some (.string ⟨#[]⟩) := K2.cell 1
  have c42 : w2.cell? ⟨w.heap.size, 2, none⟩ = some (.int .i64 0) := K2.cell 2
  have c43 : w2.cell? ⟨w.heap.size, 3, none⟩ = some (.int .i64 0) := K2.cell 3
  have c44 : w2.cell? ⟨w.heap.size, 4, none⟩ = some (.slice none 0 0) := K2.cell 4
  have f40 := K2.free 0
  have f41 := K2.free 1
  have f42 := K2.free 2
  have f43 := K2.free 3
  have f44 := K2.free 4
  clear hn R2 K1 G1 G2 g2 HD hnl
  go_wp2_with fail
  exact bodyPost_ret (results_cell_row (P := Tryz.prog) rfl _ _ w.heap.size _ _ (0, 0) _ rfl (zput_five K2) Tryz.underlying24 rfl (by kernel_rfl)) rfl hfin.out
set_option maxHeartbeats 8000000 in
theorem pfac_time (S : Nat → Prop) (d : Nat) (g : Nat) (st st1 : Option (List Wv)) (u : Wv) (k : Int) (w : World) (h : PW w g S st k) (hS : ∀ b, S b → b < w.heap.size) (hL : (st.getD []).length ≤ 1000000) (e1 : nextW st = (u, st1)) (a_time : u = wTime) :
    Calls Tryz.prog 49 #[.pointer (some ⟨g, 0, none⟩)] w (PFactV w g S (2 * d + 2 + 1) (st.bind (factW (d + 1))) k) := by
  have hg := h.lt
  have K := KB.new w 24 #[.int .i64 0, .string ⟨#[]⟩, .int .i64 0, .int .i64 0, .slice none 0 0]
  have G := grown_of_below ((Below.refl w.heap.size w).alloc (Nat.le_refl _) (.cells #[.int .i64 0, .string ⟨#[]⟩, .int .i64 0, .int .i64 0, .slice none 0 0] 24)) (some g)
  have ht := pnext_any g S st k _ (h.alloc (.cells #[.int .i64 0, .string ⟨#[]⟩, .int .i64 0, .int .i64 0, .slice none 0 0] 24))
  have hL1 := nextW_len st
  rw [e1] at ht hL1
  dsimp only at ht hL1
  have hne : ¬ w.heap.size = g := by omega
  have hne2 : ¬ g = w.heap.size := by omega
  have hSg : ¬ S w.heap.size := fun h => Nat.lt_irrefl _ (hS _ h)
  have a_all : ¬ u = wAll := by rw [a_time]; decide
  have a_case : ¬ u = wCase := by rw [a_time]; decide
  have a_subj : ¬ u = wSubj := by rw [a_time]; decide
  have a_class : ¬ u = wClass := by rw [a_time]; decide
  have a_not : ¬ u = wNot := by rw [a_time]; decide
  have a_open : ¬ u = wOpen := by rw [a_time]; decide
  have hFT := fact_takes (d := d) (next_take e1 (by rw [a_time]; decide))
  obtain ⟨o, ho⟩ : ∃ o : Option (Sc (2 * d + 2 + 1) × List Wv), o = st.bind (factW (d + 1)) := ⟨_, rfl⟩
  rw [← ho]
  have ho2 := ho
  rw [hFT.2.2.2.1 a_time] at ho2
  have HTN : Hid (∀ a b : Int, (∀ p, timeW (nextW st1).1 = some p → a = p.1 ∧ b = p.2) → o.map (·.2) = (if (timeW (nextW st1).1).isSome = true then (nextW st1).2 else none) ∧ ∀ p, o = some p → (leafS 5 [] a b : Sc (2 * d + 2 + 1)) = p.1) := fun a b h => by
    rw [ho2]; exact time_next h
  have HTK := Lib.hid (fun W R => pticks_any g S st1 k W R)
  unfold strV at ht
  obtain ⟨s, hse⟩ : ∃ s : ByteArray, s = ⟨u.toArray⟩ := ⟨_, rfl⟩
  rw [← hse] at ht
  have q_all : (s.toList == (⟨#[97, 108, 108]⟩ : ByteArray).toList) = false := (zeq_txt s _ u wAll hse rfl).trans (by simp [a_all])
  have p_all : ¬ s.toList = (⟨#[97, 108, 108]⟩ : ByteArray).toList := beq_eq_false_iff_ne.1 q_all
  have r_all : (s.toList == ([97, 108, 108] : List UInt8)) = false := by rw [← (show (⟨#[97, 108, 108]⟩ : ByteArray).toList = ([97, 108, 108] : List UInt8) from Lib.toList_data _)]; exact q_all
  have t_all : ¬ s.toList = ([97, 108, 108] : List UInt8) := beq_eq_false_iff_ne.1 r_all
  have q_case : (s.toList == (⟨#[99, 97, 115, 101]⟩ : ByteArray).toList) = false := (zeq_txt s _ u wCase hse rfl).trans (by simp [a_case])
  have p_case : ¬ s.toList = (⟨#[99, 97, 115, 101]⟩ : ByteArray).toList := beq_eq_false_iff_ne.1 q_case
  have r_case : (s.toList == ([99, 97, 115, 101] : List UInt8)) = false := by rw [← (show (⟨#[99, 97, 115, 101]⟩ : ByteArray).toList = ([99, 97, 115, 101] : List UInt8) from Lib.toList_data _)]; exact q_case
  have t_case : ¬ s.toList = ([99, 97, 115, 101] : List UInt8) := beq_eq_false_iff_ne.1 r_case
  have q_subj : (s.toList == (⟨#[115, 117, 98, 106, 101, 99, 116]⟩ : ByteArray).toList) = false := (zeq_txt s _ u wSubj hse rfl).trans (by simp [a_subj])
  have p_subj : ¬ s.toList = (⟨#[115, 117, 98, 106, 101, 99, 116]⟩ : ByteArray).toList := beq_eq_false_iff_ne.1 q_subj
  have r_subj : (s.toList == ([115, 117, 98, 106, 101, 99, 116] : List UInt8)) = false := by rw [← (show (⟨#[115, 117, 98, 106, 101, 99, 116]⟩ : ByteArray).toList = ([115, 117, 98, 106, 101, 99, 116] : List UInt8) from Lib.toList_data _)]; exact q_subj
  have t_subj : ¬ s.toList = ([115, 117, 98, 106, 101, 99, 116] : List UInt8) := beq_eq_false_iff_ne.1 r_subj
  have q_class : (s.toList == (⟨#[99, 108, 97, 115, 115]⟩ : ByteArray).toList) = false := (zeq_txt s _ u wClass hse rfl).trans (by simp [a_class])
  have p_class : ¬ s.toList = (⟨#[99, 108, 97, 115, 115]⟩ : ByteArray).toList := beq_eq_false_iff_ne.1 q_class
  have r_class : (s.toList == ([99, 108, 97, 115, 115] : List UInt8)) = false := by rw [← (show (⟨#[99, 108, 97, 115, 115]⟩ : ByteArray).toList = ([99, 108, 97, 115, 115] : List UInt8) from Lib.toList_data _)]; exact q_class
  have t_class : ¬ s.toList = ([99, 108, 97, 115, 115] : List UInt8) := beq_eq_false_iff_ne.1 r_class
  have q_time : (s.toList == (⟨#[116, 105, 109, 101]⟩ : ByteArray).toList) = true := (zeq_txt s _ u wTime hse rfl).trans (by simp [a_time])
  have p_time : s.toList = (⟨#[116, 105, 109, 101]⟩ : ByteArray).toList := beq_iff_eq.1 q_time
  have r_time : (s.toList == ([116, 105, 109, 101] : List UInt8)) = true := by rw [← (show (⟨#[116, 105, 109, 101]⟩ : ByteArray).toList = ([116, 105, 109, 101] : List UInt8) from Lib.toList_data _)]; exact q_time
  have t_time : s.toList = ([116, 105, 109, 101] : List UInt8) := beq_iff_eq.1 r_time
  clear ho ho2 hFT
  obtain ⟨D, hD⟩ : ∃ D, D = PFactV w g S (2 * d + 2 + 1) o k := ⟨_, rfl⟩
  rw [← hD]
  have HD := Lib.hid hD
  clear hse e1 h hL hD
  clear a_all a_case a_subj a_class a_time a_not a_open
  go_enter Tryz.func49, Tryz.ntmps49
  go_wp2_with fail
  refine ht.mono ?_
  rintro e w1 ⟨rfl, R1, g1⟩
  have K1 := K.grown g1 (by simp; omega)
  have G1 := grown_trans G g1
  have s1 : w.heap.size + 1 ≤ w1.heap.size := by have := g1.size; simpa using this
  clear ht K G g1
  have hn := HTK.out w1 R1
  clear R1 HTK
  go_wp2_with fail
  refine hn.mono ?_
  rintro e w2 ⟨a, b, rfl, ha, hb, hab, R2, g2⟩
  obtain ⟨y1, y2⟩ := HTN.out a b hab
  rw [← y1] at R2
  have K2 := K1.grown g2 (by simp; omega)
  have G2 := grown_trans G1 g2
  have s2 : w.heap.size + 1 ≤ w2.heap.size := by have := g2.size; omega
  have hfin := pfact_five (leafS 5 [] a b : Sc (2 * d + 2 + 1)) R2 hg hSg G2 (leaf_ZX _ _ (2 * d + 2) 5 a b [] (by unfold I64; omega) (by simp) ha hb) y2
  rw [← HD.out] at hfin
  unfold strV at hfin
  replace hfin := Lib.hid hfin
  have c40 : w2.cell? ⟨w.heap.size, 0, none⟩ = some (.int .i64 0) := K2.cell 0
  have c41 : w2.cell? ⟨w.heap.size, 1, none⟩ = some (.string ⟨#[]⟩) := K2.cell 1
  have c42 : w2.cell? ⟨w.heap.size, 2, none⟩ = some (.int .i64 0) := K2.cell 2
  have c43 : w2.cell? ⟨w.heap.size, 3, none⟩ = some (.int .i64 0) := K2.cell 3
  have c44 : w2.cell? ⟨w.heap.size, 4, none⟩ = some (.slice none 0 0) := K2.cell 4
  have f40 := K2.free 0
  have f41 := K2.free 1
  have f42 := K2.free 2
  have f43 := K2.free 3
  have f44 := K2.free 4
  clear hn R2 K1 G1 G2 g2 HD ha hb hab y1 y2 HTN
  go_wp2_with fail
  exact bodyPost_ret (results_cell_row (P := Tryz.prog) rfl _ _ w.heap.size _ _ (0, 0) _ rfl (zput_five K2) Tryz.underlying24 rfl (by kernel_rfl)) rfl hfin.out
set_option maxHeartbeats 8000000 in
theorem pfac_bad (S : Nat → Prop) (f : Nat) (g : Nat) (st st1 : Option (List Wv)) (u : Wv) (k : Int) (w : World) (h : PW w g S st k) (hS : ∀ b, S b → b < w.heap.size) (hL : (st.getD []).length ≤ 1000000) (e1 : nextW st = (u, st1)) (a_all : ¬ u = wAll) (a_case : ¬ u = wCase) (a_subj : ¬ u = wSubj) (a_class : ¬ u = wClass) (a_time : ¬ u = wTime) (a_not : ¬ u = wNot) (a_open : ¬ u = wOpen) :
    Calls Tryz.prog 49 #[.pointer (some ⟨g, 0, none⟩)] w (PFactV w g S (f + 1) (none) k) := by
  have hg := h.lt
  have K := KB.new w 24 #[.int .i64 0, .string ⟨#[]⟩, .int .i64 0, .int .i64 0, .slice none 0 0]
  have G := grown_of_below ((Below.refl w.heap.size w).alloc (Nat.le_refl _) (.cells #[.int .i64 0, .string ⟨#[]⟩, .int .i64 0, .int .i64 0, .slice none 0 0] 24)) (some g)
  have ht := pnext_any g S st k _ (h.alloc (.cells #[.int .i64 0, .string ⟨#[]⟩, .int .i64 0, .int .i64 0, .slice none 0 0] 24))
  have hL1 := nextW_len st
  rw [e1] at ht hL1
  dsimp only at ht hL1
  have hne : ¬ w.heap.size = g := by omega
  have hne2 : ¬ g = w.heap.size := by omega
  have hSg : ¬ S w.heap.size := fun h => Nat.lt_irrefl _ (hS _ h)
  unfold strV at ht
  obtain ⟨s, hse⟩ : ∃ s : ByteArray, s = ⟨u.toArray⟩ := ⟨_, rfl⟩
  rw [← hse] at ht
  have q_all : (s.toList == (⟨#[97, 108, 108]⟩ : ByteArray).toList) = false := (zeq_txt s _ u wAll hse rfl).trans (by simp [a_all])
  have p_all : ¬ s.toList = (⟨#[97, 108, 108]⟩ : ByteArray).toList := beq_eq_false_iff_ne.1 q_all
  have r_all : (s.toList == ([97, 108, 108] : List UInt8)) = false := by rw [← (show (⟨#[97, 108, 108]⟩ : ByteArray).toList = ([97, 108, 108] : List UInt8) from Lib.toList_data _)]; exact q_all
  have t_all : ¬ s.toList = ([97, 108, 108] : List UInt8) := beq_eq_false_iff_ne.1 r_all
  have q_case : (s.toList == (⟨#[99, 97, 115, 101]⟩ : ByteArray).toList) = false := (zeq_txt s _ u wCase hse rfl).trans (by simp [a_case])
  have p_case : ¬ s.toList = (⟨#[99, 97, 115, 101]⟩ : ByteArray).toList := beq_eq_false_iff_ne.1 q_case
  have r_case : (s.toList == ([99, 97, 115, 101] : List UInt8)) = false := by rw [← (show (⟨#[99, 97, 115, 101]⟩ : ByteArray).toList = ([99, 97, 115, 101] : List UInt8) from Lib.toList_data _)]; exact q_case
  have t_case : ¬ s.toList = ([99, 97, 115, 101] : List UInt8) := beq_eq_false_iff_ne.1 r_case
  have q_subj : (s.toList == (⟨#[115, 117, 98, 106, 101, 99, 116]⟩ : ByteArray).toList) = false := (zeq_txt s _ u wSubj hse rfl).trans (by simp [a_subj])
  have p_subj : ¬ s.toList = (⟨#[115, 117, 98, 106, 101, 99, 116]⟩ : ByteArray).toList := beq_eq_false_iff_ne.1 q_subj
  have r_subj : (s.toList == ([115, 117, 98, 106, 101, 99, 116] : List UInt8)) = false := by rw [← (show (⟨#[115, 117, 98, 106, 101, 99, 116]⟩ : ByteArray).toList = ([115, 117, 98, 106, 101, 99, 116] : List UInt8) from Lib.toList_data _)]; exact q_subj
  have t_subj : ¬ s.toList = ([115, 117, 98, 106, 101, 99, 116] : List UInt8) := beq_eq_false_iff_ne.1 r_subj
  have q_class : (s.toList == (⟨#[99, 108, 97, 115, 115]⟩ : ByteArray).toList) = false := (zeq_txt s _ u wClass hse rfl).trans (by simp [a_class])
  have p_class : ¬ s.toList = (⟨#[99, 108, 97, 115, 115]⟩ : ByteArray).toList := beq_eq_false_iff_ne.1 q_class
  have r_class : (s.toList == ([99, 108, 97, 115, 115] : List UInt8)) = false := by rw [← (show (⟨#[99, 108, 97, 115, 115]⟩ : ByteArray).toList = ([99, 108, 97, 115, 115] : List UInt8) from Lib.toList_data _)]; exact q_class
  have t_class : ¬ s.toList = ([99, 108, 97, 115, 115] : List UInt8) := beq_eq_false_iff_ne.1 r_class
  have q_time : (s.toList == (⟨#[116, 105, 109, 101]⟩ : ByteArray).toList) = false := (zeq_txt s _ u wTime hse rfl).trans (by simp [a_time])
  have p_time : ¬ s.toList = (⟨#[116, 105, 109, 101]⟩ : ByteArray).toList := beq_eq_false_iff_ne.1 q_time
  have r_time : (s.toList == ([116, 105, 109, 101] : List UInt8)) = false := by rw [← (show (⟨#[116, 105, 109, 101]⟩ : ByteArray).toList = ([116, 105, 109, 101] : List UInt8) from Lib.toList_data _)]; exact q_time
  have t_time : ¬ s.toList = ([116, 105, 109, 101] : List UInt8) := beq_eq_false_iff_ne.1 r_time
  have q_not : (s.toList == (⟨#[110, 111, 116]⟩ : ByteArray).toList) = false := (zeq_txt s _ u wNot hse rfl).trans (by simp [a_not])
  have p_not : ¬ s.toList = (⟨#[110, 111, 116]⟩ : ByteArray).toList := beq_eq_false_iff_ne.1 q_not
  have r_not : (s.toList == ([110, 111, 116] : List UInt8)) = false := by rw [← (show (⟨#[110, 111, 116]⟩ : ByteArray).toList = ([110, 111, 116] : List UInt8) from Lib.toList_data _)]; exact q_not
  have t_not : ¬ s.toList = ([110, 111, 116] : List UInt8) := beq_eq_false_iff_ne.1 r_not
  have q_open : (s.toList == (⟨#[40]⟩ : ByteArray).toList) = false := (zeq_txt s _ u wOpen hse rfl).trans (by simp [a_open])
  have p_open : ¬ s.toList = (⟨#[40]⟩ : ByteArray).toList := beq_eq_false_iff_ne.1 q_open
  have r_open : (s.toList == ([40] : List UInt8)) = false := by rw [← (show (⟨#[40]⟩ : ByteArray).toList = ([40] : List UInt8) from Lib.toList_data _)]; exact q_open
  have t_open : ¬ s.toList = ([40] : List UInt8) := beq_eq_false_iff_ne.1 r_open
  obtain ⟨o, ho⟩ : ∃ o : Option (Sc (f + 1) × List Wv), o = none := ⟨_, rfl⟩
  rw [← ho]
  have HF := Lib.hid (fun W h => pfail_any g S st1 k W h)
  have HO := Lib.hid ho
  clear ho
  obtain ⟨D, hD⟩ : ∃ D, D = PFactV w g S (f + 1) o k := ⟨_, rfl⟩
  rw [← hD]
  have HD := Lib.hid hD
  clear hse e1 h hL hD
  clear a_all a_case a_subj a_class a_time a_not a_open
  go_enter Tryz.func49, Tryz.ntmps49
  go_wp2_with fail
  refine ht.mono ?_
  rintro e w1 ⟨rfl, R1, g1⟩
  have K1 := K.grown g1 (by simp; omega)
  have G1 := grown_trans G g1
  have s1 : w.heap.size + 1 ≤ w1.heap.size := by have := g1.size; simpa using this
  clear ht K G g1
  have hf := HF.out w1 R1
  clear R1 HF
  go_wp2_with fail
  refine hf.mono ?_
  rintro e w2 ⟨rfl, R2, g2⟩
  have K2 := K1.grown g2 (by simp; omega)
  have G2 := grown_trans G1 g2
  have s2 : w.heap.size + 1 ≤ w2.heap.size := by have := g2.size; omega
  have R3 : PW w2 g S (o.map (·.2)) k := by rw [HO.out]; exact R2
  have hfin := pfact_five (leafS 0 [] 0 0 : Sc (f + 1)) R3 hg hSg G2 (leaf_ZX _ _ f 0 0 0 [] (by unfold I64; omega) (by simp) (by unfold I64; omega) (by unfold I64; omega)) (fun p e => by rw [HO.out] at e; cases e)
  rw [← HD.out] at hfin
  unfold strV at hfin
  replace hfin := Lib.hid hfin
  have c40 : w2.cell? ⟨w.heap.size, 0, none⟩ = some (.int .i64 0) := K2.cell 0
  have c41 : w2.cell? ⟨w.heap.size, 1, none⟩ = some (.string ⟨#[]⟩) := K2.cell 1
  have c42 : w2.cell? ⟨w.heap.size, 2, none⟩ = some (.int .i64 0) := K2.cell 2
  have c43 : w2.cell? ⟨w.heap.size, 3, none⟩ = some (.int .i64 0) := K2.cell 3
  have c44 : w2.cell? ⟨w.heap.size, 4, none⟩ = some (.slice none 0 0) := K2.cell 4
  have f40 := K2.free 0
  have f41 := K2.free 1
  have f42 := K2.free 2
  have f43 := K2.free 3
  have f44 := K2.free 4
  clear hf R2 R3 K1 G1 G2 g2 HD HO
  go_wp2_with fail
  exact bodyPost_ret (results_cell_row (P := Tryz.prog) rfl _ _ w.heap.size _ _ (0, 0) _ rfl (zput_five K2) Tryz.underlying24 rfl (by kernel_rfl)) rfl hfin.out
end
end Go.Proofs.YtjecjlhofnnnpaaGreatDoor
