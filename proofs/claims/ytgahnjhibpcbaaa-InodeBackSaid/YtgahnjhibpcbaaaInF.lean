/-
  Which inode bytes are: the program's Get (layer 12), over the loaded program. No condition but sizes that the contract names.
-/
import Derived.Test.YtgahnjhibpcbaaaInD
import Derived.Test.YtgahnjhibpcbaaaInE
import Derived.Test.YtgahnjhibpcbaaaAlC
import Derived.Test.YtgahnjhibpcbaaaTlvB
import Derived.Test.YtgahnjhibpcbaaaRes
namespace Go.Proofs.Ytgahnjhibpcbaaa
open Go.RowKit
set_option maxRecDepth 100000
set_option linter.unusedVariables false

/-- What Get hands back. -/
def GetAs (w : World) (r : Ino × Int) (e : Ending) (w' : World) : Prop :=
  ∃ v, e = .returned (.tuple #[v, .int .i64 r.2]) ∧ IV w' (fun b => w.heap.size ≤ b) v r.1 ∧ Below w.heap.size w w'

theorem passed_all (st : Option (List UInt8)) : passed ((st.getD []).length : Int) st = (st.map fun _ => [], st.getD []) := by
  unfold passed
  rw [if_neg (by omega)]
  cases st with
  | none => simp
  | some l => simp

theorem txt_len (m : Int) (st : Option (List UInt8)) : ((txtOf m st).1.getD []).length ≤ (st.getD []).length := by
  have h := cntOf_len m st
  unfold txtOf passed
  split
  · simp
  · cases hc : (cntOf m st).1 with
    | none => simp
    | some l =>
      rw [hc] at h
      simp at h ⊢
      omega

theorem list_few (b : List UInt8) (n : Int) : (listS b n).1.length ≤ 8 * b.length := by
  unfold listS
  split
  · simp
  · simp only [ofN_length]
    exact selK_le _ _

theorem txt_few (m : Int) (st : Option (List UInt8)) : (txtOf m st).2.length ≤ (st.getD []).length := by
  have h := cntOf_len m st
  unfold txtOf passed
  split
  · simp
  · simp only [List.length_take]
    omega

set_option maxHeartbeats 1000000 in
theorem get_any (S : Nat → Prop) (v : Value) (l : List UInt8) (n : Int) (w : World) (h : BS w S v l) (hl : l.length ≤ 1000000) :
    Calls Try.prog 15 #[v, .int .i64 n] w (GetAs w (getS l n)) := by
  have K4 := KB.new w 24 #[.string ⟨#[]⟩, .int .i64 0, .slice none 0 0]
  have B := (Below.refl w.heap.size w).alloc (Nat.le_refl _) (.cells #[.string ⟨#[]⟩, .int .i64 0, .slice none 0 0] 24)
  have h1 := h.alloc (.cells #[.string ⟨#[]⟩, .int .i64 0, .slice none 0 0] 24)
  obtain ⟨R, hR⟩ : ∃ R, R = getS l n := ⟨_, rfl⟩
  rw [← hR]
  have HR := Lib.hid hR
  clear hR h
  go_enter Try.func15, Try.ntmps15
  go_wp2_with fail
  refine (new_any S v l _ h1 (by omega)).mono ?_
  rintro e w1 ⟨g, rfl, hg, hgl, hr, b1⟩
  have hgw : w.heap.size < g := by simp at hg; omega
  have hne : some g ≠ some w.heap.size := by simp; omega
  replace K4 := K4.below b1 K4.lt
  replace B := B.trans (b1.mono B.size)
  clear h1 b1 hg
  go_wp2_with fail
  refine (text_some 16 (by omega) g _ _ _ hr (by simp; omega)).mono ?_
  rintro e w2 ⟨v2, rfl, hr2, o2, g2⟩
  have x2 := own_BS o2
  replace K4 := K4.grown g2 hne
  replace B := B.trans (below_of_grown' g2 (Nat.le_of_lt hgw) B.size)
  obtain ⟨⟨st1, nm⟩, hT⟩ : ∃ p, txtOf 16 (some l) = p := ⟨_, rfl⟩
  rw [hT] at hr2 x2
  simp only at hr2 x2
  obtain ⟨A2, c2, rfl, _⟩ := x2.form
  have hgx : ∀ g', some g = some g' → ¬ (w1.heap.size ≤ g' ∧ g' < w2.heap.size) := fun g' e => by injection e with e; omega
  have HT := Lib.hid hT
  clear hr o2 g2 hT
  go_wp2_with fail
  refine (count_some 24576 (by omega) g _ st1 _ hr2).mono ?_
  rintro e w3 ⟨rfl, hr3, g3⟩
  replace K4 := K4.grown g3 hne
  replace x2 := x2.grown g3 hgx
  replace B := B.trans (below_of_grown' g3 (Nat.le_of_lt hgw) B.size)
  obtain ⟨⟨st2, z⟩, hC⟩ : ∃ p, cntOf 24576 st1 = p := ⟨_, rfl⟩
  rw [hC] at hr3 ⊢
  simp only at hr3 ⊢
  have hlen : (st2.getD []).length ≤ 1000000 := by
    have k1 := txt_len 16 (some l)
    rw [HT.out] at k1
    have k2 := cntOf_len 24576 st1
    rw [hC] at k2
    simp at k1 k2
    omega
  have hz64 : I64 (z : Int) := by
    have k := numOf_lt st1
    have : (z : Int) ≤ 24576 := by
      unfold cntOf at hC
      split at hC
      · injection hC with _ e; omega
      · rename_i hh; rw [hC] at hh; simp only at hh; omega
    exact ⟨by omega, by omega⟩
  have hnl : nm.length ≤ 1000000 := by
    have k1 := congrArg (fun p => p.2.length) HT.out
    have k2 := txt_few 16 (some l)
    simp only at k1
    rw [← k1]
    simp at k2
    omega
  have HC := Lib.hid hC
  clear hr2 g3 hC
  go_wp2_with fail
  refine (left_rd g _ st2 _ hr3).mono ?_
  rintro e w' ⟨rfl, rfl⟩
  go_wp2_with fail
  refine (take_rd _ g _ st2 _ hr3 (by omega)).mono ?_
  rintro e w4 ⟨v4, rfl, hr4, o4, g4⟩
  rw [passed_all] at hr4 o4
  simp only at hr4 o4
  obtain ⟨rest, hrest⟩ : ∃ r, st2.getD [] = r := ⟨_, rfl⟩
  rw [hrest] at o4 hlen
  have HRE := Lib.hid hrest
  clear hrest
  have x4 := own_BS o4
  obtain ⟨A4, c4, rfl, _⟩ := x4.form
  replace K4 := K4.grown g4 hne
  replace x2 := x2.grown g4 hgx
  replace B := B.trans (below_of_grown' g4 (Nat.le_of_lt hgw) B.size)
  clear hr3 o4 g4
  go_wp2_with fail
  refine (list_any _ rest n _ (x4.mono fun b hb => hb.2)).mono ?_
  have hfew := list_few rest n
  have hw4 := K4.lt
  obtain ⟨⟨at_, ok⟩, hL⟩ : ∃ p, listS rest n = p := ⟨_, rfl⟩
  rw [hL] at hfew
  simp only at hfew
  rw [hL]
  rintro e w5 ⟨v5, rfl, o5, b5⟩
  simp only at o5
  have HL := Lib.hid hL
  have x5 := own_IS o5
  obtain ⟨A5, c5, rfl, _⟩ := x5.form
  replace K4 := K4.below b5 K4.lt
  replace x2 := x2.below' b5
  have hr5 := hr4.below b5
  replace B := B.trans (b5.mono B.size)
  have hcv := x2.str (P := Try.prog) Try.underlying27 Try.underlying5 Try.underlying9
  clear hr4 o5 b5 x4 hL x2
  go_wp2_with fail
  have b6 := (Below.refl w5.heap.size w5).alloc (Nat.le_refl _) (.cells #[.string ⟨nm.toArray⟩, .int .i64 (z : Int), .slice A5 at_.length c5] 24)
  have hr6 := hr5.below b6
  have K6 := K4.below b6 K4.lt
  have K11 := KB.new w5 24 #[.string ⟨nm.toArray⟩, .int .i64 (z : Int), .slice A5 at_.length c5]
  have B6 := B.trans (b6.mono B.size)
  have V6 : IV _ _ (.agg #[.string ⟨nm.toArray⟩, .int .i64 (z : Int), .slice A5 at_.length c5]) ⟨nm, z, at_⟩ := IV.mk nm z (x5.below' b6) hz64 (by unfold maxLen; omega)
  generalize w5.alloc (.cells #[.string ⟨nm.toArray⟩, .int .i64 (z : Int), .slice A5 at_.length c5] 24) = w6 at *
  generalize (⟨nm.toArray⟩ : ByteArray) = sx at *
  clear hr5 K4 B x5
  have hok := ok_rd g _ _ _ hr6
  rw [Option.isSome_map] at hok
  refine hok.mono ?_
  rintro e w' ⟨rfl, rfl⟩
  clear hr6 hok
  have hread : readS l n = (st2, ⟨nm, z, at_⟩, ok) := by
    unfold readS
    rw [HT.out]
    simp only [HC.out, HRE.out, HL.out]
  have HG : Hid (R = if st2.isSome = true ∧ ok = true ∧ fitS ⟨nm, z, at_⟩ n = true then (⟨nm, z, at_⟩, 0) else (ino0, 2)) := by
    show _ = _
    rw [HR.out]
    unfold getS
    rw [hread]
  clear hread HT HC HL HR
  cases hs : st2.isSome with
  | false =>
    have hR := HG.out
    rw [if_neg (fun h => by rw [hs] at h; cases h.1)] at hR
    subst hR
    have c0 : w6.cell? ⟨w.heap.size, 0, none⟩ = some (.string ⟨#[]⟩) := K6.cell 0
    have c1 : w6.cell? ⟨w.heap.size, 1, none⟩ = some (.int .i64 0) := K6.cell 1
    have c2 : w6.cell? ⟨w.heap.size, 2, none⟩ = some (.slice none 0 0) := K6.cell 2
    have f0 := K6.free 0
    have f1 := K6.free 1
    have f2 := K6.free 2
    clear HG
    have k6 := K6.put3 (.string ⟨#[]⟩) (.int .i64 0) (.slice none 0 0)
    have B7 := B6.trans (below_of_grown' (grown_three w6 w.heap.size (.string ⟨#[]⟩) (.int .i64 0) (.slice none 0 0)) (Nat.le_refl _) B6.size)
    go_wp2_with fail
    exact bodyPost_ret (results_cell_tmp (P := Try.prog) rfl _ _ w.heap.size _ _ (0, 0) _ rfl k6 Try.underlying24 rfl (by kernel_rfl)) rfl ⟨_, rfl, IV.zero _ _, B7⟩
  | true =>
    cases ok with
    | false =>
      have hR := HG.out
      rw [if_neg (fun h => by cases h.2.1)] at hR
      subst hR
      have c0 : w6.cell? ⟨w.heap.size, 0, none⟩ = some (.string ⟨#[]⟩) := K6.cell 0
      have c1 : w6.cell? ⟨w.heap.size, 1, none⟩ = some (.int .i64 0) := K6.cell 1
      have c2 : w6.cell? ⟨w.heap.size, 2, none⟩ = some (.slice none 0 0) := K6.cell 2
      have f0 := K6.free 0
      have f1 := K6.free 1
      have f2 := K6.free 2
      clear HG
      have k6 := K6.put3 (.string ⟨#[]⟩) (.int .i64 0) (.slice none 0 0)
      have B7 := B6.trans (below_of_grown' (grown_three w6 w.heap.size (.string ⟨#[]⟩) (.int .i64 0) (.slice none 0 0)) (Nat.le_refl _) B6.size)
      go_wp2_with fail
      exact bodyPost_ret (results_cell_tmp (P := Try.prog) rfl _ _ w.heap.size _ _ (0, 0) _ rfl k6 Try.underlying24 rfl (by kernel_rfl)) rfl ⟨_, rfl, IV.zero _ _, B7⟩
    | true =>
      have hck := check_any (.agg #[.string sx, .int .i64 (z : Int), .slice A5 at_.length c5]) ⟨nm, z, at_⟩ n (by show at_.length ≤ _; omega) w6 (V6.lt.mono fun b hb => hb.2)
      have HCK := Lib.hid hck
      have d0 : w6.cell? ⟨w5.heap.size, 0, none⟩ = some (.string sx) := K11.cell 0
      have d1 : w6.cell? ⟨w5.heap.size, 1, none⟩ = some (.int .i64 (z : Int)) := K11.cell 1
      have d2 : w6.cell? ⟨w5.heap.size, 2, none⟩ = some (.slice A5 at_.length c5) := K11.cell 2
      clear hck
      by_cases hf : fitS ⟨nm, z, at_⟩ n = true
      · have hR := HG.out
        rw [if_pos ⟨hs, rfl, hf⟩] at hR
        subst hR
        have hck := HCK.out
        rw [chk_yes hf] at hck
        clear HG HCK
        go_wp2_with fail
        refine hck.mono ?_
        rintro e w7 ⟨rfl, b7⟩
        have K7 := K6.below b7 K6.lt
        have K12 := K11.below b7 K11.lt
        have B7 := B6.trans (b7.mono B6.size)
        have V7 := V6.below' b7
        clear d0 d1 d2 hck
        have d0 : w7.cell? ⟨w5.heap.size, 0, none⟩ = some (.string sx) := K12.cell 0
        have d1 : w7.cell? ⟨w5.heap.size, 1, none⟩ = some (.int .i64 (z : Int)) := K12.cell 1
        have d2 : w7.cell? ⟨w5.heap.size, 2, none⟩ = some (.slice A5 at_.length c5) := K12.cell 2
        have c0 : w7.cell? ⟨w.heap.size, 0, none⟩ = some (.string ⟨#[]⟩) := K7.cell 0
        have c1 : w7.cell? ⟨w.heap.size, 1, none⟩ = some (.int .i64 0) := K7.cell 1
        have c2 : w7.cell? ⟨w.heap.size, 2, none⟩ = some (.slice none 0 0) := K7.cell 2
        have f0 := K7.free 0
        have f1 := K7.free 1
        have f2 := K7.free 2
        have k8 := K7.put3 (.string sx) (.int .i64 (z : Int)) (.slice A5 at_.length c5)
        have g8 := grown_three w7 w.heap.size (.string sx) (.int .i64 (z : Int)) (.slice A5 at_.length c5)
        have B8 := B7.trans (below_of_grown' g8 (Nat.le_refl _) B7.size)
        have V8 := (V7.keep (w' := ((w7.setCell ⟨w.heap.size, 0, none⟩ (.string sx)).setCell ⟨w.heap.size, 1, none⟩ (.int .i64 (z : Int))).setCell ⟨w.heap.size, 2, none⟩ (.slice A5 at_.length c5)) g8.size fun b hb hlt => g8.block b hlt fun e => by injection e with e; omega).mono (S' := fun b => w.heap.size ≤ b) fun b hb => by omega
        go_wp2_with fail
        exact bodyPost_ret (results_cell_tmp (P := Try.prog) rfl _ _ w.heap.size _ _ (0, 0) _ rfl k8 Try.underlying24 rfl (by kernel_rfl)) rfl ⟨_, rfl, V8, B8⟩
      · have hR := HG.out
        rw [if_neg (fun h => hf h.2.2)] at hR
        subst hR
        have hck := HCK.out
        rw [chk_no hf] at hck
        clear HG HCK
        go_wp2_with fail
        refine hck.mono ?_
        rintro e w7 ⟨rfl, b7⟩
        have K7 := K6.below b7 K6.lt
        have B7 := B6.trans (b7.mono B6.size)
        clear d0 d1 d2 hck
        have c0 : w7.cell? ⟨w.heap.size, 0, none⟩ = some (.string ⟨#[]⟩) := K7.cell 0
        have c1 : w7.cell? ⟨w.heap.size, 1, none⟩ = some (.int .i64 0) := K7.cell 1
        have c2 : w7.cell? ⟨w.heap.size, 2, none⟩ = some (.slice none 0 0) := K7.cell 2
        have f0 := K7.free 0
        have f1 := K7.free 1
        have f2 := K7.free 2
        have k6 := K7.put3 (.string ⟨#[]⟩) (.int .i64 0) (.slice none 0 0)
        have B8 := B7.trans (below_of_grown' (grown_three w7 w.heap.size (.string ⟨#[]⟩) (.int .i64 0) (.slice none 0 0)) (Nat.le_refl _) B7.size)
        go_wp2_with fail
        exact bodyPost_ret (results_cell_tmp (P := Try.prog) rfl _ _ w.heap.size _ _ (0, 0) _ rfl k6 Try.underlying24 rfl (by kernel_rfl)) rfl ⟨_, rfl, IV.zero _ _, B8⟩
end Go.Proofs.Ytgahnjhibpcbaaa
