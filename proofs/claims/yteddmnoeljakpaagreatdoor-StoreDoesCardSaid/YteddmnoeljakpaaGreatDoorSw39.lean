/-
  IntsEq: slices.Equal of two []int, over the loaded program. General. No condition.
  InE: Whether two inodes are the same, the program's and the document's (layer 12), over the loaded program: each one's contract. No condition.
  AlC: The program's List, over the loaded program: its contract. No condition but sizes that it names.
  Res: What a function hands back whose results are a variable of several cells and a value, over any program. General. No condition.
  InF: Which inode bytes are: the program's Get (layer 12), over the loaded program. No condition but sizes that the contract names.
-/
import Derived.Test.YteddmnoeljakpaaGreatDoorSw22
import Derived.Test.YteddmnoeljakpaaGreatDoorSw33
import Derived.Test.YteddmnoeljakpaaGreatDoorSw00
import Derived.Laws.Rows
import Derived.Test.YteddmnoeljakpaaGreatDoorSw35
import Derived.Test.YteddmnoeljakpaaGreatDoorSw19
set_option linter.unusedVariables false
set_option maxRecDepth 100000
namespace Go.Proofs.YteddmnoeljakpaaGreatDoor
section
open Go.RowKit
end
section
open Go.RowKit
end
section
open Go.RowKit
theorem list_wrong (S : Nat → Prop) (v : Value) (b : List UInt8) (n : Int) (hn : n < 0 ∨ 4096 < n) (w : World) (h : BS w S v b) :
    Calls Tryz.prog 129 #[v, .int .i64 n] w (IntsAs w ([], false)) := by
  have hq := ints_none w w (Below.refl _ _)
  obtain ⟨A, c, rfl, hc, hcm, _⟩ := h.form
  have hm := mayBe_any n w
  rw [decide_eq_false (by omega)] at hm
  clear h hn
  go_enter Tryz.func129, Tryz.ntmps129
  go_wp2_with (go_at_call 166; refine hm.mono ?_; rintro e w' ⟨rfl, rfl⟩)
  go_ret2
  exact hq
theorem list_short (S : Nat → Prop) (v : Value) (b : List UInt8) (n : Int) (hn : ¬ n < 0) (hn2 : ¬ 4096 < n) (hb : b.length ≠ bytesN n) (w : World) (h : BS w S v b) :
    Calls Tryz.prog 129 #[v, .int .i64 n] w (IntsAs w ([], false)) := by
  have hq := ints_none w w (Below.refl _ _)
  have hgr := groups_8 n hn hn2 w
  obtain ⟨A, c, rfl, hc, hcm, _⟩ := h.form
  have hm := mayBe_any n w
  rw [decide_eq_true (by omega)] at hm
  generalize bytesN n = m at *
  have D0 : ((b.length : Int) != (m : Int)) = true := by simp; omega
  have D1 : ¬ (b.length : Int) = (m : Int) := by omega
  clear h hn
  generalize b.length = q at *
  go_enter Tryz.func129, Tryz.ntmps129
  go_wp2_with (first
    | (go_at_call 166; refine hm.mono ?_; rintro e w' ⟨rfl, rfl⟩)
    | (go_at_call 112; refine hgr.mono ?_; rintro e w' ⟨rfl, rfl⟩))
  go_ret2
  exact hq
set_option maxHeartbeats 2000000 in
theorem list_right (v : Value) (b : List UInt8) (n : Nat) (hn : n ≤ 4096) (hl : b.length = bytesN n) (w : World) (h : BS w (fun b => b < w.heap.size) v b) :
    Calls Tryz.prog 129 #[v, .int .i64 (n : Int)] w (IntsAs w (if ∃ i, i < 8 * b.length ∧ n ≤ i ∧ bitAt b i = true then ([], false) else (ofN (selK (bitAt b) (8 * b.length)), true))) := by
  have hgr := groups_8 n (by omega) (by omega) w
  have hm := mayBe_any n w
  rw [decide_eq_true (by omega)] at hm
  have hml : b.length ≤ 512 := by rw [hl]; unfold bytesN; omega
  rw [← hl] at hgr
  obtain ⟨R, hR⟩ : ∃ R, R = if ∃ i, i < 8 * b.length ∧ n ≤ i ∧ bitAt b i = true then ([], false) else (ofN (selK (bitAt b) (8 * b.length)), true) := ⟨_, rfl⟩
  have HN : Hid (∀ i, i < 8 * b.length → n ≤ i → bitAt b i = true → R = ([], false)) := fun i h1 h2 h3 => by rw [hR, if_pos ⟨i, h1, h2, h3⟩]
  have HY : Hid ((∀ i, i < 8 * b.length → bitAt b i = true → i < n) → R = (ofN (selK (bitAt b) (8 * b.length)), true)) := fun hh => by
    rw [hR, if_neg]
    rintro ⟨i, h1, h2, h3⟩
    have := hh i h1 h3
    omega
  rw [← hR]
  obtain ⟨A, c, rfl, hc, hcm, _⟩ := h.form
  clear hR hl hc hcm
  go_enter Tryz.func129, Tryz.ntmps129
  go_wp2_with (first
    | (go_at_call 166; refine hm.mono ?_; rintro e w' ⟨rfl, rfl⟩)
    | (go_at_call 112; refine hgr.mono ?_; rintro e w' ⟨rfl, rfl⟩))
  go_loopw [6, 21] (fun av iw wr => ∃ (k : Nat) (L : List Int), k ≤ 8 * b.length ∧ iw = .int .i64 k ∧ L.length ≤ k ∧ Hid (ofN (selK (bitAt b) k) = L) ∧ Hid (∀ i, i < k → bitAt b i = true → i < n) ∧
    wr.ownsRow w.heap.size 3 1 av L.length (L.map iv) ∧ Below w.heap.size w wr) (fun _ iw _ => 8 * b.length - (intOf iw).toNat)
  case atStart =>
    exact ⟨0, [], by omega, rfl, by simp, by show _ = _; simp [selK_zero, ofN], fun i hi => absurd hi (Nat.not_lt_zero _), World.ownsRow_nil _ _ _ _, Below.refl _ _⟩
  case round =>
    clear hm hgr
    obtain ⟨k, L, hk, rfl, hL, HS, HA, how, bl⟩ := hrel
    by_cases hlt : k < 8 * b.length
    · obtain ⟨bb, o, rfl, hbs, hbb, h1⟩ := (h.below' bl).at_ (by omega)
      have hql : k / 8 < b.length := by omega
      obtain ⟨x, hx⟩ : ∃ x, b[k / 8]? = some x := ⟨_, List.getElem?_eq_getElem hql⟩
      have kx := h1 (k / 8) x hx
      have hbit := fun W => (bit_any k (by omega) W).mono fun e w' h => (⟨h.1, h.2.symm⟩ : e = .returned (.int .u8 ((2 ^ (7 - k % 8) : Nat) : Int)) ∧ w' = W)
      have hB : 2 ^ (7 - k % 8) < 256 := Nat.lt_of_le_of_lt (Nat.pow_le_pow_right (by omega) (by omega : 7 - k % 8 ≤ 7)) (by decide)
      have hba := bitAt_and hx
      generalize 2 ^ (7 - k % 8) = B at *
      have hand := u8_and_nat x.toNat B x.toNat_lt hB
      have hq8 : (k : Int) / 8 = ((k / 8 : Nat) : Int) := by omega
      have hqw : IntKind.i64.wrap ((k / 8 : Nat) : Int) = ((k / 8 : Nat) : Int) := by rw [IntWalk.i64_in _ (by omega)]
      generalize x.toNat &&& B = E at *
      generalize x.toNat = xn at *
      generalize k / 8 = q at *
      obtain ⟨A1, c1, rfl, _⟩ := (own_IS how).form
      clear hx h1 hB
      cases hbk : bitAt b k with
      | false =>
        rw [hbk] at hba
        have hE : E = 0 := by simpa using hba
        have HS2 : Hid (ofN (selK (bitAt b) (k + 1)) = L) := by show _ = _; rw [selK_no hbk]; exact HS.out
        have HA2 : Hid (∀ i, i < k + 1 → bitAt b i = true → i < n) := fun i hi hbi => by
          by_cases e : i = k
          · subst e; rw [hbk] at hbi; cases hbi
          · exact HA.out i (by omega) hbi
        subst hE
        clear hba hbk HS HA
        go_wp2
        go_quiet (first | (go_at_call 167; exact Calls.quiet_of_same (hbit _)) | fail)
        go_wp2
        go_roundw
        case rel => exact ⟨k + 1, L, by omega, by go_num, by omega, HS2, HA2, how, Below_drawn bl _⟩
        case measure => simp [intOf]; omega
      | true =>
        rw [hbk] at hba
        have hE : E ≠ 0 := by simpa using hba
        have D0 : decide ((E : Int) = 0) = false := decide_eq_false (by omega)
        have D1 : ((E : Int) == 0) = false := by simp; omega
        have D2 : ¬ (E : Int) = 0 := by omega
        by_cases hkn : k < n
        · have HS2 : Hid (ofN (selK (bitAt b) (k + 1)) = L ++ [(k : Int)]) := by show _ = _; rw [selK_yes hbk, ofN_add, HS.out]; rfl
          have HA2 : Hid (∀ i, i < k + 1 → bitAt b i = true → i < n) := fun i hi hbi => by
            by_cases e : i = k
            · subst e; exact hkn
            · exact HA.out i (by omega) hbi
          have D3 : decide ((n : Int) ≤ (k : Int)) = false := decide_eq_false (by omega)
          obtain ⟨L2, hL2⟩ : ∃ L2, L2 = L ++ [(k : Int)] := ⟨_, rfl⟩
          rw [← hL2] at HS2
          have hl2 : L2.length ≤ k + 1 := by rw [hL2, List.length_append]; simp; omega
          have HL2 := Lib.hid hL2.symm
          have hll : L.length ≤ 1000000000 := by omega
          clear hba hbk HS HA hL2
          go_wp2
          go_quiet (first | (go_at_call 167; exact Calls.quiet_of_same (hbit _)) | fail)
          replace how : (wr.drewN nq).ownsRow w.heap.size 3 1 (.slice A1 L.length c1) L.length (L.map iv) := how
          replace bl := Below_drawn bl nq
          generalize wr.drewN nq = w1 at *
          have how1 := own_past ((Below.refl w1.heap.size w1).alloc (Nat.le_refl _) (.cells #[.int .i64 (k : Int)] 3)) how
          have bl1 := bl.alloc bl.size (.cells #[.int .i64 (k : Int)] 3)
          have kx2 := (KB.new w1 3 #[.int .i64 (k : Int)]).cell 0
          clear how bl
          go_wp2_with (at_builtin; refine wpList_grow1 _ rfl _ _ rfl w.heap.size _ L rfl how1 (k : Int) w1.heap.size 1 rfl kx2 hll bl1.size ?_; intro v2 w2 how2 g2 _; rw [HL2.out] at how2; have bl2 := bl1.grown g2 bl1.size (fun g e => own_ge how1 g e))
          go_roundw
          case rel => exact ⟨k + 1, L2, by omega, by go_num, hl2, HS2, HA2, how2, bl2⟩
          case measure => simp [intOf]; omega
        · have hr := HN.out k hlt (by omega) hbk
          subst hr
          have D3 : decide ((n : Int) ≤ (k : Int)) = true := decide_eq_true (by omega)
          clear hba hbk HS HA HN HY
          go_wp2
          go_quiet (first | (go_at_call 167; exact Calls.quiet_of_same (hbit _)) | fail)
          have hq := ints_none w _ (Below_drawn bl nq)
          go_wp2
          go_ret2
          exact hq
    · obtain rfl : k = 8 * b.length := by omega
      have hr := HY.out fun i hi hbi => HA.out i hi hbi
      rw [HS.out] at hr
      subst hr
      clear HS HA HN HY
      go_wp2
      go_ret2
      exact ⟨_, rfl, how, bl⟩
theorem list_any (v : Value) (b : List UInt8) (n : Int) (w : World) (h : BS w (fun b => b < w.heap.size) v b) :
    Calls Tryz.prog 129 #[v, .int .i64 n] w (IntsAs w (listS b n)) := by
  unfold listS
  by_cases h0 : n < 0
  · rw [if_pos (.inl h0)]
    exact list_wrong _ v b n (.inl h0) w h
  · by_cases h1 : 4096 < n
    · rw [if_pos (.inr (.inl h1))]
      exact list_wrong _ v b n (.inr h1) w h
    · by_cases h2 : b.length = bytesN n
      · obtain ⟨k, rfl⟩ := Int.eq_ofNat_of_zero_le (by omega : 0 ≤ n)
        have hr := list_right v b k (by omega) h2 w h
        by_cases h3 : ∃ i, i < 8 * b.length ∧ k ≤ i ∧ bitAt b i = true
        · rw [if_pos h3] at hr
          obtain ⟨i, a, c, d⟩ := h3
          rw [if_pos (.inr (.inr (.inr ⟨i, a, by omega, d⟩)))]
          exact hr
        · rw [if_neg h3] at hr
          rw [if_neg]
          · exact hr
          · rintro (h | h | h | ⟨i, a, c, d⟩)
            · exact h0 h
            · exact h1 h
            · exact h h2
            · exact h3 ⟨i, a, by omega, d⟩
      · rw [if_pos (.inr (.inr (.inl h2)))]
        exact list_short _ v b n h0 h1 h2 w h
end
section
open Go.RowKit
theorem results_cell_tmp {P : Program} {fn : Func} {p u : Tmp} {ty : TypeId} (h : fn.results = #[.cell p ty, .tmp u]) (tmps : Array Value) (w : World) (g : Nat) (t : TypeId) (cs : Array Value) (fr : Nat × Nat) (d : TypeDesc)
    (hp : tmps.getD p undef = .pointer (some ⟨g, 0, none⟩)) (hg : w.heap[g]? = some (.cells cs t fr))
    (hu : P.underlying ty = some d) (hd : (match d with | .struct _ | .array _ _ => true | _ => false) = true) (hi : (P.info? ty).map (·.size) = some cs.size) :
    (results fn tmps).run P w = .ok (.tuple #[.agg cs, tmps.getD u undef]) w := by
  have hp' : tmps[p]?.getD undef = .pointer (some ⟨g, 0, none⟩) := by simpa using hp
  simp [results, h, hp', asAddr, run_loadVar_row w g t ty cs fr d hg hu hd hi]
theorem KB.put3 {w : World} {g : Nat} {t : TypeId} {a b c : Value} (h : KB w g t #[a, b, c]) (x y z : Value) : KB (((w.setCell ⟨g, 0, none⟩ x).setCell ⟨g, 1, none⟩ y).setCell ⟨g, 2, none⟩ z) g t #[x, y, z] :=
  ((h.put 0 x).put 1 y).put 2 z
theorem res_three (w : World) (g : Nat) (x y z : Value) : w.grownBy (((w.setCell ⟨g, 0, none⟩ x).setCell ⟨g, 1, none⟩ y).setCell ⟨g, 2, none⟩ z) (some g) :=
  grown_trans (grown_trans (grown_set _ _ _ _) (grown_set _ _ _ _)) (grown_set _ _ _ _)
end
section
open Go.RowKit
def IGetAs (w : World) (r : Ino × Int) (e : Ending) (w' : World) : Prop :=
  ∃ v, e = .returned (.tuple #[v, .int .i64 r.2]) ∧ IV w' (fun b => w.heap.size ≤ b) v r.1 ∧ Below w.heap.size w w'
theorem passed_all (st : Option (List UInt8)) : passed ((st.getD []).length : Int) st = (st.map fun _ => [], st.getD []) := by
  unfold passed
  rw [if_neg (by omega)]
  cases st with
  | none => simp
  | some l => simp
theorem txt_len (m : Int) (st : Option (List UInt8)) : ((txtOf m st).1.getD []).length ≤ (st.getD []).length := by
  have h := cntOf_len m st
  unfold txtOf passed
  split
  · simp
  · cases hc : (cntOf m st).1 with
    | none => simp
    | some l =>
      rw [hc] at h
      simp at h ⊢
      omega
theorem list_few (b : List UInt8) (n : Int) : (listS b n).1.length ≤ 8 * b.length := by
  unfold listS
  split
  · simp
  · simp only [ofN_length]
    exact selK_le _ _
theorem txt_few (m : Int) (st : Option (List UInt8)) : (txtOf m st).2.length ≤ (st.getD []).length := by
  have h := cntOf_len m st
  unfold txtOf passed
  split
  · simp
  · simp only [List.length_take]
    omega
set_option maxHeartbeats 1000000 in
theorem get_any (S : Nat → Prop) (v : Value) (l : List UInt8) (n : Int) (w : World) (h : BS w S v l) (hl : l.length ≤ 1000000) :
    Calls Tryz.prog 101 #[v, .int .i64 n] w (IGetAs w (igetS l n)) := by
  have K4 := KB.new w 91 #[.string ⟨#[]⟩, .int .i64 0, .slice none 0 0]
  have B := (Below.refl w.heap.size w).alloc (Nat.le_refl _) (.cells #[.string ⟨#[]⟩, .int .i64 0, .slice none 0 0] 91)
  have h1 := h.alloc (.cells #[.string ⟨#[]⟩, .int .i64 0, .slice none 0 0] 91)
  obtain ⟨R, hR⟩ : ∃ R, R = igetS l n := ⟨_, rfl⟩
  rw [← hR]
  have HR := Lib.hid hR
  clear hR h
  go_enter Tryz.func101, Tryz.ntmps101
  go_wp2_with fail
  refine (new_any S v l _ h1 (by omega)).mono ?_
  rintro e w1 ⟨g, rfl, hg, hgl, hr, b1⟩
  have hgw : w.heap.size < g := by simp at hg; omega
  have hne : some g ≠ some w.heap.size := by simp; omega
  replace K4 := K4.below b1 K4.lt
  replace B := B.trans (b1.mono B.size)
  clear h1 b1 hg
  go_wp2_with fail
  refine (text_some 16 (by omega) g _ _ _ hr (by simp; omega)).mono ?_
  rintro e w2 ⟨v2, rfl, hr2, o2, g2⟩
  have x2 := own_BS o2
  replace K4 := K4.grown g2 hne
  replace B := B.trans (below_of_grown' g2 (Nat.le_of_lt hgw) B.size)
  obtain ⟨⟨st1, nm⟩, hT⟩ : ∃ p, txtOf 16 (some l) = p := ⟨_, rfl⟩
  rw [hT] at hr2 x2
  simp only at hr2 x2
  obtain ⟨A2, c2, rfl, _⟩ := x2.form
  have hgx : ∀ g', some g = some g' → ¬ (w1.heap.size ≤ g' ∧ g' < w2.heap.size) := fun g' e => by injection e with e; omega
  have HT := Lib.hid hT
  clear hr o2 g2 hT
  go_wp2_with fail
  refine (count_some 24576 (by omega) g _ st1 _ hr2).mono ?_
  rintro e w3 ⟨rfl, hr3, g3⟩
  replace K4 := K4.grown g3 hne
  replace x2 := x2.grown g3 hgx
  replace B := B.trans (below_of_grown' g3 (Nat.le_of_lt hgw) B.size)
  obtain ⟨⟨st2, z⟩, hC⟩ : ∃ p, cntOf 24576 st1 = p := ⟨_, rfl⟩
  rw [hC] at hr3 ⊢
  simp only at hr3 ⊢
  have hlen : (st2.getD []).length ≤ 1000000 := by
    have k1 := txt_len 16 (some l)
    rw [HT.out] at k1
    have k2 := cntOf_len 24576 st1
    rw [hC] at k2
    simp at k1 k2
    omega
  have hz64 : I64 (z : Int) := by
    have k := numOf_lt st1
    have : (z : Int) ≤ 24576 := by
      unfold cntOf at hC
      split at hC
      · injection hC with _ e; omega
      · rename_i hh; rw [hC] at hh; simp only at hh; omega
    exact ⟨by omega, by omega⟩
  have hnl : nm.length ≤ 1000000 := by
    have k1 := congrArg (fun p => p.2.length) HT.out
    have k2 := txt_few 16 (some l)
    simp only at k1
    rw [← k1]
    simp at k2
    omega
  have HC := Lib.hid hC
  clear hr2 g3 hC
  go_wp2_with fail
  refine (left_rd g _ st2 _ hr3).mono ?_
  rintro e w' ⟨rfl, rfl⟩
  go_wp2_with fail
  refine (take_rd _ g _ st2 _ hr3 (by omega)).mono ?_
  rintro e w4 ⟨v4, rfl, hr4, o4, g4⟩
  rw [passed_all] at hr4 o4
  simp only at hr4 o4
  obtain ⟨rest, hrest⟩ : ∃ r, st2.getD [] = r := ⟨_, rfl⟩
  rw [hrest] at o4 hlen
  have HRE := Lib.hid hrest
  clear hrest
  have x4 := own_BS o4
  obtain ⟨A4, c4, rfl, _⟩ := x4.form
  replace K4 := K4.grown g4 hne
  replace x2 := x2.grown g4 hgx
  replace B := B.trans (below_of_grown' g4 (Nat.le_of_lt hgw) B.size)
  clear hr3 o4 g4
  go_wp2_with fail
  refine (list_any _ rest n _ (x4.mono fun b hb => hb.2)).mono ?_
  have hfew := list_few rest n
  have hw4 := K4.lt
  obtain ⟨⟨at_, ok⟩, hL⟩ : ∃ p, listS rest n = p := ⟨_, rfl⟩
  rw [hL] at hfew
  simp only at hfew
  rw [hL]
  rintro e w5 ⟨v5, rfl, o5, b5⟩
  simp only at o5
  have HL := Lib.hid hL
  have x5 := own_IS o5
  obtain ⟨A5, c5, rfl, _⟩ := x5.form
  replace K4 := K4.below b5 K4.lt
  replace x2 := x2.below' b5
  have hr5 := hr4.below b5
  replace B := B.trans (b5.mono B.size)
  have hcv := x2.str (P := Tryz.prog) Tryz.underlying55 Tryz.underlying5 Tryz.underlying9
  clear hr4 o5 b5 x4 hL x2
  go_wp2_with fail
  have b6 := (Below.refl w5.heap.size w5).alloc (Nat.le_refl _) (.cells #[.string ⟨nm.toArray⟩, .int .i64 (z : Int), .slice A5 at_.length c5] 91)
  have hr6 := hr5.below b6
  have K6 := K4.below b6 K4.lt
  have K11 := KB.new w5 91 #[.string ⟨nm.toArray⟩, .int .i64 (z : Int), .slice A5 at_.length c5]
  have B6 := B.trans (b6.mono B.size)
  have V6 : IV _ _ (.agg #[.string ⟨nm.toArray⟩, .int .i64 (z : Int), .slice A5 at_.length c5]) ⟨nm, z, at_⟩ := IV.mk nm z (x5.below' b6) hz64 (by unfold maxLen; omega)
  generalize w5.alloc (.cells #[.string ⟨nm.toArray⟩, .int .i64 (z : Int), .slice A5 at_.length c5] 91) = w6 at *
  generalize (⟨nm.toArray⟩ : ByteArray) = sx at *
  clear hr5 K4 B x5
  have hok := ok_rd g _ _ _ hr6
  rw [Option.isSome_map] at hok
  refine hok.mono ?_
  rintro e w' ⟨rfl, rfl⟩
  clear hr6 hok
  have hread : readS l n = (st2, ⟨nm, z, at_⟩, ok) := by
    unfold readS
    rw [HT.out]
    simp only [HC.out, HRE.out, HL.out]
  have HG : Hid (R = if st2.isSome = true ∧ ok = true ∧ fitS ⟨nm, z, at_⟩ n = true then (⟨nm, z, at_⟩, 0) else (ino0, 2)) := by
    show _ = _
    rw [HR.out]
    unfold igetS
    rw [hread]
  clear hread HT HC HL HR
  cases hs : st2.isSome with
  | false =>
    have hR := HG.out
    rw [if_neg (fun h => by rw [hs] at h; cases h.1)] at hR
    subst hR
    have c0 : w6.cell? ⟨w.heap.size, 0, none⟩ = some (.string ⟨#[]⟩) := K6.cell 0
    have c1 : w6.cell? ⟨w.heap.size, 1, none⟩ = some (.int .i64 0) := K6.cell 1
    have c2 : w6.cell? ⟨w.heap.size, 2, none⟩ = some (.slice none 0 0) := K6.cell 2
    have f0 := K6.free 0
    have f1 := K6.free 1
    have f2 := K6.free 2
    clear HG
    have k6 := K6.put3 (.string ⟨#[]⟩) (.int .i64 0) (.slice none 0 0)
    have B7 := B6.trans (below_of_grown' (res_three w6 w.heap.size (.string ⟨#[]⟩) (.int .i64 0) (.slice none 0 0)) (Nat.le_refl _) B6.size)
    go_wp2_with fail
    exact bodyPost_ret (results_cell_tmp (P := Tryz.prog) rfl _ _ w.heap.size _ _ (0, 0) _ rfl k6 Tryz.underlying91 rfl (by kernel_rfl)) rfl ⟨_, rfl, IV.zero _ _, B7⟩
  | true =>
    cases ok with
    | false =>
      have hR := HG.out
      rw [if_neg (fun h => by cases h.2.1)] at hR
      subst hR
      have c0 : w6.cell? ⟨w.heap.size, 0, none⟩ = some (.string ⟨#[]⟩) := K6.cell 0
      have c1 : w6.cell? ⟨w.heap.size, 1, none⟩ = some (.int .i64 0) := K6.cell 1
      have c2 : w6.cell? ⟨w.heap.size, 2, none⟩ = some (.slice none 0 0) := K6.cell 2
      have f0 := K6.free 0
      have f1 := K6.free 1
      have f2 := K6.free 2
      clear HG
      have k6 := K6.put3 (.string ⟨#[]⟩) (.int .i64 0) (.slice none 0 0)
      have B7 := B6.trans (below_of_grown' (res_three w6 w.heap.size (.string ⟨#[]⟩) (.int .i64 0) (.slice none 0 0)) (Nat.le_refl _) B6.size)
      go_wp2_with fail
      exact bodyPost_ret (results_cell_tmp (P := Tryz.prog) rfl _ _ w.heap.size _ _ (0, 0) _ rfl k6 Tryz.underlying91 rfl (by kernel_rfl)) rfl ⟨_, rfl, IV.zero _ _, B7⟩
    | true =>
      have hck := icheck_any (.agg #[.string sx, .int .i64 (z : Int), .slice A5 at_.length c5]) ⟨nm, z, at_⟩ n (by show at_.length ≤ _; omega) w6 (V6.lt.mono fun b hb => hb.2)
      have HCK := Lib.hid hck
      have d0 : w6.cell? ⟨w5.heap.size, 0, none⟩ = some (.string sx) := K11.cell 0
      have d1 : w6.cell? ⟨w5.heap.size, 1, none⟩ = some (.int .i64 (z : Int)) := K11.cell 1
      have d2 : w6.cell? ⟨w5.heap.size, 2, none⟩ = some (.slice A5 at_.length c5) := K11.cell 2
      clear hck
      by_cases hf : fitS ⟨nm, z, at_⟩ n = true
      · have hR := HG.out
        rw [if_pos ⟨hs, rfl, hf⟩] at hR
        subst hR
        have hck := HCK.out
        rw [chk_yes hf] at hck
        clear HG HCK
        go_wp2_with fail
        refine hck.mono ?_
        rintro e w7 ⟨rfl, b7⟩
        have K7 := K6.below b7 K6.lt
        have K12 := K11.below b7 K11.lt
        have B7 := B6.trans (b7.mono B6.size)
        have V7 := V6.below' b7
        clear d0 d1 d2 hck
        have d0 : w7.cell? ⟨w5.heap.size, 0, none⟩ = some (.string sx) := K12.cell 0
        have d1 : w7.cell? ⟨w5.heap.size, 1, none⟩ = some (.int .i64 (z : Int)) := K12.cell 1
        have d2 : w7.cell? ⟨w5.heap.size, 2, none⟩ = some (.slice A5 at_.length c5) := K12.cell 2
        have c0 : w7.cell? ⟨w.heap.size, 0, none⟩ = some (.string ⟨#[]⟩) := K7.cell 0
        have c1 : w7.cell? ⟨w.heap.size, 1, none⟩ = some (.int .i64 0) := K7.cell 1
        have c2 : w7.cell? ⟨w.heap.size, 2, none⟩ = some (.slice none 0 0) := K7.cell 2
        have f0 := K7.free 0
        have f1 := K7.free 1
        have f2 := K7.free 2
        have k8 := K7.put3 (.string sx) (.int .i64 (z : Int)) (.slice A5 at_.length c5)
        have g8 := res_three w7 w.heap.size (.string sx) (.int .i64 (z : Int)) (.slice A5 at_.length c5)
        have B8 := B7.trans (below_of_grown' g8 (Nat.le_refl _) B7.size)
        have V8 := (V7.keep (w' := ((w7.setCell ⟨w.heap.size, 0, none⟩ (.string sx)).setCell ⟨w.heap.size, 1, none⟩ (.int .i64 (z : Int))).setCell ⟨w.heap.size, 2, none⟩ (.slice A5 at_.length c5)) g8.size fun b hb hlt => g8.block b hlt fun e => by injection e with e; omega).mono (S' := fun b => w.heap.size ≤ b) fun b hb => by omega
        go_wp2_with fail
        exact bodyPost_ret (results_cell_tmp (P := Tryz.prog) rfl _ _ w.heap.size _ _ (0, 0) _ rfl k8 Tryz.underlying91 rfl (by kernel_rfl)) rfl ⟨_, rfl, V8, B8⟩
      · have hR := HG.out
        rw [if_neg (fun h => hf h.2.2)] at hR
        subst hR
        have hck := HCK.out
        rw [chk_no hf] at hck
        clear HG HCK
        go_wp2_with fail
        refine hck.mono ?_
        rintro e w7 ⟨rfl, b7⟩
        have K7 := K6.below b7 K6.lt
        have B7 := B6.trans (b7.mono B6.size)
        clear d0 d1 d2 hck
        have c0 : w7.cell? ⟨w.heap.size, 0, none⟩ = some (.string ⟨#[]⟩) := K7.cell 0
        have c1 : w7.cell? ⟨w.heap.size, 1, none⟩ = some (.int .i64 0) := K7.cell 1
        have c2 : w7.cell? ⟨w.heap.size, 2, none⟩ = some (.slice none 0 0) := K7.cell 2
        have f0 := K7.free 0
        have f1 := K7.free 1
        have f2 := K7.free 2
        have k6 := K7.put3 (.string ⟨#[]⟩) (.int .i64 0) (.slice none 0 0)
        have B8 := B7.trans (below_of_grown' (res_three w7 w.heap.size (.string ⟨#[]⟩) (.int .i64 0) (.slice none 0 0)) (Nat.le_refl _) B7.size)
        go_wp2_with fail
        exact bodyPost_ret (results_cell_tmp (P := Tryz.prog) rfl _ _ w.heap.size _ _ (0, 0) _ rfl k6 Tryz.underlying91 rfl (by kernel_rfl)) rfl ⟨_, rfl, IV.zero _ _, B8⟩
end
end Go.Proofs.YteddmnoeljakpaaGreatDoor
