/-
  InA: strings.ContainsRune at the three signs that a name may have beside letters and digits; what strings.ContainsFunc tells of a text (layer 12), over the loaded program. No condition but that a rune is one (0 to 1114111).
  InB: Which names may be: the program's Name (layer 12), over the loaded program. No condition.
  EvT: The program's own word, nameOrNone, behindBlank, Check and Ends (layer 23), over the loaded program: their contracts. No condition but that the table of the kinds' words is as laid.
-/
import Derived.Test.YtpeopkjmmmodpaaDoorLayS
import Derived.Test.YtpeopkjmmmodpaaDoorEy00
import Derived.Test.YtpeopkjmmmodpaaDoorEy02
import Derived.Laws.Runes
import Derived.Laws.RangeString
import Derived.Laws.Strings3
import Derived.Lib.OthersKept
import Derived.WalkMore
import Derived.Test.YtpeopkjmmmodpaaDoorEy04
set_option linter.unusedVariables false
set_option maxRecDepth 100000
namespace Go.Proofs.YtpeopkjmmmodpaaDoor
section
open Go.RowKit
def signs : ByteArray := { data := #[46, 45, 95] }
theorem signs_size : signs.size = 3 := rfl
def idxS (r : Int) : Int := if r = 46 then 0 else if r = 45 then 1 else if r = 95 then 2 else -1
theorem idx_fin : ∀ r : Fin 128, Lib.indexByte signs.data.toList ((r.val : Int)).toNat.toUInt8 = idxS (r.val : Int) := by decide +kernel
theorem idx_small (r : Int) (h0 : 0 ≤ r) (h1 : r < 128) : Lib.indexByte signs.data.toList r.toNat.toUInt8 = idxS r := by
  have := idx_fin ⟨r.toNat, by omega⟩
  simp only [Int.toNat_natCast] at this
  have e : ((r.toNat : Nat) : Int) = r := by omega
  rw [e] at this
  exact this
theorem idx_big (r : Int) (h1 : 128 ≤ r) : idxS r = -1 := by
  unfold idxS
  rw [if_neg (by omega), if_neg (by omega), if_neg (by omega)]
theorem signs_low : ∀ b ∈ signs.data.toList, b.toNat < 128 := by decide
theorem signs_dec : ∀ p : Fin 3, Utf8.decode signs p.val = ((signs.data.toList.getD p.val 0).toNat, 1) := by decide +kernel
theorem signs_not : ∀ p : Fin 3, ¬ (((signs.data.toList.getD p.val 0).toNat : Nat) : Int) = 65533 := by decide
theorem byte_index (s : ByteArray) (c : Int) (w : World) :
    Calls Tryd.prog 63 #[.string s, .int .u8 c] w fun e w' => e = .returned (.int .i64 (Lib.indexByte s.data.toList c.toNat.toUInt8)) ∧ w' = w :=
  Any.strings_IndexByte Tryd.laysIndexByte s c w
theorem valid_rune (r : Int) (w : World) :
    Calls Tryd.prog 64 #[.int .i32 r] w fun e w' => e = .returned (.bool (Lib.validRune r)) ∧ w' = w :=
  Any.utf8_ValidRune Tryd.laysValidRune r w
theorem index_low (r : Int) (h0 : 0 ≤ r) (h1 : r < 128) (w : World) :
    Calls Tryd.prog 57 #[.string signs, .int .i32 r] w fun e w' => e = .returned (.int .i64 (idxS r)) ∧ Below w.heap.size w w' := by
  have hb := byte_index signs r w
  rw [idx_small r h0 h1] at hb
  have hw : IntKind.u8.wrap r = r := by rw [IntKind.wrap_u8]; omega
  go_enter Tryd.func57, Tryd.ntmps57
  go_wp2_with (go_at_call 63; refine hb.mono ?_; rintro e w' ⟨rfl, rfl⟩)
  go_ret
  exact ⟨rfl, Below.refl _ _⟩
set_option maxHeartbeats 1000000 in
theorem index_error (w : World) :
    Calls Tryd.prog 57 #[.string signs, .int .i32 65533] w fun e w' => e = .returned (.int .i64 (-1)) ∧ Below w.heap.size w w' := by
  go_enter Tryd.func57, Tryd.ntmps57
  go_wp2
  go_loopg [] 4 (fun gf wx => ∃ pos : Nat, pos ≤ 3 ∧ wx.heap[w.heap.size]? = some (.stringIter signs pos) ∧ Below w.heap.size w wx ∧ gf + pos = 4)
  case atStart => exact ⟨0, by omega, World.iter_heap w signs 0, (Below.refl _ w).alloc (Nat.le_refl _) _, rfl⟩
  case round =>
    obtain ⟨pos, hp3, hit, hbw, hfu⟩ := hrel
    by_cases hps : pos < 3
    · have hnx : ∀ ty, (Instr.next (.pointer (some ⟨w.heap.size, 0, none⟩)) true ty).run Tryd.prog wr = _ := fun ty => Lib.run_next_any_at wr w.heap.size signs pos ty hit hps
      have hd := signs_dec ⟨pos, hps⟩
      have hnot := signs_not ⟨pos, hps⟩
      simp only at hd hnot
      rw [hd] at hnx
      obtain ⟨R, hR⟩ : ∃ R : Int, (((signs.data.toList.getD pos 0).toNat : Nat) : Int) = R := ⟨_, rfl⟩
      simp only [hR] at hnx hnot
      have hit2 := Lib.iterAt_heap wr w.heap.size signs pos (pos + 1) hit
      have hbw2 := Lib.below_iterAt hbw (k := w.heap.size) (Nat.le_refl _) signs (pos + 1)
      obtain ⟨W, hWd⟩ : ∃ W, wr.iterAt w.heap.size signs (pos + 1) = W := ⟨_, rfl⟩
      rw [hWd] at hnx hit2 hbw2
      clear hd hR hWd
      go_wp2
      go_roundg (gk - 1)
      case measure => omega
      case rel => exact ⟨pos + 1, by omega, hit2, hbw2, by omega⟩
    · have hnx : ∀ ty, (Instr.next (.pointer (some ⟨w.heap.size, 0, none⟩)) true ty).run Tryd.prog wr = _ := fun ty => Lib.run_next_end_at wr w.heap.size signs pos ty hit hps
      go_wp2
      go_ret
      exact ⟨rfl, hbw⟩
theorem index_bad (r : Int) (h0 : 128 ≤ r) (h1 : ¬ r = 65533) (h2 : Lib.validRune r = false) (w : World) :
    Calls Tryd.prog 57 #[.string signs, .int .i32 r] w fun e w' => e = .returned (.int .i64 (-1)) ∧ Below w.heap.size w w' := by
  have hb := valid_rune r w
  rw [h2] at hb
  have h3 : ¬ r < 128 := by omega
  have h4 : 0 ≤ r := by omega
  clear h0
  go_enter Tryd.func57, Tryd.ntmps57
  go_wp2_with (go_at_call 64; refine hb.mono ?_; rintro e w' ⟨rfl, rfl⟩)
  go_ret
  exact ⟨rfl, Below.refl _ _⟩
theorem none_index (a e : Nat) (y : Int) (h0 : 128 ≤ y) (h1 : y ≤ 255) (w : World) :
    Calls Tryd.prog 63 #[.string (signs.extract a e), .int .u8 y] w fun e w' => e = .returned (.int .i64 (-1)) ∧ w' = w := by
  have hb := byte_index (signs.extract a e) y w
  rw [← Lib.firstIdx_eq, firstIdx_ascii signs a e _ signs_low (by simp; omega)] at hb
  exact hb
theorem last_byte {rs : ByteArray} {K : Nat} (hK : rs.size = K + 1) (h : ∀ h : rs.size - 1 < rs.size, 128 ≤ (rs[rs.size - 1]'h).toNat) :
    ∃ y : Int, 128 ≤ y ∧ y ≤ 255 ∧ ∀ W : World, (Instr.index 9 (.string rs) (.int .i64 (K : Int))).run Tryd.prog W = .ok (.int .u8 y) W := by
  have hlt : rs.size - 1 < rs.size := by omega
  have hy := h hlt
  have e : rs.size - 1 = K := by omega
  simp only [e] at hy
  have := (rs[K]'(by omega)).toNat_lt
  refine ⟨((rs[K]'(by omega)).toNat : Int), by omega, by omega, fun W => ?_⟩
  rw [run_index_string W 9 rs .i64 (K : Int) Tryd.underlying9, dif_pos ⟨by omega, by omega⟩]
  simp only [Int.toNat_natCast]
theorem sign_at (K : Nat) (hK : K < 3) : ∀ W : World, (Instr.index 9 (.string signs) (.int .i64 (K : Int))).run Tryd.prog W = .ok (.int .u8 ((signs.data.toList.getD K 0).toNat : Int)) W := fun W => by
  rw [run_index_string W 9 signs .i64 (K : Int) Tryd.underlying9, dif_pos ⟨by omega, by rw [signs_size]; omega⟩]
  match K, hK with
  | 0, _ => rfl
  | 1, _ => rfl
  | 2, _ => rfl
theorem sign_from (K : Nat) (hK : K ≤ 3) : ∀ W : World, (Instr.slice 9 (.string signs) (some (.int .i64 (K : Int))) none none).run Tryd.prog W = .ok (.string (signs.extract K signs.size)) W := fun W => by
  rw [run_slice_string_from_if W 9 signs .i64 (K : Int) Tryd.underlying9, if_pos ⟨by omega, by rw [signs_size]; omega⟩]
  simp only [Int.toNat_natCast]
set_option maxHeartbeats 2000000 in
theorem index_high (r : Int) (h0 : 128 ≤ r) (h1 : ¬ r = 65533) (h2 : Lib.validRune r = true) (w : World) :
    Calls Tryd.prog 57 #[.string signs, .int .i32 r] w fun e w' => e = .returned (.int .i64 (-1)) ∧ Below w.heap.size w w' := by
  have hb := valid_rune r w
  have hv : Utf8.valid r = true := by
    unfold Lib.validRune at h2
    have := of_decide_eq_true h2
    unfold Utf8.valid
    rcases this with h | h <;> simp <;> omega
  rw [h2] at hb
  clear h2
  obtain ⟨f1, f2, f3⟩ := encode_facts r hv h0
  have hc := run_convert_int_string (P := Tryd.prog) w 21 9 .i32 r (by rw [Tryd.underlying21]; rfl) Tryd.underlying9
  obtain ⟨rs, hrs⟩ : ∃ s, Utf8.encode r = s := ⟨_, rfl⟩
  rw [hrs] at f1 f2 f3 hc
  have h3 : ¬ r < 128 := by omega
  have h4 : 0 ≤ r := by omega
  clear h0 hv hrs
  rcases (show rs.size = 1 + 1 ∨ rs.size = 2 + 1 ∨ rs.size = 3 + 1 by omega) with hK | hK | hK
  · obtain ⟨y, y0, y1, hy⟩ := last_byte hK f3
    have hsg := sign_at 1 (by omega)
    have hwr : IntKind.i64.wrap 2 = 2 := by decide
    have hsl : ∀ W : World, (Instr.slice 9 (.string signs) (some (.int .i64 2)) none none).run Tryd.prog W = .ok (.string (signs.extract 2 signs.size)) W := sign_from 2 (by omega)
    have hz : (rs.size : Int) = 2 := by omega
    have hn := none_index 2 signs.size y y0 y1
    have hzs : (signs.size : Int) = 3 := rfl
    have hne : ((45 : Int) != y) = true := by simp; omega
    change ∀ W : World, (Instr.index 9 (.string rs) (.int .i64 1)).run Tryd.prog W = .ok (.int .u8 y) W at hy
    change ∀ W : World, (Instr.index 9 (.string signs) (.int .i64 1)).run Tryd.prog W = .ok (.int .u8 45) W at hsg
    clear f1 f2 f3 hK y0 y1
    go_enter Tryd.func57, Tryd.ntmps57
    go_wp2_with (go_at_call 64; refine hb.mono ?_; rintro e w' ⟨rfl, rfl⟩)
    refine wp_scope_straight ?_
    go_wp2
    go_loop [9] (fun i => i = .int .i64 1) (fun i => 0)
    case atStart => rfl
    case round =>
      go_wp2
      refine wp_scope_straight ?_
      go_wp2
      go_quiet (fail)
      have bq := Below_drawn (Below.refl w'.heap.size w') nq
      generalize w'.drewN nq = w2 at bq ⊢
      go_wp2
      go_quiet (first | (go_at_call 63; exact Calls.quiet_of_same (hn _)) | fail)
      have bq2 := Below_drawn bq nq
      go_wp2
      rw [Exit.noGoto_ret]
      go_wp2
      rw [Exit.noGoto_ret]
      go_wp2
      go_ret
      exact ⟨rfl, bq2⟩
  · obtain ⟨y, y0, y1, hy⟩ := last_byte hK f3
    have hsg := sign_at 2 (by omega)
    have hwr : IntKind.i64.wrap 3 = 3 := by decide
    have hsl : ∀ W : World, (Instr.slice 9 (.string signs) (some (.int .i64 3)) none none).run Tryd.prog W = .ok (.string (signs.extract 3 signs.size)) W := sign_from 3 (by omega)
    have hz : (rs.size : Int) = 3 := by omega
    have hn := none_index 3 signs.size y y0 y1
    have hzs : (signs.size : Int) = 3 := rfl
    have hne : ((95 : Int) != y) = true := by simp; omega
    change ∀ W : World, (Instr.index 9 (.string rs) (.int .i64 2)).run Tryd.prog W = .ok (.int .u8 y) W at hy
    change ∀ W : World, (Instr.index 9 (.string signs) (.int .i64 2)).run Tryd.prog W = .ok (.int .u8 95) W at hsg
    clear f1 f2 f3 hK y0 y1
    go_enter Tryd.func57, Tryd.ntmps57
    go_wp2_with (go_at_call 64; refine hb.mono ?_; rintro e w' ⟨rfl, rfl⟩)
    refine wp_scope_straight ?_
    go_wp2
    go_loop [9] (fun i => i = .int .i64 2) (fun i => 0)
    case atStart => rfl
    case round =>
      go_wp2
      refine wp_scope_straight ?_
      go_wp2
      go_quiet (fail)
      have bq := Below_drawn (Below.refl w'.heap.size w') nq
      generalize w'.drewN nq = w2 at bq ⊢
      go_wp2
      go_quiet (first | (go_at_call 63; exact Calls.quiet_of_same (hn _)) | fail)
      have bq2 := Below_drawn bq nq
      go_wp2
      rw [Exit.noGoto_ret]
      go_wp2
      rw [Exit.noGoto_ret]
      go_wp2
      go_ret
      exact ⟨rfl, bq2⟩
  · have hz : (rs.size : Int) = 4 := by omega
    have hzs : (signs.size : Int) = 3 := rfl
    clear f1 f2 f3 hK
    go_enter Tryd.func57, Tryd.ntmps57
    go_wp2_with (go_at_call 64; refine hb.mono ?_; rintro e w' ⟨rfl, rfl⟩)
    refine wp_scope_straight ?_
    go_wp2
    go_loop [9] (fun i => i = .int .i64 3) (fun i => 0)
    case atStart => rfl
    case round =>
      go_wp2
      go_ret
      exact ⟨rfl, Below.refl _ _⟩
theorem index_rune (r : Int) (h0 : 0 ≤ r) (w : World) :
    Calls Tryd.prog 57 #[.string signs, .int .i32 r] w fun e w' => e = .returned (.int .i64 (idxS r)) ∧ Below w.heap.size w w' := by
  by_cases h1 : r < 128
  · exact index_low r h0 h1 w
  · rw [idx_big r (by omega)]
    by_cases h2 : r = 65533
    · subst h2
      exact index_error w
    · cases h3 : Lib.validRune r with
      | true => exact index_high r (by omega) h2 h3 w
      | false => exact index_bad r (by omega) h2 h3 w
theorem contains_rune (r : Int) (h0 : 0 ≤ r) (w : World) :
    Calls Tryd.prog 53 #[.string signs, .int .i32 r] w fun e w' => e = .returned (.bool (decide (0 ≤ idxS r))) ∧ Below w.heap.size w w' := by
  have hc := index_rune r h0 w
  generalize idxS r = z at hc ⊢
  go_enter Tryd.func53, Tryd.ntmps53
  go_wp2_with (go_at_call 57; refine hc.mono ?_; rintro e w' ⟨rfl, b⟩)
  go_ret
  exact ⟨rfl, b⟩
end
section
open Go.RowKit
theorem okc_low {c : Nat} (h : 123 ≤ c) : okc c = false := by
  unfold okc
  simp
  omega
theorem okc_idx (x : Nat) (h1 : ¬ (97 ≤ x ∧ x ≤ 122)) (h2 : ¬ (48 ≤ x ∧ x ≤ 57)) : (!okc x) = !decide (0 ≤ idxS (x : Int)) := by
  congr 1
  unfold okc idxS
  by_cases a : x = 46
  · subst a; decide
  · by_cases b : x = 45
    · subst b; decide
    · by_cases c : x = 95
      · subst c; decide
      · rw [if_neg (by omega), if_neg (by omega), if_neg (by omega)]
        simp [a, b, c]
        omega
theorem strange_any (w : World) : PredGrows Tryd.prog 52 #[] (fun x => !okc x) w := by
  intro W x hx _
  show Calls Tryd.prog 52 #[.int .i32 (x : Int)] W fun e w' => e = .returned (.bool (!okc x)) ∧ Below W.heap.size W w'
  by_cases h1 : 97 ≤ x ∧ x ≤ 122
  · have ho : (!okc x) = false := by unfold okc; simp; omega
    have a1 : ¬ (x : Int) < 97 := by omega
    have a2 : ¬ (122 : Int) < (x : Int) := by omega
    rw [ho]
    clear h1 ho hx
    go_enter Tryd.func52, Tryd.ntmps52
    go_wp2
    go_ret
    exact ⟨rfl, Below.refl _ _⟩
  · by_cases h2 : 48 ≤ x ∧ x ≤ 57
    · have ho : (!okc x) = false := by unfold okc; simp; omega
      have a1 : (x : Int) < 97 := by omega
      have a2 : ¬ (x : Int) < 48 := by omega
      have a3 : ¬ (57 : Int) < (x : Int) := by omega
      rw [ho]
      clear h1 h2 ho hx
      go_enter Tryd.func52, Tryd.ntmps52
      go_wp2
      go_ret
      exact ⟨rfl, Below.refl _ _⟩
    · rw [okc_idx x h1 h2]
      have hc := contains_rune (x : Int) (by omega) W
      generalize decide (0 ≤ idxS (x : Int)) = d at hc ⊢
      by_cases l1 : x < 97
      · have a1 : (x : Int) < 97 := by omega
        by_cases l2 : x < 48
        · have a2 : (x : Int) < 48 := by omega
          clear h1 h2 hx l1 l2
          go_enter Tryd.func52, Tryd.ntmps52
          go_wp2_with (go_at_call 53; refine hc.mono ?_; rintro e w' ⟨rfl, b⟩)
          go_ret
          exact ⟨rfl, b⟩
        · have a2 : ¬ (x : Int) < 48 := by omega
          have a3 : (57 : Int) < (x : Int) := by omega
          clear h1 h2 hx l1 l2
          go_enter Tryd.func52, Tryd.ntmps52
          go_wp2_with (go_at_call 53; refine hc.mono ?_; rintro e w' ⟨rfl, b⟩)
          go_ret
          exact ⟨rfl, b⟩
      · have a1 : ¬ (x : Int) < 97 := by omega
        have a2 : (122 : Int) < (x : Int) := by omega
        have a3 : ¬ (x : Int) < 48 := by omega
        have a4 : (57 : Int) < (x : Int) := by omega
        clear h1 h2 hx l1
        go_enter Tryd.func52, Tryd.ntmps52
        go_wp2_with (go_at_call 53; refine hc.mono ?_; rintro e w' ⟨rfl, b⟩)
        go_ret
        exact ⟨rfl, b⟩
theorem dec_high (n b0 b1 b2 b3 : Nat) (h : 128 ≤ b0) : 128 ≤ (Lib.decodeN n b0 b1 b2 b3).1 := by
  unfold Lib.decodeN
  repeat' split
  all_goals (simp only; omega)
theorem idx_any (l : List UInt8) : ∀ (f pos : Nat), l.length ≤ pos + f → decide (0 ≤ Lib.idxFuncFrom (fun x => !okc x) true ⟨l.toArray⟩ f pos) = (l.drop pos).any fun b => !okc b.toNat
  | 0, pos, h => by
    rw [List.drop_of_length_le (by omega)]
    rfl
  | f + 1, pos, h => by
    by_cases hp : pos < l.length
    · have hs : pos < (⟨l.toArray⟩ : ByteArray).size := hp
      rw [List.drop_eq_getElem_cons hp, List.any_cons]
      unfold Lib.idxFuncFrom
      rw [if_pos hs]
      have hgb : (⟨l.toArray⟩ : ByteArray)[pos]'hs = l[pos] := rfl
      by_cases hb : (l[pos]).toNat < 128
      · have hd := decode_ascii ⟨l.toArray⟩ pos hs (by rw [hgb]; exact hb)
        rw [hgb] at hd
        rw [hd]
        cases ho : okc (l[pos]).toNat with
        | false => simp
        | true =>
          simp only [Bool.not_true, Bool.false_eq_true, if_false, Bool.false_or]
          exact idx_any l f (pos + 1) (by omega)
      · have hd : 128 ≤ (Utf8.decode ⟨l.toArray⟩ pos).1 := by
          rw [Lib.decode_at]
          refine dec_high _ _ _ _ _ ?_
          have : (⟨l.toArray⟩ : ByteArray).get! pos = l[pos] := by
            show l.toArray[pos]! = l[pos]
            rw [getElem!_pos l.toArray pos (by simpa using hp)]
            rfl
          rw [this]
          omega
        rw [okc_low (by omega), okc_low (c := (l[pos]).toNat) (by omega)]
        simp
    · rw [List.drop_of_length_le (by omega), Lib.idxFuncFrom_end _ _ _ _ _ (by show ¬ pos < l.length; omega)]
      rfl
theorem any_not (l : List UInt8) : (!(l.any fun b => !okc b.toNat)) = l.all fun b => okc b.toNat := by
  induction l with
  | nil => rfl
  | cons a l ih => simp only [List.any_cons, List.all_cons, ← ih]; cases okc a.toNat <;> simp
theorem contains_func (l : List UInt8) (w : World) :
    Calls Tryd.prog 54 #[strV l, .func (.func 52) #[] #[]] w fun e w' => e = .returned (.bool (l.any fun b => !okc b.toNat)) ∧ Below w.heap.size w w' := by
  have hc := Any.strings_ContainsFunc_grows Tryd.laysContainsFunc 52 #[] (enters_of Tryd.func52 (by kernel_rfl) rfl) (fun x => !okc x) ⟨l.toArray⟩ w (strange_any w)
  have hi := idx_any l l.length 0 (by omega)
  rw [List.drop_zero] at hi
  unfold Lib.idxFunc at hc
  have e : (⟨l.toArray⟩ : ByteArray).size = l.length := rfl
  rw [e, hi] at hc
  exact hc
theorem name_any (l : List UInt8) (w : World) :
    Calls Tryd.prog 42 #[strV l] w fun e w' => e = .returned (.bool (nameS l)) ∧ Below w.heap.size w w' := by
  have hs : ((⟨l.toArray⟩ : ByteArray).size : Int) = (l.length : Int) := rfl
  have hc := contains_func l
  unfold strV at hc ⊢
  by_cases h0 : 0 < l.length
  · by_cases h1 : l.length ≤ 16
    · have e : nameS l = !(l.any fun b => !okc b.toNat) := by
        rw [any_not]
        unfold nameS
        rw [decide_eq_true (by omega), decide_eq_true (by omega)]
        simp
      rw [e]
      generalize (l.any fun b => !okc b.toNat) = d at hc ⊢
      generalize (⟨l.toArray⟩ : ByteArray) = s at hc hs ⊢
      have z0 : (0 : Int) < (s.size : Int) := by omega
      have z1 : (s.size : Int) ≤ 16 := by omega
      clear h0 h1 e hs
      go_enter Tryd.func42, Tryd.ntmps42
      go_wp2_with (go_at_call 54; refine (hc _).mono ?_; rintro e w' ⟨rfl, b⟩)
      go_ret
      exact ⟨rfl, b⟩
    · have e : nameS l = false := by
        unfold nameS
        rw [decide_eq_false (p := l.length ≤ 16) h1]
        simp
      rw [e]
      generalize (⟨l.toArray⟩ : ByteArray) = s at hs ⊢
      have z0 : (0 : Int) < (s.size : Int) := by omega
      have z1 : ¬ (s.size : Int) ≤ 16 := by omega
      clear h0 h1 e hs hc
      go_enter Tryd.func42, Tryd.ntmps42
      go_wp2
      go_ret
      exact ⟨rfl, Below.refl _ _⟩
  · have e : nameS l = false := by
      unfold nameS
      rw [decide_eq_false (p := 1 ≤ l.length) (by omega)]
      simp
    rw [e]
    generalize (⟨l.toArray⟩ : ByteArray) = s at hs ⊢
    have z0 : ¬ (0 : Int) < (s.size : Int) := by omega
    clear h0 e hs hc
    go_enter Tryd.func42, Tryd.ntmps42
    go_wp2
    go_ret
    exact ⟨rfl, Below.refl _ _⟩
end
section
open Go.RowKit Go.ChangeShapes Go.WideShapes Go.Joins
def wordP (k : Int) : List UInt8 := if 1 ≤ k ∧ k ≤ 14 then wordE k else []
theorem wordP_nil (k : Int) : decide (wordP k = []) = !decide (1 ≤ k ∧ k ≤ 14) := by
  unfold wordP
  by_cases h : 1 ≤ k ∧ k ≤ 14
  · rw [if_pos h, decide_eq_true h]
    rcases kind_cases h with rfl | rfl | rfl | rfl | rfl | rfl | rfl | rfl | rfl | rfl | rfl | rfl | rfl | rfl <;> decide
  · rw [if_neg h, decide_eq_false h]; rfl
theorem wordP_yes {k : Int} (h : 1 ≤ k ∧ k ≤ 14) : wordP k = wordE k := if_pos h
def Wds (w : World) : Prop := 0 < w.heap.size ∧ ∀ k : Nat, k < 15 → w.cell? ⟨0, k, none⟩ = some (strV (wordP (k : Int)))
theorem Wds.below {w w' : World} (h : Wds w) (hb : Below w.heap.size w w') : Wds w' :=
  ⟨by have := h.1; have := hb.size; omega, fun k hk => (World.cell?_of_block (w := w) (w' := w') (a := ⟨0, k, none⟩) (hb.block _ h.1)).trans (h.2 k hk)⟩
theorem pword_any (k : Int) (w : World) (h : Wds w) :
    Calls Tryd.prog 24 #[.int .i64 k] w fun e w' => e = .returned (strV (wordP k)) ∧ w' = w := by
  by_cases h0 : k < 0
  · have e : wordP k = [] := by unfold wordP; rw [if_neg (by omega)]
    rw [e]
    clear h e
    go_enter Tryd.func24, Tryd.ntmps24
    go_wp2_with fail
    go_ret
    exact ⟨rfl, rfl⟩
  by_cases h1 : 15 ≤ k
  · have e : wordP k = [] := by unfold wordP; rw [if_neg (by omega)]
    rw [e]
    clear h e
    go_enter Tryd.func24, Tryd.ntmps24
    go_wp2_with fail
    go_ret
    exact ⟨rfl, rfl⟩
  obtain ⟨n, rfl⟩ : ∃ n : Nat, k = (n : Int) := ⟨k.toNat, by omega⟩
  have hn : n < 15 := by omega
  have cw := h.2 n hn
  generalize strV (wordP (n : Int)) = v at *
  clear h
  go_enter Tryd.func24, Tryd.ntmps24
  go_wp2_with fail
  go_ret
  exact ⟨rfl, rfl⟩
theorem pnon_any (l : List UInt8) (w : World) :
    Calls Tryd.prog 25 #[strV l] w fun e w' => e = .returned (.bool (nameE l)) ∧ Below w.heap.size w w' := by
  have hnm := name_any l w
  unfold nameE
  obtain ⟨s, hs⟩ : ∃ s : ByteArray, s = ⟨l.toArray⟩ := ⟨_, rfl⟩
  have hsv : strV l = .string s := by rw [hs]; rfl
  obtain ⟨g1, g2, g3⟩ := zeq_nil s l hs
  rw [hsv] at hnm ⊢
  have HNM := Lib.hid hnm
  clear hnm hs hsv
  by_cases h : l = []
  · rw [decide_eq_true h] at g1 g2 g3 ⊢
    have h0 : s.toList = [] := by simpa using g1
    clear HNM h
    go_enter Tryd.func25, Tryd.ntmps25
    go_wp2_with fail
    go_ret
    exact ⟨by simp, Below.refl _ _⟩
  · rw [decide_eq_false h] at g1 g2 g3 ⊢
    have h0 : ¬ s.toList = [] := by simpa using g1
    clear h
    go_enter Tryd.func25, Tryd.ntmps25
    go_wp2_with fail
    refine HNM.out.mono ?_
    rintro e w' ⟨rfl, b⟩
    clear HNM
    go_wp2_with fail
    go_ret
    exact ⟨by simp, b⟩
theorem pbehind_any (l : List UInt8) (hl : l.length ≤ 1000000) (w : World) :
    Calls Tryd.prog 27 #[strV l] w fun e w' => e = .returned (strV (tailE l)) ∧ w' = w := by
  obtain ⟨s, hs⟩ : ∃ s : ByteArray, s = ⟨l.toArray⟩ := ⟨_, rfl⟩
  obtain ⟨u, hu⟩ : ∃ u : ByteArray, u = ⟨([32] ++ l).toArray⟩ := ⟨_, rfl⟩
  have f1 := wadd ⟨#[32]⟩ s u [32] l rfl hs hu (by simp; omega)
  have hsv : strV l = .string s := by rw [hs]; rfl
  obtain ⟨g1, g2, g3⟩ := zeq_nil s l hs
  unfold tailE
  rw [hsv]
  by_cases h : l = []
  · rw [decide_eq_true h] at g1 g2 g3
    rw [if_pos h]
    have h0 : s.toList = [] := by simpa using g1
    clear h hs hu hsv f1
    go_enter Tryd.func27, Tryd.ntmps27
    go_wp2_with fail
    go_ret
    exact ⟨rfl, rfl⟩
  · rw [decide_eq_false h] at g1 g2 g3
    rw [if_neg h]
    have h0 : ¬ s.toList = [] := by simpa using g1
    have huv : strV ([32] ++ l) = .string u := by rw [hu]; rfl
    rw [huv]
    clear h hs hu hsv huv
    go_enter Tryd.func27, Tryd.ntmps27
    go_wp2_with fail
    go_ret
    exact ⟨rfl, rfl⟩
set_option maxHeartbeats 4000000 in
theorem pevcheck_any (x : Ev) (v : Value) (w : World) (h : Wds w) (hv : EvV v x) :
    Calls Tryd.prog 11 #[v] w fun e w' => e = .returned (.int .i64 (if mayE x = true then 0 else 1)) ∧ Below w.heap.size w w' := by
  obtain ⟨rfl, hk, ht, hla, hlb⟩ := hv
  have K := KB.new w 23 #[.int .i64 x.kind, .int .i64 x.tick, strV x.a, strV x.b]
  have B := (Below.refl w.heap.size w).alloc (Nat.le_refl _) (.cells #[.int .i64 x.kind, .int .i64 x.tick, strV x.a, strV x.b] 23)
  have HW := Lib.hid (pword_any x.kind _ (h.below B))
  have HA := fun W => pnon_any x.a W
  have HB := fun W => pnon_any x.b W
  have hm : mayE x = (decide (1 ≤ x.kind ∧ x.kind ≤ 14) && (decide (0 ≤ x.tick) && (decide (x.tick ≤ 1099511627776) && (nameE x.a && nameE x.b)))) := by
    unfold mayE
    simp only [Bool.decide_and, Bool.and_assoc]
  have hwn := wordP_nil x.kind
  rw [hm]
  obtain ⟨r, hr⟩ : ∃ r : Int, r = (if (decide (1 ≤ x.kind ∧ x.kind ≤ 14) && (decide (0 ≤ x.tick) && (decide (x.tick ≤ 1099511627776) && (nameE x.a && nameE x.b)))) = true then 0 else 1) := ⟨_, rfl⟩
  rw [← hr]
  have HR := Lib.hid hr
  clear hr
  clear hm hk ht hla hlb h
  obtain ⟨sa, hsa⟩ : ∃ s : ByteArray, strV x.a = .string s := ⟨_, rfl⟩
  obtain ⟨sb, hsb⟩ : ∃ s : ByteArray, strV x.b = .string s := ⟨_, rfl⟩
  obtain ⟨sw, hsw⟩ : ∃ s : ByteArray, s = ⟨(wordP x.kind).toArray⟩ := ⟨_, rfl⟩
  have hsv : strV (wordP x.kind) = .string sw := by rw [hsw]; rfl
  obtain ⟨g1, g2, g3⟩ := zeq_nil sw _ hsw
  have hww := HW.out
  rw [hsa, hsb, hsv] at hww
  rw [hsa] at HA
  rw [hsb] at HB
  rw [hsa, hsb] at K B ⊢
  rw [hwn] at g1 g2 g3
  replace HW := Lib.hid hww
  have HA := Lib.hid HA
  have HB := Lib.hid HB
  clear hsa hsb hsw hsv hww hwn
  have q0 := K.cell 0
  have q1 := K.cell 1
  have q2 := K.cell 2
  have q3 := K.cell 3
  generalize x.kind = k at *
  generalize x.tick = t at *
  generalize nameE x.a = na at *
  generalize nameE x.b = nb at *
  go_enter Tryd.func11, Tryd.ntmps11
  go_wp2_with fail
  refine HW.out.mono ?_
  rintro e w1 ⟨rfl, rfl⟩
  clear HW
  by_cases h1 : 1 ≤ k ∧ k ≤ 14
  case neg =>
    have d1 : decide (1 ≤ k ∧ k ≤ 14) = false := decide_eq_false h1
    rw [d1] at g1 g2 g3
    simp only [Bool.not_true, Bool.not_false] at g1 g2 g3
    have h0 : sw.toList = [] := by simpa using g1
    obtain rfl : r = 1 := by rw [HR.out, d1]; simp
    clear HA HB HR h1 d1
    go_wp2_with fail
    go_ret
    exact ⟨rfl, B⟩
  have d1 : decide (1 ≤ k ∧ k ≤ 14) = true := decide_eq_true h1
  rw [d1] at g1 g2 g3
  simp only [Bool.not_true, Bool.not_false] at g1 g2 g3
  have h0 : ¬ sw.toList = [] := by simpa using g1
  clear h1
  by_cases h3 : 0 ≤ t
  case neg =>
    obtain rfl : r = 1 := by rw [HR.out, d1, decide_eq_false h3]; simp
    have d3 : decide (0 ≤ t) = false := decide_eq_false h3
    clear HA HB HR
    go_wp2_with fail
    go_ret
    exact ⟨rfl, B⟩
  have d3 : decide (0 ≤ t) = true := decide_eq_true h3
  by_cases h4 : t ≤ 1099511627776
  case neg =>
    obtain rfl : r = 1 := by rw [HR.out, d1, d3, decide_eq_false h4]; simp
    have d4 : decide (t ≤ 1099511627776) = false := decide_eq_false h4
    clear HA HB HR
    go_wp2_with fail
    go_ret
    exact ⟨rfl, B⟩
  have d4 : decide (t ≤ 1099511627776) = true := decide_eq_true h4
  have hr2 : r = if (na && nb) = true then 0 else 1 := by rw [HR.out, d1, d3, d4]; simp
  replace HR := Lib.hid hr2
  clear hr2
  go_wp2_with fail
  refine (HA.out _).mono ?_
  rintro e w1 ⟨rfl, b1⟩
  replace K := K.below b1 K.lt
  replace B := B.trans (b1.mono B.size)
  clear HA b1 q0 q1 q2 q3
  have q3 := K.cell 3
  cases na with
  | false =>
    obtain rfl : r = 1 := HR.out
    clear HB HR
    go_wp2_with fail
    go_ret
    exact ⟨rfl, B⟩
  | true =>
    go_wp2_with fail
    refine (HB.out _).mono ?_
    rintro e w2 ⟨rfl, b2⟩
    replace B := B.trans (b2.mono B.size)
    clear HB b2 q3 K
    cases nb with
    | false =>
      obtain rfl : r = 1 := HR.out
      clear HR
      go_wp2_with fail
      go_ret
      exact ⟨rfl, B⟩
    | true =>
      obtain rfl : r = 0 := HR.out
      clear HR
      go_wp2_with fail
      go_ret
      exact ⟨rfl, B⟩
set_option maxHeartbeats 4000000 in
theorem pevends_any (x : Ev) (v : Value) (w : World) (h : Wds w) (hv : EvV v x) :
    Calls Tryd.prog 14 #[v] w fun e w' => e = .returned (.bool (endsE x)) ∧ Below w.heap.size w w' := by
  have hmay := fun W hw => pevcheck_any x v W hw hv
  obtain ⟨rfl, hk, ht, hla, hlb⟩ := hv
  have K := KB.new w 23 #[.int .i64 x.kind, .int .i64 x.tick, strV x.a, strV x.b]
  have B := (Below.refl w.heap.size w).alloc (Nat.le_refl _) (.cells #[.int .i64 x.kind, .int .i64 x.tick, strV x.a, strV x.b] 23)
  have hcall := hmay _ (h.below B)
  have hm : endsE x = (mayE x && (decide (x.kind = 10) || decide (x.kind = 11))) := by
    unfold endsE
    simp only [Bool.decide_or]
  rw [hm]
  clear hm hk ht hla hlb hmay h
  obtain ⟨sa, hsa⟩ : ∃ s : ByteArray, strV x.a = .string s := ⟨_, rfl⟩
  obtain ⟨sb, hsb⟩ : ∃ s : ByteArray, strV x.b = .string s := ⟨_, rfl⟩
  rw [hsa, hsb] at hcall K B ⊢
  have HM := Lib.hid hcall
  clear hsa hsb hcall
  have q0 := K.cell 0
  have q1 := K.cell 1
  have q2 := K.cell 2
  have q3 := K.cell 3
  generalize x.kind = k at *
  generalize x.tick = t at *
  generalize mayE x = m at *
  go_enter Tryd.func14, Tryd.ntmps14
  go_wp2_with fail
  refine HM.out.mono ?_
  rintro e w1 ⟨rfl, b1⟩
  have K1 := K.below b1 K.lt
  have B1 := B.trans (b1.mono B.size)
  clear q0 q1 q2 q3
  have q0 := K1.cell 0
  clear HM K B b1
  cases m with
  | false =>
    go_wp2_with fail
    go_ret
    exact ⟨by simp, B1⟩
  | true =>
    by_cases h10 : k = 10
    · subst h10
      go_wp2_with fail
      go_ret
      exact ⟨by simp, B1⟩
    · have g10 : (k == 10) = false := beq_eq_false_iff_ne.2 h10
      by_cases h11 : k = 11
      · subst h11
        go_wp2_with fail
        go_ret
        exact ⟨by simp, B1⟩
      · have g11 : (k == 11) = false := beq_eq_false_iff_ne.2 h11
        go_wp2_with fail
        go_ret
        exact ⟨by simp [h10, h11], B1⟩
end
end Go.Proofs.YtpeopkjmmmodpaaDoor
