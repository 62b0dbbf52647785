/-
  InA: strings.ContainsRune at the three signs that a name may have beside letters and digits; what strings.ContainsFunc tells of a text (layer 12), over the loaded program. No condition but that a rune is one (0 to 1114111).
  InB: Which names may be: the program's Name (layer 12), over the loaded program. No condition.
-/
import Derived.Test.YtcbkokhjdleoeaaLayS
import Derived.Test.YtcbkokhjdleoeaaSz00
import Derived.Test.YtcbkokhjdleoeaaSz01
import Derived.Laws.Runes
import Derived.Laws.RangeString
import Derived.Laws.Strings3
import Derived.Lib.OthersKept
import Derived.WalkMore
set_option linter.unusedVariables false
set_option maxRecDepth 100000
namespace Go.Proofs.Ytcbkokhjdleoeaa
section
open Go.RowKit
def signs : ByteArray := { data := #[46, 45, 95] }
theorem signs_size : signs.size = 3 := rfl
def idxS (r : Int) : Int := if r = 46 then 0 else if r = 45 then 1 else if r = 95 then 2 else -1
theorem idx_fin : ∀ r : Fin 128, Lib.indexByte signs.data.toList ((r.val : Int)).toNat.toUInt8 = idxS (r.val : Int) := by decide +kernel
theorem idx_small (r : Int) (h0 : 0 ≤ r) (h1 : r < 128) : Lib.indexByte signs.data.toList r.toNat.toUInt8 = idxS r := by
  have := idx_fin ⟨r.toNat, by omega⟩
  simp only [Int.toNat_natCast] at this
  have e : ((r.toNat : Nat) : Int) = r := by omega
  rw [e] at this
  exact this
theorem idx_big (r : Int) (h1 : 128 ≤ r) : idxS r = -1 := by
  unfold idxS
  rw [if_neg (by omega), if_neg (by omega), if_neg (by omega)]
theorem signs_low : ∀ b ∈ signs.data.toList, b.toNat < 128 := by decide
theorem signs_dec : ∀ p : Fin 3, Utf8.decode signs p.val = ((signs.data.toList.getD p.val 0).toNat, 1) := by decide +kernel
theorem signs_not : ∀ p : Fin 3, ¬ (((signs.data.toList.getD p.val 0).toNat : Nat) : Int) = 65533 := by decide
theorem byte_index (s : ByteArray) (c : Int) (w : World) :
    Calls Try.prog 70 #[.string s, .int .u8 c] w fun e w' => e = .returned (.int .i64 (Lib.indexByte s.data.toList c.toNat.toUInt8)) ∧ w' = w :=
  Any.strings_IndexByte Try.laysIndexByte s c w
theorem valid_rune (r : Int) (w : World) :
    Calls Try.prog 71 #[.int .i32 r] w fun e w' => e = .returned (.bool (Lib.validRune r)) ∧ w' = w :=
  Any.utf8_ValidRune Try.laysValidRune r w
theorem index_low (r : Int) (h0 : 0 ≤ r) (h1 : r < 128) (w : World) :
    Calls Try.prog 68 #[.string signs, .int .i32 r] w fun e w' => e = .returned (.int .i64 (idxS r)) ∧ Below w.heap.size w w' := by
  have hb := byte_index signs r w
  rw [idx_small r h0 h1] at hb
  have hw : IntKind.u8.wrap r = r := by rw [IntKind.wrap_u8]; omega
  go_enter Try.func68, Try.ntmps68
  go_wp2_with (go_at_call 70; refine hb.mono ?_; rintro e w' ⟨rfl, rfl⟩)
  go_ret
  exact ⟨rfl, Below.refl _ _⟩
set_option maxHeartbeats 1000000 in
theorem index_error (w : World) :
    Calls Try.prog 68 #[.string signs, .int .i32 65533] w fun e w' => e = .returned (.int .i64 (-1)) ∧ Below w.heap.size w w' := by
  go_enter Try.func68, Try.ntmps68
  go_wp2
  go_loopg [] 4 (fun gf wx => ∃ pos : Nat, pos ≤ 3 ∧ wx.heap[w.heap.size]? = some (.stringIter signs pos) ∧ Below w.heap.size w wx ∧ gf + pos = 4)
  case atStart => exact ⟨0, by omega, World.iter_heap w signs 0, (Below.refl _ w).alloc (Nat.le_refl _) _, rfl⟩
  case round =>
    obtain ⟨pos, hp3, hit, hbw, hfu⟩ := hrel
    by_cases hps : pos < 3
    · have hnx : ∀ ty, (Instr.next (.pointer (some ⟨w.heap.size, 0, none⟩)) true ty).run Try.prog wr = _ := fun ty => Lib.run_next_any_at wr w.heap.size signs pos ty hit hps
      have hd := signs_dec ⟨pos, hps⟩
      have hnot := signs_not ⟨pos, hps⟩
      simp only at hd hnot
      rw [hd] at hnx
      obtain ⟨R, hR⟩ : ∃ R : Int, (((signs.data.toList.getD pos 0).toNat : Nat) : Int) = R := ⟨_, rfl⟩
      simp only [hR] at hnx hnot
      have hit2 := Lib.iterAt_heap wr w.heap.size signs pos (pos + 1) hit
      have hbw2 := Lib.below_iterAt hbw (k := w.heap.size) (Nat.le_refl _) signs (pos + 1)
      obtain ⟨W, hWd⟩ : ∃ W, wr.iterAt w.heap.size signs (pos + 1) = W := ⟨_, rfl⟩
      rw [hWd] at hnx hit2 hbw2
      clear hd hR hWd
      go_wp2
      go_roundg (gk - 1)
      case measure => omega
      case rel => exact ⟨pos + 1, by omega, hit2, hbw2, by omega⟩
    · have hnx : ∀ ty, (Instr.next (.pointer (some ⟨w.heap.size, 0, none⟩)) true ty).run Try.prog wr = _ := fun ty => Lib.run_next_end_at wr w.heap.size signs pos ty hit hps
      go_wp2
      go_ret
      exact ⟨rfl, hbw⟩
theorem index_bad (r : Int) (h0 : 128 ≤ r) (h1 : ¬ r = 65533) (h2 : Lib.validRune r = false) (w : World) :
    Calls Try.prog 68 #[.string signs, .int .i32 r] w fun e w' => e = .returned (.int .i64 (-1)) ∧ Below w.heap.size w w' := by
  have hb := valid_rune r w
  rw [h2] at hb
  have h3 : ¬ r < 128 := by omega
  have h4 : 0 ≤ r := by omega
  clear h0
  go_enter Try.func68, Try.ntmps68
  go_wp2_with (go_at_call 71; refine hb.mono ?_; rintro e w' ⟨rfl, rfl⟩)
  go_ret
  exact ⟨rfl, Below.refl _ _⟩
theorem none_index (a e : Nat) (y : Int) (h0 : 128 ≤ y) (h1 : y ≤ 255) (w : World) :
    Calls Try.prog 70 #[.string (signs.extract a e), .int .u8 y] w fun e w' => e = .returned (.int .i64 (-1)) ∧ w' = w := by
  have hb := byte_index (signs.extract a e) y w
  rw [← Lib.firstIdx_eq, firstIdx_ascii signs a e _ signs_low (by simp; omega)] at hb
  exact hb
theorem last_byte {rs : ByteArray} {K : Nat} (hK : rs.size = K + 1) (h : ∀ h : rs.size - 1 < rs.size, 128 ≤ (rs[rs.size - 1]'h).toNat) :
    ∃ y : Int, 128 ≤ y ∧ y ≤ 255 ∧ ∀ W : World, (Instr.index 9 (.string rs) (.int .i64 (K : Int))).run Try.prog W = .ok (.int .u8 y) W := by
  have hlt : rs.size - 1 < rs.size := by omega
  have hy := h hlt
  have e : rs.size - 1 = K := by omega
  simp only [e] at hy
  have := (rs[K]'(by omega)).toNat_lt
  refine ⟨((rs[K]'(by omega)).toNat : Int), by omega, by omega, fun W => ?_⟩
  rw [run_index_string W 9 rs .i64 (K : Int) Try.underlying9, dif_pos ⟨by omega, by omega⟩]
  simp only [Int.toNat_natCast]
theorem sign_at (K : Nat) (hK : K < 3) : ∀ W : World, (Instr.index 9 (.string signs) (.int .i64 (K : Int))).run Try.prog W = .ok (.int .u8 ((signs.data.toList.getD K 0).toNat : Int)) W := fun W => by
  rw [run_index_string W 9 signs .i64 (K : Int) Try.underlying9, dif_pos ⟨by omega, by rw [signs_size]; omega⟩]
  match K, hK with
  | 0, _ => rfl
  | 1, _ => rfl
  | 2, _ => rfl
theorem sign_from (K : Nat) (hK : K ≤ 3) : ∀ W : World, (Instr.slice 9 (.string signs) (some (.int .i64 (K : Int))) none none).run Try.prog W = .ok (.string (signs.extract K signs.size)) W := fun W => by
  rw [run_slice_string_from_if W 9 signs .i64 (K : Int) Try.underlying9, if_pos ⟨by omega, by rw [signs_size]; omega⟩]
  simp only [Int.toNat_natCast]
set_option maxHeartbeats 2000000 in
theorem index_high (r : Int) (h0 : 128 ≤ r) (h1 : ¬ r = 65533) (h2 : Lib.validRune r = true) (w : World) :
    Calls Try.prog 68 #[.string signs, .int .i32 r] w fun e w' => e = .returned (.int .i64 (-1)) ∧ Below w.heap.size w w' := by
  have hb := valid_rune r w
  have hv : Utf8.valid r = true := by
    unfold Lib.validRune at h2
    have := of_decide_eq_true h2
    unfold Utf8.valid
    rcases this with h | h <;> simp <;> omega
  rw [h2] at hb
  clear h2
  obtain ⟨f1, f2, f3⟩ := encode_facts r hv h0
  have hc := run_convert_int_string (P := Try.prog) w 21 9 .i32 r (by rw [Try.underlying21]; rfl) Try.underlying9
  obtain ⟨rs, hrs⟩ : ∃ s, Utf8.encode r = s := ⟨_, rfl⟩
  rw [hrs] at f1 f2 f3 hc
  have h3 : ¬ r < 128 := by omega
  have h4 : 0 ≤ r := by omega
  clear h0 hv hrs
  rcases (show rs.size = 1 + 1 ∨ rs.size = 2 + 1 ∨ rs.size = 3 + 1 by omega) with hK | hK | hK
  · obtain ⟨y, y0, y1, hy⟩ := last_byte hK f3
    have hsg := sign_at 1 (by omega)
    have hwr : IntKind.i64.wrap 2 = 2 := by decide
    have hsl : ∀ W : World, (Instr.slice 9 (.string signs) (some (.int .i64 2)) none none).run Try.prog W = .ok (.string (signs.extract 2 signs.size)) W := sign_from 2 (by omega)
    have hz : (rs.size : Int) = 2 := by omega
    have hn := none_index 2 signs.size y y0 y1
    have hzs : (signs.size : Int) = 3 := rfl
    have hne : ((45 : Int) != y) = true := by simp; omega
    change ∀ W : World, (Instr.index 9 (.string rs) (.int .i64 1)).run Try.prog W = .ok (.int .u8 y) W at hy
    change ∀ W : World, (Instr.index 9 (.string signs) (.int .i64 1)).run Try.prog W = .ok (.int .u8 45) W at hsg
    clear f1 f2 f3 hK y0 y1
    go_enter Try.func68, Try.ntmps68
    go_wp2_with (go_at_call 71; refine hb.mono ?_; rintro e w' ⟨rfl, rfl⟩)
    refine wp_scope_straight ?_
    go_wp2
    go_loop [9] (fun i => i = .int .i64 1) (fun i => 0)
    case atStart => rfl
    case round =>
      go_wp2
      refine wp_scope_straight ?_
      go_wp2
      go_quiet (fail)
      have bq := Below_drawn (Below.refl w'.heap.size w') nq
      generalize w'.drewN nq = w2 at bq ⊢
      go_wp2
      go_quiet (first | (go_at_call 70; exact Calls.quiet_of_same (hn _)) | fail)
      have bq2 := Below_drawn bq nq
      go_wp2
      rw [Exit.noGoto_ret]
      go_wp2
      rw [Exit.noGoto_ret]
      go_wp2
      go_ret
      exact ⟨rfl, bq2⟩
  · obtain ⟨y, y0, y1, hy⟩ := last_byte hK f3
    have hsg := sign_at 2 (by omega)
    have hwr : IntKind.i64.wrap 3 = 3 := by decide
    have hsl : ∀ W : World, (Instr.slice 9 (.string signs) (some (.int .i64 3)) none none).run Try.prog W = .ok (.string (signs.extract 3 signs.size)) W := sign_from 3 (by omega)
    have hz : (rs.size : Int) = 3 := by omega
    have hn := none_index 3 signs.size y y0 y1
    have hzs : (signs.size : Int) = 3 := rfl
    have hne : ((95 : Int) != y) = true := by simp; omega
    change ∀ W : World, (Instr.index 9 (.string rs) (.int .i64 2)).run Try.prog W = .ok (.int .u8 y) W at hy
    change ∀ W : World, (Instr.index 9 (.string signs) (.int .i64 2)).run Try.prog W = .ok (.int .u8 95) W at hsg
    clear f1 f2 f3 hK y0 y1
    go_enter Try.func68, Try.ntmps68
    go_wp2_with (go_at_call 71; refine hb.mono ?_; rintro e w' ⟨rfl, rfl⟩)
    refine wp_scope_straight ?_
    go_wp2
    go_loop [9] (fun i => i = .int .i64 2) (fun i => 0)
    case atStart => rfl
    case round =>
      go_wp2
      refine wp_scope_straight ?_
      go_wp2
      go_quiet (fail)
      have bq := Below_drawn (Below.refl w'.heap.size w') nq
      generalize w'.drewN nq = w2 at bq ⊢
      go_wp2
      go_quiet (first | (go_at_call 70; exact Calls.quiet_of_same (hn _)) | fail)
      have bq2 := Below_drawn bq nq
      go_wp2
      rw [Exit.noGoto_ret]
      go_wp2
      rw [Exit.noGoto_ret]
      go_wp2
      go_ret
      exact ⟨rfl, bq2⟩
  · have hz : (rs.size : Int) = 4 := by omega
    have hzs : (signs.size : Int) = 3 := rfl
    clear f1 f2 f3 hK
    go_enter Try.func68, Try.ntmps68
    go_wp2_with (go_at_call 71; refine hb.mono ?_; rintro e w' ⟨rfl, rfl⟩)
    refine wp_scope_straight ?_
    go_wp2
    go_loop [9] (fun i => i = .int .i64 3) (fun i => 0)
    case atStart => rfl
    case round =>
      go_wp2
      go_ret
      exact ⟨rfl, Below.refl _ _⟩
theorem index_rune (r : Int) (h0 : 0 ≤ r) (w : World) :
    Calls Try.prog 68 #[.string signs, .int .i32 r] w fun e w' => e = .returned (.int .i64 (idxS r)) ∧ Below w.heap.size w w' := by
  by_cases h1 : r < 128
  · exact index_low r h0 h1 w
  · rw [idx_big r (by omega)]
    by_cases h2 : r = 65533
    · subst h2
      exact index_error w
    · cases h3 : Lib.validRune r with
      | true => exact index_high r (by omega) h2 h3 w
      | false => exact index_bad r (by omega) h2 h3 w
theorem contains_rune (r : Int) (h0 : 0 ≤ r) (w : World) :
    Calls Try.prog 65 #[.string signs, .int .i32 r] w fun e w' => e = .returned (.bool (decide (0 ≤ idxS r))) ∧ Below w.heap.size w w' := by
  have hc := index_rune r h0 w
  generalize idxS r = z at hc ⊢
  go_enter Try.func65, Try.ntmps65
  go_wp2_with (go_at_call 68; refine hc.mono ?_; rintro e w' ⟨rfl, b⟩)
  go_ret
  exact ⟨rfl, b⟩
end
section
open Go.RowKit
theorem okc_low {c : Nat} (h : 123 ≤ c) : okc c = false := by
  unfold okc
  simp
  omega
theorem okc_idx (x : Nat) (h1 : ¬ (97 ≤ x ∧ x ≤ 122)) (h2 : ¬ (48 ≤ x ∧ x ≤ 57)) : (!okc x) = !decide (0 ≤ idxS (x : Int)) := by
  congr 1
  unfold okc idxS
  by_cases a : x = 46
  · subst a; decide
  · by_cases b : x = 45
    · subst b; decide
    · by_cases c : x = 95
      · subst c; decide
      · rw [if_neg (by omega), if_neg (by omega), if_neg (by omega)]
        simp [a, b, c]
        omega
theorem strange_any (w : World) : PredGrows Try.prog 64 #[] (fun x => !okc x) w := by
  intro W x hx _
  show Calls Try.prog 64 #[.int .i32 (x : Int)] W fun e w' => e = .returned (.bool (!okc x)) ∧ Below W.heap.size W w'
  by_cases h1 : 97 ≤ x ∧ x ≤ 122
  · have ho : (!okc x) = false := by unfold okc; simp; omega
    have a1 : ¬ (x : Int) < 97 := by omega
    have a2 : ¬ (122 : Int) < (x : Int) := by omega
    rw [ho]
    clear h1 ho hx
    go_enter Try.func64, Try.ntmps64
    go_wp2
    go_ret
    exact ⟨rfl, Below.refl _ _⟩
  · by_cases h2 : 48 ≤ x ∧ x ≤ 57
    · have ho : (!okc x) = false := by unfold okc; simp; omega
      have a1 : (x : Int) < 97 := by omega
      have a2 : ¬ (x : Int) < 48 := by omega
      have a3 : ¬ (57 : Int) < (x : Int) := by omega
      rw [ho]
      clear h1 h2 ho hx
      go_enter Try.func64, Try.ntmps64
      go_wp2
      go_ret
      exact ⟨rfl, Below.refl _ _⟩
    · rw [okc_idx x h1 h2]
      have hc := contains_rune (x : Int) (by omega) W
      generalize decide (0 ≤ idxS (x : Int)) = d at hc ⊢
      by_cases l1 : x < 97
      · have a1 : (x : Int) < 97 := by omega
        by_cases l2 : x < 48
        · have a2 : (x : Int) < 48 := by omega
          clear h1 h2 hx l1 l2
          go_enter Try.func64, Try.ntmps64
          go_wp2_with (go_at_call 65; refine hc.mono ?_; rintro e w' ⟨rfl, b⟩)
          go_ret
          exact ⟨rfl, b⟩
        · have a2 : ¬ (x : Int) < 48 := by omega
          have a3 : (57 : Int) < (x : Int) := by omega
          clear h1 h2 hx l1 l2
          go_enter Try.func64, Try.ntmps64
          go_wp2_with (go_at_call 65; refine hc.mono ?_; rintro e w' ⟨rfl, b⟩)
          go_ret
          exact ⟨rfl, b⟩
      · have a1 : ¬ (x : Int) < 97 := by omega
        have a2 : (122 : Int) < (x : Int) := by omega
        have a3 : ¬ (x : Int) < 48 := by omega
        have a4 : (57 : Int) < (x : Int) := by omega
        clear h1 h2 hx l1
        go_enter Try.func64, Try.ntmps64
        go_wp2_with (go_at_call 65; refine hc.mono ?_; rintro e w' ⟨rfl, b⟩)
        go_ret
        exact ⟨rfl, b⟩
theorem dec_high (n b0 b1 b2 b3 : Nat) (h : 128 ≤ b0) : 128 ≤ (Lib.decodeN n b0 b1 b2 b3).1 := by
  unfold Lib.decodeN
  repeat' split
  all_goals (simp only; omega)
theorem idx_any (l : List UInt8) : ∀ (f pos : Nat), l.length ≤ pos + f → decide (0 ≤ Lib.idxFuncFrom (fun x => !okc x) true ⟨l.toArray⟩ f pos) = (l.drop pos).any fun b => !okc b.toNat
  | 0, pos, h => by
    rw [List.drop_of_length_le (by omega)]
    rfl
  | f + 1, pos, h => by
    by_cases hp : pos < l.length
    · have hs : pos < (⟨l.toArray⟩ : ByteArray).size := hp
      rw [List.drop_eq_getElem_cons hp, List.any_cons]
      unfold Lib.idxFuncFrom
      rw [if_pos hs]
      have hgb : (⟨l.toArray⟩ : ByteArray)[pos]'hs = l[pos] := rfl
      by_cases hb : (l[pos]).toNat < 128
      · have hd := decode_ascii ⟨l.toArray⟩ pos hs (by rw [hgb]; exact hb)
        rw [hgb] at hd
        rw [hd]
        cases ho : okc (l[pos]).toNat with
        | false => simp
        | true =>
          simp only [Bool.not_true, Bool.false_eq_true, if_false, Bool.false_or]
          exact idx_any l f (pos + 1) (by omega)
      · have hd : 128 ≤ (Utf8.decode ⟨l.toArray⟩ pos).1 := by
          rw [Lib.decode_at]
          refine dec_high _ _ _ _ _ ?_
          have : (⟨l.toArray⟩ : ByteArray).get! pos = l[pos] := by
            show l.toArray[pos]! = l[pos]
            rw [getElem!_pos l.toArray pos (by simpa using hp)]
            rfl
          rw [this]
          omega
        rw [okc_low (by omega), okc_low (c := (l[pos]).toNat) (by omega)]
        simp
    · rw [List.drop_of_length_le (by omega), Lib.idxFuncFrom_end _ _ _ _ _ (by show ¬ pos < l.length; omega)]
      rfl
theorem any_not (l : List UInt8) : (!(l.any fun b => !okc b.toNat)) = l.all fun b => okc b.toNat := by
  induction l with
  | nil => rfl
  | cons a l ih => simp only [List.any_cons, List.all_cons, ← ih]; cases okc a.toNat <;> simp
theorem contains_func (l : List UInt8) (w : World) :
    Calls Try.prog 66 #[strV l, .func (.func 64) #[] #[]] w fun e w' => e = .returned (.bool (l.any fun b => !okc b.toNat)) ∧ Below w.heap.size w w' := by
  have hc := Any.strings_ContainsFunc_grows Try.laysContainsFunc 64 #[] (enters_of Try.func64 (by kernel_rfl) rfl) (fun x => !okc x) ⟨l.toArray⟩ w (strange_any w)
  have hi := idx_any l l.length 0 (by omega)
  rw [List.drop_zero] at hi
  unfold Lib.idxFunc at hc
  have e : (⟨l.toArray⟩ : ByteArray).size = l.length := rfl
  rw [e, hi] at hc
  exact hc
theorem name_any (l : List UInt8) (w : World) :
    Calls Try.prog 58 #[strV l] w fun e w' => e = .returned (.bool (nameS l)) ∧ Below w.heap.size w w' := by
  have hs : ((⟨l.toArray⟩ : ByteArray).size : Int) = (l.length : Int) := rfl
  have hc := contains_func l
  unfold strV at hc ⊢
  by_cases h0 : 0 < l.length
  · by_cases h1 : l.length ≤ 16
    · have e : nameS l = !(l.any fun b => !okc b.toNat) := by
        rw [any_not]
        unfold nameS
        rw [decide_eq_true (by omega), decide_eq_true (by omega)]
        simp
      rw [e]
      generalize (l.any fun b => !okc b.toNat) = d at hc ⊢
      generalize (⟨l.toArray⟩ : ByteArray) = s at hc hs ⊢
      have z0 : (0 : Int) < (s.size : Int) := by omega
      have z1 : (s.size : Int) ≤ 16 := by omega
      clear h0 h1 e hs
      go_enter Try.func58, Try.ntmps58
      go_wp2_with (go_at_call 66; refine (hc _).mono ?_; rintro e w' ⟨rfl, b⟩)
      go_ret
      exact ⟨rfl, b⟩
    · have e : nameS l = false := by
        unfold nameS
        rw [decide_eq_false (p := l.length ≤ 16) h1]
        simp
      rw [e]
      generalize (⟨l.toArray⟩ : ByteArray) = s at hs ⊢
      have z0 : (0 : Int) < (s.size : Int) := by omega
      have z1 : ¬ (s.size : Int) ≤ 16 := by omega
      clear h0 h1 e hs hc
      go_enter Try.func58, Try.ntmps58
      go_wp2
      go_ret
      exact ⟨rfl, Below.refl _ _⟩
  · have e : nameS l = false := by
      unfold nameS
      rw [decide_eq_false (p := 1 ≤ l.length) (by omega)]
      simp
    rw [e]
    generalize (⟨l.toArray⟩ : ByteArray) = s at hs ⊢
    have z0 : ¬ (0 : Int) < (s.size : Int) := by omega
    clear h0 e hs hc
    go_enter Try.func58, Try.ntmps58
    go_wp2
    go_ret
    exact ⟨rfl, Below.refl _ _⟩
end
end Go.Proofs.Ytcbkokhjdleoeaa
