/-
  strings.ContainsRune at the three signs that a name may have beside letters and digits; what strings.ContainsFunc tells of a text (layer 12), over the loaded program.
  No condition but that a rune is one (0 to 1114111).
-/
import Derived.Test.YtbhebjkicooidaaDoorLayS
import Derived.Test.YtbhebjkicooidaaDoorNamM
import Derived.Test.YtbhebjkicooidaaDoorBase
import Derived.Laws.Runes
import Derived.Laws.RangeString
import Derived.Laws.Strings3
import Derived.Lib.OthersKept
import Derived.WalkMore
namespace Go.Proofs.YtbhebjkicooidaaDoor
open Go.RowKit
set_option maxRecDepth 100000
set_option linter.unusedVariables false

/-- The three signs. -/
def signs : ByteArray := { data := #[46, 45, 95] }
theorem signs_size : signs.size = 3 := rfl

/-- Where a rune stands among the three signs. -/
def idxS (r : Int) : Int := if r = 46 then 0 else if r = 45 then 1 else if r = 95 then 2 else -1
theorem idx_fin : ∀ r : Fin 128, Lib.indexByte signs.data.toList ((r.val : Int)).toNat.toUInt8 = idxS (r.val : Int) := by decide +kernel
theorem idx_small (r : Int) (h0 : 0 ≤ r) (h1 : r < 128) : Lib.indexByte signs.data.toList r.toNat.toUInt8 = idxS r := by
  have := idx_fin ⟨r.toNat, by omega⟩
  simp only [Int.toNat_natCast] at this
  have e : ((r.toNat : Nat) : Int) = r := by omega
  rw [e] at this
  exact this
theorem idx_big (r : Int) (h1 : 128 ≤ r) : idxS r = -1 := by
  unfold idxS
  rw [if_neg (by omega), if_neg (by omega), if_neg (by omega)]
theorem signs_low : ∀ b ∈ signs.data.toList, b.toNat < 128 := by decide
theorem signs_dec : ∀ p : Fin 3, Utf8.decode signs p.val = ((signs.data.toList.getD p.val 0).toNat, 1) := by decide +kernel
theorem signs_not : ∀ p : Fin 3, ¬ (((signs.data.toList.getD p.val 0).toNat : Nat) : Int) = 65533 := by decide

theorem byte_index (s : ByteArray) (c : Int) (w : World) :
    Calls Tryd.prog 70 #[.string s, .int .u8 c] w fun e w' => e = .returned (.int .i64 (Lib.indexByte s.data.toList c.toNat.toUInt8)) ∧ w' = w :=
  Any.strings_IndexByte Tryd.laysIndexByte s c w
theorem valid_rune (r : Int) (w : World) :
    Calls Tryd.prog 71 #[.int .i32 r] w fun e w' => e = .returned (.bool (Lib.validRune r)) ∧ w' = w :=
  Any.utf8_ValidRune Tryd.laysValidRune r w

theorem index_low (r : Int) (h0 : 0 ≤ r) (h1 : r < 128) (w : World) :
    Calls Tryd.prog 60 #[.string signs, .int .i32 r] w fun e w' => e = .returned (.int .i64 (idxS r)) ∧ Below w.heap.size w w' := by
  have hb := byte_index signs r w
  rw [idx_small r h0 h1] at hb
  have hw : IntKind.u8.wrap r = r := by rw [IntKind.wrap_u8]; omega
  go_enter Tryd.func60, Tryd.ntmps60
  go_wp2_with (go_at_call 70; refine hb.mono ?_; rintro e w' ⟨rfl, rfl⟩)
  go_ret
  exact ⟨rfl, Below.refl _ _⟩

set_option maxHeartbeats 1000000 in
theorem index_error (w : World) :
    Calls Tryd.prog 60 #[.string signs, .int .i32 65533] w fun e w' => e = .returned (.int .i64 (-1)) ∧ Below w.heap.size w w' := by
  go_enter Tryd.func60, Tryd.ntmps60
  go_wp2
  go_loopg [] 4 (fun gf wx => ∃ pos : Nat, pos ≤ 3 ∧ wx.heap[w.heap.size]? = some (.stringIter signs pos) ∧ Below w.heap.size w wx ∧ gf + pos = 4)
  case atStart => exact ⟨0, by omega, World.iter_heap w signs 0, (Below.refl _ w).alloc (Nat.le_refl _) _, rfl⟩
  case round =>
    obtain ⟨pos, hp3, hit, hbw, hfu⟩ := hrel
    by_cases hps : pos < 3
    · have hnx : ∀ ty, (Instr.next (.pointer (some ⟨w.heap.size, 0, none⟩)) true ty).run Tryd.prog wr = _ := fun ty => Lib.run_next_any_at wr w.heap.size signs pos ty hit hps
      have hd := signs_dec ⟨pos, hps⟩
      have hnot := signs_not ⟨pos, hps⟩
      simp only at hd hnot
      rw [hd] at hnx
      obtain ⟨R, hR⟩ : ∃ R : Int, (((signs.data.toList.getD pos 0).toNat : Nat) : Int) = R := ⟨_, rfl⟩
      simp only [hR] at hnx hnot
      have hit2 := Lib.iterAt_heap wr w.heap.size signs pos (pos + 1) hit
      have hbw2 := Lib.below_iterAt hbw (k := w.heap.size) (Nat.le_refl _) signs (pos + 1)
      obtain ⟨W, hWd⟩ : ∃ W, wr.iterAt w.heap.size signs (pos + 1) = W := ⟨_, rfl⟩
      rw [hWd] at hnx hit2 hbw2
      clear hd hR hWd
      go_wp2
      go_roundg (gk - 1)
      case measure => omega
      case rel => exact ⟨pos + 1, by omega, hit2, hbw2, by omega⟩
    · have hnx : ∀ ty, (Instr.next (.pointer (some ⟨w.heap.size, 0, none⟩)) true ty).run Tryd.prog wr = _ := fun ty => Lib.run_next_end_at wr w.heap.size signs pos ty hit hps
      go_wp2
      go_ret
      exact ⟨rfl, hbw⟩

theorem index_bad (r : Int) (h0 : 128 ≤ r) (h1 : ¬ r = 65533) (h2 : Lib.validRune r = false) (w : World) :
    Calls Tryd.prog 60 #[.string signs, .int .i32 r] w fun e w' => e = .returned (.int .i64 (-1)) ∧ Below w.heap.size w w' := by
  have hb := valid_rune r w
  rw [h2] at hb
  have h3 : ¬ r < 128 := by omega
  have h4 : 0 ≤ r := by omega
  clear h0
  go_enter Tryd.func60, Tryd.ntmps60
  go_wp2_with (go_at_call 71; refine hb.mono ?_; rintro e w' ⟨rfl, rfl⟩)
  go_ret
  exact ⟨rfl, Below.refl _ _⟩

theorem none_index (a e : Nat) (y : Int) (h0 : 128 ≤ y) (h1 : y ≤ 255) (w : World) :
    Calls Tryd.prog 70 #[.string (signs.extract a e), .int .u8 y] w fun e w' => e = .returned (.int .i64 (-1)) ∧ w' = w := by
  have hb := byte_index (signs.extract a e) y w
  rw [← Lib.firstIdx_eq, firstIdx_ascii signs a e _ signs_low (by simp; omega)] at hb
  exact hb

theorem last_byte {rs : ByteArray} {K : Nat} (hK : rs.size = K + 1) (h : ∀ h : rs.size - 1 < rs.size, 128 ≤ (rs[rs.size - 1]'h).toNat) :
    ∃ y : Int, 128 ≤ y ∧ y ≤ 255 ∧ ∀ W : World, (Instr.index 9 (.string rs) (.int .i64 (K : Int))).run Tryd.prog W = .ok (.int .u8 y) W := by
  have hlt : rs.size - 1 < rs.size := by omega
  have hy := h hlt
  have e : rs.size - 1 = K := by omega
  simp only [e] at hy
  have := (rs[K]'(by omega)).toNat_lt
  refine ⟨((rs[K]'(by omega)).toNat : Int), by omega, by omega, fun W => ?_⟩
  rw [run_index_string W 9 rs .i64 (K : Int) Tryd.underlying9, dif_pos ⟨by omega, by omega⟩]
  simp only [Int.toNat_natCast]

theorem sign_at (K : Nat) (hK : K < 3) : ∀ W : World, (Instr.index 9 (.string signs) (.int .i64 (K : Int))).run Tryd.prog W = .ok (.int .u8 ((signs.data.toList.getD K 0).toNat : Int)) W := fun W => by
  rw [run_index_string W 9 signs .i64 (K : Int) Tryd.underlying9, dif_pos ⟨by omega, by rw [signs_size]; omega⟩]
  match K, hK with
  | 0, _ => rfl
  | 1, _ => rfl
  | 2, _ => rfl

theorem sign_from (K : Nat) (hK : K ≤ 3) : ∀ W : World, (Instr.slice 9 (.string signs) (some (.int .i64 (K : Int))) none none).run Tryd.prog W = .ok (.string (signs.extract K signs.size)) W := fun W => by
  rw [run_slice_string_from_if W 9 signs .i64 (K : Int) Tryd.underlying9, if_pos ⟨by omega, by rw [signs_size]; omega⟩]
  simp only [Int.toNat_natCast]

set_option maxHeartbeats 2000000 in
theorem index_high (r : Int) (h0 : 128 ≤ r) (h1 : ¬ r = 65533) (h2 : Lib.validRune r = true) (w : World) :
    Calls Tryd.prog 60 #[.string signs, .int .i32 r] w fun e w' => e = .returned (.int .i64 (-1)) ∧ Below w.heap.size w w' := by
  have hb := valid_rune r w
  have hv : Utf8.valid r = true := by
    unfold Lib.validRune at h2
    have := of_decide_eq_true h2
    unfold Utf8.valid
    rcases this with h | h <;> simp <;> omega
  rw [h2] at hb
  clear h2
  obtain ⟨f1, f2, f3⟩ := encode_facts r hv h0
  have hc := run_convert_int_string (P := Tryd.prog) w 21 9 .i32 r (by rw [Tryd.underlying21]; rfl) Tryd.underlying9
  obtain ⟨rs, hrs⟩ : ∃ s, Utf8.encode r = s := ⟨_, rfl⟩
  rw [hrs] at f1 f2 f3 hc
  have h3 : ¬ r < 128 := by omega
  have h4 : 0 ≤ r := by omega
  clear h0 hv hrs
  rcases (show rs.size = 1 + 1 ∨ rs.size = 2 + 1 ∨ rs.size = 3 + 1 by omega) with hK | hK | hK
  · obtain ⟨y, y0, y1, hy⟩ := last_byte hK f3
    have hsg := sign_at 1 (by omega)
    have hwr : IntKind.i64.wrap 2 = 2 := by decide
    have hsl : ∀ W : World, (Instr.slice 9 (.string signs) (some (.int .i64 2)) none none).run Tryd.prog W = .ok (.string (signs.extract 2 signs.size)) W := sign_from 2 (by omega)
    have hz : (rs.size : Int) = 2 := by omega
    have hn := none_index 2 signs.size y y0 y1
    have hzs : (signs.size : Int) = 3 := rfl
    have hne : ((45 : Int) != y) = true := by simp; omega
    change ∀ W : World, (Instr.index 9 (.string rs) (.int .i64 1)).run Tryd.prog W = .ok (.int .u8 y) W at hy
    change ∀ W : World, (Instr.index 9 (.string signs) (.int .i64 1)).run Tryd.prog W = .ok (.int .u8 45) W at hsg
    clear f1 f2 f3 hK y0 y1
    go_enter Tryd.func60, Tryd.ntmps60
    go_wp2_with (go_at_call 71; refine hb.mono ?_; rintro e w' ⟨rfl, rfl⟩)
    refine wp_scope_straight ?_
    go_wp2
    go_loop [9] (fun i => i = .int .i64 1) (fun i => 0)
    case atStart => rfl
    case round =>
      go_wp2
      refine wp_scope_straight ?_
      go_wp2
      go_quiet (fail)
      have bq := Below_drawn (Below.refl w'.heap.size w') nq
      generalize w'.drewN nq = w2 at bq ⊢
      go_wp2
      go_quiet (first | (go_at_call 70; exact Calls.quiet_of_same (hn _)) | fail)
      have bq2 := Below_drawn bq nq
      go_wp2
      rw [Exit.noGoto_ret]
      go_wp2
      rw [Exit.noGoto_ret]
      go_wp2
      go_ret
      exact ⟨rfl, bq2⟩
  · obtain ⟨y, y0, y1, hy⟩ := last_byte hK f3
    have hsg := sign_at 2 (by omega)
    have hwr : IntKind.i64.wrap 3 = 3 := by decide
    have hsl : ∀ W : World, (Instr.slice 9 (.string signs) (some (.int .i64 3)) none none).run Tryd.prog W = .ok (.string (signs.extract 3 signs.size)) W := sign_from 3 (by omega)
    have hz : (rs.size : Int) = 3 := by omega
    have hn := none_index 3 signs.size y y0 y1
    have hzs : (signs.size : Int) = 3 := rfl
    have hne : ((95 : Int) != y) = true := by simp; omega
    change ∀ W : World, (Instr.index 9 (.string rs) (.int .i64 2)).run Tryd.prog W = .ok (.int .u8 y) W at hy
    change ∀ W : World, (Instr.index 9 (.string signs) (.int .i64 2)).run Tryd.prog W = .ok (.int .u8 95) W at hsg
    clear f1 f2 f3 hK y0 y1
    go_enter Tryd.func60, Tryd.ntmps60
    go_wp2_with (go_at_call 71; refine hb.mono ?_; rintro e w' ⟨rfl, rfl⟩)
    refine wp_scope_straight ?_
    go_wp2
    go_loop [9] (fun i => i = .int .i64 2) (fun i => 0)
    case atStart => rfl
    case round =>
      go_wp2
      refine wp_scope_straight ?_
      go_wp2
      go_quiet (fail)
      have bq := Below_drawn (Below.refl w'.heap.size w') nq
      generalize w'.drewN nq = w2 at bq ⊢
      go_wp2
      go_quiet (first | (go_at_call 70; exact Calls.quiet_of_same (hn _)) | fail)
      have bq2 := Below_drawn bq nq
      go_wp2
      rw [Exit.noGoto_ret]
      go_wp2
      rw [Exit.noGoto_ret]
      go_wp2
      go_ret
      exact ⟨rfl, bq2⟩
  · have hz : (rs.size : Int) = 4 := by omega
    have hzs : (signs.size : Int) = 3 := rfl
    clear f1 f2 f3 hK
    go_enter Tryd.func60, Tryd.ntmps60
    go_wp2_with (go_at_call 71; refine hb.mono ?_; rintro e w' ⟨rfl, rfl⟩)
    refine wp_scope_straight ?_
    go_wp2
    go_loop [9] (fun i => i = .int .i64 3) (fun i => 0)
    case atStart => rfl
    case round =>
      go_wp2
      go_ret
      exact ⟨rfl, Below.refl _ _⟩

/-- strings.IndexRune at the three signs. -/
theorem index_rune (r : Int) (h0 : 0 ≤ r) (w : World) :
    Calls Tryd.prog 60 #[.string signs, .int .i32 r] w fun e w' => e = .returned (.int .i64 (idxS r)) ∧ Below w.heap.size w w' := by
  by_cases h1 : r < 128
  · exact index_low r h0 h1 w
  · rw [idx_big r (by omega)]
    by_cases h2 : r = 65533
    · subst h2
      exact index_error w
    · cases h3 : Lib.validRune r with
      | true => exact index_high r (by omega) h2 h3 w
      | false => exact index_bad r (by omega) h2 h3 w

/-- strings.ContainsRune at the three signs. -/
theorem contains_rune (r : Int) (h0 : 0 ≤ r) (w : World) :
    Calls Tryd.prog 45 #[.string signs, .int .i32 r] w fun e w' => e = .returned (.bool (decide (0 ≤ idxS r))) ∧ Below w.heap.size w w' := by
  have hc := index_rune r h0 w
  generalize idxS r = z at hc ⊢
  go_enter Tryd.func45, Tryd.ntmps45
  go_wp2_with (go_at_call 60; refine hc.mono ?_; rintro e w' ⟨rfl, b⟩)
  go_ret
  exact ⟨rfl, b⟩
end Go.Proofs.YtbhebjkicooidaaDoor
