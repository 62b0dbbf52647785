/-
  LxA: The small functions that lex stands on (layer 16): row, ahead, sign; strings.TrimLeft, Cut, Contains, Trim, Clone where lex asks them, over the loaded program: each one's contract. No condition but sizes.
-/
import Derived.Test.YthindhlogkhclaaGreatDoorLayS
import Derived.Test.YthindhlogkhclaaGreatDoorPz02
import Derived.Test.YthindhlogkhclaaGreatDoorPz08
import Derived.Test.YthindhlogkhclaaGreatDoorPz07
import Derived.Shelf.Strings.SlTrimAscii
import Derived.Shelf.Strconv.Clone
import Derived.Lib.Hide
import Derived.BigQuiet
set_option linter.unusedVariables false
set_option maxRecDepth 100000
namespace Go.Proofs.YthindhlogkhclaaGreatDoor
section
open Go.RowKit
def SetOf (p : Nat → Bool) (cs : List UInt8) : Prop := ∀ b : UInt8, cs.contains b = p b.toNat
theorem trim_take {p : Nat → Bool} {cs : List UInt8} (h : SetOf p cs) (l : List UInt8) : Lib.trimLeftS l cs = l.drop (takeN p l) := by
  unfold Lib.trimLeftS
  induction l with
  | nil => rfl
  | cons b l ih =>
    rw [List.dropWhile_cons, takeN, h b]
    by_cases hp : p b.toNat = true
    · rw [if_pos hp, if_pos hp, ih, List.drop_succ_cons]
    · rw [if_neg hp, if_neg hp, List.drop_zero]
theorem set_fin {p : Nat → Bool} {cs : List UInt8} (h : ∀ n : Fin 256, cs.contains (UInt8.ofNat n.val) = p n.val) : SetOf p cs := fun b => by
  have := h ⟨b.toNat, b.toNat_lt⟩
  simpa using this
theorem set_blank : SetOf blankC [32, 10, 9] := set_fin (by decide +kernel)
theorem set_word : SetOf wordC [97, 98, 99, 100, 101, 102, 103, 104, 105, 106, 107, 108, 109, 110, 111, 112, 113, 114, 115, 116, 117, 118, 119, 120, 121, 122, 48, 49, 50, 51, 52, 53, 54, 55, 56, 57, 45, 95] := set_fin (by decide +kernel)
theorem set_dig : SetOf digC [48, 49, 50, 51, 52, 53, 54, 55, 56, 57] := set_fin (by decide +kernel)
theorem set_low : SetOf lowC [97, 98, 99, 100, 101, 102, 103, 104, 105, 106, 107, 108, 109, 110, 111, 112, 113, 114, 115, 116, 117, 118, 119, 120, 121, 122] := set_fin (by decide +kernel)
theorem ascii_blank : ∀ (j : Nat) b, ([32, 10, 9] : List UInt8)[j]? = some b → b.toNat < 128 := ascii_of_all (by decide)
theorem ascii_word : ∀ (j : Nat) b, ([97, 98, 99, 100, 101, 102, 103, 104, 105, 106, 107, 108, 109, 110, 111, 112, 113, 114, 115, 116, 117, 118, 119, 120, 121, 122, 48, 49, 50, 51, 52, 53, 54, 55, 56, 57, 45, 95] : List UInt8)[j]? = some b → b.toNat < 128 := ascii_of_all (by decide)
theorem ascii_dig : ∀ (j : Nat) b, ([48, 49, 50, 51, 52, 53, 54, 55, 56, 57] : List UInt8)[j]? = some b → b.toNat < 128 := ascii_of_all (by decide)
theorem trimleft_any (p : Nat → Bool) (cs : List UInt8) (hp : SetOf p cs) (ha : ∀ (j : Nat) b, cs[j]? = some b → b.toNat < 128) (hc : cs.length < 4294967281) (l : List UInt8) (w : World) :
    Calls Tryz.prog 46 #[strV l, strV cs] w fun e w' => e = .returned (strV (l.drop (takeN p l))) ∧ Below w.heap.size w w' := by
  have h := Any.strings_TrimLeft_laid Tryz.laysTrimLeft (by kernel_rfl) ⟨l.toArray⟩ ⟨cs.toArray⟩ w hc ha
  rw [← trim_take hp l]
  exact h
theorem row_any (p : Nat → Bool) (cs : List UInt8) (hp : SetOf p cs) (ha : ∀ (j : Nat) b, cs[j]? = some b → b.toNat < 128) (hc : cs.length < 4294967281) (l : List UInt8) (hl : l.length ≤ maxLen) (w : World) :
    Calls Tryz.prog 22 #[strV l, strV cs] w fun e w' => e = .returned (.int .i64 (takeN p l : Int)) ∧ Below w.heap.size w w' := by
  have ht := trimleft_any p cs hp ha hc l
  have hle := takeN_le p l
  unfold strV at *
  have e2 : ((⟨(l.drop (takeN p l)).toArray⟩ : ByteArray).size : Int) = (l.length : Int) - (takeN p l : Int) := by
    rw [str_size, List.length_drop]
    omega
  have e1 : ((⟨l.toArray⟩ : ByteArray).size : Int) = (l.length : Int) := rfl
  generalize (⟨(l.drop (takeN p l)).toArray⟩ : ByteArray) = u at *
  generalize (⟨l.toArray⟩ : ByteArray) = s at *
  generalize (⟨cs.toArray⟩ : ByteArray) = c at *
  have hwr : IntKind.i64.wrap ((s.size : Int) - (u.size : Int)) = (takeN p l : Int) := by rw [IntKind.wrap_i64]; unfold maxLen at hl; omega
  generalize takeN p l = k at *
  clear e1 e2 hle hp ha hc
  go_enter Tryz.func22, Tryz.ntmps22
  go_wp2_with (go_at_call 46; refine (ht _).mono ?_; rintro e w' ⟨rfl, b⟩)
  go_ret
  exact ⟨by first | rfl | rw [hwr], b⟩
def signW (c : Nat) : Nat := if c = 40 then 4 else if c = 41 then 5 else if c = 59 then 6 else 0
theorem sign_any (c : Nat) (w : World) : Calls Tryz.prog 24 #[.int .u8 (c : Int)] w fun e w' => e = .returned (.int .i64 (signW c : Int)) ∧ w = w' := by
  by_cases h1 : c = 40
  · subst h1
    go_enter Tryz.func24, Tryz.ntmps24
    go_wp2
    go_ret
    exact ⟨rfl, rfl⟩
  have e1 : ((c : Int) == 40) = false := by simp; omega
  by_cases h2 : c = 41
  · subst h2
    go_enter Tryz.func24, Tryz.ntmps24
    go_wp2
    go_ret
    exact ⟨rfl, rfl⟩
  have e2 : ((c : Int) == 41) = false := by simp; omega
  by_cases h3 : c = 59
  · subst h3
    go_enter Tryz.func24, Tryz.ntmps24
    go_wp2
    go_ret
    exact ⟨rfl, rfl⟩
  have e3 : ((c : Int) == 59) = false := by simp; omega
  have e : signW c = 0 := by unfold signW; rw [if_neg h1, if_neg h2, if_neg h3]
  rw [e]
  clear h1 h2 h3 e
  go_enter Tryz.func24, Tryz.ntmps24
  go_wp2
  go_ret
  exact ⟨rfl, rfl⟩
theorem indexin_any (l : List UInt8) (c : UInt8) (w : World) :
    Calls Tryz.prog 95 #[strV l, .int .u8 (c.toNat : Int)] w fun e w' => e = .returned (.int .i64 (Lib.indexByte l c)) ∧ w' = w := by
  have h := Any.stringslite_IndexByte Tryz.laysIndexByteIn ⟨l.toArray⟩ (c.toNat : Int) w
  have e : (c.toNat : Int).toNat.toUInt8 = c := by simp
  rw [e] at h
  exact h
theorem one_str (c : UInt8) : (⟨[c].toArray⟩ : ByteArray).size = 1 := rfl
theorem index_in (l : List UInt8) (c : UInt8) (w : World) :
    Calls Tryz.prog 79 #[strV l, strV [c]] w fun e w' => e = .returned (.int .i64 (Lib.indexByte l c)) ∧ w' = w := by
  have hi := indexin_any l c
  have hx := txt_at [c] 0 c rfl
  have hz : ((⟨[c].toArray⟩ : ByteArray).size : Int) = 1 := rfl
  by_cases hlc : l = [c]
  · subst hlc
    have hk : Lib.indexByte [c] c = 0 := by simp [Lib.indexByte]
    have heq : ((⟨[c].toArray⟩ : ByteArray).toList == (⟨[c].toArray⟩ : ByteArray).toList) = true := by simp
    rw [hk]
    unfold strV at *
    generalize (⟨[c].toArray⟩ : ByteArray) = t at *
    clear hi hx hk
    go_enter Tryz.func79, Tryz.ntmps79
    go_wp2
    go_ret
    exact ⟨rfl, rfl⟩
  · have heq := str_eq [c] l
    rw [decide_eq_false (fun h => hlc h.symm)] at heq
    have h0 : ∀ h : 0 < (⟨[c].toArray⟩ : ByteArray).size, (⟨[c].toArray⟩ : ByteArray)[0]'h = c := fun _ => rfl
    unfold strV at *
    generalize (⟨l.toArray⟩ : ByteArray) = s at *
    generalize (⟨[c].toArray⟩ : ByteArray) = t at *
    generalize Lib.indexByte l c = k at *
    clear hx
    have H0 := Lib.hid h0
    clear h0
    go_enter Tryz.func79, Tryz.ntmps79
    go_wp2_with (go_at_call 95; simp only [H0.out]; refine (hi _).mono ?_; rintro e w' ⟨rfl, rfl⟩)
    go_ret
    exact ⟨rfl, rfl⟩
theorem index_out (l : List UInt8) (c : UInt8) (w : World) :
    Calls Tryz.prog 47 #[strV l, strV [c]] w fun e w' => e = .returned (.int .i64 (Lib.indexByte l c)) ∧ w' = w := by
  have hi := index_in l c
  unfold strV at *
  generalize (⟨l.toArray⟩ : ByteArray) = s at *
  generalize (⟨[c].toArray⟩ : ByteArray) = t at *
  generalize Lib.indexByte l c = k at *
  go_enter Tryz.func47, Tryz.ntmps47
  go_wp2_with (go_at_call 79; refine (hi _).mono ?_; rintro e w' ⟨rfl, rfl⟩)
  go_ret
  exact ⟨rfl, rfl⟩
theorem index_in_set (cs : List UInt8) (c : UInt8) : decide (0 ≤ Lib.indexByte cs c) = cs.contains c := by
  induction cs with
  | nil => rfl
  | cons b l ih =>
    rw [Lib.indexByte]
    by_cases h : (b == c) = true
    · have e : b = c := by simpa using h
      rw [if_pos h, e]
      simp
    · have e : ¬ c = b := fun e => h (by simp [e])
      rw [if_neg h, List.contains_cons, show (c == b) = false by simpa using e, Bool.false_or, ← ih]
      by_cases h2 : Lib.indexByte l c = -1
      · rw [h2]; decide
      · rw [if_neg (by simpa using h2)]
        have : ∀ m : List UInt8, -1 ≤ Lib.indexByte m c := by
          intro m
          induction m with
          | nil => simp [Lib.indexByte]
          | cons x m ihm =>
            rw [Lib.indexByte]
            split
            · decide
            · split
              · decide
              · omega
        have := this l
        exact decide_eq_decide.2 (by omega)
theorem contains_one (p : Nat → Bool) (cs : List UInt8) (hp : SetOf p cs) (c : UInt8) (w : World) :
    Calls Tryz.prog 23 #[strV cs, strV [c]] w fun e w' => e = .returned (.bool (p c.toNat)) ∧ w' = w := by
  have hi := index_out cs c
  have hk : decide (0 ≤ Lib.indexByte cs c) = p c.toNat := by rw [index_in_set, hp c]
  rw [← hk]
  unfold strV at *
  generalize (⟨cs.toArray⟩ : ByteArray) = s at *
  generalize (⟨[c].toArray⟩ : ByteArray) = t at *
  generalize Lib.indexByte cs c = k at *
  clear hk
  go_enter Tryz.func23, Tryz.ntmps23
  go_wp2_with (go_at_call 47; refine (hi _).mono ?_; rintro e w' ⟨rfl, rfl⟩)
  go_ret
  exact ⟨rfl, rfl⟩
def noC (c : UInt8) (b : Nat) : Bool := decide (b ≠ c.toNat)
theorem index_take (c : UInt8) : ∀ l : List UInt8, Lib.indexByte l c = if takeN (noC c) l < l.length then (takeN (noC c) l : Int) else -1
  | [] => rfl
  | b :: l => by
    rw [Lib.indexByte, takeN, index_take c l]
    by_cases h : b = c
    · subst h
      have hn : noC b b.toNat = false := decide_eq_false (by simp)
      rw [hn]
      simp
    · have hn : noC c b.toNat = true := decide_eq_true fun e => h (UInt8.toNat_inj.1 e)
      rw [if_neg (by simpa using h), if_pos hn, List.length_cons]
      by_cases h2 : takeN (noC c) l < l.length
      · rw [if_pos h2, if_neg (by simp <;> omega), if_pos (by omega)]
        try rfl
      · rw [if_neg h2, if_pos (by simp)]
        try rw [if_neg (by omega)]
theorem cut_in (l : List UInt8) (hl : l.length ≤ maxLen) (c : UInt8) (w : World) :
    Calls Tryz.prog 80 #[strV l, strV [c]] w fun e w' => (∃ u b, e = .returned (.tuple #[strV (l.take (takeN (noC c) l)), u, .bool b])) ∧ Below w.heap.size w w' := by
  have hi := index_in l c
  rw [index_take] at hi
  have hml : l.length ≤ 9223372036854775807 := by unfold maxLen at hl; omega
  have hle := takeN_le (noC c) l
  have h1 : ((⟨[c].toArray⟩ : ByteArray).size : Int) = 1 := rfl
  by_cases h : takeN (noC c) l < l.length
  · rw [if_pos h] at hi
    have ht := txt_to l (takeN (noC c) l) hle
    have hf : ∀ W : World, (Instr.slice 9 (.string ⟨l.toArray⟩) (some (.int .i64 ((takeN (noC c) l : Int) + 1))) none none).run Tryz.prog W = .ok (.string ⟨(l.drop (takeN (noC c) l + 1)).toArray⟩) W := fun W => by
      rw [run_slice_string_from_if W 9 ⟨l.toArray⟩ .i64 ((takeN (noC c) l : Int) + 1) Tryz.underlying9, if_pos ⟨by omega, by rw [str_size]; omega⟩, show ((takeN (noC c) l : Int) + 1).toNat = takeN (noC c) l + 1 by omega, ByteArray.extract_mk]
      have : ((l.drop (takeN (noC c) l + 1)).take (l.length - (takeN (noC c) l + 1))) = l.drop (takeN (noC c) l + 1) := List.take_of_length_le (by simp)
      simp [str_size, this]
    have hwr : IntKind.i64.wrap ((takeN (noC c) l : Int) + 1) = (takeN (noC c) l : Int) + 1 := by rw [IntKind.wrap_i64]; omega
    unfold strV at *
    generalize (⟨(l.drop (takeN (noC c) l + 1)).toArray⟩ : ByteArray) = v at *
    generalize (⟨(l.take (takeN (noC c) l)).toArray⟩ : ByteArray) = u at *
    generalize (⟨l.toArray⟩ : ByteArray) = s at *
    generalize (⟨[c].toArray⟩ : ByteArray) = t at *
    have hk0 : (0 : Int) ≤ (takeN (noC c) l : Int) := by omega
    generalize (takeN (noC c) l : Int) = k at *
    clear hle h
    have mixed : Tryz.prog.follows .mixedOrders = true := by kernel_rfl
    go_enter Tryz.func80, Tryz.ntmps80
    go_wp2_with (go_at_call 79; refine (hi _).mono ?_; rintro e w' ⟨rfl, rfl⟩)
    go_region_o
    go_wp2
    go_ret3
    exact ⟨⟨_, _, rfl⟩, Below_drawn (Below.refl _ _) _⟩
  · rw [if_neg h] at hi
    have e : l.take (takeN (noC c) l) = l := List.take_of_length_le (by omega)
    rw [e]
    unfold strV at *
    generalize (⟨l.toArray⟩ : ByteArray) = s at *
    generalize (⟨[c].toArray⟩ : ByteArray) = t at *
    clear hle h e hl hml
    go_enter Tryz.func80, Tryz.ntmps80
    go_wp2_with (go_at_call 79; refine (hi _).mono ?_; rintro e w' ⟨rfl, rfl⟩)
    go_ret3
    exact ⟨⟨_, _, rfl⟩, Below.refl _ _⟩
theorem cut_out (l : List UInt8) (hl : l.length ≤ maxLen) (c : UInt8) (w : World) :
    Calls Tryz.prog 48 #[strV l, strV [c]] w fun e w' => (∃ u b, e = .returned (.tuple #[strV (l.take (takeN (noC c) l)), u, .bool b])) ∧ Below w.heap.size w w' := by
  have hi := cut_in l hl c
  unfold strV at *
  generalize (⟨(l.take (takeN (noC c) l)).toArray⟩ : ByteArray) = u at *
  generalize (⟨l.toArray⟩ : ByteArray) = s at *
  generalize (⟨[c].toArray⟩ : ByteArray) = t at *
  go_enter Tryz.func48, Tryz.ntmps48
  go_wp2_with (go_at_call 80; refine (hi _).mono ?_; rintro e w' ⟨⟨x, b, rfl⟩, bl⟩)
  go_ret3
  exact ⟨⟨_, _, rfl⟩, bl⟩
theorem ahead_any (l : List UInt8) (hl : l.length ≤ maxLen) (c : UInt8) (w : World) :
    Calls Tryz.prog 25 #[strV l, strV [c]] w fun e w' => e = .returned (strV (l.take (takeN (noC c) l))) ∧ Below w.heap.size w w' := by
  have hi := cut_out l hl c
  unfold strV at *
  generalize (⟨(l.take (takeN (noC c) l)).toArray⟩ : ByteArray) = u at *
  generalize (⟨l.toArray⟩ : ByteArray) = s at *
  generalize (⟨[c].toArray⟩ : ByteArray) = t at *
  go_enter Tryz.func25, Tryz.ntmps25
  go_wp2_with (go_at_call 48; refine (hi _).mono ?_; rintro e w' ⟨⟨x, b, rfl⟩, bl⟩)
  go_ret
  exact ⟨rfl, bl⟩
theorem trim_any (l : List UInt8) (hl : l.length ≤ maxLen) (w : World) :
    Calls Tryz.prog 29 #[strV l, strV [34]] w fun e w' => e = .returned (strV (Lib.trimB l 34)) ∧ Below w.heap.size w w' := by
  have h := Any.strings_Trim_one Tryz.laysTrim ⟨l.toArray⟩ 34 (by decide) w (by rw [str_size]; unfold maxLen at hl; omega)
  refine h.mono fun e w' hh => ⟨hh.1, ?_⟩
  rcases hh.2 with rfl | rfl
  · exact Below.refl _ _
  · exact (Below.refl _ _).drew
theorem clone_any (l : List UInt8) (hl : l.length ≤ 1000000000) (w : World) :
    Calls Tryz.prog 28 #[strV l] w fun e w' => e = .returned (strV l) ∧ Below w.heap.size w w' := by
  have h := fun w => Any.stringslite_Clone Tryz.laysClone ⟨l.toArray⟩ w (by rw [str_size]; omega)
  have hi : ∀ w, Calls Tryz.prog 55 #[.string ⟨l.toArray⟩] w fun e w' => e = .returned (.string ⟨l.toArray⟩) ∧ Below w.heap.size w w' := h
  clear h
  unfold strV
  generalize (⟨l.toArray⟩ : ByteArray) = s at *
  go_enter Tryz.func28, Tryz.ntmps28
  go_wp2_with (go_at_call 55; refine (hi _).mono ?_; rintro e w' ⟨rfl, bl⟩)
  go_ret
  exact ⟨rfl, bl⟩
end
end Go.Proofs.YthindhlogkhclaaGreatDoor
