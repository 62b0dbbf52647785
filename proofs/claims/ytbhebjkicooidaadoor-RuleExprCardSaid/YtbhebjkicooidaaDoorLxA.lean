/-
  The small functions that lex stands on (layer 16): row, ahead, sign; strings.TrimLeft, Cut, Contains, Trim, Clone where lex asks them, over the loaded program: each one's contract. No condition but sizes.
-/
import Derived.Test.YtbhebjkicooidaaDoorLayS
import Derived.Test.YtbhebjkicooidaaDoorLxM
import Derived.Test.YtbhebjkicooidaaDoorTxs
import Derived.Test.YtbhebjkicooidaaDoorTxt
import Derived.Shelf.Strings.SlTrimAscii
import Derived.Shelf.Strconv.Clone
import Derived.Lib.Hide
import Derived.BigQuiet
namespace Go.Proofs.YtbhebjkicooidaaDoor
open Go.RowKit
set_option maxRecDepth 100000
set_option linter.unusedVariables false

/-- The bytes that a set has are those of a sort. -/
def SetOf (p : Nat → Bool) (cs : List UInt8) : Prop := ∀ b : UInt8, cs.contains b = p b.toNat
theorem trim_take {p : Nat → Bool} {cs : List UInt8} (h : SetOf p cs) (l : List UInt8) : Lib.trimLeftS l cs = l.drop (takeN p l) := by
  unfold Lib.trimLeftS
  induction l with
  | nil => rfl
  | cons b l ih =>
    rw [List.dropWhile_cons, takeN, h b]
    by_cases hp : p b.toNat = true
    · rw [if_pos hp, if_pos hp, ih, List.drop_succ_cons]
    · rw [if_neg hp, if_neg hp, List.drop_zero]

theorem set_fin {p : Nat → Bool} {cs : List UInt8} (h : ∀ n : Fin 256, cs.contains (UInt8.ofNat n.val) = p n.val) : SetOf p cs := fun b => by
  have := h ⟨b.toNat, b.toNat_lt⟩
  simpa using this
theorem set_blank : SetOf blankC [32, 10, 9] := set_fin (by decide +kernel)
theorem set_word : SetOf wordC [97, 98, 99, 100, 101, 102, 103, 104, 105, 106, 107, 108, 109, 110, 111, 112, 113, 114, 115, 116, 117, 118, 119, 120, 121, 122, 48, 49, 50, 51, 52, 53, 54, 55, 56, 57, 45, 95] := set_fin (by decide +kernel)
theorem set_dig : SetOf digC [48, 49, 50, 51, 52, 53, 54, 55, 56, 57] := set_fin (by decide +kernel)
theorem set_low : SetOf lowC [97, 98, 99, 100, 101, 102, 103, 104, 105, 106, 107, 108, 109, 110, 111, 112, 113, 114, 115, 116, 117, 118, 119, 120, 121, 122] := set_fin (by decide +kernel)

theorem ascii_blank : ∀ (j : Nat) b, ([32, 10, 9] : List UInt8)[j]? = some b → b.toNat < 128 := ascii_of_all (by decide)
theorem ascii_word : ∀ (j : Nat) b, ([97, 98, 99, 100, 101, 102, 103, 104, 105, 106, 107, 108, 109, 110, 111, 112, 113, 114, 115, 116, 117, 118, 119, 120, 121, 122, 48, 49, 50, 51, 52, 53, 54, 55, 56, 57, 45, 95] : List UInt8)[j]? = some b → b.toNat < 128 := ascii_of_all (by decide)
theorem ascii_dig : ∀ (j : Nat) b, ([48, 49, 50, 51, 52, 53, 54, 55, 56, 57] : List UInt8)[j]? = some b → b.toNat < 128 := ascii_of_all (by decide)

/-- sign. -/
def signW (c : Nat) : Nat := if c = 40 then 4 else if c = 41 then 5 else if c = 59 then 6 else 0
/-- stringslite.IndexByte. -/
theorem indexin_any (l : List UInt8) (c : UInt8) (w : World) :
    Calls Tryd.prog 78 #[strV l, .int .u8 (c.toNat : Int)] w fun e w' => e = .returned (.int .i64 (Lib.indexByte l c)) ∧ w' = w := by
  have h := Any.stringslite_IndexByte Tryd.laysIndexByteIn ⟨l.toArray⟩ (c.toNat : Int) w
  have e : (c.toNat : Int).toNat.toUInt8 = c := by simp
  rw [e] at h
  exact h
theorem one_str (c : UInt8) : (⟨[c].toArray⟩ : ByteArray).size = 1 := rfl

/-- stringslite.Index of one byte. -/
theorem index_in (l : List UInt8) (c : UInt8) (w : World) :
    Calls Tryd.prog 83 #[strV l, strV [c]] w fun e w' => e = .returned (.int .i64 (Lib.indexByte l c)) ∧ w' = w := by
  have hi := indexin_any l c
  have hx := txt_at [c] 0 c rfl
  have hz : ((⟨[c].toArray⟩ : ByteArray).size : Int) = 1 := rfl
  by_cases hlc : l = [c]
  · subst hlc
    have hk : Lib.indexByte [c] c = 0 := by simp [Lib.indexByte]
    have heq : ((⟨[c].toArray⟩ : ByteArray).toList == (⟨[c].toArray⟩ : ByteArray).toList) = true := by simp
    rw [hk]
    unfold strV at *
    generalize (⟨[c].toArray⟩ : ByteArray) = t at *
    clear hi hx hk
    go_enter Tryd.func83, Tryd.ntmps83
    go_wp2
    go_ret
    exact ⟨rfl, rfl⟩
  · have heq := str_eq [c] l
    rw [decide_eq_false (fun h => hlc h.symm)] at heq
    have h0 : ∀ h : 0 < (⟨[c].toArray⟩ : ByteArray).size, (⟨[c].toArray⟩ : ByteArray)[0]'h = c := fun _ => rfl
    unfold strV at *
    generalize (⟨l.toArray⟩ : ByteArray) = s at *
    generalize (⟨[c].toArray⟩ : ByteArray) = t at *
    generalize Lib.indexByte l c = k at *
    clear hx
    have H0 := Lib.hid h0
    clear h0
    go_enter Tryd.func83, Tryd.ntmps83
    go_wp2_with (go_at_call 78; simp only [H0.out]; refine (hi _).mono ?_; rintro e w' ⟨rfl, rfl⟩)
    go_ret
    exact ⟨rfl, rfl⟩

/-- strings.Index of one byte. -/
theorem index_out (l : List UInt8) (c : UInt8) (w : World) :
    Calls Tryd.prog 79 #[strV l, strV [c]] w fun e w' => e = .returned (.int .i64 (Lib.indexByte l c)) ∧ w' = w := by
  have hi := index_in l c
  unfold strV at *
  generalize (⟨l.toArray⟩ : ByteArray) = s at *
  generalize (⟨[c].toArray⟩ : ByteArray) = t at *
  generalize Lib.indexByte l c = k at *
  go_enter Tryd.func79, Tryd.ntmps79
  go_wp2_with (go_at_call 83; refine (hi _).mono ?_; rintro e w' ⟨rfl, rfl⟩)
  go_ret
  exact ⟨rfl, rfl⟩

theorem index_in_set (cs : List UInt8) (c : UInt8) : decide (0 ≤ Lib.indexByte cs c) = cs.contains c := by
  induction cs with
  | nil => rfl
  | cons b l ih =>
    rw [Lib.indexByte]
    by_cases h : (b == c) = true
    · have e : b = c := by simpa using h
      rw [if_pos h, e]
      simp
    · have e : ¬ c = b := fun e => h (by simp [e])
      rw [if_neg h, List.contains_cons, show (c == b) = false by simpa using e, Bool.false_or, ← ih]
      by_cases h2 : Lib.indexByte l c = -1
      · rw [h2]; decide
      · rw [if_neg (by simpa using h2)]
        have : ∀ m : List UInt8, -1 ≤ Lib.indexByte m c := by
          intro m
          induction m with
          | nil => simp [Lib.indexByte]
          | cons x m ihm =>
            rw [Lib.indexByte]
            split
            · decide
            · split
              · decide
              · omega
        have := this l
        exact decide_eq_decide.2 (by omega)

/-- strings.Contains of one byte. -/
theorem contains_one (p : Nat → Bool) (cs : List UInt8) (hp : SetOf p cs) (c : UInt8) (w : World) :
    Calls Tryd.prog 75 #[strV cs, strV [c]] w fun e w' => e = .returned (.bool (p c.toNat)) ∧ w' = w := by
  have hi := index_out cs c
  have hk : decide (0 ≤ Lib.indexByte cs c) = p c.toNat := by rw [index_in_set, hp c]
  rw [← hk]
  unfold strV at *
  generalize (⟨cs.toArray⟩ : ByteArray) = s at *
  generalize (⟨[c].toArray⟩ : ByteArray) = t at *
  generalize Lib.indexByte cs c = k at *
  clear hk
  go_enter Tryd.func75, Tryd.ntmps75
  go_wp2_with (go_at_call 79; refine (hi _).mono ?_; rintro e w' ⟨rfl, rfl⟩)
  go_ret
  exact ⟨rfl, rfl⟩

/-- Where a byte stands. -/
def noC (c : UInt8) (b : Nat) : Bool := decide (b ≠ c.toNat)
theorem index_take (c : UInt8) : ∀ l : List UInt8, Lib.indexByte l c = if takeN (noC c) l < l.length then (takeN (noC c) l : Int) else -1
  | [] => rfl
  | b :: l => by
    rw [Lib.indexByte, takeN, index_take c l]
    by_cases h : b = c
    · subst h
      have hn : noC b b.toNat = false := decide_eq_false (by simp)
      rw [hn]
      simp
    · have hn : noC c b.toNat = true := decide_eq_true fun e => h (UInt8.toNat_inj.1 e)
      rw [if_neg (by simpa using h), if_pos hn, List.length_cons]
      by_cases h2 : takeN (noC c) l < l.length
      · rw [if_pos h2, if_neg (by simp <;> omega), if_pos (by omega)]
        try rfl
      · rw [if_neg h2, if_pos (by simp)]
        try rw [if_neg (by omega)]

/-- strings.Clone. -/
theorem clone_any (l : List UInt8) (hl : l.length ≤ 1000000000) (w : World) :
    Calls Tryd.prog 40 #[strV l] w fun e w' => e = .returned (strV l) ∧ Below w.heap.size w w' := by
  have h := fun w => Any.stringslite_Clone Tryd.laysClone ⟨l.toArray⟩ w (by rw [str_size]; omega)
  have hi : ∀ w, Calls Tryd.prog 57 #[.string ⟨l.toArray⟩] w fun e w' => e = .returned (.string ⟨l.toArray⟩) ∧ Below w.heap.size w w' := h
  clear h
  unfold strV
  generalize (⟨l.toArray⟩ : ByteArray) = s at *
  go_enter Tryd.func40, Tryd.ntmps40
  go_wp2_with (go_at_call 57; refine (hi _).mono ?_; rintro e w' ⟨rfl, bl⟩)
  go_ret
  exact ⟨rfl, bl⟩
end Go.Proofs.YtbhebjkicooidaaDoor
