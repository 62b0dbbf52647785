/-
  Which names may be: the program's Name (layer 12), over the loaded program. No condition.
-/
import Derived.Test.YtbhebjkicooidaaDoorInA
import Derived.Test.YtbhebjkicooidaaDoorTxt
namespace Go.Proofs.YtbhebjkicooidaaDoor
open Go.RowKit
set_option maxRecDepth 100000
set_option linter.unusedVariables false

theorem okc_low {c : Nat} (h : 123 ≤ c) : okc c = false := by
  unfold okc
  simp
  omega
theorem okc_idx (x : Nat) (h1 : ¬ (97 ≤ x ∧ x ≤ 122)) (h2 : ¬ (48 ≤ x ∧ x ≤ 57)) : (!okc x) = !decide (0 ≤ idxS (x : Int)) := by
  congr 1
  unfold okc idxS
  by_cases a : x = 46
  · subst a; decide
  · by_cases b : x = 45
    · subst b; decide
    · by_cases c : x = 95
      · subst c; decide
      · rw [if_neg (by omega), if_neg (by omega), if_neg (by omega)]
        simp [a, b, c]
        omega

/-- What a name may not have. -/
theorem strange_any (w : World) : PredGrows Tryd.prog 44 #[] (fun x => !okc x) w := by
  intro W x hx _
  show Calls Tryd.prog 44 #[.int .i32 (x : Int)] W fun e w' => e = .returned (.bool (!okc x)) ∧ Below W.heap.size W w'
  by_cases h1 : 97 ≤ x ∧ x ≤ 122
  · have ho : (!okc x) = false := by unfold okc; simp; omega
    have a1 : ¬ (x : Int) < 97 := by omega
    have a2 : ¬ (122 : Int) < (x : Int) := by omega
    rw [ho]
    clear h1 ho hx
    go_enter Tryd.func44, Tryd.ntmps44
    go_wp2
    go_ret
    exact ⟨rfl, Below.refl _ _⟩
  · by_cases h2 : 48 ≤ x ∧ x ≤ 57
    · have ho : (!okc x) = false := by unfold okc; simp; omega
      have a1 : (x : Int) < 97 := by omega
      have a2 : ¬ (x : Int) < 48 := by omega
      have a3 : ¬ (57 : Int) < (x : Int) := by omega
      rw [ho]
      clear h1 h2 ho hx
      go_enter Tryd.func44, Tryd.ntmps44
      go_wp2
      go_ret
      exact ⟨rfl, Below.refl _ _⟩
    · rw [okc_idx x h1 h2]
      have hc := contains_rune (x : Int) (by omega) W
      generalize decide (0 ≤ idxS (x : Int)) = d at hc ⊢
      by_cases l1 : x < 97
      · have a1 : (x : Int) < 97 := by omega
        by_cases l2 : x < 48
        · have a2 : (x : Int) < 48 := by omega
          clear h1 h2 hx l1 l2
          go_enter Tryd.func44, Tryd.ntmps44
          go_wp2_with (go_at_call 45; refine hc.mono ?_; rintro e w' ⟨rfl, b⟩)
          go_ret
          exact ⟨rfl, b⟩
        · have a2 : ¬ (x : Int) < 48 := by omega
          have a3 : (57 : Int) < (x : Int) := by omega
          clear h1 h2 hx l1 l2
          go_enter Tryd.func44, Tryd.ntmps44
          go_wp2_with (go_at_call 45; refine hc.mono ?_; rintro e w' ⟨rfl, b⟩)
          go_ret
          exact ⟨rfl, b⟩
      · have a1 : ¬ (x : Int) < 97 := by omega
        have a2 : (122 : Int) < (x : Int) := by omega
        have a3 : ¬ (x : Int) < 48 := by omega
        have a4 : (57 : Int) < (x : Int) := by omega
        clear h1 h2 hx l1
        go_enter Tryd.func44, Tryd.ntmps44
        go_wp2_with (go_at_call 45; refine hc.mono ?_; rintro e w' ⟨rfl, b⟩)
        go_ret
        exact ⟨rfl, b⟩

theorem dec_high (n b0 b1 b2 b3 : Nat) (h : 128 ≤ b0) : 128 ≤ (Lib.decodeN n b0 b1 b2 b3).1 := by
  unfold Lib.decodeN
  repeat' split
  all_goals (simp only; omega)

/-- Where the first strange rune is, from pos on: there is one just where a byte is strange. -/
theorem idx_any (l : List UInt8) : ∀ (f pos : Nat), l.length ≤ pos + f → decide (0 ≤ Lib.idxFuncFrom (fun x => !okc x) true ⟨l.toArray⟩ f pos) = (l.drop pos).any fun b => !okc b.toNat
  | 0, pos, h => by
    rw [List.drop_of_length_le (by omega)]
    rfl
  | f + 1, pos, h => by
    by_cases hp : pos < l.length
    · have hs : pos < (⟨l.toArray⟩ : ByteArray).size := hp
      rw [List.drop_eq_getElem_cons hp, List.any_cons]
      unfold Lib.idxFuncFrom
      rw [if_pos hs]
      have hgb : (⟨l.toArray⟩ : ByteArray)[pos]'hs = l[pos] := rfl
      by_cases hb : (l[pos]).toNat < 128
      · have hd := decode_ascii ⟨l.toArray⟩ pos hs (by rw [hgb]; exact hb)
        rw [hgb] at hd
        rw [hd]
        cases ho : okc (l[pos]).toNat with
        | false => simp
        | true =>
          simp only [Bool.not_true, Bool.false_eq_true, if_false, Bool.false_or]
          exact idx_any l f (pos + 1) (by omega)
      · have hd : 128 ≤ (Utf8.decode ⟨l.toArray⟩ pos).1 := by
          rw [Lib.decode_at]
          refine dec_high _ _ _ _ _ ?_
          have : (⟨l.toArray⟩ : ByteArray).get! pos = l[pos] := by
            show l.toArray[pos]! = l[pos]
            rw [getElem!_pos l.toArray pos (by simpa using hp)]
            rfl
          rw [this]
          omega
        rw [okc_low (by omega), okc_low (c := (l[pos]).toNat) (by omega)]
        simp
    · rw [List.drop_of_length_le (by omega), Lib.idxFuncFrom_end _ _ _ _ _ (by show ¬ pos < l.length; omega)]
      rfl

theorem any_not (l : List UInt8) : (!(l.any fun b => !okc b.toNat)) = l.all fun b => okc b.toNat := by
  induction l with
  | nil => rfl
  | cons a l ih => simp only [List.any_cons, List.all_cons, ← ih]; cases okc a.toNat <;> simp

/-- strings.ContainsFunc of what a name may not have. -/
theorem contains_func (l : List UInt8) (w : World) :
    Calls Tryd.prog 46 #[strV l, .func (.func 44) #[] #[]] w fun e w' => e = .returned (.bool (l.any fun b => !okc b.toNat)) ∧ Below w.heap.size w w' := by
  have hc := Any.strings_ContainsFunc_grows Tryd.laysContainsFunc 44 #[] (enters_of Tryd.func44 (by kernel_rfl) rfl) (fun x => !okc x) ⟨l.toArray⟩ w (strange_any w)
  have hi := idx_any l l.length 0 (by omega)
  rw [List.drop_zero] at hi
  unfold Lib.idxFunc at hc
  have e : (⟨l.toArray⟩ : ByteArray).size = l.length := rfl
  rw [e, hi] at hc
  exact hc

/-- Name. -/
theorem name_any (l : List UInt8) (w : World) :
    Calls Tryd.prog 28 #[strV l] w fun e w' => e = .returned (.bool (nameS l)) ∧ Below w.heap.size w w' := by
  have hs : ((⟨l.toArray⟩ : ByteArray).size : Int) = (l.length : Int) := rfl
  have hc := contains_func l
  unfold strV at hc ⊢
  by_cases h0 : 0 < l.length
  · by_cases h1 : l.length ≤ 16
    · have e : nameS l = !(l.any fun b => !okc b.toNat) := by
        rw [any_not]
        unfold nameS
        rw [decide_eq_true (by omega), decide_eq_true (by omega)]
        simp
      rw [e]
      generalize (l.any fun b => !okc b.toNat) = d at hc ⊢
      generalize (⟨l.toArray⟩ : ByteArray) = s at hc hs ⊢
      have z0 : (0 : Int) < (s.size : Int) := by omega
      have z1 : (s.size : Int) ≤ 16 := by omega
      clear h0 h1 e hs
      go_enter Tryd.func28, Tryd.ntmps28
      go_wp2_with (go_at_call 46; refine (hc _).mono ?_; rintro e w' ⟨rfl, b⟩)
      go_ret
      exact ⟨rfl, b⟩
    · have e : nameS l = false := by
        unfold nameS
        rw [decide_eq_false (p := l.length ≤ 16) h1]
        simp
      rw [e]
      generalize (⟨l.toArray⟩ : ByteArray) = s at hs ⊢
      have z0 : (0 : Int) < (s.size : Int) := by omega
      have z1 : ¬ (s.size : Int) ≤ 16 := by omega
      clear h0 h1 e hs hc
      go_enter Tryd.func28, Tryd.ntmps28
      go_wp2
      go_ret
      exact ⟨rfl, Below.refl _ _⟩
  · have e : nameS l = false := by
      unfold nameS
      rw [decide_eq_false (p := 1 ≤ l.length) (by omega)]
      simp
    rw [e]
    generalize (⟨l.toArray⟩ : ByteArray) = s at hs ⊢
    have z0 : ¬ (0 : Int) < (s.size : Int) := by omega
    clear h0 e hs hc
    go_enter Tryd.func28, Tryd.ntmps28
    go_wp2
    go_ret
    exact ⟨rfl, Below.refl _ _⟩
end Go.Proofs.YtbhebjkicooidaaDoor
