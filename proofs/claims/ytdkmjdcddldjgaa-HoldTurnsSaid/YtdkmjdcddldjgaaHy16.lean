/-
  InB: Which names may be: the program's Name (layer 12), over the loaded program. No condition.
  SdD: The program's fits (layer 20), over the loaded program: of a case, a subject, a class: its contract. No condition.
  SdE: The program's fits (layer 20), over the loaded program: of a time: its contract. No condition.
-/
import Derived.Test.YtdkmjdcddldjgaaHy15
import Derived.Test.YtdkmjdcddldjgaaHy02
import Derived.Test.YtdkmjdcddldjgaaHy03
import Derived.Test.YtdkmjdcddldjgaaHy10
import Derived.Test.YtdkmjdcddldjgaaHy11
import Derived.Test.YtdkmjdcddldjgaaHy05
import Derived.BigQuiet
set_option linter.unusedVariables false
set_option maxRecDepth 100000
namespace Go.Proofs.Ytdkmjdcddldjgaa
section
open Go.RowKit
theorem okc_low {c : Nat} (h : 123 ≤ c) : okc c = false := by
  unfold okc
  simp
  omega
theorem okc_idx (x : Nat) (h1 : ¬ (97 ≤ x ∧ x ≤ 122)) (h2 : ¬ (48 ≤ x ∧ x ≤ 57)) : (!okc x) = !decide (0 ≤ idxS (x : Int)) := by
  congr 1
  unfold okc idxS
  by_cases a : x = 46
  · subst a; decide
  · by_cases b : x = 45
    · subst b; decide
    · by_cases c : x = 95
      · subst c; decide
      · rw [if_neg (by omega), if_neg (by omega), if_neg (by omega)]
        simp [a, b, c]
        omega
theorem strange_any (w : World) : PredGrows Try.prog 40 #[] (fun x => !okc x) w := by
  intro W x hx _
  show Calls Try.prog 40 #[.int .i32 (x : Int)] W fun e w' => e = .returned (.bool (!okc x)) ∧ Below W.heap.size W w'
  by_cases h1 : 97 ≤ x ∧ x ≤ 122
  · have ho : (!okc x) = false := by unfold okc; simp; omega
    have a1 : ¬ (x : Int) < 97 := by omega
    have a2 : ¬ (122 : Int) < (x : Int) := by omega
    rw [ho]
    clear h1 ho hx
    go_enter Try.func40, Try.ntmps40
    go_wp2
    go_ret
    exact ⟨rfl, Below.refl _ _⟩
  · by_cases h2 : 48 ≤ x ∧ x ≤ 57
    · have ho : (!okc x) = false := by unfold okc; simp; omega
      have a1 : (x : Int) < 97 := by omega
      have a2 : ¬ (x : Int) < 48 := by omega
      have a3 : ¬ (57 : Int) < (x : Int) := by omega
      rw [ho]
      clear h1 h2 ho hx
      go_enter Try.func40, Try.ntmps40
      go_wp2
      go_ret
      exact ⟨rfl, Below.refl _ _⟩
    · rw [okc_idx x h1 h2]
      have hc := contains_rune (x : Int) (by omega) W
      generalize decide (0 ≤ idxS (x : Int)) = d at hc ⊢
      by_cases l1 : x < 97
      · have a1 : (x : Int) < 97 := by omega
        by_cases l2 : x < 48
        · have a2 : (x : Int) < 48 := by omega
          clear h1 h2 hx l1 l2
          go_enter Try.func40, Try.ntmps40
          go_wp2_with (go_at_call 41; refine hc.mono ?_; rintro e w' ⟨rfl, b⟩)
          go_ret
          exact ⟨rfl, b⟩
        · have a2 : ¬ (x : Int) < 48 := by omega
          have a3 : (57 : Int) < (x : Int) := by omega
          clear h1 h2 hx l1 l2
          go_enter Try.func40, Try.ntmps40
          go_wp2_with (go_at_call 41; refine hc.mono ?_; rintro e w' ⟨rfl, b⟩)
          go_ret
          exact ⟨rfl, b⟩
      · have a1 : ¬ (x : Int) < 97 := by omega
        have a2 : (122 : Int) < (x : Int) := by omega
        have a3 : ¬ (x : Int) < 48 := by omega
        have a4 : (57 : Int) < (x : Int) := by omega
        clear h1 h2 hx l1
        go_enter Try.func40, Try.ntmps40
        go_wp2_with (go_at_call 41; refine hc.mono ?_; rintro e w' ⟨rfl, b⟩)
        go_ret
        exact ⟨rfl, b⟩
theorem dec_high (n b0 b1 b2 b3 : Nat) (h : 128 ≤ b0) : 128 ≤ (Lib.decodeN n b0 b1 b2 b3).1 := by
  unfold Lib.decodeN
  repeat' split
  all_goals (simp only; omega)
theorem idx_any (l : List UInt8) : ∀ (f pos : Nat), l.length ≤ pos + f → decide (0 ≤ Lib.idxFuncFrom (fun x => !okc x) true ⟨l.toArray⟩ f pos) = (l.drop pos).any fun b => !okc b.toNat
  | 0, pos, h => by
    rw [List.drop_of_length_le (by omega)]
    rfl
  | f + 1, pos, h => by
    by_cases hp : pos < l.length
    · have hs : pos < (⟨l.toArray⟩ : ByteArray).size := hp
      rw [List.drop_eq_getElem_cons hp, List.any_cons]
      unfold Lib.idxFuncFrom
      rw [if_pos hs]
      have hgb : (⟨l.toArray⟩ : ByteArray)[pos]'hs = l[pos] := rfl
      by_cases hb : (l[pos]).toNat < 128
      · have hd := decode_ascii ⟨l.toArray⟩ pos hs (by rw [hgb]; exact hb)
        rw [hgb] at hd
        rw [hd]
        cases ho : okc (l[pos]).toNat with
        | false => simp
        | true =>
          simp only [Bool.not_true, Bool.false_eq_true, if_false, Bool.false_or]
          exact idx_any l f (pos + 1) (by omega)
      · have hd : 128 ≤ (Utf8.decode ⟨l.toArray⟩ pos).1 := by
          rw [Lib.decode_at]
          refine dec_high _ _ _ _ _ ?_
          have : (⟨l.toArray⟩ : ByteArray).get! pos = l[pos] := by
            show l.toArray[pos]! = l[pos]
            rw [getElem!_pos l.toArray pos (by simpa using hp)]
            rfl
          rw [this]
          omega
        rw [okc_low (by omega), okc_low (c := (l[pos]).toNat) (by omega)]
        simp
    · rw [List.drop_of_length_le (by omega), Lib.idxFuncFrom_end _ _ _ _ _ (by show ¬ pos < l.length; omega)]
      rfl
theorem any_not (l : List UInt8) : (!(l.any fun b => !okc b.toNat)) = l.all fun b => okc b.toNat := by
  induction l with
  | nil => rfl
  | cons a l ih => simp only [List.any_cons, List.all_cons, ← ih]; cases okc a.toNat <;> simp
theorem contains_func (l : List UInt8) (w : World) :
    Calls Try.prog 42 #[strV l, .func (.func 40) #[] #[]] w fun e w' => e = .returned (.bool (l.any fun b => !okc b.toNat)) ∧ Below w.heap.size w w' := by
  have hc := Any.strings_ContainsFunc_grows Try.laysContainsFunc 40 #[] (enters_of Try.func40 (by kernel_rfl) rfl) (fun x => !okc x) ⟨l.toArray⟩ w (strange_any w)
  have hi := idx_any l l.length 0 (by omega)
  rw [List.drop_zero] at hi
  unfold Lib.idxFunc at hc
  have e : (⟨l.toArray⟩ : ByteArray).size = l.length := rfl
  rw [e, hi] at hc
  exact hc
theorem name_any (l : List UInt8) (w : World) :
    Calls Try.prog 22 #[strV l] w fun e w' => e = .returned (.bool (nameS l)) ∧ Below w.heap.size w w' := by
  have hs : ((⟨l.toArray⟩ : ByteArray).size : Int) = (l.length : Int) := rfl
  have hc := contains_func l
  unfold strV at hc ⊢
  by_cases h0 : 0 < l.length
  · by_cases h1 : l.length ≤ 16
    · have e : nameS l = !(l.any fun b => !okc b.toNat) := by
        rw [any_not]
        unfold nameS
        rw [decide_eq_true (by omega), decide_eq_true (by omega)]
        simp
      rw [e]
      generalize (l.any fun b => !okc b.toNat) = d at hc ⊢
      generalize (⟨l.toArray⟩ : ByteArray) = s at hc hs ⊢
      have z0 : (0 : Int) < (s.size : Int) := by omega
      have z1 : (s.size : Int) ≤ 16 := by omega
      clear h0 h1 e hs
      go_enter Try.func22, Try.ntmps22
      go_wp2_with (go_at_call 42; refine (hc _).mono ?_; rintro e w' ⟨rfl, b⟩)
      go_ret
      exact ⟨rfl, b⟩
    · have e : nameS l = false := by
        unfold nameS
        rw [decide_eq_false (p := l.length ≤ 16) h1]
        simp
      rw [e]
      generalize (⟨l.toArray⟩ : ByteArray) = s at hs ⊢
      have z0 : (0 : Int) < (s.size : Int) := by omega
      have z1 : ¬ (s.size : Int) ≤ 16 := by omega
      clear h0 h1 e hs hc
      go_enter Try.func22, Try.ntmps22
      go_wp2
      go_ret
      exact ⟨rfl, Below.refl _ _⟩
  · have e : nameS l = false := by
      unfold nameS
      rw [decide_eq_false (p := 1 ≤ l.length) (by omega)]
      simp
    rw [e]
    generalize (⟨l.toArray⟩ : ByteArray) = s at hs ⊢
    have z0 : ¬ (0 : Int) < (s.size : Int) := by omega
    clear h0 e hs hc
    go_enter Try.func22, Try.ntmps22
    go_wp2
    go_ret
    exact ⟨rfl, Below.refl _ _⟩
end
section
open Go.RowKit
set_option maxHeartbeats 8000000 in
theorem zpfits_2 (S : Nat → Prop) (f : Nat) (t : Ns (Sc f)) (v : Value) (w : World) (hop : t.op = 2) (hv : ZV w S (f + 1) v t) :
    Calls Try.prog 54 #[v] w fun e w' => e = .returned (.bool (fitsS t)) ∧ Below w.heap.size w w' := by
  obtain ⟨c0, c1, c2, c3, c4, rfl, rfl, hk, rfl, hml, rfl, hfr, rfl, hto, hks⟩ := hv
  obtain ⟨A3, cap3, e3, hl3, hm3⟩ := hks.form
  subst e3
  clear hks
  obtain ⟨r, hr⟩ : ∃ r, r = fitsS t := ⟨_, rfl⟩
  rw [← hr]
  have HU : Hid (¬ (nameS t.name = true ∧ t.from_ = 0 ∧ t.to_ = 0 ∧ t.kids.length = 0) → r = false) := fun h => hr.trans (by
    cases hb : fitsS t with
    | false => rfl
    | true => exact absurd ((zfit_named (.inl hop)).1 hb) h)
  have HF : Hid (nameS t.name = true ∧ t.from_ = 0 ∧ t.to_ = 0 ∧ t.kids.length = 0 → r = true) := fun h => hr.trans ((zfit_named (.inl hop)).2 h)
  clear hr
  have HNA := Lib.hid (fun W : World => name_any t.name W)
  rw [hop] at hk ⊢
  generalize t.op = k at *
  generalize t.from_ = fr at *
  generalize t.to_ = to_ at *
  generalize t.name = l at *
  generalize t.kids.length = kl at *
  clear hop
  clear t
  have hlen : kl ≤ 9223372036854775807 := by unfold maxLen at hm3; omega
  obtain ⟨nm, hnm⟩ : ∃ nm : Bool, nm = !decide (l = []) := ⟨_, rfl⟩
  have HN1 : Hid (nm = false → l = []) := fun h => by rw [hnm] at h; simpa using h
  have HN2 : Hid (nm = true → ¬ l = []) := fun h => by rw [hnm] at h; simpa using h
  unfold strV at *
  obtain ⟨s, hs⟩ : ∃ s : ByteArray, s = ⟨l.toArray⟩ := ⟨_, rfl⟩
  have E8 : (s.toList != (⟨#[]⟩ : ByteArray).toList) = nm ∧ (s.toList != []) = nm ∧ (!s.toList.isEmpty) = nm ∧ s.toList.isEmpty = !nm := by
    rw [hnm]
    by_cases h : l = []
    · subst h
      subst hs
      exact ⟨by simp, by simp, by simp, by simp⟩
    · obtain ⟨a1, a2, a3, a4⟩ := zne_if s l hs h
      exact ⟨by rw [a2]; simp [h], by rw [a1]; simp [h], by rw [a4]; simp [h], by rw [a4]; simp [h]⟩
  obtain ⟨E81, E82, E83, E84⟩ := E8
  rw [← hs] at HNA ⊢
  clear hs hml hnm
  have kb := KB.new w 25 #[.int .i64 2, .string s, .int .i64 fr, .int .i64 to_, .slice A3 kl cap3]
  have B0 := (Below.refl w.heap.size w).alloc (Nat.le_refl _) (.cells #[.int .i64 2, .string s, .int .i64 fr, .int .i64 to_, .slice A3 kl cap3] 25)
  have B1 := Below_drawn B0 1
  have kc := kb.below (Below_drawn (Below.refl _ _) 1) kb.lt
  by_cases h5 : fr = 0
  · subst h5
    go_enter Try.func54, Try.ntmps54
    go_wp2_with fail
    rename_i KK hKK
    have HKK := Lib.hid hKK
    clear hKK
    refine wp_region_held_drew (S := (fun W => W.cell? ⟨w.heap.size, 1, none⟩ = some (.string s) ∧ W.cell? ⟨w.heap.size, 2, none⟩ = some (.int .i64 0) ∧ W.cell? ⟨w.heap.size, 3, none⟩ = some (.int .i64 to_) ∧ W.cell? ⟨w.heap.size, 4, none⟩ = some (.slice A3 kl cap3))) (by kernel_rfl) ⟨kb.cell 1, kb.cell 2, kb.cell 3, kb.cell 4⟩ (fun hHeld => ?_)
    refine hyY (some 6) 0 rfl hHeld ?_; go_frame
    refine hyY (some 7) 1 rfl hHeld ?_; go_frame
    refine hyY (some 8) 2 rfl hHeld ?_; go_frame
    refine hyY (some 9) 3 rfl hHeld ?_; go_frame
    refine hyY (some 10) 4 rfl hHeld ?_; go_frame
    refine hyY (some 11) 5 rfl hHeld ?_; go_frame
    refine hyY (some 12) 6 rfl hHeld ?_; go_frame
    refine hyY (some 13) 7 rfl hHeld ?_; go_frame
    refine hyY (some 14) 8 rfl hHeld ?_; go_frame
    refine hyY (some 15) 9 rfl hHeld ?_; go_frame
    refine hyY (some 16) 10 rfl hHeld ?_; go_frame
    refine hyY (some 17) 11 rfl hHeld ?_; go_frame
    refine hyY (some 18) 12 rfl hHeld ?_; go_frame
    refine hyY (some 19) 13 rfl hHeld ?_; go_frame
    refine hyY (some 3) 14 rfl hHeld ?_; go_frame
    refine hyY (some 4) 15 rfl hHeld ?_; go_frame
    refine hyY (some 5) 16 rfl hHeld ?_; go_frame
    refine wpAnyH_done (by kernel_rfl) ?_ _
    have hKK := HKK.out
    go_wp2_with fail
    refine (HNA.out _).mono ?_
    rintro e w5 ⟨rfl, b5⟩
    have B5 := B1.trans (b5.mono B1.size)
    clear b5 B0 B1
    generalize nameS l = b at *
    cases b with
    | false =>
      obtain rfl := HU.out (fun h => absurd h.1 (by decide))
      clear HU HF
      go_wp2_with fail
      go_ret
      exact ⟨rfl, B5⟩
    | true =>
      by_cases h6 : to_ = 0
      · subst h6
        by_cases h7 : kl = 0
        · subst h7
          obtain rfl := HF.out (by refine ⟨?_, ?_, ?_, ?_⟩ <;> first | trivial | rfl | omega)
          clear HU HF
          go_wp2_with fail
          go_ret
          exact ⟨rfl, B5⟩
        · obtain rfl := HU.out (fun h => h7 h.2.2.2)
          have g7 : ((kl : Int) == 0) = false := beq_eq_false_iff_ne.2 (by omega)
          clear HU HF
          go_wp2_with fail
          go_ret
          exact ⟨rfl, B5⟩
      · obtain rfl := HU.out (fun h => h6 h.2.2.1)
        have g6 : (to_ != 0) = true := bne_iff_ne.2 h6
        clear HU HF
        go_wp2_with fail
        go_ret
        exact ⟨rfl, B5⟩
  · have g5 : (fr != 0) = true := bne_iff_ne.2 h5
    go_enter Try.func54, Try.ntmps54
    go_wp2_with fail
    rename_i KK hKK
    have HKK := Lib.hid hKK
    clear hKK
    refine wp_region_held_drew (S := (fun W => W.cell? ⟨w.heap.size, 1, none⟩ = some (.string s) ∧ W.cell? ⟨w.heap.size, 2, none⟩ = some (.int .i64 fr) ∧ W.cell? ⟨w.heap.size, 3, none⟩ = some (.int .i64 to_) ∧ W.cell? ⟨w.heap.size, 4, none⟩ = some (.slice A3 kl cap3))) (by kernel_rfl) ⟨kb.cell 1, kb.cell 2, kb.cell 3, kb.cell 4⟩ (fun hHeld => ?_)
    refine hyY (some 6) 0 rfl hHeld ?_; go_frame
    refine hyY (some 7) 1 rfl hHeld ?_; go_frame
    refine hyY (some 8) 2 rfl hHeld ?_; go_frame
    refine hyY (some 9) 3 rfl hHeld ?_; go_frame
    refine hyY (some 10) 4 rfl hHeld ?_; go_frame
    refine hyY (some 11) 5 rfl hHeld ?_; go_frame
    refine hyY (some 12) 6 rfl hHeld ?_; go_frame
    refine hyN (some 13) 7 rfl hHeld ?_; go_frame
    refine hyN (some 14) 8 rfl hHeld ?_; go_frame
    refine hyN (some 15) 9 rfl hHeld ?_; go_frame
    refine hyY (some 16) 10 rfl hHeld ?_; go_frame
    refine hyY (some 17) 11 rfl hHeld ?_; go_frame
    refine hyY (some 18) 12 rfl hHeld ?_; go_frame
    refine hyY (some 19) 13 rfl hHeld ?_; go_frame
    refine hyY (some 3) 14 rfl hHeld ?_; go_frame
    refine hyY (some 4) 15 rfl hHeld ?_; go_frame
    refine hyY (some 5) 16 rfl hHeld ?_; go_frame
    refine wpAnyH_done (by kernel_rfl) ?_ _
    have hKK := HKK.out
    go_wp2_with fail
    refine (HNA.out _).mono ?_
    rintro e w5 ⟨rfl, b5⟩
    have B5 := B1.trans (b5.mono B1.size)
    clear b5 B0 B1
    generalize nameS l = b at *
    cases b with
    | false =>
      obtain rfl := HU.out (fun h => absurd h.1 (by decide))
      clear HU HF
      go_wp2_with fail
      go_ret
      exact ⟨rfl, B5⟩
    | true =>
      obtain rfl := HU.out (fun h => h5 h.2.1)
      clear HU HF
      go_wp2_with fail
      go_ret
      exact ⟨rfl, B5⟩
set_option maxHeartbeats 8000000 in
theorem zpfits_3 (S : Nat → Prop) (f : Nat) (t : Ns (Sc f)) (v : Value) (w : World) (hop : t.op = 3) (hv : ZV w S (f + 1) v t) :
    Calls Try.prog 54 #[v] w fun e w' => e = .returned (.bool (fitsS t)) ∧ Below w.heap.size w w' := by
  obtain ⟨c0, c1, c2, c3, c4, rfl, rfl, hk, rfl, hml, rfl, hfr, rfl, hto, hks⟩ := hv
  obtain ⟨A3, cap3, e3, hl3, hm3⟩ := hks.form
  subst e3
  clear hks
  obtain ⟨r, hr⟩ : ∃ r, r = fitsS t := ⟨_, rfl⟩
  rw [← hr]
  have HU : Hid (¬ (nameS t.name = true ∧ t.from_ = 0 ∧ t.to_ = 0 ∧ t.kids.length = 0) → r = false) := fun h => hr.trans (by
    cases hb : fitsS t with
    | false => rfl
    | true => exact absurd ((zfit_named (.inr (.inl hop))).1 hb) h)
  have HF : Hid (nameS t.name = true ∧ t.from_ = 0 ∧ t.to_ = 0 ∧ t.kids.length = 0 → r = true) := fun h => hr.trans ((zfit_named (.inr (.inl hop))).2 h)
  clear hr
  have HNA := Lib.hid (fun W : World => name_any t.name W)
  rw [hop] at hk ⊢
  generalize t.op = k at *
  generalize t.from_ = fr at *
  generalize t.to_ = to_ at *
  generalize t.name = l at *
  generalize t.kids.length = kl at *
  clear hop
  clear t
  have hlen : kl ≤ 9223372036854775807 := by unfold maxLen at hm3; omega
  obtain ⟨nm, hnm⟩ : ∃ nm : Bool, nm = !decide (l = []) := ⟨_, rfl⟩
  have HN1 : Hid (nm = false → l = []) := fun h => by rw [hnm] at h; simpa using h
  have HN2 : Hid (nm = true → ¬ l = []) := fun h => by rw [hnm] at h; simpa using h
  unfold strV at *
  obtain ⟨s, hs⟩ : ∃ s : ByteArray, s = ⟨l.toArray⟩ := ⟨_, rfl⟩
  have E8 : (s.toList != (⟨#[]⟩ : ByteArray).toList) = nm ∧ (s.toList != []) = nm ∧ (!s.toList.isEmpty) = nm ∧ s.toList.isEmpty = !nm := by
    rw [hnm]
    by_cases h : l = []
    · subst h
      subst hs
      exact ⟨by simp, by simp, by simp, by simp⟩
    · obtain ⟨a1, a2, a3, a4⟩ := zne_if s l hs h
      exact ⟨by rw [a2]; simp [h], by rw [a1]; simp [h], by rw [a4]; simp [h], by rw [a4]; simp [h]⟩
  obtain ⟨E81, E82, E83, E84⟩ := E8
  rw [← hs] at HNA ⊢
  clear hs hml hnm
  have kb := KB.new w 25 #[.int .i64 3, .string s, .int .i64 fr, .int .i64 to_, .slice A3 kl cap3]
  have B0 := (Below.refl w.heap.size w).alloc (Nat.le_refl _) (.cells #[.int .i64 3, .string s, .int .i64 fr, .int .i64 to_, .slice A3 kl cap3] 25)
  have B1 := Below_drawn B0 1
  have kc := kb.below (Below_drawn (Below.refl _ _) 1) kb.lt
  by_cases h5 : fr = 0
  · subst h5
    go_enter Try.func54, Try.ntmps54
    go_wp2_with fail
    rename_i KK hKK
    have HKK := Lib.hid hKK
    clear hKK
    refine wp_region_held_drew (S := (fun W => W.cell? ⟨w.heap.size, 1, none⟩ = some (.string s) ∧ W.cell? ⟨w.heap.size, 2, none⟩ = some (.int .i64 0) ∧ W.cell? ⟨w.heap.size, 3, none⟩ = some (.int .i64 to_) ∧ W.cell? ⟨w.heap.size, 4, none⟩ = some (.slice A3 kl cap3))) (by kernel_rfl) ⟨kb.cell 1, kb.cell 2, kb.cell 3, kb.cell 4⟩ (fun hHeld => ?_)
    refine hyY (some 6) 0 rfl hHeld ?_; go_frame
    refine hyY (some 7) 1 rfl hHeld ?_; go_frame
    refine hyY (some 8) 2 rfl hHeld ?_; go_frame
    refine hyY (some 9) 3 rfl hHeld ?_; go_frame
    refine hyY (some 10) 4 rfl hHeld ?_; go_frame
    refine hyY (some 11) 5 rfl hHeld ?_; go_frame
    refine hyY (some 12) 6 rfl hHeld ?_; go_frame
    refine hyY (some 13) 7 rfl hHeld ?_; go_frame
    refine hyY (some 14) 8 rfl hHeld ?_; go_frame
    refine hyY (some 15) 9 rfl hHeld ?_; go_frame
    refine hyY (some 16) 10 rfl hHeld ?_; go_frame
    refine hyY (some 17) 11 rfl hHeld ?_; go_frame
    refine hyY (some 18) 12 rfl hHeld ?_; go_frame
    refine hyY (some 19) 13 rfl hHeld ?_; go_frame
    refine hyY (some 3) 14 rfl hHeld ?_; go_frame
    refine hyY (some 4) 15 rfl hHeld ?_; go_frame
    refine hyY (some 5) 16 rfl hHeld ?_; go_frame
    refine wpAnyH_done (by kernel_rfl) ?_ _
    have hKK := HKK.out
    go_wp2_with fail
    refine (HNA.out _).mono ?_
    rintro e w5 ⟨rfl, b5⟩
    have B5 := B1.trans (b5.mono B1.size)
    clear b5 B0 B1
    generalize nameS l = b at *
    cases b with
    | false =>
      obtain rfl := HU.out (fun h => absurd h.1 (by decide))
      clear HU HF
      go_wp2_with fail
      go_ret
      exact ⟨rfl, B5⟩
    | true =>
      by_cases h6 : to_ = 0
      · subst h6
        by_cases h7 : kl = 0
        · subst h7
          obtain rfl := HF.out (by refine ⟨?_, ?_, ?_, ?_⟩ <;> first | trivial | rfl | omega)
          clear HU HF
          go_wp2_with fail
          go_ret
          exact ⟨rfl, B5⟩
        · obtain rfl := HU.out (fun h => h7 h.2.2.2)
          have g7 : ((kl : Int) == 0) = false := beq_eq_false_iff_ne.2 (by omega)
          clear HU HF
          go_wp2_with fail
          go_ret
          exact ⟨rfl, B5⟩
      · obtain rfl := HU.out (fun h => h6 h.2.2.1)
        have g6 : (to_ != 0) = true := bne_iff_ne.2 h6
        clear HU HF
        go_wp2_with fail
        go_ret
        exact ⟨rfl, B5⟩
  · have g5 : (fr != 0) = true := bne_iff_ne.2 h5
    go_enter Try.func54, Try.ntmps54
    go_wp2_with fail
    rename_i KK hKK
    have HKK := Lib.hid hKK
    clear hKK
    refine wp_region_held_drew (S := (fun W => W.cell? ⟨w.heap.size, 1, none⟩ = some (.string s) ∧ W.cell? ⟨w.heap.size, 2, none⟩ = some (.int .i64 fr) ∧ W.cell? ⟨w.heap.size, 3, none⟩ = some (.int .i64 to_) ∧ W.cell? ⟨w.heap.size, 4, none⟩ = some (.slice A3 kl cap3))) (by kernel_rfl) ⟨kb.cell 1, kb.cell 2, kb.cell 3, kb.cell 4⟩ (fun hHeld => ?_)
    refine hyY (some 6) 0 rfl hHeld ?_; go_frame
    refine hyY (some 7) 1 rfl hHeld ?_; go_frame
    refine hyY (some 8) 2 rfl hHeld ?_; go_frame
    refine hyY (some 9) 3 rfl hHeld ?_; go_frame
    refine hyY (some 10) 4 rfl hHeld ?_; go_frame
    refine hyY (some 11) 5 rfl hHeld ?_; go_frame
    refine hyY (some 12) 6 rfl hHeld ?_; go_frame
    refine hyN (some 13) 7 rfl hHeld ?_; go_frame
    refine hyN (some 14) 8 rfl hHeld ?_; go_frame
    refine hyN (some 15) 9 rfl hHeld ?_; go_frame
    refine hyY (some 16) 10 rfl hHeld ?_; go_frame
    refine hyY (some 17) 11 rfl hHeld ?_; go_frame
    refine hyY (some 18) 12 rfl hHeld ?_; go_frame
    refine hyY (some 19) 13 rfl hHeld ?_; go_frame
    refine hyY (some 3) 14 rfl hHeld ?_; go_frame
    refine hyY (some 4) 15 rfl hHeld ?_; go_frame
    refine hyY (some 5) 16 rfl hHeld ?_; go_frame
    refine wpAnyH_done (by kernel_rfl) ?_ _
    have hKK := HKK.out
    go_wp2_with fail
    refine (HNA.out _).mono ?_
    rintro e w5 ⟨rfl, b5⟩
    have B5 := B1.trans (b5.mono B1.size)
    clear b5 B0 B1
    generalize nameS l = b at *
    cases b with
    | false =>
      obtain rfl := HU.out (fun h => absurd h.1 (by decide))
      clear HU HF
      go_wp2_with fail
      go_ret
      exact ⟨rfl, B5⟩
    | true =>
      obtain rfl := HU.out (fun h => h5 h.2.1)
      clear HU HF
      go_wp2_with fail
      go_ret
      exact ⟨rfl, B5⟩
set_option maxHeartbeats 8000000 in
theorem zpfits_4 (S : Nat → Prop) (f : Nat) (t : Ns (Sc f)) (v : Value) (w : World) (hop : t.op = 4) (hv : ZV w S (f + 1) v t) :
    Calls Try.prog 54 #[v] w fun e w' => e = .returned (.bool (fitsS t)) ∧ Below w.heap.size w w' := by
  obtain ⟨c0, c1, c2, c3, c4, rfl, rfl, hk, rfl, hml, rfl, hfr, rfl, hto, hks⟩ := hv
  obtain ⟨A3, cap3, e3, hl3, hm3⟩ := hks.form
  subst e3
  clear hks
  obtain ⟨r, hr⟩ : ∃ r, r = fitsS t := ⟨_, rfl⟩
  rw [← hr]
  have HU : Hid (¬ (nameS t.name = true ∧ t.from_ = 0 ∧ t.to_ = 0 ∧ t.kids.length = 0) → r = false) := fun h => hr.trans (by
    cases hb : fitsS t with
    | false => rfl
    | true => exact absurd ((zfit_named (.inr (.inr hop))).1 hb) h)
  have HF : Hid (nameS t.name = true ∧ t.from_ = 0 ∧ t.to_ = 0 ∧ t.kids.length = 0 → r = true) := fun h => hr.trans ((zfit_named (.inr (.inr hop))).2 h)
  clear hr
  have HNA := Lib.hid (fun W : World => name_any t.name W)
  rw [hop] at hk ⊢
  generalize t.op = k at *
  generalize t.from_ = fr at *
  generalize t.to_ = to_ at *
  generalize t.name = l at *
  generalize t.kids.length = kl at *
  clear hop
  clear t
  have hlen : kl ≤ 9223372036854775807 := by unfold maxLen at hm3; omega
  obtain ⟨nm, hnm⟩ : ∃ nm : Bool, nm = !decide (l = []) := ⟨_, rfl⟩
  have HN1 : Hid (nm = false → l = []) := fun h => by rw [hnm] at h; simpa using h
  have HN2 : Hid (nm = true → ¬ l = []) := fun h => by rw [hnm] at h; simpa using h
  unfold strV at *
  obtain ⟨s, hs⟩ : ∃ s : ByteArray, s = ⟨l.toArray⟩ := ⟨_, rfl⟩
  have E8 : (s.toList != (⟨#[]⟩ : ByteArray).toList) = nm ∧ (s.toList != []) = nm ∧ (!s.toList.isEmpty) = nm ∧ s.toList.isEmpty = !nm := by
    rw [hnm]
    by_cases h : l = []
    · subst h
      subst hs
      exact ⟨by simp, by simp, by simp, by simp⟩
    · obtain ⟨a1, a2, a3, a4⟩ := zne_if s l hs h
      exact ⟨by rw [a2]; simp [h], by rw [a1]; simp [h], by rw [a4]; simp [h], by rw [a4]; simp [h]⟩
  obtain ⟨E81, E82, E83, E84⟩ := E8
  rw [← hs] at HNA ⊢
  clear hs hml hnm
  have kb := KB.new w 25 #[.int .i64 4, .string s, .int .i64 fr, .int .i64 to_, .slice A3 kl cap3]
  have B0 := (Below.refl w.heap.size w).alloc (Nat.le_refl _) (.cells #[.int .i64 4, .string s, .int .i64 fr, .int .i64 to_, .slice A3 kl cap3] 25)
  have B1 := Below_drawn B0 1
  have kc := kb.below (Below_drawn (Below.refl _ _) 1) kb.lt
  by_cases h5 : fr = 0
  · subst h5
    go_enter Try.func54, Try.ntmps54
    go_wp2_with fail
    rename_i KK hKK
    have HKK := Lib.hid hKK
    clear hKK
    refine wp_region_held_drew (S := (fun W => W.cell? ⟨w.heap.size, 1, none⟩ = some (.string s) ∧ W.cell? ⟨w.heap.size, 2, none⟩ = some (.int .i64 0) ∧ W.cell? ⟨w.heap.size, 3, none⟩ = some (.int .i64 to_) ∧ W.cell? ⟨w.heap.size, 4, none⟩ = some (.slice A3 kl cap3))) (by kernel_rfl) ⟨kb.cell 1, kb.cell 2, kb.cell 3, kb.cell 4⟩ (fun hHeld => ?_)
    refine hyY (some 6) 0 rfl hHeld ?_; go_frame
    refine hyY (some 7) 1 rfl hHeld ?_; go_frame
    refine hyY (some 8) 2 rfl hHeld ?_; go_frame
    refine hyY (some 9) 3 rfl hHeld ?_; go_frame
    refine hyY (some 10) 4 rfl hHeld ?_; go_frame
    refine hyY (some 11) 5 rfl hHeld ?_; go_frame
    refine hyY (some 12) 6 rfl hHeld ?_; go_frame
    refine hyY (some 13) 7 rfl hHeld ?_; go_frame
    refine hyY (some 14) 8 rfl hHeld ?_; go_frame
    refine hyY (some 15) 9 rfl hHeld ?_; go_frame
    refine hyY (some 16) 10 rfl hHeld ?_; go_frame
    refine hyY (some 17) 11 rfl hHeld ?_; go_frame
    refine hyY (some 18) 12 rfl hHeld ?_; go_frame
    refine hyY (some 19) 13 rfl hHeld ?_; go_frame
    refine hyY (some 3) 14 rfl hHeld ?_; go_frame
    refine hyY (some 4) 15 rfl hHeld ?_; go_frame
    refine hyY (some 5) 16 rfl hHeld ?_; go_frame
    refine wpAnyH_done (by kernel_rfl) ?_ _
    have hKK := HKK.out
    go_wp2_with fail
    refine (HNA.out _).mono ?_
    rintro e w5 ⟨rfl, b5⟩
    have B5 := B1.trans (b5.mono B1.size)
    clear b5 B0 B1
    generalize nameS l = b at *
    cases b with
    | false =>
      obtain rfl := HU.out (fun h => absurd h.1 (by decide))
      clear HU HF
      go_wp2_with fail
      go_ret
      exact ⟨rfl, B5⟩
    | true =>
      by_cases h6 : to_ = 0
      · subst h6
        by_cases h7 : kl = 0
        · subst h7
          obtain rfl := HF.out (by refine ⟨?_, ?_, ?_, ?_⟩ <;> first | trivial | rfl | omega)
          clear HU HF
          go_wp2_with fail
          go_ret
          exact ⟨rfl, B5⟩
        · obtain rfl := HU.out (fun h => h7 h.2.2.2)
          have g7 : ((kl : Int) == 0) = false := beq_eq_false_iff_ne.2 (by omega)
          clear HU HF
          go_wp2_with fail
          go_ret
          exact ⟨rfl, B5⟩
      · obtain rfl := HU.out (fun h => h6 h.2.2.1)
        have g6 : (to_ != 0) = true := bne_iff_ne.2 h6
        clear HU HF
        go_wp2_with fail
        go_ret
        exact ⟨rfl, B5⟩
  · have g5 : (fr != 0) = true := bne_iff_ne.2 h5
    go_enter Try.func54, Try.ntmps54
    go_wp2_with fail
    rename_i KK hKK
    have HKK := Lib.hid hKK
    clear hKK
    refine wp_region_held_drew (S := (fun W => W.cell? ⟨w.heap.size, 1, none⟩ = some (.string s) ∧ W.cell? ⟨w.heap.size, 2, none⟩ = some (.int .i64 fr) ∧ W.cell? ⟨w.heap.size, 3, none⟩ = some (.int .i64 to_) ∧ W.cell? ⟨w.heap.size, 4, none⟩ = some (.slice A3 kl cap3))) (by kernel_rfl) ⟨kb.cell 1, kb.cell 2, kb.cell 3, kb.cell 4⟩ (fun hHeld => ?_)
    refine hyY (some 6) 0 rfl hHeld ?_; go_frame
    refine hyY (some 7) 1 rfl hHeld ?_; go_frame
    refine hyY (some 8) 2 rfl hHeld ?_; go_frame
    refine hyY (some 9) 3 rfl hHeld ?_; go_frame
    refine hyY (some 10) 4 rfl hHeld ?_; go_frame
    refine hyY (some 11) 5 rfl hHeld ?_; go_frame
    refine hyY (some 12) 6 rfl hHeld ?_; go_frame
    refine hyN (some 13) 7 rfl hHeld ?_; go_frame
    refine hyN (some 14) 8 rfl hHeld ?_; go_frame
    refine hyN (some 15) 9 rfl hHeld ?_; go_frame
    refine hyY (some 16) 10 rfl hHeld ?_; go_frame
    refine hyY (some 17) 11 rfl hHeld ?_; go_frame
    refine hyY (some 18) 12 rfl hHeld ?_; go_frame
    refine hyY (some 19) 13 rfl hHeld ?_; go_frame
    refine hyY (some 3) 14 rfl hHeld ?_; go_frame
    refine hyY (some 4) 15 rfl hHeld ?_; go_frame
    refine hyY (some 5) 16 rfl hHeld ?_; go_frame
    refine wpAnyH_done (by kernel_rfl) ?_ _
    have hKK := HKK.out
    go_wp2_with fail
    refine (HNA.out _).mono ?_
    rintro e w5 ⟨rfl, b5⟩
    have B5 := B1.trans (b5.mono B1.size)
    clear b5 B0 B1
    generalize nameS l = b at *
    cases b with
    | false =>
      obtain rfl := HU.out (fun h => absurd h.1 (by decide))
      clear HU HF
      go_wp2_with fail
      go_ret
      exact ⟨rfl, B5⟩
    | true =>
      obtain rfl := HU.out (fun h => h5 h.2.1)
      clear HU HF
      go_wp2_with fail
      go_ret
      exact ⟨rfl, B5⟩
end
section
open Go.RowKit
set_option maxHeartbeats 8000000 in
theorem zpfits_5 (S : Nat → Prop) (f : Nat) (t : Ns (Sc f)) (v : Value) (w : World) (hop : t.op = 5) (hv : ZV w S (f + 1) v t) :
    Calls Try.prog 54 #[v] w fun e w' => e = .returned (.bool (fitsS t)) ∧ Below w.heap.size w w' := by
  obtain ⟨c0, c1, c2, c3, c4, rfl, rfl, hk, rfl, hml, rfl, hfr, rfl, hto, hks⟩ := hv
  obtain ⟨A3, cap3, e3, hl3, hm3⟩ := hks.form
  subst e3
  clear hks
  obtain ⟨r, hr⟩ : ∃ r, r = fitsS t := ⟨_, rfl⟩
  rw [← hr]
  have HU : Hid (¬ (t.name = [] ∧ (0 ≤ t.from_ ∧ t.from_ ≤ t.to_ ∧ t.to_ ≤ 1099511627776) ∧ t.kids.length = 0) → r = false) := fun h => hr.trans (by
    cases hb : fitsS t with
    | false => rfl
    | true => exact absurd ((zfit_time hop).1 hb) h)
  have HF : Hid (t.name = [] ∧ (0 ≤ t.from_ ∧ t.from_ ≤ t.to_ ∧ t.to_ ≤ 1099511627776) ∧ t.kids.length = 0 → r = true) := fun h => hr.trans ((zfit_time hop).2 h)
  clear hr
  rw [hop] at hk ⊢
  generalize t.op = k at *
  generalize t.from_ = fr at *
  generalize t.to_ = to_ at *
  generalize t.name = l at *
  generalize t.kids.length = kl at *
  clear hop
  clear t
  have hlen : kl ≤ 9223372036854775807 := by unfold maxLen at hm3; omega
  obtain ⟨nm, hnm⟩ : ∃ nm : Bool, nm = !decide (l = []) := ⟨_, rfl⟩
  have HN1 : Hid (nm = false → l = []) := fun h => by rw [hnm] at h; simpa using h
  have HN2 : Hid (nm = true → ¬ l = []) := fun h => by rw [hnm] at h; simpa using h
  unfold strV at *
  obtain ⟨s, hs⟩ : ∃ s : ByteArray, s = ⟨l.toArray⟩ := ⟨_, rfl⟩
  have E8 : (s.toList != (⟨#[]⟩ : ByteArray).toList) = nm ∧ (s.toList != []) = nm ∧ (!s.toList.isEmpty) = nm ∧ s.toList.isEmpty = !nm := by
    rw [hnm]
    by_cases h : l = []
    · subst h
      subst hs
      exact ⟨by simp, by simp, by simp, by simp⟩
    · obtain ⟨a1, a2, a3, a4⟩ := zne_if s l hs h
      exact ⟨by rw [a2]; simp [h], by rw [a1]; simp [h], by rw [a4]; simp [h], by rw [a4]; simp [h]⟩
  obtain ⟨E81, E82, E83, E84⟩ := E8
  rw [← hs]
  clear hs hml hnm
  have kb := KB.new w 25 #[.int .i64 5, .string s, .int .i64 fr, .int .i64 to_, .slice A3 kl cap3]
  have B0 := (Below.refl w.heap.size w).alloc (Nat.le_refl _) (.cells #[.int .i64 5, .string s, .int .i64 fr, .int .i64 to_, .slice A3 kl cap3] 25)
  have B1 := Below_drawn B0 1
  have kc := kb.below (Below_drawn (Below.refl _ _) 1) kb.lt
  by_cases h5 : fr = 0
  · subst h5
    go_enter Try.func54, Try.ntmps54
    go_wp2_with fail
    rename_i KK hKK
    have HKK := Lib.hid hKK
    clear hKK
    refine wp_region_held_drew (S := (fun W => W.cell? ⟨w.heap.size, 1, none⟩ = some (.string s) ∧ W.cell? ⟨w.heap.size, 2, none⟩ = some (.int .i64 0) ∧ W.cell? ⟨w.heap.size, 3, none⟩ = some (.int .i64 to_) ∧ W.cell? ⟨w.heap.size, 4, none⟩ = some (.slice A3 kl cap3))) (by kernel_rfl) ⟨kb.cell 1, kb.cell 2, kb.cell 3, kb.cell 4⟩ (fun hHeld => ?_)
    refine hyY (some 6) 0 rfl hHeld ?_; go_frame
    refine hyY (some 7) 1 rfl hHeld ?_; go_frame
    refine hyY (some 8) 2 rfl hHeld ?_; go_frame
    refine hyY (some 9) 3 rfl hHeld ?_; go_frame
    refine hyY (some 10) 4 rfl hHeld ?_; go_frame
    refine hyY (some 11) 5 rfl hHeld ?_; go_frame
    refine hyY (some 12) 6 rfl hHeld ?_; go_frame
    refine hyY (some 13) 7 rfl hHeld ?_; go_frame
    refine hyY (some 14) 8 rfl hHeld ?_; go_frame
    refine hyY (some 15) 9 rfl hHeld ?_; go_frame
    refine hyY (some 16) 10 rfl hHeld ?_; go_frame
    refine hyY (some 17) 11 rfl hHeld ?_; go_frame
    refine hyY (some 18) 12 rfl hHeld ?_; go_frame
    refine hyY (some 19) 13 rfl hHeld ?_; go_frame
    refine hyY (some 3) 14 rfl hHeld ?_; go_frame
    refine hyY (some 4) 15 rfl hHeld ?_; go_frame
    refine hyY (some 5) 16 rfl hHeld ?_; go_frame
    refine wpAnyH_done (by kernel_rfl) ?_ _
    have hKK := HKK.out
    cases nm with
    | true =>
      obtain rfl := HU.out (fun h => HN2.out rfl h.1)
      clear HU HF
      go_wp2_with fail
      go_ret
      exact ⟨rfl, B1⟩
    | false =>
      have hl0 := HN1.out rfl
      subst hl0
      by_cases a2 : 0 ≤ to_
      · have E2 : decide (0 ≤ to_) = true := decide_eq_true a2
        by_cases a3 : to_ ≤ 1099511627776
        · have E3 : decide (to_ ≤ 1099511627776) = true := decide_eq_true a3
          by_cases a4 : kl = 0
          · subst a4
            obtain rfl := HF.out (by refine ⟨?_, ⟨?_, a2, a3⟩, ?_⟩ <;> first | trivial | rfl | omega)
            clear HU HF
            go_wp2_with fail
            go_ret
            exact ⟨rfl, B1⟩
          · obtain rfl := HU.out (fun h => a4 h.2.2)
            have g7 : ((kl : Int) == 0) = false := beq_eq_false_iff_ne.2 (by omega)
            clear HU HF
            go_wp2_with fail
            go_ret
            exact ⟨rfl, B1⟩
        · obtain rfl := HU.out (fun h => a3 h.2.1.2.2)
          have E3 : decide (to_ ≤ 1099511627776) = false := decide_eq_false a3
          clear HU HF
          go_wp2_with fail
          go_ret
          exact ⟨rfl, B1⟩
      · obtain rfl := HU.out (fun h => a2 h.2.1.2.1)
        have E2 : decide (0 ≤ to_) = false := decide_eq_false a2
        clear HU HF
        go_wp2_with fail
        go_ret
        exact ⟨rfl, B1⟩
  · have g5 : (fr != 0) = true := bne_iff_ne.2 h5
    go_enter Try.func54, Try.ntmps54
    go_wp2_with fail
    rename_i KK hKK
    have HKK := Lib.hid hKK
    clear hKK
    refine wp_region_held_drew (S := (fun W => W.cell? ⟨w.heap.size, 1, none⟩ = some (.string s) ∧ W.cell? ⟨w.heap.size, 2, none⟩ = some (.int .i64 fr) ∧ W.cell? ⟨w.heap.size, 3, none⟩ = some (.int .i64 to_) ∧ W.cell? ⟨w.heap.size, 4, none⟩ = some (.slice A3 kl cap3))) (by kernel_rfl) ⟨kb.cell 1, kb.cell 2, kb.cell 3, kb.cell 4⟩ (fun hHeld => ?_)
    refine hyY (some 6) 0 rfl hHeld ?_; go_frame
    refine hyY (some 7) 1 rfl hHeld ?_; go_frame
    refine hyY (some 8) 2 rfl hHeld ?_; go_frame
    refine hyY (some 9) 3 rfl hHeld ?_; go_frame
    refine hyY (some 10) 4 rfl hHeld ?_; go_frame
    refine hyY (some 11) 5 rfl hHeld ?_; go_frame
    refine hyY (some 12) 6 rfl hHeld ?_; go_frame
    refine hyN (some 13) 7 rfl hHeld ?_; go_frame
    refine hyN (some 14) 8 rfl hHeld ?_; go_frame
    refine hyN (some 15) 9 rfl hHeld ?_; go_frame
    refine hyY (some 16) 10 rfl hHeld ?_; go_frame
    refine hyY (some 17) 11 rfl hHeld ?_; go_frame
    refine hyY (some 18) 12 rfl hHeld ?_; go_frame
    refine hyY (some 19) 13 rfl hHeld ?_; go_frame
    refine hyY (some 3) 14 rfl hHeld ?_; go_frame
    refine hyY (some 4) 15 rfl hHeld ?_; go_frame
    refine hyY (some 5) 16 rfl hHeld ?_; go_frame
    refine wpAnyH_done (by kernel_rfl) ?_ _
    have hKK := HKK.out
    cases nm with
    | true =>
      obtain rfl := HU.out (fun h => HN2.out rfl h.1)
      clear HU HF
      go_wp2_with fail
      go_ret
      exact ⟨rfl, B1⟩
    | false =>
      have hl0 := HN1.out rfl
      subst hl0
      by_cases a1 : 0 ≤ fr
      · have E1 : decide (0 ≤ fr) = true := decide_eq_true a1
        by_cases a2 : fr ≤ to_
        · have E2 : decide (fr ≤ to_) = true := decide_eq_true a2
          by_cases a3 : to_ ≤ 1099511627776
          · have E3 : decide (to_ ≤ 1099511627776) = true := decide_eq_true a3
            by_cases a4 : kl = 0
            · subst a4
              obtain rfl := HF.out (by refine ⟨?_, ⟨?_, a2, a3⟩, ?_⟩ <;> first | trivial | rfl | omega)
              clear HU HF
              go_wp2_with fail
              go_ret
              exact ⟨rfl, B1⟩
            · obtain rfl := HU.out (fun h => a4 h.2.2)
              have g7 : ((kl : Int) == 0) = false := beq_eq_false_iff_ne.2 (by omega)
              clear HU HF
              go_wp2_with fail
              go_ret
              exact ⟨rfl, B1⟩
          · obtain rfl := HU.out (fun h => a3 h.2.1.2.2)
            have E3 : decide (to_ ≤ 1099511627776) = false := decide_eq_false a3
            clear HU HF
            go_wp2_with fail
            go_ret
            exact ⟨rfl, B1⟩
        · obtain rfl := HU.out (fun h => a2 h.2.1.2.1)
          have E2 : decide (fr ≤ to_) = false := decide_eq_false a2
          clear HU HF
          go_wp2_with fail
          go_ret
          exact ⟨rfl, B1⟩
      · obtain rfl := HU.out (fun h => a1 h.2.1.1)
        have E1 : decide (0 ≤ fr) = false := decide_eq_false a1
        clear HU HF
        go_wp2_with fail
        go_ret
        exact ⟨rfl, B1⟩
end
end Go.Proofs.Ytdkmjdcddldjgaa
