/-
  RuE: The program's Word and fits (layer 17), over the loaded program: each one's contract. No condition but sizes.
-/
import Derived.Test.YthindhlogkhclaaGreatDoorPz08
import Derived.Test.YthindhlogkhclaaGreatDoorPz10
import Derived.Test.YthindhlogkhclaaGreatDoorPz09
import Derived.Test.YthindhlogkhclaaGreatDoorPz12
import Derived.Test.YthindhlogkhclaaGreatDoorPz13
set_option linter.unusedVariables false
set_option maxRecDepth 100000
namespace Go.Proofs.YthindhlogkhclaaGreatDoor
section
open Go.RowKit
theorem contains_any (l : List UInt8) (c : UInt8) (w : World) :
    Calls Tryz.prog 23 #[strV l, strV [c]] w fun e w' => e = .returned (.bool (l.contains c)) ∧ w' = w := by
  have hi := index_out l c
  have hk := index_in_set l c
  rw [← hk]
  unfold strV at *
  generalize (⟨l.toArray⟩ : ByteArray) = s at *
  generalize (⟨[c].toArray⟩ : ByteArray) = t at *
  generalize Lib.indexByte l c = k at *
  clear hk
  go_enter Tryz.func23, Tryz.ntmps23
  go_wp2_with (go_at_call 47; refine (hi _).mono ?_; rintro e w' ⟨rfl, rfl⟩)
  go_ret
  exact ⟨rfl, rfl⟩
theorem word_c {c : Nat} (h : wordC c = true) : okc c = true := by
  unfold wordC lowC digC at h
  unfold okc
  simp at h ⊢
  omega
theorem word_name {l : List UInt8} (h : nameS l = false) : wordS l = false := by
  cases hq : wordS l with
  | false => rfl
  | true =>
    unfold wordS at hq
    simp only [Bool.and_eq_true, decide_eq_true_eq] at hq
    obtain ⟨⟨⟨⟨h1, h2⟩, _⟩, _⟩, h5⟩ := hq
    have : nameS l = true := (name_iff l).2 ⟨h1, h2, fun b hb => word_c (List.all_eq_true.1 h5 b hb)⟩
    rw [h] at this
    cases this
theorem word_dot {l : List UInt8} (h : l.contains 46 = true) : wordS l = false := by
  cases hq : wordS l with
  | false => rfl
  | true =>
    unfold wordS at hq
    simp only [Bool.and_eq_true, decide_eq_true_eq] at hq
    have := List.all_eq_true.1 hq.2 46 (by simpa using h)
    exact absurd this (by decide)
theorem word_yes {l : List UInt8} {x : UInt8} (hk : decide (l ∈ keptL) = false) (hn : nameS l = true) (hx : l[0]? = some x) (h : ¬ x.toNat < 97) (hd : l.contains 46 = false) : wordS l = true := by
  obtain ⟨h1, h2, h3⟩ := (name_iff l).1 hn
  have hx2 : okc x.toNat = true := h3 x (List.mem_of_getElem? hx)
  refine word_is (by omega) (by omega) hx ?_ hk (List.all_eq_true.2 fun b hb => ?_)
  · unfold okc at hx2
    unfold lowC
    simp at hx2 ⊢
    omega
  · have hb2 := h3 b hb
    have hb3 : ¬ b.toNat = 46 := by
      intro e
      have : b = 46 := by
        apply UInt8.toNat_inj.1
        rw [e]; rfl
      subst this
      have : l.contains 46 = true := by simpa using hb
      rw [hd] at this
      cases this
    unfold okc at hb2
    unfold wordC lowC digC
    simp at hb2 ⊢
    omega
set_option maxHeartbeats 4000000 in
theorem word_any (l : List UInt8) (w : World) : Calls Tryz.prog 89 #[strV l] w fun e w' => e = .returned (.bool (wordS l)) ∧ Below w.heap.size w w' := by
  have hn := name_any l
  have hc := contains_any l 46
  have HAT2 : Hid (∀ s : ByteArray, s = ⟨l.toArray⟩ → ∀ (k : Nat) (x : UInt8), l[k]? = some x → ∀ W : World, (Instr.index 9 (.string s) (.int .i64 (k : Int))).run Tryz.prog W = .ok (.int .u8 (x.toNat : Int)) W) := fun s e => by subst e; exact txt_at l
  unfold strV at hn hc ⊢
  obtain ⟨s, hs⟩ : ∃ s : ByteArray, s = ⟨l.toArray⟩ := ⟨_, rfl⟩
  rw [← hs] at hn hc ⊢
  have HAT := Lib.hid (HAT2.out s hs)
  clear HAT2
  by_cases h0 : l = [99, 108, 97, 115, 115]
  · obtain ⟨e0, E0⟩ := eq_two s l [99, 108, 97, 115, 115] hs true (decide_eq_true h0)
    rw [word_kept (l := l) (by rw [h0]; decide)]
    clear hs hn hc HAT h0
    go_enter Tryz.func89, Tryz.ntmps89
    go_wp2
    go_ret
    exact ⟨rfl, Below.refl _ _⟩
  obtain ⟨e0, E0⟩ := eq_two s l [99, 108, 97, 115, 115] hs false (decide_eq_false h0)
  by_cases h1 : l = [100, 101, 102, 97, 117, 108, 116]
  · obtain ⟨e1, E1⟩ := eq_two s l [100, 101, 102, 97, 117, 108, 116] hs true (decide_eq_true h1)
    rw [word_kept (l := l) (by rw [h1]; decide)]
    clear hs hn hc HAT h0 h1
    go_enter Tryz.func89, Tryz.ntmps89
    go_wp2
    go_ret
    exact ⟨rfl, Below.refl _ _⟩
  obtain ⟨e1, E1⟩ := eq_two s l [100, 101, 102, 97, 117, 108, 116] hs false (decide_eq_false h1)
  by_cases h2 : l = [107, 101, 101, 112]
  · obtain ⟨e2, E2⟩ := eq_two s l [107, 101, 101, 112] hs true (decide_eq_true h2)
    rw [word_kept (l := l) (by rw [h2]; decide)]
    clear hs hn hc HAT h0 h1 h2
    go_enter Tryz.func89, Tryz.ntmps89
    go_wp2
    go_ret
    exact ⟨rfl, Below.refl _ _⟩
  obtain ⟨e2, E2⟩ := eq_two s l [107, 101, 101, 112] hs false (decide_eq_false h2)
  by_cases h3 : l = [97, 102, 116, 101, 114]
  · obtain ⟨e3, E3⟩ := eq_two s l [97, 102, 116, 101, 114] hs true (decide_eq_true h3)
    rw [word_kept (l := l) (by rw [h3]; decide)]
    clear hs hn hc HAT h0 h1 h2 h3
    go_enter Tryz.func89, Tryz.ntmps89
    go_wp2
    go_ret
    exact ⟨rfl, Below.refl _ _⟩
  obtain ⟨e3, E3⟩ := eq_two s l [97, 102, 116, 101, 114] hs false (decide_eq_false h3)
  by_cases h4 : l = [111, 114]
  · obtain ⟨e4, E4⟩ := eq_two s l [111, 114] hs true (decide_eq_true h4)
    rw [word_kept (l := l) (by rw [h4]; decide)]
    clear hs hn hc HAT h0 h1 h2 h3 h4
    go_enter Tryz.func89, Tryz.ntmps89
    go_wp2
    go_ret
    exact ⟨rfl, Below.refl _ _⟩
  obtain ⟨e4, E4⟩ := eq_two s l [111, 114] hs false (decide_eq_false h4)
  by_cases h5 : l = [97, 110, 100]
  · obtain ⟨e5, E5⟩ := eq_two s l [97, 110, 100] hs true (decide_eq_true h5)
    rw [word_kept (l := l) (by rw [h5]; decide)]
    clear hs hn hc HAT h0 h1 h2 h3 h4 h5
    go_enter Tryz.func89, Tryz.ntmps89
    go_wp2
    go_ret
    exact ⟨rfl, Below.refl _ _⟩
  obtain ⟨e5, E5⟩ := eq_two s l [97, 110, 100] hs false (decide_eq_false h5)
  by_cases h6 : l = [116, 104, 101, 110]
  · obtain ⟨e6, E6⟩ := eq_two s l [116, 104, 101, 110] hs true (decide_eq_true h6)
    rw [word_kept (l := l) (by rw [h6]; decide)]
    clear hs hn hc HAT h0 h1 h2 h3 h4 h5 h6
    go_enter Tryz.func89, Tryz.ntmps89
    go_wp2
    go_ret
    exact ⟨rfl, Below.refl _ _⟩
  obtain ⟨e6, E6⟩ := eq_two s l [116, 104, 101, 110] hs false (decide_eq_false h6)
  by_cases h7 : l = [100, 101, 115, 116, 114, 111, 121]
  · obtain ⟨e7, E7⟩ := eq_two s l [100, 101, 115, 116, 114, 111, 121] hs true (decide_eq_true h7)
    rw [word_kept (l := l) (by rw [h7]; decide)]
    clear hs hn hc HAT h0 h1 h2 h3 h4 h5 h6 h7
    go_enter Tryz.func89, Tryz.ntmps89
    go_wp2
    go_ret
    exact ⟨rfl, Below.refl _ _⟩
  obtain ⟨e7, E7⟩ := eq_two s l [100, 101, 115, 116, 114, 111, 121] hs false (decide_eq_false h7)
  by_cases h8 : l = [114, 101, 118, 105, 101, 119]
  · obtain ⟨e8, E8⟩ := eq_two s l [114, 101, 118, 105, 101, 119] hs true (decide_eq_true h8)
    rw [word_kept (l := l) (by rw [h8]; decide)]
    clear hs hn hc HAT h0 h1 h2 h3 h4 h5 h6 h7 h8
    go_enter Tryz.func89, Tryz.ntmps89
    go_wp2
    go_ret
    exact ⟨rfl, Below.refl _ _⟩
  obtain ⟨e8, E8⟩ := eq_two s l [114, 101, 118, 105, 101, 119] hs false (decide_eq_false h8)
  have hk := kept_no h0 h1 h2 h3 h4 h5 h6 h7 h8
  have HN := Lib.hid (word_name (l := l))
  have HD := Lib.hid (word_dot (l := l))
  have HY := Lib.hid (fun x hn hx h hd => word_yes (l := l) (x := x) hk hn hx h hd)
  have HP : Hid (nameS l = true → 0 < l.length) := fun h => by have := (name_iff l).1 h; omega
  clear hs hk h0 h1 h2 h3 h4 h5 h6 h7 h8
  obtain ⟨r, hr⟩ : ∃ r, r = wordS l := ⟨_, rfl⟩
  have HW2 : Hid (r = wordS l) := hr
  rw [← hr] at HN HD HY ⊢
  clear hr
  generalize nameS l = nm at *
  generalize l.contains 46 = dt at *
  cases nm with
  | false =>
    obtain rfl := HN.out rfl
    clear HN HD HY HP hc HAT
    go_enter Tryz.func89, Tryz.ntmps89
    go_wp2_with (go_at_call 26; refine (hn _).mono ?_; rintro e w' ⟨rfl, b⟩)
    go_ret
    exact ⟨rfl, b⟩
  | true =>
    obtain ⟨x, hx⟩ : ∃ x, l[0]? = some x := ⟨_, List.getElem?_eq_getElem (HP.out rfl)⟩
    have hi := HAT.out 0 x hx
    rw [show ((0 : Nat) : Int) = 0 from rfl] at hi
    replace HY := Lib.hid (fun h hd => HY.out x rfl hx h hd)
    have HL : Hid (x.toNat < 97 → r = false) := fun h => by
      cases r with
      | false => rfl
      | true =>
        exfalso
        have hw : wordS l = true := HW2.out.symm
        rw [word_head hx (decide_eq_false (by omega))] at hw
        cases hw
    clear HN HP HAT hx
    generalize x.toNat = c at *
    by_cases h97 : c < 97
    · obtain rfl := HL.out h97
      have E97 : decide ((97 : Int) ≤ (c : Int)) = false := decide_eq_false (by omega)
      clear HL HD HY hc h97
      go_enter Tryz.func89, Tryz.ntmps89
      go_wp2_with (go_at_call 26; refine (hn _).mono ?_; rintro e w' ⟨rfl, b⟩)
      go_ret
      exact ⟨rfl, b⟩
    · have E97 : decide ((97 : Int) ≤ (c : Int)) = true := decide_eq_true (by omega)
      have hr : r = !dt := by
        cases dt with
        | true => exact HD.out rfl
        | false => exact HY.out h97 rfl
      subst hr
      clear HL HD HY h97
      go_enter Tryz.func89, Tryz.ntmps89
      go_wp2_with (first
        | (go_at_call 26; refine (hn _).mono ?_; rintro e w' ⟨rfl, b⟩)
        | (go_at_call 23; refine (hc _).mono ?_; rintro e w2 ⟨rfl, rfl⟩))
      go_ret
      exact ⟨rfl, b⟩
set_option maxHeartbeats 4000000 in
theorem fits_any (S : Nat → Prop) (f : Nat) (t : Nx (Ex f)) (v : Value) (w : World) (hv : EV w S (f + 1) v t) :
    Calls Tryz.prog 70 #[v] w fun e w' => e = .returned (.bool (fitsX t)) ∧ Below w.heap.size w w' := by
  obtain ⟨c0, c1, c2, c3, rfl, rfl, hk, rfl, hdy, rfl, hml, hks⟩ := hv
  obtain ⟨A3, cap3, rfl, hl3, hm3⟩ := hks.form
  clear hks
  have hw := word_any t.mile
  obtain ⟨r, hr⟩ : ∃ r, r = fitsX t := ⟨_, rfl⟩
  rw [← hr]
  have HU1 : Hid (t.op ≠ 1 → t.op ≠ 2 → t.op ≠ 3 → r = false) := fun a b c => hr.trans (unfit_op a b c)
  have HU2 : Hid (t.op = 1 → t.days < 0 → r = false) := fun a b => hr.trans (unfit_low a b)
  have HU3 : Hid (t.op = 1 → 1048576 < t.days → r = false) := fun a b => hr.trans (unfit_high a b)
  have HU4 : Hid (t.op = 1 → wordS t.mile = false → r = false) := fun a b => hr.trans (unfit_word a b)
  have HU5 : Hid (t.op = 1 → 0 < t.kids.length → r = false) := fun a b => hr.trans (unfit_kids a b)
  have HY1 : Hid (t.op = 1 → 0 ≤ t.days → t.days ≤ 1048576 → wordS t.mile = true → t.kids.length = 0 → r = true) := fun a b c e g => hr.trans (fit_one a b c e g)
  have HU6 : Hid (t.op ≠ 1 → t.days ≠ 0 → r = false) := fun a b => hr.trans (unfit_days a b)
  have HU7 : Hid (t.op ≠ 1 → t.mile ≠ [] → r = false) := fun a b => hr.trans (unfit_mile a b)
  have HU8 : Hid (t.op ≠ 1 → t.kids.length < 2 → r = false) := fun a b => hr.trans (unfit_few a b)
  have HF : Hid (t.op ≠ 1 → (t.op = 2 ∨ t.op = 3) → t.days = 0 → t.mile = [] → ¬ t.kids.length < 2 → r = true) := fun a b c e g => hr.trans (fit_many a b c e g)
  clear hr
  generalize t.op = k at *
  generalize t.days = dy at *
  generalize t.mile = l at *
  generalize t.kids.length = kl at *
  have HM := Lib.hid (fun h => eq_two ⟨l.toArray⟩ l [] rfl true (decide_eq_true h))
  have HM1 := Lib.hid (ne_not ⟨l.toArray⟩ l [] rfl)
  have HM2 := Lib.hid (ne_if ⟨l.toArray⟩ l [] rfl)
  unfold strV at *
  obtain ⟨s, hs⟩ : ∃ s : ByteArray, s = ⟨l.toArray⟩ := ⟨_, rfl⟩
  rw [← hs] at hw HM HM1 HM2 ⊢
  clear hs hk hdy hml
  have hlen : kl ≤ 9223372036854775807 := by unfold maxLen at hm3; omega
  have kb := KB.new w 42 #[.int .i64 k, .int .i64 dy, .string s, .slice A3 kl cap3]
  have B0 := (Below.refl w.heap.size w).alloc (Nat.le_refl _) (.cells #[.int .i64 k, .int .i64 dy, .string s, .slice A3 kl cap3] 42)
  by_cases h3 : k = 1
  · subst h3
    clear HU1 HU6 HU7 HU8 HF HM HM1 HM2
    by_cases h4 : dy < 0
    · obtain rfl := HU2.out rfl h4
      have E : decide (0 ≤ dy) = false := decide_eq_false (by omega)
      clear HU2 HU3 HU4 HU5 HY1 hw
      go_enter Tryz.func70, Tryz.ntmps70
      go_wp2_with fail
      go_ret
      exact ⟨rfl, B0⟩
    have E4 : decide (0 ≤ dy) = true := decide_eq_true (by omega)
    by_cases h5 : 1048576 < dy
    · obtain rfl := HU3.out rfl h5
      have E : decide (dy ≤ 1048576) = false := decide_eq_false (by omega)
      clear HU2 HU3 HU4 HU5 HY1 hw
      go_enter Tryz.func70, Tryz.ntmps70
      go_wp2_with fail
      go_ret
      exact ⟨rfl, B0⟩
    have E5 : decide (dy ≤ 1048576) = true := decide_eq_true (by omega)
    generalize wordS l = wd at *
    have hr : r = (wd && decide (kl = 0)) := by
      cases wd with
      | false => rw [HU4.out rfl rfl]; rfl
      | true =>
        by_cases h6 : kl = 0
        · rw [HY1.out rfl (by omega) (by omega) rfl h6, decide_eq_true h6]; rfl
        · rw [HU5.out rfl (by omega), decide_eq_false h6]; rfl
    clear HU2 HU3 HU4 HU5 HY1
    cases wd with
    | false =>
      rw [Bool.false_and] at hr
      subst hr
      go_enter Tryz.func70, Tryz.ntmps70
      go_wp2_with fail
      refine (hw _).mono ?_
      rintro e w1 ⟨rfl, b1⟩
      have B1 := B0.trans (b1.mono B0.size)
      go_wp2_with fail
      go_ret
      exact ⟨rfl, B1⟩
    | true =>
      rw [Bool.true_and] at hr
      by_cases h6 : kl = 0
      · subst h6
        obtain rfl : r = true := hr
        go_enter Tryz.func70, Tryz.ntmps70
        go_wp2_with fail
        refine (hw _).mono ?_
        rintro e w1 ⟨rfl, b1⟩
        have B1 := B0.trans (b1.mono B0.size)
        have K1 := kb.below b1 kb.lt
        have q3 : w1.cell? ⟨w.heap.size, 3, none⟩ = some (.slice A3 0 cap3) := K1.cell 3
        clear kb K1 hw
        go_wp2_with fail
        go_ret
        exact ⟨rfl, B1⟩
      · rw [decide_eq_false h6] at hr
        subst hr
        have E6 : ((kl : Int) == 0) = false := beq_eq_false_iff_ne.2 (by omega)
        have E7 : (kl == 0) = false := beq_eq_false_iff_ne.2 h6
        go_enter Tryz.func70, Tryz.ntmps70
        go_wp2_with fail
        refine (hw _).mono ?_
        rintro e w1 ⟨rfl, b1⟩
        have B1 := B0.trans (b1.mono B0.size)
        have K1 := kb.below b1 kb.lt
        have q3 : w1.cell? ⟨w.heap.size, 3, none⟩ = some (.slice A3 kl cap3) := K1.cell 3
        clear kb K1 hw
        go_wp2_with fail
        go_ret
        exact ⟨rfl, B1⟩
  have E3 : (k == 1) = false := beq_eq_false_iff_ne.2 h3
  clear HU2 HU3 HU4 HU5 HY1 hw
  by_cases h4 : k = 2 ∨ k = 3
  case neg =>
    obtain rfl := HU1.out h3 (fun h => h4 (.inl h)) (fun h => h4 (.inr h))
    have E4 : (k == 2) = false := beq_eq_false_iff_ne.2 (fun h => h4 (.inl h))
    have E5 : (k == 3) = false := beq_eq_false_iff_ne.2 (fun h => h4 (.inr h))
    clear HU1 HU6 HU7 HU8 HF HM HM1 HM2
    go_enter Tryz.func70, Tryz.ntmps70
    go_wp2_with fail
    go_ret
    exact ⟨rfl, B0⟩
  clear HU1
  have hr : r = (decide (dy = 0) && decide (l = []) && decide (2 ≤ kl)) := by
    by_cases h5 : dy = 0
    · by_cases h6 : l = []
      · by_cases h7 : kl < 2
        · rw [HU8.out h3 h7, decide_eq_false (by omega : ¬ 2 ≤ kl)]; simp
        · rw [HF.out h3 h4 h5 h6 h7, decide_eq_true h5, decide_eq_true h6, decide_eq_true (by omega : 2 ≤ kl)]; rfl
      · rw [HU7.out h3 h6, decide_eq_false h6]; simp
    · rw [HU6.out h3 h5, decide_eq_false h5]; simp
  clear HU6 HU7 HU8 HF
  have go : ∀ b3 : Bool, (k == 2) = !b3 → (b3 = true → (k == 3) = true) → Calls Tryz.prog 70 #[.agg #[.int .i64 k, .int .i64 dy, .string s, .slice A3 kl cap3]] w fun e w' => e = .returned (.bool r) ∧ Below w.heap.size w w' := by
    intro b3 hb2 hb3
    clear h4
    by_cases h5 : dy = 0
    case neg =>
      rw [decide_eq_false h5, Bool.false_and, Bool.false_and] at hr
      subst hr
      have E6 : (dy == 0) = false := beq_eq_false_iff_ne.2 h5
      clear HM HM1 HM2
      cases b3 with
      | true =>
        replace hb3 := hb3 rfl
        rw [Bool.not_true] at hb2
        go_enter Tryz.func70, Tryz.ntmps70
        go_wp2_with fail
        go_ret
        exact ⟨rfl, B0⟩
      | false =>
        clear hb3
        rw [Bool.not_false] at hb2
        go_enter Tryz.func70, Tryz.ntmps70
        go_wp2_with fail
        go_ret
        exact ⟨rfl, B0⟩
    subst h5
    by_cases h6 : l = []
    case neg =>
      rw [decide_eq_false h6, Bool.and_false, Bool.false_and] at hr
      subst hr
      have E6 := (HM2.out h6).2.2
      clear HM HM1 HM2
      cases b3 with
      | true =>
        replace hb3 := hb3 rfl
        rw [Bool.not_true] at hb2
        go_enter Tryz.func70, Tryz.ntmps70
        go_wp2_with fail
        go_ret
        exact ⟨rfl, B0⟩
      | false =>
        clear hb3
        rw [Bool.not_false] at hb2
        go_enter Tryz.func70, Tryz.ntmps70
        go_wp2_with fail
        go_ret
        exact ⟨rfl, B0⟩
    rw [decide_eq_true (rfl : (0 : Int) = 0), decide_eq_true h6, Bool.true_and, Bool.true_and] at hr
    have E6 := (HM1.out h6).2.2
    clear HM HM1 HM2
    by_cases h7 : 2 ≤ kl
    · rw [decide_eq_true h7] at hr
      subst hr
      have E8 : decide ((2 : Int) ≤ (kl : Int)) = true := decide_eq_true (by omega)
      have E9 : decide (2 ≤ kl) = true := decide_eq_true h7
      cases b3 with
      | true =>
        replace hb3 := hb3 rfl
        rw [Bool.not_true] at hb2
        go_enter Tryz.func70, Tryz.ntmps70
        go_wp2_with fail
        go_ret
        exact ⟨rfl, B0⟩
      | false =>
        clear hb3
        rw [Bool.not_false] at hb2
        go_enter Tryz.func70, Tryz.ntmps70
        go_wp2_with fail
        go_ret
        exact ⟨rfl, B0⟩
    · rw [decide_eq_false h7] at hr
      subst hr
      have E8 : decide ((2 : Int) ≤ (kl : Int)) = false := decide_eq_false (by omega)
      have E9 : decide (2 ≤ kl) = false := decide_eq_false h7
      cases b3 with
      | true =>
        replace hb3 := hb3 rfl
        rw [Bool.not_true] at hb2
        go_enter Tryz.func70, Tryz.ntmps70
        go_wp2_with fail
        go_ret
        exact ⟨rfl, B0⟩
      | false =>
        clear hb3
        rw [Bool.not_false] at hb2
        go_enter Tryz.func70, Tryz.ntmps70
        go_wp2_with fail
        go_ret
        exact ⟨rfl, B0⟩
  rcases h4 with rfl | rfl
  · exact go false rfl (fun h => by cases h)
  · exact go true rfl (fun _ => rfl)
end
end Go.Proofs.YthindhlogkhclaaGreatDoor
