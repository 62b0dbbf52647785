/-
  Txs: Texts (strings) byte by byte: a byte of one; the first bytes of one; a part; two joined. Over the loaded program. No condition but sizes.
  RuA: The document's Kept and Word (layer 17), over the loaded program: each one's contract. No condition but sizes.
-/
import Derived.Test.YthindhlogkhclaaGreatDoorPz07
import Derived.Lib.Strings
import Derived.Laws.Strings2
import Derived.Laws.Strings3
import Derived.Laws.Concat
import Derived.Test.YthindhlogkhclaaGreatDoorPz03
import Derived.Lib.Hide
import Derived.BigQuiet
set_option linter.unusedVariables false
set_option maxRecDepth 100000
namespace Go.Proofs.YthindhlogkhclaaGreatDoor
section
open Go.RowKit
theorem str_size (l : List UInt8) : (⟨l.toArray⟩ : ByteArray).size = l.length := rfl
theorem txt_at (l : List UInt8) (k : Nat) (x : UInt8) (hx : l[k]? = some x) : ∀ W : World, (Instr.index 9 (.string ⟨l.toArray⟩) (.int .i64 (k : Int))).run Tryz.prog W = .ok (.int .u8 (x.toNat : Int)) W := fun W => by
  have hk := (List.getElem?_eq_some_iff.1 hx).1
  have hs : (⟨l.toArray⟩ : ByteArray).size = l.length := rfl
  rw [run_index_string W 9 ⟨l.toArray⟩ .i64 (k : Int) Tryz.underlying9, dif_pos ⟨by omega, by rw [hs]; omega⟩]
  simp only [Int.toNat_natCast]
  have e : (⟨l.toArray⟩ : ByteArray)[k]'(by rw [hs]; exact hk) = x := by
    have := (List.getElem?_eq_some_iff.1 hx).2
    exact this
  rw [e]
theorem txt_to (l : List UInt8) (k : Nat) (hk : k ≤ l.length) : ∀ W : World, (Instr.slice 9 (.string ⟨l.toArray⟩) none (some (.int .i64 (k : Int))) none).run Tryz.prog W = .ok (.string ⟨(l.take k).toArray⟩) W := fun W => by
  rw [run_slice_string_to_if W 9 ⟨l.toArray⟩ .i64 (k : Int) Tryz.underlying9, if_pos ⟨by omega, by rw [str_size]; omega⟩, Int.toNat_natCast, ByteArray.extract_mk]
  simp
theorem txt_mid (l : List UInt8) (i j : IntKind) (a b : Nat) (hab : a ≤ b) (hb : b ≤ l.length) : ∀ W : World, (Instr.slice 9 (.string ⟨l.toArray⟩) (some (.int i (a : Int))) (some (.int j (b : Int))) none).run Tryz.prog W = .ok (.string ⟨((l.drop a).take (b - a)).toArray⟩) W := fun W => by
  rw [run_slice_string W 9 ⟨l.toArray⟩ i j (a : Int) (b : Int) Tryz.underlying9 (by omega) (by omega) (by rw [str_size]; omega), Int.toNat_natCast, Int.toNat_natCast, ByteArray.extract_mk]
theorem txt_from (l : List UInt8) (k : Nat) (hk : k ≤ l.length) : ∀ W : World, (Instr.slice 9 (.string ⟨l.toArray⟩) (some (.int .i64 (k : Int))) none none).run Tryz.prog W = .ok (.string ⟨(l.drop k).toArray⟩) W := fun W => by
  rw [run_slice_string_from_if W 9 ⟨l.toArray⟩ .i64 (k : Int) Tryz.underlying9, if_pos ⟨by omega, by rw [str_size]; omega⟩, Int.toNat_natCast, ByteArray.extract_mk]
  have : ((l.drop k).take (l.length - k)) = l.drop k := List.take_of_length_le (by simp)
  simp [str_size, this]
theorem txt_add (l m : List UInt8) (h : l.length + m.length ≤ 9223372036854775807) : ∀ W : World, (Op.stringOp .add ⟨l.toArray⟩ ⟨m.toArray⟩).run Tryz.prog W = .ok (.string ⟨(l ++ m).toArray⟩) W := fun W => by
  rw [run_string_add_sum W _ _ (by rw [str_size, str_size]; exact h), ByteArray.mk_append_mk]
end
section
open Go.RowKit
theorem eq_lit (l m : List UInt8) : ((⟨l.toArray⟩ : ByteArray).toList == m) = decide (l = m) := by
  rw [Lib.toList_data]
  show (l == m) = _
  by_cases h : l = m
  · rw [decide_eq_true h]; exact beq_iff_eq.2 h
  · rw [decide_eq_false h]; exact beq_eq_false_iff_ne.2 h
theorem eq_two (s : ByteArray) (l m : List UInt8) (hs : s = ⟨l.toArray⟩) (b : Bool) (h : decide (l = m) = b) : (s.toList == m) = b ∧ (s.toList == (⟨m.toArray⟩ : ByteArray).toList) = b := by
  subst hs
  exact ⟨(eq_lit l m).trans h, (str_eq l m).trans h⟩
theorem ne_if (s : ByteArray) (l m : List UInt8) (hs : s = ⟨l.toArray⟩) (h : ¬ l = m) : (s.toList != m) = true ∧ (s.toList != (⟨m.toArray⟩ : ByteArray).toList) = true ∧ ¬ s.toList = m := by
  obtain ⟨h1, h2⟩ := eq_two s l m hs false (decide_eq_false h)
  exact ⟨by rw [bne, h1]; rfl, by rw [bne, h2]; rfl, beq_eq_false_iff_ne.1 h1⟩
theorem ne_not (s : ByteArray) (l m : List UInt8) (hs : s = ⟨l.toArray⟩) (h : l = m) : (s.toList != m) = false ∧ (s.toList != (⟨m.toArray⟩ : ByteArray).toList) = false ∧ s.toList = m := by
  obtain ⟨h1, h2⟩ := eq_two s l m hs true (decide_eq_true h)
  exact ⟨by rw [bne, h1]; rfl, by rw [bne, h2]; rfl, beq_iff_eq.1 h1⟩
theorem kept_no {l : List UInt8} (h0 : ¬ l = [99, 108, 97, 115, 115]) (h1 : ¬ l = [100, 101, 102, 97, 117, 108, 116]) (h2 : ¬ l = [107, 101, 101, 112]) (h3 : ¬ l = [97, 102, 116, 101, 114]) (h4 : ¬ l = [111, 114]) (h5 : ¬ l = [97, 110, 100]) (h6 : ¬ l = [116, 104, 101, 110]) (h7 : ¬ l = [100, 101, 115, 116, 114, 111, 121]) (h8 : ¬ l = [114, 101, 118, 105, 101, 119]) : decide (l ∈ keptL) = false := by
  apply decide_eq_false
  unfold keptL
  simp only [List.mem_cons, List.not_mem_nil, or_false, not_or]
  exact ⟨h0, h1, h2, h3, h4, h5, h6, h7, h8⟩
set_option maxHeartbeats 4000000 in
theorem kept_any (l : List UInt8) (w : World) : Calls Tryz.prog 108 #[strV l] w fun e w' => e = .returned (.bool (decide (l ∈ keptL))) ∧ w = w' := by
  unfold strV
  obtain ⟨s, hs⟩ : ∃ s : ByteArray, s = ⟨l.toArray⟩ := ⟨_, rfl⟩
  rw [← hs]
  by_cases h0 : l = [99, 108, 97, 115, 115]
  · obtain ⟨e0, E0⟩ := eq_two s l [99, 108, 97, 115, 115] hs true (decide_eq_true h0)
    rw [show decide (l ∈ keptL) = true by rw [h0]; decide]
    clear hs h0
    go_enter Tryz.func108, Tryz.ntmps108
    go_wp2
    go_ret
    exact ⟨rfl, rfl⟩
  obtain ⟨e0, E0⟩ := eq_two s l [99, 108, 97, 115, 115] hs false (decide_eq_false h0)
  by_cases h1 : l = [100, 101, 102, 97, 117, 108, 116]
  · obtain ⟨e1, E1⟩ := eq_two s l [100, 101, 102, 97, 117, 108, 116] hs true (decide_eq_true h1)
    rw [show decide (l ∈ keptL) = true by rw [h1]; decide]
    clear hs h0 h1
    go_enter Tryz.func108, Tryz.ntmps108
    go_wp2
    go_ret
    exact ⟨rfl, rfl⟩
  obtain ⟨e1, E1⟩ := eq_two s l [100, 101, 102, 97, 117, 108, 116] hs false (decide_eq_false h1)
  by_cases h2 : l = [107, 101, 101, 112]
  · obtain ⟨e2, E2⟩ := eq_two s l [107, 101, 101, 112] hs true (decide_eq_true h2)
    rw [show decide (l ∈ keptL) = true by rw [h2]; decide]
    clear hs h0 h1 h2
    go_enter Tryz.func108, Tryz.ntmps108
    go_wp2
    go_ret
    exact ⟨rfl, rfl⟩
  obtain ⟨e2, E2⟩ := eq_two s l [107, 101, 101, 112] hs false (decide_eq_false h2)
  by_cases h3 : l = [97, 102, 116, 101, 114]
  · obtain ⟨e3, E3⟩ := eq_two s l [97, 102, 116, 101, 114] hs true (decide_eq_true h3)
    rw [show decide (l ∈ keptL) = true by rw [h3]; decide]
    clear hs h0 h1 h2 h3
    go_enter Tryz.func108, Tryz.ntmps108
    go_wp2
    go_ret
    exact ⟨rfl, rfl⟩
  obtain ⟨e3, E3⟩ := eq_two s l [97, 102, 116, 101, 114] hs false (decide_eq_false h3)
  by_cases h4 : l = [111, 114]
  · obtain ⟨e4, E4⟩ := eq_two s l [111, 114] hs true (decide_eq_true h4)
    rw [show decide (l ∈ keptL) = true by rw [h4]; decide]
    clear hs h0 h1 h2 h3 h4
    go_enter Tryz.func108, Tryz.ntmps108
    go_wp2
    go_ret
    exact ⟨rfl, rfl⟩
  obtain ⟨e4, E4⟩ := eq_two s l [111, 114] hs false (decide_eq_false h4)
  by_cases h5 : l = [97, 110, 100]
  · obtain ⟨e5, E5⟩ := eq_two s l [97, 110, 100] hs true (decide_eq_true h5)
    rw [show decide (l ∈ keptL) = true by rw [h5]; decide]
    clear hs h0 h1 h2 h3 h4 h5
    go_enter Tryz.func108, Tryz.ntmps108
    go_wp2
    go_ret
    exact ⟨rfl, rfl⟩
  obtain ⟨e5, E5⟩ := eq_two s l [97, 110, 100] hs false (decide_eq_false h5)
  by_cases h6 : l = [116, 104, 101, 110]
  · obtain ⟨e6, E6⟩ := eq_two s l [116, 104, 101, 110] hs true (decide_eq_true h6)
    rw [show decide (l ∈ keptL) = true by rw [h6]; decide]
    clear hs h0 h1 h2 h3 h4 h5 h6
    go_enter Tryz.func108, Tryz.ntmps108
    go_wp2
    go_ret
    exact ⟨rfl, rfl⟩
  obtain ⟨e6, E6⟩ := eq_two s l [116, 104, 101, 110] hs false (decide_eq_false h6)
  by_cases h7 : l = [100, 101, 115, 116, 114, 111, 121]
  · obtain ⟨e7, E7⟩ := eq_two s l [100, 101, 115, 116, 114, 111, 121] hs true (decide_eq_true h7)
    rw [show decide (l ∈ keptL) = true by rw [h7]; decide]
    clear hs h0 h1 h2 h3 h4 h5 h6 h7
    go_enter Tryz.func108, Tryz.ntmps108
    go_wp2
    go_ret
    exact ⟨rfl, rfl⟩
  obtain ⟨e7, E7⟩ := eq_two s l [100, 101, 115, 116, 114, 111, 121] hs false (decide_eq_false h7)
  by_cases h8 : l = [114, 101, 118, 105, 101, 119]
  · obtain ⟨e8, E8⟩ := eq_two s l [114, 101, 118, 105, 101, 119] hs true (decide_eq_true h8)
    rw [show decide (l ∈ keptL) = true by rw [h8]; decide]
    clear hs h0 h1 h2 h3 h4 h5 h6 h7 h8
    go_enter Tryz.func108, Tryz.ntmps108
    go_wp2
    go_ret
    exact ⟨rfl, rfl⟩
  obtain ⟨e8, E8⟩ := eq_two s l [114, 101, 118, 105, 101, 119] hs false (decide_eq_false h8)
  rw [kept_no h0 h1 h2 h3 h4 h5 h6 h7 h8]
  clear hs h0 h1 h2 h3 h4 h5 h6 h7 h8
  go_enter Tryz.func108, Tryz.ntmps108
  go_wp2
  go_ret
  exact ⟨rfl, rfl⟩
theorem wall_step {l : List UInt8} {k : Nat} {x : UInt8} (hx : l[k]? = some x) (h : ((l.take k).all fun b => wordC b.toNat) = true) (ho : wordC x.toNat = true) : ((l.take (k + 1)).all fun b => wordC b.toNat) = true := by
  rw [List.take_add_one, hx, List.all_append, h]
  simp [ho]
theorem wall_stop {l : List UInt8} {k : Nat} {x : UInt8} (hx : l[k]? = some x) (ho : wordC x.toNat = false) : wordS l = false := by
  unfold wordS
  have : (l.all fun b => wordC b.toNat) = false := by
    cases hq : l.all fun b => wordC b.toNat with
    | false => rfl
    | true =>
      have := List.all_eq_true.1 hq x (List.mem_of_getElem? hx)
      rw [ho] at this
      cases this
  rw [this]; simp
theorem word_short {l : List UInt8} (h : l.length < 1) : wordS l = false := by unfold wordS; rw [decide_eq_false (by omega)]; simp
theorem word_long {l : List UInt8} (h : 16 < l.length) : wordS l = false := by unfold wordS; rw [decide_eq_false (by omega : ¬ l.length ≤ 16)]; simp
theorem word_head {l : List UInt8} {x : UInt8} (hx : l[0]? = some x) (h : lowC x.toNat = false) : wordS l = false := by
  unfold wordS
  cases l with
  | nil => simp at hx
  | cons c m =>
    simp at hx
    subst hx
    simp [h]
theorem word_kept {l : List UInt8} (h : decide (l ∈ keptL) = true) : wordS l = false := by unfold wordS; rw [h]; simp
theorem word_is {l : List UInt8} {x : UInt8} (h1 : ¬ l.length < 1) (h2 : ¬ 16 < l.length) (hx : l[0]? = some x) (h : lowC x.toNat = true) (hk : decide (l ∈ keptL) = false) (ha : (l.all fun b => wordC b.toNat) = true) : wordS l = true := by
  unfold wordS
  cases l with
  | nil => simp at hx
  | cons c m =>
    simp at hx
    subst hx
    rw [decide_eq_true (by omega), decide_eq_true (by omega), hk, ha]
    simp [h]
set_option maxHeartbeats 4000000 in
theorem rword_any (l : List UInt8) (hl : l.length ≤ maxLen) (w : World) :
    Calls Tryz.prog 94 #[strV l] w fun e w' => e = .returned (.bool (wordS l)) ∧ w = w' := by
  have hs : ((⟨l.toArray⟩ : ByteArray).size : Int) = (l.length : Int) := rfl
  have HAT := Lib.hid (txt_at l)
  have hk := kept_any l
  have hml : l.length ≤ 9223372036854775807 := by unfold maxLen at hl; omega
  obtain ⟨r, hr⟩ : ∃ r, r = wordS l := ⟨_, rfl⟩
  rw [← hr]
  have HR := Lib.hid hr
  unfold strV at hk ⊢
  clear hr hl
  have HAT2 : Hid (∀ s : ByteArray, s = ⟨l.toArray⟩ → ∀ (k : Nat) (x : UInt8), l[k]? = some x → ∀ W : World, (Instr.index 9 (.string s) (.int .i64 (k : Int))).run Tryz.prog W = .ok (.int .u8 (x.toNat : Int)) W) := fun s e => by subst e; exact HAT.out
  obtain ⟨s, hse⟩ : ∃ s : ByteArray, s = ⟨l.toArray⟩ := ⟨_, rfl⟩
  rw [← hse] at hs hk ⊢
  replace HAT := Lib.hid (HAT2.out s hse)
  clear HAT2 hse
  by_cases h1 : l.length < 1
  · have hr := HR.out
    rw [word_short h1] at hr
    have E : decide ((l.length : Int) < 1) = true := decide_eq_true (by omega)
    clear HR HAT hk
    subst hr
    go_enter Tryz.func94, Tryz.ntmps94
    go_wp2
    go_ret
    exact ⟨rfl, rfl⟩
  by_cases h2 : 16 < l.length
  · have hr := HR.out
    rw [word_long h2] at hr
    have E : decide ((l.length : Int) < 1) = false := decide_eq_false (by omega)
    have E2 : decide ((16 : Int) < (l.length : Int)) = true := decide_eq_true (by omega)
    clear HR HAT hk
    subst hr
    go_enter Tryz.func94, Tryz.ntmps94
    go_wp2
    go_ret
    exact ⟨rfl, rfl⟩
  have E : decide ((l.length : Int) < 1) = false := decide_eq_false (by omega)
  have E2 : decide ((16 : Int) < (l.length : Int)) = false := decide_eq_false (by omega)
  obtain ⟨c0, hc0⟩ : ∃ x, l[0]? = some x := ⟨_, List.getElem?_eq_getElem (by omega)⟩
  have hi0 := HAT.out 0 c0 hc0
  rw [show ((0 : Nat) : Int) = 0 from rfl] at hi0
  have HH := Lib.hid (word_head hc0)
  have HI := Lib.hid (fun h hk ha => word_is h1 h2 hc0 h hk ha)
  have HKK := Lib.hid (word_kept (l := l))
  have h256 := c0.toNat_lt
  generalize decide (l ∈ keptL) = kp at *
  generalize c0.toNat = c at *
  clear hc0
  by_cases h3 : c < 97
  · have hr := HR.out
    rw [HH.out (decide_eq_false (by omega))] at hr
    have E3 : decide ((c : Int) < 97) = true := decide_eq_true (by omega)
    clear HR HAT hk HH HI HKK
    subst hr
    go_enter Tryz.func94, Tryz.ntmps94
    go_wp2
    go_ret
    exact ⟨rfl, rfl⟩
  have E3 : decide ((c : Int) < 97) = false := decide_eq_false (by omega)
  by_cases h4 : 122 < c
  · have hr := HR.out
    rw [HH.out (decide_eq_false (by omega))] at hr
    have E4 : decide ((122 : Int) < (c : Int)) = true := decide_eq_true (by omega)
    clear HR HAT hk HH HI HKK
    subst hr
    go_enter Tryz.func94, Tryz.ntmps94
    go_wp2
    go_ret
    exact ⟨rfl, rfl⟩
  have E4 : decide ((122 : Int) < (c : Int)) = false := decide_eq_false (by omega)
  have hlow : lowC c = true := decide_eq_true (by omega)
  cases kp with
  | true =>
    have hr := HR.out
    rw [HKK.out rfl] at hr
    clear HR HAT HH HI HKK
    subst hr
    go_enter Tryz.func94, Tryz.ntmps94
    go_wp2_with (go_at_call 108; refine (hk _).mono ?_; rintro e w' ⟨rfl, rfl⟩)
    go_ret
    exact ⟨rfl, rfl⟩
  | false =>
    replace HI := Lib.hid (fun ha => HI.out hlow rfl ha)
    clear hlow HH HKK
    go_enter Tryz.func94, Tryz.ntmps94
    go_wp2_with (go_at_call 108; refine (hk _).mono ?_; rintro e w' ⟨rfl, rfl⟩)
    clear hi0 hk E E2 E3 E4 h1 h2 h3 h4 h256
    go_loop [3] (fun i => ∃ k : Nat, k ≤ l.length ∧ i = .int .i64 k ∧ Hid (((l.take k).all fun b => wordC b.toNat) = true)) (fun i => l.length - (intOf i).toNat)
    case atStart => exact ⟨0, by omega, rfl, rfl⟩
    case round =>
      obtain ⟨k, hk, rfl, ha⟩ := hrel
      by_cases hlt : k < l.length
      · obtain ⟨x, hx⟩ : ∃ x, l[k]? = some x := ⟨_, List.getElem?_eq_getElem hlt⟩
        have hix := HAT.out k x hx
        have hxl := x.toNat_lt
        have HS := Lib.hid (wall_stop (l := l) (k := k) (x := x) hx)
        have HST := Lib.hid (fun ho => wall_step (l := l) (k := k) (x := x) hx ha.out ho)
        generalize hc : x.toNat = d at hix HS HST
        have hd256 : d < 256 := by omega
        clear hc hx hxl HAT ha HI
        by_cases q0 : d ≤ 44
        · have ho : wordC d = false := by unfold wordC lowC digC; simp; omega
          have E0 : decide ((d : Int) < 97) = true := decide_eq_true (by omega)
          have E1 : decide ((122 : Int) < (d : Int)) = false := decide_eq_false (by omega)
          have E2 : decide ((d : Int) < 48) = true := decide_eq_true (by omega)
          have E3 : decide ((57 : Int) < (d : Int)) = false := decide_eq_false (by omega)
          have N1 : ((d : Int) != 45) = true := by simp; omega
          have N2 : ((d : Int) != 95) = true := by simp; omega
          have hr := HR.out
          rw [HS.out ho] at hr
          clear HS HST HR ho
          subst hr
          go_wp2
          go_ret
          exact ⟨rfl, rfl⟩
        by_cases q1 : d = 45
        · have ho : wordC d = true := by unfold wordC lowC digC; simp; omega
          have E0 : decide ((d : Int) < 97) = true := decide_eq_true (by omega)
          have E1 : decide ((122 : Int) < (d : Int)) = false := decide_eq_false (by omega)
          have E2 : decide ((d : Int) < 48) = true := decide_eq_true (by omega)
          have E3 : decide ((57 : Int) < (d : Int)) = false := decide_eq_false (by omega)
          have N1 : ((d : Int) != 45) = false := by simp; omega
          have N2 : ((d : Int) != 95) = true := by simp; omega
          have HT := Lib.hid (HST.out ho)
          clear HS HST HR ho
          go_wp2
          go_round
          case rel => exact ⟨k + 1, by omega, by go_num, HT⟩
          case measure => simp [intOf]; omega
        by_cases q2 : d ≤ 47
        · have ho : wordC d = false := by unfold wordC lowC digC; simp; omega
          have E0 : decide ((d : Int) < 97) = true := decide_eq_true (by omega)
          have E1 : decide ((122 : Int) < (d : Int)) = false := decide_eq_false (by omega)
          have E2 : decide ((d : Int) < 48) = true := decide_eq_true (by omega)
          have E3 : decide ((57 : Int) < (d : Int)) = false := decide_eq_false (by omega)
          have N1 : ((d : Int) != 45) = true := by simp; omega
          have N2 : ((d : Int) != 95) = true := by simp; omega
          have hr := HR.out
          rw [HS.out ho] at hr
          clear HS HST HR ho
          subst hr
          go_wp2
          go_ret
          exact ⟨rfl, rfl⟩
        by_cases q3 : d ≤ 57
        · have ho : wordC d = true := by unfold wordC lowC digC; simp; omega
          have E0 : decide ((d : Int) < 97) = true := decide_eq_true (by omega)
          have E1 : decide ((122 : Int) < (d : Int)) = false := decide_eq_false (by omega)
          have E2 : decide ((d : Int) < 48) = false := decide_eq_false (by omega)
          have E3 : decide ((57 : Int) < (d : Int)) = false := decide_eq_false (by omega)
          have N1 : ((d : Int) != 45) = true := by simp; omega
          have N2 : ((d : Int) != 95) = true := by simp; omega
          have HT := Lib.hid (HST.out ho)
          clear HS HST HR ho
          go_wp2
          go_round
          case rel => exact ⟨k + 1, by omega, by go_num, HT⟩
          case measure => simp [intOf]; omega
        by_cases q4 : d ≤ 94
        · have ho : wordC d = false := by unfold wordC lowC digC; simp; omega
          have E0 : decide ((d : Int) < 97) = true := decide_eq_true (by omega)
          have E1 : decide ((122 : Int) < (d : Int)) = false := decide_eq_false (by omega)
          have E2 : decide ((d : Int) < 48) = false := decide_eq_false (by omega)
          have E3 : decide ((57 : Int) < (d : Int)) = true := decide_eq_true (by omega)
          have N1 : ((d : Int) != 45) = true := by simp; omega
          have N2 : ((d : Int) != 95) = true := by simp; omega
          have hr := HR.out
          rw [HS.out ho] at hr
          clear HS HST HR ho
          subst hr
          go_wp2
          go_ret
          exact ⟨rfl, rfl⟩
        by_cases q5 : d = 95
        · have ho : wordC d = true := by unfold wordC lowC digC; simp; omega
          have E0 : decide ((d : Int) < 97) = true := decide_eq_true (by omega)
          have E1 : decide ((122 : Int) < (d : Int)) = false := decide_eq_false (by omega)
          have E2 : decide ((d : Int) < 48) = false := decide_eq_false (by omega)
          have E3 : decide ((57 : Int) < (d : Int)) = true := decide_eq_true (by omega)
          have N1 : ((d : Int) != 45) = true := by simp; omega
          have N2 : ((d : Int) != 95) = false := by simp; omega
          have HT := Lib.hid (HST.out ho)
          clear HS HST HR ho
          go_wp2
          go_round
          case rel => exact ⟨k + 1, by omega, by go_num, HT⟩
          case measure => simp [intOf]; omega
        by_cases q6 : d = 96
        · have ho : wordC d = false := by unfold wordC lowC digC; simp; omega
          have E0 : decide ((d : Int) < 97) = true := decide_eq_true (by omega)
          have E1 : decide ((122 : Int) < (d : Int)) = false := decide_eq_false (by omega)
          have E2 : decide ((d : Int) < 48) = false := decide_eq_false (by omega)
          have E3 : decide ((57 : Int) < (d : Int)) = true := decide_eq_true (by omega)
          have N1 : ((d : Int) != 45) = true := by simp; omega
          have N2 : ((d : Int) != 95) = true := by simp; omega
          have hr := HR.out
          rw [HS.out ho] at hr
          clear HS HST HR ho
          subst hr
          go_wp2
          go_ret
          exact ⟨rfl, rfl⟩
        by_cases q7 : d ≤ 122
        · have ho : wordC d = true := by unfold wordC lowC digC; simp; omega
          have E0 : decide ((d : Int) < 97) = false := decide_eq_false (by omega)
          have E1 : decide ((122 : Int) < (d : Int)) = false := decide_eq_false (by omega)
          have E2 : decide ((d : Int) < 48) = false := decide_eq_false (by omega)
          have E3 : decide ((57 : Int) < (d : Int)) = true := decide_eq_true (by omega)
          have N1 : ((d : Int) != 45) = true := by simp; omega
          have N2 : ((d : Int) != 95) = true := by simp; omega
          have HT := Lib.hid (HST.out ho)
          clear HS HST HR ho
          go_wp2
          go_round
          case rel => exact ⟨k + 1, by omega, by go_num, HT⟩
          case measure => simp [intOf]; omega
        have ho : wordC d = false := by unfold wordC lowC digC; simp; omega
        have E0 : decide ((d : Int) < 97) = false := decide_eq_false (by omega)
        have E1 : decide ((122 : Int) < (d : Int)) = true := decide_eq_true (by omega)
        have E2 : decide ((d : Int) < 48) = false := decide_eq_false (by omega)
        have E3 : decide ((57 : Int) < (d : Int)) = true := decide_eq_true (by omega)
        have N1 : ((d : Int) != 45) = true := by simp; omega
        have N2 : ((d : Int) != 95) = true := by simp; omega
        have hr := HR.out
        rw [HS.out ho] at hr
        clear HS HST HR ho
        subst hr
        go_wp2
        go_ret
        exact ⟨rfl, rfl⟩
      · have hkl : k = l.length := by omega
        subst hkl
        have hr := HR.out
        have ha' := ha.out
        rw [List.take_length] at ha'
        rw [HI.out ha'] at hr
        clear ha ha' HAT HR HI
        subst hr
        go_wp2
        go_ret
        exact ⟨rfl, rfl⟩
end
end Go.Proofs.YthindhlogkhclaaGreatDoor
