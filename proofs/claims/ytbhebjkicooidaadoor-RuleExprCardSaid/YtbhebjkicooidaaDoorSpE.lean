/-
  A span's text: the program's greatest, strconv.Itoa, Text (layer 15), over the loaded program: each one's contract. No condition but that the library's table of powers of ten is as laid.
-/
import Derived.Test.YtbhebjkicooidaaDoorSpD
import Derived.Test.YtbhebjkicooidaaDoorLayI
import Derived.Lib.AppendIntMem
import Derived.Lib.ItoaLen
import Derived.Lib.SlBytesConst
namespace Go.Proofs.YtbhebjkicooidaaDoor
open Go.RowKit
set_option maxRecDepth 100000
set_option linter.unusedVariables false

/-- The library's table of powers of ten is as laid. -/
def Pow (w : World) : Prop := Lib.TabIs Tryd.prog w "internal/strconv.uint64pow10" .u64 Lib.pow10Tab
theorem Pow.below {w w' : World} (h : Pow w) (b : Below w.heap.size w w') : Pow w' := Lib.tabBelow_of_tabIs h w' b

/-- strconv.Itoa. -/
theorem itoa_any (n : Int) (hn : I64 n) (w : World) (hp : Pow w) :
    Calls Tryd.prog 65 #[.int .i64 n] w fun e w' => e = .returned (strV (Lib.itoa n)) ∧ Below w.heap.size w w' := by
  refine (Any.strconv_Itoa Tryd.laysItoa n hn.1 hn.2 w hp).mono ?_
  rintro e w' ⟨rfl, k, os, rfl⟩
  exact ⟨rfl, Lib.below_grow _ _ (Nat.le_refl _) _ _⟩

theorem cell_marked (w : World) (C : Array Value) (e : TypeId) (f : Nat × Nat) (i : Nat) : (w.alloc (.cells C e f)).cell? ⟨w.heap.size, i, none⟩ = C[i]? :=
  cell_of_row _ _ i C e f (by show (w.heap.push _)[w.heap.size]? = _; rw [Array.getElem?_push_size])

/-- The units before the k-th do not divide the days. -/
def nofit (d k : Nat) : Prop := (1 ≤ k → ¬ (0 < d ∧ d % 365 = 0)) ∧ (2 ≤ k → ¬ (0 < d ∧ d % 30 = 0)) ∧ (3 ≤ k → ¬ (0 < d ∧ d % 7 = 0))

set_option maxHeartbeats 2000000 in
/-- greatest. -/
theorem greatest_any (d : Nat) (hd : d ≤ 1048576) (w : World) :
    Calls Tryd.prog 64 #[.int .i64 (d : Int)] w fun e w' => e = .returned (.int .u8 ((greatD d).toNat : Int)) ∧ Below w.heap.size w w' := by
  have s0 : ∀ w, Calls Tryd.prog 66 #[.int .u8 121] w fun e w' => e = .returned (.int .i64 365) ∧ w = w' := size15_any 121
  have s1 : ∀ w, Calls Tryd.prog 66 #[.int .u8 109] w fun e w' => e = .returned (.int .i64 30) ∧ w = w' := size15_any 109
  have s2 : ∀ w, Calls Tryd.prog 66 #[.int .u8 119] w fun e w' => e = .returned (.int .i64 7) ∧ w = w' := size15_any 119
  have S0 := Lib.hid s0
  have S1 := Lib.hid s1
  have S2 := Lib.hid s2
  clear s0 s1 s2
  have hcv := fun (w : World) (C : Array Value) (n c : Nat) => Lib.run_convert_bytes_const (P := Tryd.prog) w 48 5 C n c Tryd.underlying48 Tryd.underlying5
  have c0 : (w.alloc (.cells #[.int .u8 121, .int .u8 109, .int .u8 119] 5 (3, 4))).cell? ⟨w.heap.size, 0, none⟩ = some (.int .u8 121) := by rw [cell_marked]; rfl
  have c1 : (w.alloc (.cells #[.int .u8 121, .int .u8 109, .int .u8 119] 5 (3, 4))).cell? ⟨w.heap.size, 1, none⟩ = some (.int .u8 109) := by rw [cell_marked]; rfl
  have c2 : (w.alloc (.cells #[.int .u8 121, .int .u8 109, .int .u8 119] 5 (3, 4))).cell? ⟨w.heap.size, 2, none⟩ = some (.int .u8 119) := by rw [cell_marked]; rfl
  have hB := (Below.refl w.heap.size w).alloc (Nat.le_refl _) (.cells #[.int .u8 121, .int .u8 109, .int .u8 119] 5 (3, 4))
  obtain ⟨wr, hwr⟩ : ∃ wr, wr = w.alloc (.cells #[.int .u8 121, .int .u8 109, .int .u8 119] 5 (3, 4)) := ⟨_, rfl⟩
  rw [← hwr] at c0 c1 c2 hB
  obtain ⟨g, hg⟩ : ∃ g, g = greatD d := ⟨_, rfl⟩
  rw [← hg]
  have HG := Lib.hid hg
  have HWR := Lib.hid hwr
  have HB := Lib.hid hB
  clear hg hwr hB
  go_enter Tryd.func64, Tryd.ntmps64
  go_wp2
  rw [← HWR.out]
  clear hcv
  go_loop [8] (fun i => ∃ k : Nat, k ≤ 3 ∧ i = .int .i64 k ∧ Hid (nofit d k)) (fun i => 3 - (intOf i).toNat)
  case atStart => exact ⟨0, by omega, rfl, ⟨fun h => by omega, fun h => by omega, fun h => by omega⟩⟩
  case round =>
    obtain ⟨k, hk, rfl, hf⟩ := hrel
    match k, hk with
    | 0, _ =>
      have s0 := S0.out
      by_cases hd0 : 0 < d
      · by_cases hr : d % 365 = 0
        · have eg : g = 121 := by rw [HG.out]; unfold greatD; rw [if_neg (by omega), if_pos hr]
          subst eg
          have er : Int.tmod (d : Int) 365 = 0 := by rw [Int.tmod_eq_emod_of_nonneg (by omega)]; omega
          clear hf HG S0 S1 S2
          go_wp2_with (go_at_call 66; refine (s0 _).mono ?_; rintro e w' ⟨rfl, rfl⟩)
          go_ret
          exact ⟨rfl, HB.out⟩
        · have er : (Int.tmod (d : Int) 365 == 0) = false := beq_eq_false_iff_ne.2 (by rw [Int.tmod_eq_emod_of_nonneg (by omega)]; omega)
          have hf2 : Hid (nofit d 1) := ⟨fun _ h => hr h.2, fun h => by omega, fun h => by omega⟩
          clear hf HG S0 S1 S2
          go_wp2_with (go_at_call 66; refine (s0 _).mono ?_; rintro e w' ⟨rfl, rfl⟩)
          go_round
          case rel => exact ⟨1, by omega, by go_num, hf2⟩
          case measure => simp [intOf]
      · have hf2 : Hid (nofit d 1) := ⟨fun _ h => hd0 h.1, fun h => by omega, fun h => by omega⟩
        clear hf HG S0 S1 S2
        go_wp2_with (go_at_call 66; refine (s0 _).mono ?_; rintro e w' ⟨rfl, rfl⟩)
        go_round
        case rel => exact ⟨1, by omega, by go_num, hf2⟩
        case measure => simp [intOf]
    | 1, _ =>
      have s0 := S1.out
      by_cases hd0 : 0 < d
      · by_cases hr : d % 30 = 0
        · have eg : g = 109 := by rw [HG.out]; unfold greatD; rw [if_neg (by omega), if_neg (fun h => hf.out.1 (by omega) ⟨hd0, h⟩), if_pos hr]
          subst eg
          have er : Int.tmod (d : Int) 30 = 0 := by rw [Int.tmod_eq_emod_of_nonneg (by omega)]; omega
          clear hf HG S0 S1 S2
          go_wp2_with (go_at_call 66; refine (s0 _).mono ?_; rintro e w' ⟨rfl, rfl⟩)
          go_ret
          exact ⟨rfl, HB.out⟩
        · have er : (Int.tmod (d : Int) 30 == 0) = false := beq_eq_false_iff_ne.2 (by rw [Int.tmod_eq_emod_of_nonneg (by omega)]; omega)
          have hf2 : Hid (nofit d 2) := ⟨fun h => hf.out.1 (by omega), fun _ h => hr h.2, fun h => by omega⟩
          clear hf HG S0 S1 S2
          go_wp2_with (go_at_call 66; refine (s0 _).mono ?_; rintro e w' ⟨rfl, rfl⟩)
          go_round
          case rel => exact ⟨2, by omega, by go_num, hf2⟩
          case measure => simp [intOf]
      · have hf2 : Hid (nofit d 2) := ⟨fun _ h => hd0 h.1, fun _ h => hd0 h.1, fun h => by omega⟩
        clear hf HG S0 S1 S2
        go_wp2_with (go_at_call 66; refine (s0 _).mono ?_; rintro e w' ⟨rfl, rfl⟩)
        go_round
        case rel => exact ⟨2, by omega, by go_num, hf2⟩
        case measure => simp [intOf]
    | 2, _ =>
      have s0 := S2.out
      by_cases hd0 : 0 < d
      · by_cases hr : d % 7 = 0
        · have eg : g = 119 := by rw [HG.out]; unfold greatD; rw [if_neg (by omega), if_neg (fun h => hf.out.1 (by omega) ⟨hd0, h⟩), if_neg (fun h => hf.out.2.1 (by omega) ⟨hd0, h⟩), if_pos hr]
          subst eg
          have er : Int.tmod (d : Int) 7 = 0 := by rw [Int.tmod_eq_emod_of_nonneg (by omega)]; omega
          clear hf HG S0 S1 S2
          go_wp2_with (go_at_call 66; refine (s0 _).mono ?_; rintro e w' ⟨rfl, rfl⟩)
          go_ret
          exact ⟨rfl, HB.out⟩
        · have er : (Int.tmod (d : Int) 7 == 0) = false := beq_eq_false_iff_ne.2 (by rw [Int.tmod_eq_emod_of_nonneg (by omega)]; omega)
          have hf2 : Hid (nofit d 3) := ⟨fun h => hf.out.1 (by omega), fun h => hf.out.2.1 (by omega), fun _ h => hr h.2⟩
          clear hf HG S0 S1 S2
          go_wp2_with (go_at_call 66; refine (s0 _).mono ?_; rintro e w' ⟨rfl, rfl⟩)
          go_round
          case rel => exact ⟨3, by omega, by go_num, hf2⟩
          case measure => simp [intOf]
      · have hf2 : Hid (nofit d 3) := ⟨fun _ h => hd0 h.1, fun _ h => hd0 h.1, fun _ h => hd0 h.1⟩
        clear hf HG S0 S1 S2
        go_wp2_with (go_at_call 66; refine (s0 _).mono ?_; rintro e w' ⟨rfl, rfl⟩)
        go_round
        case rel => exact ⟨3, by omega, by go_num, hf2⟩
        case measure => simp [intOf]
    | 3, _ =>
      have eg : g = 100 := by
        rw [HG.out]
        unfold greatD
        by_cases hd0 : d = 0
        · rw [if_pos hd0]
        · rw [if_neg hd0, if_neg (fun h => hf.out.1 (by omega) ⟨by omega, h⟩), if_neg (fun h => hf.out.2.1 (by omega) ⟨by omega, h⟩), if_neg (fun h => hf.out.2.2 (by omega) ⟨by omega, h⟩)]
      subst eg
      clear hf HG S0 S1 S2
      go_wp2
      go_ret
      exact ⟨rfl, HB.out⟩
end Go.Proofs.YtbhebjkicooidaaDoor
