/-
  GauA: The functions of gauss, over the loaded program: each one's contract: what it answers; the world is as it was. No condition but the sizes that each contract names.
  GauB: Pow and Inv of gauss, over the loaded program: each one's contract. No condition but the sizes that each contract names.
  MarkA: The functions of mark, over the loaded program: each one's contract. No condition but the sizes that each contract names.
  MarkB: Join, Put and Check of mark, over the loaded program: each one's contract. No condition but the sizes that each contract names.
  SeA: Zero and Empty of sect, over the loaded program: each one's contract. No condition.
  Goto: A scope that the run leaves for its one label, once: over any program. No condition.
  Held: A region that draws its order, operation by operation, over any program: what only reads is taken first, whether its guard lets it be done or not; what is to be done next alone is done. No condition.
-/
import Derived.Test.YteddmnoeljakpaaGreatDoorProg
import Derived.Test.YteddmnoeljakpaaGreatDoorGauM
import Derived.Test.YteddmnoeljakpaaGreatDoorSw11
import Derived.Lib.Hide
import Derived.WalkKit
import Derived.WalkSpells
import Derived.BigQuiet
import Derived.Deep.QuietTactic
import Derived.Test.YteddmnoeljakpaaGreatDoorSw07
import Derived.Test.YteddmnoeljakpaaGreatDoorSw00
import Derived.Test.YteddmnoeljakpaaGreatDoorSw01
import Derived.ScopeJumps
import Derived.WalkMore
import Derived.Deep.RegionHeld3
import Derived.Maps.RangeWalk
import Derived.Tactics
import Derived.KernelRfl
set_option linter.unusedVariables false
set_option maxRecDepth 100000
namespace Go.Proofs.YteddmnoeljakpaaGreatDoor
section
open Go.RowKit Gau
def cz (a : G) : Value := .complex .f64 (fl a.re.val) (fl a.im.val)
theorem modulo_val (n : Int) (h : -9223372036854775808 ≤ n) (h2 : n ≤ 9223372036854775807) : (n.tmod 8191 + 8191).tmod 8191 = n % 8191 := by
  have h3 := Int.tmod_eq_emod (a := n) (b := 8191)
  split at h3
  · rw [h3, Int.tmod_eq_emod_of_nonneg (by omega)]; omega
  · rw [h3, Int.tmod_eq_emod_of_nonneg (by simp; omega)]; simp
theorem modulo_any (n : Int) (h : -9223372036854775808 ≤ n) (h2 : n ≤ 9223372036854775807) (w : World) :
    Calls Tryz.prog 212 #[.int .i64 n] w fun e w' => e = .returned (.int .i64 ((ofI n).val : Int)) ∧ w = w' := by
  have e : (wrap64 (n.tmod 8191 + 8191)).tmod 8191 = ((ofI n).val : Int) := by
    rw [ofI_val, IntWalk.wrap64_in _ (by
      have := Int.tmod_eq_emod (a := n) (b := 8191)
      split at this <;> omega), modulo_val n h h2]
  go_enter Tryz.func212, Tryz.ntmps212
  go_wp2
  go_ret
  exact ⟨rfl, rfl⟩
theorem conv_fl (n : Int) (h : n.natAbs < 2 ^ 53) (w : World) : (convert 240 3 (.float .f64 (fl n))).run Tryz.prog w = .ok (.int .i64 n) w :=
  run_convert_float_int w 240 3 .f64 .i64 (fl n) n (by kernel_rfl) Tryz.underlying3 (int_fl n h)
theorem whole_fl (n : Int) (h : n.natAbs < 2 ^ 53) (w : World) :
    Calls Tryz.prog 203 #[.float .f64 (fl n)] w fun e w' => e = .returned (.int .i64 n) ∧ w = w' := by
  have h1 := over_min n h
  have h2 := below_max n h
  have h3 := conv_fl n h
  generalize fl n = x at *
  go_enter Tryz.func203, Tryz.ntmps203
  go_wp2
  go_ret
  exact ⟨rfl, rfl⟩
theorem gof_any (re im : Int) (h : -9223372036854775808 ≤ re) (h2 : re ≤ 9223372036854775807) (h3 : -9223372036854775808 ≤ im) (h4 : im ≤ 9223372036854775807) (w : World) :
    Calls Tryz.prog 204 #[.int .i64 re, .int .i64 im] w fun e w' => e = .returned (cz (gI re im)) ∧ w = w' := by
  go_enter Tryz.func204, Tryz.ntmps204
  go_wp2_with fail
  refine (modulo_any re h h2 _).mono ?_
  rintro e w' ⟨rfl, rfl⟩
  go_wp2_with fail
  refine (modulo_any im h3 h4 _).mono ?_
  rintro e w' ⟨rfl, rfl⟩
  go_wp2
  go_ret
  exact ⟨rfl, rfl⟩
theorem parts_fl (a b : Int) (h : a.natAbs < 2 ^ 53) (h2 : b.natAbs < 2 ^ 53) (w : World) :
    Calls Tryz.prog 192 #[.complex .f64 (fl a) (fl b)] w fun e w' => e = .returned (.tuple #[.int .i64 a, .int .i64 b]) ∧ w = w' := by
  go_enter Tryz.func192, Tryz.ntmps192
  go_wp2_with fail
  refine (whole_fl a h _).mono ?_
  rintro e w' ⟨rfl, rfl⟩
  go_wp2_with fail
  refine (whole_fl b h2 _).mono ?_
  rintro e w' ⟨rfl, rfl⟩
  go_wp2
  go_ret2
  exact ⟨rfl, rfl⟩
theorem reduced_fl (a b : Int) (h : a.natAbs < 2 ^ 53) (h2 : b.natAbs < 2 ^ 53) (w : World) :
    Calls Tryz.prog 213 #[.complex .f64 (fl a) (fl b)] w fun e w' => e = .returned (cz (gI a b)) ∧ w = w' := by
  go_enter Tryz.func213, Tryz.ntmps213
  go_wp2_with fail
  refine (parts_fl a b h h2 _).mono ?_
  rintro e w' ⟨rfl, rfl⟩
  go_wp2_with fail
  refine (gof_any a b (by omega) (by omega) (by omega) (by omega) _).mono ?_
  rintro e w' ⟨rfl, rfl⟩
  go_wp2
  go_ret
  exact ⟨rfl, rfl⟩
theorem part_lt (x : F) : (x.val : Int).natAbs < 2 ^ 53 := by have := x.isLt; omega
theorem parts_cz (a : G) (w : World) :
    Calls Tryz.prog 192 #[cz a] w fun e w' => e = .returned (.tuple #[.int .i64 a.re.val, .int .i64 a.im.val]) ∧ w = w' :=
  parts_fl _ _ (part_lt _) (part_lt _) w
theorem add_run (a b : G) (w : World) : (binOp .add 227 (cz a) (cz b)).run Tryz.prog w = .ok (.complex .f64 (fl (a.re.val + b.re.val)) (fl (a.im.val + b.im.val))) w := by
  refine run_complex_sum w .add (.inl rfl) _ _ _ _ _ _ _ _ ?_
  have h1 := a.re.isLt
  have h2 := b.re.isLt
  have h3 := a.im.isLt
  have h4 := b.im.isLt
  unfold cSumBits
  rw [add_fl _ _ (part_lt _) (part_lt _) (by omega), Option.bind_some, add_fl _ _ (part_lt _) (part_lt _) (by omega)]
  rfl
theorem prod_le (x y : F) : 0 ≤ (x.val : Int) * y.val ∧ (x.val : Int) * y.val ≤ 67092481 := by
  have h := Nat.mul_le_mul (Nat.le_of_lt x.isLt) (Nat.le_of_lt y.isLt)
  rw [← Int.natCast_mul]
  omega
theorem mul_run (a b : G) (w : World) : (binOp .mul 227 (cz a) (cz b)).run Tryz.prog w =
    .ok (.complex .f64 (fl ((a.re.val : Int) * b.re.val - a.im.val * b.im.val)) (fl ((a.re.val : Int) * b.im.val + a.im.val * b.re.val))) w := by
  refine run_complex_mul w _ _ _ _ _ _ _ ?_
  have h1 := prod_le a.re b.re
  have h2 := prod_le a.im b.im
  have h3 := prod_le a.re b.im
  have h4 := prod_le a.im b.re
  unfold cMulBits
  rw [mul_fl _ _ (by omega) (by omega) (part_lt _) (part_lt _) (by omega), mul_fl _ _ (by omega) (by omega) (part_lt _) (part_lt _) (by omega),
    mul_fl _ _ (by omega) (by omega) (part_lt _) (part_lt _) (by omega), mul_fl _ _ (by omega) (by omega) (part_lt _) (part_lt _) (by omega)]
  simp only [Option.bind_some]
  rw [sub_fl _ _ (by omega) (by omega) (by omega), add_fl _ _ (by omega) (by omega) (by omega)]
  rfl
theorem add_any (a b : G) (w : World) :
    Calls Tryz.prog 206 #[cz a, cz b] w fun e w' => e = .returned (cz (gadd a b)) ∧ w = w' := by
  have h := add_run a b
  have h1 := a.re.isLt
  have h2 := b.re.isLt
  have h3 := a.im.isLt
  have h4 := b.im.isLt
  have hr := fun w => reduced_fl (a.re.val + b.re.val) (a.im.val + b.im.val) (by omega) (by omega) w
  rw [gI_add] at hr
  generalize cz a = x at *
  generalize cz b = y at *
  go_enter Tryz.func206, Tryz.ntmps206
  go_wp2_with fail
  refine (hr _).mono ?_
  rintro e w' ⟨rfl, rfl⟩
  go_wp2
  go_ret
  exact ⟨rfl, rfl⟩
theorem mul_any (a b : G) (w : World) :
    Calls Tryz.prog 207 #[cz a, cz b] w fun e w' => e = .returned (cz (gmul a b)) ∧ w = w' := by
  have h := mul_run a b
  have h1 := prod_le a.re b.re
  have h2 := prod_le a.im b.im
  have h3 := prod_le a.re b.im
  have h4 := prod_le a.im b.re
  have hr := fun w => reduced_fl ((a.re.val : Int) * b.re.val - a.im.val * b.im.val) ((a.re.val : Int) * b.im.val + a.im.val * b.re.val) (by omega) (by omega) w
  rw [gI_mul] at hr
  generalize cz a = x at *
  generalize cz b = y at *
  go_enter Tryz.func207, Tryz.ntmps207
  go_wp2_with fail
  refine (hr _).mono ?_
  rintro e w' ⟨rfl, rfl⟩
  go_wp2
  go_ret
  exact ⟨rfl, rfl⟩
end
section
open Go.RowKit Gau
end
section
open Go.RowKit Gau
theorem base_any (w : World) : Calls Tryz.prog 205 #[] w fun e w' => e = .returned (cz base) ∧ w = w' := by
  have ho := gof_any 4 1 (by omega) (by omega) (by omega) (by omega)
  rw [base_gI] at ho
  go_enter Tryz.func205, Tryz.ntmps205
  go_wp2_with fail
  refine (ho _).mono ?_
  rintro e w' ⟨rfl, rfl⟩
  go_wp2
  go_ret
  exact ⟨rfl, rfl⟩
theorem mark_step {z : G} {l : List UInt8} {k : Nat} (hk : k < l.length) : mkF z (l.take (k + 1)) = mstep (mkF z (l.take k)) l[k] := by
  rw [List.take_add_one, List.getElem?_eq_getElem hk, mkF_append]; rfl
theorem flat_step {ls : List (List UInt8)} {k : Nat} {l : List UInt8} (h : ls[k]? = some l) : mkF (mk (ls.take k).flatten) l = mk (ls.take (k + 1)).flatten := by
  rw [List.take_add_one, h, List.flatten_append, mk_append]; simp
theorem mark_any (S : Nat → Prop) (v : Value) (ls : List (List UInt8)) (w : World) (h : LS w S v ls) :
    Calls Tryz.prog 193 #[v] w fun e w' => e = .returned (cz (mk ls.flatten)) ∧ w = w' := by
  obtain ⟨A, c, rfl, hlc, hcm⟩ := h.form
  have hlen : ls.length ≤ 9223372036854775807 := by unfold maxLen at hcm; omega
  have o0 := gof_any 0 0 (by omega) (by omega) (by omega) (by omega)
  rw [show gI 0 0 = mk [] from by decide] at o0
  obtain ⟨r, hr⟩ : ∃ r, r = mk ls.flatten := ⟨_, rfl⟩
  have HR : Hid (mk (ls.take ls.length).flatten = r) := by show _ = _; rw [List.take_length, hr]
  have H0 : Hid (mk [] = mk (ls.take 0).flatten) := rfl
  rw [← hr]
  clear hr hlc hcm
  generalize mk [] = z0 at *
  go_enter Tryz.func193, Tryz.ntmps193
  go_wp2_with fail
  refine (o0 _).mono ?_
  rintro e w' ⟨rfl, rfl⟩
  go_wp2_with fail
  refine (base_any _).mono ?_
  rintro e w' ⟨rfl, rfl⟩
  go_wp2
  go_loop [3, 13] (fun zv iv => ∃ (k : Nat) (z : G), k ≤ ls.length ∧ Hid (z = mk (ls.take k).flatten) ∧ zv = cz z ∧ iv = .int .i64 k) (fun _ iv => ls.length - (intOf iv).toNat)
  case atStart => exact ⟨0, z0, by omega, H0, rfl, rfl⟩
  case round =>
    obtain ⟨k, z, hk, hz, rfl, rfl⟩ := hrel
    by_cases hlt : k < ls.length
    · obtain ⟨b, o, rfl, _, _, hc⟩ := h.at_ (by omega)
      have hlk := List.getElem?_eq_getElem hlt
      obtain ⟨A', c', h1, h2⟩ := hc k ls[k] hlk
      have HF := Lib.hid (flat_step hlk)
      clear hc
      generalize ls[k] = l at *
      have hl64 : l.length ≤ 9223372036854775807 := by have := h2.len; unfold maxLen at this; omega
      have HL : Hid (mkF z (l.take l.length) = mk (ls.take (k + 1)).flatten) := by
        show _ = _
        rw [List.take_length, hz.out, HF.out]
      clear HF hz hlk
      go_wp2
      go_loop [3, 19] (fun zv iv => ∃ (j : Nat) (y : G), j ≤ l.length ∧ Hid (y = mkF z (l.take j)) ∧ zv = cz y ∧ iv = .int .i64 j) (fun _ iv => l.length - (intOf iv).toNat)
      case atStart => exact ⟨0, z, by omega, by show z = _; rw [List.take_zero, mkF_nil], rfl, rfl⟩
      case round =>
        obtain ⟨j, y, hj, hy, rfl, rfl⟩ := hrel
        by_cases hjt : j < l.length
        · obtain ⟨b2, o2, rfl, _, _, hc2⟩ := h2.at_ (by omega)
          have k1 := hc2 j l[j] (List.getElem?_eq_getElem hjt)
          have HS : Hid (mstep y l[j] = mkF z (l.take (j + 1))) := by
            show _ = _
            rw [hy.out, mark_step hjt]
          clear hc2 hy
          generalize l[j] = u at *
          have hu := u.toNat_lt
          have hm := mul_any y base
          have ho := gof_any ((u.toNat : Int) + 1) 0 (by omega) (by omega) (by omega) (by omega)
          have ha := add_any (gmul y base) (gI ((u.toNat : Int) + 1) 0)
          rw [show gadd (gmul y base) (gI ((u.toNat : Int) + 1) 0) = mstep y u from rfl] at ha
          have W1 : wrap64 ((u.toNat : Int) + 1) = (u.toNat : Int) + 1 := IntWalk.wrap64_in _ (by omega)
          have W2 : wrap64 (u.toNat : Int) = (u.toNat : Int) := IntWalk.wrap64_in _ (by omega)
          generalize gmul y base = p at *
          generalize gI ((u.toNat : Int) + 1) 0 = q at *
          generalize mstep y u = s at *
          go_wp2_with fail
          refine (hm _).mono ?_
          rintro e w' ⟨rfl, rfl⟩
          go_wp2_with fail
          refine (ho _).mono ?_
          rintro e w' ⟨rfl, rfl⟩
          go_wp2_with fail
          refine (ha _).mono ?_
          rintro e w' ⟨rfl, rfl⟩
          go_wp2
          go_round
          case rel => exact ⟨j + 1, s, by omega, HS, rfl, by go_num⟩
          case measure => simp [intOf]; omega
        · have hje : j = l.length := by omega
          have HY : Hid (y = mk (ls.take (k + 1)).flatten) := by
            show _ = _
            rw [hy.out, hje, HL.out]
          clear hy
          go_wp2
          go_round
          case rel => exact ⟨k + 1, y, by omega, HY, rfl, by go_num⟩
          case measure => simp [intOf]; omega
    · have e := hz.out
      rw [show k = ls.length by omega, HR.out] at e
      subst e
      go_wp2
      go_ret
      exact ⟨rfl, rfl⟩
end
section
open Go.RowKit Gau
def joined (a b : G) (n : Int) : G := if n < 0 then zero else gadd (gmul a (gpow base n.natAbs)) b
theorem mark_one (S : Nat → Prop) (v : Value) (l : List UInt8) (w : World) (h : BS w S v l) :
    Calls Tryz.prog 193 #[.slice (some ⟨w.heap.size, 0, none⟩) 1 1] (w.alloc (.cells #[v] 55)) fun e w' => e = .returned (cz (mk l)) ∧ (w.alloc (.cells #[v] 55)) = w' := by
  have := mark_any _ _ [l] _ (LS.one (t := 55) h)
  simpa using this
theorem byte_of (m : Nat) (h : m < 256) (i : Int) (e : i = m) : Value.int .u8 i = bv (UInt8.ofNat m) := by
  subst e
  unfold bv
  have : (UInt8.ofNat m).toNat = m := by simp [Nat.mod_eq_of_lt h]
  rw [this]
theorem mput_vals (z : G) : (#[Value.int .u8 ((z.re.val : Int) / 256), .int .u8 ((z.re.val : Int) % 256), .int .u8 ((z.im.val : Int) / 256), .int .u8 ((z.im.val : Int) % 256)] : Array Value) = ((mput z).map bv).toArray := by
  have h1 := z.re.isLt
  have h2 := z.im.isLt
  rw [byte_of (z.re.val / 256) (by omega) _ (by omega), byte_of (z.re.val % 256) (by omega) _ (by omega), byte_of (z.im.val / 256) (by omega) _ (by omega), byte_of (z.im.val % 256) (by omega) _ (by omega)]
  rfl
theorem lit_four (w : World) (z : G) (B : Nat) (hb : B ≤ w.heap.size) : (w.alloc (.cells ((mput z).map bv).toArray 5)).ownsRow B 5 1 (.slice (some ⟨w.heap.size, 0, none⟩) 4 4) (mput z).length ((mput z).map bv) :=
  World.ownsRow_lit w ((mput z).map bv).toArray 4 hb (by simp [maxLen]) rfl
theorem put_any (S : Nat → Prop) (v : Value) (l : List UInt8) (w : World) (h : BS w S v l) :
    Calls Tryz.prog 158 #[v] w fun e w' => Fresh w e w' (mput (mk l)) := by
  have hm := mark_one S v l w h
  obtain ⟨A, c, rfl, _⟩ := h.form
  have hp := parts_cz (mk l)
  generalize mk l = z at *
  generalize cz z = x at *
  go_enter Tryz.func158, Tryz.ntmps158
  go_wp2_with fail
  refine hm.mono ?_
  rintro e w' ⟨rfl, rfl⟩
  go_wp2_with fail
  refine (hp _).mono ?_
  rintro e w' ⟨rfl, rfl⟩
  go_wp2
  go_ret
  rw [mput_vals]
  have hl := lit_four (w.alloc (.cells #[.slice A l.length c] 55)) z w.heap.size (by simp)
  simp only [World.size_alloc] at hl
  exact ⟨_, rfl, hl, ((Below.refl _ _).alloc (Nat.le_refl _) _).alloc (by simp) _⟩
theorem equal_any (S S' : Nat → Prop) (x y : Value) (l m : List UInt8) (w : World) (hx : BS w S x l) (hy : BS w S' y m) :
    Calls Tryz.prog 125 #[x, y] w fun e w' => e = .returned (.bool (decide (l = m))) ∧ w = w' := by
  have h1 := hx.str (P := Tryz.prog) (src := 55) (e := 5) (dst := 9) Tryz.underlying55 Tryz.underlying5 Tryz.underlying9
  have h2 := hy.str (P := Tryz.prog) (src := 55) (e := 5) (dst := 9) Tryz.underlying55 Tryz.underlying5 Tryz.underlying9
  have he : (l == m) = decide (l = m) := by
    by_cases h : l = m
    · rw [decide_eq_true h]; exact beq_iff_eq.2 h
    · rw [decide_eq_false h]; exact beq_eq_false_iff_ne.2 h
  obtain ⟨A, c, rfl, _⟩ := hx.form
  obtain ⟨A', c', rfl, _⟩ := hy.form
  go_enter Tryz.func125, Tryz.ntmps125
  go_wp2
  go_ret
  exact ⟨rfl, rfl⟩
end
section
open Go.RowKit Gau
def Made256 (w : World) (e : Ending) (w' : World) : Prop :=
  e = .returned (.slice (some ⟨w.heap.size, 0, none⟩) 256 256) ∧ KB w' w.heap.size 5 ((zs 256).map bv).toArray ∧ Below w.heap.size w w'
theorem kb_256 {w : World} {g : Nat} {l : List UInt8} (h : KB w g 5 (l.map bv).toArray) (hl : l.length = 256) : BS w (fun b => b = g) (.slice (some ⟨g, 0, none⟩) 256 256) l := by
  refine ⟨_, 256, by rw [hl], by rw [hl]; exact Nat.le_refl _, by unfold maxLen; omega, (fun h => by cases h), fun _ => ⟨g, 0, rfl, rfl, h.lt, fun j u hu => ?_⟩⟩
  rw [Nat.zero_add, h.cell]
  simp [hu]
theorem make_256 (w : World) : ∃ C, C = ((zs 256).map bv).toArray ∧ (Instr.makeSlice 55 (.int .i64 256) (.int .i64 256)).run Tryz.prog w = .ok (.slice (some ⟨w.heap.size, 0, none⟩) 256 256) (w.alloc (.cells C 5)) := by
  obtain ⟨i0, hi, hz0, hz1, hz2⟩ := info_parts info_byte
  have hmk := run_make (P := Tryz.prog) w 55 5 i0 _ Tryz.underlying55 hi hz0 .i64 .i64 256 256 (by omega) (by omega) (by rw [hz2]; omega) (by omega)
  rw [hz1] at hmk
  have e256 : (256 : Int).toNat = 256 := rfl
  rw [e256, madeCells_of (.int .u8 0) (bv 0) 1 256 (by omega) rfl, Nat.mul_one] at hmk
  refine ⟨Array.replicate 256 (bv 0), ?_, hmk⟩
  unfold zs
  rw [List.map_replicate, List.toArray_replicate]
theorem zero_any (w : World) : Calls Tryz.prog 81 #[] w (Made256 w) := by
  obtain ⟨C, hC, hmk⟩ := make_256 w
  go_enter Tryz.func81, Tryz.ntmps81
  go_wp2
  go_ret
  exact ⟨rfl, by rw [← hC]; exact KB.new _ _ _, (Below.refl _ _).alloc (Nat.le_refl _) _⟩
theorem empty_any (S : Nat → Prop) (v : Value) (l : List UInt8) (w : World) (h : BS w S v l) :
    Calls Tryz.prog 99 #[v] w fun e w' => e = .returned (.bool (decide (l = zs 256))) ∧ Below w.heap.size w w' := by
  obtain ⟨A, c, rfl, _⟩ := h.form
  go_enter Tryz.func99, Tryz.ntmps99
  go_wp2_with fail
  refine (zero_any w).mono ?_
  rintro e w1 ⟨rfl, k1, b1⟩
  have he := equal_any _ _ _ _ _ _ w1 (h.below' b1) (kb_256 k1 (zs_len 256))
  go_wp2_with fail
  refine he.mono ?_
  rintro e w2 ⟨rfl, rfl⟩
  go_wp2
  go_ret
  exact ⟨rfl, b1⟩
end
section
section
variable {P : Program} {a : Act} {w : World} {Q : Exit → Act → World → Prop}
theorem wp_scope_goto {c rest : Code} (l : Nat) {a1 : Act} {w1 : World} (hf : findLabel c l = some rest)
    (first : c.wp P (Exit.jump l (fun a' w' => a' = a1 ∧ w' = w1) Q) a w)
    (pass : rest.wp P (Exit.jump l (fun a' w' => (a' = a1 ∧ w' = w1) ∧ 0 < 0) Q) a1 w1) : (Code.scope c).wp P Q a w := by
  refine wp_scope_jumps l (fun a' w' => a' = a1 ∧ w' = w1) (fun _ _ => 0) hf first ?_
  rintro a' w' ⟨rfl, rfl⟩
  exact pass
theorem wp_scope_goto_any {c rest : Code} (l : Nat) {α : Type} {a1 : α → Act} {R : World → Prop} (hf : findLabel c l = some rest)
    (first : c.wp P (Exit.jump l (fun a' w' => R w' ∧ ∃ x, a' = a1 x) Q) a w)
    (pass : ∀ x w1, R w1 → rest.wp P (Exit.jump l (fun a' w' => (R w' ∧ ∃ x, a' = a1 x) ∧ 0 < 0) Q) (a1 x) w1) : (Code.scope c).wp P Q a w := by
  refine wp_scope_jumps l (fun a' w' => R w' ∧ ∃ x, a' = a1 x) (fun _ _ => 0) hf first ?_
  rintro a' w' ⟨hr, x, rfl⟩
  exact pass x w' hr
end
end
section
section
variable {P : Program} {ops : Array Oper} {Q : Exit → Act → World → Prop} {S : World → Prop} {md : Region.Mode} {fuel : Nat} {listed : Array Bool} {a : Act} {w : World}
theorem held_yes (i : Nat) {o : Oper} {v : Value} (hi : ops[i]? = some o) (hs : Region.noSelect ops = true) (hf : Region.free md ops listed i = true) (hr : (Region.ready md ops listed).contains i = true)
    (hQ : ∀ c a w, Q (.panic c) (a.put o.dst v) w → Q (.panic c) a w) (hw : Region.wanted o (yielded ops a.tmps) = true) (hS : S w) (hy : ∀ w, S w → (execOp a.eval o).run P w = .ok (.value v) w)
    (h : wpAnyH P md ops Q S fuel (listed.setIfInBounds i true) (a.put o.dst v) w) : wpAnyH P md ops Q S (fuel + 1) listed a w :=
  wpAnyH_take hi hs hf hr hQ (Or.inl ⟨hw, hy⟩) hS h
theorem held_no (i : Nat) {o : Oper} (hi : ops[i]? = some o) (hs : Region.noSelect ops = true) (hf : Region.free md ops listed i = true) (hr : (Region.ready md ops listed).contains i = true)
    (hQ : ∀ c a w, Q (.panic c) (a.put o.dst undef) w → Q (.panic c) a w) (hw : Region.wanted o (yielded ops a.tmps) = false) (hS : S w)
    (h : wpAnyH P md ops Q S fuel (listed.setIfInBounds i true) (a.put o.dst undef) w) : wpAnyH P md ops Q S (fuel + 1) listed a w :=
  wpAnyH_take hi hs hf hr hQ (Or.inr ⟨hw, rfl⟩) hS h
theorem held_one (i : Nat) {o : Oper} (hr : Region.ready md ops listed = [i]) (hi : ops[i]? = some o) (hw : Region.wanted o (yielded ops a.tmps) = true)
    (h : ∀ K : Act → World → Prop, Shut (∀ a w, S w → (S w → wpAnyH P md ops Q S fuel (listed.setIfInBounds i true) a w) → K a w) → Oper.wp P o a w K Q) : wpAnyH P md ops Q S (fuel + 1) listed a w :=
  wpAnyH_ready hr (by simp) (AllReadyH.cons hi (fun K hK => by rw [if_pos hw]; exact h K hK) AllReadyH.nil)
theorem held_two (i j : Nat) {o p : Oper} (hr : Region.ready md ops listed = [i, j]) (hi : ops[i]? = some o) (hj : ops[j]? = some p) (hw : Region.wanted o (yielded ops a.tmps) = true) (hv : Region.wanted p (yielded ops a.tmps) = true)
    (h : ∀ K : Act → World → Prop, Shut (∀ a w, S w → (S w → wpAnyH P md ops Q S fuel (listed.setIfInBounds i true) a w) → K a w) → Oper.wp P o a w K Q)
    (k : ∀ K : Act → World → Prop, Shut (∀ a w, S w → (S w → wpAnyH P md ops Q S fuel (listed.setIfInBounds j true) a w) → K a w) → Oper.wp P p a w K Q) : wpAnyH P md ops Q S (fuel + 1) listed a w :=
  wpAnyH_ready hr (by simp) (AllReadyH.cons hi (fun K hK => by rw [if_pos hw]; exact h K hK) (AllReadyH.cons hj (fun K hK => by rw [if_pos hv]; exact k K hK) AllReadyH.nil))
end
section
variable {P : Program} {ops : Array Oper} {Q : Exit → Act → World → Prop} {S : World → Prop} {md : Region.Mode} {fuel : Nat} {listed : Array Bool} {a : Act} {w : World}
theorem hyY (d : Option Nat) (i : Nat) {x1 : Op} {x2 : TypeId} {x3 : String} {x4 : Array Edge} {x5 : Option (Nat × Bool)} {v : Value} (hi : ops[i]? = some ⟨d, x1, x2, x3, x4, x5⟩) (hS : S w)
    (h : wpAnyH P md ops Q S fuel (listed.setIfInBounds i true) (a.put d v) w)
    (hs : Region.noSelect ops = true := by kernel_rfl) (hf : Region.free md ops listed i = true := by kernel_rfl) (hr : (Region.ready md ops listed).contains i = true := by kernel_rfl)
    (hQ : ∀ c a w, Q (.panic c) (a.put d v) w → Q (.panic c) a w := by exact fun _ _ _ h => h) (hw : Region.wanted ⟨d, x1, x2, x3, x4, x5⟩ (yielded ops a.tmps) = true := by rfl)
    (hy : ∀ w, S w → (execOp a.eval ⟨d, x1, x2, x3, x4, x5⟩).run P w = .ok (.value v) w := by (intro w hSw; (try dsimp only at hSw); go_simp; with_reducible rfl)) : wpAnyH P md ops Q S (fuel + 1) listed a w :=
  held_yes i hi hs hf hr hQ hw hS hy h
theorem hyN (d : Option Nat) (i : Nat) {x1 : Op} {x2 : TypeId} {x3 : String} {x4 : Array Edge} {x5 : Option (Nat × Bool)} (hi : ops[i]? = some ⟨d, x1, x2, x3, x4, x5⟩) (hS : S w)
    (h : wpAnyH P md ops Q S fuel (listed.setIfInBounds i true) (a.put d undef) w)
    (hs : Region.noSelect ops = true := by kernel_rfl) (hf : Region.free md ops listed i = true := by kernel_rfl) (hr : (Region.ready md ops listed).contains i = true := by kernel_rfl)
    (hQ : ∀ c a w, Q (.panic c) (a.put d undef) w → Q (.panic c) a w := by exact fun _ _ _ h => h) (hw : Region.wanted ⟨d, x1, x2, x3, x4, x5⟩ (yielded ops a.tmps) = false := by rfl) : wpAnyH P md ops Q S (fuel + 1) listed a w :=
  held_no i hi hs hf hr hQ hw hS h
theorem hyO (d : Option Nat) (i : Nat) {x1 : Op} {x2 : TypeId} {x3 : String} {x4 : Array Edge} {x5 : Option (Nat × Bool)} (hi : ops[i]? = some ⟨d, x1, x2, x3, x4, x5⟩)
    (h : ∀ K : Act → World → Prop, Shut (∀ a w, S w → (S w → wpAnyH P md ops Q S fuel (listed.setIfInBounds i true) a w) → K a w) → Oper.wp P ⟨d, x1, x2, x3, x4, x5⟩ a w K Q)
    (hr : Region.ready md ops listed = [i] := by kernel_rfl) (hw : Region.wanted ⟨d, x1, x2, x3, x4, x5⟩ (yielded ops a.tmps) = true := by rfl) : wpAnyH P md ops Q S (fuel + 1) listed a w :=
  held_one i hr hi hw h
end
end
end Go.Proofs.YteddmnoeljakpaaGreatDoor
