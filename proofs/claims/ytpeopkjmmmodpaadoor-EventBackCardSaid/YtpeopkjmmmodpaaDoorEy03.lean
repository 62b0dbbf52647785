/-
  TlvC: bits.Len64 and the writers of tlv: Num, Int, All, Text: each one's contract over the loaded program. No condition but the worlds' shapes that each contract names, and lengths that a process can hold.
  Same: The document's Same (layer 1), over the loaded program: its contract. No condition but the sizes that it names.
  Copy: The document's Copy (layer 1), over the loaded program: its contract. No condition but the sizes that it names.
  RefA: The document's own answers of layer 1: Num, Int, Text, Value and the Reader's methods: each one's contract over the loaded program. No condition but the worlds' shapes that each contract names.
  Step: append onto a row of the call's own, as one step of a region that draws its order: over any program. No condition.
  Held: A region that draws its order, operation by operation, over any program: what only reads is taken first, whether its guard lets it be done or not; what is to be done next alone is done. No condition.
-/
import Derived.Test.YtpeopkjmmmodpaaDoorEy02
import Derived.Lib.BitFns
import Derived.Lib.Walk
import Derived.WalkSpells
import Derived.BigQuiet
import Derived.Deep.QuietTactic
import Derived.Test.YtpeopkjmmmodpaaDoorEy00
import Derived.Deep.RegionLaw
import Derived.Deep.RegionHeld3
import Derived.Maps.RangeWalk
import Derived.Tactics
import Derived.KernelRfl
set_option linter.unusedVariables false
set_option maxRecDepth 100000
namespace Go.Proofs.YtpeopkjmmmodpaaDoor
section
open Go.RowKit
theorem bl (s : Nat) (y x : Int) (h0 : 0 ≤ y) (h1 : y ≤ 255) (hy : y.toNat = x.toNat / 2 ^ s) (hs : s = 0 ∨ 2 ^ s ≤ x.toNat) (hx : x.toNat < 18446744073709551616) (h56 : s ≤ 56) :
    wrap64 ((s : Int) + wrap64 (Lib.len8 y)) = (Lib.bitLen x.toNat : Int) := by
  have hl := Lib.bitLen_le8' y h0 h1
  have e1 : wrap64 (Lib.bitLen y.toNat : Int) = Lib.bitLen y.toNat := IntWalk.wrap64_in _ (by omega)
  rw [Lib.len8_of y h0 h1, e1, IntWalk.wrap64_in _ (by omega)]
  rcases hs with rfl | hs
  · rw [hy]; simp
  · rw [Lib.bitLen_shift s x.toNat hs (by simpa using hx), ← hy]
    simp
set_option maxRecDepth 100000 in
set_option maxHeartbeats 1000000 in
theorem len64_int (x : Int) (w : World) (h0 : 0 ≤ x) (h1 : x ≤ 18446744073709551615) :
    Calls Tryd.prog 50 #[.int .u64 x] w fun e w' => e = .returned (.int .i64 (Lib.bitLen x.toNat)) ∧ w = w' := by
  go_enter Tryd.func50, Tryd.ntmps50
  have n7 : 0 ≤ x / 4294967296 / 65536 / 256 := by omega
  have n6 : 0 ≤ x / 4294967296 / 65536 := by omega
  have n5 : 0 ≤ x / 4294967296 / 256 := by omega
  have n4 : 0 ≤ x / 4294967296 := by omega
  have n3 : 0 ≤ x / 65536 / 256 := by omega
  have n2 : 0 ≤ x / 65536 := by omega
  have n1 : 0 ≤ x / 256 := by omega
  have g7 : x / 4294967296 / 65536 / 256 ≤ 255 := by omega
  have g6 : x / 4294967296 / 65536 < 256 → x / 4294967296 / 65536 ≤ 255 := by omega
  have g5 : x / 4294967296 < 65536 → x / 4294967296 / 256 ≤ 255 := by omega
  have g4 : x / 4294967296 < 256 → x / 4294967296 ≤ 255 := by omega
  have g3 : x < 4294967296 → x / 65536 / 256 ≤ 255 := by omega
  have g2 : x / 65536 < 256 → x / 65536 ≤ 255 := by omega
  have g1 : x < 65536 → x / 256 ≤ 255 := by omega
  have g0 : x < 256 → x ≤ 255 := by omega
  go_wp2
  all_goals (go_ret; refine ⟨congrArg Ending.returned (congrArg (Value.int IntKind.i64) ?_), rfl⟩)
  · exact bl 56 _ x n7 g7 (by omega) (by omega) (by omega) (by omega)
  · exact bl 48 _ x n6 (by omega) (by omega) (by omega) (by omega) (by omega)
  · exact bl 40 _ x n5 (by omega) (by omega) (by omega) (by omega) (by omega)
  · exact bl 32 _ x n4 (by omega) (by omega) (by omega) (by omega) (by omega)
  · exact bl 24 _ x n3 (by omega) (by omega) (by omega) (by omega) (by omega)
  · exact bl 16 _ x n2 (by omega) (by omega) (by omega) (by omega) (by omega)
  · exact bl 8 _ x n1 (by omega) (by omega) (by omega) (by omega) (by omega)
  · have := bl 0 x x h0 (by omega) (by omega) (by omega) (by omega) (by omega)
    simpa using this
theorem len64_any (n : Nat) (w : World) (h : n < 18446744073709551616) :
    Calls Tryd.prog 50 #[.int .u64 n] w fun e w' => e = .returned (.int .i64 (Lib.bitLen n)) ∧ w = w' := by
  have := len64_int n w (by omega) (by omega)
  simpa only [Int.toNat_natCast] using this
theorem bitLen_pos (n : Nat) (h : n ≠ 0) (hn : n < 18446744073709551616) : 1 ≤ Lib.bitLen n := by
  rw [Lib.bitLen_half n h hn]
  omega
theorem size_dig (f n : Nat) (h : n < 256 ^ f) (hn : n < 18446744073709551616) : (Lib.bitLen n + 7) / 8 = (dig f n).length := by
  induction f generalizing n with
  | zero => simp at h; subst h; rfl
  | succ f ih =>
    by_cases h0 : n = 0
    · subst h0; have h5 : Lib.bitLen 0 = 0 := rfl; simp [dig, h5]
    · simp only [dig, if_neg h0, List.length_append, List.length_cons, List.length_nil]
      have hi := ih (n / 256) (by rw [Nat.pow_succ] at h; omega) (by omega)
      by_cases h1 : 256 ≤ n
      · have := Lib.bitLen_shift8 n h1 hn
        omega
      · have h2 := bitLen_pos n h0 hn
        have h3 := Lib.bitLen_le n 8 (by omega) (by omega)
        have h4 : n / 256 = 0 := by omega
        rw [h4] at hi ⊢
        have h5 : Lib.bitLen 0 = 0 := rfl
        rw [h5] at hi
        omega
theorem size_eight (n : Nat) (hn : n < 18446744073709551616) : (Lib.bitLen n + 7) / 8 = (dig 8 n).length := size_dig 8 n (by simpa using hn) hn
theorem bitLen_le64 (n : Nat) (hn : n < 18446744073709551616) : Lib.bitLen n ≤ 64 := Lib.bitLen_le n 64 (by omega) (by simpa using hn)
theorem zeros_made (n : Nat) : (madeCells (Value.int .u8 0).cells (n * 1)).toList = (List.replicate n (0 : UInt8)).map bv := by
  rw [Nat.mul_one]
  show (madeCells #[Value.int .u8 0] n).toList = _
  rw [toList_madeCells_one, List.map_replicate]
  rfl
theorem set_last_zero (a b : UInt8) (i : Nat) (t : List UInt8) : (a :: (List.replicate (i + 1) 0 ++ t)).set (i + 1) b = a :: (List.replicate i 0 ++ b :: t) := by
  simp only [List.set_cons_succ, List.cons.injEq, true_and]
  induction i with
  | zero => rfl
  | succ i ih => rw [List.replicate_succ, List.cons_append, List.set_cons_succ, ih, List.replicate_succ, List.cons_append]
theorem byte_wrap (m : Nat) : Value.int .u8 (IntKind.u8.wrap (m : Int)) = bv (UInt8.ofNat (m % 256)) := by
  unfold bv
  rw [IntKind.wrap_u8]
  have : (UInt8.ofNat (m % 256)).toNat = m % 256 := by simp
  rw [this]
  congr 1
theorem set_head (L : Nat) (h : L ≤ 8) : ((List.replicate (1 + L) (0 : UInt8)).map bv).set 0 (.int .u8 (L : Int)) = (UInt8.ofNat L :: (List.replicate L 0 ++ [])).map bv := by
  have : (UInt8.ofNat L).toNat = L := by simp; omega
  rw [Nat.add_comm, List.replicate_succ, List.map_cons, List.set_cons_zero, List.append_nil, List.map_cons]
  unfold bv
  rw [this]
theorem set_digit (a : UInt8) (i m : Nat) (t : List UInt8) : ((a :: (List.replicate (i + 1) 0 ++ t)).map bv).set (i + 1) (.int .u8 (IntKind.u8.wrap (m : Int))) = (a :: (List.replicate i 0 ++ UInt8.ofNat (m % 256) :: t)).map bv := by
  rw [byte_wrap, ← List.map_set, set_last_zero]
theorem num_any (n : Nat) (w : World) (h : n < 18446744073709551616) :
    Calls Tryd.prog 39 #[.int .u64 n] w fun e w' => Fresh w e w' (numb n) := by
  obtain ⟨i0, hi, hz0, hz1, hz2⟩ := info_parts info_byte
  have hs := size_eight n h
  have h8 := dig_length_le 8 n
  have hb := bitLen_le64 n h
  have HN := Lib.hid h
  have HD : Hid (numb n = UInt8.ofNat (dig 8 n).length :: dig 8 n) := rfl
  generalize hD : dig 8 n = D at *
  generalize numb n = R at *
  have HS := Lib.hid hs
  have HE := Lib.hid hD
  clear hs hD h
  obtain ⟨L, hL⟩ : ∃ L, L = D.length := ⟨_, rfl⟩
  have HL := Lib.hid hL
  rw [← hL] at h8
  have hw : ((Lib.bitLen n : Int) + 7) / 8 = (L : Int) := by have := HS.out; omega
  have HW := Lib.hid hw
  clear hw hL
  have hD : D = dig 8 n ++ [] := by rw [HE.out]; simp
  go_enter Tryd.func39, Tryd.ntmps39
  go_wp2_with fail
  refine (len64_any n _ HN.out).mono ?_
  rintro e w' ⟨rfl, rfl⟩
  have HD2 := Lib.hid hD
  clear hD
  go_wp2_with (at_make; simp only [HW.out]; refine wpList_make_full _ rfl (.tmp 11) (.tmp 11) 25 rfl w.heap.size 5 i0 (.int .u8 0) 1 Tryd.underlying25 hi hz0 hz1 .i64 .i64 (1 + L) (1 + L) (1 + L) rfl rfl (by omega) (by omega) (by rw [hz2]; omega) (by unfold maxLen; omega) (Nat.le_refl _) ?_; intro w1 hown hg1; rw [zeros_made] at hown; have k0 := hown.cellAt 0 (by omega); have f0 := hown.frozenAt 0; have k0' : w1.cell? ⟨w.heap.size, 0, none⟩ = some (.int .u8 0) := k0.trans (by rw [List.map_replicate, List.getElem?_replicate, if_pos (by omega)]; rfl); clear k0)
  go_loopw [0, 5] (fun nv iv wr => ∃ (f m i : Nat) (tl : List UInt8), Hid (D = dig f m ++ tl) ∧ Hid (i = (dig f m).length) ∧ i ≤ L ∧ nv = .int .u64 m ∧ iv = .int .i64 i ∧
      wr.ownsRow w.heap.size 5 1 (.slice (some ⟨w.heap.size, 0, none⟩) (1 + L) (1 + L)) (1 + L) ((UInt8.ofNat L :: (List.replicate i 0 ++ tl)).map bv) ∧ Below w.heap.size w wr)
    (fun _ iv _ => (intOf iv).toNat)
  case atStart =>
    refine ⟨8, n, L, [], HD2.out, by rw [HE.out]; exact HL.out, Nat.le_refl _, rfl, rfl, ?_, ((Below.refl _ _).grown hg1 (Nat.le_refl _) (by simp)).setCell (Nat.le_refl _) _⟩
    rw [← set_head L h8]
    exact (hown.stored 0 _).1
  case round =>
    obtain ⟨f, m, i, tl, hD, hl, hiL, rfl, rfl, how, hbl⟩ := hrel
    by_cases h0 : i = 0
    · subst h0
      go_wp2
      go_ret
      have e : dig f m = [] := List.eq_nil_of_length_eq_zero hl.out.symm
      have e2 := hD.out
      rw [e] at e2
      refine ⟨_, rfl, ?_, hbl⟩
      rw [HD.out, ← HL.out]
      simp only [List.length_cons, ← HL.out]
      rw [e2, Nat.add_comm L 1]
      exact how
    · obtain ⟨j, rfl⟩ : ∃ j, i = j + 1 := ⟨i - 1, by omega⟩
      clear h0
      have k1 : wr.cell? ⟨w.heap.size, j + 1, none⟩ = some (.int .u8 0) := by
        rw [how.cellAt (j + 1) (by omega), List.getElem?_map]
        simp [bv, List.getElem?_append]
      have f1 := how.frozenAt (j + 1)
      go_wp2
      go_roundw
      case rel =>
        obtain ⟨f', rfl⟩ : ∃ f', f = f' + 1 := by
          cases f with
          | zero => have := hl.out; simp [dig] at this
          | succ f => exact ⟨f, rfl⟩
        have hm : m ≠ 0 := by
          rintro rfl
          have := hl.out
          simp [dig] at this
        have e : dig (f' + 1) m = dig f' (m / 256) ++ [UInt8.ofNat (m % 256)] := by simp only [dig, if_neg hm]
        have e1 := hD.out
        have e2 := hl.out
        rw [e] at e1 e2
        refine ⟨f', m / 256, j, UInt8.ofNat (m % 256) :: tl, ?_, ?_, by omega, by go_num, by go_num, ?_, hbl.setCell (Nat.le_refl _) _⟩
        · show D = _
          rw [e1, List.append_assoc]; rfl
        · show j = _
          simp at e2; exact e2
        · rw [← set_digit]
          exact (how.stored _ _).1
      case measure => simp [intOf]
theorem u64_lt (i : Int) : u64 i < 18446744073709551616 := by unfold u64; omega
theorem u64_wrap (i : Int) : IntKind.u64.wrap i = ((u64 i : Nat) : Int) := by
  unfold u64
  rw [IntKind.wrap_u64]
  omega
theorem int_any (i : Int) (w : World) :
    Calls Tryd.prog 19 #[.int .i64 i] w fun e w' => Fresh w e w' (numb (u64 i)) := by
  go_enter Tryd.func19, Tryd.ntmps19
  go_wp2_with (go_at_call 39; rw [u64_wrap]; refine (num_any (u64 i) _ (u64_lt i)).mono ?_; rintro e w1 ⟨v, rfl, hown, hb⟩)
  go_ret
  exact ⟨v, rfl, hown, hb⟩
def flat (ls : List (List UInt8)) : List UInt8 := ls.flatten
theorem flat_take (ls : List (List UInt8)) (k : Nat) (h : k < ls.length) : flat (ls.take (k + 1)) = flat (ls.take k) ++ ls[k] := by
  unfold flat
  rw [List.take_succ_eq_append_getElem h, List.flatten_append]; simp
theorem flat_take_le (ls : List (List UInt8)) (k : Nat) : (flat (ls.take k)).length ≤ (flat ls).length := by
  have : flat ls = flat (ls.take k) ++ flat (ls.drop k) := by unfold flat; rw [← List.flatten_append, List.take_append_drop]
  rw [this]; simp
theorem all_any (S : Nat → Prop) (v : Value) (ls : List (List UInt8)) (w : World) (h : LS w S v ls) (hl : (flat ls).length ≤ 140737488355328) :
    Calls Tryd.prog 18 #[v] w fun e w' => Fresh w e w' (flat ls) := by
  obtain ⟨i0, hi, hz0, hz1, hz2⟩ := info_parts info_byte
  obtain ⟨A, c, rfl, hlc, hcm⟩ := h.form
  have hlen : ls.length ≤ 9223372036854775807 := by unfold maxLen at hcm; omega
  clear hcm hlc
  go_enter Tryd.func18, Tryd.ntmps18
  go_wp2
  go_loop [3, 11] (fun n i => ∃ k : Nat, k ≤ ls.length ∧ i = .int .i64 k ∧ n = .int .i64 ((flat (ls.take k)).length : Nat)) (fun _ i => ls.length - (intOf i).toNat)
  case atStart => exact ⟨0, by omega, rfl, rfl⟩
  case round =>
    obtain ⟨k, hk, rfl, rfl⟩ := hrel
    by_cases hlt : k < ls.length
    · obtain ⟨b, o, rfl, sb, hb, hx⟩ := h.at_ (by omega)
      obtain ⟨A', c', kc, _⟩ := hx k ls[k] (List.getElem?_eq_getElem hlt)
      have h1 := flat_take_le ls (k + 1)
      rw [flat_take ls k hlt, List.length_append] at h1
      have h2 : (flat (ls.take k)).length + ls[k].length ≤ 140737488355328 := by omega
      clear hx h1
      go_wp2
      go_round
      case rel => exact ⟨k + 1, by omega, by go_num, by rw [flat_take ls k hlt, List.length_append]; go_num⟩
      case measure => simp [intOf]; omega
    · have e : ls.take k = ls := List.take_of_length_le (by omega)
      rw [e]
      clear e
      go_wp2_with (at_make; refine wpList_make_own _ rfl _ _ 25 rfl w.heap.size 5 i0 (.int .u8 0) 1 Tryd.underlying25 hi hz0 hz1 .i64 .i64 _ (flat ls).length rfl rfl rfl (by rw [hz2]; omega) (by unfold maxLen; omega) (Nat.le_refl _) ?_; intro w1 hown hg1)
      have hb1 := below_of_grown hg1
      go_loopw [6, 24] (fun bv' i wr => ∃ k : Nat, k ≤ ls.length ∧ i = .int .i64 k ∧ wr.ownsRow w.heap.size 5 1 bv' (flat (ls.take k)).length ((flat (ls.take k)).map bv) ∧ Below w.heap.size w wr) (fun _ i _ => ls.length - (intOf i).toNat)
      case atStart => exact ⟨0, by omega, rfl, hown, hb1⟩
      case round =>
        obtain ⟨k, hk, rfl, how, hbl⟩ := hrel
        by_cases hlt : k < ls.length
        · have h' := h.below' hbl
          obtain ⟨b, o, rfl, sb, hb, hx⟩ := h'.at_ (by omega)
          obtain ⟨A', c', kc, hy⟩ := hx k ls[k] (List.getElem?_eq_getElem hlt)
          have h1 := flat_take_le ls (k + 1)
          have h3 := flat_take ls k hlt
          rw [h3, List.length_append] at h1
          have H3 := Lib.hid h3
          have h2 : (flat (ls.take k)).length + ls[k].length ≤ 140737488355328 := by omega
          clear hx h1 h3
          go_wp2_with (at_builtin; refine wpList_grow _ rfl _ _ _ rfl w.heap.size 5 i0 Tryd.underlying25 hi hz0 hz1 hz2 _ _ rfl how S _ _ rfl hy h2 hbl.size ?_; intro v2 w2 how2 hg2 _)
          go_roundw
          case rel =>
            refine ⟨k + 1, by omega, by go_num, ?_, hbl.grown hg2 hbl.size fun g hg => (how.lt g hg).1⟩
            rw [H3.out]
            exact how2
          case measure => simp [intOf]; omega
        · have e : ls.take k = ls := List.take_of_length_le (by omega)
          rw [e] at how
          clear e
          go_wp2
          go_ret
          exact ⟨_, rfl, how, hbl⟩
theorem text_any (S : Nat → Prop) (v : Value) (l : List UInt8) (w : World) (h : BS w S v l) (hl : l.length ≤ 140737488000000) :
    Calls Tryd.prog 20 #[v] w fun e w' => Fresh w e w' (texb l) := by
  obtain ⟨A, c, rfl, _⟩ := h.form
  have h8 := dig_length_le 8 l.length
  go_enter Tryd.func20, Tryd.ntmps20
  go_wp2_with fail
  refine (num_any l.length _ (by omega)).mono ?_
  rintro e w1 ⟨v1, rfl, hown, hb⟩
  obtain ⟨A1, c1, rfl, _⟩ := (own_BS hown).form
  have hl2 : LS (w1.alloc (.cells #[.slice A1 (numb l.length).length c1, .slice A l.length c] 25)) (fun b => True ∨ b = w1.heap.size) (.slice (some ⟨w1.heap.size, 0, none⟩) 2 2) [numb l.length, l] :=
    LS.two ((own_BS hown).mono fun _ _ => trivial) ((h.below' hb).mono fun _ _ => trivial)
  have hs := hb.size
  go_wp2_with fail
  refine (all_any _ _ _ _ hl2 (by simp [flat, numb]; omega)).mono ?_
  rintro e w2 ⟨v2, rfl, hown2, hb2⟩
  go_wp2
  go_ret
  have hs2 : w.heap.size ≤ (w1.alloc (.cells #[.slice A1 (numb l.length).length c1, .slice A l.length c] 25)).heap.size := by simp; omega
  refine ⟨_, rfl, ?_, (hb.alloc hs _).trans (hb2.mono hs2)⟩
  have := own_base hown2 hs2
  simpa [flat, texb] using this
end
section
open Go.RowKit
theorem take_one_more {l m : List UInt8} {k : Nat} (h : l.take k = m.take k) (hl : k < l.length) (hm : k < m.length) (e : l[k] = m[k]) : l.take (k + 1) = m.take (k + 1) := by
  rw [List.take_add_one, List.take_add_one, h, List.getElem?_eq_getElem hl, List.getElem?_eq_getElem hm, e]
theorem same_draws (S S' : Nat → Prop) (x y : Value) (l m : List UInt8) (w : World) (hx : BS w S x l) (hy : BS w S' y m) :
    Calls Tryd.prog 9 #[x, y] w fun e w' => e = .returned (.bool (decide (l = m))) ∧ ∃ n, w' = w.drewN n := by
  obtain ⟨A, c, rfl, hlc, hcm, _⟩ := hx.form
  obtain ⟨A', c', rfl, _⟩ := hy.form
  have hlen : l.length ≤ 9223372036854775807 := by unfold maxLen at hcm; omega
  clear hcm hlc
  by_cases hlm : l.length = m.length
  · obtain ⟨r, hr⟩ : ∃ r, r = decide (l = m) := ⟨_, rfl⟩
    rw [← hr]
    have HR : Hid (r = decide (l = m)) := hr
    have HE : Hid (l.length = m.length) := hlm
    rw [← hlm] at hy ⊢
    clear hr hlm
    go_enter Tryd.func9, Tryd.ntmps9
    go_wp2
    go_loopw [5] (fun i wr => ∃ k n : Nat, k ≤ l.length ∧ Hid (l.take k = m.take k) ∧ i = .int .i64 k ∧ wr = w.drewN n) (fun i _ => l.length - (intOf i).toNat)
    case atStart => exact ⟨0, 0, by omega, by show _ = _; simp, rfl, rfl⟩
    case round =>
      obtain ⟨k, n, hk, ht, rfl, rfl⟩ := hrel
      by_cases hlt : k < l.length
      · have hmt : k < m.length := by rw [← HE.out]; exact hlt
        obtain ⟨b, o, rfl, _, _, h1⟩ := hx.at_ (by omega)
        have hy' := hy
        obtain ⟨A0, c0, e0, _, _, _, h2⟩ := hy'
        obtain ⟨b', o', rfl, _, _, h2⟩ := h2 (by omega)
        injection e0 with e0 _ _
        subst e0
        have k1 := h1 k l[k] (List.getElem?_eq_getElem hlt)
        have k2 : w.cell? ⟨b', o' + k, none⟩ = some (.int .u8 (m[k].toNat : Int)) := h2 k m[k] (List.getElem?_eq_getElem hmt)
        have ho := take_one_more ht.out hlt hmt
        have hn : ¬ l[k] = m[k] → r = false := fun h => by rw [HR.out]; exact decide_eq_false fun e => h (by subst e; rfl)
        have HO := Lib.hid ho
        have HN := Lib.hid hn
        clear h1 h2 hx hy ho hn
        generalize l[k] = p at *
        generalize m[k] = q at *
        by_cases hpq : (p.toNat : Int) = (q.toNat : Int)
        · have hpq' : p = q := UInt8.toNat_inj.1 (by omega)
          have HT := Lib.hid (HO.out hpq')
          go_wp2
          go_quiet (fail)
          go_wp2
          go_roundw
          case rel => exact ⟨k + 1, n + nq, by omega, HT, by go_num, rfl⟩
          case measure => simp [intOf]; omega
        · have hr := HN.out (fun e => hpq (by rw [e]))
          clear HN HO
          subst hr
          go_wp2
          go_quiet (fail)
          go_wp2
          go_ret
          exact ⟨rfl, n + nq, drewN_twice w n nq⟩
      · have hkl : k = l.length := by omega
        have hr : r = true := by
          rw [HR.out]
          have e := ht.out
          rw [hkl, List.take_length, HE.out, List.take_length] at e
          exact decide_eq_true e
        clear ht HR
        subst hr
        go_wp2
        go_ret
        exact ⟨rfl, _, rfl⟩
  · rw [decide_eq_false fun e => hlm (by rw [e])]
    have hne : ¬ (l.length : Int) = (m.length : Int) := by omega
    go_enter Tryd.func9, Tryd.ntmps9
    go_wp2
    go_ret
    exact ⟨rfl, 0, rfl⟩
theorem same_is (S S' : Nat → Prop) (x y : Value) (l m : List UInt8) (w : World) (hx : BS w S x l) (hy : BS w S' y m) :
    Calls Tryd.prog 9 #[x, y] w fun e w' => e = .returned (.bool (decide (l = m))) ∧ Below w.heap.size w w' := by
  refine (same_draws S S' x y l m w hx hy).mono ?_
  rintro e w' ⟨rfl, n, rfl⟩
  exact ⟨rfl, ⟨rfl, rfl, rfl, Nat.le_refl _, fun _ _ => rfl⟩⟩
theorem same_yes (S S' : Nat → Prop) (x y : Value) (l : List UInt8) (w : World) (hx : BS w S x l) (hy : BS w S' y l) :
    Calls Tryd.prog 9 #[x, y] w fun e w' => e = .returned (.bool true) ∧ ∃ n, w' = w.drewN n := by
  refine (same_draws S S' x y l l w hx hy).mono ?_
  rintro e w' ⟨rfl, n, rfl⟩
  exact ⟨by rw [decide_eq_true rfl], n, rfl⟩
theorem same_to (S S' : Nat → Prop) (x y : Value) (l : List UInt8) (w : World) (hx : BS w S x l) (hy : BS w S' y l) :
    Calls Tryd.prog 9 #[x, y] w fun e w' => e = .returned (.bool true) ∧ Below w.heap.size w w' := by
  refine (same_yes S S' x y l w hx hy).mono ?_
  rintro e w' ⟨rfl, n, rfl⟩
  exact ⟨rfl, ⟨rfl, rfl, rfl, Nat.le_refl _, fun _ _ => rfl⟩⟩
end
section
open Go.RowKit
theorem copy_any (S : Nat → Prop) (v : Value) (l : List UInt8) (w : World) (h : BS w S v l) (hl : l.length ≤ 140737488355328) :
    Calls Tryd.prog 35 #[v] w fun e w' => Fresh w e w' l := by
  obtain ⟨i0, hi, hz0, hz1, hz2⟩ := info_parts info_byte
  go_enter Tryd.func35, Tryd.ntmps35
  go_wp2_with (at_builtin; refine wpList_grow _ rfl _ _ _ rfl w.heap.size 5 i0 Tryd.underlying25 hi hz0 hz1 hz2 (.slice (some ⟨w.heap.size, 0, none⟩) 0 0) [] rfl (World.ownsRow_lit w #[] 0 (Nat.le_refl _) (by simp [maxLen]) rfl) S _ l rfl (h.alloc _) (by simp; omega) (by simp) ?_; intro v1 w1 hown hg _)
  go_ret
  exact ⟨_, rfl, hown, ((Below.refl _ _).alloc (Nat.le_refl _) _).grown hg (by simp) (by simp [Value.ownBlock])⟩
end
section
open Go.RowKit
theorem rnum_any (n : Nat) (w : World) (h : n < 18446744073709551616) :
    Calls Tryd.prog 41 #[.int .u64 n] w fun e w' => Fresh w e w' (numb n) := by
  obtain ⟨i0, hi, hz0, hz1, hz2⟩ := info_parts info_byte
  have HR : Hid (numb n = UInt8.ofNat (dig 8 n).length :: dig 8 n) := rfl
  have h8 := dig_length_le 8 n
  have HD0 : Hid (dig 8 n = dig 8 n ++ []) := by show _ = _; simp
  have HV : Hid (val (dig 8 n) = n) := dig_val 8 n (by simpa using h)
  have HN := Lib.hid h
  generalize numb n = R at *
  generalize hD : dig 8 n = D at HR h8 HD0 HV
  have HE := Lib.hid hD
  clear hD h
  go_enter Tryd.func41, Tryd.ntmps41
  go_wp2
  go_loopw [0, 3] (fun nv v wr => ∃ (f m : Nat) (tl : List UInt8), Hid (D = dig f m ++ tl) ∧ Hid (val (dig f m) = m) ∧ Hid (m < 18446744073709551616) ∧ nv = .int .u64 m ∧ wr.ownsRow w.heap.size 5 1 v tl.length (tl.map bv) ∧ Below w.heap.size w wr)
    (fun nv _ _ => (intOf nv).toNat)
  case atStart => exact ⟨8, n, [], by show D = _; rw [HE.out]; simp, by show _ = _; rw [HE.out]; exact HV.out, HN, rfl, World.ownsRow_nil _ _ _ _, Below.refl _ _⟩
  case round =>
    obtain ⟨f, m, tl, hD, hv, hm, rfl, how, hbl⟩ := hrel
    by_cases h0 : m = 0
    · subst h0
      have e : dig f 0 = [] := by cases f <;> simp [dig]
      have e2 := hD.out
      rw [e, List.nil_append] at e2
      subst e2
      clear e hD hv
      have hb := hbl.size
      obtain ⟨A1, c1, rfl, _⟩ := (own_BS how).form
      have hbs := own_BS how
      have HB : Hid (UInt8.ofNat (D.length % 256) = UInt8.ofNat D.length) := by show _ = _; rw [Nat.mod_eq_of_lt (by omega)]
      have HM : Hid (Value.int .u8 (D.length : Int) = bv (UInt8.ofNat (D.length % 256))) := by show _ = _; rw [← byte_mod]; congr 1; omega
      go_wp2_with (at_builtin; simp only [HM.out]; refine wpList_grow _ rfl _ _ _ rfl w.heap.size 5 i0 Tryd.underlying25 hi hz0 hz1 hz2 (.slice (some ⟨wr.heap.size, 0, none⟩) 1 1) [UInt8.ofNat (D.length % 256)] rfl (lit_one wr D.length _ hb) _ _ D rfl (hbs.alloc _) (by simp; omega) (by simp; omega) ?_; intro v2 w2 how2 hg2 _)
      go_ret
      rw [HB.out] at how2
      refine ⟨_, rfl, ?_, (hbl.alloc hb _).grown hg2 (by simp; omega) (by simp [Value.ownBlock]; omega)⟩
      rw [HR.out]
      exact how2
    · have hlt : 0 < m := by omega
      obtain ⟨f', rfl⟩ : ∃ f', f = f' + 1 := by
        cases f with
        | zero => have := hv.out; simp [dig, val] at this; omega
        | succ f => exact ⟨f, rfl⟩
      have e : dig (f' + 1) m = dig f' (m / 256) ++ [UInt8.ofNat (m % 256)] := by simp only [dig, if_neg h0]
      have e1 := hD.out
      have e2 := hv.out
      rw [e] at e1 e2
      rw [val_snoc] at e2
      have hu : (UInt8.ofNat (m % 256)).toNat = m % 256 := by simp
      have E1 := Lib.hid e1
      have E2 : Hid (val (dig f' (m / 256)) = m / 256) := by show _ = _; omega
      have EW : Hid (IntKind.u64.wrap ((m : Int) / 256) = ((m / 256 : Nat) : Int)) := by
        have := hm.out
        show _ = _
        rw [IntWalk.u64_in _ (by omega)]; omega
      have EM : Hid (m / 256 < 18446744073709551616) := by
        have := hm.out
        show _ < _
        omega
      have hb := hbl.size
      have hbs := own_BS how
      have hle : tl.length ≤ 8 := by have := congrArg List.length e1; simp at this; omega
      obtain ⟨A1, c1, rfl, _⟩ := hbs.form
      clear hu e1 e2 e hD hv
      go_wp2_with (at_builtin; simp only [byte_mod]; refine wpList_grow _ rfl _ _ _ rfl w.heap.size 5 i0 Tryd.underlying25 hi hz0 hz1 hz2 (.slice (some ⟨wr.heap.size, 0, none⟩) 1 1) [UInt8.ofNat (m % 256)] rfl (lit_one wr m _ hb) _ _ tl rfl (hbs.alloc _) (by simp; omega) (by simp; omega) ?_; intro v2 w2 how2 hg2 _)
      go_roundw
      case rel =>
        refine ⟨f', m / 256, UInt8.ofNat (m % 256) :: tl, ?_, E2.out, EM, by rw [EW.out], ?_, (hbl.alloc hb _).grown hg2 (by simp; omega) (by simp [Value.ownBlock]; omega)⟩
        · show D = _
          rw [E1.out, List.append_assoc]; rfl
        · exact how2
      case measure => rw [EW.out]; simp [intOf]; omega
theorem rint_any (i : Int) (w : World) :
    Calls Tryd.prog 22 #[.int .i64 i] w fun e w' => Fresh w e w' (numb (u64 i)) := by
  go_enter Tryd.func22, Tryd.ntmps22
  go_wp2_with (go_at_call 41; rw [u64_wrap]; refine (rnum_any (u64 i) _ (u64_lt i)).mono ?_; rintro e w1 ⟨v, rfl, hown, hb⟩)
  go_ret
  exact ⟨v, rfl, hown, hb⟩
theorem rtext_any (S : Nat → Prop) (v : Value) (l : List UInt8) (w : World) (h : BS w S v l) (hl : l.length ≤ 140737488000000) :
    Calls Tryd.prog 23 #[v] w fun e w' => Fresh w e w' (texb l) := by
  obtain ⟨i0, hi, hz0, hz1, hz2⟩ := info_parts info_byte
  obtain ⟨A, c, rfl, _⟩ := h.form
  have h8 : (numb l.length).length ≤ 9 := by have := dig_length_le 8 l.length; simp [numb]; omega
  have HT : Hid (texb l = numb l.length ++ l) := rfl
  go_enter Tryd.func23, Tryd.ntmps23
  go_wp2_with fail
  refine (rnum_any l.length _ (by omega)).mono ?_
  rintro e w1 ⟨v1, rfl, hown, hb⟩
  have hbl := h.below' hb
  generalize numb l.length = N at *
  have hs := hb.size
  go_wp2_with (at_builtin; refine wpList_grow _ rfl _ _ _ rfl w.heap.size 5 i0 Tryd.underlying25 hi hz0 hz1 hz2 v1 N rfl hown S _ l rfl hbl (by omega) hs ?_; intro v2 w2 how2 hg2 _)
  go_ret
  rw [← HT.out] at how2
  exact ⟨_, rfl, how2, hb.grown hg2 hs fun g hg => (hown.lt g hg).1⟩
end
section
open Go.RowKit
theorem step_grow {P : Program} {ops : Array Oper} {o : Oper} {a : Act} {w : World} {K : Act → World → Prop} {Q : Exit → Act → World → Prop} {E : Prop}
    (hg : o.guard = none) (s x : Operand) (t : TypeId) (hop : o.op = Op.call { callee := Callee.builtin Builtin.append, args := #[s, x], argTypes := #[t, t] })
    (base : Nat) (e : TypeId) (i : TypeInfo) (ht : P.underlying t = some (.slice e)) (hi : P.info? e = some i) (hz : i.zero = some (.int .u8 0))
    (hsize : i.size = 1) (hby : i.bytes = 1) (v : Value) (xs : List UInt8) (hs : a.eval s = v) (hown : w.ownsRow base e 1 v xs.length (xs.map bv))
    (S : Nat → Prop) (xv : Value) (ys : List UInt8) (hxe : a.eval x = xv) (hx : BS w S xv ys) (hb : xs.length + ys.length ≤ 140737488355328) (hbase : base ≤ w.heap.size)
    (hK : ∀ v' w', w'.ownsRow base e 1 v' (xs ++ ys).length ((xs ++ ys).map bv) → w.grownBy w' v.ownBlock → (v'.ownBlock = v.ownBlock ∨ v'.ownBlock = some w.heap.size) → K (a.put o.dst v') w') :
    if Region.wanted o (yielded ops a.tmps) = true then Oper.wp P o a w K Q else E := by
  have hw : Region.wanted o (yielded ops a.tmps) = true := by simp [Region.wanted, hg]
  rw [if_pos hw]
  obtain ⟨v', w', hrun, h2, h3, h4⟩ := run_grow (P := P) w base t o.type e i ht hi hz hsize hby v xs hown S xv ys hx hb hbase
  unfold Oper.wp execOp
  simp only [hop, resolve, invoke, builtin, Sem.run_bind, Sem.run_pure, Result.andThen_ok, List.map_toArray, List.map_cons, List.map_nil, hs, hxe, hrun]
  exact hK _ _ h2 h3 h4
theorem wp_grow {P : Program} {o : Oper} {a : Act} {w : World} {K : Act → World → Prop} {Q : Exit → Act → World → Prop}
    (s x : Operand) (t : TypeId) (hop : o.op = Op.call { callee := Callee.builtin Builtin.append, args := #[s, x], argTypes := #[t, t] })
    (base : Nat) (e : TypeId) (i : TypeInfo) (ht : P.underlying t = some (.slice e)) (hi : P.info? e = some i) (hz : i.zero = some (.int .u8 0))
    (hsize : i.size = 1) (hby : i.bytes = 1) (v : Value) (xs : List UInt8) (hs : a.eval s = v) (hown : w.ownsRow base e 1 v xs.length (xs.map bv))
    (S : Nat → Prop) (xv : Value) (ys : List UInt8) (hxe : a.eval x = xv) (hx : BS w S xv ys) (hb : xs.length + ys.length ≤ 140737488355328) (hbase : base ≤ w.heap.size)
    (hK : ∀ v' w', w'.ownsRow base e 1 v' (xs ++ ys).length ((xs ++ ys).map bv) → w.grownBy w' v.ownBlock → (v'.ownBlock = v.ownBlock ∨ v'.ownBlock = some w.heap.size) → K (a.put o.dst v') w') :
    Oper.wp P o a w K Q := by
  obtain ⟨v', w', hrun, h2, h3, h4⟩ := run_grow (P := P) w base t o.type e i ht hi hz hsize hby v xs hown S xv ys hx hb hbase
  unfold Oper.wp execOp
  simp only [hop, resolve, invoke, builtin, Sem.run_bind, Sem.run_pure, Result.andThen_ok, List.map_toArray, List.map_cons, List.map_nil, hs, hxe, hrun]
  exact hK _ _ h2 h3 h4
theorem own_ne {w : World} {B e size n g : Nat} {v : Value} {xs : List Value} (h : w.ownsRow B e size v n xs) (hg : g < B) : v.ownBlock ≠ some g := by
  obtain ⟨_, h2⟩ := h
  rcases h2 with ⟨rfl, _⟩ | ⟨g', c, cur, rfl, hb, _⟩
  · simp [Value.ownBlock]
  · simp [Value.ownBlock]; omega
theorem own_ge {w : World} {B e size n : Nat} {v : Value} {xs : List Value} (h : w.ownsRow B e size v n xs) (k : Nat) (hk : v.ownBlock = some k) : B ≤ k := by
  rcases Nat.lt_or_ge k B with hlt | hge
  · exact absurd hk (own_ne h hlt)
  · exact hge
end
section
section
variable {P : Program} {ops : Array Oper} {Q : Exit → Act → World → Prop} {S : World → Prop} {md : Region.Mode} {fuel : Nat} {listed : Array Bool} {a : Act} {w : World}
theorem held_yes (i : Nat) {o : Oper} {v : Value} (hi : ops[i]? = some o) (hs : Region.noSelect ops = true) (hf : Region.free md ops listed i = true) (hr : (Region.ready md ops listed).contains i = true)
    (hQ : ∀ c a w, Q (.panic c) (a.put o.dst v) w → Q (.panic c) a w) (hw : Region.wanted o (yielded ops a.tmps) = true) (hS : S w) (hy : ∀ w, S w → (execOp a.eval o).run P w = .ok (.value v) w)
    (h : wpAnyH P md ops Q S fuel (listed.setIfInBounds i true) (a.put o.dst v) w) : wpAnyH P md ops Q S (fuel + 1) listed a w :=
  wpAnyH_take hi hs hf hr hQ (Or.inl ⟨hw, hy⟩) hS h
theorem held_no (i : Nat) {o : Oper} (hi : ops[i]? = some o) (hs : Region.noSelect ops = true) (hf : Region.free md ops listed i = true) (hr : (Region.ready md ops listed).contains i = true)
    (hQ : ∀ c a w, Q (.panic c) (a.put o.dst undef) w → Q (.panic c) a w) (hw : Region.wanted o (yielded ops a.tmps) = false) (hS : S w)
    (h : wpAnyH P md ops Q S fuel (listed.setIfInBounds i true) (a.put o.dst undef) w) : wpAnyH P md ops Q S (fuel + 1) listed a w :=
  wpAnyH_take hi hs hf hr hQ (Or.inr ⟨hw, rfl⟩) hS h
theorem held_one (i : Nat) {o : Oper} (hr : Region.ready md ops listed = [i]) (hi : ops[i]? = some o) (hw : Region.wanted o (yielded ops a.tmps) = true)
    (h : ∀ K : Act → World → Prop, Shut (∀ a w, S w → (S w → wpAnyH P md ops Q S fuel (listed.setIfInBounds i true) a w) → K a w) → Oper.wp P o a w K Q) : wpAnyH P md ops Q S (fuel + 1) listed a w :=
  wpAnyH_ready hr (by simp) (AllReadyH.cons hi (fun K hK => by rw [if_pos hw]; exact h K hK) AllReadyH.nil)
theorem held_two (i j : Nat) {o p : Oper} (hr : Region.ready md ops listed = [i, j]) (hi : ops[i]? = some o) (hj : ops[j]? = some p) (hw : Region.wanted o (yielded ops a.tmps) = true) (hv : Region.wanted p (yielded ops a.tmps) = true)
    (h : ∀ K : Act → World → Prop, Shut (∀ a w, S w → (S w → wpAnyH P md ops Q S fuel (listed.setIfInBounds i true) a w) → K a w) → Oper.wp P o a w K Q)
    (k : ∀ K : Act → World → Prop, Shut (∀ a w, S w → (S w → wpAnyH P md ops Q S fuel (listed.setIfInBounds j true) a w) → K a w) → Oper.wp P p a w K Q) : wpAnyH P md ops Q S (fuel + 1) listed a w :=
  wpAnyH_ready hr (by simp) (AllReadyH.cons hi (fun K hK => by rw [if_pos hw]; exact h K hK) (AllReadyH.cons hj (fun K hK => by rw [if_pos hv]; exact k K hK) AllReadyH.nil))
theorem held_three (i j l : Nat) {o p q : Oper} (hr : Region.ready md ops listed = [i, j, l]) (hi : ops[i]? = some o) (hj : ops[j]? = some p) (hl : ops[l]? = some q) (hw : Region.wanted o (yielded ops a.tmps) = true) (hv : Region.wanted p (yielded ops a.tmps) = true) (hu : Region.wanted q (yielded ops a.tmps) = true)
    (h : ∀ K : Act → World → Prop, Shut (∀ a w, S w → (S w → wpAnyH P md ops Q S fuel (listed.setIfInBounds i true) a w) → K a w) → Oper.wp P o a w K Q)
    (k : ∀ K : Act → World → Prop, Shut (∀ a w, S w → (S w → wpAnyH P md ops Q S fuel (listed.setIfInBounds j true) a w) → K a w) → Oper.wp P p a w K Q)
    (m : ∀ K : Act → World → Prop, Shut (∀ a w, S w → (S w → wpAnyH P md ops Q S fuel (listed.setIfInBounds l true) a w) → K a w) → Oper.wp P q a w K Q) : wpAnyH P md ops Q S (fuel + 1) listed a w :=
  wpAnyH_ready hr (by simp) (AllReadyH.cons hi (fun K hK => by rw [if_pos hw]; exact h K hK) (AllReadyH.cons hj (fun K hK => by rw [if_pos hv]; exact k K hK) (AllReadyH.cons hl (fun K hK => by rw [if_pos hu]; exact m K hK) AllReadyH.nil)))
theorem held_four (i j l r : Nat) {o p q s : Oper} (hr : Region.ready md ops listed = [i, j, l, r]) (hi : ops[i]? = some o) (hj : ops[j]? = some p) (hl : ops[l]? = some q) (hrr : ops[r]? = some s) (hw : Region.wanted o (yielded ops a.tmps) = true) (hv : Region.wanted p (yielded ops a.tmps) = true) (hu : Region.wanted q (yielded ops a.tmps) = true) (ht : Region.wanted s (yielded ops a.tmps) = true)
    (h : ∀ K : Act → World → Prop, Shut (∀ a w, S w → (S w → wpAnyH P md ops Q S fuel (listed.setIfInBounds i true) a w) → K a w) → Oper.wp P o a w K Q)
    (k : ∀ K : Act → World → Prop, Shut (∀ a w, S w → (S w → wpAnyH P md ops Q S fuel (listed.setIfInBounds j true) a w) → K a w) → Oper.wp P p a w K Q)
    (m : ∀ K : Act → World → Prop, Shut (∀ a w, S w → (S w → wpAnyH P md ops Q S fuel (listed.setIfInBounds l true) a w) → K a w) → Oper.wp P q a w K Q)
    (n : ∀ K : Act → World → Prop, Shut (∀ a w, S w → (S w → wpAnyH P md ops Q S fuel (listed.setIfInBounds r true) a w) → K a w) → Oper.wp P s a w K Q) : wpAnyH P md ops Q S (fuel + 1) listed a w :=
  wpAnyH_ready hr (by simp) (AllReadyH.cons hi (fun K hK => by rw [if_pos hw]; exact h K hK) (AllReadyH.cons hj (fun K hK => by rw [if_pos hv]; exact k K hK) (AllReadyH.cons hl (fun K hK => by rw [if_pos hu]; exact m K hK) (AllReadyH.cons hrr (fun K hK => by rw [if_pos ht]; exact n K hK) AllReadyH.nil))))
end
section
variable {P : Program} {ops : Array Oper} {Q : Exit → Act → World → Prop} {S : World → Prop} {md : Region.Mode} {fuel : Nat} {listed : Array Bool} {a : Act} {w : World}
theorem hyY (d : Option Nat) (i : Nat) {x1 : Op} {x2 : TypeId} {x3 : String} {x4 : Array Edge} {x5 : Option (Nat × Bool)} {v : Value} (hi : ops[i]? = some ⟨d, x1, x2, x3, x4, x5⟩) (hS : S w)
    (h : wpAnyH P md ops Q S fuel (listed.setIfInBounds i true) (a.put d v) w)
    (hs : Region.noSelect ops = true := by kernel_rfl) (hf : Region.free md ops listed i = true := by kernel_rfl) (hr : (Region.ready md ops listed).contains i = true := by kernel_rfl)
    (hQ : ∀ c a w, Q (.panic c) (a.put d v) w → Q (.panic c) a w := by exact fun _ _ _ h => h) (hw : Region.wanted ⟨d, x1, x2, x3, x4, x5⟩ (yielded ops a.tmps) = true := by rfl)
    (hy : ∀ w, S w → (execOp a.eval ⟨d, x1, x2, x3, x4, x5⟩).run P w = .ok (.value v) w := by (intro w hSw; (try dsimp only at hSw); go_simp; with_reducible rfl)) : wpAnyH P md ops Q S (fuel + 1) listed a w :=
  held_yes i hi hs hf hr hQ hw hS hy h
theorem hyN (d : Option Nat) (i : Nat) {x1 : Op} {x2 : TypeId} {x3 : String} {x4 : Array Edge} {x5 : Option (Nat × Bool)} (hi : ops[i]? = some ⟨d, x1, x2, x3, x4, x5⟩) (hS : S w)
    (h : wpAnyH P md ops Q S fuel (listed.setIfInBounds i true) (a.put d undef) w)
    (hs : Region.noSelect ops = true := by kernel_rfl) (hf : Region.free md ops listed i = true := by kernel_rfl) (hr : (Region.ready md ops listed).contains i = true := by kernel_rfl)
    (hQ : ∀ c a w, Q (.panic c) (a.put d undef) w → Q (.panic c) a w := by exact fun _ _ _ h => h) (hw : Region.wanted ⟨d, x1, x2, x3, x4, x5⟩ (yielded ops a.tmps) = false := by rfl) : wpAnyH P md ops Q S (fuel + 1) listed a w :=
  held_no i hi hs hf hr hQ hw hS h
theorem hyO (d : Option Nat) (i : Nat) {x1 : Op} {x2 : TypeId} {x3 : String} {x4 : Array Edge} {x5 : Option (Nat × Bool)} (hi : ops[i]? = some ⟨d, x1, x2, x3, x4, x5⟩)
    (h : ∀ K : Act → World → Prop, Shut (∀ a w, S w → (S w → wpAnyH P md ops Q S fuel (listed.setIfInBounds i true) a w) → K a w) → Oper.wp P ⟨d, x1, x2, x3, x4, x5⟩ a w K Q)
    (hr : Region.ready md ops listed = [i] := by kernel_rfl) (hw : Region.wanted ⟨d, x1, x2, x3, x4, x5⟩ (yielded ops a.tmps) = true := by rfl) : wpAnyH P md ops Q S (fuel + 1) listed a w :=
  held_one i hr hi hw h
end
end
end Go.Proofs.YtpeopkjmmmodpaaDoor
