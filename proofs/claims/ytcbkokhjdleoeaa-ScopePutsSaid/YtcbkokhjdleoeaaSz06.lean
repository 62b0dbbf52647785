/-
  TlvC: bits.Len64 and the writers of tlv: Num, Int, All, Text: each one's contract over the loaded program. No condition but the worlds' shapes that each contract names, and lengths that a process can hold.
  Same: The document's Same (layer 1), over the loaded program: its contract. No condition but the sizes that it names.
  Copy: The document's Copy (layer 1), over the loaded program: its contract. No condition but the sizes that it names.
  RefA: The document's own answers of layer 1: Num, Int, Text, Value and the Reader's methods: each one's contract over the loaded program. No condition but the worlds' shapes that each contract names.
  Step: append onto a row of the call's own, as one step of a region that draws its order: over any program. No condition.
  CmM: What is summed for a commitment and for a link tells what it is of: plain mathematics. No program. No condition.
  ScI: The document's bytes (layer 20), over the loaded program: what is said of all. No condition but the sizes that each contract names.
-/
import Derived.Test.YtcbkokhjdleoeaaSz05
import Derived.Lib.BitFns
import Derived.Lib.Walk
import Derived.Test.YtcbkokhjdleoeaaSz01
import Derived.WalkSpells
import Derived.BigQuiet
import Derived.Deep.QuietTactic
import Derived.Test.YtcbkokhjdleoeaaSz00
import Derived.Deep.RegionLaw
import Derived.Test.YtcbkokhjdleoeaaSz03
set_option linter.unusedVariables false
set_option maxRecDepth 100000
namespace Go.Proofs.Ytcbkokhjdleoeaa
section
open Go.RowKit
theorem bl (s : Nat) (y x : Int) (h0 : 0 ≤ y) (h1 : y ≤ 255) (hy : y.toNat = x.toNat / 2 ^ s) (hs : s = 0 ∨ 2 ^ s ≤ x.toNat) (hx : x.toNat < 18446744073709551616) (h56 : s ≤ 56) :
    wrap64 ((s : Int) + wrap64 (Lib.len8 y)) = (Lib.bitLen x.toNat : Int) := by
  have hl := Lib.bitLen_le8' y h0 h1
  have e1 : wrap64 (Lib.bitLen y.toNat : Int) = Lib.bitLen y.toNat := IntWalk.wrap64_in _ (by omega)
  rw [Lib.len8_of y h0 h1, e1, IntWalk.wrap64_in _ (by omega)]
  rcases hs with rfl | hs
  · rw [hy]; simp
  · rw [Lib.bitLen_shift s x.toNat hs (by simpa using hx), ← hy]
    simp
set_option maxRecDepth 100000 in
set_option maxHeartbeats 1000000 in
theorem len64_int (x : Int) (w : World) (h0 : 0 ≤ x) (h1 : x ≤ 18446744073709551615) :
    Calls Try.prog 63 #[.int .u64 x] w fun e w' => e = .returned (.int .i64 (Lib.bitLen x.toNat)) ∧ w = w' := by
  go_enter Try.func63, Try.ntmps63
  have n7 : 0 ≤ x / 4294967296 / 65536 / 256 := by omega
  have n6 : 0 ≤ x / 4294967296 / 65536 := by omega
  have n5 : 0 ≤ x / 4294967296 / 256 := by omega
  have n4 : 0 ≤ x / 4294967296 := by omega
  have n3 : 0 ≤ x / 65536 / 256 := by omega
  have n2 : 0 ≤ x / 65536 := by omega
  have n1 : 0 ≤ x / 256 := by omega
  have g7 : x / 4294967296 / 65536 / 256 ≤ 255 := by omega
  have g6 : x / 4294967296 / 65536 < 256 → x / 4294967296 / 65536 ≤ 255 := by omega
  have g5 : x / 4294967296 < 65536 → x / 4294967296 / 256 ≤ 255 := by omega
  have g4 : x / 4294967296 < 256 → x / 4294967296 ≤ 255 := by omega
  have g3 : x < 4294967296 → x / 65536 / 256 ≤ 255 := by omega
  have g2 : x / 65536 < 256 → x / 65536 ≤ 255 := by omega
  have g1 : x < 65536 → x / 256 ≤ 255 := by omega
  have g0 : x < 256 → x ≤ 255 := by omega
  go_wp2
  all_goals (go_ret; refine ⟨congrArg Ending.returned (congrArg (Value.int IntKind.i64) ?_), rfl⟩)
  · exact bl 56 _ x n7 g7 (by omega) (by omega) (by omega) (by omega)
  · exact bl 48 _ x n6 (by omega) (by omega) (by omega) (by omega) (by omega)
  · exact bl 40 _ x n5 (by omega) (by omega) (by omega) (by omega) (by omega)
  · exact bl 32 _ x n4 (by omega) (by omega) (by omega) (by omega) (by omega)
  · exact bl 24 _ x n3 (by omega) (by omega) (by omega) (by omega) (by omega)
  · exact bl 16 _ x n2 (by omega) (by omega) (by omega) (by omega) (by omega)
  · exact bl 8 _ x n1 (by omega) (by omega) (by omega) (by omega) (by omega)
  · have := bl 0 x x h0 (by omega) (by omega) (by omega) (by omega) (by omega)
    simpa using this
theorem len64_any (n : Nat) (w : World) (h : n < 18446744073709551616) :
    Calls Try.prog 63 #[.int .u64 n] w fun e w' => e = .returned (.int .i64 (Lib.bitLen n)) ∧ w = w' := by
  have := len64_int n w (by omega) (by omega)
  simpa only [Int.toNat_natCast] using this
theorem bitLen_pos (n : Nat) (h : n ≠ 0) (hn : n < 18446744073709551616) : 1 ≤ Lib.bitLen n := by
  rw [Lib.bitLen_half n h hn]
  omega
theorem size_dig (f n : Nat) (h : n < 256 ^ f) (hn : n < 18446744073709551616) : (Lib.bitLen n + 7) / 8 = (dig f n).length := by
  induction f generalizing n with
  | zero => simp at h; subst h; rfl
  | succ f ih =>
    by_cases h0 : n = 0
    · subst h0; have h5 : Lib.bitLen 0 = 0 := rfl; simp [dig, h5]
    · simp only [dig, if_neg h0, List.length_append, List.length_cons, List.length_nil]
      have hi := ih (n / 256) (by rw [Nat.pow_succ] at h; omega) (by omega)
      by_cases h1 : 256 ≤ n
      · have := Lib.bitLen_shift8 n h1 hn
        omega
      · have h2 := bitLen_pos n h0 hn
        have h3 := Lib.bitLen_le n 8 (by omega) (by omega)
        have h4 : n / 256 = 0 := by omega
        rw [h4] at hi ⊢
        have h5 : Lib.bitLen 0 = 0 := rfl
        rw [h5] at hi
        omega
theorem size_eight (n : Nat) (hn : n < 18446744073709551616) : (Lib.bitLen n + 7) / 8 = (dig 8 n).length := size_dig 8 n (by simpa using hn) hn
theorem bitLen_le64 (n : Nat) (hn : n < 18446744073709551616) : Lib.bitLen n ≤ 64 := Lib.bitLen_le n 64 (by omega) (by simpa using hn)
theorem zeros_made (n : Nat) : (madeCells (Value.int .u8 0).cells (n * 1)).toList = (List.replicate n (0 : UInt8)).map bv := by
  rw [Nat.mul_one]
  show (madeCells #[Value.int .u8 0] n).toList = _
  rw [toList_madeCells_one, List.map_replicate]
  rfl
theorem set_last_zero (a b : UInt8) (i : Nat) (t : List UInt8) : (a :: (List.replicate (i + 1) 0 ++ t)).set (i + 1) b = a :: (List.replicate i 0 ++ b :: t) := by
  simp only [List.set_cons_succ, List.cons.injEq, true_and]
  induction i with
  | zero => rfl
  | succ i ih => rw [List.replicate_succ, List.cons_append, List.set_cons_succ, ih, List.replicate_succ, List.cons_append]
theorem byte_wrap (m : Nat) : Value.int .u8 (IntKind.u8.wrap (m : Int)) = bv (UInt8.ofNat (m % 256)) := by
  unfold bv
  rw [IntKind.wrap_u8]
  have : (UInt8.ofNat (m % 256)).toNat = m % 256 := by simp
  rw [this]
  congr 1
theorem set_head (L : Nat) (h : L ≤ 8) : ((List.replicate (1 + L) (0 : UInt8)).map bv).set 0 (.int .u8 (L : Int)) = (UInt8.ofNat L :: (List.replicate L 0 ++ [])).map bv := by
  have : (UInt8.ofNat L).toNat = L := by simp; omega
  rw [Nat.add_comm, List.replicate_succ, List.map_cons, List.set_cons_zero, List.append_nil, List.map_cons]
  unfold bv
  rw [this]
theorem set_digit (a : UInt8) (i m : Nat) (t : List UInt8) : ((a :: (List.replicate (i + 1) 0 ++ t)).map bv).set (i + 1) (.int .u8 (IntKind.u8.wrap (m : Int))) = (a :: (List.replicate i 0 ++ UInt8.ofNat (m % 256) :: t)).map bv := by
  rw [byte_wrap, ← List.map_set, set_last_zero]
theorem num_any (n : Nat) (w : World) (h : n < 18446744073709551616) :
    Calls Try.prog 55 #[.int .u64 n] w fun e w' => Fresh w e w' (numb n) := by
  obtain ⟨i0, hi, hz0, hz1, hz2⟩ := info_parts info_byte
  have hs := size_eight n h
  have h8 := dig_length_le 8 n
  have hb := bitLen_le64 n h
  have HN := Lib.hid h
  have HD : Hid (numb n = UInt8.ofNat (dig 8 n).length :: dig 8 n) := rfl
  generalize hD : dig 8 n = D at *
  generalize numb n = R at *
  have HS := Lib.hid hs
  have HE := Lib.hid hD
  clear hs hD h
  obtain ⟨L, hL⟩ : ∃ L, L = D.length := ⟨_, rfl⟩
  have HL := Lib.hid hL
  rw [← hL] at h8
  have hw : ((Lib.bitLen n : Int) + 7) / 8 = (L : Int) := by have := HS.out; omega
  have HW := Lib.hid hw
  clear hw hL
  have hD : D = dig 8 n ++ [] := by rw [HE.out]; simp
  go_enter Try.func55, Try.ntmps55
  go_wp2_with fail
  refine (len64_any n _ HN.out).mono ?_
  rintro e w' ⟨rfl, rfl⟩
  have HD2 := Lib.hid hD
  clear hD
  go_wp2_with (at_make; simp only [HW.out]; refine wpList_make_full _ rfl (.tmp 11) (.tmp 11) 27 rfl w.heap.size 5 i0 (.int .u8 0) 1 Try.underlying27 hi hz0 hz1 .i64 .i64 (1 + L) (1 + L) (1 + L) rfl rfl (by omega) (by omega) (by rw [hz2]; omega) (by unfold maxLen; omega) (Nat.le_refl _) ?_; intro w1 hown hg1; rw [zeros_made] at hown; have k0 := hown.cellAt 0 (by omega); have f0 := hown.frozenAt 0; have k0' : w1.cell? ⟨w.heap.size, 0, none⟩ = some (.int .u8 0) := k0.trans (by rw [List.map_replicate, List.getElem?_replicate, if_pos (by omega)]; rfl); clear k0)
  go_loopw [0, 5] (fun nv iv wr => ∃ (f m i : Nat) (tl : List UInt8), Hid (D = dig f m ++ tl) ∧ Hid (i = (dig f m).length) ∧ i ≤ L ∧ nv = .int .u64 m ∧ iv = .int .i64 i ∧
      wr.ownsRow w.heap.size 5 1 (.slice (some ⟨w.heap.size, 0, none⟩) (1 + L) (1 + L)) (1 + L) ((UInt8.ofNat L :: (List.replicate i 0 ++ tl)).map bv) ∧ Below w.heap.size w wr)
    (fun _ iv _ => (intOf iv).toNat)
  case atStart =>
    refine ⟨8, n, L, [], HD2.out, by rw [HE.out]; exact HL.out, Nat.le_refl _, rfl, rfl, ?_, ((Below.refl _ _).grown hg1 (Nat.le_refl _) (by simp)).setCell (Nat.le_refl _) _⟩
    rw [← set_head L h8]
    exact (hown.stored 0 _).1
  case round =>
    obtain ⟨f, m, i, tl, hD, hl, hiL, rfl, rfl, how, hbl⟩ := hrel
    by_cases h0 : i = 0
    · subst h0
      go_wp2
      go_ret
      have e : dig f m = [] := List.eq_nil_of_length_eq_zero hl.out.symm
      have e2 := hD.out
      rw [e] at e2
      refine ⟨_, rfl, ?_, hbl⟩
      rw [HD.out, ← HL.out]
      simp only [List.length_cons, ← HL.out]
      rw [e2, Nat.add_comm L 1]
      exact how
    · obtain ⟨j, rfl⟩ : ∃ j, i = j + 1 := ⟨i - 1, by omega⟩
      clear h0
      have k1 : wr.cell? ⟨w.heap.size, j + 1, none⟩ = some (.int .u8 0) := by
        rw [how.cellAt (j + 1) (by omega), List.getElem?_map]
        simp [bv, List.getElem?_append]
      have f1 := how.frozenAt (j + 1)
      go_wp2
      go_roundw
      case rel =>
        obtain ⟨f', rfl⟩ : ∃ f', f = f' + 1 := by
          cases f with
          | zero => have := hl.out; simp [dig] at this
          | succ f => exact ⟨f, rfl⟩
        have hm : m ≠ 0 := by
          rintro rfl
          have := hl.out
          simp [dig] at this
        have e : dig (f' + 1) m = dig f' (m / 256) ++ [UInt8.ofNat (m % 256)] := by simp only [dig, if_neg hm]
        have e1 := hD.out
        have e2 := hl.out
        rw [e] at e1 e2
        refine ⟨f', m / 256, j, UInt8.ofNat (m % 256) :: tl, ?_, ?_, by omega, by go_num, by go_num, ?_, hbl.setCell (Nat.le_refl _) _⟩
        · show D = _
          rw [e1, List.append_assoc]; rfl
        · show j = _
          simp at e2; exact e2
        · rw [← set_digit]
          exact (how.stored _ _).1
      case measure => simp [intOf]
theorem u64_lt (i : Int) : u64 i < 18446744073709551616 := by unfold u64; omega
theorem u64_wrap (i : Int) : IntKind.u64.wrap i = ((u64 i : Nat) : Int) := by
  unfold u64
  rw [IntKind.wrap_u64]
  omega
theorem int_any (i : Int) (w : World) :
    Calls Try.prog 40 #[.int .i64 i] w fun e w' => Fresh w e w' (numb (u64 i)) := by
  go_enter Try.func40, Try.ntmps40
  go_wp2_with (go_at_call 55; rw [u64_wrap]; refine (num_any (u64 i) _ (u64_lt i)).mono ?_; rintro e w1 ⟨v, rfl, hown, hb⟩)
  go_ret
  exact ⟨v, rfl, hown, hb⟩
def flat (ls : List (List UInt8)) : List UInt8 := ls.flatten
theorem flat_take (ls : List (List UInt8)) (k : Nat) (h : k < ls.length) : flat (ls.take (k + 1)) = flat (ls.take k) ++ ls[k] := by
  unfold flat
  rw [List.take_succ_eq_append_getElem h, List.flatten_append]; simp
theorem flat_take_le (ls : List (List UInt8)) (k : Nat) : (flat (ls.take k)).length ≤ (flat ls).length := by
  have : flat ls = flat (ls.take k) ++ flat (ls.drop k) := by unfold flat; rw [← List.flatten_append, List.take_append_drop]
  rw [this]; simp
theorem all_any (S : Nat → Prop) (v : Value) (ls : List (List UInt8)) (w : World) (h : LS w S v ls) (hl : (flat ls).length ≤ 140737488355328) :
    Calls Try.prog 38 #[v] w fun e w' => Fresh w e w' (flat ls) := by
  obtain ⟨i0, hi, hz0, hz1, hz2⟩ := info_parts info_byte
  obtain ⟨A, c, rfl, hlc, hcm⟩ := h.form
  have hlen : ls.length ≤ 9223372036854775807 := by unfold maxLen at hcm; omega
  clear hcm hlc
  go_enter Try.func38, Try.ntmps38
  go_wp2
  go_loop [3, 11] (fun n i => ∃ k : Nat, k ≤ ls.length ∧ i = .int .i64 k ∧ n = .int .i64 ((flat (ls.take k)).length : Nat)) (fun _ i => ls.length - (intOf i).toNat)
  case atStart => exact ⟨0, by omega, rfl, rfl⟩
  case round =>
    obtain ⟨k, hk, rfl, rfl⟩ := hrel
    by_cases hlt : k < ls.length
    · obtain ⟨b, o, rfl, sb, hb, hx⟩ := h.at_ (by omega)
      obtain ⟨A', c', kc, _⟩ := hx k ls[k] (List.getElem?_eq_getElem hlt)
      have h1 := flat_take_le ls (k + 1)
      rw [flat_take ls k hlt, List.length_append] at h1
      have h2 : (flat (ls.take k)).length + ls[k].length ≤ 140737488355328 := by omega
      clear hx h1
      go_wp2
      go_round
      case rel => exact ⟨k + 1, by omega, by go_num, by rw [flat_take ls k hlt, List.length_append]; go_num⟩
      case measure => simp [intOf]; omega
    · have e : ls.take k = ls := List.take_of_length_le (by omega)
      rw [e]
      clear e
      go_wp2_with (at_make; refine wpList_make_own _ rfl _ _ 27 rfl w.heap.size 5 i0 (.int .u8 0) 1 Try.underlying27 hi hz0 hz1 .i64 .i64 _ (flat ls).length rfl rfl rfl (by rw [hz2]; omega) (by unfold maxLen; omega) (Nat.le_refl _) ?_; intro w1 hown hg1)
      have hb1 := below_of_grown hg1
      go_loopw [6, 24] (fun bv' i wr => ∃ k : Nat, k ≤ ls.length ∧ i = .int .i64 k ∧ wr.ownsRow w.heap.size 5 1 bv' (flat (ls.take k)).length ((flat (ls.take k)).map bv) ∧ Below w.heap.size w wr) (fun _ i _ => ls.length - (intOf i).toNat)
      case atStart => exact ⟨0, by omega, rfl, hown, hb1⟩
      case round =>
        obtain ⟨k, hk, rfl, how, hbl⟩ := hrel
        by_cases hlt : k < ls.length
        · have h' := h.below' hbl
          obtain ⟨b, o, rfl, sb, hb, hx⟩ := h'.at_ (by omega)
          obtain ⟨A', c', kc, hy⟩ := hx k ls[k] (List.getElem?_eq_getElem hlt)
          have h1 := flat_take_le ls (k + 1)
          have h3 := flat_take ls k hlt
          rw [h3, List.length_append] at h1
          have H3 := Lib.hid h3
          have h2 : (flat (ls.take k)).length + ls[k].length ≤ 140737488355328 := by omega
          clear hx h1 h3
          go_wp2_with (at_builtin; refine wpList_grow _ rfl _ _ _ rfl w.heap.size 5 i0 Try.underlying27 hi hz0 hz1 hz2 _ _ rfl how S _ _ rfl hy h2 hbl.size ?_; intro v2 w2 how2 hg2 _)
          go_roundw
          case rel =>
            refine ⟨k + 1, by omega, by go_num, ?_, hbl.grown hg2 hbl.size fun g hg => (how.lt g hg).1⟩
            rw [H3.out]
            exact how2
          case measure => simp [intOf]; omega
        · have e : ls.take k = ls := List.take_of_length_le (by omega)
          rw [e] at how
          clear e
          go_wp2
          go_ret
          exact ⟨_, rfl, how, hbl⟩
theorem text_any (S : Nat → Prop) (v : Value) (l : List UInt8) (w : World) (h : BS w S v l) (hl : l.length ≤ 140737488000000) :
    Calls Try.prog 39 #[v] w fun e w' => Fresh w e w' (texb l) := by
  obtain ⟨A, c, rfl, _⟩ := h.form
  have h8 := dig_length_le 8 l.length
  go_enter Try.func39, Try.ntmps39
  go_wp2_with fail
  refine (num_any l.length _ (by omega)).mono ?_
  rintro e w1 ⟨v1, rfl, hown, hb⟩
  obtain ⟨A1, c1, rfl, _⟩ := (own_BS hown).form
  have hl2 : LS (w1.alloc (.cells #[.slice A1 (numb l.length).length c1, .slice A l.length c] 27)) (fun b => True ∨ b = w1.heap.size) (.slice (some ⟨w1.heap.size, 0, none⟩) 2 2) [numb l.length, l] :=
    LS.two ((own_BS hown).mono fun _ _ => trivial) ((h.below' hb).mono fun _ _ => trivial)
  have hs := hb.size
  go_wp2_with fail
  refine (all_any _ _ _ _ hl2 (by simp [flat, numb]; omega)).mono ?_
  rintro e w2 ⟨v2, rfl, hown2, hb2⟩
  go_wp2
  go_ret
  have hs2 : w.heap.size ≤ (w1.alloc (.cells #[.slice A1 (numb l.length).length c1, .slice A l.length c] 27)).heap.size := by simp; omega
  refine ⟨_, rfl, ?_, (hb.alloc hs _).trans (hb2.mono hs2)⟩
  have := own_base hown2 hs2
  simpa [flat, texb] using this
end
section
open Go.RowKit
theorem take_one_more {l m : List UInt8} {k : Nat} (h : l.take k = m.take k) (hl : k < l.length) (hm : k < m.length) (e : l[k] = m[k]) : l.take (k + 1) = m.take (k + 1) := by
  rw [List.take_add_one, List.take_add_one, h, List.getElem?_eq_getElem hl, List.getElem?_eq_getElem hm, e]
theorem same_draws (S S' : Nat → Prop) (x y : Value) (l m : List UInt8) (w : World) (hx : BS w S x l) (hy : BS w S' y m) :
    Calls Try.prog 12 #[x, y] w fun e w' => e = .returned (.bool (decide (l = m))) ∧ ∃ n, w' = w.drewN n := by
  obtain ⟨A, c, rfl, hlc, hcm, _⟩ := hx.form
  obtain ⟨A', c', rfl, _⟩ := hy.form
  have hlen : l.length ≤ 9223372036854775807 := by unfold maxLen at hcm; omega
  clear hcm hlc
  by_cases hlm : l.length = m.length
  · obtain ⟨r, hr⟩ : ∃ r, r = decide (l = m) := ⟨_, rfl⟩
    rw [← hr]
    have HR : Hid (r = decide (l = m)) := hr
    have HE : Hid (l.length = m.length) := hlm
    rw [← hlm] at hy ⊢
    clear hr hlm
    go_enter Try.func12, Try.ntmps12
    go_wp2
    go_loopw [5] (fun i wr => ∃ k n : Nat, k ≤ l.length ∧ Hid (l.take k = m.take k) ∧ i = .int .i64 k ∧ wr = w.drewN n) (fun i _ => l.length - (intOf i).toNat)
    case atStart => exact ⟨0, 0, by omega, by show _ = _; simp, rfl, rfl⟩
    case round =>
      obtain ⟨k, n, hk, ht, rfl, rfl⟩ := hrel
      by_cases hlt : k < l.length
      · have hmt : k < m.length := by rw [← HE.out]; exact hlt
        obtain ⟨b, o, rfl, _, _, h1⟩ := hx.at_ (by omega)
        have hy' := hy
        obtain ⟨A0, c0, e0, _, _, _, h2⟩ := hy'
        obtain ⟨b', o', rfl, _, _, h2⟩ := h2 (by omega)
        injection e0 with e0 _ _
        subst e0
        have k1 := h1 k l[k] (List.getElem?_eq_getElem hlt)
        have k2 : w.cell? ⟨b', o' + k, none⟩ = some (.int .u8 (m[k].toNat : Int)) := h2 k m[k] (List.getElem?_eq_getElem hmt)
        have ho := take_one_more ht.out hlt hmt
        have hn : ¬ l[k] = m[k] → r = false := fun h => by rw [HR.out]; exact decide_eq_false fun e => h (by subst e; rfl)
        have HO := Lib.hid ho
        have HN := Lib.hid hn
        clear h1 h2 hx hy ho hn
        generalize l[k] = p at *
        generalize m[k] = q at *
        by_cases hpq : (p.toNat : Int) = (q.toNat : Int)
        · have hpq' : p = q := UInt8.toNat_inj.1 (by omega)
          have HT := Lib.hid (HO.out hpq')
          go_wp2
          go_quiet (fail)
          go_wp2
          go_roundw
          case rel => exact ⟨k + 1, n + nq, by omega, HT, by go_num, rfl⟩
          case measure => simp [intOf]; omega
        · have hr := HN.out (fun e => hpq (by rw [e]))
          clear HN HO
          subst hr
          go_wp2
          go_quiet (fail)
          go_wp2
          go_ret
          exact ⟨rfl, n + nq, drewN_twice w n nq⟩
      · have hkl : k = l.length := by omega
        have hr : r = true := by
          rw [HR.out]
          have e := ht.out
          rw [hkl, List.take_length, HE.out, List.take_length] at e
          exact decide_eq_true e
        clear ht HR
        subst hr
        go_wp2
        go_ret
        exact ⟨rfl, _, rfl⟩
  · rw [decide_eq_false fun e => hlm (by rw [e])]
    have hne : ¬ (l.length : Int) = (m.length : Int) := by omega
    go_enter Try.func12, Try.ntmps12
    go_wp2
    go_ret
    exact ⟨rfl, 0, rfl⟩
theorem same_is (S S' : Nat → Prop) (x y : Value) (l m : List UInt8) (w : World) (hx : BS w S x l) (hy : BS w S' y m) :
    Calls Try.prog 12 #[x, y] w fun e w' => e = .returned (.bool (decide (l = m))) ∧ Below w.heap.size w w' := by
  refine (same_draws S S' x y l m w hx hy).mono ?_
  rintro e w' ⟨rfl, n, rfl⟩
  exact ⟨rfl, ⟨rfl, rfl, rfl, Nat.le_refl _, fun _ _ => rfl⟩⟩
theorem same_yes (S S' : Nat → Prop) (x y : Value) (l : List UInt8) (w : World) (hx : BS w S x l) (hy : BS w S' y l) :
    Calls Try.prog 12 #[x, y] w fun e w' => e = .returned (.bool true) ∧ ∃ n, w' = w.drewN n := by
  refine (same_draws S S' x y l l w hx hy).mono ?_
  rintro e w' ⟨rfl, n, rfl⟩
  exact ⟨by rw [decide_eq_true rfl], n, rfl⟩
theorem same_to (S S' : Nat → Prop) (x y : Value) (l : List UInt8) (w : World) (hx : BS w S x l) (hy : BS w S' y l) :
    Calls Try.prog 12 #[x, y] w fun e w' => e = .returned (.bool true) ∧ Below w.heap.size w w' := by
  refine (same_yes S S' x y l w hx hy).mono ?_
  rintro e w' ⟨rfl, n, rfl⟩
  exact ⟨rfl, ⟨rfl, rfl, rfl, Nat.le_refl _, fun _ _ => rfl⟩⟩
end
section
open Go.RowKit
theorem copy_any (S : Nat → Prop) (v : Value) (l : List UInt8) (w : World) (h : BS w S v l) (hl : l.length ≤ 140737488355328) :
    Calls Try.prog 31 #[v] w fun e w' => Fresh w e w' l := by
  obtain ⟨i0, hi, hz0, hz1, hz2⟩ := info_parts info_byte
  go_enter Try.func31, Try.ntmps31
  go_wp2_with (at_builtin; refine wpList_grow _ rfl _ _ _ rfl w.heap.size 5 i0 Try.underlying27 hi hz0 hz1 hz2 (.slice (some ⟨w.heap.size, 0, none⟩) 0 0) [] rfl (World.ownsRow_lit w #[] 0 (Nat.le_refl _) (by simp [maxLen]) rfl) S _ l rfl (h.alloc _) (by simp; omega) (by simp) ?_; intro v1 w1 hown hg _)
  go_ret
  exact ⟨_, rfl, hown, ((Below.refl _ _).alloc (Nat.le_refl _) _).grown hg (by simp) (by simp [Value.ownBlock])⟩
end
section
open Go.RowKit
theorem rnum_any (n : Nat) (w : World) (h : n < 18446744073709551616) :
    Calls Try.prog 57 #[.int .u64 n] w fun e w' => Fresh w e w' (numb n) := by
  obtain ⟨i0, hi, hz0, hz1, hz2⟩ := info_parts info_byte
  have HR : Hid (numb n = UInt8.ofNat (dig 8 n).length :: dig 8 n) := rfl
  have h8 := dig_length_le 8 n
  have HD0 : Hid (dig 8 n = dig 8 n ++ []) := by show _ = _; simp
  have HV : Hid (val (dig 8 n) = n) := dig_val 8 n (by simpa using h)
  have HN := Lib.hid h
  generalize numb n = R at *
  generalize hD : dig 8 n = D at HR h8 HD0 HV
  have HE := Lib.hid hD
  clear hD h
  go_enter Try.func57, Try.ntmps57
  go_wp2
  go_loopw [0, 3] (fun nv v wr => ∃ (f m : Nat) (tl : List UInt8), Hid (D = dig f m ++ tl) ∧ Hid (val (dig f m) = m) ∧ Hid (m < 18446744073709551616) ∧ nv = .int .u64 m ∧ wr.ownsRow w.heap.size 5 1 v tl.length (tl.map bv) ∧ Below w.heap.size w wr)
    (fun nv _ _ => (intOf nv).toNat)
  case atStart => exact ⟨8, n, [], by show D = _; rw [HE.out]; simp, by show _ = _; rw [HE.out]; exact HV.out, HN, rfl, World.ownsRow_nil _ _ _ _, Below.refl _ _⟩
  case round =>
    obtain ⟨f, m, tl, hD, hv, hm, rfl, how, hbl⟩ := hrel
    by_cases h0 : m = 0
    · subst h0
      have e : dig f 0 = [] := by cases f <;> simp [dig]
      have e2 := hD.out
      rw [e, List.nil_append] at e2
      subst e2
      clear e hD hv
      have hb := hbl.size
      obtain ⟨A1, c1, rfl, _⟩ := (own_BS how).form
      have hbs := own_BS how
      have HB : Hid (UInt8.ofNat (D.length % 256) = UInt8.ofNat D.length) := by show _ = _; rw [Nat.mod_eq_of_lt (by omega)]
      have HM : Hid (Value.int .u8 (D.length : Int) = bv (UInt8.ofNat (D.length % 256))) := by show _ = _; rw [← byte_mod]; congr 1; omega
      go_wp2_with (at_builtin; simp only [HM.out]; refine wpList_grow _ rfl _ _ _ rfl w.heap.size 5 i0 Try.underlying27 hi hz0 hz1 hz2 (.slice (some ⟨wr.heap.size, 0, none⟩) 1 1) [UInt8.ofNat (D.length % 256)] rfl (lit_one wr D.length _ hb) _ _ D rfl (hbs.alloc _) (by simp; omega) (by simp; omega) ?_; intro v2 w2 how2 hg2 _)
      go_ret
      rw [HB.out] at how2
      refine ⟨_, rfl, ?_, (hbl.alloc hb _).grown hg2 (by simp; omega) (by simp [Value.ownBlock]; omega)⟩
      rw [HR.out]
      exact how2
    · have hlt : 0 < m := by omega
      obtain ⟨f', rfl⟩ : ∃ f', f = f' + 1 := by
        cases f with
        | zero => have := hv.out; simp [dig, val] at this; omega
        | succ f => exact ⟨f, rfl⟩
      have e : dig (f' + 1) m = dig f' (m / 256) ++ [UInt8.ofNat (m % 256)] := by simp only [dig, if_neg h0]
      have e1 := hD.out
      have e2 := hv.out
      rw [e] at e1 e2
      rw [val_snoc] at e2
      have hu : (UInt8.ofNat (m % 256)).toNat = m % 256 := by simp
      have E1 := Lib.hid e1
      have E2 : Hid (val (dig f' (m / 256)) = m / 256) := by show _ = _; omega
      have EW : Hid (IntKind.u64.wrap ((m : Int) / 256) = ((m / 256 : Nat) : Int)) := by
        have := hm.out
        show _ = _
        rw [IntWalk.u64_in _ (by omega)]; omega
      have EM : Hid (m / 256 < 18446744073709551616) := by
        have := hm.out
        show _ < _
        omega
      have hb := hbl.size
      have hbs := own_BS how
      have hle : tl.length ≤ 8 := by have := congrArg List.length e1; simp at this; omega
      obtain ⟨A1, c1, rfl, _⟩ := hbs.form
      clear hu e1 e2 e hD hv
      go_wp2_with (at_builtin; simp only [byte_mod]; refine wpList_grow _ rfl _ _ _ rfl w.heap.size 5 i0 Try.underlying27 hi hz0 hz1 hz2 (.slice (some ⟨wr.heap.size, 0, none⟩) 1 1) [UInt8.ofNat (m % 256)] rfl (lit_one wr m _ hb) _ _ tl rfl (hbs.alloc _) (by simp; omega) (by simp; omega) ?_; intro v2 w2 how2 hg2 _)
      go_roundw
      case rel =>
        refine ⟨f', m / 256, UInt8.ofNat (m % 256) :: tl, ?_, E2.out, EM, by rw [EW.out], ?_, (hbl.alloc hb _).grown hg2 (by simp; omega) (by simp [Value.ownBlock]; omega)⟩
        · show D = _
          rw [E1.out, List.append_assoc]; rfl
        · exact how2
      case measure => rw [EW.out]; simp [intOf]; omega
theorem rint_any (i : Int) (w : World) :
    Calls Try.prog 44 #[.int .i64 i] w fun e w' => Fresh w e w' (numb (u64 i)) := by
  go_enter Try.func44, Try.ntmps44
  go_wp2_with (go_at_call 57; rw [u64_wrap]; refine (rnum_any (u64 i) _ (u64_lt i)).mono ?_; rintro e w1 ⟨v, rfl, hown, hb⟩)
  go_ret
  exact ⟨v, rfl, hown, hb⟩
theorem rtext_any (S : Nat → Prop) (v : Value) (l : List UInt8) (w : World) (h : BS w S v l) (hl : l.length ≤ 140737488000000) :
    Calls Try.prog 43 #[v] w fun e w' => Fresh w e w' (texb l) := by
  obtain ⟨i0, hi, hz0, hz1, hz2⟩ := info_parts info_byte
  obtain ⟨A, c, rfl, _⟩ := h.form
  have h8 : (numb l.length).length ≤ 9 := by have := dig_length_le 8 l.length; simp [numb]; omega
  have HT : Hid (texb l = numb l.length ++ l) := rfl
  go_enter Try.func43, Try.ntmps43
  go_wp2_with fail
  refine (rnum_any l.length _ (by omega)).mono ?_
  rintro e w1 ⟨v1, rfl, hown, hb⟩
  have hbl := h.below' hb
  generalize numb l.length = N at *
  have hs := hb.size
  go_wp2_with (at_builtin; refine wpList_grow _ rfl _ _ _ rfl w.heap.size 5 i0 Try.underlying27 hi hz0 hz1 hz2 v1 N rfl hown S _ l rfl hbl (by omega) hs ?_; intro v2 w2 how2 hg2 _)
  go_ret
  rw [← HT.out] at how2
  exact ⟨_, rfl, how2, hb.grown hg2 hs fun g hg => (hown.lt g hg).1⟩
end
section
open Go.RowKit
theorem step_grow {P : Program} {ops : Array Oper} {o : Oper} {a : Act} {w : World} {K : Act → World → Prop} {Q : Exit → Act → World → Prop} {E : Prop}
    (hg : o.guard = none) (s x : Operand) (t : TypeId) (hop : o.op = Op.call { callee := Callee.builtin Builtin.append, args := #[s, x], argTypes := #[t, t] })
    (base : Nat) (e : TypeId) (i : TypeInfo) (ht : P.underlying t = some (.slice e)) (hi : P.info? e = some i) (hz : i.zero = some (.int .u8 0))
    (hsize : i.size = 1) (hby : i.bytes = 1) (v : Value) (xs : List UInt8) (hs : a.eval s = v) (hown : w.ownsRow base e 1 v xs.length (xs.map bv))
    (S : Nat → Prop) (xv : Value) (ys : List UInt8) (hxe : a.eval x = xv) (hx : BS w S xv ys) (hb : xs.length + ys.length ≤ 140737488355328) (hbase : base ≤ w.heap.size)
    (hK : ∀ v' w', w'.ownsRow base e 1 v' (xs ++ ys).length ((xs ++ ys).map bv) → w.grownBy w' v.ownBlock → (v'.ownBlock = v.ownBlock ∨ v'.ownBlock = some w.heap.size) → K (a.put o.dst v') w') :
    if Region.wanted o (yielded ops a.tmps) = true then Oper.wp P o a w K Q else E := by
  have hw : Region.wanted o (yielded ops a.tmps) = true := by simp [Region.wanted, hg]
  rw [if_pos hw]
  obtain ⟨v', w', hrun, h2, h3, h4⟩ := run_grow (P := P) w base t o.type e i ht hi hz hsize hby v xs hown S xv ys hx hb hbase
  unfold Oper.wp execOp
  simp only [hop, resolve, invoke, builtin, Sem.run_bind, Sem.run_pure, Result.andThen_ok, List.map_toArray, List.map_cons, List.map_nil, hs, hxe, hrun]
  exact hK _ _ h2 h3 h4
theorem wp_grow {P : Program} {o : Oper} {a : Act} {w : World} {K : Act → World → Prop} {Q : Exit → Act → World → Prop}
    (s x : Operand) (t : TypeId) (hop : o.op = Op.call { callee := Callee.builtin Builtin.append, args := #[s, x], argTypes := #[t, t] })
    (base : Nat) (e : TypeId) (i : TypeInfo) (ht : P.underlying t = some (.slice e)) (hi : P.info? e = some i) (hz : i.zero = some (.int .u8 0))
    (hsize : i.size = 1) (hby : i.bytes = 1) (v : Value) (xs : List UInt8) (hs : a.eval s = v) (hown : w.ownsRow base e 1 v xs.length (xs.map bv))
    (S : Nat → Prop) (xv : Value) (ys : List UInt8) (hxe : a.eval x = xv) (hx : BS w S xv ys) (hb : xs.length + ys.length ≤ 140737488355328) (hbase : base ≤ w.heap.size)
    (hK : ∀ v' w', w'.ownsRow base e 1 v' (xs ++ ys).length ((xs ++ ys).map bv) → w.grownBy w' v.ownBlock → (v'.ownBlock = v.ownBlock ∨ v'.ownBlock = some w.heap.size) → K (a.put o.dst v') w') :
    Oper.wp P o a w K Q := by
  obtain ⟨v', w', hrun, h2, h3, h4⟩ := run_grow (P := P) w base t o.type e i ht hi hz hsize hby v xs hown S xv ys hx hb hbase
  unfold Oper.wp execOp
  simp only [hop, resolve, invoke, builtin, Sem.run_bind, Sem.run_pure, Result.andThen_ok, List.map_toArray, List.map_cons, List.map_nil, hs, hxe, hrun]
  exact hK _ _ h2 h3 h4
theorem own_ne {w : World} {B e size n g : Nat} {v : Value} {xs : List Value} (h : w.ownsRow B e size v n xs) (hg : g < B) : v.ownBlock ≠ some g := by
  obtain ⟨_, h2⟩ := h
  rcases h2 with ⟨rfl, _⟩ | ⟨g', c, cur, rfl, hb, _⟩
  · simp [Value.ownBlock]
  · simp [Value.ownBlock]; omega
theorem own_ge {w : World} {B e size n : Nat} {v : Value} {xs : List Value} (h : w.ownsRow B e size v n xs) (k : Nat) (hk : v.ownBlock = some k) : B ≤ k := by
  rcases Nat.lt_or_ge k B with hlt | hge
  · exact absurd hk (own_ne h hlt)
  · exact hge
end
section
def comB (s : Nat) (l : List UInt8) : List UInt8 := 1 :: (numb s ++ texb l)
def linkB (i : Int) (p c : List UInt8) : List UInt8 := 2 :: (numb (u64 i) ++ (p ++ c))
theorem numb_len (n : Nat) : (numb n).length ≤ 9 := by have := dig_length_le 8 n; simp [numb]; omega
theorem texb_len (l : List UInt8) : (texb l).length ≤ 9 + l.length := by have := numb_len l.length; unfold texb; rw [List.length_append]; omega
theorem ofNat_small {m n : Nat} (hm : m ≤ 8) (hn : n ≤ 8) (h : UInt8.ofNat m = UInt8.ofNat n) : m = n := by
  have := congrArg UInt8.toNat h
  simp at this
  omega
theorem numb_inj {m n : Nat} {a b : List UInt8} (hm : m < 18446744073709551616) (hn : n < 18446744073709551616) (h : numb m ++ a = numb n ++ b) : m = n ∧ a = b := by
  have h8 := dig_length_le 8 m
  have h9 := dig_length_le 8 n
  simp only [numb, List.cons_append, List.cons.injEq] at h
  obtain ⟨h1, h2⟩ := h
  have hl := ofNat_small h8 h9 h1
  obtain ⟨h3, h4⟩ := List.append_inj h2 hl
  refine ⟨?_, h4⟩
  have := congrArg val h3
  rwa [dig_val 8 m (by simpa using hm), dig_val 8 n (by simpa using hn)] at this
theorem comB_inj {s t : Nat} {a b : List UInt8} (hs : s < 18446744073709551616) (ht : t < 18446744073709551616) (ha : a.length < 18446744073709551616) (hb : b.length < 18446744073709551616) (h : comB s a = comB t b) : s = t ∧ a = b := by
  simp only [comB, List.cons.injEq, true_and] at h
  obtain ⟨h1, h2⟩ := numb_inj hs ht h
  exact ⟨h1, (numb_inj ha hb h2).2⟩
theorem link_com (i : Int) (p c : List UInt8) (s : Nat) (a : List UInt8) : linkB i p c ≠ comB s a := by
  intro h
  simp only [linkB, comB, List.cons.injEq] at h
  exact absurd h.1 (by decide)
end
section
open Go.RowKit
theorem zlen_le : ∀ (f : Nat) (x : Sc f) (d : Int), okS f x d = true → (bytesS f x).length ≤ 60 * nodesS f x
  | 0, x, _, _ => nomatch x
  | f + 1, (x : Ns (Sc f)), d, h => by
    rw [okS_eq] at h
    simp only [Bool.and_eq_true, decide_eq_true_eq, List.all_eq_true] at h
    obtain ⟨⟨_, hf⟩, hk⟩ := h
    have hh : (zheadS x).length ≤ 60 := by
      unfold zheadS
      obtain ⟨_, hn, ht, _⟩ := (fits_iff x).1 hf
      have nl : ∀ n : Nat, (numb n).length ≤ 9 := numb_len
      have e1 : (if namedS x.op = true then texb x.name else []).length ≤ 25 := by
        split
        · rename_i hk
          rw [if_pos hk] at hn
          have := ((name_iff _).1 hn).2.1
          have := nl x.name.length
          unfold texb
          rw [List.length_append]; omega
        · simp
      have e2 : (if x.op = 5 then numb x.from_.toNat ++ numb x.to_.toNat else []).length ≤ 18 := by
        split
        · rw [List.length_append]; have := nl x.from_.toNat; have := nl x.to_.toNat; omega
        · simp
      have e3 : (if manyS x.op = true then numb x.kids.length else []).length ≤ 9 := by
        split
        · exact nl _
        · simp
      rw [List.length_cons, List.length_append, List.length_append]
      omega
    have hs : ∀ (ks : List (Sc f)), (∀ k ∈ ks, (bytesS f k).length ≤ 60 * nodesS f k) → ((ks.map (bytesS f)).flatten).length ≤ 60 * (ks.map (nodesS f)).sum := fun ks => by
      induction ks with
      | nil => intro _; simp
      | cons k ks ih =>
        intro hh
        have := ih fun u hu => hh u (List.mem_cons_of_mem _ hu)
        have := hh k (List.mem_cons_self ..)
        rw [List.map_cons, List.flatten_cons, List.length_append, List.map_cons, List.sum_cons]
        omega
    have := hs x.kids fun k hx => zlen_le f k (d - 1) (hk k hx)
    rw [bytesS_eq, List.length_append, nodesS_eq]
    omega
def BytesIh (S : Nat → Prop) (f : Nat) : Prop := ∀ (t : Sc f) (v : Value) (d : Int) (w : World), okS f t d = true → nodesS f t ≤ 24 → ZV w S f v t →
    Calls Try.prog 25 #[v] w fun e w' => Fresh w e w' (bytesS f t)
theorem zlit (w : World) (b : UInt8) (base : Nat) (hb : base ≤ w.heap.size) : (w.alloc (.cells #[bv b] 5)).ownsRow base 5 1 (.slice (some ⟨w.heap.size, 0, none⟩) 1 1) ([b] : List UInt8).length (([b] : List UInt8).map bv) :=
  World.ownsRow_lit w #[bv b] 1 hb (by simp [maxLen]) rfl
theorem zkids_step {f : Nat} {ks : List (Sc f)} {j : Nat} (hj : j < ks.length) (H : List UInt8) : (H ++ ((ks.take j).map (bytesS f)).flatten) ++ bytesS f ks[j] = H ++ ((ks.take (j + 1)).map (bytesS f)).flatten := by
  rw [List.take_add_one, List.getElem?_eq_getElem hj, List.map_append, List.flatten_append, List.append_assoc]
  congr 2
  simp
theorem zbytes_named {f : Nat} {t : Ns (Sc f)} (h : t.op = 2 ∨ t.op = 3 ∨ t.op = 4) (hk : t.kids.length = 0) : bytesS (f + 1) t = UInt8.ofNat (t.op % 256).toNat :: texb t.name := by
  rw [bytesS_eq]
  unfold zheadS
  rw [List.eq_nil_of_length_eq_zero hk, if_pos (show namedS t.op = true from decide_eq_true h), if_neg (by omega), if_neg (show ¬ manyS t.op = true by unfold manyS; rw [decide_eq_true_eq]; omega)]
  simp
theorem zbytes_all {f : Nat} {t : Ns (Sc f)} (h : t.op = 1) (hk : t.kids.length = 0) : bytesS (f + 1) t = [1] := by
  rw [bytesS_eq]
  unfold zheadS
  rw [List.eq_nil_of_length_eq_zero hk, h]
  rfl
theorem zbytes_time {f : Nat} {t : Ns (Sc f)} (h : t.op = 5) (hk : t.kids.length = 0) : bytesS (f + 1) t = [5] ++ numb t.from_.toNat ++ numb t.to_.toNat := by
  rw [bytesS_eq]
  unfold zheadS
  rw [List.eq_nil_of_length_eq_zero hk, h]
  simp [namedS, manyS]
theorem zbytes_many {f : Nat} {t : Ns (Sc f)} (h : t.op = 6 ∨ t.op = 7) : bytesS (f + 1) t = (UInt8.ofNat (t.op % 256).toNat :: numb t.kids.length) ++ (t.kids.map (bytesS f)).flatten := by
  rw [bytesS_eq]
  unfold zheadS
  rw [if_neg (show ¬ namedS t.op = true by unfold namedS; rw [decide_eq_true_eq]; omega), if_neg (by omega), if_pos (show manyS t.op = true from decide_eq_true h)]
  simp
theorem zbytes_not {f : Nat} {t : Ns (Sc f)} (h : t.op = 8) : bytesS (f + 1) t = [8] ++ (t.kids.map (bytesS f)).flatten := by
  rw [bytesS_eq]
  unfold zheadS
  rw [h]
  rfl
end
end Go.Proofs.Ytcbkokhjdleoeaa
