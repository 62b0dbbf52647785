/-
  TlvC: bits.Len64 and the writers of tlv: Num, Int, All, Text: each one's contract over the loaded program. No condition but the worlds' shapes that each contract names, and lengths that a process can hold.
  AlM: Which places are free, sets of numbers as bits, bytes cut into sectors: plain mathematics. No condition; nothing of the dump is used here.
  InM: The plain mathematics of inodes: which may be, their bytes, which inode bytes are; there and back (P12.1 to P12.3). No condition; nothing of the dump is used here.
-/
import Derived.Test.YteddmnoeljakpaaGreatDoorSw19
import Derived.Lib.BitFns
import Derived.Lib.Walk
import Derived.Laws.BitsAllLaws
set_option linter.unusedVariables false
set_option maxRecDepth 100000
namespace Go.Proofs.YteddmnoeljakpaaGreatDoor
section
open Go.RowKit
theorem bl (s : Nat) (y x : Int) (h0 : 0 ≤ y) (h1 : y ≤ 255) (hy : y.toNat = x.toNat / 2 ^ s) (hs : s = 0 ∨ 2 ^ s ≤ x.toNat) (hx : x.toNat < 18446744073709551616) (h56 : s ≤ 56) :
    wrap64 ((s : Int) + wrap64 (Lib.len8 y)) = (Lib.bitLen x.toNat : Int) := by
  have hl := Lib.bitLen_le8' y h0 h1
  have e1 : wrap64 (Lib.bitLen y.toNat : Int) = Lib.bitLen y.toNat := IntWalk.wrap64_in _ (by omega)
  rw [Lib.len8_of y h0 h1, e1, IntWalk.wrap64_in _ (by omega)]
  rcases hs with rfl | hs
  · rw [hy]; simp
  · rw [Lib.bitLen_shift s x.toNat hs (by simpa using hx), ← hy]
    simp
set_option maxRecDepth 100000 in
set_option maxHeartbeats 1000000 in
theorem len64_int (x : Int) (w : World) (h0 : 0 ≤ x) (h1 : x ≤ 18446744073709551615) :
    Calls Tryz.prog 153 #[.int .u64 x] w fun e w' => e = .returned (.int .i64 (Lib.bitLen x.toNat)) ∧ w = w' := by
  go_enter Tryz.func153, Tryz.ntmps153
  have n7 : 0 ≤ x / 4294967296 / 65536 / 256 := by omega
  have n6 : 0 ≤ x / 4294967296 / 65536 := by omega
  have n5 : 0 ≤ x / 4294967296 / 256 := by omega
  have n4 : 0 ≤ x / 4294967296 := by omega
  have n3 : 0 ≤ x / 65536 / 256 := by omega
  have n2 : 0 ≤ x / 65536 := by omega
  have n1 : 0 ≤ x / 256 := by omega
  have g7 : x / 4294967296 / 65536 / 256 ≤ 255 := by omega
  have g6 : x / 4294967296 / 65536 < 256 → x / 4294967296 / 65536 ≤ 255 := by omega
  have g5 : x / 4294967296 < 65536 → x / 4294967296 / 256 ≤ 255 := by omega
  have g4 : x / 4294967296 < 256 → x / 4294967296 ≤ 255 := by omega
  have g3 : x < 4294967296 → x / 65536 / 256 ≤ 255 := by omega
  have g2 : x / 65536 < 256 → x / 65536 ≤ 255 := by omega
  have g1 : x < 65536 → x / 256 ≤ 255 := by omega
  have g0 : x < 256 → x ≤ 255 := by omega
  go_wp2
  all_goals (go_ret; refine ⟨congrArg Ending.returned (congrArg (Value.int IntKind.i64) ?_), rfl⟩)
  · exact bl 56 _ x n7 g7 (by omega) (by omega) (by omega) (by omega)
  · exact bl 48 _ x n6 (by omega) (by omega) (by omega) (by omega) (by omega)
  · exact bl 40 _ x n5 (by omega) (by omega) (by omega) (by omega) (by omega)
  · exact bl 32 _ x n4 (by omega) (by omega) (by omega) (by omega) (by omega)
  · exact bl 24 _ x n3 (by omega) (by omega) (by omega) (by omega) (by omega)
  · exact bl 16 _ x n2 (by omega) (by omega) (by omega) (by omega) (by omega)
  · exact bl 8 _ x n1 (by omega) (by omega) (by omega) (by omega) (by omega)
  · have := bl 0 x x h0 (by omega) (by omega) (by omega) (by omega) (by omega)
    simpa using this
theorem len64_any (n : Nat) (w : World) (h : n < 18446744073709551616) :
    Calls Tryz.prog 153 #[.int .u64 n] w fun e w' => e = .returned (.int .i64 (Lib.bitLen n)) ∧ w = w' := by
  have := len64_int n w (by omega) (by omega)
  simpa only [Int.toNat_natCast] using this
theorem bitLen_pos (n : Nat) (h : n ≠ 0) (hn : n < 18446744073709551616) : 1 ≤ Lib.bitLen n := by
  rw [Lib.bitLen_half n h hn]
  omega
theorem size_dig (f n : Nat) (h : n < 256 ^ f) (hn : n < 18446744073709551616) : (Lib.bitLen n + 7) / 8 = (dig f n).length := by
  induction f generalizing n with
  | zero => simp at h; subst h; rfl
  | succ f ih =>
    by_cases h0 : n = 0
    · subst h0; have h5 : Lib.bitLen 0 = 0 := rfl; simp [dig, h5]
    · simp only [dig, if_neg h0, List.length_append, List.length_cons, List.length_nil]
      have hi := ih (n / 256) (by rw [Nat.pow_succ] at h; omega) (by omega)
      by_cases h1 : 256 ≤ n
      · have := Lib.bitLen_shift8 n h1 hn
        omega
      · have h2 := bitLen_pos n h0 hn
        have h3 := Lib.bitLen_le n 8 (by omega) (by omega)
        have h4 : n / 256 = 0 := by omega
        rw [h4] at hi ⊢
        have h5 : Lib.bitLen 0 = 0 := rfl
        rw [h5] at hi
        omega
theorem size_eight (n : Nat) (hn : n < 18446744073709551616) : (Lib.bitLen n + 7) / 8 = (dig 8 n).length := size_dig 8 n (by simpa using hn) hn
theorem bitLen_le64 (n : Nat) (hn : n < 18446744073709551616) : Lib.bitLen n ≤ 64 := Lib.bitLen_le n 64 (by omega) (by simpa using hn)
theorem zeros_made (n : Nat) : (madeCells (Value.int .u8 0).cells (n * 1)).toList = (List.replicate n (0 : UInt8)).map bv := by
  rw [Nat.mul_one]
  show (madeCells #[Value.int .u8 0] n).toList = _
  rw [toList_madeCells_one, List.map_replicate]
  rfl
theorem set_last_zero (a b : UInt8) (i : Nat) (t : List UInt8) : (a :: (List.replicate (i + 1) 0 ++ t)).set (i + 1) b = a :: (List.replicate i 0 ++ b :: t) := by
  simp only [List.set_cons_succ, List.cons.injEq, true_and]
  induction i with
  | zero => rfl
  | succ i ih => rw [List.replicate_succ, List.cons_append, List.set_cons_succ, ih, List.replicate_succ, List.cons_append]
theorem byte_wrap (m : Nat) : Value.int .u8 (IntKind.u8.wrap (m : Int)) = bv (UInt8.ofNat (m % 256)) := by
  unfold bv
  rw [IntKind.wrap_u8]
  have : (UInt8.ofNat (m % 256)).toNat = m % 256 := by simp
  rw [this]
  congr 1
theorem set_head (L : Nat) (h : L ≤ 8) : ((List.replicate (1 + L) (0 : UInt8)).map bv).set 0 (.int .u8 (L : Int)) = (UInt8.ofNat L :: (List.replicate L 0 ++ [])).map bv := by
  have : (UInt8.ofNat L).toNat = L := by simp; omega
  rw [Nat.add_comm, List.replicate_succ, List.map_cons, List.set_cons_zero, List.append_nil, List.map_cons]
  unfold bv
  rw [this]
theorem set_digit (a : UInt8) (i m : Nat) (t : List UInt8) : ((a :: (List.replicate (i + 1) 0 ++ t)).map bv).set (i + 1) (.int .u8 (IntKind.u8.wrap (m : Int))) = (a :: (List.replicate i 0 ++ UInt8.ofNat (m % 256) :: t)).map bv := by
  rw [byte_wrap, ← List.map_set, set_last_zero]
theorem num_any (n : Nat) (w : World) (h : n < 18446744073709551616) :
    Calls Tryz.prog 191 #[.int .u64 n] w fun e w' => Fresh w e w' (numb n) := by
  obtain ⟨i0, hi, hz0, hz1, hz2⟩ := info_parts info_byte
  have hs := size_eight n h
  have h8 := dig_length_le 8 n
  have hb := bitLen_le64 n h
  have HN := Lib.hid h
  have HD : Hid (numb n = UInt8.ofNat (dig 8 n).length :: dig 8 n) := rfl
  generalize hD : dig 8 n = D at *
  generalize numb n = R at *
  have HS := Lib.hid hs
  have HE := Lib.hid hD
  clear hs hD h
  obtain ⟨L, hL⟩ : ∃ L, L = D.length := ⟨_, rfl⟩
  have HL := Lib.hid hL
  rw [← hL] at h8
  have hw : ((Lib.bitLen n : Int) + 7) / 8 = (L : Int) := by have := HS.out; omega
  have HW := Lib.hid hw
  clear hw hL
  have hD : D = dig 8 n ++ [] := by rw [HE.out]; simp
  go_enter Tryz.func191, Tryz.ntmps191
  go_wp2_with fail
  refine (len64_any n _ HN.out).mono ?_
  rintro e w' ⟨rfl, rfl⟩
  have HD2 := Lib.hid hD
  clear hD
  go_wp2_with (at_make; simp only [HW.out]; refine wpList_make_full _ rfl (.tmp 11) (.tmp 11) 55 rfl w.heap.size 5 i0 (.int .u8 0) 1 Tryz.underlying55 hi hz0 hz1 .i64 .i64 (1 + L) (1 + L) (1 + L) rfl rfl (by omega) (by omega) (by rw [hz2]; omega) (by unfold maxLen; omega) (Nat.le_refl _) ?_; intro w1 hown hg1; rw [zeros_made] at hown; have k0 := hown.cellAt 0 (by omega); have f0 := hown.frozenAt 0; have k0' : w1.cell? ⟨w.heap.size, 0, none⟩ = some (.int .u8 0) := k0.trans (by rw [List.map_replicate, List.getElem?_replicate, if_pos (by omega)]; rfl); clear k0)
  go_loopw [0, 5] (fun nv iv wr => ∃ (f m i : Nat) (tl : List UInt8), Hid (D = dig f m ++ tl) ∧ Hid (i = (dig f m).length) ∧ i ≤ L ∧ nv = .int .u64 m ∧ iv = .int .i64 i ∧
      wr.ownsRow w.heap.size 5 1 (.slice (some ⟨w.heap.size, 0, none⟩) (1 + L) (1 + L)) (1 + L) ((UInt8.ofNat L :: (List.replicate i 0 ++ tl)).map bv) ∧ Below w.heap.size w wr)
    (fun _ iv _ => (intOf iv).toNat)
  case atStart =>
    refine ⟨8, n, L, [], HD2.out, by rw [HE.out]; exact HL.out, Nat.le_refl _, rfl, rfl, ?_, ((Below.refl _ _).grown hg1 (Nat.le_refl _) (by simp)).setCell (Nat.le_refl _) _⟩
    rw [← set_head L h8]
    exact (hown.stored 0 _).1
  case round =>
    obtain ⟨f, m, i, tl, hD, hl, hiL, rfl, rfl, how, hbl⟩ := hrel
    by_cases h0 : i = 0
    · subst h0
      go_wp2
      go_ret
      have e : dig f m = [] := List.eq_nil_of_length_eq_zero hl.out.symm
      have e2 := hD.out
      rw [e] at e2
      refine ⟨_, rfl, ?_, hbl⟩
      rw [HD.out, ← HL.out]
      simp only [List.length_cons, ← HL.out]
      rw [e2, Nat.add_comm L 1]
      exact how
    · obtain ⟨j, rfl⟩ : ∃ j, i = j + 1 := ⟨i - 1, by omega⟩
      clear h0
      have k1 : wr.cell? ⟨w.heap.size, j + 1, none⟩ = some (.int .u8 0) := by
        rw [how.cellAt (j + 1) (by omega), List.getElem?_map]
        simp [bv, List.getElem?_append]
      have f1 := how.frozenAt (j + 1)
      go_wp2
      go_roundw
      case rel =>
        obtain ⟨f', rfl⟩ : ∃ f', f = f' + 1 := by
          cases f with
          | zero => have := hl.out; simp [dig] at this
          | succ f => exact ⟨f, rfl⟩
        have hm : m ≠ 0 := by
          rintro rfl
          have := hl.out
          simp [dig] at this
        have e : dig (f' + 1) m = dig f' (m / 256) ++ [UInt8.ofNat (m % 256)] := by simp only [dig, if_neg hm]
        have e1 := hD.out
        have e2 := hl.out
        rw [e] at e1 e2
        refine ⟨f', m / 256, j, UInt8.ofNat (m % 256) :: tl, ?_, ?_, by omega, by go_num, by go_num, ?_, hbl.setCell (Nat.le_refl _) _⟩
        · show D = _
          rw [e1, List.append_assoc]; rfl
        · show j = _
          simp at e2; exact e2
        · rw [← set_digit]
          exact (how.stored _ _).1
      case measure => simp [intOf]
def u64 (i : Int) : Nat := (i % 18446744073709551616).toNat
theorem u64_lt (i : Int) : u64 i < 18446744073709551616 := by unfold u64; omega
theorem u64_wrap (i : Int) : IntKind.u64.wrap i = ((u64 i : Nat) : Int) := by
  unfold u64
  rw [IntKind.wrap_u64]
  omega
theorem int_any (i : Int) (w : World) :
    Calls Tryz.prog 157 #[.int .i64 i] w fun e w' => Fresh w e w' (numb (u64 i)) := by
  go_enter Tryz.func157, Tryz.ntmps157
  go_wp2_with (go_at_call 191; rw [u64_wrap]; refine (num_any (u64 i) _ (u64_lt i)).mono ?_; rintro e w1 ⟨v, rfl, hown, hb⟩)
  go_ret
  exact ⟨v, rfl, hown, hb⟩
def flat (ls : List (List UInt8)) : List UInt8 := ls.flatten
theorem flat_take (ls : List (List UInt8)) (k : Nat) (h : k < ls.length) : flat (ls.take (k + 1)) = flat (ls.take k) ++ ls[k] := by
  unfold flat
  rw [List.take_succ_eq_append_getElem h, List.flatten_append]; simp
theorem flat_take_le (ls : List (List UInt8)) (k : Nat) : (flat (ls.take k)).length ≤ (flat ls).length := by
  have : flat ls = flat (ls.take k) ++ flat (ls.drop k) := by unfold flat; rw [← List.flatten_append, List.take_append_drop]
  rw [this]; simp
theorem all_any (S : Nat → Prop) (v : Value) (ls : List (List UInt8)) (w : World) (h : LS w S v ls) (hl : (flat ls).length ≤ 140737488355328) :
    Calls Tryz.prog 155 #[v] w fun e w' => Fresh w e w' (flat ls) := by
  obtain ⟨i0, hi, hz0, hz1, hz2⟩ := info_parts info_byte
  obtain ⟨A, c, rfl, hlc, hcm⟩ := h.form
  have hlen : ls.length ≤ 9223372036854775807 := by unfold maxLen at hcm; omega
  clear hcm hlc
  go_enter Tryz.func155, Tryz.ntmps155
  go_wp2
  go_loop [3, 11] (fun n i => ∃ k : Nat, k ≤ ls.length ∧ i = .int .i64 k ∧ n = .int .i64 ((flat (ls.take k)).length : Nat)) (fun _ i => ls.length - (intOf i).toNat)
  case atStart => exact ⟨0, by omega, rfl, rfl⟩
  case round =>
    obtain ⟨k, hk, rfl, rfl⟩ := hrel
    by_cases hlt : k < ls.length
    · obtain ⟨b, o, rfl, sb, hb, hx⟩ := h.at_ (by omega)
      obtain ⟨A', c', kc, _⟩ := hx k ls[k] (List.getElem?_eq_getElem hlt)
      have h1 := flat_take_le ls (k + 1)
      rw [flat_take ls k hlt, List.length_append] at h1
      have h2 : (flat (ls.take k)).length + ls[k].length ≤ 140737488355328 := by omega
      clear hx h1
      go_wp2
      go_round
      case rel => exact ⟨k + 1, by omega, by go_num, by rw [flat_take ls k hlt, List.length_append]; go_num⟩
      case measure => simp [intOf]; omega
    · have e : ls.take k = ls := List.take_of_length_le (by omega)
      rw [e]
      clear e
      go_wp2_with (at_make; refine wpList_make_own _ rfl _ _ 55 rfl w.heap.size 5 i0 (.int .u8 0) 1 Tryz.underlying55 hi hz0 hz1 .i64 .i64 _ (flat ls).length rfl rfl rfl (by rw [hz2]; omega) (by unfold maxLen; omega) (Nat.le_refl _) ?_; intro w1 hown hg1)
      have hb1 := below_of_grown hg1
      go_loopw [6, 24] (fun bv' i wr => ∃ k : Nat, k ≤ ls.length ∧ i = .int .i64 k ∧ wr.ownsRow w.heap.size 5 1 bv' (flat (ls.take k)).length ((flat (ls.take k)).map bv) ∧ Below w.heap.size w wr) (fun _ i _ => ls.length - (intOf i).toNat)
      case atStart => exact ⟨0, by omega, rfl, hown, hb1⟩
      case round =>
        obtain ⟨k, hk, rfl, how, hbl⟩ := hrel
        by_cases hlt : k < ls.length
        · have h' := h.below' hbl
          obtain ⟨b, o, rfl, sb, hb, hx⟩ := h'.at_ (by omega)
          obtain ⟨A', c', kc, hy⟩ := hx k ls[k] (List.getElem?_eq_getElem hlt)
          have h1 := flat_take_le ls (k + 1)
          have h3 := flat_take ls k hlt
          rw [h3, List.length_append] at h1
          have H3 := Lib.hid h3
          have h2 : (flat (ls.take k)).length + ls[k].length ≤ 140737488355328 := by omega
          clear hx h1 h3
          go_wp2_with (at_builtin; refine wpList_grow _ rfl _ _ _ rfl w.heap.size 5 i0 Tryz.underlying55 hi hz0 hz1 hz2 _ _ rfl how S _ _ rfl hy h2 hbl.size ?_; intro v2 w2 how2 hg2 _)
          go_roundw
          case rel =>
            refine ⟨k + 1, by omega, by go_num, ?_, hbl.grown hg2 hbl.size fun g hg => (how.lt g hg).1⟩
            rw [H3.out]
            exact how2
          case measure => simp [intOf]; omega
        · have e : ls.take k = ls := List.take_of_length_le (by omega)
          rw [e] at how
          clear e
          go_wp2
          go_ret
          exact ⟨_, rfl, how, hbl⟩
theorem text_any (S : Nat → Prop) (v : Value) (l : List UInt8) (w : World) (h : BS w S v l) (hl : l.length ≤ 140737488000000) :
    Calls Tryz.prog 156 #[v] w fun e w' => Fresh w e w' (texb l) := by
  obtain ⟨A, c, rfl, _⟩ := h.form
  have h8 := dig_length_le 8 l.length
  go_enter Tryz.func156, Tryz.ntmps156
  go_wp2_with fail
  refine (num_any l.length _ (by omega)).mono ?_
  rintro e w1 ⟨v1, rfl, hown, hb⟩
  obtain ⟨A1, c1, rfl, _⟩ := (own_BS hown).form
  have hl2 : LS (w1.alloc (.cells #[.slice A1 (numb l.length).length c1, .slice A l.length c] 55)) (fun b => True ∨ b = w1.heap.size) (.slice (some ⟨w1.heap.size, 0, none⟩) 2 2) [numb l.length, l] :=
    LS.two ((own_BS hown).mono fun _ _ => trivial) ((h.below' hb).mono fun _ _ => trivial)
  have hs := hb.size
  go_wp2_with fail
  refine (all_any _ _ _ _ hl2 (by simp [flat, numb]; omega)).mono ?_
  rintro e w2 ⟨v2, rfl, hown2, hb2⟩
  go_wp2
  go_ret
  have hs2 : w.heap.size ≤ (w1.alloc (.cells #[.slice A1 (numb l.length).length c1, .slice A l.length c] 55)).heap.size := by simp; omega
  refine ⟨_, rfl, ?_, (hb.alloc hs _).trans (hb2.mono hs2)⟩
  have := own_base hown2 hs2
  simpa [flat, texb] using this
end
section
def ofN (l : List Nat) : List Int := l.map fun (n : Nat) => (n : Int)
theorem ofN_length (l : List Nat) : (ofN l).length = l.length := by simp [ofN]
theorem ofN_add (l m : List Nat) : ofN (l ++ m) = ofN l ++ ofN m := by simp [ofN]
def selK (f : Nat → Bool) (k : Nat) : List Nat := (List.range k).filter f
theorem selK_zero (f : Nat → Bool) : selK f 0 = [] := rfl
theorem selK_yes {f : Nat → Bool} {k : Nat} (h : f k = true) : selK f (k + 1) = selK f k ++ [k] := by
  unfold selK
  rw [List.range_succ, List.filter_append]
  simp [h]
theorem selK_no {f : Nat → Bool} {k : Nat} (h : f k = false) : selK f (k + 1) = selK f k := by
  unfold selK
  rw [List.range_succ, List.filter_append]
  simp [h]
theorem selK_le (f : Nat → Bool) : ∀ k, (selK f k).length ≤ k
  | 0 => Nat.le_refl _
  | k + 1 => by
    have := selK_le f k
    cases h : f k
    · rw [selK_no h]; omega
    · rw [selK_yes h, List.length_append]; simp; omega
theorem selK_same {f g : Nat → Bool} {k : Nat} (h : ∀ i, i < k → f i = g i) : selK f k = selK g k := by
  unfold selK
  exact List.filter_congr fun i hi => h i (List.mem_range.1 hi)
theorem selK_pair (f : Nat → Bool) (k : Nat) : (selK f k).Pairwise (· < ·) := List.Pairwise.filter _ List.pairwise_lt_range
theorem mem_selK {f : Nat → Bool} {k i : Nat} : i ∈ selK f k ↔ i < k ∧ f i = true := by simp [selK]
def freeF (us : List Bool) (i : Nat) : Bool := !us.getD i true
def usedF (us : List Bool) (i : Nat) : Bool := us.getD i false
def countS (us : List Bool) : Nat := (selK (usedF us) us.length).length
def pickS (us : List Bool) (n : Int) : List Int × Bool :=
  if n < 0 ∨ ((selK (freeF us) us.length).length : Int) < n then ([], false) else (ofN ((selK (freeF us) us.length).take n.toNat), true)
theorem free_used {us : List Bool} : ∀ k, k ≤ us.length → (selK (freeF us) k).length + (selK (usedF us) k).length = k
  | 0, _ => rfl
  | k + 1, h => by
    have ih := free_used (us := us) k (by omega)
    have hg : us[k]? = some us[k] := List.getElem?_eq_getElem (by omega)
    cases hk : us[k]
    · rw [hk] at hg
      rw [selK_yes (f := freeF us) (by simp [freeF, hg]), selK_no (f := usedF us) (by simp [usedF, hg]), List.length_append]
      simp; omega
    · rw [hk] at hg
      rw [selK_no (f := freeF us) (by simp [freeF, hg]), selK_yes (f := usedF us) (by simp [usedF, hg]), List.length_append]
      simp; omega
theorem take_more {l : List Nat} {n k : Nat} (h : (l.take n).length < n) : (l ++ [k]).take n = l.take n ++ [k] := by
  rw [List.length_take] at h
  have hl : l.length < n := by omega
  rw [List.take_of_length_le (by simp; omega), List.take_of_length_le (by omega)]
theorem take_full {l : List Nat} {n k : Nat} (h : ¬ (l.take n).length < n) : (l ++ [k]).take n = l.take n := by
  rw [List.length_take] at h
  rw [List.take_append_of_le_length (by omega)]
def cK (f : Nat → Bool) : Nat → Nat
  | 0 => 0
  | k + 1 => 2 * cK f k + (f k).toNat
theorem cK_lt (f : Nat → Bool) : ∀ k, cK f k < 2 ^ k
  | 0 => by simp [cK]
  | k + 1 => by
    have := cK_lt f k
    have h2 := Bool.toNat_lt (f k)
    rw [cK, Nat.pow_succ]
    omega
theorem cK_eight (f : Nat → Bool) : cK f 8 < 256 := cK_lt f 8
def v8 (a b c d e f g h : Bool) : Nat := 2 * (2 * (2 * (2 * (2 * (2 * (2 * (2 * 0 + a.toNat) + b.toNat) + c.toNat) + d.toNat) + e.toNat) + f.toNat) + g.toNat) + h.toNat
theorem cK_v8 (f : Nat → Bool) : cK f 8 = v8 (f 0) (f 1) (f 2) (f 3) (f 4) (f 5) (f 6) (f 7) := rfl
theorem v8_or : ∀ a b c d e f g h : Bool, ∀ r : Fin 8, v8 a b c d e f g h ||| 2 ^ (7 - r.val) = v8 (a || (0 == r.val)) (b || (1 == r.val)) (c || (2 == r.val)) (d || (3 == r.val)) (e || (4 == r.val)) (f || (5 == r.val)) (g || (6 == r.val)) (h || (7 == r.val)) := by
  decide +kernel
theorem v8_at : ∀ a b c d e f g h : Bool, ∀ r : Fin 8, (v8 a b c d e f g h / 2 ^ (7 - r.val) % 2 == 1) = ([a, b, c, d, e, f, g, h].getD r.val false) := by
  decide +kernel
theorem and_at : ∀ x : Fin 256, ∀ r : Fin 8, (x.val &&& 2 ^ (7 - r.val) == 0) = !(x.val / 2 ^ (7 - r.val) % 2 == 1) := by
  decide +kernel
theorem cK_or (f : Nat → Bool) (r : Nat) (hr : r < 8) : cK f 8 ||| 2 ^ (7 - r) = cK (fun k => f k || (k == r)) 8 := by
  rw [cK_v8, cK_v8]
  exact v8_or _ _ _ _ _ _ _ _ ⟨r, hr⟩
theorem cK_at (f : Nat → Bool) (r : Nat) (hr : r < 8) : (cK f 8 / 2 ^ (7 - r) % 2 == 1) = f r := by
  rw [cK_v8]
  refine (v8_at _ _ _ _ _ _ _ _ ⟨r, hr⟩).trans ?_
  match r, hr with
  | 0, _ | 1, _ | 2, _ | 3, _ | 4, _ | 5, _ | 6, _ | 7, _ => rfl
def inF (l : List Int) (i : Nat) : Bool := decide ((i : Int) ∈ l)
def by8 (f : Nat → Bool) : UInt8 := UInt8.ofNat (cK f 8)
theorem by8_nat (f : Nat → Bool) : (by8 f).toNat = cK f 8 := by
  have := cK_eight f
  simp [by8]; omega
def bitsB (l : List Int) (m : Nat) : List UInt8 := (List.range m).map fun j => by8 fun k => inF l (8 * j + k)
theorem bitsB_length (l : List Int) (m : Nat) : (bitsB l m).length = m := by simp [bitsB]
theorem bitsB_at (l : List Int) {m j : Nat} (h : j < m) : (bitsB l m)[j]? = some (by8 fun k => inF l (8 * j + k)) := by simp [bitsB, h]
theorem bitsB_nil (m : Nat) : bitsB [] m = List.replicate m 0 := by
  apply List.ext_getElem?
  intro i
  by_cases h : i < m
  · rw [bitsB_at _ h, List.getElem?_replicate, if_pos h]; rfl
  · rw [List.getElem?_eq_none (by rw [bitsB_length]; omega), List.getElem?_eq_none (by simp; omega)]
theorem bitsB_set (l : List Int) {m i : Nat} (h : i < 8 * m) : bitsB (l ++ [(i : Int)]) m = (bitsB l m).set (i / 8) (UInt8.ofNat (cK (fun k => inF l (8 * (i / 8) + k)) 8 ||| 2 ^ (7 - i % 8))) := by
  rw [cK_or _ _ (Nat.mod_lt _ (by omega))]
  apply List.ext_getElem?
  intro j
  rw [List.getElem?_set, bitsB_length]
  by_cases hj : j < m
  · rw [bitsB_at _ hj, bitsB_at _ hj]
    by_cases e : i / 8 = j
    · subst e
      rw [if_pos rfl, if_pos hj]
      have : (fun k => inF (l ++ [(i : Int)]) (8 * (i / 8) + k)) = fun k => inF l (8 * (i / 8) + k) || (k == i % 8) := by
        funext k
        simp only [inF, List.mem_append, List.mem_singleton, Bool.decide_or]
        congr 1
        by_cases hk : k = i % 8
        · subst hk
          simp only [beq_self_eq_true, decide_eq_true_eq]
          omega
        · rw [beq_false_of_ne hk]
          simp only [decide_eq_false_iff_not]
          omega
      unfold by8
      rw [this]
    · rw [if_neg e]
      have hd : ∀ k, k < 8 → inF (l ++ [(i : Int)]) (8 * j + k) = inF l (8 * j + k) := fun k hk => by
        have : ¬ (((8 * j + k : Nat) : Int) = (i : Int)) := by omega
        simp only [inF, List.mem_append, List.mem_singleton, this, or_false]
      have e8 : cK (fun k => inF (l ++ [(i : Int)]) (8 * j + k)) 8 = cK (fun k => inF l (8 * j + k)) 8 := by
        rw [cK_v8, cK_v8]
        simp only [hd 0 (by omega), hd 1 (by omega), hd 2 (by omega), hd 3 (by omega), hd 4 (by omega), hd 5 (by omega), hd 6 (by omega), hd 7 (by omega)]
      unfold by8
      rw [e8]
  · rw [List.getElem?_eq_none (by rw [bitsB_length]; omega), List.getElem?_eq_none (by rw [bitsB_length]; omega)]
    split
    · rw [if_neg (by omega)]
    · rfl
def okA (at_ : List Int) (n : Int) (j : Nat) : Prop := 0 ≤ at_.getD j 0 ∧ at_.getD j 0 < n ∧ (0 < j → at_.getD (j - 1) 0 < at_.getD j 0)
instance (at_ : List Int) (n : Int) (j : Nat) : Decidable (okA at_ n j) := by unfold okA; infer_instance
def okB (at_ : List Int) (n : Int) : Prop := ∀ j, j < at_.length → okA at_ n j
instance (at_ : List Int) (n : Int) : Decidable (okB at_ n) := by unfold okB; infer_instance
def bytesN (n : Int) : Nat := (n.toNat + 7) / 8
def bitsS (at_ : List Int) (n : Int) : List UInt8 × Bool := if n < 0 ∨ 4096 < n ∨ ¬ okB at_ n then ([], false) else (bitsB at_ (bytesN n), true)
theorem okB_lt {at_ : List Int} {n : Int} (h : okB at_ n) {i j : Nat} (hij : i < j) (hj : j < at_.length) : at_.getD i 0 < at_.getD j 0 := by
  induction j with
  | zero => omega
  | succ j ih =>
    have h1 := (h (j + 1) hj).2.2 (by omega)
    rw [Nat.add_sub_cancel] at h1
    by_cases e : i = j
    · subst e; exact h1
    · have := ih (by omega) (by omega)
      omega
theorem okB_pair {at_ : List Int} {n : Int} (h : okB at_ n) : at_.Pairwise (· < ·) := by
  rw [List.pairwise_iff_getElem]
  intro i j hi hj hij
  have := okB_lt h hij hj
  rwa [List.getD_eq_getElem?_getD, List.getD_eq_getElem?_getD, List.getElem?_eq_getElem hi, List.getElem?_eq_getElem hj] at this
theorem okB_mem {at_ : List Int} {n : Int} (h : okB at_ n) {z : Int} (hz : z ∈ at_) : 0 ≤ z ∧ z < n := by
  obtain ⟨j, hj, rfl⟩ := List.mem_iff_getElem.1 hz
  obtain ⟨h1, h2, _⟩ := h j hj
  rw [List.getD_eq_getElem?_getD, List.getElem?_eq_getElem hj] at h1 h2
  exact ⟨h1, h2⟩
def StB (l : List Int) (n : Int) (k d : Nat) : Prop := (∀ j, j < d → okA l k j) ∧ (okB l n → ∀ j, d ≤ j → j < l.length → (k : Int) ≤ l.getD j 0)
theorem StB.zero (l : List Int) (n : Int) : StB l n 0 0 := ⟨fun j hj => absurd hj (Nat.not_lt_zero _), fun ho j _ hj => (ho j hj).1⟩
theorem getD_of {l : List Int} {d : Nat} {z : Int} (h : l[d]? = some z) : l.getD d 0 = z := by rw [List.getD_eq_getElem?_getD, h]; rfl
theorem StB.take {l : List Int} {n : Int} {k d : Nat} (h : StB l n k d) (hz : l[d]? = some (k : Int)) : StB l n (k + 1) (d + 1) := by
  have hg := getD_of hz
  have hd := (List.getElem?_eq_some_iff.1 hz).1
  refine ⟨fun j hj => ?_, fun ho j h1 h2 => ?_⟩
  · by_cases e : j = d
    · subst e
      refine ⟨by omega, by omega, fun h0 => ?_⟩
      have := (h.1 (j - 1) (by omega)).2.1
      omega
    · obtain ⟨a, b, c⟩ := h.1 j (by omega)
      exact ⟨a, by omega, c⟩
  · have := okB_lt ho (i := d) (j := j) (by omega) h2
    omega
theorem StB.pass {l : List Int} {n : Int} {k d : Nat} (h : StB l n k d) (hz : l[d]? ≠ some (k : Int)) : StB l n (k + 1) d := by
  refine ⟨fun j hj => ?_, fun ho j h1 h2 => ?_⟩
  · obtain ⟨a, b, c⟩ := h.1 j (by omega)
    exact ⟨a, by omega, c⟩
  · have hd : d < l.length := by omega
    have e1 : l[d]? = some (l.getD d 0) := by rw [List.getD_eq_getElem?_getD, List.getElem?_eq_getElem hd]; rfl
    have h3 := h.2 ho d (Nat.le_refl _) hd
    have h4 : l.getD d 0 ≠ (k : Int) := fun e => hz (by rw [e1, e])
    by_cases e : j = d
    · subst e; omega
    · have := okB_lt ho (i := d) (j := j) (by omega) h2
      omega
theorem StB.no {l : List Int} {n d : Nat} (h : StB l n n d) (hd : d < l.length) : ¬ okB l n := fun ho => by
  have h1 := h.2 ho d (Nat.le_refl _) hd
  have h2 := (ho d hd).2.1
  omega
theorem StB.yes {l : List Int} {n : Nat} (h : StB l n n l.length) : okB l n := h.1
theorem rise_ext : ∀ {a b : List Int}, a.Pairwise (· < ·) → b.Pairwise (· < ·) → (∀ z, z ∈ a ↔ z ∈ b) → a = b
  | [], [], _, _, _ => rfl
  | [], y :: b, _, _, h => absurd ((h y).2 (by simp)) (by simp)
  | x :: a, [], _, _, h => absurd ((h x).1 (by simp)) (by simp)
  | x :: a, y :: b, ha, hb, h => by
    rw [List.pairwise_cons] at ha hb
    have hxy : x = y := by
      have h1 := (h x).1 (by simp)
      have h2 := (h y).2 (by simp)
      rw [List.mem_cons] at h1 h2
      rcases h1 with h1 | h1
      · exact h1
      · rcases h2 with h2 | h2
        · exact h2.symm
        · have := hb.1 x h1
          have := ha.1 y h2
          omega
    subst hxy
    rw [rise_ext ha.2 hb.2 fun z => ?_]
    constructor
    · intro hz
      have := (h z).1 (by simp [hz])
      rw [List.mem_cons] at this
      rcases this with rfl | this
      · have := ha.1 z hz; omega
      · exact this
    · intro hz
      have := (h z).2 (by simp [hz])
      rw [List.mem_cons] at this
      rcases this with rfl | this
      · have := hb.1 z hz; omega
      · exact this
def bitAt (b : List UInt8) (i : Nat) : Bool := (b.getD (i / 8) 0).toNat / 2 ^ (7 - i % 8) % 2 == 1
theorem bitAt_of {b : List UInt8} {i : Nat} {x : UInt8} (h : b[i / 8]? = some x) : bitAt b i = (x.toNat / 2 ^ (7 - i % 8) % 2 == 1) := by
  unfold bitAt
  rw [List.getD_eq_getElem?_getD, h]; rfl
theorem bitAt_and {b : List UInt8} {i : Nat} {x : UInt8} (h : b[i / 8]? = some x) : (x.toNat &&& 2 ^ (7 - i % 8) == 0) = !bitAt b i := by
  rw [bitAt_of h]
  exact and_at ⟨x.toNat, x.toNat_lt⟩ ⟨i % 8, Nat.mod_lt _ (by omega)⟩
theorem bitAt_bits (l : List Int) {m i : Nat} (h : i < 8 * m) : bitAt (bitsB l m) i = inF l i := by
  rw [bitAt_of (bitsB_at l (m := m) (j := i / 8) (by omega)), by8_nat, cK_at _ _ (Nat.mod_lt _ (by omega))]
  rw [Nat.div_add_mod]
def listS (b : List UInt8) (n : Int) : List Int × Bool :=
  if n < 0 ∨ 4096 < n ∨ b.length ≠ bytesN n ∨ ∃ i, i < 8 * b.length ∧ n ≤ (i : Int) ∧ bitAt b i = true then ([], false) else (ofN (selK (bitAt b) (8 * b.length)), true)
theorem list_bits {at_ : List Int} {n : Int} (h0 : ¬ n < 0) (h1 : ¬ 4096 < n) (h : okB at_ n) : listS (bitsB at_ (bytesN n)) n = (at_, true) := by
  unfold listS
  have hl : 8 * (bitsB at_ (bytesN n)).length = 8 * bytesN n := by rw [bitsB_length]
  have hn : n.toNat ≤ 8 * bytesN n := by unfold bytesN; omega
  rw [if_neg]
  · congr 1
    rw [hl, selK_same (g := inF at_) fun i hi => bitAt_bits at_ hi]
    refine rise_ext ?_ (okB_pair h) fun z => ?_
    · unfold ofN
      rw [List.pairwise_map]
      exact (selK_pair _ _).imp fun h => by omega
    · unfold ofN
      rw [List.mem_map]
      constructor
      · rintro ⟨i, hi, rfl⟩
        have := (mem_selK.1 hi).2
        simpa [inF] using this
      · intro hz
        have hb := okB_mem h hz
        refine ⟨z.toNat, mem_selK.2 ⟨by omega, ?_⟩, by omega⟩
        have : ((z.toNat : Nat) : Int) = z := by omega
        simp only [inF, this]
        exact decide_eq_true hz
  · rintro (h2 | h2 | h2 | ⟨i, hi, hni, hb⟩)
    · exact h0 h2
    · exact h1 h2
    · exact h2 (bitsB_length _ _)
    · rw [hl] at hi
      rw [bitAt_bits at_ hi] at hb
      have := okB_mem h (of_decide_eq_true hb)
      omega
def pagesS (n : Int) : Int := if n < 1 then 0 else (n - 1) / 256 + 1
def pagesN (n : Nat) : Nat := (n + 255) / 256
theorem pages_nat (n : Nat) : pagesS (n : Int) = (pagesN n : Int) := by
  unfold pagesS pagesN
  split <;> omega
def zsK (n : Nat) : List UInt8 := List.replicate n 0
def sectC (b : List UInt8) (i : Nat) : List UInt8 := (b.drop (256 * i)).take 256 ++ zsK (256 - (b.drop (256 * i)).length)
def cutK (b : List UInt8) (k : Nat) : List (List UInt8) := (List.range k).map (sectC b)
def cutS (b : List UInt8) : List (List UInt8) := cutK b (pagesN b.length)
theorem zsK_length (n : Nat) : (zsK n).length = n := by simp [zsK]
theorem sectC_length (b : List UInt8) (i : Nat) : (sectC b i).length = 256 := by
  unfold sectC
  rw [List.length_append, List.length_take, zsK_length]; omega
theorem cutK_more (b : List UInt8) (k : Nat) : cutK b (k + 1) = cutK b k ++ [sectC b k] := by simp [cutK, List.range_succ]
theorem cutK_length (b : List UInt8) (k : Nat) : (cutK b k).length = k := by simp [cutK]
theorem cutK_flat (b : List UInt8) : ∀ k, (cutK b k).flatten = b.take (256 * k) ++ zsK (256 * k - b.length)
  | 0 => by simp [cutK, zsK]
  | k + 1 => by
    rw [cutK_more, List.flatten_append, cutK_flat b k]
    simp only [List.flatten_cons, List.flatten_nil, List.append_nil, sectC]
    rcases Nat.lt_or_ge b.length (256 * k) with h | h
    · rw [List.drop_of_length_le (by omega), List.take_nil, List.nil_append, List.take_of_length_le (by omega), List.take_of_length_le (by omega), List.append_assoc]
      unfold zsK
      rw [List.replicate_append_replicate, List.length_nil]
      congr 2; omega
    · rw [show 256 * k - b.length = 0 from by omega]
      rw [show 256 * (k + 1) = 256 * k + 256 from by omega, List.take_add, List.length_drop]
      rw [show 256 - (b.length - 256 * k) = 256 * k + 256 - b.length from by omega]
      simp [zsK]
theorem cutS_flat (b : List UInt8) : (cutS b).flatten = b ++ zsK (256 * pagesN b.length - b.length) := by
  unfold cutS
  rw [cutK_flat, List.take_of_length_le (by unfold pagesN; omega)]
end
section
structure Ino where
  name : List UInt8
  size : Int
  at_ : List Int
def ino0 : Ino := ⟨[], 0, []⟩
def okc (c : Nat) : Bool := (decide (97 ≤ c) && decide (c ≤ 122)) || (decide (48 ≤ c) && decide (c ≤ 57)) || decide (c = 46) || decide (c = 45) || decide (c = 95)
def nameS (l : List UInt8) : Bool := decide (1 ≤ l.length) && decide (l.length ≤ 16) && l.all fun b => okc b.toNat
def fitS (x : Ino) (n : Int) : Bool := nameS x.name && decide (0 ≤ n ∧ n ≤ 1024) && decide (0 ≤ x.size ∧ x.size ≤ 24576) && decide ((x.at_.length : Int) = pagesS x.size) && (bitsS x.at_ n).2
def putB (x : Ino) (n : Int) : List UInt8 := texb x.name ++ (numb (u64 x.size) ++ (bitsS x.at_ n).1)
def iputS (x : Ino) (n : Int) : List UInt8 × Int := if fitS x n = true then (putB x n, 0) else ([], 1)
def readS (b : List UInt8) (n : Int) : Option (List UInt8) × Ino × Bool :=
  ((cntOf 24576 (txtOf 16 (some b)).1).1,
   ⟨(txtOf 16 (some b)).2, ((cntOf 24576 (txtOf 16 (some b)).1).2 : Int), (listS ((cntOf 24576 (txtOf 16 (some b)).1).1.getD []) n).1⟩,
   (listS ((cntOf 24576 (txtOf 16 (some b)).1).1.getD []) n).2)
def igetS (b : List UInt8) (n : Int) : Ino × Int :=
  if (readS b n).1.isSome = true ∧ (readS b n).2.2 = true ∧ fitS (readS b n).2.1 n = true then ((readS b n).2.1, 0) else (ino0, 2)
theorem fit_iff (x : Ino) (n : Int) : fitS x n = true ↔ nameS x.name = true ∧ (0 ≤ n ∧ n ≤ 1024) ∧ (0 ≤ x.size ∧ x.size ≤ 24576) ∧ (x.at_.length : Int) = pagesS x.size ∧ (bitsS x.at_ n).2 = true := by
  unfold fitS
  simp only [Bool.and_eq_true, decide_eq_true_eq, and_assoc]
theorem name_iff (l : List UInt8) : nameS l = true ↔ 1 ≤ l.length ∧ l.length ≤ 16 ∧ ∀ b ∈ l, okc b.toNat = true := by
  unfold nameS
  simp only [Bool.and_eq_true, decide_eq_true_eq, and_assoc, List.all_eq_true]
theorem bitsS_yes {at_ : List Int} {n : Int} (h : (bitsS at_ n).2 = true) : (¬ n < 0 ∧ ¬ 4096 < n ∧ okB at_ n) ∧ (bitsS at_ n).1 = bitsB at_ (bytesN n) := by
  unfold bitsS at h ⊢
  by_cases hc : n < 0 ∨ 4096 < n ∨ ¬ okB at_ n
  · rw [if_pos hc] at h; cases h
  · rw [if_neg hc]
    exact ⟨⟨fun h => hc (.inl h), fun h => hc (.inr (.inl h)), Classical.byContradiction fun h => hc (.inr (.inr h))⟩, rfl⟩
theorem by8_back : ∀ x : Fin 256, cK (fun k => x.val / 2 ^ (7 - k) % 2 == 1) 8 = x.val := by decide +kernel
theorem bits_list {b : List UInt8} {n : Int} {at_ : List Int} (h : listS b n = (at_, true)) : bitsB at_ (bytesN n) = b := by
  unfold listS at h
  by_cases hc : n < 0 ∨ 4096 < n ∨ b.length ≠ bytesN n ∨ ∃ i, i < 8 * b.length ∧ n ≤ (i : Int) ∧ bitAt b i = true
  · rw [if_pos hc] at h; cases h
  · rw [if_neg hc] at h
    injection h with h _
    have hl : b.length = bytesN n := Classical.byContradiction fun h => hc (.inr (.inr (.inl h)))
    apply List.ext_getElem?
    intro j
    by_cases hj : j < bytesN n
    · rw [bitsB_at _ hj]
      have hjb : j < b.length := by omega
      rw [List.getElem?_eq_getElem hjb]
      congr 1
      apply UInt8.toNat_inj.1
      rw [by8_nat]
      have hb := b[j].toNat_lt
      refine Eq.trans ?_ (by8_back ⟨b[j].toNat, hb⟩)
      have hin : ∀ k, k < 8 → inF at_ (8 * j + k) = (b[j].toNat / 2 ^ (7 - k) % 2 == 1) := fun k hk => by
        have e1 : inF at_ (8 * j + k) = bitAt b (8 * j + k) := by
          rw [← h]
          unfold inF
          have : ((8 * j + k : Nat) : Int) ∈ ofN (selK (bitAt b) (8 * b.length)) ↔ bitAt b (8 * j + k) = true := by
            unfold ofN
            rw [List.mem_map]
            constructor
            · rintro ⟨a, ha, e⟩
              have : a = 8 * j + k := by omega
              subst this
              exact (mem_selK.1 ha).2
            · intro hbit
              exact ⟨8 * j + k, mem_selK.2 ⟨by omega, hbit⟩, rfl⟩
          cases hq : bitAt b (8 * j + k) with
          | true => exact decide_eq_true (this.2 hq)
          | false => exact decide_eq_false fun hh => by rw [this.1 hh] at hq; cases hq
        rw [e1, bitAt_of (x := b[j]) (by rw [show (8 * j + k) / 8 = j by omega]; exact List.getElem?_eq_getElem hjb), show (8 * j + k) % 8 = k by omega]
      simp only [cK, hin 0 (by omega), hin 1 (by omega), hin 2 (by omega), hin 3 (by omega), hin 4 (by omega), hin 5 (by omega), hin 6 (by omega), hin 7 (by omega)]
    · rw [List.getElem?_eq_none (by rw [bitsB_length]; omega), List.getElem?_eq_none (by omega)]
theorem txt_of {l : List UInt8} (h : l.length ≤ 16) (r : List UInt8) : txtOf 16 (some (texb l ++ r)) = (some r, l) := by
  unfold txtOf cntOf texb
  rw [List.append_assoc, numOf_numb _ _ (by omega), if_neg (by simp; omega)]
  unfold passed
  simp only [Option.getD_some, List.length_append]
  rw [if_neg (by omega)]
  simp
theorem cnt_of {z : Nat} (h : z ≤ 24576) (r : List UInt8) : cntOf 24576 (some (numb z ++ r)) = (some r, z) := by
  unfold cntOf
  rw [numOf_numb _ _ (by omega), if_neg (by simp; omega)]
theorem u64_nat {z : Int} (h : 0 ≤ z) (h2 : z ≤ 24576) : u64 z = z.toNat := by unfold u64; omega
theorem put_got {x : Ino} {n : Int} (h : fitS x n = true) : igetS (putB x n) n = (x, 0) := by
  obtain ⟨h1, h2, h3, h4, h5⟩ := (fit_iff x n).1 h
  obtain ⟨_, h1b, _⟩ := (name_iff _).1 h1
  obtain ⟨⟨b1, b2, b3⟩, b4⟩ := bitsS_yes h5
  have e1 : txtOf 16 (some (putB x n)) = (some (numb (u64 x.size) ++ (bitsS x.at_ n).1), x.name) := txt_of h1b _
  have e2 : cntOf 24576 (some (numb (u64 x.size) ++ (bitsS x.at_ n).1)) = (some (bitsS x.at_ n).1, x.size.toNat) := by
    rw [u64_nat h3.1 h3.2]
    exact cnt_of (by omega) _
  have e3 : listS (bitsS x.at_ n).1 n = (x.at_, true) := by rw [b4]; exact list_bits b1 b2 b3
  have hr : readS (putB x n) n = (some (bitsS x.at_ n).1, x, true) := by
    unfold readS
    rw [e1]
    simp only [e2, Option.getD_some, e3]
    have : ((x.size.toNat : Nat) : Int) = x.size := by omega
    rw [this]
  unfold igetS
  rw [hr]
  exact if_pos ⟨rfl, rfl, h⟩
theorem txt_back {b l r : List UInt8} {m : Int} (h : txtOf m (some b) = (some r, l)) : texb l ++ r = b := by
  unfold txtOf at h
  have hc : ∃ t, (cntOf m (some b)).1 = some t := by
    cases hq : (cntOf m (some b)).1 with
    | some t => exact ⟨t, rfl⟩
    | none =>
      rw [hq] at h
      unfold passed at h
      split at h <;> cases h
  obtain ⟨t, ht⟩ := hc
  have hn : numOf (some b) = (some t, (cntOf m (some b)).2) := by
    unfold cntOf at ht ⊢
    split
    · rename_i hh; rw [if_pos hh] at ht; cases ht
    · rename_i hh; rw [if_neg hh] at ht; exact Prod.ext ht rfl
  generalize (cntOf m (some b)).2 = k at h hn
  rw [ht] at h
  have hb := numb_numOf b t k hn
  unfold passed at h
  split at h
  · cases h
  · rename_i hk
    simp only [Option.getD_some] at hk h
    injection h with ha hl
    simp only [Option.map_some, Option.some.injEq] at ha
    have hk2 : k ≤ t.length := by omega
    rw [Int.toNat_natCast] at ha hl
    have hlen : l.length = k := by rw [← hl, List.length_take]; omega
    unfold texb
    rw [hlen, ← hl, ← ha, List.append_assoc, List.take_append_drop]
    exact hb
theorem cnt_back {b r : List UInt8} {m : Int} {z : Nat} (h : cntOf m (some b) = (some r, z)) : numb z ++ r = b ∧ (z : Int) ≤ m := by
  unfold cntOf at h
  split at h
  · cases h
  · rename_i hc
    rw [h] at hc
    exact ⟨numb_numOf b r z h, by omega⟩
theorem cnt_none (m : Int) : (cntOf m none).1 = none := by
  have : numOf none = (none, 0) := rfl
  unfold cntOf
  rw [this]
  split <;> rfl
theorem got_put {b : List UInt8} {n : Int} (h : ¬ (igetS b n).2 = 2) : fitS (igetS b n).1 n = true ∧ putB (igetS b n).1 n = b ∧ (igetS b n).2 = 0 := by
  unfold igetS at h ⊢
  by_cases hc : (readS b n).1.isSome = true ∧ (readS b n).2.2 = true ∧ fitS (readS b n).2.1 n = true
  · rw [if_pos hc]
    refine ⟨hc.2.2, ?_, rfl⟩
    obtain ⟨c1, c2, c3⟩ := hc
    obtain ⟨f1, f2, f3, f4, f5⟩ := (fit_iff _ n).1 c3
    obtain ⟨_, b4⟩ := bitsS_yes f5
    unfold putB
    rw [b4]
    show texb (txtOf 16 (some b)).2 ++ (numb (u64 ((cntOf 24576 (txtOf 16 (some b)).1).2 : Int)) ++ bitsB (listS ((cntOf 24576 (txtOf 16 (some b)).1).1.getD []) n).1 (bytesN n)) = b
    have c1' : ((cntOf 24576 (txtOf 16 (some b)).1).1).isSome = true := c1
    have c2' : (listS ((cntOf 24576 (txtOf 16 (some b)).1).1.getD []) n).2 = true := c2
    have g3 : 0 ≤ ((cntOf 24576 (txtOf 16 (some b)).1).2 : Int) ∧ ((cntOf 24576 (txtOf 16 (some b)).1).2 : Int) ≤ 24576 := f3
    clear f1 f2 f3 f4 f5 b4 c1 c2 c3 h
    obtain ⟨⟨st1, l⟩, hT⟩ : ∃ p, txtOf 16 (some b) = p := ⟨_, rfl⟩
    rw [hT] at c1' c2' g3 ⊢
    simp only at c1' c2' g3 ⊢
    cases st1 with
    | none => rw [cnt_none] at c1'; cases c1'
    | some r1 =>
      obtain ⟨⟨st2, z⟩, hC⟩ : ∃ p, cntOf 24576 (some r1) = p := ⟨_, rfl⟩
      rw [hC] at c1' c2' g3 ⊢
      simp only at c1' c2' g3 ⊢
      cases st2 with
      | none => cases c1'
      | some r2 =>
        have e1 := txt_back hT
        have e2 := (cnt_back hC).1
        have e3 := bits_list (b := r2) (n := n) (at_ := (listS r2 n).1) (Prod.ext rfl c2')
        simp only [Option.getD_some]
        rw [u64_nat g3.1 g3.2, e3, Int.toNat_natCast, e2, e1]
  · exact absurd (by rw [if_neg hc]) h
theorem numb_small (z : Nat) (h : z ≤ 65535) : (numb z).length ≤ 3 := by
  unfold numb
  have e : ∀ f z, z < 256 ^ f → f ≤ 8 → dig 8 z = dig f z := fun f => by
    intro z hz hf
    have h1 := dig_val f z hz
    have h2 := dig_head f z hz
    have h3 := dig_of_val 8 (dig f z) (by have := dig_length_le f z; omega) h2
    rw [h1] at h3
    exact h3
  rw [e 2 z (by omega) (by omega)]
  have := dig_length_le 2 z
  simp only [List.length_cons]
  omega
theorem put_few {x : Ino} {n : Int} (h : fitS x n = true) : (putB x n).length ≤ 160 := by
  obtain ⟨h1, h2, h3, h4, h5⟩ := (fit_iff x n).1 h
  obtain ⟨_, h1b, _⟩ := (name_iff _).1 h1
  obtain ⟨_, b4⟩ := bitsS_yes h5
  unfold putB texb
  rw [b4]
  have k1 := numb_small x.name.length (by omega)
  have k2 := numb_small (u64 x.size) (by rw [u64_nat h3.1 h3.2]; omega)
  simp only [List.length_append, bitsB_length]
  unfold bytesN
  omega
end
end Go.Proofs.YteddmnoeljakpaaGreatDoor
