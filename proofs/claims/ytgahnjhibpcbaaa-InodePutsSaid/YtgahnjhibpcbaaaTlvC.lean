/-
  bits.Len64 and the writers of tlv: Num, Int, All, Text: each one's contract over the loaded program.
  No condition but the worlds' shapes that each contract names, and lengths that a process can hold.
-/
import Derived.Test.YtgahnjhibpcbaaaTlvB
import Derived.Lib.BitFns
import Derived.Lib.Walk
namespace Go.Proofs.Ytgahnjhibpcbaaa
open Go.RowKit

theorem bl (s : Nat) (y x : Int) (h0 : 0 ≤ y) (h1 : y ≤ 255) (hy : y.toNat = x.toNat / 2 ^ s) (hs : s = 0 ∨ 2 ^ s ≤ x.toNat) (hx : x.toNat < 18446744073709551616) (h56 : s ≤ 56) :
    wrap64 ((s : Int) + wrap64 (Lib.len8 y)) = (Lib.bitLen x.toNat : Int) := by
  have hl := Lib.bitLen_le8' y h0 h1
  have e1 : wrap64 (Lib.bitLen y.toNat : Int) = Lib.bitLen y.toNat := IntWalk.wrap64_in _ (by omega)
  rw [Lib.len8_of y h0 h1, e1, IntWalk.wrap64_in _ (by omega)]
  rcases hs with rfl | hs
  · rw [hy]; simp
  · rw [Lib.bitLen_shift s x.toNat hs (by simpa using hx), ← hy]
    simp

set_option maxRecDepth 100000 in
set_option maxHeartbeats 1000000 in
theorem len64_int (x : Int) (w : World) (h0 : 0 ≤ x) (h1 : x ≤ 18446744073709551615) :
    Calls Try.prog 59 #[.int .u64 x] w fun e w' => e = .returned (.int .i64 (Lib.bitLen x.toNat)) ∧ w = w' := by
  go_enter Try.func59, Try.ntmps59
  have n7 : 0 ≤ x / 4294967296 / 65536 / 256 := by omega
  have n6 : 0 ≤ x / 4294967296 / 65536 := by omega
  have n5 : 0 ≤ x / 4294967296 / 256 := by omega
  have n4 : 0 ≤ x / 4294967296 := by omega
  have n3 : 0 ≤ x / 65536 / 256 := by omega
  have n2 : 0 ≤ x / 65536 := by omega
  have n1 : 0 ≤ x / 256 := by omega
  have g7 : x / 4294967296 / 65536 / 256 ≤ 255 := by omega
  have g6 : x / 4294967296 / 65536 < 256 → x / 4294967296 / 65536 ≤ 255 := by omega
  have g5 : x / 4294967296 < 65536 → x / 4294967296 / 256 ≤ 255 := by omega
  have g4 : x / 4294967296 < 256 → x / 4294967296 ≤ 255 := by omega
  have g3 : x < 4294967296 → x / 65536 / 256 ≤ 255 := by omega
  have g2 : x / 65536 < 256 → x / 65536 ≤ 255 := by omega
  have g1 : x < 65536 → x / 256 ≤ 255 := by omega
  have g0 : x < 256 → x ≤ 255 := by omega
  go_wp2
  all_goals (go_ret; refine ⟨congrArg Ending.returned (congrArg (Value.int IntKind.i64) ?_), rfl⟩)
  · exact bl 56 _ x n7 g7 (by omega) (by omega) (by omega) (by omega)
  · exact bl 48 _ x n6 (by omega) (by omega) (by omega) (by omega) (by omega)
  · exact bl 40 _ x n5 (by omega) (by omega) (by omega) (by omega) (by omega)
  · exact bl 32 _ x n4 (by omega) (by omega) (by omega) (by omega) (by omega)
  · exact bl 24 _ x n3 (by omega) (by omega) (by omega) (by omega) (by omega)
  · exact bl 16 _ x n2 (by omega) (by omega) (by omega) (by omega) (by omega)
  · exact bl 8 _ x n1 (by omega) (by omega) (by omega) (by omega) (by omega)
  · have := bl 0 x x h0 (by omega) (by omega) (by omega) (by omega) (by omega)
    simpa using this

theorem len64_any (n : Nat) (w : World) (h : n < 18446744073709551616) :
    Calls Try.prog 59 #[.int .u64 n] w fun e w' => e = .returned (.int .i64 (Lib.bitLen n)) ∧ w = w' := by
  have := len64_int n w (by omega) (by omega)
  simpa only [Int.toNat_natCast] using this

theorem bitLen_pos (n : Nat) (h : n ≠ 0) (hn : n < 18446744073709551616) : 1 ≤ Lib.bitLen n := by
  rw [Lib.bitLen_half n h hn]
  omega

theorem size_dig (f n : Nat) (h : n < 256 ^ f) (hn : n < 18446744073709551616) : (Lib.bitLen n + 7) / 8 = (dig f n).length := by
  induction f generalizing n with
  | zero => simp at h; subst h; rfl
  | succ f ih =>
    by_cases h0 : n = 0
    · subst h0; have h5 : Lib.bitLen 0 = 0 := rfl; simp [dig, h5]
    · simp only [dig, if_neg h0, List.length_append, List.length_cons, List.length_nil]
      have hi := ih (n / 256) (by rw [Nat.pow_succ] at h; omega) (by omega)
      by_cases h1 : 256 ≤ n
      · have := Lib.bitLen_shift8 n h1 hn
        omega
      · have h2 := bitLen_pos n h0 hn
        have h3 := Lib.bitLen_le n 8 (by omega) (by omega)
        have h4 : n / 256 = 0 := by omega
        rw [h4] at hi ⊢
        have h5 : Lib.bitLen 0 = 0 := rfl
        rw [h5] at hi
        omega

theorem size_eight (n : Nat) (hn : n < 18446744073709551616) : (Lib.bitLen n + 7) / 8 = (dig 8 n).length := size_dig 8 n (by simpa using hn) hn

theorem bitLen_le64 (n : Nat) (hn : n < 18446744073709551616) : Lib.bitLen n ≤ 64 := Lib.bitLen_le n 64 (by omega) (by simpa using hn)

theorem zeros_made (n : Nat) : (madeCells (Value.int .u8 0).cells (n * 1)).toList = (List.replicate n (0 : UInt8)).map bv := by
  rw [Nat.mul_one]
  show (madeCells #[Value.int .u8 0] n).toList = _
  rw [toList_madeCells_one, List.map_replicate]
  rfl

theorem set_last_zero (a b : UInt8) (i : Nat) (t : List UInt8) : (a :: (List.replicate (i + 1) 0 ++ t)).set (i + 1) b = a :: (List.replicate i 0 ++ b :: t) := by
  simp only [List.set_cons_succ, List.cons.injEq, true_and]
  induction i with
  | zero => rfl
  | succ i ih => rw [List.replicate_succ, List.cons_append, List.set_cons_succ, ih, List.replicate_succ, List.cons_append]

theorem byte_wrap (m : Nat) : Value.int .u8 (IntKind.u8.wrap (m : Int)) = bv (UInt8.ofNat (m % 256)) := by
  unfold bv
  rw [IntKind.wrap_u8]
  have : (UInt8.ofNat (m % 256)).toNat = m % 256 := by simp
  rw [this]
  congr 1

theorem set_head (L : Nat) (h : L ≤ 8) : ((List.replicate (1 + L) (0 : UInt8)).map bv).set 0 (.int .u8 (L : Int)) = (UInt8.ofNat L :: (List.replicate L 0 ++ [])).map bv := by
  have : (UInt8.ofNat L).toNat = L := by simp; omega
  rw [Nat.add_comm, List.replicate_succ, List.map_cons, List.set_cons_zero, List.append_nil, List.map_cons]
  unfold bv
  rw [this]

theorem set_digit (a : UInt8) (i m : Nat) (t : List UInt8) : ((a :: (List.replicate (i + 1) 0 ++ t)).map bv).set (i + 1) (.int .u8 (IntKind.u8.wrap (m : Int))) = (a :: (List.replicate i 0 ++ UInt8.ofNat (m % 256) :: t)).map bv := by
  rw [byte_wrap, ← List.map_set, set_last_zero]

theorem num_any (n : Nat) (w : World) (h : n < 18446744073709551616) :
    Calls Try.prog 47 #[.int .u64 n] w fun e w' => Fresh w e w' (numb n) := by
  obtain ⟨i0, hi, hz0, hz1, hz2⟩ := info_parts info_byte
  have hs := size_eight n h
  have h8 := dig_length_le 8 n
  have hb := bitLen_le64 n h
  have HN := Lib.hid h
  have HD : Hid (numb n = UInt8.ofNat (dig 8 n).length :: dig 8 n) := rfl
  generalize hD : dig 8 n = D at *
  generalize numb n = R at *
  have HS := Lib.hid hs
  have HE := Lib.hid hD
  clear hs hD h
  obtain ⟨L, hL⟩ : ∃ L, L = D.length := ⟨_, rfl⟩
  have HL := Lib.hid hL
  rw [← hL] at h8
  have hw : ((Lib.bitLen n : Int) + 7) / 8 = (L : Int) := by have := HS.out; omega
  have HW := Lib.hid hw
  clear hw hL
  have hD : D = dig 8 n ++ [] := by rw [HE.out]; simp
  go_enter Try.func47, Try.ntmps47
  go_wp2_with fail
  refine (len64_any n _ HN.out).mono ?_
  rintro e w' ⟨rfl, rfl⟩
  have HD2 := Lib.hid hD
  clear hD
  go_wp2_with (at_make; simp only [HW.out]; refine wpList_make_full _ rfl (.tmp 11) (.tmp 11) 27 rfl w.heap.size 5 i0 (.int .u8 0) 1 Try.underlying27 hi hz0 hz1 .i64 .i64 (1 + L) (1 + L) (1 + L) rfl rfl (by omega) (by omega) (by rw [hz2]; omega) (by unfold maxLen; omega) (Nat.le_refl _) ?_; intro w1 hown hg1; rw [zeros_made] at hown; have k0 := hown.cellAt 0 (by omega); have f0 := hown.frozenAt 0; have k0' : w1.cell? ⟨w.heap.size, 0, none⟩ = some (.int .u8 0) := k0.trans (by rw [List.map_replicate, List.getElem?_replicate, if_pos (by omega)]; rfl); clear k0)
  go_loopw [0, 5] (fun nv iv wr => ∃ (f m i : Nat) (tl : List UInt8), Hid (D = dig f m ++ tl) ∧ Hid (i = (dig f m).length) ∧ i ≤ L ∧ nv = .int .u64 m ∧ iv = .int .i64 i ∧
      wr.ownsRow w.heap.size 5 1 (.slice (some ⟨w.heap.size, 0, none⟩) (1 + L) (1 + L)) (1 + L) ((UInt8.ofNat L :: (List.replicate i 0 ++ tl)).map bv) ∧ Below w.heap.size w wr)
    (fun _ iv _ => (intOf iv).toNat)
  case atStart =>
    refine ⟨8, n, L, [], HD2.out, by rw [HE.out]; exact HL.out, Nat.le_refl _, rfl, rfl, ?_, ((Below.refl _ _).grown hg1 (Nat.le_refl _) (by simp)).setCell (Nat.le_refl _) _⟩
    rw [← set_head L h8]
    exact (hown.stored 0 _).1
  case round =>
    obtain ⟨f, m, i, tl, hD, hl, hiL, rfl, rfl, how, hbl⟩ := hrel
    by_cases h0 : i = 0
    · subst h0
      go_wp2
      go_ret
      have e : dig f m = [] := List.eq_nil_of_length_eq_zero hl.out.symm
      have e2 := hD.out
      rw [e] at e2
      refine ⟨_, rfl, ?_, hbl⟩
      rw [HD.out, ← HL.out]
      simp only [List.length_cons, ← HL.out]
      rw [e2, Nat.add_comm L 1]
      exact how
    · obtain ⟨j, rfl⟩ : ∃ j, i = j + 1 := ⟨i - 1, by omega⟩
      clear h0
      have k1 : wr.cell? ⟨w.heap.size, j + 1, none⟩ = some (.int .u8 0) := by
        rw [how.cellAt (j + 1) (by omega), List.getElem?_map]
        simp [bv, List.getElem?_append]
      have f1 := how.frozenAt (j + 1)
      go_wp2
      go_roundw
      case rel =>
        obtain ⟨f', rfl⟩ : ∃ f', f = f' + 1 := by
          cases f with
          | zero => have := hl.out; simp [dig] at this
          | succ f => exact ⟨f, rfl⟩
        have hm : m ≠ 0 := by
          rintro rfl
          have := hl.out
          simp [dig] at this
        have e : dig (f' + 1) m = dig f' (m / 256) ++ [UInt8.ofNat (m % 256)] := by simp only [dig, if_neg hm]
        have e1 := hD.out
        have e2 := hl.out
        rw [e] at e1 e2
        refine ⟨f', m / 256, j, UInt8.ofNat (m % 256) :: tl, ?_, ?_, by omega, by go_num, by go_num, ?_, hbl.setCell (Nat.le_refl _) _⟩
        · show D = _
          rw [e1, List.append_assoc]; rfl
        · show j = _
          simp at e2; exact e2
        · rw [← set_digit]
          exact (how.stored _ _).1
      case measure => simp [intOf]

/-- An int's 64 bits as a number. -/
def u64 (i : Int) : Nat := (i % 18446744073709551616).toNat
theorem u64_lt (i : Int) : u64 i < 18446744073709551616 := by unfold u64; omega
theorem u64_wrap (i : Int) : IntKind.u64.wrap i = ((u64 i : Nat) : Int) := by
  unfold u64
  rw [IntKind.wrap_u64]
  omega

theorem int_any (i : Int) (w : World) :
    Calls Try.prog 22 #[.int .i64 i] w fun e w' => Fresh w e w' (numb (u64 i)) := by
  go_enter Try.func22, Try.ntmps22
  go_wp2_with (go_at_call 47; rw [u64_wrap]; refine (num_any (u64 i) _ (u64_lt i)).mono ?_; rintro e w1 ⟨v, rfl, hown, hb⟩)
  go_ret
  exact ⟨v, rfl, hown, hb⟩

/-- All of a list's texts, one behind the other. -/
def flat (ls : List (List UInt8)) : List UInt8 := ls.flatten

theorem flat_take (ls : List (List UInt8)) (k : Nat) (h : k < ls.length) : flat (ls.take (k + 1)) = flat (ls.take k) ++ ls[k] := by
  unfold flat
  rw [List.take_succ_eq_append_getElem h, List.flatten_append]; simp

theorem flat_take_le (ls : List (List UInt8)) (k : Nat) : (flat (ls.take k)).length ≤ (flat ls).length := by
  have : flat ls = flat (ls.take k) ++ flat (ls.drop k) := by unfold flat; rw [← List.flatten_append, List.take_append_drop]
  rw [this]; simp

theorem all_any (S : Nat → Prop) (v : Value) (ls : List (List UInt8)) (w : World) (h : LS w S v ls) (hl : (flat ls).length ≤ 140737488355328) :
    Calls Try.prog 20 #[v] w fun e w' => Fresh w e w' (flat ls) := by
  obtain ⟨i0, hi, hz0, hz1, hz2⟩ := info_parts info_byte
  obtain ⟨A, c, rfl, hlc, hcm⟩ := h.form
  have hlen : ls.length ≤ 9223372036854775807 := by unfold maxLen at hcm; omega
  clear hcm hlc
  go_enter Try.func20, Try.ntmps20
  go_wp2
  go_loop [3, 11] (fun n i => ∃ k : Nat, k ≤ ls.length ∧ i = .int .i64 k ∧ n = .int .i64 ((flat (ls.take k)).length : Nat)) (fun _ i => ls.length - (intOf i).toNat)
  case atStart => exact ⟨0, by omega, rfl, rfl⟩
  case round =>
    obtain ⟨k, hk, rfl, rfl⟩ := hrel
    by_cases hlt : k < ls.length
    · obtain ⟨b, o, rfl, sb, hb, hx⟩ := h.at_ (by omega)
      obtain ⟨A', c', kc, _⟩ := hx k ls[k] (List.getElem?_eq_getElem hlt)
      have h1 := flat_take_le ls (k + 1)
      rw [flat_take ls k hlt, List.length_append] at h1
      have h2 : (flat (ls.take k)).length + ls[k].length ≤ 140737488355328 := by omega
      clear hx h1
      go_wp2
      go_round
      case rel => exact ⟨k + 1, by omega, by go_num, by rw [flat_take ls k hlt, List.length_append]; go_num⟩
      case measure => simp [intOf]; omega
    · have e : ls.take k = ls := List.take_of_length_le (by omega)
      rw [e]
      clear e
      go_wp2_with (at_make; refine wpList_make_own _ rfl _ _ 27 rfl w.heap.size 5 i0 (.int .u8 0) 1 Try.underlying27 hi hz0 hz1 .i64 .i64 _ (flat ls).length rfl rfl rfl (by rw [hz2]; omega) (by unfold maxLen; omega) (Nat.le_refl _) ?_; intro w1 hown hg1)
      have hb1 := below_of_grown hg1
      go_loopw [6, 24] (fun bv' i wr => ∃ k : Nat, k ≤ ls.length ∧ i = .int .i64 k ∧ wr.ownsRow w.heap.size 5 1 bv' (flat (ls.take k)).length ((flat (ls.take k)).map bv) ∧ Below w.heap.size w wr) (fun _ i _ => ls.length - (intOf i).toNat)
      case atStart => exact ⟨0, by omega, rfl, hown, hb1⟩
      case round =>
        obtain ⟨k, hk, rfl, how, hbl⟩ := hrel
        by_cases hlt : k < ls.length
        · have h' := h.below' hbl
          obtain ⟨b, o, rfl, sb, hb, hx⟩ := h'.at_ (by omega)
          obtain ⟨A', c', kc, hy⟩ := hx k ls[k] (List.getElem?_eq_getElem hlt)
          have h1 := flat_take_le ls (k + 1)
          have h3 := flat_take ls k hlt
          rw [h3, List.length_append] at h1
          have H3 := Lib.hid h3
          have h2 : (flat (ls.take k)).length + ls[k].length ≤ 140737488355328 := by omega
          clear hx h1 h3
          go_wp2_with (at_builtin; refine wpList_grow _ rfl _ _ _ rfl w.heap.size 5 i0 Try.underlying27 hi hz0 hz1 hz2 _ _ rfl how S _ _ rfl hy h2 hbl.size ?_; intro v2 w2 how2 hg2 _)
          go_roundw
          case rel =>
            refine ⟨k + 1, by omega, by go_num, ?_, hbl.grown hg2 hbl.size fun g hg => (how.lt g hg).1⟩
            rw [H3.out]
            exact how2
          case measure => simp [intOf]; omega
        · have e : ls.take k = ls := List.take_of_length_le (by omega)
          rw [e] at how
          clear e
          go_wp2
          go_ret
          exact ⟨_, rfl, how, hbl⟩

theorem text_any (S : Nat → Prop) (v : Value) (l : List UInt8) (w : World) (h : BS w S v l) (hl : l.length ≤ 140737488000000) :
    Calls Try.prog 21 #[v] w fun e w' => Fresh w e w' (texb l) := by
  obtain ⟨A, c, rfl, _⟩ := h.form
  have h8 := dig_length_le 8 l.length
  go_enter Try.func21, Try.ntmps21
  go_wp2_with fail
  refine (num_any l.length _ (by omega)).mono ?_
  rintro e w1 ⟨v1, rfl, hown, hb⟩
  obtain ⟨A1, c1, rfl, _⟩ := (own_BS hown).form
  have hl2 : LS (w1.alloc (.cells #[.slice A1 (numb l.length).length c1, .slice A l.length c] 27)) (fun b => True ∨ b = w1.heap.size) (.slice (some ⟨w1.heap.size, 0, none⟩) 2 2) [numb l.length, l] :=
    LS.two ((own_BS hown).mono fun _ _ => trivial) ((h.below' hb).mono fun _ _ => trivial)
  have hs := hb.size
  go_wp2_with fail
  refine (all_any _ _ _ _ hl2 (by simp [flat, numb]; omega)).mono ?_
  rintro e w2 ⟨v2, rfl, hown2, hb2⟩
  go_wp2
  go_ret
  have hs2 : w.heap.size ≤ (w1.alloc (.cells #[.slice A1 (numb l.length).length c1, .slice A l.length c] 27)).heap.size := by simp; omega
  refine ⟨_, rfl, ?_, (hb.alloc hs _).trans (hb2.mono hs2)⟩
  have := own_base hown2 hs2
  simpa [flat, texb] using this

end Go.Proofs.Ytgahnjhibpcbaaa
