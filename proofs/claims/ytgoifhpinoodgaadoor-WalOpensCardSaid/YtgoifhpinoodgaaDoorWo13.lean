/-
  ShaN: SHA-256 as plain mathematics, texts: blocks one behind the other, what ends a text, the sum's bytes. No condition; nothing of the dump is used here.
  ShaE: What ends a text, and a new Hash: ending and New: each one's contract over the loaded program. No condition but the worlds' shapes that each contract names.
-/
import Derived.Test.YtgoifhpinoodgaaDoorShaM
import Derived.Test.YtgoifhpinoodgaaDoorWo00
import Derived.Laws.CopyOwn
import Derived.KernelRfl
import Derived.Test.YtgoifhpinoodgaaDoorWo04
import Derived.Deep.OwnRows

section
namespace Go.Proofs.YtgoifhpinoodgaaDoor
open Go.RowKit
set_option linter.unusedVariables false

theorem getD_take (l : List UInt8) (n i : Nat) (h : i < n) : (l.take n).getD i 0 = l.getD i 0 := by
  rw [List.getD_eq_getElem?_getD, List.getD_eq_getElem?_getD, List.getElem?_take, if_pos h]

theorem nextW_congr (l m : List UInt8) (h : l.take 64 = m.take 64) (ws : List Nat) : nextW l ws = nextW m ws := by
  unfold nextW
  split
  · have e : ∀ i, i < 64 → l.getD i 0 = m.getD i 0 := fun i hi => by rw [← getD_take l 64 i hi, h, getD_take m 64 i hi]
    rw [e _ (by omega), e _ (by omega), e _ (by omega), e _ (by omega)]
  · rfl
theorem wordsTo_congr (l m : List UInt8) (h : l.take 64 = m.take 64) (t : Nat) : wordsTo l t = wordsTo m t := by
  induction t with
  | zero => rfl
  | succ t ih => simp only [wordsTo, stepW, ih, nextW_congr l m h]
theorem block8_congr (s : S8) (l m : List UInt8) (h : l.take 64 = m.take 64) : block8 s l = block8 s m := by
  unfold block8; rw [wordsTo_congr l m h]

/-- The eight words behind the first p blocks of T. -/
def blocksN (s : S8) (T : List UInt8) : Nat → S8
  | 0 => s
  | p + 1 => block8 (blocksN s T p) (T.drop (64 * p))
theorem blocksN_ok {s : S8} (h : s.Ok) (T : List UInt8) (p : Nat) : (blocksN s T p).Ok := by
  cases p with
  | zero => exact h
  | succ p => exact block8_ok _ _
theorem blocksN_append (s : S8) (T b : List UInt8) (p : Nat) (h : 64 * p ≤ T.length) : blocksN s (T ++ b) p = blocksN s T p := by
  induction p with
  | zero => rfl
  | succ p ih =>
    simp only [blocksN]
    rw [ih (by omega)]
    apply block8_congr
    rw [List.drop_append_of_le_length (by omega), List.take_append_of_le_length (by simp; omega)]

/-- The eight words of no text. -/
def init8 : S8 := ⟨1779033703, 3144134277, 1013904242, 2773480762, 1359893119, 2600822924, 528734635, 1541459225⟩
theorem init8_ok : init8.Ok := ⟨by decide, by decide, by decide, by decide, by decide, by decide, by decide, by decide⟩

/-- What is laid over what lies there, n bytes from off on. -/
theorem splice_take {α : Type} (L : List α) (off : Nat) (cs : List α) (h : off + cs.length ≤ L.length) : (splice L off cs).take (off + cs.length) = L.take off ++ cs := by
  unfold splice
  rw [← List.append_assoc, List.take_append_of_le_length (by simp; omega), List.take_of_length_le (by simp; omega)]

/-- The cells of a Hash. -/
def hcells (s : S8) (x : List UInt8) (n : Nat) : List Value := s.vals ++ (x.map bv ++ [.int .u64 (n : Int), .bool true])
theorem hcells_length (s : S8) (x : List UInt8) (n : Nat) (h : x.length = 64) : (hcells s x n).length = 74 := by simp [hcells, S8.vals, h]
theorem hcells_size (s : S8) (x : List UInt8) (n : Nat) (h : x.length = 64) : (hcells s x n)[72]? = some (.int .u64 (n : Int)) := by
  unfold hcells
  rw [List.getElem?_append_right (by simp [S8.vals]), List.getElem?_append_right (by simp [S8.vals, h])]
  simp [S8.vals, h]
theorem hcells_made (s : S8) (x : List UInt8) (n : Nat) (h : x.length = 64) : (hcells s x n)[73]? = some (.bool true) := by
  unfold hcells
  rw [List.getElem?_append_right (by simp [S8.vals]), List.getElem?_append_right (by simp [S8.vals, h])]
  simp [S8.vals, h]
theorem hcells_word (s : S8) (x : List UInt8) (n i : Nat) (h : i < 8) : (hcells s x n)[i]? = s.vals[i]? := by
  unfold hcells
  rw [List.getElem?_append_left (by simp [S8.vals]; omega)]
theorem hcells_set (s : S8) (x : List UInt8) (n m : Nat) (h : x.length = 64) : (hcells s x n).set 72 (.int .u64 (m : Int)) = hcells s x m := by
  unfold hcells
  rw [List.set_append_right _ _ (by simp [S8.vals]), List.set_append_right _ _ (by simp [S8.vals, h])]
  simp [S8.vals, h]
theorem splice_mid' {α : Type} (a b c vs : List α) (h : vs.length = b.length) : splice (a ++ (b ++ c)) a.length vs = a ++ (vs ++ c) := by
  unfold splice
  rw [List.take_left, List.drop_append, List.drop_of_length_le (by omega), List.nil_append, Nat.add_sub_cancel_left, h, List.drop_left]
theorem splice_words (s t : S8) (x : List UInt8) (n : Nat) : splice (hcells s x n) 0 t.vals = hcells t x n := by
  have := splice_mid' [] s.vals (x.map bv ++ [.int .u64 (n : Int), .bool true]) t.vals rfl
  simpa [hcells] using this
theorem splice_tail (s : S8) (x y : List UInt8) (n off : Nat) (h : off + y.length ≤ x.length) : splice (hcells s x n) (8 + off) (y.map bv) = hcells s (splice x off y) n := by
  unfold hcells splice
  simp only [List.length_map]
  have e8 : s.vals.length = 8 := rfl
  have t1 : List.take (8 + off) (s.vals ++ (x.map bv ++ [.int .u64 (n : Int), .bool true])) = s.vals ++ (x.take off).map bv := by
    rw [List.take_append, List.take_of_length_le (by omega), e8, Nat.add_sub_cancel_left, List.take_append_of_le_length (by simp; omega), List.map_take]
  have t2 : List.drop (8 + off + y.length) (s.vals ++ (x.map bv ++ [.int .u64 (n : Int), .bool true])) = (x.drop (off + y.length)).map bv ++ [.int .u64 (n : Int), .bool true] := by
    rw [List.drop_append, List.drop_of_length_le (by omega), e8, List.nil_append, show 8 + off + y.length - 8 = off + y.length from by omega, List.drop_append_of_le_length (by simp; omega), List.map_drop]
  rw [t1, t2]
  simp

/-- What ends a text of n bytes. -/
def zerosN (n : Nat) : Nat := (119 - n % 64) % 64
def endB (n : Nat) : List UInt8 := 128 :: (List.replicate (zerosN n) 0 ++ [byteAt (n * 8) 56, byteAt (n * 8) 48, byteAt (n * 8) 40, byteAt (n * 8) 32, byteAt (n * 8) 24, byteAt (n * 8) 16, byteAt (n * 8) 8, byteAt (n * 8) 0])
theorem endB_length (n : Nat) : (endB n).length = zerosN n + 9 := by simp [endB]
theorem zerosN_lt (n : Nat) : zerosN n < 64 := Nat.mod_lt _ (by decide)
theorem end_whole (n : Nat) : (n + (zerosN n + 9)) % 64 = 0 := by unfold zerosN; omega
theorem putW_mid (a c : List UInt8) (x0 x1 x2 x3 : UInt8) (i v : Nat) (hi : i = a.length) : putW (a ++ x0 :: x1 :: x2 :: x3 :: c) i v = a ++ byteAt v 24 :: byteAt v 16 :: byteAt v 8 :: byteAt v 0 :: c := by
  subst hi
  unfold putW
  rw [List.set_append_right _ _ (Nat.le_refl _), List.set_append_right _ _ (by omega), List.set_append_right _ _ (by omega), List.set_append_right _ _ (by omega)]
  simp
theorem byteAt_hi (n k : Nat) : byteAt (n / 4294967296) k = byteAt n (k + 32) := by
  unfold byteAt
  rw [Nat.div_div_eq_div_mul, Nat.pow_add, Nat.mul_comm]
theorem byteAt_lo (n k : Nat) (h : k ≤ 24) : byteAt (n % 4294967296) k = byteAt n k := by
  unfold byteAt
  congr 1
  obtain ⟨j, hj⟩ : ∃ j, 24 = k + j := ⟨24 - k, by omega⟩
  have e : (4294967296 : Nat) = 2 ^ k * (2 ^ j * 256) := by
    rw [← Nat.mul_assoc, ← Nat.pow_add, ← hj]
  rw [e, Nat.mod_mul_right_div_self, Nat.mod_mul_left_mod]
theorem end_put (n z : Nat) (h : z = zerosN n) : putW (putW ((List.replicate (z + 9) (0 : UInt8)).set 0 128) (1 + z) (n * 8 / 4294967296)) (1 + z + 4) (n * 8 % 4294967296) = endB n := by
  have e : (List.replicate (z + 9) (0 : UInt8)).set 0 128 = (128 :: List.replicate z 0) ++ 0 :: 0 :: 0 :: 0 :: [0, 0, 0, 0] := by
    have e8 : List.replicate (z + 8) (0 : UInt8) = List.replicate z 0 ++ [0, 0, 0, 0, 0, 0, 0, 0] := (List.replicate_append_replicate (n := z) (m := 8) (a := (0 : UInt8))).symm
    rw [List.replicate_succ, List.set_cons_zero, e8]; rfl
  rw [e, putW_mid _ _ _ _ _ _ _ _ (by simp; omega)]
  have e2 : (128 :: List.replicate z (0 : UInt8)) ++ byteAt (n * 8 / 4294967296) 24 :: byteAt (n * 8 / 4294967296) 16 :: byteAt (n * 8 / 4294967296) 8 :: byteAt (n * 8 / 4294967296) 0 :: [0, 0, 0, 0] =
    ((128 :: List.replicate z (0 : UInt8)) ++ [byteAt (n * 8 / 4294967296) 24, byteAt (n * 8 / 4294967296) 16, byteAt (n * 8 / 4294967296) 8, byteAt (n * 8 / 4294967296) 0]) ++ 0 :: 0 :: 0 :: 0 :: [] := by simp
  rw [e2, putW_mid _ _ _ _ _ _ _ _ (by simp; omega)]
  unfold endB
  rw [← h]
  simp only [byteAt_hi, byteAt_lo _ 24 (by omega), byteAt_lo _ 16 (by omega), byteAt_lo _ 8 (by omega), byteAt_lo _ 0 (by omega)]
  simp
def padB (T : List UInt8) : List UInt8 := T ++ endB T.length
theorem padB_whole (T : List UInt8) : (padB T).length % 64 = 0 := by
  unfold padB
  rw [List.length_append, endB_length]
  exact end_whole _

/-- The sum's bytes. -/
def digB (s : S8) : List UInt8 := [byteAt s.a 24, byteAt s.a 16, byteAt s.a 8, byteAt s.a 0, byteAt s.b 24, byteAt s.b 16, byteAt s.b 8, byteAt s.b 0,
  byteAt s.c 24, byteAt s.c 16, byteAt s.c 8, byteAt s.c 0, byteAt s.d 24, byteAt s.d 16, byteAt s.d 8, byteAt s.d 0,
  byteAt s.e 24, byteAt s.e 16, byteAt s.e 8, byteAt s.e 0, byteAt s.f 24, byteAt s.f 16, byteAt s.f 8, byteAt s.f 0,
  byteAt s.g 24, byteAt s.g 16, byteAt s.g 8, byteAt s.g 0, byteAt s.h 24, byteAt s.h 16, byteAt s.h 8, byteAt s.h 0]
def wordOf (s : S8) : Nat → Nat
  | 0 => s.a
  | 1 => s.b
  | 2 => s.c
  | 3 => s.d
  | 4 => s.e
  | 5 => s.f
  | 6 => s.g
  | _ => s.h
theorem vals_get (s : S8) (k : Nat) (h : k < 8) : s.vals[k]? = some (wv (wordOf s k)) := by
  match k, h with
  | 0, _ => rfl
  | 1, _ => rfl
  | 2, _ => rfl
  | 3, _ => rfl
  | 4, _ => rfl
  | 5, _ => rfl
  | 6, _ => rfl
  | 7, _ => rfl
/-- 32 bytes, over which the first k words were laid. -/
def putTo (s : S8) : Nat → List UInt8
  | 0 => List.replicate 32 0
  | k + 1 => putW (putTo s k) (4 * k) (wordOf s k)
theorem putTo_length (s : S8) (k : Nat) : (putTo s k).length = 32 := by
  induction k with
  | zero => rfl
  | succ k ih => simp only [putTo, putW_length, ih]
theorem putTo_all (s : S8) : putTo s 8 = digB s := by kernel_rfl

/-- The sum of a text. -/
def sumB (T : List UInt8) : List UInt8 := digB (blocksN init8 (padB T) ((padB T).length / 64))
theorem sumB_length (T : List UInt8) : (sumB T).length = 32 := rfl

/-- Texts one behind the other. -/
def catB (ls : List (List UInt8)) : List UInt8 := ls.flatten
theorem catB_take_succ (ls : List (List UInt8)) (k : Nat) (h : k < ls.length) : catB (ls.take (k + 1)) = catB (ls.take k) ++ ls[k] := by
  unfold catB
  rw [List.take_succ_eq_append_getElem h, List.flatten_append]
  simp only [List.flatten_cons, List.flatten_nil, List.append_nil]
theorem catB_take_le (ls : List (List UInt8)) (k : Nat) : (catB (ls.take k)).length ≤ (catB ls).length := by
  unfold catB
  have e : ls.flatten = (ls.take k).flatten ++ (ls.drop k).flatten := by rw [← List.flatten_append, List.take_append_drop]
  rw [e, List.length_append]
  omega
theorem catB_get_le (ls : List (List UInt8)) (k : Nat) (h : k < ls.length) : (catB (ls.take k)).length + ls[k].length ≤ (catB ls).length := by
  have := catB_take_le ls (k + 1)
  rw [catB_take_succ ls k h, List.length_append] at this
  exact this

/-- A digit of 16. -/
def hexD (n : Nat) : UInt8 := if n < 10 then UInt8.ofNat (48 + n) else UInt8.ofNat (87 + n)
/-- The digits of bytes. -/
def hexL (l : List UInt8) : List UInt8 := l.flatMap fun b => [hexD (b.toNat / 16), hexD (b.toNat % 16)]
theorem hexL_snoc (l : List UInt8) (b : UInt8) : hexL (l ++ [b]) = hexL l ++ [hexD (b.toNat / 16), hexD (b.toNat % 16)] := by simp [hexL]
theorem hexL_length (l : List UInt8) : (hexL l).length = 2 * l.length := by
  induction l with
  | nil => rfl
  | cons a t ih => simp only [hexL, List.flatMap_cons, List.length_append, List.length_cons, List.length_nil] at ih ⊢; omega
/-- 64 letters, of which the digits of the first k bytes of l are written. -/
def hexT (l : List UInt8) (k : Nat) : List UInt8 := hexL (l.take k) ++ List.replicate (64 - 2 * k) 0
theorem hexT_zero (l : List UInt8) : hexT l 0 = List.replicate 64 0 := by simp [hexT, hexL]
theorem hexT_all (l : List UInt8) (h : l.length = 32) : hexT l 32 = hexL l := by simp [hexT, List.take_of_length_le (show l.length ≤ 32 by omega)]
theorem hexT_length (l : List UInt8) (k : Nat) (hk : k ≤ 32) (h : l.length = 32) : (hexT l k).length = 64 := by
  simp [hexT, hexL_length, h]; omega
theorem hexT_set (l : List UInt8) (k : Nat) (h : l.length = 32) (hk : k < l.length) :
    ((hexT l k).set (2 * k) (hexD (l[k].toNat / 16))).set (2 * k + 1) (hexD (l[k].toNat % 16)) = hexT l (k + 1) := by
  unfold hexT
  have e : 64 - 2 * k = 64 - 2 * (k + 1) + 1 + 1 := by omega
  have e2 : (hexL (l.take k)).length = 2 * k := by rw [hexL_length, List.length_take]; omega
  rw [List.set_append_right _ _ (by omega), List.set_append_right _ _ (by omega), e2, e, List.replicate_succ, List.replicate_succ, List.take_succ_eq_append_getElem hk, hexL_snoc]
  simp
/-- The eight bytes that end a text. -/
def be8 (n : Nat) : List UInt8 := [byteAt n 56, byteAt n 48, byteAt n 40, byteAt n 32, byteAt n 24, byteAt n 16, byteAt n 8, byteAt n 0]
theorem padB_eq (T : List UInt8) : padB T = (T ++ [128]) ++ List.replicate (zerosN T.length) 0 ++ be8 (T.length * 8) := by
  unfold padB endB be8
  simp
theorem zeros_more (n j : Nat) (h : j < zerosN n) : (n + 1 + j) % 64 ≠ 56 := by unfold zerosN at h; omega
theorem zeros_done (n : Nat) : (n + 1 + zerosN n) % 64 = 56 := by unfold zerosN; omega

theorem digB_get (s : S8) : (k : Nat) → k < 32 → (digB s)[k]? = some (byteAt (wordOf s (k / 4)) (8 * (3 - k % 4)))
  | 0, _ => rfl
  | 1, _ => rfl
  | 2, _ => rfl
  | 3, _ => rfl
  | 4, _ => rfl
  | 5, _ => rfl
  | 6, _ => rfl
  | 7, _ => rfl
  | 8, _ => rfl
  | 9, _ => rfl
  | 10, _ => rfl
  | 11, _ => rfl
  | 12, _ => rfl
  | 13, _ => rfl
  | 14, _ => rfl
  | 15, _ => rfl
  | 16, _ => rfl
  | 17, _ => rfl
  | 18, _ => rfl
  | 19, _ => rfl
  | 20, _ => rfl
  | 21, _ => rfl
  | 22, _ => rfl
  | 23, _ => rfl
  | 24, _ => rfl
  | 25, _ => rfl
  | 26, _ => rfl
  | 27, _ => rfl
  | 28, _ => rfl
  | 29, _ => rfl
  | 30, _ => rfl
  | 31, _ => rfl
  | k + 32, h => absurd h (by omega)
/-- 32 bytes, of which the first k are the sum's. -/
def outTo (s : S8) (k : Nat) : List UInt8 := (digB s).take k ++ List.replicate (32 - k) 0
theorem outTo_zero (s : S8) : outTo s 0 = List.replicate 32 0 := rfl
theorem digB_length (s : S8) : (digB s).length = 32 := rfl
theorem outTo_all (s : S8) : outTo s 32 = digB s := by
  unfold outTo
  rw [List.take_of_length_le (by rw [digB_length]; omega)]
  simp
theorem outTo_length (s : S8) (k : Nat) (h : k ≤ 32) : (outTo s k).length = 32 := by
  unfold outTo
  rw [List.length_append, List.length_take, digB_length, List.length_replicate]
  omega
theorem outTo_set (s : S8) (k : Nat) (h : k < 32) : (outTo s k).set k (byteAt (wordOf s (k / 4)) (8 * (3 - k % 4))) = outTo s (k + 1) := by
  unfold outTo
  have e : 32 - k = 32 - (k + 1) + 1 := by omega
  have e2 : ((digB s).take k).length = k := by rw [List.length_take, digB_length]; omega
  have e3 := digB_get s k h
  rw [List.set_append_right _ _ (by omega), e2, e, List.replicate_succ, List.take_add_one, e3]
  simp
end Go.Proofs.YtgoifhpinoodgaaDoor
end

section
namespace Go.Proofs.YtgoifhpinoodgaaDoor
open Go.RowKit
set_option maxRecDepth 100000
set_option linter.unusedVariables false

theorem made_bytes (n : Nat) : madeCells #[.int .u8 0] n = ((List.replicate n (0 : UInt8)).map bv).toArray := by
  apply Array.ext
  · simp [madeCells]
  · intro i h1 h2
    simp [madeCells, bv, Nat.mod_one]

theorem ending_any (n : Nat) (hn : n < 1152921504606846976) (w : World) :
    Calls Tryd.prog 95 #[.int .u64 n] w fun e w' => ∃ g, e = .returned (.slice (some ⟨g, 0, none⟩) (endB n).length (endB n).length) ∧ w.heap.size ≤ g ∧ KB w' g 5 ((endB n).map bv).toArray ∧ Below w.heap.size w w' := by
  go_enter Tryd.func95, Tryd.ntmps95
  go_wp2_with fail
  have e1 : (119 - (n : Int) % 64) % 64 = ((zerosN n : Nat) : Int) := by unfold zerosN; omega
  have e2 : (119 - (n : Int)) % 64 = ((zerosN n : Nat) : Int) := by unfold zerosN; omega
  have e3 : 1 + (((zerosN n : Nat) : Int)) + 8 = (((zerosN n + 9 : Nat)) : Int) := by omega
  rw [e1, e2, e3]
  have hz := zerosN_lt n
  have HE : Hid (endB n = endB n) := rfl
  obtain ⟨z, hzz⟩ : ∃ z, z = zerosN n := ⟨_, rfl⟩
  rw [← hzz] at hz ⊢
  have HZ := Lib.hid hzz
  clear e1 e2 e3 hzz HE
  rw [run_make_row' 34 5 (.int .u8 0) 1 Tryd.underlying34 (by kernel_rfl) rfl .i64 .i64 (z + 9) (by omega) (by omega)]
  rw [made_bytes]
  have k1 : KB (w.alloc (.cells ((List.replicate (z + 9) (0 : UInt8)).map bv).toArray 5)) w.heap.size 5 ((List.replicate (z + 9) (0 : UInt8)).map bv).toArray := KB.new _ _ _
  have b1 : Below w.heap.size w (w.alloc (.cells ((List.replicate (z + 9) (0 : UInt8)).map bv).toArray 5)) := (Below.refl _ _).alloc (Nat.le_refl _) _
  generalize w.alloc (.cells ((List.replicate (z + 9) (0 : UInt8)).map bv).toArray 5) = W1 at *
  have c0 : W1.cell? ⟨w.heap.size, 0, none⟩ = some (.int .u8 0) := by
    have := k1.byte (j := 0) (by simp)
    simpa [bv] using this
  have f0 := k1.free 0
  have h1 : (1 : Int) + z ≤ ((z + 9 : Nat) : Int) := by omega
  have h2 : ¬ z + 9 = 1 + z := by omega
  have h3 : z + 9 - (1 + z) = 8 := by omega
  have k2 := k1.set 0 128
  have b2 : Below w.heap.size w (W1.setCell ⟨w.heap.size, 0, none⟩ (bv 128)) := b1.trans (below_of_grown' (grown_set W1 w.heap.size 0 (bv 128)) (Nat.le_refl _) b1.size)
  go_wp2_with fail
  rw [h3, show (n : Int) * 8 / 4294967296 = ((n * 8 / 4294967296 : Nat) : Int) from by omega]
  refine (putWord_any w.heap.size 5 _ (1 + z) 8 8 (n * 8 / 4294967296) (by omega) (by simp; omega) _ k2).mono ?_
  rintro e W2 ⟨rfl, k3, g3⟩
  clear c0 f0 k1 k2
  go_wp2_with fail
  rw [show (n : Int) * 8 % 4294967296 = ((n * 8 % 4294967296 : Nat) : Int) from by omega]
  refine (putWord_any w.heap.size 5 _ (1 + z + 4) 4 4 (n * 8 % 4294967296) (by omega) (by rw [putW_length]; simp; omega) _ k3).mono ?_
  rintro e W3 ⟨rfl, k4, g4⟩
  rw [end_put n z HZ.out] at k4
  have B3 := (b2.trans (below_of_grown' g3 (Nat.le_refl _) b2.size))
  have B4 := B3.trans (below_of_grown' g4 (Nat.le_refl _) B3.size)
  have HL : Hid ((endB n).length = z + 9) := by show _ = _; rw [endB_length, HZ.out]
  go_wp2
  go_ret
  rw [HL.out]
  exact ⟨w.heap.size, rfl, Nat.le_refl _, k4, B4⟩
end Go.Proofs.YtgoifhpinoodgaaDoor
end
