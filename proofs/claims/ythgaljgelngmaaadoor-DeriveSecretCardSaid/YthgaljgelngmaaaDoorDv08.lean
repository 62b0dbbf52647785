/-
  TlvB: The reader of tlv: Num, Int, Count, Text: each one's contract over the loaded program. No condition but the worlds' shapes that each contract names.
  TlvC: bits.Len64 and the writers of tlv: Num, Int, All, Text: each one's contract over the loaded program. No condition but the worlds' shapes that each contract names, and lengths that a process can hold.
  Copy: The document's Copy (layer 1), over the loaded program: its contract. No condition but the sizes that it names.
  RefA: The document's own answers of layer 1: Num, Int, Text, Value and the Reader's methods: each one's contract over the loaded program. No condition but the worlds' shapes that each contract names.
  RefB: The document's own Reader of layer 1: Value, and the methods Take, Num, Count, Text, Left: each one's contract over the loaded program. No condition but the worlds' shapes that each contract names.
  TermJ: The document's reading of a term, over the loaded program: its contract. No condition but the sizes that it names.
  TpA: The program's table of kinds, and what it tells of a kind: its contract over the loaded program. No condition but that the table lies as the row says.
-/
import Derived.Test.YthgaljgelngmaaaDoorDv07
import Derived.Test.YthgaljgelngmaaaDoorDv01
import Derived.Lib.BitFns
import Derived.Lib.Walk
import Derived.Test.YthgaljgelngmaaaDoorDv05
import Derived.WalkSpells
import Derived.BigQuiet
import Derived.Deep.QuietTactic

section
namespace Go.Proofs.YthgaljgelngmaaaDoor
open Go.RowKit
theorem shl_or (a : Nat) (b : UInt8) : (a * 256) ||| b.toNat = a * 256 + b.toNat := by
  have := b.toNat_lt
  rw [show a * 256 = a <<< 8 from by rw [Nat.shiftLeft_eq], ← Nat.shiftLeft_add_eq_or_of_lt (by omega)]

theorem or_step (a : Nat) (b : UInt8) (h : a < 72057594037927936) : bits .or .u64 (IntKind.u64.wrap ((a : Int) * 256)) (IntKind.u64.wrap (b.toNat : Int)) = ((a * 256 + b.toNat : Nat) : Int) := by
  have hb := b.toNat_lt
  rw [IntWalk.u64_in _ (by omega), IntWalk.u64_in _ (by omega), show (a : Int) * 256 = ((a * 256 : Nat) : Int) from by omega, u64_or_nat _ _ (by omega) (by omega), shl_or]

theorem numOf_len (st : Option (List UInt8)) : ((numOf st).1.getD []).length ≤ (st.getD []).length := by
  unfold numOf
  split
  · split <;> simp
    omega
  · simp

theorem cntOf_len (most : Int) (st : Option (List UInt8)) : ((cntOf most st).1.getD []).length ≤ (st.getD []).length := by
  unfold cntOf
  split
  · simp
  · exact numOf_len st

end Go.Proofs.YthgaljgelngmaaaDoor
end

section
namespace Go.Proofs.YthgaljgelngmaaaDoor
open Go.RowKit

theorem bl (s : Nat) (y x : Int) (h0 : 0 ≤ y) (h1 : y ≤ 255) (hy : y.toNat = x.toNat / 2 ^ s) (hs : s = 0 ∨ 2 ^ s ≤ x.toNat) (hx : x.toNat < 18446744073709551616) (h56 : s ≤ 56) :
    wrap64 ((s : Int) + wrap64 (Lib.len8 y)) = (Lib.bitLen x.toNat : Int) := by
  have hl := Lib.bitLen_le8' y h0 h1
  have e1 : wrap64 (Lib.bitLen y.toNat : Int) = Lib.bitLen y.toNat := IntWalk.wrap64_in _ (by omega)
  rw [Lib.len8_of y h0 h1, e1, IntWalk.wrap64_in _ (by omega)]
  rcases hs with rfl | hs
  · rw [hy]; simp
  · rw [Lib.bitLen_shift s x.toNat hs (by simpa using hx), ← hy]
    simp

theorem bitLen_pos (n : Nat) (h : n ≠ 0) (hn : n < 18446744073709551616) : 1 ≤ Lib.bitLen n := by
  rw [Lib.bitLen_half n h hn]
  omega

theorem size_dig (f n : Nat) (h : n < 256 ^ f) (hn : n < 18446744073709551616) : (Lib.bitLen n + 7) / 8 = (dig f n).length := by
  induction f generalizing n with
  | zero => simp at h; subst h; rfl
  | succ f ih =>
    by_cases h0 : n = 0
    · subst h0; have h5 : Lib.bitLen 0 = 0 := rfl; simp [dig, h5]
    · simp only [dig, if_neg h0, List.length_append, List.length_cons, List.length_nil]
      have hi := ih (n / 256) (by rw [Nat.pow_succ] at h; omega) (by omega)
      by_cases h1 : 256 ≤ n
      · have := Lib.bitLen_shift8 n h1 hn
        omega
      · have h2 := bitLen_pos n h0 hn
        have h3 := Lib.bitLen_le n 8 (by omega) (by omega)
        have h4 : n / 256 = 0 := by omega
        rw [h4] at hi ⊢
        have h5 : Lib.bitLen 0 = 0 := rfl
        rw [h5] at hi
        omega

theorem size_eight (n : Nat) (hn : n < 18446744073709551616) : (Lib.bitLen n + 7) / 8 = (dig 8 n).length := size_dig 8 n (by simpa using hn) hn

theorem bitLen_le64 (n : Nat) (hn : n < 18446744073709551616) : Lib.bitLen n ≤ 64 := Lib.bitLen_le n 64 (by omega) (by simpa using hn)

theorem zeros_made (n : Nat) : (madeCells (Value.int .u8 0).cells (n * 1)).toList = (List.replicate n (0 : UInt8)).map bv := by
  rw [Nat.mul_one]
  show (madeCells #[Value.int .u8 0] n).toList = _
  rw [toList_madeCells_one, List.map_replicate]
  rfl

theorem set_last_zero (a b : UInt8) (i : Nat) (t : List UInt8) : (a :: (List.replicate (i + 1) 0 ++ t)).set (i + 1) b = a :: (List.replicate i 0 ++ b :: t) := by
  simp only [List.set_cons_succ, List.cons.injEq, true_and]
  induction i with
  | zero => rfl
  | succ i ih => rw [List.replicate_succ, List.cons_append, List.set_cons_succ, ih, List.replicate_succ, List.cons_append]

theorem byte_wrap (m : Nat) : Value.int .u8 (IntKind.u8.wrap (m : Int)) = bv (UInt8.ofNat (m % 256)) := by
  unfold bv
  rw [IntKind.wrap_u8]
  have : (UInt8.ofNat (m % 256)).toNat = m % 256 := by simp
  rw [this]
  congr 1

theorem set_head (L : Nat) (h : L ≤ 8) : ((List.replicate (1 + L) (0 : UInt8)).map bv).set 0 (.int .u8 (L : Int)) = (UInt8.ofNat L :: (List.replicate L 0 ++ [])).map bv := by
  have : (UInt8.ofNat L).toNat = L := by simp; omega
  rw [Nat.add_comm, List.replicate_succ, List.map_cons, List.set_cons_zero, List.append_nil, List.map_cons]
  unfold bv
  rw [this]

theorem set_digit (a : UInt8) (i m : Nat) (t : List UInt8) : ((a :: (List.replicate (i + 1) 0 ++ t)).map bv).set (i + 1) (.int .u8 (IntKind.u8.wrap (m : Int))) = (a :: (List.replicate i 0 ++ UInt8.ofNat (m % 256) :: t)).map bv := by
  rw [byte_wrap, ← List.map_set, set_last_zero]

/-- An int's 64 bits as a number. -/
def u64 (i : Int) : Nat := (i % 18446744073709551616).toNat
theorem u64_lt (i : Int) : u64 i < 18446744073709551616 := by unfold u64; omega
theorem u64_wrap (i : Int) : IntKind.u64.wrap i = ((u64 i : Nat) : Int) := by
  unfold u64
  rw [IntKind.wrap_u64]
  omega

/-- All of a list's texts, one behind the other. -/
def flat (ls : List (List UInt8)) : List UInt8 := ls.flatten

theorem flat_take (ls : List (List UInt8)) (k : Nat) (h : k < ls.length) : flat (ls.take (k + 1)) = flat (ls.take k) ++ ls[k] := by
  unfold flat
  rw [List.take_succ_eq_append_getElem h, List.flatten_append]; simp

theorem flat_take_le (ls : List (List UInt8)) (k : Nat) : (flat (ls.take k)).length ≤ (flat ls).length := by
  have : flat ls = flat (ls.take k) ++ flat (ls.drop k) := by unfold flat; rw [← List.flatten_append, List.take_append_drop]
  rw [this]; simp

end Go.Proofs.YthgaljgelngmaaaDoor
end

section
namespace Go.Proofs.YthgaljgelngmaaaDoor
open Go.RowKit
set_option linter.unusedVariables false
end Go.Proofs.YthgaljgelngmaaaDoor
end

section
namespace Go.Proofs.YthgaljgelngmaaaDoor
open Go.RowKit
end Go.Proofs.YthgaljgelngmaaaDoor
end

section
namespace Go.Proofs.YthgaljgelngmaaaDoor
open Go.RowKit
theorem u64_sum (a b : Nat) (h : a < 72057594037927936) (hb : b < 256) : IntKind.u64.wrap (IntKind.u64.wrap ((a : Int) * 256) + IntKind.u64.wrap (b : Int)) = ((a * 256 + b : Nat) : Int) := by
  rw [IntWalk.u64_in ((a : Int) * 256) (by omega), IntWalk.u64_in (b : Int) (by omega), IntWalk.u64_in _ (by omega)]
  omega

end Go.Proofs.YthgaljgelngmaaaDoor
end

section
namespace Go.Proofs.YthgaljgelngmaaaDoor
open Go.RowKit
set_option linter.unusedVariables false

theorem put_four {w : World} {g : Nat} {t : TypeId} {a b c d x y z u : Value} (h : KB w g t #[a, b, c, d]) : KB ((((w.setCell ⟨g, 0, none⟩ x).setCell ⟨g, 1, none⟩ y).setCell ⟨g, 2, none⟩ z).setCell ⟨g, 3, none⟩ u) g t #[x, y, z, u] :=
  (((h.put 0 x).put 1 y).put 2 z).put 3 u
theorem grown_four (w : World) (g : Nat) (x y z u : Value) : w.grownBy ((((w.setCell ⟨g, 0, none⟩ x).setCell ⟨g, 1, none⟩ y).setCell ⟨g, 2, none⟩ z).setCell ⟨g, 3, none⟩ u) (some g) :=
  grown_trans (grown_trans (grown_trans (grown_set _ _ _ _) (grown_set _ _ _ _)) (grown_set _ _ _ _)) (grown_set _ _ _ _)

theorem KB.far {w : World} {g h i : Nat} {t : TypeId} {cs : Array Value} {v : Value} (k : KB w g t cs) (hne : h ≠ g) : KB (w.setCell ⟨h, i, none⟩ v) g t cs :=
  k.keep (Below.heap_setCell w ⟨h, i, none⟩ v g hne.symm)

theorem zero_TV (w : World) (S : Nat → Prop) (f : Nat) : TV w S (f + 1) (.agg #[.int .i64 0, .int .u64 0, .slice none 0 0, .slice none 0 0]) (zeroN : Nd (Tm f)) :=
  ⟨_, _, _, _, rfl, rfl, by unfold I64; simp [zeroN], rfl, by simp [zeroN], BS.nil _ _, ⟨none, 0, rfl, by simp [zeroN], by simp [maxLen], fun _ => rfl, fun h => absurd h (by simp [zeroN])⟩⟩

theorem grown_new {a b c : World} {row : Option Nat} {h : Nat} (p : a.grownBy b row) (q : b.grownBy c (some h)) (hh : a.heap.size ≤ h) : a.grownBy c row :=
  ⟨q.os.trans p.os, q.tape.trans p.tape, q.output.trans p.output, Nat.le_trans p.size q.size, fun k hk hr => (q.block k (Nat.lt_of_lt_of_le hk p.size) (by simp; omega)).trans (p.block k hk hr)⟩

end Go.Proofs.YthgaljgelngmaaaDoor
end

section
namespace Go.Proofs.YthgaljgelngmaaaDoor
open Go.RowKit
set_option linter.unusedVariables false

/-- How many kids a kind has; 0, where there is no such kind. -/
def kidsP (k : Int) : Int := if kidsN k < 0 then 0 else kidsN k

/-- The three cells of a kind's shape. -/
def shp (k : Int) : Array Value := #[.bool (numK k), .bool (decide (k = 3)), .int .i64 (kidsP k)]

/-- The table of shapes lies in w. -/
def Shp (w : World) : Prop := 0 < w.heap.size ∧ ∀ k : Nat, k < 7 → w.cell? ⟨0, k * 3, none⟩ = some (.bool (numK k)) ∧
  w.cell? ⟨0, k * 3 + 1, none⟩ = some (.bool (decide ((k : Int) = 3))) ∧ w.cell? ⟨0, k * 3 + 2, none⟩ = some (.int .i64 (kidsP k))

section
variable {w w' : World}
theorem Shp.keep (h : Shp w) (hs : w.heap.size ≤ w'.heap.size) (hk : w'.heap[0]? = w.heap[0]?) : Shp w' := by
  refine ⟨by have := h.1; omega, fun k hk7 => ?_⟩
  have hc := fun (x : Nat) => World.cell?_of_block (w := w) (w' := w') (a := ⟨0, x, none⟩) hk
  obtain ⟨a, b, c⟩ := h.2 k hk7
  exact ⟨(hc _).trans a, (hc _).trans b, (hc _).trans c⟩
theorem Shp.below (h : Shp w) (hb : Below w.heap.size w w') : Shp w' := h.keep hb.size (hb.block _ h.1)
theorem Shp.below' {B : Nat} (h : Shp w) (hb : Below B w w') (h0 : 0 < B) : Shp w' := h.keep hb.size (hb.block _ h0)
theorem Shp.alloc (h : Shp w) (o : Obj) : Shp (w.alloc o) := h.below ((Below.refl _ _).alloc (Nat.le_refl _) o)
theorem Shp.grown {g : Nat} (h : Shp w) (hb : w.grownBy w' (some g)) (hg : 0 < g) : Shp w' := h.keep hb.size (hb.block _ h.1 (by simp; omega))
theorem Shp.grownO {row : Option Nat} (h : Shp w) (hb : w.grownBy w' row) (hg : row ≠ some 0) : Shp w' := h.keep hb.size (hb.block _ h.1 fun e => hg e.symm)
end

theorem put_three {w : World} {g : Nat} {t : TypeId} {a b c x y z : Value} (h : KB w g t #[a, b, c]) : KB (((w.setCell ⟨g, 0, none⟩ x).setCell ⟨g, 1, none⟩ y).setCell ⟨g, 2, none⟩ z) g t #[x, y, z] :=
  ((h.put 0 x).put 1 y).put 2 z

theorem below_three (w : World) (a b c x y z : Value) (t : TypeId) : Below w.heap.size w ((((w.alloc (.cells #[a, b, c] t)).setCell ⟨w.heap.size, 0, none⟩ x).setCell ⟨w.heap.size, 1, none⟩ y).setCell ⟨w.heap.size, 2, none⟩ z) :=
  ((((Below.refl _ _).alloc (Nat.le_refl _) _).setCell (Nat.le_refl _) _).setCell (Nat.le_refl _) _).setCell (Nat.le_refl _) _

set_option maxHeartbeats 400000 in
/-- What the table tells of a kind. -/
theorem shapeOf_any (k : Int) (w : World) (h : Shp w) :
    Calls Tryd.prog 53 #[.int .i64 k] w fun e w' => e = .returned (.agg (shp k)) ∧ Below w.heap.size w w' := by
  by_cases hk : k < 0 ∨ 7 ≤ k
  · have e : shp k = #[.bool false, .bool false, .int .i64 0] := by
      have h1 : numK k = false := by unfold numK; exact decide_eq_false (by omega)
      have h2 : decide (k = 3) = false := decide_eq_false (by omega)
      have h3 : kidsP k = 0 := by unfold kidsP; rw [show kidsN k = -1 by unfold kidsN; rw [if_neg (by omega), if_neg (by omega), if_neg (by omega)]]; rfl
      rw [shp, h1, h2, h3]
    rw [e]
    clear e h
    have K := KB.new w 72 #[.bool false, .bool false, .int .i64 0]
    rcases hk with hk | hk
    · go_enter Tryd.func53, Tryd.ntmps53
      go_wp2_with fail
      refine bodyPost_ret (results_cell_row (P := Tryd.prog) rfl _ _ w.heap.size _ _ (0, 0) _ rfl K Tryd.underlying72 rfl (by kernel_rfl)) rfl ⟨rfl, (Below.refl _ _).alloc (Nat.le_refl _) _⟩
    · go_enter Tryd.func53, Tryd.ntmps53
      go_wp2_with fail
      refine bodyPost_ret (results_cell_row (P := Tryd.prog) rfl _ _ w.heap.size _ _ (0, 0) _ rfl K Tryd.underlying72 rfl (by kernel_rfl)) rfl ⟨rfl, (Below.refl _ _).alloc (Nat.le_refl _) _⟩
  · obtain ⟨n, rfl⟩ : ∃ n : Nat, k = n := ⟨k.toNat, by omega⟩
    have h7 : n < 7 := by omega
    obtain ⟨t0, t1, t2⟩ := (h.alloc (.cells #[.bool false, .bool false, .int .i64 0] 72)).2 n h7
    clear h hk
    unfold shp
    generalize numK (n : Int) = a at *
    generalize decide ((n : Int) = 3) = b at *
    generalize kidsP (n : Int) = c at *
    go_enter Tryd.func53, Tryd.ntmps53
    go_wp2_with fail
    refine bodyPost_ret (results_cell_row (P := Tryd.prog) rfl _ _ w.heap.size _ _ (0, 0) _ rfl (KB.new w 72 #[.bool a, .bool b, .int .i64 c]) Tryd.underlying72 rfl (by kernel_rfl)) rfl ⟨rfl, (Below.refl _ _).alloc (Nat.le_refl _) _⟩
end Go.Proofs.YthgaljgelngmaaaDoor
end
