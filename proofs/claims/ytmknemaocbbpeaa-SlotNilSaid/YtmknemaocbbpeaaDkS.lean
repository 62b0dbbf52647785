/-
  Sectors: arrays of 256 bytes, by value and in rows, over the loaded program. No condition.
-/
import Derived.Test.YtmknemaocbbpeaaStr
import Derived.Test.YtmknemaocbbpeaaRow
import Derived.Test.YtmknemaocbbpeaaBase
import Derived.Laws.MakeOwn
namespace Go.Proofs.Ytmknemaocbbpeaa
open Go.RowKit
set_option linter.unusedVariables false

/-- A sector's bytes as a value. -/
def secV (l : List UInt8) : Value := .agg (l.map bv).toArray
def z256 : List UInt8 := List.replicate 256 0
theorem z256_len : z256.length = 256 := List.length_replicate
theorem cells_sec : (Try.prog.info? 68).map (·.size) = some 256 := by kernel_rfl
theorem zero_sec (w : World) : (zeroValue 68).run Try.prog w = .ok (secV z256) w := by kernel_rfl
theorem info_sec : (Try.prog.info? 68).map (fun i => (i.zero, i.size, i.bytes)) = some (some (secV z256), 256, 256) := by kernel_rfl
theorem bv_inj {a b : UInt8} (e : bv a = bv b) : a = b := by
  simp only [bv, Value.int.injEq, true_and] at e
  exact UInt8.toNat_inj.1 (by omega)
theorem map_bv_inj : ∀ {l m : List UInt8}, l.map bv = m.map bv → l = m
  | [], [], _ => rfl
  | [], _ :: _, h => by cases h
  | _ :: _, [], h => by cases h
  | a :: l, b :: m, h => by
    simp only [List.map_cons, List.cons.injEq] at h
    rw [bv_inj h.1, map_bv_inj h.2]
theorem secV_inj {l m : List UInt8} (h : secV l = secV m) : l = m := by
  unfold secV at h
  simp only [Value.agg.injEq] at h
  exact map_bv_inj (by simpa using congrArg Array.toList h)

/-- Sectors one behind the other. -/
def secs (l : List (List UInt8)) : List Value := l.flatten.map bv
theorem secs_len : ∀ (l : List (List UInt8)), (∀ s ∈ l, s.length = 256) → (secs l).length = l.length * 256
  | [], _ => rfl
  | s :: r, h => by
    have h1 := secs_len r fun t ht => h t (by simp [ht])
    have h2 := h s (by simp)
    simp [secs] at h1 ⊢
    rw [h1, h2]
    omega
theorem secs_append (a b : List (List UInt8)) : secs (a ++ b) = secs a ++ secs b := by simp [secs]
theorem secs_split (l : List (List UInt8)) (i : Nat) (hi : i < l.length) : secs l = secs (l.take i) ++ (l[i].map bv ++ secs (l.drop (i + 1))) := by
  have e : l = l.take i ++ (l[i] :: l.drop (i + 1)) := by rw [List.getElem_cons_drop]; simp
  have e2 := congrArg secs e
  rw [secs_append] at e2
  rw [e2]
  congr 1
  simp only [secs, List.flatten_cons, List.map_append]
theorem take_secs_len (l : List (List UInt8)) (i : Nat) (hi : i ≤ l.length) (h : ∀ s ∈ l, s.length = 256) : (secs (l.take i)).length = i * 256 := by
  rw [secs_len _ fun s hs => h s (List.mem_of_mem_take hs), List.length_take, Nat.min_eq_left hi]

section
variable {w : World} {g : Nat} {t : TypeId} {l : List (List UInt8)}
/-- A sector in a row of sectors. -/
theorem KB.sec (h : KB w g t (secs l).toArray) (hl : ∀ s ∈ l, s.length = 256) (i : Nat) (hi : i < l.length) : w.rangeAt g (i * 256) (l[i].map bv) := by
  rw [secs_split l i hi] at h
  have := h.part
  rwa [take_secs_len l i (by omega) hl] at this
theorem secs_set (hl : ∀ s ∈ l, s.length = 256) (i : Nat) (hi : i < l.length) (s : List UInt8) (hs : s.length = 256) : splice (secs l) (i * 256) (s.map bv) = secs (l.set i s) := by
  have e1 := secs_split l i hi
  have e2 := secs_split (l.set i s) i (by simpa using hi)
  rw [e1, e2, ← take_secs_len l i (by omega) hl, splice_mid _ _ _ _ (by simp [hs, hl l[i] (List.getElem_mem hi)])]
  simp [List.take_set_of_le, List.drop_set_of_lt]
end

theorem secs_rep (k : Nat) : ∀ n : Nat, secs (List.replicate n (List.replicate k 0)) = List.replicate (n * k) (bv 0)
  | 0 => by simp [secs]
  | n + 1 => by
    rw [List.replicate_succ, show (List.replicate k (0 : UInt8) :: List.replicate n (List.replicate k 0)) = [List.replicate k 0] ++ List.replicate n (List.replicate k 0) from rfl, secs_append, secs_rep k n]
    simp only [secs, List.flatten_cons, List.flatten_nil, List.append_nil, List.map_replicate]
    rw [List.replicate_append_replicate, Nat.succ_mul, Nat.add_comm]
theorem z256_cells : (secV z256).cells = Array.replicate 256 (bv 0) := by
  show (z256.map bv).toArray = _
  unfold z256
  rw [List.map_replicate, List.toArray_replicate]
theorem madeCells_sec (n : Nat) : madeCells (secV z256).cells (n * 256) = (secs (List.replicate n z256)).toArray := by
  rw [madeCells_of _ _ 256 n (by omega) z256_cells]
  unfold z256
  rw [secs_rep, List.toArray_replicate]
end Go.Proofs.Ytmknemaocbbpeaa
