/-
  Same: The document's Same (layer 1), over the loaded program: its contract. No condition but the sizes that it names.
  DkG: What the statements of layer 8 hand in: Full; num; live; over the loaded program. No condition.
  DkL: live: the page's examples, over the loaded program. No condition.
-/
import Derived.Test.YtgoifhpinoodgaaDoorWo00
import Derived.WalkSpells
import Derived.BigQuiet
import Derived.Deep.QuietTactic
import Derived.Test.YtgoifhpinoodgaaDoorWo09
import Derived.Test.YtgoifhpinoodgaaDoorWo08

section
namespace Go.Proofs.YtgoifhpinoodgaaDoor
open Go.RowKit
set_option linter.unusedVariables false

theorem take_one_more {l m : List UInt8} {k : Nat} (h : l.take k = m.take k) (hl : k < l.length) (hm : k < m.length) (e : l[k] = m[k]) : l.take (k + 1) = m.take (k + 1) := by
  rw [List.take_add_one, List.take_add_one, h, List.getElem?_eq_getElem hl, List.getElem?_eq_getElem hm, e]

/-- Whether two slices hold the same bytes. -/
theorem same_draws (S S' : Nat → Prop) (x y : Value) (l m : List UInt8) (w : World) (hx : BS w S x l) (hy : BS w S' y m) :
    Calls Tryd.prog 23 #[x, y] w fun e w' => e = .returned (.bool (decide (l = m))) ∧ ∃ n, w' = w.drewN n := by
  obtain ⟨A, c, rfl, hlc, hcm, _⟩ := hx.form
  obtain ⟨A', c', rfl, _⟩ := hy.form
  have hlen : l.length ≤ 9223372036854775807 := by unfold maxLen at hcm; omega
  clear hcm hlc
  by_cases hlm : l.length = m.length
  · obtain ⟨r, hr⟩ : ∃ r, r = decide (l = m) := ⟨_, rfl⟩
    rw [← hr]
    have HR : Hid (r = decide (l = m)) := hr
    have HE : Hid (l.length = m.length) := hlm
    rw [← hlm] at hy ⊢
    clear hr hlm
    go_enter Tryd.func23, Tryd.ntmps23
    go_wp2
    go_loopw [5] (fun i wr => ∃ k n : Nat, k ≤ l.length ∧ Hid (l.take k = m.take k) ∧ i = .int .i64 k ∧ wr = w.drewN n) (fun i _ => l.length - (intOf i).toNat)
    case atStart => exact ⟨0, 0, by omega, by show _ = _; simp, rfl, rfl⟩
    case round =>
      obtain ⟨k, n, hk, ht, rfl, rfl⟩ := hrel
      by_cases hlt : k < l.length
      · have hmt : k < m.length := by rw [← HE.out]; exact hlt
        obtain ⟨b, o, rfl, _, _, h1⟩ := hx.at_ (by omega)
        have hy' := hy
        obtain ⟨A0, c0, e0, _, _, _, h2⟩ := hy'
        obtain ⟨b', o', rfl, _, _, h2⟩ := h2 (by omega)
        injection e0 with e0 _ _
        subst e0
        have k1 := h1 k l[k] (List.getElem?_eq_getElem hlt)
        have k2 : w.cell? ⟨b', o' + k, none⟩ = some (.int .u8 (m[k].toNat : Int)) := h2 k m[k] (List.getElem?_eq_getElem hmt)
        have ho := take_one_more ht.out hlt hmt
        have hn : ¬ l[k] = m[k] → r = false := fun h => by rw [HR.out]; exact decide_eq_false fun e => h (by subst e; rfl)
        have HO := Lib.hid ho
        have HN := Lib.hid hn
        clear h1 h2 hx hy ho hn
        generalize l[k] = p at *
        generalize m[k] = q at *
        by_cases hpq : (p.toNat : Int) = (q.toNat : Int)
        · have hpq' : p = q := UInt8.toNat_inj.1 (by omega)
          have HT := Lib.hid (HO.out hpq')
          go_wp2
          go_quiet (fail)
          go_wp2
          go_roundw
          case rel => exact ⟨k + 1, n + nq, by omega, HT, by go_num, rfl⟩
          case measure => simp [intOf]; omega
        · have hr := HN.out (fun e => hpq (by rw [e]))
          clear HN HO
          subst hr
          go_wp2
          go_quiet (fail)
          go_wp2
          go_ret
          exact ⟨rfl, n + nq, drewN_twice w n nq⟩
      · have hkl : k = l.length := by omega
        have hr : r = true := by
          rw [HR.out]
          have e := ht.out
          rw [hkl, List.take_length, HE.out, List.take_length] at e
          exact decide_eq_true e
        clear ht HR
        subst hr
        go_wp2
        go_ret
        exact ⟨rfl, _, rfl⟩
  · rw [decide_eq_false fun e => hlm (by rw [e])]
    have hne : ¬ (l.length : Int) = (m.length : Int) := by omega
    go_enter Tryd.func23, Tryd.ntmps23
    go_wp2
    go_ret
    exact ⟨rfl, 0, rfl⟩

/-- Whether two slices hold the same bytes: of memory nothing turns. -/
theorem same_is (S S' : Nat → Prop) (x y : Value) (l m : List UInt8) (w : World) (hx : BS w S x l) (hy : BS w S' y m) :
    Calls Tryd.prog 23 #[x, y] w fun e w' => e = .returned (.bool (decide (l = m))) ∧ Below w.heap.size w w' := by
  refine (same_draws S S' x y l m w hx hy).mono ?_
  rintro e w' ⟨rfl, n, rfl⟩
  exact ⟨rfl, ⟨rfl, rfl, rfl, Nat.le_refl _, fun _ _ => rfl⟩⟩

/-- Two slices of the same bytes are the same. -/
theorem same_yes (S S' : Nat → Prop) (x y : Value) (l : List UInt8) (w : World) (hx : BS w S x l) (hy : BS w S' y l) :
    Calls Tryd.prog 23 #[x, y] w fun e w' => e = .returned (.bool true) ∧ ∃ n, w' = w.drewN n := by
  refine (same_draws S S' x y l l w hx hy).mono ?_
  rintro e w' ⟨rfl, n, rfl⟩
  exact ⟨by rw [decide_eq_true rfl], n, rfl⟩

theorem same_to (S S' : Nat → Prop) (x y : Value) (l : List UInt8) (w : World) (hx : BS w S x l) (hy : BS w S' y l) :
    Calls Tryd.prog 23 #[x, y] w fun e w' => e = .returned (.bool true) ∧ Below w.heap.size w w' := by
  refine (same_yes S S' x y l w hx hy).mono ?_
  rintro e w' ⟨rfl, n, rfl⟩
  exact ⟨rfl, ⟨rfl, rfl, rfl, Nat.le_refl _, fun _ _ => rfl⟩⟩
end Go.Proofs.YtgoifhpinoodgaaDoor
end

section
namespace Go.Proofs.YtgoifhpinoodgaaDoor
open Go.RowKit
set_option maxRecDepth 100000
set_option linter.unusedVariables false

def full (c : UInt8) : List UInt8 := List.replicate 256 c
theorem full_len (c : UInt8) : (full c).length = 256 := List.length_replicate
theorem full_inj {c d : UInt8} (h : full c = full d) : c = d := by
  have h1 : c ∈ full d := by rw [← h]; exact List.mem_replicate.2 ⟨by omega, rfl⟩
  exact List.eq_of_mem_replicate h1

/-- What Full hands back: a block of 256 bytes c. -/
def Filled (w : World) (c : UInt8) (e : Ending) (w' : World) : Prop :=
  e = .returned (.slice (some ⟨w.heap.size, 0, none⟩) 256 256) ∧ KB w' w.heap.size 5 ((full c).map bv).toArray ∧ Below w.heap.size w w'

theorem fill_at {n k : Nat} (c : Value) (h : k < n) : (List.replicate k c ++ List.replicate (n - k) (bv 0)).toArray[k]? = some (bv 0) := by
  rw [List.getElem?_toArray, List.getElem?_append_right (by rw [List.length_replicate]; exact Nat.le_refl _), List.length_replicate, Nat.sub_self, List.getElem?_replicate, if_pos (by omega)]
theorem fill_set {n k : Nat} (c : Value) (h : k < n) : (List.replicate k c ++ List.replicate (n - k) (bv 0)).toArray.setIfInBounds k c = (List.replicate (k + 1) c ++ List.replicate (n - (k + 1)) (bv 0)).toArray := by
  rw [List.setIfInBounds_toArray, List.set_append_right _ _ (by rw [List.length_replicate]; exact Nat.le_refl _), List.length_replicate, Nat.sub_self]
  obtain ⟨m, hm⟩ : ∃ m, n - k = m + 1 := ⟨n - k - 1, by omega⟩
  rw [hm, List.replicate_succ, List.set_cons_zero, show n - (k + 1) = m from by omega, List.replicate_succ' (n := k)]
  simp

set_option maxRecDepth 100000 in
set_option maxHeartbeats 400000 in
/-- Full. -/
theorem full_any (c : UInt8) (w : World) : Calls Tryd.prog 12 #[.int .u8 (c.toNat : Int)] w (Filled w c) := by
  obtain ⟨i0, hi, hz0, hz1, hz2⟩ := info_parts info_byte
  obtain ⟨n, hn⟩ : ∃ n, n = 256 := ⟨_, rfl⟩
  have hmk := fun w : World => run_make (P := Tryd.prog) w 34 5 i0 _ Tryd.underlying34 hi hz0 .i64 .i64 256 256 (by omega) (by omega) (by rw [hz2]; omega) (by omega)
  rw [hz1] at hmk
  have e256 : (256 : Int).toNat = 256 := rfl
  rw [e256, madeCells_of (.int .u8 0) (bv 0) 1 256 (by omega) rfl, Nat.mul_one] at hmk
  obtain ⟨C, hC⟩ : ∃ C, C = Array.replicate 256 (bv 0) := ⟨_, rfl⟩
  rw [← hC] at hmk
  have k1 : KB (w.alloc (.cells C 5)) w.heap.size 5 (List.replicate 0 (bv c) ++ List.replicate (n - 0) (bv 0)).toArray := by
    rw [List.replicate_zero, List.nil_append, Nat.sub_zero, List.toArray_replicate, hn, ← hC]; exact KB.new _ _ _
  have B1 := (Below.refl w.heap.size w).alloc (Nat.le_refl _) (.cells C 5)
  have HN := Lib.hid hn
  clear e256 hC hi hz0 hz1 hz2 hn
  go_enter Tryd.func12, Tryd.ntmps12
  go_wp2
  clear hmk
  go_loopw [4] (fun q wr => ∃ k : Nat, k ≤ 256 ∧ q = .int .i64 k ∧ KB wr w.heap.size 5 (List.replicate k (bv c) ++ List.replicate (n - k) (bv 0)).toArray ∧ Below w.heap.size w wr) (fun q _ => 256 - (Go.RowKit.intOf q).toNat)
  case atStart => exact ⟨0, by omega, rfl, k1, B1⟩
  case round =>
    obtain ⟨k, hk, rfl, kk, B2⟩ := hrel
    clear k1 B1
    by_cases hlt : k < 256
    · have cc := kk.cell k
      have ff := kk.free k
      have HS := Lib.hid (fill_set (n := n) (bv c) (by rw [HN.out]; exact hlt))
      rw [fill_at _ (by rw [HN.out]; exact hlt)] at cc
      go_wp2
      go_roundw
      case rel =>
        have k2 := kk.put k (bv c)
        rw [HS.out] at k2
        exact ⟨k + 1, by omega, by go_num, k2, B2.setCell (p := ⟨w.heap.size, k, none⟩) (Nat.le_refl _) _⟩
      case measure => simp [Go.RowKit.intOf]; omega
    · obtain rfl : k = 256 := by omega
      rw [HN.out, Nat.sub_self, List.replicate_zero, List.append_nil] at kk
      have kf : KB wr w.heap.size 5 ((full c).map bv).toArray := by unfold full; rw [List.map_replicate]; exact kk
      clear kk
      go_wp2
      go_ret
      exact ⟨rfl, kf, B2⟩
end Go.Proofs.YtgoifhpinoodgaaDoor
end

section
namespace Go.Proofs.YtgoifhpinoodgaaDoor
open Go.RowKit
set_option maxRecDepth 100000
set_option linter.unusedVariables false

/-- All of p's blocks lie from B on. -/
def From (p : DA) (B : Nat) : Prop := ∀ x, p.has x → B ≤ x
theorem new_made (n : Nat) (w : World) (h1 : 1 ≤ n) (h2 : n ≤ 1024) : Calls Tryd.prog 7 #[.int .i64 n] w fun e w' =>
    ∃ p : DA, e = .returned (.tuple #[.pointer (some ⟨p.d, 0, none⟩), .int .i64 0]) ∧ DS w' p (blank n) ∧ From p w.heap.size ∧ Below w.heap.size w w' := by
  refine (new_yes n w h1 h2).mono ?_
  rintro e w' ⟨rfl, hd, hb⟩
  refine ⟨newDA w.heap.size, rfl, hd, ?_, hb⟩
  rintro x (rfl | rfl | rfl) <;> simp [newDA]
section
variable {w w' : World} {p : DA} {B : Nat}
theorem KeepP.off (k : KeepP (Off p w) w w') (hB : B ≤ w.heap.size) (hp : From p B) : Below B w w' := k.to_below fun x hx => ⟨by omega, fun h => by have := hp x h; omega⟩
theorem BS.off {v : Value} {l : List UInt8} (h : BS w (Off p w) v l) (k : KeepP (Off p w) w w') : BS w' (Off p w') v l :=
  (h.keep k.size fun b sb _ => k.block b sb).mono fun b sb => ⟨by have := sb.1; have := k.size; omega, sb.2⟩
theorem BS.off_below {v : Value} {l : List UInt8} (h : BS w (Off p w) v l) (k : Below w.heap.size w w') : BS w' (Off p w') v l :=
  (h.below' k).mono fun b sb => ⟨by have := sb.1; have := k.size; omega, sb.2⟩
/-- What a call hands back in new memory is off a disk that was there. -/
theorem own_off {s : Dk} (h : DS w p s) {v : Value} {l : List UInt8} (how : w'.ownsRow w.heap.size 5 1 v l.length (l.map bv)) : BS w' (Off p w') v l :=
  (own_BS how).mono fun b sb => ⟨sb.2, fun hx => by have := h.lt b hx; omega⟩
theorem kb_full {g : Nat} {c : UInt8} (h : KB w g 5 ((full c).map bv).toArray) : BS w (fun b => b = g) (.slice (some ⟨g, 0, none⟩) 256 256) (full c) := by
  refine ⟨_, 256, by rw [full_len], by rw [full_len]; omega, by unfold maxLen; omega, (fun h => by cases h), fun _ => ⟨g, 0, rfl, rfl, h.lt, fun j u hu => ?_⟩⟩
  rw [Nat.zero_add, h.cell]
  simp [hu]
end

def l1 : Dk := ((blank 4).wrote 3 (full 7)).acted
def l2 : Dk := l1.crashed []
def l3 : Dk := (l2.wrote 3 (full 7)).acted
def l4 : Dk := l3.flushed
def l5 : Dk := l4.crashed []
theorem l2_now : l2.now 3 = full 0 := by decide +kernel
theorem l5_now : l5.now 3 = full 7 := by decide +kernel
theorem l2_len : l2.safe.length = 4 := by decide +kernel
theorem l3_len : l3.safe.length = 4 := by decide +kernel
theorem l5_len : l5.safe.length = 4 := by decide +kernel
theorem l_fuse : l2.fuse ≠ 0 ∧ l3.fuse ≠ 0 ∧ l5.fuse ≠ 0 := ⟨by decide, by decide, by decide⟩

def Yes (w : World) (e : Ending) (w' : World) : Prop := e = .returned (.bool true) ∧ Below w.heap.size w w'
end Go.Proofs.YtgoifhpinoodgaaDoor
end
