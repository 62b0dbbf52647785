/-
  The law CommitOf over the loaded program: every commitment is the document's, and is checked by its own salt and payload alone. No condition but the table's.
-/
import Derived.Test.YtjcdkfnjlmofiaaDoorCmL
import Derived.Test.YtjcdkfnjlmofiaaDoorCmO
import Derived.Deep.RegionLaw
namespace Go.Proofs.YtjcdkfnjlmofiaaDoor
open Go.RowKit Go.ChangeShapes Go.WideShapes Go.Joins
set_option linter.unusedVariables false

attribute [local go_sem ↓] load32
attribute [local go_sem] rowOf_drew rowOf_drewN ptrBlock_mk

/-- What Check is asked, and what it answers. -/
def CkQ (T : List UInt8) (xs : List Value) (r : Bool) : Prop := ∃ com : List UInt8, com.length = 32 ∧ xs = com.map bv ∧ r = (com == sumB T)

theorem ccheck_q (S : Nat → Prop) (v : Value) (s : Nat) (l : List UInt8) (hs : s < 18446744073709551616) (hl : l.length ≤ 100000000000) (W : World) (xs : List Value) (r : Bool) (hq : CkQ (comB s l) xs r) (h : BS W S v l) (ht : Tab W) :
    Calls Tryd.prog 9 #[.agg xs.toArray, .int .u64 s, v] W fun e w' => e = .returned (.bool r) ∧ Below W.heap.size W w' := by
  obtain ⟨com, h1, rfl, rfl⟩ := hq
  exact ccheck_any S com v s l W h1 h hs hl ht

set_option maxRecDepth 100000 in
set_option maxHeartbeats 2000000 in
theorem commitOf_any (s : Nat) (hs : s < 18446744073709551616) (v : Value) (l : List UInt8) (com : List UInt8) (hc : com.length = 32) (w : World) (hb : BS w (fun b => b < w.heap.size) v l) (ht : Tab w) :
    Calls Tryd.prog 3 #[.int .u64 s, v, .agg (com.map bv).toArray] w fun e w' => e = .returned (.bool true) ∧ Below w.heap.size w w' := by
  obtain ⟨A, c, rfl, hlc, hm, _⟩ := hb.form
  have hcl : (com.map bv).length = 32 := by rw [List.length_map]; exact hc
  have k0 : KB (w.alloc (.cells (com.map bv).toArray 24)) w.heap.size 24 (com.map bv).toArray := KB.new _ _ _
  have B0 : Below w.heap.size w (w.alloc (.cells (com.map bv).toArray 24)) := (Below.refl _ _).alloc (Nat.le_refl _) _
  have h0 := hb.below' B0
  have t0 := ht.below B0
  by_cases hl : 2000 < l.length
  · have hl' : (2000 : Int) < l.length := by omega
    go_enter Tryd.func3, Tryd.ntmps3
    go_wp2_with (go_at_call 6; refine (clive_any _ t0).mono ?_; rintro e w1 ⟨rfl, hb1⟩)
    go_ret
    exact ⟨rfl, B0.trans (hb1.mono B0.size)⟩
  · have hl' : (l.length : Int) ≤ 2000 := by omega
    have Q1 : CkQ (comB s l) ((sumB (comB s l)).map bv) true := ⟨_, sumB_length _, rfl, by simp⟩
    obtain ⟨r, hr⟩ : ∃ r, r = (com == sumB (comB s l)) := ⟨_, rfl⟩
    have Q2 : CkQ (comB s l) (com.map bv) r := ⟨com, hc, rfl, hr⟩
    have heq := eq32 com (sumB (comB s l)) hc (sumB_length _)
    rw [← hr] at heq
    clear hr
    have hsame := same32 (sumB (comB s l)) (sumB_length _)
    have hof := fun (W : World) (h : BS W (fun b => b < w.heap.size) (.slice A l.length c) l) (ht : Tab W) => cof_any _ _ s l W h hs (by omega) ht
    have hrof := fun (W : World) (h : BS W (fun b => b < w.heap.size) (.slice A l.length c) l) => rcof_any _ _ s l W h hs (by omega)
    have hck := fun (W : World) (xs : List Value) (r : Bool) (hq : CkQ (comB s l) xs r) (h : BS W (fun b => b < w.heap.size) (.slice A l.length c) l) (ht : Tab W) => ccheck_q _ _ s l hs (by omega) W xs r hq h ht
    unfold Sum32 at hof hrof
    have HU : Hid (((sumB (comB s l)).map bv).length = 32) := by show _ = _; rw [List.length_map, sumB_length]
    have hu1 := bytes_one' (sumB (comB s l))
    generalize (sumB (comB s l)).map bv = ss at *
    generalize com.map bv = cs at *
    generalize comB s l = T at *
    have HOF := Lib.hid hof
    have HROF := Lib.hid hrof
    have HCK := Lib.hid hck
    clear hof hrof hck
    go_enter Tryd.func3, Tryd.ntmps3
    go_wp2_with fail
    refine (HOF.out _ h0 t0).mono ?_
    rintro e w2 ⟨rfl, b2⟩
    have h2 := h0.below' b2
    have t2 := t0.below b2
    have k2 := k0.below b2 k0.lt
    have B2 := B0.trans (b2.mono B0.size)
    clear h0 t0 k0 B0 b2
    go_wp2_with (refine wpList_store_kb rfl 24 (.tmp 7) (.tmp 14) rfl w2.heap.size ss rfl rfl 24 (z32.map bv) (by rw [row32]; exact KB.new _ _ _) 32 (by kernel_rfl) rfl HU.out hu1 ?_; intro w3 k3 g3)
    have b3 : Below w2.heap.size w2 w3 := ((Below.refl _ _).alloc (Nat.le_refl _) _).grown g3 (by simp) (by simp)
    have h3 := h2.below' b3
    have t3 := t2.below b3
    have B3 := B2.trans (b3.mono B2.size)
    have kc3 := k2.below b3 k2.lt
    clear h2 t2 B2 b3 g3 k2
    have S3 := B3.size
    generalize w2.heap.size = g at *
    have hsz : ss.toArray.size = 32 := by simpa using HU.out
    have hsz2 : cs.toArray.size = 32 := by simpa using hcl
    have r3 := rowOf_kb k3
    have q3 := rowOf_kb kc3
    have B : Below w3.heap.size w3 w3.drew := Below_drawn (Below.refl _ _) 1
    go_region_law (go_simp; first
      | (go_at_call 8; refine (HROF.out _ (by exact h3.below' B)).mono ?_; rintro e w4 ⟨rfl, b4⟩; replace B := B.trans (b4.mono B.size); have r4 := rowOf_kb (k3.below B k3.lt); have q4 := rowOf_kb (kc3.below B kc3.lt); clear b4)
      | (go_at_call 9; refine (HCK.out _ _ _ (by assumption) (by exact h3.below' B) (by exact t3.below B)).mono ?_; rintro e w4 ⟨rfl, b4⟩; replace B := B.trans (b4.mono B.size); have r4 := rowOf_kb (k3.below B k3.lt); have q4 := rowOf_kb (kc3.below B kc3.lt); clear b4)
      | (go_at_call 6; refine (clive_any _ (by exact t3.below B)).mono ?_; rintro e w4 ⟨rfl, b4⟩; replace B := B.trans (b4.mono B.size); have r4 := rowOf_kb (k3.below B k3.lt); have q4 := rowOf_kb (kc3.below B kc3.lt); clear b4))
    all_goals
      go_wp2
      go_ret
      exact ⟨rfl, B3.trans (B.mono S3)⟩

theorem commitOf_law {H : Type} (enc : TypeId × Value → H) (W : World) (base : Nat) (ht : Tab W) (v0 : Value) (d0 : DataW H) (p0 : List MemPlace) (v1 : Value) (d1 : DataW H) (p1 : List MemPlace) (v2 : Value) (d2 : DataW H) (p2 : List MemPlace)
    (ok0 : Value.okWide Tryd.prog W .any base 22 v0) (ok1 : Value.okWide Tryd.prog W .any base 23 v1) (ok2 : Value.okWide Tryd.prog W .any base 24 v2)
    (h0 : DataW.Trod enc Tryd.prog W 0 (fun _ => true) true 22 v0 d0 p0) (h1 : DataW.Trod enc Tryd.prog W 0 (fun _ => true) true 23 v1 d1 p1) (h2 : DataW.Trod enc Tryd.prog W 0 (fun _ => true) true 24 v2 d2 p2) :
    Calls Tryd.prog 3 #[v0, v1, v2] W fun e W' => e = .returned (.bool true) ∧ Below W.heap.size W W' := by
  obtain ⟨n, rfl, rfl, rfl, w0⟩ := open_int Tryd.underlying22 ok0 h0
  have hn : 0 ≤ n ∧ n ≤ 18446744073709551615 := by simpa [Lit.wf, IntKind.min, IntKind.max, IntKind.signed, IntKind.bits] using w0
  obtain ⟨n', rfl⟩ := Int.eq_ofNat_of_zero_le hn.1
  obtain ⟨l, hl⟩ := BS_of_arg ok1 h1
  obtain ⟨com, hc, rfl⟩ := open_32 ok2 h2
  exact commitOf_any n' (by omega) v1 l com hc W (hl.lt.mono fun _ h => h.2) ht
end Go.Proofs.YtjcdkfnjlmofiaaDoor
