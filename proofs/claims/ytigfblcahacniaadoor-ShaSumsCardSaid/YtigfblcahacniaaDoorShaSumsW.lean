/-
  The law ShaSums over the loaded program: every text's sum, and its digits, are the document's. No condition but the table's.
-/
import Derived.Test.YtigfblcahacniaaDoorShaL
import Derived.Test.YtigfblcahacniaaDoorArgs
import Derived.Deep.RegionLaw
namespace Go.Proofs.YtigfblcahacniaaDoor
open Go.RowKit Go.ChangeShapes Go.WideShapes
set_option linter.unusedVariables false

theorem size_byte : ∀ w : World, (sizeOf 5).run Tryd.prog w = .ok 1 w := fun w => by
  obtain ⟨i0, hi, _, hz1, _⟩ := info_parts info_byte
  simp [sizeOf, typeInfo, hi, hz1]

theorem same32 (xs : List UInt8) (h : xs.length = 32) (W : World) : (Op.equalIn 10000 24 (.agg (xs.map bv).toArray) (.agg (xs.map bv).toArray)).run Tryd.prog W = .ok true W := by
  have := eq_bytes (P := Tryd.prog) W 9998 24 5 32 Tryd.underlying24 Tryd.underlying5 size_byte xs xs h h
  simpa using this

theorem load32 {d : Option Tmp} {x : Operand} {t : TypeId} {pos : String} {after : Array Edge} {gd : Option (Nat × Bool)} {a : Act} {w : World} {K : Act → World → Prop} {Q : Exit → Act → World → Prop}
    (hx : a.eval x = .pointer (some ⟨ptrBlock (a.eval x), 0, none⟩)) (h : (rowOf w (ptrBlock (a.eval x))).size = 32) :
    Oper.wp Tryd.prog { dst := d, op := Op.load 24 x, type := t, pos := pos, after := after, guard := gd } a w K Q = K (a.put d (.agg (rowOf w (ptrBlock (a.eval x))))) w :=
  wp_load_rowOf Tryd.underlying24 (by kernel_rfl) (by omega) hx h

attribute [local go_sem ↓] load32
attribute [local go_sem] rowOf_drew rowOf_drewN ptrBlock_mk

set_option maxRecDepth 100000 in
set_option maxHeartbeats 1000000 in
theorem shaSums_any (v : Value) (b : List UInt8) (w : World) (hb : BS w (fun _ => True) v b) (ht : Tab w) :
    Calls Tryd.prog 3 #[v] w fun e w' => e = .returned (.bool true) ∧ Below w.heap.size w w' := by
  obtain ⟨A, c, rfl, hc, hm, _⟩ := hb.form
  by_cases hl : 3000 < b.length
  · have hl' : (3000 : Int) < b.length := by omega
    go_enter Tryd.func3, Tryd.ntmps3
    go_wp2_with (go_at_call 6; refine (live_any _ ht).mono ?_; rintro e w1 ⟨rfl, hb1⟩)
    go_ret
    exact ⟨rfl, hb1⟩
  · have hl' : (b.length : Int) ≤ 3000 := by omega
    have hl1 := (LS.one (t := 22) hb).lt
    have B1 := (Below.refl w.heap.size w).alloc (Nat.le_refl _) (.cells #[.slice A b.length c] 22)
    have t1 := ht.below B1
    have hb1 := hb.lt.below' B1
    have hcat : catB [b] = b := by simp [catB]
    have N1 := of_any _ [b] _ hl1 t1 (by rw [hcat]; omega)
    rw [hcat] at N1
    have HN1 := Lib.hid N1
    clear N1 hcat
    go_enter Tryd.func3, Tryd.ntmps3
    go_wp2_with fail
    refine HN1.out.mono ?_
    rintro e w2 ⟨rfl, b2⟩
    have hb2 := hb1.below' b2
    have t2 := t1.below b2
    have B2 := B1.trans (b2.mono B1.size)
    have z2 := B2.size
    clear hl1 B1 t1 hb1 HN1 b2 hb
    have NX := fun W => hex_any (sumB b) (sumB_length b) W
    have NY := fun W => rhex_any (sumB b) (sumB_length b) W
    have NO := fun (W : World) (h : BS W (fun b => True ∧ b < w.heap.size) (.slice A b.length c) b) => rof_any _ _ b W h (by omega)
    have hsame := same32 (sumB b) (sumB_length b)
    have HU : Hid (((sumB b).map bv).length = 32) := by show _ = _; rw [List.length_map, sumB_length]
    have hu1 := bytes_one' (sumB b)
    generalize (sumB b).map bv = ss at *
    have HX := Lib.hid NX
    have HY := Lib.hid NY
    have HO := Lib.hid NO
    clear NX NY NO
    go_wp2_with (refine wpList_store_kb rfl 24 (.tmp 3) (.tmp 10) rfl w2.heap.size ss rfl rfl 24 (z32.map bv) (by rw [row32]; exact KB.new _ _ _) 32 (by kernel_rfl) rfl HU.out hu1 ?_; intro w3 k3 g3)
    have b3 : Below w2.heap.size w2 w3 := ((Below.refl _ _).alloc (Nat.le_refl _) _).grown g3 (by simp) (by simp)
    have hb3 := hb2.below' b3
    have t3 := t2.below b3
    have B3 := B2.trans (b3.mono z2)
    have z3 := B3.size
    have zk := k3.lt
    clear hb2 t2 B2 b3 g3
    generalize w2.heap.size = g at *
    have hsz : ss.toArray.size = 32 := by simpa using HU.out
    have hra : ∀ W : World, Below w3.heap.size w3 W → rowOf W g = ss.toArray := fun W h => rowOf_kb (k3.below h k3.lt)
    have hta : ∀ W : World, Below w3.heap.size w3 W → Tab W := fun W h => t3.below h
    have HRA := Lib.hid hra
    have HTA := Lib.hid hta
    have r3 := rowOf_kb k3
    clear hra hta k3 t3
    go_region_law ((go_simp; first
        | (go_at_call 8; refine (HO.out _ (by exact hb3)).mono ?_; rintro e w4 ⟨rfl, b4⟩; have b4' : Below w3.heap.size w3 w4 := (Below_drawn (Below.refl _ _) 1).trans b4; have r4 := HRA.out w4 b4')
        | (go_at_call 9; refine (HX.out _).mono ?_; rintro e w5 ⟨rfl, b5⟩; have b5' := b4'.trans (b5.mono b4'.size); have r5 := HRA.out w5 b5')
        | (go_at_call 10; refine (HY.out _).mono ?_; rintro e w6 ⟨rfl, b6⟩; have b6' := b5'.trans (b6.mono b5'.size); have r6 := HRA.out w6 b6')
        | (go_at_call 6; refine (live_any _ (HTA.out _ b6')).mono ?_; rintro e w7 ⟨rfl, b7⟩; have b7' := b6'.trans (b7.mono b6'.size); have r7 := HRA.out w7 b7')))
    all_goals
      go_wp2
      go_ret
      exact ⟨rfl, B3.trans (b7'.mono z3)⟩

theorem shaSums_law {H : Type} (enc : TypeId × Value → H) (W : World) (base : Nat) (ht : Tab W) (v0 : Value) (d0 : DataW H) (p0 : List MemPlace)
    (ok0 : Value.okWide Tryd.prog W .any base 22 v0) (h0 : DataW.Trod enc Tryd.prog W 0 (fun _ => true) true 22 v0 d0 p0) :
    Calls Tryd.prog 3 #[v0] W fun e W' => e = .returned (.bool true) ∧ Below W.heap.size W W' := by
  obtain ⟨l, hl⟩ := BS_of_arg ok0 h0
  exact shaSums_any v0 l W hl ht
end Go.Proofs.YtigfblcahacniaaDoor
