/-
  The document's SameAll (layer 1), over the loaded program: its contract. No condition.
-/
import Derived.Test.YtelcfchnaglpcaaSame
import Derived.Deep.RegionHeld3
namespace Go.Proofs.Ytelcfchnaglpcaa
open Go.RowKit
set_option maxRecDepth 100000
set_option linter.unusedVariables false

set_option maxHeartbeats 1000000 in
/-- SameAll. -/
theorem sameAll_any (S S' : Nat → Prop) (x y : Value) (ls ms : List (List UInt8)) (w : World) (hx : LS w S x ls) (hy : LS w S' y ms) :
    Calls Try.prog 18 #[x, y] w fun e w' => e = .returned (.bool (decide (ls = ms))) ∧ Below w.heap.size w w' := by
  obtain ⟨A, c, rfl, hc, hcm⟩ := hx.form
  obtain ⟨A', c', rfl, hc', hcm'⟩ := hy.form
  obtain ⟨R, hR⟩ : ∃ R, R = decide (ls = ms) := ⟨_, rfl⟩
  have HR := Lib.hid hR
  rw [← hR]
  clear hR
  have hlen : ls.length ≤ 9223372036854775807 := by unfold maxLen at hcm; omega
  by_cases hl : ls.length = ms.length
  · have D0 : ((ls.length : Int) != (ms.length : Int)) = false := by simp; omega
    have HL := Lib.hid hl
    have HX := Lib.hid hx
    have HY := Lib.hid hy
    clear hx hy
    rw [← hl] at hc' ⊢
    clear hl D0
    have D0 : ((ls.length : Int) != (ls.length : Int)) = false := by simp
    go_enter Try.func18, Try.ntmps18
    go_wp2
    go_loopw [5] (fun iv wr => ∃ k : Nat, k ≤ ls.length ∧ iv = .int .i64 k ∧ Hid (ls.take k = ms.take k) ∧ Below w.heap.size w wr) (fun iv _ => ls.length - (intOf iv).toNat)
    case atStart => exact ⟨0, by omega, rfl, by show _ = _; simp, Below.refl _ _⟩
    case round =>
      obtain ⟨k, hk, rfl, HT, bl⟩ := hrel
      by_cases hlt : k < ls.length
      · obtain ⟨b, o, rfl, _, hb, h1⟩ := (HX.out.below' bl).at_ (by omega)
        obtain ⟨b', o', rfl, _, hb', h2⟩ := (HY.out.below' bl).at_ (by have := HL.out; omega)
        obtain ⟨X, z, k0, bs⟩ := h1 k _ (List.getElem?_eq_getElem hlt)
        have hkm : k < ms.length := by have := HL.out; omega
        obtain ⟨X', z', k0', bs'⟩ := h2 k _ (List.getElem?_eq_getElem hkm)
        have hsm := fun n => same_is _ _ _ _ _ _ (wr.drewN n) (bs.drewN n) (bs'.drewN n)
        have HE : Hid (ls[k] = ms[k] → ls.take (k + 1) = ms.take (k + 1)) := fun e => by
          show _ = _
          rw [List.take_add_one, List.take_add_one, HT.out, List.getElem?_eq_getElem hlt, List.getElem?_eq_getElem hkm, e]
        have HNE : Hid (¬ ls[k] = ms[k] → R = false) := fun e => by
          rw [HR.out]
          exact decide_eq_false fun h => e (by subst h; rfl)
        generalize ls[k] = l1 at *
        generalize ms[k] = l2 at *
        clear h1 h2 bs bs' HT
        by_cases e : l1 = l2
        · rw [decide_eq_true e] at hsm
          have HT2 := Lib.hid (HE.out e)
          clear HE HNE e
          go_wp2_with fail
          go_region_held3 (fun W => W.cell? ⟨b, o + k, none⟩ = some (.slice X l1.length z) ∧ W.cell? ⟨b', o' + k, none⟩ = some (.slice X' l2.length z')) (first | exact ⟨k0, k0'⟩ | exact ⟨(World.cell?_of_block (w := wr) (b5.block _ hb)).trans k0, (World.cell?_of_block (w := wr) (b5.block _ hb')).trans k0'⟩ | go_keep)
            (first | (go_at_call 17; refine (hsm 1).mono ?_; rintro e w5 ⟨rfl, b5⟩) | fail)
          have BL := bl.trans ((Below_drawn (Below.refl wr.heap.size wr) 1).trans b5 |>.mono bl.size)
          go_wp2_with fail
          go_roundw
          case rel => exact ⟨k + 1, by omega, by go_num, HT2, BL⟩
          case measure => simp [intOf]; omega
        · rw [decide_eq_false e] at hsm
          have hr := HNE.out e
          subst hr
          clear HE HNE e
          go_wp2_with fail
          go_region_held3 (fun W => W.cell? ⟨b, o + k, none⟩ = some (.slice X l1.length z) ∧ W.cell? ⟨b', o' + k, none⟩ = some (.slice X' l2.length z')) (first | exact ⟨k0, k0'⟩ | exact ⟨(World.cell?_of_block (w := wr) (b5.block _ hb)).trans k0, (World.cell?_of_block (w := wr) (b5.block _ hb')).trans k0'⟩ | go_keep)
            (first | (go_at_call 17; refine (hsm 1).mono ?_; rintro e w5 ⟨rfl, b5⟩) | fail)
          have BL := bl.trans ((Below_drawn (Below.refl wr.heap.size wr) 1).trans b5 |>.mono bl.size)
          go_wp2_with fail
          go_ret
          exact ⟨rfl, BL⟩
      · obtain rfl : k = ls.length := by omega
        have hr : R = true := by
          rw [HR.out]
          have := HT.out
          rw [List.take_length, HL.out, List.take_length] at this
          exact decide_eq_true this
        subst hr
        clear HT
        go_wp2_with fail
        go_ret
        exact ⟨rfl, bl⟩
  · have hr : R = false := by
      rw [HR.out]
      exact decide_eq_false fun h => hl (by rw [h])
    subst hr
    have D0 : ((ls.length : Int) != (ms.length : Int)) = true := by simp; omega
    have D1 : ¬ (ls.length : Int) = (ms.length : Int) := by omega
    have D2 := hl
    go_enter Try.func18, Try.ntmps18
    go_wp2
    go_ret
    exact ⟨rfl, Below.refl _ _⟩
end Go.Proofs.Ytelcfchnaglpcaa
