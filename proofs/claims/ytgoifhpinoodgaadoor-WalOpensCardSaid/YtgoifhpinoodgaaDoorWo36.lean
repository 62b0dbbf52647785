/-
  WbB: What the statements of layer 10 hand in: Of; SameAll; over the loaded program. No condition but what each theorem names.
  Copy: The document's Copy (layer 1), over the loaded program: its contract. No condition but the sizes that it names.
-/
import Derived.Test.YtgoifhpinoodgaaDoorWo35
import Derived.Deep.RegionHeld3
import Derived.Test.YtgoifhpinoodgaaDoorWo00
import Derived.WalkSpells
import Derived.BigQuiet
import Derived.Deep.QuietTactic

section
namespace Go.Proofs.YtgoifhpinoodgaaDoor
open Go.RowKit
set_option maxRecDepth 100000
set_option linter.unusedVariables false

/-- What a statement's patch is. -/
abbrev Pu := Int × UInt8 × Bool
def ptOf (q : Pu) : Pt := (q.1, if q.2.2 = true then (full q.2.1).take 9 else full q.2.1)
/-- The slice value v reads, in w, as these. -/
def US (w : World) (v : Value) (l : List Pu) : Prop :=
  ∃ A c, v = .slice A l.length c ∧ l.length ≤ c ∧ c ≤ maxLen ∧
    (0 < l.length → ∃ b o, A = some ⟨b, o, none⟩ ∧ b < w.heap.size ∧ ∀ j q, l[j]? = some q → w.cell? ⟨b, o + j * 3, none⟩ = some (.int .i64 q.1) ∧ w.cell? ⟨b, o + j * 3 + 1, none⟩ = some (.int .u8 (q.2.1.toNat : Int)) ∧ w.cell? ⟨b, o + j * 3 + 2, none⟩ = some (.bool q.2.2))
theorem US.below {w w' : World} {v : Value} {l : List Pu} (h : US w v l) (hb : Below w.heap.size w w') : US w' v l := by
  obtain ⟨A, c, e, hl, hc, hx⟩ := h
  refine ⟨A, c, e, hl, hc, fun h0 => ?_⟩
  obtain ⟨b, o, ea, hlt, hx⟩ := hx h0
  have hk := hb.block b hlt
  refine ⟨b, o, ea, Nat.lt_of_lt_of_le hlt hb.size, fun j q hj => ?_⟩
  obtain ⟨h1, h2, h3⟩ := hx j q hj
  exact ⟨(World.cell?_of_block (w := w) hk).trans h1, (World.cell?_of_block (w := w) hk).trans h2, (World.cell?_of_block (w := w) hk).trans h3⟩

set_option maxHeartbeats 2000000 in
/-- Of. -/
theorem ofl_any (v : Value) (l : List Pu) (w : World) (h : US w v l) (hl : l.length ≤ 1000000) : Calls Tryd.prog 6 #[v] w fun e w' => ∃ v', e = .returned v' ∧ PS w' (fun x => w.heap.size ≤ x ∧ x < w'.heap.size) v' (l.map ptOf) ∧ Below w.heap.size w w' := by
  obtain ⟨A, c, rfl, hc, hcm, hx⟩ := h
  have hlen : l.length ≤ 9223372036854775807 := by omega
  have HLL := Lib.hid hl
  have HX := Lib.hid hx
  clear hl hx
  go_enter Tryd.func6, Tryd.ntmps6
  go_wp2
  go_loopw [3, 4] (fun ov iv wr => ∃ (k : Nat) (qs : List Two2), k ≤ l.length ∧ iv = .int .i64 k ∧ wr.ownsRow w.heap.size 55 2 ov qs.length (flatW qs) ∧ PT wr (Mine w.heap.size ov wr) qs ((l.take k).map ptOf) ∧ Below w.heap.size w wr) (fun _ iv _ => l.length - (intOf iv).toNat)
  case atStart => exact ⟨0, [], by omega, rfl, World.ownsRow_nil _ _ _ _, PT.nil _ _, Below.refl _ _⟩
  case round =>
    obtain ⟨k, qs, hk, rfl, how, pt, bl⟩ := hrel
    by_cases hlt : k < l.length
    · obtain ⟨b, o, rfl, hb, hx⟩ := HX.out (by omega)
      obtain ⟨⟨a, d, sh⟩, hv⟩ : ∃ q, l[k]? = some q := ⟨_, List.getElem?_eq_getElem hlt⟩
      obtain ⟨x0, x1, x2⟩ := hx k _ hv
      dsimp only at x0 x1 x2
      have c0 : wr.cell? ⟨b, o + k * 3, none⟩ = some (.int .i64 a) := (World.cell?_of_block (w := w) (bl.block _ hb)).trans x0
      have c1 : wr.cell? ⟨b, o + k * 3 + 1, none⟩ = some (.int .u8 (d.toNat : Int)) := (World.cell?_of_block (w := w) (bl.block _ hb)).trans x1
      have HT : Hid ((l.take (k + 1)).map ptOf = (l.take k).map ptOf ++ [ptOf (a, d, sh)]) := by
        show _ = _
        rw [List.take_add_one, hv, List.map_append]
        rfl
      have HQL : Hid (qs.length + 1 ≤ 1000000000) := by
        have := pt.1
        rw [List.length_map, List.length_take] at this
        have := HLL.out
        show _ ≤ _
        omega
      have hbw : b < wr.heap.size := Nat.lt_of_lt_of_le hb bl.size
      clear hx hv
      go_wp2_with fail
      refine (full_any d wr).mono ?_
      rintro e w3 ⟨rfl, k3, b3⟩
      have hk3 := b3.block b hbw
      have r0 : w3.cell? ⟨b, o + k * 3, none⟩ = some (.int .i64 a) := (World.cell?_of_block (w := wr) hk3).trans c0
      have r2 : w3.cell? ⟨b, o + k * 3 + 2, none⟩ = some (.bool sh) := (World.cell?_of_block (w := wr) hk3).trans ((World.cell?_of_block (w := w) (bl.block _ hb)).trans x2)
      have how3 := own_past b3 how
      have B3 := bl.trans (b3.mono bl.size)
      have hs3 := B3.size
      have hwl := bl.size
      have hne : Mine w.heap.size u3 w3 wr.heap.size := ⟨hwl, k3.lt, fun e => by have := own_lt how e; omega⟩
      have bs := (kb_full k3).mono (S' := Mine w.heap.size u3 w3) fun b hb => by subst hb; exact hne
      have pt3 := pt.mine b3
      have HPT : Hid (PT w3 (Mine w.heap.size u3 w3) qs ((l.take k).map ptOf)) := pt3
      clear x0 x1 x2 c0 c1 hk3 how pt pt3 b3
      cases sh with
      | false =>
        have pt4 := HPT.out.append (PT.one (a := a) bs)
        have HT2 : Hid ((l.take (k + 1)).map ptOf = (l.take k).map ptOf ++ [(a, full d)]) := by show _ = _; rw [HT.out]; rfl
        rw [← HT2.out] at pt4
        have hat := onep_at w3 55 a (.slice (some ⟨wr.heap.size, 0, none⟩) 256 256)
        have B4 := (Below.refl w3.heap.size w3).alloc (Nat.le_refl _) (.cells #[.int .i64 a, .slice (some ⟨wr.heap.size, 0, none⟩) 256 256] 55)
        have how4 := own_past B4 how3
        have pt5 := pt4.mine B4
        have BL4 := B3.trans (B4.mono hs3)
        have hs4 := BL4.size
        clear HPT HT HT2 pt4 B4 how3 bs hne k3
        go_wp2_with (at_builtin; refine wpList_growP _ rfl _ _ rfl w.heap.size u3 qs rfl how4 ⟨w3.heap.size, 0, none⟩ 1 1 [(a, .slice (some ⟨wr.heap.size, 0, none⟩) 256 256)] rfl rfl hat (by intro u hu; simp [flatW, two2] at hu; rcases hu with rfl | rfl <;> rfl) HQL.out hs4 ?_; intro v5 w5 how5 g5 ho5)
        go_roundw
        case rel => exact ⟨k + 1, _, by omega, by go_num, how5, pt5.minegrow g5 ho5, BL4.grown g5 hs4 fun g e => own_ge how4 g e⟩
        case measure => simp [intOf]; omega
      | true =>
        have bs9 := bs.take 9 (by rw [full_len]; omega)
        have pt4 := HPT.out.append (PT.one (a := a) bs9)
        have HT2 : Hid ((l.take (k + 1)).map ptOf = (l.take k).map ptOf ++ [(a, (full d).take 9)]) := by show _ = _; rw [HT.out]; rfl
        rw [← HT2.out] at pt4
        have hat := onep_at w3 55 a (.slice (some ⟨wr.heap.size, 0, none⟩) 9 256)
        have B4 := (Below.refl w3.heap.size w3).alloc (Nat.le_refl _) (.cells #[.int .i64 a, .slice (some ⟨wr.heap.size, 0, none⟩) 9 256] 55)
        have how4 := own_past B4 how3
        have pt5 := pt4.mine B4
        have BL4 := B3.trans (B4.mono hs3)
        have hs4 := BL4.size
        clear HPT HT HT2 pt4 B4 how3 bs bs9 hne k3
        go_wp2_with (at_builtin; refine wpList_growP _ rfl _ _ rfl w.heap.size u3 qs rfl how4 ⟨w3.heap.size, 0, none⟩ 1 1 [(a, .slice (some ⟨wr.heap.size, 0, none⟩) 9 256)] rfl rfl hat (by intro u hu; simp [flatW, two2] at hu; rcases hu with rfl | rfl <;> rfl) HQL.out hs4 ?_; intro v5 w5 how5 g5 ho5)
        go_roundw
        case rel => exact ⟨k + 1, _, by omega, by go_num, how5, pt5.minegrow g5 ho5, BL4.grown g5 hs4 fun g e => own_ge how4 g e⟩
        case measure => simp [intOf]; omega
    · obtain rfl : k = l.length := by omega
      rw [List.take_length] at pt
      have hp := PS_of_own (S := fun x => w.heap.size ≤ x ∧ x < wr.heap.size) how (pt.mono fun x hx => ⟨hx.1, hx.2.1⟩) fun x h1 h2 => ⟨h1, h2⟩
      clear pt how
      go_wp2_with fail
      go_ret
      exact ⟨_, rfl, hp, bl⟩

set_option maxHeartbeats 1000000 in
/-- SameAll. -/
theorem sameAll_any (S S' : Nat → Prop) (x y : Value) (ls ms : List (List UInt8)) (w : World) (hx : LS w S x ls) (hy : LS w S' y ms) :
    Calls Tryd.prog 18 #[x, y] w fun e w' => e = .returned (.bool (decide (ls = ms))) ∧ Below w.heap.size w w' := by
  obtain ⟨A, c, rfl, hc, hcm⟩ := hx.form
  obtain ⟨A', c', rfl, hc', hcm'⟩ := hy.form
  obtain ⟨R, hR⟩ : ∃ R, R = decide (ls = ms) := ⟨_, rfl⟩
  have HR := Lib.hid hR
  rw [← hR]
  clear hR
  have hlen : ls.length ≤ 9223372036854775807 := by unfold maxLen at hcm; omega
  by_cases hl : ls.length = ms.length
  · have D0 : ((ls.length : Int) != (ms.length : Int)) = false := by simp; omega
    have HL := Lib.hid hl
    have HX := Lib.hid hx
    have HY := Lib.hid hy
    clear hx hy
    rw [← hl] at hc' ⊢
    clear hl D0
    have D0 : ((ls.length : Int) != (ls.length : Int)) = false := by simp
    go_enter Tryd.func18, Tryd.ntmps18
    go_wp2
    go_loopw [5] (fun iv wr => ∃ k : Nat, k ≤ ls.length ∧ iv = .int .i64 k ∧ Hid (ls.take k = ms.take k) ∧ Below w.heap.size w wr) (fun iv _ => ls.length - (intOf iv).toNat)
    case atStart => exact ⟨0, by omega, rfl, by show _ = _; simp, Below.refl _ _⟩
    case round =>
      obtain ⟨k, hk, rfl, HT, bl⟩ := hrel
      by_cases hlt : k < ls.length
      · obtain ⟨b, o, rfl, _, hb, h1⟩ := (HX.out.below' bl).at_ (by omega)
        obtain ⟨b', o', rfl, _, hb', h2⟩ := (HY.out.below' bl).at_ (by have := HL.out; omega)
        obtain ⟨X, z, k0, bs⟩ := h1 k _ (List.getElem?_eq_getElem hlt)
        have hkm : k < ms.length := by have := HL.out; omega
        obtain ⟨X', z', k0', bs'⟩ := h2 k _ (List.getElem?_eq_getElem hkm)
        have hsm := fun n => same_is _ _ _ _ _ _ (wr.drewN n) (bs.drewN n) (bs'.drewN n)
        have HE : Hid (ls[k] = ms[k] → ls.take (k + 1) = ms.take (k + 1)) := fun e => by
          show _ = _
          rw [List.take_add_one, List.take_add_one, HT.out, List.getElem?_eq_getElem hlt, List.getElem?_eq_getElem hkm, e]
        have HNE : Hid (¬ ls[k] = ms[k] → R = false) := fun e => by
          rw [HR.out]
          exact decide_eq_false fun h => e (by subst h; rfl)
        generalize ls[k] = l1 at *
        generalize ms[k] = l2 at *
        clear h1 h2 bs bs' HT
        by_cases e : l1 = l2
        · rw [decide_eq_true e] at hsm
          have HT2 := Lib.hid (HE.out e)
          clear HE HNE e
          go_wp2_with fail
          go_region_held3 (fun W => W.cell? ⟨b, o + k, none⟩ = some (.slice X l1.length z) ∧ W.cell? ⟨b', o' + k, none⟩ = some (.slice X' l2.length z')) (first | exact ⟨k0, k0'⟩ | exact ⟨(World.cell?_of_block (w := wr) (b5.block _ hb)).trans k0, (World.cell?_of_block (w := wr) (b5.block _ hb')).trans k0'⟩ | go_keep)
            (first | (go_at_call 23; refine (hsm 1).mono ?_; rintro e w5 ⟨rfl, b5⟩) | fail)
          have BL := bl.trans ((Below_drawn (Below.refl wr.heap.size wr) 1).trans b5 |>.mono bl.size)
          go_wp2_with fail
          go_roundw
          case rel => exact ⟨k + 1, by omega, by go_num, HT2, BL⟩
          case measure => simp [intOf]; omega
        · rw [decide_eq_false e] at hsm
          have hr := HNE.out e
          subst hr
          clear HE HNE e
          go_wp2_with fail
          go_region_held3 (fun W => W.cell? ⟨b, o + k, none⟩ = some (.slice X l1.length z) ∧ W.cell? ⟨b', o' + k, none⟩ = some (.slice X' l2.length z')) (first | exact ⟨k0, k0'⟩ | exact ⟨(World.cell?_of_block (w := wr) (b5.block _ hb)).trans k0, (World.cell?_of_block (w := wr) (b5.block _ hb')).trans k0'⟩ | go_keep)
            (first | (go_at_call 23; refine (hsm 1).mono ?_; rintro e w5 ⟨rfl, b5⟩) | fail)
          have BL := bl.trans ((Below_drawn (Below.refl wr.heap.size wr) 1).trans b5 |>.mono bl.size)
          go_wp2_with fail
          go_ret
          exact ⟨rfl, BL⟩
      · obtain rfl : k = ls.length := by omega
        have hr : R = true := by
          rw [HR.out]
          have := HT.out
          rw [List.take_length, HL.out, List.take_length] at this
          exact decide_eq_true this
        subst hr
        clear HT
        go_wp2_with fail
        go_ret
        exact ⟨rfl, bl⟩
  · have hr : R = false := by
      rw [HR.out]
      exact decide_eq_false fun h => hl (by rw [h])
    subst hr
    have D0 : ((ls.length : Int) != (ms.length : Int)) = true := by simp; omega
    have D1 : ¬ (ls.length : Int) = (ms.length : Int) := by omega
    have D2 := hl
    go_enter Tryd.func18, Tryd.ntmps18
    go_wp2
    go_ret
    exact ⟨rfl, Below.refl _ _⟩
end Go.Proofs.YtgoifhpinoodgaaDoor
end

section
namespace Go.Proofs.YtgoifhpinoodgaaDoor
open Go.RowKit
set_option linter.unusedVariables false

theorem copy_any (S : Nat → Prop) (v : Value) (l : List UInt8) (w : World) (h : BS w S v l) (hl : l.length ≤ 140737488355328) :
    Calls Tryd.prog 28 #[v] w fun e w' => Fresh w e w' l := by
  obtain ⟨i0, hi, hz0, hz1, hz2⟩ := info_parts info_byte
  go_enter Tryd.func28, Tryd.ntmps28
  go_wp2_with (at_builtin; refine wpList_grow _ rfl _ _ _ rfl w.heap.size 5 i0 Tryd.underlying34 hi hz0 hz1 hz2 (.slice (some ⟨w.heap.size, 0, none⟩) 0 0) [] rfl (World.ownsRow_lit w #[] 0 (Nat.le_refl _) (by simp [maxLen]) rfl) S _ l rfl (h.alloc _) (by simp; omega) (by simp) ?_; intro v1 w1 hown hg _)
  go_ret
  exact ⟨_, rfl, hown, ((Below.refl _ _).alloc (Nat.le_refl _) _).grown hg (by simp) (by simp [Value.ownBlock])⟩
end Go.Proofs.YtgoifhpinoodgaaDoor
end
