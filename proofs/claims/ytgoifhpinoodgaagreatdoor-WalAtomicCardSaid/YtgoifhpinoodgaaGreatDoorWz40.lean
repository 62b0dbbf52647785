/-
  WbB: What the statements of layer 10 hand in: Of; SameAll; over the loaded program. No condition but what each theorem names.
  DkO: Arguments of the statements of layer 8, opened: a list of acts, and a list of bools. No condition.
  WbE: Arguments of the statements of layer 10, opened: a list of patches. No condition.
-/
import Derived.Test.YtgoifhpinoodgaaGreatDoorWz39
import Derived.Deep.RegionHeld3
import Derived.Test.YtgoifhpinoodgaaGreatDoorWz21
import Derived.Test.YtgoifhpinoodgaaGreatDoorWz06
import Derived.Test.YtgoifhpinoodgaaGreatDoorWz03
import Derived.Deep.Grids

section
namespace Go.Proofs.YtgoifhpinoodgaaGreatDoor
open Go.RowKit
set_option maxRecDepth 100000
set_option linter.unusedVariables false

/-- What a statement's patch is. -/
abbrev Pu := Int × UInt8 × Bool
def ptOf (q : Pu) : Pt := (q.1, if q.2.2 = true then (full q.2.1).take 9 else full q.2.1)
/-- The slice value v reads, in w, as these. -/
def US (w : World) (v : Value) (l : List Pu) : Prop :=
  ∃ A c, v = .slice A l.length c ∧ l.length ≤ c ∧ c ≤ maxLen ∧
    (0 < l.length → ∃ b o, A = some ⟨b, o, none⟩ ∧ b < w.heap.size ∧ ∀ j q, l[j]? = some q → w.cell? ⟨b, o + j * 3, none⟩ = some (.int .i64 q.1) ∧ w.cell? ⟨b, o + j * 3 + 1, none⟩ = some (.int .u8 (q.2.1.toNat : Int)) ∧ w.cell? ⟨b, o + j * 3 + 2, none⟩ = some (.bool q.2.2))
theorem US.below {w w' : World} {v : Value} {l : List Pu} (h : US w v l) (hb : Below w.heap.size w w') : US w' v l := by
  obtain ⟨A, c, e, hl, hc, hx⟩ := h
  refine ⟨A, c, e, hl, hc, fun h0 => ?_⟩
  obtain ⟨b, o, ea, hlt, hx⟩ := hx h0
  have hk := hb.block b hlt
  refine ⟨b, o, ea, Nat.lt_of_lt_of_le hlt hb.size, fun j q hj => ?_⟩
  obtain ⟨h1, h2, h3⟩ := hx j q hj
  exact ⟨(World.cell?_of_block (w := w) hk).trans h1, (World.cell?_of_block (w := w) hk).trans h2, (World.cell?_of_block (w := w) hk).trans h3⟩

set_option maxHeartbeats 2000000 in
/-- Of. -/
theorem ofl_any (v : Value) (l : List Pu) (w : World) (h : US w v l) (hl : l.length ≤ 1000000) : Calls Tryz.prog 9 #[v] w fun e w' => ∃ v', e = .returned v' ∧ PS w' (fun x => w.heap.size ≤ x ∧ x < w'.heap.size) v' (l.map ptOf) ∧ Below w.heap.size w w' := by
  obtain ⟨A, c, rfl, hc, hcm, hx⟩ := h
  have hlen : l.length ≤ 9223372036854775807 := by omega
  have HLL := Lib.hid hl
  have HX := Lib.hid hx
  clear hl hx
  go_enter Tryz.func9, Tryz.ntmps9
  go_wp2
  go_loopw [3, 4] (fun ov iv wr => ∃ (k : Nat) (qs : List Two2), k ≤ l.length ∧ iv = .int .i64 k ∧ wr.ownsRow w.heap.size 51 2 ov qs.length (flatW qs) ∧ PT wr (Mine w.heap.size ov wr) qs ((l.take k).map ptOf) ∧ Below w.heap.size w wr) (fun _ iv _ => l.length - (intOf iv).toNat)
  case atStart => exact ⟨0, [], by omega, rfl, World.ownsRow_nil _ _ _ _, PT.nil _ _, Below.refl _ _⟩
  case round =>
    obtain ⟨k, qs, hk, rfl, how, pt, bl⟩ := hrel
    by_cases hlt : k < l.length
    · obtain ⟨b, o, rfl, hb, hx⟩ := HX.out (by omega)
      obtain ⟨⟨a, d, sh⟩, hv⟩ : ∃ q, l[k]? = some q := ⟨_, List.getElem?_eq_getElem hlt⟩
      obtain ⟨x0, x1, x2⟩ := hx k _ hv
      dsimp only at x0 x1 x2
      have c0 : wr.cell? ⟨b, o + k * 3, none⟩ = some (.int .i64 a) := (World.cell?_of_block (w := w) (bl.block _ hb)).trans x0
      have c1 : wr.cell? ⟨b, o + k * 3 + 1, none⟩ = some (.int .u8 (d.toNat : Int)) := (World.cell?_of_block (w := w) (bl.block _ hb)).trans x1
      have HT : Hid ((l.take (k + 1)).map ptOf = (l.take k).map ptOf ++ [ptOf (a, d, sh)]) := by
        show _ = _
        rw [List.take_add_one, hv, List.map_append]
        rfl
      have HQL : Hid (qs.length + 1 ≤ 1000000000) := by
        have := pt.1
        rw [List.length_map, List.length_take] at this
        have := HLL.out
        show _ ≤ _
        omega
      have hbw : b < wr.heap.size := Nat.lt_of_lt_of_le hb bl.size
      clear hx hv
      go_wp2_with fail
      refine (full_any d wr).mono ?_
      rintro e w3 ⟨rfl, k3, b3⟩
      have hk3 := b3.block b hbw
      have r0 : w3.cell? ⟨b, o + k * 3, none⟩ = some (.int .i64 a) := (World.cell?_of_block (w := wr) hk3).trans c0
      have r2 : w3.cell? ⟨b, o + k * 3 + 2, none⟩ = some (.bool sh) := (World.cell?_of_block (w := wr) hk3).trans ((World.cell?_of_block (w := w) (bl.block _ hb)).trans x2)
      have how3 := own_past b3 how
      have B3 := bl.trans (b3.mono bl.size)
      have hs3 := B3.size
      have hwl := bl.size
      have hne : Mine w.heap.size u3 w3 wr.heap.size := ⟨hwl, k3.lt, fun e => by have := own_lt how e; omega⟩
      have bs := (kb_full k3).mono (S' := Mine w.heap.size u3 w3) fun b hb => by subst hb; exact hne
      have pt3 := pt.mine b3
      have HPT : Hid (PT w3 (Mine w.heap.size u3 w3) qs ((l.take k).map ptOf)) := pt3
      clear x0 x1 x2 c0 c1 hk3 how pt pt3 b3
      cases sh with
      | false =>
        have pt4 := HPT.out.append (PT.one (a := a) bs)
        have HT2 : Hid ((l.take (k + 1)).map ptOf = (l.take k).map ptOf ++ [(a, full d)]) := by show _ = _; rw [HT.out]; rfl
        rw [← HT2.out] at pt4
        have hat := onep_at w3 51 a (.slice (some ⟨wr.heap.size, 0, none⟩) 256 256)
        have B4 := (Below.refl w3.heap.size w3).alloc (Nat.le_refl _) (.cells #[.int .i64 a, .slice (some ⟨wr.heap.size, 0, none⟩) 256 256] 51)
        have how4 := own_past B4 how3
        have pt5 := pt4.mine B4
        have BL4 := B3.trans (B4.mono hs3)
        have hs4 := BL4.size
        clear HPT HT HT2 pt4 B4 how3 bs hne k3
        go_wp2_with (at_builtin; refine wpList_growP _ rfl _ _ rfl w.heap.size u3 qs rfl how4 ⟨w3.heap.size, 0, none⟩ 1 1 [(a, .slice (some ⟨wr.heap.size, 0, none⟩) 256 256)] rfl rfl hat (by intro u hu; simp [flatW, two2] at hu; rcases hu with rfl | rfl <;> rfl) HQL.out hs4 ?_; intro v5 w5 how5 g5 ho5)
        go_roundw
        case rel => exact ⟨k + 1, _, by omega, by go_num, how5, pt5.minegrow g5 ho5, BL4.grown g5 hs4 fun g e => own_ge how4 g e⟩
        case measure => simp [intOf]; omega
      | true =>
        have bs9 := bs.take 9 (by rw [full_len]; omega)
        have pt4 := HPT.out.append (PT.one (a := a) bs9)
        have HT2 : Hid ((l.take (k + 1)).map ptOf = (l.take k).map ptOf ++ [(a, (full d).take 9)]) := by show _ = _; rw [HT.out]; rfl
        rw [← HT2.out] at pt4
        have hat := onep_at w3 51 a (.slice (some ⟨wr.heap.size, 0, none⟩) 9 256)
        have B4 := (Below.refl w3.heap.size w3).alloc (Nat.le_refl _) (.cells #[.int .i64 a, .slice (some ⟨wr.heap.size, 0, none⟩) 9 256] 51)
        have how4 := own_past B4 how3
        have pt5 := pt4.mine B4
        have BL4 := B3.trans (B4.mono hs3)
        have hs4 := BL4.size
        clear HPT HT HT2 pt4 B4 how3 bs bs9 hne k3
        go_wp2_with (at_builtin; refine wpList_growP _ rfl _ _ rfl w.heap.size u3 qs rfl how4 ⟨w3.heap.size, 0, none⟩ 1 1 [(a, .slice (some ⟨wr.heap.size, 0, none⟩) 9 256)] rfl rfl hat (by intro u hu; simp [flatW, two2] at hu; rcases hu with rfl | rfl <;> rfl) HQL.out hs4 ?_; intro v5 w5 how5 g5 ho5)
        go_roundw
        case rel => exact ⟨k + 1, _, by omega, by go_num, how5, pt5.minegrow g5 ho5, BL4.grown g5 hs4 fun g e => own_ge how4 g e⟩
        case measure => simp [intOf]; omega
    · obtain rfl : k = l.length := by omega
      rw [List.take_length] at pt
      have hp := PS_of_own (S := fun x => w.heap.size ≤ x ∧ x < wr.heap.size) how (pt.mono fun x hx => ⟨hx.1, hx.2.1⟩) fun x h1 h2 => ⟨h1, h2⟩
      clear pt how
      go_wp2_with fail
      go_ret
      exact ⟨_, rfl, hp, bl⟩

set_option maxHeartbeats 1000000 in
/-- SameAll. -/
theorem sameAll_any (S S' : Nat → Prop) (x y : Value) (ls ms : List (List UInt8)) (w : World) (hx : LS w S x ls) (hy : LS w S' y ms) :
    Calls Tryz.prog 16 #[x, y] w fun e w' => e = .returned (.bool (decide (ls = ms))) ∧ Below w.heap.size w w' := by
  obtain ⟨A, c, rfl, hc, hcm⟩ := hx.form
  obtain ⟨A', c', rfl, hc', hcm'⟩ := hy.form
  obtain ⟨R, hR⟩ : ∃ R, R = decide (ls = ms) := ⟨_, rfl⟩
  have HR := Lib.hid hR
  rw [← hR]
  clear hR
  have hlen : ls.length ≤ 9223372036854775807 := by unfold maxLen at hcm; omega
  by_cases hl : ls.length = ms.length
  · have D0 : ((ls.length : Int) != (ms.length : Int)) = false := by simp; omega
    have HL := Lib.hid hl
    have HX := Lib.hid hx
    have HY := Lib.hid hy
    clear hx hy
    rw [← hl] at hc' ⊢
    clear hl D0
    have D0 : ((ls.length : Int) != (ls.length : Int)) = false := by simp
    go_enter Tryz.func16, Tryz.ntmps16
    go_wp2
    go_loopw [5] (fun iv wr => ∃ k : Nat, k ≤ ls.length ∧ iv = .int .i64 k ∧ Hid (ls.take k = ms.take k) ∧ Below w.heap.size w wr) (fun iv _ => ls.length - (intOf iv).toNat)
    case atStart => exact ⟨0, by omega, rfl, by show _ = _; simp, Below.refl _ _⟩
    case round =>
      obtain ⟨k, hk, rfl, HT, bl⟩ := hrel
      by_cases hlt : k < ls.length
      · obtain ⟨b, o, rfl, _, hb, h1⟩ := (HX.out.below' bl).at_ (by omega)
        obtain ⟨b', o', rfl, _, hb', h2⟩ := (HY.out.below' bl).at_ (by have := HL.out; omega)
        obtain ⟨X, z, k0, bs⟩ := h1 k _ (List.getElem?_eq_getElem hlt)
        have hkm : k < ms.length := by have := HL.out; omega
        obtain ⟨X', z', k0', bs'⟩ := h2 k _ (List.getElem?_eq_getElem hkm)
        have hsm := fun n => same_is _ _ _ _ _ _ (wr.drewN n) (bs.drewN n) (bs'.drewN n)
        have HE : Hid (ls[k] = ms[k] → ls.take (k + 1) = ms.take (k + 1)) := fun e => by
          show _ = _
          rw [List.take_add_one, List.take_add_one, HT.out, List.getElem?_eq_getElem hlt, List.getElem?_eq_getElem hkm, e]
        have HNE : Hid (¬ ls[k] = ms[k] → R = false) := fun e => by
          rw [HR.out]
          exact decide_eq_false fun h => e (by subst h; rfl)
        generalize ls[k] = l1 at *
        generalize ms[k] = l2 at *
        clear h1 h2 bs bs' HT
        by_cases e : l1 = l2
        · rw [decide_eq_true e] at hsm
          have HT2 := Lib.hid (HE.out e)
          clear HE HNE e
          go_wp2_with fail
          go_region_held3 (fun W => W.cell? ⟨b, o + k, none⟩ = some (.slice X l1.length z) ∧ W.cell? ⟨b', o' + k, none⟩ = some (.slice X' l2.length z')) (first | exact ⟨k0, k0'⟩ | exact ⟨(World.cell?_of_block (w := wr) (b5.block _ hb)).trans k0, (World.cell?_of_block (w := wr) (b5.block _ hb')).trans k0'⟩ | go_keep)
            (first | (go_at_call 19; refine (hsm 1).mono ?_; rintro e w5 ⟨rfl, b5⟩) | fail)
          have BL := bl.trans ((Below_drawn (Below.refl wr.heap.size wr) 1).trans b5 |>.mono bl.size)
          go_wp2_with fail
          go_roundw
          case rel => exact ⟨k + 1, by omega, by go_num, HT2, BL⟩
          case measure => simp [intOf]; omega
        · rw [decide_eq_false e] at hsm
          have hr := HNE.out e
          subst hr
          clear HE HNE e
          go_wp2_with fail
          go_region_held3 (fun W => W.cell? ⟨b, o + k, none⟩ = some (.slice X l1.length z) ∧ W.cell? ⟨b', o' + k, none⟩ = some (.slice X' l2.length z')) (first | exact ⟨k0, k0'⟩ | exact ⟨(World.cell?_of_block (w := wr) (b5.block _ hb)).trans k0, (World.cell?_of_block (w := wr) (b5.block _ hb')).trans k0'⟩ | go_keep)
            (first | (go_at_call 19; refine (hsm 1).mono ?_; rintro e w5 ⟨rfl, b5⟩) | fail)
          have BL := bl.trans ((Below_drawn (Below.refl wr.heap.size wr) 1).trans b5 |>.mono bl.size)
          go_wp2_with fail
          go_ret
          exact ⟨rfl, BL⟩
      · obtain rfl : k = ls.length := by omega
        have hr : R = true := by
          rw [HR.out]
          have := HT.out
          rw [List.take_length, HL.out, List.take_length] at this
          exact decide_eq_true this
        subst hr
        clear HT
        go_wp2_with fail
        go_ret
        exact ⟨rfl, bl⟩
  · have hr : R = false := by
      rw [HR.out]
      exact decide_eq_false fun h => hl (by rw [h])
    subst hr
    have D0 : ((ls.length : Int) != (ms.length : Int)) = true := by simp; omega
    have D1 : ¬ (ls.length : Int) = (ms.length : Int) := by omega
    have D2 := hl
    go_enter Tryz.func16, Tryz.ntmps16
    go_wp2
    go_ret
    exact ⟨rfl, Below.refl _ _⟩
end Go.Proofs.YtgoifhpinoodgaaGreatDoor
end

section
namespace Go.Proofs.YtgoifhpinoodgaaGreatDoor
open Go.RowKit Go.ChangeShapes Go.WideShapes Go.Joins
set_option maxRecDepth 100000
set_option linter.unusedVariables false

/-- A list of bools that came in. -/
theorem open_keep {H : Type} {enc : TypeId × Value → H} {W : World} {base : Nat} {v : Value} {d : DataW H} {p : List MemPlace}
    (ok : Value.okWide Tryz.prog W .any base 40 v) (h : DataW.Trod enc Tryz.prog W 0 (fun _ => true) true 40 v d p) : ∃ ks : List Bool, CS W (fun b => b < W.heap.size) v (ks.map Value.bool) := by
  obtain ⟨a0, len, cap, rfl⟩ := okWide_slice Tryz.underlying40 ok
  obtain ⟨fuel, hf⟩ := h
  rcases Deep.open_bools Tryz.underlying40 Tryz.underlying4 (by kernel_rfl) hf with ⟨hcs, _⟩ | ⟨a, len', cap', B, hcs, _, hl, hm, _, hc⟩
  · simp [Value.cells] at hcs
    obtain ⟨rfl, rfl, rfl⟩ := hcs
    exact ⟨[], CS.nil _ _⟩
  · simp [Value.cells] at hcs
    obtain ⟨rfl, rfl, rfl⟩ := hcs
    have hlen : (((List.range len).map B).map Value.bool).length = len := by simp
    refine ⟨(List.range len).map B, some a, cap, by rw [hlen], by omega, hm, fun h0 => ?_⟩
    rw [hlen] at h0
    obtain ⟨b, o, spot⟩ := a
    have k0 := hc 0 (by omega)
    have hspot : spot = none := by simpa [Addr.add] using World.cell?_spot k0
    subst hspot
    rw [add_plain] at k0
    refine ⟨b, o, rfl, World.block_lt_of_cell? _ _ k0, World.block_lt_of_cell? _ _ k0, fun j u hu => ?_⟩
    have hj : j < len := by
      have := (List.getElem?_eq_some_iff.1 hu).1
      omega
    have kj := hc j (by omega)
    rw [add_plain] at kj
    rw [kj]
    simpa [hj] using hu

/-- An act, as a law takes it. -/
structure Ac where
  kind : Int
  at_ : Int
  c : UInt8
  short : Bool
  keep : Value
def acRow (a : Ac) : List Value := [.int .i64 a.kind, .int .i64 a.at_, bv a.c, .bool a.short, a.keep]
def Ac.ok (a : Ac) : Prop := (∃ A n c, a.keep = .slice A n c) ∧ -9223372036854775808 ≤ a.kind ∧ a.kind ≤ 9223372036854775807 ∧ -9223372036854775808 ≤ a.at_ ∧ a.at_ ≤ 9223372036854775807

/-- The slice value v reads, in w, as the acts l. -/
def AS (w : World) (v : Value) (l : List Ac) : Prop :=
  ∃ A c, v = .slice A l.length c ∧ l.length ≤ c ∧ c ≤ maxLen ∧ (0 < l.length → ∃ b o, A = some ⟨b, o, none⟩ ∧ b < w.heap.size ∧ ∀ (i : Nat) (a : Ac), l[i]? = some a → a.ok ∧ w.rangeAt b (o + i * 5) (acRow a))
theorem AS.below {w w' : World} {v : Value} {l : List Ac} (h : AS w v l) (hb : Below w.heap.size w w') : AS w' v l := by
  obtain ⟨A, c, e, h1, h2, hx⟩ := h
  refine ⟨A, c, e, h1, h2, fun h0 => ?_⟩
  obtain ⟨b, o, ea, hlt, hx⟩ := hx h0
  refine ⟨b, o, ea, Nat.lt_of_lt_of_le hlt hb.size, fun i a hi => ⟨(hx i a hi).1, fun j u hj => ?_⟩⟩
  exact (World.cell?_of_block (w := w) (hb.block b hlt)).trans ((hx i a hi).2 j u hj)

theorem cells_bool : Tryz.prog.cellsOf 4 = 1 := by kernel_rfl
theorem cells_i : Tryz.prog.cellsOf 3 = 1 := by kernel_rfl
theorem cells_bools : Tryz.prog.cellsOf 40 = 1 := by kernel_rfl

end Go.Proofs.YtgoifhpinoodgaaGreatDoor
end

section
namespace Go.Proofs.YtgoifhpinoodgaaGreatDoor
open Go.RowKit Go.ChangeShapes Go.WideShapes Go.Joins
set_option maxRecDepth 100000
set_option linter.unusedVariables false

theorem cells_put : Tryz.prog.cellsOf 73 = 3 := by kernel_rfl
def puRow (q : Pu) : List Value := [.int .i64 q.1, bv q.2.1, .bool q.2.2]

theorem open_put {H : Type} {enc : TypeId × Value → H} {W : World} {fuel : Nat} {cs : List Value} {x : DataW H × List MemPlace}
    (h : DataW.trod enc Tryz.prog W 0 (fun _ => true) true fuel 73 cs = some x) : ∃ a : Pu, cs = puRow a := by
  obtain ⟨xs, n, _, _, hl, hlen, hf⟩ := DataW.trod_struct Tryz.underlying73 h
  rw [cells_put] at hl
  match cs, hl with
  | [c0, c1, c2], _ =>
    have hxs : xs.length = 3 := by simpa using hlen
    have at_ : ∀ i, (hi : i < 3) → xs[i]? = some (xs[i]'(by omega)) := fun i hi => List.getElem?_eq_getElem (by omega)
    have k0 : DataW.trod enc Tryz.prog W 0 (fun _ => true) true n 3 ([c0, c1, c2].drop 0 |>.take (Tryz.prog.cellsOf 3)) = some (xs[0]'(by omega)) := (hf 0 _ rfl).trans (at_ 0 (by omega))
    have k1 : DataW.trod enc Tryz.prog W 0 (fun _ => true) true n 5 ([c0, c1, c2].drop 1 |>.take (Tryz.prog.cellsOf 5)) = some (xs[1]'(by omega)) := (hf 1 _ rfl).trans (at_ 1 (by omega))
    have k2 : DataW.trod enc Tryz.prog W 0 (fun _ => true) true n 4 ([c0, c1, c2].drop 2 |>.take (Tryz.prog.cellsOf 4)) = some (xs[2]'(by omega)) := (hf 2 _ rfl).trans (at_ 2 (by omega))
    rw [cells_i] at k0
    rw [cells_byte] at k1
    rw [cells_bool] at k2
    obtain ⟨t, e0, _, w0⟩ := DataW.trod_int Tryz.underlying3 k0
    obtain ⟨c, e1, _, w1⟩ := DataW.trod_int Tryz.underlying5 k1
    obtain ⟨s, e2, _⟩ := DataW.trod_bool Tryz.underlying4 k2
    simp at e0 e1 e2
    subst e0 e1 e2
    refine ⟨(t, byteOf c, s), ?_⟩
    unfold puRow bv
    dsimp only
    rw [byteOf_nat w1]

/-- A list of patches that came in. -/
theorem open_puts {H : Type} {enc : TypeId × Value → H} {W : World} {base : Nat} {v : Value} {d : DataW H} {p : List MemPlace}
    (ok : Value.okWide Tryz.prog W .any base 22 v) (h : DataW.Trod enc Tryz.prog W 0 (fun _ => true) true 22 v d p) : ∃ l : List Pu, US W v l := by
  obtain ⟨a0, len, cap, rfl⟩ := okWide_slice Tryz.underlying22 ok
  obtain ⟨fuel, hf⟩ := h
  rcases DataW.trod_slice Tryz.underlying22 hf with ⟨hcs, _⟩ | ⟨a, len', cap', elems, rest, n, _, hcs, _, _, hlc, hm, hel, hi, _, _⟩
  · simp [Value.cells] at hcs
    obtain ⟨rfl, rfl, rfl⟩ := hcs
    exact ⟨[], none, 0, rfl, by simp, by simp [maxLen], fun h => absurd h (by simp)⟩
  · simp [Value.cells] at hcs
    obtain ⟨rfl, rfl, rfl⟩ := hcs
    rw [cells_put] at hi
    have hi2 : ∀ i, i < len → ∃ b : Pu, ∀ (j : Nat) (u : Value), (puRow b)[j]? = some u → W.cell? ((a.add (i * 3)).add j) = some u := by
      intro i hil
      have := hi i hil
      rw [List.getElem?_eq_getElem (by omega)] at this
      obtain ⟨cs, hcs, htr⟩ := Option.bind_eq_some_iff.1 this
      obtain ⟨b, rfl⟩ := open_put htr
      obtain ⟨_, _, hcell⟩ := World.cells?_some hcs
      refine ⟨b, fun j u hj => ?_⟩
      have hjl := (List.getElem?_eq_some_iff.1 hj).1
      rw [hcell j (by simpa [puRow] using hjl)]
      exact hj
    haveI : Inhabited Pu := ⟨(0, 0, false)⟩
    obtain ⟨f, hf⟩ := Deep.choose_lt (α := Pu) hi2
    have hlen : ((List.range len).map f).length = len := by simp
    refine ⟨(List.range len).map f, some a, cap, by rw [hlen], by omega, hm, fun h0 => ?_⟩
    rw [hlen] at h0
    obtain ⟨b, o, spot⟩ := a
    have k0 := hf 0 h0 0 _ rfl
    have hspot : spot = none := by simpa [Addr.add] using World.cell?_spot k0
    subst hspot
    rw [add_plain, add_plain] at k0
    refine ⟨b, o, rfl, World.block_lt_of_cell? _ _ k0, fun i x hix => ?_⟩
    have hil : i < len := by
      have := (List.getElem?_eq_some_iff.1 hix).1
      omega
    simp [hil] at hix
    subst hix
    have q0 := hf i hil 0 _ rfl
    have q1 := hf i hil 1 _ rfl
    have q2 := hf i hil 2 _ rfl
    rw [add_plain, add_plain] at q0 q1 q2
    exact ⟨q0, q1, q2⟩
end Go.Proofs.YtgoifhpinoodgaaGreatDoor
end
