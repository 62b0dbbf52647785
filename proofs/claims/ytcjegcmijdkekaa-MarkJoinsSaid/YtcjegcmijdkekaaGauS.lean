/-
  The document's powers of layer 3, over the loaded program: power, Inv, Pow: each one's contract.
  No condition but the sizes that each contract names.
-/
import Derived.Test.YtcjegcmijdkekaaGauR
namespace Go.Proofs.Ytcjegcmijdkekaa
open Go.RowKit Gau
set_option linter.unusedVariables false

/-- Three new blocks. -/
theorem three (w : World) (a b c : Array Value) (t : TypeId) :
    KB (((w.alloc (.cells a t)).alloc (.cells b t)).alloc (.cells c t)) w.heap.size t a ∧ KB (((w.alloc (.cells a t)).alloc (.cells b t)).alloc (.cells c t)) (w.heap.size + 1) t b ∧
    KB (((w.alloc (.cells a t)).alloc (.cells b t)).alloc (.cells c t)) (w.heap.size + 2) t c ∧ Below w.heap.size w (((w.alloc (.cells a t)).alloc (.cells b t)).alloc (.cells c t)) := by
  refine ⟨((KB.new w t a).alloc _).alloc _, ?_, ?_, (((Below.refl _ _).alloc (Nat.le_refl _) _).alloc (by simp) _).alloc (by simp only [alloc_size]; omega) _⟩
  · have h := (KB.new (w.alloc (.cells a t)) t b).alloc (.cells c t)
    rwa [alloc_size] at h
  · have h := KB.new ((w.alloc (.cells a t)).alloc (.cells b t)) t c
    rwa [alloc_size, alloc_size] at h

theorem half_less (m : Nat) (hp : 0 < m) (h : wrap64 ((m : Int) / 2) = (m : Int) / 2) : (intOf (.int .i64 (wrap64 ((m : Int) / 2)))).toNat < (intOf (.int .i64 (m : Int))).toNat := by
  rw [h]
  show ((m : Int) / 2).toNat < (m : Int).toNat
  omega

theorem rpower_nat (a : G) (n : Nat) (hn : n ≤ 9223372036854775807) (w : World) :
    Calls Try.prog 30 #[rz a, .int .i64 n] w fun e w' => e = .returned (rz (gpow a n)) ∧ Below w.heap.size w w' := by
  obtain ⟨r, hr⟩ : ∃ r, r = gpow a n := ⟨_, rfl⟩
  have HG : Hid (gmul one (gpow a n) = r) := (one_mul _).trans hr.symm
  rw [← hr]
  clear hr
  have HN := Lib.hid hn
  have hm := rmul_any
  unfold rz at *
  go_enter Try.func30, Try.ntmps30
  go_wp2
  go_loopw [1] (fun nv wr => ∃ (x y : G) (m : Nat), Hid (gmul y (gpow x m) = r) ∧ Hid (m ≤ 9223372036854775807) ∧ nv = .int .i64 m ∧ KB wr w.heap.size 29 #[.int .i64 x.re.val, .int .i64 x.im.val] ∧
    KB wr (w.heap.size + 1) 29 #[.int .i64 0, .int .i64 0] ∧ KB wr (w.heap.size + 2) 29 #[.int .i64 y.re.val, .int .i64 y.im.val] ∧ Below w.heap.size w wr) (fun nv _ => (intOf nv).toNat)
  case atStart =>
    obtain ⟨h1, h2, h3, h4⟩ := three w #[.int .i64 a.re.val, .int .i64 a.im.val] #[.int .i64 0, .int .i64 0] #[.int .i64 1, .int .i64 0] 29
    exact ⟨a, one, n, HG, HN, rfl, h1, h2, h3, h4⟩
  case round =>
    obtain ⟨x, y, m, hr, hb, rfl, k0, k1, k2, hbl⟩ := hrel
    have hs := hbl.size
    have c00 : wr.cell? ⟨w.heap.size, 0, none⟩ = some (.int .i64 x.re.val) := k0.cell 0
    have c01 : wr.cell? ⟨w.heap.size, 1, none⟩ = some (.int .i64 x.im.val) := k0.cell 1
    have c20 : wr.cell? ⟨w.heap.size + 2, 0, none⟩ = some (.int .i64 y.re.val) := k2.cell 0
    have c21 : wr.cell? ⟨w.heap.size + 2, 1, none⟩ = some (.int .i64 y.im.val) := k2.cell 1
    by_cases h0 : m = 0
    · subst h0
      have c10 : wr.cell? ⟨w.heap.size + 1, 0, none⟩ = some (.int .i64 0) := k1.cell 0
      have c11 : wr.cell? ⟨w.heap.size + 1, 1, none⟩ = some (.int .i64 0) := k1.cell 1
      have f10 := k1.free 0
      have f11 := k1.free 1
      have e := hr.out
      rw [gpow_zero, mul_one] at e
      subst e
      go_wp2
      refine bodyPost_ret (results_cell_row (P := Try.prog) rfl _ _ (w.heap.size + 1) _ _ (0, 0) _ rfl (put_two k1) Try.underlying29 rfl (by kernel_rfl)) rfl ⟨rfl, hbl.trans (below_of_grown' (grown_two _ _ _ _) (by omega) hbl.size)⟩
    · have hp : 0 < m := by omega
      have HM : Hid (m / 2 ≤ 9223372036854775807) := by
        have := hb.out
        show _ ≤ _
        omega
      have EW : wrap64 ((m : Int) / 2) = (m : Int) / 2 := by
        have := hb.out
        exact IntWalk.wrap64_in _ (by omega)
      have z0 := k0.lt
      have z1 := k1.lt
      have z2 := k2.lt
      have ET : (m : Int).tmod 2 = ((m % 2 : Nat) : Int) := rfl
      by_cases h2 : m % 2 = 1
      · rw [h2] at ET
        have HN : Hid (gmul (gmul y x) (gpow (gmul x x) (m / 2)) = r) := (gpow_odd y x m (by omega)).symm.trans hr.out
        clear hr
        go_wp2_with fail
        refine (hm y x _).mono ?_
        rintro e w1 ⟨rfl, hb1⟩
        have j0 := k0.below hb1 z0
        have j1 := k1.below hb1 z1
        have j2 := k2.below hb1 z2
        have c00 : w1.cell? ⟨w.heap.size, 0, none⟩ = some (.int .i64 x.re.val) := j0.cell 0
        have c01 : w1.cell? ⟨w.heap.size, 1, none⟩ = some (.int .i64 x.im.val) := j0.cell 1
        have c20 : w1.cell? ⟨w.heap.size + 2, 0, none⟩ = some (.int .i64 y.re.val) := j2.cell 0
        have c21 : w1.cell? ⟨w.heap.size + 2, 1, none⟩ = some (.int .i64 y.im.val) := j2.cell 1
        have f20 := j2.free 0
        have f21 := j2.free 1
        go_wp2_with fail
        refine (hm x x _).mono ?_
        rintro e w2 ⟨rfl, hb2⟩
        have i2 := (put_two (x := .int .i64 (gmul y x).re.val) (y := .int .i64 (gmul y x).im.val) j2).below hb2 (by simp; exact j2.lt)
        have i0 := ((j0.other (i := 0) (v := .int .i64 (gmul y x).re.val) (by omega)).other (i := 1) (v := .int .i64 (gmul y x).im.val) (by omega)).below hb2 (by simp; exact j0.lt)
        have i1 := ((j1.other (i := 0) (v := .int .i64 (gmul y x).re.val) (by omega)).other (i := 1) (v := .int .i64 (gmul y x).im.val) (by omega)).below hb2 (by simp; exact j1.lt)
        have B1 : Below w.heap.size w w1 := hbl.trans (hb1.mono hs)
        have B2 : Below w.heap.size w w2 := (B1.trans (below_of_grown' (grown_two w1 (w.heap.size + 2) _ _) (by omega) B1.size)).trans (hb2.mono (by simp; exact B1.size))
        clear c00 c01 c20 c21 f20 f21 hb1 hb2 j0 j1 j2
        have c00 : w2.cell? ⟨w.heap.size, 0, none⟩ = some (.int .i64 x.re.val) := i0.cell 0
        have c01 : w2.cell? ⟨w.heap.size, 1, none⟩ = some (.int .i64 x.im.val) := i0.cell 1
        have f00 := i0.free 0
        have f01 := i0.free 1
        go_wp2
        go_roundw
        case rel => exact ⟨gmul x x, gmul y x, m / 2, HN, HM, int_eq (by omega), put_two i0, (i1.other (by omega)).other (by omega), (i2.other (by omega)).other (by omega), B2.trans (below_of_grown' (grown_two _ _ _ _) (Nat.le_refl _) B2.size)⟩
        case measure => exact half_less m hp EW
      · rw [show m % 2 = 0 by omega] at ET
        have HN : Hid (gmul y (gpow (gmul x x) (m / 2)) = r) := (gpow_even y x m (by omega)).symm.trans hr.out
        clear hr
        go_wp2_with fail
        refine (hm x x _).mono ?_
        rintro e w2 ⟨rfl, hb2⟩
        have i2 := k2.below hb2 z2
        have i0 := k0.below hb2 z0
        have i1 := k1.below hb2 z1
        have B2 : Below w.heap.size w w2 := hbl.trans (hb2.mono hs)
        clear c00 c01 c20 c21 hb2
        have c00 : w2.cell? ⟨w.heap.size, 0, none⟩ = some (.int .i64 x.re.val) := i0.cell 0
        have c01 : w2.cell? ⟨w.heap.size, 1, none⟩ = some (.int .i64 x.im.val) := i0.cell 1
        have f00 := i0.free 0
        have f01 := i0.free 1
        go_wp2
        go_roundw
        case rel => exact ⟨gmul x x, y, m / 2, HN, HM, int_eq (by omega), put_two i0, (i1.other (by omega)).other (by omega), (i2.other (by omega)).other (by omega), B2.trans (below_of_grown' (grown_two _ _ _ _) (Nat.le_refl _) B2.size)⟩
        case measure => exact half_less m hp EW

theorem rinv_any (a : G) (w : World) :
    Calls Try.prog 31 #[rz a] w fun e w' => e = .returned (rz (ginv a)) ∧ Below w.heap.size w w' := by
  have hp := fun w => rpower_nat a 67092479 (by omega) w
  rw [ginv_pow] at hp
  unfold rz at *
  go_enter Try.func31, Try.ntmps31
  go_wp2_with fail
  refine (hp _).mono ?_
  rintro e w1 ⟨rfl, hb⟩
  obtain ⟨hk, hbw⟩ := second hb
  clear hb hp
  have c0 : w1.cell? ⟨w.heap.size + 1, 0, none⟩ = some (.int .i64 0) := hk.cell 0
  have c1 : w1.cell? ⟨w.heap.size + 1, 1, none⟩ = some (.int .i64 0) := hk.cell 1
  have f0 := hk.free 0
  have f1 := hk.free 1
  go_wp2
  refine bodyPost_ret (results_cell_row (P := Try.prog) rfl _ _ (w.heap.size + 1) _ _ (0, 0) _ rfl (put_two hk) Try.underlying29 rfl (by kernel_rfl)) rfl ⟨rfl, hbw.trans (below_of_grown' (grown_two _ _ _ _) (by omega) hbw.size)⟩

theorem rpow_pos (a : G) (n : Nat) (hn : n ≤ 9223372036854775807) (w : World) :
    Calls Try.prog 20 #[rz a, .int .i64 n] w fun e w' => e = .returned (rz (gpow a n)) ∧ Below w.heap.size w w' := by
  have hp := fun w => rpower_nat a n hn w
  have hb : ¬ (n : Int) < 0 := by omega
  unfold rz at *
  go_enter Try.func20, Try.ntmps20
  go_wp2_with fail
  refine (hp _).mono ?_
  rintro e w1 ⟨rfl, hb⟩
  obtain ⟨hk, hbw⟩ := second hb
  clear hb hp
  have c0 : w1.cell? ⟨w.heap.size + 1, 0, none⟩ = some (.int .i64 0) := hk.cell 0
  have c1 : w1.cell? ⟨w.heap.size + 1, 1, none⟩ = some (.int .i64 0) := hk.cell 1
  have f0 := hk.free 0
  have f1 := hk.free 1
  go_wp2
  refine bodyPost_ret (results_cell_row (P := Try.prog) rfl _ _ (w.heap.size + 1) _ _ (0, 0) _ rfl (put_two hk) Try.underlying29 rfl (by kernel_rfl)) rfl ⟨rfl, hbw.trans (below_of_grown' (grown_two _ _ _ _) (by omega) hbw.size)⟩

theorem rpow_neg (a : G) (n : Int) (h : n < 0) (h2 : -9223372036854775807 ≤ n) (w : World) :
    Calls Try.prog 20 #[rz a, .int .i64 n] w fun e w' => e = .returned (rz (zpow a n)) ∧ Below w.heap.size w w' := by
  have e : zpow a n = gpow (ginv a) n.natAbs := by unfold zpow; rw [if_pos h]
  rw [e]
  clear e
  have hp := fun w => rpower_nat (ginv a) n.natAbs (by omega) w
  rw [show (n.natAbs : Int) = -n by omega] at hp
  have hi := rinv_any a
  have EW : wrap64 (-n) = -n := IntWalk.wrap64_in _ (by omega)
  generalize gpow (ginv a) n.natAbs = r at *
  generalize ginv a = b at *
  unfold rz at *
  go_enter Try.func20, Try.ntmps20
  go_wp2_with fail
  refine (hi _).mono ?_
  rintro e w0 ⟨rfl, hb0⟩
  obtain ⟨hk0, hbw0⟩ := second hb0
  clear hb0 hi
  go_wp2_with fail
  refine (hp _).mono ?_
  rintro e w1 ⟨rfl, hb⟩
  have hk := hk0.below hb hk0.lt
  have hbw := hbw0.trans (hb.mono hbw0.size)
  clear hb hp
  have c0 : w1.cell? ⟨w.heap.size + 1, 0, none⟩ = some (.int .i64 0) := hk.cell 0
  have c1 : w1.cell? ⟨w.heap.size + 1, 1, none⟩ = some (.int .i64 0) := hk.cell 1
  have f0 := hk.free 0
  have f1 := hk.free 1
  go_wp2
  refine bodyPost_ret (results_cell_row (P := Try.prog) rfl _ _ (w.heap.size + 1) _ _ (0, 0) _ rfl (put_two hk) Try.underlying29 rfl (by kernel_rfl)) rfl ⟨rfl, hbw.trans (below_of_grown' (grown_two _ _ _ _) (by omega) hbw.size)⟩

theorem rpow_any (a : G) (n : Int) (h : n ≤ 9223372036854775807) (h2 : -9223372036854775807 ≤ n) (w : World) :
    Calls Try.prog 20 #[rz a, .int .i64 n] w fun e w' => e = .returned (rz (zpow a n)) ∧ Below w.heap.size w w' := by
  by_cases hn : n < 0
  · exact rpow_neg a n hn h2 w
  · have e := rpow_pos a n.natAbs (by omega) w
    have e2 : zpow a n = gpow a n.natAbs := by unfold zpow; rw [if_neg hn]
    rw [e2]
    rw [show ((n.natAbs : Nat) : Int) = n by omega] at e
    exact e
end Go.Proofs.Ytcjegcmijdkekaa
