/-
  PbB: The document's state of reading (layer 18), over the loaded program: next: its contract. No condition.
-/
import Derived.Test.YthindhlogkhclaaGreatDoorPz19
set_option linter.unusedVariables false
set_option maxRecDepth 100000
namespace Go.Proofs.YthindhlogkhclaaGreatDoor
section
open Go.RowKit
set_option maxHeartbeats 16000000 in
theorem next18_any (p : Nat) (n : Int) (L : List Tk) (s : Ps) (k : Nat) (wd : List UInt8) (w : World) (h : Sd w p n L s) :
    Calls Tryz.prog 42 #[.pointer (some ⟨p, 0, none⟩), .int .i64 (k : Int), strV wd] w fun e w' => e = .returned (tokV (nextP k wd s).1) ∧ Sd w' p n L (nextP k wd s).2 ∧ w.grownBy w' (some p) := by
  have hp := h.lt
  have R0 := KB.new w 79 #[.int .i64 0, .string ⟨#[]⟩, .int .i64 0, .int .i64 0]
  have g0 : w.grownBy (w.alloc (.cells #[.int .i64 0, .string ⟨#[]⟩, .int .i64 0, .int .i64 0] 79)) (some p) := grown_alloc (World.grownBy.refl w _) _
  have hbu := burn18_any p n L s _ (h.alloc (.cells #[.int .i64 0, .string ⟨#[]⟩, .int .i64 0, .int .i64 0] 79))
  obtain ⟨D, hD⟩ : ∃ D : Ending → World → Prop, D = fun e w' => e = .returned (tokV (nextP k wd s).1) ∧ Sd w' p n L (nextP k wd s).2 ∧ w.grownBy w' (some p) := ⟨_, rfl⟩
  rw [← hD]
  have HD : Hid (∀ W, Sd W p n L (nextP k wd s).2 → w.grownBy W (some p) → D (.returned (tokV (nextP k wd s).1)) W) := fun W h1 h2 => by rw [hD]; exact ⟨rfl, h1, h2⟩
  have hN : nextP k wd s = if (burnP s).e = 0 then takeP k wd (burnP s) else (zeroTk, burnP s) := rfl
  rw [hN] at HD
  have HR0 := Lib.hid R0
  have HG0 := Lib.hid g0
  obtain ⟨zw, hzw⟩ : ∃ z : ByteArray, z = ⟨wd.toArray⟩ := ⟨_, rfl⟩
  have hwv : strV wd = .string zw := by unfold strV; rw [hzw]
  rw [hwv]
  clear hD hN h R0 g0
  obtain ⟨s1, hs1⟩ : ∃ s1, s1 = burnP s := ⟨_, rfl⟩
  rw [← hs1] at hbu HD
  clear hs1
  have zz : tokV zeroTk = .agg #[.int .i64 0, .string ⟨#[]⟩, .int .i64 0, .int .i64 0] := rfl
  have HE : Hid (∀ W, s1.e ≠ 0 → Sd W p n L s1 → w.grownBy W (some p) → D (.returned (.agg #[.int .i64 0, .string ⟨#[]⟩, .int .i64 0, .int .i64 0])) W) := by
    intro W he h1 h2
    have hd := HD.out W
    rw [if_neg he] at hd
    exact hd h1 h2
  have HZ : Hid (∀ W, s1.e = 0 → (s1.rest = [] ∨ ∃ t r, s1.rest = t :: r ∧ fitT k wd t = false) → Sd W p n L ⟨s1.rest, s1.fuel, 2, s1.used⟩ → w.grownBy W (some p) → D (.returned (.agg #[.int .i64 0, .string ⟨#[]⟩, .int .i64 0, .int .i64 0])) W) := by
    intro W he hc h1 h2
    have hd := HD.out W
    rw [if_pos he] at hd
    obtain ⟨l, f, e, u⟩ := s1
    dsimp only at he; subst he
    rcases hc with hc | ⟨t, r, hc, hm⟩
    · dsimp only at hc; subst hc
      exact hd h1 h2
    · dsimp only at hc; subst hc
      have e1 : takeP k wd ⟨t :: r, f, 0, u⟩ = (zeroTk, ⟨t :: r, f, 2, u⟩) := by
        show (if fitT k wd t = true then _ else _) = _
        rw [if_neg (by rw [hm]; decide)]
      rw [e1] at hd
      exact hd h1 h2
  have HY : Hid (∀ W t r, s1.e = 0 → s1.rest = t :: r → fitT k wd t = true → Sd W p n L ⟨r, s1.fuel, 0, s1.used⟩ → w.grownBy W (some p) → D (.returned (tokV t)) W) := by
    intro W t r he hc hm h1 h2
    have hd := HD.out W
    rw [if_pos he] at hd
    obtain ⟨l, f, e, u⟩ := s1
    dsimp only at hc he; subst hc he
    have e1 : takeP k wd ⟨t :: r, f, 0, u⟩ = (t, ⟨r, f, 0, u⟩) := by
      show (if fitT k wd t = true then _ else _) = _
      rw [if_pos hm]
    rw [e1] at hd
    exact hd h1 h2
  clear HD
  by_cases he : s1.e ≠ 0
  · skip
    go_enter Tryz.func42, Tryz.ntmps42
    go_wp2_with fail
    refine hbu.mono ?_
    rintro e w1 ⟨rfl, h1, g1⟩
    have G1 := Lib.hid (grown_trans HG0.out g1)
    have R1 := Lib.hid (HR0.out.grown g1 (fun e => by injection e with e; omega))
    have H1 := Lib.hid h1
    have hgW := R1.out.lt
    have f0 := R1.out.free 0
    have r0 := R1.out.cell 0
    have f1 := R1.out.free 1
    have r1 := R1.out.cell 1
    have f2 := R1.out.free 2
    have r2 := R1.out.cell 2
    have f3 := R1.out.free 3
    have r3 := R1.out.cell 3
    obtain ⟨v9, a9, k9, _⟩ := h1
    have q4 : w1.cell? ⟨p, 4, none⟩ = some (.int .i64 s1.e) := k9.cell 4
    have hpW := k9.lt
    have kfin := R1.out.put4 (.int .i64 0) (.string ⟨#[]⟩) (.int .i64 0) (.int .i64 0)
    have hfin := HE.out _ he (H1.out.four hp (.int .i64 0) (.string ⟨#[]⟩) (.int .i64 0) (.int .i64 0)) (grown_four G1.out (Nat.le_refl _) (.int .i64 0) (.string ⟨#[]⟩) (.int .i64 0) (.int .i64 0))
    obtain ⟨W5, hW5⟩ : ∃ W5, W5 = ((((w1.setCell ⟨w.heap.size, 0, none⟩ (.int .i64 0)).setCell ⟨w.heap.size, 1, none⟩ (.string ⟨#[]⟩)).setCell ⟨w.heap.size, 2, none⟩ (.int .i64 0)).setCell ⟨w.heap.size, 3, none⟩ (.int .i64 0)) := ⟨_, rfl⟩
    rw [← hW5] at kfin hfin
    have HW5 := Lib.hid hW5
    have ne0 : (s1.e == 0) = false := beq_eq_false_iff_ne.2 he
    have ne1 : (s1.e != 0) = true := bne_iff_ne.2 he
    clear k9 hW5 hbu g1 HE HY HZ
    generalize s1.e = e9 at *
    go_wp2_with fail
    rw [← HW5.out]
    exact bodyPost_ret (results_cell (P := Tryz.prog) rfl _ _ w.heap.size _ _ (0, 0) _ rfl kfin Tryz.underlying79 rfl (by kernel_rfl)) rfl hfin
  have hz : s1.e = 0 := Classical.byContradiction he
  clear he HE
  obtain ⟨kk, hkk⟩ : ∃ kk : Int, kk = (k : Int) := ⟨_, rfl⟩
  rw [← hkk]
  have ge := eq_txt zw ⟨#[]⟩ wd [] hzw rfl
  have nil2 : (⟨#[]⟩ : ByteArray).toList = [] := by rw [Lib.toList_data]
  rw [nil2] at ge
  have GT : Hid (∀ (x : ByteArray) (l : List UInt8), x = ⟨l.toArray⟩ → (x.toList == zw.toList) = decide (l = wd)) := fun x l hx => eq_txt x zw _ _ hx hzw
  have HZW := Lib.hid hzw
  clear hwv hzw
  cases hr : s1.rest with
  | nil =>
    have hr' := hr
    clear ge nil2 GT hkk
    go_enter Tryz.func42, Tryz.ntmps42
    go_wp2_with fail
    refine hbu.mono ?_
    rintro e w1 ⟨rfl, h1, g1⟩
    have G1 := Lib.hid (grown_trans HG0.out g1)
    have R1 := Lib.hid (HR0.out.grown g1 (fun e => by injection e with e; omega))
    have H1 := Lib.hid h1
    obtain ⟨A, c, kb, hlm⟩ := h1.none_left hr
    rw [hz] at kb
    have q0 : w1.cell? ⟨p, 0, none⟩ = some (.slice A L.length c) := kb.cell 0
    have q1 : w1.cell? ⟨p, 1, none⟩ = some (.int .i64 (L.length : Int)) := kb.cell 1
    have q4 : w1.cell? ⟨p, 4, none⟩ = some (.int .i64 0) := kb.cell 4
    obtain ⟨ll, hll⟩ : ∃ ll, ll = L.length := ⟨_, rfl⟩
    rw [← hll] at q0 q1 hlm
    obtain ⟨a, ha⟩ : ∃ a, a = ll := ⟨_, rfl⟩
    rw [← ha] at q1
    have hS : (fun W : World => W.cell? ⟨p, 0, none⟩ = some (.slice A ll c) ∧ W.cell? ⟨p, 1, none⟩ = some (.int .i64 (a : Int)) ∧ W.cell? ⟨p, 4, none⟩ = some (.int .i64 0)) w1.drew := ⟨q0, q1, q4⟩
    have hl : ¬ ((a : Int) < (ll : Int)) := by omega
    have hl2 : decide ((a : Int) < (ll : Int)) = false := decide_eq_false hl
    have hl3 : ¬ a < ll := by omega
    have hl4 : ll ≤ a := by omega
    have hl5 : (ll : Int) ≤ (a : Int) := by omega
    clear kb hll ha hbu g1 h1
    go_wp2_with fail
    rename_i KK hKK
    have HKK := Lib.hid hKK
    clear hKK
    refine wp_region_held_drew (S := (fun W => W.cell? ⟨p, 0, none⟩ = some (.slice A ll c) ∧ W.cell? ⟨p, 1, none⟩ = some (.int .i64 (a : Int)) ∧ W.cell? ⟨p, 4, none⟩ = some (.int .i64 0))) (by kernel_rfl) hS (fun hHeld => ?_)
    refine hyY (some 15) 0 rfl hHeld ?_; go_frame
    refine hyY (some 16) 1 rfl hHeld ?_; go_frame
    refine hyY (some 17) 2 rfl hHeld ?_; go_frame
    refine hyY (some 18) 3 rfl hHeld ?_; go_frame
    refine hyY (some 19) 4 rfl hHeld ?_; go_frame
    refine hyY (some 20) 5 rfl hHeld ?_; go_frame
    refine hyY (some 21) 6 rfl hHeld ?_; go_frame
    refine hyY (some 22) 7 rfl hHeld ?_; go_frame
    refine hyY (some 23) 8 rfl hHeld ?_; go_frame
    refine hyY (some 24) 9 rfl hHeld ?_; go_frame
    refine hyY (some 25) 10 rfl hHeld ?_; go_frame
    refine hyN (some 26) 11 rfl hHeld ?_; go_frame
    refine hyN (some 27) 12 rfl hHeld ?_; go_frame
    refine hyN (some 28) 13 rfl hHeld ?_; go_frame
    refine hyN (some 29) 14 rfl hHeld ?_; go_frame
    refine hyN (some 30) 15 rfl hHeld ?_; go_frame
    refine hyN (some 31) 16 rfl hHeld ?_; go_frame
    refine hyN (some 32) 17 rfl hHeld ?_; go_frame
    refine hyN (some 33) 18 rfl hHeld ?_; go_frame
    refine hyN (some 34) 19 rfl hHeld ?_; go_frame
    refine hyN (some 35) 20 rfl hHeld ?_; go_frame
    refine hyN (some 36) 21 rfl hHeld ?_; go_frame
    refine hyN (some 37) 22 rfl hHeld ?_; go_frame
    refine hyN (some 38) 23 rfl hHeld ?_; go_frame
    refine hyY (some 39) 24 rfl hHeld ?_; go_frame
    refine hyY (some 40) 25 rfl hHeld ?_; go_frame
    refine hyN (some 41) 26 rfl hHeld ?_; go_frame
    refine hyN (some 42) 27 rfl hHeld ?_; go_frame
    refine hyN (some 43) 28 rfl hHeld ?_; go_frame
    refine hyN (some 44) 29 rfl hHeld ?_; go_frame
    refine hyN (some 45) 30 rfl hHeld ?_; go_frame
    refine hyN (some 46) 31 rfl hHeld ?_; go_frame
    refine hyN (some 47) 32 rfl hHeld ?_; go_frame
    refine hyN (some 48) 33 rfl hHeld ?_; go_frame
    refine hyN (some 49) 34 rfl hHeld ?_; go_frame
    refine hyN (some 50) 35 rfl hHeld ?_; go_frame
    refine hyN (some 51) 36 rfl hHeld ?_; go_frame
    refine hyN (some 52) 37 rfl hHeld ?_; go_frame
    refine hyN (some 53) 38 rfl hHeld ?_; go_frame
    refine hyN (some 54) 39 rfl hHeld ?_; go_frame
    refine hyN (some 55) 40 rfl hHeld ?_; go_frame
    refine hyN (some 56) 41 rfl hHeld ?_; go_frame
    refine hyN (some 57) 42 rfl hHeld ?_; go_frame
    refine hyY (some 58) 43 rfl hHeld ?_; go_frame
    refine wpAnyH_done (by kernel_rfl) ?_ _
    skip
    have p4d : w1.drew.frozen? ⟨p, 4, none⟩ = false := by obtain ⟨v9, a9, k9, _⟩ := H1.out; exact k9.free 4
    have q4d : w1.drew.cell? ⟨p, 4, none⟩ = some (.int .i64 0) := by obtain ⟨v9, a9, k9, _⟩ := H1.out; rw [← hz]; exact k9.cell 4
    have hp1 : p < w1.drew.heap.size := H1.out.lt
    have W4R : KB (w1.drew.setCell ⟨p, 4, none⟩ (.int .i64 2)) w.heap.size 79 #[.int .i64 0, .string ⟨#[]⟩, .int .i64 0, .int .i64 0] := R1.out.keep (w' := w1.drew.setCell ⟨p, 4, none⟩ (.int .i64 2)) (Below.heap_setCell w1.drew _ _ _ (by show w.heap.size ≠ p; omega))
    have W4S : Sd (w1.drew.setCell ⟨p, 4, none⟩ (.int .i64 2)) p n L ⟨s1.rest, s1.fuel, 2, s1.used⟩ := by
      obtain ⟨v9, a9, k9, t9, r9⟩ := H1.out
      exact ⟨v9, a9, KB.put (w := w1.drew) k9 4 _, (t9.keep (w' := w1.drew) (Nat.le_refl _) fun _ _ _ => rfl).but (grown_set _ p 4 _), r9⟩
    have W4G : w.grownBy (w1.drew.setCell ⟨p, 4, none⟩ (.int .i64 2)) (some p) := grown_trans (grown_trans G1.out (show w1.grownBy w1.drew (some p) from ⟨rfl, rfl, rfl, Nat.le_refl _, fun _ _ _ => rfl⟩)) (grown_set w1.drew p 4 _)
    have R1d : KB w1.drew w.heap.size 79 #[.int .i64 0, .string ⟨#[]⟩, .int .i64 0, .int .i64 0] := R1.out
    have hgW := R1d.lt
    have f0 := R1d.free 0
    have r0 := R1d.cell 0
    have f1 := R1d.free 1
    have r1 := R1d.cell 1
    have f2 := R1d.free 2
    have r2 := R1d.cell 2
    have f3 := R1d.free 3
    have r3 := R1d.cell 3
    have kfin := W4R.put4 (.int .i64 0) (.string ⟨#[]⟩) (.int .i64 0) (.int .i64 0)
    have hfin := HZ.out _ hz (.inl hr) (W4S.four hp (.int .i64 0) (.string ⟨#[]⟩) (.int .i64 0) (.int .i64 0)) (grown_four W4G (Nat.le_refl _) (.int .i64 0) (.string ⟨#[]⟩) (.int .i64 0) (.int .i64 0))
    obtain ⟨W5, hW5⟩ : ∃ W5, W5 = (((((w1.drew.setCell ⟨p, 4, none⟩ (.int .i64 2)).setCell ⟨w.heap.size, 0, none⟩ (.int .i64 0)).setCell ⟨w.heap.size, 1, none⟩ (.string ⟨#[]⟩)).setCell ⟨w.heap.size, 2, none⟩ (.int .i64 0)).setCell ⟨w.heap.size, 3, none⟩ (.int .i64 0)) := ⟨_, rfl⟩
    rw [← hW5] at kfin hfin
    have HW5 := Lib.hid hW5
    have hnp : ¬ w.heap.size = p := by omega
    have hnp2 : ¬ p = w.heap.size := by omega
    clear hW5 W4S W4G W4R HY HZ H1 R1 G1 hHeld hS
    have hKK := HKK.out
    clear HKK
    generalize w1.drew = v1 at *
    go_wp2_with fail
    rw [← HW5.out]
    exact bodyPost_ret (results_cell (P := Tryz.prog) rfl _ _ w.heap.size _ _ (0, 0) _ rfl kfin Tryz.underlying79 rfl (by kernel_rfl)) rfl hfin
  | cons t r =>
    have HHR := Lib.hid hr
    have hfit : fitT k wd t = (decide (t.kind = k) && (decide (wd = []) || decide (t.text = wd))) := rfl
    clear hr
    by_cases hk : t.kind = k
    case neg =>
      have hff : fitT k wd t = false := by rw [hfit, decide_eq_false hk, Bool.false_and]
      have gk0 : ¬ (t.kind : Int) = kk := by omega
      clear hfit ge nil2 GT hk hkk
      go_enter Tryz.func42, Tryz.ntmps42
      go_wp2_with fail
      refine hbu.mono ?_
      rintro e w1 ⟨rfl, h1, g1⟩
      have G1 := Lib.hid (grown_trans HG0.out g1)
      have R1 := Lib.hid (HR0.out.grown g1 (fun e => by injection e with e; omega))
      have H1 := Lib.hid h1
      obtain ⟨b, o, c, a, kb, hbp, hbw, hal, hlm, c0, c1, c2, c3, hrd⟩ := h1.head HHR.out
      rw [hz] at kb
      have q0 : w1.cell? ⟨p, 0, none⟩ = some (.slice (some ⟨b, o, none⟩) L.length c) := kb.cell 0
      have q1 : w1.cell? ⟨p, 1, none⟩ = some (.int .i64 (a : Int)) := kb.cell 1
      have q4 : w1.cell? ⟨p, 4, none⟩ = some (.int .i64 0) := kb.cell 4
      obtain ⟨tt, htt⟩ : ∃ z : ByteArray, z = ⟨t.text.toArray⟩ := ⟨_, rfl⟩
      have htv : strV t.text = .string tt := by unfold strV; rw [htt]
      rw [htv] at c1
      obtain ⟨ll, hll⟩ : ∃ ll, ll = L.length := ⟨_, rfl⟩
      rw [← hll] at q0 hal hlm kb
      have hl : ((a : Int) < (ll : Int)) := by omega
      have hl2 : decide ((a : Int) < (ll : Int)) = true := decide_eq_true hl
      have hl4 : ¬ ll ≤ a := by omega
      have hl5 : ¬ (ll : Int) ≤ (a : Int) := by omega
      obtain ⟨tk, htk⟩ : ∃ tk : Int, tk = (t.kind : Int) := ⟨_, rfl⟩
      rw [← htk] at c0
      have hS : (fun W : World => W.cell? ⟨p, 0, none⟩ = some (.slice (some ⟨b, o, none⟩) ll c) ∧ W.cell? ⟨p, 1, none⟩ = some (.int .i64 (a : Int)) ∧ W.cell? ⟨p, 4, none⟩ = some (.int .i64 0) ∧ W.cell? ⟨b, o + a * 4, none⟩ = some (.int .i64 tk) ∧ W.cell? ⟨b, o + a * 4 + 1, none⟩ = some (.string tt)) w1.drew := ⟨q0, q1, q4, c0, c1⟩
      have hpw1 := kb.lt
      have HKB := Lib.hid kb
      have HRD := Lib.hid hrd
      have HLL := Lib.hid hll
      have HTV := Lib.hid htv
      have HC2 := Lib.hid c2
      have HC3 := Lib.hid c3
      have HC0 := Lib.hid c0
      have HC1 := Lib.hid c1
      have HTK := Lib.hid htk
      clear kb hrd hll htv c2 c3 c0 c1 htk q0 q1 hbu g1 h1
      have gk : ¬ tk = kk := by rw [HTK.out]; exact gk0
      have gk2 : (tk == kk) = false := beq_eq_false_iff_ne.2 gk
      have gk3 : (tk != kk) = true := bne_iff_ne.2 gk
      clear gk0 htt
      go_wp2_with fail
      rename_i KK hKK
      have HKK := Lib.hid hKK
      clear hKK
      refine wp_region_held_drew (S := (fun W => W.cell? ⟨p, 0, none⟩ = some (.slice (some ⟨b, o, none⟩) ll c) ∧ W.cell? ⟨p, 1, none⟩ = some (.int .i64 (a : Int)) ∧ W.cell? ⟨p, 4, none⟩ = some (.int .i64 0) ∧ W.cell? ⟨b, o + a * 4, none⟩ = some (.int .i64 tk) ∧ W.cell? ⟨b, o + a * 4 + 1, none⟩ = some (.string tt))) (by kernel_rfl) hS (fun hHeld => ?_)
      refine hyY (some 15) 0 rfl hHeld ?_; go_frame
      refine hyY (some 16) 1 rfl hHeld ?_; go_frame
      refine hyY (some 17) 2 rfl hHeld ?_; go_frame
      refine hyY (some 18) 3 rfl hHeld ?_; go_frame
      refine hyY (some 19) 4 rfl hHeld ?_; go_frame
      refine hyY (some 20) 5 rfl hHeld ?_; go_frame
      refine hyY (some 21) 6 rfl hHeld ?_; go_frame
      refine hyY (some 22) 7 rfl hHeld ?_; go_frame
      refine hyY (some 23) 8 rfl hHeld ?_; go_frame
      refine hyY (some 24) 9 rfl hHeld ?_; go_frame
      refine hyY (some 25) 10 rfl hHeld ?_; go_frame
      refine hyY (some 26) 11 rfl hHeld ?_; go_frame
      refine hyY (some 27) 12 rfl hHeld ?_; go_frame
      refine hyY (some 28) 13 rfl hHeld ?_; go_frame
      refine hyY (some 29) 14 rfl hHeld ?_; go_frame
      refine hyY (some 30) 15 rfl hHeld ?_; go_frame
      refine hyY (some 31) 16 rfl hHeld ?_; go_frame
      refine hyY (some 32) 17 rfl hHeld ?_; go_frame
      refine hyY (some 33) 18 rfl hHeld ?_; go_frame
      refine hyY (some 34) 19 rfl hHeld ?_; go_frame
      refine hyY (some 35) 20 rfl hHeld ?_; go_frame
      refine hyY (some 36) 21 rfl hHeld ?_; go_frame
      refine hyY (some 37) 22 rfl hHeld ?_; go_frame
      refine hyY (some 38) 23 rfl hHeld ?_; go_frame
      refine hyY (some 39) 24 rfl hHeld ?_; go_frame
      refine hyY (some 40) 25 rfl hHeld ?_; go_frame
      refine hyN (some 41) 26 rfl hHeld ?_; go_frame
      refine hyN (some 42) 27 rfl hHeld ?_; go_frame
      refine hyN (some 43) 28 rfl hHeld ?_; go_frame
      refine hyN (some 44) 29 rfl hHeld ?_; go_frame
      refine hyN (some 45) 30 rfl hHeld ?_; go_frame
      refine hyN (some 46) 31 rfl hHeld ?_; go_frame
      refine hyN (some 47) 32 rfl hHeld ?_; go_frame
      refine hyN (some 48) 33 rfl hHeld ?_; go_frame
      refine hyN (some 49) 34 rfl hHeld ?_; go_frame
      refine hyN (some 50) 35 rfl hHeld ?_; go_frame
      refine hyN (some 51) 36 rfl hHeld ?_; go_frame
      refine hyN (some 52) 37 rfl hHeld ?_; go_frame
      refine hyN (some 53) 38 rfl hHeld ?_; go_frame
      refine hyN (some 54) 39 rfl hHeld ?_; go_frame
      refine hyN (some 55) 40 rfl hHeld ?_; go_frame
      refine hyN (some 56) 41 rfl hHeld ?_; go_frame
      refine hyN (some 57) 42 rfl hHeld ?_; go_frame
      refine hyY (some 58) 43 rfl hHeld ?_; go_frame
      refine wpAnyH_done (by kernel_rfl) ?_ _
      skip
      have p4d : w1.drew.frozen? ⟨p, 4, none⟩ = false := by obtain ⟨v9, a9, k9, _⟩ := H1.out; exact k9.free 4
      have q4d : w1.drew.cell? ⟨p, 4, none⟩ = some (.int .i64 0) := by obtain ⟨v9, a9, k9, _⟩ := H1.out; rw [← hz]; exact k9.cell 4
      have hp1 : p < w1.drew.heap.size := H1.out.lt
      have W4R : KB (w1.drew.setCell ⟨p, 4, none⟩ (.int .i64 2)) w.heap.size 79 #[.int .i64 0, .string ⟨#[]⟩, .int .i64 0, .int .i64 0] := R1.out.keep (w' := w1.drew.setCell ⟨p, 4, none⟩ (.int .i64 2)) (Below.heap_setCell w1.drew _ _ _ (by show w.heap.size ≠ p; omega))
      have W4S : Sd (w1.drew.setCell ⟨p, 4, none⟩ (.int .i64 2)) p n L ⟨s1.rest, s1.fuel, 2, s1.used⟩ := by
        obtain ⟨v9, a9, k9, t9, r9⟩ := H1.out
        exact ⟨v9, a9, KB.put (w := w1.drew) k9 4 _, (t9.keep (w' := w1.drew) (Nat.le_refl _) fun _ _ _ => rfl).but (grown_set _ p 4 _), r9⟩
      have W4G : w.grownBy (w1.drew.setCell ⟨p, 4, none⟩ (.int .i64 2)) (some p) := grown_trans (grown_trans G1.out (show w1.grownBy w1.drew (some p) from ⟨rfl, rfl, rfl, Nat.le_refl _, fun _ _ _ => rfl⟩)) (grown_set w1.drew p 4 _)
      have R1d : KB w1.drew w.heap.size 79 #[.int .i64 0, .string ⟨#[]⟩, .int .i64 0, .int .i64 0] := R1.out
      have hgW := R1d.lt
      have f0 := R1d.free 0
      have r0 := R1d.cell 0
      have f1 := R1d.free 1
      have r1 := R1d.cell 1
      have f2 := R1d.free 2
      have r2 := R1d.cell 2
      have f3 := R1d.free 3
      have r3 := R1d.cell 3
      have kfin := W4R.put4 (.int .i64 0) (.string ⟨#[]⟩) (.int .i64 0) (.int .i64 0)
      have hfin := HZ.out _ hz (.inr ⟨t, r, HHR.out, hff⟩) (W4S.four hp (.int .i64 0) (.string ⟨#[]⟩) (.int .i64 0) (.int .i64 0)) (grown_four W4G (Nat.le_refl _) (.int .i64 0) (.string ⟨#[]⟩) (.int .i64 0) (.int .i64 0))
      obtain ⟨W5, hW5⟩ : ∃ W5, W5 = (((((w1.drew.setCell ⟨p, 4, none⟩ (.int .i64 2)).setCell ⟨w.heap.size, 0, none⟩ (.int .i64 0)).setCell ⟨w.heap.size, 1, none⟩ (.string ⟨#[]⟩)).setCell ⟨w.heap.size, 2, none⟩ (.int .i64 0)).setCell ⟨w.heap.size, 3, none⟩ (.int .i64 0)) := ⟨_, rfl⟩
      rw [← hW5] at kfin hfin
      have HW5 := Lib.hid hW5
      have hnp : ¬ w.heap.size = p := by omega
      have hnp2 : ¬ p = w.heap.size := by omega
      clear hW5 W4S W4G W4R HY HZ H1 R1 G1 hHeld hS
      have hKK := HKK.out
      clear HKK
      generalize w1.drew = v1 at *
      go_wp2_with fail
      rw [← HW5.out]
      exact bodyPost_ret (results_cell (P := Tryz.prog) rfl _ _ w.heap.size _ _ (0, 0) _ rfl kfin Tryz.underlying79 rfl (by kernel_rfl)) rfl hfin
    have gk0 : (t.kind : Int) = kk := by omega
    clear hkk
    by_cases hn : wd = []
    · have hft : fitT k wd t = true := by rw [hfit, decide_eq_true hk, decide_eq_true hn]; rfl
      rw [decide_eq_true hn] at ge
      have ge1 : zw.toList = [] := by simpa using ge
      have ge2 : (zw.toList == []) = true := by rw [ge1]; rfl
      have ge3 : zw.toList.isEmpty = true := by rw [ge1]; rfl
      have ge4 : (zw.toList != []) = false := by rw [ge1]; rfl
      clear hfit ge nil2 GT hk
      go_enter Tryz.func42, Tryz.ntmps42
      go_wp2_with fail
      refine hbu.mono ?_
      rintro e w1 ⟨rfl, h1, g1⟩
      have G1 := Lib.hid (grown_trans HG0.out g1)
      have R1 := Lib.hid (HR0.out.grown g1 (fun e => by injection e with e; omega))
      have H1 := Lib.hid h1
      obtain ⟨b, o, c, a, kb, hbp, hbw, hal, hlm, c0, c1, c2, c3, hrd⟩ := h1.head HHR.out
      rw [hz] at kb
      have q0 : w1.cell? ⟨p, 0, none⟩ = some (.slice (some ⟨b, o, none⟩) L.length c) := kb.cell 0
      have q1 : w1.cell? ⟨p, 1, none⟩ = some (.int .i64 (a : Int)) := kb.cell 1
      have q4 : w1.cell? ⟨p, 4, none⟩ = some (.int .i64 0) := kb.cell 4
      obtain ⟨tt, htt⟩ : ∃ z : ByteArray, z = ⟨t.text.toArray⟩ := ⟨_, rfl⟩
      have htv : strV t.text = .string tt := by unfold strV; rw [htt]
      rw [htv] at c1
      obtain ⟨ll, hll⟩ : ∃ ll, ll = L.length := ⟨_, rfl⟩
      rw [← hll] at q0 hal hlm kb
      have hl : ((a : Int) < (ll : Int)) := by omega
      have hl2 : decide ((a : Int) < (ll : Int)) = true := decide_eq_true hl
      have hl4 : ¬ ll ≤ a := by omega
      have hl5 : ¬ (ll : Int) ≤ (a : Int) := by omega
      obtain ⟨tk, htk⟩ : ∃ tk : Int, tk = (t.kind : Int) := ⟨_, rfl⟩
      rw [← htk] at c0
      have hS : (fun W : World => W.cell? ⟨p, 0, none⟩ = some (.slice (some ⟨b, o, none⟩) ll c) ∧ W.cell? ⟨p, 1, none⟩ = some (.int .i64 (a : Int)) ∧ W.cell? ⟨p, 4, none⟩ = some (.int .i64 0) ∧ W.cell? ⟨b, o + a * 4, none⟩ = some (.int .i64 tk) ∧ W.cell? ⟨b, o + a * 4 + 1, none⟩ = some (.string tt)) w1.drew := ⟨q0, q1, q4, c0, c1⟩
      have hpw1 := kb.lt
      have HKB := Lib.hid kb
      have HRD := Lib.hid hrd
      have HLL := Lib.hid hll
      have HTV := Lib.hid htv
      have HC2 := Lib.hid c2
      have HC3 := Lib.hid c3
      have HC0 := Lib.hid c0
      have HC1 := Lib.hid c1
      have HTK := Lib.hid htk
      clear kb hrd hll htv c2 c3 c0 c1 htk q0 q1 hbu g1 h1
      have gk : tk = kk := by rw [HTK.out]; exact gk0
      have gk2 : (tk == kk) = true := by rw [gk]; exact beq_self_eq_true _
      have gk3 : (tk != kk) = false := by rw [gk]; simp
      clear gk0 htt
      go_wp2_with fail
      rename_i KK hKK
      have HKK := Lib.hid hKK
      clear hKK
      refine wp_region_held_drew (S := (fun W => W.cell? ⟨p, 0, none⟩ = some (.slice (some ⟨b, o, none⟩) ll c) ∧ W.cell? ⟨p, 1, none⟩ = some (.int .i64 (a : Int)) ∧ W.cell? ⟨p, 4, none⟩ = some (.int .i64 0) ∧ W.cell? ⟨b, o + a * 4, none⟩ = some (.int .i64 tk) ∧ W.cell? ⟨b, o + a * 4 + 1, none⟩ = some (.string tt))) (by kernel_rfl) hS (fun hHeld => ?_)
      refine hyY (some 15) 0 rfl hHeld ?_; go_frame
      refine hyY (some 16) 1 rfl hHeld ?_; go_frame
      refine hyY (some 17) 2 rfl hHeld ?_; go_frame
      refine hyY (some 18) 3 rfl hHeld ?_; go_frame
      refine hyY (some 19) 4 rfl hHeld ?_; go_frame
      refine hyY (some 20) 5 rfl hHeld ?_; go_frame
      refine hyY (some 21) 6 rfl hHeld ?_; go_frame
      refine hyY (some 22) 7 rfl hHeld ?_; go_frame
      refine hyY (some 23) 8 rfl hHeld ?_; go_frame
      refine hyY (some 24) 9 rfl hHeld ?_; go_frame
      refine hyY (some 25) 10 rfl hHeld ?_; go_frame
      refine hyY (some 26) 11 rfl hHeld ?_; go_frame
      refine hyY (some 27) 12 rfl hHeld ?_; go_frame
      refine hyY (some 28) 13 rfl hHeld ?_; go_frame
      refine hyY (some 29) 14 rfl hHeld ?_; go_frame
      refine hyY (some 30) 15 rfl hHeld ?_; go_frame
      refine hyY (some 31) 16 rfl hHeld ?_; go_frame
      refine hyY (some 32) 17 rfl hHeld ?_; go_frame
      refine hyY (some 33) 18 rfl hHeld ?_; go_frame
      refine hyY (some 34) 19 rfl hHeld ?_; go_frame
      refine hyY (some 35) 20 rfl hHeld ?_; go_frame
      refine hyY (some 36) 21 rfl hHeld ?_; go_frame
      refine hyY (some 37) 22 rfl hHeld ?_; go_frame
      refine hyY (some 38) 23 rfl hHeld ?_; go_frame
      refine hyY (some 39) 24 rfl hHeld ?_; go_frame
      refine hyY (some 40) 25 rfl hHeld ?_; go_frame
      refine hyY (some 41) 26 rfl hHeld ?_; go_frame
      refine hyY (some 42) 27 rfl hHeld ?_; go_frame
      refine hyY (some 43) 28 rfl hHeld ?_; go_frame
      refine hyN (some 44) 29 rfl hHeld ?_; go_frame
      refine hyN (some 45) 30 rfl hHeld ?_; go_frame
      refine hyN (some 46) 31 rfl hHeld ?_; go_frame
      refine hyN (some 47) 32 rfl hHeld ?_; go_frame
      refine hyN (some 48) 33 rfl hHeld ?_; go_frame
      refine hyN (some 49) 34 rfl hHeld ?_; go_frame
      refine hyN (some 50) 35 rfl hHeld ?_; go_frame
      refine hyN (some 51) 36 rfl hHeld ?_; go_frame
      refine hyN (some 52) 37 rfl hHeld ?_; go_frame
      refine hyN (some 53) 38 rfl hHeld ?_; go_frame
      refine hyN (some 54) 39 rfl hHeld ?_; go_frame
      refine hyN (some 55) 40 rfl hHeld ?_; go_frame
      refine hyN (some 56) 41 rfl hHeld ?_; go_frame
      refine hyY (some 57) 42 rfl hHeld ?_; go_frame
      refine hyY (some 58) 43 rfl hHeld ?_; go_frame
      refine wpAnyH_done (by kernel_rfl) ?_ _
      skip
      have hKK := HKK.out
      clear hHeld
      have kb := HKB.out
      have e1 : ((a + 1 : Nat) : Int) = (a : Int) + 1 := by omega
      have hp1 : p < w1.drew.heap.size := kb.lt
      have p1d : w1.drew.frozen? ⟨p, 1, none⟩ = false := kb.free 1
      have q1d : w1.drew.cell? ⟨p, 1, none⟩ = some (.int .i64 (a : Int)) := kb.cell 1
      have hlt1 : (a : Int) < 9223372036854775807 := by unfold maxLen at hlm; omega
      have K2 : KB (w1.drew.setCell ⟨p, 1, none⟩ (.int .i64 ((a : Int) + 1))) p 59 #[.slice (some ⟨b, o, none⟩) ll c, .int .i64 ((a : Int) + 1), .int .i64 n, .int .i64 s1.fuel, .int .i64 0, .int .i64 s1.used] := KB.put (w := w1.drew) kb 1 _
      have far : ∀ (x : Nat) (u : Value), w1.cell? ⟨b, x, none⟩ = some u → (w1.drew.setCell ⟨p, 1, none⟩ (.int .i64 ((a : Int) + 1))).cell? ⟨b, x, none⟩ = some u := fun x u hu => (World.cell?_of_block (w := w1.drew) (a := ⟨b, x, none⟩) (Below.heap_setCell w1.drew _ _ _ (by show b ≠ p; omega))).trans hu
      have R2 : KB (w1.drew.setCell ⟨p, 1, none⟩ (.int .i64 ((a : Int) + 1))) w.heap.size 79 #[.int .i64 0, .string ⟨#[]⟩, .int .i64 0, .int .i64 0] := R1.out.keep (w' := w1.drew.setCell ⟨p, 1, none⟩ (.int .i64 ((a : Int) + 1))) (Below.heap_setCell w1.drew _ _ _ (by show w.heap.size ≠ p; omega))
      have S2 : Sd (w1.drew.setCell ⟨p, 1, none⟩ (.int .i64 ((a : Int) + 1))) p n L ⟨r, s1.fuel, 0, s1.used⟩ := by
        obtain ⟨v9, a9, k9, t9, u1, u2, u3⟩ := H1.out
        have hv9 : v9 = .slice (some ⟨b, o, none⟩) ll c := by
          have x1 := k9.cell 0
          have x2 := kb.cell 0
          rw [x1] at x2
          simpa using x2
        subst hv9
        refine ⟨_, a + 1, ?_, (t9.keep (w' := w1.drew) (Nat.le_refl _) fun _ _ _ => rfl).but (grown_set _ p 1 _), by rw [← HLL.out]; exact hal, HRD.out, u3⟩
        rw [e1]; exact K2
      have G2 : w.grownBy (w1.drew.setCell ⟨p, 1, none⟩ (.int .i64 ((a : Int) + 1))) (some p) := grown_trans (grown_trans G1.out (show w1.grownBy w1.drew (some p) from ⟨rfl, rfl, rfl, Nat.le_refl _, fun _ _ _ => rfl⟩)) (grown_set w1.drew p 1 _)
      have x0 := far _ _ HC0.out
      have x1 := far _ _ HC1.out
      have x2 := far _ _ HC2.out
      have x3 := far _ _ HC3.out
      have y0 : (w1.drew.setCell ⟨p, 1, none⟩ (.int .i64 ((a : Int) + 1))).cell? ⟨p, 0, none⟩ = some (.slice (some ⟨b, o, none⟩) ll c) := K2.cell 0
      have y1 : (w1.drew.setCell ⟨p, 1, none⟩ (.int .i64 ((a : Int) + 1))).cell? ⟨p, 1, none⟩ = some (.int .i64 ((a : Int) + 1)) := K2.cell 1
      clear kb far HKB HC0 HC1 HC2 HC3 R1 H1 G1 hS HKK
      generalize w1.drew = v1 at *
      have I1 : IntKind.i64.wrap ((a : Int) + 1) = (a : Int) + 1 := by rw [IntKind.wrap_i64]; unfold maxLen at hlm; omega
      have I2 : wrap64 ((a : Int) + 1) = (a : Int) + 1 := IntWalk.wrap64_in _ (by unfold maxLen at hlm; omega)
      go_wp2_with fail
      clear I1 I2
      rename_i KK2 hKK2
      have HKK2 := Lib.hid hKK2
      clear hKK2
      generalize v1.setCell ⟨p, 1, none⟩ (.int .i64 ((a : Int) + 1)) = w2 at *
      obtain ⟨tn, htn⟩ : ∃ tn : Int, tn = t.n := ⟨_, rfl⟩
      obtain ⟨ta, hta⟩ : ∃ ta : Int, ta = (t.at_ : Int) := ⟨_, rfl⟩
      rw [← htn] at x2
      rw [← hta] at x3
      have kfin : KB (((((w2.setCell ⟨w.heap.size, 0, none⟩ (.int .i64 tk)).setCell ⟨w.heap.size, 1, none⟩ (.string tt)).setCell ⟨w.heap.size, 2, none⟩ (.int .i64 tn)).setCell ⟨w.heap.size, 3, none⟩ (.int .i64 ta))).drew w.heap.size 79 #[.int .i64 tk, .string tt, .int .i64 tn, .int .i64 ta] := KB.put4 (w := w2) R2 (.int .i64 tk) (.string tt) (.int .i64 tn) (.int .i64 ta)
      have sfin : Sd (((((w2.setCell ⟨w.heap.size, 0, none⟩ (.int .i64 tk)).setCell ⟨w.heap.size, 1, none⟩ (.string tt)).setCell ⟨w.heap.size, 2, none⟩ (.int .i64 tn)).setCell ⟨w.heap.size, 3, none⟩ (.int .i64 ta))).drew p n L ⟨r, s1.fuel, 0, s1.used⟩ := S2.four hp (.int .i64 tk) (.string tt) (.int .i64 tn) (.int .i64 ta)
      have gfin : w.grownBy (((((w2.setCell ⟨w.heap.size, 0, none⟩ (.int .i64 tk)).setCell ⟨w.heap.size, 1, none⟩ (.string tt)).setCell ⟨w.heap.size, 2, none⟩ (.int .i64 tn)).setCell ⟨w.heap.size, 3, none⟩ (.int .i64 ta))).drew (some p) := grown_trans (grown_four G2 (Nat.le_refl _) (.int .i64 tk) (.string tt) (.int .i64 tn) (.int .i64 ta)) ⟨rfl, rfl, rfl, Nat.le_refl _, fun _ _ _ => rfl⟩
      have hfin := HY.out _ t r hz HHR.out hft sfin gfin
      unfold tokV at hfin
      rw [HTV.out, ← HTK.out, ← htn, ← hta] at hfin
      have HW8 : Hid (∀ W8, W8 = (((((w2.setCell ⟨w.heap.size, 0, none⟩ (.int .i64 tk)).setCell ⟨w.heap.size, 1, none⟩ (.string tt)).setCell ⟨w.heap.size, 2, none⟩ (.int .i64 tn)).setCell ⟨w.heap.size, 3, none⟩ (.int .i64 ta))).drew → W8.cell? ⟨p, 0, none⟩ = some (.slice (some ⟨b, o, none⟩) ll c) ∧ W8.cell? ⟨p, 1, none⟩ = some (.int .i64 ((a : Int) + 1)) ∧ W8.cell? ⟨b, o + a * 4, none⟩ = some (.int .i64 tk) ∧ W8.cell? ⟨b, o + a * 4 + 1, none⟩ = some (.string tt) ∧ W8.cell? ⟨b, o + a * 4 + 2, none⟩ = some (.int .i64 tn) ∧ W8.cell? ⟨b, o + a * 4 + 3, none⟩ = some (.int .i64 ta)) := by
        intro W8 hW8
        have bl : ∀ q, q ≠ w.heap.size → W8.heap[q]? = w2.heap[q]? := fun q hq => by
          rw [hW8]
          exact (Below.heap_setCell _ _ _ _ hq).trans ((Below.heap_setCell _ _ _ _ hq).trans ((Below.heap_setCell _ _ _ _ hq).trans (Below.heap_setCell _ _ _ _ hq)))
        have fr : ∀ (q x : Nat) (u : Value), q ≠ w.heap.size → w2.cell? ⟨q, x, none⟩ = some u → W8.cell? ⟨q, x, none⟩ = some u := fun q x u hq hu => (World.cell?_of_block (w := w2) (a := ⟨q, x, none⟩) (bl q hq)).trans hu
        exact ⟨fr _ _ _ (by omega) y0, fr _ _ _ (by omega) y1, fr _ _ _ (by omega) x0, fr _ _ _ (by omega) x1, fr _ _ _ (by omega) x2, fr _ _ _ (by omega) x3⟩
      obtain ⟨W8, hW8⟩ : ∃ W8, W8 = (((((w2.setCell ⟨w.heap.size, 0, none⟩ (.int .i64 tk)).setCell ⟨w.heap.size, 1, none⟩ (.string tt)).setCell ⟨w.heap.size, 2, none⟩ (.int .i64 tn)).setCell ⟨w.heap.size, 3, none⟩ (.int .i64 ta))).drew := ⟨_, rfl⟩
      have hS8 := HW8.out W8 hW8
      rw [← hW8] at kfin hfin
      have hS2 : (fun W : World => W.cell? ⟨p, 0, none⟩ = some (.slice (some ⟨b, o, none⟩) ll c) ∧ W.cell? ⟨p, 1, none⟩ = some (.int .i64 ((a : Int) + 1)) ∧ W.cell? ⟨b, o + a * 4, none⟩ = some (.int .i64 tk) ∧ W.cell? ⟨b, o + a * 4 + 1, none⟩ = some (.string tt) ∧ W.cell? ⟨b, o + a * 4 + 2, none⟩ = some (.int .i64 tn) ∧ W.cell? ⟨b, o + a * 4 + 3, none⟩ = some (.int .i64 ta)) w2.drew := ⟨y0, y1, x0, x1, x2, x3⟩
      have RD : KB w2.drew w.heap.size 79 #[.int .i64 0, .string ⟨#[]⟩, .int .i64 0, .int .i64 0] := R2
      have f0 := RD.free 0
      have r0 := RD.cell 0
      have f1 := RD.free 1
      have r1 := RD.cell 1
      have f2 := RD.free 2
      have r2 := RD.cell 2
      have f3 := RD.free 3
      have r3 := RD.cell 3
      have ff0 := R2.free 0
      have rr0 := R2.cell 0
      have ff1 := R2.free 1
      have rr1 := R2.cell 1
      have ff2 := R2.free 2
      have rr2 := R2.cell 2
      have ff3 := R2.free 3
      have rr3 := R2.cell 3
      have hgW := RD.lt
      have hgW2 := R2.lt
      have I5 : IntKind.i64.wrap (a : Int) = (a : Int) := by rw [IntKind.wrap_i64]; unfold maxLen at hlm; omega
      have I6 : wrap64 (a : Int) = (a : Int) := IntWalk.wrap64_in _ (by unfold maxLen at hlm; omega)
      clear gk gk2 gk3
      clear K2 R2 S2 G2 sfin gfin HRD HLL HTV HTK htn hta HW8 HY HZ x0 x1 x2 x3 y0 y1 RD
      refine wp_region_held_drew (S := (fun W => W.cell? ⟨p, 0, none⟩ = some (.slice (some ⟨b, o, none⟩) ll c) ∧ W.cell? ⟨p, 1, none⟩ = some (.int .i64 ((a : Int) + 1)) ∧ W.cell? ⟨b, o + a * 4, none⟩ = some (.int .i64 tk) ∧ W.cell? ⟨b, o + a * 4 + 1, none⟩ = some (.string tt) ∧ W.cell? ⟨b, o + a * 4 + 2, none⟩ = some (.int .i64 tn) ∧ W.cell? ⟨b, o + a * 4 + 3, none⟩ = some (.int .i64 ta))) (by kernel_rfl) hS2 (fun hHeld => ?_)
      refine hyY (some 70) 0 rfl hHeld ?_; go_frame
      refine hyY (some 71) 1 rfl hHeld ?_; go_frame
      refine hyY (some 72) 2 rfl hHeld ?_; go_frame
      refine hyY (some 73) 3 rfl hHeld ?_; go_frame
      refine hyY (some 74) 4 rfl hHeld ?_; go_frame
      refine hyY (some 75) 5 rfl hHeld ?_; go_frame
      refine hyY (some 76) 6 rfl hHeld ?_; go_frame
      refine hyY (some 77) 7 rfl hHeld ?_; go_frame
      refine hyY (some 78) 8 rfl hHeld ?_; go_frame
      refine hyY (some 79) 9 rfl hHeld ?_; go_frame
      refine hyY (some 80) 10 rfl hHeld ?_; go_frame
      refine hyO none 11 rfl (fun K hK => ?_)
      go_simp
      rw [← hW8]
      clear hW8
      refine hK.out _ _ ?_ (fun hH2 => ?_)
      · exact hS8
      clear hHeld hK K; have hHeld := hH2; clear hH2; try go_frame
      refine wpAnyH_done (by kernel_rfl) ?_ _
      have hKK := HKK2.out
      go_wp2_with fail
      exact bodyPost_ret (results_cell (P := Tryz.prog) rfl _ _ w.heap.size _ _ (0, 0) _ rfl kfin Tryz.underlying79 rfl (by kernel_rfl)) rfl hfin
    rw [decide_eq_false hn] at ge
    have ge1 : ¬ zw.toList = [] := by simpa using ge
    have ge2 : (zw.toList == []) = false := beq_eq_false_iff_ne.2 ge1
    have ge3 : zw.toList.isEmpty = false := by cases hq : zw.toList.isEmpty with
      | false => rfl
      | true => exact absurd (List.isEmpty_iff.1 hq) ge1
    have ge4 : (zw.toList != []) = true := bne_iff_ne.2 ge1
    by_cases htw : t.text = wd
    · have hft : fitT k wd t = true := by rw [hfit, decide_eq_true hk, decide_eq_true htw, Bool.or_true]; rfl
      clear hfit ge nil2 hk hn
      go_enter Tryz.func42, Tryz.ntmps42
      go_wp2_with fail
      refine hbu.mono ?_
      rintro e w1 ⟨rfl, h1, g1⟩
      have G1 := Lib.hid (grown_trans HG0.out g1)
      have R1 := Lib.hid (HR0.out.grown g1 (fun e => by injection e with e; omega))
      have H1 := Lib.hid h1
      obtain ⟨b, o, c, a, kb, hbp, hbw, hal, hlm, c0, c1, c2, c3, hrd⟩ := h1.head HHR.out
      rw [hz] at kb
      have q0 : w1.cell? ⟨p, 0, none⟩ = some (.slice (some ⟨b, o, none⟩) L.length c) := kb.cell 0
      have q1 : w1.cell? ⟨p, 1, none⟩ = some (.int .i64 (a : Int)) := kb.cell 1
      have q4 : w1.cell? ⟨p, 4, none⟩ = some (.int .i64 0) := kb.cell 4
      obtain ⟨tt, htt⟩ : ∃ z : ByteArray, z = ⟨t.text.toArray⟩ := ⟨_, rfl⟩
      have htv : strV t.text = .string tt := by unfold strV; rw [htt]
      rw [htv] at c1
      obtain ⟨ll, hll⟩ : ∃ ll, ll = L.length := ⟨_, rfl⟩
      rw [← hll] at q0 hal hlm kb
      have hl : ((a : Int) < (ll : Int)) := by omega
      have hl2 : decide ((a : Int) < (ll : Int)) = true := decide_eq_true hl
      have hl4 : ¬ ll ≤ a := by omega
      have hl5 : ¬ (ll : Int) ≤ (a : Int) := by omega
      obtain ⟨tk, htk⟩ : ∃ tk : Int, tk = (t.kind : Int) := ⟨_, rfl⟩
      rw [← htk] at c0
      have hS : (fun W : World => W.cell? ⟨p, 0, none⟩ = some (.slice (some ⟨b, o, none⟩) ll c) ∧ W.cell? ⟨p, 1, none⟩ = some (.int .i64 (a : Int)) ∧ W.cell? ⟨p, 4, none⟩ = some (.int .i64 0) ∧ W.cell? ⟨b, o + a * 4, none⟩ = some (.int .i64 tk) ∧ W.cell? ⟨b, o + a * 4 + 1, none⟩ = some (.string tt)) w1.drew := ⟨q0, q1, q4, c0, c1⟩
      have hpw1 := kb.lt
      have HKB := Lib.hid kb
      have HRD := Lib.hid hrd
      have HLL := Lib.hid hll
      have HTV := Lib.hid htv
      have HC2 := Lib.hid c2
      have HC3 := Lib.hid c3
      have HC0 := Lib.hid c0
      have HC1 := Lib.hid c1
      have HTK := Lib.hid htk
      clear kb hrd hll htv c2 c3 c0 c1 htk q0 q1 hbu g1 h1
      have gq := GT.out tt t.text htt
      rw [decide_eq_true htw] at gq
      have gq2 : tt.toList = zw.toList := by simpa using gq
      have gq3 : (tt.toList != zw.toList) = false := by rw [gq2]; simp
      clear htw GT
      have gk : tk = kk := by rw [HTK.out]; exact gk0
      have gk2 : (tk == kk) = true := by rw [gk]; exact beq_self_eq_true _
      have gk3 : (tk != kk) = false := by rw [gk]; simp
      clear gk0 htt
      go_wp2_with fail
      rename_i KK hKK
      have HKK := Lib.hid hKK
      clear hKK
      refine wp_region_held_drew (S := (fun W => W.cell? ⟨p, 0, none⟩ = some (.slice (some ⟨b, o, none⟩) ll c) ∧ W.cell? ⟨p, 1, none⟩ = some (.int .i64 (a : Int)) ∧ W.cell? ⟨p, 4, none⟩ = some (.int .i64 0) ∧ W.cell? ⟨b, o + a * 4, none⟩ = some (.int .i64 tk) ∧ W.cell? ⟨b, o + a * 4 + 1, none⟩ = some (.string tt))) (by kernel_rfl) hS (fun hHeld => ?_)
      refine hyY (some 15) 0 rfl hHeld ?_; go_frame
      refine hyY (some 16) 1 rfl hHeld ?_; go_frame
      refine hyY (some 17) 2 rfl hHeld ?_; go_frame
      refine hyY (some 18) 3 rfl hHeld ?_; go_frame
      refine hyY (some 19) 4 rfl hHeld ?_; go_frame
      refine hyY (some 20) 5 rfl hHeld ?_; go_frame
      refine hyY (some 21) 6 rfl hHeld ?_; go_frame
      refine hyY (some 22) 7 rfl hHeld ?_; go_frame
      refine hyY (some 23) 8 rfl hHeld ?_; go_frame
      refine hyY (some 24) 9 rfl hHeld ?_; go_frame
      refine hyY (some 25) 10 rfl hHeld ?_; go_frame
      refine hyY (some 26) 11 rfl hHeld ?_; go_frame
      refine hyY (some 27) 12 rfl hHeld ?_; go_frame
      refine hyY (some 28) 13 rfl hHeld ?_; go_frame
      refine hyY (some 29) 14 rfl hHeld ?_; go_frame
      refine hyY (some 30) 15 rfl hHeld ?_; go_frame
      refine hyY (some 31) 16 rfl hHeld ?_; go_frame
      refine hyY (some 32) 17 rfl hHeld ?_; go_frame
      refine hyY (some 33) 18 rfl hHeld ?_; go_frame
      refine hyY (some 34) 19 rfl hHeld ?_; go_frame
      refine hyY (some 35) 20 rfl hHeld ?_; go_frame
      refine hyY (some 36) 21 rfl hHeld ?_; go_frame
      refine hyY (some 37) 22 rfl hHeld ?_; go_frame
      refine hyY (some 38) 23 rfl hHeld ?_; go_frame
      refine hyY (some 39) 24 rfl hHeld ?_; go_frame
      refine hyY (some 40) 25 rfl hHeld ?_; go_frame
      refine hyY (some 41) 26 rfl hHeld ?_; go_frame
      refine hyY (some 42) 27 rfl hHeld ?_; go_frame
      refine hyY (some 43) 28 rfl hHeld ?_; go_frame
      refine hyY (some 44) 29 rfl hHeld ?_; go_frame
      refine hyY (some 45) 30 rfl hHeld ?_; go_frame
      refine hyY (some 46) 31 rfl hHeld ?_; go_frame
      refine hyY (some 47) 32 rfl hHeld ?_; go_frame
      refine hyY (some 48) 33 rfl hHeld ?_; go_frame
      refine hyY (some 49) 34 rfl hHeld ?_; go_frame
      refine hyY (some 50) 35 rfl hHeld ?_; go_frame
      refine hyY (some 51) 36 rfl hHeld ?_; go_frame
      refine hyY (some 52) 37 rfl hHeld ?_; go_frame
      refine hyY (some 53) 38 rfl hHeld ?_; go_frame
      refine hyY (some 54) 39 rfl hHeld ?_; go_frame
      refine hyY (some 55) 40 rfl hHeld ?_; go_frame
      refine hyY (some 56) 41 rfl hHeld ?_; go_frame
      refine hyY (some 57) 42 rfl hHeld ?_; go_frame
      refine hyY (some 58) 43 rfl hHeld ?_; go_frame
      refine wpAnyH_done (by kernel_rfl) ?_ _
      skip
      have hKK := HKK.out
      clear hHeld
      have kb := HKB.out
      have e1 : ((a + 1 : Nat) : Int) = (a : Int) + 1 := by omega
      have hp1 : p < w1.drew.heap.size := kb.lt
      have p1d : w1.drew.frozen? ⟨p, 1, none⟩ = false := kb.free 1
      have q1d : w1.drew.cell? ⟨p, 1, none⟩ = some (.int .i64 (a : Int)) := kb.cell 1
      have hlt1 : (a : Int) < 9223372036854775807 := by unfold maxLen at hlm; omega
      have K2 : KB (w1.drew.setCell ⟨p, 1, none⟩ (.int .i64 ((a : Int) + 1))) p 59 #[.slice (some ⟨b, o, none⟩) ll c, .int .i64 ((a : Int) + 1), .int .i64 n, .int .i64 s1.fuel, .int .i64 0, .int .i64 s1.used] := KB.put (w := w1.drew) kb 1 _
      have far : ∀ (x : Nat) (u : Value), w1.cell? ⟨b, x, none⟩ = some u → (w1.drew.setCell ⟨p, 1, none⟩ (.int .i64 ((a : Int) + 1))).cell? ⟨b, x, none⟩ = some u := fun x u hu => (World.cell?_of_block (w := w1.drew) (a := ⟨b, x, none⟩) (Below.heap_setCell w1.drew _ _ _ (by show b ≠ p; omega))).trans hu
      have R2 : KB (w1.drew.setCell ⟨p, 1, none⟩ (.int .i64 ((a : Int) + 1))) w.heap.size 79 #[.int .i64 0, .string ⟨#[]⟩, .int .i64 0, .int .i64 0] := R1.out.keep (w' := w1.drew.setCell ⟨p, 1, none⟩ (.int .i64 ((a : Int) + 1))) (Below.heap_setCell w1.drew _ _ _ (by show w.heap.size ≠ p; omega))
      have S2 : Sd (w1.drew.setCell ⟨p, 1, none⟩ (.int .i64 ((a : Int) + 1))) p n L ⟨r, s1.fuel, 0, s1.used⟩ := by
        obtain ⟨v9, a9, k9, t9, u1, u2, u3⟩ := H1.out
        have hv9 : v9 = .slice (some ⟨b, o, none⟩) ll c := by
          have x1 := k9.cell 0
          have x2 := kb.cell 0
          rw [x1] at x2
          simpa using x2
        subst hv9
        refine ⟨_, a + 1, ?_, (t9.keep (w' := w1.drew) (Nat.le_refl _) fun _ _ _ => rfl).but (grown_set _ p 1 _), by rw [← HLL.out]; exact hal, HRD.out, u3⟩
        rw [e1]; exact K2
      have G2 : w.grownBy (w1.drew.setCell ⟨p, 1, none⟩ (.int .i64 ((a : Int) + 1))) (some p) := grown_trans (grown_trans G1.out (show w1.grownBy w1.drew (some p) from ⟨rfl, rfl, rfl, Nat.le_refl _, fun _ _ _ => rfl⟩)) (grown_set w1.drew p 1 _)
      have x0 := far _ _ HC0.out
      have x1 := far _ _ HC1.out
      have x2 := far _ _ HC2.out
      have x3 := far _ _ HC3.out
      have y0 : (w1.drew.setCell ⟨p, 1, none⟩ (.int .i64 ((a : Int) + 1))).cell? ⟨p, 0, none⟩ = some (.slice (some ⟨b, o, none⟩) ll c) := K2.cell 0
      have y1 : (w1.drew.setCell ⟨p, 1, none⟩ (.int .i64 ((a : Int) + 1))).cell? ⟨p, 1, none⟩ = some (.int .i64 ((a : Int) + 1)) := K2.cell 1
      clear kb far HKB HC0 HC1 HC2 HC3 R1 H1 G1 hS HKK
      generalize w1.drew = v1 at *
      have I1 : IntKind.i64.wrap ((a : Int) + 1) = (a : Int) + 1 := by rw [IntKind.wrap_i64]; unfold maxLen at hlm; omega
      have I2 : wrap64 ((a : Int) + 1) = (a : Int) + 1 := IntWalk.wrap64_in _ (by unfold maxLen at hlm; omega)
      go_wp2_with fail
      clear I1 I2
      rename_i KK2 hKK2
      have HKK2 := Lib.hid hKK2
      clear hKK2
      generalize v1.setCell ⟨p, 1, none⟩ (.int .i64 ((a : Int) + 1)) = w2 at *
      obtain ⟨tn, htn⟩ : ∃ tn : Int, tn = t.n := ⟨_, rfl⟩
      obtain ⟨ta, hta⟩ : ∃ ta : Int, ta = (t.at_ : Int) := ⟨_, rfl⟩
      rw [← htn] at x2
      rw [← hta] at x3
      have kfin : KB (((((w2.setCell ⟨w.heap.size, 0, none⟩ (.int .i64 tk)).setCell ⟨w.heap.size, 1, none⟩ (.string tt)).setCell ⟨w.heap.size, 2, none⟩ (.int .i64 tn)).setCell ⟨w.heap.size, 3, none⟩ (.int .i64 ta))).drew w.heap.size 79 #[.int .i64 tk, .string tt, .int .i64 tn, .int .i64 ta] := KB.put4 (w := w2) R2 (.int .i64 tk) (.string tt) (.int .i64 tn) (.int .i64 ta)
      have sfin : Sd (((((w2.setCell ⟨w.heap.size, 0, none⟩ (.int .i64 tk)).setCell ⟨w.heap.size, 1, none⟩ (.string tt)).setCell ⟨w.heap.size, 2, none⟩ (.int .i64 tn)).setCell ⟨w.heap.size, 3, none⟩ (.int .i64 ta))).drew p n L ⟨r, s1.fuel, 0, s1.used⟩ := S2.four hp (.int .i64 tk) (.string tt) (.int .i64 tn) (.int .i64 ta)
      have gfin : w.grownBy (((((w2.setCell ⟨w.heap.size, 0, none⟩ (.int .i64 tk)).setCell ⟨w.heap.size, 1, none⟩ (.string tt)).setCell ⟨w.heap.size, 2, none⟩ (.int .i64 tn)).setCell ⟨w.heap.size, 3, none⟩ (.int .i64 ta))).drew (some p) := grown_trans (grown_four G2 (Nat.le_refl _) (.int .i64 tk) (.string tt) (.int .i64 tn) (.int .i64 ta)) ⟨rfl, rfl, rfl, Nat.le_refl _, fun _ _ _ => rfl⟩
      have hfin := HY.out _ t r hz HHR.out hft sfin gfin
      unfold tokV at hfin
      rw [HTV.out, ← HTK.out, ← htn, ← hta] at hfin
      have HW8 : Hid (∀ W8, W8 = (((((w2.setCell ⟨w.heap.size, 0, none⟩ (.int .i64 tk)).setCell ⟨w.heap.size, 1, none⟩ (.string tt)).setCell ⟨w.heap.size, 2, none⟩ (.int .i64 tn)).setCell ⟨w.heap.size, 3, none⟩ (.int .i64 ta))).drew → W8.cell? ⟨p, 0, none⟩ = some (.slice (some ⟨b, o, none⟩) ll c) ∧ W8.cell? ⟨p, 1, none⟩ = some (.int .i64 ((a : Int) + 1)) ∧ W8.cell? ⟨b, o + a * 4, none⟩ = some (.int .i64 tk) ∧ W8.cell? ⟨b, o + a * 4 + 1, none⟩ = some (.string tt) ∧ W8.cell? ⟨b, o + a * 4 + 2, none⟩ = some (.int .i64 tn) ∧ W8.cell? ⟨b, o + a * 4 + 3, none⟩ = some (.int .i64 ta)) := by
        intro W8 hW8
        have bl : ∀ q, q ≠ w.heap.size → W8.heap[q]? = w2.heap[q]? := fun q hq => by
          rw [hW8]
          exact (Below.heap_setCell _ _ _ _ hq).trans ((Below.heap_setCell _ _ _ _ hq).trans ((Below.heap_setCell _ _ _ _ hq).trans (Below.heap_setCell _ _ _ _ hq)))
        have fr : ∀ (q x : Nat) (u : Value), q ≠ w.heap.size → w2.cell? ⟨q, x, none⟩ = some u → W8.cell? ⟨q, x, none⟩ = some u := fun q x u hq hu => (World.cell?_of_block (w := w2) (a := ⟨q, x, none⟩) (bl q hq)).trans hu
        exact ⟨fr _ _ _ (by omega) y0, fr _ _ _ (by omega) y1, fr _ _ _ (by omega) x0, fr _ _ _ (by omega) x1, fr _ _ _ (by omega) x2, fr _ _ _ (by omega) x3⟩
      obtain ⟨W8, hW8⟩ : ∃ W8, W8 = (((((w2.setCell ⟨w.heap.size, 0, none⟩ (.int .i64 tk)).setCell ⟨w.heap.size, 1, none⟩ (.string tt)).setCell ⟨w.heap.size, 2, none⟩ (.int .i64 tn)).setCell ⟨w.heap.size, 3, none⟩ (.int .i64 ta))).drew := ⟨_, rfl⟩
      have hS8 := HW8.out W8 hW8
      rw [← hW8] at kfin hfin
      have hS2 : (fun W : World => W.cell? ⟨p, 0, none⟩ = some (.slice (some ⟨b, o, none⟩) ll c) ∧ W.cell? ⟨p, 1, none⟩ = some (.int .i64 ((a : Int) + 1)) ∧ W.cell? ⟨b, o + a * 4, none⟩ = some (.int .i64 tk) ∧ W.cell? ⟨b, o + a * 4 + 1, none⟩ = some (.string tt) ∧ W.cell? ⟨b, o + a * 4 + 2, none⟩ = some (.int .i64 tn) ∧ W.cell? ⟨b, o + a * 4 + 3, none⟩ = some (.int .i64 ta)) w2.drew := ⟨y0, y1, x0, x1, x2, x3⟩
      have RD : KB w2.drew w.heap.size 79 #[.int .i64 0, .string ⟨#[]⟩, .int .i64 0, .int .i64 0] := R2
      have f0 := RD.free 0
      have r0 := RD.cell 0
      have f1 := RD.free 1
      have r1 := RD.cell 1
      have f2 := RD.free 2
      have r2 := RD.cell 2
      have f3 := RD.free 3
      have r3 := RD.cell 3
      have ff0 := R2.free 0
      have rr0 := R2.cell 0
      have ff1 := R2.free 1
      have rr1 := R2.cell 1
      have ff2 := R2.free 2
      have rr2 := R2.cell 2
      have ff3 := R2.free 3
      have rr3 := R2.cell 3
      have hgW := RD.lt
      have hgW2 := R2.lt
      have I5 : IntKind.i64.wrap (a : Int) = (a : Int) := by rw [IntKind.wrap_i64]; unfold maxLen at hlm; omega
      have I6 : wrap64 (a : Int) = (a : Int) := IntWalk.wrap64_in _ (by unfold maxLen at hlm; omega)
      clear gk gk2 gk3
      clear K2 R2 S2 G2 sfin gfin HRD HLL HTV HTK htn hta HW8 HY HZ x0 x1 x2 x3 y0 y1 RD
      refine wp_region_held_drew (S := (fun W => W.cell? ⟨p, 0, none⟩ = some (.slice (some ⟨b, o, none⟩) ll c) ∧ W.cell? ⟨p, 1, none⟩ = some (.int .i64 ((a : Int) + 1)) ∧ W.cell? ⟨b, o + a * 4, none⟩ = some (.int .i64 tk) ∧ W.cell? ⟨b, o + a * 4 + 1, none⟩ = some (.string tt) ∧ W.cell? ⟨b, o + a * 4 + 2, none⟩ = some (.int .i64 tn) ∧ W.cell? ⟨b, o + a * 4 + 3, none⟩ = some (.int .i64 ta))) (by kernel_rfl) hS2 (fun hHeld => ?_)
      refine hyY (some 70) 0 rfl hHeld ?_; go_frame
      refine hyY (some 71) 1 rfl hHeld ?_; go_frame
      refine hyY (some 72) 2 rfl hHeld ?_; go_frame
      refine hyY (some 73) 3 rfl hHeld ?_; go_frame
      refine hyY (some 74) 4 rfl hHeld ?_; go_frame
      refine hyY (some 75) 5 rfl hHeld ?_; go_frame
      refine hyY (some 76) 6 rfl hHeld ?_; go_frame
      refine hyY (some 77) 7 rfl hHeld ?_; go_frame
      refine hyY (some 78) 8 rfl hHeld ?_; go_frame
      refine hyY (some 79) 9 rfl hHeld ?_; go_frame
      refine hyY (some 80) 10 rfl hHeld ?_; go_frame
      refine hyO none 11 rfl (fun K hK => ?_)
      go_simp
      rw [← hW8]
      clear hW8
      refine hK.out _ _ ?_ (fun hH2 => ?_)
      · exact hS8
      clear hHeld hK K; have hHeld := hH2; clear hH2; try go_frame
      refine wpAnyH_done (by kernel_rfl) ?_ _
      have hKK := HKK2.out
      go_wp2_with fail
      exact bodyPost_ret (results_cell (P := Tryz.prog) rfl _ _ w.heap.size _ _ (0, 0) _ rfl kfin Tryz.underlying79 rfl (by kernel_rfl)) rfl hfin
    · have hff : fitT k wd t = false := by rw [hfit, decide_eq_true hk, decide_eq_false hn, decide_eq_false htw]; rfl
      clear hfit ge nil2 hk hn
      go_enter Tryz.func42, Tryz.ntmps42
      go_wp2_with fail
      refine hbu.mono ?_
      rintro e w1 ⟨rfl, h1, g1⟩
      have G1 := Lib.hid (grown_trans HG0.out g1)
      have R1 := Lib.hid (HR0.out.grown g1 (fun e => by injection e with e; omega))
      have H1 := Lib.hid h1
      obtain ⟨b, o, c, a, kb, hbp, hbw, hal, hlm, c0, c1, c2, c3, hrd⟩ := h1.head HHR.out
      rw [hz] at kb
      have q0 : w1.cell? ⟨p, 0, none⟩ = some (.slice (some ⟨b, o, none⟩) L.length c) := kb.cell 0
      have q1 : w1.cell? ⟨p, 1, none⟩ = some (.int .i64 (a : Int)) := kb.cell 1
      have q4 : w1.cell? ⟨p, 4, none⟩ = some (.int .i64 0) := kb.cell 4
      obtain ⟨tt, htt⟩ : ∃ z : ByteArray, z = ⟨t.text.toArray⟩ := ⟨_, rfl⟩
      have htv : strV t.text = .string tt := by unfold strV; rw [htt]
      rw [htv] at c1
      obtain ⟨ll, hll⟩ : ∃ ll, ll = L.length := ⟨_, rfl⟩
      rw [← hll] at q0 hal hlm kb
      have hl : ((a : Int) < (ll : Int)) := by omega
      have hl2 : decide ((a : Int) < (ll : Int)) = true := decide_eq_true hl
      have hl4 : ¬ ll ≤ a := by omega
      have hl5 : ¬ (ll : Int) ≤ (a : Int) := by omega
      obtain ⟨tk, htk⟩ : ∃ tk : Int, tk = (t.kind : Int) := ⟨_, rfl⟩
      rw [← htk] at c0
      have hS : (fun W : World => W.cell? ⟨p, 0, none⟩ = some (.slice (some ⟨b, o, none⟩) ll c) ∧ W.cell? ⟨p, 1, none⟩ = some (.int .i64 (a : Int)) ∧ W.cell? ⟨p, 4, none⟩ = some (.int .i64 0) ∧ W.cell? ⟨b, o + a * 4, none⟩ = some (.int .i64 tk) ∧ W.cell? ⟨b, o + a * 4 + 1, none⟩ = some (.string tt)) w1.drew := ⟨q0, q1, q4, c0, c1⟩
      have hpw1 := kb.lt
      have HKB := Lib.hid kb
      have HRD := Lib.hid hrd
      have HLL := Lib.hid hll
      have HTV := Lib.hid htv
      have HC2 := Lib.hid c2
      have HC3 := Lib.hid c3
      have HC0 := Lib.hid c0
      have HC1 := Lib.hid c1
      have HTK := Lib.hid htk
      clear kb hrd hll htv c2 c3 c0 c1 htk q0 q1 hbu g1 h1
      have gq := GT.out tt t.text htt
      rw [decide_eq_false htw] at gq
      have gq2 : ¬ tt.toList = zw.toList := by simpa using gq
      have gq3 : (tt.toList != zw.toList) = true := bne_iff_ne.2 gq2
      clear htw GT
      have gk : tk = kk := by rw [HTK.out]; exact gk0
      have gk2 : (tk == kk) = true := by rw [gk]; exact beq_self_eq_true _
      have gk3 : (tk != kk) = false := by rw [gk]; simp
      clear gk0 htt
      go_wp2_with fail
      rename_i KK hKK
      have HKK := Lib.hid hKK
      clear hKK
      refine wp_region_held_drew (S := (fun W => W.cell? ⟨p, 0, none⟩ = some (.slice (some ⟨b, o, none⟩) ll c) ∧ W.cell? ⟨p, 1, none⟩ = some (.int .i64 (a : Int)) ∧ W.cell? ⟨p, 4, none⟩ = some (.int .i64 0) ∧ W.cell? ⟨b, o + a * 4, none⟩ = some (.int .i64 tk) ∧ W.cell? ⟨b, o + a * 4 + 1, none⟩ = some (.string tt))) (by kernel_rfl) hS (fun hHeld => ?_)
      refine hyY (some 15) 0 rfl hHeld ?_; go_frame
      refine hyY (some 16) 1 rfl hHeld ?_; go_frame
      refine hyY (some 17) 2 rfl hHeld ?_; go_frame
      refine hyY (some 18) 3 rfl hHeld ?_; go_frame
      refine hyY (some 19) 4 rfl hHeld ?_; go_frame
      refine hyY (some 20) 5 rfl hHeld ?_; go_frame
      refine hyY (some 21) 6 rfl hHeld ?_; go_frame
      refine hyY (some 22) 7 rfl hHeld ?_; go_frame
      refine hyY (some 23) 8 rfl hHeld ?_; go_frame
      refine hyY (some 24) 9 rfl hHeld ?_; go_frame
      refine hyY (some 25) 10 rfl hHeld ?_; go_frame
      refine hyY (some 26) 11 rfl hHeld ?_; go_frame
      refine hyY (some 27) 12 rfl hHeld ?_; go_frame
      refine hyY (some 28) 13 rfl hHeld ?_; go_frame
      refine hyY (some 29) 14 rfl hHeld ?_; go_frame
      refine hyY (some 30) 15 rfl hHeld ?_; go_frame
      refine hyY (some 31) 16 rfl hHeld ?_; go_frame
      refine hyY (some 32) 17 rfl hHeld ?_; go_frame
      refine hyY (some 33) 18 rfl hHeld ?_; go_frame
      refine hyY (some 34) 19 rfl hHeld ?_; go_frame
      refine hyY (some 35) 20 rfl hHeld ?_; go_frame
      refine hyY (some 36) 21 rfl hHeld ?_; go_frame
      refine hyY (some 37) 22 rfl hHeld ?_; go_frame
      refine hyY (some 38) 23 rfl hHeld ?_; go_frame
      refine hyY (some 39) 24 rfl hHeld ?_; go_frame
      refine hyY (some 40) 25 rfl hHeld ?_; go_frame
      refine hyY (some 41) 26 rfl hHeld ?_; go_frame
      refine hyY (some 42) 27 rfl hHeld ?_; go_frame
      refine hyY (some 43) 28 rfl hHeld ?_; go_frame
      refine hyY (some 44) 29 rfl hHeld ?_; go_frame
      refine hyY (some 45) 30 rfl hHeld ?_; go_frame
      refine hyY (some 46) 31 rfl hHeld ?_; go_frame
      refine hyY (some 47) 32 rfl hHeld ?_; go_frame
      refine hyY (some 48) 33 rfl hHeld ?_; go_frame
      refine hyY (some 49) 34 rfl hHeld ?_; go_frame
      refine hyY (some 50) 35 rfl hHeld ?_; go_frame
      refine hyY (some 51) 36 rfl hHeld ?_; go_frame
      refine hyY (some 52) 37 rfl hHeld ?_; go_frame
      refine hyY (some 53) 38 rfl hHeld ?_; go_frame
      refine hyY (some 54) 39 rfl hHeld ?_; go_frame
      refine hyY (some 55) 40 rfl hHeld ?_; go_frame
      refine hyY (some 56) 41 rfl hHeld ?_; go_frame
      refine hyY (some 57) 42 rfl hHeld ?_; go_frame
      refine hyY (some 58) 43 rfl hHeld ?_; go_frame
      refine wpAnyH_done (by kernel_rfl) ?_ _
      skip
      have p4d : w1.drew.frozen? ⟨p, 4, none⟩ = false := by obtain ⟨v9, a9, k9, _⟩ := H1.out; exact k9.free 4
      have q4d : w1.drew.cell? ⟨p, 4, none⟩ = some (.int .i64 0) := by obtain ⟨v9, a9, k9, _⟩ := H1.out; rw [← hz]; exact k9.cell 4
      have hp1 : p < w1.drew.heap.size := H1.out.lt
      have W4R : KB (w1.drew.setCell ⟨p, 4, none⟩ (.int .i64 2)) w.heap.size 79 #[.int .i64 0, .string ⟨#[]⟩, .int .i64 0, .int .i64 0] := R1.out.keep (w' := w1.drew.setCell ⟨p, 4, none⟩ (.int .i64 2)) (Below.heap_setCell w1.drew _ _ _ (by show w.heap.size ≠ p; omega))
      have W4S : Sd (w1.drew.setCell ⟨p, 4, none⟩ (.int .i64 2)) p n L ⟨s1.rest, s1.fuel, 2, s1.used⟩ := by
        obtain ⟨v9, a9, k9, t9, r9⟩ := H1.out
        exact ⟨v9, a9, KB.put (w := w1.drew) k9 4 _, (t9.keep (w' := w1.drew) (Nat.le_refl _) fun _ _ _ => rfl).but (grown_set _ p 4 _), r9⟩
      have W4G : w.grownBy (w1.drew.setCell ⟨p, 4, none⟩ (.int .i64 2)) (some p) := grown_trans (grown_trans G1.out (show w1.grownBy w1.drew (some p) from ⟨rfl, rfl, rfl, Nat.le_refl _, fun _ _ _ => rfl⟩)) (grown_set w1.drew p 4 _)
      have R1d : KB w1.drew w.heap.size 79 #[.int .i64 0, .string ⟨#[]⟩, .int .i64 0, .int .i64 0] := R1.out
      have hgW := R1d.lt
      have f0 := R1d.free 0
      have r0 := R1d.cell 0
      have f1 := R1d.free 1
      have r1 := R1d.cell 1
      have f2 := R1d.free 2
      have r2 := R1d.cell 2
      have f3 := R1d.free 3
      have r3 := R1d.cell 3
      have kfin := W4R.put4 (.int .i64 0) (.string ⟨#[]⟩) (.int .i64 0) (.int .i64 0)
      have hfin := HZ.out _ hz (.inr ⟨t, r, HHR.out, hff⟩) (W4S.four hp (.int .i64 0) (.string ⟨#[]⟩) (.int .i64 0) (.int .i64 0)) (grown_four W4G (Nat.le_refl _) (.int .i64 0) (.string ⟨#[]⟩) (.int .i64 0) (.int .i64 0))
      obtain ⟨W5, hW5⟩ : ∃ W5, W5 = (((((w1.drew.setCell ⟨p, 4, none⟩ (.int .i64 2)).setCell ⟨w.heap.size, 0, none⟩ (.int .i64 0)).setCell ⟨w.heap.size, 1, none⟩ (.string ⟨#[]⟩)).setCell ⟨w.heap.size, 2, none⟩ (.int .i64 0)).setCell ⟨w.heap.size, 3, none⟩ (.int .i64 0)) := ⟨_, rfl⟩
      rw [← hW5] at kfin hfin
      have HW5 := Lib.hid hW5
      have hnp : ¬ w.heap.size = p := by omega
      have hnp2 : ¬ p = w.heap.size := by omega
      clear hW5 W4S W4G W4R HY HZ H1 R1 G1 hHeld hS
      have hKK := HKK.out
      clear HKK
      generalize w1.drew = v1 at *
      go_wp2_with fail
      rw [← HW5.out]
      exact bodyPost_ret (results_cell (P := Tryz.prog) rfl _ _ w.heap.size _ _ (0, 0) _ rfl kfin Tryz.underlying79 rfl (by kernel_rfl)) rfl hfin
end
end Go.Proofs.YthindhlogkhclaaGreatDoor
