/-
  PaA: The program's take and found (layer 18), over the loaded program: their contracts. No condition but what each names.
-/
import Derived.Test.YthindhlogkhclaaGreatDoorPz16
set_option linter.unusedVariables false
set_option maxRecDepth 100000
namespace Go.Proofs.YthindhlogkhclaaGreatDoor
section
open Go.RowKit
def TakeAs (p : Nat) (n d : Int) (m : Tk → Bool) (s : Ps) (w : World) (e : Ending) (w' : World) : Prop := e = .returned (tokV (nextB m s).1) ∧ St w' p n d (nextB m s).2 ∧ w.grownBy w' (some p)
theorem fail_e (e0 : Int) (h : e0 ≠ 0) (s : Ps) : (failP e0 s).e ≠ 0 := by
  unfold failP
  by_cases he : s.e = 0
  · rw [if_pos he]; exact h
  · rw [if_neg he]; exact he
theorem KB.put4 {w : World} {g : Nat} {t : TypeId} {a b c e : Value} (h : KB w g t #[a, b, c, e]) (x y z u : Value) : KB ((((w.setCell ⟨g, 0, none⟩ x).setCell ⟨g, 1, none⟩ y).setCell ⟨g, 2, none⟩ z).setCell ⟨g, 3, none⟩ u) g t #[x, y, z, u] :=
  (((h.put 0 x).put 1 y).put 2 z).put 3 u
theorem grown_four {w w' : World} {row : Option Nat} (h : w.grownBy w' row) {g : Nat} (hg : w.heap.size ≤ g) (x y z u : Value) : w.grownBy ((((w'.setCell ⟨g, 0, none⟩ x).setCell ⟨g, 1, none⟩ y).setCell ⟨g, 2, none⟩ z).setCell ⟨g, 3, none⟩ u) row :=
  grown_cell (grown_cell (grown_cell (grown_cell h hg x) hg y) hg z) hg u
theorem St.four {w : World} {p : Nat} {n d : Int} {s : Ps} (h : St w p n d s) {g : Nat} (hg : p < g) (x y z u : Value) : St ((((w.setCell ⟨g, 0, none⟩ x).setCell ⟨g, 1, none⟩ y).setCell ⟨g, 2, none⟩ z).setCell ⟨g, 3, none⟩ u) p n d s :=
  (((h.setCell (a := ⟨g, 0, none⟩) hg x).setCell (a := ⟨g, 1, none⟩) hg y).setCell (a := ⟨g, 2, none⟩) hg z).setCell (a := ⟨g, 3, none⟩) hg u
set_option maxHeartbeats 8000000 in
theorem take_any (p : Nat) (n d : Int) (s : Ps) (F : Nat) (caps : Array Value) (m : Tk → Bool) (w : World) (hm : MayF p w F caps m) (h : St w p n d s) :
    Calls Tryz.prog 30 #[.pointer (some ⟨p, 0, none⟩), .func (.func F) #[] caps] w (TakeAs p n d m s w) := by
  have hp := h.lt
  have R0 := KB.new w 62 #[.int .i64 0, .string ⟨#[]⟩, .int .i64 0, .int .i64 0]
  have h0 := h.alloc (.cells #[.int .i64 0, .string ⟨#[]⟩, .int .i64 0, .int .i64 0] 62)
  have hsp := spend_any p n d s _ h0
  have g0 : w.grownBy (w.alloc (.cells #[.int .i64 0, .string ⟨#[]⟩, .int .i64 0, .int .i64 0] 62)) (some p) := grown_alloc (World.grownBy.refl w _) _
  obtain ⟨D, hD⟩ : ∃ D, D = TakeAs p n d m s w := ⟨_, rfl⟩
  rw [← hD]
  have HD : Hid (∀ W, St W p n d (nextB m s).2 → w.grownBy W (some p) → D (.returned (tokV (nextB m s).1)) W) := fun W h1 h2 => by rw [hD]; exact ⟨rfl, h1, h2⟩
  have hN : nextB m s = if (burnP s).e = 0 then takeB m (burnP s) else (zeroTk, burnP s) := rfl
  rw [hN] at HD
  have HR0 := Lib.hid R0
  have HG0 := Lib.hid g0
  have hrun := hm.run
  have HM := Lib.hid hm.does
  clear hD hN h h0 hm R0 g0
  obtain ⟨s1, hs1⟩ : ∃ s1, s1 = burnP s := ⟨_, rfl⟩
  rw [← hs1] at hsp HD
  clear hs1
  -- nothing was taken
  have HZ : Hid (∀ W, (s1.rest = [] ∨ ∃ t r, s1.rest = t :: r ∧ m t = false) → St W p n d (failP 2 s1) → w.grownBy W (some p) → D (.returned (.agg #[.int .i64 0, .string ⟨#[]⟩, .int .i64 0, .int .i64 0])) W) := by
    intro W hc h1 h2
    have hd := HD.out W
    obtain ⟨l, f, e, u⟩ := s1
    by_cases he : e = 0
    · subst he
      rw [if_pos rfl] at hd
      unfold failP at h1
      rw [if_pos rfl] at h1
      rcases hc with hc | ⟨t, r, hc, hm⟩
      · dsimp only at hc; subst hc
        exact hd h1 h2
      · dsimp only at hc; subst hc
        have e1 : takeB m ⟨t :: r, f, 0, u⟩ = (zeroTk, ⟨t :: r, f, 2, u⟩) := by
          show (if m t = true then _ else _) = _
          rw [if_neg (by rw [hm]; decide)]
        rw [e1] at hd
        exact hd h1 h2
    · rw [if_neg he] at hd
      unfold failP at h1
      rw [if_neg he] at h1
      exact hd h1 h2
  have HE : Hid (∀ W, s1.e ≠ 0 → St W p n d s1 → w.grownBy W (some p) → D (.returned (.agg #[.int .i64 0, .string ⟨#[]⟩, .int .i64 0, .int .i64 0])) W) := by
    intro W he h1 h2
    have hd := HD.out W
    rw [if_neg he] at hd
    exact hd h1 h2
  have HY : Hid (∀ W t r, s1.e = 0 → s1.rest = t :: r → m t = true → St W p n d ⟨r, s1.fuel, 0, s1.used⟩ → w.grownBy W (some p) → D (.returned (tokV t)) W) := by
    intro W t r he hc hm h1 h2
    have hd := HD.out W
    rw [if_pos he] at hd
    obtain ⟨l, f, e, u⟩ := s1
    dsimp only at hc he; subst hc he
    have e1 : takeB m ⟨t :: r, f, 0, u⟩ = (t, ⟨r, f, 0, u⟩) := by
      show (if m t = true then _ else _) = _
      rw [if_pos hm]
    rw [e1] at hd
    exact hd h1 h2
  clear HD
  -- WAYS
  cases hr : s1.rest with
  | nil =>
    clear HE HY
    go_enter Tryz.func30, Tryz.ntmps30
    go_wp2_with fail
    refine hsp.mono ?_
    rintro e w1 ⟨rfl, h1, g1⟩
    have G1 := Lib.hid (grown_trans HG0.out g1)
    have R1 := Lib.hid (HR0.out.but g1 hp)
    have H1 := Lib.hid h1
    obtain ⟨v, F1, k1, ht1, hF1⟩ := h1
    obtain ⟨A, c, rfl, _⟩ := ht1.form
    rw [hr] at k1
    have q0 : w1.cell? ⟨p, 0, none⟩ = some (.slice A 0 c) := k1.cell 0
    have hp1 := k1.lt
    clear hsp g1 k1 ht1
    have hfl := fail_any p n d s1 2 w1 (by decide) H1.out
    have hne := fail_e 2 (by decide) s1
    go_wp2_with fail
    refine hfl.mono ?_
    rintro e w9 ⟨rfl, h9, g9⟩
    have H9 := Lib.hid h9
    have G9 := Lib.hid (grown_trans G1.out g9)
    have R9 := Lib.hid (R1.out.but g9 hp)
    clear hfl h9 g9
    have kk := H9.out
    obtain ⟨v9, F9, k9, _⟩ := kk
    have q4 : w9.cell? ⟨p, 4, none⟩ = some (.int .i64 (failP 2 s1).e) := k9.cell 4
    have hpW := k9.lt
    have hgW := R9.out.lt
    have f0 := R9.out.free 0
    have f1 := R9.out.free 1
    have f2 := R9.out.free 2
    have f3 := R9.out.free 3
    have r0 := R9.out.cell 0
    have r1 := R9.out.cell 1
    have r2 := R9.out.cell 2
    have r3 := R9.out.cell 3
    have kfin := R9.out.put4 (.int .i64 0) (.string ⟨#[]⟩) (.int .i64 0) (.int .i64 0)
    have hfin := HZ.out _ (.inl hr) (H9.out.four hp (.int .i64 0) (.string ⟨#[]⟩) (.int .i64 0) (.int .i64 0)) (grown_four G9.out (Nat.le_refl _) (.int .i64 0) (.string ⟨#[]⟩) (.int .i64 0) (.int .i64 0))
    obtain ⟨W5, hW5⟩ : ∃ W5, W5 = ((((w9.setCell ⟨w.heap.size, 0, none⟩ (.int .i64 0)).setCell ⟨w.heap.size, 1, none⟩ (.string ⟨#[]⟩)).setCell ⟨w.heap.size, 2, none⟩ (.int .i64 0)).setCell ⟨w.heap.size, 3, none⟩ (.int .i64 0)) := ⟨_, rfl⟩
    rw [← hW5] at kfin hfin
    have HW5 := Lib.hid hW5
    have ne0 : ((failP 2 s1).e == 0) = false := beq_eq_false_iff_ne.2 hne
    have ne1 : ((failP 2 s1).e != 0) = true := bne_iff_ne.2 hne
    clear k9 hW5
    generalize (failP 2 s1).e = e9 at *
    go_wp2_with fail
    rw [← HW5.out]
    exact bodyPost_ret (results_cell (P := Tryz.prog) rfl _ _ w.heap.size _ _ (0, 0) _ rfl kfin Tryz.underlying62 rfl (by kernel_rfl)) rfl hfin
  | cons t r =>
    cases hmt : m t with
    | false =>
      clear HE HY
      go_enter Tryz.func30, Tryz.ntmps30
      go_wp2_with fail
      refine hsp.mono ?_
      rintro e w1 ⟨rfl, h1, g1⟩
      have G1 := Lib.hid (grown_trans HG0.out g1)
      have R1 := Lib.hid (HR0.out.but g1 hp)
      have H1 := Lib.hid h1
      obtain ⟨v, F1, k1, ht1, hF1⟩ := h1
      obtain ⟨A, c, rfl, hlc, hcm⟩ := ht1.form
      rw [hr] at ht1 hlc
      obtain ⟨b, o, rfl, hbp, hb1, hcs⟩ := ht1.at_ (by simp)
      obtain ⟨c0, c1, c2, c3⟩ := hcs 0 t rfl
      rw [Nat.zero_mul, Nat.add_zero] at c0 c1 c2 c3
      have hlen : (0 : Int) < (s1.rest.length : Int) := by have := congrArg List.length hr; simp at this; omega
      have hlm : s1.rest.length ≤ maxLen := by rw [hr]; omega
      have q0 : w1.cell? ⟨p, 0, none⟩ = some (.slice (some ⟨b, o, none⟩) s1.rest.length c) := k1.cell 0
      have hp1 := k1.lt
      have hdo := HM.out t w1 G1.out
      clear hsp g1 k1
      have HF : Hid (∀ W, Below w1.heap.size w1 W → Calls Tryz.prog 64 #[.pointer (some ⟨p, 0, none⟩), .int .i64 2] W fun e w' => e = .returned (.tuple #[]) ∧ St w' p n d (failP 2 s1) ∧ W.grownBy w' (some p)) := fun W hb => fail_any p n d s1 2 W (by decide) (H1.out.below hb)
      have hne := fail_e 2 (by decide) s1
      obtain ⟨ll, hll⟩ : ∃ ll, ll = s1.rest.length := ⟨_, rfl⟩
      rw [← hll] at q0 hlen hlm
      have hl0 : ¬ ((ll : Int) = 0) := by omega
      have hl1 : ((ll : Int) == 0) = false := beq_eq_false_iff_ne.2 hl0
      unfold tokV at hdo
      obtain ⟨st, hsv⟩ : ∃ z : ByteArray, strV t.text = .string z := ⟨_, rfl⟩
      rw [hsv] at hdo c1
      rw [hmt] at hdo
      clear ht1 hcs hll
      go_wp2_with fail
      refine hdo.mono ?_
      rintro e w2 ⟨rfl, b2⟩
      have hfl := HF.out w2 b2
      have G2 := Lib.hid (grown_trans G1.out (grown_of_below b2 (some p)))
      have R2 := Lib.hid (R1.out.below b2 R1.out.lt)
      clear hdo HF q0 c0 c1 c2 c3
      go_wp2_with fail
      refine hfl.mono ?_
      rintro e w9 ⟨rfl, h9, g9⟩
      have H9 := Lib.hid h9
      have G9 := Lib.hid (grown_trans G2.out g9)
      have R9 := Lib.hid (R2.out.but g9 hp)
      clear hfl h9 g9
      have kk := H9.out
      obtain ⟨v9, F9, k9, _⟩ := kk
      have q4 : w9.cell? ⟨p, 4, none⟩ = some (.int .i64 (failP 2 s1).e) := k9.cell 4
      have hpW := k9.lt
      have hgW := R9.out.lt
      have f0 := R9.out.free 0
      have f1 := R9.out.free 1
      have f2 := R9.out.free 2
      have f3 := R9.out.free 3
      have r0 := R9.out.cell 0
      have r1 := R9.out.cell 1
      have r2 := R9.out.cell 2
      have r3 := R9.out.cell 3
      have kfin := R9.out.put4 (.int .i64 0) (.string ⟨#[]⟩) (.int .i64 0) (.int .i64 0)
      have hfin := HZ.out _ (.inr ⟨t, r, hr, hmt⟩) (H9.out.four hp (.int .i64 0) (.string ⟨#[]⟩) (.int .i64 0) (.int .i64 0)) (grown_four G9.out (Nat.le_refl _) (.int .i64 0) (.string ⟨#[]⟩) (.int .i64 0) (.int .i64 0))
      obtain ⟨W5, hW5⟩ : ∃ W5, W5 = ((((w9.setCell ⟨w.heap.size, 0, none⟩ (.int .i64 0)).setCell ⟨w.heap.size, 1, none⟩ (.string ⟨#[]⟩)).setCell ⟨w.heap.size, 2, none⟩ (.int .i64 0)).setCell ⟨w.heap.size, 3, none⟩ (.int .i64 0)) := ⟨_, rfl⟩
      rw [← hW5] at kfin hfin
      have HW5 := Lib.hid hW5
      have ne0 : ((failP 2 s1).e == 0) = false := beq_eq_false_iff_ne.2 hne
      have ne1 : ((failP 2 s1).e != 0) = true := bne_iff_ne.2 hne
      clear k9 hW5
      generalize (failP 2 s1).e = e9 at *
      go_wp2_with fail
      rw [← HW5.out]
      exact bodyPost_ret (results_cell (P := Tryz.prog) rfl _ _ w.heap.size _ _ (0, 0) _ rfl kfin Tryz.underlying62 rfl (by kernel_rfl)) rfl hfin
    | true =>
      by_cases hne : s1.e ≠ 0
      · skip
        clear HZ HY
        go_enter Tryz.func30, Tryz.ntmps30
        go_wp2_with fail
        refine hsp.mono ?_
        rintro e w1 ⟨rfl, h1, g1⟩
        have G1 := Lib.hid (grown_trans HG0.out g1)
        have R1 := Lib.hid (HR0.out.but g1 hp)
        have H1 := Lib.hid h1
        obtain ⟨v, F1, k1, ht1, hF1⟩ := h1
        obtain ⟨A, c, rfl, hlc, hcm⟩ := ht1.form
        rw [hr] at ht1 hlc
        obtain ⟨b, o, rfl, hbp, hb1, hcs⟩ := ht1.at_ (by simp)
        obtain ⟨c0, c1, c2, c3⟩ := hcs 0 t rfl
        rw [Nat.zero_mul, Nat.add_zero] at c0 c1 c2 c3
        have hlen : (0 : Int) < (s1.rest.length : Int) := by have := congrArg List.length hr; simp at this; omega
        have hlm : s1.rest.length ≤ maxLen := by rw [hr]; omega
        have q0 : w1.cell? ⟨p, 0, none⟩ = some (.slice (some ⟨b, o, none⟩) s1.rest.length c) := k1.cell 0
        have hp1 := k1.lt
        have hdo := HM.out t w1 G1.out
        clear hsp g1 k1
        obtain ⟨ll, hll⟩ : ∃ ll, ll = s1.rest.length := ⟨_, rfl⟩
        rw [← hll] at q0 hlen hlm
        have hl0 : ¬ ((ll : Int) = 0) := by omega
        have hl1 : ((ll : Int) == 0) = false := beq_eq_false_iff_ne.2 hl0
        unfold tokV at hdo
        obtain ⟨st, hsv⟩ : ∃ z : ByteArray, strV t.text = .string z := ⟨_, rfl⟩
        rw [hsv] at hdo c1
        rw [hmt] at hdo
        clear ht1 hcs hll
        go_wp2_with fail
        refine hdo.mono ?_
        rintro e w2 ⟨rfl, b2⟩
        have G2 := Lib.hid (grown_trans G1.out (grown_of_below b2 (some p)))
        have R2 := Lib.hid (R1.out.below b2 R1.out.lt)
        have H2 := Lib.hid (H1.out.below b2)
        clear hdo q0 c0 c1 c2 c3
        have kk := H2.out
        obtain ⟨v9, F9, k9, _⟩ := kk
        have q4 : w2.cell? ⟨p, 4, none⟩ = some (.int .i64 s1.e) := k9.cell 4
        have hpW := k9.lt
        have hgW := R2.out.lt
        have f0 := R2.out.free 0
        have f1 := R2.out.free 1
        have f2 := R2.out.free 2
        have f3 := R2.out.free 3
        have r0 := R2.out.cell 0
        have r1 := R2.out.cell 1
        have r2 := R2.out.cell 2
        have r3 := R2.out.cell 3
        have kfin := R2.out.put4 (.int .i64 0) (.string ⟨#[]⟩) (.int .i64 0) (.int .i64 0)
        have hfin := HE.out _ hne (H2.out.four hp (.int .i64 0) (.string ⟨#[]⟩) (.int .i64 0) (.int .i64 0)) (grown_four G2.out (Nat.le_refl _) (.int .i64 0) (.string ⟨#[]⟩) (.int .i64 0) (.int .i64 0))
        obtain ⟨W5, hW5⟩ : ∃ W5, W5 = ((((w2.setCell ⟨w.heap.size, 0, none⟩ (.int .i64 0)).setCell ⟨w.heap.size, 1, none⟩ (.string ⟨#[]⟩)).setCell ⟨w.heap.size, 2, none⟩ (.int .i64 0)).setCell ⟨w.heap.size, 3, none⟩ (.int .i64 0)) := ⟨_, rfl⟩
        rw [← hW5] at kfin hfin
        have HW5 := Lib.hid hW5
        have ne0 : (s1.e == 0) = false := beq_eq_false_iff_ne.2 hne
        have ne1 : (s1.e != 0) = true := bne_iff_ne.2 hne
        clear k9 hW5
        generalize s1.e = e9 at *
        go_wp2_with fail
        rw [← HW5.out]
        exact bodyPost_ret (results_cell (P := Tryz.prog) rfl _ _ w.heap.size _ _ (0, 0) _ rfl kfin Tryz.underlying62 rfl (by kernel_rfl)) rfl hfin
      · have hz : s1.e = 0 := Classical.byContradiction hne
        clear HZ HE
        go_enter Tryz.func30, Tryz.ntmps30
        go_wp2_with fail
        refine hsp.mono ?_
        rintro e w1 ⟨rfl, h1, g1⟩
        have G1 := Lib.hid (grown_trans HG0.out g1)
        have R1 := Lib.hid (HR0.out.but g1 hp)
        have H1 := Lib.hid h1
        obtain ⟨v, F1, k1, ht1, hF1⟩ := h1
        obtain ⟨A, c, rfl, hlc, hcm⟩ := ht1.form
        rw [hr] at ht1 hlc
        obtain ⟨b, o, rfl, hbp, hb1, hcs⟩ := ht1.at_ (by simp)
        obtain ⟨c0, c1, c2, c3⟩ := hcs 0 t rfl
        rw [Nat.zero_mul, Nat.add_zero] at c0 c1 c2 c3
        have hlen : (0 : Int) < (s1.rest.length : Int) := by have := congrArg List.length hr; simp at this; omega
        have hlm : s1.rest.length ≤ maxLen := by rw [hr]; omega
        have q0 : w1.cell? ⟨p, 0, none⟩ = some (.slice (some ⟨b, o, none⟩) s1.rest.length c) := k1.cell 0
        have hp1 := k1.lt
        have hdo := HM.out t w1 G1.out
        obtain ⟨ll, hll⟩ : ∃ ll, ll = s1.rest.length := ⟨_, rfl⟩
        rw [← hll] at q0 hlen hlm
        have hl0 : ¬ ((ll : Int) = 0) := by omega
        have hl1 : ((ll : Int) == 0) = false := beq_eq_false_iff_ne.2 hl0
        unfold tokV at hdo
        obtain ⟨st, hsv⟩ : ∃ z : ByteArray, strV t.text = .string z := ⟨_, rfl⟩
        rw [hsv] at hdo c1
        rw [hmt] at hdo
        have HLL := Lib.hid hll
        have HHR := Lib.hid hr
        have HCS := Lib.hid hcs
        have HT0 := Lib.hid ht1
        have HF1 := Lib.hid hF1
        clear hcs hll hr ht1 hF1
        go_wp2_with fail
        refine hdo.mono ?_
        rintro e w2 ⟨rfl, b2⟩
        have G2 := Lib.hid (grown_trans G1.out (grown_of_below b2 (some p)))
        have R2 := Lib.hid (R1.out.below b2 R1.out.lt)
        have hll := HLL.out
        have hr := HHR.out
        have hcs := HCS.out
        have ht1 := HT0.out
        have hF1 := HF1.out
        have k2 := k1.below b2 k1.lt
        have d0 := (World.cell?_of_block (w := w1) (a := ⟨b, o, none⟩) (b2.block b hb1)).trans c0
        have d1 := (World.cell?_of_block (w := w1) (a := ⟨b, o + 1, none⟩) (b2.block b hb1)).trans c1
        have d2 := (World.cell?_of_block (w := w1) (a := ⟨b, o + 2, none⟩) (b2.block b hb1)).trans c2
        have d3 := (World.cell?_of_block (w := w1) (a := ⟨b, o + 3, none⟩) (b2.block b hb1)).trans c3
        have q20 : w2.cell? ⟨p, 0, none⟩ = some (.slice (some ⟨b, o, none⟩) ll c) := by rw [hll]; exact k2.cell 0
        have q24 : w2.cell? ⟨p, 4, none⟩ = some (.int .i64 0) := by rw [← hz]; exact k2.cell 4
        have z20 := k2.free 0
        have hp2 := k2.lt
        have r0 := R2.out.free 0
        have r1 := R2.out.free 1
        have r2 := R2.out.free 2
        have r3 := R2.out.free 3
        have g2 := R2.out.lt
        have hb2 : b < w2.heap.size := Nat.lt_of_lt_of_le hb1 b2.size
        have hbp' : ¬ p = b := by omega
        have hbp2 : ¬ b = p := by omega
        have hgp : ¬ w.heap.size = p := by omega
        have hgp2 : ¬ p = w.heap.size := by omega
        have hgb : ¬ w.heap.size = b := by omega
        have u0 := R2.out.cell 0
        have u1 := R2.out.cell 1
        have u2 := R2.out.cell 2
        have u3 := R2.out.cell 3
        have hl5 : ll = r.length + 1 := by rw [hll, hr]; rfl
        have hlc' : ll ≤ c := by rw [hl5]; exact hlc
        have HT1 : Hid (ll = 1 → TS w1 (fun b => b < p) (.slice (some ⟨b, o, none⟩) 0 0) r) := fun h => by
          obtain rfl : r = [] := List.length_eq_zero_iff.1 (by omega)
          exact ⟨_, 0, rfl, by simp, by simp [maxLen], fun h => absurd h (by simp)⟩
        have HT2 : Hid (¬ c = 1 → TS w1 (fun b => b < p) (.slice (some ⟨b, o + 4, none⟩) (ll - 1) (c - 1)) r) := fun h => by
          refine ⟨some ⟨b, o + 4, none⟩, c - 1, by rw [hl5]; rfl, by omega, by omega, fun _ => ⟨b, o + 4, rfl, hbp, hb1, fun j q hq => ?_⟩⟩
          obtain ⟨x0, x1, x2, x3⟩ := hcs (j + 1) q hq
          rw [show o + (j + 1) * 4 = o + 4 + j * 4 by omega] at x0 x1 x2 x3
          exact ⟨x0, x1, x2, x3⟩
        have HFIN : Hid (∀ v', TS w1 (fun b => b < p) v' r → ∀ W5, W5 = (((((w2.setCell ⟨p, 0, none⟩ v').setCell ⟨w.heap.size, 0, none⟩ (.int .i64 (t.kind : Int))).setCell ⟨w.heap.size, 1, none⟩ (.string st)).setCell ⟨w.heap.size, 2, none⟩ (.int .i64 t.n)).setCell ⟨w.heap.size, 3, none⟩ (.int .i64 (t.at_ : Int))).alloc (.cells #[.int .i64 (t.kind : Int), .string st, .int .i64 t.n, .int .i64 (t.at_ : Int)] 62) →
            KB W5 w.heap.size 62 #[.int .i64 (t.kind : Int), .string st, .int .i64 t.n, .int .i64 (t.at_ : Int)] ∧ D (.returned (.agg #[.int .i64 (t.kind : Int), .string st, .int .i64 t.n, .int .i64 (t.at_ : Int)])) W5) := by
          intro v' hv' W5 hW5
          have e1 : KB (w2.setCell ⟨p, 0, none⟩ v') p 50 #[v', .int .i64 n, .int .i64 F1, .int .i64 d, .int .i64 0] := by rw [← hz]; exact k2.put 0 v'
          have e2 : w.grownBy (w2.setCell ⟨p, 0, none⟩ v') (some p) := grown_trans G2.out (grown_set w2 p 0 v')
          have e3 : KB (w2.setCell ⟨p, 0, none⟩ v') w.heap.size 62 #[.int .i64 0, .string ⟨#[]⟩, .int .i64 0, .int .i64 0] := R2.out.but (grown_set w2 p 0 v') hp
          have e4 : St (w2.setCell ⟨p, 0, none⟩ v') p n d ⟨r, s1.fuel, 0, s1.used⟩ := by
            refine ⟨v', F1, e1, (hv'.below' b2).but (grown_set w2 p 0 v'), hF1.1, fun _ => hF1.2.1 hz, FineL.tail (t := t) (by rw [← hr]; exact hF1.2.2)⟩
          have e5 := (e4.four hp (.int .i64 (t.kind : Int)) (.string st) (.int .i64 t.n) (.int .i64 (t.at_ : Int))).alloc (.cells #[.int .i64 (t.kind : Int), .string st, .int .i64 t.n, .int .i64 (t.at_ : Int)] 62)
          have e6 := grown_alloc (grown_four e2 (Nat.le_refl _) (.int .i64 (t.kind : Int)) (.string st) (.int .i64 t.n) (.int .i64 (t.at_ : Int))) (.cells #[.int .i64 (t.kind : Int), .string st, .int .i64 t.n, .int .i64 (t.at_ : Int)] 62)
          have e7 := (e3.put4 (.int .i64 (t.kind : Int)) (.string st) (.int .i64 t.n) (.int .i64 (t.at_ : Int))).alloc (.cells #[.int .i64 (t.kind : Int), .string st, .int .i64 t.n, .int .i64 (t.at_ : Int)] 62)
          rw [← hW5] at e5 e6 e7
          have e8 := HY.out W5 t r hz hr hmt e5 e6
          unfold tokV at e8
          rw [hsv] at e8
          exact ⟨e7, e8⟩
        have HT := Lib.hid ht1
        generalize t.n = tn at *
        generalize t.at_ = ta at *
        generalize t.kind = tk at *
        have hb1' := b2.size
        clear hdo q0 c0 c1 c2 c3 hsp k1 k2 HY G1 R1 H1 G2 hll hr hl5 ht1 hF1 b2 g1 hsv hmt
        by_cases hc1 : c = 1
        · subst hc1
          obtain rfl : ll = 1 := by omega
          obtain ⟨kfin, hfin⟩ := HFIN.out (.slice (some ⟨b, o, none⟩) 0 0) (HT1.out rfl) _ rfl
          obtain ⟨W5, hW5⟩ : ∃ W5, W5 = (((((w2.setCell ⟨p, 0, none⟩ (.slice (some ⟨b, o, none⟩) 0 0)).setCell ⟨w.heap.size, 0, none⟩ (.int .i64 (tk : Int))).setCell ⟨w.heap.size, 1, none⟩ (.string st)).setCell ⟨w.heap.size, 2, none⟩ (.int .i64 tn)).setCell ⟨w.heap.size, 3, none⟩ (.int .i64 (ta : Int))).alloc (.cells #[.int .i64 (tk : Int), .string st, .int .i64 tn, .int .i64 (ta : Int)] 62) := ⟨_, rfl⟩
          rw [← hW5] at kfin hfin
          have HW5 := Lib.hid hW5
          clear hW5 HFIN HT1 HT2 HT
          go_wp2_with fail
          rw [← HW5.out]
          exact bodyPost_ret (results_cell (P := Tryz.prog) rfl _ _ w.heap.size _ _ (0, 0) _ rfl kfin Tryz.underlying62 rfl (by kernel_rfl)) rfl hfin
        · obtain ⟨kfin, hfin⟩ := HFIN.out (.slice (some ⟨b, o + 4, none⟩) (ll - 1) (c - 1)) (HT2.out hc1) _ rfl
          obtain ⟨W5, hW5⟩ : ∃ W5, W5 = (((((w2.setCell ⟨p, 0, none⟩ (.slice (some ⟨b, o + 4, none⟩) (ll - 1) (c - 1))).setCell ⟨w.heap.size, 0, none⟩ (.int .i64 (tk : Int))).setCell ⟨w.heap.size, 1, none⟩ (.string st)).setCell ⟨w.heap.size, 2, none⟩ (.int .i64 tn)).setCell ⟨w.heap.size, 3, none⟩ (.int .i64 (ta : Int))).alloc (.cells #[.int .i64 (tk : Int), .string st, .int .i64 tn, .int .i64 (ta : Int)] 62) := ⟨_, rfl⟩
          rw [← hW5] at kfin hfin
          have HW5 := Lib.hid hW5
          clear hW5 HFIN HT1 HT2 HT
          go_wp2_with fail
          rw [← HW5.out]
          exact bodyPost_ret (results_cell (P := Tryz.prog) rfl _ _ w.heap.size _ _ (0, 0) _ rfl kfin Tryz.underlying62 rfl (by kernel_rfl)) rfl hfin
end
end Go.Proofs.YthindhlogkhclaaGreatDoor
