/-
  TpB: The program's own test of one part of a term: its contract over the loaded program. No condition but that the table lies as the row says.
-/
import Derived.Test.YthgaljgelngmaaaDoorDv08

section
namespace Go.Proofs.YthgaljgelngmaaaDoor
open Go.RowKit
set_option linter.unusedVariables false

/-- What a part must be, but for its kids' own kids. -/
def fitsT {f : Nat} (t : Nd (Tm f)) : Bool := ownOk t && (decide (t.kind ≠ 5) || decide (kindAt f t.kids 1 = 2))

theorem fits_no {f : Nat} {k : Int} {n : Nat} {d : List UInt8} {ks : List (Tm f)}
    (h : ¬ (0 ≤ kidsN k ∧ (ks.length : Int) = kidsN k ∧ (numK k = true ∨ n = 0) ∧ (k = 3 ∨ d.length = 0) ∧ d.length ≤ 100)) : fitsT (⟨k, n, d, ks⟩ : Nd (Tm f)) = false := by
  unfold fitsT
  cases hq : ownOk (⟨k, n, d, ks⟩ : Nd (Tm f)) with
  | false => rfl
  | true => exact absurd ((ownOk_iff k n d ks).1 hq) h

theorem fits_yes {f : Nat} {k : Int} {n : Nat} {d : List UInt8} {ks : List (Tm f)}
    (h : 0 ≤ kidsN k ∧ (ks.length : Int) = kidsN k ∧ (numK k = true ∨ n = 0) ∧ (k = 3 ∨ d.length = 0) ∧ d.length ≤ 100) : fitsT (⟨k, n, d, ks⟩ : Nd (Tm f)) = (decide (k ≠ 5) || decide (kindAt f ks 1 = 2)) := by
  unfold fitsT
  rw [(ownOk_iff k n d ks).2 h, Bool.true_and]

theorem kinds_of {k : Int} (h : 0 ≤ kidsN k) : (numK k = true ∧ decide (k = 3) = false) ∨ (numK k = false ∧ decide (k = 3) = true) ∨ (numK k = false ∧ decide (k = 3) = false ∧ kidsN k ≠ 0) := by
  unfold kidsN at h ⊢
  unfold numK
  by_cases h1 : k = 1 ∨ k = 2 ∨ k = 5
  · exact .inl ⟨decide_eq_true h1, decide_eq_false (by omega)⟩
  · by_cases h3 : k = 3
    · exact .inr (.inl ⟨decide_eq_false h1, decide_eq_true h3⟩)
    · refine .inr (.inr ⟨decide_eq_false h1, decide_eq_false h3, ?_⟩)
      rw [if_neg (by omega)]
      split
      · omega
      · split
        · omega
        · omega

set_option maxHeartbeats 2000000 in
theorem fits_any (S : Nat → Prop) (f : Nat) (t : Nd (Tm f)) (v : Value) (w : World) (h : Shp w) (hv : TV w S (f + 1) v t) :
    Calls Tryd.prog 44 #[v] w fun e w' => e = .returned (.bool (fitsT t)) ∧ Below w.heap.size w w' := by
  obtain ⟨c0, c1, c2, c3, rfl, rfl, hk, rfl, hn, hdat, hks⟩ := hv
  obtain ⟨A2, cap2, rfl, hl2, hm2, _⟩ := hdat.form
  obtain ⟨A3, cap3, e3, hl3, hm3, _⟩ := id hks
  obtain ⟨k, n, d, ks⟩ := t
  simp only at e3 hks hk hn hdat hl2 hl3
  subst e3
  have hlen : ks.length ≤ 9223372036854775807 := by unfold maxLen at hm3; omega
  have hdl : d.length ≤ 9223372036854775807 := by unfold maxLen at hm2; omega
  generalize hni : ((n : Nat) : Int) = ni at *
  have kb := KB.new w 35 #[.int .i64 k, .int .u64 ni, .slice A2 d.length cap2, .slice A3 ks.length cap3]
  have B0 := (Below.refl w.heap.size w).alloc (Nat.le_refl _) (.cells #[.int .i64 k, .int .u64 ni, .slice A2 d.length cap2, .slice A3 ks.length cap3] 35)
  have hsh := shapeOf_any k _ (h.alloc (.cells #[.int .i64 k, .int .u64 ni, .slice A2 d.length cap2, .slice A3 ks.length cap3] 35))
  have HF := Lib.hid (fun hx => fits_no (f := f) (k := k) (n := n) (d := d) (ks := ks) hx)
  have HY := Lib.hid (fun hx => fits_yes (f := f) (k := k) (n := n) (d := d) (ks := ks) hx)
  have HK := Lib.hid (fun hx => kinds_of (k := k) hx)
  have HP : Hid (kidsP k = if kidsN k < 0 then 0 else kidsN k) := rfl
  have HZ : Hid (kidsN k < 0 → numK k = false ∧ decide (k = 3) = false) := by
    intro hx
    unfold kidsN at hx
    have : ¬ (k = 1 ∨ k = 2 ∨ k = 3 ∨ k = 4 ∨ k = 5 ∨ k = 6) := by
      rintro (rfl | rfl | rfl | rfl | rfl | rfl) <;> simp at hx
    exact ⟨by unfold numK; exact decide_eq_false (by omega), decide_eq_false (by omega)⟩
  have H5 : Hid (k = 5 → kidsN k = 2) := fun h => by subst h; rfl
  have H3 : Hid (decide (k = 3) = true ↔ k = 3) := decide_eq_true_iff
  unfold shp at hsh
  generalize fitsT (⟨k, n, d, ks⟩ : Nd (Tm f)) = r at *
  have hn0 : Hid (n = 0 ↔ ni = 0) := by show _ ↔ _; omega
  clear hl2 hm2
  generalize d.length = dl at *
  generalize hKK : kidsN k = K at *
  generalize numK k = N at *
  generalize decide (k = 3) = D at *
  generalize kidsP k = P at *
  clear hKK
  by_cases h0 : K < 0
  · obtain ⟨rfl, rfl⟩ := HZ.out h0
    obtain rfl : P = 0 := by rw [HP.out, if_pos h0]
    rw [HF.out (by omega)]
    clear HF HY HK HP HZ H5 hn0
    go_enter Tryd.func44, Tryd.ntmps44
    go_wp2_with fail
    refine hsh.mono ?_
    rintro e w5 ⟨rfl, b5⟩
    have B5 := B0.trans (b5.mono B0.size)
    clear hsh
    go_wp2_with fail
    go_ret
    exact ⟨rfl, B5.alloc (by have := B5.size; omega) _⟩
  · obtain rfl : P = K := by rw [HP.out, if_neg h0]
    rcases HK.out (by omega) with ⟨rfl, rfl⟩ | ⟨rfl, rfl⟩ | ⟨rfl, rfl, hne⟩
    · by_cases hd0 : 0 < dl
      · rw [HF.out (by intro hx; have := hx.2.2.2.1; rw [← H3.out] at this; simp at this; omega)]
        have gd := decide_eq_true hd0
        clear HF HY HK HZ H5 hn0 HP
        go_enter Tryd.func44, Tryd.ntmps44
        go_wp2_with fail
        refine hsh.mono ?_
        rintro e w5 ⟨rfl, b5⟩
        have B5 := B0.trans (b5.mono B0.size)
        have K5 := kb.below b5 kb.lt
        have hz : w.heap.size < w5.heap.size := K5.lt
        have q0 : w5.cell? ⟨w.heap.size, 0, none⟩ = some (.int .i64 k) := K5.cell 0
        have q1 : w5.cell? ⟨w.heap.size, 1, none⟩ = some (.int .u64 _) := K5.cell 1
        have q2 : w5.cell? ⟨w.heap.size, 2, none⟩ = some (.slice A2 dl cap2) := K5.cell 2
        have q3 : w5.cell? ⟨w.heap.size, 3, none⟩ = some (.slice A3 ks.length cap3) := K5.cell 3
        clear hsh
        go_wp2_with fail
        all_goals (go_ret; exact ⟨rfl, B5.alloc (by have := B5.size; omega) _⟩)
      have gd := decide_eq_false hd0
      by_cases hl : (ks.length : Int) = P
      case neg =>
        rw [HF.out (by omega)]
        have g3 : ((ks.length : Int) != P) = true := bne_iff_ne.2 hl
        clear HF HY HK HZ H5 hn0 HP
        go_enter Tryd.func44, Tryd.ntmps44
        go_wp2_with fail
        refine hsh.mono ?_
        rintro e w5 ⟨rfl, b5⟩
        have B5 := B0.trans (b5.mono B0.size)
        have K5 := kb.below b5 kb.lt
        have hz : w.heap.size < w5.heap.size := K5.lt
        have q0 : w5.cell? ⟨w.heap.size, 0, none⟩ = some (.int .i64 k) := K5.cell 0
        have q1 : w5.cell? ⟨w.heap.size, 1, none⟩ = some (.int .u64 _) := K5.cell 1
        have q2 : w5.cell? ⟨w.heap.size, 2, none⟩ = some (.slice A2 dl cap2) := K5.cell 2
        have q3 : w5.cell? ⟨w.heap.size, 3, none⟩ = some (.slice A3 ks.length cap3) := K5.cell 3
        clear hsh
        go_wp2_with fail
        all_goals (go_ret; exact ⟨rfl, B5.alloc (by have := B5.size; omega) _⟩)
      have g3 : ((ks.length : Int) != P) = false := by rw [hl]; exact bne_self_eq_false P
      rw [HY.out ⟨by omega, hl, by first | exact .inl rfl | exact .inr HN2.out, by first | exact .inr (by omega) | exact .inl (H3.out.1 rfl), by omega⟩]
      by_cases h5 : k = 5
      case neg =>
        have g5 : (k != 5) = true := bne_iff_ne.2 h5
        rw [decide_eq_true h5, Bool.true_or]
        clear HF HY HK HZ H5 hn0 HP
        go_enter Tryd.func44, Tryd.ntmps44
        go_wp2_with fail
        refine hsh.mono ?_
        rintro e w5 ⟨rfl, b5⟩
        have B5 := B0.trans (b5.mono B0.size)
        have K5 := kb.below b5 kb.lt
        have hz : w.heap.size < w5.heap.size := K5.lt
        have q0 : w5.cell? ⟨w.heap.size, 0, none⟩ = some (.int .i64 k) := K5.cell 0
        have q1 : w5.cell? ⟨w.heap.size, 1, none⟩ = some (.int .u64 _) := K5.cell 1
        have q2 : w5.cell? ⟨w.heap.size, 2, none⟩ = some (.slice A2 dl cap2) := K5.cell 2
        have q3 : w5.cell? ⟨w.heap.size, 3, none⟩ = some (.slice A3 ks.length cap3) := K5.cell 3
        clear hsh
        go_wp2_with fail
        all_goals (go_ret; exact ⟨rfl, B5.alloc (by have := B5.size; omega) _⟩)
      have hP2 := H5.out h5
      have g5 : (k != 5) = false := by rw [h5]; rfl
      have hlt : 1 < ks.length := by omega
      rw [decide_eq_false (by simpa using h5), Bool.false_or]
      obtain ⟨q, hq⟩ : ∃ q, q = kindAt f ks 1 := ⟨_, rfl⟩
      rw [← hq]
      have HQ := Lib.hid hq
      clear hq
      clear HF HY HK HZ H5 hn0 HP h5
      go_enter Tryd.func44, Tryd.ntmps44
      go_wp2_with fail
      refine hsh.mono ?_
      rintro e w5 ⟨rfl, b5⟩
      have B5 := B0.trans (b5.mono B0.size)
      have K5 := kb.below b5 kb.lt
      have hz : w.heap.size < w5.heap.size := K5.lt
      have q0 : w5.cell? ⟨w.heap.size, 0, none⟩ = some (.int .i64 k) := K5.cell 0
      have q1 : w5.cell? ⟨w.heap.size, 1, none⟩ = some (.int .u64 _) := K5.cell 1
      have q2 : w5.cell? ⟨w.heap.size, 2, none⟩ = some (.slice A2 dl cap2) := K5.cell 2
      obtain ⟨b, o, e0, e1, e2, e3, rfl, _, hb, k0, k1, k2, k3, hv⟩ := kid_at hks B5 1 hlt
      have q3 : w5.cell? ⟨w.heap.size, 3, none⟩ = some (.slice (some ⟨b, o, none⟩) ks.length cap3) := K5.cell 3
      have ek := kind_cell hlt hv
      rw [← HQ.out] at ek
      subst ek
      have hb5 : b < w5.heap.size := by omega
      have k0' : w5.cell? ⟨b, o + 4, none⟩ = some (.int .i64 q) := by simpa using k0
      clear hv hks k0 k1 k2 k3 B0
      clear hsh
      go_wp2_with fail
      all_goals (go_ret; exact ⟨rfl, B5.alloc (by have := B5.size; omega) _⟩)
    · by_cases hn1 : ni = 0
      case neg =>
        rw [HF.out (by intro hx; have := hx.2.2.1; rw [hn0.out] at this; simp at this; omega)]
        have gn : (ni != 0) = true := bne_iff_ne.2 hn1
        clear HF HY HK HZ H5 hn0 HP
        go_enter Tryd.func44, Tryd.ntmps44
        go_wp2_with fail
        refine hsh.mono ?_
        rintro e w5 ⟨rfl, b5⟩
        have B5 := B0.trans (b5.mono B0.size)
        have K5 := kb.below b5 kb.lt
        have hz : w.heap.size < w5.heap.size := K5.lt
        have q0 : w5.cell? ⟨w.heap.size, 0, none⟩ = some (.int .i64 k) := K5.cell 0
        have q1 : w5.cell? ⟨w.heap.size, 1, none⟩ = some (.int .u64 _) := K5.cell 1
        have q2 : w5.cell? ⟨w.heap.size, 2, none⟩ = some (.slice A2 dl cap2) := K5.cell 2
        have q3 : w5.cell? ⟨w.heap.size, 3, none⟩ = some (.slice A3 ks.length cap3) := K5.cell 3
        clear hsh
        go_wp2_with fail
        all_goals (go_ret; exact ⟨rfl, B5.alloc (by have := B5.size; omega) _⟩)
      have HN2 := Lib.hid (hn0.out.2 hn1)
      subst hn1
      clear hni
      by_cases hd0 : 100 < dl
      · rw [HF.out (by omega)]
        have gd := decide_eq_true hd0
        clear HF HY HK HZ H5 hn0 HP
        go_enter Tryd.func44, Tryd.ntmps44
        go_wp2_with fail
        refine hsh.mono ?_
        rintro e w5 ⟨rfl, b5⟩
        have B5 := B0.trans (b5.mono B0.size)
        have K5 := kb.below b5 kb.lt
        have hz : w.heap.size < w5.heap.size := K5.lt
        have q0 : w5.cell? ⟨w.heap.size, 0, none⟩ = some (.int .i64 k) := K5.cell 0
        have q1 : w5.cell? ⟨w.heap.size, 1, none⟩ = some (.int .u64 _) := K5.cell 1
        have q2 : w5.cell? ⟨w.heap.size, 2, none⟩ = some (.slice A2 dl cap2) := K5.cell 2
        have q3 : w5.cell? ⟨w.heap.size, 3, none⟩ = some (.slice A3 ks.length cap3) := K5.cell 3
        clear hsh
        go_wp2_with fail
        all_goals (go_ret; exact ⟨rfl, B5.alloc (by have := B5.size; omega) _⟩)
      have gd := decide_eq_false hd0
      by_cases hl : (ks.length : Int) = P
      case neg =>
        rw [HF.out (by omega)]
        have g3 : ((ks.length : Int) != P) = true := bne_iff_ne.2 hl
        clear HF HY HK HZ H5 hn0 HP
        go_enter Tryd.func44, Tryd.ntmps44
        go_wp2_with fail
        refine hsh.mono ?_
        rintro e w5 ⟨rfl, b5⟩
        have B5 := B0.trans (b5.mono B0.size)
        have K5 := kb.below b5 kb.lt
        have hz : w.heap.size < w5.heap.size := K5.lt
        have q0 : w5.cell? ⟨w.heap.size, 0, none⟩ = some (.int .i64 k) := K5.cell 0
        have q1 : w5.cell? ⟨w.heap.size, 1, none⟩ = some (.int .u64 _) := K5.cell 1
        have q2 : w5.cell? ⟨w.heap.size, 2, none⟩ = some (.slice A2 dl cap2) := K5.cell 2
        have q3 : w5.cell? ⟨w.heap.size, 3, none⟩ = some (.slice A3 ks.length cap3) := K5.cell 3
        clear hsh
        go_wp2_with fail
        all_goals (go_ret; exact ⟨rfl, B5.alloc (by have := B5.size; omega) _⟩)
      have g3 : ((ks.length : Int) != P) = false := by rw [hl]; exact bne_self_eq_false P
      rw [HY.out ⟨by omega, hl, by first | exact .inl rfl | exact .inr HN2.out, by first | exact .inr (by omega) | exact .inl (H3.out.1 rfl), by omega⟩]
      by_cases h5 : k = 5
      case neg =>
        have g5 : (k != 5) = true := bne_iff_ne.2 h5
        rw [decide_eq_true h5, Bool.true_or]
        clear HF HY HK HZ H5 hn0 HP
        go_enter Tryd.func44, Tryd.ntmps44
        go_wp2_with fail
        refine hsh.mono ?_
        rintro e w5 ⟨rfl, b5⟩
        have B5 := B0.trans (b5.mono B0.size)
        have K5 := kb.below b5 kb.lt
        have hz : w.heap.size < w5.heap.size := K5.lt
        have q0 : w5.cell? ⟨w.heap.size, 0, none⟩ = some (.int .i64 k) := K5.cell 0
        have q1 : w5.cell? ⟨w.heap.size, 1, none⟩ = some (.int .u64 _) := K5.cell 1
        have q2 : w5.cell? ⟨w.heap.size, 2, none⟩ = some (.slice A2 dl cap2) := K5.cell 2
        have q3 : w5.cell? ⟨w.heap.size, 3, none⟩ = some (.slice A3 ks.length cap3) := K5.cell 3
        clear hsh
        go_wp2_with fail
        all_goals (go_ret; exact ⟨rfl, B5.alloc (by have := B5.size; omega) _⟩)
      have hP2 := H5.out h5
      have g5 : (k != 5) = false := by rw [h5]; rfl
      have hlt : 1 < ks.length := by omega
      rw [decide_eq_false (by simpa using h5), Bool.false_or]
      obtain ⟨q, hq⟩ : ∃ q, q = kindAt f ks 1 := ⟨_, rfl⟩
      rw [← hq]
      have HQ := Lib.hid hq
      clear hq
      clear HF HY HK HZ H5 hn0 HP h5
      go_enter Tryd.func44, Tryd.ntmps44
      go_wp2_with fail
      refine hsh.mono ?_
      rintro e w5 ⟨rfl, b5⟩
      have B5 := B0.trans (b5.mono B0.size)
      have K5 := kb.below b5 kb.lt
      have hz : w.heap.size < w5.heap.size := K5.lt
      have q0 : w5.cell? ⟨w.heap.size, 0, none⟩ = some (.int .i64 k) := K5.cell 0
      have q1 : w5.cell? ⟨w.heap.size, 1, none⟩ = some (.int .u64 _) := K5.cell 1
      have q2 : w5.cell? ⟨w.heap.size, 2, none⟩ = some (.slice A2 dl cap2) := K5.cell 2
      obtain ⟨b, o, e0, e1, e2, e3, rfl, _, hb, k0, k1, k2, k3, hv⟩ := kid_at hks B5 1 hlt
      have q3 : w5.cell? ⟨w.heap.size, 3, none⟩ = some (.slice (some ⟨b, o, none⟩) ks.length cap3) := K5.cell 3
      have ek := kind_cell hlt hv
      rw [← HQ.out] at ek
      subst ek
      have hb5 : b < w5.heap.size := by omega
      have k0' : w5.cell? ⟨b, o + 4, none⟩ = some (.int .i64 q) := by simpa using k0
      clear hv hks k0 k1 k2 k3 B0
      clear hsh
      go_wp2_with fail
      all_goals (go_ret; exact ⟨rfl, B5.alloc (by have := B5.size; omega) _⟩)
    · by_cases hn1 : ni = 0
      case neg =>
        rw [HF.out (by intro hx; have := hx.2.2.1; rw [hn0.out] at this; simp at this; omega)]
        have gn : (ni != 0) = true := bne_iff_ne.2 hn1
        clear HF HY HK HZ H5 hn0 HP
        go_enter Tryd.func44, Tryd.ntmps44
        go_wp2_with fail
        refine hsh.mono ?_
        rintro e w5 ⟨rfl, b5⟩
        have B5 := B0.trans (b5.mono B0.size)
        have K5 := kb.below b5 kb.lt
        have hz : w.heap.size < w5.heap.size := K5.lt
        have q0 : w5.cell? ⟨w.heap.size, 0, none⟩ = some (.int .i64 k) := K5.cell 0
        have q1 : w5.cell? ⟨w.heap.size, 1, none⟩ = some (.int .u64 _) := K5.cell 1
        have q2 : w5.cell? ⟨w.heap.size, 2, none⟩ = some (.slice A2 dl cap2) := K5.cell 2
        have q3 : w5.cell? ⟨w.heap.size, 3, none⟩ = some (.slice A3 ks.length cap3) := K5.cell 3
        clear hsh
        go_wp2_with fail
        all_goals (go_ret; exact ⟨rfl, B5.alloc (by have := B5.size; omega) _⟩)
      have HN2 := Lib.hid (hn0.out.2 hn1)
      subst hn1
      clear hni
      by_cases hd0 : 0 < dl
      · rw [HF.out (by intro hx; have := hx.2.2.2.1; rw [← H3.out] at this; simp at this; omega)]
        have gd := decide_eq_true hd0
        clear HF HY HK HZ H5 hn0 HP
        go_enter Tryd.func44, Tryd.ntmps44
        go_wp2_with fail
        refine hsh.mono ?_
        rintro e w5 ⟨rfl, b5⟩
        have B5 := B0.trans (b5.mono B0.size)
        have K5 := kb.below b5 kb.lt
        have hz : w.heap.size < w5.heap.size := K5.lt
        have q0 : w5.cell? ⟨w.heap.size, 0, none⟩ = some (.int .i64 k) := K5.cell 0
        have q1 : w5.cell? ⟨w.heap.size, 1, none⟩ = some (.int .u64 _) := K5.cell 1
        have q2 : w5.cell? ⟨w.heap.size, 2, none⟩ = some (.slice A2 dl cap2) := K5.cell 2
        have q3 : w5.cell? ⟨w.heap.size, 3, none⟩ = some (.slice A3 ks.length cap3) := K5.cell 3
        clear hsh
        go_wp2_with fail
        all_goals (go_ret; exact ⟨rfl, B5.alloc (by have := B5.size; omega) _⟩)
      have gd := decide_eq_false hd0
      by_cases hl : (ks.length : Int) = P
      case neg =>
        rw [HF.out (by omega)]
        have g3 : ((ks.length : Int) != P) = true := bne_iff_ne.2 hl
        clear HF HY HK HZ H5 hn0 HP
        go_enter Tryd.func44, Tryd.ntmps44
        go_wp2_with fail
        refine hsh.mono ?_
        rintro e w5 ⟨rfl, b5⟩
        have B5 := B0.trans (b5.mono B0.size)
        have K5 := kb.below b5 kb.lt
        have hz : w.heap.size < w5.heap.size := K5.lt
        have q0 : w5.cell? ⟨w.heap.size, 0, none⟩ = some (.int .i64 k) := K5.cell 0
        have q1 : w5.cell? ⟨w.heap.size, 1, none⟩ = some (.int .u64 _) := K5.cell 1
        have q2 : w5.cell? ⟨w.heap.size, 2, none⟩ = some (.slice A2 dl cap2) := K5.cell 2
        have q3 : w5.cell? ⟨w.heap.size, 3, none⟩ = some (.slice A3 ks.length cap3) := K5.cell 3
        clear hsh
        go_wp2_with fail
        all_goals (go_ret; exact ⟨rfl, B5.alloc (by have := B5.size; omega) _⟩)
      have g3 : ((ks.length : Int) != P) = false := by rw [hl]; exact bne_self_eq_false P
      rw [HY.out ⟨by omega, hl, by first | exact .inl rfl | exact .inr HN2.out, by first | exact .inr (by omega) | exact .inl (H3.out.1 rfl), by omega⟩]
      by_cases h5 : k = 5
      case neg =>
        have g5 : (k != 5) = true := bne_iff_ne.2 h5
        rw [decide_eq_true h5, Bool.true_or]
        clear HF HY HK HZ H5 hn0 HP
        go_enter Tryd.func44, Tryd.ntmps44
        go_wp2_with fail
        refine hsh.mono ?_
        rintro e w5 ⟨rfl, b5⟩
        have B5 := B0.trans (b5.mono B0.size)
        have K5 := kb.below b5 kb.lt
        have hz : w.heap.size < w5.heap.size := K5.lt
        have q0 : w5.cell? ⟨w.heap.size, 0, none⟩ = some (.int .i64 k) := K5.cell 0
        have q1 : w5.cell? ⟨w.heap.size, 1, none⟩ = some (.int .u64 _) := K5.cell 1
        have q2 : w5.cell? ⟨w.heap.size, 2, none⟩ = some (.slice A2 dl cap2) := K5.cell 2
        have q3 : w5.cell? ⟨w.heap.size, 3, none⟩ = some (.slice A3 ks.length cap3) := K5.cell 3
        clear hsh
        go_wp2_with fail
        all_goals (go_ret; exact ⟨rfl, B5.alloc (by have := B5.size; omega) _⟩)
      have hP2 := H5.out h5
      have g5 : (k != 5) = false := by rw [h5]; rfl
      have hlt : 1 < ks.length := by omega
      rw [decide_eq_false (by simpa using h5), Bool.false_or]
      obtain ⟨q, hq⟩ : ∃ q, q = kindAt f ks 1 := ⟨_, rfl⟩
      rw [← hq]
      have HQ := Lib.hid hq
      clear hq
      clear HF HY HK HZ H5 hn0 HP h5
      go_enter Tryd.func44, Tryd.ntmps44
      go_wp2_with fail
      refine hsh.mono ?_
      rintro e w5 ⟨rfl, b5⟩
      have B5 := B0.trans (b5.mono B0.size)
      have K5 := kb.below b5 kb.lt
      have hz : w.heap.size < w5.heap.size := K5.lt
      have q0 : w5.cell? ⟨w.heap.size, 0, none⟩ = some (.int .i64 k) := K5.cell 0
      have q1 : w5.cell? ⟨w.heap.size, 1, none⟩ = some (.int .u64 _) := K5.cell 1
      have q2 : w5.cell? ⟨w.heap.size, 2, none⟩ = some (.slice A2 dl cap2) := K5.cell 2
      obtain ⟨b, o, e0, e1, e2, e3, rfl, _, hb, k0, k1, k2, k3, hv⟩ := kid_at hks B5 1 hlt
      have q3 : w5.cell? ⟨w.heap.size, 3, none⟩ = some (.slice (some ⟨b, o, none⟩) ks.length cap3) := K5.cell 3
      have ek := kind_cell hlt hv
      rw [← HQ.out] at ek
      subst ek
      have hb5 : b < w5.heap.size := by omega
      have k0' : w5.cell? ⟨b, o + 4, none⟩ = some (.int .i64 q) := by simpa using k0
      clear hv hks k0 k1 k2 k3 B0
      clear hsh
      go_wp2_with fail
      all_goals (go_ret; exact ⟨rfl, B5.alloc (by have := B5.size; omega) _⟩)
end Go.Proofs.YthgaljgelngmaaaDoor
end
