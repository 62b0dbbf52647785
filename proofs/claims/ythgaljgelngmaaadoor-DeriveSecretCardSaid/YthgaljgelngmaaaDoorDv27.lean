/-
  DcA: The document's answers of layer 6: whether a term is in a list, and what a term that is there gives: their contracts, over the loaded program. No condition but what each theorem names.
-/
import Derived.Test.YthgaljgelngmaaaDoorDv11
import Derived.Test.YthgaljgelngmaaaDoorDv12
import Derived.Test.YthgaljgelngmaaaDoorDv26
import Derived.Deep.RegionHeld3

section
namespace Go.Proofs.YthgaljgelngmaaaDoor
open Go.RowKit
set_option linter.unusedVariables false

/-- An element of a row of terms, where memory stands now. -/
theorem el_at {w wr : World} {S1 S : Nat → Prop} {f : Nat} {A : Option Addr} {n c : Nat} {ks : List (Tm f)} (h : KS w S1 (TM w S f) (.slice A n c) ks) (hn : ks.length = n) (hb : Below w.heap.size w wr) (j : Nat) (hj : j < ks.length) :
    ∃ b o e0 e1 e2 e3, A = some ⟨b, o, none⟩ ∧ b < w.heap.size ∧ wr.cell? ⟨b, o + j * 4, none⟩ = some e0 ∧ wr.cell? ⟨b, o + j * 4 + 1, none⟩ = some e1 ∧ wr.cell? ⟨b, o + j * 4 + 2, none⟩ = some e2 ∧ wr.cell? ⟨b, o + j * 4 + 3, none⟩ = some e3 ∧ TM wr S f ks[j] e0 e1 e2 e3 := by
  obtain ⟨b, o, e0, e1, e2, e3, ea, hbl, k0, k1, k2, k3, hv⟩ := ks_at h hn hb j hj
  exact ⟨b, o, e0, e1, e2, e3, ea, hbl, k0, k1, k2, k3, TM.keepS f _ _ _ _ _ hv hb.size (fun b _ hlt => hb.block b hlt) fun _ h => h⟩

set_option maxHeartbeats 1000000 in
theorem has_any (S1 S S' : Nat → Prop) (f : Nat) (l : List (Tm f)) (t : Tm f) (v x : Value) (w : World) (hl : KS w S1 (TM w S f) v l) (ht : TV w S' f x t) :
    Calls Tryd.prog 16 #[v, x] w fun e w' => e = .returned (.bool (decide (t ∈ l))) ∧ Below w.heap.size w w' := by
  obtain ⟨A, c, rfl, hlc, hm, _⟩ := id hl
  obtain ⟨d0, d1, d2, d3, rfl, hd⟩ := ht
  obtain ⟨i0, i1, X2, n2, z2, X3, n3, z3, rfl, rfl, rfl, rfl⟩ := tm_form hd
  have hle : l.length ≤ 9223372036854775807 := by unfold maxLen at hm; omega
  have K0 := KB.new w 35 #[.int .i64 i0, .int .u64 i1, .slice X2 n2 z2, .slice X3 n3 z3]
  have B0 := (Below.refl w.heap.size w).alloc (Nat.le_refl _) (.cells #[.int .i64 i0, .int .u64 i1, .slice X2 n2 z2, .slice X3 n3 z3] 35)
  have HY : Hid (∀ (j : Nat) (u : Tm f), l[j]? = some u → sameT f u t = true → decide (t ∈ l) = true) := fun j u h1 h2 => has_yes f l t u j h1 h2
  have HN : Hid ((∀ i u, i < l.length → l[i]? = some u → sameT f u t = false) → decide (t ∈ l) = false) := has_no f l t
  generalize decide (t ∈ l) = r at *
  go_enter Tryd.func16, Tryd.ntmps16
  go_wp2_with fail
  go_loopw [5] (fun iv wr => ∃ j : Nat, j ≤ l.length ∧ iv = .int .i64 j ∧ Hid (∀ i u, i < j → l[i]? = some u → sameT f u t = false) ∧ KB wr w.heap.size 35 #[.int .i64 i0, .int .u64 i1, .slice X2 n2 z2, .slice X3 n3 z3] ∧ Below w.heap.size w wr) (fun iv _ => l.length - (intOf iv).toNat)
  case atStart => exact ⟨0, by omega, rfl, fun i u h => absurd h (Nat.not_lt_zero _), K0, B0⟩
  case round =>
    obtain ⟨j, hj, rfl, HS, K, B⟩ := hrel
    by_cases hlt : j < l.length
    · obtain ⟨b, o, e0, e1, e2, e3, rfl, hb, k0, k1, k2, k3, hv⟩ := el_at hl rfl B j hlt
      have t1 : TV wr.drew S f (.agg #[e0, e1, e2, e3]) l[j] := ⟨_, _, _, _, rfl, TM.keepS f _ _ _ _ _ hv (Nat.le_refl _) (fun _ _ _ => rfl) fun _ h => h⟩
      have t2 : TV wr.drew S' f (.agg #[.int .i64 i0, .int .u64 i1, .slice X2 n2 z2, .slice X3 n3 z3]) t := ⟨_, _, _, _, rfl, TM.keepS f _ _ _ _ _ hd B.size (fun b _ hlt => B.block b hlt) fun _ h => h⟩
      have hc := rsame_any S S' f l[j] t _ _ wr.drew t1 t2
      have q0 := K.cell 0
      have q1 := K.cell 1
      have q2 := K.cell 2
      have q3 := K.cell 3
      have hgj : l[j]? = some l[j] := List.getElem?_eq_getElem hlt
      have HA : Hid (sameT f l[j] t = true → r = true) := fun h => HY.out j _ hgj h
      have HB : Hid (sameT f l[j] t = false → ∀ i u, i < j + 1 → l[i]? = some u → sameT f u t = false) := by
        intro h i u hi hu
        by_cases hij : i < j
        · exact HS.out i u hij hu
        · obtain rfl : i = j := by omega
          rw [hgj] at hu
          obtain rfl : l[i] = u := Option.some.inj hu
          exact h
      generalize sameT f l[j] t = s at *
      have B' : Below w.heap.size w wr.drew := Below_drawn B 1
      have K' : KB wr.drew w.heap.size 35 #[.int .i64 i0, .int .u64 i1, .slice X2 n2 z2, .slice X3 n3 z3] := K
      clear hv t1 t2 hl hd B hgj HS HY K0 B0
      have far : ∀ w5, Below wr.drew.heap.size wr.drew w5 → ∀ (g : Nat) (i : Nat) (u : Value), g < wr.heap.size → wr.cell? ⟨g, i, none⟩ = some u → w5.cell? ⟨g, i, none⟩ = some u := fun w5 b5 g i u hg hu =>
        (World.cell?_of_block (w := wr.drew) (b5.block g hg)).trans hu
      have hb2 : b < wr.heap.size := Nat.lt_of_lt_of_le hb B'.size
      have hw2 : w.heap.size < wr.heap.size := K.lt
      go_wp2_with fail
      go_region_held3 (fun w' => w'.cell? ⟨b, o + j * 4, none⟩ = some e0 ∧ w'.cell? ⟨b, o + j * 4 + 1, none⟩ = some e1 ∧ w'.cell? ⟨b, o + j * 4 + 2, none⟩ = some e2 ∧ w'.cell? ⟨b, o + j * 4 + 3, none⟩ = some e3 ∧
          w'.cell? ⟨w.heap.size, 0, none⟩ = some (.int .i64 i0) ∧ w'.cell? ⟨w.heap.size, 1, none⟩ = some (.int .u64 i1) ∧ w'.cell? ⟨w.heap.size, 2, none⟩ = some (.slice X2 n2 z2) ∧ w'.cell? ⟨w.heap.size, 3, none⟩ = some (.slice X3 n3 z3))
        (first | exact ⟨k0, k1, k2, k3, q0, q1, q2, q3⟩ | exact ⟨far _ b5 _ _ _ hb2 k0, far _ b5 _ _ _ hb2 k1, far _ b5 _ _ _ hb2 k2, far _ b5 _ _ _ hb2 k3, far _ b5 _ _ _ hw2 q0, far _ b5 _ _ _ hw2 q1, far _ b5 _ _ _ hw2 q2, far _ b5 _ _ _ hw2 q3⟩ | go_keep)
        (first
          | (go_at_call 25; refine hc.mono ?_; rintro e w5 ⟨rfl, b5⟩; replace B' := B'.trans (b5.mono B'.size); replace K' := K'.below b5 K'.lt))
      clear far k0 k1 k2 k3 q0 q1 q2 q3 hc b5 K
      cases s with
      | true =>
        have hr := HA.out rfl
        clear HA HB HN
        subst hr
        go_wp2_with fail
        go_ret
        exact ⟨rfl, B'⟩
      | false =>
        have HB' := Lib.hid (HB.out rfl)
        clear HA HB
        go_wp2_with fail
        go_roundw
        case rel => exact ⟨j + 1, by omega, by go_num, HB', K', B'⟩
        case measure => simp [intOf]; omega
    · obtain rfl : j = l.length := by omega
      have hr := HN.out HS.out
      clear HN HS HY
      subst hr
      go_wp2_with fail
      go_ret
      exact ⟨rfl, B⟩

theorem kids_two : ∀ (f : Nat) (t : Tm f), okD f t → kindT f t = 5 → (kidsT f t).length = 2
  | 0, t => nomatch t
  | f + 1, (t : Nd (Tm f)) => by
    rintro ⟨d, h⟩ h5
    have h' : (decide (1 ≤ d) && ownOk t && (t.kids.all fun u => mayT f u (d - 1)) && (decide (t.kind ≠ 5) || decide (kindAt f t.kids 1 = 2))) = true := h
    rw [Bool.and_eq_true, Bool.and_eq_true, Bool.and_eq_true] at h'
    obtain ⟨k, n, dd, ks⟩ := t
    have h2 := ((ownOk_iff k n dd ks).1 h'.1.1.2).2.1
    obtain rfl : k = 5 := h5
    have h3 : kidsN 5 = 2 := by decide
    rw [h3] at h2
    show (ks.map (lift f)).length = 2
    rw [List.length_map]; omega

set_option maxHeartbeats 1000000 in
theorem gives_any (S1 S2 S : Nat → Prop) (f : Nat) (l : List (Tm f)) (t : Tm f) (v x : Value) (w : World) (hok : okD f t) (hl : KS w S1 (TM w S2 f) v l) (ht : TV w S f x t) :
    Calls Tryd.prog 24 #[v, x] w fun e w' => ∃ u, e = .returned u ∧ KS w' S (TM w' S f) u (givesD (vwT f) l t) ∧ Below w.heap.size w w' := by
  cases f with
  | zero => exact nomatch t
  | succ f =>
    obtain ⟨c0, c1, c2, c3, rfl, hd⟩ := ht
    have hkl : KS w S (TM w S (f + 1)) c3 (kidsT (f + 1) t) := hd.2.2.2.2.2.lifted
    have hkd : c0 = .int .i64 (kindT (f + 1) t) := hd.1
    have h2 := kids_two (f + 1) t hok
    have hkey := keyD_of (f + 1) l t
    rw [gives_kinds]
    generalize kidsT (f + 1) t = ks at *
    generalize kindT (f + 1) t = kd at *
    obtain ⟨A, c, rfl, hlc, hm, hnn, _⟩ := id hl
    obtain ⟨A2, n2, z2, rfl⟩ : ∃ A2 n2 z2, c2 = .slice A2 n2 z2 := by obtain ⟨A2, z2, e, _⟩ := hd.2.2.2.2.1.form; exact ⟨A2, _, z2, e⟩
    obtain ⟨i1, rfl⟩ : ∃ i1, c1 = .int .u64 i1 := ⟨_, hd.2.2.1⟩
    obtain ⟨A3, z3, rfl, hl3, hm3, hn3, _⟩ := id hkl
    subst hkd
    have hle : ks.length ≤ 9223372036854775807 := by unfold maxLen at hm3; omega
    have K0 := KB.new w 35 #[.int .i64 kd, .int .u64 i1, .slice A2 n2 z2, .slice A3 ks.length z3]
    have B0 := (Below.refl w.heap.size w).alloc (Nat.le_refl _) (.cells #[.int .i64 kd, .int .u64 i1, .slice A2 n2 z2, .slice A3 ks.length z3] 35)
    by_cases h4 : kd = 4
    · subst h4
      rw [if_pos rfl]
      have hr := hkl.keep B0.size (fun b _ hb => B0.block b hb)
      clear hd hkl hl h2 hkey
      go_enter Tryd.func24, Tryd.ntmps24
      go_wp2_with fail
      go_ret
      exact ⟨_, rfl, hr, B0⟩
    · rw [if_neg h4]
      by_cases h5 : kd = 5
      · subst h5
        have hk2 := h2 rfl
        obtain ⟨k1, hk1⟩ : ∃ k1, ks[1]? = some k1 := ⟨_, List.getElem?_eq_getElem (by omega)⟩
        rw [hkey k1 hk1]
        obtain ⟨b, o, d0, d1, d2, d3, ⟨n9, c9, e9⟩, sb, hb, k0, k1', k2, k3, hv⟩ := hkl.one 1 k1 hk1
        injection e9 with e91 e92 e93
        subst e91 e93
        clear e92
        rw [Nat.one_mul] at k0 k1' k2 k3
        have hb1 : b < w.heap.size + 1 := by omega
        have hcell := fun (x : Nat) => World.cell?_of_block (w := w) (w' := w.alloc (.cells #[.int .i64 5, .int .u64 i1, .slice A2 n2 z2, .slice (some ⟨b, o, none⟩) ks.length z3] 35)) (a := ⟨b, x, none⟩) (B0.block b hb)
        have m0 := (hcell _).trans k0
        have m1 := (hcell _).trans k1'
        have m2 := (hcell _).trans k2
        have m3 := (hcell _).trans k3
        have hc := has_any S1 S2 S (f + 1) l k1 (.slice A l.length c) _ (w.alloc (.cells #[.int .i64 5, .int .u64 i1, .slice A2 n2 z2, .slice (some ⟨b, o, none⟩) ks.length z3] 35))
          (by
            have := KS.map (w' := w.alloc (.cells #[.int .i64 5, .int .u64 i1, .slice A2 n2 z2, .slice (some ⟨b, o, none⟩) ks.length z3] 35)) (S' := S1) (E' := TM (w.alloc (.cells #[.int .i64 5, .int .u64 i1, .slice A2 n2 z2, .slice (some ⟨b, o, none⟩) ks.length z3] 35)) S2 (f + 1)) id hl B0.size (fun b _ hb => B0.block b hb) (fun _ h => h) fun u d0 d1 d2 d3 hu => TM.keepS (f + 1) u d0 d1 d2 d3 hu B0.size (fun b _ hb => B0.block b hb) fun _ h => h
            rwa [List.map_id] at this) (hv.alloc _)
        have hkl2 := hkl
        clear hcell k0 k1' k2 k3 hv hd hl h2 hkey hk1
        generalize decide (k1 ∈ l) = r at *
        cases r with
        | true =>
          rw [if_pos ⟨rfl, rfl⟩]
          have ht1 := hkl2.take 1 (by omega)
          rw [hk2] at hkl2 K0 B0 hc m0 m1 m2 m3 ⊢
          go_enter Tryd.func24, Tryd.ntmps24
          go_wp2_with fail
          refine hc.mono ?_
          rintro e w5 ⟨rfl, b5⟩
          have B5 := B0.trans (b5.mono B0.size)
          have K5 := K0.below b5 K0.lt
          have q3 := K5.cell 3
          have hr := ht1.keep B5.size (fun b _ hb => B5.block b hb)
          clear hc hkl hkl2 ht1
          go_wp2_with fail
          go_ret
          exact ⟨_, rfl, hr, B5⟩
        | false =>
          rw [if_neg (fun h => by cases h.2)]
          rw [hk2] at K0 B0 hc m0 m1 m2 m3
          clear hkl hkl2
          go_enter Tryd.func24, Tryd.ntmps24
          go_wp2_with fail
          refine hc.mono ?_
          rintro e w5 ⟨rfl, b5⟩
          have B5 := B0.trans (b5.mono B0.size)
          clear hc
          go_wp2_with fail
          go_ret
          exact ⟨_, rfl, ⟨none, 0, rfl, by simp, by simp [maxLen], fun _ => rfl, fun h => absurd h (by simp)⟩, B5⟩
      · rw [if_neg (fun h => h5 h.1)]
        have g4 : decide (kd = 4) = false := decide_eq_false h4
        have g5 : decide (kd = 5) = false := decide_eq_false h5
        clear hkl hd hl h2 hkey
        go_enter Tryd.func24, Tryd.ntmps24
        go_wp2_with fail
        go_ret
        exact ⟨_, rfl, ⟨none, 0, rfl, by simp, by simp [maxLen], fun _ => rfl, fun h => absurd h (by simp)⟩, B0⟩
end Go.Proofs.YthgaljgelngmaaaDoor
end
