/-
  DcE: How the program asks whether a term is in a list: by what is seen at once, and then one after the other. Its contracts, over the loaded program. No condition but what each theorem names.
-/
import Derived.Test.YthgaljgelngmaaaDoorDv28
import Derived.Test.YthgaljgelngmaaaDoorDv29

section
namespace Go.Proofs.YthgaljgelngmaaaDoor
open Go.RowKit
set_option linter.unusedVariables false

theorem cell_new2 (w : World) (cs cs' : Array Value) (t t' : TypeId) : ((w.alloc (.cells cs t)).alloc (.cells cs' t')).heap[w.heap.size + 1]? = some (.cells cs' t' (0, 0)) := by
  have := heap_alloc_new (w.alloc (.cells cs t)) (.cells cs' t')
  simpa using this

theorem lookOf_any (k : Look) (hk : goodL k) (X2 X3 : Option Addr) (z2 n3 z3 : Nat) (w : World) :
    Calls Tryd.prog 37 #[.agg #[.int .i64 k.1, .int .u64 (k.2.1 : Int), .slice X2 k.2.2 z2, .slice X3 n3 z3]] w fun e w' => e = .returned (keyV k) ∧ Below w.heap.size w w' := by
  obtain ⟨a, b, c⟩ := k
  dsimp only at hk ⊢
  unfold keyV
  dsimp only
  generalize (b : Int) = b at *
  have hc : c ≤ 9223372036854775807 := by have := hk.2.2; unfold maxLen at this; exact this
  have K0 := KB.new w 35 #[.int .i64 a, .int .u64 b, .slice X2 c z2, .slice X3 n3 z3]
  have B0 := ((Below.refl w.heap.size w).alloc (Nat.le_refl _) (.cells #[.int .i64 a, .int .u64 b, .slice X2 c z2, .slice X3 n3 z3] 35)).alloc (by simp) (.cells #[.int .i64 0, .int .u64 0, .int .i64 0] 62)
  go_enter Tryd.func37, Tryd.ntmps37
  go_wp2_with fail
  refine bodyPost_ret (results_cell_row (P := Tryd.prog) rfl _ _ (w.heap.size + 1) _ _ (0, 0) _ rfl (cell_new2 w _ _ _ _) Tryd.underlying62 rfl (by kernel_rfl)) rfl ⟨rfl, ?_⟩
  exact ((Below.refl w.heap.size w).alloc (Nat.le_refl _) _).alloc (by simp) _

theorem pred_any (g : Nat) (S S' : Nat → Prop) (f : Nat) (k t : Tm f) (x : Value) (d0 d1 d2 d3 : Value) (w : World) (kt : KB w g 35 #[d0, d1, d2, d3]) (hk : TV w S f x k) (ht : TM w S' f t d0 d1 d2 d3) :
    Calls Tryd.prog 38 #[x, .pointer (some ⟨g, 0, none⟩)] w fun e w' => e = .returned (.bool (sameT f k t)) ∧ Below w.heap.size w w' := by
  obtain ⟨e0, e1, e2, e3, rfl, hd⟩ := hk
  obtain ⟨i0, i1, X2, n2, z2, X3, n3, z3, rfl, rfl, rfl, rfl⟩ := tm_form hd
  have B0 := (Below.refl w.heap.size w).alloc (Nat.le_refl _) (.cells #[.int .i64 i0, .int .u64 i1, .slice X2 n2 z2, .slice X3 n3 z3] 35)
  have hc := psame_any S S' f k t (.agg #[.int .i64 i0, .int .u64 i1, .slice X2 n2 z2, .slice X3 n3 z3]) (.agg #[d0, d1, d2, d3]) (w.alloc (.cells #[.int .i64 i0, .int .u64 i1, .slice X2 n2 z2, .slice X3 n3 z3] 35))
    (TV.alloc ⟨_, _, _, _, rfl, hd⟩ _) (TV.alloc ⟨_, _, _, _, rfl, ht⟩ _)
  have k1 := kt.alloc (.cells #[.int .i64 i0, .int .u64 i1, .slice X2 n2 z2, .slice X3 n3 z3] 35)
  have hg := kt.lt
  have q0 := k1.cell 0
  have q1 := k1.cell 1
  have q2 := k1.cell 2
  have q3 := k1.cell 3
  generalize sameT f k t = r at *
  clear hd ht kt k1
  go_enter Tryd.func38, Tryd.ntmps38
  go_wp2_with fail
  refine hc.mono ?_
  rintro e w5 ⟨rfl, b5⟩
  have B5 := B0.trans (b5.mono B0.size)
  clear hc q0 q1 q2 q3
  go_wp2_with fail
  go_ret
  exact ⟨rfl, B5⟩

set_option maxHeartbeats 1000000 in
theorem index_any (g : Nat) (S1 S S' : Nat → Prop) (f : Nat) (ks : List (Tm f)) (t : Tm f) (v d0 d1 d2 d3 : Value) (w : World) (hk : KS w S1 (TM w S f) v ks) (kt : KB w g 35 #[d0, d1, d2, d3]) (ht : TM w S' f t d0 d1 d2 d3) :
    Calls Tryd.prog 51 #[v, .func (.func 38) #[] #[.pointer (some ⟨g, 0, none⟩)]] w fun e w' => ∃ r : Int, e = .returned (.int .i64 r) ∧ decide (0 ≤ r) = decide (t ∈ ks) ∧ Below w.heap.size w w' := by
  obtain ⟨A, c, rfl, hl, hm, _⟩ := id hk
  have hle : ks.length ≤ 9223372036854775807 := by unfold maxLen at hm; omega
  have HY : Hid (∀ (j : Nat) (u : Tm f), ks[j]? = some u → sameT f u t = true → decide (t ∈ ks) = true) := fun j u h1 h2 => has_yes f ks t u j h1 h2
  have HN : Hid ((∀ i u, i < ks.length → ks[i]? = some u → sameT f u t = false) → decide (t ∈ ks) = false) := has_no f ks t
  generalize decide (t ∈ ks) = r at *
  go_enter Tryd.func51, Tryd.ntmps51
  go_wp2_with fail
  go_loopw [8] (fun iv wr => ∃ j : Nat, j ≤ ks.length ∧ iv = .int .i64 j ∧ Hid (∀ i u, i < j → ks[i]? = some u → sameT f u t = false) ∧ Below w.heap.size w wr) (fun iv _ => ks.length - (intOf iv).toNat)
  case atStart => exact ⟨0, by omega, rfl, fun i u h => absurd h (Nat.not_lt_zero _), Below.refl _ _⟩
  case round =>
    obtain ⟨j, hj, rfl, HS, B⟩ := hrel
    by_cases hlt : j < ks.length
    · obtain ⟨b, o, e0, e1, e2, e3, rfl, hb, k0, k1, k2, k3, hv⟩ := el_at hk rfl B j hlt
      have hc := pred_any g S S' f ks[j] t (.agg #[e0, e1, e2, e3]) d0 d1 d2 d3 wr (kt.below B kt.lt) ⟨_, _, _, _, rfl, hv⟩ (TM.keepS f _ _ _ _ _ ht B.size (fun b _ hlt => B.block b hlt) fun _ h => h)
      have hgj : ks[j]? = some ks[j] := List.getElem?_eq_getElem hlt
      have HA : Hid (sameT f ks[j] t = true → r = true) := fun h => HY.out j _ hgj h
      have HB : Hid (sameT f ks[j] t = false → ∀ i u, i < j + 1 → ks[i]? = some u → sameT f u t = false) := by
        intro h i u hi hu
        by_cases hij : i < j
        · exact HS.out i u hij hu
        · obtain rfl : i = j := by omega
          rw [hgj] at hu
          obtain rfl : ks[i] = u := Option.some.inj hu
          exact h
      generalize sameT f ks[j] t = s at *
      clear hv hgj HS HY hk
      go_wp2_with fail
      refine hc.mono ?_
      rintro e w5 ⟨rfl, b5⟩
      have B5 := B.trans (b5.mono B.size)
      clear hc B k0 k1 k2 k3
      cases s with
      | true =>
        have hr := HA.out rfl
        clear HA HB HN
        subst hr
        go_wp2_with fail
        go_ret
        exact ⟨_, rfl, decide_eq_true (by omega), B5⟩
      | false =>
        have HB' := Lib.hid (HB.out rfl)
        clear HA HB
        go_wp2_with fail
        go_roundw
        case rel => exact ⟨j + 1, by omega, by go_num, HB', B5⟩
        case measure => simp [intOf]; omega
    · obtain rfl : j = ks.length := by omega
      have hr := HN.out HS.out
      clear HN HS HY
      subst hr
      go_wp2_with fail
      go_ret
      exact ⟨_, rfl, by decide, B⟩

theorem contains_any (g : Nat) (S1 S S' : Nat → Prop) (f : Nat) (ks : List (Tm f)) (t : Tm f) (v d0 d1 d2 d3 : Value) (w : World) (hk : KS w S1 (TM w S f) v ks) (kt : KB w g 35 #[d0, d1, d2, d3]) (ht : TM w S' f t d0 d1 d2 d3) :
    Calls Tryd.prog 36 #[v, .func (.func 38) #[] #[.pointer (some ⟨g, 0, none⟩)]] w fun e w' => e = .returned (.bool (decide (t ∈ ks))) ∧ Below w.heap.size w w' := by
  have hc := index_any g S1 S S' f ks t v d0 d1 d2 d3 w hk kt ht
  generalize decide (t ∈ ks) = r at *
  obtain ⟨A, c, rfl, hl, hm, _⟩ := id hk
  clear hk kt ht
  go_enter Tryd.func36, Tryd.ntmps36
  go_wp2_with fail
  refine hc.mono ?_
  rintro e w5 ⟨n, rfl, hn, b5⟩
  clear hc
  subst hn
  go_wp2_with fail
  go_ret
  exact ⟨rfl, b5⟩

set_option maxHeartbeats 1000000 in
theorem there_any (bl m n : Nat) (vo : Look → Value) (S1 S S' : Nat → Prop) (f : Nat) (ks : List (Tm f)) (t : Tm f) (x : Value) (w : World) (kl : KB w bl 59 #[.map (some m)]) (hm : MapW w m vo n) (hx : TV w S' f x t) (hk : KS w S1 (TM w S f) (vo (lookT f t)) ks) :
    Calls Tryd.prog 35 #[x, .pointer (some ⟨bl, 0, none⟩)] w fun e w' => e = .returned (.bool (decide (t ∈ ks))) ∧ Below w.heap.size w w' := by
  obtain ⟨e0, e1, e2, e3, rfl, hd⟩ := hx
  obtain ⟨hgood, rfl, rfl, ⟨X2, z2, rfl⟩, X3, n3, z3, rfl⟩ := lookT_tm hd
  have hlook := lookOf_any (lookT f t) hgood X2 X3 z2 n3 z3
  have HC : Hid (∀ w5, Below w.heap.size w w5 → KB w5 w.heap.size 35 #[.int .i64 (lookT f t).1, .int .u64 ((lookT f t).2.1 : Int), .slice X2 (lookT f t).2.2 z2, .slice X3 n3 z3] →
      Calls Tryd.prog 36 #[vo (lookT f t), .func (.func 38) #[] #[.pointer (some ⟨w.heap.size, 0, none⟩)]] w5 fun e w' => e = .returned (.bool (decide (t ∈ ks))) ∧ Below w5.heap.size w5 w') := by
    intro w5 b5 k5
    have hk5 : KS w5 S1 (TM w5 S f) (vo (lookT f t)) ks := by
      have := KS.map (w' := w5) (S' := S1) (E' := TM w5 S f) id hk b5.size (fun b _ hb => b5.block b hb) (fun _ h => h) fun u d0 d1 d2 d3 hu => TM.keepS f u d0 d1 d2 d3 hu b5.size (fun b _ hb => b5.block b hb) fun _ h => h
      rwa [List.map_id] at this
    exact contains_any w.heap.size S1 S S' f ks t _ _ _ _ _ w5 hk5 k5 (TM.keepS f _ _ _ _ _ hd b5.size (fun b _ hb => b5.block b hb) fun _ h => h)
  have HM : Hid (∀ w5, Below w.heap.size w w5 → (Instr.lookup 59 (.map (some m)) (keyV (lookT f t)) false).run Tryd.prog w5 = .ok (vo (lookT f t)) w5) := fun w5 b5 => (hm.keep (b5.block m hm.lt)).look _ hgood
  have K0 := KB.new w 35 #[.int .i64 (lookT f t).1, .int .u64 ((lookT f t).2.1 : Int), .slice X2 (lookT f t).2.2 z2, .slice X3 n3 z3]
  have B0 := (Below.refl w.heap.size w).alloc (Nat.le_refl _) (.cells #[.int .i64 (lookT f t).1, .int .u64 ((lookT f t).2.1 : Int), .slice X2 (lookT f t).2.2 z2, .slice X3 n3 z3] 35)
  generalize decide (t ∈ ks) = r at *
  clear hk hd hm
  generalize vo (lookT f t) = V at *
  generalize keyV (lookT f t) = KV at *
  generalize (lookT f t).1 = i0 at *
  generalize (((lookT f t).2.1 : Nat) : Int) = i1 at *
  generalize (lookT f t).2.2 = n2 at *
  have kl0 := kl.alloc (.cells #[.int .i64 i0, .int .u64 i1, .slice X2 n2 z2, .slice X3 n3 z3] 35)
  go_enter Tryd.func35, Tryd.ntmps35
  go_wp2_with fail
  generalize hw1 : (w.alloc (.cells #[.int .i64 i0, .int .u64 i1, .slice X2 n2 z2, .slice X3 n3 z3] 35)) = w1 at *
  clear hw1
  have B' : Below w.heap.size w w1.drew := Below_drawn B0 1
  have K' : KB w1.drew w.heap.size 35 #[.int .i64 i0, .int .u64 i1, .slice X2 n2 z2, .slice X3 n3 z3] := K0
  have kl' : KB w1.drew bl 59 #[.map (some m)] := kl0
  have q0 : w1.cell? ⟨w.heap.size, 0, none⟩ = some (.int .i64 i0) := K0.cell 0
  have q1 : w1.cell? ⟨w.heap.size, 1, none⟩ = some (.int .u64 i1) := K0.cell 1
  have q2 : w1.cell? ⟨w.heap.size, 2, none⟩ = some (.slice X2 n2 z2) := K0.cell 2
  have q3 : w1.cell? ⟨w.heap.size, 3, none⟩ = some (.slice X3 n3 z3) := K0.cell 3
  have ql : w1.cell? ⟨bl, 0, none⟩ = some (.map (some m)) := kl0.cell 0
  have hrun := HM.out w1.drew B'
  have hbl : bl < w1.heap.size := kl0.lt
  clear B0 K0 kl0 kl hgood
  go_region_held3 (fun w' => w'.cell? ⟨w.heap.size, 0, none⟩ = some (.int .i64 i0) ∧ w'.cell? ⟨w.heap.size, 1, none⟩ = some (.int .u64 i1) ∧ w'.cell? ⟨w.heap.size, 2, none⟩ = some (.slice X2 n2 z2) ∧ w'.cell? ⟨w.heap.size, 3, none⟩ = some (.slice X3 n3 z3) ∧ w'.cell? ⟨bl, 0, none⟩ = some (.map (some m)) ∧
      (Instr.lookup 59 (.map (some m)) KV false).run Tryd.prog w' = .ok V w')
    (first | exact ⟨q0, q1, q2, q3, ql, hrun⟩ | exact ⟨K'.cell 0, K'.cell 1, K'.cell 2, K'.cell 3, kl'.cell 0, HM.out _ B'⟩ | go_keep)
    (first
      | (go_at_call 37; refine (hlook _).mono ?_; rintro e w5 ⟨rfl, b5⟩; replace B' := B'.trans (b5.mono B'.size); replace K' := K'.below b5 K'.lt; replace kl' := kl'.below b5 kl'.lt)
      | (go_at_call 36; refine (HC.out _ B' K').mono ?_; rintro e w5 ⟨rfl, b5⟩; replace B' := B'.trans (b5.mono B'.size); replace K' := K'.below b5 K'.lt; replace kl' := kl'.below b5 kl'.lt))
  all_goals
    go_wp2_with fail
    go_ret
    exact ⟨rfl, B'⟩
end Go.Proofs.YthgaljgelngmaaaDoor
end
