/-
  TermR: The document's own functions of layer 5 (kids, number, rest, Small), over the loaded program: each one's contract. No condition but the sizes that each contract names.
  Still: A region that draws its order and only reads and calls quietly, but for its last operations: over any program. No condition.
-/
import Derived.Test.YthgaljgelngmaaaDoorDv02
import Derived.WalkSpells
import Derived.BigQuiet
import Derived.Deep.QuietTactic
import Derived.StillTailTactics

section
namespace Go.Proofs.YthgaljgelngmaaaDoor
open Go.RowKit
set_option linter.unusedVariables false

theorem kids_any (k : Int) (w : World) :
    Calls Tryd.prog 45 #[.int .i64 k] w fun e w' => e = .returned (.int .i64 (kidsN k)) ∧ w = w' := by
  by_cases h1 : k = 1
  · subst h1
    go_enter Tryd.func45, Tryd.ntmps45
    go_wp2
    go_ret
    exact ⟨rfl, rfl⟩
  by_cases h2 : k = 2
  · subst h2
    go_enter Tryd.func45, Tryd.ntmps45
    go_wp2
    go_ret
    exact ⟨rfl, rfl⟩
  by_cases h3 : k = 3
  · subst h3
    go_enter Tryd.func45, Tryd.ntmps45
    go_wp2
    go_ret
    exact ⟨rfl, rfl⟩
  by_cases h4 : k = 4
  · subst h4
    go_enter Tryd.func45, Tryd.ntmps45
    go_wp2
    go_ret
    exact ⟨rfl, rfl⟩
  by_cases h5 : k = 5
  · subst h5
    go_enter Tryd.func45, Tryd.ntmps45
    go_wp2
    go_ret
    exact ⟨rfl, rfl⟩
  by_cases h6 : k = 6
  · subst h6
    go_enter Tryd.func45, Tryd.ntmps45
    go_wp2
    go_ret
    exact ⟨rfl, rfl⟩
  have e : kidsN k = -1 := by unfold kidsN; rw [if_neg (by omega), if_neg h6, if_neg (by omega)]
  rw [e]
  go_enter Tryd.func45, Tryd.ntmps45
  go_wp2
  go_ret
  exact ⟨rfl, rfl⟩

theorem number_any (k : Int) (w : World) :
    Calls Tryd.prog 46 #[.int .i64 k] w fun e w' => e = .returned (.bool (numK k)) ∧ w = w' := by
  by_cases h1 : k = 1
  · subst h1
    go_enter Tryd.func46, Tryd.ntmps46
    go_wp2
    go_ret
    exact ⟨rfl, rfl⟩
  by_cases h2 : k = 2
  · subst h2
    go_enter Tryd.func46, Tryd.ntmps46
    go_wp2
    go_ret
    exact ⟨rfl, rfl⟩
  by_cases h5 : k = 5
  · subst h5
    go_enter Tryd.func46, Tryd.ntmps46
    go_wp2
    go_ret
    exact ⟨rfl, rfl⟩
  have e : numK k = false := by unfold numK; exact decide_eq_false (by omega)
  rw [e]
  have g1 : (k == 1) = false := beq_eq_false_iff_ne.2 h1
  have g2 : (k == 2) = false := beq_eq_false_iff_ne.2 h2
  have g5 : (k == 5) = false := beq_eq_false_iff_ne.2 h5
  go_enter Tryd.func46, Tryd.ntmps46
  go_wp2
  go_ret
  exact ⟨rfl, rfl⟩

/-- A kid of a term, where memory stands now. -/
theorem kid_at {w wr : World} {S : Nat → Prop} {f : Nat} {A : Option Addr} {c : Nat} {ks : List (Tm f)} (h : KS w S (TM w S f) (.slice A ks.length c) ks) (hb : Below w.heap.size w wr) (j : Nat) (hj : j < ks.length) :
    ∃ b o e0 e1 e2 e3, A = some ⟨b, o, none⟩ ∧ S b ∧ b < w.heap.size ∧ wr.cell? ⟨b, o + j * 4, none⟩ = some e0 ∧ wr.cell? ⟨b, o + j * 4 + 1, none⟩ = some e1 ∧ wr.cell? ⟨b, o + j * 4 + 2, none⟩ = some e2 ∧ wr.cell? ⟨b, o + j * 4 + 3, none⟩ = some e3 ∧
      TV wr S f (.agg #[e0, e1, e2, e3]) ks[j] := by
  obtain ⟨A', c', e, hl, hc, hz, hx⟩ := h
  injection e with e1 e2 e3
  subst e1 e3
  obtain ⟨b, o, rfl, sb, hlt, hx⟩ := hx (by omega)
  obtain ⟨e0, e1, e2, e3, k0, k1, k2, k3, ht⟩ := hx j ks[j] (List.getElem?_eq_getElem hj)
  have hc := fun (x : Nat) => World.cell?_of_block (w := w) (w' := wr) (a := ⟨b, x, none⟩) (hb.block b hlt)
  exact ⟨b, o, e0, e1, e2, e3, rfl, sb, hlt, (hc _).trans k0, (hc _).trans k1, (hc _).trans k2, (hc _).trans k3, e0, e1, e2, e3, rfl, TM.keepS f ks[j] e0 e1 e2 e3 ht hb.size (fun b _ hlt => hb.block b hlt) fun _ h => h⟩

/-- How many parts more there may be: some number; memory is as it was. -/
theorem rest_any (S : Nat → Prop) : ∀ (f : Nat) (t : Tm f) (v : Value) (most deep : Int) (w : World), I64 most → I64 deep → TV w S f v t →
    Calls Tryd.prog 26 #[v, .int .i64 most, .int .i64 deep] w fun e w' => ∃ n : Int, e = .returned (.int .i64 n) ∧ I64 n ∧ Below w.heap.size w w' := by
  intro f
  induction f with
  | zero => intro t; exact nomatch t
  | succ f ih =>
    intro t v most deep w hm hd hv
    obtain ⟨c0, c1, c2, c3, rfl, rfl, hk, rfl, hn, hdat, hks⟩ := hv
    obtain ⟨A2, cap2, rfl, hl2, hm2, _⟩ := hdat.form
    obtain ⟨A3, cap3, e3, hl3, hm3, _⟩ := id hks
    subst e3
    generalize (t : Nd (Tm f)).kind = k at *
    generalize (t : Nd (Tm f)).n = n at *
    generalize (t : Nd (Tm f)).data = d at *
    generalize (t : Nd (Tm f)).kids = ks at *
    have hlen : ks.length ≤ 9223372036854775807 := by unfold maxLen at hm3; omega
    have hdl : d.length ≤ 9223372036854775807 := by unfold maxLen at hm2; omega
    have hm1 := hm.1
    have hm2' := hm.2
    have hd1 := hd.1
    have hd2 := hd.2
    by_cases h1 : most < 1
    · go_enter Tryd.func26, Tryd.ntmps26
      go_wp2_with fail
      go_ret
      exact ⟨-1, rfl, by unfold I64; omega, (Below.refl _ _).alloc (Nat.le_refl _) _⟩
    by_cases h2 : deep < 1
    · go_enter Tryd.func26, Tryd.ntmps26
      go_wp2_with fail
      go_ret
      exact ⟨-1, rfl, by unfold I64; omega, (Below.refl _ _).alloc (Nat.le_refl _) _⟩
    by_cases h3 : most < (ks.length : Int)
    · go_enter Tryd.func26, Tryd.ntmps26
      go_wp2_with fail
      go_ret
      exact ⟨-1, rfl, by unfold I64; omega, (Below.refl _ _).alloc (Nat.le_refl _) _⟩
    by_cases h4 : 500 < d.length
    · go_enter Tryd.func26, Tryd.ntmps26
      go_wp2_with fail
      go_ret
      exact ⟨-1, rfl, by unfold I64; omega, (Below.refl _ _).alloc (Nat.le_refl _) _⟩
    have W1 : wrap64 (most - 1) = most - 1 := IntWalk.wrap64_in _ (by omega)
    have W2 : wrap64 (deep - 1) = deep - 1 := IntWalk.wrap64_in _ (by omega)
    have HM : Hid (I64 (most - 1)) := by show I64 _; unfold I64; omega
    have HD : Hid (I64 (deep - 1)) := by show I64 _; unfold I64; have := hd.2; omega
    have kb := KB.new w 35 #[.int .i64 k, .int .u64 n, .slice A2 d.length cap2, .slice A3 ks.length cap3]
    have B0 := (Below.refl w.heap.size w).alloc (Nat.le_refl _) (.cells #[.int .i64 k, .int .u64 n, .slice A2 d.length cap2, .slice A3 ks.length cap3] 35)
    go_enter Tryd.func26, Tryd.ntmps26
    go_wp2_with fail
    go_loopw [1, 7] (fun mv iv wr => ∃ (m : Int) (j : Nat), Hid (I64 m) ∧ j ≤ ks.length ∧ mv = .int .i64 m ∧ iv = .int .i64 j ∧
      KB wr w.heap.size 35 #[.int .i64 k, .int .u64 n, .slice A2 d.length cap2, .slice A3 ks.length cap3] ∧ Below w.heap.size w wr) (fun _ iv _ => ks.length - (intOf iv).toNat)
    case atStart => exact ⟨most - 1, 0, HM, by omega, rfl, rfl, kb, B0⟩
    case round =>
      obtain ⟨m, j, hmm, hj, rfl, rfl, K, B⟩ := hrel
      have q3 : wr.cell? ⟨w.heap.size, 3, none⟩ = some (.slice A3 ks.length cap3) := K.cell 3
      by_cases hlt : j < ks.length
      · by_cases hm0 : 0 ≤ m
        · obtain ⟨b, o, e0, e1, e2, e3, rfl, _, _, k0, k1, k2, k3, hv⟩ := kid_at hks B j hlt
          have hc := ih ks[j] (.agg #[e0, e1, e2, e3]) m (deep - 1) wr hmm.out HD.out hv
          clear hv
          go_wp2_with fail
          refine hc.mono ?_
          rintro e w5 ⟨m5, rfl, h5, b5⟩
          have H5 : Hid (I64 m5) := h5
          have K5 := K.below b5 K.lt
          have B5 := B.trans (b5.mono B.size)
          clear h5 hc
          go_wp2_with fail
          go_roundw
          case rel => exact ⟨m5, j + 1, H5, by omega, rfl, by go_num, K5, B5⟩
          case measure => simp [intOf]; omega
        · go_wp2_with fail
          go_ret
          exact ⟨m, rfl, hmm.out, B⟩
      · go_wp2_with fail
        go_ret
        exact ⟨m, rfl, hmm.out, B⟩

/-- Whether a term has few parts: yes or no; memory is as it was. -/
theorem small_any (S : Nat → Prop) (f : Nat) (t : Tm f) (v : Value) (most : Int) (w : World) (hm : I64 most) (hv : TV w S f v t) :
    Calls Tryd.prog 12 #[v, .int .i64 most] w fun e w' => ∃ b : Bool, e = .returned (.bool b) ∧ Below w.heap.size w w' := by
  obtain ⟨c0, c1, c2, c3, rfl, ht⟩ := hv
  have hv2 : TV (w.alloc (.cells #[c0, c1, c2, c3] 35)) S f (.agg #[c0, c1, c2, c3]) t := TV.alloc ⟨c0, c1, c2, c3, rfl, ht⟩ _
  have hr := rest_any S f t _ most 40 _ hm (by unfold I64; omega) hv2
  clear hv2
  have B0 := (Below.refl w.heap.size w).alloc (Nat.le_refl _) (.cells #[c0, c1, c2, c3] 35)
  cases f with
  | zero => exact nomatch t
  | succ f =>
    obtain ⟨rfl, _, rfl, _, hb, hk⟩ := ht
    obtain ⟨A2, cap2, rfl, _⟩ := hb.form
    obtain ⟨A3, cap3, rfl, _⟩ := hk
    go_enter Tryd.func12, Tryd.ntmps12
    go_wp2_with fail
    refine hr.mono ?_
    rintro e w5 ⟨m5, rfl, h5, b5⟩
    have B5 := B0.trans (b5.mono (by simp))
    clear hr h5
    go_wp2_with fail
    go_ret
    exact ⟨_, rfl, B5⟩
end Go.Proofs.YthgaljgelngmaaaDoor
end

section
namespace Go.Proofs.YthgaljgelngmaaaDoor
set_option linter.unusedVariables false

/-- A region that only reads and calls quietly, but for its last operations: the world behind its draw under a new name, of which R is known. -/
theorem wp_still_tail {P : Program} {id : Nat} {Q : Exit → Act → World → Prop} {a : Act} {w : World} {l : List Oper} (n : Nat) (hm : P.follows .mixedOrders = true) (hB : Region.lexTailB .any l.toArray n = true)
    (R : World → Prop) (hR : R w.drew) (h : ∀ w2, R w2 → wpStill P l.toArray w2 (fun a' => wpList P l.toArray Q (l.drop n) a' w2) (l.take n) a) : (Code.region id l.toArray true).wp P Q a w :=
  wp_region_still_tail n hm hB (h w.drew hR)
end Go.Proofs.YthgaljgelngmaaaDoor
end
