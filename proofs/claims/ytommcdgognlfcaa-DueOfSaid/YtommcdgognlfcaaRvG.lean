/-
  The program's place (layer 17), slices.IndexFunc at rules, over the loaded program: each one's contract. No condition but sizes.
-/
import Derived.Test.YtommcdgognlfcaaRuP0
import Derived.Test.YtommcdgognlfcaaRuG
import Derived.Laws.EntriesVeiled
namespace Go.Proofs.Ytommcdgognlfcaa
open Go.RowKit
set_option maxRecDepth 100000
set_option linter.unusedVariables false

/-- The closure that asks for a class. -/
theorem place1_any (cl : List UInt8) (gc : Nat) (r : List UInt8) (a1 a2 a3 a4 : Value) (ac : Int) (w : World) (hc : KB w gc 9 #[strV cl]) (h1 : ∃ i, a1 = .int .i64 i) (h2 : ∃ i, a2 = .int .i64 i) (h3 : ∃ l, a3 = .string l) (h4 : ∃ A n c, a4 = .slice A n c) :
    Calls Try.prog 40 #[.agg #[strV r, a1, a2, a3, a4, .int .i64 ac], .pointer (some ⟨gc, 0, none⟩)] w fun e w' => e = .returned (.bool (decide (r = cl))) ∧ Below w.heap.size w w' := by
  obtain ⟨i1, rfl⟩ := h1
  obtain ⟨i2, rfl⟩ := h2
  obtain ⟨l3, rfl⟩ := h3
  obtain ⟨A, n, c, rfl⟩ := h4
  have hgl := hc.lt
  have q0 : w.cell? ⟨gc, 0, none⟩ = some (strV cl) := hc.cell 0
  unfold strV at *
  obtain ⟨s, hs⟩ : ∃ s : ByteArray, s = ⟨r.toArray⟩ := ⟨_, rfl⟩
  obtain ⟨s', hs'⟩ : ∃ s : ByteArray, s = ⟨cl.toArray⟩ := ⟨_, rfl⟩
  have gq := eq_txt s s' _ _ hs hs'
  rw [← hs'] at q0
  rw [← hs]
  clear hs hs' hc
  have B0 := (Below.refl w.heap.size w).alloc (Nat.le_refl _) (.cells #[.string s, .int .i64 i1, .int .i64 i2, .string l3, .slice A n c, .int .i64 ac] 49)
  generalize decide (r = cl) = b at *
  go_enter Try.func40, Try.ntmps40
  go_wp2_with fail
  go_ret
  exact ⟨rfl, B0⟩

set_option maxHeartbeats 4000000 in
/-- slices.IndexFunc of rules, by a class. -/
theorem indexr_any (S : Nat → Prop) (f : Nat) (l : List (Rl f)) (cl : List UInt8) (gc : Nat) (v : Value) (w : World) (hc : KB w gc 9 #[strV cl]) (hv : RS w S f v l) :
    Calls Try.prog 39 #[v, .func (.func 40) #[] #[.pointer (some ⟨gc, 0, none⟩)]] w fun e w' => e = .returned (.int .i64 (placeR f l cl)) ∧ Below w.heap.size w w' := by
  obtain ⟨A3, cap3, rfl, hl3, hm3⟩ := hv.form
  have hlen : l.length ≤ 9223372036854775807 := by unfold maxLen at hm3; omega
  have hcl := hc.lt
  have HN : Hid ((∀ (i : Nat) (hi : i < l.length), l[i].cls ≠ cl) → placeR f l cl = -1) := fun h => place_none h
  have HY : Hid (∀ (j : Nat) (hj : j < l.length), (∀ (i : Nat) (hi : i < l.length), i < j → l[i].cls ≠ cl) → l[j].cls = cl → placeR f l cl = (j : Int)) := fun j hj h1 h2 => place_some hj h1 h2
  have HCK : Hid (∀ W, Below w.heap.size w W → KB W gc 9 #[strV cl]) := fun W h => hc.below h hcl
  clear hc
  generalize placeR f l cl = r at *
  go_enter Try.func39, Try.ntmps39
  go_wp2_with fail
  go_loopw [8] (fun iv wr => ∃ j : Nat, j ≤ l.length ∧ iv = .int .i64 j ∧ Hid (∀ (i : Nat) (hi : i < l.length), i < j → l[i].cls ≠ cl) ∧ Below w.heap.size w wr) (fun iv _ => l.length - (intOf iv).toNat)
  case atStart => exact ⟨0, by omega, rfl, fun i _ h => absurd h (Nat.not_lt_zero _), Below.refl _ _⟩
  case round =>
    obtain ⟨j, hj, rfl, hall, B⟩ := hrel
    by_cases hlt : j < l.length
    · have hltI : (j : Int) < (l.length : Int) := by omega
      obtain ⟨b, o, e1, e2, e3, e4, rfl, hb, k0, k1, k2, k3, k4, k5, hx, _, _⟩ := rule_b hv rfl B j hlt
      have HY2 := Lib.hid (fun h => HY.out j hlt hall.out h)
      have HN2 : Hid (l[j].cls ≠ cl → ∀ (i : Nat) (hi : i < l.length), i < j + 1 → l[i].cls ≠ cl) := fun h i hi hij => by
        rcases Nat.lt_or_ge i j with h' | h'
        · exact hall.out i hi h'
        · obtain rfl : i = j := by omega
          exact h
      obtain ⟨_, _, _, _, e, hx4⟩ := hx
      injection e with e
      simp only [Array.mk.injEq, List.cons.injEq, and_true] at e
      obtain ⟨rfl, rfl, rfl, rfl⟩ := e
      obtain ⟨i0, i1, l2, X3, n3, z3, rfl, rfl, rfl, rfl⟩ := hx4.form
      have hc := place1_any cl gc l[j].cls (.int .i64 i0) (.int .i64 i1) (strV l2) (.slice X3 n3 z3) l[j].act wr (HCK.out wr B) ⟨_, rfl⟩ ⟨_, rfl⟩ ⟨_, rfl⟩ ⟨_, _, _, rfl⟩
      obtain ⟨eb, heb⟩ : ∃ eb, eb = decide (l[j].cls = cl) := ⟨_, rfl⟩
      rw [← heb] at hc
      have HEB := Lib.hid heb
      unfold strV at *
      clear hx4 hv HN hall heb
      generalize (⟨l2.toArray⟩ : ByteArray) = s2 at *
      generalize (⟨l[j].cls.toArray⟩ : ByteArray) = s1 at *
      generalize l[j].act = ac at *
      go_wp2_with fail
      refine hc.mono ?_
      rintro e w5 ⟨rfl, b5⟩
      have B5 := B.trans (b5.mono B.size)
      clear hc b5 B k0 k1 k2 k3 k4 k5
      cases eb with
      | false =>
        have hn := Lib.hid (HN2.out (of_decide_eq_false HEB.out.symm))
        clear HEB HN2 HY2
        go_wp2_with fail
        go_roundw
        case rel => exact ⟨j + 1, by omega, by go_num, hn, B5⟩
        case measure => simp [intOf]; omega
      | true =>
        have hr := HY2.out (of_decide_eq_true HEB.out.symm)
        clear HEB HN2 HY2 HY
        subst hr
        go_wp2_with fail
        go_ret
        exact ⟨rfl, B5⟩
    · obtain rfl : r = -1 := HN.out fun i hi => hall.out i hi (by omega)
      clear HN HY hall
      go_wp2_with fail
      go_ret
      exact ⟨rfl, B⟩

/-- place. -/
theorem place_any (S : Nat → Prop) (f : Nat) (l : List (Rl f)) (cl : List UInt8) (v : Value) (w : World) (hv : RS w S f v l) :
    Calls Try.prog 32 #[v, strV cl] w fun e w' => e = .returned (.int .i64 (placeR f l cl)) ∧ Below w.heap.size w w' := by
  have B0 := (Below.refl w.heap.size w).alloc (Nat.le_refl _) (.cells #[strV cl] 9)
  have hc := indexr_any S f l cl w.heap.size v (w.alloc (.cells #[strV cl] 9)) (KB.new _ _ _) (hv.below' B0)
  obtain ⟨A3, cap3, rfl, hl3, hm3⟩ := hv.form
  unfold strV at *
  clear hv
  generalize (⟨cl.toArray⟩ : ByteArray) = s at *
  generalize placeR f l cl = r at *
  go_enter Try.func32, Try.ntmps32
  go_wp2_with fail
  refine hc.mono ?_
  rintro e w5 ⟨rfl, b5⟩
  have B5 := B0.trans (b5.mono B0.size)
  clear hc
  go_wp2_with fail
  go_ret
  exact ⟨rfl, B5⟩
end Go.Proofs.Ytommcdgognlfcaa
