/-
  What the document's Small says of a term: it has not too many kids, nor too much data, anywhere. No condition but the sizes that each contract names.
-/
import Derived.Test.YtmepcdljobdigaaDoorTermR
import Derived.Test.YtmepcdljobdigaaDoorTpG
import Derived.WalkSpells
import Derived.BigQuiet
import Derived.Deep.QuietTactic
namespace Go.Proofs.YtmepcdljobdigaaDoor
open Go.RowKit
set_option linter.unusedVariables false

/-- How many parts more there may be: some number; memory is as it was. -/
theorem rest_few (S : Nat → Prop) : ∀ (f : Nat) (t : Tm f) (v : Value) (most deep : Int) (w : World), I64 most → most ≤ 1000 → I64 deep → TV w S f v t →
    Calls Tryd.prog 29 #[v, .int .i64 most, .int .i64 deep] w fun e w' => ∃ n : Int, e = .returned (.int .i64 n) ∧ I64 n ∧ n ≤ 1000 ∧ (0 ≤ n → few f t) ∧ Below w.heap.size w w' := by
  intro f
  induction f with
  | zero => intro t; exact nomatch t
  | succ f ih =>
    intro t v most deep w hm hm1000 hd hv
    obtain ⟨c0, c1, c2, c3, rfl, rfl, hk, rfl, hn, hdat, hks⟩ := hv
    obtain ⟨A2, cap2, rfl, hl2, hm2, _⟩ := hdat.form
    obtain ⟨A3, cap3, e3, hl3, hm3, _⟩ := id hks
    subst e3
    have HFew : Hid ((t : Nd (Tm f)).kids.length ≤ 1000000 → (t : Nd (Tm f)).data.length ≤ 1000000 → (∀ u, u ∈ (t : Nd (Tm f)).kids → few f u) → few (f + 1) t) := fun h1 h2 h3 => ⟨h1, h2, h3⟩
    obtain ⟨FT, hFT⟩ : ∃ FT : Prop, FT = few (f + 1) t := ⟨_, rfl⟩
    rw [← hFT]
    rw [← hFT] at HFew
    clear hFT
    generalize (t : Nd (Tm f)).kind = k at *
    generalize (t : Nd (Tm f)).n = n at *
    generalize (t : Nd (Tm f)).data = d at *
    generalize (t : Nd (Tm f)).kids = ks at *
    have hlen : ks.length ≤ 9223372036854775807 := by unfold maxLen at hm3; omega
    have hdl : d.length ≤ 9223372036854775807 := by unfold maxLen at hm2; omega
    have hm1 := hm.1
    have hm2' := hm.2
    have hd1 := hd.1
    have hd2 := hd.2
    by_cases h1 : most < 1
    · go_enter Tryd.func29, Tryd.ntmps29
      go_wp2_with fail
      go_ret
      exact ⟨-1, rfl, by unfold I64; omega, by omega, fun h => by omega, (Below.refl _ _).alloc (Nat.le_refl _) _⟩
    by_cases h2 : deep < 1
    · go_enter Tryd.func29, Tryd.ntmps29
      go_wp2_with fail
      go_ret
      exact ⟨-1, rfl, by unfold I64; omega, by omega, fun h => by omega, (Below.refl _ _).alloc (Nat.le_refl _) _⟩
    by_cases h3 : most < (ks.length : Int)
    · go_enter Tryd.func29, Tryd.ntmps29
      go_wp2_with fail
      go_ret
      exact ⟨-1, rfl, by unfold I64; omega, by omega, fun h => by omega, (Below.refl _ _).alloc (Nat.le_refl _) _⟩
    by_cases h4 : 500 < d.length
    · go_enter Tryd.func29, Tryd.ntmps29
      go_wp2_with fail
      go_ret
      exact ⟨-1, rfl, by unfold I64; omega, by omega, fun h => by omega, (Below.refl _ _).alloc (Nat.le_refl _) _⟩
    have W1 : wrap64 (most - 1) = most - 1 := IntWalk.wrap64_in _ (by omega)
    have W2 : wrap64 (deep - 1) = deep - 1 := IntWalk.wrap64_in _ (by omega)
    have HM : Hid (I64 (most - 1)) := by show I64 _; unfold I64; omega
    have HD : Hid (I64 (deep - 1)) := by show I64 _; unfold I64; have := hd.2; omega
    have kb := KB.new w 26 #[.int .i64 k, .int .u64 n, .slice A2 d.length cap2, .slice A3 ks.length cap3]
    have B0 := (Below.refl w.heap.size w).alloc (Nat.le_refl _) (.cells #[.int .i64 k, .int .u64 n, .slice A2 d.length cap2, .slice A3 ks.length cap3] 26)
    go_enter Tryd.func29, Tryd.ntmps29
    go_wp2_with fail
    go_loopw [1, 7] (fun mv iv wr => ∃ (m : Int) (j : Nat), Hid (I64 m) ∧ m ≤ 1000 ∧ Hid (0 ≤ m → ∀ i (h : i < ks.length), i < j → few f ks[i]) ∧ j ≤ ks.length ∧ mv = .int .i64 m ∧ iv = .int .i64 j ∧
      KB wr w.heap.size 26 #[.int .i64 k, .int .u64 n, .slice A2 d.length cap2, .slice A3 ks.length cap3] ∧ Below w.heap.size w wr) (fun _ iv _ => ks.length - (intOf iv).toNat)
    case atStart => exact ⟨most - 1, 0, HM, by omega, fun _ i _ h => absurd h (Nat.not_lt_zero _), by omega, rfl, rfl, kb, B0⟩
    case round =>
      obtain ⟨m, j, hmm, hmk, hfw, hj, rfl, rfl, K, B⟩ := hrel
      have q3 : wr.cell? ⟨w.heap.size, 3, none⟩ = some (.slice A3 ks.length cap3) := K.cell 3
      by_cases hlt : j < ks.length
      · by_cases hm0 : 0 ≤ m
        · obtain ⟨b, o, e0, e1, e2, e3, rfl, _, _, k0, k1, k2, k3, hv⟩ := kid_at hks B j hlt
          have hc := ih ks[j] (.agg #[e0, e1, e2, e3]) m (deep - 1) wr hmm.out hmk HD.out hv
          clear hv
          go_wp2_with fail
          refine hc.mono ?_
          rintro e w5 ⟨m5, rfl, h5, h5k, hf5, b5⟩
          have HF5 := Lib.hid hf5
          have HW : Hid (0 ≤ m5 → ∀ i (h : i < ks.length), i < j + 1 → few f ks[i]) := by
            intro h0 i hi hij
            by_cases hij' : i < j
            · exact hfw.out hm0 i hi hij'
            · obtain rfl : i = j := by omega
              exact HF5.out h0
          clear hf5 HF5 hfw
          have H5 : Hid (I64 m5) := h5
          have K5 := K.below b5 K.lt
          have B5 := B.trans (b5.mono B.size)
          clear h5 hc
          go_wp2_with fail
          go_roundw
          case rel => exact ⟨m5, j + 1, H5, h5k, HW, by omega, rfl, by go_num, K5, B5⟩
          case measure => simp [intOf]; omega
        · go_wp2_with fail
          go_ret
          exact ⟨m, rfl, hmm.out, hmk, fun h => by omega, B⟩
      · go_wp2_with fail
        go_ret
        exact ⟨m, rfl, hmm.out, hmk, fun h => HFew.out (by omega) (by omega) fun u hu => by
          obtain ⟨i, hi, e⟩ := List.mem_iff_getElem.1 hu
          rw [← e]
          exact hfw.out h i hi (by omega), B⟩

/-- Whether a term has few parts: yes or no; memory is as it was. -/
theorem small_few (S : Nat → Prop) (f : Nat) (t : Tm f) (v : Value) (most : Int) (w : World) (hm : I64 most) (hmk : most ≤ 1000) (hv : TV w S f v t) :
    Calls Tryd.prog 7 #[v, .int .i64 most] w fun e w' => ∃ b : Bool, e = .returned (.bool b) ∧ (b = true → few f t) ∧ Below w.heap.size w w' := by
  obtain ⟨c0, c1, c2, c3, rfl, ht⟩ := hv
  have hv2 : TV (w.alloc (.cells #[c0, c1, c2, c3] 26)) S f (.agg #[c0, c1, c2, c3]) t := TV.alloc ⟨c0, c1, c2, c3, rfl, ht⟩ _
  have hr := rest_few S f t _ most 40 _ hm hmk (by unfold I64; omega) hv2
  clear hv2
  have B0 := (Below.refl w.heap.size w).alloc (Nat.le_refl _) (.cells #[c0, c1, c2, c3] 26)
  cases f with
  | zero => exact nomatch t
  | succ f =>
    obtain ⟨rfl, _, rfl, _, hb, hk⟩ := ht
    obtain ⟨A2, cap2, rfl, _⟩ := hb.form
    obtain ⟨A3, cap3, rfl, _⟩ := hk
    go_enter Tryd.func7, Tryd.ntmps7
    go_wp2_with fail
    refine hr.mono ?_
    rintro e w5 ⟨m5, rfl, h5, _, hf5, b5⟩
    have HF5 := Lib.hid hf5
    clear hf5
    have B5 := B0.trans (b5.mono (by simp))
    clear hr h5
    go_wp2_with fail
    go_ret
    exact ⟨_, rfl, fun h => HF5.out (of_decide_eq_true h), B5⟩
end Go.Proofs.YtmepcdljobdigaaDoor
