/-
  TermX: What the document's Small says of a term: it has not too many kids, nor too much data, anywhere. No condition but the sizes that each contract names.
  DcS: Whether terms are few, and small ('Small' of layer 6's statements): some answer, and what a yes says. No condition but what the theorem names.
  DrA: A list of terms that came in, opened. No condition.
-/
import Derived.Test.YthgaljgelngmaaaDoorDv03
import Derived.Test.YthgaljgelngmaaaDoorDv18
import Derived.WalkSpells
import Derived.BigQuiet
import Derived.Deep.QuietTactic
import Derived.Test.YthgaljgelngmaaaDoorDv35
import Derived.Test.YthgaljgelngmaaaDoorDv02

section
namespace Go.Proofs.YthgaljgelngmaaaDoor
open Go.RowKit
set_option linter.unusedVariables false

/-- How many parts more there may be: some number; memory is as it was. -/
theorem rest_few (S : Nat → Prop) : ∀ (f : Nat) (t : Tm f) (v : Value) (most deep : Int) (w : World), I64 most → most ≤ 1000 → I64 deep → TV w S f v t →
    Calls Tryd.prog 26 #[v, .int .i64 most, .int .i64 deep] w fun e w' => ∃ n : Int, e = .returned (.int .i64 n) ∧ I64 n ∧ n ≤ 1000 ∧ (0 ≤ n → few f t) ∧ Below w.heap.size w w' := by
  intro f
  induction f with
  | zero => intro t; exact nomatch t
  | succ f ih =>
    intro t v most deep w hm hm1000 hd hv
    obtain ⟨c0, c1, c2, c3, rfl, rfl, hk, rfl, hn, hdat, hks⟩ := hv
    obtain ⟨A2, cap2, rfl, hl2, hm2, _⟩ := hdat.form
    obtain ⟨A3, cap3, e3, hl3, hm3, _⟩ := id hks
    subst e3
    have HFew : Hid ((t : Nd (Tm f)).kids.length ≤ 1000000 → (t : Nd (Tm f)).data.length ≤ 1000000 → (∀ u, u ∈ (t : Nd (Tm f)).kids → few f u) → few (f + 1) t) := fun h1 h2 h3 => ⟨h1, h2, h3⟩
    obtain ⟨FT, hFT⟩ : ∃ FT : Prop, FT = few (f + 1) t := ⟨_, rfl⟩
    rw [← hFT]
    rw [← hFT] at HFew
    clear hFT
    generalize (t : Nd (Tm f)).kind = k at *
    generalize (t : Nd (Tm f)).n = n at *
    generalize (t : Nd (Tm f)).data = d at *
    generalize (t : Nd (Tm f)).kids = ks at *
    have hlen : ks.length ≤ 9223372036854775807 := by unfold maxLen at hm3; omega
    have hdl : d.length ≤ 9223372036854775807 := by unfold maxLen at hm2; omega
    have hm1 := hm.1
    have hm2' := hm.2
    have hd1 := hd.1
    have hd2 := hd.2
    by_cases h1 : most < 1
    · go_enter Tryd.func26, Tryd.ntmps26
      go_wp2_with fail
      go_ret
      exact ⟨-1, rfl, by unfold I64; omega, by omega, fun h => by omega, (Below.refl _ _).alloc (Nat.le_refl _) _⟩
    by_cases h2 : deep < 1
    · go_enter Tryd.func26, Tryd.ntmps26
      go_wp2_with fail
      go_ret
      exact ⟨-1, rfl, by unfold I64; omega, by omega, fun h => by omega, (Below.refl _ _).alloc (Nat.le_refl _) _⟩
    by_cases h3 : most < (ks.length : Int)
    · go_enter Tryd.func26, Tryd.ntmps26
      go_wp2_with fail
      go_ret
      exact ⟨-1, rfl, by unfold I64; omega, by omega, fun h => by omega, (Below.refl _ _).alloc (Nat.le_refl _) _⟩
    by_cases h4 : 500 < d.length
    · go_enter Tryd.func26, Tryd.ntmps26
      go_wp2_with fail
      go_ret
      exact ⟨-1, rfl, by unfold I64; omega, by omega, fun h => by omega, (Below.refl _ _).alloc (Nat.le_refl _) _⟩
    have W1 : wrap64 (most - 1) = most - 1 := IntWalk.wrap64_in _ (by omega)
    have W2 : wrap64 (deep - 1) = deep - 1 := IntWalk.wrap64_in _ (by omega)
    have HM : Hid (I64 (most - 1)) := by show I64 _; unfold I64; omega
    have HD : Hid (I64 (deep - 1)) := by show I64 _; unfold I64; have := hd.2; omega
    have kb := KB.new w 35 #[.int .i64 k, .int .u64 n, .slice A2 d.length cap2, .slice A3 ks.length cap3]
    have B0 := (Below.refl w.heap.size w).alloc (Nat.le_refl _) (.cells #[.int .i64 k, .int .u64 n, .slice A2 d.length cap2, .slice A3 ks.length cap3] 35)
    go_enter Tryd.func26, Tryd.ntmps26
    go_wp2_with fail
    go_loopw [1, 7] (fun mv iv wr => ∃ (m : Int) (j : Nat), Hid (I64 m) ∧ m ≤ 1000 ∧ Hid (0 ≤ m → ∀ i (h : i < ks.length), i < j → few f ks[i]) ∧ j ≤ ks.length ∧ mv = .int .i64 m ∧ iv = .int .i64 j ∧
      KB wr w.heap.size 35 #[.int .i64 k, .int .u64 n, .slice A2 d.length cap2, .slice A3 ks.length cap3] ∧ Below w.heap.size w wr) (fun _ iv _ => ks.length - (intOf iv).toNat)
    case atStart => exact ⟨most - 1, 0, HM, by omega, fun _ i _ h => absurd h (Nat.not_lt_zero _), by omega, rfl, rfl, kb, B0⟩
    case round =>
      obtain ⟨m, j, hmm, hmk, hfw, hj, rfl, rfl, K, B⟩ := hrel
      have q3 : wr.cell? ⟨w.heap.size, 3, none⟩ = some (.slice A3 ks.length cap3) := K.cell 3
      by_cases hlt : j < ks.length
      · by_cases hm0 : 0 ≤ m
        · obtain ⟨b, o, e0, e1, e2, e3, rfl, _, _, k0, k1, k2, k3, hv⟩ := kid_at hks B j hlt
          have hc := ih ks[j] (.agg #[e0, e1, e2, e3]) m (deep - 1) wr hmm.out hmk HD.out hv
          clear hv
          go_wp2_with fail
          refine hc.mono ?_
          rintro e w5 ⟨m5, rfl, h5, h5k, hf5, b5⟩
          have HF5 := Lib.hid hf5
          have HW : Hid (0 ≤ m5 → ∀ i (h : i < ks.length), i < j + 1 → few f ks[i]) := by
            intro h0 i hi hij
            by_cases hij' : i < j
            · exact hfw.out hm0 i hi hij'
            · obtain rfl : i = j := by omega
              exact HF5.out h0
          clear hf5 HF5 hfw
          have H5 : Hid (I64 m5) := h5
          have K5 := K.below b5 K.lt
          have B5 := B.trans (b5.mono B.size)
          clear h5 hc
          go_wp2_with fail
          go_roundw
          case rel => exact ⟨m5, j + 1, H5, h5k, HW, by omega, rfl, by go_num, K5, B5⟩
          case measure => simp [intOf]; omega
        · go_wp2_with fail
          go_ret
          exact ⟨m, rfl, hmm.out, hmk, fun h => by omega, B⟩
      · go_wp2_with fail
        go_ret
        exact ⟨m, rfl, hmm.out, hmk, fun h => HFew.out (by omega) (by omega) fun u hu => by
          obtain ⟨i, hi, e⟩ := List.mem_iff_getElem.1 hu
          rw [← e]
          exact hfw.out h i hi (by omega), B⟩

/-- Whether a term has few parts: yes or no; memory is as it was. -/
theorem small_few (S : Nat → Prop) (f : Nat) (t : Tm f) (v : Value) (most : Int) (w : World) (hm : I64 most) (hmk : most ≤ 1000) (hv : TV w S f v t) :
    Calls Tryd.prog 12 #[v, .int .i64 most] w fun e w' => ∃ b : Bool, e = .returned (.bool b) ∧ (b = true → few f t) ∧ Below w.heap.size w w' := by
  obtain ⟨c0, c1, c2, c3, rfl, ht⟩ := hv
  have hv2 : TV (w.alloc (.cells #[c0, c1, c2, c3] 35)) S f (.agg #[c0, c1, c2, c3]) t := TV.alloc ⟨c0, c1, c2, c3, rfl, ht⟩ _
  have hr := rest_few S f t _ most 40 _ hm hmk (by unfold I64; omega) hv2
  clear hv2
  have B0 := (Below.refl w.heap.size w).alloc (Nat.le_refl _) (.cells #[c0, c1, c2, c3] 35)
  cases f with
  | zero => exact nomatch t
  | succ f =>
    obtain ⟨rfl, _, rfl, _, hb, hk⟩ := ht
    obtain ⟨A2, cap2, rfl, _⟩ := hb.form
    obtain ⟨A3, cap3, rfl, _⟩ := hk
    go_enter Tryd.func12, Tryd.ntmps12
    go_wp2_with fail
    refine hr.mono ?_
    rintro e w5 ⟨m5, rfl, h5, _, hf5, b5⟩
    have HF5 := Lib.hid hf5
    clear hf5
    have B5 := B0.trans (b5.mono (by simp))
    clear hr h5
    go_wp2_with fail
    go_ret
    exact ⟨_, rfl, fun h => HF5.out (of_decide_eq_true h), B5⟩
end Go.Proofs.YthgaljgelngmaaaDoor
end

section
namespace Go.Proofs.YthgaljgelngmaaaDoor
open Go.RowKit
set_option linter.unusedVariables false

/-- What Small answers. -/
def SmallC {α : Type} (l : List α) (w : World) (e : Ending) (w' : World) : Prop := ∃ b : Bool, e = .returned (.bool b) ∧ (b = true → l.length ≤ 24) ∧ Below w.heap.size w w'
theorem SmallC.of {α : Type} {l : List α} {w w' : World} {e : Ending} (b : Bool) (h1 : e = .returned (.bool b)) (h2 : b = true → l.length ≤ 24) (h3 : Below w.heap.size w w') : SmallC l w e w' := ⟨b, h1, h2, h3⟩
def SmallR {α : Type} (l : List α) (b : Bool) : Prop := b = true → l.length ≤ 24

set_option maxHeartbeats 1000000 in
theorem small6_any (S : Nat → Prop) (f : Nat) (l : List (Tm f)) (v : Value) (w : World) (hl : KS w S (TM w S f) v l) :
    Calls Tryd.prog 6 #[v] w (SmallC l w) := by
  obtain ⟨A, c, rfl, hlc, hm, _⟩ := id hl
  have hle : l.length ≤ 9223372036854775807 := by unfold maxLen at hm; omega
  clear hm
  go_enter Tryd.func6, Tryd.ntmps6
  go_wp2_with fail
  go_loopw [3] (fun iv wr => ∃ j : Nat, j ≤ l.length ∧ j ≤ 60 ∧ iv = .int .i64 j ∧ Below w.heap.size w wr) (fun iv _ => l.length - (intOf iv).toNat)
  case atStart => exact ⟨0, by omega, by omega, rfl, Below.refl _ _⟩
  case round =>
    obtain ⟨j, hj, hj2, rfl, B⟩ := hrel
    by_cases hlt : j < l.length ∧ j < 60
    · obtain ⟨hlt, hlt2⟩ := hlt
      have g1 : (j : Int) < 60 := by omega
      have g2 : decide ((j : Int) < 60) = true := decide_eq_true g1
      obtain ⟨b, o, e0, e1, e2, e3, rfl, hb, k0, k1, k2, k3, hv⟩ := el_at hl rfl B j hlt
      have hc := small_few S f l[j] _ 40 wr (by unfold I64; omega) (by omega) ⟨_, _, _, _, rfl, hv⟩
      clear hv
      go_wp2_with fail
      refine hc.mono ?_
      rintro e w5 ⟨r, rfl, _, b5⟩
      have B5 := B.trans (b5.mono B.size)
      clear hc
      cases r with
      | true =>
        go_wp2_with fail
        go_roundw
        case rel => exact ⟨j + 1, by omega, by omega, by go_num, B5⟩
        case measure => simp [intOf]; omega
      | false =>
        go_wp2_with fail
        go_ret
        exact SmallC.of false rfl (fun h => by cases h) B5
    · by_cases h3 : j < l.length
      · have g1 : ¬ (j : Int) < 60 := by omega
        have g2 : decide ((j : Int) < 60) = false := decide_eq_false g1
        have g3 : ¬ (l.length : Int) ≤ 24 := by omega
        have g4 : decide ((l.length : Int) ≤ 24) = false := decide_eq_false g3
        go_wp2_with fail
        go_ret
        exact SmallC.of false (by first | rfl | simp [g4]) (fun h => by cases h) B
      · by_cases h24 : l.length ≤ 24
        · have g3 : (l.length : Int) ≤ 24 := by omega
          have g4 : decide ((l.length : Int) ≤ 24) = true := decide_eq_true g3
          go_wp2_with fail
          go_ret
          exact SmallC.of true (by first | rfl | simp [g4]) (fun _ => h24) B
        · have g3 : ¬ (l.length : Int) ≤ 24 := by omega
          have g4 : decide ((l.length : Int) ≤ 24) = false := decide_eq_false g3
          go_wp2_with fail
          go_ret
          exact SmallC.of false (by first | rfl | simp [g4]) (fun h => by cases h) B
end Go.Proofs.YthgaljgelngmaaaDoor
end

section
namespace Go.Proofs.YthgaljgelngmaaaDoor
open Go.RowKit Go.ChangeShapes Go.WideShapes Go.Joins
set_option linter.unusedVariables false

theorem KS_of_trod {H : Type} {enc : TypeId × Value → H} {W : World} (m : Nat) (v : Value) (x : DataW H × List MemPlace) (h : DataW.trod enc Tryd.prog W 0 (fun _ => true) true m 22 [v] = some x) :
    ∃ ks : List (Tm m), KS W (fun b => b < W.heap.size) (TM W (fun b => b < W.heap.size) m) v ks := by
  rcases DataW.trod_slice Tryd.underlying22 h with ⟨hcs, _⟩ | ⟨a, len, cap, elems, rest, n, rfl, hcs, _, _, hlc, hm, hel, hi, _, _⟩
  · simp at hcs
    subst hcs
    exact ⟨[], none, 0, rfl, by simp, by simp [maxLen], fun _ => rfl, fun h => absurd h (by simp)⟩
  · simp at hcs
    subst hcs
    rw [cells_term] at hi
    have hi2 : ∀ i, i < len → ∃ t : Tm (n + 1), ∃ c0 c1 c2 c3, W.cell? (a.add (i * 4)) = some c0 ∧ W.cell? ((a.add (i * 4)).add 1) = some c1 ∧ W.cell? ((a.add (i * 4)).add 2) = some c2 ∧ W.cell? ((a.add (i * 4)).add 3) = some c3 ∧
        TM W (fun b => b < W.heap.size) (n + 1) t c0 c1 c2 c3 := by
      intro i hil
      have := hi i hil
      rw [List.getElem?_eq_getElem (by omega)] at this
      obtain ⟨cs, hcs, htr⟩ := Option.bind_eq_some_iff.1 this
      obtain ⟨t, d0, d1, d2, d3, rfl, ht⟩ := TM_of_trod n cs _ htr
      obtain ⟨_, _, hcell⟩ := World.cells?_some hcs
      have k0 := hcell 0 (by omega)
      have k1 := hcell 1 (by omega)
      have k2 := hcell 2 (by omega)
      have k3 := hcell 3 (by omega)
      refine ⟨lift n t, d0, d1, d2, d3, ?_, k1, k2, k3, TM.lifted n t d0 d1 d2 d3 ht⟩
      have : (a.add (i * 4)).add 0 = a.add (i * 4) := rfl
      rw [← this]; exact k0
    haveI : Inhabited (Tm (n + 1)) := ⟨(zeroN : Nd (Tm n))⟩
    obtain ⟨f, hf⟩ := Deep.choose_lt (α := Tm (n + 1)) hi2
    have hlen : ((List.range len).map f).length = len := by simp
    refine ⟨(List.range len).map f, some a, cap, by rw [hlen], by omega, hm, (fun h => by cases h), fun h0 => ?_⟩
    rw [hlen] at h0
    obtain ⟨b, o, spot⟩ := a
    have hspot : spot = none := by
      obtain ⟨_, _, _, _, k0, _⟩ := hf 0 h0
      simpa [Addr.add] using World.cell?_spot k0
    subst hspot
    have hb : b < W.heap.size := by
      obtain ⟨_, _, _, _, k0, _⟩ := hf 0 h0
      rw [add_plain] at k0
      exact World.block_lt_of_cell? _ _ k0
    refine ⟨b, o, rfl, hb, hb, fun i t hit => ?_⟩
    have hil : i < len := by
      have := (List.getElem?_eq_some_iff.1 hit).1
      omega
    simp [hil] at hit
    subst hit
    obtain ⟨d0, d1, d2, d3, k0, k1, k2, k3, kt⟩ := hf i hil
    rw [add_plain] at k0 k1 k2 k3
    rw [add_plain] at k1 k2 k3
    exact ⟨d0, d1, d2, d3, k0, k1, k2, k3, kt⟩

/-- A list of terms that came in: as deep as is wanted, from some depth on. -/
theorem open_terms {H : Type} {enc : TypeId × Value → H} {W : World} {base : Nat} {v : Value} {d : DataW H} {p : List MemPlace}
    (ok : Value.okWide Tryd.prog W .any base 22 v) (h : DataW.Trod enc Tryd.prog W 0 (fun _ => true) true 22 v d p) :
    ∃ (n : Nat), ∀ m, n ≤ m → ∃ ks : List (Tm m), KS W (fun b => b < W.heap.size) (TM W (fun b => b < W.heap.size) m) v ks := by
  obtain ⟨a0, len, cap, rfl⟩ := okWide_slice Tryd.underlying22 ok
  obtain ⟨n, hn⟩ := h
  refine ⟨n, fun m hm => ?_⟩
  obtain ⟨k, rfl⟩ := Nat.le.dest hm
  clear hm
  induction k with
  | zero => exact KS_of_trod n _ _ hn
  | succ k ih =>
    obtain ⟨ks, hk⟩ := ih
    exact ⟨ks.map (lift (n + k)), KS.map (lift (n + k)) hk (Nat.le_refl _) (fun _ _ _ => rfl) (fun _ h => h) fun t c0 c1 c2 c3 ht => TM.lifted (n + k) t c0 c1 c2 c3 ht⟩
end Go.Proofs.YthgaljgelngmaaaDoor
end
