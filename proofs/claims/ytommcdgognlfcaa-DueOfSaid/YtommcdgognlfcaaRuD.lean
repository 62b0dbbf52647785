/-
  The document's MayExpr, small and Small (layer 17), over the loaded program: each one's contract. No condition but the sizes that each contract names.
-/
import Derived.Test.YtommcdgognlfcaaRuC
namespace Go.Proofs.Ytommcdgognlfcaa
open Go.RowKit
set_option maxRecDepth 100000
set_option linter.unusedVariables false
set_option maxHeartbeats 4000000 in
/-- small: some number; it is at least 0 only where there are few parts. -/
theorem small_few (S : Nat → Prop) : ∀ (f : Nat) (t : Ex f) (v : Value) (n d : Int) (w : World), -1 ≤ n → n ≤ 1000 → -1000 ≤ d → d ≤ 1000 → EV w S f v t →
    Calls Try.prog 26 #[v, .int .i64 n, .int .i64 d] w fun e w' => ∃ m : Int, e = .returned (.int .i64 m) ∧ -1 ≤ m ∧ m ≤ 1000 ∧ (0 ≤ m → fewX f t) ∧ Below w.heap.size w w' := by
  intro f
  induction f with
  | zero => intro t; exact nomatch t
  | succ f ih =>
    intro t v n d w hn hn2 hd hd2 hv
    obtain ⟨c0, c1, c2, c3, rfl, rfl, hk, rfl, hdy, rfl, hml, hks⟩ := hv
    obtain ⟨A3, cap3, e3, hl3, hm3, _⟩ := id hks
    subst e3
    have HFew : Hid ((t : Nx (Ex f)).kids.length ≤ 1000000 → (t : Nx (Ex f)).mile.length ≤ 1000000 → (∀ u, u ∈ (t : Nx (Ex f)).kids → fewX f u) → fewX (f + 1) t) := fun h1 h2 h3 => ⟨h1, h2, h3⟩
    obtain ⟨FT, hFT⟩ : ∃ FT : Prop, FT = fewX (f + 1) t := ⟨_, rfl⟩
    rw [← hFT]
    rw [← hFT] at HFew
    clear hFT
    have hmlen : (t : Nx (Ex f)).mile.length ≤ 9223372036854775807 := by unfold maxLen at hml; omega
    have hsz : ((⟨(t : Nx (Ex f)).mile.toArray⟩ : ByteArray).size : Int) = ((t : Nx (Ex f)).mile.length : Int) := rfl
    generalize (t : Nx (Ex f)).op = k at *
    generalize (t : Nx (Ex f)).days = dy at *
    generalize (t : Nx (Ex f)).mile = l at *
    generalize (t : Nx (Ex f)).kids = ks at *
    clear t
    have hlen : ks.length ≤ 9223372036854775807 := by unfold maxLen at hm3; omega
    have W1 : wrap64 (n - 1) = n - 1 := IntWalk.wrap64_in _ (by omega)
    have W2 : wrap64 (d - 1) = d - 1 := IntWalk.wrap64_in _ (by omega)
    have I1 : IntKind.i64.wrap (n - 1) = n - 1 := by rw [IntKind.wrap_i64]; omega
    have I2 : IntKind.i64.wrap (d - 1) = d - 1 := by rw [IntKind.wrap_i64]; omega
    unfold strV at *
    obtain ⟨s, hs⟩ : ∃ s : ByteArray, s = ⟨l.toArray⟩ := ⟨_, rfl⟩
    rw [← hs] at hsz ⊢
    clear hs
    obtain ⟨ln, hln⟩ : ∃ ln, ln = l.length := ⟨_, rfl⟩
    rw [← hln] at hsz hmlen HFew
    clear hln hml
    obtain ⟨kl, hkl⟩ : ∃ kl, kl = ks.length := ⟨_, rfl⟩
    rw [← hkl] at hks hl3 hlen ⊢
    have HKL := Lib.hid hkl
    clear hkl
    have kb := KB.new w 24 #[.int .i64 k, .int .i64 dy, .string s, .slice A3 kl cap3]
    have B0 := (Below.refl w.heap.size w).alloc (Nat.le_refl _) (.cells #[.int .i64 k, .int .i64 dy, .string s, .slice A3 kl cap3] 24)
    have hno : ∀ W', Below w.heap.size w W' → ∃ m : Int, Ending.returned (.int .i64 (-1)) = .returned (.int .i64 m) ∧ -1 ≤ m ∧ m ≤ 1000 ∧ (0 ≤ m → FT) ∧ Below w.heap.size w W' := fun W' h => ⟨-1, rfl, by omega, by omega, fun h => by omega, h⟩
    have HNO := Lib.hid hno
    clear hno
    by_cases h1 : n < 1
    · have E := decide_eq_true h1
      go_enter Try.func26, Try.ntmps26
      go_wp2_with fail
      go_ret
      exact HNO.out _ B0
    have E1 : decide (n < 1) = false := decide_eq_false h1
    by_cases h2 : d < 1
    · have E := decide_eq_true h2
      go_enter Try.func26, Try.ntmps26
      go_wp2_with fail
      go_ret
      exact HNO.out _ B0
    have E2 : decide (d < 1) = false := decide_eq_false h2
    by_cases h3 : n < (kl : Int)
    · have E := decide_eq_true h3
      go_enter Try.func26, Try.ntmps26
      go_wp2_with fail
      go_ret
      exact HNO.out _ B0
    have E3 : decide (n < (kl : Int)) = false := decide_eq_false h3
    by_cases h4 : 100 < ln
    · have E : decide ((100 : Int) < (ln : Int)) = true := decide_eq_true (by omega)
      have E' : decide (100 < ln) = true := decide_eq_true h4
      go_enter Try.func26, Try.ntmps26
      go_wp2_with fail
      go_ret
      exact HNO.out _ B0
    have E4 : decide ((100 : Int) < (ln : Int)) = false := decide_eq_false (by omega)
    have E4' : decide (100 < ln) = false := decide_eq_false h4
    go_enter Try.func26, Try.ntmps26
    go_wp2_with fail
    clear E1 E2 E3 E4 E4'
    go_loopw [1, 7] (fun mv iv wr => ∃ (m : Int) (j : Nat), -1 ≤ m ∧ m ≤ 1000 ∧ Hid (0 ≤ m → ∀ i (h : i < ks.length), i < j → fewX f ks[i]) ∧ j ≤ kl ∧ mv = .int .i64 m ∧ iv = .int .i64 j ∧
      KB wr w.heap.size 24 #[.int .i64 k, .int .i64 dy, .string s, .slice A3 kl cap3] ∧ Below w.heap.size w wr) (fun mv iv _ => kl - (intOf iv).toNat)
    case atStart => exact ⟨n - 1, 0, by omega, by omega, fun _ i _ h => absurd h (Nat.not_lt_zero _), by omega, rfl, rfl, kb, B0⟩
    case round =>
      obtain ⟨m, j, hmm, hmk, hfw, hj, rfl, rfl, K, B⟩ := hrel
      have q3 : wr.cell? ⟨w.heap.size, 3, none⟩ = some (.slice A3 kl cap3) := K.cell 3
      by_cases hlt : j < kl
      · have hltI : (j : Int) < (kl : Int) := by omega
        by_cases hm0 : 0 ≤ m
        · have hjk : j < ks.length := by rw [← HKL.out]; exact hlt
          obtain ⟨b, o, e0, e1, e2, e3, rfl, _, k0, k1, k2, k3, hv⟩ := kid_x hks HKL.out.symm B.size (fun b sb hb => B.block b hb) j hjk
          have hc := ih ks[j] (.agg #[e0, e1, e2, e3]) m (d - 1) wr hmm hmk (by omega) (by omega) ⟨e0, e1, e2, e3, rfl, hv⟩
          clear hv
          go_wp2_with fail
          refine hc.mono ?_
          rintro e w5 ⟨m5, rfl, h5, h5k, hf5, b5⟩
          have HF5 := Lib.hid hf5
          have HW : Hid (0 ≤ m5 → ∀ i (h : i < ks.length), i < j + 1 → fewX f ks[i]) := by
            intro h0 i hi hij
            by_cases hij' : i < j
            · exact hfw.out hm0 i hi hij'
            · obtain rfl : i = j := by omega
              exact HF5.out h0
          clear hf5 HF5 hfw
          have K5 := K.below b5 K.lt
          have B5 := B.trans (b5.mono B.size)
          clear hc hjk
          go_wp2_with fail
          go_roundw
          case rel => exact ⟨m5, j + 1, h5, h5k, HW, by omega, rfl, by go_num, K5, B5⟩
          case measure => simp [intOf]; omega
        · go_wp2_with fail
          go_ret
          exact ⟨m, rfl, hmm, hmk, fun h => by omega, B⟩
      · go_wp2_with fail
        go_ret
        exact ⟨m, rfl, hmm, hmk, fun h => HFew.out (by rw [← HKL.out]; omega) (by omega) fun u hu => by
          obtain ⟨i, hi, e⟩ := List.mem_iff_getElem.1 hu
          rw [← e]
          exact hfw.out h i hi (by rw [← HKL.out] at hi; omega), B⟩

/-- What Small lets pass. -/
def SmallOk (f : Nat) (l : List (Rl f)) : Prop := l.length ≤ 20 ∧ ∀ r ∈ l, r.cls.length ≤ 100 ∧ fewX f r.when_
def SmallAs (f : Nat) (l : List (Rl f)) (w : World) (e : Ending) (w' : World) : Prop := ∃ b : Bool, e = .returned (.bool b) ∧ (b = true → SmallOk f l) ∧ Below w.heap.size w w'

set_option maxHeartbeats 4000000 in
/-- Small. -/
theorem rsmall_any (S : Nat → Prop) (f : Nat) (l : List (Rl f)) (v : Value) (w : World) (hv : RS w S f v l) :
    Calls Try.prog 11 #[v] w (SmallAs f l w) := by
  obtain ⟨A, cp, rfl, hlc, hcm⟩ := hv.form
  have hl63 : l.length ≤ 9223372036854775807 := by unfold maxLen at hcm; omega
  obtain ⟨D, hD⟩ : ∃ D, D = SmallAs f l w := ⟨_, rfl⟩
  rw [← hD]
  have HD : Hid (∀ (b : Bool) w', (b = true → SmallOk f l) → Below w.heap.size w w' → D (.returned (.bool b)) w') := fun b w' hb h => by rw [hD]; exact ⟨b, rfl, hb, h⟩
  clear hD
  obtain ⟨ll, hll⟩ : ∃ ll, ll = l.length := ⟨_, rfl⟩
  rw [← hll] at hlc hl63 hv ⊢
  have HLL := Lib.hid hll
  clear hll
  go_enter Try.func11, Try.ntmps11
  go_wp2_with fail
  go_loopw [3] (fun iv wr => ∃ j : Nat, j ≤ ll ∧ j ≤ 40 ∧ iv = .int .i64 (j : Int) ∧ Hid (∀ i (h : i < l.length), i < j → l[i].cls.length ≤ 100 ∧ fewX f l[i].when_) ∧ Below w.heap.size w wr) (fun iv _ => ll - (intOf iv).toNat)
  case atStart => exact ⟨0, by omega, by omega, rfl, fun i _ h => absurd h (Nat.not_lt_zero _), Below.refl _ _⟩
  case round =>
    obtain ⟨j, hj, hj40, rfl, HN, B⟩ := hrel
    by_cases hlt : j < ll
    · have hltI : (j : Int) < (ll : Int) := by omega
      by_cases h40 : j < 40
      · have h40I : (j : Int) < 40 := by omega
        have hjk : j < l.length := by rw [← HLL.out]; exact hlt
        obtain ⟨b, o, e0, e1, e2, e3, e4, e5, rfl, _, k0, k1, k2, k3, k4, k5, rfl, r1, hx, rfl, _⟩ := rule_at hv HLL.out.symm B.size (fun b sb hb => B.block b hb) j hjk
        have hc := small_few S f l[j].when_ (.agg #[e1, e2, e3, e4]) 60 30 wr (by omega) (by omega) (by omega) (by omega) ⟨e1, e2, e3, e4, rfl, hx⟩
        have HS : Hid (l[j].cls.length ≤ 100 → fewX f l[j].when_ → ∀ i (h : i < l.length), i < j + 1 → l[i].cls.length ≤ 100 ∧ fewX f l[i].when_) := fun h1 h2 i hi hij => by
          by_cases hij' : i < j
          · exact HN.out i hi hij'
          · obtain rfl : i = j := by omega
            exact ⟨h1, h2⟩
        have hsz : ((⟨l[j].cls.toArray⟩ : ByteArray).size : Int) = (l[j].cls.length : Int) := rfl
        have hml : l[j].cls.length ≤ 9223372036854775807 := by unfold maxLen at r1; omega
        unfold strV at k0
        clear hx HN
        generalize fewX f l[j].when_ = FW at *
        generalize l[j].act = ac at *
        obtain ⟨s, hs⟩ : ∃ s : ByteArray, s = ⟨l[j].cls.toArray⟩ := ⟨_, rfl⟩
        rw [← hs] at k0 hsz
        clear hs
        generalize l[j].cls.length = cl at *
        by_cases h4 : 100 < cl
        · have E : decide ((100 : Int) < (cl : Int)) = true := decide_eq_true (by omega)
          have E' : decide (100 < cl) = true := decide_eq_true h4
          have HF := Lib.hid (HD.out false wr (fun e => by cases e) B)
          clear h4
          go_wp2_with fail
          exact HF.out
        have E4 : decide ((100 : Int) < (cl : Int)) = false := decide_eq_false (by omega)
        have E4' : decide (100 < cl) = false := decide_eq_false h4
        go_wp2_with fail
        refine hc.mono ?_
        rintro e w5 ⟨m5, rfl, h5, h5k, hf5, b5⟩
        have B5 := B.trans (b5.mono B.size)
        have HF5 := Lib.hid hf5
        clear hc hf5
        by_cases hm : m5 < 0
        · have E : decide (m5 < 0) = true := decide_eq_true hm
          have HF := Lib.hid (HD.out false w5 (fun e => by cases e) B5)
          go_wp2_with fail
          exact HF.out
        · have E : decide (m5 < 0) = false := decide_eq_false hm
          have HW := Lib.hid (HS.out (by omega) (HF5.out (by omega)))
          clear HF5 HS
          go_wp2_with fail
          go_roundw
          case rel => exact ⟨j + 1, by omega, by omega, by go_num, HW, B5⟩
          case measure => simp [intOf]; omega
      · have h40I : ¬ (j : Int) < 40 := by omega
        have h20 : ¬ (ll : Int) ≤ 20 := by omega
        have h20' : ¬ ll ≤ 20 := by omega
        have HF := Lib.hid (HD.out false wr (fun e => by cases e) B)
        go_wp2_with fail
        exact HF.out
    · have HW : Hid (ll ≤ 20 → SmallOk f l) := fun h => ⟨by rw [← HLL.out]; exact h, fun r hr => by
        obtain ⟨i, hi, e⟩ := List.mem_iff_getElem.1 hr
        rw [← e]
        exact HN.out i hi (by rw [← HLL.out] at hi; omega)⟩
      clear HN
      by_cases h20 : ll ≤ 20
      · have h20I : (ll : Int) ≤ 20 := by omega
        have HF := Lib.hid (HD.out true wr (fun _ => HW.out h20) B)
        go_wp2_with fail
        exact HF.out
      · have h20I : ¬ (ll : Int) ≤ 20 := by omega
        have HF := Lib.hid (HD.out false wr (fun e => by cases e) B)
        go_wp2_with fail
        exact HF.out
end Go.Proofs.Ytommcdgognlfcaa
