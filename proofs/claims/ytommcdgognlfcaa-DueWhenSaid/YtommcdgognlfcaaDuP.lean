/-
  The program's place (layer 19), slices.IndexFunc at milestones; after; over the loaded program: each one's contract. No condition but what each theorem names.
-/
import Derived.Test.YtommcdgognlfcaaDuY
import Derived.Test.YtommcdgognlfcaaDuN
import Derived.Test.YtommcdgognlfcaaRuG
import Derived.Test.YtommcdgognlfcaaSpA
import Derived.Laws.EntriesVeiled
import Derived.BigQuiet
import Derived.Deep.QuietTactic
namespace Go.Proofs.Ytommcdgognlfcaa
open Go.RowKit
set_option maxRecDepth 100000
set_option linter.unusedVariables false

/-- A milestone of a list, where memory stands now. -/
theorem mile_b {w wr : World} {S : Nat → Prop} {A : Option Addr} {c n : Nat} {l : List Ml} (h : ML w S (.slice A n c) l) (hn : l.length = n) (hb : Below w.heap.size w wr) (j : Nat) (hj : j < l.length) :
    ∃ b o, A = some ⟨b, o, none⟩ ∧ b < w.heap.size ∧ wr.cell? ⟨b, o + j * 2, none⟩ = some (strV l[j].1) ∧ wr.cell? ⟨b, o + j * 2 + 1, none⟩ = some (.int .i64 l[j].2) ∧ I64 l[j].2 ∧ l[j].1.length ≤ maxLen :=
  kid_m h hn hb.size (fun b _ hbl => hb.block b hbl) j hj

/-- The closure that asks for a name. -/
theorem placem1_any (cl : List UInt8) (gc : Nat) (m : Ml) (w : World) (hc : KB w gc 9 #[strV cl]) :
    Calls Try.prog 37 #[.agg #[strV m.1, .int .i64 m.2], .pointer (some ⟨gc, 0, none⟩)] w fun e w' => e = .returned (.bool (decide (m.1 = cl))) ∧ Below w.heap.size w w' := by
  have hgl := hc.lt
  have q0 : w.cell? ⟨gc, 0, none⟩ = some (strV cl) := hc.cell 0
  unfold strV at *
  obtain ⟨s, hs⟩ : ∃ s : ByteArray, s = ⟨m.1.toArray⟩ := ⟨_, rfl⟩
  obtain ⟨s', hs'⟩ : ∃ s : ByteArray, s = ⟨cl.toArray⟩ := ⟨_, rfl⟩
  have gq := eq_txt s s' _ _ hs hs'
  rw [← hs'] at q0
  rw [← hs]
  clear hs hs' hc
  generalize m.2 = t at *
  have B0 := (Below.refl w.heap.size w).alloc (Nat.le_refl _) (.cells #[.string s, .int .i64 t] 43)
  generalize decide (m.1 = cl) = b at *
  go_enter Try.func37, Try.ntmps37
  go_wp2_with fail
  go_ret
  exact ⟨rfl, B0⟩

set_option maxHeartbeats 4000000 in
/-- slices.IndexFunc of milestones, by a name. -/
theorem indexm_any (S : Nat → Prop) (l : List Ml) (cl : List UInt8) (gc : Nat) (v : Value) (w : World) (hc : KB w gc 9 #[strV cl]) (hv : ML w S v l) :
    Calls Try.prog 36 #[v, .func (.func 37) #[] #[.pointer (some ⟨gc, 0, none⟩)]] w fun e w' => e = .returned (.int .i64 (placeM l cl)) ∧ Below w.heap.size w w' := by
  obtain ⟨A3, cap3, rfl, hl3, hm3⟩ := hv.form
  have hlen : l.length ≤ 9223372036854775807 := by unfold maxLen at hm3; omega
  have hcl := hc.lt
  have HN : Hid ((∀ (i : Nat) (hi : i < l.length), l[i].1 ≠ cl) → placeM l cl = -1) := fun h => placeM_none h
  have HY : Hid (∀ (j : Nat) (hj : j < l.length), (∀ (i : Nat) (hi : i < l.length), i < j → l[i].1 ≠ cl) → l[j].1 = cl → placeM l cl = (j : Int)) := fun j hj h1 h2 => placeM_some hj h1 h2
  have HCK : Hid (∀ W, Below w.heap.size w W → KB W gc 9 #[strV cl]) := fun W h => hc.below h hcl
  clear hc
  generalize placeM l cl = r at *
  go_enter Try.func36, Try.ntmps36
  go_wp2_with fail
  go_loopw [8] (fun iv wr => ∃ j : Nat, j ≤ l.length ∧ iv = .int .i64 j ∧ Hid (∀ (i : Nat) (hi : i < l.length), i < j → l[i].1 ≠ cl) ∧ Below w.heap.size w wr) (fun iv _ => l.length - (intOf iv).toNat)
  case atStart => exact ⟨0, by omega, rfl, fun i _ h => absurd h (Nat.not_lt_zero _), Below.refl _ _⟩
  case round =>
    obtain ⟨j, hj, rfl, hall, B⟩ := hrel
    by_cases hlt : j < l.length
    · have hltI : (j : Int) < (l.length : Int) := by omega
      obtain ⟨b, o, rfl, hb, k0, k1, _, _⟩ := mile_b hv rfl B j hlt
      have HY2 := Lib.hid (fun h => HY.out j hlt hall.out h)
      have HN2 : Hid (l[j].1 ≠ cl → ∀ (i : Nat) (hi : i < l.length), i < j + 1 → l[i].1 ≠ cl) := fun h i hi hij => by
        rcases Nat.lt_or_ge i j with h' | h'
        · exact hall.out i hi h'
        · obtain rfl : i = j := by omega
          exact h
      have hc := placem1_any cl gc l[j] wr (HCK.out wr B)
      obtain ⟨eb, heb⟩ : ∃ eb, eb = decide (l[j].1 = cl) := ⟨_, rfl⟩
      rw [← heb] at hc
      have HEB := Lib.hid heb
      unfold strV at *
      clear hv HN hall heb
      generalize (⟨l[j].1.toArray⟩ : ByteArray) = s1 at *
      generalize l[j].2 = ac at *
      go_wp2_with fail
      refine hc.mono ?_
      rintro e w5 ⟨rfl, b5⟩
      have B5 := B.trans (b5.mono B.size)
      clear hc b5 B k0 k1
      cases eb with
      | false =>
        have hn := Lib.hid (HN2.out (of_decide_eq_false HEB.out.symm))
        clear HEB HN2 HY2
        go_wp2_with fail
        go_roundw
        case rel => exact ⟨j + 1, by omega, by go_num, hn, B5⟩
        case measure => simp [intOf]; omega
      | true =>
        have hr := HY2.out (of_decide_eq_true HEB.out.symm)
        clear HEB HN2 HY2 HY
        subst hr
        go_wp2_with fail
        go_ret
        exact ⟨rfl, B5⟩
    · obtain rfl : r = -1 := HN.out fun i hi => hall.out i hi (by omega)
      clear HN HY hall
      go_wp2_with fail
      go_ret
      exact ⟨rfl, B⟩

/-- place. -/
theorem placem_any (S : Nat → Prop) (l : List Ml) (cl : List UInt8) (v : Value) (w : World) (hv : ML w S v l) :
    Calls Try.prog 30 #[v, strV cl] w fun e w' => e = .returned (.int .i64 (placeM l cl)) ∧ Below w.heap.size w w' := by
  have B0 := (Below.refl w.heap.size w).alloc (Nat.le_refl _) (.cells #[strV cl] 9)
  have hc := indexm_any S l cl w.heap.size v (w.alloc (.cells #[strV cl] 9)) (KB.new _ _ _) (hv.below' B0)
  obtain ⟨A3, cap3, rfl, hl3, hm3⟩ := hv.form
  unfold strV at *
  clear hv
  generalize (⟨cl.toArray⟩ : ByteArray) = s at *
  generalize placeM l cl = r at *
  go_enter Try.func30, Try.ntmps30
  go_wp2_with fail
  refine hc.mono ?_
  rintro e w5 ⟨rfl, b5⟩
  have B5 := B0.trans (b5.mono B0.size)
  clear hc
  go_wp2_with fail
  go_ret
  exact ⟨rfl, B5⟩

set_option maxHeartbeats 2000000 in
/-- after. -/
theorem after19_any (S Sm : Nat → Prop) (f : Nat) (x : Nx (Ex f)) (ms : List Ml) (v vm : Value) (w : World) (hv : EV w S (f + 1) v x) (hm : ML w Sm vm ms) :
    Calls Try.prog 21 #[v, vm] w fun e w' => e = .returned (.tuple #[.int .i64 (mileD ms x.mile x.days).1, .bool (mileD ms x.mile x.days).2]) ∧ Below w.heap.size w w' := by
  obtain ⟨c0, c1, c2, c3, rfl, rfl, hk, rfl, hdy, rfl, hml, hks⟩ := hv
  obtain ⟨A3, cap3, e3, hl3, hm3⟩ := hks.form
  subst e3
  obtain ⟨Am, capm, rfl, hlm, hmm⟩ := hm.form
  have B0 := (Below.refl w.heap.size w).alloc (Nat.le_refl _) (.cells #[.int .i64 x.op, .int .i64 x.days, strV x.mile, .slice A3 x.kids.length cap3] 24)
  have kb := KB.new w 24 #[.int .i64 x.op, .int .i64 x.days, strV x.mile, .slice A3 x.kids.length cap3]
  have hp := placem_any Sm ms x.mile _ _ (hm.below' B0)
  have HNO : Hid (placeM ms x.mile < 0 → mileD ms x.mile x.days = (0, false)) := fun h => mile_place_none h
  have HYES : Hid (¬ placeM ms x.mile < 0 → ∃ (j : Nat) (hj : j < ms.length), placeM ms x.mile = (j : Int) ∧ mileD ms x.mile x.days = afterD ms[j].2 x.days) := fun h => mile_place_at h
  generalize mileD ms x.mile x.days = r at *
  generalize x.op = k at *
  generalize hd : x.days = dy at *
  clear hd
  unfold strV at *
  generalize (⟨x.mile.toArray⟩ : ByteArray) = s at *
  generalize placeM ms x.mile = pl at *
  generalize x.kids.length = kl at *
  clear hks hml
  go_enter Try.func21, Try.ntmps21
  go_wp2_with fail
  refine hp.mono ?_
  rintro e w5 ⟨rfl, b5⟩
  have B5 := B0.trans (b5.mono B0.size)
  have K5 := kb.below b5 kb.lt
  clear hp b5
  by_cases hn : pl < 0
  · obtain rfl := HNO.out hn
    clear HNO HYES
    go_wp2_with fail
    go_ret2
    exact ⟨rfl, B5⟩
  · obtain ⟨j, hj, rfl, hr⟩ := HYES.out (by omega)
    obtain ⟨b, o, rfl, hb, k0, k1, hi, _⟩ := mile_b hm rfl B5 j hj
    have ha : ∀ W, Calls Try.prog 31 #[.int .i64 ms[j].2, .int .i64 dy] W fun e w' => e = .returned (.tuple #[.int .i64 (afterD ms[j].2 dy).1, .bool (afterD ms[j].2 dy).2]) ∧ w' = W := fun W => (after15_any ms[j].2 dy hi hdy W).mono fun e w' h => ⟨h.1, h.2.symm⟩
    have q1 : w5.cell? ⟨w.heap.size, 1, none⟩ = some (.int .i64 dy) := K5.cell 1
    have hjI : (j : Int) < (ms.length : Int) := by omega
    clear HNO HYES hm hn
    rw [← hr] at ha
    clear hr
    generalize ms[j].2 = t at *
    go_wp2_with fail
    go_quiet (first | (go_at_call 31; exact Calls.quiet_of_same (ha _)) | fail)
    have B6 := Below_drawn B5 nq
    go_wp2_with fail
    go_ret2
    exact ⟨rfl, B6⟩
end Go.Proofs.Ytommcdgognlfcaa
