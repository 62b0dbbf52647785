/-
  RefB: The document's own Reader of layer 1: Value, and the methods Take, Num, Count, Text, Left: each one's contract over the loaded program. No condition but the worlds' shapes that each contract names.
  Res: What a function hands back whose results are a variable of several cells and a value, over any program. General. No condition.
  TxL: Plain: what a reader that reads a text leaves, and hands back, is no longer than what was there. No program. No condition. (Split off InF in round 22.)
  EvE: The document's Get (layer 23), over the loaded program: its contract. No condition but the size that it names.
  EvK: What the laws of layer 23 ask of the package's own functions (a structure of their contracts, over whatever lies in memory); the law's num and live; events compared. No condition but that structure.
-/
import Derived.Test.YtpeopkjmmmodpaaDoorEy03
import Derived.Test.YtpeopkjmmmodpaaDoorEy00
import Derived.Laws.Rows
import Derived.Test.YtpeopkjmmmodpaaDoorEy02
import Derived.Deep.Cut
import Derived.Deep.CutRange
import Derived.Test.YtpeopkjmmmodpaaDoorEy04
import Derived.Laws.StructEq
set_option linter.unusedVariables false
set_option maxRecDepth 100000
namespace Go.Proofs.YtpeopkjmmmodpaaDoor
section
open Go.RowKit
def RR (w : World) (g : Nat) (S : Nat → Prop) (st : Option (List UInt8)) : Prop :=
  ∃ v l, KB w g 55 #[v, .bool st.isNone] ∧ BS w S v l ∧ ¬ S g ∧ (∀ l', st = some l' → l = l')
theorem RR.below {w w' : World} {g : Nat} {S : Nat → Prop} {st : Option (List UInt8)} (h : RR w g S st) (hb : Below w.heap.size w w') : RR w' g S st := by
  obtain ⟨v, l, h1, h2, h3, h4⟩ := h
  exact ⟨v, l, h1.below hb h1.lt, h2.below' hb, h3, h4⟩
theorem RR.lt {w : World} {g : Nat} {S : Nat → Prop} {st : Option (List UInt8)} (h : RR w g S st) : g < w.heap.size := by
  obtain ⟨v, l, h1, h2, h3, h4⟩ := h
  exact h1.lt
theorem rfail {w : World} {g : Nat} {S : Nat → Prop} {v : Value} {l : List UInt8} {f : Bool} (h1 : KB w g 55 #[v, .bool f]) (h2 : BS w S v l) (h3 : ¬ S g) :
    RR (w.setCell ⟨g, 1, none⟩ (.bool true)) g S none := ⟨v, l, h1.put 1 _, h2.setCell h3 _, h3, fun _ h => by cases h⟩
theorem rtake (n : Int) (g : Nat) (S : Nat → Prop) (st : Option (List UInt8)) (w : World) (h : RR w g S st) (hl : (st.getD []).length ≤ 140737488355328) :
    Calls Tryd.prog 36 #[.pointer (some ⟨g, 0, none⟩), .int .i64 n] w fun e w' => ∃ v, e = .returned v ∧ RR w' g S (passed n st).1 ∧
      BS w' (fun b => w.heap.size ≤ b) v (passed n st).2 ∧ w.grownBy w' (some g) := by
  obtain ⟨v, l, k1, k2, k3, k4⟩ := h
  have hg := k1.lt
  cases st with
  | none =>
    have e0 : passed n none = (none, []) := by unfold passed; split <;> simp
    rw [e0]
    clear e0
    have c1 : w.cell? ⟨g, 1, none⟩ = some (.bool true) := k1.cell 1
    have f1 := k1.free 1
    go_enter Tryd.func36, Tryd.ntmps36
    go_wp2
    go_ret
    exact ⟨_, rfl, rfail k1 k2 k3, BS.nil _ _, grown_set _ _ _ _⟩
  | some l' =>
    obtain rfl := k4 l' rfl
    obtain ⟨A, c, rfl, kl, kc, kn⟩ := k2.form
    have c1 : w.cell? ⟨g, 1, none⟩ = some (.bool false) := k1.cell 1
    have c0 : w.cell? ⟨g, 0, none⟩ = some (.slice A l.length c) := k1.cell 0
    have f1 := k1.free 1
    have f0 := k1.free 0
    have b3 : c ≤ 9223372036854775807 := kc
    by_cases h0 : n < 0
    · have e0 : passed n (some l) = (none, []) := by unfold passed; rw [if_pos (.inl h0)]
      rw [e0]
      clear e0
      go_enter Tryd.func36, Tryd.ntmps36
      go_wp2
      go_ret
      exact ⟨_, rfl, rfail k1 k2 k3, BS.nil _ _, grown_set _ _ _ _⟩
    · by_cases h1 : (l.length : Int) < n
      · have e0 : passed n (some l) = (none, []) := by unfold passed; rw [if_pos (.inr h1)]
        rw [e0]
        clear e0
        have h0' : 0 ≤ n := by omega
        go_enter Tryd.func36, Tryd.ntmps36
        go_wp2
        go_ret
        exact ⟨_, rfl, rfail k1 k2 k3, BS.nil _ _, grown_set _ _ _ _⟩
      · obtain ⟨k, rfl⟩ := Int.eq_ofNat_of_zero_le (show 0 ≤ n by omega)
        have e0 : passed (k : Int) (some l) = (some (l.drop k), l.take k) := by
          unfold passed
          rw [if_neg (by simp; omega)]
          simp
        rw [e0]
        clear e0
        have hkl : k ≤ l.length := by omega
        have b1 : (k : Int) ≤ l.length := by omega
        have b4 : k ≤ c := by omega
        have t1 := k2.take k hkl
        have hll : (l.take k).length = k := by simp; omega
        by_cases hp : 0 < l.length
        · obtain ⟨b, o, rfl, sb, hb, hx⟩ := k2.at_ hp
          have t2 := k2.drop k hkl
          clear hx
          go_enter Tryd.func36, Tryd.ntmps36
          go_wp2_with fail
          refine (copy_any S _ (l.take k) _ t1 (by simp at hl; omega)).mono ?_
          rintro e w1 ⟨v1, rfl, ho1, bl1⟩
          have x1 := own_BS ho1
          obtain ⟨A1, c1', rfl, _⟩ := x1.form
          rw [hll] at x1
          have q1 := k1.below bl1 hg
          have d0 : w1.cell? ⟨g, 0, none⟩ = some (.slice (some ⟨b, o, none⟩) l.length c) := q1.cell 0
          have g0 := q1.free 0
          have t2' := t2.below' bl1
          have gr := grown_of_below bl1 (some g)
          have hgn : ¬ (w.heap.size ≤ g ∧ g < w1.heap.size) := by omega
          clear ho1 c0 c1 f0 f1
          by_cases hck : c = k
          · rw [if_pos hck, hck, Nat.sub_self] at t2'
            go_wp2
            go_ret
            exact ⟨_, rfl, ⟨_, _, q1.put 0 _, t2'.setCell k3 _, k3, fun _ h => by injection h⟩, (x1.setCell hgn _).mono fun _ h => h.1, grown_trans gr (grown_set _ _ _ _)⟩
          · rw [if_neg hck] at t2'
            go_wp2
            go_ret
            exact ⟨_, rfl, ⟨_, _, q1.put 0 _, t2'.setCell k3 _, k3, fun _ h => by injection h⟩, (x1.setCell hgn _).mono fun _ h => h.1, grown_trans gr (grown_set _ _ _ _)⟩
        · have hle : l = [] := List.eq_nil_of_length_eq_zero (by omega)
          subst hle
          have hk0 : k = 0 := by simpa using hkl
          subst hk0
          have e1 : ([] : List UInt8).take 0 = [] := rfl
          have e2 : ([] : List UInt8).drop 0 = [] := rfl
          rw [e1, e2]
          rw [e1] at t1 hll
          clear e1 e2 hll h1 hl
          have hA : ∀ (w1 : World) (A1 : Option Addr), BS w1 S (.slice A 0 c) [] := fun w1 A1 => ⟨A, c, rfl, by simp, kc, kn, fun h => absurd h (by simp)⟩
          cases A with
          | none =>
            obtain rfl := kn rfl
            go_enter Tryd.func36, Tryd.ntmps36
            go_wp2_with fail
            refine (copy_any S _ [] _ t1 (by simp)).mono ?_
            rintro e w1 ⟨v1, rfl, ho1, bl1⟩
            have x1 := own_BS ho1
            obtain ⟨A1, c1', rfl, _⟩ := x1.form
            have q1 := k1.below bl1 hg
            have d0 : w1.cell? ⟨g, 0, none⟩ = some (.slice none 0 0) := q1.cell 0
            have g0 := q1.free 0
            have gr := grown_of_below bl1 (some g)
            have hgn : ¬ (w.heap.size ≤ g ∧ g < w1.heap.size) := by omega
            clear ho1 c0 c1 f0 f1
            go_wp2
            go_ret
            exact ⟨_, rfl, ⟨_, _, q1.put 0 _, hA _ none, k3, fun _ h => by injection h⟩, (x1.setCell hgn _).mono fun _ h => h.1, grown_trans gr (grown_set _ _ _ _)⟩
          | some ad =>
            go_enter Tryd.func36, Tryd.ntmps36
            go_wp2_with fail
            refine (copy_any S _ [] _ t1 (by simp)).mono ?_
            rintro e w1 ⟨v1, rfl, ho1, bl1⟩
            have x1 := own_BS ho1
            obtain ⟨A1, c1', rfl, _⟩ := x1.form
            have q1 := k1.below bl1 hg
            have d0 : w1.cell? ⟨g, 0, none⟩ = some (.slice (some ad) 0 c) := q1.cell 0
            have g0 := q1.free 0
            have gr := grown_of_below bl1 (some g)
            have hgn : ¬ (w.heap.size ≤ g ∧ g < w1.heap.size) := by omega
            clear ho1 c0 c1 f0 f1
            go_wp2
            go_ret
            exact ⟨_, rfl, ⟨_, _, q1.put 0 _, hA _ none, k3, fun _ h => by injection h⟩, (x1.setCell hgn _).mono fun _ h => h.1, grown_trans gr (grown_set _ _ _ _)⟩
theorem rtake_to (n : Int) (g : Nat) (S : Nat → Prop) (st : Option (List UInt8)) (w : World) (st' : Option (List UInt8)) (l : List UInt8) (h : RR w g S st) (hl : (st.getD []).length ≤ 140737488355328) (hp : passed n st = (st', l)) :
    Calls Tryd.prog 36 #[.pointer (some ⟨g, 0, none⟩), .int .i64 n] w fun e w' => ∃ A c, e = .returned (.slice A l.length c) ∧ RR w' g S st' ∧ BS w' (fun b => w.heap.size ≤ b) (.slice A l.length c) l ∧ w.grownBy w' (some g) := by
  refine (rtake n g S st w h hl).mono ?_
  rintro e w' ⟨v, rfl, hr, hb, hg⟩
  rw [hp] at hr hb
  obtain ⟨A, c, rfl, _⟩ := hb.form
  exact ⟨A, c, rfl, hr, hb, hg⟩
theorem u64_sum (a b : Nat) (h : a < 72057594037927936) (hb : b < 256) : IntKind.u64.wrap (IntKind.u64.wrap ((a : Int) * 256) + IntKind.u64.wrap (b : Int)) = ((a * 256 + b : Nat) : Int) := by
  rw [IntWalk.u64_in ((a : Int) * 256) (by omega), IntWalk.u64_in (b : Int) (by omega), IntWalk.u64_in _ (by omega)]
  omega
theorem value_any (S : Nat → Prop) (v : Value) (l : List UInt8) (w : World) (h : BS w S v l) (hl : l.length ≤ 8) :
    Calls Tryd.prog 56 #[v] w fun e w' => e = .returned (.int .u64 (val l : Nat)) ∧ w = w' := by
  obtain ⟨A, c, rfl, _⟩ := h.form
  go_enter Tryd.func56, Tryd.ntmps56
  go_wp2
  go_loop [3, 4] (fun n i => ∃ k : Nat, k ≤ l.length ∧ i = .int .i64 k ∧ n = .int .u64 (val (l.take k) : Nat)) (fun _ i => l.length - (intOf i).toNat)
  case atStart => exact ⟨0, by omega, rfl, rfl⟩
  case round =>
    obtain ⟨k, hk, rfl, rfl⟩ := hrel
    by_cases hlt : k < l.length
    · obtain ⟨b, o, rfl, _, _, hx⟩ := h.at_ (by omega)
      have kc := hx k l[k] (List.getElem?_eq_getElem hlt)
      clear hx h
      go_wp2
      go_round
      case rel =>
        refine ⟨k + 1, by omega, by go_num, ?_⟩
        rw [val_take_succ l k hlt, ← u64_sum _ _ (val_lt_seven _ (by simp; omega)) (l[k]).toNat_lt]
      case measure => simp [intOf]; omega
    · have e : l.take k = l := List.take_of_length_le (by omega)
      rw [e]
      go_wp2
      go_ret
      exact ⟨rfl, rfl⟩
theorem RR.bad {w : World} {g : Nat} {S : Nat → Prop} (h : RR w g S none) : w.cell? ⟨g, 1, none⟩ = some (.bool true) ∧ w.frozen? ⟨g, 1, none⟩ = false := by
  obtain ⟨v, l, h1, _⟩ := h
  exact ⟨h1.cell 1, h1.free 1⟩
theorem RR.good {w : World} {g : Nat} {S : Nat → Prop} {l : List UInt8} (h : RR w g S (some l)) : w.cell? ⟨g, 1, none⟩ = some (.bool false) ∧ w.frozen? ⟨g, 1, none⟩ = false := by
  obtain ⟨v, l, h1, _⟩ := h
  exact ⟨h1.cell 1, h1.free 1⟩
theorem RR.fails {w : World} {g : Nat} {S : Nat → Prop} {st : Option (List UInt8)} (h : RR w g S st) : RR (w.setCell ⟨g, 1, none⟩ (.bool true)) g S none := by
  obtain ⟨v, l, h1, h2, h3, _⟩ := h
  exact rfail h1 h2 h3
theorem rnum_rd (g : Nat) (S : Nat → Prop) (st : Option (List UInt8)) (w : World) (h : RR w g S st) (hl : (st.getD []).length ≤ 140737488355328) :
    Calls Tryd.prog 49 #[.pointer (some ⟨g, 0, none⟩)] w fun e w' => e = .returned (.int .u64 (numOf st).2) ∧ RR w' g S (numOf st).1 ∧ w.grownBy w' (some g) := by
  by_cases hst : (st.getD []) = []
  · have e0 : numOf st = (none, 0) := by
      rcases st with _ | l
      · rfl
      · simp at hst; subst hst; rfl
    have e1 : passed 1 st = (none, []) := by simp [passed, hst]
    rw [e0]
    have E1 := Lib.hid e1
    clear e0 e1 hst
    go_enter Tryd.func49, Tryd.ntmps49
    go_wp2_with fail
    refine (rtake_to 1 g S st _ none [] h hl E1.out).mono ?_
    rintro e w1 ⟨A1, c1, rfl, hr1, hb1, hg1⟩
    obtain ⟨k1, f1⟩ := hr1.bad
    go_wp2_with fail
    go_ret
    exact ⟨rfl, hr1.fails, grown_trans hg1 (grown_set _ _ _ _)⟩
  · obtain ⟨x, t, rfl⟩ : ∃ x t, st = some (x :: t) := by
      rcases st with _ | l
      · simp at hst
      · rcases l with _ | ⟨x, t⟩
        · simp at hst
        · exact ⟨x, t, rfl⟩
    clear hst
    have e1 : passed 1 (some (x :: t)) = (some t, [x]) := by
      unfold passed
      rw [if_neg (by simp; omega)]
      rfl
    have E1 := Lib.hid e1
    clear e1
    have hx := x.toNat_lt
    have hl' : ((some t : Option (List UInt8)).getD []).length ≤ 140737488355328 := by simp at hl ⊢; omega
    by_cases h8 : 8 < x.toNat
    · have e0 : numOf (some (x :: t)) = (none, 0) := by simp [numOf, h8]
      rw [e0]
      clear e0
      go_enter Tryd.func49, Tryd.ntmps49
      go_wp2_with fail
      refine (rtake_to 1 g S _ _ _ [x] h hl E1.out).mono ?_
      rintro e w1 ⟨A1, c1, rfl, hr1, hb1, hg1⟩
      obtain ⟨k1, f1⟩ := hr1.good
      obtain ⟨b1, o1, rfl, _, _, hc1⟩ := hb1.at_ (by simp)
      have k2 : w1.cell? ⟨b1, o1, none⟩ = some (.int .u8 (x.toNat : Int)) := hc1 0 x rfl
      clear hc1
      go_wp2_with fail
      go_ret
      exact ⟨rfl, hr1.fails, grown_trans hg1 (grown_set _ _ _ _)⟩
    · by_cases ht : t.length < x.toNat
      · have e0 : numOf (some (x :: t)) = (none, 0) := by simp [numOf, ht]
        have e2 : passed (x.toNat : Int) (some t) = (none, []) := by simp [passed, ht]
        rw [e0]
        have E2 := Lib.hid e2
        clear e0 e2
        go_enter Tryd.func49, Tryd.ntmps49
        go_wp2_with fail
        refine (rtake_to 1 g S _ _ _ [x] h hl E1.out).mono ?_
        rintro e w1 ⟨A1, c1, rfl, hr1, hb1, hg1⟩
        obtain ⟨k1, f1⟩ := hr1.good
        obtain ⟨b1, o1, rfl, _, _, hc1⟩ := hb1.at_ (by simp)
        have k2 : w1.cell? ⟨b1, o1, none⟩ = some (.int .u8 (x.toNat : Int)) := hc1 0 x rfl
        clear hc1
        go_wp2_with fail
        refine (rtake_to _ g S _ _ _ [] hr1 hl' E2.out).mono ?_
        rintro e w2 ⟨A2, c2, rfl, hr2, hb2, hg2⟩
        obtain ⟨k3, f3⟩ := hr2.bad
        clear k1 f1 k2
        go_wp2_with fail
        go_ret
        exact ⟨rfl, hr2.fails, grown_trans hg1 (grown_trans hg2 (grown_set _ _ _ _))⟩
      · have e2 : passed (x.toNat : Int) (some t) = (some (t.drop x.toNat), t.take x.toNat) := by simp [passed, ht]
        have E2 := Lib.hid e2
        have hdl : (t.take x.toNat).length ≤ 8 := by simp; omega
        have e0 : numOf (some (x :: t)) = (if (t.take x.toNat).head? = some 0 then (none, 0) else (some (t.drop x.toNat), val (t.take x.toNat))) := by simp only [numOf, h8, ht, false_or]
        have E0 := Lib.hid e0
        clear e2 e0 ht
        generalize t.take x.toNat = ds at *
        rcases ds with _ | ⟨d, ds⟩
        · rw [E0.out]
          simp only [List.head?_nil, reduceCtorEq, if_false]
          go_enter Tryd.func49, Tryd.ntmps49
          go_wp2_with fail
          refine (rtake_to 1 g S _ _ _ [x] h hl E1.out).mono ?_
          rintro e w1 ⟨A1, c1, rfl, hr1, hb1, hg1⟩
          obtain ⟨k1, f1⟩ := hr1.good
          obtain ⟨b1, o1, rfl, _, _, hc1⟩ := hb1.at_ (by simp)
          have k2 : w1.cell? ⟨b1, o1, none⟩ = some (.int .u8 (x.toNat : Int)) := hc1 0 x rfl
          clear hc1
          go_wp2_with fail
          refine (rtake_to _ g S _ _ _ [] hr1 hl' E2.out).mono ?_
          rintro e w2 ⟨A2, c2, rfl, hr2, hb2, hg2⟩
          obtain ⟨k3, f3⟩ := hr2.good
          clear k1 f1 k2
          go_wp2_with fail
          refine (value_any _ _ [] _ hb2 (by simp)).mono ?_
          rintro e w' ⟨rfl, rfl⟩
          go_wp2
          go_ret
          exact ⟨rfl, hr2, grown_trans hg1 hg2⟩
        · have hd0 := d.toNat_lt
          by_cases hd : d = 0
          · subst hd
            rw [E0.out]
            simp only [List.head?_cons, if_true]
            go_enter Tryd.func49, Tryd.ntmps49
            go_wp2_with fail
            refine (rtake_to 1 g S _ _ _ [x] h hl E1.out).mono ?_
            rintro e w1 ⟨A1, c1, rfl, hr1, hb1, hg1⟩
            obtain ⟨k1, f1⟩ := hr1.good
            obtain ⟨b1, o1, rfl, _, _, hc1⟩ := hb1.at_ (by simp)
            have k2 : w1.cell? ⟨b1, o1, none⟩ = some (.int .u8 (x.toNat : Int)) := hc1 0 x rfl
            clear hc1
            go_wp2_with fail
            refine (rtake_to _ g S _ _ _ (0 :: ds) hr1 hl' E2.out).mono ?_
            rintro e w2 ⟨A2, c2, rfl, hr2, hb2, hg2⟩
            obtain ⟨k3, f3⟩ := hr2.good
            obtain ⟨b2, o2, rfl, _, _, hc2⟩ := hb2.at_ (by simp)
            have k4 : w2.cell? ⟨b2, o2, none⟩ = some (.int .u8 0) := hc2 0 0 rfl
            clear hc2 k1 f1 k2
            go_wp2_with fail
            go_ret
            exact ⟨rfl, hr2.fails, grown_trans hg1 (grown_trans hg2 (grown_set _ _ _ _))⟩
          · rw [E0.out]
            have hd' : ¬ d.toNat = 0 := fun e => hd (UInt8.toNat_inj.1 (by simpa using e))
            simp only [List.head?_cons, Option.some.injEq, hd, if_false]
            go_enter Tryd.func49, Tryd.ntmps49
            go_wp2_with fail
            refine (rtake_to 1 g S _ _ _ [x] h hl E1.out).mono ?_
            rintro e w1 ⟨A1, c1, rfl, hr1, hb1, hg1⟩
            obtain ⟨k1, f1⟩ := hr1.good
            obtain ⟨b1, o1, rfl, _, _, hc1⟩ := hb1.at_ (by simp)
            have k2 : w1.cell? ⟨b1, o1, none⟩ = some (.int .u8 (x.toNat : Int)) := hc1 0 x rfl
            clear hc1
            go_wp2_with fail
            refine (rtake_to _ g S _ _ _ (d :: ds) hr1 hl' E2.out).mono ?_
            rintro e w2 ⟨A2, c2, rfl, hr2, hb2, hg2⟩
            obtain ⟨k3, f3⟩ := hr2.good
            have hb2' := hb2
            obtain ⟨b2, o2, rfl, _, _, hc2⟩ := hb2.at_ (by simp)
            have k4 : w2.cell? ⟨b2, o2, none⟩ = some (.int .u8 (d.toNat : Int)) := hc2 0 d rfl
            clear hc2 k1 f1 k2
            go_wp2_with fail
            refine (value_any _ _ (d :: ds) _ hb2' hdl).mono ?_
            rintro e w' ⟨rfl, rfl⟩
            go_wp2
            go_ret
            exact ⟨rfl, hr2, grown_trans hg1 hg2⟩
theorem rcount (most : Int) (h1 : most ≤ 9223372036854775807) (g : Nat) (S : Nat → Prop) (st : Option (List UInt8)) (w : World) (h : RR w g S st) (hl : (st.getD []).length ≤ 140737488355328) :
    Calls Tryd.prog 37 #[.pointer (some ⟨g, 0, none⟩), .int .i64 most] w fun e w' => e = .returned (.int .i64 (cntOf most st).2) ∧ RR w' g S (cntOf most st).1 ∧ w.grownBy w' (some g) := by
  unfold cntOf
  obtain ⟨n, hn⟩ : ∃ n, n = (numOf st).2 := ⟨_, rfl⟩
  obtain ⟨st', hst'⟩ : ∃ s, s = (numOf st).1 := ⟨_, rfl⟩
  have hp : numOf st = (st', n) := by rw [hn, hst']
  have hc := rnum_rd g S st w h hl
  rw [← hn, ← hst'] at hc
  rw [hp]
  simp only
  have HC := Lib.hid hc
  clear hc hn hst' hp hl
  by_cases h0 : most < 0
  · rw [if_pos (.inl h0)]
    go_enter Tryd.func37, Tryd.ntmps37
    go_wp2_with fail
    refine (HC.out).mono ?_
    rintro e w1 ⟨rfl, hr, hg⟩
    obtain ⟨v, l, q1, _⟩ := id hr
    have k1 : w1.cell? ⟨g, 1, none⟩ = some (.bool st'.isNone) := q1.cell 1
    have f1 := q1.free 1
    go_wp2_with fail
    go_ret
    exact ⟨rfl, hr.fails, grown_trans hg (grown_set _ _ _ _)⟩
  · by_cases hm : most < n
    · rw [if_pos (.inr hm)]
      have b0 : 0 ≤ most := by omega
      go_enter Tryd.func37, Tryd.ntmps37
      go_wp2_with fail
      refine (HC.out).mono ?_
      rintro e w1 ⟨rfl, hr, hg⟩
      obtain ⟨v, l, q1, _⟩ := id hr
      have k1 : w1.cell? ⟨g, 1, none⟩ = some (.bool st'.isNone) := q1.cell 1
      have f1 := q1.free 1
      go_wp2_with fail
      go_ret
      exact ⟨rfl, hr.fails, grown_trans hg (grown_set _ _ _ _)⟩
    · rw [if_neg (by omega)]
      have b0 : 0 ≤ most := by omega
      have b1 : (n : Int) ≤ most := by omega
      go_enter Tryd.func37, Tryd.ntmps37
      go_wp2_with fail
      refine (HC.out).mono ?_
      rintro e w1 ⟨rfl, hr, hg⟩
      go_wp2_with fail
      go_ret
      exact ⟨rfl, hr, hg⟩
theorem rtext (most : Int) (h1 : most ≤ 9223372036854775807) (g : Nat) (S : Nat → Prop) (st : Option (List UInt8)) (w : World) (h : RR w g S st) (hl : (st.getD []).length ≤ 140737488355328) :
    Calls Tryd.prog 38 #[.pointer (some ⟨g, 0, none⟩), .int .i64 most] w fun e w' => ∃ v, e = .returned v ∧ RR w' g S (txtOf most st).1 ∧
      BS w' (fun b => w.heap.size ≤ b) v (txtOf most st).2 ∧ w.grownBy w' (some g) := by
  have hc := rcount most h1 g S st w h hl
  have hcl := cntOf_len most st
  unfold txtOf
  generalize cntOf most st = r at hc hcl ⊢
  obtain ⟨st', n⟩ := r
  simp only at hc hcl ⊢
  have HC := Lib.hid hc
  have hl' : (st'.getD []).length ≤ 140737488355328 := by omega
  clear hc hcl hl
  go_enter Tryd.func38, Tryd.ntmps38
  go_wp2_with fail
  refine (HC.out).mono ?_
  rintro e w1 ⟨rfl, hr, hg⟩
  go_wp2_with fail
  refine (rtake _ _ _ _ _ hr hl').mono ?_
  rintro e w2 ⟨v, rfl, hr2, hb2, hg2⟩
  have hs := hg.size
  go_wp2_with fail
  go_ret
  exact ⟨_, rfl, hr2, hb2.mono fun b hb => Nat.le_trans hs hb, grown_trans hg hg2⟩
end
section
open Go.RowKit
theorem results_cell_tmp {P : Program} {fn : Func} {p u : Tmp} {ty : TypeId} (h : fn.results = #[.cell p ty, .tmp u]) (tmps : Array Value) (w : World) (g : Nat) (t : TypeId) (cs : Array Value) (fr : Nat × Nat) (d : TypeDesc)
    (hp : tmps.getD p undef = .pointer (some ⟨g, 0, none⟩)) (hg : w.heap[g]? = some (.cells cs t fr))
    (hu : P.underlying ty = some d) (hd : (match d with | .struct _ | .array _ _ => true | _ => false) = true) (hi : (P.info? ty).map (·.size) = some cs.size) :
    (results fn tmps).run P w = .ok (.tuple #[.agg cs, tmps.getD u undef]) w := by
  have hp' : tmps[p]?.getD undef = .pointer (some ⟨g, 0, none⟩) := by simpa using hp
  simp [results, h, hp', asAddr, run_loadVar_row w g t ty cs fr d hg hu hd hi]
theorem KB.put3 {w : World} {g : Nat} {t : TypeId} {a b c : Value} (h : KB w g t #[a, b, c]) (x y z : Value) : KB (((w.setCell ⟨g, 0, none⟩ x).setCell ⟨g, 1, none⟩ y).setCell ⟨g, 2, none⟩ z) g t #[x, y, z] :=
  ((h.put 0 x).put 1 y).put 2 z
theorem res_three (w : World) (g : Nat) (x y z : Value) : w.grownBy (((w.setCell ⟨g, 0, none⟩ x).setCell ⟨g, 1, none⟩ y).setCell ⟨g, 2, none⟩ z) (some g) :=
  grown_trans (grown_trans (grown_set _ _ _ _) (grown_set _ _ _ _)) (grown_set _ _ _ _)
end
section
theorem passed_all (st : Option (List UInt8)) : passed ((st.getD []).length : Int) st = (st.map fun _ => [], st.getD []) := by
  unfold passed
  rw [if_neg (by omega)]
  cases st with
  | none => simp
  | some l => simp
theorem txt_len (m : Int) (st : Option (List UInt8)) : ((txtOf m st).1.getD []).length ≤ (st.getD []).length := by
  have h := cntOf_len m st
  unfold txtOf passed
  split
  · simp
  · cases hc : (cntOf m st).1 with
    | none => simp
    | some l =>
      rw [hc] at h
      simp at h ⊢
      omega
theorem txt_few (m : Int) (st : Option (List UInt8)) : (txtOf m st).2.length ≤ (st.getD []).length := by
  have h := cntOf_len m st
  unfold txtOf passed
  split
  · simp
  · simp only [List.length_take]
    omega
end
section
open Go.RowKit Go.ChangeShapes Go.WideShapes Go.Joins
def EGetAs (w : World) (r : Ev × Int) (e : Ending) (w' : World) : Prop := ∃ v, e = .returned (.tuple #[v, .int .i64 r.2]) ∧ EvV v r.1 ∧ Below w.heap.size w w'
theorem zero_EvV : EvV (.agg #[.int .i64 0, .int .i64 0, .string ⟨#[]⟩, .string ⟨#[]⟩]) zeroE := ⟨rfl, by show I64 0; unfold I64; omega, by show I64 0; unfold I64; omega, Nat.zero_le _, Nat.zero_le _⟩
theorem KB.put4e {w : World} {g t : Nat} {a b c d : Value} (h : KB w g t #[a, b, c, d]) (x y z u : Value) : KB ((((w.setCell ⟨g, 0, none⟩ x).setCell ⟨g, 1, none⟩ y).setCell ⟨g, 2, none⟩ z).setCell ⟨g, 3, none⟩ u) g t #[x, y, z, u] := (((h.put 0 x).put 1 y).put 2 z).put 3 u
theorem egrown_four (w : World) (g : Nat) (x y z u : Value) : w.grownBy ((((w.setCell ⟨g, 0, none⟩ x).setCell ⟨g, 1, none⟩ y).setCell ⟨g, 2, none⟩ z).setCell ⟨g, 3, none⟩ u) (some g) :=
  grown_trans (grown_trans (grown_trans (grown_set _ _ _ _) (grown_set _ _ _ _)) (grown_set _ _ _ _)) (grown_set _ _ _ _)
theorem RR.farE {w w' : World} {g k : Nat} {S : Nat → Prop} {st : Option (List UInt8)} (h : RR w g S st) (hg : w.grownBy w' (some k)) (hne : k ≠ g) (hs : ¬ S k) : RR w' g S st := by
  obtain ⟨v, l, h1, h2, h3, h4⟩ := h
  exact ⟨v, l, h1.grown hg (fun e => hne (by injection e)), h2.grown hg (fun j e => by injection e with e; subst e; exact hs), h3, h4⟩
theorem RR.flagE {w : World} {g : Nat} {S : Nat → Prop} {st : Option (List UInt8)} (h : RR w g S st) : w.cell? ⟨g, 1, none⟩ = some (.bool st.isNone) := by
  obtain ⟨v, l, h1, _⟩ := h
  exact h1.cell 1
theorem RR.restE {w : World} {g : Nat} {S : Nat → Prop} {l : List UInt8} (h : RR w g S (some l)) : ∃ A c, w.cell? ⟨g, 0, none⟩ = some (.slice A l.length c) ∧ l.length ≤ maxLen := by
  obtain ⟨v, l', h1, h2, _, h4⟩ := h
  have := h4 l rfl
  subst this
  obtain ⟨A, c, rfl, h5, h6, _⟩ := h2.form
  exact ⟨A, c, h1.cell 0, Nat.le_trans h5 h6⟩
theorem cell_far {w w' : World} {g b i : Nat} {u : Value} (h : w.grownBy w' (some g)) (hne : b ≠ g) (hc : w.cell? ⟨b, i, none⟩ = some u) : w'.cell? ⟨b, i, none⟩ = some u :=
  (World.cell?_of_block (w := w) (h.block b (World.block_lt_of_cell? _ _ hc) fun e => hne (by injection e))).trans hc
set_option maxHeartbeats 16000000 in
theorem evget_any (S : Nat → Prop) (v : Value) (l : List UInt8) (w : World) (h : BS w S v l) (hl : l.length ≤ 1000000) :
    Calls Tryd.prog 17 #[v] w (EGetAs w (getE l)) := by
  have K4 := KB.new w 23 #[.int .i64 0, .int .i64 0, .string ⟨#[]⟩, .string ⟨#[]⟩]
  have B := (Below.refl w.heap.size w).alloc (Nat.le_refl _) (.cells #[.int .i64 0, .int .i64 0, .string ⟨#[]⟩, .string ⟨#[]⟩] 23)
  have h1 := h.alloc (.cells #[.int .i64 0, .int .i64 0, .string ⟨#[]⟩, .string ⟨#[]⟩] 23)
  obtain ⟨D, hD⟩ : ∃ D, D = EGetAs w (getE l) := ⟨_, rfl⟩
  rw [← hD]
  have HNO : Hid (getE l = (zeroE, 2) → ∀ W, Below w.heap.size w W → D (.returned (.tuple #[.agg #[.int .i64 0, .int .i64 0, .string ⟨#[]⟩, .string ⟨#[]⟩], .int .i64 2])) W) := fun h W hb => by
    rw [hD, h]; exact ⟨_, rfl, zero_EvV, hb⟩
  have HYES : Hid (∀ x v, getE l = (x, 0) → EvV v x → ∀ W, Below w.heap.size w W → D (.returned (.tuple #[v, .int .i64 0])) W) := fun x v h hv W hb => by
    rw [hD, h]; exact ⟨_, rfl, hv, hb⟩
  clear hD h
  go_enter Tryd.func17, Tryd.ntmps17
  go_wp2_with fail
  refine (copy_any S v l _ h1 (by omega)).mono ?_
  rintro e w1 ⟨v1, rfl, o1, b1⟩
  have x1 := own_BS o1
  obtain ⟨A1, c1, rfl, _⟩ := x1.form
  replace K4 := K4.below b1 K4.lt
  replace B := B.trans (b1.mono B.size)
  clear h1 b1 o1
  have bA := (Below.refl w1.heap.size w1).alloc (Nat.le_refl _) (.cells #[.slice A1 l.length c1, .bool false] 55)
  have hr : RR (w1.alloc (.cells #[.slice A1 l.length c1, .bool false] 55)) w1.heap.size (fun b => w.heap.size + 1 ≤ b ∧ b < w1.heap.size) (some l) :=
    ⟨_, l, KB.new w1 _ _, (x1.mono (S' := fun b => w.heap.size + 1 ≤ b ∧ b < w1.heap.size) fun b h => by simpa using h).below' bA, (fun h => by have := h.2; omega), fun l' h => by injection h⟩
  obtain ⟨S0, hS0, hS0l⟩ : ∃ S0 : Nat → Prop, S0 = (fun b => w.heap.size + 1 ≤ b ∧ b < w1.heap.size) ∧ ∀ b, S0 b → b < w1.heap.size := ⟨_, rfl, fun b h => h.2⟩
  rw [← hS0] at hr
  have hgw : w.heap.size < w1.heap.size := K4.lt
  replace K4 := K4.below bA K4.lt
  replace B := B.trans (bA.mono B.size)
  clear hS0 x1
  go_upto_region 2 with fail
  obtain ⟨g, hg⟩ : ∃ g, g = w1.heap.size := ⟨_, rfl⟩
  rw [← hg] at hr hS0l hgw ⊢
  generalize w1.alloc (.cells #[.slice A1 l.length c1, .bool false] 55) = w2 at hr K4 B ⊢
  clear hg bA
  have hne4 : some g ≠ some w.heap.size := by simp; omega
  rcases l with _ | ⟨k, l⟩
  · have htk := rtake_to 1 g S0 (some []) w2 none [] hr (by simp) (by unfold passed; rw [if_pos (.inr (by simp))])
    have hfin := HNO.out (by unfold getE readE; rw [if_neg (fun h => by cases h.1)])
    have HF := Lib.hid hfin
    have HTK := Lib.hid htk
    clear HNO HYES hfin htk
    go_wp2_with fail
    refine HTK.out.mono ?_
    rintro e w3 ⟨A3, c3, rfl, hr3, x3, g3⟩
    have hflag : w3.cell? ⟨g, 1, none⟩ = some (.bool true) := hr3.flagE
    replace K4 := K4.grown g3 hne4
    replace B := B.trans (below_of_grown' g3 (Nat.le_of_lt hgw) B.size)
    have c0 := K4.cell 0
    have c1 := K4.cell 1
    have c2 := K4.cell 2
    have c3 := K4.cell 3
    have f0 := K4.free 0
    have f1 := K4.free 1
    have f2 := K4.free 2
    have f3 := K4.free 3
    have k6 := K4.put4e (.int .i64 0) (.int .i64 0) (.string ⟨#[]⟩) (.string ⟨#[]⟩)
    have B9 := B.trans (below_of_grown' (egrown_four w3 w.heap.size (.int .i64 0) (.int .i64 0) (.string ⟨#[]⟩) (.string ⟨#[]⟩)) (Nat.le_refl _) B.size)
    have hfin := HF.out _ B9
    clear HTK HF hr3 x3 g3
    go_wp2_with fail
    exact bodyPost_ret (results_cell_tmp (P := Tryd.prog) (p := 2) (u := 3) rfl _ _ w.heap.size _ _ (0, 0) _ rfl k6 Tryd.underlying23 rfl (by kernel_rfl)) rfl hfin
  · simp only [List.length_cons] at hl
    obtain ⟨⟨st2, z⟩, hC⟩ : ∃ p, cntOf 1099511627776 (some l) = p := ⟨_, rfl⟩
    obtain ⟨⟨st3, na⟩, hA⟩ : ∃ p, txtOf 16 st2 = p := ⟨_, rfl⟩
    obtain ⟨⟨st4, nb⟩, hB⟩ : ∃ p, txtOf 16 st3 = p := ⟨_, rfl⟩
    have hG : getE (k :: l) = if st4 = some [] ∧ mayE ⟨(k.toNat : Int), (z : Int), na, nb⟩ = true then (⟨(k.toNat : Int), (z : Int), na, nb⟩, 0) else (zeroE, 2) := by
      unfold getE
      rw [readE_cons, hC]
      dsimp only
      rw [hA]
      dsimp only
      rw [hB]
    have hl2 : (st2.getD []).length ≤ 1000000 := by
      have k2 := cntOf_len 1099511627776 (some l)
      rw [hC] at k2
      simp only [Option.getD_some] at k2
      omega
    have hl3 : (st3.getD []).length ≤ 1000000 := by
      have k2 := txt_len 16 st2
      rw [hA] at k2
      simp only at k2
      omega
    have hna : na.length ≤ 1000000 := by
      have k2 := txt_few 16 st2
      rw [hA] at k2
      simp only at k2
      omega
    have hnb : nb.length ≤ 1000000 := by
      have k2 := txt_few 16 st3
      rw [hB] at k2
      simp only at k2
      omega
    have hz : z ≤ 1099511627776 := by
      have k := numOf_lt (some l)
      unfold cntOf at hC
      split at hC
      · injection hC with _ e; omega
      · rename_i hh
        rw [hC] at hh
        simp only at hh
        omega
    have hk256 : k.toNat < 256 := k.toNat_lt
    have HNO2 : Hid (¬ (st4 = some [] ∧ mayE ⟨(k.toNat : Int), (z : Int), na, nb⟩ = true) → ∀ W, Below w.heap.size w W → D (.returned (.tuple #[.agg #[.int .i64 0, .int .i64 0, .string ⟨#[]⟩, .string ⟨#[]⟩], .int .i64 2])) W) := fun h => HNO.out (by rw [hG, if_neg h])
    have HYES2 : Hid (st4 = some [] → mayE ⟨(k.toNat : Int), (z : Int), na, nb⟩ = true → ∀ W, Below w.heap.size w W → D (.returned (.tuple #[.agg #[.int .i64 (k.toNat : Int), .int .i64 (z : Int), strV na, strV nb], .int .i64 0])) W) := fun h1 h2 => HYES.out ⟨(k.toNat : Int), (z : Int), na, nb⟩ _ (by rw [hG, if_pos ⟨h1, h2⟩]) ⟨rfl, by show I64 (k.toNat : Int); unfold I64; omega, by show I64 (z : Int); unfold I64; omega, Nat.le_trans hna (by unfold maxLen; omega), Nat.le_trans hnb (by unfold maxLen; omega)⟩
    have hmay := fun W => evmay_any ⟨(k.toNat : Int), (z : Int), na, nb⟩ (.agg #[.int .i64 (k.toNat : Int), .int .i64 (z : Int), strV na, strV nb]) W ⟨rfl, by show I64 (k.toNat : Int); unfold I64; omega, by show I64 (z : Int); unfold I64; omega, Nat.le_trans hna (by unfold maxLen; omega), Nat.le_trans hnb (by unfold maxLen; omega)⟩
    have HMAY := Lib.hid hmay
    have htk := rtake_to 1 g S0 (some (k :: l)) w2 (some l) [k] hr (by simp; omega) (by unfold passed; rw [if_neg (by simp; omega)]; rfl)
    have hcn := fun W h => rcount 1099511627776 (by omega) g S0 (some l) W h (by simp; omega)
    rw [hC] at hcn
    simp only at hcn
    have hta := fun W h => rtext 16 (by omega) g S0 st2 W h (by omega)
    rw [hA] at hta
    simp only at hta
    have htb := fun W h => rtext 16 (by omega) g S0 st3 W h (by omega)
    rw [hB] at htb
    simp only at htb
    have HTK := Lib.hid htk
    have HCN := Lib.hid hcn
    have HTA := Lib.hid hta
    have HTB := Lib.hid htb
    clear HNO HYES htk hcn hta htb hmay hG hC hA hB hl2 hl3 hna hnb hl
    generalize mayE ⟨(k.toNat : Int), (z : Int), na, nb⟩ = m at *
    go_wp2_with fail
    refine HTK.out.mono ?_
    rintro e w3 ⟨A3, c3, rfl, hr3, x3, g3⟩
    have hflag : w3.cell? ⟨g, 1, none⟩ = some (.bool false) := hr3.flagE
    obtain ⟨b, o, rfl, hb2, hbl, hcell⟩ := x3.at_ (by simp)
    have hS : w3.cell? ⟨b, o, none⟩ = some (.int .u8 (k.toNat : Int)) := hcell 0 k rfl
    have hbg : b ≠ g := by have := hr.lt; omega
    replace K4 := K4.grown g3 hne4
    replace B := B.trans (below_of_grown' g3 (Nat.le_of_lt hgw) B.size)
    replace hr := hr3
    clear HTK hr3 x3 g3 hcell hb2 hbl
    generalize k.toNat = kn at *
    have hkw : IntKind.i64.wrap (kn : Int) = (kn : Int) := by rw [IntKind.wrap_i64]; omega
    go_upto_region 5 with fail
    clear hflag
    go_cut [6] from 18 to 24 (fun p wc => ∃ g7, p = .pointer (some ⟨g7, 0, none⟩) ∧ KB wc g7 23 #[.int .i64 (kn : Int), .int .i64 (z : Int), .string ⟨#[]⟩, .string ⟨#[]⟩] ∧ RR wc g S0 st2 ∧ KB wc w.heap.size 23 #[.int .i64 0, .int .i64 0, .string ⟨#[]⟩, .string ⟨#[]⟩] ∧ Below w.heap.size w wc ∧ g < g7)
    case first =>
      clear HNO2 HYES2 HMAY HTA HTB
      replace hr : RR w3.drew g S0 (some l) := hr.below (Below_drawn (Below.refl _ _) 1)
      replace K4 : KB w3.drew w.heap.size 23 #[.int .i64 0, .int .i64 0, .string ⟨#[]⟩, .string ⟨#[]⟩] := K4
      replace B : Below w.heap.size w w3.drew := Below_drawn B 1
      replace hS : w3.drew.cell? ⟨b, o, none⟩ = some (.int .u8 (kn : Int)) := hS
      refine wp_region_held_drew (S := (fun W => W.cell? ⟨b, o, none⟩ = some (.int .u8 (kn : Int)))) (by kernel_rfl) hS (fun hHeld => ?_)
      generalize w3.drew = wq at *
      refine hyY (some 18) 0 rfl hHeld ?_; go_frame
      refine hyY (some 19) 1 rfl hHeld ?_; go_frame
      refine hyY (some 20) 2 rfl hHeld ?_; go_frame
      refine hyY (some 21) 3 rfl hHeld ?_; go_frame
      refine hyY (some 22) 4 rfl hHeld ?_; go_frame
      refine held_two (o := ⟨some 23, _, _, _, _, _⟩) (p := ⟨some 6, _, _, _, _, _⟩) 5 7 (by kernel_rfl) rfl rfl (by rfl) (by rfl) (fun K hK => ?_) (fun K hK => ?_)
      · go_simp
        go_at_call 37
        refine (HCN.out _ hr).mono ?_
        rintro e wn ⟨rfl, hr2, gr⟩
        replace hS := cell_far gr hbg hS
        replace K4 := K4.grown gr hne4
        try replace K7 := K7.grown gr (by intro e; injection e with e; omega)
        replace B := B.trans (below_of_grown' gr (Nat.le_of_lt hgw) B.size)
        replace hr := hr2
        clear gr hr2
        go_wp2_with fail
        refine hK.out _ _ ?_ (fun hH2 => ?_)
        · exact hS
        clear hHeld hK K; have hHeld := hH2; clear hH2; try go_frame
        refine hyY (some 24) 6 rfl hHeld ?_; go_frame
        refine hyO (some 6) 7 rfl (fun K hK => ?_)
        go_simp
        have K7 := KB.new wn 23 #[.int .i64 0, .int .i64 0, .string ⟨#[]⟩, .string ⟨#[]⟩]
        have bn := (Below.refl wn.heap.size wn).alloc (Nat.le_refl _) (.cells #[.int .i64 0, .int .i64 0, .string ⟨#[]⟩, .string ⟨#[]⟩] 23)
        have h7 : g < wn.heap.size := hr.lt
        have hbl7 : b < wn.heap.size := World.block_lt_of_cell? _ _ hS
        obtain ⟨g7, hg7⟩ : ∃ g7, g7 = wn.heap.size := ⟨_, rfl⟩
        have hbg7 : b ≠ g7 := by omega
        replace hS := (bn.cell (World.block_lt_of_cell? _ _ hS)).trans hS
        replace hr := hr.below bn
        replace K4 := K4.below bn K4.lt
        replace B := B.trans (bn.mono B.size)
        rw [← hg7] at K7 h7 ⊢
        clear bn hg7
        generalize wn.alloc (.cells #[.int .i64 0, .int .i64 0, .string ⟨#[]⟩, .string ⟨#[]⟩] 23) = wm at *
        refine hK.out _ _ ?_ (fun hH2 => ?_)
        · exact hS
        clear hHeld hK K; have hHeld := hH2; clear hH2; try go_frame
        refine hyO none 8 rfl (fun K hK => ?_)
        have c0 := K7.cell 0
        have c1 := K7.cell 1
        have c2 := K7.cell 2
        have c3 := K7.cell 3
        have f0 := K7.free 0
        have f1 := K7.free 1
        have f2 := K7.free 2
        have f3 := K7.free 3
        have k8 := K7.put4e (.int .i64 (kn : Int)) (.int .i64 (z : Int)) (.string ⟨#[]⟩) (.string ⟨#[]⟩)
        have g8 := egrown_four wm g7 (.int .i64 (kn : Int)) (.int .i64 (z : Int)) (.string ⟨#[]⟩) (.string ⟨#[]⟩)
        replace hr := hr.farE g8 (by omega) (fun hs => by have := hS0l g7 hs; omega)
        replace K4 := K4.grown g8 (by intro e; injection e with e; omega)
        replace B := B.trans (below_of_grown' g8 (by omega) B.size)
        replace hS := cell_far g8 hbg7 hS
        go_simp
        refine hK.out _ _ ?_ (fun hH2 => ?_)
        · exact hS
        clear hHeld hK K; have hHeld := hH2; clear hH2; try go_frame
        refine wpAnyH_done (by kernel_rfl) ?_ _
        clear hHeld HCN hS
        go_wp2_with fail
        go_meet
        exact ⟨_, rfl, k8, hr, K4, B, h7⟩
      · go_simp
        have K7 := KB.new wq 23 #[.int .i64 0, .int .i64 0, .string ⟨#[]⟩, .string ⟨#[]⟩]
        have bn := (Below.refl wq.heap.size wq).alloc (Nat.le_refl _) (.cells #[.int .i64 0, .int .i64 0, .string ⟨#[]⟩, .string ⟨#[]⟩] 23)
        have h7 : g < wq.heap.size := hr.lt
        have hbl7 : b < wq.heap.size := World.block_lt_of_cell? _ _ hS
        obtain ⟨g7, hg7⟩ : ∃ g7, g7 = wq.heap.size := ⟨_, rfl⟩
        have hbg7 : b ≠ g7 := by omega
        replace hS := (bn.cell (World.block_lt_of_cell? _ _ hS)).trans hS
        replace hr := hr.below bn
        replace K4 := K4.below bn K4.lt
        replace B := B.trans (bn.mono B.size)
        rw [← hg7] at K7 h7 ⊢
        clear bn hg7
        generalize wq.alloc (.cells #[.int .i64 0, .int .i64 0, .string ⟨#[]⟩, .string ⟨#[]⟩] 23) = wm at *
        refine hK.out _ _ ?_ (fun hH2 => ?_)
        · exact hS
        clear hHeld hK K; have hHeld := hH2; clear hH2; try go_frame
        refine hyO (some 23) 5 rfl (fun K hK => ?_)
        go_simp
        go_at_call 37
        refine (HCN.out _ hr).mono ?_
        rintro e wn ⟨rfl, hr2, gr⟩
        replace hS := cell_far gr hbg hS
        replace K4 := K4.grown gr hne4
        try replace K7 := K7.grown gr (by intro e; injection e with e; omega)
        replace B := B.trans (below_of_grown' gr (Nat.le_of_lt hgw) B.size)
        replace hr := hr2
        clear gr hr2
        go_wp2_with fail
        refine hK.out _ _ ?_ (fun hH2 => ?_)
        · exact hS
        clear hHeld hK K; have hHeld := hH2; clear hH2; try go_frame
        refine hyY (some 24) 6 rfl hHeld ?_; go_frame
        refine hyO none 8 rfl (fun K hK => ?_)
        have c0 := K7.cell 0
        have c1 := K7.cell 1
        have c2 := K7.cell 2
        have c3 := K7.cell 3
        have f0 := K7.free 0
        have f1 := K7.free 1
        have f2 := K7.free 2
        have f3 := K7.free 3
        have k8 := K7.put4e (.int .i64 (kn : Int)) (.int .i64 (z : Int)) (.string ⟨#[]⟩) (.string ⟨#[]⟩)
        have g8 := egrown_four wn g7 (.int .i64 (kn : Int)) (.int .i64 (z : Int)) (.string ⟨#[]⟩) (.string ⟨#[]⟩)
        replace hr := hr.farE g8 (by omega) (fun hs => by have := hS0l g7 hs; omega)
        replace K4 := K4.grown g8 (by intro e; injection e with e; omega)
        replace B := B.trans (below_of_grown' g8 (by omega) B.size)
        replace hS := cell_far g8 hbg7 hS
        go_simp
        refine hK.out _ _ ?_ (fun hH2 => ?_)
        · exact hS
        clear hHeld hK K; have hHeld := hH2; clear hH2; try go_frame
        refine wpAnyH_done (by kernel_rfl) ?_ _
        clear hHeld HCN hS
        go_wp2_with fail
        go_meet
        exact ⟨_, rfl, k8, hr, K4, B, h7⟩
    case rest =>
      obtain ⟨g7, rfl, K7, hr2, K5, B5, h7⟩ := hcut
      clear K4 B hr hS HCN hbg hkw
      have hne7 : some g ≠ some g7 := by intro e; injection e with e; omega
      have h57 : w.heap.size ≠ g7 := by omega
      go_wp2_with fail
      refine (HTA.out _ hr2).mono ?_
      rintro e w4 ⟨v4, rfl, hr4, x4, g4⟩
      have hcv := x4.str (P := Tryd.prog) Tryd.underlying25 Tryd.underlying5 Tryd.underlying9
      obtain ⟨A4, c4, rfl, _⟩ := x4.form
      replace K7 := K7.grown g4 hne7
      replace K5 := K5.grown g4 hne4
      replace B5 := B5.trans (below_of_grown' g4 (Nat.le_of_lt hgw) B5.size)
      have d2 := K7.cell 2
      have e2 := K7.free 2
      have L7 : KB (w4.setCell ⟨g7, 2, none⟩ (.string ⟨na.toArray⟩)) g7 23 #[.int .i64 (kn : Int), .int .i64 (z : Int), .string ⟨na.toArray⟩, .string ⟨#[]⟩] := K7.put 2 _
      have g6 := grown_set w4 g7 2 (.string ⟨na.toArray⟩)
      have hr6 := hr4.farE g6 (by omega) (fun hs => by have := hS0l g7 hs; omega)
      have L5 := K5.grown g6 (by intro e; injection e with e; omega)
      have C5 := B5.trans (below_of_grown' g6 (by omega) B5.size)
      clear HTA hr2 x4 g4 K7 K5 B5 g6 hr4
      go_upto_region 7 with fail
      clear hcv d2 e2
      generalize w4.setCell ⟨g7, 2, none⟩ (.string ⟨na.toArray⟩) = w5 at *
      go_wp2_with fail
      refine (HTB.out _ hr6).mono ?_
      rintro e w6 ⟨v6, rfl, hr7, x6, g8⟩
      have hcv := x6.str (P := Tryd.prog) Tryd.underlying25 Tryd.underlying5 Tryd.underlying9
      obtain ⟨A6, c6, rfl, _⟩ := x6.form
      replace L7 := L7.grown g8 hne7
      replace L5 := L5.grown g8 hne4
      replace C5 := C5.trans (below_of_grown' g8 (Nat.le_of_lt hgw) C5.size)
      have d3 := L7.cell 3
      have e3 := L7.free 3
      have M7 : KB (w6.setCell ⟨g7, 3, none⟩ (.string ⟨nb.toArray⟩)) g7 23 #[.int .i64 (kn : Int), .int .i64 (z : Int), .string ⟨na.toArray⟩, .string ⟨nb.toArray⟩] := L7.put 3 _
      have g9 := grown_set w6 g7 3 (.string ⟨nb.toArray⟩)
      have hr9 := hr7.farE g9 (by omega) (fun hs => by have := hS0l g7 hs; omega)
      have M5 := L5.grown g9 (by intro e; injection e with e; omega)
      have D5 := C5.trans (below_of_grown' g9 (by omega) C5.size)
      clear HTB hr6 x6 g8 L7 L5 C5 g9 hr7
      go_upto_region 8 with fail
      clear hcv d3 e3
      generalize w6.setCell ⟨g7, 3, none⟩ (.string ⟨nb.toArray⟩) = w8 at *
      have hflag := hr9.flagE
      have m0 := M5.cell 0
      have m1 := M5.cell 1
      have m2 := M5.cell 2
      have m3 := M5.cell 3
      have f0 := M5.free 0
      have f1 := M5.free 1
      have f2 := M5.free 2
      have f3 := M5.free 3
      cases st4 with
      | none =>
        replace hflag : w8.cell? ⟨g, 1, none⟩ = some (.bool true) := hflag
        have k6 := M5.put4e (.int .i64 0) (.int .i64 0) (.string ⟨#[]⟩) (.string ⟨#[]⟩)
        have B9 := D5.trans (below_of_grown' (egrown_four w8 w.heap.size (.int .i64 0) (.int .i64 0) (.string ⟨#[]⟩) (.string ⟨#[]⟩)) (Nat.le_refl _) D5.size)
        have hfin := HNO2.out (fun h => by cases h.1) _ B9
        clear HNO2 HYES2 HMAY hr9 M7
        go_wp2_with fail
        exact bodyPost_ret (results_cell_tmp (P := Tryd.prog) (p := 2) (u := 3) rfl _ _ w.heap.size _ _ (0, 0) _ rfl k6 Tryd.underlying23 rfl (by kernel_rfl)) rfl hfin
      | some rest =>
        replace hflag : w8.cell? ⟨g, 1, none⟩ = some (.bool false) := hflag
        obtain ⟨A8, c8, hrest, hml⟩ := hr9.restE
        unfold maxLen at hml
        by_cases h0 : 0 < rest.length
        · have dd : decide (0 < (rest.length : Int)) = true := decide_eq_true (by omega)
          have k6 := M5.put4e (.int .i64 0) (.int .i64 0) (.string ⟨#[]⟩) (.string ⟨#[]⟩)
          have B9 := D5.trans (below_of_grown' (egrown_four w8 w.heap.size (.int .i64 0) (.int .i64 0) (.string ⟨#[]⟩) (.string ⟨#[]⟩)) (Nat.le_refl _) D5.size)
          have hfin := HNO2.out (fun h => by have := h.1; injection this with this; rw [this] at h0; simp at h0) _ B9
          clear HNO2 HYES2 HMAY hr9 M7
          go_wp2_with fail
          exact bodyPost_ret (results_cell_tmp (P := Tryd.prog) (p := 2) (u := 3) rfl _ _ w.heap.size _ _ (0, 0) _ rfl k6 Tryd.underlying23 rfl (by kernel_rfl)) rfl hfin
        · obtain rfl : rest = [] := List.eq_nil_of_length_eq_zero (by omega)
          have q0 := M7.cell 0
          have q1 := M7.cell 1
          have q2 := M7.cell 2
          have q3 := M7.cell 3
          have hmy := HMAY.out
          unfold strV at hmy HYES2
          have HMY := Lib.hid hmy
          clear HMAY hmy hr9 m0 m1 m2 m3 f0 f1 f2 f3
          generalize (⟨na.toArray⟩ : ByteArray) = na2 at *
          generalize (⟨nb.toArray⟩ : ByteArray) = nb2 at *
          go_wp2_with fail
          refine (HMY.out _).mono ?_
          rintro e w9 ⟨rfl, b9⟩
          clear HMY q0 q1 q2 q3 hrest hflag
          replace M7 := M7.below b9 M7.lt
          replace M5 := M5.below b9 M5.lt
          replace D5 := D5.trans (b9.mono D5.size)
          have q0 := M7.cell 0
          have q1 := M7.cell 1
          have q2 := M7.cell 2
          have q3 := M7.cell 3
          have m0 := M5.cell 0
          have m1 := M5.cell 1
          have m2 := M5.cell 2
          have m3 := M5.cell 3
          have f0 := M5.free 0
          have f1 := M5.free 1
          have f2 := M5.free 2
          have f3 := M5.free 3
          cases m with
          | false =>
            have k6 := M5.put4e (.int .i64 0) (.int .i64 0) (.string ⟨#[]⟩) (.string ⟨#[]⟩)
            have B9 := D5.trans (below_of_grown' (egrown_four w9 w.heap.size (.int .i64 0) (.int .i64 0) (.string ⟨#[]⟩) (.string ⟨#[]⟩)) (Nat.le_refl _) D5.size)
            have hfin := HNO2.out (fun h => by cases h.2) _ B9
            clear HNO2 HYES2 b9 M7
            go_wp2_with fail
            exact bodyPost_ret (results_cell_tmp (P := Tryd.prog) (p := 2) (u := 3) rfl _ _ w.heap.size _ _ (0, 0) _ rfl k6 Tryd.underlying23 rfl (by kernel_rfl)) rfl hfin
          | true =>
            have k6 := M5.put4e (.int .i64 (kn : Int)) (.int .i64 (z : Int)) (.string na2) (.string nb2)
            have B9 := D5.trans (below_of_grown' (egrown_four w9 w.heap.size (.int .i64 (kn : Int)) (.int .i64 (z : Int)) (.string na2) (.string nb2)) (Nat.le_refl _) D5.size)
            have hfin := HYES2.out (by first | rfl | trivial) (by first | rfl | trivial) _ B9
            clear HNO2 HYES2 b9 M7
            go_wp2_with fail
            exact bodyPost_ret (results_cell_tmp (P := Tryd.prog) (p := 2) (u := 3) rfl _ _ w.heap.size _ _ (0, 0) _ rfl k6 Tryd.underlying23 rfl (by kernel_rfl)) rfl hfin
end
section
open Go.RowKit Go.ChangeShapes Go.WideShapes Go.Joins
structure EvOk (T : World → Prop) : Prop where
  past : ∀ w w', T w → Below w.heap.size w w' → T w'
  check : ∀ (x : Ev) (v : Value) (w : World), T w → EvV v x → Calls Tryd.prog 11 #[v] w fun e w' => e = .returned (.int .i64 (if mayE x = true then 0 else 1)) ∧ Below w.heap.size w w'
  put : ∀ (x : Ev) (v : Value) (w : World), T w → EvV v x → Calls Tryd.prog 7 #[v] w (EPutAs w (putE x))
  get : ∀ (v : Value) (l : List UInt8) (w : World), T w → BS w (fun b => b < w.heap.size) v l → l.length ≤ 1000000 → Calls Tryd.prog 16 #[v] w (EGetAs w (getE l))
  text : ∀ (x : Ev) (v : Value) (w : World), T w → EvV v x → Calls Tryd.prog 12 #[v] w fun e w' => e = .returned (strV (textE x)) ∧ Below w.heap.size w w'
  ends : ∀ (x : Ev) (v : Value) (w : World), T w → EvV v x → Calls Tryd.prog 14 #[v] w fun e w' => e = .returned (.bool (endsE x)) ∧ Below w.heap.size w w'
theorem evnum_any (e : Int) (w : World) : Calls Tryd.prog 10 #[.int .i64 e] w fun r w' => r = .returned (.int .i64 e) ∧ w' = w := by
  go_enter Tryd.func10, Tryd.ntmps10
  go_wp2_with fail
  go_ret
  exact ⟨rfl, rfl⟩
theorem ev_fields : Tryd.prog.underlying 23 = some (.struct (Tryd.prog.fieldsOf 23)) := by kernel_rfl
theorem ev_stood : Tryd.prog.stoodInHeld 23 = false := by kernel_rfl
theorem ev_eql (w : World) (a b a' b' : Int) (s t s' t' : ByteArray) :
    (binOp .eql 23 (.agg #[.int .i64 a, .int .i64 b, .string s, .string t]) (.agg #[.int .i64 a', .int .i64 b', .string s', .string t'])).run Tryd.prog w = .ok (.bool ((a == a') && ((b == b') && ((s.toList == s'.toList) && (t.toList == t'.toList))))) w := by
  have u3 := Tryd.underlying3
  have u9 := Tryd.underlying9
  rw [run_eql_struct, show (10000 : Nat) = 9999 + 1 from rfl, run_equalIn_agg w 9999 23 _ _ ev_fields ev_stood]
  simp only [Program.fieldsOf, Tryd.underlying23]
  go_simp
  by_cases h1 : a = a' <;> by_cases h2 : b = b' <;> by_cases h3 : s.toList = s'.toList <;> by_cases h4 : t.toList = t'.toList <;> simp [h1, h2, h3, h4]
def EX : Ev := ⟨10, 5, [114], []⟩
theorem EX_V : EvV (.agg #[.int .i64 10, .int .i64 5, .string ⟨#[114]⟩, .string ⟨#[]⟩]) EX := ⟨rfl, by show I64 10; unfold I64; omega, by show I64 5; unfold I64; omega, by unfold maxLen; simp [EX], by simp [EX]⟩
theorem EX_may : mayE EX = true := by decide +kernel
set_option maxHeartbeats 4000000 in
theorem evlive_any {T : World → Prop} (hC : EvOk T) (w : World) (hT : T w) : Calls Tryd.prog 6 #[] w fun e w' => e = .returned (.bool true) ∧ Below w.heap.size w w' := by
  have K := KB.new w 23 #[.int .i64 10, .int .i64 5, .string ⟨#[114]⟩, .string ⟨#[]⟩]
  have B := (Below.refl w.heap.size w).alloc (Nat.le_refl _) (.cells #[.int .i64 10, .int .i64 5, .string ⟨#[114]⟩, .string ⟨#[]⟩] 23)
  have HT : Hid (∀ W, Below w.heap.size w W → T W) := fun W hb => hC.past _ _ hT hb
  have HP := Lib.hid (fun W h => hC.put EX _ W h EX_V)
  have HX := Lib.hid (fun W h => hC.text EX _ W h EX_V)
  have HE := Lib.hid (fun W h => hC.ends EX _ W h EX_V)
  have HN := Lib.hid (fun W => evnum_any 0 W)
  obtain ⟨e1, e2, e3⟩ := live_event
  have hp : putE EX = ([10, 1, 5, 1, 1, 114, 0], 0) := by unfold putE; rw [if_pos EX_may]; exact Prod.ext e1 rfl
  have hx : textE EX = [53, 32, 112, 117, 114, 103, 101, 32, 114] := e2
  have he : endsE EX = true := e3
  clear e1 e2 e3
  go_enter Tryd.func6, Tryd.ntmps6
  go_wp2_with fail
  refine (HP.out _ (HT.out _ B)).mono ?_
  rintro e w1 ⟨v1, rfl, hb1, b1⟩
  rw [hp] at hb1 ⊢
  dsimp only at hb1 ⊢
  replace K := K.below b1 K.lt
  replace B := B.trans (b1.mono B.size)
  have HS := Lib.hid (fun (W : World) v (h : BS W (fun b => w1.heap.size ≤ b) v [10, 1, 5, 1, 1, 114, 0]) (hw : Below w1.heap.size w1 W) => same_to _ _ v1 v _ W (hb1.below' hw) h)
  clear HP b1 hb1
  go_wp2_with fail
  refine (HN.out _).mono ?_
  rintro e w2 ⟨rfl, rfl⟩
  clear HN
  have bn := (Below.refl w2.heap.size w2).alloc (Nat.le_refl _) (.cells #[.int .u8 10, .int .u8 1, .int .u8 5, .int .u8 1, .int .u8 1, .int .u8 114, .int .u8 0] 5)
  have bl : BS (w2.alloc (.cells #[.int .u8 10, .int .u8 1, .int .u8 5, .int .u8 1, .int .u8 1, .int .u8 114, .int .u8 0] 5)) (fun b => w2.heap.size ≤ b) (.slice (some ⟨w2.heap.size, 0, none⟩) 7 7) [10, 1, 5, 1, 1, 114, 0] :=
    BS.of_own (n := 7) (World.ownsRow_lit w2 #[bv 10, bv 1, bv 5, bv 1, bv 1, bv 114, bv 0] 7 (Nat.le_refl _) (by simp [maxLen]) rfl)
  have hs := Lib.hid (HS.out _ _ bl bn)
  replace K := K.below bn K.lt
  replace B := B.trans (bn.mono B.size)
  clear HS bn bl
  go_wp2_with fail
  refine hs.out.mono ?_
  rintro e w3 ⟨rfl, b3⟩
  replace K := K.below b3 K.lt
  replace B := B.trans (b3.mono B.size)
  clear hs b3
  have q0 := K.cell 0
  have q1 := K.cell 1
  have q2 := K.cell 2
  have q3 := K.cell 3
  have hxx := HX.out _ (HT.out _ B)
  rw [hx] at hxx
  have hxv : strV [53, 32, 112, 117, 114, 103, 101, 32, 114] = .string ⟨#[53, 32, 112, 117, 114, 103, 101, 32, 114]⟩ := rfl
  rw [hxv] at hxx
  have HXX := Lib.hid hxx
  clear HX hxx hx hxv
  go_wp2_with fail
  refine HXX.out.mono ?_
  rintro e w4 ⟨rfl, b4⟩
  replace K := K.below b4 K.lt
  replace B := B.trans (b4.mono B.size)
  clear HXX b4 q0 q1 q2 q3
  have q0 := K.cell 0
  have q1 := K.cell 1
  have q2 := K.cell 2
  have q3 := K.cell 3
  have hee := HE.out _ (HT.out _ B)
  rw [he] at hee
  have HEE := Lib.hid hee
  clear HE hee he
  go_wp2_with fail
  refine HEE.out.mono ?_
  rintro e w5 ⟨rfl, b5⟩
  replace B := B.trans (b5.mono B.size)
  clear HEE b5 q0 q1 q2 q3 K
  go_wp2_with fail
  go_ret
  exact ⟨rfl, B⟩
end
end Go.Proofs.YtpeopkjmmmodpaaDoor
