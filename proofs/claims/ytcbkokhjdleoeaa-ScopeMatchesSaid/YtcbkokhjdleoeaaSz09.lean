/-
  RefB: The document's own Reader of layer 1: Value, and the methods Take, Num, Count, Text, Left: each one's contract over the loaded program. No condition but the worlds' shapes that each contract names.
  ScK: Reading a scope: what the walk of the document's Read rests on: blocks of five cells, kids read so far, what is told behind a call. No condition.
  ScL: The document's Read (layer 20), over the loaded program: the ways in which it fails at once. No condition but the sizes that it names.
-/
import Derived.Test.YtcbkokhjdleoeaaSz06
import Derived.Test.YtcbkokhjdleoeaaSz02
import Derived.Test.YtcbkokhjdleoeaaSz08
set_option linter.unusedVariables false
set_option maxRecDepth 100000
namespace Go.Proofs.Ytcbkokhjdleoeaa
section
open Go.RowKit
def RR (w : World) (g : Nat) (S : Nat → Prop) (st : Option (List UInt8)) : Prop :=
  ∃ v l, KB w g 60 #[v, .bool st.isNone] ∧ BS w S v l ∧ ¬ S g ∧ (∀ l', st = some l' → l = l')
theorem RR.below {w w' : World} {g : Nat} {S : Nat → Prop} {st : Option (List UInt8)} (h : RR w g S st) (hb : Below w.heap.size w w') : RR w' g S st := by
  obtain ⟨v, l, h1, h2, h3, h4⟩ := h
  exact ⟨v, l, h1.below hb h1.lt, h2.below' hb, h3, h4⟩
theorem RR.lt {w : World} {g : Nat} {S : Nat → Prop} {st : Option (List UInt8)} (h : RR w g S st) : g < w.heap.size := by
  obtain ⟨v, l, h1, h2, h3, h4⟩ := h
  exact h1.lt
theorem rfail {w : World} {g : Nat} {S : Nat → Prop} {v : Value} {l : List UInt8} {f : Bool} (h1 : KB w g 60 #[v, .bool f]) (h2 : BS w S v l) (h3 : ¬ S g) :
    RR (w.setCell ⟨g, 1, none⟩ (.bool true)) g S none := ⟨v, l, h1.put 1 _, h2.setCell h3 _, h3, fun _ h => by cases h⟩
theorem rtake (n : Int) (g : Nat) (S : Nat → Prop) (st : Option (List UInt8)) (w : World) (h : RR w g S st) (hl : (st.getD []).length ≤ 140737488355328) :
    Calls Try.prog 51 #[.pointer (some ⟨g, 0, none⟩), .int .i64 n] w fun e w' => ∃ v, e = .returned v ∧ RR w' g S (passed n st).1 ∧
      BS w' (fun b => w.heap.size ≤ b) v (passed n st).2 ∧ w.grownBy w' (some g) := by
  obtain ⟨v, l, k1, k2, k3, k4⟩ := h
  have hg := k1.lt
  cases st with
  | none =>
    have e0 : passed n none = (none, []) := by unfold passed; split <;> simp
    rw [e0]
    clear e0
    have c1 : w.cell? ⟨g, 1, none⟩ = some (.bool true) := k1.cell 1
    have f1 := k1.free 1
    go_enter Try.func51, Try.ntmps51
    go_wp2
    go_ret
    exact ⟨_, rfl, rfail k1 k2 k3, BS.nil _ _, grown_set _ _ _ _⟩
  | some l' =>
    obtain rfl := k4 l' rfl
    obtain ⟨A, c, rfl, kl, kc, kn⟩ := k2.form
    have c1 : w.cell? ⟨g, 1, none⟩ = some (.bool false) := k1.cell 1
    have c0 : w.cell? ⟨g, 0, none⟩ = some (.slice A l.length c) := k1.cell 0
    have f1 := k1.free 1
    have f0 := k1.free 0
    have b3 : c ≤ 9223372036854775807 := kc
    by_cases h0 : n < 0
    · have e0 : passed n (some l) = (none, []) := by unfold passed; rw [if_pos (.inl h0)]
      rw [e0]
      clear e0
      go_enter Try.func51, Try.ntmps51
      go_wp2
      go_ret
      exact ⟨_, rfl, rfail k1 k2 k3, BS.nil _ _, grown_set _ _ _ _⟩
    · by_cases h1 : (l.length : Int) < n
      · have e0 : passed n (some l) = (none, []) := by unfold passed; rw [if_pos (.inr h1)]
        rw [e0]
        clear e0
        have h0' : 0 ≤ n := by omega
        go_enter Try.func51, Try.ntmps51
        go_wp2
        go_ret
        exact ⟨_, rfl, rfail k1 k2 k3, BS.nil _ _, grown_set _ _ _ _⟩
      · obtain ⟨k, rfl⟩ := Int.eq_ofNat_of_zero_le (show 0 ≤ n by omega)
        have e0 : passed (k : Int) (some l) = (some (l.drop k), l.take k) := by
          unfold passed
          rw [if_neg (by simp; omega)]
          simp
        rw [e0]
        clear e0
        have hkl : k ≤ l.length := by omega
        have b1 : (k : Int) ≤ l.length := by omega
        have b4 : k ≤ c := by omega
        have t1 := k2.take k hkl
        have hll : (l.take k).length = k := by simp; omega
        by_cases hp : 0 < l.length
        · obtain ⟨b, o, rfl, sb, hb, hx⟩ := k2.at_ hp
          have t2 := k2.drop k hkl
          clear hx
          go_enter Try.func51, Try.ntmps51
          go_wp2_with fail
          refine (copy_any S _ (l.take k) _ t1 (by simp at hl; omega)).mono ?_
          rintro e w1 ⟨v1, rfl, ho1, bl1⟩
          have x1 := own_BS ho1
          obtain ⟨A1, c1', rfl, _⟩ := x1.form
          rw [hll] at x1
          have q1 := k1.below bl1 hg
          have d0 : w1.cell? ⟨g, 0, none⟩ = some (.slice (some ⟨b, o, none⟩) l.length c) := q1.cell 0
          have g0 := q1.free 0
          have t2' := t2.below' bl1
          have gr := grown_of_below bl1 (some g)
          have hgn : ¬ (w.heap.size ≤ g ∧ g < w1.heap.size) := by omega
          clear ho1 c0 c1 f0 f1
          by_cases hck : c = k
          · rw [if_pos hck, hck, Nat.sub_self] at t2'
            go_wp2
            go_ret
            exact ⟨_, rfl, ⟨_, _, q1.put 0 _, t2'.setCell k3 _, k3, fun _ h => by injection h⟩, (x1.setCell hgn _).mono fun _ h => h.1, grown_trans gr (grown_set _ _ _ _)⟩
          · rw [if_neg hck] at t2'
            go_wp2
            go_ret
            exact ⟨_, rfl, ⟨_, _, q1.put 0 _, t2'.setCell k3 _, k3, fun _ h => by injection h⟩, (x1.setCell hgn _).mono fun _ h => h.1, grown_trans gr (grown_set _ _ _ _)⟩
        · have hle : l = [] := List.eq_nil_of_length_eq_zero (by omega)
          subst hle
          have hk0 : k = 0 := by simpa using hkl
          subst hk0
          have e1 : ([] : List UInt8).take 0 = [] := rfl
          have e2 : ([] : List UInt8).drop 0 = [] := rfl
          rw [e1, e2]
          rw [e1] at t1 hll
          clear e1 e2 hll h1 hl
          have hA : ∀ (w1 : World) (A1 : Option Addr), BS w1 S (.slice A 0 c) [] := fun w1 A1 => ⟨A, c, rfl, by simp, kc, kn, fun h => absurd h (by simp)⟩
          cases A with
          | none =>
            obtain rfl := kn rfl
            go_enter Try.func51, Try.ntmps51
            go_wp2_with fail
            refine (copy_any S _ [] _ t1 (by simp)).mono ?_
            rintro e w1 ⟨v1, rfl, ho1, bl1⟩
            have x1 := own_BS ho1
            obtain ⟨A1, c1', rfl, _⟩ := x1.form
            have q1 := k1.below bl1 hg
            have d0 : w1.cell? ⟨g, 0, none⟩ = some (.slice none 0 0) := q1.cell 0
            have g0 := q1.free 0
            have gr := grown_of_below bl1 (some g)
            have hgn : ¬ (w.heap.size ≤ g ∧ g < w1.heap.size) := by omega
            clear ho1 c0 c1 f0 f1
            go_wp2
            go_ret
            exact ⟨_, rfl, ⟨_, _, q1.put 0 _, hA _ none, k3, fun _ h => by injection h⟩, (x1.setCell hgn _).mono fun _ h => h.1, grown_trans gr (grown_set _ _ _ _)⟩
          | some ad =>
            go_enter Try.func51, Try.ntmps51
            go_wp2_with fail
            refine (copy_any S _ [] _ t1 (by simp)).mono ?_
            rintro e w1 ⟨v1, rfl, ho1, bl1⟩
            have x1 := own_BS ho1
            obtain ⟨A1, c1', rfl, _⟩ := x1.form
            have q1 := k1.below bl1 hg
            have d0 : w1.cell? ⟨g, 0, none⟩ = some (.slice (some ad) 0 c) := q1.cell 0
            have g0 := q1.free 0
            have gr := grown_of_below bl1 (some g)
            have hgn : ¬ (w.heap.size ≤ g ∧ g < w1.heap.size) := by omega
            clear ho1 c0 c1 f0 f1
            go_wp2
            go_ret
            exact ⟨_, rfl, ⟨_, _, q1.put 0 _, hA _ none, k3, fun _ h => by injection h⟩, (x1.setCell hgn _).mono fun _ h => h.1, grown_trans gr (grown_set _ _ _ _)⟩
theorem rtake_to (n : Int) (g : Nat) (S : Nat → Prop) (st : Option (List UInt8)) (w : World) (st' : Option (List UInt8)) (l : List UInt8) (h : RR w g S st) (hl : (st.getD []).length ≤ 140737488355328) (hp : passed n st = (st', l)) :
    Calls Try.prog 51 #[.pointer (some ⟨g, 0, none⟩), .int .i64 n] w fun e w' => ∃ A c, e = .returned (.slice A l.length c) ∧ RR w' g S st' ∧ BS w' (fun b => w.heap.size ≤ b) (.slice A l.length c) l ∧ w.grownBy w' (some g) := by
  refine (rtake n g S st w h hl).mono ?_
  rintro e w' ⟨v, rfl, hr, hb, hg⟩
  rw [hp] at hr hb
  obtain ⟨A, c, rfl, _⟩ := hb.form
  exact ⟨A, c, rfl, hr, hb, hg⟩
theorem u64_sum (a b : Nat) (h : a < 72057594037927936) (hb : b < 256) : IntKind.u64.wrap (IntKind.u64.wrap ((a : Int) * 256) + IntKind.u64.wrap (b : Int)) = ((a * 256 + b : Nat) : Int) := by
  rw [IntWalk.u64_in ((a : Int) * 256) (by omega), IntWalk.u64_in (b : Int) (by omega), IntWalk.u64_in _ (by omega)]
  omega
theorem value_any (S : Nat → Prop) (v : Value) (l : List UInt8) (w : World) (h : BS w S v l) (hl : l.length ≤ 8) :
    Calls Try.prog 67 #[v] w fun e w' => e = .returned (.int .u64 (val l : Nat)) ∧ w = w' := by
  obtain ⟨A, c, rfl, _⟩ := h.form
  go_enter Try.func67, Try.ntmps67
  go_wp2
  go_loop [3, 4] (fun n i => ∃ k : Nat, k ≤ l.length ∧ i = .int .i64 k ∧ n = .int .u64 (val (l.take k) : Nat)) (fun _ i => l.length - (intOf i).toNat)
  case atStart => exact ⟨0, by omega, rfl, rfl⟩
  case round =>
    obtain ⟨k, hk, rfl, rfl⟩ := hrel
    by_cases hlt : k < l.length
    · obtain ⟨b, o, rfl, _, _, hx⟩ := h.at_ (by omega)
      have kc := hx k l[k] (List.getElem?_eq_getElem hlt)
      clear hx h
      go_wp2
      go_round
      case rel =>
        refine ⟨k + 1, by omega, by go_num, ?_⟩
        rw [val_take_succ l k hlt, ← u64_sum _ _ (val_lt_seven _ (by simp; omega)) (l[k]).toNat_lt]
      case measure => simp [intOf]; omega
    · have e : l.take k = l := List.take_of_length_le (by omega)
      rw [e]
      go_wp2
      go_ret
      exact ⟨rfl, rfl⟩
theorem RR.bad {w : World} {g : Nat} {S : Nat → Prop} (h : RR w g S none) : w.cell? ⟨g, 1, none⟩ = some (.bool true) ∧ w.frozen? ⟨g, 1, none⟩ = false := by
  obtain ⟨v, l, h1, _⟩ := h
  exact ⟨h1.cell 1, h1.free 1⟩
theorem RR.good {w : World} {g : Nat} {S : Nat → Prop} {l : List UInt8} (h : RR w g S (some l)) : w.cell? ⟨g, 1, none⟩ = some (.bool false) ∧ w.frozen? ⟨g, 1, none⟩ = false := by
  obtain ⟨v, l, h1, _⟩ := h
  exact ⟨h1.cell 1, h1.free 1⟩
theorem RR.fails {w : World} {g : Nat} {S : Nat → Prop} {st : Option (List UInt8)} (h : RR w g S st) : RR (w.setCell ⟨g, 1, none⟩ (.bool true)) g S none := by
  obtain ⟨v, l, h1, h2, h3, _⟩ := h
  exact rfail h1 h2 h3
theorem rnum_rd (g : Nat) (S : Nat → Prop) (st : Option (List UInt8)) (w : World) (h : RR w g S st) (hl : (st.getD []).length ≤ 140737488355328) :
    Calls Try.prog 62 #[.pointer (some ⟨g, 0, none⟩)] w fun e w' => e = .returned (.int .u64 (numOf st).2) ∧ RR w' g S (numOf st).1 ∧ w.grownBy w' (some g) := by
  by_cases hst : (st.getD []) = []
  · have e0 : numOf st = (none, 0) := by
      rcases st with _ | l
      · rfl
      · simp at hst; subst hst; rfl
    have e1 : passed 1 st = (none, []) := by simp [passed, hst]
    rw [e0]
    have E1 := Lib.hid e1
    clear e0 e1 hst
    go_enter Try.func62, Try.ntmps62
    go_wp2_with fail
    refine (rtake_to 1 g S st _ none [] h hl E1.out).mono ?_
    rintro e w1 ⟨A1, c1, rfl, hr1, hb1, hg1⟩
    obtain ⟨k1, f1⟩ := hr1.bad
    go_wp2_with fail
    go_ret
    exact ⟨rfl, hr1.fails, grown_trans hg1 (grown_set _ _ _ _)⟩
  · obtain ⟨x, t, rfl⟩ : ∃ x t, st = some (x :: t) := by
      rcases st with _ | l
      · simp at hst
      · rcases l with _ | ⟨x, t⟩
        · simp at hst
        · exact ⟨x, t, rfl⟩
    clear hst
    have e1 : passed 1 (some (x :: t)) = (some t, [x]) := by
      unfold passed
      rw [if_neg (by simp; omega)]
      rfl
    have E1 := Lib.hid e1
    clear e1
    have hx := x.toNat_lt
    have hl' : ((some t : Option (List UInt8)).getD []).length ≤ 140737488355328 := by simp at hl ⊢; omega
    by_cases h8 : 8 < x.toNat
    · have e0 : numOf (some (x :: t)) = (none, 0) := by simp [numOf, h8]
      rw [e0]
      clear e0
      go_enter Try.func62, Try.ntmps62
      go_wp2_with fail
      refine (rtake_to 1 g S _ _ _ [x] h hl E1.out).mono ?_
      rintro e w1 ⟨A1, c1, rfl, hr1, hb1, hg1⟩
      obtain ⟨k1, f1⟩ := hr1.good
      obtain ⟨b1, o1, rfl, _, _, hc1⟩ := hb1.at_ (by simp)
      have k2 : w1.cell? ⟨b1, o1, none⟩ = some (.int .u8 (x.toNat : Int)) := hc1 0 x rfl
      clear hc1
      go_wp2_with fail
      go_ret
      exact ⟨rfl, hr1.fails, grown_trans hg1 (grown_set _ _ _ _)⟩
    · by_cases ht : t.length < x.toNat
      · have e0 : numOf (some (x :: t)) = (none, 0) := by simp [numOf, ht]
        have e2 : passed (x.toNat : Int) (some t) = (none, []) := by simp [passed, ht]
        rw [e0]
        have E2 := Lib.hid e2
        clear e0 e2
        go_enter Try.func62, Try.ntmps62
        go_wp2_with fail
        refine (rtake_to 1 g S _ _ _ [x] h hl E1.out).mono ?_
        rintro e w1 ⟨A1, c1, rfl, hr1, hb1, hg1⟩
        obtain ⟨k1, f1⟩ := hr1.good
        obtain ⟨b1, o1, rfl, _, _, hc1⟩ := hb1.at_ (by simp)
        have k2 : w1.cell? ⟨b1, o1, none⟩ = some (.int .u8 (x.toNat : Int)) := hc1 0 x rfl
        clear hc1
        go_wp2_with fail
        refine (rtake_to _ g S _ _ _ [] hr1 hl' E2.out).mono ?_
        rintro e w2 ⟨A2, c2, rfl, hr2, hb2, hg2⟩
        obtain ⟨k3, f3⟩ := hr2.bad
        clear k1 f1 k2
        go_wp2_with fail
        go_ret
        exact ⟨rfl, hr2.fails, grown_trans hg1 (grown_trans hg2 (grown_set _ _ _ _))⟩
      · have e2 : passed (x.toNat : Int) (some t) = (some (t.drop x.toNat), t.take x.toNat) := by simp [passed, ht]
        have E2 := Lib.hid e2
        have hdl : (t.take x.toNat).length ≤ 8 := by simp; omega
        have e0 : numOf (some (x :: t)) = (if (t.take x.toNat).head? = some 0 then (none, 0) else (some (t.drop x.toNat), val (t.take x.toNat))) := by simp only [numOf, h8, ht, false_or]
        have E0 := Lib.hid e0
        clear e2 e0 ht
        generalize t.take x.toNat = ds at *
        rcases ds with _ | ⟨d, ds⟩
        · rw [E0.out]
          simp only [List.head?_nil, reduceCtorEq, if_false]
          go_enter Try.func62, Try.ntmps62
          go_wp2_with fail
          refine (rtake_to 1 g S _ _ _ [x] h hl E1.out).mono ?_
          rintro e w1 ⟨A1, c1, rfl, hr1, hb1, hg1⟩
          obtain ⟨k1, f1⟩ := hr1.good
          obtain ⟨b1, o1, rfl, _, _, hc1⟩ := hb1.at_ (by simp)
          have k2 : w1.cell? ⟨b1, o1, none⟩ = some (.int .u8 (x.toNat : Int)) := hc1 0 x rfl
          clear hc1
          go_wp2_with fail
          refine (rtake_to _ g S _ _ _ [] hr1 hl' E2.out).mono ?_
          rintro e w2 ⟨A2, c2, rfl, hr2, hb2, hg2⟩
          obtain ⟨k3, f3⟩ := hr2.good
          clear k1 f1 k2
          go_wp2_with fail
          refine (value_any _ _ [] _ hb2 (by simp)).mono ?_
          rintro e w' ⟨rfl, rfl⟩
          go_wp2
          go_ret
          exact ⟨rfl, hr2, grown_trans hg1 hg2⟩
        · have hd0 := d.toNat_lt
          by_cases hd : d = 0
          · subst hd
            rw [E0.out]
            simp only [List.head?_cons, if_true]
            go_enter Try.func62, Try.ntmps62
            go_wp2_with fail
            refine (rtake_to 1 g S _ _ _ [x] h hl E1.out).mono ?_
            rintro e w1 ⟨A1, c1, rfl, hr1, hb1, hg1⟩
            obtain ⟨k1, f1⟩ := hr1.good
            obtain ⟨b1, o1, rfl, _, _, hc1⟩ := hb1.at_ (by simp)
            have k2 : w1.cell? ⟨b1, o1, none⟩ = some (.int .u8 (x.toNat : Int)) := hc1 0 x rfl
            clear hc1
            go_wp2_with fail
            refine (rtake_to _ g S _ _ _ (0 :: ds) hr1 hl' E2.out).mono ?_
            rintro e w2 ⟨A2, c2, rfl, hr2, hb2, hg2⟩
            obtain ⟨k3, f3⟩ := hr2.good
            obtain ⟨b2, o2, rfl, _, _, hc2⟩ := hb2.at_ (by simp)
            have k4 : w2.cell? ⟨b2, o2, none⟩ = some (.int .u8 0) := hc2 0 0 rfl
            clear hc2 k1 f1 k2
            go_wp2_with fail
            go_ret
            exact ⟨rfl, hr2.fails, grown_trans hg1 (grown_trans hg2 (grown_set _ _ _ _))⟩
          · rw [E0.out]
            have hd' : ¬ d.toNat = 0 := fun e => hd (UInt8.toNat_inj.1 (by simpa using e))
            simp only [List.head?_cons, Option.some.injEq, hd, if_false]
            go_enter Try.func62, Try.ntmps62
            go_wp2_with fail
            refine (rtake_to 1 g S _ _ _ [x] h hl E1.out).mono ?_
            rintro e w1 ⟨A1, c1, rfl, hr1, hb1, hg1⟩
            obtain ⟨k1, f1⟩ := hr1.good
            obtain ⟨b1, o1, rfl, _, _, hc1⟩ := hb1.at_ (by simp)
            have k2 : w1.cell? ⟨b1, o1, none⟩ = some (.int .u8 (x.toNat : Int)) := hc1 0 x rfl
            clear hc1
            go_wp2_with fail
            refine (rtake_to _ g S _ _ _ (d :: ds) hr1 hl' E2.out).mono ?_
            rintro e w2 ⟨A2, c2, rfl, hr2, hb2, hg2⟩
            obtain ⟨k3, f3⟩ := hr2.good
            have hb2' := hb2
            obtain ⟨b2, o2, rfl, _, _, hc2⟩ := hb2.at_ (by simp)
            have k4 : w2.cell? ⟨b2, o2, none⟩ = some (.int .u8 (d.toNat : Int)) := hc2 0 d rfl
            clear hc2 k1 f1 k2
            go_wp2_with fail
            refine (value_any _ _ (d :: ds) _ hb2' hdl).mono ?_
            rintro e w' ⟨rfl, rfl⟩
            go_wp2
            go_ret
            exact ⟨rfl, hr2, grown_trans hg1 hg2⟩
theorem rcount (most : Int) (h1 : most ≤ 9223372036854775807) (g : Nat) (S : Nat → Prop) (st : Option (List UInt8)) (w : World) (h : RR w g S st) (hl : (st.getD []).length ≤ 140737488355328) :
    Calls Try.prog 53 #[.pointer (some ⟨g, 0, none⟩), .int .i64 most] w fun e w' => e = .returned (.int .i64 (cntOf most st).2) ∧ RR w' g S (cntOf most st).1 ∧ w.grownBy w' (some g) := by
  unfold cntOf
  obtain ⟨n, hn⟩ : ∃ n, n = (numOf st).2 := ⟨_, rfl⟩
  obtain ⟨st', hst'⟩ : ∃ s, s = (numOf st).1 := ⟨_, rfl⟩
  have hp : numOf st = (st', n) := by rw [hn, hst']
  have hc := rnum_rd g S st w h hl
  rw [← hn, ← hst'] at hc
  rw [hp]
  simp only
  have HC := Lib.hid hc
  clear hc hn hst' hp hl
  by_cases h0 : most < 0
  · rw [if_pos (.inl h0)]
    go_enter Try.func53, Try.ntmps53
    go_wp2_with fail
    refine (HC.out).mono ?_
    rintro e w1 ⟨rfl, hr, hg⟩
    obtain ⟨v, l, q1, _⟩ := id hr
    have k1 : w1.cell? ⟨g, 1, none⟩ = some (.bool st'.isNone) := q1.cell 1
    have f1 := q1.free 1
    go_wp2_with fail
    go_ret
    exact ⟨rfl, hr.fails, grown_trans hg (grown_set _ _ _ _)⟩
  · by_cases hm : most < n
    · rw [if_pos (.inr hm)]
      have b0 : 0 ≤ most := by omega
      go_enter Try.func53, Try.ntmps53
      go_wp2_with fail
      refine (HC.out).mono ?_
      rintro e w1 ⟨rfl, hr, hg⟩
      obtain ⟨v, l, q1, _⟩ := id hr
      have k1 : w1.cell? ⟨g, 1, none⟩ = some (.bool st'.isNone) := q1.cell 1
      have f1 := q1.free 1
      go_wp2_with fail
      go_ret
      exact ⟨rfl, hr.fails, grown_trans hg (grown_set _ _ _ _)⟩
    · rw [if_neg (by omega)]
      have b0 : 0 ≤ most := by omega
      have b1 : (n : Int) ≤ most := by omega
      go_enter Try.func53, Try.ntmps53
      go_wp2_with fail
      refine (HC.out).mono ?_
      rintro e w1 ⟨rfl, hr, hg⟩
      go_wp2_with fail
      go_ret
      exact ⟨rfl, hr, hg⟩
theorem rtext (most : Int) (h1 : most ≤ 9223372036854775807) (g : Nat) (S : Nat → Prop) (st : Option (List UInt8)) (w : World) (h : RR w g S st) (hl : (st.getD []).length ≤ 140737488355328) :
    Calls Try.prog 52 #[.pointer (some ⟨g, 0, none⟩), .int .i64 most] w fun e w' => ∃ v, e = .returned v ∧ RR w' g S (txtOf most st).1 ∧
      BS w' (fun b => w.heap.size ≤ b) v (txtOf most st).2 ∧ w.grownBy w' (some g) := by
  have hc := rcount most h1 g S st w h hl
  have hcl := cntOf_len most st
  unfold txtOf
  generalize cntOf most st = r at hc hcl ⊢
  obtain ⟨st', n⟩ := r
  simp only at hc hcl ⊢
  have HC := Lib.hid hc
  have hl' : (st'.getD []).length ≤ 140737488355328 := by omega
  clear hc hcl hl
  go_enter Try.func52, Try.ntmps52
  go_wp2_with fail
  refine (HC.out).mono ?_
  rintro e w1 ⟨rfl, hr, hg⟩
  go_wp2_with fail
  refine (rtake _ _ _ _ _ hr hl').mono ?_
  rintro e w2 ⟨v, rfl, hr2, hb2, hg2⟩
  have hs := hg.size
  go_wp2_with fail
  go_ret
  exact ⟨_, rfl, hr2, hb2.mono fun b hb => Nat.le_trans hs hb, grown_trans hg hg2⟩
end
section
open Go.RowKit
theorem zput_five {w : World} {g : Nat} {t : TypeId} {a b c d e x y z u v : Value} (h : KB w g t #[a, b, c, d, e]) : KB (((((w.setCell ⟨g, 0, none⟩ x).setCell ⟨g, 1, none⟩ y).setCell ⟨g, 2, none⟩ z).setCell ⟨g, 3, none⟩ u).setCell ⟨g, 4, none⟩ v) g t #[x, y, z, u, v] :=
  ((((h.put 0 x).put 1 y).put 2 z).put 3 u).put 4 v
theorem zgrown_five (w : World) (g : Nat) (x y z u v : Value) : w.grownBy (((((w.setCell ⟨g, 0, none⟩ x).setCell ⟨g, 1, none⟩ y).setCell ⟨g, 2, none⟩ z).setCell ⟨g, 3, none⟩ u).setCell ⟨g, 4, none⟩ v) (some g) :=
  grown_trans (grown_trans (grown_trans (grown_trans (grown_set _ _ _ _) (grown_set _ _ _ _)) (grown_set _ _ _ _)) (grown_set _ _ _ _)) (grown_set _ _ _ _)
theorem zKB_far {w : World} {g h i : Nat} {t : TypeId} {cs : Array Value} {v : Value} (k : KB w g t cs) (hne : h ≠ g) : KB (w.setCell ⟨h, i, none⟩ v) g t cs :=
  k.keep (Below.heap_setCell w ⟨h, i, none⟩ v g hne.symm)
theorem zRR_far {w : World} {g h i : Nat} {S : Nat → Prop} {st : Option (List UInt8)} {u : Value} (r : RR w g S st) (hne : h ≠ g) (hS : ¬ S h) : RR (w.setCell ⟨h, i, none⟩ u) g S st := by
  obtain ⟨v, l, h1, h2, h3, h4⟩ := r
  exact ⟨v, l, zKB_far h1 hne, h2.setCell hS u, h3, h4⟩
theorem zRR_alloc {w : World} {g : Nat} {S : Nat → Prop} {st : Option (List UInt8)} (r : RR w g S st) (o : Obj) : RR (w.alloc o) g S st := r.below ((Below.refl _ _).alloc (Nat.le_refl _) o)
theorem zRR_grown {w w' : World} {g : Nat} {S : Nat → Prop} {st : Option (List UInt8)} {row : Option Nat} (r : RR w g S st) (hg : w.grownBy w' row) (h1 : row ≠ some g) (h2 : ∀ x, row = some x → ¬ S x) : RR w' g S st := by
  obtain ⟨v, l, k1, k2, k3, k4⟩ := r
  exact ⟨v, l, k1.grown hg h1, k2.grown hg h2, k3, k4⟩
theorem zgrown_new {a b c : World} {row : Option Nat} {h : Nat} (p : a.grownBy b row) (q : b.grownBy c (some h)) (hh : a.heap.size ≤ h) : a.grownBy c row :=
  ⟨q.os.trans p.os, q.tape.trans p.tape, q.output.trans p.output, Nat.le_trans p.size q.size, fun k hk hr => (q.block k (Nat.lt_of_lt_of_le hk p.size) (by simp; omega)).trans (p.block k hk hr)⟩
theorem zgrown_newX {a b c : World} {row row2 : Option Nat} (p : a.grownBy b row) (q : b.grownBy c row2) (hh : ∀ x, row2 = some x → a.heap.size ≤ x) : a.grownBy c row :=
  ⟨q.os.trans p.os, q.tape.trans p.tape, q.output.trans p.output, Nat.le_trans p.size q.size, fun k hk hr => (q.block k (Nat.lt_of_lt_of_le hk p.size) (fun e => by have := hh k e.symm; omega)).trans (p.block k hk hr)⟩
theorem zsets_size (w : World) (g : Nat) (x y z u v : Value) : w.heap.size = (((((w.setCell ⟨g, 0, none⟩ x).setCell ⟨g, 1, none⟩ y).setCell ⟨g, 2, none⟩ z).setCell ⟨g, 3, none⟩ u).setCell ⟨g, 4, none⟩ v).heap.size := by simp [World.setCell]
theorem zsets_block (w : World) (g b : Nat) (x y z u v : Value) (h : b ≠ g) : (((((w.setCell ⟨g, 0, none⟩ x).setCell ⟨g, 1, none⟩ y).setCell ⟨g, 2, none⟩ z).setCell ⟨g, 3, none⟩ u).setCell ⟨g, 4, none⟩ v).heap[b]? = w.heap[b]? :=
  (Below.heap_setCell _ ⟨g, 4, none⟩ v b h).trans ((Below.heap_setCell _ ⟨g, 3, none⟩ u b h).trans ((Below.heap_setCell _ ⟨g, 2, none⟩ z b h).trans ((Below.heap_setCell _ ⟨g, 1, none⟩ y b h).trans (Below.heap_setCell w ⟨g, 0, none⟩ x b h))))
theorem zown_form {w : World} {B e size n : Nat} {v : Value} {xs : List Value} (h : w.ownsRow B e size v n xs) : ∃ A c, v = .slice A n c := by
  obtain ⟨_, h2⟩ := h
  rcases h2 with ⟨rfl, rfl⟩ | ⟨g', c, cur, rfl, _⟩
  · exact ⟨none, 0, rfl⟩
  · exact ⟨_, c, rfl⟩
theorem zown_lt {w : World} {B e size n : Nat} {v : Value} {xs : List Value} (h : w.ownsRow B e size v n xs) (k : Nat) (hk : v.ownBlock = some k) : k < w.heap.size := by
  obtain ⟨_, h2⟩ := h
  rcases h2 with ⟨rfl, _⟩ | ⟨g', c, cur, rfl, _, hg, _⟩
  · simp [Value.ownBlock] at hk
  · simp [Value.ownBlock] at hk
    subst hk
    exact (Array.getElem?_eq_some_iff.1 hg).1
theorem zown_ge {w : World} {B e size n : Nat} {v : Value} {xs : List Value} (h : w.ownsRow B e size v n xs) (k : Nat) (hk : v.ownBlock = some k) : B ≤ k := by
  obtain ⟨_, h2⟩ := h
  rcases h2 with ⟨rfl, _⟩ | ⟨g', c, cur, rfl, hb, _⟩
  · simp [Value.ownBlock] at hk
  · simp [Value.ownBlock] at hk
    omega
theorem zown_grown {w w' : World} {base e size n g : Nat} {v : Value} {xs : List Value} (h : w.ownsRow base e size v n xs) (hg : w.grownBy w' (some g)) (hb : g < base) : w'.ownsRow base e size v n xs :=
  h.kept hg (.inr (own_ne h hb))
theorem ZS.restrict {α : Type} {w : World} {S : Nat → Prop} {E E' : α → Value → Value → Value → Value → Value → Prop} {v : Value} {ks : List α} (h : ZS w S E v ks) (he : ∀ t c0 c1 c2 c3 c4, E t c0 c1 c2 c3 c4 → E' t c0 c1 c2 c3 c4) :
    ZS w (fun b => S b ∧ b < w.heap.size) E' v ks := by
  obtain ⟨A, c, e, hl, hc, hn, hx⟩ := h
  refine ⟨A, c, e, hl, hc, hn, fun h0 => ?_⟩
  obtain ⟨b, o, ea, sb, hb, hx⟩ := hx h0
  refine ⟨b, o, ea, ⟨sb, hb⟩, hb, fun i t hi => ?_⟩
  obtain ⟨c0, c1, c2, c3, c4, k0, k1, k2, k3, k4, ke⟩ := hx i t hi
  exact ⟨c0, c1, c2, c3, c4, k0, k1, k2, k3, k4, he _ _ _ _ _ _ ke⟩
theorem ZX.lt {w : World} {S : Nat → Prop} : ∀ (f : Nat) (t : Sc f) (c0 c1 c2 c3 c4 : Value), ZX w S f t c0 c1 c2 c3 c4 → ZX w (fun b => S b ∧ b < w.heap.size) f t c0 c1 c2 c3 c4
  | 0, t, _, _, _, _, _, _ => nomatch t
  | f + 1, (t : Ns (Sc f)), c0, c1, c2, c3, c4, h => by
    obtain ⟨h0, h1, h2, h3, h4, h5, h6, h7, h8⟩ := h
    exact ⟨h0, h1, h2, h3, h4, h5, h6, h7, h8.restrict fun u d0 d1 d2 d3 d4 hu => ZX.lt f u d0 d1 d2 d3 d4 hu⟩
theorem zread_ZV {wr w' : World} {B g6 d : Nat} {k fr to_ : Int} {nm : List UInt8} {ks : List (Sc (d + 1))} {qs : List QuZ} {kv : Value} (hI : I64 k) (hn : nm.length ≤ maxLen) (hf : I64 fr) (ht : I64 to_)
    (how : wr.ownsRow (g6 + 1) 24 5 kv qs.length (flatZ qs)) (hq : QZ wr (fun b => g6 < b) (d + 1) qs ks) (hB : B ≤ g6) (hs : wr.heap.size = w'.heap.size) (hk : ∀ b, g6 < b → w'.heap[b]? = wr.heap[b]?) :
    ZV w' (fun b => B ≤ b ∧ b < w'.heap.size) (d + 1 + 1) (.agg #[.int .i64 k, strV nm, .int .i64 fr, .int .i64 to_, kv]) (⟨k, nm, fr, to_, ks⟩ : Ns (Sc (d + 1))) := by
  have h : ZX wr (fun b => g6 < b) (d + 1 + 1) (⟨k, nm, fr, to_, ks⟩ : Ns (Sc (d + 1))) (.int .i64 k) (strV nm) (.int .i64 fr) (.int .i64 to_) kv := ⟨rfl, hI, rfl, hn, rfl, hf, rfl, ht, ZS_of_own how hq fun b hb _ => hb⟩
  exact ⟨_, _, _, _, _, rfl, ZX.keepS (ZX.lt _ _ _ _ _ _ _ h) (Nat.le_of_eq hs) (fun b hb _ => hk b hb.1) fun b hb => ⟨by omega, by omega⟩⟩
def SNZ (g6 : Nat) (w : World) (kv : Value) : Nat → Prop := fun b => g6 < b ∧ kv.ownBlock ≠ some b ∧ b < w.heap.size
theorem QZ.more {wr w5 w7 w8 : World} {g g6 d : Nat} {kv v7 : Value} {qs : List QuZ} {ks : List (Sc (d + 1))} {e0 e1 e2 e3 e4 : Value} {t : Sc (d + 1)} {o : Obj} {B n e size : Nat} {xs : List Value} (hq : QZ wr (SNZ g6 wr kv) (d + 1) qs ks) (tm : ZX w5 (fun b => wr.heap.size ≤ b ∧ b < w5.heap.size) (d + 1) t e0 e1 e2 e3 e4)
    (how : wr.ownsRow B e size kv n xs) (G5 : wr.grownBy w5 (some g)) (hg : g < g6) (h6 : g6 < wr.heap.size) (hg7 : (w5.alloc o).grownBy w7 kv.ownBlock) (h7 : v7.ownBlock = kv.ownBlock ∨ v7.ownBlock = some (w5.alloc o).heap.size)
    (hs : w7.heap.size = w8.heap.size) (hk : ∀ b, b ≠ g6 → w8.heap[b]? = w7.heap[b]?) : QZ w8 (SNZ g6 w8 v7) (d + 1) (qs ++ [(e0, e1, e2, e3, e4)]) (ks ++ [t]) := by
  have s5 := G5.size
  have s7 := hg7.size
  have sa : (w5.alloc o).heap.size = w5.heap.size + 1 := by simp
  have hkv := zown_lt how
  refine QZ.append ?_ ?_
  · refine hq.keepL (by omega) (fun b hb hlt => ?_) fun b hb _ => ?_
    · obtain ⟨b1, b2, b3⟩ := hb
      rw [hk b (by omega), hg7.block b (by omega) (fun e => b2 e.symm), Below.heap_alloc w5 o b (by omega), G5.block b hlt (by simp; omega)]
    · obtain ⟨b1, b2, b3⟩ := hb
      refine ⟨b1, ?_, by omega⟩
      rcases h7 with h | h
      · rw [h]; exact b2
      · rw [h]; simp; omega
  · refine (QZ.one tm).keepL (by omega) (fun b hb hlt => ?_) fun b hb _ => ?_
    · have hne : kv.ownBlock ≠ some b := fun e => by have := hkv b e; omega
      rw [hk b (by omega), hg7.block b (by omega) (fun e => hne e.symm), Below.heap_alloc w5 o b (by omega)]
    · have hne : kv.ownBlock ≠ some b := fun e => by have := hkv b e; omega
      refine ⟨by omega, ?_, by omega⟩
      rcases h7 with h | h
      · rw [h]; exact hne
      · rw [h]; simp; omega
/-! Kids read so far. -/
def SofarZ {α : Type} (g : Option (List UInt8) → Option (List UInt8) × α) (r : Option (List UInt8) × List α) (n : Nat) (st : Option (List UInt8)) (ks : List α) : Prop := r = ((kidsR g n st).1, ks ++ (kidsR g n st).2)
section
variable {α : Type} {g : Option (List UInt8) → Option (List UInt8) × α} {r : Option (List UInt8) × List α} {n : Nat} {st : Option (List UInt8)} {ks : List α}
theorem SofarZ.start (g : Option (List UInt8) → Option (List UInt8) × α) (n : Nat) (st : Option (List UInt8)) : SofarZ g (kidsR g n st) n st [] := rfl
theorem SofarZ.step {l : List UInt8} (h : SofarZ g r (n + 1) (some l) ks) : SofarZ g r n (g (some l)).1 (ks ++ [(g (some l)).2]) := by
  unfold SofarZ at h ⊢
  rw [h, kidsR]
  simp
theorem SofarZ.done (h : SofarZ g r n st ks) (he : n = 0 ∨ st = none) : r = (st, ks) := by
  unfold SofarZ at h
  rcases he with rfl | rfl
  · rw [h, kidsR, List.append_nil]
  · rw [h]
    cases n with
    | zero => rw [kidsR, List.append_nil]
    | succ n => rw [kidsR, List.append_nil]
theorem kidsR_le (h : ∀ st, ((g st).1.getD []).length ≤ (st.getD []).length) : ∀ (n : Nat) (st : Option (List UInt8)), ((kidsR g n st).1.getD []).length ≤ (st.getD []).length
  | 0, st => by rw [kidsR]; exact Nat.le_refl _
  | n + 1, none => by rw [kidsR]; simp
  | n + 1, some l => by
    rw [kidsR]
    exact Nat.le_trans (kidsR_le h n _) (h _)
end
theorem zpassed_none : passed 1 none = (none, []) := rfl
theorem zpassed_nil : passed 1 (some []) = (none, []) := rfl
theorem zpassed_cons (b : UInt8) (l : List UInt8) : passed 1 (some (b :: l)) = (some l, [b]) := by
  unfold passed
  simp only [Option.getD_some, Option.map_some, List.length_cons]
  rw [if_neg (by omega)]
  rfl
theorem ztxt_len (m : Int) (st : Option (List UInt8)) : ((txtOf m st).1.getD []).length ≤ (st.getD []).length := by
  have h := cntOf_len m st
  unfold txtOf passed
  split
  · simp
  · cases hc : (cntOf m st).1 with
    | none => simp
    | some l =>
      rw [hc] at h
      simp at h ⊢
      omega
theorem ztxt_few (m : Int) (st : Option (List UInt8)) : (txtOf m st).2.length ≤ (st.getD []).length := by
  have h := cntOf_len m st
  unfold txtOf passed
  split
  · simp
  · rw [List.length_take]
    omega
theorem zcnt_most (m : Int) (st : Option (List UInt8)) (h : 0 ≤ m) : ((cntOf m st).2 : Int) ≤ m := by
  unfold cntOf
  split
  · simpa using h
  · rename_i hx
    simp at hx
    omega
theorem nameR_le (k : Int) (st : Option (List UInt8)) : ((nameR k st).1.getD []).length ≤ (st.getD []).length := by
  unfold nameR
  split
  · exact ztxt_len 16 st
  · exact Nat.le_refl _
theorem tickR_le (k : Int) (st : Option (List UInt8)) : ((tickR k st).1.getD []).length ≤ (st.getD []).length := by
  unfold tickR
  split
  · exact cntOf_len _ st
  · exact Nat.le_refl _
theorem manyR_le (k : Int) (st : Option (List UInt8)) : ((manyR k st).1.getD []).length ≤ (st.getD []).length := by
  unfold manyR
  split
  · exact cntOf_len _ st
  · split <;> exact Nat.le_refl _
theorem readSc_le : ∀ (d : Nat) (st : Option (List UInt8)), ((readSc d st).1.getD []).length ≤ (st.getD []).length
  | 0, st => by rw [rs_zero]; simp
  | d + 1, none => by rw [rs_none]; simp
  | d + 1, some [] => by rw [rs_nil]; simp
  | d + 1, some (b :: l) => by
    rw [rs_cons]
    dsimp only
    refine Nat.le_trans (kidsR_le (fun st => readSc_le d st) _ _) (Nat.le_trans (manyR_le _ _) (Nat.le_trans (tickR_le _ _) (Nat.le_trans (tickR_le _ _) (Nat.le_trans (nameR_le _ _) ?_))))
    simp
def ReadZ (w : World) (g : Nat) (S : Nat → Prop) (d : Nat) (st : Option (List UInt8)) (e : Ending) (w' : World) : Prop :=
  ∃ v, e = .returned v ∧ RR w' g S (readSc d st).1 ∧ ZV w' (fun b => w.heap.size ≤ b ∧ b < w'.heap.size) (d + 1) v (readSc d st).2 ∧ w.grownBy w' (some g)
theorem zero_ZV (w : World) (S : Nat → Prop) (f : Nat) : ZV w S (f + 1) (.agg #[.int .i64 0, .string ⟨#[]⟩, .int .i64 0, .int .i64 0, .slice none 0 0]) (zeroNs : Ns (Sc f)) := ⟨_, _, _, _, _, rfl, zeroZ w S f⟩
end
section
open Go.RowKit
set_option maxHeartbeats 2000000 in
theorem zread_fails (S : Nat → Prop) (d : Nat) (g : Nat) (st st' : Option (List UInt8)) (lst : List UInt8) (w : World) (h : RR w g S st) (hS : ∀ b, S b → b < w.heap.size) (hl : (st.getD []).length ≤ 140737488355328) (hd : d ≤ 1000000)
    (hp : passed 1 st = (st', lst)) (hx : readSc d st = (none, zeroNs)) (hc : st' = none ∨ ((∃ l, st' = some l) ∧ d = 0)) :
    Calls Try.prog 32 #[.pointer (some ⟨g, 0, none⟩), .int .i64 d] w (ReadZ w g S d st) := by
  unfold ReadZ
  rw [hx]
  clear hx
  have hg := h.lt
  have K := KB.new w 24 #[.int .i64 0, .string ⟨#[]⟩, .int .i64 0, .int .i64 0, .slice none 0 0]
  have G := grown_of_below ((Below.refl w.heap.size w).alloc (Nat.le_refl _) (.cells #[.int .i64 0, .string ⟨#[]⟩, .int .i64 0, .int .i64 0, .slice none 0 0] 24)) (some g)
  have ht := rtake_to 1 g S st _ st' lst (zRR_alloc h (.cells #[.int .i64 0, .string ⟨#[]⟩, .int .i64 0, .int .i64 0, .slice none 0 0] 24)) hl hp
  have hne : ¬ w.heap.size = g := by omega
  have hne2 : ¬ g = w.heap.size := by omega
  have hSg : ¬ S w.heap.size := fun h => Nat.lt_irrefl _ (hS _ h)
  rcases hc with rfl | ⟨⟨l, rfl⟩, rfl⟩
  · go_enter Try.func32, Try.ntmps32
    go_wp2_with fail
    refine ht.mono ?_
    rintro e w1 ⟨A, c, rfl, hr1, hb1, hg1⟩
    have K1 := K.grown hg1 (by simp; omega)
    have G1 := grown_trans G hg1
    obtain ⟨q1, q2⟩ := hr1.bad
    clear ht K G
    have c0 : w1.cell? ⟨w.heap.size, 0, none⟩ = some (.int .i64 0) := K1.cell 0
    have c1 : w1.cell? ⟨w.heap.size, 1, none⟩ = some (.string ⟨#[]⟩) := K1.cell 1
    have c2 : w1.cell? ⟨w.heap.size, 2, none⟩ = some (.int .i64 0) := K1.cell 2
    have c3 : w1.cell? ⟨w.heap.size, 3, none⟩ = some (.int .i64 0) := K1.cell 3
    have c4 : w1.cell? ⟨w.heap.size, 4, none⟩ = some (.slice none 0 0) := K1.cell 4
    have f0 := K1.free 0
    have f1 := K1.free 1
    have f2 := K1.free 2
    have f3 := K1.free 3
    have f4 := K1.free 4
    have F := hr1.fails
    have KF := zKB_far (h := g) (i := 1) (v := .bool true) K1 hne2
    have G2 := grown_trans G1 (grown_set w1 g 1 (.bool true))
    clear hr1 hb1 h
    go_wp2_with fail
    refine bodyPost_ret (results_cell_row (P := Try.prog) rfl _ _ w.heap.size _ _ (0, 0) _ rfl (zput_five KF) Try.underlying24 rfl (by kernel_rfl)) rfl
      ⟨_, rfl, zRR_far (zRR_far (zRR_far (zRR_far (zRR_far F hne hSg) hne hSg) hne hSg) hne hSg) hne hSg, zero_ZV _ _ _, zgrown_new G2 (zgrown_five _ _ _ _ _ _ _) (Nat.le_refl _)⟩
  · go_enter Try.func32, Try.ntmps32
    go_wp2_with fail
    refine ht.mono ?_
    rintro e w1 ⟨A, c, rfl, hr1, hb1, hg1⟩
    have K1 := K.grown hg1 (by simp; omega)
    have G1 := grown_trans G hg1
    obtain ⟨q1, q2⟩ := hr1.good
    clear ht K G
    have c0 : w1.cell? ⟨w.heap.size, 0, none⟩ = some (.int .i64 0) := K1.cell 0
    have c1 : w1.cell? ⟨w.heap.size, 1, none⟩ = some (.string ⟨#[]⟩) := K1.cell 1
    have c2 : w1.cell? ⟨w.heap.size, 2, none⟩ = some (.int .i64 0) := K1.cell 2
    have c3 : w1.cell? ⟨w.heap.size, 3, none⟩ = some (.int .i64 0) := K1.cell 3
    have c4 : w1.cell? ⟨w.heap.size, 4, none⟩ = some (.slice none 0 0) := K1.cell 4
    have f0 := K1.free 0
    have f1 := K1.free 1
    have f2 := K1.free 2
    have f3 := K1.free 3
    have f4 := K1.free 4
    have F := hr1.fails
    have KF := zKB_far (h := g) (i := 1) (v := .bool true) K1 hne2
    have G2 := grown_trans G1 (grown_set w1 g 1 (.bool true))
    clear hr1 hb1 h
    go_wp2_with fail
    refine bodyPost_ret (results_cell_row (P := Try.prog) rfl _ _ w.heap.size _ _ (0, 0) _ rfl (zput_five KF) Try.underlying24 rfl (by kernel_rfl)) rfl
      ⟨_, rfl, zRR_far (zRR_far (zRR_far (zRR_far (zRR_far F hne hSg) hne hSg) hne hSg) hne hSg) hne hSg, zero_ZV _ _ _, zgrown_new G2 (zgrown_five _ _ _ _ _ _ _) (Nat.le_refl _)⟩
end
end Go.Proofs.Ytcbkokhjdleoeaa
