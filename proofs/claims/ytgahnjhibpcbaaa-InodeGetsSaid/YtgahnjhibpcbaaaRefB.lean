/-
  The document's own Reader of layer 1: Value, and the methods Take, Num, Count, Text, Left: each one's contract over the loaded program.
  No condition but the worlds' shapes that each contract names.
-/
import Derived.Test.YtgahnjhibpcbaaaRefA
namespace Go.Proofs.Ytgahnjhibpcbaaa
open Go.RowKit

/-- The document's reader's block: what is left (none: it failed), in blocks of which S holds. -/
def RR (w : World) (g : Nat) (S : Nat → Prop) (st : Option (List UInt8)) : Prop :=
  ∃ v l, KB w g 61 #[v, .bool st.isNone] ∧ BS w S v l ∧ ¬ S g ∧ (∀ l', st = some l' → l = l')

theorem RR.below {w w' : World} {g : Nat} {S : Nat → Prop} {st : Option (List UInt8)} (h : RR w g S st) (hb : Below w.heap.size w w') : RR w' g S st := by
  obtain ⟨v, l, h1, h2, h3, h4⟩ := h
  exact ⟨v, l, h1.below hb h1.lt, h2.below' hb, h3, h4⟩

theorem RR.lt {w : World} {g : Nat} {S : Nat → Prop} {st : Option (List UInt8)} (h : RR w g S st) : g < w.heap.size := by
  obtain ⟨v, l, h1, h2, h3, h4⟩ := h
  exact h1.lt

theorem rfail {w : World} {g : Nat} {S : Nat → Prop} {v : Value} {l : List UInt8} {f : Bool} (h1 : KB w g 61 #[v, .bool f]) (h2 : BS w S v l) (h3 : ¬ S g) :
    RR (w.setCell ⟨g, 1, none⟩ (.bool true)) g S none := ⟨v, l, h1.put 1 _, h2.setCell h3 _, h3, fun _ h => by cases h⟩

theorem rtake (n : Int) (g : Nat) (S : Nat → Prop) (st : Option (List UInt8)) (w : World) (h : RR w g S st) (hl : (st.getD []).length ≤ 140737488355328) :
    Calls Try.prog 57 #[.pointer (some ⟨g, 0, none⟩), .int .i64 n] w fun e w' => ∃ v, e = .returned v ∧ RR w' g S (passed n st).1 ∧
      BS w' (fun b => w.heap.size ≤ b) v (passed n st).2 ∧ w.grownBy w' (some g) := by
  obtain ⟨v, l, k1, k2, k3, k4⟩ := h
  have hg := k1.lt
  cases st with
  | none =>
    have e0 : passed n none = (none, []) := by unfold passed; split <;> simp
    rw [e0]
    clear e0
    have c1 : w.cell? ⟨g, 1, none⟩ = some (.bool true) := k1.cell 1
    have f1 := k1.free 1
    go_enter Try.func57, Try.ntmps57
    go_wp2
    go_ret
    exact ⟨_, rfl, rfail k1 k2 k3, BS.nil _ _, grown_set _ _ _ _⟩
  | some l' =>
    obtain rfl := k4 l' rfl
    obtain ⟨A, c, rfl, kl, kc, kn⟩ := k2.form
    have c1 : w.cell? ⟨g, 1, none⟩ = some (.bool false) := k1.cell 1
    have c0 : w.cell? ⟨g, 0, none⟩ = some (.slice A l.length c) := k1.cell 0
    have f1 := k1.free 1
    have f0 := k1.free 0
    have b3 : c ≤ 9223372036854775807 := kc
    by_cases h0 : n < 0
    · have e0 : passed n (some l) = (none, []) := by unfold passed; rw [if_pos (.inl h0)]
      rw [e0]
      clear e0
      go_enter Try.func57, Try.ntmps57
      go_wp2
      go_ret
      exact ⟨_, rfl, rfail k1 k2 k3, BS.nil _ _, grown_set _ _ _ _⟩
    · by_cases h1 : (l.length : Int) < n
      · have e0 : passed n (some l) = (none, []) := by unfold passed; rw [if_pos (.inr h1)]
        rw [e0]
        clear e0
        have h0' : 0 ≤ n := by omega
        go_enter Try.func57, Try.ntmps57
        go_wp2
        go_ret
        exact ⟨_, rfl, rfail k1 k2 k3, BS.nil _ _, grown_set _ _ _ _⟩
      · obtain ⟨k, rfl⟩ := Int.eq_ofNat_of_zero_le (show 0 ≤ n by omega)
        have e0 : passed (k : Int) (some l) = (some (l.drop k), l.take k) := by
          unfold passed
          rw [if_neg (by simp; omega)]
          simp
        rw [e0]
        clear e0
        have hkl : k ≤ l.length := by omega
        have b1 : (k : Int) ≤ l.length := by omega
        have b4 : k ≤ c := by omega
        have t1 := k2.take k hkl
        have hll : (l.take k).length = k := by simp; omega
        by_cases hp : 0 < l.length
        · obtain ⟨b, o, rfl, sb, hb, hx⟩ := k2.at_ hp
          have t2 := k2.drop k hkl
          clear hx
          go_enter Try.func57, Try.ntmps57
          go_wp2_with fail
          refine (copy_any S _ (l.take k) _ t1 (by simp at hl; omega)).mono ?_
          rintro e w1 ⟨v1, rfl, ho1, bl1⟩
          have x1 := own_BS ho1
          obtain ⟨A1, c1', rfl, _⟩ := x1.form
          rw [hll] at x1
          have q1 := k1.below bl1 hg
          have d0 : w1.cell? ⟨g, 0, none⟩ = some (.slice (some ⟨b, o, none⟩) l.length c) := q1.cell 0
          have g0 := q1.free 0
          have t2' := t2.below' bl1
          have gr := grown_of_below bl1 (some g)
          have hgn : ¬ (w.heap.size ≤ g ∧ g < w1.heap.size) := by omega
          clear ho1 c0 c1 f0 f1
          by_cases hck : c = k
          · rw [if_pos hck, hck, Nat.sub_self] at t2'
            go_wp2
            go_ret
            exact ⟨_, rfl, ⟨_, _, q1.put 0 _, t2'.setCell k3 _, k3, fun _ h => by injection h⟩, (x1.setCell hgn _).mono fun _ h => h.1, grown_trans gr (grown_set _ _ _ _)⟩
          · rw [if_neg hck] at t2'
            go_wp2
            go_ret
            exact ⟨_, rfl, ⟨_, _, q1.put 0 _, t2'.setCell k3 _, k3, fun _ h => by injection h⟩, (x1.setCell hgn _).mono fun _ h => h.1, grown_trans gr (grown_set _ _ _ _)⟩
        · have hle : l = [] := List.eq_nil_of_length_eq_zero (by omega)
          subst hle
          have hk0 : k = 0 := by simpa using hkl
          subst hk0
          have e1 : ([] : List UInt8).take 0 = [] := rfl
          have e2 : ([] : List UInt8).drop 0 = [] := rfl
          rw [e1, e2]
          rw [e1] at t1 hll
          clear e1 e2 hll h1 hl
          have hA : ∀ (w1 : World) (A1 : Option Addr), BS w1 S (.slice A 0 c) [] := fun w1 A1 => ⟨A, c, rfl, by simp, kc, kn, fun h => absurd h (by simp)⟩
          cases A with
          | none =>
            obtain rfl := kn rfl
            go_enter Try.func57, Try.ntmps57
            go_wp2_with fail
            refine (copy_any S _ [] _ t1 (by simp)).mono ?_
            rintro e w1 ⟨v1, rfl, ho1, bl1⟩
            have x1 := own_BS ho1
            obtain ⟨A1, c1', rfl, _⟩ := x1.form
            have q1 := k1.below bl1 hg
            have d0 : w1.cell? ⟨g, 0, none⟩ = some (.slice none 0 0) := q1.cell 0
            have g0 := q1.free 0
            have gr := grown_of_below bl1 (some g)
            have hgn : ¬ (w.heap.size ≤ g ∧ g < w1.heap.size) := by omega
            clear ho1 c0 c1 f0 f1
            go_wp2
            go_ret
            exact ⟨_, rfl, ⟨_, _, q1.put 0 _, hA _ none, k3, fun _ h => by injection h⟩, (x1.setCell hgn _).mono fun _ h => h.1, grown_trans gr (grown_set _ _ _ _)⟩
          | some ad =>
            go_enter Try.func57, Try.ntmps57
            go_wp2_with fail
            refine (copy_any S _ [] _ t1 (by simp)).mono ?_
            rintro e w1 ⟨v1, rfl, ho1, bl1⟩
            have x1 := own_BS ho1
            obtain ⟨A1, c1', rfl, _⟩ := x1.form
            have q1 := k1.below bl1 hg
            have d0 : w1.cell? ⟨g, 0, none⟩ = some (.slice (some ad) 0 c) := q1.cell 0
            have g0 := q1.free 0
            have gr := grown_of_below bl1 (some g)
            have hgn : ¬ (w.heap.size ≤ g ∧ g < w1.heap.size) := by omega
            clear ho1 c0 c1 f0 f1
            go_wp2
            go_ret
            exact ⟨_, rfl, ⟨_, _, q1.put 0 _, hA _ none, k3, fun _ h => by injection h⟩, (x1.setCell hgn _).mono fun _ h => h.1, grown_trans gr (grown_set _ _ _ _)⟩

/-- Take, its answer spelt out. -/
theorem rtake_to (n : Int) (g : Nat) (S : Nat → Prop) (st : Option (List UInt8)) (w : World) (st' : Option (List UInt8)) (l : List UInt8) (h : RR w g S st) (hl : (st.getD []).length ≤ 140737488355328) (hp : passed n st = (st', l)) :
    Calls Try.prog 57 #[.pointer (some ⟨g, 0, none⟩), .int .i64 n] w fun e w' => ∃ A c, e = .returned (.slice A l.length c) ∧ RR w' g S st' ∧ BS w' (fun b => w.heap.size ≤ b) (.slice A l.length c) l ∧ w.grownBy w' (some g) := by
  refine (rtake n g S st w h hl).mono ?_
  rintro e w' ⟨v, rfl, hr, hb, hg⟩
  rw [hp] at hr hb
  obtain ⟨A, c, rfl, _⟩ := hb.form
  exact ⟨A, c, rfl, hr, hb, hg⟩

theorem u64_sum (a b : Nat) (h : a < 72057594037927936) (hb : b < 256) : IntKind.u64.wrap (IntKind.u64.wrap ((a : Int) * 256) + IntKind.u64.wrap (b : Int)) = ((a * 256 + b : Nat) : Int) := by
  rw [IntWalk.u64_in ((a : Int) * 256) (by omega), IntWalk.u64_in (b : Int) (by omega), IntWalk.u64_in _ (by omega)]
  omega

theorem value_any (S : Nat → Prop) (v : Value) (l : List UInt8) (w : World) (h : BS w S v l) (hl : l.length ≤ 8) :
    Calls Try.prog 65 #[v] w fun e w' => e = .returned (.int .u64 (val l : Nat)) ∧ w = w' := by
  obtain ⟨A, c, rfl, _⟩ := h.form
  go_enter Try.func65, Try.ntmps65
  go_wp2
  go_loop [3, 4] (fun n i => ∃ k : Nat, k ≤ l.length ∧ i = .int .i64 k ∧ n = .int .u64 (val (l.take k) : Nat)) (fun _ i => l.length - (intOf i).toNat)
  case atStart => exact ⟨0, by omega, rfl, rfl⟩
  case round =>
    obtain ⟨k, hk, rfl, rfl⟩ := hrel
    by_cases hlt : k < l.length
    · obtain ⟨b, o, rfl, _, _, hx⟩ := h.at_ (by omega)
      have kc := hx k l[k] (List.getElem?_eq_getElem hlt)
      clear hx h
      go_wp2
      go_round
      case rel =>
        refine ⟨k + 1, by omega, by go_num, ?_⟩
        rw [val_take_succ l k hlt, ← u64_sum _ _ (val_lt_seven _ (by simp; omega)) (l[k]).toNat_lt]
      case measure => simp [intOf]; omega
    · have e : l.take k = l := List.take_of_length_le (by omega)
      rw [e]
      go_wp2
      go_ret
      exact ⟨rfl, rfl⟩

/-- The block of a reader that has failed, and that of one that has not. -/
theorem RR.bad {w : World} {g : Nat} {S : Nat → Prop} (h : RR w g S none) : w.cell? ⟨g, 1, none⟩ = some (.bool true) ∧ w.frozen? ⟨g, 1, none⟩ = false := by
  obtain ⟨v, l, h1, _⟩ := h
  exact ⟨h1.cell 1, h1.free 1⟩
theorem RR.good {w : World} {g : Nat} {S : Nat → Prop} {l : List UInt8} (h : RR w g S (some l)) : w.cell? ⟨g, 1, none⟩ = some (.bool false) ∧ w.frozen? ⟨g, 1, none⟩ = false := by
  obtain ⟨v, l, h1, _⟩ := h
  exact ⟨h1.cell 1, h1.free 1⟩
theorem RR.fails {w : World} {g : Nat} {S : Nat → Prop} {st : Option (List UInt8)} (h : RR w g S st) : RR (w.setCell ⟨g, 1, none⟩ (.bool true)) g S none := by
  obtain ⟨v, l, h1, h2, h3, _⟩ := h
  exact rfail h1 h2 h3

theorem rnum_rd (g : Nat) (S : Nat → Prop) (st : Option (List UInt8)) (w : World) (h : RR w g S st) (hl : (st.getD []).length ≤ 140737488355328) :
    Calls Try.prog 58 #[.pointer (some ⟨g, 0, none⟩)] w fun e w' => e = .returned (.int .u64 (numOf st).2) ∧ RR w' g S (numOf st).1 ∧ w.grownBy w' (some g) := by
  by_cases hst : (st.getD []) = []
  · have e0 : numOf st = (none, 0) := by
      rcases st with _ | l
      · rfl
      · simp at hst; subst hst; rfl
    have e1 : passed 1 st = (none, []) := by simp [passed, hst]
    rw [e0]
    have E1 := Lib.hid e1
    clear e0 e1 hst
    go_enter Try.func58, Try.ntmps58
    go_wp2_with fail
    refine (rtake_to 1 g S st _ none [] h hl E1.out).mono ?_
    rintro e w1 ⟨A1, c1, rfl, hr1, hb1, hg1⟩
    obtain ⟨k1, f1⟩ := hr1.bad
    go_wp2_with fail
    go_ret
    exact ⟨rfl, hr1.fails, grown_trans hg1 (grown_set _ _ _ _)⟩
  · obtain ⟨x, t, rfl⟩ : ∃ x t, st = some (x :: t) := by
      rcases st with _ | l
      · simp at hst
      · rcases l with _ | ⟨x, t⟩
        · simp at hst
        · exact ⟨x, t, rfl⟩
    clear hst
    have e1 : passed 1 (some (x :: t)) = (some t, [x]) := by
      unfold passed
      rw [if_neg (by simp; omega)]
      rfl
    have E1 := Lib.hid e1
    clear e1
    have hx := x.toNat_lt
    have hl' : ((some t : Option (List UInt8)).getD []).length ≤ 140737488355328 := by simp at hl ⊢; omega
    by_cases h8 : 8 < x.toNat
    · have e0 : numOf (some (x :: t)) = (none, 0) := by simp [numOf, h8]
      rw [e0]
      clear e0
      go_enter Try.func58, Try.ntmps58
      go_wp2_with fail
      refine (rtake_to 1 g S _ _ _ [x] h hl E1.out).mono ?_
      rintro e w1 ⟨A1, c1, rfl, hr1, hb1, hg1⟩
      obtain ⟨k1, f1⟩ := hr1.good
      obtain ⟨b1, o1, rfl, _, _, hc1⟩ := hb1.at_ (by simp)
      have k2 : w1.cell? ⟨b1, o1, none⟩ = some (.int .u8 (x.toNat : Int)) := hc1 0 x rfl
      clear hc1
      go_wp2_with fail
      go_ret
      exact ⟨rfl, hr1.fails, grown_trans hg1 (grown_set _ _ _ _)⟩
    · by_cases ht : t.length < x.toNat
      · have e0 : numOf (some (x :: t)) = (none, 0) := by simp [numOf, ht]
        have e2 : passed (x.toNat : Int) (some t) = (none, []) := by simp [passed, ht]
        rw [e0]
        have E2 := Lib.hid e2
        clear e0 e2
        go_enter Try.func58, Try.ntmps58
        go_wp2_with fail
        refine (rtake_to 1 g S _ _ _ [x] h hl E1.out).mono ?_
        rintro e w1 ⟨A1, c1, rfl, hr1, hb1, hg1⟩
        obtain ⟨k1, f1⟩ := hr1.good
        obtain ⟨b1, o1, rfl, _, _, hc1⟩ := hb1.at_ (by simp)
        have k2 : w1.cell? ⟨b1, o1, none⟩ = some (.int .u8 (x.toNat : Int)) := hc1 0 x rfl
        clear hc1
        go_wp2_with fail
        refine (rtake_to _ g S _ _ _ [] hr1 hl' E2.out).mono ?_
        rintro e w2 ⟨A2, c2, rfl, hr2, hb2, hg2⟩
        obtain ⟨k3, f3⟩ := hr2.bad
        clear k1 f1 k2
        go_wp2_with fail
        go_ret
        exact ⟨rfl, hr2.fails, grown_trans hg1 (grown_trans hg2 (grown_set _ _ _ _))⟩
      · have e2 : passed (x.toNat : Int) (some t) = (some (t.drop x.toNat), t.take x.toNat) := by simp [passed, ht]
        have E2 := Lib.hid e2
        have hdl : (t.take x.toNat).length ≤ 8 := by simp; omega
        have e0 : numOf (some (x :: t)) = (if (t.take x.toNat).head? = some 0 then (none, 0) else (some (t.drop x.toNat), val (t.take x.toNat))) := by simp only [numOf, h8, ht, false_or]
        have E0 := Lib.hid e0
        clear e2 e0 ht
        generalize t.take x.toNat = ds at *
        rcases ds with _ | ⟨d, ds⟩
        · rw [E0.out]
          simp only [List.head?_nil, reduceCtorEq, if_false]
          go_enter Try.func58, Try.ntmps58
          go_wp2_with fail
          refine (rtake_to 1 g S _ _ _ [x] h hl E1.out).mono ?_
          rintro e w1 ⟨A1, c1, rfl, hr1, hb1, hg1⟩
          obtain ⟨k1, f1⟩ := hr1.good
          obtain ⟨b1, o1, rfl, _, _, hc1⟩ := hb1.at_ (by simp)
          have k2 : w1.cell? ⟨b1, o1, none⟩ = some (.int .u8 (x.toNat : Int)) := hc1 0 x rfl
          clear hc1
          go_wp2_with fail
          refine (rtake_to _ g S _ _ _ [] hr1 hl' E2.out).mono ?_
          rintro e w2 ⟨A2, c2, rfl, hr2, hb2, hg2⟩
          obtain ⟨k3, f3⟩ := hr2.good
          clear k1 f1 k2
          go_wp2_with fail
          refine (value_any _ _ [] _ hb2 (by simp)).mono ?_
          rintro e w' ⟨rfl, rfl⟩
          go_wp2
          go_ret
          exact ⟨rfl, hr2, grown_trans hg1 hg2⟩
        · have hd0 := d.toNat_lt
          by_cases hd : d = 0
          · subst hd
            rw [E0.out]
            simp only [List.head?_cons, if_true]
            go_enter Try.func58, Try.ntmps58
            go_wp2_with fail
            refine (rtake_to 1 g S _ _ _ [x] h hl E1.out).mono ?_
            rintro e w1 ⟨A1, c1, rfl, hr1, hb1, hg1⟩
            obtain ⟨k1, f1⟩ := hr1.good
            obtain ⟨b1, o1, rfl, _, _, hc1⟩ := hb1.at_ (by simp)
            have k2 : w1.cell? ⟨b1, o1, none⟩ = some (.int .u8 (x.toNat : Int)) := hc1 0 x rfl
            clear hc1
            go_wp2_with fail
            refine (rtake_to _ g S _ _ _ (0 :: ds) hr1 hl' E2.out).mono ?_
            rintro e w2 ⟨A2, c2, rfl, hr2, hb2, hg2⟩
            obtain ⟨k3, f3⟩ := hr2.good
            obtain ⟨b2, o2, rfl, _, _, hc2⟩ := hb2.at_ (by simp)
            have k4 : w2.cell? ⟨b2, o2, none⟩ = some (.int .u8 0) := hc2 0 0 rfl
            clear hc2 k1 f1 k2
            go_wp2_with fail
            go_ret
            exact ⟨rfl, hr2.fails, grown_trans hg1 (grown_trans hg2 (grown_set _ _ _ _))⟩
          · rw [E0.out]
            have hd' : ¬ d.toNat = 0 := fun e => hd (UInt8.toNat_inj.1 (by simpa using e))
            simp only [List.head?_cons, Option.some.injEq, hd, if_false]
            go_enter Try.func58, Try.ntmps58
            go_wp2_with fail
            refine (rtake_to 1 g S _ _ _ [x] h hl E1.out).mono ?_
            rintro e w1 ⟨A1, c1, rfl, hr1, hb1, hg1⟩
            obtain ⟨k1, f1⟩ := hr1.good
            obtain ⟨b1, o1, rfl, _, _, hc1⟩ := hb1.at_ (by simp)
            have k2 : w1.cell? ⟨b1, o1, none⟩ = some (.int .u8 (x.toNat : Int)) := hc1 0 x rfl
            clear hc1
            go_wp2_with fail
            refine (rtake_to _ g S _ _ _ (d :: ds) hr1 hl' E2.out).mono ?_
            rintro e w2 ⟨A2, c2, rfl, hr2, hb2, hg2⟩
            obtain ⟨k3, f3⟩ := hr2.good
            have hb2' := hb2
            obtain ⟨b2, o2, rfl, _, _, hc2⟩ := hb2.at_ (by simp)
            have k4 : w2.cell? ⟨b2, o2, none⟩ = some (.int .u8 (d.toNat : Int)) := hc2 0 d rfl
            clear hc2 k1 f1 k2
            go_wp2_with fail
            refine (value_any _ _ (d :: ds) _ hb2' hdl).mono ?_
            rintro e w' ⟨rfl, rfl⟩
            go_wp2
            go_ret
            exact ⟨rfl, hr2, grown_trans hg1 hg2⟩

theorem rcount (most : Int) (h1 : most ≤ 9223372036854775807) (g : Nat) (S : Nat → Prop) (st : Option (List UInt8)) (w : World) (h : RR w g S st) (hl : (st.getD []).length ≤ 140737488355328) :
    Calls Try.prog 40 #[.pointer (some ⟨g, 0, none⟩), .int .i64 most] w fun e w' => e = .returned (.int .i64 (cntOf most st).2) ∧ RR w' g S (cntOf most st).1 ∧ w.grownBy w' (some g) := by
  unfold cntOf
  obtain ⟨n, hn⟩ : ∃ n, n = (numOf st).2 := ⟨_, rfl⟩
  obtain ⟨st', hst'⟩ : ∃ s, s = (numOf st).1 := ⟨_, rfl⟩
  have hp : numOf st = (st', n) := by rw [hn, hst']
  have hc := rnum_rd g S st w h hl
  rw [← hn, ← hst'] at hc
  rw [hp]
  simp only
  have HC := Lib.hid hc
  clear hc hn hst' hp hl
  by_cases h0 : most < 0
  · rw [if_pos (.inl h0)]
    go_enter Try.func40, Try.ntmps40
    go_wp2_with fail
    refine (HC.out).mono ?_
    rintro e w1 ⟨rfl, hr, hg⟩
    obtain ⟨v, l, q1, _⟩ := id hr
    have k1 : w1.cell? ⟨g, 1, none⟩ = some (.bool st'.isNone) := q1.cell 1
    have f1 := q1.free 1
    go_wp2_with fail
    go_ret
    exact ⟨rfl, hr.fails, grown_trans hg (grown_set _ _ _ _)⟩
  · by_cases hm : most < n
    · rw [if_pos (.inr hm)]
      have b0 : 0 ≤ most := by omega
      go_enter Try.func40, Try.ntmps40
      go_wp2_with fail
      refine (HC.out).mono ?_
      rintro e w1 ⟨rfl, hr, hg⟩
      obtain ⟨v, l, q1, _⟩ := id hr
      have k1 : w1.cell? ⟨g, 1, none⟩ = some (.bool st'.isNone) := q1.cell 1
      have f1 := q1.free 1
      go_wp2_with fail
      go_ret
      exact ⟨rfl, hr.fails, grown_trans hg (grown_set _ _ _ _)⟩
    · rw [if_neg (by omega)]
      have b0 : 0 ≤ most := by omega
      have b1 : (n : Int) ≤ most := by omega
      go_enter Try.func40, Try.ntmps40
      go_wp2_with fail
      refine (HC.out).mono ?_
      rintro e w1 ⟨rfl, hr, hg⟩
      go_wp2_with fail
      go_ret
      exact ⟨rfl, hr, hg⟩

theorem rtext (most : Int) (h1 : most ≤ 9223372036854775807) (g : Nat) (S : Nat → Prop) (st : Option (List UInt8)) (w : World) (h : RR w g S st) (hl : (st.getD []).length ≤ 140737488355328) :
    Calls Try.prog 39 #[.pointer (some ⟨g, 0, none⟩), .int .i64 most] w fun e w' => ∃ v, e = .returned v ∧ RR w' g S (txtOf most st).1 ∧
      BS w' (fun b => w.heap.size ≤ b) v (txtOf most st).2 ∧ w.grownBy w' (some g) := by
  have hc := rcount most h1 g S st w h hl
  have hcl := cntOf_len most st
  unfold txtOf
  generalize cntOf most st = r at hc hcl ⊢
  obtain ⟨st', n⟩ := r
  simp only at hc hcl ⊢
  have HC := Lib.hid hc
  have hl' : (st'.getD []).length ≤ 140737488355328 := by omega
  clear hc hcl hl
  go_enter Try.func39, Try.ntmps39
  go_wp2_with fail
  refine (HC.out).mono ?_
  rintro e w1 ⟨rfl, hr, hg⟩
  go_wp2_with fail
  refine (rtake _ _ _ _ _ hr hl').mono ?_
  rintro e w2 ⟨v, rfl, hr2, hb2, hg2⟩
  have hs := hg.size
  go_wp2_with fail
  go_ret
  exact ⟨_, rfl, hr2, hb2.mono fun b hb => Nat.le_trans hs hb, grown_trans hg hg2⟩

end Go.Proofs.Ytgahnjhibpcbaaa
