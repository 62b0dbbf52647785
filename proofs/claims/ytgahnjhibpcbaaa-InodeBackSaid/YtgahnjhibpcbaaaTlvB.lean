/-
  The reader of tlv: Num, Int, Count, Text: each one's contract over the loaded program.
  No condition but the worlds' shapes that each contract names.
-/
import Derived.Test.YtgahnjhibpcbaaaTlvA
import Derived.Test.YtgahnjhibpcbaaaTlvM
namespace Go.Proofs.Ytgahnjhibpcbaaa
open Go.RowKit

theorem num_nil (w : World) :
    Calls Try.prog 54 #[.pointer none] w fun e w' => e = .returned (.int .u64 0) ∧ w = w' := by
  go_enter Try.func54, Try.ntmps54
  go_wp2_with (go_at_call 56; refine (pass_nil _ _).mono ?_; rintro e w' ⟨rfl, rfl⟩)
  go_ret
  exact ⟨rfl, rfl⟩

theorem shl_or (a : Nat) (b : UInt8) : (a * 256) ||| b.toNat = a * 256 + b.toNat := by
  have := b.toNat_lt
  rw [show a * 256 = a <<< 8 from by rw [Nat.shiftLeft_eq], ← Nat.shiftLeft_add_eq_or_of_lt (by omega)]

theorem or_step (a : Nat) (b : UInt8) (h : a < 72057594037927936) : bits .or .u64 (IntKind.u64.wrap ((a : Int) * 256)) (IntKind.u64.wrap (b.toNat : Int)) = ((a * 256 + b.toNat : Nat) : Int) := by
  have hb := b.toNat_lt
  rw [IntWalk.u64_in _ (by omega), IntWalk.u64_in _ (by omega), show (a : Int) * 256 = ((a * 256 : Nat) : Int) from by omega, u64_or_nat _ _ (by omega) (by omega), shl_or]

/-- pass, its answer spelt out. -/
theorem pass_to (n : Int) (g : Nat) (S : Nat → Prop) (st : Option (List UInt8)) (w : World) (st' : Option (List UInt8)) (l : List UInt8) (h : RD w g S st) (hp : passed n st = (st', l)) :
    Calls Try.prog 56 #[.pointer (some ⟨g, 0, none⟩), .int .i64 n] w fun e w' => ∃ A c, e = .returned (.slice A l.length c) ∧ RD w' g S st' ∧ BS w' S (.slice A l.length c) l ∧ w.grownBy w' (some g) := by
  refine (pass_rd n g S st w h).mono ?_
  rintro e w' ⟨v, rfl, hr, hb, hg⟩
  rw [hp] at hr hb
  obtain ⟨A, c, rfl, _⟩ := hb.form
  exact ⟨A, c, rfl, hr, hb, hg⟩

theorem num_some (g : Nat) (S : Nat → Prop) (st : Option (List UInt8)) (w : World) (h : RD w g S st) :
    Calls Try.prog 54 #[.pointer (some ⟨g, 0, none⟩)] w fun e w' => e = .returned (.int .u64 (numOf st).2) ∧ RD w' g S (numOf st).1 ∧ w.grownBy w' (some g) := by
  by_cases hst : (st.getD []) = []
  · have e0 : numOf st = (none, 0) := by
      rcases st with _ | l
      · rfl
      · simp at hst; subst hst; rfl
    have e1 : passed 1 st = (none, []) := by simp [passed, hst]
    rw [e0]
    have E1 := Lib.hid e1
    clear e0 e1 hst
    go_enter Try.func54, Try.ntmps54
    go_wp2_with (go_at_call 56; refine (pass_to 1 g S st _ none [] h E1.out).mono ?_; rintro e w1 ⟨A1, c1, rfl, hr1, hb1, hg1⟩)
    go_ret
    exact ⟨rfl, hr1, hg1⟩
  · obtain ⟨x, t, rfl⟩ : ∃ x t, st = some (x :: t) := by
      rcases st with _ | l
      · simp at hst
      · rcases l with _ | ⟨x, t⟩
        · simp at hst
        · exact ⟨x, t, rfl⟩
    clear hst
    have e1 : passed 1 (some (x :: t)) = (some t, [x]) := by
      unfold passed
      rw [if_neg (by simp; omega)]
      rfl
    have E1 := Lib.hid e1
    clear e1
    have hx := x.toNat_lt
    by_cases h8 : 8 < x.toNat
    · have e0 : numOf (some (x :: t)) = (none, 0) := by simp [numOf, h8]
      rw [e0]
      clear e0
      go_enter Try.func54, Try.ntmps54
      go_wp2_with (first | (go_at_call 56; refine (pass_to 1 g S _ _ _ [x] h E1.out).mono ?_; rintro e w1 ⟨A1, c1, rfl, hr1, hb1, hg1⟩; obtain ⟨b1, o1, rfl, _, _, hc1⟩ := hb1.at_ (by simp); have k1 : w1.cell? ⟨b1, o1, none⟩ = some (.int .u8 (x.toNat : Int)) := hc1 0 x rfl; clear hc1) | (go_at_call 55; refine (fail_rd _ _ _ _ hr1).mono ?_; rintro e w2 ⟨rfl, hr2, hg2⟩))
      go_ret
      exact ⟨rfl, hr2, grown_trans hg1 hg2⟩
    · obtain ⟨st2, ds, e2, e0, hds⟩ : ∃ st2 ds, passed (x.toNat : Int) (some t) = (st2, ds) ∧ numOf (some (x :: t)) = (if ds.head? = some 0 then (none, 0) else (st2, val ds)) ∧ ds.length ≤ 8 := by
        by_cases ht : t.length < x.toNat
        · exact ⟨none, [], by simp [passed, ht], by simp [numOf, ht, val], by simp⟩
        · refine ⟨some (t.drop x.toNat), t.take x.toNat, by simp [passed, ht], ?_, by simp; omega⟩
          simp only [numOf, h8, ht, false_or]
      have E2 := Lib.hid e2
      clear e2
      rcases ds with _ | ⟨d, ds⟩
      · rw [e0]
        simp only [List.head?_nil, reduceCtorEq, if_false, val]
        clear e0 hds
        go_enter Try.func54, Try.ntmps54
        go_wp2_with fail
        refine (pass_to 1 g S _ _ _ [x] h E1.out).mono ?_
        rintro e w1 ⟨A1, c1, rfl, hr1, hb1, hg1⟩
        obtain ⟨b1, o1, rfl, _, _, hc1⟩ := hb1.at_ (by simp)
        have k1 : w1.cell? ⟨b1, o1, none⟩ = some (.int .u8 (x.toNat : Int)) := hc1 0 x rfl
        clear hc1
        go_wp2_with fail
        refine (pass_to _ g S _ _ _ [] hr1 E2.out).mono ?_
        rintro e w2 ⟨A2, c2, rfl, hr2, hb2, hg2⟩
        go_wp2
        go_loop [5, 38] (fun n i => n = .int .u64 0 ∧ i = .int .i64 0) (fun _ _ => 0)
        case atStart => exact ⟨rfl, rfl⟩
        case round =>
          obtain ⟨rfl, rfl⟩ := hrel
          go_wp2
          go_ret
          exact ⟨rfl, hr2, grown_trans hg1 hg2⟩
      · by_cases hd : d = 0
        · subst hd
          rw [e0]
          simp only [List.head?_cons, if_true]
          clear e0 hds
          go_enter Try.func54, Try.ntmps54
          go_wp2_with fail
          refine (pass_to 1 g S _ _ _ [x] h E1.out).mono ?_
          rintro e w1 ⟨A1, c1, rfl, hr1, hb1, hg1⟩
          obtain ⟨b1, o1, rfl, _, _, hc1⟩ := hb1.at_ (by simp)
          have k1 : w1.cell? ⟨b1, o1, none⟩ = some (.int .u8 (x.toNat : Int)) := hc1 0 x rfl
          clear hc1
          go_wp2_with fail
          refine (pass_to _ g S _ _ _ (0 :: ds) hr1 E2.out).mono ?_
          rintro e w2 ⟨A2, c2, rfl, hr2, hb2, hg2⟩
          obtain ⟨b2, o2, rfl, _, _, hc2⟩ := hb2.at_ (by simp)
          have k2 : w2.cell? ⟨b2, o2, none⟩ = some (.int .u8 0) := hc2 0 0 rfl
          clear hc2
          go_wp2_with (go_at_call 55; refine (fail_rd _ _ _ _ hr2).mono ?_; rintro e w3 ⟨rfl, hr3, hg3⟩)
          go_ret
          exact ⟨rfl, hr3, grown_trans hg1 (grown_trans hg2 hg3)⟩
        · rw [e0]
          have hd' : ¬ d.toNat = 0 := fun e => hd (UInt8.toNat_inj.1 (by simpa using e))
          have hd0 := d.toNat_lt
          simp only [List.head?_cons, Option.some.injEq, hd, if_false]
          obtain ⟨L, hL⟩ : ∃ L, L = d :: ds := ⟨_, rfl⟩
          rw [← hL] at hds ⊢
          have HL := Lib.hid hL
          have hlp : 0 < L.length := by rw [hL]; simp
          rw [← hL] at E2
          clear e0 hL hd
          go_enter Try.func54, Try.ntmps54
          go_wp2_with fail
          refine (pass_to 1 g S _ _ _ [x] h E1.out).mono ?_
          rintro e w1 ⟨A1, c1, rfl, hr1, hb1, hg1⟩
          obtain ⟨b1, o1, rfl, _, _, hc1⟩ := hb1.at_ (by simp)
          have k1 : w1.cell? ⟨b1, o1, none⟩ = some (.int .u8 (x.toNat : Int)) := hc1 0 x rfl
          clear hc1
          go_wp2_with fail
          refine (pass_to _ g S _ _ _ L hr1 E2.out).mono ?_
          rintro e w2 ⟨A2, c2, rfl, hr2, hb2, hg2⟩
          obtain ⟨b2, o2, rfl, _, _, hc2⟩ := hb2.at_ hlp
          have k2 : w2.cell? ⟨b2, o2, none⟩ = some (.int .u8 (d.toNat : Int)) := hc2 0 d (by rw [HL.out]; rfl)
          have HC := Lib.hid hc2
          clear hc2
          go_wp2
          go_loop [5, 38] (fun n i => ∃ k : Nat, k ≤ L.length ∧ i = .int .i64 k ∧ n = .int .u64 (val (L.take k) : Nat)) (fun _ i => L.length - (intOf i).toNat)
          case atStart => exact ⟨0, by omega, rfl, rfl⟩
          case round =>
            obtain ⟨k, hk, rfl, rfl⟩ := hrel
            by_cases hlt : k < L.length
            · have kc := HC.out k L[k] (List.getElem?_eq_getElem hlt)
              go_wp2
              go_round
              case rel =>
                refine ⟨k + 1, by omega, by go_num, ?_⟩
                rw [or_step _ _ (val_lt_seven _ (by simp; omega)), val_take_succ L k hlt]
              case measure => simp [intOf]; omega
            · go_wp2
              go_ret
              refine ⟨?_, hr2, grown_trans hg1 hg2⟩
              rw [List.take_of_length_le (by omega)]
              rfl

theorem count_some (most : Int) (h1 : most ≤ 9223372036854775807) (g : Nat) (S : Nat → Prop) (st : Option (List UInt8)) (w : World) (h : RD w g S st) :
    Calls Try.prog 33 #[.pointer (some ⟨g, 0, none⟩), .int .i64 most] w fun e w' => e = .returned (.int .i64 (cntOf most st).2) ∧ RD w' g S (cntOf most st).1 ∧ w.grownBy w' (some g) := by
  unfold cntOf
  obtain ⟨n, hn⟩ : ∃ n, n = (numOf st).2 := ⟨_, rfl⟩
  obtain ⟨st', hst'⟩ : ∃ s, s = (numOf st).1 := ⟨_, rfl⟩
  have hp : numOf st = (st', n) := by rw [hn, hst']
  have hc := num_some g S st w h
  rw [← hn, ← hst'] at hc
  rw [hp]
  simp only
  have HC := Lib.hid hc
  clear hc hn hst' hp
  by_cases h0 : most < 0
  · rw [if_pos (.inl h0)]
    go_enter Try.func33, Try.ntmps33
    go_wp2_with (first | (go_at_call 54; refine (HC.out).mono ?_; rintro e w1 ⟨rfl, hr, hg⟩) | (go_at_call 55; refine (fail_rd _ _ _ _ hr).mono ?_; rintro e w2 ⟨rfl, hr2, hg2⟩))
    go_ret
    exact ⟨rfl, hr2, grown_trans hg hg2⟩
  · by_cases hm : most < n
    · rw [if_pos (.inr hm)]
      have b0 : 0 ≤ most := by omega
      go_enter Try.func33, Try.ntmps33
      go_wp2_with (first | (go_at_call 54; refine (HC.out).mono ?_; rintro e w1 ⟨rfl, hr, hg⟩) | (go_at_call 55; refine (fail_rd _ _ _ _ hr).mono ?_; rintro e w2 ⟨rfl, hr2, hg2⟩))
      go_ret
      exact ⟨rfl, hr2, grown_trans hg hg2⟩
    · rw [if_neg (by omega)]
      have b0 : 0 ≤ most := by omega
      have b1 : (n : Int) ≤ most := by omega
      go_enter Try.func33, Try.ntmps33
      go_wp2_with (first | (go_at_call 54; refine (HC.out).mono ?_; rintro e w1 ⟨rfl, hr, hg⟩) | (go_at_call 55; refine (fail_rd _ _ _ _ hr).mono ?_; rintro e w2 ⟨rfl, hr2, hg2⟩))
      go_ret
      exact ⟨rfl, hr, hg⟩

theorem numOf_len (st : Option (List UInt8)) : ((numOf st).1.getD []).length ≤ (st.getD []).length := by
  unfold numOf
  split
  · split <;> simp
    omega
  · simp

theorem cntOf_len (most : Int) (st : Option (List UInt8)) : ((cntOf most st).1.getD []).length ≤ (st.getD []).length := by
  unfold cntOf
  split
  · simp
  · exact numOf_len st

theorem text_some (most : Int) (h1 : most ≤ 9223372036854775807) (g : Nat) (S : Nat → Prop) (st : Option (List UInt8)) (w : World) (h : RD w g S st) (hl : (st.getD []).length ≤ 140737488355328) :
    Calls Try.prog 32 #[.pointer (some ⟨g, 0, none⟩), .int .i64 most] w fun e w' => ∃ v, e = .returned v ∧ RD w' g S (txtOf most st).1 ∧
      w'.ownsRow w.heap.size 5 1 v (txtOf most st).2.length ((txtOf most st).2.map bv) ∧ w.grownBy w' (some g) := by
  have hc := count_some most h1 g S st w h
  have hcl := cntOf_len most st
  unfold txtOf
  generalize cntOf most st = r at hc hcl ⊢
  obtain ⟨st', n⟩ := r
  simp only at hc hcl ⊢
  have HC := Lib.hid hc
  have hl' : (st'.getD []).length ≤ 140737488355328 := by omega
  clear hc hcl hl
  go_enter Try.func32, Try.ntmps32
  go_wp2_with (first | (go_at_call 33; refine (HC.out).mono ?_; rintro e w1 ⟨rfl, hr, hg⟩) | (go_at_call 35; refine (take_rd _ _ _ _ _ hr hl').mono ?_; rintro e w2 ⟨v, rfl, hr2, hown, hg2⟩))
  go_ret
  exact ⟨_, rfl, hr2, own_base hown hg.size, grown_trans hg hg2⟩

end Go.Proofs.Ytgahnjhibpcbaaa
