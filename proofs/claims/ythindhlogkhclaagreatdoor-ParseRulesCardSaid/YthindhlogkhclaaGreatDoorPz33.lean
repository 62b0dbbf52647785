/-
  RuQ: The program's Check (layer 17), over the loaded program: its contract. No condition but sizes.
-/
import Derived.Test.YthindhlogkhclaaGreatDoorPz31
import Derived.Test.YthindhlogkhclaaGreatDoorHeld
import Derived.Test.YthindhlogkhclaaGreatDoorPz32
set_option linter.unusedVariables false
set_option maxRecDepth 100000
namespace Go.Proofs.YthindhlogkhclaaGreatDoor
section
open Go.RowKit
theorem empty_yes {s : ByteArray} (h : s.toList = []) : s.toList.isEmpty = true ∧ (s.toList == []) = true ∧ (s.toList != []) = false := ⟨List.isEmpty_iff.2 h, by rw [h]; rfl, by rw [h]; rfl⟩
theorem empty_no {s : ByteArray} (h : ¬ s.toList = []) : s.toList.isEmpty = false ∧ (s.toList == []) = false ∧ (s.toList != []) = true := by
  refine ⟨?_, beq_eq_false_iff_ne.2 h, bne_iff_ne.2 h⟩
  cases hq : s.toList.isEmpty with
  | false => rfl
  | true => exact absurd (List.isEmpty_iff.1 hq) h
theorem good_is {f : Nat} (r : Rl f) : goodR f r = (decide (1 ≤ r.act ∧ r.act ≤ 3) && (decide (r.cls = []) || nameS r.cls) && mayX f r.when_) := rfl
set_option maxHeartbeats 8000000 in
theorem check_any (S : Nat → Prop) (f : Nat) (l : List (Rl f)) (v : Value) (w : World) (hS : ∀ b, S b → b < w.heap.size) (hv : RS w S f v l) :
    Calls Tryz.prog 17 #[v] w fun e w' => e = .returned (.int .i64 (checkR f l)) ∧ Below w.heap.size w w' := by
  obtain ⟨A3, cap3, rfl, hl3, hm3⟩ := hv.form
  have hlen : l.length ≤ 9223372036854775807 := by unfold maxLen at hm3; omega
  obtain ⟨r, hr⟩ : ∃ r, r = checkR f l := ⟨_, rfl⟩
  rw [← hr]
  by_cases h12 : 12 < l.length
  · rw [check_many h12] at hr
    subst hr
    have E : decide ((12 : Int) < (l.length : Int)) = true := decide_eq_true (by omega)
    have E' : decide (12 < l.length) = true := decide_eq_true h12
    go_enter Tryz.func17, Tryz.ntmps17
    go_wp2_with fail
    go_ret
    exact ⟨rfl, Below.refl _ _⟩
  have E : decide ((12 : Int) < (l.length : Int)) = false := decide_eq_false (by omega)
  have E' : decide (12 < l.length) = false := decide_eq_false h12
  have HBAD : Hid (∀ (j : Nat) (hj : j < l.length), goodR f l[j] = false → r = 1) := fun j hj h => hr.trans (check_bad h12 hj h)
  have HDUP : Hid ((∀ (j : Nat) (hj : j < l.length), goodR f l[j] = true) → ∀ (j : Nat) (hj : j < l.length), placeR f l l[j].cls < (j : Int) → r = 6) := fun hg j hj h => hr.trans (check_dup h12 hg (place_dup hj h))
  have HOK : Hid ((∀ (j : Nat) (hj : j < l.length), goodR f l[j] = true) → (∀ (j : Nat) (hj : j < l.length), (j : Int) ≤ placeR f l l[j].cls) → r = 0) := fun hg h => hr.trans (check_ok h12 hg (place_apart fun j hj hn => by have := h j hj; omega))
  clear hr
  have HPL : Hid (∀ (cl : List UInt8) (W : World), Below w.heap.size w W → Calls Tryz.prog 38 #[.slice A3 l.length cap3, strV cl] W fun e w' => e = .returned (.int .i64 (placeR f l cl)) ∧ Below W.heap.size W w') := fun cl W hb =>
    place_any S f l cl _ W (hv.keepS hb.size (fun b sb _ => hb.block b (hS b sb)) fun _ h => h)
  have HRB : Hid (∀ (wr : World), Below w.heap.size w wr → ∀ (j : Nat) (hj : j < l.length), ∃ b o e1 e2 e3 e4, A3 = some ⟨b, o, none⟩ ∧ b < w.heap.size ∧ wr.cell? ⟨b, o + j * 6, none⟩ = some (strV l[j].cls) ∧ wr.cell? ⟨b, o + j * 6 + 1, none⟩ = some e1 ∧ wr.cell? ⟨b, o + j * 6 + 2, none⟩ = some e2 ∧ wr.cell? ⟨b, o + j * 6 + 3, none⟩ = some e3 ∧
      wr.cell? ⟨b, o + j * 6 + 4, none⟩ = some e4 ∧ wr.cell? ⟨b, o + j * 6 + 5, none⟩ = some (.int .i64 l[j].act) ∧ EV wr S f (.agg #[e1, e2, e3, e4]) l[j].when_ ∧ l[j].cls.length ≤ maxLen ∧ I64 l[j].act) := fun wr hb j hj => rule_b hv rfl hb j hj
  clear hv
  go_enter Tryz.func17, Tryz.ntmps17
  go_wp2_with fail
  clear E E'
  go_loopw [12] (fun iv wr => ∃ j : Nat, j ≤ l.length ∧ iv = .int .i64 j ∧ Hid (∀ (i : Nat) (hi : i < l.length), i < j → goodR f l[i] = true) ∧ Below w.heap.size w wr) (fun iv _ => l.length - (intOf iv).toNat)
  case atStart => exact ⟨0, by omega, rfl, fun i _ h => absurd h (Nat.not_lt_zero _), Below.refl _ _⟩
  case round =>
    obtain ⟨j, hj, rfl, hall, B⟩ := hrel
    by_cases hlt : j < l.length
    · have hltI : (j : Int) < (l.length : Int) := by omega
      obtain ⟨b, o, e1, e2, e3, e4, rfl, hb, k0, k1, k2, k3, k4, k5, hx, hcm, hai⟩ := HRB.out wr B j hlt
      have HB := Lib.hid (HBAD.out j hlt)
      have HN : Hid (goodR f l[j] = true → ∀ (i : Nat) (hi : i < l.length), i < j + 1 → goodR f l[i] = true) := fun h i hi hij => by
        rcases Nat.lt_or_ge i j with h' | h'
        · exact hall.out i hi h'
        · obtain rfl : i = j := by omega
          exact h
      rw [good_is] at HB HN
      obtain ⟨_, _, _, _, e, hx4⟩ := hx
      injection e with e
      simp only [Array.mk.injEq, List.cons.injEq, and_true] at e
      obtain ⟨rfl, rfl, rfl, rfl⟩ := e
      have HMB : Hid (∀ W, Below wr.heap.size wr W → Calls Tryz.prog 37 #[.agg #[e1, e2, e3, e4]] W fun e w' => e = .returned (.bool (mayX f l[j].when_)) ∧ Below W.heap.size W w') := fun W hb =>
        may_any S f l[j].when_ _ W (fun b sb => by have := hS b sb; have := B.size; have := hb.size; omega) ⟨e1, e2, e3, e4, rfl, hx4.below' hb⟩
      obtain ⟨i0, i1, l2, X3, n3, z3, rfl, rfl, rfl, rfl⟩ := hx4.form
      have haw := actword_any l[j].act
      have HNM := Lib.hid (fun W => name_any l[j].cls W)
      have hbr : b < wr.heap.size := Nat.lt_of_lt_of_le hb B.size
      have kk := KB.new wr 44 #[strV l[j].cls, .int .i64 i0, .int .i64 i1, strV l2, .slice X3 n3 z3, .int .i64 l[j].act]
      have bk := (Below.refl wr.heap.size wr).alloc (Nat.le_refl _) (.cells #[strV l[j].cls, .int .i64 i0, .int .i64 i1, strV l2, .slice X3 n3 z3, .int .i64 l[j].act] 44)
      have HCE := Lib.hid (ne_not ⟨l[j].cls.toArray⟩ l[j].cls [] rfl)
      have HCN := Lib.hid (ne_if ⟨l[j].cls.toArray⟩ l[j].cls [] rfl)
      clear hx4 hall
      generalize mayX f l[j].when_ = bm at *
      generalize nameS l[j].cls = bn at *
      obtain ⟨bc, hbc⟩ : ∃ bc, bc = decide (l[j].cls = []) := ⟨_, rfl⟩
      rw [← hbc] at HB HN
      have HCE2 : Hid (bc = true → (⟨l[j].cls.toArray⟩ : ByteArray).toList = []) := fun h => (HCE.out (of_decide_eq_true (hbc.symm.trans h))).2.2
      have HCN2 : Hid (bc = false → ¬ (⟨l[j].cls.toArray⟩ : ByteArray).toList = []) := fun h => (HCN.out (of_decide_eq_false (hbc.symm.trans h))).2.2
      clear HCE HCN hbc
      unfold strV at *
      generalize (⟨l2.toArray⟩ : ByteArray) = s2 at *
      generalize (⟨l[j].cls.toArray⟩ : ByteArray) = sc at *
      by_cases hact : 1 ≤ l[j].act ∧ l[j].act ≤ 3
      case neg =>
        rw [decide_eq_false hact, Bool.false_and, Bool.false_and] at HB
        obtain rfl := HB.out rfl
        rw [actW_out hact] at haw
        generalize l[j].act = ac at *
        clear HB HN HMB HNM HCE2 HCN2 hact
        go_wp2_with fail
        refine (haw _).mono ?_
        rintro e w' ⟨rfl, rfl⟩
        go_wp2_with fail
        go_ret
        exact ⟨rfl, B.trans (bk.mono B.size)⟩
      rw [decide_eq_true hact, Bool.true_and] at HB HN
      have hane : ¬ (⟨(actW l[j].act).toArray⟩ : ByteArray).toList = [] := (ne_if _ _ [] rfl (actW_in hact).2).2.2
      generalize (⟨(actW l[j].act).toArray⟩ : ByteArray) = sa at *
      obtain ⟨ea1, ea2, ea3⟩ := empty_no hane
      generalize l[j].act = ac at *
      clear hact
      cases bc with
      | true =>
        rw [Bool.true_or, Bool.true_and] at HB HN
        have hce := HCE2.out rfl
        obtain ⟨ec1, ec2, ec3⟩ := empty_yes hce
        clear HCE2 HCN2 HNM
        go_wp2_with fail
        refine (haw _).mono ?_
        rintro e w' ⟨rfl, rfl⟩
        clear haw
        have q1 := kk.cell 1
        have q2 := kk.cell 2
        have q3 := kk.cell 3
        have q4 := kk.cell 4
        have hmb := HMB.out _ bk
        clear HMB kk
        go_wp2_with fail
        refine hmb.mono ?_
        rintro e w7 ⟨rfl, b7⟩
        have B7 := B.trans ((bk.trans (b7.mono bk.size)).mono B.size)
        clear hmb q1 q2 q3 q4 b7
        cases bm with
        | false =>
          obtain rfl := HB.out rfl
          clear HB HN
          go_wp2_with fail
          go_ret
          exact ⟨rfl, B7⟩
        | true =>
          have hn := Lib.hid (HN.out rfl)
          clear HB HN
          go_wp2_with fail
          go_roundw
          case rel => exact ⟨j + 1, by omega, by go_num, hn, B7⟩
          case measure => simp [intOf]; omega
      | false =>
        rw [Bool.false_or] at HB HN
        have hce := HCN2.out rfl
        obtain ⟨ec1, ec2, ec3⟩ := empty_no hce
        have q0 := kk.cell 0
        have hnm := HNM.out (wr.alloc (.cells #[.string sc, .int .i64 i0, .int .i64 i1, .string s2, .slice X3 n3 z3, .int .i64 ac] 44))
        clear HCE2 HCN2 HNM
        go_wp2_with fail
        refine (haw _).mono ?_
        rintro e w' ⟨rfl, rfl⟩
        clear haw
        go_wp2_with fail
        refine hnm.mono ?_
        rintro e w6 ⟨rfl, b6⟩
        have B6 := bk.trans (b6.mono bk.size)
        have kk6 := kk.below b6 kk.lt
        clear hnm q0 kk b6 bk
        cases bn with
        | false =>
          rw [Bool.false_and] at HB
          obtain rfl := HB.out rfl
          clear HB HN HMB kk6
          go_wp2_with fail
          go_ret
          exact ⟨rfl, B.trans (B6.mono B.size)⟩
        | true =>
          rw [Bool.true_and] at HB HN
          have q1 := kk6.cell 1
          have q2 := kk6.cell 2
          have q3 := kk6.cell 3
          have q4 := kk6.cell 4
          have hmb := HMB.out _ B6
          clear HMB kk6
          go_wp2_with fail
          refine hmb.mono ?_
          rintro e w7 ⟨rfl, b7⟩
          have B7 := B.trans ((B6.trans (b7.mono B6.size)).mono B.size)
          clear hmb q1 q2 q3 q4 b7
          cases bm with
          | false =>
            obtain rfl := HB.out rfl
            clear HB HN
            go_wp2_with fail
            go_ret
            exact ⟨rfl, B7⟩
          | true =>
            have hn := Lib.hid (HN.out rfl)
            clear HB HN
            go_wp2_with fail
            go_roundw
            case rel => exact ⟨j + 1, by omega, by go_num, hn, B7⟩
            case measure => simp [intOf]; omega
    · have HG : Hid (∀ (i : Nat) (hi : i < l.length), goodR f l[i] = true) := fun i hi => hall.out i hi (by omega)
      have HDUP2 := Lib.hid (HDUP.out HG.out)
      have HOK2 := Lib.hid (HOK.out HG.out)
      clear HDUP HOK HBAD HG hall
      go_wp2_with fail
      obtain ⟨wo, hwo⟩ : ∃ wo, wo = wr := ⟨_, rfl⟩
      rw [← hwo]
      rw [← hwo] at B
      clear hwo
      go_loopw [40] (fun iv wr => ∃ j : Nat, j ≤ l.length ∧ iv = .int .i64 j ∧ Hid (∀ (i : Nat) (hi : i < l.length), i < j → (i : Int) ≤ placeR f l l[i].cls) ∧ Below w.heap.size w wr) (fun iv _ => l.length - (intOf iv).toNat)
      case atStart => exact ⟨0, by omega, rfl, fun i _ h => absurd h (Nat.not_lt_zero _), B⟩
      case round =>
        clear B
        obtain ⟨k, hk, rfl, hall, B⟩ := hrel
        by_cases hlt2 : k < l.length
        · have hltI : (k : Int) < (l.length : Int) := by omega
          obtain ⟨b, o, e1, e2, e3, e4, rfl, hb, k0, k1, k2, k3, k4, k5, hx, hcm, hai⟩ := HRB.out wr B k hlt2
          have HD := Lib.hid (HDUP2.out k hlt2)
          have HN : Hid ((k : Int) ≤ placeR f l l[k].cls → ∀ (i : Nat) (hi : i < l.length), i < k + 1 → (i : Int) ≤ placeR f l l[i].cls) := fun h i hi hij => by
            rcases Nat.lt_or_ge i k with h' | h'
            · exact hall.out i hi h'
            · obtain rfl : i = k := by omega
              exact h
          obtain ⟨_, _, _, _, e, hx4⟩ := hx
          injection e with e
          simp only [Array.mk.injEq, List.cons.injEq, and_true] at e
          obtain ⟨rfl, rfl, rfl, rfl⟩ := e
          obtain ⟨i0, i1, l2, X3, n3, z3, rfl, rfl, rfl, rfl⟩ := hx4.form
          have bk := (Below.refl wr.heap.size wr).alloc (Nat.le_refl _) (.cells #[strV l[k].cls, .int .i64 i0, .int .i64 i1, strV l2, .slice X3 n3 z3, .int .i64 l[k].act] 44)
          have hpl := HPL.out l[k].cls _ (B.trans (bk.mono B.size))
          have B2 := B.trans (bk.mono B.size)
          have hbr : b < wr.heap.size := Nat.lt_of_lt_of_le hb B.size
          clear hx4 hall bk
          generalize placeR f l l[k].cls = pl at *
          unfold strV at *
          generalize (⟨l2.toArray⟩ : ByteArray) = s2 at *
          generalize (⟨l[k].cls.toArray⟩ : ByteArray) = sc at *
          generalize l[k].act = ac at *
          go_wp2_with fail
          refine hpl.mono ?_
          rintro e w5 ⟨rfl, b5⟩
          have B5 := B2.trans (b5.mono B2.size)
          clear hpl b5 B2 k0 k1 k2 k3 k4 k5
          by_cases hlo : pl < (k : Int)
          · have E : decide (pl < (k : Int)) = true := decide_eq_true hlo
            obtain rfl := HD.out hlo
            clear HD HN HDUP2 HOK2 hlo
            go_wp2_with fail
            go_ret
            exact ⟨rfl, B5⟩
          · have E : decide (pl < (k : Int)) = false := decide_eq_false hlo
            have hn := Lib.hid (HN.out (by omega))
            clear HD HN hlo
            go_wp2_with fail
            go_roundw
            case rel => exact ⟨k + 1, by omega, by go_num, hn, B5⟩
            case measure => simp [intOf]; omega
        · obtain rfl := HOK2.out fun i hi => hall.out i hi (by omega)
          clear HDUP2 HOK2 hall
          go_wp2_with fail
          go_ret
          exact ⟨rfl, B⟩
end
end Go.Proofs.YthindhlogkhclaaGreatDoor
