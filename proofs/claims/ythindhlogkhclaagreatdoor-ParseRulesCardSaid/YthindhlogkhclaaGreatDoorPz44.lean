/-
  RuR: The document's Check (layer 17), over the loaded program: its contract. No condition but sizes.
-/
import Derived.Test.YthindhlogkhclaaGreatDoorPz42
import Derived.Test.YthindhlogkhclaaGreatDoorPz10
import Derived.Test.YthindhlogkhclaaGreatDoorPz31
import Derived.Test.YthindhlogkhclaaGreatDoorPz43
import Derived.Test.YthindhlogkhclaaGreatDoorHeld
set_option linter.unusedVariables false
set_option maxRecDepth 100000
namespace Go.Proofs.YthindhlogkhclaaGreatDoor
section
open Go.RowKit
theorem void_yes {s : ByteArray} (h : s.toList = []) : s.toList.isEmpty = true ∧ (s.toList == []) = true ∧ (s.toList != []) = false := ⟨List.isEmpty_iff.2 h, by rw [h]; rfl, by rw [h]; rfl⟩
theorem void_no {s : ByteArray} (h : ¬ s.toList = []) : s.toList.isEmpty = false ∧ (s.toList == []) = false ∧ (s.toList != []) = true := by
  refine ⟨?_, beq_eq_false_iff_ne.2 h, bne_iff_ne.2 h⟩
  cases hq : s.toList.isEmpty with
  | false => rfl
  | true => exact absurd (List.isEmpty_iff.1 hq) h
theorem rgood_is {f : Nat} (r : Rl f) : goodR f r = (decide (1 ≤ r.act ∧ r.act ≤ 3) && (decide (r.cls = []) || nameS r.cls) && mayX f r.when_) := rfl
set_option maxHeartbeats 8000000 in
theorem rcheck_any (S : Nat → Prop) (f : Nat) (l : List (Rl f)) (v : Value) (w : World) (hv : RS w S f v l) :
    Calls Tryz.prog 21 #[v] w fun e w' => e = .returned (.int .i64 (checkR f l)) ∧ Below w.heap.size w w' := by
  obtain ⟨A3, cap3, rfl, hl3, hm3⟩ := hv.form
  have hlen : l.length ≤ 9223372036854775807 := by unfold maxLen at hm3; omega
  obtain ⟨r, hr⟩ : ∃ r, r = checkR f l := ⟨_, rfl⟩
  rw [← hr]
  by_cases h12 : 12 < l.length
  · rw [check_many h12] at hr
    subst hr
    have E : decide ((12 : Int) < (l.length : Int)) = true := decide_eq_true (by omega)
    have E' : decide (12 < l.length) = true := decide_eq_true h12
    go_enter Tryz.func21, Tryz.ntmps21
    go_wp2_with fail
    go_ret
    exact ⟨rfl, Below.refl _ _⟩
  have E : decide ((12 : Int) < (l.length : Int)) = false := decide_eq_false (by omega)
  have E' : decide (12 < l.length) = false := decide_eq_false h12
  have HBAD : Hid (∀ (j : Nat) (hj : j < l.length), goodR f l[j] = false → r = 1) := fun j hj h => hr.trans (check_bad h12 hj h)
  have HDUP : Hid ((∀ (j : Nat) (hj : j < l.length), goodR f l[j] = true) → ∀ (i k : Nat) (hi : i < l.length) (hk : k < i), l[k].cls = l[i].cls → r = 6) := fun hg i k hi hk h => hr.trans (check_dup h12 hg ⟨i, k, hi, hk, h⟩)
  have HOK : Hid ((∀ (j : Nat) (hj : j < l.length), goodR f l[j] = true) → (∀ (i k : Nat) (hi : i < l.length) (hk : k < i), ¬ l[k].cls = l[i].cls) → r = 0) := fun hg h => hr.trans (check_ok h12 hg (fun ⟨i, k, hi, hk, e⟩ => h i k hi hk e))
  clear hr
  have HRB : Hid (∀ (wr : World), Below w.heap.size w wr → ∀ (j : Nat) (hj : j < l.length), ∃ b o e1 e2 e3 e4, A3 = some ⟨b, o, none⟩ ∧ b < w.heap.size ∧ wr.cell? ⟨b, o + j * 6, none⟩ = some (strV l[j].cls) ∧ wr.cell? ⟨b, o + j * 6 + 1, none⟩ = some e1 ∧ wr.cell? ⟨b, o + j * 6 + 2, none⟩ = some e2 ∧ wr.cell? ⟨b, o + j * 6 + 3, none⟩ = some e3 ∧
      wr.cell? ⟨b, o + j * 6 + 4, none⟩ = some e4 ∧ wr.cell? ⟨b, o + j * 6 + 5, none⟩ = some (.int .i64 l[j].act) ∧ EV wr S f (.agg #[e1, e2, e3, e4]) l[j].when_ ∧ l[j].cls.length ≤ maxLen ∧ I64 l[j].act) := fun wr hb j hj => rule_b hv rfl hb j hj
  clear hv
  go_enter Tryz.func21, Tryz.ntmps21
  go_wp2_with fail
  clear E E'
  go_loopw [3] (fun iv wr => ∃ j : Nat, j ≤ l.length ∧ iv = .int .i64 j ∧ Hid (∀ (i : Nat) (hi : i < l.length), i < j → goodR f l[i] = true) ∧ Below w.heap.size w wr) (fun iv _ => l.length - (intOf iv).toNat)
  case atStart => exact ⟨0, by omega, rfl, fun i _ h => absurd h (Nat.not_lt_zero _), Below.refl _ _⟩
  case round =>
    obtain ⟨j, hj, rfl, hall, B⟩ := hrel
    by_cases hlt : j < l.length
    · have hltI : (j : Int) < (l.length : Int) := by omega
      obtain ⟨b, o, e1, e2, e3, e4, rfl, hb, k0, k1, k2, k3, k4, k5, hx, hcm, hai⟩ := HRB.out wr B j hlt
      have HB := Lib.hid (HBAD.out j hlt)
      have HN : Hid (goodR f l[j] = true → ∀ (i : Nat) (hi : i < l.length), i < j + 1 → goodR f l[i] = true) := fun h i hi hij => by
        rcases Nat.lt_or_ge i j with h' | h'
        · exact hall.out i hi h'
        · obtain rfl : i = j := by omega
          exact h
      rw [rgood_is] at HB HN
      have hmb := rmay_any S f l[j].when_ _ wr hx
      obtain ⟨_, _, _, _, e, hx4⟩ := hx
      injection e with e
      simp only [Array.mk.injEq, List.cons.injEq, and_true] at e
      obtain ⟨rfl, rfl, rfl, rfl⟩ := e
      obtain ⟨i0, i1, l2, X3, n3, z3, rfl, rfl, rfl, rfl⟩ := hx4.form
      have hnm := rname_any l[j].cls hcm
      have hbr : b < wr.heap.size := Nat.lt_of_lt_of_le hb B.size
      have HCE := Lib.hid (ne_not ⟨l[j].cls.toArray⟩ l[j].cls [] rfl)
      have HCN := Lib.hid (ne_if ⟨l[j].cls.toArray⟩ l[j].cls [] rfl)
      clear hx4 hall hcm
      generalize mayX f l[j].when_ = bm at *
      generalize nameS l[j].cls = bn at *
      obtain ⟨bc, hbc⟩ : ∃ bc, bc = decide (l[j].cls = []) := ⟨_, rfl⟩
      rw [← hbc] at HB HN
      have HCE2 : Hid (bc = true → (⟨l[j].cls.toArray⟩ : ByteArray).toList = []) := fun h => (HCE.out (of_decide_eq_true (hbc.symm.trans h))).2.2
      have HCN2 : Hid (bc = false → ¬ (⟨l[j].cls.toArray⟩ : ByteArray).toList = []) := fun h => (HCN.out (of_decide_eq_false (hbc.symm.trans h))).2.2
      clear HCE HCN hbc
      unfold strV at *
      generalize (⟨l2.toArray⟩ : ByteArray) = s2 at *
      generalize (⟨l[j].cls.toArray⟩ : ByteArray) = sc at *
      generalize l[j].act = ac at *
      by_cases hlo : ac < 1
      · have EL : decide (ac < 1) = true := decide_eq_true hlo
        rw [decide_eq_false (by omega), Bool.false_and, Bool.false_and] at HB
        obtain rfl := HB.out rfl
        clear HB HN hmb hnm HCE2 HCN2 hlo
        go_wp2_with fail
        go_ret
        exact ⟨rfl, B⟩
      have EL : decide (ac < 1) = false := decide_eq_false hlo
      by_cases hhi : 3 < ac
      · have EH : decide (3 < ac) = true := decide_eq_true hhi
        rw [decide_eq_false (by omega), Bool.false_and, Bool.false_and] at HB
        obtain rfl := HB.out rfl
        clear HB HN hmb hnm HCE2 HCN2 hlo hhi
        go_wp2_with fail
        go_ret
        exact ⟨rfl, B⟩
      have EH : decide (3 < ac) = false := decide_eq_false hhi
      rw [decide_eq_true (by omega), Bool.true_and] at HB HN
      clear hlo hhi hai
      cases bc with
      | true =>
        rw [Bool.true_or, Bool.true_and] at HB HN
        have hce := HCE2.out rfl
        obtain ⟨ec1, ec2, ec3⟩ := void_yes hce
        clear HCE2 HCN2 hnm
        go_wp2_with fail
        refine hmb.mono ?_
        rintro e w7 ⟨rfl, b7⟩
        have B7 := B.trans (b7.mono B.size)
        clear hmb b7 k0 k1 k2 k3 k4 k5
        cases bm with
        | false =>
          obtain rfl := HB.out rfl
          clear HB HN
          go_wp2_with fail
          go_ret
          exact ⟨rfl, B7⟩
        | true =>
          have hn := Lib.hid (HN.out rfl)
          clear HB HN
          go_wp2_with fail
          go_roundw
          case rel => exact ⟨j + 1, by omega, by go_num, hn, B7⟩
          case measure => simp [intOf]; omega
      | false =>
        rw [Bool.false_or] at HB HN
        have hce := HCN2.out rfl
        obtain ⟨ec1, ec2, ec3⟩ := void_no hce
        clear HCE2 HCN2
        go_wp2_with fail
        refine (hnm _).mono ?_
        rintro e w6 ⟨rfl, rfl⟩
        clear hnm
        cases bn with
        | false =>
          rw [Bool.false_and] at HB
          obtain rfl := HB.out rfl
          clear HB HN hmb
          go_wp2_with fail
          go_ret
          exact ⟨rfl, B⟩
        | true =>
          rw [Bool.true_and] at HB HN
          go_wp2_with fail
          refine hmb.mono ?_
          rintro e w7 ⟨rfl, b7⟩
          have B7 := B.trans (b7.mono B.size)
          clear hmb b7 k0 k1 k2 k3 k4 k5
          cases bm with
          | false =>
            obtain rfl := HB.out rfl
            clear HB HN
            go_wp2_with fail
            go_ret
            exact ⟨rfl, B7⟩
          | true =>
            have hn := Lib.hid (HN.out rfl)
            clear HB HN
            go_wp2_with fail
            go_roundw
            case rel => exact ⟨j + 1, by omega, by go_num, hn, B7⟩
            case measure => simp [intOf]; omega
    · have HG : Hid (∀ (i : Nat) (hi : i < l.length), goodR f l[i] = true) := fun i hi => hall.out i hi (by omega)
      have HDUP2 := Lib.hid (HDUP.out HG.out)
      have HOK2 := Lib.hid (HOK.out HG.out)
      clear HDUP HOK HBAD HG hall
      go_wp2_with fail
      obtain ⟨wo, hwo⟩ : ∃ wo, wo = wr := ⟨_, rfl⟩
      rw [← hwo]
      rw [← hwo] at B
      clear hwo
      go_loopw [4] (fun iv wr => ∃ j : Nat, j ≤ l.length ∧ iv = .int .i64 j ∧ Hid (∀ (i k : Nat) (hi : i < l.length) (hk : k < i), i < j → ¬ l[k].cls = l[i].cls) ∧ Below w.heap.size w wr) (fun iv _ => l.length - (intOf iv).toNat)
      case atStart => exact ⟨0, by omega, rfl, fun i k _ _ h => absurd h (Nat.not_lt_zero _), B⟩
      case round =>
        clear B
        obtain ⟨i, hi, rfl, hall, B⟩ := hrel
        by_cases hlt2 : i < l.length
        · have hltI : (i : Int) < (l.length : Int) := by omega
          obtain ⟨wq, hwq⟩ : ∃ wq, wq = wr := ⟨_, rfl⟩
          rw [← hwq]
          rw [← hwq] at B
          clear hwq
          go_wp2_with fail
          go_loopw [5] (fun kv wr => ∃ k : Nat, k ≤ i ∧ kv = .int .i64 k ∧ Hid (∀ (m : Nat) (hm : m < i), m < k → ¬ l[m].cls = l[i].cls) ∧ Below w.heap.size w wr) (fun kv _ => i - (intOf kv).toNat)
          case atStart => exact ⟨0, by omega, rfl, fun m _ h => absurd h (Nat.not_lt_zero _), B⟩
          case round =>
            clear B
            obtain ⟨k, hk, rfl, hin, B⟩ := hrel
            by_cases hki : k < i
            · have hkiI : (k : Int) < (i : Int) := by omega
              have hkl : k < l.length := by omega
              have hklI : (k : Int) < (l.length : Int) := by omega
              obtain ⟨b, o, _, _, _, _, rfl, hb, k0, _⟩ := HRB.out wr B k hkl
              obtain ⟨b', o', _, _, _, _, e, _, m0, _⟩ := HRB.out wr B i hlt2
              injection e with e
              injection e with e1 e2
              subst e1 e2
              have HD := Lib.hid (HDUP2.out i k hlt2 hki)
              have HN : Hid (¬ l[k].cls = l[i].cls → ∀ (m : Nat) (hm : m < i), m < k + 1 → ¬ l[m].cls = l[i].cls) := fun h m hm hmk => by
                rcases Nat.lt_or_ge m k with h' | h'
                · exact hin.out m hm h'
                · obtain rfl : m = k := by omega
                  exact h
              unfold strV at *
              obtain ⟨s, hs⟩ : ∃ s : ByteArray, s = ⟨l[k].cls.toArray⟩ := ⟨_, rfl⟩
              obtain ⟨s', hs'⟩ : ∃ s : ByteArray, s = ⟨l[i].cls.toArray⟩ := ⟨_, rfl⟩
              rw [← hs] at k0
              rw [← hs'] at m0
              have gq := eq_txt s s' _ _ hs hs'
              obtain ⟨eb, heb⟩ : ∃ eb, eb = decide (l[k].cls = l[i].cls) := ⟨_, rfl⟩
              rw [← heb] at gq
              have HEB := Lib.hid heb
              have HC : Hid (∀ W, Below wr.heap.size wr W → W.cell? ⟨b, o + k * 6, none⟩ = some (.string s) ∧ W.cell? ⟨b, o + i * 6, none⟩ = some (.string s')) := fun W hb5 => by
                have far : ∀ (g : Nat) (i : Nat) (u : Value), g < w.heap.size → wr.cell? ⟨g, i, none⟩ = some u → W.cell? ⟨g, i, none⟩ = some u := fun g i u hg hu =>
                  (World.cell?_of_block (w := wr) (hb5.block g (Nat.lt_of_lt_of_le hg B.size))).trans hu
                exact ⟨far _ _ _ hb k0, far _ _ _ hb m0⟩
              have Bd : Below w.heap.size w wr.drew := Below_drawn B 1
              clear hs hs' heb hin
              go_wp2_with fail
              rename_i KK hKK
              have HKK := Lib.hid hKK
              clear hKK k0 m0
              refine wp_region_held_drew (S := (fun W => W.cell? ⟨b, o + k * 6, none⟩ = some (.string s) ∧ W.cell? ⟨b, o + i * 6, none⟩ = some (.string s'))) (by kernel_rfl) (HC.out _ (Below_drawn (Below.refl _ _) 1)) (fun hHeld => ?_)
              refine hyY (some 66) 0 rfl hHeld ?_; go_frame
              refine hyY (some 67) 1 rfl hHeld ?_; go_frame
              refine hyY (some 68) 2 rfl hHeld ?_; go_frame
              refine hyY (some 69) 3 rfl hHeld ?_; go_frame
              refine hyY (some 70) 4 rfl hHeld ?_; go_frame
              refine hyY (some 71) 5 rfl hHeld ?_; go_frame
              refine hyY (some 72) 6 rfl hHeld ?_; go_frame
              refine hyY (some 73) 7 rfl hHeld ?_; go_frame
              refine hyY (some 74) 8 rfl hHeld ?_; go_frame
              refine hyY (some 75) 9 rfl hHeld ?_; go_frame
              refine hyY (some 76) 10 rfl hHeld ?_; go_frame
              refine wpAnyH_done (by kernel_rfl) ?_ _
              have hKK := HKK.out
              cases eb with
              | true =>
                obtain rfl := HD.out (of_decide_eq_true HEB.out.symm)
                clear HD HN HEB
                go_wp2_with fail
                go_ret
                exact ⟨rfl, Bd⟩
              | false =>
                have hn := Lib.hid (HN.out (of_decide_eq_false HEB.out.symm))
                clear HD HN HEB
                go_wp2_with fail
                go_roundw
                case rel => exact ⟨k + 1, by omega, by go_num, hn, Bd⟩
                case measure =>
                  simp [intOf]
                  omega
            · have hkiI : ¬ (k : Int) < (i : Int) := by omega
              have hn : Hid (∀ (a c : Nat) (ha : a < l.length) (hc : c < a), a < i + 1 → ¬ l[c].cls = l[a].cls) := fun a c ha hc hai => by
                rcases Nat.lt_or_ge a i with h' | h'
                · exact hall.out a c ha hc h'
                · obtain rfl : a = i := by omega
                  exact hin.out c hc (by omega)
              go_wp2_with fail
              go_roundw
              case rel => exact ⟨i + 1, by omega, by go_num, hn, B⟩
              case measure => simp [intOf]; omega
        · obtain rfl := HOK2.out fun a c ha hc => hall.out a c ha hc (by omega)
          clear HDUP2 HOK2 hall
          go_wp2_with fail
          go_ret
          exact ⟨rfl, B⟩
end
end Go.Proofs.YthindhlogkhclaaGreatDoor
