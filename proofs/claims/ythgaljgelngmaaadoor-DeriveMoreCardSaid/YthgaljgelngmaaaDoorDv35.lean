/-
  DcC: The document's closure of a list of terms: its contract, over the loaded program. No condition but what the theorem names.
-/
import Derived.Test.YthgaljgelngmaaaDoorDv28

section
namespace Go.Proofs.YthgaljgelngmaaaDoor
open Go.RowKit
set_option linter.unusedVariables false

/-- How long a slice is. -/
def intOf' : Value → Nat
  | .slice _ n _ => n
  | _ => 0
theorem own_len {w : World} {B e size n : Nat} {v : Value} {xs : List Value} (h : w.ownsRow B e size v n xs) : intOf' v = n := by
  obtain ⟨A, c, rfl⟩ := own_form h
  rfl
theorem okD_lift (f : Nat) (t : Tm f) (h : okD f t) : okD (f + 1) (lift f t) := by
  obtain ⟨d, h⟩ := h
  exact ⟨d, by rw [mayT_lift]; exact h⟩
theorem okD_parts : ∀ (f : Nat) (t : Tm f), okD f t → ∀ x ∈ partsT f t, okD f x
  | 0, t => nomatch t
  | f + 1, t => by
    intro h x hx
    obtain ⟨tk, tn, td, tks⟩ := (t : Nd (Tm f))
    rcases List.mem_cons.1 (show x ∈ ((⟨tk, tn, td, tks⟩ : Nd (Tm f)) : Tm (f + 1)) :: (tks.flatMap fun u => (partsT f u).map (lift f)) from hx) with rfl | hx
    · exact h
    · obtain ⟨v, hv, hx⟩ := List.mem_flatMap.1 hx
      obtain ⟨y, hy, rfl⟩ := List.mem_map.1 hx
      refine okD_lift f y (okD_parts f v ?_ y hy)
      obtain ⟨d, h'⟩ := h
      have h'' : (decide (1 ≤ d) && ownOk (⟨tk, tn, td, tks⟩ : Nd (Tm f)) && (tks.all fun u => mayT f u (d - 1)) && (decide (tk ≠ 5) || decide (kindAt f tks 1 = 2))) = true := h'
      rw [Bool.and_eq_true, Bool.and_eq_true, List.all_eq_true] at h''
      exact ⟨d - 1, h''.1.2 v hv⟩
theorem okD_univ {f : Nat} {l : List (Tm f)} (h : ∀ t ∈ l, okD f t) : ∀ x ∈ univT f l, okD f x := by
  intro x hx
  obtain ⟨t, ht, hx⟩ := List.mem_flatMap.1 hx
  exact okD_parts f t (h t ht) x hx

set_option maxHeartbeats 4000000 in
theorem rclosure_any (S : Nat → Prop) (f : Nat) (l : List (Tm f)) (v : Value) (w : World) (hS : ∀ b, S b → b < w.heap.size) (hl : KS w S (TM w S f) v l) :
    Calls Tryd.prog 9 #[v] w fun e w' => ∃ u, e = .returned (.tuple #[u, .int .i64 (errT f l)]) ∧ Closed f l w' u (errT f l) ∧ Below w.heap.size w w' := by
  obtain ⟨A, c, rfl, hlc, hm, _⟩ := id hl
  have hle : l.length ≤ 9223372036854775807 := by unfold maxLen at hm; omega
  obtain ⟨E, hE⟩ : ∃ E, E = errT f l := ⟨_, rfl⟩
  rw [← hE]
  have HE := Lib.hid hE
  clear hE
  go_enter Tryd.func9, Tryd.ntmps9
  go_wp2_with fail
  go_loopw [4] (fun iv wr => ∃ j : Nat, j ≤ l.length ∧ iv = .int .i64 j ∧ Hid ((l.take j).all (fun t => mayT f t 8) = true) ∧ Below w.heap.size w wr) (fun iv _ => l.length - (intOf iv).toNat)
  case atStart => exact ⟨0, by omega, rfl, by show _ = _; simp, Below.refl _ _⟩
  case round =>
    obtain ⟨j, hj, rfl, HA, B⟩ := hrel
    by_cases hlt : j < l.length
    · obtain ⟨b, o, e0, e1, e2, e3, rfl, hb, k0, k1, k2, k3, hv⟩ := el_at hl rfl B j hlt
      have hc := rMay_any S f l[j] _ wr ⟨_, _, _, _, rfl, hv⟩
      have HY : Hid (mayT f l[j] 8 = true → (l.take (j + 1)).all (fun t => mayT f t 8) = true) := fun h => all_step hlt HA.out h
      have HN : Hid (mayT f l[j] 8 = false → errT f l = 1) := fun h => errT_one (all_stop (P := fun t => mayT f t 8) hlt h)
      generalize mayT f l[j] 8 = r at *
      clear hv HA
      go_wp2_with fail
      refine hc.mono ?_
      rintro e w5 ⟨rfl, b5⟩
      have B5 := B.trans (b5.mono B.size)
      clear hc B
      cases r with
      | true =>
        have HY' := Lib.hid (HY.out rfl)
        clear HY HN
        go_wp2_with fail
        go_roundw
        case rel => exact ⟨j + 1, by omega, by go_num, HY', B5⟩
        case measure => simp [intOf]; omega
      | false =>
        have hr := HE.out.trans (HN.out rfl)
        clear HY HN HE
        subst hr
        go_wp2_with fail
        go_ret2
        exact ⟨_, rfl, Closed.nil (by decide), B5⟩
    · obtain rfl : j = l.length := by omega
      have HM : Hid (l.all (fun t => mayT f t 8) = true) := by
        have := HA.out
        rwa [List.take_length] at this
      have HMay : Hid (∀ t ∈ l, mayT f t 8 = true) := List.all_eq_true.1 HM.out
      clear HA
      go_wp2_with fail
      clear hm
      go_loopw [5, 6] (fun nv iv wr => ∃ j n : Nat, j ≤ l.length ∧ iv = .int .i64 j ∧ nv = .int .i64 n ∧ n ≤ 3000 ∧ Hid (n = (univT f (l.take j)).length) ∧ Below w.heap.size w wr) (fun _ iv _ => l.length - (intOf iv).toNat)
      case atStart => exact ⟨0, 0, by omega, rfl, rfl, by omega, rfl, B⟩
      case round =>
        clear B
        obtain ⟨j, n, hj, rfl, rfl, hn, HU, B⟩ := hrel
        have fin : (¬ (j < l.length) ∨ 2000 < n) → Hid ((300 < l.length ∨ 2000 < n) → errT f l = 4) ∧ Hid (¬ (300 < l.length ∨ 2000 < n) → errT f l = 0 ∧ l.length ≤ 300 ∧ (univT f l).length ≤ 2000) := by
          intro h
          refine ⟨fun h4 => errT_four HM.out ?_, fun h0 => ?_⟩
          · rcases h4 with h4 | h4
            · exact .inl h4
            · right
              have := univT_take_le f l j
              rw [← HU.out] at this
              omega
          · have hjl : j = l.length := by omega
            have hu := HU.out
            rw [hjl, List.take_length] at hu
            exact ⟨errT_zero HM.out (by omega) (by omega), by omega, by omega⟩
        by_cases hlt : j < l.length ∧ n ≤ 2000
        · obtain ⟨hlt, hn2⟩ := hlt
          obtain ⟨b, o, e0, e1, e2, e3, rfl, hb, k0, k1, k2, k3, hv⟩ := el_at hl rfl B j hlt
          have hp := partsT_may (HMay.out _ (List.getElem_mem hlt))
          have hc := rparts_any S f l[j] _ wr (fun b hb => Nat.lt_of_lt_of_le (hS b hb) B.size) ⟨_, _, _, _, rfl, hv⟩ (by omega)
          have HS : Hid ((univT f (l.take (j + 1))).length = n + (partsT f l[j]).length) := by
            show _ = _
            rw [univT_take f l j hlt, ← HU.out]
          generalize partsT f l[j] = M at *
          have g1 : decide ((n : Int) ≤ 2000) = true := decide_eq_true (by omega)
          clear hv HU fin
          go_wp2_with fail
          refine hc.mono ?_
          rintro e w5 ⟨u, qs, rfl, how, hq, b5⟩
          have B5 := B.trans (b5.mono B.size)
          obtain ⟨A5, c5, rfl⟩ := own_form how
          have HL : Hid (qs.length = M.length) := hq.1
          have hp5 : qs.length ≤ 255 := by rw [hq.1]; exact hp
          clear hc B how hq hp
          go_wp2_with fail
          go_roundw
          case rel => exact ⟨j + 1, n + qs.length, by omega, by go_num, by go_num, by omega, by show _ = _; rw [HS.out, HL.out], B5⟩
          case measure => simp [intOf]; omega
        · obtain ⟨H4, H0⟩ := fin (by omega)
          clear fin HU
          by_cases h4 : 300 < l.length ∨ 2000 < n
          · have hr := HE.out.trans (H4.out h4)
            clear H4 H0 HE
            subst hr
            by_cases hlt2 : j < l.length
            · have g1 : decide ((n : Int) ≤ 2000) = false := decide_eq_false (by omega)
              by_cases h3 : 300 < l.length
              · have g3 : decide (300 < (l.length : Int)) = true := decide_eq_true (by omega)
                go_wp2_with fail
                go_ret2
                exact ⟨_, rfl, Closed.nil (by decide), B⟩
              · have g3 : decide (300 < (l.length : Int)) = false := decide_eq_false (by omega)
                have g4 : decide (2000 < (n : Int)) = true := decide_eq_true (by omega)
                go_wp2_with fail
                go_ret2
                exact ⟨_, rfl, Closed.nil (by decide), B⟩
            · by_cases h3 : 300 < l.length
              · have g3 : decide (300 < (l.length : Int)) = true := decide_eq_true (by omega)
                go_wp2_with fail
                go_ret2
                exact ⟨_, rfl, Closed.nil (by decide), B⟩
              · have g3 : decide (300 < (l.length : Int)) = false := decide_eq_false (by omega)
                have g4 : decide (2000 < (n : Int)) = true := decide_eq_true (by omega)
                go_wp2_with fail
                go_ret2
                exact ⟨_, rfl, Closed.nil (by decide), B⟩
          · obtain ⟨he, hl3, hu2⟩ := H0.out h4
            have hr := HE.out.trans he
            clear H4 H0 he HE
            subst hr
            have g3 : decide (300 < (l.length : Int)) = false := decide_eq_false (by omega)
            have g4 : decide (2000 < (n : Int)) = false := decide_eq_false (by omega)
            have HU2 : Hid ((univT f l).length ≤ 2000) := hu2
            have hjl : ¬ (j < l.length) := by omega
            clear hu2 hlt
            go_wp2_with fail
            clear g3 g4 h4 hjl hj hn
            go_loopw [7, 8] (fun ov iv wr => ∃ (j : Nat) (qs : List Quad), j ≤ l.length ∧ iv = .int .i64 j ∧ wr.ownsRow w.heap.size 35 4 ov qs.length (flatQ qs) ∧ QT wr S f qs (putsD [] (l.take j)) ∧ Below w.heap.size w wr) (fun _ iv _ => l.length - (intOf iv).toNat)
            case atStart => exact ⟨0, [], by omega, rfl, ⟨rfl, .inl ⟨rfl, rfl⟩⟩, QT.nil _ _ _, B⟩
            case round =>
              clear B
              obtain ⟨j, qs, hj, rfl, how, hq, B⟩ := hrel
              by_cases hlt : j < l.length
              · obtain ⟨b, o, e0, e1, e2, e3, rfl, hb, k0, k1, k2, k3, hv⟩ := el_at hl rfl B j hlt
                have hks := KS_row how hq fun b hb => Nat.lt_of_lt_of_le (hS b hb) B.size
                have hc := has_any _ _ S f (putsD [] (l.take j)) l[j] _ _ wr hks ⟨_, _, _, _, rfl, hv⟩
                have HS : Hid (putsD [] (l.take (j + 1)) = putD (putsD [] (l.take j)) l[j]) := putsD_take [] l j hlt
                have hql : qs.length ≤ l.length := by rw [hq.1]; exact start_len j
                have HD : Hid (∀ c : List (Tm f), putD c l[j] = if l[j] ∈ c then c else c ++ [l[j]]) := fun c => rfl
                generalize putsD [] (l.take j) = C at *
                obtain ⟨i0, i1, X2, n2, z2, X3, n3, z3, rfl, rfl, rfl, rfl⟩ := tm_form hv
                obtain ⟨A7, c7, rfl⟩ := own_form how
                have HY : Hid (decide (l[j] ∈ C) = true → putsD [] (l.take (j + 1)) = C) := fun h => by
                  rw [HS.out, HD.out, if_pos (of_decide_eq_true h)]
                have HN : Hid (decide (l[j] ∈ C) = false → putsD [] (l.take (j + 1)) = C ++ [l[j]]) := fun h => by
                  rw [HS.out, HD.out, if_neg (of_decide_eq_false h)]
                generalize decide (l[j] ∈ C) = r at *
                clear hks HD HS
                go_wp2_with fail
                refine hc.mono ?_
                rintro e w5 ⟨rfl, b5⟩
                have B5 := B.trans (b5.mono B.size)
                have how5 := own_past b5 how
                have hq5 := hq.below' b5
                have hv5 := TM.keepS f _ _ _ _ _ hv b5.size (fun b _ hlt => b5.block b hlt) fun _ h => h
                have hb5 : b < w5.heap.size := Nat.lt_of_lt_of_le hb B5.size
                have hcell := fun (x : Nat) => World.cell?_of_block (w := wr) (w' := w5) (a := ⟨b, x, none⟩) (b5.block b (Nat.lt_of_lt_of_le hb B.size))
                replace k0 := (hcell _).trans k0
                replace k1 := (hcell _).trans k1
                replace k2 := (hcell _).trans k2
                replace k3 := (hcell _).trans k3
                clear hc hcell how hq hv B b5
                cases r with
                | true =>
                  have hr := HY.out rfl
                  rw [← hr] at hq5
                  clear HY HN hr
                  go_wp2_with fail
                  go_roundw
                  case rel => exact ⟨j + 1, qs, by omega, by go_num, how5, hq5, B5⟩
                  case measure => simp [intOf]; omega
                | false =>
                  have HN' := Lib.hid (HN.out rfl)
                  have HL : Hid (qs.length + 1 ≤ 1000000000) := by show _ ≤ _; omega
                  clear HY HN hql
                  go_wp2_with (at_builtin; refine wpList_growT _ rfl _ _ rfl w.heap.size _ qs rfl (own_past ((Below.refl _ _).alloc (Nat.le_refl _) _) how5) _ _ [_] rfl (At_one _ _ _ _ _) (QT.one hv5).cells1 HL.out (Nat.le_trans B5.size (by simp)) ?_; intro v7 w7 how7 hg7 _)
                  have B7 := Below_oneMore B5 how5 (Nat.le_refl _) B5.size hg7
                  have hq7 := hq5.oneMore hv5 how5 (fun b hb => ⟨hS b hb, Nat.lt_of_lt_of_le (hS b hb) B5.size⟩) hg7
                  rw [← HN'.out] at hq7
                  go_roundw
                  case rel => exact ⟨j + 1, _, by omega, by go_num, how7, hq7, B7⟩
                  case measure => simp [intOf]; omega
              · obtain rfl : j = l.length := by omega
                rw [List.take_length] at hq
                have HSo : Hid (SofarD f l (putsD [] l)) := SofarD.start f l
                generalize putsD [] l = out0 at *
                clear hj hle
                have HIn : Hid (∀ x ∈ univT f l, okD f x) := fun x hx => okD_univ (fun t ht => ⟨8, HMay.out t ht⟩) x hx
                go_wp2_with fail
                go_loopw [7] (fun ov wr => ∃ (out : List (Tm f)) (qs : List Quad), Hid (SofarD f l out) ∧ wr.ownsRow w.heap.size 35 4 ov qs.length (flatQ qs) ∧ QT wr S f qs out ∧ Below w.heap.size w wr ∧ Hid (intOf' ov = qs.length)) (fun ov _ => 3000 - intOf' ov)
                case atStart => exact ⟨out0, qs, HSo, how, hq, B, own_len how⟩
                case round =>
                  clear B hq how HSo
                  obtain ⟨out, qs, HSo, how, hq, B, HO⟩ := hrel
                  obtain ⟨A7, c7, rfl⟩ := own_form how
                  have hqo : qs.length = out.length := hq.1
                  have hout : out.length ≤ 2000 := Nat.le_trans HSo.out.len HU2.out
                  have HN0 : Hid (qs.length = out.length) := hqo
                  go_wp2_with fail
                  go_loopw [7, 10] (fun ov iv wr => ∃ (i : Nat) (ps : List Quad), i ≤ qs.length ∧ iv = .int .i64 i ∧ wr.ownsRow w.heap.size 35 4 ov ps.length (flatQ ps) ∧ QT wr S f ps (stepD (vwT f) out (out.take i)) ∧ Below w.heap.size w wr) (fun _ iv _ => qs.length - (intOf iv).toNat)
                  case atStart => exact ⟨0, qs, by omega, rfl, how, by rw [step_none]; exact hq, B⟩
                  case round =>
                    clear B hq how
                    obtain ⟨i, ps, hi, rfl, how, hq, B⟩ := hrel
                    obtain ⟨A7', c7', rfl⟩ := own_form how
                    have hps : ps.length ≤ 2000 := by rw [hq.1]; exact Nat.le_trans (HSo.out.within' i) HU2.out
                    by_cases hlt : i < qs.length
                    · have hio : i < out.length := by omega
                      have hgi : (stepD (vwT f) out (out.take i))[i]? = some out[i] := by rw [step_get _ _ _ hio]; exact List.getElem?_eq_getElem hio
                      have htu : out[i] ∈ univT f l := HSo.out.2.1 _ (List.getElem_mem hio)
                      obtain ⟨g, cg, e0, e1, e2, e3, ev, hg, k0, k1, k2, k3, tm, _⟩ := own_at how hq i _ hgi
                      injection ev with ev1 ev2 ev3
                      subst ev1 ev3
                      clear ev2
                      have hpl : i < ps.length := by
                        have := (List.getElem?_eq_some_iff.1 hgi).1
                        rw [hq.1]; exact this
                      have hc := gives_any _ _ S f (stepD (vwT f) out (out.take i)) out[i] _ _ wr (HIn.out _ htu) (KS_row how hq fun b hb => Nat.lt_of_lt_of_le (hS b hb) B.size) ⟨_, _, _, _, rfl, tm⟩
                      have HS1 : Hid (stepD (vwT f) out (out.take (i + 1)) = putsD (stepD (vwT f) out (out.take i)) (givesD (vwT f) (stepD (vwT f) out (out.take i)) out[i])) := stepD_take (vwT f) out out i hio
                      have HW : Hid (∀ j, (putsD (stepD (vwT f) out (out.take i)) ((givesD (vwT f) (stepD (vwT f) out (out.take i)) out[i]).take j)).length ≤ 2000) := fun j => Nat.le_trans (HSo.out.within i j _ htu) HU2.out
                      generalize stepD (vwT f) out (out.take i) = C at *
                      generalize givesD (vwT f) C out[i] = G at *
                      clear tm hgi htu hqo
                      go_wp2_with fail
                      refine hc.mono ?_
                      rintro e w5 ⟨u, rfl, hu, b5⟩
                      have B5 := B.trans (b5.mono B.size)
                      have how5 := own_past b5 how
                      have hq5 := hq.below' b5
                      obtain ⟨AG, cG, rfl, hGc, hGm, _⟩ := id hu
                      have hGl : G.length ≤ 9223372036854775807 := by unfold maxLen at hGm; omega
                      have hS5 : ∀ b, S b → b < w5.heap.size := fun b hb => Nat.lt_of_lt_of_le (hS b hb) B5.size
                      clear hc how hq B k0 k1 k2 k3 hg b5
                      go_wp2_with fail
                      go_loopw [7, 12] (fun ov iv wr => ∃ (k : Nat) (rs : List Quad), k ≤ G.length ∧ iv = .int .i64 k ∧ wr.ownsRow w.heap.size 35 4 ov rs.length (flatQ rs) ∧ QT wr S f rs (putsD C (G.take k)) ∧ Below w.heap.size w wr ∧ KS wr S (TM wr S f) (.slice AG G.length cG) G) (fun _ iv _ => G.length - (intOf iv).toNat)
                      case atStart => exact ⟨0, ps, by omega, rfl, how5, by rw [List.take_zero]; exact hq5, B5, hu⟩
                      case round =>
                        clear how5 hq5 B5 hu hS5
                        obtain ⟨k, rs, hk, rfl, how, hq, B, hG⟩ := hrel
                        obtain ⟨A8, c8, rfl⟩ := own_form how
                        have hrs : rs.length ≤ 2000 := by rw [hq.1]; exact HW.out k
                        by_cases hlk : k < G.length
                        · obtain ⟨b, o, e0, e1, e2, e3, rfl, hb, k0, k1, k2, k3, hv⟩ := el_at hG rfl (Below.refl _ _) k hlk
                          have hks := KS_row how hq fun b hb => Nat.lt_of_lt_of_le (hS b hb) B.size
                          have hc := has_any _ _ S f (putsD C (G.take k)) G[k] _ _ wr hks ⟨_, _, _, _, rfl, hv⟩
                          have HSk : Hid (putsD C (G.take (k + 1)) = putD (putsD C (G.take k)) G[k]) := putsD_take C G k hlk
                          have HD : Hid (∀ c : List (Tm f), putD c G[k] = if G[k] ∈ c then c else c ++ [G[k]]) := fun c => rfl
                          generalize putsD C (G.take k) = C' at *
                          obtain ⟨i0, i1, X2, n2, z2, X3, n3, z3, rfl, rfl, rfl, rfl⟩ := tm_form hv
                          have HY : Hid (decide (G[k] ∈ C') = true → putsD C (G.take (k + 1)) = C') := fun h => by
                            rw [HSk.out, HD.out, if_pos (of_decide_eq_true h)]
                          have HN : Hid (decide (G[k] ∈ C') = false → putsD C (G.take (k + 1)) = C' ++ [G[k]]) := fun h => by
                            rw [HSk.out, HD.out, if_neg (of_decide_eq_false h)]
                          generalize decide (G[k] ∈ C') = r at *
                          clear hks HD HSk
                          go_wp2_with fail
                          refine hc.mono ?_
                          rintro e w5 ⟨rfl, b5⟩
                          have B5 := B.trans (b5.mono B.size)
                          have how5 := own_past b5 how
                          have hq5 := hq.below' b5
                          have hv5 := TM.keepS f _ _ _ _ _ hv b5.size (fun b _ hlt => b5.block b hlt) fun _ h => h
                          have hG5 := hG.keep b5.size (fun b _ hlt => b5.block b hlt)
                          have hb5 : b < w5.heap.size := Nat.lt_of_lt_of_le hb b5.size
                          have hcell := fun (x : Nat) => World.cell?_of_block (w := wr) (w' := w5) (a := ⟨b, x, none⟩) (b5.block b hb)
                          replace k0 := (hcell _).trans k0
                          replace k1 := (hcell _).trans k1
                          replace k2 := (hcell _).trans k2
                          replace k3 := (hcell _).trans k3
                          clear hc hcell how hq hv B b5 hG
                          cases r with
                          | true =>
                            have hr := HY.out rfl
                            rw [← hr] at hq5
                            clear HY HN hr
                            go_wp2_with fail
                            go_roundw
                            case rel => exact ⟨k + 1, rs, by omega, by go_num, how5, hq5, B5, hG5⟩
                            case measure => simp [intOf]; omega
                          | false =>
                            have HN' := Lib.hid (HN.out rfl)
                            have HL : Hid (rs.length + 1 ≤ 1000000000) := by show _ ≤ _; omega
                            clear HY HN hrs
                            go_wp2_with (at_builtin; refine wpList_growT _ rfl _ _ rfl w.heap.size _ rs rfl (own_past ((Below.refl _ _).alloc (Nat.le_refl _) _) how5) _ _ [_] rfl (At_one _ _ _ _ _) (QT.one hv5).cells1 HL.out (Nat.le_trans B5.size (by simp)) ?_; intro v7 w7 how7 hg7 _)
                            have B7 := Below_oneMore B5 how5 (Nat.le_refl _) B5.size hg7
                            have hq7 := hq5.oneMore hv5 how5 (fun b hb => ⟨hS b hb, Nat.lt_of_lt_of_le (hS b hb) B5.size⟩) hg7
                            have hG7 := (hG5.keep (w' := w5.alloc _) (by simp) (fun b _ hlt => Below.heap_alloc _ _ b hlt)).keep hg7.size (fun b sb hlt => hg7.block b hlt fun e => absurd (own_ge how5 b e.symm) (by have := hS b sb; omega))
                            rw [← HN'.out] at hq7
                            go_roundw
                            case rel => exact ⟨k + 1, _, by omega, by go_num, how7, hq7, B7, hG7⟩
                            case measure => simp [intOf]; omega
                        · obtain rfl : k = G.length := by omega
                          rw [List.take_length, ← HS1.out] at hq
                          go_wp2_with fail
                          go_roundw
                          case rel => exact ⟨i + 1, rs, by omega, by go_num, how, hq, B⟩
                          case measure => simp [intOf]; omega
                    · obtain rfl : i = qs.length := by omega
                      rw [hqo, step_whole] at hq
                      have HR : Hid (ps.length = (roundD (vwT f) out).length) := hq.1
                      by_cases he : ps.length = qs.length
                      · have hd := HSo.out.done (by rw [← HR.out, he, hqo])
                        rw [hd] at hq
                        have hks := KS_row how hq fun b hb => Nat.lt_of_lt_of_le (hS b hb) B.size
                        have HKS := Lib.hid hks
                        rw [he.trans hqo] at hks
                        clear hd hq how
                        have g9 : decide ((ps.length : Int) = (qs.length : Int)) = true := decide_eq_true (by omega)
                        go_wp2_with fail
                        go_ret2
                        first | exact ⟨_, rfl, Closed.yes hks, B⟩ | exact ⟨_, rfl, Closed.yes HKS.out, B⟩
                      · have hn := HSo.out.next (by rw [← HR.out, ← hqo]; exact he)
                        have HSn := Lib.hid hn.1
                        have hgt : qs.length < ps.length := by rw [HR.out, hqo]; exact hn.2
                        have g9 : decide ((ps.length : Int) = (qs.length : Int)) = false := decide_eq_false (by omega)
                        have HO' : Hid (intOf' (.slice A7' ps.length c7') = ps.length) := own_len how
                        clear hn
                        go_wp2_with fail
                        go_roundw
                        case rel => exact ⟨_, ps, HSn, how, hq, B, HO'⟩
                        case measure =>
                          have h1 := HO'.out
                          have h2 := HO.out
                          rw [h1, h2]
                          omega
end Go.Proofs.YthgaljgelngmaaaDoor
end
