/-
  PbH: The document's run, Rules and Cost (layer 18), over the loaded program: their contracts. No condition but sizes.
-/
import Derived.Test.YthindhlogkhclaaGreatDoorPz29
import Derived.Test.YthindhlogkhclaaGreatDoorPz41
import Derived.Test.YthindhlogkhclaaGreatDoorPz44
import Derived.Test.YthindhlogkhclaaGreatDoorPz48
import Derived.BigQuiet
set_option linter.unusedVariables false
set_option maxRecDepth 100000
namespace Go.Proofs.YthindhlogkhclaaGreatDoor
section
open Go.RowKit
def RunAs (t : List UInt8) (fuel : Int) (w : World) (e : Ending) (w' : World) : Prop :=
  ∃ (v : Value), e = .returned (.tuple #[v, .int .i64 ((readP t fuel).2.1 : Int), .int .i64 (readP t fuel).2.2.1, .int .i64 (readP t fuel).2.2.2]) ∧ RS w' (fun b => b < w'.heap.size) 17 v (readP t fuel).1 ∧ Below w.heap.size w w'
set_option maxHeartbeats 16000000 in
theorem run18_any (t : List UInt8) (ht : t.length ≤ maxLen) (fuel : Int) (hfu : I64 fuel) (w : World) : Calls Tryz.prog 12 #[strV t, .int .i64 fuel] w (RunAs t fuel w) := by
  have ha := rall_any t ht w
  have hfine := fine_all t
  unfold RAllAs at ha
  obtain ⟨D, hD⟩ : ∃ D, D = RunAs t fuel w := ⟨_, rfl⟩
  rw [← hD]
  have HD : Hid (∀ W v, RS W (fun b => b < W.heap.size) 17 v (readP t fuel).1 → Below w.heap.size w W →
      D (.returned (.tuple #[v, .int .i64 ((readP t fuel).2.1 : Int), .int .i64 (readP t fuel).2.2.1, .int .i64 (readP t fuel).2.2.2])) W) := fun W v h1 h3 => by rw [hD]; exact ⟨v, rfl, h1, h3⟩
  clear hD
  obtain ⟨ts, hts0⟩ : ∃ ts : ByteArray, ts = ⟨t.toArray⟩ := ⟨_, rfl⟩
  have hts : strV t = .string ts := by unfold strV; rw [hts0]
  have hzs : (ts.size : Int) = (t.length : Int) := by rw [hts0]; rfl
  rw [hts] at ha ⊢
  clear hts0
  by_cases hz : (allS t).2.2 = 0
  case neg =>
    have hrd := read_bad (n := fuel) hz
    rw [hrd] at HD
    have g1 : ((allS t).2.2 == 0) = false := beq_eq_false_iff_ne.2 hz
    have g2 : ((allS t).2.2 != 0) = true := bne_iff_ne.2 hz
    have HD2 : Hid (∀ W, Below w.heap.size w W → D (.returned (.tuple #[.slice none 0 0, .int .i64 ((allS t).2.1 : Int), .int .i64 (allS t).2.2, .int .i64 0])) W) := fun W hb => HD.out W (.slice none 0 0) (RS.nil _ _ _) hb
    clear HD hrd hfine hzs
    generalize (allS t).2.2 = r at *
    generalize ((allS t).2.1 : Int) = at_ at *
    go_enter Tryz.func12, Tryz.ntmps12
    go_wp2_with fail
    refine ha.mono ?_
    rintro e w1 ⟨v, rfl, hv, b1⟩
    have hfin := HD2.out w1 b1
    obtain ⟨A, c, rfl, _⟩ := hv.form
    clear ha HD2 hv
    go_wp2_with fail
    refine bodyPost_ret (results_tmp4 rfl _ _ _) rfl ?_
    exact hfin
  have hend := all_end hz
  obtain ⟨nl, hnl⟩ : ∃ nl, nl = t.length := ⟨_, rfl⟩
  obtain ⟨L, hL⟩ : ∃ L, L = (allS t).1 := ⟨_, rfl⟩
  obtain ⟨M, hM⟩ : ∃ M, M = runP L fuel := ⟨_, rfl⟩
  have HM0 : Hid (rulesP L.length [] ⟨L, fuel, 0, 0⟩ = M) := hM.symm
  have HE1 : Hid (∀ W, M.2.e ≠ 0 → Below w.heap.size w W → D (.returned (.tuple #[.slice none 0 0, .int .i64 (hereP nl M.2 : Int), .int .i64 M.2.e, .int .i64 M.2.used])) W) := fun W he hb => by
    have hd := HD.out W (.slice none 0 0)
    rw [read_wrong hz (by rw [← hL, ← hM]; exact he), ← hL, ← hM, ← hnl] at hd
    exact hd (RS.nil _ _ _) hb
  have HE2 : Hid (∀ W, M.2.e = 0 → checkR 17 M.1 ≠ 0 → Below w.heap.size w W → D (.returned (.tuple #[.slice none 0 0, .int .i64 0, .int .i64 (checkR 17 M.1), .int .i64 M.2.used])) W) := fun W he hc hb => by
    have hd := HD.out W (.slice none 0 0)
    rw [read_not hz (by rw [← hL, ← hM]; exact he) (by rw [← hL, ← hM]; exact hc), ← hL, ← hM] at hd
    exact hd (RS.nil _ _ _) hb
  have HE3 : Hid (∀ W v, M.2.e = 0 → checkR 17 M.1 = 0 → RS W (fun b => b < W.heap.size) 17 v M.1 → Below w.heap.size w W → D (.returned (.tuple #[v, .int .i64 (nl : Int), .int .i64 0, .int .i64 M.2.used])) W) := fun W v he hc hr hb => by
    have hd := HD.out W v
    rw [read_good hz (by rw [← hL, ← hM]; exact he) (by rw [← hL, ← hM]; exact hc), ← hL, ← hM, ← hnl] at hd
    exact hd hr hb
  rw [hz, hend, ← hnl, ← hL] at ha
  rw [← hL] at hfine
  rw [← hnl] at hzs
  have HFI := Lib.hid hfine.1
  have HFL : Hid (L.length ≤ 600) := hfine.2
  clear HD hend hz hM hL hfine hnl ht hts
  go_enter Tryz.func12, Tryz.ntmps12
  go_wp2_with fail
  refine ha.mono ?_
  rintro e w1 ⟨v, rfl, hv, b1⟩
  obtain ⟨A, c, rfl, hlc, hcm⟩ := hv.form
  have HS0 : Hid (Sd (w1.alloc (.cells #[.slice A L.length c, .int .i64 0, .int .i64 (nl : Int), .int .i64 fuel, .int .i64 0, .int .i64 0] 59)) w1.heap.size (nl : Int) L ⟨L, fuel, 0, 0⟩) :=
    ⟨.slice A L.length c, 0, KB.new _ _ _, hv.lt.below' ((Below.refl _ _).alloc (Nat.le_refl _) _), Nat.zero_le _, rfl, hfu, Int.le_refl _, by show I64 (fuel + 0); rw [Int.add_zero]; exact hfu, .inl rfl⟩
  have HB0 : Hid (Below w.heap.size w (w1.alloc (.cells #[.slice A L.length c, .int .i64 0, .int .i64 (nl : Int), .int .i64 fuel, .int .i64 0, .int .i64 0] 59))) := b1.alloc b1.size _
  have hpw : w.heap.size ≤ w1.heap.size := b1.size
  have zp : (w1.alloc (.cells #[.slice A L.length c, .int .i64 0, .int .i64 (nl : Int), .int .i64 fuel, .int .i64 0, .int .i64 0] 59)).heap.size = w1.heap.size + 1 := by simp
  obtain ⟨p, hp⟩ : ∃ p, p = w1.heap.size := ⟨_, rfl⟩
  rw [← hp] at HS0 zp hpw
  have HP := Lib.hid hp
  clear ha hv b1 hp
  go_wp2_with fail
  rw [← HP.out]
  generalize w1.alloc (.cells #[.slice A L.length c, .int .i64 0, .int .i64 (nl : Int), .int .i64 fuel, .int .i64 0, .int .i64 0] 59) = w2 at *
  go_loopw [12] (fun lv wr => ∃ (l : List (Rl 17)) (sj : Ps) (qs : List SxR), wr.ownsRow (p + 1) 44 6 lv qs.length (flatR qs) ∧ Hid (qs.length + sj.rest.length + (if sj.e = 0 then 1 else 0) ≤ L.length + 1) ∧ Hid (rulesP L.length l sj = M) ∧
    Hid (QR wr (SR (p + 1) lv wr.heap.size) 17 qs l) ∧ Hid (Sd wr p (nl : Int) L sj) ∧ Hid (Below w.heap.size w wr) ∧ p + 1 ≤ wr.heap.size) (fun _ wr => measD wr p)
  case atStart => exact ⟨[], ⟨L, fuel, 0, 0⟩, [], ⟨rfl, .inl ⟨rfl, rfl⟩⟩, by show _ ≤ _; simp, HM0, QR.nil _ _ _, HS0, HB0, by omega⟩
  case round =>
    clear HM0 HS0 HB0 zp
    obtain ⟨l, sj, qs, how, HLB, HMJ, HQ, HS, HB, hsz⟩ := hrel
    by_cases hb : sj.e = 0 ∧ sj.rest ≠ []
    · obtain ⟨he0, hne⟩ := hb
      have HE0 : Hid (sj.e = 0) := he0
      have HSTEP : Hid (rulesP L.length (l ++ [(ruleP sj).1]) (ruleP sj).2 = M) := by
        have h1 : sj.rest.length ≤ L.length := by
          have := HLB.out
          rw [if_pos he0] at this
          omega
        show _ = _
        rw [← HMJ.out, rules_step ⟨he0, hne⟩ h1]
      have HSH : Hid ((ruleP sj).2.rest.length ≤ sj.rest.length ∧ ((ruleP sj).2.e = 0 → (ruleP sj).2.rest.length + 1 ≤ sj.rest.length)) := ⟨Way.rule.front sj, rule_short⟩
      have HMS : Hid (measD wr p = 2 * sj.rest.length + 1) := by show _ = _; rw [HS.out.meas, if_pos he0]
      cases hrr : sj.rest with
      | nil => exact absurd hrr hne
      | cons t0 r0 =>
      obtain ⟨b, o, c0, a0, kb, hbp, hbw, hal, hlm, _⟩ := HS.out.head hrr
      rw [he0] at kb
      have q0 : wr.cell? ⟨p, 0, none⟩ = some (.slice (some ⟨b, o, none⟩) L.length c0) := kb.cell 0
      have q1 : wr.cell? ⟨p, 1, none⟩ = some (.int .i64 (a0 : Int)) := kb.cell 1
      have q4 : wr.cell? ⟨p, 4, none⟩ = some (.int .i64 0) := kb.cell 4
      have hpwr := kb.lt
      obtain ⟨ll, hll⟩ : ∃ ll, ll = L.length := ⟨_, rfl⟩
      rw [← hll] at q0 hal hlm
      have hlt : ((a0 : Int) < (ll : Int)) := by omega
      have hlt2 : decide ((a0 : Int) < (ll : Int)) = true := decide_eq_true hlt
      have hrr' := Lib.hid hrr
      clear he0 hne kb hrr hll
      have HRU : Hid (∀ W, Sd W p (nl : Int) L sj → Calls Tryz.prog 19 #[.pointer (some ⟨p, 0, none⟩)] W (GotE p (nl : Int) L sj W)) := fun W hW => ruled_any p (nl : Int) L HFI.out sj W hW
      unfold GotE at HRU
      generalize ruleP sj = rp at *
      obtain ⟨rx, sn⟩ := rp
      dsimp only at HRU HSTEP HSH
      go_wp2_with fail
      go_quiet (fail)
      have gw : wr.grownBy (wr.drewN nq) none := ⟨rfl, rfl, rfl, Nat.le_refl _, fun _ _ _ => rfl⟩
      have howq : (wr.drewN nq).ownsRow (p + 1) 44 6 u12 qs.length (flatR qs) := how
      have HQq : Hid (QR (wr.drewN nq) (SR (p + 1) u12 (wr.drewN nq).heap.size) 17 qs l) := HQ.out.keepL (Nat.le_refl _) (fun _ _ _ => rfl) fun _ h _ => h
      have HSq : Hid (Sd (wr.drewN nq) p (nl : Int) L sj) := HS.out
      have HBq : Hid (Below w.heap.size w (wr.drewN nq)) := Below_drawn HB.out nq
      have hszq : p + 1 ≤ (wr.drewN nq).heap.size := hsz
      have HMSq : Hid (measD (wr.drewN nq) p = 2 * sj.rest.length + 1) := HMS.out
      clear how HQ HB hsz gw q0 q1 q4
      have how := howq
      have HQ := HQq
      have HB := HBq
      have hsz := hszq
      clear howq HQq HBq hszq
      have hr := HRU.out (wr.drewN nq) HSq.out
      have HMW : Hid (measD wr p = 2 * sj.rest.length + 1) := HMS.out
      clear HMS HS HRU HMSq HSq
      generalize wr.drewN nq = wq at *
      go_wp2_with fail
      refine hr.mono ?_
      rintro e w5 ⟨z0, i1, i2, z3, X4, n4, z4, i5, rfl, hx5, h5, g5⟩
      have hown := fun k hk => how.lt k hk
      have how5 := own_but g5 (by omega) how
      have s5' : p + 1 ≤ w5.heap.size := by have := g5.size; omega
      have hgs5 := g5.size
      obtain ⟨w6, hw6⟩ : ∃ w6, w6 = w5.alloc (.cells #[.string z0, .int .i64 i1, .int .i64 i2, .string z3, .slice X4 n4 z4, .int .i64 i5] 44) := ⟨_, rfl⟩
      have b6 := (Below.refl w5.heap.size w5).alloc (Nat.le_refl _) (.cells #[.string z0, .int .i64 i1, .int .i64 i2, .string z3, .slice X4 n4 z4, .int .i64 i5] 44)
      have kat := KB.new w5 44 #[.string z0, .int .i64 i1, .int .i64 i2, .string z3, .slice X4 n4 z4, .int .i64 i5]
      have hsz6 : w6.heap.size = w5.heap.size + 1 := by rw [hw6]; simp
      rw [← hw6] at b6 kat
      have how6 := own_past b6 how5
      have hat : ∀ i u, (sixR (.string z0, .int .i64 i1, .int .i64 i2, .string z3, .slice X4 n4 z4, .int .i64 i5))[i]? = some u → w6.cell? ((⟨w5.heap.size, 0, none⟩ : Addr).add i) = some u := fun i u hu => by
        rw [Addr.add_lit, Nat.zero_add, kat.cell]
        simpa [sixR] using hu
      have B6 := grown_trans g5 (grown_of_below b6 (some p))
      have h1c : ∀ u ∈ sixR (.string z0, .int .i64 i1, .int .i64 i2, .string z3, .slice X4 n4 z4, .int .i64 i5), u.oneCell' = true := by
        intro u hu
        simp [sixR] at hu
        rcases hu with rfl | rfl | rfl | rfl | rfl | rfl <;> rfl
      have HK7 : Hid (∀ w7, w6.grownBy w7 u12.ownBlock → Sd w7 p (nl : Int) L sn ∧ Below w.heap.size w w7 ∧ p + 1 ≤ w7.heap.size) := fun w7 g7 => by
        refine ⟨(h5.below b6).own g7 (fun k hk => ?_), (HB.out.grown B6 HB.out.size (fun k hk => ?_)).grown g7 ?_ (fun k hk => ?_), by have := g7.size; omega⟩
        · have := (hown _ hk).1; omega
        · injection hk with hk; omega
        · have := HB.out.size; have := B6.size; omega
        · have := (hown _ hk).1; omega
      have HQ7 : Hid (∀ v7 w7, w6.grownBy w7 u12.ownBlock → (v7.ownBlock = u12.ownBlock ∨ v7.ownBlock = some w6.heap.size) → QR w7 (SR (p + 1) v7 w7.heap.size) 17 (qs ++ [(.string z0, .int .i64 i1, .int .i64 i2, .string z3, .slice X4 n4 z4, .int .i64 i5)]) (l ++ [rx])) := fun v7 w7 g7 ho7 => by
        have hs7 := g7.size
        refine QR.append (HQ.out.keepL (by omega) (fun b' sb' hb' => ?_) (fun b' sb' hb' => ?_)) ((QR.one hx5).keepL (by omega) (fun b' sb' hb' => ?_) (fun b' sb' hb' => ?_))
        · exact (g7.block b' (by omega) (fun e => sb'.2.2 e.symm)).trans (B6.block b' hb' (fun e => by have := sb'.1; injection e with e; omega))
        · refine ⟨sb'.1, by omega, fun e => ?_⟩
          rcases ho7 with h | h
          · exact sb'.2.2 (h.symm.trans e)
          · rw [h] at e; injection e with e; omega
        · refine (g7.block b' (by omega) (fun e => ?_)).trans (b6.block b' hb')
          have h1 := (hown _ e.symm).2
          have h2 : wq.heap.size ≤ b' := sb'
          omega
        · have h2 : wq.heap.size ≤ b' := sb'
          refine ⟨by omega, by omega, fun e => ?_⟩
          rcases ho7 with h | h
          · have h1 := (hown _ (h.symm.trans e)).2
            omega
          · rw [h] at e; injection e with e; omega
      have HLB7 : Hid (qs.length + 1 + sn.rest.length + (if sn.e = 0 then 1 else 0) ≤ L.length + 1 ∧ qs.length ≤ 1000) := by
        have h1 := HLB.out
        have h2 := HSH.out
        have h3 := HFL.out
        rw [if_pos HE0.out] at h1
        refine ⟨?_, by omega⟩
        by_cases h : sn.e = 0
        · rw [if_pos h]; have := h2.2 h; omega
        · rw [if_neg h]; have := h2.1; omega
      have hql : qs.length ≤ 1000000000 := by have := HLB7.out.2; omega
      have hB6 : p + 1 ≤ w6.heap.size := by omega
      have HW6 := Lib.hid hw6
      clear hx5 h5 g5 B6 how how5 b6 kat hown hw6 hr hsz6 s5' hgs5
      go_wp2_with (at_builtin; rw [← HW6.out]; go_loud (refine wpList_growR w6 rfl _ _ rfl (p + 1) _ qs rfl how6 ⟨_, 0, none⟩ 1 (.string z0, .int .i64 i1, .int .i64 i2, .string z3, .slice X4 n4 z4, .int .i64 i5) rfl hat h1c hql hB6 ?_); intro v7 w7 how7 g7 ho7)
      go_roundw
      case rel =>
        obtain ⟨e1, e2, e3⟩ := HK7.out w7 g7
        refine ⟨l ++ [rx], sn, _, how7, ?_, HSTEP, ?_, e1, e2, e3⟩
        · have := HLB7.out.1; show _ + _ + _ ≤ _; rw [List.length_append]; exact this
        · exact HQ7.out _ w7 g7 ho7
      case measure =>
        obtain ⟨e1, e2, e3⟩ := HK7.out w7 g7
        have h2 := HSH.out
        rw [e1.meas, HMW.out]
        by_cases h : sn.e = 0
        · rw [if_pos h]; have := h2.2 h; omega
        · rw [if_neg h]; have := h2.1; omega
    · have hM : M = (l, sj) := by rw [← HMJ.out, rules_stop hb]
      have HM2 : Hid (M.2 = sj) := by show _ = _; rw [hM]
      have HM1 : Hid (M.1 = l) := by show _ = _; rw [hM]
      have hrs := RS_of_own (S := fun b => p + 1 ≤ b) how (HQ.out.keepL (Nat.le_refl _) (fun _ _ _ => rfl) fun b h _ => h.1) fun b h _ => h
      obtain ⟨A4, n4, c4, hu4⟩ : ∃ A n c, u12 = .slice A n c := by
        obtain ⟨A, c, e, _⟩ := hrs.form
        exact ⟨_, _, _, e⟩
      obtain ⟨v0, a0, k0, ht0, ha0, hd0, _⟩ := HS.out
      obtain ⟨A0, c0, rfl, hl0, hm0⟩ := ht0.form
      have q0 : wr.cell? ⟨p, 0, none⟩ = some (.slice A0 L.length c0) := k0.cell 0
      have q1 : wr.cell? ⟨p, 1, none⟩ = some (.int .i64 (a0 : Int)) := k0.cell 1
      have q4 : wr.cell? ⟨p, 4, none⟩ = some (.int .i64 sj.e) := k0.cell 4
      have q5 : wr.cell? ⟨p, 5, none⟩ = some (.int .i64 sj.used) := k0.cell 5
      have hpwr := k0.lt
      obtain ⟨ll, hll⟩ : ∃ ll, ll = L.length := ⟨_, rfl⟩
      rw [← hll] at q0 ha0
      by_cases he : sj.e = 0
      · have hr0 : sj.rest = [] := Classical.byContradiction fun h => hb ⟨he, h⟩
        rw [he] at q4
        have hal : a0 = ll := by
          rw [hr0] at hd0
          have := congrArg List.length hd0
          rw [List.length_drop] at this
          simp at this
          omega
        have hge : ¬ ((a0 : Int) < (ll : Int)) := by omega
        have hge2 : decide ((a0 : Int) < (ll : Int)) = false := decide_eq_false hge
        have hge3 : ¬ a0 < ll := by omega
        have hge4 : ll ≤ a0 := by omega
        have HCK : Hid (∀ W, Below wr.heap.size wr W → Calls Tryz.prog 21 #[u12] W fun e w' => e = .returned (.int .i64 (checkR 17 M.1)) ∧ Below W.heap.size W w') := fun W h9 => by
          rw [HM1.out]; exact rcheck_any _ 17 l u12 W (hrs.below' h9)
        have HRS : Hid (∀ w9, Below wr.heap.size wr w9 → RS w9 (fun b => b < w9.heap.size) 17 u12 M.1) := fun w9 h9 => by rw [HM1.out]; exact (hrs.below' h9).bound
        have HU : Hid (sj.used = M.2.used) := by show _ = _; rw [HM2.out]
        have HE0 : M.2.e = 0 := by rw [HM2.out]; exact he
        subst hu4
        clear hM hb ht0 k0 he hr0 hrs HE1 how hal hd0 hll
        rw [HU.out] at q5
        generalize M.2.used = us at *
        by_cases hz : checkR 17 M.1 = 0
        · rw [hz] at HCK
          have HFIN := Lib.hid (fun w9 h9 => HE3.out w9 (.slice A4 n4 c4) HE0 hz (HRS.out w9 h9) (HB.out.trans (h9.mono HB.out.size)))
          clear HE2 HE3 hz HE0
          go_wp2_with fail
          go_quiet (fail)
          have bq := Below_drawn (Below.refl wr.heap.size wr) nq
          have hck := HCK.out _ bq
          have q4q : (wr.drewN nq).cell? ⟨p, 4, none⟩ = some (.int .i64 0) := q4
          have q5q : (wr.drewN nq).cell? ⟨p, 5, none⟩ = some (.int .i64 us) := q5
          have hpq : p < (wr.drewN nq).heap.size := hpwr
          clear q0 q1 q4 q5 HCK
          generalize wr.drewN nq = wq at *
          go_wp2_with fail
          refine hck.mono ?_
          rintro e w9 ⟨rfl, b9⟩
          have B9 := bq.trans (b9.mono bq.size)
          have q59 : w9.cell? ⟨p, 5, none⟩ = some (.int .i64 us) := (World.cell?_of_block (w := wq) (a := ⟨p, 5, none⟩) (b9.block p hpq)).trans q5q
          have hp9 : p < w9.heap.size := Nat.lt_of_lt_of_le hpq b9.size
          clear hck q4q q5q b9
          go_wp2_with fail
          go_quiet (fail)
          have hfin := HFIN.out _ (Below_drawn B9 nq)
          go_wp2
          refine bodyPost_ret (results_tmp4 rfl _ _ _) rfl ?_
          first | exact hfin | (rw [← hzs] at hfin; exact hfin)
        · have g1 : (checkR 17 M.1 == 0) = false := beq_eq_false_iff_ne.2 hz
          have g2 : (checkR 17 M.1 != 0) = true := bne_iff_ne.2 hz
          have HFIN := Lib.hid (fun w9 (h9 : Below wr.heap.size wr w9) => HE2.out w9 HE0 hz (HB.out.trans (h9.mono HB.out.size)))
          clear HE2 HE3 HRS HE0
          generalize checkR 17 M.1 = r at *
          go_wp2_with fail
          go_quiet (fail)
          have bq := Below_drawn (Below.refl wr.heap.size wr) nq
          have hck := HCK.out _ bq
          have q4q : (wr.drewN nq).cell? ⟨p, 4, none⟩ = some (.int .i64 0) := q4
          have q5q : (wr.drewN nq).cell? ⟨p, 5, none⟩ = some (.int .i64 us) := q5
          have hpq : p < (wr.drewN nq).heap.size := hpwr
          clear q0 q1 q4 q5 HCK
          generalize wr.drewN nq = wq at *
          go_wp2_with fail
          refine hck.mono ?_
          rintro e w9 ⟨rfl, b9⟩
          have B9 := bq.trans (b9.mono bq.size)
          have q59 : w9.cell? ⟨p, 5, none⟩ = some (.int .i64 us) := (World.cell?_of_block (w := wq) (a := ⟨p, 5, none⟩) (b9.block p hpq)).trans q5q
          have hp9 : p < w9.heap.size := Nat.lt_of_lt_of_le hpq b9.size
          clear hck q4q q5q b9
          go_wp2_with fail
          go_quiet (fail)
          have hfin := HFIN.out _ (Below_drawn B9 nq)
          go_wp2
          refine bodyPost_ret (results_tmp4 rfl _ _ _) rfl ?_
          exact hfin
      · have g1 : (sj.e == 0) = false := beq_eq_false_iff_ne.2 he
        have g2 : (sj.e != 0) = true := bne_iff_ne.2 he
        have hpl := fun k m => here18_any p nl L sj ((wr.drewN k).drewN m) ((HS.out.drewN k).drewN m)
        have hfin0 := fun k m => HE1.out ((wr.drewN k).drewN m) (by rw [HM2.out]; exact he) (Below_drawn (Below_drawn HB.out k) m)
        rw [HM2.out] at hfin0
        have HFIN := Lib.hid hfin0
        subst hu4
        clear hfin0 hM hb ht0 k0 HE1 HE2 HE3 HM1 HM2 how hrs hd0 hll
        generalize hereP nl sj = hp at *
        generalize sj.used = us at *
        by_cases hlt : a0 < ll
        · have hl1 : ((a0 : Int) < (ll : Int)) := by omega
          have hl2 : decide ((a0 : Int) < (ll : Int)) = true := decide_eq_true hl1
          go_wp2_with fail
          go_quiet (fail)
          have q4q : (wr.drewN nq).cell? ⟨p, 4, none⟩ = some (.int .i64 sj.e) := q4
          have q5q : (wr.drewN nq).cell? ⟨p, 5, none⟩ = some (.int .i64 us) := q5
          have hplq := fun m => hpl nq m
          have HFQ := Lib.hid (fun m => HFIN.out nq m)
          clear q0 q1 q4 q5 hpl HFIN
          generalize wr.drewN nq = wq at *
          go_wp2_with fail
          go_quiet (first | (go_at_call 20; exact Calls.quiet_of (hplq _)) | fail)
          go_wp2
          refine bodyPost_ret (results_tmp4 rfl _ _ _) rfl ?_
          exact HFQ.out _
        · have hl1 : ¬ ((a0 : Int) < (ll : Int)) := by omega
          have hl2 : decide ((a0 : Int) < (ll : Int)) = false := decide_eq_false hl1
          have hl4 : ll ≤ a0 := by omega
          go_wp2_with fail
          go_quiet (fail)
          have q4q : (wr.drewN nq).cell? ⟨p, 4, none⟩ = some (.int .i64 sj.e) := q4
          have q5q : (wr.drewN nq).cell? ⟨p, 5, none⟩ = some (.int .i64 us) := q5
          have hplq := fun m => hpl nq m
          have HFQ := Lib.hid (fun m => HFIN.out nq m)
          clear q0 q1 q4 q5 hpl HFIN
          generalize wr.drewN nq = wq at *
          go_wp2_with fail
          go_quiet (first | (go_at_call 20; exact Calls.quiet_of (hplq _)) | fail)
          go_wp2
          refine bodyPost_ret (results_tmp4 rfl _ _ _) rfl ?_
          exact HFQ.out _
theorem rrules_any (t : List UInt8) (ht : t.length ≤ maxLen) (fuel : Int) (hfu : I64 fuel) (w : World) : Calls Tryz.prog 6 #[strV t, .int .i64 fuel] w (RulesAs t fuel w) := by
  have hr := run18_any t ht fuel hfu w
  unfold RunAs at hr
  obtain ⟨D, hD⟩ : ∃ D, D = RulesAs t fuel w := ⟨_, rfl⟩
  rw [← hD]
  have HD : Hid (∀ W v, RS W (fun b => b < W.heap.size) 17 v (readP t fuel).1 → Below w.heap.size w W → D (.returned (.tuple #[v, .int .i64 ((readP t fuel).2.1 : Int), .int .i64 (readP t fuel).2.2.1])) W) := fun W v h1 h2 => by rw [hD]; exact ⟨v, rfl, h1, h2⟩
  clear hD ht hfu
  obtain ⟨ts, hts⟩ : ∃ ts : ByteArray, strV t = .string ts := ⟨_, rfl⟩
  rw [hts] at hr ⊢
  clear hts
  generalize readP t fuel = q at *
  obtain ⟨l, n, e, u⟩ := q
  dsimp only at hr HD
  go_enter Tryz.func6, Tryz.ntmps6
  go_wp2_with fail
  refine hr.mono ?_
  rintro e9 w1 ⟨v, rfl, hv, b1⟩
  have hfin := HD.out w1 v hv b1
  obtain ⟨A, c, rfl, _⟩ := hv.form
  clear hr HD hv
  go_wp2_with fail
  go_ret3
  exact hfin
theorem rcost_any (t : List UInt8) (ht : t.length ≤ maxLen) (w : World) : Calls Tryz.prog 8 #[strV t] w fun e w' => e = .returned (.tuple #[.int .i64 (costP t).1, .int .i64 (costP t).2]) ∧ Below w.heap.size w w' := by
  have hr := run18_any t ht 1099511627776 (by unfold I64; omega) w
  unfold RunAs at hr
  unfold costP
  obtain ⟨ts, hts⟩ : ∃ ts : ByteArray, strV t = .string ts := ⟨_, rfl⟩
  rw [hts] at hr ⊢
  clear hts
  generalize readP t 1099511627776 = q at *
  obtain ⟨l, n, e, u⟩ := q
  dsimp only at hr ⊢
  by_cases he : e = 0
  · subst he
    rw [if_pos rfl]
    go_enter Tryz.func8, Tryz.ntmps8
    go_wp2_with fail
    refine hr.mono ?_
    rintro e9 w1 ⟨v, rfl, hv, b1⟩
    obtain ⟨A, c, rfl, _⟩ := hv.form
    clear hr hv
    go_wp2_with fail
    go_ret2
    exact ⟨rfl, b1⟩
  · rw [if_neg he]
    have g1 : (e == 0) = false := beq_eq_false_iff_ne.2 he
    have g2 : (e != 0) = true := bne_iff_ne.2 he
    go_enter Tryz.func8, Tryz.ntmps8
    go_wp2_with fail
    refine hr.mono ?_
    rintro e9 w1 ⟨v, rfl, hv, b1⟩
    obtain ⟨A, c, rfl, _⟩ := hv.form
    clear hr hv
    go_wp2_with fail
    go_ret2
    exact ⟨rfl, b1⟩
end
end Go.Proofs.YthindhlogkhclaaGreatDoor
