/-
  PaL: The program's read, Rules and Cost (layer 18), over the loaded program: their contracts. No condition but sizes.
-/
import Derived.Test.YthindhlogkhclaaGreatDoorPz30
import Derived.Test.YthindhlogkhclaaGreatDoorPz31
import Derived.Test.YthindhlogkhclaaGreatDoorPz33
import Derived.Test.YthindhlogkhclaaGreatDoorPz39
import Derived.BigQuiet
set_option linter.unusedVariables false
set_option maxRecDepth 100000
namespace Go.Proofs.YthindhlogkhclaaGreatDoor
section
open Go.RowKit
theorem TS.lt {w : World} {S : Nat → Prop} {v : Value} {l : List Tk} (h : TS w S v l) : TS w (fun b => b < w.heap.size) v l := by
  obtain ⟨A, c, e, hl, hc, hx⟩ := h
  refine ⟨A, c, e, hl, hc, fun h0 => ?_⟩
  obtain ⟨b, o, ea, sb, hb, hx⟩ := hx h0
  exact ⟨b, o, ea, hb, hb, hx⟩
def measR (w : World) (p : Nat) : Nat := 2 * lenAt w p + (match w.cell? ⟨p, 4, none⟩ with | some (.int _ k) => if k = 0 then 1 else 0 | _ => 0)
theorem St.meas {w : World} {p : Nat} {n d : Int} {s : Ps} (h : St w p n d s) : measR w p = 2 * s.rest.length + (if s.e = 0 then 1 else 0) := by
  have hl := h.len
  obtain ⟨v, F, k, _⟩ := h
  have q : w.cell? ⟨p, 4, none⟩ = some (.int .i64 s.e) := k.cell 4
  unfold measR
  rw [hl, q]
theorem results_tmp4 {fn : Func} {a b c d : Tmp} (h : fn.results = #[.tmp a, .tmp b, .tmp c, .tmp d]) (tmps : Array Value) (P : Program) (w : World) :
    (results fn tmps).run P w = .ok (.tuple #[tmps.getD a undef, tmps.getD b undef, tmps.getD c undef, tmps.getD d undef]) w := by
  simp [results, h]
theorem all_end {t : List UInt8} (h : (allS t).2.2 = 0) : (allS t).2.1 = t.length := by
  unfold allS at h ⊢
  by_cases h6 : 600 < t.length
  · rw [if_pos h6] at h; exact absurd h (by decide)
  · rw [if_neg h6] at h ⊢
    by_cases h1 : (lexL (t.length + 1) 0 t).2.2 = 0
    · rw [if_pos h1]
      have := (lex_place (t.length + 1) 0 t (by omega)).2.2 h1
      omega
    · rw [if_neg h1] at h; exact absurd h h1
theorem RS.bound {w : World} {S : Nat → Prop} {f : Nat} {v : Value} {l : List (Rl f)} (h : RS w S f v l) : RS w (fun b => b < w.heap.size) f v l := by
  obtain ⟨A, c, e, hl, hc, hx⟩ := h
  refine ⟨A, c, e, hl, hc, fun h0 => ?_⟩
  obtain ⟨b, o, ea, sb, hb, hx⟩ := hx h0
  refine ⟨b, o, ea, hb, hb, fun i t hi => ?_⟩
  obtain ⟨c0, c1, c2, c3, c4, c5, k0, k1, k2, k3, k4, k5, kr⟩ := hx i t hi
  exact ⟨c0, c1, c2, c3, c4, c5, k0, k1, k2, k3, k4, k5, kr.keepL (Nat.le_refl _) (fun _ _ _ => rfl) fun _ _ h => h⟩
def ReadAs (t : List UInt8) (fuel : Int) (w : World) (e : Ending) (w' : World) : Prop :=
  ∃ (v : Value) (left : Int), e = .returned (.tuple #[v, .int .i64 ((readP t fuel).2.1 : Int), .int .i64 left, .int .i64 (readP t fuel).2.2.1]) ∧ RS w' (fun b => b < w'.heap.size) 17 v (readP t fuel).1 ∧ ((readP t fuel).2.2.1 = 0 → left = fuel - (readP t fuel).2.2.2) ∧ Below w.heap.size w w'
set_option maxHeartbeats 16000000 in
theorem read_any (t : List UInt8) (ht : t.length ≤ maxLen) (fuel : Int) (hfu : I64 fuel) (w : World) : Calls Tryz.prog 11 #[strV t, .int .i64 fuel] w (ReadAs t fuel w) := by
  have ha := all16_any t ht w
  have hfine := fine_all t
  unfold AllAs at ha
  obtain ⟨D, hD⟩ : ∃ D, D = ReadAs t fuel w := ⟨_, rfl⟩
  rw [← hD]
  have HD : Hid (∀ W v left, RS W (fun b => b < W.heap.size) 17 v (readP t fuel).1 → ((readP t fuel).2.2.1 = 0 → left = fuel - (readP t fuel).2.2.2) → Below w.heap.size w W →
      D (.returned (.tuple #[v, .int .i64 ((readP t fuel).2.1 : Int), .int .i64 left, .int .i64 (readP t fuel).2.2.1])) W) := fun W v left h1 h2 h3 => by rw [hD]; exact ⟨v, left, rfl, h1, h2, h3⟩
  clear hD
  obtain ⟨ts, hts⟩ : ∃ ts : ByteArray, strV t = .string ts := ⟨_, rfl⟩
  rw [hts] at ha ⊢
  by_cases hz : (allS t).2.2 = 0
  case neg =>
    have hrd := read_bad (n := fuel) hz
    rw [hrd] at HD
    have g1 : ((allS t).2.2 == 0) = false := beq_eq_false_iff_ne.2 hz
    have g2 : ((allS t).2.2 != 0) = true := bne_iff_ne.2 hz
    have HD2 : Hid (∀ W, Below w.heap.size w W → D (.returned (.tuple #[.slice none 0 0, .int .i64 ((allS t).2.1 : Int), .int .i64 0, .int .i64 (allS t).2.2])) W) := fun W hb => HD.out W (.slice none 0 0) 0 (RS.nil _ _ _) (fun h => absurd h hz) hb
    clear HD hrd hfine
    generalize (allS t).2.2 = r at *
    generalize ((allS t).2.1 : Int) = at_ at *
    go_enter Tryz.func11, Tryz.ntmps11
    go_wp2_with fail
    refine ha.mono ?_
    rintro e w1 ⟨v, rfl, hv, b1⟩
    have hfin := HD2.out w1 b1
    obtain ⟨A, c, rfl, _⟩ := hv.form
    clear ha HD2 hv
    go_wp2_with fail
    refine bodyPost_ret (results_tmp4 rfl _ _ _) rfl ?_
    exact hfin
  have hend := all_end hz
  obtain ⟨nl, hnl⟩ : ∃ nl, nl = t.length := ⟨_, rfl⟩
  obtain ⟨L, hL⟩ : ∃ L, L = (allS t).1 := ⟨_, rfl⟩
  obtain ⟨M, hM⟩ : ∃ M, M = runP L fuel := ⟨_, rfl⟩
  have HM0 : Hid (rulesP L.length [] ⟨L, fuel, 0, 0⟩ = M) := hM.symm
  -- the three ends
  have HE1 : Hid (∀ W, M.2.e ≠ 0 → Below w.heap.size w W → D (.returned (.tuple #[.slice none 0 0, .int .i64 (hereP nl M.2 : Int), .int .i64 0, .int .i64 M.2.e])) W) := fun W he hb => by
    have hd := HD.out W (.slice none 0 0) 0
    rw [read_wrong hz (by rw [← hL, ← hM]; exact he), ← hL, ← hM, ← hnl] at hd
    exact hd (RS.nil _ _ _) (fun h => absurd h he) hb
  have HE2 : Hid (∀ W, M.2.e = 0 → checkR 17 M.1 ≠ 0 → Below w.heap.size w W → D (.returned (.tuple #[.slice none 0 0, .int .i64 0, .int .i64 0, .int .i64 (checkR 17 M.1)])) W) := fun W he hc hb => by
    have hd := HD.out W (.slice none 0 0) 0
    rw [read_not hz (by rw [← hL, ← hM]; exact he) (by rw [← hL, ← hM]; exact hc), ← hL, ← hM] at hd
    exact hd (RS.nil _ _ _) (fun h => absurd h hc) hb
  have HE3 : Hid (∀ W v left, M.2.e = 0 → checkR 17 M.1 = 0 → RS W (fun b => b < W.heap.size) 17 v M.1 → left = M.2.fuel → Below w.heap.size w W → D (.returned (.tuple #[v, .int .i64 (nl : Int), .int .i64 left, .int .i64 0])) W) := fun W v left he hc hr hl hb => by
    have hd := HD.out W v left
    rw [read_good hz (by rw [← hL, ← hM]; exact he) (by rw [← hL, ← hM]; exact hc), ← hL, ← hM, ← hnl] at hd
    refine hd hr (fun _ => ?_) hb
    have := run_sum L fuel
    rw [← hM] at this
    show left = fuel - M.2.used
    omega
  have g0 : ((0 : Int) != 0) = false := rfl
  rw [hz, hend, ← hnl, ← hL] at ha
  rw [← hL] at hfine
  have HFI := Lib.hid hfine.1
  have HFL : Hid (L.length ≤ 600) := hfine.2
  clear HD hend hz hM hL hfine hnl ht hts
  go_enter Tryz.func11, Tryz.ntmps11
  go_wp2_with fail
  refine ha.mono ?_
  rintro e w1 ⟨v, rfl, hv, b1⟩
  obtain ⟨A, c, rfl, hlc, hcm⟩ := hv.form
  have HS0 : Hid (St (w1.alloc (.cells #[.slice A L.length c, .int .i64 (nl : Int), .int .i64 fuel, .int .i64 0, .int .i64 0] 50)) w1.heap.size (nl : Int) 0 ⟨L, fuel, 0, 0⟩) :=
    ⟨.slice A L.length c, fuel, KB.new _ _ _, hv.lt.below' ((Below.refl _ _).alloc (Nat.le_refl _) _), hfu, fun _ => rfl, HFI.out⟩
  have HB0 : Hid (Below w.heap.size w (w1.alloc (.cells #[.slice A L.length c, .int .i64 (nl : Int), .int .i64 fuel, .int .i64 0, .int .i64 0] 50))) := b1.alloc b1.size _
  have hpw : w.heap.size ≤ w1.heap.size := b1.size
  have zp : (w1.alloc (.cells #[.slice A L.length c, .int .i64 (nl : Int), .int .i64 fuel, .int .i64 0, .int .i64 0] 50)).heap.size = w1.heap.size + 1 := by simp
  obtain ⟨p, hp⟩ : ∃ p, p = w1.heap.size := ⟨_, rfl⟩
  rw [← hp] at HS0 zp hpw
  have HP := Lib.hid hp
  clear ha hv b1 hp
  go_wp2_with fail
  rw [← HP.out]
  generalize w1.alloc (.cells #[.slice A L.length c, .int .i64 (nl : Int), .int .i64 fuel, .int .i64 0, .int .i64 0] 50) = w2 at *
  go_loopw [12] (fun lv wr => ∃ (l : List (Rl 17)) (sj : Ps) (qs : List SxR), wr.ownsRow (p + 1) 44 6 lv qs.length (flatR qs) ∧ Hid (qs.length + sj.rest.length + (if sj.e = 0 then 1 else 0) ≤ L.length + 1) ∧ Hid (rulesP L.length l sj = M) ∧
    Hid (sj.e = 0 → QR wr (SR (p + 1) lv wr.heap.size) 17 qs l) ∧ Hid (St wr p (nl : Int) 0 sj) ∧ Hid (Below w.heap.size w wr) ∧ p + 1 ≤ wr.heap.size) (fun _ wr => measR wr p)
  case atStart => exact ⟨[], ⟨L, fuel, 0, 0⟩, [], ⟨rfl, .inl ⟨rfl, rfl⟩⟩, by show _ ≤ _; simp, HM0, fun _ => QR.nil _ _ _, HS0, HB0, by omega⟩
  case round =>
    clear HM0 HS0 HB0 zp
    obtain ⟨l, sj, qs, how, HLB, HMJ, HQ, HS, HB, hsz⟩ := hrel
    by_cases hb : sj.e = 0 ∧ sj.rest ≠ []
    · obtain ⟨he0, hne⟩ := hb
      have HE0 : Hid (sj.e = 0) := he0
      have HNE : Hid (1 ≤ sj.rest.length) := by
        show _ ≤ _
        cases hq : sj.rest with
        | nil => exact absurd hq hne
        | cons a b => simp
      have hr := rule18_any p (nl : Int) sj wr HS.out
      unfold GotR at hr
      have HSTEP : Hid (rulesP L.length (l ++ [(ruleP sj).1]) (ruleP sj).2 = M) := by
        have h1 : sj.rest.length ≤ L.length := by
          have := HLB.out
          rw [if_pos he0] at this
          omega
        show _ = _
        rw [← HMJ.out, rules_step ⟨he0, hne⟩ h1]
      have HSH : Hid ((ruleP sj).2.rest.length ≤ sj.rest.length ∧ ((ruleP sj).2.e = 0 → (ruleP sj).2.rest.length + 1 ≤ sj.rest.length)) := ⟨Way.rule.front sj, rule_short⟩
      obtain ⟨v0, F0, k0, ht0, _⟩ := HS.out
      obtain ⟨A0, c0, rfl, hl0, hm0⟩ := ht0.form
      rw [he0] at k0
      have q0 : wr.cell? ⟨p, 0, none⟩ = some (.slice A0 sj.rest.length c0) := k0.cell 0
      have q4 : wr.cell? ⟨p, 4, none⟩ = some (.int .i64 0) := k0.cell 4
      have hpwr := k0.lt
      have HN2 := HNE.out
      obtain ⟨nr, hnr⟩ : ∃ nr, nr = sj.rest.length := ⟨_, rfl⟩
      rw [← hnr] at q0 HN2 hl0
      have hgt : (0 : Int) < (nr : Int) := by omega
      have hgt2 : ((nr : Int) > 0) := hgt
      have hnm : nr ≤ 9223372036854775807 := by unfold maxLen at hm0; omega
      clear he0 hne k0 ht0 hnr
      generalize ruleP sj = rp at *
      obtain ⟨rx, sn⟩ := rp
      dsimp only at hr HSTEP HSH
      go_wp2_with fail
      refine hr.mono ?_
      rintro e w5 ⟨z0, i1, i2, z3, X4, n4, z4, i5, rfl, hx5, h5, g5⟩
      have hown := fun k hk => how.lt k hk
      have how5 := own_but g5 (by omega) how
      have s5' : p + 1 ≤ w5.heap.size := by have := g5.size; omega
      have hgs5 := g5.size
      obtain ⟨w6, hw6⟩ : ∃ w6, w6 = w5.alloc (.cells #[.string z0, .int .i64 i1, .int .i64 i2, .string z3, .slice X4 n4 z4, .int .i64 i5] 44) := ⟨_, rfl⟩
      have b6 := (Below.refl w5.heap.size w5).alloc (Nat.le_refl _) (.cells #[.string z0, .int .i64 i1, .int .i64 i2, .string z3, .slice X4 n4 z4, .int .i64 i5] 44)
      have kat := KB.new w5 44 #[.string z0, .int .i64 i1, .int .i64 i2, .string z3, .slice X4 n4 z4, .int .i64 i5]
      have hsz6 : w6.heap.size = w5.heap.size + 1 := by rw [hw6]; simp
      rw [← hw6] at b6 kat
      have how6 := own_past b6 how5
      have hat : ∀ i u, (sixR (.string z0, .int .i64 i1, .int .i64 i2, .string z3, .slice X4 n4 z4, .int .i64 i5))[i]? = some u → w6.cell? ((⟨w5.heap.size, 0, none⟩ : Addr).add i) = some u := fun i u hu => by
        rw [Addr.add_lit, Nat.zero_add, kat.cell]
        simpa [sixR] using hu
      have B6 := grown_trans g5 (grown_of_below b6 (some p))
      have h1c : ∀ u ∈ sixR (.string z0, .int .i64 i1, .int .i64 i2, .string z3, .slice X4 n4 z4, .int .i64 i5), u.oneCell' = true := by
        intro u hu
        simp [sixR] at hu
        rcases hu with rfl | rfl | rfl | rfl | rfl | rfl <;> rfl
      have HK7 : Hid (∀ w7, w6.grownBy w7 u12.ownBlock → St w7 p (nl : Int) 0 sn ∧ Below w.heap.size w w7 ∧ p + 1 ≤ w7.heap.size) := fun w7 g7 => by
        refine ⟨(h5.below b6).own g7 (fun k hk => ?_), (HB.out.grown B6 HB.out.size (fun k hk => ?_)).grown g7 ?_ (fun k hk => ?_), by have := g7.size; omega⟩
        · have := (hown _ hk).1; omega
        · injection hk with hk; omega
        · have := HB.out.size; have := B6.size; omega
        · have := (hown _ hk).1; omega
      have HQ7 : Hid (∀ v7 w7, w6.grownBy w7 u12.ownBlock → (v7.ownBlock = u12.ownBlock ∨ v7.ownBlock = some w6.heap.size) → sn.e = 0 → QR w7 (SR (p + 1) v7 w7.heap.size) 17 (qs ++ [(.string z0, .int .i64 i1, .int .i64 i2, .string z3, .slice X4 n4 z4, .int .i64 i5)]) (l ++ [rx])) := fun v7 w7 g7 ho7 he => by
        have hs7 := g7.size
        refine QR.append ((HQ.out HE0.out).keepL (by omega) (fun b' sb' hb' => ?_) (fun b' sb' hb' => ?_)) ((QR.one (hx5 he)).keepL (by omega) (fun b' sb' hb' => ?_) (fun b' sb' hb' => ?_))
        · exact (g7.block b' (by omega) (fun e => sb'.2.2 e.symm)).trans (B6.block b' hb' (fun e => by have := sb'.1; injection e with e; omega))
        · refine ⟨sb'.1, by omega, fun e => ?_⟩
          rcases ho7 with h | h
          · exact sb'.2.2 (h.symm.trans e)
          · rw [h] at e; injection e with e; omega
        · refine (g7.block b' (by omega) (fun e => ?_)).trans (b6.block b' hb')
          have h1 := (hown _ e.symm).2
          have h2 : wr.heap.size ≤ b' := sb'
          omega
        · have h2 : wr.heap.size ≤ b' := sb'
          refine ⟨by omega, by omega, fun e => ?_⟩
          rcases ho7 with h | h
          · have h1 := (hown _ (h.symm.trans e)).2
            omega
          · rw [h] at e; injection e with e; omega
      have HLB7 : Hid (qs.length + 1 + sn.rest.length + (if sn.e = 0 then 1 else 0) ≤ L.length + 1 ∧ qs.length ≤ 1000) := by
        have h1 := HLB.out
        have h2 := HSH.out
        have h3 := HFL.out
        rw [if_pos HE0.out] at h1
        refine ⟨?_, by omega⟩
        by_cases h : sn.e = 0
        · rw [if_pos h]; have := h2.2 h; omega
        · rw [if_neg h]; have := h2.1; omega
      have hql : qs.length ≤ 1000000000 := by have := HLB7.out.2; omega
      have hB6 : p + 1 ≤ w6.heap.size := by omega
      have HW6 := Lib.hid hw6
      clear hx5 h5 g5 B6 how how5 b6 kat hown hw6 hr hsz6 s5' q0 q4 hgs5
      go_wp2_with (at_builtin; rw [← HW6.out]; go_loud (refine wpList_growR w6 rfl _ _ rfl (p + 1) _ qs rfl how6 ⟨_, 0, none⟩ 1 (.string z0, .int .i64 i1, .int .i64 i2, .string z3, .slice X4 n4 z4, .int .i64 i5) rfl hat h1c hql hB6 ?_); intro v7 w7 how7 g7 ho7)
      go_roundw
      case rel =>
        obtain ⟨e1, e2, e3⟩ := HK7.out w7 g7
        refine ⟨l ++ [rx], sn, _, how7, ?_, HSTEP, ?_, e1, e2, e3⟩
        · have := HLB7.out.1; show _ + _ + _ ≤ _; rw [List.length_append]; exact this
        · exact fun he => HQ7.out _ w7 g7 ho7 he
      case measure =>
        obtain ⟨e1, e2, e3⟩ := HK7.out w7 g7
        have h2 := HSH.out
        rw [e1.meas, HS.out.meas, if_pos HE0.out]
        by_cases h : sn.e = 0
        · rw [if_pos h]; have := h2.2 h; omega
        · rw [if_neg h]; have := h2.1; omega
    · have hM : M = (l, sj) := by rw [← HMJ.out, rules_stop hb]
      have HM2 : Hid (M.2 = sj) := by show _ = _; rw [hM]
      have HM1 : Hid (M.1 = l) := by show _ = _; rw [hM]
      obtain ⟨v0, F0, k0, ht0, hi0, hF0, _⟩ := HS.out
      obtain ⟨A0, c0, rfl, hl0, hm0⟩ := ht0.form
      have q0 : wr.cell? ⟨p, 0, none⟩ = some (.slice A0 sj.rest.length c0) := k0.cell 0
      have q2 : wr.cell? ⟨p, 2, none⟩ = some (.int .i64 F0) := k0.cell 2
      have q4 : wr.cell? ⟨p, 4, none⟩ = some (.int .i64 sj.e) := k0.cell 4
      have hpwr := k0.lt
      by_cases he : sj.e = 0
      · have hr0 : sj.rest = [] := Classical.byContradiction fun h => hb ⟨he, h⟩
        rw [hr0] at q0
        rw [he] at q4
        have hrs := RS_of_own (S := fun b => p + 1 ≤ b) how ((HQ.out he).keepL (Nat.le_refl _) (fun _ _ _ => rfl) fun b h _ => h.1) fun b h _ => h
        have hck := check_any (fun b => b < wr.heap.size) 17 l u12 wr (fun b h => h) hrs.bound
        rw [← HM1.out] at hck
        have HRS : Hid (∀ w9, Below wr.heap.size wr w9 → RS w9 (fun b => b < w9.heap.size) 17 u12 M.1) := fun w9 h9 => by rw [HM1.out]; exact (hrs.below' h9).bound
        have HF : Hid (F0 = M.2.fuel) := by show _ = _; rw [HM2.out]; exact hF0 he
        have HE0 : M.2.e = 0 := by rw [HM2.out]; exact he
        obtain ⟨A4, n4, c4, hu4⟩ : ∃ A n c, u12 = .slice A n c := by
          obtain ⟨A, c, e, _⟩ := hrs.form
          exact ⟨_, _, _, e⟩
        subst hu4
        have hb2 : ¬ (0 : Int) ≠ 0 := fun h => h rfl
        clear hM hb ht0 k0 hF0 he hr0 hrs HE1 how
        by_cases hz : checkR 17 M.1 = 0
        · rw [hz] at hck
          have HFIN := Lib.hid (fun w9 h9 => HE3.out w9 (.slice A4 n4 c4) F0 HE0 hz (HRS.out w9 h9) HF.out (HB.out.trans (h9.mono HB.out.size)))
          clear HE2 HE3 hz HE0
          go_wp2_with fail
          refine hck.mono ?_
          rintro e w9 ⟨rfl, b9⟩
          have B9 := b9
          have q29 : w9.cell? ⟨p, 2, none⟩ = some (.int .i64 F0) := (World.cell?_of_block (w := wr) (a := ⟨p, 2, none⟩) (b9.block p hpwr)).trans q2
          have hp9 : p < w9.heap.size := Nat.lt_of_lt_of_le hpwr b9.size
          clear hck q0 q2 q4 b9
          go_wp2_with fail
          go_quiet (fail)
          have hfin := HFIN.out _ (Below_drawn B9 nq)
          go_wp2
          refine bodyPost_ret (results_tmp4 rfl _ _ _) rfl ?_
          exact hfin
        · have g1 : (checkR 17 M.1 == 0) = false := beq_eq_false_iff_ne.2 hz
          have g2 : (checkR 17 M.1 != 0) = true := bne_iff_ne.2 hz
          have HFIN := Lib.hid (fun w9 (h9 : Below wr.heap.size wr w9) => HE2.out w9 HE0 hz (HB.out.trans (h9.mono HB.out.size)))
          clear HE2 HE3 HRS HF HE0
          generalize checkR 17 M.1 = r at *
          go_wp2_with fail
          refine hck.mono ?_
          rintro e w9 ⟨rfl, b9⟩
          have hfin := HFIN.out w9 b9
          clear hck q0 q2 q4 b9 HFIN
          go_wp2_with fail
          refine bodyPost_ret (results_tmp4 rfl _ _ _) rfl ?_
          exact hfin
      · have g1 : (sj.e == 0) = false := beq_eq_false_iff_ne.2 he
        have g2 : (sj.e != 0) = true := bne_iff_ne.2 he
        have hpl := fun k => place18_any p nl 0 sj (wr.drewN k) (HS.out.keep (w' := wr.drewN k) (Nat.le_refl _) fun _ _ => rfl)
        have hfin0 := fun k => HE1.out (wr.drewN k) (by rw [HM2.out]; exact he) (Below_drawn HB.out k)
        rw [HM2.out] at hfin0
        have HFIN := Lib.hid hfin0
        clear hfin0 hM hb ht0 k0 hF0 HE1 HE2 HE3 HM1 HM2 how
        generalize hereP nl sj = hp at *
        go_wp2_with fail
        go_quiet (first | (go_at_call 16; exact Calls.quiet_of_same (hpl _)) | fail)
        have hfin := HFIN.out nq
        go_wp2
        refine bodyPost_ret (results_tmp4 rfl _ _ _) rfl ?_
        exact hfin
end
end Go.Proofs.YthindhlogkhclaaGreatDoor
