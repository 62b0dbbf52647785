/-
  WalAtomicW: The law WalAtomic over the loaded program: behind crashes at any acts a commit's sectors are all as they were, or all as they were to be. No condition but the table roots.
-/
import Derived.Test.YtgoifhpinoodgaaGreatDoorWz41
import Derived.Test.YtgoifhpinoodgaaGreatDoorWz43
import Derived.Test.YtgoifhpinoodgaaGreatDoorWz21
import Derived.Deep.CutRange

section
namespace Go.Proofs.YtgoifhpinoodgaaGreatDoor
open Go.RowKit Go.ChangeShapes Go.WideShapes Go.Joins
set_option maxRecDepth 100000
set_option linter.unusedVariables false

/-- Crashes that came in: when the power goes, and what stays. -/
abbrev Cr := Int × List Bool
def ES (w : World) (v : Value) (l : List Cr) : Prop :=
  ∃ A c, v = .slice A l.length c ∧ l.length ≤ c ∧ c ≤ maxLen ∧
    (0 < l.length → ∃ b o, A = some ⟨b, o, none⟩ ∧ b < w.heap.size ∧ ∀ j q, l[j]? = some q → w.cell? ⟨b, o + j * 2, none⟩ = some (.int .i64 q.1) ∧ I64 q.1 ∧ ∃ K m z, w.cell? ⟨b, o + j * 2 + 1, none⟩ = some (.slice K m z) ∧ CS w (fun b => b < w.heap.size) (.slice K m z) (q.2.map Value.bool))

/-- What stands in memory behind the second Commit: the disk, and what its sectors were, and are to be. -/
structure AtK (w : World) (p : DA) (lg : Nat) (wr : World) (vw vl : Value) (ws wl : List (List UInt8)) (s : Dk) : Prop where
  ds : DS wr p s
  was : LS wr (fun b => Off p wr b ∧ b ≠ lg) vw ws
  will : LS wr (fun b => Off p wr b ∧ b ≠ lg) vl wl
  bl : Below w.heap.size w wr
section
variable {w wr wn : World} {p : DA} {lg : Nat} {vw vl : Value} {ws wl : List (List UInt8)} {s : Dk}
theorem LS.off_lg (h : LS wr (fun b => Off p wr b ∧ b ≠ lg) vw ws) (hk : KeepP (fun b => Off p wr b ∧ b ≠ lg) wr wn) : LS wn (fun b => Off p wn b ∧ b ≠ lg) vw ws :=
  (h.keep hk.size fun b sb _ => hk.block b sb).mono fun b sb => ⟨⟨Nat.lt_of_lt_of_le sb.1.1 hk.size, sb.1.2⟩, sb.2⟩
theorem AtK.below (h : AtK w p lg wr vw vl ws wl s) (hb : Below wr.heap.size wr wn) : AtK w p lg wn vw vl ws wl s :=
  ⟨h.ds.below hb, h.was.off_lg (KeepP.of_below hb fun x hx => hx.1.1), h.will.off_lg (KeepP.of_below hb fun x hx => hx.1.1), h.bl.trans (hb.mono h.bl.size)⟩
theorem AtK.disk (h : AtK w p lg wr vw vl ws wl s) (hp : From p w.heap.size) (hlg : w.heap.size ≤ lg) (hk : KeepP (fun b => Off p wr b ∧ b ≠ lg) wr wn) {s' : Dk} (hd : DS wn p s') : AtK w p lg wn vw vl ws wl s' :=
  ⟨hd, h.was.off_lg hk, h.will.off_lg hk, h.bl.trans (hk.to_below fun x hx => ⟨⟨by have := h.bl.size; omega, fun h => by have := hp x h; omega⟩, by omega⟩)⟩
theorem AtK.disk' (h : AtK w p lg wr vw vl ws wl s) (hp : From p w.heap.size) (hlg : w.heap.size ≤ lg) (hk : KeepP (Off p wr) wr wn) {s' : Dk} (hd : DS wn p s') : AtK w p lg wn vw vl ws wl s' :=
  h.disk hp hlg (hk.mono fun x hx => hx.1) hd
/-- Where Fuse is called. -/
theorem keep_fuse (hg : wr.grownBy wn (some p.d)) : KeepP (Off p wr) wr wn := (KeepP.refl (Off p wr) wr).grown hg (fun g e hx => hx.2 (by cases e; exact .inl rfl)) fun x hx => hx.1
end

/-- Open, whatever it answers. -/
theorem open_some {w : World} {p : DA} {s : Dk} (n : Nat) (h : DS w p s) (hn : 2 ≤ n) (hN : n + 2 ≤ s.safe.length) (ht : Tab w) (htp : ¬ p.has 0) : Calls Tryz.prog 6 #[.pointer (some ⟨p.d, 0, none⟩), .int .i64 n] w fun e w' =>
    ∃ v, e = .returned v ∧ DS w' p (openD n s).1 ∧ KeepP (Off p w) w w' := by
  refine (open_go n h hn hN ht htp).mono ?_
  rintro e w' ⟨d, k, h1, h2⟩
  by_cases h0 : (openD n s).2 = 0
  · obtain ⟨lg, e1, _⟩ := h1 h0
    exact ⟨_, e1, d, k⟩
  · exact ⟨_, h2 h0, d, k⟩

theorem atomic_long (n0 n1 n2 : Nat) (A0 A1 A2 : Option Addr) (c0 c1 c2 : Nat) (w : World) (ht : Tab w) (h : 20 < n0 ∨ 20 < n1 ∨ 6 < n2) : Calls Tryz.prog 3 #[.slice A0 n0 c0, .slice A1 n1 c1, .slice A2 n2 c2] w (YesW w) := by
  have hlv := live10_any w ht
  by_cases h0 : 20 < n0
  · have D0 : decide ((20 : Int) < (n0 : Int)) = true := decide_eq_true (by omega)
    go_enter Tryz.func3, Tryz.ntmps3
    go_wp2_with fail
    refine hlv.mono ?_
    rintro e wb ⟨rfl, bb⟩
    go_wp2_with fail
    go_ret
    exact ⟨rfl, bb⟩
  · have D0 : decide ((20 : Int) < (n0 : Int)) = false := decide_eq_false (by omega)
    by_cases h1 : 20 < n1
    · have D1 : decide ((20 : Int) < (n1 : Int)) = true := decide_eq_true (by omega)
      go_enter Tryz.func3, Tryz.ntmps3
      go_wp2_with fail
      refine hlv.mono ?_
      rintro e wb ⟨rfl, bb⟩
      go_wp2_with fail
      go_ret
      exact ⟨rfl, bb⟩
    · have D1 : decide ((20 : Int) < (n1 : Int)) = false := decide_eq_false (by omega)
      have D2 : decide ((6 : Int) < (n2 : Int)) = true := decide_eq_true (by omega)
      go_enter Tryz.func3, Tryz.ntmps3
      go_wp2_with fail
      refine hlv.mono ?_
      rintro e wb ⟨rfl, bb⟩
      go_wp2_with fail
      go_ret
      exact ⟨rfl, bb⟩

set_option maxHeartbeats 8000000 in
theorem atomic_walk (l0 l1 : List Pu) (l2 : List Cr) (v0 v1 v2 : Value) (w : World) (ht : Tab w) (h0 : US w v0 l0) (h1 : US w v1 l1) (h2 : ES w v2 l2) (k0 : l0.length ≤ 20) (k1 : l1.length ≤ 20) (k2 : l2.length ≤ 6) :
    Calls Tryz.prog 3 #[v0, v1, v2] w (YesW w) := by
  obtain ⟨A0, c0, rfl, _⟩ := id h0
  obtain ⟨A1, c1, rfl, _⟩ := id h1
  obtain ⟨A2, c2, rfl, hl2c, hl2m, _⟩ := id h2
  have D0 : decide ((20 : Int) < (l0.length : Int)) = false := decide_eq_false (by omega)
  have D1 : decide ((20 : Int) < (l1.length : Int)) = false := decide_eq_false (by omega)
  have D2 : decide ((6 : Int) < (l2.length : Int)) = false := decide_eq_false (by omega)
  have H0 := Lib.hid h0
  have H1 := Lib.hid h1
  have H2 := Lib.hid h2
  have hr0 := ht.1
  obtain ⟨p1, hp1⟩ : ∃ p1, p1 = l0.map ptOf := ⟨_, rfl⟩
  obtain ⟨p2, hp2⟩ : ∃ p2, p2 = l1.map ptOf := ⟨_, rfl⟩
  have hof1 := fun (W : World) (h : US W (.slice A0 l0.length c0) l0) => ofl_any _ l0 W h (by omega)
  have hof2 := fun (W : World) (h : US W (.slice A1 l1.length c1) l1) => ofl_any _ l1 W h (by omega)
  rw [← hp1] at hof1
  rw [← hp2] at hof2
  have HO1 := Lib.hid hof1
  have HO2 := Lib.hid hof2
  have HL2 := Lib.hid k2
  clear h0 h1 h2 k0 k1 hp1 hp2 hof1 hof2
  go_enter Tryz.func3, Tryz.ntmps3
  go_wp2_with fail
  refine (new_made 24 w (by omega) (by omega)).mono ?_
  rintro e w1 ⟨p, rfl, d1, fp, B1⟩
  have htp : ¬ p.has 0 := fun h => by have := fp _ h; omega
  have ho : Calls Tryz.prog 6 #[.pointer (some ⟨p.d, 0, none⟩), .int .i64 12] w1 _ := open_zero_any (n := 12) d1 (by omega) (by rw [blank_len]; omega) (ht.below B1) htp (by rw [blank_fuse]; decide) (by rw [blank_len]; exact blank_stands (by omega))
  go_wp2_with fail
  refine ho.mono ?_
  rintro e w2 ⟨lg, rfl, d2, hg2, hl2, hgp, kp2⟩
  have B2 := B1.trans (kp2.off B1.size fp)
  have hsz := B1.size
  clear ho d1 kp2 B1
  go_wp2_with fail
  with_reducible refine (num10_any 0 _).mono ?_
  rintro e w' ⟨rfl, rfl⟩
  go_wp2_with fail
  with_reducible refine (num10_any 0 _).mono ?_
  rintro e w' ⟨rfl, rfl⟩
  go_wp2_with fail
  refine (HO1.out w2 (H0.out.below B2)).mono ?_
  rintro e w3 ⟨v3, rfl, ps3, b3⟩
  have hlt2 := d2.lt
  have ps3' : PS w3 (Off p w3) v3 p1 := ps3.mono fun x hx => ⟨hx.2, fun h => by have := hlt2 x h; omega⟩
  have B3 := B2.trans (b3.mono B2.size)
  have hco := commit_all v3 p1 (hg2.below b3) hgp (d2.below b3) ps3' (by rw [blank_len]; omega) (ht.below B3) htp
  obtain ⟨A3, c3, rfl, _⟩ := ps3.form
  rw [blank_len] at hco
  obtain ⟨a1, a2, a3⟩ := comA_stands (n := 12) (N := 24) (ps := p1) (by omega) (by omega) (blank_len 24) (blank_fuse 24) (blank_stands (by omega))
  have hl1 : (comA 12 24 p1 (blank 24)).1.safe.length = 24 := by rw [comA_len, blank_len]
  rw [a1] at hco
  generalize (comA 12 24 p1 (blank 24)).1 = s1 at *
  clear ps3 ps3' b3 a1 hg2
  generalize hm1 : p1.length = m1 at *
  clear hm1
  go_wp2_with fail
  refine hco.mono ?_
  rintro e w4 ⟨rfl, d4, ⟨br, hg4, hbr⟩, kp4⟩
  have hbr0 : br = false := hbr (by first | trivial | rfl)
  subst hbr0
  have B4 : Below w.heap.size w w4 := B3.trans (kp4.to_below fun x hx => ⟨⟨by have := B3.size; omega, fun h => by have := fp x h; omega⟩, by omega⟩)
  clear hco kp4 hbr d2 B2 B3
  obtain ⟨rc, hrc⟩ : ∃ rc, rc = rightP 12 ((24 : Nat) : Int) p1 := ⟨_, rfl⟩
  rw [← hrc]
  have hrr := fun (W : World) (S : Nat → Prop) (v : Value) (h : PS W S v p1) => rright_any S v p1 12 24 W h (by omega)
  rw [← hrc] at hrr
  have HRR1 := Lib.hid hrr
  clear hrr hrc
  go_wp2_with fail
  with_reducible refine (num10_any rc _).mono ?_
  rintro e w' ⟨rfl, rfl⟩
  go_wp2_with fail
  refine (HO1.out w4 (H0.out.below B4)).mono ?_
  rintro e w5 ⟨v5, rfl, ps5, b5⟩
  have B5 := B4.trans (b5.mono B4.size)
  have d5 := d4.below b5
  have hg5 := hg4.below b5
  go_wp2_with fail
  refine (HRR1.out w5 _ v5 ps5).mono ?_
  rintro e w6 ⟨rfl, b6⟩
  have B6 := B5.trans (b6.mono B5.size)
  have d6 := d5.below b6
  have hg6 := hg5.below b6
  clear ps5 HRR1 HO1 d4 d5 hg4 hg5 b5 b6 B4 B5
  go_wp2_with fail
  refine (image_any d6).mono ?_
  rintro e w7 ⟨vs7, rfl, k7, o7, b7⟩
  have ls7 := Told44.ls k7 o7 (by rw [hl1]; unfold maxLen; omega)
  rw [hl1] at ls7
  have B7 := B6.trans (b7.mono B6.size)
  have d7 := d6.below b7
  have hg7 := hg6.below b7
  rw [hl1]
  have K7 : AtK w p lg w7 (.slice (some ⟨w6.heap.size, 0, none⟩) 24 24) (.slice (some ⟨w6.heap.size, 0, none⟩) 24 24) s1.safe s1.safe s1 := by
    have e : LS w7 (fun b => Off p w7 b ∧ b ≠ lg) (.slice (some ⟨w6.heap.size, 0, none⟩) 24 24) s1.safe := ls7.mono fun b sb => ⟨⟨sb.2, fun h => by have := d6.lt b h; omega⟩, fun h => by have := KB.lt hg6; omega⟩
    exact ⟨d7, e, e, B7⟩
  have hlgw : w.heap.size ≤ lg := by omega
  clear k7 o7 b7 ls7 d6 d7 hg6 B6
  go_wp2_with fail
  refine (HO2.out w7 (H1.out.below B7)).mono ?_
  rintro e w8 ⟨v8, rfl, ps8, b8⟩
  have K8 := K7.below b8
  have hg8 := hg7.below b8
  have hlt7 := K7.ds.lt
  have ps8' : PS w8 (Off p w8) v8 p2 := ps8.mono fun x hx => ⟨hx.2, fun h => by have := hlt7 x h; omega⟩
  obtain ⟨A8, c8, rfl, _⟩ := ps8.form
  obtain ⟨rc, hrc⟩ : ∃ rc, rc = rightP 12 ((24 : Nat) : Int) p2 := ⟨_, rfl⟩
  have hrr := rright_any _ _ p2 12 24 w8 ps8' (by omega)
  rw [← hrc] at hrr
  clear K7 ps8 b8 hg7 B7 hlt7 HO2
  go_wp2_with fail
  refine hrr.mono ?_
  rintro e w9 ⟨rfl, b9⟩
  have K9 := K8.below b9
  have hg9 := hg8.below b9
  have ps9 := ps8'.off_below b9
  have HRC := Lib.hid hrc
  clear K8 hg8 ps8' b9 hrr hrc
  generalize hm2 : p2.length = m2 at *
  go_upto_if 80 with fail
  obtain ⟨W, hW⟩ : ∃ W, W = W1 (goodP 12 24 p1) fun x => zs 256 := ⟨_, rfl⟩
  rw [← hW] at a3
  obtain ⟨P, hP⟩ : ∃ P, P = goodP 12 24 p2 := ⟨_, rfl⟩
  have HA3 := Lib.hid a3
  clear hW a3
  generalize hrb : (rc == 0) = rb at *
  have HRB := Lib.hid hrb
  clear hrb
  go_cut [15] from 81 to 83 (fun v wc => ∃ A c, v = .slice A 24 c ∧ AtK w p lg wc (.slice (some ⟨w6.heap.size, 0, none⟩) 24 24) (.slice A 24 c) s1.safe (doneL s1.safe P) s1 ∧ Below w9.heap.size w9 wc)
  case first =>
    cases rb with
    | true =>
      have hr : rc = 0 := by have := HRB.out; simpa using this
      have h0 : rightP 12 ((24 : Nat) : Int) p2 = 0 := by rw [← HRC.out]; exact hr
      have hPP : P = p2 := by rw [hP]; unfold goodP; exact if_pos h0
      subst hPP
      have hdo := rdone_any _ _ _ _ s1.safe P w9 K9.was ps9 (by omega) (by omega) (fun l hl => by have := K9.ds.ok.len l hl; omega) (fun q hq => by have := takes_at (right_zero h0).1 hq; omega)
      clear HRC h0 hP hr
      go_wp2_with fail
      refine hdo.mono ?_
      rintro e w10 ⟨v10, rfl, ls10, b10⟩
      obtain ⟨A10, c10, rfl, _⟩ := ls10.form
      have hlt := K9.ds.lt
      have ls10' : LS w10 (fun b => Off p w10 b ∧ b ≠ lg) _ _ := ls10.mono fun b sb => ⟨⟨sb.2, fun h => by have := hlt b h; omega⟩, fun h => by have := KB.lt hg9; omega⟩
      rw [doneL_len, hl1] at ls10' ⊢
      have K10 := K9.below b10
      go_wp2_with fail
      go_meet
      exact ⟨_, _, rfl, ⟨K10.ds, K10.was, ls10', K10.bl⟩, b10⟩
    | false =>
      have hr : ¬ rc = 0 := by have := HRB.out; simpa using this
      have hPP : P = [] := by
        rw [hP]; unfold goodP; exact if_neg (by rw [← HRC.out]; exact hr)
      subst hPP
      clear hr
      go_wp2_with fail
      go_meet
      exact ⟨_, _, rfl, K9, Below.refl _ _⟩
  case rest =>
    obtain ⟨Al, cl, rfl, K, b10⟩ := hcut
    obtain ⟨w10, rfl⟩ : ∃ w10, w10 = wc := ⟨_, rfl⟩
    have hg10 := hg9.below b10
    have ps10 := ps9.off_below b10
    clear K9 hg9 ps9 b10
    go_upto_region 15 with fail
    go_cut [93] from 84 to 93 (fun v wc => ∃ b : Bool, v = .bool b ∧ wc = w10 ∧ (b = true → 0 < l2.length ∧ ∃ b0 o x, A2 = some ⟨b0, o, none⟩ ∧ w10.cell? ⟨b0, o, none⟩ = some (.int .i64 x) ∧ I64 x ∧ 0 < x))
    case first =>
      by_cases h0 : 0 < l2.length
      · have h1 : decide ((0 : Int) < (l2.length : Int)) = true := decide_eq_true (by omega)
        have h2 : (0 : Int) < (l2.length : Int) := by omega
        obtain ⟨A', c', e', _, _, hx⟩ := H2.out
        injection e' with e1 _ e3
        subst e1 e3
        obtain ⟨b0, o, rfl, hbl, hx⟩ := hx h0
        obtain ⟨x0, i0, _⟩ := hx 0 _ (List.getElem?_eq_getElem h0)
        have c0' : w10.cell? ⟨b0, o, none⟩ = some (.int .i64 l2[0].1) := by
          rw [Nat.zero_mul, Nat.add_zero] at x0
          exact (World.cell?_of_block (w := w) (K.bl.block b0 hbl)).trans x0
        clear hx x0
        generalize l2[0].1 = x at *
        go_wp2_with fail
        go_meet
        exact ⟨_, rfl, rfl, fun hb => ⟨h0, _, _, _, rfl, c0', i0, by simpa using hb⟩⟩
      · have h1 : decide ((0 : Int) < (l2.length : Int)) = false := decide_eq_false (by omega)
        go_wp2_with fail
        go_meet
        exact ⟨_, rfl, rfl, fun hb => by cases hb⟩
    case rest =>
      obtain ⟨bf, rfl, hwc, hf⟩ := hcut
      obtain rfl : w10 = wc := hwc.symm
      clear hwc
      go_upto_if 93 with fail
      go_cut [] from 94 to 99 (fun wc => ∃ s2, s2.safe.length = 24 ∧ Stands 12 24 W s2 ∧ AtK w p lg wc (.slice (some ⟨w6.heap.size, 0, none⟩) 24 24) (.slice Al 24 cl) s1.safe (doneL s1.safe P) s2 ∧ LG wc lg p 12 false ∧ PS wc (Off p wc) (.slice A8 m2 c8) p2)
      case first =>
        cases bf with
        | true =>
          obtain ⟨h0, b0, o, x, rfl, c0', i0, hx⟩ := hf rfl
          have h2 : (0 : Int) < (l2.length : Int) := by omega
          have hfu := fuse_any K.ds x i0
          go_wp2_with fail
          refine hfu.mono ?_
          rintro e w11 ⟨rfl, d11, g11⟩
          go_wp2_with fail
          go_meet
          exact ⟨{ s1 with fuse := x }, hl1, HA3.out, K.disk' fp hlgw (keep_fuse g11) d11, hg10.keepP (keep_fuse g11) ⟨KB.lt hg10, hgp⟩, ps10.off (keep_fuse g11)⟩
        | false =>
          go_wp2_with fail
          go_meet
          exact ⟨s1, hl1, HA3.out, K, hg10, ps10⟩
      case rest =>
        obtain ⟨s2, hl2', hs2, K11, hg11, ps11⟩ := hcut
        obtain ⟨w11, rfl⟩ : ∃ w11, w11 = wc := ⟨_, rfl⟩
        clear K hg10 ps10 hf
        go_upto_region 17 with fail
        go_cut [16] from 100 to 107 (fun v wc => ∃ (dn : Bool) (s : Dk), v = .bool dn ∧ Left 12 24 P W dn s ∧ AtK w p lg wc (.slice (some ⟨w6.heap.size, 0, none⟩) 24 24) (.slice Al 24 cl) s1.safe (doneL s1.safe P) s)
        case first =>
          have hco := commit_all _ p2 hg11 hgp K11.ds ps11 (by omega) (ht.below K11.bl) htp
          rw [hl2'] at hco
          obtain ⟨e2, he2⟩ : ∃ e2, e2 = (comA 12 24 p2 s2).2 := ⟨_, rfl⟩
          rw [← he2] at hco
          have hleft : ∀ dn : Bool, (dn = true → e2 = 0 ∧ rb = true) → Left 12 24 P W dn (comA 12 24 p2 s2).1 := fun dn hdn => by
            rw [hP]
            refine comA_left (by omega) (by omega) hl2' hs2 dn fun h => ?_
            obtain ⟨h1, h2⟩ := hdn h
            refine ⟨by rw [← he2]; exact h1, ?_⟩
            rw [← HRC.out]
            have := HRB.out
            rw [h2] at this
            simpa using this
          have HLF := Lib.hid hleft
          clear hs2 hl2' hleft HRC HRB hP hg11 ps11 he2
          generalize (comA 12 24 p2 s2).1 = s3 at *
          go_wp2_with fail
          refine hco.mono ?_
          rintro e w12 ⟨rfl, d12, _, k12⟩
          have K12 := K11.disk fp hlgw k12 d12
          clear hco d12 k12 K11
          go_wp2_with fail
          with_reducible refine (num10_any e2 _).mono ?_
          rintro e w' ⟨rfl, rfl⟩
          by_cases he : e2 = 0
          · have K2 := HLF.out rb fun h => ⟨he, h⟩
            subst he
            go_wp2_with fail
            go_meet
            exact ⟨rb, s3, rfl, K2, K12⟩
          · have hq : (e2 == 0) = false := by simpa using he
            clear he
            go_wp2_with fail
            go_meet
            exact ⟨false, s3, rfl, HLF.out false (fun h => by cases h), K12⟩
        case rest =>
          obtain ⟨dn, s3, rfl, hL, K12⟩ := hcut
          obtain ⟨w12, rfl⟩ : ∃ w12, w12 = wc := ⟨_, rfl⟩
          have hfi : Fine 12 24 P := by rw [hP]; exact fine_good p2 (by omega) (by omega)
          have hl2' := K11.ds.ok
          clear K11 hg11 ps11 hs2 HRC HRB
          go_wp2_with fail
          go_loopw [17] (fun q wr => ∃ (k : Nat) (s : Dk), k ≤ l2.length ∧ q = .int .i64 k ∧ Left 12 24 P W dn s ∧ AtK w p lg wr (.slice (some ⟨w6.heap.size, 0, none⟩) 24 24) (.slice Al 24 cl) s1.safe (doneL s1.safe P) s) (fun q _ => l2.length - (Go.RowKit.intOf q).toNat)
          case atStart => exact ⟨0, s3, Nat.zero_le _, rfl, hL, K12⟩
          case round =>
            obtain ⟨k, s, hkl, rfl, hLs, K⟩ := hrel
            clear K12 hL
            by_cases hlt : k < l2.length
            · obtain ⟨A', c', e', _, _, hx⟩ := H2.out
              injection e' with e1 _ e3
              subst e1 e3
              obtain ⟨b0, o, rfl, hbl, hx⟩ := hx (by omega)
              have hcb : ∀ a, wr.cell? ⟨b0, a, none⟩ = w.cell? ⟨b0, a, none⟩ := fun a => World.cell?_of_block (w := w) (K.bl.block b0 hbl)
              obtain ⟨_, _, Kk, m, z, x1, xs⟩ := hx k _ (List.getElem?_eq_getElem hlt)
              rw [← hcb] at x1
              have cs := xs.below' K.bl
              generalize l2[k].2 = ks at *
              have hcr := crash_any K.ds _ _ ks cs fun b sb hb => by have := fp b hb; omega
              have HX := Lib.hid hx
              have HC := Lib.hid hcb
              clear xs cs hx hcb
              by_cases h1 : k + 1 < l2.length
              · have D1 : decide ((k : Int) + 1 < (l2.length : Int)) = true := decide_eq_true (by omega)
                have D2 : (k : Int) + 1 < (l2.length : Int) := by omega
                obtain ⟨x0, i0, _⟩ := HX.out (k + 1) _ (List.getElem?_eq_getElem h1)
                rw [← HC.out] at x0
                generalize l2[k + 1].1 = x at *
                go_wp2_with fail
                refine hcr.mono ?_
                rintro e w13 ⟨rfl, d13, k13⟩
                have K13 := K.disk' fp hlgw k13 d13
                have hb13 : b0 < wr.heap.size ∧ ¬ p.has b0 := ⟨by have := K.bl.size; omega, fun h => by have := fp b0 h; omega⟩
                have x13 : w13.cell? ⟨b0, o + (k + 1) * 2, none⟩ = some (.int .i64 x) := (World.cell?_of_block (w := wr) (k13.block b0 hb13)).trans x0
                clear hcr d13 k13 K x0 x1 hb13
                have hlen : (s.crashed ks).safe.length = 24 := by rw [crashed_lenW]; exact hLs.len
                by_cases hx0 : 0 < x
                · have hd0 : decide (0 < x) = true := decide_eq_true hx0
                  have hfu := fuse_any K13.ds x i0
                  go_wp2_with fail
                  refine hfu.mono ?_
                  rintro e w14 ⟨rfl, d14, g14⟩
                  have K14 := K13.disk' fp hlgw (keep_fuse g14) d14
                  have hop := open_some 12 K14.ds (by omega) (by show 12 + 2 ≤ (s.crashed ks).safe.length; omega) (ht.below K14.bl) htp
                  clear hfu d14 g14 K13 hx0 x13
                  go_wp2_with fail
                  refine hop.mono ?_
                  rintro e w15 ⟨v15, rfl, d15, k15⟩
                  have K15 := K14.disk' fp hlgw k15 d15
                  have hL15 := hLs.open_ hfi ks x
                  clear hop d15 k15 K14
                  go_wp2_with fail
                  go_roundw
                  case rel => exact ⟨k + 1, _, by omega, by go_num, hL15, K15⟩
                  case measure => simp [Go.RowKit.intOf]; omega
                · have hd0 : decide (0 < x) = false := decide_eq_false hx0
                  have hop := open_some 12 K13.ds (by omega) (by omega) (ht.below K13.bl) htp
                  clear hx0
                  go_wp2_with fail
                  refine hop.mono ?_
                  rintro e w15 ⟨v15, rfl, d15, k15⟩
                  have K15 := K13.disk' fp hlgw k15 d15
                  have hL15 := hLs.open_ hfi ks (-1)
                  clear hop d15 k15 K13
                  go_wp2_with fail
                  go_roundw
                  case rel => exact ⟨k + 1, _, by omega, by go_num, hL15, K15⟩
                  case measure => simp [Go.RowKit.intOf]; omega
              · have D1 : decide ((k : Int) + 1 < (l2.length : Int)) = false := decide_eq_false (by omega)
                have hlen : (s.crashed ks).safe.length = 24 := by rw [crashed_lenW]; exact hLs.len
                go_wp2_with fail
                refine hcr.mono ?_
                rintro e w13 ⟨rfl, d13, k13⟩
                have K13 := K.disk' fp hlgw k13 d13
                have hop := open_some 12 K13.ds (by omega) (by omega) (ht.below K13.bl) htp
                clear hcr d13 k13 K x1
                go_wp2_with fail
                refine hop.mono ?_
                rintro e w15 ⟨v15, rfl, d15, k15⟩
                have K15 := K13.disk' fp hlgw k15 d15
                have hL15 := hLs.open_ hfi ks (-1)
                clear hop d15 k15 K13
                go_wp2_with fail
                go_roundw
                case rel => exact ⟨k + 1, _, by omega, by go_num, hL15, K15⟩
                case measure => simp [Go.RowKit.intOf]; omega
            · obtain rfl : k = l2.length := by omega
              have hlen : (s.crashed []).safe.length = 24 := by rw [crashed_lenW]; exact hLs.len
              obtain ⟨e0, f0, n0, hst⟩ := hLs.last hfi []
              go_wp2_with fail
              refine (crash_any K.ds (fun _ => False) (.slice none 0 0) [] (CS.nil _ _) (fun _ h => h.elim)).mono ?_
              rintro e w13 ⟨rfl, d13, k13⟩
              have K13 := K.disk' fp hlgw k13 d13
              have hop := open_go 12 K13.ds (by omega) (by omega) (ht.below K13.bl) htp
              generalize (openD 12 (s.crashed [])).1 = t at *
              rw [e0] at hop
              clear d13 k13 K
              go_wp2_with fail
              refine hop.mono ?_
              rintro e w14 ⟨d14, k14, h14, _⟩
              obtain ⟨lg', rfl, _, _⟩ := h14 (by first | trivial | rfl)
              have K14 := K13.disk' fp hlgw k14 d14
              clear hop d14 k14 h14 K13
              have hA3 := HA3.out
              have hWt : ∃ W', Stands 12 t.safe.length W' t := by
                rw [n0]
                rcases hst with h | h
                · exact ⟨_, h⟩
                · exact ⟨_, h.2⟩
              have hres : t.safe = doneL s1.safe P ∨ dn = false ∧ t.safe = s1.safe := by
                rcases hst with h | h
                · exact .inl (stands_image hfi hl1 hA3 n0 h)
                · exact .inr ⟨h.1, stands_image (P := []) ⟨rfl, Nat.zero_le _, by omega, by omega⟩ hl1 hA3 n0 h.2⟩
              obtain ⟨W', hWt⟩ := hWt
              generalize (leftP 12 (s.crashed [])).length = lf at *
              clear hst hA3 hfi hlen e0 hLs
              go_wp2_with fail
              refine (image_any K14.ds).mono ?_
              rintro e w15 ⟨vs15, rfl, k15, o15, b15⟩
              have ls15 := Told44.ls k15 o15 (by rw [n0]; unfold maxLen; omega)
              have K15 := K14.below b15
              have hlt14 := K14.ds.lt
              rw [n0] at ls15 ⊢
              clear k15 o15 b15
              go_wp2_with fail
              refine (acts_any K15.ds).mono ?_
              rintro e w' ⟨rfl, rfl⟩
              have hop := open_zero_any (n := 12) K15.ds (by omega) (by omega) (ht.below K15.bl) htp (by rw [f0]; decide) hWt
              clear K14
              go_wp2_with fail
              refine hop.mono ?_
              rintro e w16 ⟨lg2, rfl, d16, _, _, _, k16⟩
              have K16 := K15.disk' fp hlgw k16 d16
              have ls16 := (ls15.mono (S' := Off p w15) fun b sb => ⟨sb.2, fun h => by have := hlt14 b h; omega⟩).off k16
              have hq : (t.acts != t.acts) = false := by simp
              clear K15 ls15 d16 k16 hop hWt
              go_wp2_with (first | (with_reducible refine (num10_any 0 _).mono ?_; rintro e w' ⟨rfl, rfl⟩) | (refine (acts_any K16.ds).mono ?_; rintro e w' ⟨rfl, rfl⟩))
              refine (sameAll_any _ _ _ _ _ _ w16 ls16 K16.will).mono ?_
              rintro e w17 ⟨rfl, b17⟩
              have K17 := K16.below b17
              have ls17 := LS.below' ls16 b17
              clear K16 ls16 b17
              by_cases he : t.safe = doneL s1.safe P
              · have hd : decide (t.safe = doneL s1.safe P) = true := decide_eq_true he
                rw [hd]
                have hlv := live10_any w17 (ht.below K17.bl)
                clear hres he hd
                go_wp2_with fail
                refine hlv.mono ?_
                rintro e wb ⟨rfl, bb⟩
                go_wp2_with fail
                go_ret
                exact ⟨rfl, K17.bl.trans (bb.mono K17.bl.size)⟩
              · have hd : decide (t.safe = doneL s1.safe P) = false := decide_eq_false he
                rw [hd]
                obtain ⟨rfl, hr⟩ := hres.resolve_left he
                have hsa := sameAll_any _ _ _ _ _ _ w17 ls17 K17.was
                rw [decide_eq_true hr] at hsa
                clear he hd hr
                go_wp2_with fail
                refine hsa.mono ?_
                rintro e w18 ⟨rfl, b18⟩
                have B18 := K17.bl.trans (b18.mono K17.bl.size)
                have hlv := live10_any w18 (ht.below B18)
                go_wp2_with fail
                refine hlv.mono ?_
                rintro e wb ⟨rfl, bb⟩
                go_wp2_with fail
                go_ret
                exact ⟨rfl, B18.trans (bb.mono B18.size)⟩
end Go.Proofs.YtgoifhpinoodgaaGreatDoor
end
