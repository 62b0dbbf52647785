/-
  DcI: How the program takes terms apart, round by round: its contract, over the loaded program. No condition but what the theorem names.
-/
import Derived.Test.YthgaljgelngmaaaDoorDv36

section
namespace Go.Proofs.YthgaljgelngmaaaDoor
open Go.RowKit
set_option linter.unusedVariables false

/-- What holds at the head of each round. -/
def JA (S : Nat → Prop) (f : Nat) (l : List (Tm f)) (A : Option Addr) (c : Nat) (w : World) : Act → World → Prop :=
  (fun a' wr => ∃ (out sh : List (Tm f)) (fr : Nat) (shq : List Quad) (vsh : Value) (O : Nat → Prop) (u10 u11 u12 u13 u14 u15 u16 u17 u18 u19 u20 u21 u22 u23 u24 u25 u26 u27 u28 u29 u30 u31 u32 u33 u34 u35 u36 u37 u38 u39 u40 u41 u42 u43 u44 u45 u46 u47 u48 u49 u50 u51 u52 u53 u54 u55 u56 u57 u58 u59 u60 u61 u62 u63 u64 u65 u66 u67 u68 u69 u70 u71 u72 u73 u74 u75 : Value), a' = { tmps := #[.slice A l.length c, undef, .slice none 0 0, .nilFunc, .pointer (some ⟨w.heap.size, 0, none⟩), .pointer (some ⟨w.heap.size + 2, 0, none⟩), .pointer (some ⟨w.heap.size + 3, 0, none⟩), .func (.func 39) #[] #[.pointer (some ⟨w.heap.size + 3, 0, none⟩), .pointer (some ⟨w.heap.size, 0, none⟩), .pointer (some ⟨w.heap.size + 2, 0, none⟩)], vsh, .int .i64 fr, u10, u11, u12, u13, u14, u15, u16, u17, u18, u19, u20, u21, u22, u23, u24, u25, u26, u27, u28, u29, u30, u31, u32, u33, u34, u35, u36, u37, u38, u39, u40, u41, u42, u43, u44, u45, u46, u47, u48, u49, u50, u51, u52, u53, u54, u55, u56, u57, u58, u59, u60, u61, u62, u63, u64, u65, u66, u67, u68, u69, u70, u71, u72, u73, u74, u75], defers := [] } ∧ Hid (SofarD f l out) ∧ Apart S f w wr O out ∧ Hid (skimD (vwT f) out (out.take fr) sh) ∧ wr.ownsRow w.heap.size 35 4 vsh shq.length (flatQ shq) ∧ QT wr S f shq sh ∧ Off w O vsh ∧ fr ≤ out.length ∧ Below w.heap.size w wr)

set_option maxHeartbeats 4000000 in
theorem apart_any (S : Nat → Prop) (f : Nat) (l : List (Tm f)) (v : Value) (w : World) (hS : ∀ b, S b → b < w.heap.size) (hl : KS w S (TM w S f) v l) (hmay : ∀ t ∈ l, mayT f t 8 = true) (hun : (univT f l).length ≤ 2000) :
    Calls Tryd.prog 21 #[v] w fun e w' => ∃ (va : Value) (O : Nat → Prop), e = .returned (.tuple #[va, .func (.func 35) #[] #[.pointer (some ⟨w.heap.size + 2, 0, none⟩)]]) ∧ Apart S f w w' O (cloT f l) ∧ KB w' w.heap.size 22 #[va] ∧ Below w.heap.size w w' := by
  obtain ⟨A, c, rfl, hlc, hm, _⟩ := id hl
  have hle : l.length ≤ 9223372036854775807 := by unfold maxLen at hm; omega
  have HIn : Hid (∀ x ∈ univT f l, okD f x) := fun x hx => okD_univ (fun t ht => ⟨8, hmay t ht⟩) x hx
  have HU2 : Hid ((univT f l).length ≤ 2000) := hun
  clear hm hun
  have hmm := @run_makeMap Tryd.prog
  go_enter Tryd.func21, Tryd.ntmps21
  go_wp2_with fail
  refine wp_scope_back 0 (JA S f l A c w) (fun _ w' => 3000 - soFar w' w.heap.size) rfl ?_ ?_
  · rintro a' wr ⟨out, sh, fr, shq, vsh, O, u10, u11, u12, u13, u14, u15, u16, u17, u18, u19, u20, u21, u22, u23, u24, u25, u26, u27, u28, u29, u30, u31, u32, u33, u34, u35, u36, u37, u38, u39, u40, u41, u42, u43, u44, u45, u46, u47, u48, u49, u50, u51, u52, u53, u54, u55, u56, u57, u58, u59, u60, u61, u62, u63, u64, u65, u66, u67, u68, u69, u70, u71, u72, u73, u74, u75, rfl, HSo, HA, HSk, hows, hqs, hoff, hfr, B⟩
    obtain ⟨va, qs, vo, qo, n, L⟩ := id HA.lk
    have hqo : qs.length = out.length := L.qt.1
    have hout : out.length ≤ 2000 := Nat.le_trans HSo.out.len HU2.out
    have hshl : shq.length ≤ 2000 := by
      have h1 := hqs.1
      have h2 := HSk.out.len (vwT f)
      rw [List.length_take] at h2
      omega
    have HRnd : Hid (stepD (vwT f) out (sh ++ out.drop fr) = roundD (vwT f) out) := skim_round HSk.out
    have HRin : Hid (∀ x ∈ sh ++ out.drop fr, x ∈ univT f l) := by
      intro x hx
      rcases List.mem_append.1 hx with hx | hx
      · exact HSo.out.2.1 x (List.mem_of_mem_take (HSk.out.sub (vwT f) x hx))
      · exact HSo.out.2.1 x (List.mem_of_mem_drop hx)
    have HNx : Hid (∀ sh', skimD (vwT f) (roundD (vwT f) out) (sh ++ out.drop fr) sh' → skimD (vwT f) (roundD (vwT f) out) ((roundD (vwT f) out).take out.length) sh') := fun sh' h => skim_next HSk.out h
    have HLn : Hid (soFar wr w.heap.size = out.length) := by
      show (match wr.cell? ⟨w.heap.size, 0, none⟩ with | some v => intOf' v | none => 0) = _
      rw [show wr.cell? ⟨w.heap.size, 0, none⟩ = some va from L.kb.cell 0]
      exact (own_len L.ro).trans hqo
    obtain ⟨Aa, ca, rfl⟩ := own_form L.ro
    have hob := HA.ob
    have qa : wr.cell? ⟨w.heap.size, 0, none⟩ = some (.slice Aa qs.length ca) := L.kb.cell 0
    have hBs : w.heap.size ≤ wr.heap.size := B.size
    have hroq := L.ro
    have hqt := L.qt
    clear L hl hlc hle hmay
    have hsb := HA.sb
    have hcell : ∃ (ps : List Quad) (R : List (Tm f)), ps = shq ++ qs.drop fr ∧ R = sh ++ out.drop fr := ⟨_, _, rfl, rfl⟩
    obtain ⟨ps, R, hps, hR⟩ := hcell
    have hqR : QT wr S f ps R := by rw [hps, hR]; exact hqs.append (hqt.drop fr)
    have hpl : ps.length ≤ 4000 := by rw [hps, List.length_append, List.length_drop]; omega
    rw [← hR] at HRnd HRin HNx
    have HPS := Lib.hid hps
    have HG1 : Hid (shq.length + (qs.drop fr).length ≤ 1000000000) := by show _ ≤ _; rw [List.length_drop]; omega
    have HC1 : Hid (∀ u ∈ flatQ (qs.drop fr), u.oneCell' = true) := (hqt.drop fr).cells1
    have hfq : (fr : Int) ≤ (qs.length : Int) := by omega
    have hql : (qs.length : Int) ≤ 2000 := by omega
    have hca : (qs.length : Int) ≤ (ca : Int) ∧ ca ≤ maxLen := by
      obtain ⟨_, h2⟩ := hroq
      rcases h2 with ⟨e, h0⟩ | ⟨g', cap', cur, e, hb, hg, hnc, hcm, _⟩
      · injection e with e1 e2 e3
        subst e3
        exact ⟨by omega, by unfold maxLen; omega⟩
      · injection e with e1 e2 e3
        subst e3
        exact ⟨by omega, hcm⟩
    obtain ⟨hca1, hca2⟩ := hca
    have hca3 : (ca : Int) ≤ 9223372036854775807 := by unfold maxLen at hca2; omega
    have hform : (Aa = none ∧ qs.length = 0 ∧ ca = 0) ∨ ∃ g, Aa = some ⟨g, 0, none⟩ := by
      obtain ⟨_, h2⟩ := hroq
      rcases h2 with ⟨e, h0⟩ | ⟨g', cap', cur, e, hb, hg, hnc, hcm, _⟩
      · injection e with e1 e2 e3
        exact .inl ⟨e1, h0, e3⟩
      · injection e with e1 e2 e3
        exact .inr ⟨g', e1⟩
    have HFORM := Lib.hid hform
    have HRO := Lib.hid hroq
    clear hps hR hform hroq hca2 hshl hqt
    have HP9 : Hid (∀ (v9 : Value) (w9 : World), w9.ownsRow w.heap.size 35 4 v9 (shq ++ qs.drop fr).length (flatQ (shq ++ qs.drop fr)) → wr.grownBy w9 vsh.ownBlock → (v9.ownBlock = vsh.ownBlock ∨ v9.ownBlock = some wr.heap.size) →
        w9.ownsRow w.heap.size 35 4 v9 ps.length (flatQ ps) ∧ QT w9 S f ps R ∧ Apart S f w w9 O out ∧ Off w O v9 ∧ Below w.heap.size w w9) := by
      intro v9 w9 h1 h2 h3
      refine ⟨by rw [HPS.out]; exact h1, hqR.keepS h2.size (fun b sb hl => h2.block b hl fun e => ?_) (fun _ h => h), HA.grow hoff hows (Below.refl _ _) h2 hBs, hoff.grown HA h3 (Nat.le_refl _), B.grown h2 hBs fun x hx => own_ge hows x hx⟩
      have := own_ge hows b e.symm
      have := hsb b sb
      omega
    go_upto_region 9 with fail
    go_cut [11] from 22 to 26 (fun v11 wc => wc.ownsRow w.heap.size 35 4 v11 ps.length (flatQ ps) ∧ QT wc S f ps R ∧ Apart S f w wc O out ∧ Off w O v11 ∧ Below w.heap.size w wc)
    case first =>
      have hfr' : fr ≤ qs.length := by omega
      rcases HFORM.out with ⟨rfl, h0, rfl⟩ | ⟨g, rfl⟩
      · obtain rfl : qs = [] := List.eq_nil_of_length_eq_zero h0
        have ho0 : out = [] := List.eq_nil_of_length_eq_zero (by simpa using hqo.symm)
        subst ho0
        have hf0 : fr = 0 := by simp at hfr; exact hfr
        subst hf0
        clear hqo hout hfr h0
        go_wp2_with (at_builtin; refine wpList_growN _ rfl _ _ rfl w.heap.size vsh shq rfl hows _ ([].drop 0) rfl (.inl ⟨rfl, rfl⟩) HC1.out HG1.out hBs ?_; intro v9 w9 how9 hg9 h9)
        go_meet
        exact HP9.out _ _ how9 hg9 h9
      · clear hqo
        by_cases hcf : ca = fr
        · have hat := At_drop HRO.out hfr'
          rw [if_pos hcf] at hat
          subst hcf
          go_wp2_with (at_builtin; refine wpList_growN _ rfl _ _ rfl w.heap.size vsh shq rfl hows _ (qs.drop ca) rfl (.inr ⟨⟨g, 0, none⟩, 0, by rw [List.length_drop]; first | rfl | (simp; rfl) | simp, hat⟩) HC1.out HG1.out hBs ?_; intro v9 w9 how9 hg9 h9)
          go_meet
          exact HP9.out _ _ how9 hg9 h9
        · have hat := At_drop HRO.out hfr'
          rw [if_neg hcf] at hat
          go_wp2_with (at_builtin; refine wpList_growN _ rfl _ _ rfl w.heap.size vsh shq rfl hows _ (qs.drop fr) rfl (.inr ⟨⟨g, fr * 4, none⟩, ca - fr, by rw [List.length_drop]; first | rfl | (simp; rfl) | simp, hat⟩) HC1.out HG1.out hBs ?_; intro v9 w9 how9 hg9 h9)
          go_meet
          exact HP9.out _ _ how9 hg9 h9
    case rest =>
      obtain ⟨how, hq, HA', hoff', B'⟩ := hcut
      clear HA hoff B hows hqs HPS HP9 HG1 HC1 HFORM HRO qa hqR hfq hql hca1 hca3 HSk hBs hfr hob
      obtain ⟨A11, c11, rfl⟩ := own_form how
      have hnd := HSo.out.1
      have hin := HSo.out.2.1
      have HWn : Hid (∀ i, (stepD (vwT f) out (R.take i)).length ≤ 2000) := fun i => Nat.le_trans (within_any (r := R) (i := i) hnd hin HRin.out) HU2.out
      have hpR : ps.length = R.length := hq.1
      have HPR := Lib.hid hpR
      clear hnd hin hpR
      go_wp2_with fail
      go_loopw [8, 30] (fun sv iv wr => ∃ (i : Nat) (sh : List (Tm f)) (shq : List Quad) (O : Nat → Prop), i ≤ ps.length ∧ iv = .int .i64 i ∧ Apart S f w wr O (stepD (vwT f) out (R.take i)) ∧ Hid (skimD (vwT f) (stepD (vwT f) out (R.take i)) (R.take i) sh) ∧ wr.ownsRow w.heap.size 35 4 sv shq.length (flatQ shq) ∧ QT wr S f shq sh ∧ Off w O sv ∧
        wr.ownsRow w.heap.size 35 4 (.slice A11 ps.length c11) ps.length (flatQ ps) ∧ QT wr S f ps R ∧ Off w O (.slice A11 ps.length c11) ∧ Hid (∀ b, sv.ownBlock = some b → (Value.slice A11 ps.length c11).ownBlock ≠ some b) ∧ Below w.heap.size w wr) (fun _ iv _ => ps.length - (intOf iv).toNat)
      case atStart => exact ⟨0, [], [], O, by omega, rfl, HA', skim_zero _, ⟨rfl, .inl ⟨rfl, rfl⟩⟩, QT.nil _ _ _, Off.nil _ _, how, hq, hoff', (fun b hb => by simp [Value.ownBlock] at hb), B'⟩
      case round =>
        clear B' HA' how hq hoff'
        obtain ⟨i, sh, shq, O, hi, rfl, HA, HSk, hows, hqs, hoffs, how, hq, hoff, HNE, B⟩ := hrel
        have hBs : w.heap.size ≤ wr.heap.size := B.size
        have hob := HA.ob
        by_cases hlt : i < ps.length
        · obtain ⟨t, hgt⟩ : ∃ t, R[i]? = some t := ⟨_, List.getElem?_eq_getElem (by have := HPR.out; omega)⟩
          obtain ⟨g, cg, e0, e1, e2, e3, ev, hg, k0, k1, k2, k3, tm, _⟩ := own_at how hq i t hgt
          injection ev with ev1 ev2 ev3
          subst ev1 ev3
          clear ev2
          obtain ⟨i0, i1, X2, n2, z2, X3, n3, z3, rfl, rfl, rfl, rfl⟩ := tm_form tm
          obtain ⟨hkd, hkid⟩ := kids_ks tm
          obtain rfl : i0 = kindT f t := by injection hkid
          clear hkid
          obtain ⟨HS1, HS2, HS3⟩ := skim_step hgt HSk.out
          have htu : t ∈ univT f l := HRin.out t (List.mem_of_getElem? hgt)
          have hokt : okD f t := HIn.out t htu
          have hk2 := kids_two f t hokt
          have hkey := keyD_of f (stepD (vwT f) out (R.take i)) t
          rw [gives_kinds] at HS1
          have HLW : Hid ((stepD (vwT f) out (R.take (i + 1))).length ≤ 2000) := HWn.out (i + 1)
          have hshl : shq.length ≤ 4000 := by
            have h1 := hqs.1
            have h2 := HSk.out.len (vwT f)
            rw [List.length_take] at h2
            omega
          have HSk' := HSk
          generalize stepD (vwT f) out (R.take i) = C at *
          generalize hCC : stepD (vwT f) out (R.take (i + 1)) = C' at *
          have HCC := Lib.hid hCC
          clear hCC
          generalize hksl : kidsT f t = ks at *
          generalize hkdd : kindT f t = kd at *
          obtain ⟨A3, c3, e3, hl3, hm3, hn3, _⟩ := id hkd
          injection e3 with e31 e32 e33
          subst e31 e32 e33
          have hle3 : ks.length ≤ 9223372036854775807 := by unfold maxLen at hm3; omega
          clear hm3 hn3
          have K0 := KB.new wr 35 #[.int .i64 kd, .int .u64 i1, .slice X2 n2 z2, .slice X3 ks.length z3]
          have B0 := allocB wr (.cells #[.int .i64 kd, .int .u64 i1, .slice X2 n2 z2, .slice X3 ks.length z3] 35)
          have HAx := HA.below B0 hBs
          have hBx : w.heap.size ≤ (wr.alloc (.cells #[.int .i64 kd, .int .u64 i1, .slice X2 n2 z2, .slice X3 ks.length z3] 35)).heap.size := Nat.le_trans hBs B0.size
          have hkx := hkd.keep B0.size (fun b _ hl => B0.block b hl)
          have howx := own_past B0 how
          have howsx := own_past B0 hows
          have hqx := hq.below' B0
          have hqsx := hqs.below' B0
          have Bx := B.trans (B0.mono hBs)
          have hSO : ∀ b, S b → ¬ O b := fun b hb ho => by have := hsb b hb; have := (hob b ho).1; omega
          have HObx : Hid (∀ b, O b → w.heap.size ≤ b) := fun b ho => (hob b ho).1
          clear HA hows hqs how hq hob B
          by_cases h4 : kd = 4
          · subst h4
            rw [if_pos rfl] at HS1
            have hc := put_apart HAx hBx ks _ hkx hSO (by rw [← HS1]; have := HLW.out; omega)
            have HSn := Lib.hid (HS2 (fun h => by cases h))
            rw [← HS1] at hc
            clear HS1 HS2 HS3 hkey hk2 hkd HSk HSk'
            go_wp2_with fail
            refine hc.mono ?_
            rintro e w5 ⟨rfl, O5, A5, hO5, kp5⟩
            have how5 := own_kp howx hoff kp5
            have hows5 := own_kp howsx hoffs kp5
            have hq5 := hqx.kp hsb HObx.out kp5
            have hqs5 := hqsx.kp hsb HObx.out kp5
            have B5 := Below_kp Bx hBx HObx.out kp5
            have hoff5 := hoff.put howx hO5
            have hoffs5 := hoffs.put howsx hO5
            clear hc
            go_wp2_with fail
            go_roundw
            case rel => exact ⟨i + 1, sh, shq, O5, by omega, by go_num, by rw [HCC.out]; exact A5, by rw [HCC.out]; exact HSn, hows5, hqs5, hoffs5, how5, hq5, hoff5, HNE, B5⟩
            case measure => simp [intOf]; omega
          · rw [if_neg h4] at HS1
            have g4 : decide (kd = 4) = false := decide_eq_false h4
            by_cases h5 : kd = 5
            · subst h5
              have hk2' := hk2 rfl
              obtain ⟨kk, hkk⟩ : ∃ kk, ks[1]? = some kk := ⟨_, List.getElem?_eq_getElem (by omega)⟩
              obtain ⟨k0t, hk0t⟩ : ∃ k0t, ks[0]? = some k0t := ⟨_, List.getElem?_eq_getElem (by omega)⟩
              have htake : ks.take 1 = [k0t] := by
                match ks, hk0t with
                | a :: _, h => simp at h; subst h; rfl
              rw [hkey kk hkk] at HS1 HS2
              rw [htake] at HS1
              obtain ⟨b3, o3, p0, p1, p2, p3, ⟨n9, c9, e9⟩, sb3, hb3, w0, w1, w2, w3, hvk⟩ := hkx.one 1 kk hkk
              injection e9 with e91 e92 e93
              subst e91
              clear e92 e93
              obtain ⟨b4, o4, y0, y1, y2, y3, ⟨n9, c9, e9⟩, _, _, v0, v1, v2, v3, hvs⟩ := hkx.one 0 k0t hk0t
              injection e9 with e91 e92 e93
              injection e91 with e91
              injection e91 with e91 e94
              subst e91 e94
              clear e92 e93
              rw [Nat.one_mul] at w0 w1 w2 w3
              rw [Nat.zero_mul, Nat.add_zero] at v0 v1 v2 v3
              obtain ⟨_, _, _, _, eqs, tms⟩ := hvs
              injection eqs with eqs
              simp only [Array.mk.injEq, List.cons.injEq, and_true] at eqs
              obtain ⟨rfl, rfl, rfl, rfl⟩ := eqs
              obtain ⟨j0, j1, Y2, q2, t2, Y3, q3, t3, rfl, rfl, rfl, rfl⟩ := tm_form tms
              have hAd := HAx.below (Below_drawn (Below.refl _ _) 1 : Below _ _ (World.drew _)) hBx
              have hcT := there_apart (S' := S) hAd hBx kk (.agg #[p0, p1, p2, p3]) (hvk.keep (Nat.le_refl _) fun _ _ _ => rfl)
              generalize decide (kk ∈ C) = r at *
              have hwr : wr.heap.size < (wr.alloc (.cells #[.int .i64 5, .int .u64 i1, .slice X2 n2 z2, .slice (some ⟨b3, o3, none⟩) ks.length z3] 35)).heap.size := by simp
              have tmx := TM.keepS (w' := wr.alloc (.cells #[.int .i64 5, .int .u64 i1, .slice X2 n2 z2, .slice (some ⟨b3, o3, none⟩) ks.length z3] 35)) (S' := S) f _ _ _ _ _ tm B0.size (fun b _ hl => B0.block b hl) fun _ h => h
              rw [hk2'] at tmx K0 hwr hcT w0 w1 w2 w3 v0 v1 v2 v3 howx howsx hqx hqsx Bx HAx hBx hAd hb3 tms B0 hkx
              generalize hwx : wr.alloc (.cells #[.int .i64 5, .int .u64 i1, .slice X2 n2 z2, .slice (some ⟨b3, o3, none⟩) 2 z3] 35) = wx at *
              have x0 : wx.cell? ⟨wr.heap.size, 0, none⟩ = some (.int .i64 5) := K0.cell 0
              have x1 : wx.cell? ⟨wr.heap.size, 1, none⟩ = some (.int .u64 i1) := K0.cell 1
              have x2 : wx.cell? ⟨wr.heap.size, 2, none⟩ = some (.slice X2 n2 z2) := K0.cell 2
              have x3 : wx.cell? ⟨wr.heap.size, 3, none⟩ = some (.slice (some ⟨b3, o3, none⟩) 2 z3) := K0.cell 3
              have qt : wx.cell? ⟨w.heap.size + 3, 0, none⟩ = some (.func (.func 35) #[] #[.pointer (some ⟨w.heap.size + 2, 0, none⟩)]) := HAx.kt.cell 0
              have hlt3 : w.heap.size + 3 < wx.heap.size := HAx.kt.lt
              have B' : Below wx.heap.size wx wx.drew := Below_drawn (Below.refl _ _) 1
              have far : ∀ w5, Below wx.drew.heap.size wx.drew w5 → ∀ (g : Nat) (i : Nat) (u : Value), g < wx.heap.size → wx.cell? ⟨g, i, none⟩ = some u → w5.cell? ⟨g, i, none⟩ = some u := fun w5 b5 g i u hg hu =>
                (World.cell?_of_block (w := wx.drew) (b5.block g hg)).trans hu
              clear hkdd hksl hkd hkx tm hvk hl3 hle3 hkey hk2
              go_wp2_with fail
              clear k0 k1 k2 k3 h4 g4 hk2' hwx
              go_region_held3 (fun w' => w'.cell? ⟨wr.heap.size, 0, none⟩ = some (.int .i64 5) ∧ w'.cell? ⟨wr.heap.size, 3, none⟩ = some (.slice (some ⟨b3, o3, none⟩) 2 z3) ∧ w'.cell? ⟨w.heap.size + 3, 0, none⟩ = some (.func (.func 35) #[] #[.pointer (some ⟨w.heap.size + 2, 0, none⟩)]) ∧ w'.cell? ⟨b3, o3 + 4, none⟩ = some p0 ∧ w'.cell? ⟨b3, o3 + 4 + 1, none⟩ = some p1 ∧ w'.cell? ⟨b3, o3 + 4 + 2, none⟩ = some p2 ∧ w'.cell? ⟨b3, o3 + 4 + 3, none⟩ = some p3)
                (first | exact ⟨x0, x3, qt, w0, w1, w2, w3⟩ | exact ⟨far _ b5 _ _ _ hwr x0, far _ b5 _ _ _ hwr x3, far _ b5 _ _ _ hlt3 qt, far _ b5 _ _ _ hb3 w0, far _ b5 _ _ _ hb3 w1, far _ b5 _ _ _ hb3 w2, far _ b5 _ _ _ hb3 w3⟩ | go_keep)
                (first
                  | (go_at_call 35; refine hcT.mono ?_; rintro e w5 ⟨rfl, b5⟩; replace B' := B'.trans (b5.mono B'.size)))
              have HA5 := HAx.below B' hBx
              have hB5 : w.heap.size ≤ w5.heap.size := Nat.le_trans hBx B'.size
              have how5 := own_past B' howx
              have hows5 := own_past B' howsx
              have hq5 := hqx.below' B'
              have hqs5 := hqsx.below' B'
              have B5 := Bx.trans (B'.mono hBx)
              have K5 := K0.below B' K0.lt
              have tmx5 := TM.keepS (w' := w5) (S' := S) f _ _ _ _ _ tmx B'.size (fun b _ hl => B'.block b hl) fun _ h => h
              have tms5 := TM.keepS f _ _ _ _ _ tms B'.size (fun b _ hl => B'.block b hl) fun _ h => h
              have hcl := fun (x : Nat) => World.cell?_of_block (w := wx) (w' := w5) (a := ⟨b3, x, none⟩) (B'.block b3 hb3)
              have v0' := (hcl _).trans v0
              have v1' := (hcl _).trans v1
              have v2' := (hcl _).trans v2
              have v3' := (hcl _).trans v3
              clear far hcT b5 hcl v0 v1 v2 v3 w0 w1 w2 w3 x0 x1 x2 x3 qt howx howsx hqx hqsx Bx HAx hAd tms B' hBx
              have x0 : w5.cell? ⟨wr.heap.size, 0, none⟩ = some (.int .i64 5) := K5.cell 0
              have x1 : w5.cell? ⟨wr.heap.size, 1, none⟩ = some (.int .u64 i1) := K5.cell 1
              have x2 : w5.cell? ⟨wr.heap.size, 2, none⟩ = some (.slice X2 n2 z2) := K5.cell 2
              have x3 : w5.cell? ⟨wr.heap.size, 3, none⟩ = some (.slice (some ⟨b3, o3, none⟩) 2 z3) := K5.cell 3
              have hob5 := HA5.ob
              cases r with
              | true =>
                have HSn := Lib.hid (HS2 fun _ => rfl)
                rw [if_pos (by simp)] at HS1
                have HA6 := HA5.below (allocB w5 (.cells #[.int .i64 j0, .int .u64 j1, .slice Y2 q2 t2, .slice Y3 q3 t3] 35)) hB5
                have B6 := allocB w5 (.cells #[.int .i64 j0, .int .u64 j1, .slice Y2 q2 t2, .slice Y3 q3 t3] 35)
                have hc := put_apart HA6 (Nat.le_trans hB5 B6.size) [k0t] _ (KS_single tms5) (fun b hb ho => by subst hb; have := (hob5 _ ho).2; omega) (by rw [← HS1]; have := HLW.out; omega)
                rw [← HS1] at hc
                have how6 := own_past B6 how5
                have hows6 := own_past B6 hows5
                have hq6 := hq5.below' B6
                have hqs6 := hqs5.below' B6
                have Bz := B5.trans (B6.mono hB5)
                have hBz := Nat.le_trans hB5 B6.size
                clear HS1 HS2 HS3 how5 hows5 hq5 hqs5 B5 HA5 HA6 tms5 hob5
                go_wp2_with fail
                refine hc.mono ?_
                rintro e w7 ⟨rfl, O7, A7, hO7, kp7⟩
                have how7 := own_kp how6 hoff kp7
                have hows7 := own_kp hows6 hoffs kp7
                have hq7 := hq6.kp hsb HObx.out kp7
                have hqs7 := hqs6.kp hsb HObx.out kp7
                have B7 := Below_kp Bz hBz HObx.out kp7
                have hoff7 := hoff.put how6 hO7
                have hoffs7 := hoffs.put hows6 hO7
                clear hc x0 x1 x2 x3 v0' v1' v2' v3'
                go_wp2_with fail
                go_roundw
                case rel => exact ⟨i + 1, sh, shq, O7, by omega, by go_num, by rw [HCC.out]; exact A7, by rw [HCC.out]; exact HSn, hows7, hqs7, hoffs7, how7, hq7, hoff7, HNE, B7⟩
                case measure => simp [intOf]; omega
              | false =>
                have HSn := Lib.hid HS3
                rw [if_neg (by simp)] at HS1
                have hCe : C' = C := HS1
                have HL : Hid (shq.length + 1 ≤ 1000000000) := by show _ ≤ _; omega
                have HCE := Lib.hid hCe
                have hne : ∀ b, (Value.slice (some ⟨g, 0, none⟩) ps.length c11).ownBlock = some b → b < w5.heap.size := own_lt how5
                clear HS1 HS2 HS3 hCe v0' v1' v2' v3' tms5
                go_wp2_with (at_builtin; refine wpList_growT _ rfl _ _ rfl w.heap.size _ shq rfl (own_past (allocB _ _) hows5) _ _ [_] rfl (At_one _ _ _ _ _) (QT.one tmx5).cells1 HL.out (Nat.le_trans hB5 (by simp)) ?_; intro v7 w7 how7s hg7 h7)
                have BA := allocB w5 (.cells #[.int .i64 5, .int .u64 i1, .slice X2 n2 z2, .slice (some ⟨b3, o3, none⟩) 2 z3] 35)
                have HA7 := HA5.grow hoffs hows5 BA hg7 hB5
                have hoffs7 := hoffs.grown HA5 h7 BA.size
                have hvne : ∀ b, (Value.slice (some ⟨g, 0, none⟩) ps.length c11).ownBlock = some b → ¬ _ := fun b hb e => HNE.out b e hb
                have how7 : w7.ownsRow w.heap.size 35 4 (.slice (some ⟨g, 0, none⟩) ps.length c11) ps.length (flatQ ps) := own_keep how5 fun b hb => by
                  rw [hg7.block b (Nat.lt_of_lt_of_le (hne b hb) BA.size) (fun e => hvne b hb e.symm), BA.block b (hne b hb)]
                have hSk : ∀ b, S b → b < w5.heap.size → w7.heap[b]? = w5.heap[b]? := fun b sb hl => by
                  rw [hg7.block b (Nat.lt_of_lt_of_le hl BA.size) (fun e => absurd (own_ge hows5 b e.symm) (by have := hsb b sb; omega)), BA.block b hl]
                have hsz7 : w5.heap.size ≤ w7.heap.size := Nat.le_trans BA.size hg7.size
                have hq7 := hq5.keepS hsz7 hSk fun _ h => h
                have hqs7 := (hqs5.append (QT.one tmx5)).keepS hsz7 hSk fun _ h => h
                have B7 := (B5.alloc hB5 _).grown hg7 (Nat.le_trans hB5 BA.size) fun x hx => own_ge hows5 x hx
                have hNE7 : Hid (∀ b, v7.ownBlock = some b → (Value.slice (some ⟨g, 0, none⟩) ps.length c11).ownBlock ≠ some b) := by
                  intro b hb e
                  rcases h7 with h | h
                  · exact hvne b e (h ▸ hb)
                  · rw [h] at hb
                    have := Option.some.inj hb
                    have := hne b e
                    have := BA.size
                    omega
                have HC7 : Apart S f w w7 O (stepD (vwT f) out (R.take (i + 1))) := by rw [HCC.out, HCE.out]; exact HA7
                clear HA7 HA5 how5 hows5 hq5 hqs5 B5 hSk hg7 h7 BA x0 x1 x2 x3 hvne hne tmx5
                go_wp2_with fail
                go_roundw
                case rel => exact ⟨i + 1, sh ++ [t], _, O, by omega, by go_num, HC7, by rw [HCC.out]; exact HSn, how7s, hqs7, hoffs7, how7, hq7, hoff, hNE7, B7⟩
                case measure => simp [intOf]; omega
            · have g5 : decide (kd = 5) = false := decide_eq_false h5
              rw [if_neg (fun h => h5 h.1)] at HS1
              have hCe : C' = C := HS1
              have HSn := Lib.hid (HS2 fun h => absurd h h5)
              have hbd : ∀ k, Below (wr.alloc (.cells #[.int .i64 kd, .int .u64 i1, .slice X2 n2 z2, .slice X3 ks.length z3] 35)).heap.size (wr.alloc (.cells #[.int .i64 kd, .int .u64 i1, .slice X2 n2 z2, .slice X3 ks.length z3] 35)) ((wr.alloc (.cells #[.int .i64 kd, .int .u64 i1, .slice X2 n2 z2, .slice X3 ks.length z3] 35)).drewN k) := fun k => Below_drawn (Below.refl _ _) k
              have HC7 : ∀ k, Apart S f w ((wr.alloc (.cells #[.int .i64 kd, .int .u64 i1, .slice X2 n2 z2, .slice X3 ks.length z3] 35)).drewN k) O (stepD (vwT f) out (R.take (i + 1))) := fun k => by
                rw [HCC.out, hCe]
                exact HAx.below (hbd k) hBx
              have how7 := fun k => own_past (hbd k) howx
              have hows7 := fun k => own_past (hbd k) howsx
              have hq7 := fun k => hqx.below' (hbd k)
              have hqs7 := fun k => hqsx.below' (hbd k)
              have B7 := fun k => Bx.trans ((hbd k).mono hBx)
              have g5' : ¬ kd = 5 := h5
              clear HS1 HS2 HS3 hCe hkd hkx HAx howx howsx hqx hqsx Bx tm hkey hk2 hbd hksl hkdd
              have g5b : (kd == 5) = false := beq_eq_false_iff_ne.2 h5
              have g4b : (kd == 4) = false := beq_eq_false_iff_ne.2 h4
              go_wp2_with fail
              go_quiet (fail)
              go_wp2_with fail
              go_roundw
              case rel => exact ⟨i + 1, sh, shq, O, by omega, by go_num, HC7 _, by rw [HCC.out]; exact HSn, hows7 _, hqs7 _, hoffs, how7 _, hq7 _, hoff, HNE, B7 _⟩
              case measure => simp [intOf]; omega
        · obtain rfl : i = ps.length := by omega
          rw [HPR.out, List.take_length, HRnd.out] at HA HSk
          obtain ⟨va2, qs2, vo2, qo2, n2, L2⟩ := id HA.lk
          have hq2 : qs2.length = (roundD (vwT f) out).length := L2.qt.1
          obtain ⟨A2, c2, rfl⟩ := own_form L2.ro
          have kb2 := L2.kb
          have hl2 := own_len L2.ro
          have qa2 : wr.cell? ⟨w.heap.size, 0, none⟩ = some (.slice A2 qs2.length c2) := kb2.cell 0
          have qt2 : wr.cell? ⟨w.heap.size + 3, 0, none⟩ = some (.func (.func 35) #[] #[.pointer (some ⟨w.heap.size + 2, 0, none⟩)]) := HA.kt.cell 0
          have hso2 : soFar wr w.heap.size = qs2.length := by
            show (match wr.cell? ⟨w.heap.size, 0, none⟩ with | some v => intOf' v | none => 0) = _
            rw [qa2]; rfl
          clear L2 hob
          by_cases he : (roundD (vwT f) out).length = out.length
          · have hd := HSo.out.done he
            rw [hd] at HA
            have hqe : qs2.length = out.length := hq2.trans he
            have hA9 := fun k => HA.below (Below_drawn (Below.refl _ _) k : Below _ _ (wr.drewN k)) hBs
            have B9 := fun k => (Below_drawn B k : Below w.heap.size w (wr.drewN k))
            have kb9 : ∀ k, KB (wr.drewN k) w.heap.size 22 #[.slice A2 qs2.length c2] := fun k => kb2
            rw [hqe] at qa2 kb9
            clear hqe hq2 he hd HSk HSo HNx HRin HRnd HWn HNE how hq hows hqs HA
            go_wp2_with fail
            go_quiet (fail)
            go_wp2_with fail
            simp only [Exit.jump]
            go_ret2
            exact ⟨_, O, rfl, hA9 _, kb9 _, B9 _⟩
          · obtain ⟨hn1, hn2⟩ := HSo.out.next he
            have HSn := Lib.hid hn1
            have HSkn := Lib.hid (HNx.out sh HSk.out)
            have hgt : out.length < qs2.length := by rw [hq2]; exact hn2
            have hlen2 : qs2.length ≤ 2000 := by rw [hq2]; exact Nat.le_trans hn1.len HU2.out
            have hle2 : out.length ≤ (roundD (vwT f) out).length := Nat.le_of_lt hn2
            have hmu : 3000 - soFar wr w.heap.size < 3000 - out.length := by rw [hso2]; omega
            rw [← HLn.out] at hmu
            clear hn1 hn2 HSo HSk HNx HRin HRnd HWn how hq hq2 he hso2
            go_wp2_with fail
            go_step3
            exact ⟨rfl, ⟨_, sh, out.length, shq, _, O, _, _, _, _, _, _, _, _, _, _, _, _, _, _, _, _, _, _, _, _, _, _, _, _, _, _, _, _, _, _, _, _, _, _, _, _, _, _, _, _, _, _, _, _, _, _, _, _, _, _, _, _, _, _, _, _, _, _, _, _, _, _, _, _, _, _, rfl, HSn, HA, HSkn, hows, hqs, hoffs, hle2, B⟩, hmu⟩
  · intro hpass
    have HPass := Lib.hid hpass
    clear hpass
    obtain ⟨hA0, B0⟩ := apart_start S f w hS
    have hk0 := hl.keep B0.size (fun b _ hb => B0.block b hb)
    have hc := put_apart hA0 B0.size l _ hk0 (fun b hb ho => by have := hS b hb; omega) (by have := start_len (f := f) (l := l) l.length; rw [List.take_length] at this; have h3 := univT_self f l; have h4 := nodup_le (putsD [] l) (univT f l) (nodup_putsD _ List.nodup_nil) (fun x hx => ((mem_putsD _ _ _).1 hx).elim (fun h => absurd h (by simp)) (h3 x)); have := HU2.out; omega)
    clear hA0 hk0 hl hmay
    go_wp2_with fail
    refine hc.mono ?_
    rintro e w5 ⟨rfl, O5, A5, hO5, kp5⟩
    have B5 := Below_kp B0 (by have := B0.size; omega) (fun b hb => by omega) kp5
    clear hc
    go_wp2_with fail
    go_step3
    rename_i hKK
    refine hKK _ _ (HPass.out _ _ ?_)
    exact ⟨putsD [] l, [], 0, [], .slice none 0 0, O5, _, _, _, _, _, _, _, _, _, _, _, _, _, _, _, _, _, _, _, _, _, _, _, _, _, _, _, _, _, _, _, _, _, _, _, _, _, _, _, _, _, _, _, _, _, _, _, _, _, _, _, _, _, _, _, _, _, _, _, _, _, _, _, _, _, _, rfl, SofarD.start f l, A5, skim_zero _, ⟨rfl, .inl ⟨rfl, rfl⟩⟩, QT.nil _ _ _, Off.nil _ _, Nat.zero_le _, B5⟩
end Go.Proofs.YthgaljgelngmaaaDoor
end
