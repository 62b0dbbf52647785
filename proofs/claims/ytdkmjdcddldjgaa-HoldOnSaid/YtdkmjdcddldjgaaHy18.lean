/-
  SdH: The program's within, mayBe and Check (layer 20), over the loaded program: each one's contract. No condition but the sizes that each contract names.
  HwC: The program's On and Place (layer 22), over the loaded program: their contracts. No condition but the sizes that they name.
-/
import Derived.Test.YtdkmjdcddldjgaaHy17
import Derived.Test.YtdkmjdcddldjgaaHy15
set_option linter.unusedVariables false
set_option maxRecDepth 100000
namespace Go.Proofs.Ytdkmjdcddldjgaa
section
open Go.RowKit
theorem ZV.grown {w w' : World} {S : Nat → Prop} {f : Nat} {v : Value} {t : Sc f} {p : Nat} (h : ZV w S f v t) (hg : w.grownBy w' (some p)) (hp : ¬ S p) : ZV w' S f v t :=
  h.keepL hg.size (fun b sb hb => hg.block b hb (by intro e; injection e with e; exact hp (e ▸ sb))) fun _ h _ => h
set_option maxHeartbeats 2000000 in
theorem zwithin_any (p : Nat) (n d : Int) (w : World) (h0 : 0 ≤ n) (h1 : n ≤ 1000) (h : KB w p 3 #[.int .i64 n]) :
    Calls Try.prog 53 #[.int .i64 d, .pointer (some ⟨p, 0, none⟩)] w fun e w' => e = .returned (.bool (decide (n + 1 ≤ 24 ∧ d ≤ 8))) ∧ KB w' p 3 #[.int .i64 (n + 1)] ∧ w.grownBy w' (some p) := by
  have c0 : w.cell? ⟨p, 0, none⟩ = some (.int .i64 n) := h.cell 0
  have f0 := h.free 0
  have K1 : KB (w.setCell ⟨p, 0, none⟩ (.int .i64 (n + 1))) p 3 #[.int .i64 (n + 1)] := h.put 0 _
  have G1 := grown_set w p 0 (.int .i64 (n + 1))
  have c1 : (w.setCell ⟨p, 0, none⟩ (.int .i64 (n + 1))).cell? ⟨p, 0, none⟩ = some (.int .i64 (n + 1)) := K1.cell 0
  have W1 : wrap64 (n + 1) = n + 1 := IntWalk.wrap64_in _ (by omega)
  have I1 : IntKind.i64.wrap (n + 1) = n + 1 := by rw [IntKind.wrap_i64]; omega
  have hp := h.lt
  by_cases a1 : n + 1 ≤ 24
  · have E1 : decide (n + 1 ≤ 24) = true := decide_eq_true a1
    by_cases a2 : d ≤ 8
    · have E2 : decide (d ≤ 8) = true := decide_eq_true a2
      rw [decide_eq_true (show n + 1 ≤ 24 ∧ d ≤ 8 from ⟨a1, a2⟩)]
      clear h
      go_enter Try.func53, Try.ntmps53
      go_wp2_with fail
      go_ret
      exact ⟨rfl, K1, G1⟩
    · have E2 : decide (d ≤ 8) = false := decide_eq_false a2
      rw [decide_eq_false (show ¬ (n + 1 ≤ 24 ∧ d ≤ 8) from fun h => a2 h.2)]
      clear h
      go_enter Try.func53, Try.ntmps53
      go_wp2_with fail
      go_ret
      exact ⟨rfl, K1, G1⟩
  · have E1 : decide (n + 1 ≤ 24) = false := decide_eq_false a1
    rw [decide_eq_false (show ¬ (n + 1 ≤ 24 ∧ d ≤ 8) from fun h => a1 h.1)]
    clear h
    go_enter Try.func53, Try.ntmps53
    go_wp2_with fail
    go_ret
    exact ⟨rfl, K1, G1⟩
def MayIh (S : Nat → Prop) (p f : Nat) : Prop := ∀ (t : Sc f) (v : Value) (n d : Int) (w : World), 0 ≤ n → n ≤ 24 → 1 ≤ d → d ≤ 9 → KB w p 3 #[.int .i64 n] → ZV w S f v t →
    Calls Try.prog 43 #[v, .int .i64 d, .pointer (some ⟨p, 0, none⟩)] w fun e w' => ∃ m : Int, e = .returned (.bool (decide (0 ≤ leftS f t (24 - n) (9 - d)))) ∧ KB w' p 3 #[.int .i64 m] ∧ (0 ≤ leftS f t (24 - n) (9 - d) → m = 24 - leftS f t (24 - n) (9 - d)) ∧ w.grownBy w' (some p)
set_option maxHeartbeats 8000000 in
theorem zpmaybe_any (S : Nat → Prop) (p : Nat) (hSp : ¬ S p) : ∀ f : Nat, MayIh S p f := by
  intro f
  induction f with
  | zero => intro t; exact nomatch t
  | succ f ih =>
    intro t v n d w hn0 hn1 hd0 hd1 hp hv
    have hv0 := hv
    change Ns (Sc f) at t
    obtain ⟨c0, c1, c2, c3, c4, rfl, rfl, hk, rfl, hml, rfl, hfr, rfl, hto, hks⟩ := hv
    obtain ⟨A3, cap3, e3, hl3, hm3⟩ := hks.form
    rw [e3] at hks hv0 ⊢
    clear e3
    have hlen : t.kids.length ≤ 9223372036854775807 := by unfold maxLen at hm3; omega
    obtain ⟨L, hL⟩ : ∃ L, L = leftS (f + 1) t (24 - n) (9 - d) := ⟨_, rfl⟩
    rw [← hL]
    have HW : Hid (¬ (n + 1 ≤ 24 ∧ d ≤ 8) → L = -1) := fun h => by
      rw [hL]
      by_cases a : n + 1 ≤ 24
      · exact zleft_flat t (by have : ¬ d ≤ 8 := fun b => h ⟨a, b⟩; omega)
      · exact zleft_low _ (by omega)
    have HU : Hid (fitsS t = false → L = -1) := fun h => hL.trans (zleft_unfit t h)
    have HF : Hid (d ≤ 8 → fitsS t = true → (∀ m : Int, (((t.kids.take t.kids.length).all fun u => okS f u (8 - d)) = true) → m = 24 - n - 1 - (sumS f t.kids t.kids.length : Int) → 0 ≤ m → L = m)) :=
      fun hd a m b c e => hL.trans (zleft_all t a (by omega) (by rw [show 9 - d - 1 = 8 - d from by omega]; exact b) c e)
    have HST : Hid (∀ (m : Int) (j : Nat) (hj : j < t.kids.length), m = 24 - n - 1 - (sumS f t.kids j : Int) → leftS f t.kids[j] m (8 - d) < 0 → L = -1) := fun m j hj a b => hL.trans (zleft_stop t hj a (by rw [show 9 - d - 1 = 8 - d from by omega]; exact b))
    have HGO : Hid (∀ (m : Int) (j : Nat) (hj : j < t.kids.length), m = 24 - n - 1 - (sumS f t.kids j : Int) → ((t.kids.take j).all fun u => okS f u (8 - d)) = true → 0 ≤ leftS f t.kids[j] m (8 - d) →
        leftS f t.kids[j] m (8 - d) = 24 - n - 1 - (sumS f t.kids (j + 1) : Int) ∧ ((t.kids.take (j + 1)).all fun u => okS f u (8 - d)) = true) := fun m j hj a b e => by
      have := zleft_step (n := 24 - n) (d := 9 - d) t hj a (by rw [show 9 - d - 1 = 8 - d from by omega]; exact b) (by rw [show 9 - d - 1 = 8 - d from by omega]; exact e)
      rw [show 9 - d - 1 = 8 - d from by omega] at this
      exact this
    have HLE : Hid (∀ (m : Int) (j : Nat) (hj : j < t.kids.length), -1 ≤ m → leftS f t.kids[j] m (8 - d) ≤ m) := fun m j hj h => (zleft_le t.kids[j] m (8 - d) h).2
    obtain ⟨D, hD⟩ : ∃ D : Ending → World → Prop, D = fun e w' => ∃ m : Int, e = .returned (.bool (decide (0 ≤ L))) ∧ KB w' p 3 #[.int .i64 m] ∧ (0 ≤ L → m = 24 - L) ∧ w.grownBy w' (some p) := ⟨_, rfl⟩
    have HNO : Hid (L = -1 → ∀ W (m : Int), KB W p 3 #[.int .i64 m] → w.grownBy W (some p) → D (.returned (.bool false)) W) := fun h W m hk hg => by
      rw [hD, h]
      exact ⟨m, rfl, hk, fun h => absurd h (by decide), hg⟩
    have HYES : Hid (∀ W (m : Int), L = m → 0 ≤ m → KB W p 3 #[.int .i64 (24 - m)] → w.grownBy W (some p) → D (.returned (.bool true)) W) := fun W m h h0 hk hg => by
      rw [hD, h]
      exact ⟨24 - m, by rw [decide_eq_true h0], hk, fun _ => rfl, hg⟩
    rw [← hD]
    clear hD hL
    have B0 := (Below.refl w.heap.size w).alloc (Nat.le_refl _) (.cells #[.int .i64 t.op, strV t.name, .int .i64 t.from_, .int .i64 t.to_, .slice A3 t.kids.length cap3] 25)
    have kb := KB.new w 25 #[.int .i64 t.op, strV t.name, .int .i64 t.from_, .int .i64 t.to_, .slice A3 t.kids.length cap3]
    have hplt := hp.lt
    have hne : (some p : Option Nat) ≠ some w.heap.size := by intro e; injection e with e; omega
    have hwi := zwithin_any p n d _ hn0 (by omega) (hp.alloc (.cells #[.int .i64 t.op, strV t.name, .int .i64 t.from_, .int .i64 t.to_, .slice A3 t.kids.length cap3] 25))
    have HFI := Lib.hid (fun W (hW : w.grownBy W (some p)) => zpfits_any S f t _ W (hv0.grown hW hSp))
    have G0 : w.grownBy (w.alloc (.cells #[.int .i64 t.op, strV t.name, .int .i64 t.from_, .int .i64 t.to_, .slice A3 t.kids.length cap3] 25)) (some p) := grown_of_below B0 _
    clear hv0 hp
    generalize t.op = k at *
    generalize t.from_ = fr at *
    generalize t.to_ = to_ at *
    generalize t.name = l at *
    unfold strV at *
    generalize (⟨l.toArray⟩ : ByteArray) = s at *
    generalize fitsS t = ft at *
    generalize t.kids = ks at *
    clear t
    obtain ⟨kl, hkl⟩ : ∃ kl, kl = ks.length := ⟨_, rfl⟩
    rw [← hkl] at hks hl3 hlen hwi HFI B0 kb G0 ⊢
    have HKL := Lib.hid hkl
    clear hkl
    have W1 : wrap64 (d + 1) = d + 1 := IntWalk.wrap64_in _ (by omega)
    have I1 : IntKind.i64.wrap (d + 1) = d + 1 := by rw [IntKind.wrap_i64]; omega
    go_enter Try.func43, Try.ntmps43
    go_wp2_with fail
    refine hwi.mono ?_
    rintro e w1 ⟨rfl, P1, G1⟩
    have G01 := grown_trans G0 G1
    have kb1 := kb.grown G1 hne
    clear hwi kb B0 G0 G1
    by_cases a1 : n + 1 ≤ 24 ∧ d ≤ 8
    case neg =>
      have hd := HNO.out (HW.out a1) w1 _ P1 G01
      rw [decide_eq_false a1]
      clear HW HU HF HST HGO HLE HNO HYES HFI
      go_wp2_with fail
      first | exact hd | (go_ret; exact hd)
    rw [decide_eq_true a1]
    have q0 := kb1.cell 0
    have q1 := kb1.cell 1
    have q2 := kb1.cell 2
    have q3 := kb1.cell 3
    have q4 := kb1.cell 4
    simp only [List.getElem?_toArray, List.getElem?_cons_zero, List.getElem?_cons_succ] at q0 q1 q2 q3 q4
    go_wp2_with fail
    refine (HFI.out w1 G01).mono ?_
    rintro e w2 ⟨rfl, b2⟩
    have G02 := grown_trans G01 (grown_of_below b2 _)
    have P2 := P1.below b2 P1.lt
    have kb2 := kb1.below b2 kb1.lt
    clear G01 P1 kb1 q0 q1 q2 q3 q4 b2 HFI HW
    cases ft with
    | false =>
      have hd := HNO.out (HU.out rfl) w2 _ P2 G02
      clear HU HF HST HGO HLE HNO HYES
      go_wp2_with fail
      first | exact hd | (go_ret; exact hd)
    | true =>
      have HF2 := Lib.hid (HF.out a1.2 rfl)
      have hd8 := a1.2
      have hn24 := a1.1
      clear HU HF a1
      have q4 : w2.cell? ⟨w.heap.size, 4, none⟩ = some (.slice A3 kl cap3) := kb2.cell 4
      go_wp2_with fail
      clear q4
      go_loopw [21] (fun iv wr => ∃ (j : Nat) (c : Int), j ≤ kl ∧ c = n + 1 + (sumS f ks j : Int) ∧ c ≤ 24 ∧ Hid (((ks.take j).all fun u => okS f u (8 - d)) = true) ∧ iv = .int .i64 j ∧ KB wr p 3 #[.int .i64 c] ∧ w.grownBy wr (some p)) (fun iv _ => kl - (intOf iv).toNat)
      case atStart => exact ⟨0, n + 1, by omega, by simp [sumS], by omega, by simp [Lib.hid], rfl, P2, G02⟩
      case round =>
        clear P2 G02 kb2
        obtain ⟨j, c, hj, hc, hc24, hall, rfl, P, G⟩ := hrel
        have HCC := Lib.hid hc
        clear hc
        by_cases hlt : j < kl
        · have hltI : (j : Int) < (kl : Int) := by omega
          have hlt2 : j < ks.length := by have := HKL.out; omega
          obtain ⟨b, o, e0, e1, e2, e3, e4, rfl, hb, k0, k1, k2, k3, k4, hx⟩ := kid_z hks HKL.out.symm G.size (fun b sb hb => G.block b hb (by intro e; injection e with e; exact hSp (e ▸ sb))) j hlt2
          have hkd := ih ks[j] (.agg #[e0, e1, e2, e3, e4]) c (d + 1) (wr.alloc (.cells #[e0, e1, e2, e3, e4] 25)) (by have := HCC.out; omega) hc24 (by omega) (by omega) (P.alloc _) ⟨_, _, _, _, _, rfl, hx.alloc _⟩
          rw [show 9 - (d + 1) = 8 - d from by omega] at hkd
          have HS2 : Hid (leftS f ks[j] (24 - c) (8 - d) < 0 → L = -1) := fun h => HST.out (24 - c) j hlt2 (by have := HCC.out; omega) h
          have HG2 : Hid (0 ≤ leftS f ks[j] (24 - c) (8 - d) → leftS f ks[j] (24 - c) (8 - d) = 24 - n - 1 - (sumS f ks (j + 1) : Int) ∧ ((ks.take (j + 1)).all fun u => okS f u (8 - d)) = true) := fun h => HGO.out (24 - c) j hlt2 (by have := HCC.out; omega) hall.out h
          obtain ⟨i0, l1, i2, i3, X4, n4, z4, rfl, rfl, rfl, rfl, rfl⟩ := hx.form
          unfold strV at *
          generalize (⟨l1.toArray⟩ : ByteArray) = s1 at *
          have G1 : w.grownBy (wr.alloc (.cells #[.int .i64 i0, .string s1, .int .i64 i2, .int .i64 i3, .slice X4 n4 z4] 25)) (some p) := grown_trans G (grown_of_below ((Below.refl _ _).alloc (Nat.le_refl _) _) _)
          have hbr : b < wr.heap.size := Nat.lt_of_lt_of_le hb G.size
          clear hx hks HF2 HST HGO HLE HYES P
          obtain ⟨M, hM⟩ : ∃ M, M = leftS f ks[j] (24 - c) (8 - d) := ⟨_, rfl⟩
          rw [← hM] at hkd HS2 HG2
          clear hM
          go_wp2_with fail
          refine hkd.mono ?_
          rintro e w5 ⟨m, rfl, P5, hm5, g5⟩
          have G5 := grown_trans G1 g5
          clear hkd G1 g5 k0 k1 k2 k3 k4 G
          by_cases hM0 : 0 ≤ M
          · obtain ⟨h1, h2⟩ := HG2.out hM0
            have hm := hm5 hM0
            have h2 := Lib.hid h2
            rw [decide_eq_true hM0]
            clear HS2 HG2 hm5
            have H1 := Lib.hid h1
            have HM := Lib.hid hm
            have HM0 := Lib.hid hM0
            clear h1 hm hM0
            go_wp2_with fail
            go_roundw
            case rel => exact ⟨j + 1, m, by omega, by have := H1.out; have := HM.out; omega, by have := HM.out; have := HM0.out; omega, h2, by go_num, P5, G5⟩
            case measure => simp [intOf]; omega
          · have hd := HNO.out (HS2.out (by omega)) w5 _ P5 G5
            rw [decide_eq_false hM0]
            clear HS2 HG2 hm5
            go_wp2_with fail
            first | exact hd | (go_ret; exact hd)
        · obtain rfl : j = kl := by omega
          have hd := HYES.out wr (24 - c) (HF2.out (24 - c) (by have := hall.out; rw [← HKL.out]; exact this) (by have := HCC.out; rw [← HKL.out]; omega) (by omega)) (by omega) (by rw [show 24 - (24 - c) = c from by omega]; exact P) G
          clear HF2 HST HGO HLE HNO HYES
          go_wp2_with fail
          first | exact hd | (go_ret; exact hd)
theorem zpcheck_any (S : Nat → Prop) (f : Nat) (t : Sc f) (v : Value) (w : World) (hS : ∀ b, S b → b < w.heap.size) (hv : ZV w S f v t) :
    Calls Try.prog 23 #[v] w fun e w' => e = .returned (.int .i64 (if mayS f t = true then 0 else 1)) ∧ Below w.heap.size w w' := by
  obtain ⟨c0, c1, c2, c3, c4, rfl, ht⟩ := hv
  have hv2 : ZV ((w.alloc (.cells #[c0, c1, c2, c3, c4] 25)).alloc (.cells #[.int .i64 0] 3)) S f (.agg #[c0, c1, c2, c3, c4]) t := ZV.alloc (ZV.alloc ⟨c0, c1, c2, c3, c4, rfl, ht⟩ _) _
  obtain ⟨kx, ky, B0⟩ := ztwo_boxes w #[c0, c1, c2, c3, c4] #[.int .i64 0] 25 3
  have hr := zpmaybe_any S (w.heap.size + 1) (fun h => by have := hS _ h; omega) f t _ 0 1 _ (by omega) (by omega) (by omega) (by omega) ky hv2
  have hm := zleft_may t
  rw [show (24 : Int) - 0 = 24 from rfl, show (9 : Int) - 1 = 8 from rfl, hm] at hr
  clear hv2 hm
  obtain ⟨i0, l1, i2, i3, X4, n4, z4, rfl, rfl, rfl, rfl, rfl⟩ := ht.form
  unfold strV at *
  clear ht hS
  obtain ⟨r, hr0⟩ : ∃ r, r = mayS f t := ⟨_, rfl⟩
  rw [← hr0] at hr ⊢
  clear hr0
  cases r with
  | false =>
    rw [if_neg (by decide)]
    go_enter Try.func23, Try.ntmps23
    go_wp2_with fail
    refine hr.mono ?_
    rintro e w5 ⟨m, rfl, _, _, g5⟩
    have B5 := B0.trans (below_of_grown' g5 (by omega) (by simp; omega))
    clear hr g5
    go_wp2_with fail
    go_ret
    exact ⟨rfl, B5⟩
  | true =>
    rw [if_pos rfl]
    go_enter Try.func23, Try.ntmps23
    go_wp2_with fail
    refine hr.mono ?_
    rintro e w5 ⟨m, rfl, _, _, g5⟩
    have B5 := B0.trans (below_of_grown' g5 (by omega) (by simp; omega))
    clear hr g5
    go_wp2_with fail
    go_ret
    exact ⟨rfl, B5⟩
end
section
open Go.RowKit Go.ChangeShapes Go.WideShapes Go.Joins
theorem OwH.HS {S : Nat → Prop} {w wr : World} {f : Nat} {ks : List (Hl f)} {qs : List SvH} (r : OwH S w f ks wr qs) (h : ks.length ≤ 10000) : HS wr (fun b => b < wr.heap.size) f (.slice (some ⟨w.heap.size, 0, none⟩) ks.length ks.length) ks := by
  have hq := r.rd.1
  have h1 := r.row.lt
  refine HS_of_own (base := 0) (qs := qs) ?_ (r.rd.keepL (Nat.le_refl _) (fun _ _ _ => rfl) fun b _ hl => hl) fun b _ hl => hl
  rw [← hq]
  refine ⟨flatH_length _, .inr ⟨w.heap.size, qs.length, (flatH qs).toArray, rfl, Nat.zero_le _, r.row, Nat.le_refl _, by unfold maxLen; omega, by rw [List.size_toArray, flatH_length], ?_⟩⟩
  rw [List.toList_toArray, List.take_of_length_le (by rw [flatH_length]; exact Nat.le_refl _)]
theorem HS_one {w : World} {S : Nat → Prop} {f g : Nat} {t : Hl f} {c0 c1 c2 c3 c4 c5 c6 : Value} (k : KB w g 47 #[c0, c1, c2, c3, c4, c5, c6]) (hx : HX w S f t c0 c1 c2 c3 c4 c5 c6) (hS : S g) : HS w S f (.slice (some ⟨g, 0, none⟩) 1 1) [t] := by
  refine ⟨_, 1, rfl, Nat.le_refl _, by unfold maxLen; omega, (fun h => by cases h), fun _ => ⟨g, 0, rfl, hS, k.lt, fun i u hi => ?_⟩⟩
  have : i = 0 := by
    have := (List.getElem?_eq_some_iff.1 hi).1
    simpa using this
  subst this
  simp at hi
  subst hi
  exact ⟨_, _, _, _, _, _, _, k.cell 0, k.cell 1, k.cell 2, k.cell 3, k.cell 4, k.cell 5, k.cell 6, hx⟩
set_option maxHeartbeats 8000000 in
theorem hon_any (S : Nat → Prop) (f : Nat) (l : List (Hl f)) (hfew : FewH f l) (rc : Rc) (v vr : Value) (hrc : RcV vr rc) (w : World) (hv : HS w S f v l) :
    Calls Try.prog 19 #[v, vr] w (IdsAs w (onH rc l)) := by
  have HHO := Lib.hid (fun t u W h => hholds_any S f t rc u vr hrc W h)
  obtain ⟨rid, rst, rfl⟩ := hrc
  obtain ⟨A, cap, rfl, hl3, hm3, _⟩ := hv.form
  have hlen : l.length ≤ 9223372036854775807 := by unfold maxLen at hm3; omega
  have hll := hfew.1
  have HID : Hid (∀ j (hj : j < l.length), l[j].id.length ≤ 1000000) := fun j hj => (hfew.2 j hj).1
  clear hfew
  obtain ⟨r0, hr0⟩ : ∃ s : ByteArray, strV rid = .string s := ⟨_, rfl⟩
  obtain ⟨r1, hr1⟩ : ∃ s : ByteArray, strV rc.cse = .string s := ⟨_, rfl⟩
  obtain ⟨r2, hr2⟩ : ∃ s : ByteArray, strV rc.sub = .string s := ⟨_, rfl⟩
  obtain ⟨r3, hr3⟩ : ∃ s : ByteArray, strV rc.cls = .string s := ⟨_, rfl⟩
  have hma := HHO.out
  rw [hr0, hr1, hr2, hr3] at hma ⊢
  replace HHO := Lib.hid hma
  clear hma hr0 hr1 hr2 hr3
  obtain ⟨tk, htk⟩ : ∃ t, t = rc.tick := ⟨_, rfl⟩
  have hma := HHO.out
  rw [← htk] at hma ⊢
  replace HHO := Lib.hid hma
  clear hma htk
  have HDONE : Hid (∀ (W : World) (v : Value), W.ownsRow (w.heap.size + 1) 9 1 v (onH rc (l.take l.length)).length ((onH rc (l.take l.length)).map strV) → Below w.heap.size w W → IdsAs w (onH rc l) (.returned v) W) := fun W v h hb => by
    rw [List.take_length] at h
    exact ⟨v, rfl, own_low h (by omega), hb⟩
  have HS1 : Hid (∀ (j : Nat) (hj : j < l.length), holdsH rc l[j] = true → onH rc (l.take (j + 1)) = onH rc (l.take j) ++ [l[j].id]) := fun j hj h => by rw [on_step rc l hj, if_pos h]
  have HS2 : Hid (∀ (j : Nat) (hj : j < l.length), holdsH rc l[j] = false → onH rc (l.take (j + 1)) = onH rc (l.take j)) := fun j hj h => by rw [on_step rc l hj, if_neg (by rw [h]; decide)]
  have HIR : Hid (onH rc (l.take 0) = []) := rfl
  have K0 := KB.new w 40 #[.string r0, .string r1, .string r2, .string r3, .int .i64 tk, .int .i64 rst]
  have B0 := (Below.refl w.heap.size w).alloc (Nat.le_refl _) (.cells #[.string r0, .string r1, .string r2, .string r3, .int .i64 tk, .int .i64 rst] 40)
  have HAT := Lib.hid (fun W (hb : Below w.heap.size w W) j (hj : j < l.length) => hold_atb hv rfl hb j hj)
  have hown : (w.alloc (.cells #[.string r0, .string r1, .string r2, .string r3, .int .i64 tk, .int .i64 rst] 40)).ownsRow (w.heap.size + 1) 9 1 (.slice none 0 0) ([] : List (List UInt8)).length (([] : List (List UInt8)).map strV) := World.ownsRow_nil _ _ _ _
  obtain ⟨P, hP⟩ : ∃ P : Ending → World → Prop, P = IdsAs w (onH rc l) := ⟨_, rfl⟩
  rw [← hP] at HDONE ⊢
  clear hv hP hl3 hm3
  go_enter Try.func19, Try.ntmps19
  go_wp2_with fail
  go_loopw [5, 10] (fun ov iv wr => ∃ (j : Nat) (out : List (List UInt8)), j ≤ l.length ∧ iv = .int .i64 j ∧ out.length ≤ j ∧ Hid (onH rc (l.take j) = out) ∧ wr.ownsRow (w.heap.size + 1) 9 1 ov out.length (out.map strV) ∧ KB wr w.heap.size 40 #[.string r0, .string r1, .string r2, .string r3, .int .i64 tk, .int .i64 rst] ∧ Below w.heap.size w wr) (fun _ iv _ => l.length - (intOf iv).toNat)
  case atStart => exact ⟨0, [], by omega, rfl, by simp, HIR, hown, K0, B0⟩
  case round =>
    clear hown K0 B0 HIR
    obtain ⟨j, out, hj, rfl, hol, hout, how, K, B⟩ := hrel
    obtain ⟨A7, c7, rfl⟩ := zown_form how
    by_cases hlt : j < l.length
    · have hltI : (j : Int) < (l.length : Int) := by omega
      obtain ⟨b1, o1, e0, e1, e2, e3, e4, e5, e6, rfl, hb1, k0, k1, k2, k3, k4, k5, k6, hx⟩ := HAT.out _ B j hlt
      have h0 := hx.1
      have hcl := fun W => sclone_any l[j].id (by have := HID.out j hlt; omega) W
      obtain ⟨l0, i1, l2, i3, i4, X5, n5, z5, b6, g0, rfl, rfl, rfl, rfl, rfl, rfl⟩ := hx.form
      clear g0
      obtain ⟨s, hs⟩ : ∃ s : ByteArray, strV l[j].id = .string s := ⟨_, rfl⟩
      obtain ⟨s2, hs2⟩ : ∃ s : ByteArray, strV l2 = .string s := ⟨_, rfl⟩
      rw [hs] at hcl h0
      subst h0
      rw [hs2] at k2 hx
      have BA := (Below.refl wr.heap.size wr).alloc (Nat.le_refl _) (.cells #[.string s, .int .i64 i1, .string s2, .int .i64 i3, .int .i64 i4, .slice X5 n5 z5, .bool b6] 47)
      have KA := KB.new wr 47 #[.string s, .int .i64 i1, .string s2, .int .i64 i3, .int .i64 i4, .slice X5 n5 z5, .bool b6]
      have hc := Lib.hid (HHO.out l[j] _ _ ⟨_, _, _, _, _, _, _, rfl, hx.below' BA⟩)
      have K1 := K.below BA K.lt
      have HCL := Lib.hid hcl
      have HIDV := Lib.hid hs
      have HY := Lib.hid (HS1.out j hlt)
      have HNO := Lib.hid (HS2.out j hlt)
      have BA2 := B.trans (BA.mono B.size)
      have howA := own_past BA how
      have p0 := K1.cell 0
      have p1 := K1.cell 1
      have p2 := K1.cell 2
      have p3 := K1.cell 3
      have p4 := K1.cell 4
      have p5 := K1.cell 5
      clear hx hs hs2 hcl HAT HHO HS1 HS2 HID HDONE how B hb1 BA
      generalize l[j].id = idj at *
      generalize holdsH rc l[j] = t at *
      go_wp2_with fail
      refine hc.out.mono ?_
      rintro e w5 ⟨rfl, b5⟩
      have K5 := K1.below b5 K1.lt
      have A5 := KA.below b5 KA.lt
      have B5 := BA2.trans (b5.mono BA2.size)
      have how5 := own_past b5 howA
      clear hc K1 KA BA2 howA b5 p0 p1 p2 p3 p4 p5 k0 k1 k2 k3 k4 k5 k6
      cases t with
      | false =>
        have hn := HNO.out rfl
        have HM : Hid (onH rc (l.take (j + 1)) = out) := hn.trans hout.out
        clear HY HNO hn hout HIDV HCL A5
        go_wp2_with fail
        go_roundw
        case rel => exact ⟨j + 1, out, by omega, by go_num, by omega, HM, how5, K5, B5⟩
        case measure => simp [intOf]; omega
      | true =>
        have hn := HY.out rfl
        have HM : Hid (onH rc (l.take (j + 1)) = out ++ [idj]) := by rw [← hout.out]; exact hn
        have r0 := A5.cell 0
        clear HY HNO hn hout
        go_wp2_with fail
        refine (HCL.out _).mono ?_
        rintro e w6 ⟨rfl, b6⟩
        have K6 := K5.below b6 K5.lt
        have B6 := B5.trans (b6.mono B5.size)
        have how6 := own_past b6 how5
        clear HCL r0 A5 K5 B5 how5 b6
        have kx : (w6.alloc (.cells #[.string s] 9)).cell? ⟨w6.heap.size, 0, none⟩ = some (strV idj) := by rw [HIDV.out]; exact (KB.new w6 9 #[.string s]).cell 0
        have hs1 := K6.lt
        have A1 := (Below.refl w6.heap.size w6).alloc (Nat.le_refl _) (.cells #[.string s] 9)
        have how1 := own_past A1 how6
        have B1 := B6.trans (A1.mono B6.size)
        have K1 := K6.below A1 hs1
        have hs2 : w.heap.size + 1 ≤ (w6.alloc (.cells #[.string s] 9)).heap.size := Nat.le_trans hs1 A1.size
        have hol2 : out.length ≤ 1000000000 := by omega
        have hl2 : (out ++ [idj]).length ≤ j + 1 := by simp; omega
        clear HIDV A1 how6 B6 K6
        go_wp2_with (at_builtin; refine wpList_growW _ rfl _ _ rfl (w.heap.size + 1) _ out rfl how1 ⟨w6.heap.size, 0, none⟩ 1 idj rfl kx hol2 hs2 ?_; intro v3 w3 how3 g3 ho3)
        go_roundw
        case rel => exact ⟨j + 1, _, by omega, by go_num, hl2, HM, how3, K1.grown g3 (fun e => by have := own_ge how1 _ e; omega), B1.grown g3 (by omega) fun g e => by have := own_ge how1 g e; omega⟩
        case measure => simp [intOf]; omega
    · obtain rfl : j = l.length := by omega
      have hfin := HDONE.out wr _ (by rw [hout.out]; exact how) B
      clear HDONE HAT HS1 HS2 hout how K B HHO HID
      go_wp2_with fail
      exact hfin
set_option maxHeartbeats 8000000 in
theorem hplace_any (f : Nat) (l : List (Hl f)) (hfew : FewH f l) (id : List UInt8) (hid : id.length ≤ 1000000) (x : Sc f) (hfx : fewZ f x) (v vx : Value) (w : World) (hv : HS w (fun b => b < w.heap.size) f v l) (hx : ZV w (fun b => b < w.heap.size) f vx x) :
    Calls Try.prog 9 #[v, strV id, vx] w (HoldsErr w f (placeH f l id x)) := by
  obtain ⟨A, cap, rfl, hl3, hm3, _⟩ := hv.form
  obtain ⟨c0, c1, c2, c3, c4, rfl, hx5⟩ := hx
  obtain ⟨i0, l1, i2, i3, X4, n4, z4, rfl, rfl, rfl, rfl, rfl⟩ := hx5.form
  obtain ⟨s1, hs1⟩ : ∃ s : ByteArray, strV l1 = .string s := ⟨_, rfl⟩
  rw [hs1] at hx5 ⊢
  clear hs1
  have hll := hfew.1
  obtain ⟨D, hD⟩ : ∃ D, D = HoldsErr w f (placeH f l id x) := ⟨_, rfl⟩
  rw [← hD]
  have HE : Hid (∀ (k : Int), placeH f l id x = ([], k) → ∀ W, Below w.heap.size w W → D (.returned (.tuple #[.slice none 0 0, .int .i64 k])) W) := fun k h W hb => by
    rw [hD, h]; exact ⟨_, rfl, HS.nil _ _ _, hb⟩
  have HOK : Hid (placeH f l id x = (l ++ [⟨id, x, true⟩], 0) → ∀ (W W0 : World) (v : Value), Below w.heap.size w W0 → OwnAs (fun b => b < W0.heap.size) W0 f (l ++ [⟨id, x, true⟩]) (.returned v) W → D (.returned (.tuple #[v, .int .i64 0])) W) := fun h W W0 v hb ho => by
    rw [hD, h]
    obtain ⟨qs, e, r⟩ := ho
    injection e with e
    subst e
    exact ⟨_, rfl, r.HS (by simp; omega), hb.trans (r.bl.mono hb.size)⟩
  have P1 : Hid (nameS id = false ∨ mayS f x = false → placeH f l id x = ([], 1)) := fun h => by unfold placeH; rw [if_pos h]
  have P2 : Hid (nameS id = true → mayS f x = true → placeH f l id x = if 0 ≤ findH l id then ([], 6) else if 12 ≤ l.length then ([], 4) else (l ++ [⟨id, x, true⟩], 0)) := fun h1 h2 => by unfold placeH; rw [if_neg (by rw [h1, h2]; decide)]
  clear hD
  generalize placeH f l id x = r at *
  have K0 := KB.new w 25 #[.int .i64 i0, .string s1, .int .i64 i2, .int .i64 i3, .slice X4 n4 z4]
  have B0 := (Below.refl w.heap.size w).alloc (Nat.le_refl _) (.cells #[.int .i64 i0, .string s1, .int .i64 i2, .int .i64 i3, .slice X4 n4 z4] 25)
  obtain ⟨s, hs⟩ : ∃ s : ByteArray, strV id = .string s := ⟨_, rfl⟩
  have HMAY := Lib.hid (fun W (hb : Below w.heap.size w W) => zpcheck_any (fun b => b < w.heap.size) f x _ W (fun b h => Nat.lt_of_lt_of_le h hb.size) ⟨_, _, _, _, _, rfl, hx5.below' hb⟩)
  have hnm := name_any id (w.alloc (.cells #[.int .i64 i0, .string s1, .int .i64 i2, .int .i64 i3, .slice X4 n4 z4] 25))
  rw [hs] at hnm
  have HNM := Lib.hid hnm
  have hfi : ∀ W, Below w.heap.size w W → Calls Try.prog 24 #[.slice A l.length cap, .string s] W fun e w' => e = .returned (.int .i64 (findH l id)) ∧ Below W.heap.size W w' := fun W hb => by
    rw [← hs]; exact hfirst_any _ f l id _ W (hv.below' hb)
  have HFI := Lib.hid hfi
  have hown : ∀ W, Below w.heap.size w W → Calls Try.prog 25 #[.slice A l.length cap, .slice (some ⟨W.heap.size, 0, none⟩) 1 1] (W.alloc (.cells #[.string s, .int .i64 i0, .string s1, .int .i64 i2, .int .i64 i3, .slice X4 n4 z4, .bool true] 47)) (OwnAs (fun b => b < (W.alloc (.cells #[.string s, .int .i64 i0, .string s1, .int .i64 i2, .int .i64 i3, .slice X4 n4 z4, .bool true] 47)).heap.size) (W.alloc (.cells #[.string s, .int .i64 i0, .string s1, .int .i64 i2, .int .i64 i3, .slice X4 n4 z4, .bool true] 47)) f (l ++ [⟨id, x, true⟩])) := fun W hb => by
    have hb2 := hb.alloc hb.size (.cells #[.string s, .int .i64 i0, .string s1, .int .i64 i2, .int .i64 i3, .slice X4 n4 z4, .bool true] 47)
    have hs2 := hb2.size
    refine hown_any _ f l [⟨id, x, true⟩] hfew (FewH.one hid hfx) _ _ _ ((hv.below' hb2).mono fun b h => Nat.lt_of_lt_of_le h hs2) (HS_one (KB.new W _ _) ⟨hs.symm, Nat.le_trans hid (by unfold maxLen; omega), (hx5.below' hb2).mono fun b h => Nat.lt_of_lt_of_le h hs2, rfl⟩ (by simp))
  have HOWN := Lib.hid hown
  rw [hs]
  clear hx5 hv hid hl3 hnm hfi hown hs hfew hfx
  generalize nameS id = nm at *
  generalize mayS f x = my at *
  go_enter Try.func9, Try.ntmps9
  go_wp2_with fail
  refine HNM.out.mono ?_
  rintro e w1 ⟨rfl, b1⟩
  have K1 := K0.below b1 K0.lt
  have B1 := B0.trans (b1.mono B0.size)
  clear HNM K0 B0 b1
  cases nm with
  | false =>
    have hfin := HE.out 1 (P1.out (.inl rfl)) _ B1
    clear HE HOK P1 P2 HFI HOWN HMAY
    go_wp2_with fail
    exact hfin
  | true =>
  have q0 := K1.cell 0
  have q1 := K1.cell 1
  have q2 := K1.cell 2
  have q3 := K1.cell 3
  have q4 := K1.cell 4
  have HM1 := Lib.hid (HMAY.out w1 B1)
  clear HMAY
  go_wp2_with fail
  refine HM1.out.mono ?_
  rintro e w2 ⟨rfl, b2⟩
  have K2 := K1.below b2 K1.lt
  have B2 := B1.trans (b2.mono B1.size)
  clear HM1 b2 K1 B1 q0 q1 q2 q3 q4
  cases my with
  | false =>
    have hfin := HE.out 1 (P1.out (.inr rfl)) _ B2
    clear HE HOK P1 P2 HFI HOWN
    go_wp2_with fail
    exact hfin
  | true =>
  have hp := P2.out (by first | rfl | trivial) (by first | rfl | trivial)
  have hfi := HFI.out w2 B2
  clear P1 P2 HFI
  go_wp2_with fail
  refine hfi.mono ?_
  rintro e w3 ⟨rfl, b3⟩
  have K3 := K2.below b3 K2.lt
  have B3 := B2.trans (b3.mono B2.size)
  clear hfi K2 B2 b3
  generalize findH l id = at_ at *
  by_cases h1 : 0 ≤ at_
  · have d1 : decide (0 ≤ at_) = true := decide_eq_true h1
    rw [if_pos h1] at hp
    have hfin := HE.out 6 hp _ B3
    clear HE HOK HOWN hp
    go_wp2_with fail
    exact hfin
  rw [if_neg h1] at hp
  have d1 : decide (0 ≤ at_) = false := decide_eq_false h1
  by_cases h2 : 12 ≤ l.length
  · have d2 : decide ((12 : Int) ≤ (l.length : Int)) = true := decide_eq_true (by omega)
    rw [if_pos h2] at hp
    have hfin := HE.out 4 hp _ B3
    clear HE HOK HOWN hp
    go_wp2_with fail
    exact hfin
  rw [if_neg h2] at hp
  have d2 : decide ((12 : Int) ≤ (l.length : Int)) = false := decide_eq_false (by omega)
  have q0 := K3.cell 0
  have q1 := K3.cell 1
  have q2 := K3.cell 2
  have q3 := K3.cell 3
  have q4 := K3.cell 4
  have ho := Lib.hid (HOWN.out w3 B3)
  have BA := B3.alloc B3.size (.cells #[.string s, .int .i64 i0, .string s1, .int .i64 i2, .int .i64 i3, .slice X4 n4 z4, .bool true] 47)
  have hok := HOK.out hp
  have HK := Lib.hid (fun W v h => hok W _ v BA h)
  clear HE HOK HOWN hp h1 h2 hok BA
  go_wp2_with fail
  refine ho.out.mono ?_
  intro e w5 h5
  obtain ⟨vv, rfl, hfin⟩ : ∃ vv, e = .returned vv ∧ D (.returned (.tuple #[vv, .int .i64 0])) w5 := by
    obtain ⟨qs, rfl, r5⟩ := h5
    exact ⟨_, rfl, HK.out w5 _ ⟨qs, rfl, r5⟩⟩
  clear HK ho h5 q0 q1 q2 q3 q4
  go_wp2_with fail
  exact hfin
end
end Go.Proofs.Ytdkmjdcddldjgaa
