/-
  SdH: The program's within, mayBe and Check (layer 20), over the loaded program: each one's contract. No condition but the sizes that each contract names.
  WvJ: The program's Parse (layer 21), over the loaded program: its contract. No condition but the size that it names, and that the library's table and errors are as laid.
  SpT: The document's tell (layer 15): digits of a number, over the loaded program: its contract. No condition but the size that it names.
-/
import Derived.Test.YtjecjlhofnnnpaaGreatDoorWy23
import Derived.Test.YtjecjlhofnnnpaaGreatDoorWy16
import Derived.Test.YtjecjlhofnnnpaaGreatDoorWy21
import Derived.Test.YtjecjlhofnnnpaaGreatDoorWy03
import Derived.Test.YtjecjlhofnnnpaaGreatDoorWy05
import Derived.Test.YtjecjlhofnnnpaaGreatDoorWy01
import Derived.Lib.ItoaLen
set_option linter.unusedVariables false
set_option maxRecDepth 100000
namespace Go.Proofs.YtjecjlhofnnnpaaGreatDoor
section
open Go.RowKit
theorem ZV.grown {w w' : World} {S : Nat → Prop} {f : Nat} {v : Value} {t : Sc f} {p : Nat} (h : ZV w S f v t) (hg : w.grownBy w' (some p)) (hp : ¬ S p) : ZV w' S f v t :=
  h.keepL hg.size (fun b sb hb => hg.block b hb (by intro e; injection e with e; exact hp (e ▸ sb))) fun _ h _ => h
set_option maxHeartbeats 2000000 in
theorem zwithin_any (p : Nat) (n d : Int) (w : World) (h0 : 0 ≤ n) (h1 : n ≤ 1000) (h : KB w p 3 #[.int .i64 n]) :
    Calls Tryz.prog 35 #[.int .i64 d, .pointer (some ⟨p, 0, none⟩)] w fun e w' => e = .returned (.bool (decide (n + 1 ≤ 24 ∧ d ≤ 8))) ∧ KB w' p 3 #[.int .i64 (n + 1)] ∧ w.grownBy w' (some p) := by
  have c0 : w.cell? ⟨p, 0, none⟩ = some (.int .i64 n) := h.cell 0
  have f0 := h.free 0
  have K1 : KB (w.setCell ⟨p, 0, none⟩ (.int .i64 (n + 1))) p 3 #[.int .i64 (n + 1)] := h.put 0 _
  have G1 := grown_set w p 0 (.int .i64 (n + 1))
  have c1 : (w.setCell ⟨p, 0, none⟩ (.int .i64 (n + 1))).cell? ⟨p, 0, none⟩ = some (.int .i64 (n + 1)) := K1.cell 0
  have W1 : wrap64 (n + 1) = n + 1 := IntWalk.wrap64_in _ (by omega)
  have I1 : IntKind.i64.wrap (n + 1) = n + 1 := by rw [IntKind.wrap_i64]; omega
  have hp := h.lt
  by_cases a1 : n + 1 ≤ 24
  · have E1 : decide (n + 1 ≤ 24) = true := decide_eq_true a1
    by_cases a2 : d ≤ 8
    · have E2 : decide (d ≤ 8) = true := decide_eq_true a2
      rw [decide_eq_true (show n + 1 ≤ 24 ∧ d ≤ 8 from ⟨a1, a2⟩)]
      clear h
      go_enter Tryz.func35, Tryz.ntmps35
      go_wp2_with fail
      go_ret
      exact ⟨rfl, K1, G1⟩
    · have E2 : decide (d ≤ 8) = false := decide_eq_false a2
      rw [decide_eq_false (show ¬ (n + 1 ≤ 24 ∧ d ≤ 8) from fun h => a2 h.2)]
      clear h
      go_enter Tryz.func35, Tryz.ntmps35
      go_wp2_with fail
      go_ret
      exact ⟨rfl, K1, G1⟩
  · have E1 : decide (n + 1 ≤ 24) = false := decide_eq_false a1
    rw [decide_eq_false (show ¬ (n + 1 ≤ 24 ∧ d ≤ 8) from fun h => a1 h.1)]
    clear h
    go_enter Tryz.func35, Tryz.ntmps35
    go_wp2_with fail
    go_ret
    exact ⟨rfl, K1, G1⟩
def MayIh (S : Nat → Prop) (p f : Nat) : Prop := ∀ (t : Sc f) (v : Value) (n d : Int) (w : World), 0 ≤ n → n ≤ 24 → 1 ≤ d → d ≤ 9 → KB w p 3 #[.int .i64 n] → ZV w S f v t →
    Calls Tryz.prog 22 #[v, .int .i64 d, .pointer (some ⟨p, 0, none⟩)] w fun e w' => ∃ m : Int, e = .returned (.bool (decide (0 ≤ leftS f t (24 - n) (9 - d)))) ∧ KB w' p 3 #[.int .i64 m] ∧ (0 ≤ leftS f t (24 - n) (9 - d) → m = 24 - leftS f t (24 - n) (9 - d)) ∧ w.grownBy w' (some p)
set_option maxHeartbeats 8000000 in
theorem zpmaybe_any (S : Nat → Prop) (p : Nat) (hSp : ¬ S p) : ∀ f : Nat, MayIh S p f := by
  intro f
  induction f with
  | zero => intro t; exact nomatch t
  | succ f ih =>
    intro t v n d w hn0 hn1 hd0 hd1 hp hv
    have hv0 := hv
    change Ns (Sc f) at t
    obtain ⟨c0, c1, c2, c3, c4, rfl, rfl, hk, rfl, hml, rfl, hfr, rfl, hto, hks⟩ := hv
    obtain ⟨A3, cap3, e3, hl3, hm3⟩ := hks.form
    rw [e3] at hks hv0 ⊢
    clear e3
    have hlen : t.kids.length ≤ 9223372036854775807 := by unfold maxLen at hm3; omega
    obtain ⟨L, hL⟩ : ∃ L, L = leftS (f + 1) t (24 - n) (9 - d) := ⟨_, rfl⟩
    rw [← hL]
    have HW : Hid (¬ (n + 1 ≤ 24 ∧ d ≤ 8) → L = -1) := fun h => by
      rw [hL]
      by_cases a : n + 1 ≤ 24
      · exact zleft_flat t (by have : ¬ d ≤ 8 := fun b => h ⟨a, b⟩; omega)
      · exact zleft_low _ (by omega)
    have HU : Hid (fitsS t = false → L = -1) := fun h => hL.trans (zleft_unfit t h)
    have HF : Hid (d ≤ 8 → fitsS t = true → (∀ m : Int, (((t.kids.take t.kids.length).all fun u => okS f u (8 - d)) = true) → m = 24 - n - 1 - (sumS f t.kids t.kids.length : Int) → 0 ≤ m → L = m)) :=
      fun hd a m b c e => hL.trans (zleft_all t a (by omega) (by rw [show 9 - d - 1 = 8 - d from by omega]; exact b) c e)
    have HST : Hid (∀ (m : Int) (j : Nat) (hj : j < t.kids.length), m = 24 - n - 1 - (sumS f t.kids j : Int) → leftS f t.kids[j] m (8 - d) < 0 → L = -1) := fun m j hj a b => hL.trans (zleft_stop t hj a (by rw [show 9 - d - 1 = 8 - d from by omega]; exact b))
    have HGO : Hid (∀ (m : Int) (j : Nat) (hj : j < t.kids.length), m = 24 - n - 1 - (sumS f t.kids j : Int) → ((t.kids.take j).all fun u => okS f u (8 - d)) = true → 0 ≤ leftS f t.kids[j] m (8 - d) →
        leftS f t.kids[j] m (8 - d) = 24 - n - 1 - (sumS f t.kids (j + 1) : Int) ∧ ((t.kids.take (j + 1)).all fun u => okS f u (8 - d)) = true) := fun m j hj a b e => by
      have := zleft_step (n := 24 - n) (d := 9 - d) t hj a (by rw [show 9 - d - 1 = 8 - d from by omega]; exact b) (by rw [show 9 - d - 1 = 8 - d from by omega]; exact e)
      rw [show 9 - d - 1 = 8 - d from by omega] at this
      exact this
    have HLE : Hid (∀ (m : Int) (j : Nat) (hj : j < t.kids.length), -1 ≤ m → leftS f t.kids[j] m (8 - d) ≤ m) := fun m j hj h => (zleft_le t.kids[j] m (8 - d) h).2
    obtain ⟨D, hD⟩ : ∃ D : Ending → World → Prop, D = fun e w' => ∃ m : Int, e = .returned (.bool (decide (0 ≤ L))) ∧ KB w' p 3 #[.int .i64 m] ∧ (0 ≤ L → m = 24 - L) ∧ w.grownBy w' (some p) := ⟨_, rfl⟩
    have HNO : Hid (L = -1 → ∀ W (m : Int), KB W p 3 #[.int .i64 m] → w.grownBy W (some p) → D (.returned (.bool false)) W) := fun h W m hk hg => by
      rw [hD, h]
      exact ⟨m, rfl, hk, fun h => absurd h (by decide), hg⟩
    have HYES : Hid (∀ W (m : Int), L = m → 0 ≤ m → KB W p 3 #[.int .i64 (24 - m)] → w.grownBy W (some p) → D (.returned (.bool true)) W) := fun W m h h0 hk hg => by
      rw [hD, h]
      exact ⟨24 - m, by rw [decide_eq_true h0], hk, fun _ => rfl, hg⟩
    rw [← hD]
    clear hD hL
    have B0 := (Below.refl w.heap.size w).alloc (Nat.le_refl _) (.cells #[.int .i64 t.op, strV t.name, .int .i64 t.from_, .int .i64 t.to_, .slice A3 t.kids.length cap3] 24)
    have kb := KB.new w 24 #[.int .i64 t.op, strV t.name, .int .i64 t.from_, .int .i64 t.to_, .slice A3 t.kids.length cap3]
    have hplt := hp.lt
    have hne : (some p : Option Nat) ≠ some w.heap.size := by intro e; injection e with e; omega
    have hwi := zwithin_any p n d _ hn0 (by omega) (hp.alloc (.cells #[.int .i64 t.op, strV t.name, .int .i64 t.from_, .int .i64 t.to_, .slice A3 t.kids.length cap3] 24))
    have HFI := Lib.hid (fun W (hW : w.grownBy W (some p)) => zpfits_any S f t _ W (hv0.grown hW hSp))
    have G0 : w.grownBy (w.alloc (.cells #[.int .i64 t.op, strV t.name, .int .i64 t.from_, .int .i64 t.to_, .slice A3 t.kids.length cap3] 24)) (some p) := grown_of_below B0 _
    clear hv0 hp
    generalize t.op = k at *
    generalize t.from_ = fr at *
    generalize t.to_ = to_ at *
    generalize t.name = l at *
    unfold strV at *
    generalize (⟨l.toArray⟩ : ByteArray) = s at *
    generalize fitsS t = ft at *
    generalize t.kids = ks at *
    clear t
    obtain ⟨kl, hkl⟩ : ∃ kl, kl = ks.length := ⟨_, rfl⟩
    rw [← hkl] at hks hl3 hlen hwi HFI B0 kb G0 ⊢
    have HKL := Lib.hid hkl
    clear hkl
    have W1 : wrap64 (d + 1) = d + 1 := IntWalk.wrap64_in _ (by omega)
    have I1 : IntKind.i64.wrap (d + 1) = d + 1 := by rw [IntKind.wrap_i64]; omega
    go_enter Tryz.func22, Tryz.ntmps22
    go_wp2_with fail
    refine hwi.mono ?_
    rintro e w1 ⟨rfl, P1, G1⟩
    have G01 := grown_trans G0 G1
    have kb1 := kb.grown G1 hne
    clear hwi kb B0 G0 G1
    by_cases a1 : n + 1 ≤ 24 ∧ d ≤ 8
    case neg =>
      have hd := HNO.out (HW.out a1) w1 _ P1 G01
      rw [decide_eq_false a1]
      clear HW HU HF HST HGO HLE HNO HYES HFI
      go_wp2_with fail
      first | exact hd | (go_ret; exact hd)
    rw [decide_eq_true a1]
    have q0 := kb1.cell 0
    have q1 := kb1.cell 1
    have q2 := kb1.cell 2
    have q3 := kb1.cell 3
    have q4 := kb1.cell 4
    simp only [List.getElem?_toArray, List.getElem?_cons_zero, List.getElem?_cons_succ] at q0 q1 q2 q3 q4
    go_wp2_with fail
    refine (HFI.out w1 G01).mono ?_
    rintro e w2 ⟨rfl, b2⟩
    have G02 := grown_trans G01 (grown_of_below b2 _)
    have P2 := P1.below b2 P1.lt
    have kb2 := kb1.below b2 kb1.lt
    clear G01 P1 kb1 q0 q1 q2 q3 q4 b2 HFI HW
    cases ft with
    | false =>
      have hd := HNO.out (HU.out rfl) w2 _ P2 G02
      clear HU HF HST HGO HLE HNO HYES
      go_wp2_with fail
      first | exact hd | (go_ret; exact hd)
    | true =>
      have HF2 := Lib.hid (HF.out a1.2 rfl)
      have hd8 := a1.2
      have hn24 := a1.1
      clear HU HF a1
      have q4 : w2.cell? ⟨w.heap.size, 4, none⟩ = some (.slice A3 kl cap3) := kb2.cell 4
      go_wp2_with fail
      clear q4
      go_loopw [21] (fun iv wr => ∃ (j : Nat) (c : Int), j ≤ kl ∧ c = n + 1 + (sumS f ks j : Int) ∧ c ≤ 24 ∧ Hid (((ks.take j).all fun u => okS f u (8 - d)) = true) ∧ iv = .int .i64 j ∧ KB wr p 3 #[.int .i64 c] ∧ w.grownBy wr (some p)) (fun iv _ => kl - (intOf iv).toNat)
      case atStart => exact ⟨0, n + 1, by omega, by simp [sumS], by omega, by simp [Lib.hid], rfl, P2, G02⟩
      case round =>
        clear P2 G02 kb2
        obtain ⟨j, c, hj, hc, hc24, hall, rfl, P, G⟩ := hrel
        have HCC := Lib.hid hc
        clear hc
        by_cases hlt : j < kl
        · have hltI : (j : Int) < (kl : Int) := by omega
          have hlt2 : j < ks.length := by have := HKL.out; omega
          obtain ⟨b, o, e0, e1, e2, e3, e4, rfl, hb, k0, k1, k2, k3, k4, hx⟩ := kid_z hks HKL.out.symm G.size (fun b sb hb => G.block b hb (by intro e; injection e with e; exact hSp (e ▸ sb))) j hlt2
          have hkd := ih ks[j] (.agg #[e0, e1, e2, e3, e4]) c (d + 1) (wr.alloc (.cells #[e0, e1, e2, e3, e4] 24)) (by have := HCC.out; omega) hc24 (by omega) (by omega) (P.alloc _) ⟨_, _, _, _, _, rfl, hx.alloc _⟩
          rw [show 9 - (d + 1) = 8 - d from by omega] at hkd
          have HS2 : Hid (leftS f ks[j] (24 - c) (8 - d) < 0 → L = -1) := fun h => HST.out (24 - c) j hlt2 (by have := HCC.out; omega) h
          have HG2 : Hid (0 ≤ leftS f ks[j] (24 - c) (8 - d) → leftS f ks[j] (24 - c) (8 - d) = 24 - n - 1 - (sumS f ks (j + 1) : Int) ∧ ((ks.take (j + 1)).all fun u => okS f u (8 - d)) = true) := fun h => HGO.out (24 - c) j hlt2 (by have := HCC.out; omega) hall.out h
          obtain ⟨i0, l1, i2, i3, X4, n4, z4, rfl, rfl, rfl, rfl, rfl⟩ := hx.form
          unfold strV at *
          generalize (⟨l1.toArray⟩ : ByteArray) = s1 at *
          have G1 : w.grownBy (wr.alloc (.cells #[.int .i64 i0, .string s1, .int .i64 i2, .int .i64 i3, .slice X4 n4 z4] 24)) (some p) := grown_trans G (grown_of_below ((Below.refl _ _).alloc (Nat.le_refl _) _) _)
          have hbr : b < wr.heap.size := Nat.lt_of_lt_of_le hb G.size
          clear hx hks HF2 HST HGO HLE HYES P
          obtain ⟨M, hM⟩ : ∃ M, M = leftS f ks[j] (24 - c) (8 - d) := ⟨_, rfl⟩
          rw [← hM] at hkd HS2 HG2
          clear hM
          go_wp2_with fail
          refine hkd.mono ?_
          rintro e w5 ⟨m, rfl, P5, hm5, g5⟩
          have G5 := grown_trans G1 g5
          clear hkd G1 g5 k0 k1 k2 k3 k4 G
          by_cases hM0 : 0 ≤ M
          · obtain ⟨h1, h2⟩ := HG2.out hM0
            have hm := hm5 hM0
            have h2 := Lib.hid h2
            rw [decide_eq_true hM0]
            clear HS2 HG2 hm5
            have H1 := Lib.hid h1
            have HM := Lib.hid hm
            have HM0 := Lib.hid hM0
            clear h1 hm hM0
            go_wp2_with fail
            go_roundw
            case rel => exact ⟨j + 1, m, by omega, by have := H1.out; have := HM.out; omega, by have := HM.out; have := HM0.out; omega, h2, by go_num, P5, G5⟩
            case measure => simp [intOf]; omega
          · have hd := HNO.out (HS2.out (by omega)) w5 _ P5 G5
            rw [decide_eq_false hM0]
            clear HS2 HG2 hm5
            go_wp2_with fail
            first | exact hd | (go_ret; exact hd)
        · obtain rfl : j = kl := by omega
          have hd := HYES.out wr (24 - c) (HF2.out (24 - c) (by have := hall.out; rw [← HKL.out]; exact this) (by have := HCC.out; rw [← HKL.out]; omega) (by omega)) (by omega) (by rw [show 24 - (24 - c) = c from by omega]; exact P) G
          clear HF2 HST HGO HLE HNO HYES
          go_wp2_with fail
          first | exact hd | (go_ret; exact hd)
theorem zpcheck_any (S : Nat → Prop) (f : Nat) (t : Sc f) (v : Value) (w : World) (hS : ∀ b, S b → b < w.heap.size) (hv : ZV w S f v t) :
    Calls Tryz.prog 14 #[v] w fun e w' => e = .returned (.int .i64 (if mayS f t = true then 0 else 1)) ∧ Below w.heap.size w w' := by
  obtain ⟨c0, c1, c2, c3, c4, rfl, ht⟩ := hv
  have hv2 : ZV ((w.alloc (.cells #[c0, c1, c2, c3, c4] 24)).alloc (.cells #[.int .i64 0] 3)) S f (.agg #[c0, c1, c2, c3, c4]) t := ZV.alloc (ZV.alloc ⟨c0, c1, c2, c3, c4, rfl, ht⟩ _) _
  obtain ⟨kx, ky, B0⟩ := ztwo_boxes w #[c0, c1, c2, c3, c4] #[.int .i64 0] 24 3
  have hr := zpmaybe_any S (w.heap.size + 1) (fun h => by have := hS _ h; omega) f t _ 0 1 _ (by omega) (by omega) (by omega) (by omega) ky hv2
  have hm := zleft_may t
  rw [show (24 : Int) - 0 = 24 from rfl, show (9 : Int) - 1 = 8 from rfl, hm] at hr
  clear hv2 hm
  obtain ⟨i0, l1, i2, i3, X4, n4, z4, rfl, rfl, rfl, rfl, rfl⟩ := ht.form
  unfold strV at *
  clear ht hS
  obtain ⟨r, hr0⟩ : ∃ r, r = mayS f t := ⟨_, rfl⟩
  rw [← hr0] at hr ⊢
  clear hr0
  cases r with
  | false =>
    rw [if_neg (by decide)]
    go_enter Tryz.func14, Tryz.ntmps14
    go_wp2_with fail
    refine hr.mono ?_
    rintro e w5 ⟨m, rfl, _, _, g5⟩
    have B5 := B0.trans (below_of_grown' g5 (by omega) (by simp; omega))
    clear hr g5
    go_wp2_with fail
    go_ret
    exact ⟨rfl, B5⟩
  | true =>
    rw [if_pos rfl]
    go_enter Tryz.func14, Tryz.ntmps14
    go_wp2_with fail
    refine hr.mono ?_
    rintro e w5 ⟨m, rfl, _, _, g5⟩
    have B5 := B0.trans (below_of_grown' g5 (by omega) (by simp; omega))
    clear hr g5
    go_wp2_with fail
    go_ret
    exact ⟨rfl, B5⟩
end
section
open Go.RowKit
def PTop : Prop := ∀ (S : Nat → Prop) (g : Nat) (ws : List Wv) (w : World), PW w g S (some ws) 0 → (∀ b, S b → b < w.heap.size) → ws.length ≤ 1000000 →
    Calls Tryz.prog 19 #[.pointer (some ⟨g, 0, none⟩)] w (PFactV w g S (84 + 1) (orV (f := 83) (factW 41) ws) 0)
theorem ptop_any : PTop := fun S g ws w h hS hL =>
  pscope_any g 84 S (andV (f := 83) (factW 41)) (andW_shrinks (factW_shrinks 41)) True 0 (pterm_any g 83 S (factW 41) (factW_shrinks 41) True 0 fun st w h1 h2 h3 _ => pfactor_any S 41 g 0 (by omega) (by omega) st w h1 h2 h3 (.inr ⟨rfl, by omega⟩)) (some ws) w h hS hL (.inr trivial)
set_option maxHeartbeats 4000000 in
theorem pparse_long (l : List UInt8) (hl : 1000 < l.length) (hm : l.length ≤ maxLen) (w : World) : Calls Tryz.prog 10 #[strV l] w (ParseZ w (zeroNs, 3)) := by
  have hs : ((⟨l.toArray⟩ : ByteArray).size : Int) = (l.length : Int) := rfl
  have K := KB.new w 24 #[.int .i64 0, .string ⟨#[]⟩, .int .i64 0, .int .i64 0, .slice none 0 0]
  have B := (Below.refl w.heap.size w).alloc (Nat.le_refl _) (.cells #[.int .i64 0, .string ⟨#[]⟩, .int .i64 0, .int .i64 0, .slice none 0 0] 24)
  have hml : l.length ≤ 9223372036854775807 := by unfold maxLen at hm; omega
  unfold strV
  generalize (⟨l.toArray⟩ : ByteArray) = s at *
  go_enter Tryz.func10, Tryz.ntmps10
  go_wp2_with fail
  exact bodyPost_ret (results_cell_tmp (P := Tryz.prog) (p := 2) (u := 3) rfl _ _ w.heap.size _ _ (0, 0) _ rfl K Tryz.underlying24 rfl (by kernel_rfl)) rfl ⟨_, rfl, zero_ZV _ _ _, B⟩
set_option maxHeartbeats 8000000 in
theorem pparse_short (l : List UInt8) (hl : l.length ≤ 1000) (w : World) (hT : Tabs w) (r : Ns (Sc 84) × Int) (o : Option (Sc (84 + 1) × List Wv)) (ho : o = orV (f := 83) (factW 41) (wordsW l))
    (r0 : o = none → r = (zeroNs, 2)) (r1 : ∀ x y ys, o = some (x, y :: ys) → r = (zeroNs, 2)) (r2 : ∀ x, o = some (x, []) → mayS (84 + 1) x = false → r = (zeroNs, 1)) (r3 : ∀ x : Sc (84 + 1), o = some (x, []) → mayS (84 + 1) x = true → r = ((x : Ns (Sc 84)), 0)) :
    Calls Tryz.prog 10 #[strV l] w (ParseZ w r) := by
  have hs : ((⟨l.toArray⟩ : ByteArray).size : Int) = (l.length : Int) := rfl
  have K := KB.new w 24 #[.int .i64 0, .string ⟨#[]⟩, .int .i64 0, .int .i64 0, .slice none 0 0]
  have B := (Below.refl w.heap.size w).alloc (Nat.le_refl _) (.cells #[.int .i64 0, .string ⟨#[]⟩, .int .i64 0, .int .i64 0, .slice none 0 0] 24)
  have hwd := split_any l hl (w.alloc (.cells #[.int .i64 0, .string ⟨#[]⟩, .int .i64 0, .int .i64 0, .slice none 0 0] 24))
  have hfew := wordsW_few l
  have htop := fun S g W => ptop_any S g (wordsW l) W
  rw [← ho] at htop
  clear ho
  generalize wordsW l = ws at *
  replace htop := Lib.hid htop
  replace r0 := Lib.hid r0
  replace r1 := Lib.hid r1
  replace r2 := Lib.hid r2
  replace r3 := Lib.hid r3
  replace hfew := Lib.hid hfew
  unfold strV at hwd ⊢
  generalize (⟨l.toArray⟩ : ByteArray) = s at *
  go_enter Tryz.func10, Tryz.ntmps10
  go_wp2_with fail
  refine hwd.mono ?_
  rintro e w1 ⟨v1, rfl, how, b1⟩
  have K1 := K.below b1 K.lt
  have B1 := B.trans (b1.mono B.size)
  have hcs := (CS.of_own how).lt
  obtain ⟨A1, c1, rfl, _⟩ := hcs.form
  have hn1 : (ws.map strV).length = ws.length := by simp
  have s1 : w.heap.size + 1 ≤ w1.heap.size := by have := b1.size; simpa using this
  have R1 : PW (w1.alloc (.cells #[.slice A1 (ws.map strV).length c1, .int .i64 0, .bool false] 45)) w1.heap.size (fun x => w.heap.size < x ∧ x < w1.heap.size) (some ws) 0 :=
    ⟨_, _, _, KB.new w1 _ _, (hcs.keep (by simp) fun b _ hb => Below.heap_alloc w1 _ b hb).mono fun b hb => ⟨by have := hb.1; simp at this; omega, hb.2⟩, by omega, (fun u hu => by have := hfew.out.2 u hu; omega), w, hT, B1.alloc B1.size _, by omega⟩
  have K2 := K1.alloc (.cells #[.slice A1 (ws.map strV).length c1, .int .i64 0, .bool false] 45)
  have B2 := B1.alloc B1.size (.cells #[.slice A1 (ws.map strV).length c1, .int .i64 0, .bool false] 45)
  have hc := htop.out _ w1.heap.size _ R1 (fun b hb => by simp; omega) (by have := hfew.out.1; omega)
  rw [hn1] at hc K2 B2
  clear R1 hcs how b1 B1 K1 hwd htop hfew K B hn1 hT
  go_wp2_with fail
  refine hc.mono ?_
  rintro e w3 ⟨v3, x3, rfl, R3, tv3, hx3, G3⟩
  replace hx3 := Lib.hid hx3
  obtain ⟨e0, e1, e2, e3, e4, rfl, tm⟩ := tv3
  obtain ⟨j0, l1, j2, j3, X4, n4, z4, rfl, rfl, rfl, rfl, rfl⟩ := tm.form
  unfold strV at *
  have K3 := (K2.grown G3 (by simp; omega)).alloc (.cells #[.int .i64 j0, .string ⟨l1.toArray⟩, .int .i64 j2, .int .i64 j3, .slice X4 n4 z4] 24)
  have B3 := B2.grown G3 B2.size (fun k hk => by injection hk with hk; omega)
  have B4 := B3.alloc B3.size (.cells #[.int .i64 j0, .string ⟨l1.toArray⟩, .int .i64 j2, .int .i64 j3, .slice X4 n4 z4] 24)
  have R4 := R3.alloc (.cells #[.int .i64 j0, .string ⟨l1.toArray⟩, .int .i64 j2, .int .i64 j3, .slice X4 n4 z4] 24)
  have g3 := G3.size
  rw [World.size_alloc] at g3
  clear hc K2 B2 B3 R3 G3
  cases o with
  | none =>
    have hr := r0.out rfl
    subst hr
    clear r0 r1 r2 r3 hx3
    obtain ⟨⟨Ar, cr, q1⟩, _, q2, _⟩ := R4.cells
    have q2 : (w3.alloc (.cells #[.int .i64 j0, .string ⟨l1.toArray⟩, .int .i64 j2, .int .i64 j3, .slice X4 n4 z4] 24)).cell? ⟨w1.heap.size, 2, none⟩ = some (.bool true) := q2
    clear R4 tm
    have c0 : (w3.alloc (.cells #[.int .i64 j0, .string ⟨l1.toArray⟩, .int .i64 j2, .int .i64 j3, .slice X4 n4 z4] 24)).cell? ⟨w.heap.size, 0, none⟩ = some (.int .i64 0) := K3.cell 0
    have c1 : (w3.alloc (.cells #[.int .i64 j0, .string ⟨l1.toArray⟩, .int .i64 j2, .int .i64 j3, .slice X4 n4 z4] 24)).cell? ⟨w.heap.size, 1, none⟩ = some (.string ⟨#[]⟩) := K3.cell 1
    have c2 : (w3.alloc (.cells #[.int .i64 j0, .string ⟨l1.toArray⟩, .int .i64 j2, .int .i64 j3, .slice X4 n4 z4] 24)).cell? ⟨w.heap.size, 2, none⟩ = some (.int .i64 0) := K3.cell 2
    have c3 : (w3.alloc (.cells #[.int .i64 j0, .string ⟨l1.toArray⟩, .int .i64 j2, .int .i64 j3, .slice X4 n4 z4] 24)).cell? ⟨w.heap.size, 3, none⟩ = some (.int .i64 0) := K3.cell 3
    have c4 : (w3.alloc (.cells #[.int .i64 j0, .string ⟨l1.toArray⟩, .int .i64 j2, .int .i64 j3, .slice X4 n4 z4] 24)).cell? ⟨w.heap.size, 4, none⟩ = some (.slice none 0 0) := K3.cell 4
    have f0 := K3.free 0
    have f1 := K3.free 1
    have f2 := K3.free 2
    have f3 := K3.free 3
    have f4 := K3.free 4
    go_wp2_with fail
    exact bodyPost_ret (results_cell_tmp (P := Tryz.prog) (p := 2) (u := 3) rfl _ _ w.heap.size _ _ (0, 0) _ rfl (zput_five K3) Tryz.underlying24 rfl (by kernel_rfl)) rfl ⟨_, rfl, zero_ZV _ _ _, B4.trans (below_of_grown' (zgrown_five _ _ _ _ _ _ _) (Nat.le_refl _) B4.size)⟩
  | some p =>
    obtain ⟨x, rest⟩ := p
    obtain rfl : x3 = x := hx3.out _ rfl
    obtain ⟨Ar, nr, cr, k1, k2, _⟩ := R4
    obtain ⟨wsr, rfl⟩ : ∃ wsr, wsr = rest := ⟨_, rfl⟩
    have k2 : CS _ _ (.slice Ar nr cr) (wsr.map strV) := k2
    obtain ⟨_, _, ea, hl2, hm2⟩ := k2.form
    injection ea with ea1 ea2 ea3
    subst ea1 ea2 ea3
    have q1 : (w3.alloc (.cells #[.int .i64 j0, .string ⟨l1.toArray⟩, .int .i64 j2, .int .i64 j3, .slice X4 n4 z4] 24)).cell? ⟨w1.heap.size, 0, none⟩ = some (.slice Ar (wsr.map strV).length cr) := k1.cell 0
    have q2 : (w3.alloc (.cells #[.int .i64 j0, .string ⟨l1.toArray⟩, .int .i64 j2, .int .i64 j3, .slice X4 n4 z4] 24)).cell? ⟨w1.heap.size, 2, none⟩ = some (.bool false) := k1.cell 2
    cases wsr with
    | cons y ys =>
      have hr := r1.out x3 y ys rfl
      subst hr
      have hlen : ((y :: ys).map strV).length ≤ 9223372036854775807 := by unfold maxLen at hm2; omega
      have hpos : (0 : Int) < (((y :: ys).map strV).length : Int) := by simp
      have hposN : 0 < ((y :: ys).map strV).length := by simp
      clear r0 r1 r2 r3 hx3 k1 k2 tm
      generalize ((y :: ys).map strV).length = ln at *
      have c0 : (w3.alloc (.cells #[.int .i64 j0, .string ⟨l1.toArray⟩, .int .i64 j2, .int .i64 j3, .slice X4 n4 z4] 24)).cell? ⟨w.heap.size, 0, none⟩ = some (.int .i64 0) := K3.cell 0
      have c1 : (w3.alloc (.cells #[.int .i64 j0, .string ⟨l1.toArray⟩, .int .i64 j2, .int .i64 j3, .slice X4 n4 z4] 24)).cell? ⟨w.heap.size, 1, none⟩ = some (.string ⟨#[]⟩) := K3.cell 1
      have c2 : (w3.alloc (.cells #[.int .i64 j0, .string ⟨l1.toArray⟩, .int .i64 j2, .int .i64 j3, .slice X4 n4 z4] 24)).cell? ⟨w.heap.size, 2, none⟩ = some (.int .i64 0) := K3.cell 2
      have c3 : (w3.alloc (.cells #[.int .i64 j0, .string ⟨l1.toArray⟩, .int .i64 j2, .int .i64 j3, .slice X4 n4 z4] 24)).cell? ⟨w.heap.size, 3, none⟩ = some (.int .i64 0) := K3.cell 3
      have c4 : (w3.alloc (.cells #[.int .i64 j0, .string ⟨l1.toArray⟩, .int .i64 j2, .int .i64 j3, .slice X4 n4 z4] 24)).cell? ⟨w.heap.size, 4, none⟩ = some (.slice none 0 0) := K3.cell 4
      have f0 := K3.free 0
      have f1 := K3.free 1
      have f2 := K3.free 2
      have f3 := K3.free 3
      have f4 := K3.free 4
      go_wp2_with fail
      exact bodyPost_ret (results_cell_tmp (P := Tryz.prog) (p := 2) (u := 3) rfl _ _ w.heap.size _ _ (0, 0) _ rfl (zput_five K3) Tryz.underlying24 rfl (by kernel_rfl)) rfl ⟨_, rfl, zero_ZV _ _ _, B4.trans (below_of_grown' (zgrown_five _ _ _ _ _ _ _) (Nat.le_refl _) B4.size)⟩
    | nil =>
      have q1 : (w3.alloc (.cells #[.int .i64 j0, .string ⟨l1.toArray⟩, .int .i64 j2, .int .i64 j3, .slice X4 n4 z4] 24)).cell? ⟨w1.heap.size, 0, none⟩ = some (.slice Ar 0 cr) := q1
      clear k1 k2 hl2 hm2
      have K7 := KB.new w3 24 #[.int .i64 j0, .string ⟨l1.toArray⟩, .int .i64 j2, .int .i64 j3, .slice X4 n4 z4]
      have tv3 : ZV (w3.alloc (.cells #[.int .i64 j0, .string ⟨l1.toArray⟩, .int .i64 j2, .int .i64 j3, .slice X4 n4 z4] 24)) (fun x => w.heap.size < x ∧ x < (w3.alloc (.cells #[.int .i64 j0, .string ⟨l1.toArray⟩, .int .i64 j2, .int .i64 j3, .slice X4 n4 z4] 24)).heap.size) (84 + 1) (.agg #[.int .i64 j0, .string ⟨l1.toArray⟩, .int .i64 j2, .int .i64 j3, .slice X4 n4 z4]) x3 := ZV.alloc ⟨_, _, _, _, _, rfl, ZX.keepS tm (Nat.le_refl _) (fun _ _ _ => rfl) fun x hx => ⟨by have := hx.1; simp at this; omega, by have := hx.2; simp; omega⟩⟩ _
      have hmy := zpcheck_any _ (84 + 1) x3 _ _ (fun b hb => hb.2) tv3
      clear tm
      cases hmay : mayS (84 + 1) x3 with
      | false =>
        have hr := r2.out x3 rfl hmay
        subst hr
        rw [hmay] at hmy
        rw [if_neg (by simp)] at hmy
        clear r0 r1 r2 r3 hx3 hmay
        have d0 : (w3.alloc (.cells #[.int .i64 j0, .string ⟨l1.toArray⟩, .int .i64 j2, .int .i64 j3, .slice X4 n4 z4] 24)).cell? ⟨w3.heap.size, 0, none⟩ = some (.int .i64 j0) := K7.cell 0
        have d1 : (w3.alloc (.cells #[.int .i64 j0, .string ⟨l1.toArray⟩, .int .i64 j2, .int .i64 j3, .slice X4 n4 z4] 24)).cell? ⟨w3.heap.size, 1, none⟩ = some (.string ⟨l1.toArray⟩) := K7.cell 1
        have d2 : (w3.alloc (.cells #[.int .i64 j0, .string ⟨l1.toArray⟩, .int .i64 j2, .int .i64 j3, .slice X4 n4 z4] 24)).cell? ⟨w3.heap.size, 2, none⟩ = some (.int .i64 j2) := K7.cell 2
        have d3 : (w3.alloc (.cells #[.int .i64 j0, .string ⟨l1.toArray⟩, .int .i64 j2, .int .i64 j3, .slice X4 n4 z4] 24)).cell? ⟨w3.heap.size, 3, none⟩ = some (.int .i64 j3) := K7.cell 3
        have d4 : (w3.alloc (.cells #[.int .i64 j0, .string ⟨l1.toArray⟩, .int .i64 j2, .int .i64 j3, .slice X4 n4 z4] 24)).cell? ⟨w3.heap.size, 4, none⟩ = some (.slice X4 n4 z4) := K7.cell 4
        go_wp2_with fail
        refine hmy.mono ?_
        rintro e w4 ⟨rfl, b4⟩
        have K4 := K3.below b4 K3.lt
        have K8 := K7.below b4 K7.lt
        have B5 := B4.trans (b4.mono B4.size)
        have tv4 := tv3.below' b4
        have s4 := b4.size
        clear hmy q1 q2 d0 d1 d2 d3 d4 K3 K7 B4 tv3 b4
        have c0 : (w4).cell? ⟨w.heap.size, 0, none⟩ = some (.int .i64 0) := K4.cell 0
        have c1 : (w4).cell? ⟨w.heap.size, 1, none⟩ = some (.string ⟨#[]⟩) := K4.cell 1
        have c2 : (w4).cell? ⟨w.heap.size, 2, none⟩ = some (.int .i64 0) := K4.cell 2
        have c3 : (w4).cell? ⟨w.heap.size, 3, none⟩ = some (.int .i64 0) := K4.cell 3
        have c4 : (w4).cell? ⟨w.heap.size, 4, none⟩ = some (.slice none 0 0) := K4.cell 4
        have f0 := K4.free 0
        have f1 := K4.free 1
        have f2 := K4.free 2
        have f3 := K4.free 3
        have f4 := K4.free 4
        go_wp2_with fail
        exact bodyPost_ret (results_cell_tmp (P := Tryz.prog) (p := 2) (u := 3) rfl _ _ w.heap.size _ _ (0, 0) _ rfl (zput_five K4) Tryz.underlying24 rfl (by kernel_rfl)) rfl ⟨_, rfl, zero_ZV _ _ _, B5.trans (below_of_grown' (zgrown_five _ _ _ _ _ _ _) (Nat.le_refl _) B5.size)⟩
      | true =>
        have hr := r3.out x3 rfl hmay
        subst hr
        rw [hmay] at hmy
        rw [if_pos rfl] at hmy
        clear r0 r1 r2 r3 hx3 hmay
        have d0 : (w3.alloc (.cells #[.int .i64 j0, .string ⟨l1.toArray⟩, .int .i64 j2, .int .i64 j3, .slice X4 n4 z4] 24)).cell? ⟨w3.heap.size, 0, none⟩ = some (.int .i64 j0) := K7.cell 0
        have d1 : (w3.alloc (.cells #[.int .i64 j0, .string ⟨l1.toArray⟩, .int .i64 j2, .int .i64 j3, .slice X4 n4 z4] 24)).cell? ⟨w3.heap.size, 1, none⟩ = some (.string ⟨l1.toArray⟩) := K7.cell 1
        have d2 : (w3.alloc (.cells #[.int .i64 j0, .string ⟨l1.toArray⟩, .int .i64 j2, .int .i64 j3, .slice X4 n4 z4] 24)).cell? ⟨w3.heap.size, 2, none⟩ = some (.int .i64 j2) := K7.cell 2
        have d3 : (w3.alloc (.cells #[.int .i64 j0, .string ⟨l1.toArray⟩, .int .i64 j2, .int .i64 j3, .slice X4 n4 z4] 24)).cell? ⟨w3.heap.size, 3, none⟩ = some (.int .i64 j3) := K7.cell 3
        have d4 : (w3.alloc (.cells #[.int .i64 j0, .string ⟨l1.toArray⟩, .int .i64 j2, .int .i64 j3, .slice X4 n4 z4] 24)).cell? ⟨w3.heap.size, 4, none⟩ = some (.slice X4 n4 z4) := K7.cell 4
        go_wp2_with fail
        refine hmy.mono ?_
        rintro e w4 ⟨rfl, b4⟩
        have K4 := K3.below b4 K3.lt
        have K8 := K7.below b4 K7.lt
        have B5 := B4.trans (b4.mono B4.size)
        have tv4 := tv3.below' b4
        have s4 := b4.size
        clear hmy q1 q2 d0 d1 d2 d3 d4 K3 K7 B4 tv3 b4
        have c0 : (w4).cell? ⟨w.heap.size, 0, none⟩ = some (.int .i64 0) := K4.cell 0
        have c1 : (w4).cell? ⟨w.heap.size, 1, none⟩ = some (.string ⟨#[]⟩) := K4.cell 1
        have c2 : (w4).cell? ⟨w.heap.size, 2, none⟩ = some (.int .i64 0) := K4.cell 2
        have c3 : (w4).cell? ⟨w.heap.size, 3, none⟩ = some (.int .i64 0) := K4.cell 3
        have c4 : (w4).cell? ⟨w.heap.size, 4, none⟩ = some (.slice none 0 0) := K4.cell 4
        have f0 := K4.free 0
        have f1 := K4.free 1
        have f2 := K4.free 2
        have f3 := K4.free 3
        have f4 := K4.free 4
        have d0 : (w4).cell? ⟨w3.heap.size, 0, none⟩ = some (.int .i64 j0) := K8.cell 0
        have d1 : (w4).cell? ⟨w3.heap.size, 1, none⟩ = some (.string ⟨l1.toArray⟩) := K8.cell 1
        have d2 : (w4).cell? ⟨w3.heap.size, 2, none⟩ = some (.int .i64 j2) := K8.cell 2
        have d3 : (w4).cell? ⟨w3.heap.size, 3, none⟩ = some (.int .i64 j3) := K8.cell 3
        have d4 : (w4).cell? ⟨w3.heap.size, 4, none⟩ = some (.slice X4 n4 z4) := K8.cell 4
        have hfin : ZV (((((w4.setCell ⟨w.heap.size, 0, none⟩ (.int .i64 j0)).setCell ⟨w.heap.size, 1, none⟩ (.string ⟨l1.toArray⟩)).setCell ⟨w.heap.size, 2, none⟩ (.int .i64 j2)).setCell ⟨w.heap.size, 3, none⟩ (.int .i64 j3)).setCell ⟨w.heap.size, 4, none⟩ (.slice X4 n4 z4)) (fun x => w.heap.size ≤ x ∧ x < (((((w4.setCell ⟨w.heap.size, 0, none⟩ (.int .i64 j0)).setCell ⟨w.heap.size, 1, none⟩ (.string ⟨l1.toArray⟩)).setCell ⟨w.heap.size, 2, none⟩ (.int .i64 j2)).setCell ⟨w.heap.size, 3, none⟩ (.int .i64 j3)).setCell ⟨w.heap.size, 4, none⟩ (.slice X4 n4 z4)).heap.size) (84 + 1) (.agg #[.int .i64 j0, .string ⟨l1.toArray⟩, .int .i64 j2, .int .i64 j3, .slice X4 n4 z4]) x3 :=
          tv4.keepL (Nat.le_of_eq (zsets_size _ _ _ _ _ _ _)) (fun x hx _ => zsets_block _ _ _ _ _ _ _ _ (by have := hx.1; omega)) fun x hx hlt => ⟨by have := hx.1; omega, by rw [← zsets_size]; exact hlt⟩
        replace hfin := Lib.hid hfin
        clear tv4
        go_wp2_with fail
        exact bodyPost_ret (results_cell_tmp (P := Tryz.prog) (p := 2) (u := 3) rfl _ _ w.heap.size _ _ (0, 0) _ rfl (zput_five K4) Tryz.underlying24 rfl (by kernel_rfl)) rfl ⟨_, rfl, hfin.out, B5.trans (below_of_grown' (zgrown_five _ _ _ _ _ _ _) (Nat.le_refl _) B5.size)⟩
theorem pparse_any (l : List UInt8) (hm : l.length ≤ maxLen) (w : World) (hT : Tabs w) : Calls Tryz.prog 10 #[strV l] w (ParseZ w (parseSc l)) := by
  rw [parse_is]
  by_cases h : 1000 < l.length
  · rw [if_pos h]; exact pparse_long l h hm w
  · rw [if_neg h]
    refine pparse_short l (by omega) w hT _ _ rfl (fun e => ?_) (fun x y ys e => ?_) (fun x e hb => ?_) (fun x e hb => ?_)
    · rw [e]; rfl
    · rw [e]; rfl
    · rw [e]; exact if_neg (by rw [hb]; simp)
    · rw [e]; exact if_pos hb
end
section
open Go.RowKit
theorem digit_one_fin : ∀ r : Fin 10, (([48, 49, 50, 51, 52, 53, 54, 55, 56, 57] : List UInt8).drop r.val).take (r.val + 1 - r.val) = [UInt8.ofNat (48 + r.val)] := by decide
theorem digit_txt (r : Nat) (hr : r < 10) : ∀ W : World, (Instr.slice 9 (.string { data := #[48, 49, 50, 51, 52, 53, 54, 55, 56, 57] }) (some (.int .u64 (r : Int))) (some (.int .u64 ((r : Int) + 1))) none).run Tryz.prog W = .ok (.string ⟨[UInt8.ofNat (48 + r)].toArray⟩) W := fun W => by
  have h := txt_mid [48, 49, 50, 51, 52, 53, 54, 55, 56, 57] .u64 .u64 r (r + 1) (by omega) (by simp; omega) W
  rw [digit_one_fin ⟨r, hr⟩] at h
  exact h
def restD (m : Nat) : List UInt8 := if m = 0 then [] else Lib.decDigits m
theorem digits_step (m : Nat) : Lib.decDigits m = restD (m / 10) ++ [UInt8.ofNat (48 + m % 10)] := by
  unfold restD
  by_cases h : m < 10
  · rw [if_pos (by omega), Lib.decDigits_one h, Nat.mod_eq_of_lt h]; rfl
  · rw [if_neg (by omega), Lib.decDigits, dif_neg h]
theorem rest_step {m : Nat} {t l : List UInt8} (h0 : 0 < m) (h : restD m ++ t = l) : restD (m / 10) ++ (UInt8.ofNat (48 + m % 10) :: t) = l := by
  rw [← h]
  have e : restD m = Lib.decDigits m := by unfold restD; rw [if_neg (by omega)]
  rw [e, digits_step m, List.append_assoc]
  rfl
set_option maxHeartbeats 2000000 in
theorem tell_any (n : Nat) (hn : n < 18446744073709551616) (w : World) :
    Calls Tryz.prog 44 #[.int .u64 (n : Int)] w fun e w' => e = .returned (strV (Lib.decDigits n)) ∧ w = w' := by
  obtain ⟨r, hr⟩ : ∃ r, r = n % 10 := ⟨_, rfl⟩
  obtain ⟨q, hq⟩ : ∃ q, q = n / 10 := ⟨_, rfl⟩
  have er : Int.tmod (n : Int) 10 = (r : Int) := by rw [hr]; rfl
  have eq : Int.tdiv (n : Int) 10 = (q : Int) := by rw [hq]; rfl
  have hr10 : r < 10 := by omega
  have hdt := digit_txt r hr10
  have hst : Hid (restD q ++ [UInt8.ofNat (48 + r)] = Lib.decDigits n) := by rw [hq, hr]; exact (digits_step n).symm
  have hlen : (Lib.decDigits n).length ≤ 20 := by rw [Lib.decDigits_length]; exact Lib.nDigits_le20 n hn
  obtain ⟨l, hl⟩ : ∃ l, l = Lib.decDigits n := ⟨_, rfl⟩
  rw [← hl] at hst hlen ⊢
  have hq2 : q ≤ n := by omega
  unfold strV
  obtain ⟨t0, ht0⟩ : ∃ t, t = [UInt8.ofNat (48 + r)] := ⟨_, rfl⟩
  rw [← ht0] at hst hdt
  obtain ⟨s0, hs0⟩ : ∃ s : ByteArray, s = ⟨t0.toArray⟩ := ⟨_, rfl⟩
  rw [← hs0] at hdt
  have HS0 := Lib.hid hs0
  obtain ⟨lv, hlv⟩ : ∃ s : ByteArray, s = ⟨l.toArray⟩ := ⟨_, rfl⟩
  rw [← hlv]
  have HLV := Lib.hid hlv
  have HLEN := Lib.hid hlen
  clear hl ht0 hs0 hlv hr hq hlen
  go_enter Tryz.func44, Tryz.ntmps44
  go_wp2
  clear er eq hr10 hdt
  go_loop [0, 3] (fun nv sv => ∃ (m : Nat) (t : List UInt8) (s : ByteArray), m ≤ n ∧ nv = .int .u64 m ∧ sv = .string s ∧ Hid (s = ⟨t.toArray⟩) ∧ Hid (restD m ++ t = l)) (fun nv _ => (intOf nv).toNat)
  case atStart => exact ⟨q, t0, s0, hq2, rfl, rfl, HS0, hst⟩
  case round =>
    obtain ⟨m, t, s, hmn, rfl, rfl, hs, ht⟩ := hrel
    by_cases h0 : 0 < m
    · obtain ⟨r2, hr⟩ : ∃ r, r = m % 10 := ⟨_, rfl⟩
      obtain ⟨q2, hq⟩ : ∃ q, q = m / 10 := ⟨_, rfl⟩
      have er : Int.tmod (m : Int) 10 = (r2 : Int) := by rw [hr]; rfl
      have eq : Int.tdiv (m : Int) 10 = (q2 : Int) := by rw [hq]; rfl
      have hr10 : r2 < 10 := by omega
      have hdt := digit_txt r2 hr10
      have ht2 := rest_step h0 ht.out
      rw [← hr, ← hq] at ht2
      have hlt : t.length ≤ 20 := by
        have := congrArg List.length ht.out
        rw [List.length_append] at this
        have := HLEN.out
        omega
      have hadd := txt_add [UInt8.ofNat (48 + r2)] t (by simp; omega)
      rw [← hs.out] at hadd
      obtain ⟨s1, hs1⟩ : ∃ s : ByteArray, s = ⟨[UInt8.ofNat (48 + r2)].toArray⟩ := ⟨_, rfl⟩
      obtain ⟨s2, hs2⟩ : ∃ s : ByteArray, s = ⟨([UInt8.ofNat (48 + r2)] ++ t).toArray⟩ := ⟨_, rfl⟩
      rw [← hs1] at hdt hadd
      rw [← hs2] at hadd
      have HS2 := Lib.hid hs2
      have HT2 := Lib.hid ht2
      have hq3 : q2 < m := by omega
      clear hs1 hs2 ht2 hs ht hlt hr hq HLEN HLV HS0 hst
      go_wp2
      go_round
      case rel => exact ⟨q2, [UInt8.ofNat (48 + r2)] ++ t, s2, by omega, by go_num, rfl, HS2, HT2⟩
      case measure => simp [intOf]; omega
    · obtain rfl : m = 0 := by omega
      have e : lv = s := by
        rw [HLV.out, hs.out, ← ht.out]
        rfl
      subst e
      clear hs ht HLEN HLV HS0 hst
      go_wp2
      go_ret
      exact ⟨rfl, rfl⟩
end
end Go.Proofs.YtjecjlhofnnnpaaGreatDoor
