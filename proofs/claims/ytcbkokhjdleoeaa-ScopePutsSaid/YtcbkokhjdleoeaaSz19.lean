/-
  SdH: The program's within, mayBe and Check (layer 20), over the loaded program: each one's contract. No condition but the sizes that each contract names.
  SdM: The program's read (layer 20): what its walk rests on; where it reads nothing. No condition but the sizes that each contract names.
  SdN: The program's read (layer 20): what of it is read by kind, how much is left, one kid more, and the end of the walk where a scope is told. No condition.
  SdOa: The program's read (layer 20), over the loaded program: of no kind. No condition but the sizes that it names.
-/
import Derived.Test.YtcbkokhjdleoeaaSz18
import Derived.Test.YtcbkokhjdleoeaaSz14
import Derived.Test.YtcbkokhjdleoeaaSz10
import Derived.Test.YtcbkokhjdleoeaaSz05
import Derived.Test.YtcbkokhjdleoeaaSz11
import Derived.Test.YtcbkokhjdleoeaaSz01
set_option linter.unusedVariables false
set_option maxRecDepth 100000
namespace Go.Proofs.Ytcbkokhjdleoeaa
section
open Go.RowKit
theorem ZV.grown {w w' : World} {S : Nat → Prop} {f : Nat} {v : Value} {t : Sc f} {p : Nat} (h : ZV w S f v t) (hg : w.grownBy w' (some p)) (hp : ¬ S p) : ZV w' S f v t :=
  h.keepL hg.size (fun b sb hb => hg.block b hb (by intro e; injection e with e; exact hp (e ▸ sb))) fun _ h _ => h
set_option maxHeartbeats 2000000 in
theorem zwithin_any (p : Nat) (n d : Int) (w : World) (h0 : 0 ≤ n) (h1 : n ≤ 1000) (h : KB w p 3 #[.int .i64 n]) :
    Calls Try.prog 45 #[.int .i64 d, .pointer (some ⟨p, 0, none⟩)] w fun e w' => e = .returned (.bool (decide (n + 1 ≤ 24 ∧ d ≤ 8))) ∧ KB w' p 3 #[.int .i64 (n + 1)] ∧ w.grownBy w' (some p) := by
  have c0 : w.cell? ⟨p, 0, none⟩ = some (.int .i64 n) := h.cell 0
  have f0 := h.free 0
  have K1 : KB (w.setCell ⟨p, 0, none⟩ (.int .i64 (n + 1))) p 3 #[.int .i64 (n + 1)] := h.put 0 _
  have G1 := grown_set w p 0 (.int .i64 (n + 1))
  have c1 : (w.setCell ⟨p, 0, none⟩ (.int .i64 (n + 1))).cell? ⟨p, 0, none⟩ = some (.int .i64 (n + 1)) := K1.cell 0
  have W1 : wrap64 (n + 1) = n + 1 := IntWalk.wrap64_in _ (by omega)
  have I1 : IntKind.i64.wrap (n + 1) = n + 1 := by rw [IntKind.wrap_i64]; omega
  have hp := h.lt
  by_cases a1 : n + 1 ≤ 24
  · have E1 : decide (n + 1 ≤ 24) = true := decide_eq_true a1
    by_cases a2 : d ≤ 8
    · have E2 : decide (d ≤ 8) = true := decide_eq_true a2
      rw [decide_eq_true (show n + 1 ≤ 24 ∧ d ≤ 8 from ⟨a1, a2⟩)]
      clear h
      go_enter Try.func45, Try.ntmps45
      go_wp2_with fail
      go_ret
      exact ⟨rfl, K1, G1⟩
    · have E2 : decide (d ≤ 8) = false := decide_eq_false a2
      rw [decide_eq_false (show ¬ (n + 1 ≤ 24 ∧ d ≤ 8) from fun h => a2 h.2)]
      clear h
      go_enter Try.func45, Try.ntmps45
      go_wp2_with fail
      go_ret
      exact ⟨rfl, K1, G1⟩
  · have E1 : decide (n + 1 ≤ 24) = false := decide_eq_false a1
    rw [decide_eq_false (show ¬ (n + 1 ≤ 24 ∧ d ≤ 8) from fun h => a1 h.1)]
    clear h
    go_enter Try.func45, Try.ntmps45
    go_wp2_with fail
    go_ret
    exact ⟨rfl, K1, G1⟩
def MayIh (S : Nat → Prop) (p f : Nat) : Prop := ∀ (t : Sc f) (v : Value) (n d : Int) (w : World), 0 ≤ n → n ≤ 24 → 1 ≤ d → d ≤ 9 → KB w p 3 #[.int .i64 n] → ZV w S f v t →
    Calls Try.prog 26 #[v, .int .i64 d, .pointer (some ⟨p, 0, none⟩)] w fun e w' => ∃ m : Int, e = .returned (.bool (decide (0 ≤ leftS f t (24 - n) (9 - d)))) ∧ KB w' p 3 #[.int .i64 m] ∧ (0 ≤ leftS f t (24 - n) (9 - d) → m = 24 - leftS f t (24 - n) (9 - d)) ∧ w.grownBy w' (some p)
set_option maxHeartbeats 8000000 in
theorem zpmaybe_any (S : Nat → Prop) (p : Nat) (hSp : ¬ S p) : ∀ f : Nat, MayIh S p f := by
  intro f
  induction f with
  | zero => intro t; exact nomatch t
  | succ f ih =>
    intro t v n d w hn0 hn1 hd0 hd1 hp hv
    have hv0 := hv
    change Ns (Sc f) at t
    obtain ⟨c0, c1, c2, c3, c4, rfl, rfl, hk, rfl, hml, rfl, hfr, rfl, hto, hks⟩ := hv
    obtain ⟨A3, cap3, e3, hl3, hm3⟩ := hks.form
    rw [e3] at hks hv0 ⊢
    clear e3
    have hlen : t.kids.length ≤ 9223372036854775807 := by unfold maxLen at hm3; omega
    obtain ⟨L, hL⟩ : ∃ L, L = leftS (f + 1) t (24 - n) (9 - d) := ⟨_, rfl⟩
    rw [← hL]
    have HW : Hid (¬ (n + 1 ≤ 24 ∧ d ≤ 8) → L = -1) := fun h => by
      rw [hL]
      by_cases a : n + 1 ≤ 24
      · exact zleft_flat t (by have : ¬ d ≤ 8 := fun b => h ⟨a, b⟩; omega)
      · exact zleft_low _ (by omega)
    have HU : Hid (fitsS t = false → L = -1) := fun h => hL.trans (zleft_unfit t h)
    have HF : Hid (d ≤ 8 → fitsS t = true → (∀ m : Int, (((t.kids.take t.kids.length).all fun u => okS f u (8 - d)) = true) → m = 24 - n - 1 - (sumS f t.kids t.kids.length : Int) → 0 ≤ m → L = m)) :=
      fun hd a m b c e => hL.trans (zleft_all t a (by omega) (by rw [show 9 - d - 1 = 8 - d from by omega]; exact b) c e)
    have HST : Hid (∀ (m : Int) (j : Nat) (hj : j < t.kids.length), m = 24 - n - 1 - (sumS f t.kids j : Int) → leftS f t.kids[j] m (8 - d) < 0 → L = -1) := fun m j hj a b => hL.trans (zleft_stop t hj a (by rw [show 9 - d - 1 = 8 - d from by omega]; exact b))
    have HGO : Hid (∀ (m : Int) (j : Nat) (hj : j < t.kids.length), m = 24 - n - 1 - (sumS f t.kids j : Int) → ((t.kids.take j).all fun u => okS f u (8 - d)) = true → 0 ≤ leftS f t.kids[j] m (8 - d) →
        leftS f t.kids[j] m (8 - d) = 24 - n - 1 - (sumS f t.kids (j + 1) : Int) ∧ ((t.kids.take (j + 1)).all fun u => okS f u (8 - d)) = true) := fun m j hj a b e => by
      have := zleft_step (n := 24 - n) (d := 9 - d) t hj a (by rw [show 9 - d - 1 = 8 - d from by omega]; exact b) (by rw [show 9 - d - 1 = 8 - d from by omega]; exact e)
      rw [show 9 - d - 1 = 8 - d from by omega] at this
      exact this
    have HLE : Hid (∀ (m : Int) (j : Nat) (hj : j < t.kids.length), -1 ≤ m → leftS f t.kids[j] m (8 - d) ≤ m) := fun m j hj h => (zleft_le t.kids[j] m (8 - d) h).2
    obtain ⟨D, hD⟩ : ∃ D : Ending → World → Prop, D = fun e w' => ∃ m : Int, e = .returned (.bool (decide (0 ≤ L))) ∧ KB w' p 3 #[.int .i64 m] ∧ (0 ≤ L → m = 24 - L) ∧ w.grownBy w' (some p) := ⟨_, rfl⟩
    have HNO : Hid (L = -1 → ∀ W (m : Int), KB W p 3 #[.int .i64 m] → w.grownBy W (some p) → D (.returned (.bool false)) W) := fun h W m hk hg => by
      rw [hD, h]
      exact ⟨m, rfl, hk, fun h => absurd h (by decide), hg⟩
    have HYES : Hid (∀ W (m : Int), L = m → 0 ≤ m → KB W p 3 #[.int .i64 (24 - m)] → w.grownBy W (some p) → D (.returned (.bool true)) W) := fun W m h h0 hk hg => by
      rw [hD, h]
      exact ⟨24 - m, by rw [decide_eq_true h0], hk, fun _ => rfl, hg⟩
    rw [← hD]
    clear hD hL
    have B0 := (Below.refl w.heap.size w).alloc (Nat.le_refl _) (.cells #[.int .i64 t.op, strV t.name, .int .i64 t.from_, .int .i64 t.to_, .slice A3 t.kids.length cap3] 24)
    have kb := KB.new w 24 #[.int .i64 t.op, strV t.name, .int .i64 t.from_, .int .i64 t.to_, .slice A3 t.kids.length cap3]
    have hplt := hp.lt
    have hne : (some p : Option Nat) ≠ some w.heap.size := by intro e; injection e with e; omega
    have hwi := zwithin_any p n d _ hn0 (by omega) (hp.alloc (.cells #[.int .i64 t.op, strV t.name, .int .i64 t.from_, .int .i64 t.to_, .slice A3 t.kids.length cap3] 24))
    have HFI := Lib.hid (fun W (hW : w.grownBy W (some p)) => zpfits_any S f t _ W (hv0.grown hW hSp))
    have G0 : w.grownBy (w.alloc (.cells #[.int .i64 t.op, strV t.name, .int .i64 t.from_, .int .i64 t.to_, .slice A3 t.kids.length cap3] 24)) (some p) := grown_of_below B0 _
    clear hv0 hp
    generalize t.op = k at *
    generalize t.from_ = fr at *
    generalize t.to_ = to_ at *
    generalize t.name = l at *
    unfold strV at *
    generalize (⟨l.toArray⟩ : ByteArray) = s at *
    generalize fitsS t = ft at *
    generalize t.kids = ks at *
    clear t
    obtain ⟨kl, hkl⟩ : ∃ kl, kl = ks.length := ⟨_, rfl⟩
    rw [← hkl] at hks hl3 hlen hwi HFI B0 kb G0 ⊢
    have HKL := Lib.hid hkl
    clear hkl
    have W1 : wrap64 (d + 1) = d + 1 := IntWalk.wrap64_in _ (by omega)
    have I1 : IntKind.i64.wrap (d + 1) = d + 1 := by rw [IntKind.wrap_i64]; omega
    go_enter Try.func26, Try.ntmps26
    go_wp2_with fail
    refine hwi.mono ?_
    rintro e w1 ⟨rfl, P1, G1⟩
    have G01 := grown_trans G0 G1
    have kb1 := kb.grown G1 hne
    clear hwi kb B0 G0 G1
    by_cases a1 : n + 1 ≤ 24 ∧ d ≤ 8
    case neg =>
      have hd := HNO.out (HW.out a1) w1 _ P1 G01
      rw [decide_eq_false a1]
      clear HW HU HF HST HGO HLE HNO HYES HFI
      go_wp2_with fail
      first | exact hd | (go_ret; exact hd)
    rw [decide_eq_true a1]
    have q0 := kb1.cell 0
    have q1 := kb1.cell 1
    have q2 := kb1.cell 2
    have q3 := kb1.cell 3
    have q4 := kb1.cell 4
    simp only [List.getElem?_toArray, List.getElem?_cons_zero, List.getElem?_cons_succ] at q0 q1 q2 q3 q4
    go_wp2_with fail
    refine (HFI.out w1 G01).mono ?_
    rintro e w2 ⟨rfl, b2⟩
    have G02 := grown_trans G01 (grown_of_below b2 _)
    have P2 := P1.below b2 P1.lt
    have kb2 := kb1.below b2 kb1.lt
    clear G01 P1 kb1 q0 q1 q2 q3 q4 b2 HFI HW
    cases ft with
    | false =>
      have hd := HNO.out (HU.out rfl) w2 _ P2 G02
      clear HU HF HST HGO HLE HNO HYES
      go_wp2_with fail
      first | exact hd | (go_ret; exact hd)
    | true =>
      have HF2 := Lib.hid (HF.out a1.2 rfl)
      have hd8 := a1.2
      have hn24 := a1.1
      clear HU HF a1
      have q4 : w2.cell? ⟨w.heap.size, 4, none⟩ = some (.slice A3 kl cap3) := kb2.cell 4
      go_wp2_with fail
      clear q4
      go_loopw [21] (fun iv wr => ∃ (j : Nat) (c : Int), j ≤ kl ∧ c = n + 1 + (sumS f ks j : Int) ∧ c ≤ 24 ∧ Hid (((ks.take j).all fun u => okS f u (8 - d)) = true) ∧ iv = .int .i64 j ∧ KB wr p 3 #[.int .i64 c] ∧ w.grownBy wr (some p)) (fun iv _ => kl - (intOf iv).toNat)
      case atStart => exact ⟨0, n + 1, by omega, by simp [sumS], by omega, by simp [Lib.hid], rfl, P2, G02⟩
      case round =>
        clear P2 G02 kb2
        obtain ⟨j, c, hj, hc, hc24, hall, rfl, P, G⟩ := hrel
        have HCC := Lib.hid hc
        clear hc
        by_cases hlt : j < kl
        · have hltI : (j : Int) < (kl : Int) := by omega
          have hlt2 : j < ks.length := by have := HKL.out; omega
          obtain ⟨b, o, e0, e1, e2, e3, e4, rfl, hb, k0, k1, k2, k3, k4, hx⟩ := kid_z hks HKL.out.symm G.size (fun b sb hb => G.block b hb (by intro e; injection e with e; exact hSp (e ▸ sb))) j hlt2
          have hkd := ih ks[j] (.agg #[e0, e1, e2, e3, e4]) c (d + 1) (wr.alloc (.cells #[e0, e1, e2, e3, e4] 24)) (by have := HCC.out; omega) hc24 (by omega) (by omega) (P.alloc _) ⟨_, _, _, _, _, rfl, hx.alloc _⟩
          rw [show 9 - (d + 1) = 8 - d from by omega] at hkd
          have HS2 : Hid (leftS f ks[j] (24 - c) (8 - d) < 0 → L = -1) := fun h => HST.out (24 - c) j hlt2 (by have := HCC.out; omega) h
          have HG2 : Hid (0 ≤ leftS f ks[j] (24 - c) (8 - d) → leftS f ks[j] (24 - c) (8 - d) = 24 - n - 1 - (sumS f ks (j + 1) : Int) ∧ ((ks.take (j + 1)).all fun u => okS f u (8 - d)) = true) := fun h => HGO.out (24 - c) j hlt2 (by have := HCC.out; omega) hall.out h
          obtain ⟨i0, l1, i2, i3, X4, n4, z4, rfl, rfl, rfl, rfl, rfl⟩ := hx.form
          unfold strV at *
          generalize (⟨l1.toArray⟩ : ByteArray) = s1 at *
          have G1 : w.grownBy (wr.alloc (.cells #[.int .i64 i0, .string s1, .int .i64 i2, .int .i64 i3, .slice X4 n4 z4] 24)) (some p) := grown_trans G (grown_of_below ((Below.refl _ _).alloc (Nat.le_refl _) _) _)
          have hbr : b < wr.heap.size := Nat.lt_of_lt_of_le hb G.size
          clear hx hks HF2 HST HGO HLE HYES P
          obtain ⟨M, hM⟩ : ∃ M, M = leftS f ks[j] (24 - c) (8 - d) := ⟨_, rfl⟩
          rw [← hM] at hkd HS2 HG2
          clear hM
          go_wp2_with fail
          refine hkd.mono ?_
          rintro e w5 ⟨m, rfl, P5, hm5, g5⟩
          have G5 := grown_trans G1 g5
          clear hkd G1 g5 k0 k1 k2 k3 k4 G
          by_cases hM0 : 0 ≤ M
          · obtain ⟨h1, h2⟩ := HG2.out hM0
            have hm := hm5 hM0
            have h2 := Lib.hid h2
            rw [decide_eq_true hM0]
            clear HS2 HG2 hm5
            have H1 := Lib.hid h1
            have HM := Lib.hid hm
            have HM0 := Lib.hid hM0
            clear h1 hm hM0
            go_wp2_with fail
            go_roundw
            case rel => exact ⟨j + 1, m, by omega, by have := H1.out; have := HM.out; omega, by have := HM.out; have := HM0.out; omega, h2, by go_num, P5, G5⟩
            case measure => simp [intOf]; omega
          · have hd := HNO.out (HS2.out (by omega)) w5 _ P5 G5
            rw [decide_eq_false hM0]
            clear HS2 HG2 hm5
            go_wp2_with fail
            first | exact hd | (go_ret; exact hd)
        · obtain rfl : j = kl := by omega
          have hd := HYES.out wr (24 - c) (HF2.out (24 - c) (by have := hall.out; rw [← HKL.out]; exact this) (by have := HCC.out; rw [← HKL.out]; omega) (by omega)) (by omega) (by rw [show 24 - (24 - c) = c from by omega]; exact P) G
          clear HF2 HST HGO HLE HNO HYES
          go_wp2_with fail
          first | exact hd | (go_ret; exact hd)
theorem zpcheck_any (S : Nat → Prop) (f : Nat) (t : Sc f) (v : Value) (w : World) (hS : ∀ b, S b → b < w.heap.size) (hv : ZV w S f v t) :
    Calls Try.prog 14 #[v] w fun e w' => e = .returned (.int .i64 (if mayS f t = true then 0 else 1)) ∧ Below w.heap.size w w' := by
  obtain ⟨c0, c1, c2, c3, c4, rfl, ht⟩ := hv
  have hv2 : ZV ((w.alloc (.cells #[c0, c1, c2, c3, c4] 24)).alloc (.cells #[.int .i64 0] 3)) S f (.agg #[c0, c1, c2, c3, c4]) t := ZV.alloc (ZV.alloc ⟨c0, c1, c2, c3, c4, rfl, ht⟩ _) _
  obtain ⟨kx, ky, B0⟩ := ztwo_boxes w #[c0, c1, c2, c3, c4] #[.int .i64 0] 24 3
  have hr := zpmaybe_any S (w.heap.size + 1) (fun h => by have := hS _ h; omega) f t _ 0 1 _ (by omega) (by omega) (by omega) (by omega) ky hv2
  have hm := zleft_may t
  rw [show (24 : Int) - 0 = 24 from rfl, show (9 : Int) - 1 = 8 from rfl, hm] at hr
  clear hv2 hm
  obtain ⟨i0, l1, i2, i3, X4, n4, z4, rfl, rfl, rfl, rfl, rfl⟩ := ht.form
  unfold strV at *
  clear ht hS
  obtain ⟨r, hr0⟩ : ∃ r, r = mayS f t := ⟨_, rfl⟩
  rw [← hr0] at hr ⊢
  clear hr0
  cases r with
  | false =>
    rw [if_neg (by decide)]
    go_enter Try.func14, Try.ntmps14
    go_wp2_with fail
    refine hr.mono ?_
    rintro e w5 ⟨m, rfl, _, _, g5⟩
    have B5 := B0.trans (below_of_grown' g5 (by omega) (by simp; omega))
    clear hr g5
    go_wp2_with fail
    go_ret
    exact ⟨rfl, B5⟩
  | true =>
    rw [if_pos rfl]
    go_enter Try.func14, Try.ntmps14
    go_wp2_with fail
    refine hr.mono ?_
    rintro e w5 ⟨m, rfl, _, _, g5⟩
    have B5 := B0.trans (below_of_grown' g5 (by omega) (by simp; omega))
    clear hr g5
    go_wp2_with fail
    go_ret
    exact ⟨rfl, B5⟩
end
section
open Go.RowKit
def KeepRC (w : World) (g p : Nat) : Nat → Prop := fun b => b < w.heap.size ∧ b ≠ g ∧ b ≠ p
def ReadP (w : World) (g p : Nat) (S : Nat → Prop) (k : Nat) (R : Option (Option (List UInt8) × Nat × Ns (Sc k))) (e : Ending) (w' : World) : Prop :=
  KeepP (KeepRC w g p) w w' ∧ (R = none → e = .returned (.tuple #[.agg #[.int .i64 0, .string ⟨#[]⟩, .int .i64 0, .int .i64 0, .slice none 0 0], .bool false])) ∧
    ∀ X, R = some X → ∃ v, e = .returned (.tuple #[v, .bool true]) ∧ RD w' g S X.1 ∧ KB w' p 3 #[.int .i64 (X.2.1 : Int)] ∧ ZV w' (fun b => w.heap.size ≤ b ∧ b < w'.heap.size) (k + 1) v X.2.2
def ReadIhP (S : Nat → Prop) (g p k : Nat) : Prop := ∀ (st : Option (List UInt8)) (n : Nat) (w : World), RD w g S st → KB w p 3 #[.int .i64 (n : Int)] → (∀ b, S b → b < w.heap.size) → n ≤ 24 → (st.getD []).length ≤ 1000000 → k ≤ 8 →
    Calls Try.prog 28 #[.pointer (some ⟨g, 0, none⟩), .int .i64 (9 - (k : Int)), .pointer (some ⟨p, 0, none⟩)] w (ReadP w g p S k (readB k st n))
theorem RD.grownP {w w' : World} {g p : Nat} {S : Nat → Prop} {st : Option (List UInt8)} (h : RD w g S st) (hg : w.grownBy w' (some p)) (hne : g ≠ p) (hSp : ¬ S p) : RD w' g S st :=
  h.keep hg.size (hg.block g h.lt (by intro e; injection e with e; first | exact hne e | exact hne e.symm)) fun b sb hb => hg.block b hb (by intro e; injection e with e; exact hSp (e ▸ sb))
theorem RD.far {w : World} {g h i : Nat} {S : Nat → Prop} {st : Option (List UInt8)} {u : Value} (r : RD w g S st) (hne : h ≠ g) (hS : ¬ S h) : RD (w.setCell ⟨h, i, none⟩ u) g S st :=
  r.grownP (grown_set w h i u) (fun e => hne e.symm) hS
theorem RD.alloc {w : World} {g : Nat} {S : Nat → Prop} {st : Option (List UInt8)} (r : RD w g S st) (o : Obj) : RD (w.alloc o) g S st := r.below ((Below.refl _ _).alloc (Nat.le_refl _) o)
theorem KeepP.five {P : Nat → Prop} {w w' : World} {g : Nat} (h : KeepP P w w') (hg : ¬ P g) (x y z u v : Value) : KeepP P w (((((w'.setCell ⟨g, 0, none⟩ x).setCell ⟨g, 1, none⟩ y).setCell ⟨g, 2, none⟩ z).setCell ⟨g, 3, none⟩ u).setCell ⟨g, 4, none⟩ v) :=
  ((((h.set ⟨g, 0, none⟩ hg x).set ⟨g, 1, none⟩ hg y).set ⟨g, 2, none⟩ hg z).set ⟨g, 3, none⟩ hg u).set ⟨g, 4, none⟩ hg v
theorem KeepRC.lt {w : World} {g p : Nat} : ∀ x, KeepRC w g p x → x < w.heap.size := fun x h => h.1
theorem KeepRC.new {w : World} {g p x : Nat} (h : w.heap.size ≤ x) : ¬ KeepRC w g p x := fun k => by have := k.1; omega
theorem KeepRC.rows {w : World} {g p : Nat} : (∀ r, some g = some r → ¬ KeepRC w g p r) ∧ (∀ r, some p = some r → ¬ KeepRC w g p r) :=
  ⟨fun r e k => by injection e with e; exact k.2.1 e.symm, fun r e k => by injection e with e; exact k.2.2 e.symm⟩
set_option maxHeartbeats 4000000 in
theorem zpread_fails (S : Nat → Prop) (g p k : Nat) (hgp : g ≠ p) (hSp : ¬ S p) (st : Option (List UInt8)) (n : Nat) (w : World) (h : RD w g S st) (hp : KB w p 3 #[.int .i64 (n : Int)]) (hS : ∀ b, S b → b < w.heap.size) (hn : n ≤ 24) (hl : (st.getD []).length ≤ 1000000) (hk : k ≤ 8)
    (hh : (passed 1 st).2 = [] ∨ ((∃ b l, st = some (b :: l)) ∧ (24 ≤ n ∨ k = 0))) :
    Calls Try.prog 28 #[.pointer (some ⟨g, 0, none⟩), .int .i64 (9 - (k : Int)), .pointer (some ⟨p, 0, none⟩)] w (ReadP w g p S k (readB k st n)) := by
  have hr : readB k st n = none := by
    rcases hh with hh | ⟨⟨b, l, rfl⟩, hh | rfl⟩
    · rcases st with _ | _ | ⟨b, l⟩
      · exact rb_none _ _
      · exact rb_nil _ _
      · rw [zpassed_cons] at hh; cases hh
    · exact rb_full _ _ _ _ hh
    · exact rb_zero _ _
  rw [hr]
  clear hr
  have hgl := h.lt
  have hpl := hp.lt
  have KR := KB.new w 24 #[.int .i64 0, .string ⟨#[]⟩, .int .i64 0, .int .i64 0, .slice none 0 0]
  have k0 := KeepP.alloc (P := KeepRC w g p) w (.cells #[.int .i64 0, .string ⟨#[]⟩, .int .i64 0, .int .i64 0, .slice none 0 0] 24) KeepRC.lt
  have ht := take_rd 1 g S st _ (h.alloc (.cells #[.int .i64 0, .string ⟨#[]⟩, .int .i64 0, .int .i64 0, .slice none 0 0] 24)) (by omega)
  have hp1 := hp.alloc (.cells #[.int .i64 0, .string ⟨#[]⟩, .int .i64 0, .int .i64 0, .slice none 0 0] 24)
  have D : ∀ w', KeepP (KeepRC w g p) w w' → ReadP w g p S k none (.returned (.tuple #[.agg #[.int .i64 0, .string ⟨#[]⟩, .int .i64 0, .int .i64 0, .slice none 0 0], .bool false])) w' := fun w' hw => ⟨hw, fun _ => rfl, fun X e => by cases e⟩
  have HD := Lib.hid D
  obtain ⟨Q, hQ⟩ : ∃ Q, Q = ReadP w g p S k none := ⟨_, rfl⟩
  rw [← hQ] at HD ⊢
  clear D hQ
  go_enter Try.func28, Try.ntmps28
  go_wp2_with fail
  refine ht.mono ?_
  rintro e w1 ⟨v1, rfl, r1, how, g1⟩
  have k1 := k0.grown g1 KeepRC.rows.1 KeepRC.lt
  have K1 := KR.grown g1 (by simp; omega)
  have p1 := hp1.grown g1 (by simp; omega)
  clear ht KR k0 hp1 h hp
  rcases hh with hh | ⟨⟨b, l, rfl⟩, hh⟩
  · rw [hh] at how
    obtain ⟨A, c, rfl⟩ := zown_form how
    have c0 : w1.cell? ⟨w.heap.size, 0, none⟩ = some (.int .i64 0) := K1.cell 0
    have c1 : w1.cell? ⟨w.heap.size, 1, none⟩ = some (.string ⟨#[]⟩) := K1.cell 1
    have c2 : w1.cell? ⟨w.heap.size, 2, none⟩ = some (.int .i64 0) := K1.cell 2
    have c3 : w1.cell? ⟨w.heap.size, 3, none⟩ = some (.int .i64 0) := K1.cell 3
    have c4 : w1.cell? ⟨w.heap.size, 4, none⟩ = some (.slice none 0 0) := K1.cell 4
    have f0 := K1.free 0
    have f1 := K1.free 1
    have f2 := K1.free 2
    have f3 := K1.free 3
    have f4 := K1.free 4
    have hf := HD.out _ (k1.five (KeepRC.new (Nat.le_refl _)) (.int .i64 0) (.string ⟨#[]⟩) (.int .i64 0) (.int .i64 0) (.slice none 0 0))
    have HF := Lib.hid hf
    clear hf HD how
    go_wp2_with fail
    exact bodyPost_ret (results_cell_tmp (P := Try.prog) (p := 6) (u := 7) rfl _ _ w.heap.size _ _ (0, 0) _ rfl (zput_five K1) Try.underlying24 rfl (by kernel_rfl)) rfl HF.out
  · rw [zpassed_cons] at how r1
    obtain ⟨A, c, rfl⟩ := zown_form how
    have hwi := zwithin_any p n (9 - (k : Int)) w1 (by omega) (by omega) p1
    rw [decide_eq_false (show ¬ ((n : Int) + 1 ≤ 24 ∧ 9 - (k : Int) ≤ 8) from by omega)] at hwi
    clear how
    go_wp2_with fail
    refine hwi.mono ?_
    rintro e w2 ⟨rfl, p2, g2⟩
    have k2 := k1.grown g2 KeepRC.rows.2 KeepRC.lt
    have K2 := K1.grown g2 (by simp; omega)
    have c0 : w2.cell? ⟨w.heap.size, 0, none⟩ = some (.int .i64 0) := K2.cell 0
    have c1 : w2.cell? ⟨w.heap.size, 1, none⟩ = some (.string ⟨#[]⟩) := K2.cell 1
    have c2 : w2.cell? ⟨w.heap.size, 2, none⟩ = some (.int .i64 0) := K2.cell 2
    have c3 : w2.cell? ⟨w.heap.size, 3, none⟩ = some (.int .i64 0) := K2.cell 3
    have c4 : w2.cell? ⟨w.heap.size, 4, none⟩ = some (.slice none 0 0) := K2.cell 4
    have f0 := K2.free 0
    have f1 := K2.free 1
    have f2 := K2.free 2
    have f3 := K2.free 3
    have f4 := K2.free 4
    have hf := HD.out _ (k2.five (KeepRC.new (Nat.le_refl _)) (.int .i64 0) (.string ⟨#[]⟩) (.int .i64 0) (.int .i64 0) (.slice none 0 0))
    have HF := Lib.hid hf
    clear hf HD hwi
    go_wp2_with fail
    exact bodyPost_ret (results_cell_tmp (P := Try.prog) (p := 6) (u := 7) rfl _ _ w.heap.size _ _ (0, 0) _ rfl (zput_five K2) Try.underlying24 rfl (by kernel_rfl)) rfl HF.out
end
section
open Go.RowKit
theorem rb_named {d n : Nat} {b : UInt8} {l : List UInt8} (hn : ¬ 24 ≤ n) (h : (b.toNat : Int) = 2 ∨ (b.toNat : Int) = 3 ∨ (b.toNat : Int) = 4) : readB (d + 1) (some (b :: l)) n = some ((txtOf 16 (some l)).1, n + 1, ⟨(b.toNat : Int), (txtOf 16 (some l)).2, 0, 0, []⟩) := by
  rw [rb_cons _ _ _ _ hn]
  generalize (b.toNat : Int) = k at *
  have h1 : namedS k = true := decide_eq_true h
  have h2 : manyS k = false := decide_eq_false (by omega)
  have h3 : ¬ k = 5 := by omega
  have h4 : ¬ k = 8 := by omega
  simp [nameR, tickR, manyR, h1, h2, h3, h4, kidsB]
  rfl
theorem rb_time {d n : Nat} {b : UInt8} {l : List UInt8} (hn : ¬ 24 ≤ n) (h : (b.toNat : Int) = 5) : readB (d + 1) (some (b :: l)) n = some ((cntOf 1099511627776 (cntOf 1099511627776 (some l)).1).1, n + 1, ⟨5, [], ((cntOf 1099511627776 (some l)).2 : Int), ((cntOf 1099511627776 (cntOf 1099511627776 (some l)).1).2 : Int), []⟩) := by
  rw [rb_cons _ _ _ _ hn, h]; rfl
theorem rb_other {d n : Nat} {b : UInt8} {l : List UInt8} (hn : ¬ 24 ≤ n) (h : (b.toNat : Int) < 2 ∨ 8 < (b.toNat : Int)) : readB (d + 1) (some (b :: l)) n = some (some l, n + 1, ⟨(b.toNat : Int), [], 0, 0, []⟩) := by
  rw [rb_cons _ _ _ _ hn]
  generalize (b.toNat : Int) = k at *
  have h1 : namedS k = false := decide_eq_false (by omega)
  have h2 : manyS k = false := decide_eq_false (by omega)
  have h3 : ¬ k = 5 := by omega
  have h4 : ¬ k = 8 := by omega
  simp [nameR, tickR, manyR, h1, h2, h3, h4, kidsB]
  rfl
theorem rb_many {d n : Nat} {b : UInt8} {l : List UInt8} (hn : ¬ 24 ≤ n) (h : (b.toNat : Int) = 6 ∨ (b.toNat : Int) = 7) : readB (d + 1) (some (b :: l)) n = (kidsB (readB d) (cntOf 24 (some l)).2 (cntOf 24 (some l)).1 (n + 1)).bind fun Y => some (Y.1, Y.2.1, ⟨(b.toNat : Int), [], 0, 0, Y.2.2⟩) := by
  rw [rb_cons _ _ _ _ hn]
  rcases h with h | h <;> rw [h] <;> rfl
theorem rb_not {d n : Nat} {b : UInt8} {l : List UInt8} (hn : ¬ 24 ≤ n) (h : (b.toNat : Int) = 8) : readB (d + 1) (some (b :: l)) n = (kidsB (readB d) 1 (some l) (n + 1)).bind fun Y => some (Y.1, Y.2.1, ⟨8, [], 0, 0, Y.2.2⟩) := by
  rw [rb_cons _ _ _ _ hn, h]; rfl
theorem kidsB_le {k : Nat} (hF : ∀ (st : Option (List UInt8)) (n : Nat) X, readB k st n = some X → (X.1.getD []).length ≤ (st.getD []).length) : ∀ (j : Nat) (st : Option (List UInt8)) (n : Nat) Y, kidsB (readB k) j st n = some Y → (Y.1.getD []).length ≤ (st.getD []).length
  | 0, st, n, Y, h => by simp only [kidsB, Option.some.injEq] at h; subst h; exact Nat.le_refl _
  | j + 1, st, n, Y, h => by
    simp only [kidsB] at h
    obtain ⟨X, hx, h⟩ := Option.bind_eq_some_iff.1 h
    obtain ⟨Z, hz, h⟩ := Option.bind_eq_some_iff.1 h
    simp only [Option.some.injEq] at h
    subst h
    exact Nat.le_trans (kidsB_le hF j _ _ Z hz) (hF _ _ X hx)
theorem readB_le : ∀ (k : Nat) (st : Option (List UInt8)) (n : Nat) X, readB k st n = some X → (X.1.getD []).length ≤ (st.getD []).length
  | 0, st, n, X, h => by rw [rb_zero] at h; cases h
  | k + 1, none, n, X, h => by rw [rb_none] at h; cases h
  | k + 1, some [], n, X, h => by rw [rb_nil] at h; cases h
  | k + 1, some (b :: l), n, X, h => by
    by_cases hn2 : 24 ≤ n
    · rw [rb_full _ _ _ _ hn2] at h; cases h
    rw [rb_cons _ _ _ _ hn2] at h
    obtain ⟨Y, hy, h⟩ := Option.bind_eq_some_iff.1 h
    simp only [Option.some.injEq] at h
    subst h
    refine Nat.le_trans (kidsB_le (readB_le k) _ _ _ Y hy) (Nat.le_trans (manyR_le _ _) (Nat.le_trans (tickR_le _ _) (Nat.le_trans (tickR_le _ _) (Nat.le_trans (nameR_le _ _) ?_))))
    simp
theorem kidsB_len {α : Type} {g : Option (List UInt8) → Nat → Option (Option (List UInt8) × Nat × α)} : ∀ (j : Nat) (st : Option (List UInt8)) (n : Nat) Y, kidsB g j st n = some Y → Y.2.2.length = j
  | 0, st, n, Y, h => by simp only [kidsB, Option.some.injEq] at h; subst h; rfl
  | j + 1, st, n, Y, h => by
    simp only [kidsB] at h
    obtain ⟨X, hx, h⟩ := Option.bind_eq_some_iff.1 h
    obtain ⟨Z, hz, h⟩ := Option.bind_eq_some_iff.1 h
    simp only [Option.some.injEq] at h
    subst h
    show (X.2.2 :: Z.2.2).length = j + 1
    rw [List.length_cons, kidsB_len j _ _ Z hz]
theorem QZ.more2 {wr w5 w7 w8 : World} {g6 d : Nat} {kv v7 : Value} {qs : List QuZ} {ks : List (Sc (d + 1))} {e0 e1 e2 e3 e4 : Value} {t : Sc (d + 1)} {o : Obj} {B n e size : Nat} {xs : List Value} (hq : QZ wr (SNZ g6 wr kv) (d + 1) qs ks) (tm : ZX w5 (fun b => wr.heap.size ≤ b ∧ b < w5.heap.size) (d + 1) t e0 e1 e2 e3 e4)
    (how : wr.ownsRow B e size kv n xs) (s5 : wr.heap.size ≤ w5.heap.size) (k5 : ∀ b, g6 < b → b < wr.heap.size → w5.heap[b]? = wr.heap[b]?) (h6 : g6 < wr.heap.size) (hg7 : (w5.alloc o).grownBy w7 kv.ownBlock) (h7 : v7.ownBlock = kv.ownBlock ∨ v7.ownBlock = some (w5.alloc o).heap.size)
    (hs : w7.heap.size = w8.heap.size) (hk : ∀ b, b ≠ g6 → w8.heap[b]? = w7.heap[b]?) : QZ w8 (SNZ g6 w8 v7) (d + 1) (qs ++ [(e0, e1, e2, e3, e4)]) (ks ++ [t]) := by
  have s7 := hg7.size
  have sa : (w5.alloc o).heap.size = w5.heap.size + 1 := by simp
  have hkv := zown_lt how
  refine QZ.append ?_ ?_
  · refine hq.keepL (by omega) (fun b hb hlt => ?_) fun b hb _ => ?_
    · obtain ⟨b1, b2, b3⟩ := hb
      rw [hk b (by omega), hg7.block b (by omega) (fun e => b2 e.symm), Below.heap_alloc w5 o b (by omega), k5 b b1 hlt]
    · obtain ⟨b1, b2, b3⟩ := hb
      refine ⟨b1, ?_, by omega⟩
      rcases h7 with h | h
      · rw [h]; exact b2
      · rw [h]; simp; omega
  · refine (QZ.one tm).keepL (by omega) (fun b hb hlt => ?_) fun b hb _ => ?_
    · have hne : kv.ownBlock ≠ some b := fun e => by have := hkv b e; omega
      rw [hk b (by omega), hg7.block b (by omega) (fun e => hne e.symm), Below.heap_alloc w5 o b (by omega)]
    · have hne : kv.ownBlock ≠ some b := fun e => by have := hkv b e; omega
      refine ⟨by omega, ?_, by omega⟩
      rcases h7 with h | h
      · rw [h]; exact hne
      · rw [h]; simp; omega
theorem RD.five {w : World} {g h : Nat} {S : Nat → Prop} {st : Option (List UInt8)} {x y z u v : Value} (r : RD w g S st) (hne : h ≠ g) (hS : ¬ S h) : RD (((((w.setCell ⟨h, 0, none⟩ x).setCell ⟨h, 1, none⟩ y).setCell ⟨h, 2, none⟩ z).setCell ⟨h, 3, none⟩ u).setCell ⟨h, 4, none⟩ v) g S st :=
  ((((r.far hne hS).far hne hS).far hne hS).far hne hS).far hne hS
theorem zKB_five {w : World} {g h : Nat} {t : TypeId} {cs : Array Value} {x y z u v : Value} (k : KB w g t cs) (hne : h ≠ g) : KB (((((w.setCell ⟨h, 0, none⟩ x).setCell ⟨h, 1, none⟩ y).setCell ⟨h, 2, none⟩ z).setCell ⟨h, 3, none⟩ u).setCell ⟨h, 4, none⟩ v) g t cs :=
  zKB_far (zKB_far (zKB_far (zKB_far (zKB_far k hne) hne) hne) hne) hne
theorem zpread_end {w wr : World} {g p d m g6 : Nat} {S : Nat → Prop} {k fr to_ : Int} {nm : List UInt8} {ks : List (Sc (d + 1))} {qs : List QuZ} {kv : Value} {st : Option (List UInt8)} (hg : g < w.heap.size) (hp : p < w.heap.size) (hS : ∀ b, S b → b < w.heap.size)
    (hK : KeepP (KeepRC w g p) w wr) (hR : RD wr g S st) (hP : KB wr p 3 #[.int .i64 (m : Int)]) (hI : I64 k) (hn : nm.length ≤ maxLen) (hf : I64 fr) (ht : I64 to_)
    (how : wr.ownsRow (g6 + 1) 24 5 kv qs.length (flatZ qs)) (hq : QZ wr (fun b => g6 < b) (d + 1) qs ks) (hB : w.heap.size ≤ g6) (x y z u v : Value) :
    ReadP w g p S (d + 1) (some (st, m, (⟨k, nm, fr, to_, ks⟩ : Ns (Sc (d + 1))))) (.returned (.tuple #[.agg #[.int .i64 k, strV nm, .int .i64 fr, .int .i64 to_, kv], .bool true])) (((((wr.setCell ⟨w.heap.size, 0, none⟩ x).setCell ⟨w.heap.size, 1, none⟩ y).setCell ⟨w.heap.size, 2, none⟩ z).setCell ⟨w.heap.size, 3, none⟩ u).setCell ⟨w.heap.size, 4, none⟩ v) := by
  refine ⟨hK.five (KeepRC.new (Nat.le_refl _)) _ _ _ _ _, (fun e => by cases e), fun X e => ?_⟩
  injection e with e
  subst e
  exact ⟨_, rfl, hR.five (by omega) (fun h => Nat.lt_irrefl _ (hS _ h)), zKB_five hP (by omega), zread_ZV hI hn hf ht how hq hB (zsets_size _ _ _ _ _ _ _) fun b hb => zsets_block _ _ _ _ _ _ _ _ (by omega)⟩
theorem zpread_no {w wr : World} {g p k : Nat} {S : Nat → Prop} (hK : KeepP (KeepRC w g p) w wr) (x y z u v : Value) :
    ReadP w g p S k none (.returned (.tuple #[.agg #[.int .i64 0, .string ⟨#[]⟩, .int .i64 0, .int .i64 0, .slice none 0 0], .bool false])) (((((wr.setCell ⟨w.heap.size, 0, none⟩ x).setCell ⟨w.heap.size, 1, none⟩ y).setCell ⟨w.heap.size, 2, none⟩ z).setCell ⟨w.heap.size, 3, none⟩ u).setCell ⟨w.heap.size, 4, none⟩ v) :=
  ⟨hK.five (KeepRC.new (Nat.le_refl _)) _ _ _ _ _, fun _ => rfl, fun X e => by cases e⟩
end
section
open Go.RowKit
set_option maxHeartbeats 8000000 in
theorem zpread_other (S : Nat → Prop) (g p d : Nat) (hgp : g ≠ p) (hSp : ¬ S p) (b : UInt8) (l : List UInt8) (n : Nat) (w : World) (h : RD w g S (some (b :: l))) (hp : KB w p 3 #[.int .i64 (n : Int)]) (hS : ∀ b, S b → b < w.heap.size) (hn : ¬ 24 ≤ n) (hl : l.length + 1 ≤ 1000000) (hk : d + 1 ≤ 8) (hcls : (b.toNat : Int) < 2 ∨ 8 < (b.toNat : Int)) :
    Calls Try.prog 28 #[.pointer (some ⟨g, 0, none⟩), .int .i64 (9 - ((d + 1 : Nat) : Int)), .pointer (some ⟨p, 0, none⟩)] w (ReadP w g p S (d + 1) (readB (d + 1) (some (b :: l)) n)) := by
  rw [rb_other hn hcls]
  have hgl := h.lt
  have hpl := hp.lt
  have hu := b.toNat_lt
  have KR := KB.new w 24 #[.int .i64 0, .string ⟨#[]⟩, .int .i64 0, .int .i64 0, .slice none 0 0]
  have k0 := KeepP.alloc (P := KeepRC w g p) w (.cells #[.int .i64 0, .string ⟨#[]⟩, .int .i64 0, .int .i64 0, .slice none 0 0] 24) KeepRC.lt
  have ht := take_rd 1 g S (some (b :: l)) _ (h.alloc (.cells #[.int .i64 0, .string ⟨#[]⟩, .int .i64 0, .int .i64 0, .slice none 0 0] 24)) (by simp; omega)
  rw [zpassed_cons] at ht
  have hp1 := hp.alloc (.cells #[.int .i64 0, .string ⟨#[]⟩, .int .i64 0, .int .i64 0, .slice none 0 0] 24)
  have W2 : wrap64 (b.toNat : Int) = (b.toNat : Int) := IntWalk.wrap64_in _ (by omega)
  have hI : I64 (b.toNat : Int) := by unfold I64; omega
  have hSw : ¬ S w.heap.size := fun h => Nat.lt_irrefl _ (hS _ h)
  obtain ⟨dp, hdp⟩ : ∃ dp : Int, dp = 9 - ((d + 1 : Nat) : Int) := ⟨_, rfl⟩
  rw [← hdp]
  have hd1 : 1 ≤ dp := by omega
  have hd2 : dp ≤ 8 := by omega
  have HDP := Lib.hid hdp
  clear hdp
  obtain ⟨Q, hQ⟩ : ∃ Q, Q = ReadP w g p S (d + 1) (some (some l, n + 1, (⟨(b.toNat : Int), [], 0, 0, []⟩ : Ns (Sc (d + 1))))) := ⟨_, rfl⟩
  rw [← hQ]
  have HQ := Lib.hid hQ
  clear hQ
  go_enter Try.func28, Try.ntmps28
  go_wp2_with fail
  refine ht.mono ?_
  rintro e w1 ⟨v1, rfl, r1, how, g1⟩
  have k1 := k0.grown g1 KeepRC.rows.1 KeepRC.lt
  have K1 := KR.grown g1 (by simp; omega)
  have p1 := hp1.grown g1 (by simp; omega)
  have s1 : w.heap.size + 1 ≤ w1.heap.size := by have := g1.size; simpa using this
  obtain ⟨A, c, rfl⟩ := zown_form how
  have hwi := zwithin_any p n dp w1 (by omega) (by omega) p1
  rw [decide_eq_true (show (n : Int) + 1 ≤ 24 ∧ dp ≤ 8 from ⟨by omega, hd2⟩)] at hwi
  clear ht KR k0 hp1 h hp g1
  go_wp2_with fail
  refine hwi.mono ?_
  rintro e w2 ⟨rfl, p2, g2⟩
  have k2 := k1.grown g2 KeepRC.rows.2 KeepRC.lt
  have K2 := K1.grown g2 (by simp; omega)
  have r2 := r1.grownP g2 hgp hSp
  have s2 : w.heap.size + 1 ≤ w2.heap.size := Nat.le_trans s1 g2.size
  have how2 := zown_grown how g2 (by simp; omega)
  have hbyte : ∃ bb oo, A = some ⟨bb, oo, none⟩ ∧ bb < w2.heap.size ∧ w2.cell? ⟨bb, oo, none⟩ = some (.int .u8 (b.toNat : Int)) := by
    obtain ⟨bb, oo, e1, _, hb, hx⟩ := (own_BS how2).at_ (by simp)
    exact ⟨bb, oo, e1, hb, by have := hx 0 b rfl; simpa using this⟩
  obtain ⟨bb, oo, rfl, hbb, hcell⟩ := hbyte
  clear hwi k1 K1 p1 r1 how how2 g2 s1
  generalize hk0 : (b.toNat : Int) = k at *
  have K6 := KB.new w2 24 #[.int .i64 k, .string ⟨#[]⟩, .int .i64 0, .int .i64 0, .slice none 0 0]
  have K4 := K2.alloc (.cells #[.int .i64 k, .string ⟨#[]⟩, .int .i64 0, .int .i64 0, .slice none 0 0] 24)
  have R2 := r2.alloc (.cells #[.int .i64 k, .string ⟨#[]⟩, .int .i64 0, .int .i64 0, .slice none 0 0] 24)
  have P2 := p2.alloc (.cells #[.int .i64 k, .string ⟨#[]⟩, .int .i64 0, .int .i64 0, .slice none 0 0] 24)
  have P2 : KB (w2.alloc (.cells #[.int .i64 k, .string ⟨#[]⟩, .int .i64 0, .int .i64 0, .slice none 0 0] 24)) p 3 #[.int .i64 ((n + 1 : Nat) : Int)] := by rw [show ((n + 1 : Nat) : Int) = (n : Int) + 1 from by omega]; exact P2
  have H2 := k2.new (.cells #[.int .i64 k, .string ⟨#[]⟩, .int .i64 0, .int .i64 0, .slice none 0 0] 24) KeepRC.lt
  clear K2 r2 p2 k2
  have E2 : (k == 2) = false := beq_eq_false_iff_ne.2 (by omega)
  have E3 : (k == 3) = false := beq_eq_false_iff_ne.2 (by omega)
  have E4 : (k == 4) = false := beq_eq_false_iff_ne.2 (by omega)
  have E5 : (k == 5) = false := beq_eq_false_iff_ne.2 (by omega)
  have E6 : (k == 6) = false := beq_eq_false_iff_ne.2 (by omega)
  have E7 : (k == 7) = false := beq_eq_false_iff_ne.2 (by omega)
  have E8 : (k == 8) = false := beq_eq_false_iff_ne.2 (by omega)
  have hf := zpread_end (d := d) (ks := []) (nm := []) (fr := 0) (to_ := 0) hgl hpl hS H2 R2 P2 hI (by unfold maxLen; simp) (by unfold I64; omega) (by unfold I64; omega) (World.ownsRow_nil _ _ _ _ : (w2.alloc (.cells #[.int .i64 k, .string ⟨#[]⟩, .int .i64 0, .int .i64 0, .slice none 0 0] 24)).ownsRow (w2.heap.size + 1) 24 5 (.slice none 0 0) ([] : List QuZ).length (flatZ [])) (QZ.nil _ _ _) (by omega) (.int .i64 k) (.string ⟨#[]⟩) (.int .i64 0) (.int .i64 0) (.slice none 0 0)
  rw [← HQ.out] at hf
  have HF := Lib.hid hf
  clear hf HQ hcls
  have c40 : (w2.alloc (.cells #[.int .i64 k, .string ⟨#[]⟩, .int .i64 0, .int .i64 0, .slice none 0 0] 24)).cell? ⟨w.heap.size, 0, none⟩ = some (.int .i64 0) := K4.cell 0
  have c41 : (w2.alloc (.cells #[.int .i64 k, .string ⟨#[]⟩, .int .i64 0, .int .i64 0, .slice none 0 0] 24)).cell? ⟨w.heap.size, 1, none⟩ = some (.string ⟨#[]⟩) := K4.cell 1
  have c42 : (w2.alloc (.cells #[.int .i64 k, .string ⟨#[]⟩, .int .i64 0, .int .i64 0, .slice none 0 0] 24)).cell? ⟨w.heap.size, 2, none⟩ = some (.int .i64 0) := K4.cell 2
  have c43 : (w2.alloc (.cells #[.int .i64 k, .string ⟨#[]⟩, .int .i64 0, .int .i64 0, .slice none 0 0] 24)).cell? ⟨w.heap.size, 3, none⟩ = some (.int .i64 0) := K4.cell 3
  have c44 : (w2.alloc (.cells #[.int .i64 k, .string ⟨#[]⟩, .int .i64 0, .int .i64 0, .slice none 0 0] 24)).cell? ⟨w.heap.size, 4, none⟩ = some (.slice none 0 0) := K4.cell 4
  have f40 := K4.free 0
  have f41 := K4.free 1
  have f42 := K4.free 2
  have f43 := K4.free 3
  have f44 := K4.free 4
  go_wp2_with fail
  exact bodyPost_ret (results_cell_tmp (P := Try.prog) (p := 6) (u := 7) rfl _ _ w.heap.size _ _ (0, 0) _ rfl (zput_five K4) Try.underlying24 rfl (by kernel_rfl)) rfl HF.out
end
end Go.Proofs.Ytcbkokhjdleoeaa
