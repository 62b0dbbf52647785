/-
  EventBackW: The law EventBack over the loaded program: what was put is got, and back; no two that name something have one text. No condition but the contracts of the package's own functions. (Printed by wip/gen/event/mk_back.py.)
  EventBackV: The law EventBack, from the arguments as they come. No condition but that the listed variables are as laid.
  EventBackP: THE STATEMENT EventBack of layer: proved out of the law's contract (eventBack_law): for every input the call returns true, and the input reads as it did. No condition.
-/
import Derived.Test.YtpeopkjmmmodpaaDoorEy11
import Derived.Deep.Cut
import Derived.Deep.CutRange
import Derived.Test.YtpeopkjmmmodpaaDoorEy10
import Derived.Test.YtpeopkjmmmodpaaDoorCards
import Derived.Test.YtpeopkjmmmodpaaDoorTie
import Derived.Stop.Joined
import Derived.SevenTiedAt
import Derived.WalkKit
import Derived.ProofKit
import Derived.OpenShut
import Derived.ShutString
import Derived.ChangeOld
import Derived.Below
set_option linter.unusedVariables false
set_option maxRecDepth 100000
namespace Go.Proofs.YtpeopkjmmmodpaaDoor
section
open Go.RowKit Go.ChangeShapes Go.WideShapes Go.Joins
theorem ev_neq (w : World) (a b a' b' : Int) (s t s' t' : ByteArray) :
    (binOp .neq 23 (.agg #[.int .i64 a, .int .i64 b, .string s, .string t]) (.agg #[.int .i64 a', .int .i64 b', .string s', .string t'])).run Tryd.prog w = .ok (.bool (!((a == a') && ((b == b') && ((s.toList == s'.toList) && (t.toList == t'.toList)))))) w := by
  have u3 := Tryd.underlying3
  have u9 := Tryd.underlying9
  rw [run_neq_struct, show (10000 : Nat) = 9999 + 1 from rfl, run_equalIn_agg w 9999 23 _ _ ev_fields ev_stood]
  simp only [Program.fieldsOf, Tryd.underlying23]
  go_simp
  by_cases h1 : a = a' <;> by_cases h2 : b = b' <;> by_cases h3 : s.toList = s'.toList <;> by_cases h4 : t.toList = t'.toList <;> simp [h1, h2, h3, h4]
theorem etwo_boxes (w : World) (a b : Array Value) (t u : TypeId) :
    KB ((w.alloc (.cells a t)).alloc (.cells b u)) w.heap.size t a ∧ KB ((w.alloc (.cells a t)).alloc (.cells b u)) (w.heap.size + 1) u b ∧ Below w.heap.size w ((w.alloc (.cells a t)).alloc (.cells b u)) := by
  refine ⟨(KB.new w t a).alloc _, ?_, ((Below.refl _ _).alloc (Nat.le_refl _) _).alloc (by simp) _⟩
  have h := KB.new (w.alloc (.cells a t)) u b
  rwa [World.size_alloc] at h
set_option maxHeartbeats 32000000 in
theorem eventBack_main {T : World → Prop} (hC : EvOk T) (x y : Ev) (l : List UInt8) (vx vy v : Value) (w : World) (hT : T w) (hx : EvV vx x) (hy : EvV vy y) (hv : BS w (fun b => b < w.heap.size) v l) :
    Calls Tryd.prog 5 #[vx, vy, v] w fun e w' => e = .returned (.bool true) ∧ Below w.heap.size w w' := by
  have HT : Hid (∀ W, Below w.heap.size w W → T W) := fun W hb => hC.past _ _ hT hb
  have HL : Hid (∀ W, Below w.heap.size w W → Calls Tryd.prog 6 #[] W fun e w' => e = .returned (.bool true) ∧ Below W.heap.size W w') := fun W hb => evlive_any hC W (HT.out W hb)
  have HP := Lib.hid (fun W hb => hC.put x vx W (HT.out W hb) hx)
  have HX := Lib.hid (fun W hb => hC.text x vx W (HT.out W hb) hx)
  have HY := Lib.hid (fun W hb => hC.text y vy W (HT.out W hb) hy)
  have HG : Hid (∀ W u L, Below w.heap.size w W → BS W (fun b => b < W.heap.size) u L → L.length ≤ 1000000 → Calls Tryd.prog 16 #[u] W (EGetAs W (getE L))) := fun W u L hb h hl => hC.get u L W (HT.out W hb) h hl
  have HP2 : Hid (∀ z u W, EvV u z → Below w.heap.size w W → Calls Tryd.prog 7 #[u] W (EPutAs W (putE z))) := fun z u W h hb => hC.put z u W (HT.out W hb) h
  have HN := Lib.hid (fun e W => evnum_any e W)
  have HV := Lib.hid (fun W (hb : Below w.heap.size w W) => (hv.below' hb).mono (S' := fun b => b < W.heap.size) fun b h => Nat.lt_of_lt_of_le h hb.size)
  obtain ⟨Av, cv, rfl, hc1, hc2, _⟩ := hv.form
  have hlen : l.length ≤ 9223372036854775807 := by unfold maxLen at hc2; omega
  obtain ⟨rfl, hk, ht, hla, hlb⟩ := hx
  obtain ⟨rfl, hk2, ht2, hla2, hlb2⟩ := hy
  obtain ⟨sa, hsa⟩ : ∃ s : ByteArray, s = ⟨x.a.toArray⟩ := ⟨_, rfl⟩
  obtain ⟨sb, hsb⟩ : ∃ s : ByteArray, s = ⟨x.b.toArray⟩ := ⟨_, rfl⟩
  obtain ⟨ya, hya⟩ : ∃ s : ByteArray, s = ⟨y.a.toArray⟩ := ⟨_, rfl⟩
  obtain ⟨yb, hyb⟩ : ∃ s : ByteArray, s = ⟨y.b.toArray⟩ := ⟨_, rfl⟩
  obtain ⟨tx, htx⟩ : ∃ s : ByteArray, s = ⟨(textE x).toArray⟩ := ⟨_, rfl⟩
  obtain ⟨ty, hty⟩ : ∃ s : ByteArray, s = ⟨(textE y).toArray⟩ := ⟨_, rfl⟩
  have v1 : strV x.a = .string sa := by rw [hsa]; rfl
  have v2 : strV x.b = .string sb := by rw [hsb]; rfl
  have v3 : strV y.a = .string ya := by rw [hya]; rfl
  have v4 : strV y.b = .string yb := by rw [hyb]; rfl
  have v5 : strV (textE x) = .string tx := by rw [htx]; rfl
  have v6 : strV (textE y) = .string ty := by rw [hty]; rfl
  have h1 := HP.out
  have h2 := HX.out
  have h3 := HY.out
  rw [v1, v2] at h1
  rw [v1, v2, v5] at h2
  rw [v3, v4, v6] at h3
  rw [v1, v2, v3, v4]
  replace HP := Lib.hid h1
  replace HX := Lib.hid h2
  replace HY := Lib.hid h3
  have e1 := zeq_nil sa x.a hsa
  have e2 := zeq_nil ya y.a hya
  have e3 : (tx.toList == ty.toList) = decide (textE x = textE y) := by rw [htx, hty]; exact str_eq _ _
  have HEV : Hid (EvV (.agg #[.int .i64 x.kind, .int .i64 x.tick, .string sa, .string sb]) x) := ⟨by rw [v1, v2], hk, ht, hla, hlb⟩
  have HSAME : Hid (x = y → x.kind = y.kind ∧ x.tick = y.tick ∧ sa = ya ∧ sb = yb) := fun h => by subst h; exact ⟨rfl, rfl, by rw [hsa, hya], by rw [hsb, hyb]⟩
  have z1 : sa.size ≤ 9223372036854775807 := by rw [hsa]; show x.a.length ≤ _; unfold maxLen at hla; omega
  have z2 : sb.size ≤ 9223372036854775807 := by rw [hsb]; show x.b.length ≤ _; unfold maxLen at hlb; omega
  have z3 : ya.size ≤ 9223372036854775807 := by rw [hya]; show y.a.length ≤ _; unfold maxLen at hla2; omega
  have z4 : yb.size ≤ 9223372036854775807 := by rw [hyb]; show y.b.length ≤ _; unfold maxLen at hlb2; omega
  have HXI : Hid (mayE x = true → x.a ≠ [] → y.a ≠ [] → textE x = textE y → x = y) := fun h h1 h2 h3 => text_inj h h1 h2 h3
  have HPN : Hid (mayE x = false → ((putE x).2 == 0) = false) := fun h => by unfold putE; rw [if_neg (by rw [h]; decide)]; rfl
  have HPY : Hid (mayE x = true → ((putE x).2 == 0) = true ∧ (putE x).1 = bytesE x ∧ getE (bytesE x) = (x, 0) ∧ (bytesE x).length ≤ 44) := fun h => ⟨by unfold putE; rw [if_pos h]; rfl, by unfold putE; rw [if_pos h], ev_get h, ev_len h⟩
  have HBK : Hid ((getE l).2 = 0 → putE (getE l).1 = (l, 0)) := fun h => by
    obtain ⟨h1, h2⟩ := ev_back h
    unfold putE
    rw [if_pos h1, h2]
  have hpp := HP.out
  generalize putE x = r at hpp HPN HPY
  replace HP := Lib.hid hpp
  obtain ⟨pl, pe⟩ := r
  dsimp only at HPN HPY
  clear hpp
  obtain ⟨K, L, B⟩ := etwo_boxes w #[.int .i64 x.kind, .int .i64 x.tick, .string sa, .string sb] #[.int .i64 y.kind, .int .i64 y.tick, .string ya, .string yb] 23 23
  clear hv hT h1 h2 h3 v1 v2 v3 v4 v5 v6 hsa hsb hya hyb htx hty hk ht hla hlb hk2 ht2 hla2 hlb2 hc1 hc2
  go_enter Tryd.func5, Tryd.ntmps5
  by_cases a1 : 100 < sa.size
  · have d1 : decide ((100 : Int) < (sa.size : Int)) = true := decide_eq_true (by omega)
    clear HP HX HY HG HP2 HN HV HEV HSAME HXI HPN HPY HBK HT e1 e2 e3
    go_wp2_with fail
    refine (HL.out _ B).mono ?_
    rintro e w2 ⟨rfl, b2⟩
    replace B := B.trans (b2.mono B.size)
    clear b2 HL
    go_wp2_with fail
    go_ret
    exact ⟨rfl, B⟩
  have d1 : decide ((100 : Int) < (sa.size : Int)) = false := decide_eq_false (by omega)
  by_cases a2 : 100 < sb.size
  · have d2 : decide ((100 : Int) < (sb.size : Int)) = true := decide_eq_true (by omega)
    clear HP HX HY HG HP2 HN HV HEV HSAME HXI HPN HPY HBK HT e1 e2 e3
    go_wp2_with fail
    refine (HL.out _ B).mono ?_
    rintro e w2 ⟨rfl, b2⟩
    replace B := B.trans (b2.mono B.size)
    clear b2 HL
    go_wp2_with fail
    go_ret
    exact ⟨rfl, B⟩
  have d2 : decide ((100 : Int) < (sb.size : Int)) = false := decide_eq_false (by omega)
  by_cases a3 : 100 < ya.size
  · have d3 : decide ((100 : Int) < (ya.size : Int)) = true := decide_eq_true (by omega)
    clear HP HX HY HG HP2 HN HV HEV HSAME HXI HPN HPY HBK HT e1 e2 e3
    go_wp2_with fail
    refine (HL.out _ B).mono ?_
    rintro e w2 ⟨rfl, b2⟩
    replace B := B.trans (b2.mono B.size)
    clear b2 HL
    go_wp2_with fail
    go_ret
    exact ⟨rfl, B⟩
  have d3 : decide ((100 : Int) < (ya.size : Int)) = false := decide_eq_false (by omega)
  by_cases a4 : 100 < yb.size
  · have d4 : decide ((100 : Int) < (yb.size : Int)) = true := decide_eq_true (by omega)
    clear HP HX HY HG HP2 HN HV HEV HSAME HXI HPN HPY HBK HT e1 e2 e3
    go_wp2_with fail
    refine (HL.out _ B).mono ?_
    rintro e w2 ⟨rfl, b2⟩
    replace B := B.trans (b2.mono B.size)
    clear b2 HL
    go_wp2_with fail
    go_ret
    exact ⟨rfl, B⟩
  have d4 : decide ((100 : Int) < (yb.size : Int)) = false := decide_eq_false (by omega)
  by_cases a5 : 300 < l.length
  · have d5 : decide ((300 : Int) < (l.length : Int)) = true := decide_eq_true (by omega)
    clear HP HX HY HG HP2 HN HV HEV HSAME HXI HPN HPY HBK HT e1 e2 e3
    go_wp2_with fail
    refine (HL.out _ B).mono ?_
    rintro e w2 ⟨rfl, b2⟩
    replace B := B.trans (b2.mono B.size)
    clear b2 HL
    go_wp2_with fail
    go_ret
    exact ⟨rfl, B⟩
  have d5 : decide ((300 : Int) < (l.length : Int)) = false := decide_eq_false (by omega)
  clear a1 a2 a3 a4
  have q0 := K.cell 0
  have q1 := K.cell 1
  have q2 := K.cell 2
  have q3 := K.cell 3
  have hp := Lib.hid (HP.out _ B)
  clear HP
  go_wp2_with fail
  refine hp.out.mono ?_
  rintro e w1 ⟨va, rfl, xa, b1⟩
  dsimp only at xa ⊢
  replace K := K.below b1 K.lt
  replace L := L.below b1 L.lt
  replace B := B.trans (b1.mono B.size)
  replace xa := xa.mono (S' := fun b => b < w1.heap.size) fun b h => h.2
  clear hp b1 q0 q1 q2 q3 d1 d2 d3 d4 d5
  go_wp2_with fail
  refine (HN.out _ _).mono ?_
  rintro e w2 ⟨rfl, rfl⟩
  go_upto_if 50 with fail
  go_cut [9, 10] from 50 to 90 (fun _ _ wc => Below w.heap.size w wc)
  case first =>
    clear HL HP2 HV HBK
    cases hm : mayE x with
    | false =>
      have hpe := HPN.out hm
      clear HX HY HG HN HEV HSAME HXI HPN HPY e1 e2 e3 hm xa K L z1 z2 z3 z4
      go_wp2_with fail
      go_meet
      exact B
    | true =>
      obtain ⟨hpe, p1, p2, p3⟩ := HPY.out hm
      rw [p1] at xa
      have hg := HG.out w2 va (bytesE x) B xa (by omega)
      rw [p2] at hg
      have HGX := Lib.hid hg
      obtain ⟨Aa, ca, rfl, _⟩ := xa.form
      have d44 : decide ((44 : Int) < ((bytesE x).length : Int)) = false := decide_eq_false (by omega)
      have HXI2 := Lib.hid (HXI.out hm)
      clear HG HPN HPY p1 p2 hg xa hm HXI
      generalize (bytesE x).length = bl at *
      have l44 : bl ≤ 9223372036854775807 := by omega
      go_wp2_with fail
      refine HGX.out.mono ?_
      rintro e w3 ⟨vz, rfl, ⟨rfl, _⟩, b3⟩
      dsimp only at HEV ⊢
      have hz := HEV.out.1
      rw [← hz]
      replace K := K.below b3 K.lt
      replace L := L.below b3 L.lt
      replace B := B.trans (b3.mono B.size)
      have J := KB.new w3 23 #[.int .i64 x.kind, .int .i64 x.tick, .string sa, .string sb]
      have bn := (Below.refl w3.heap.size w3).alloc (Nat.le_refl _) (.cells #[.int .i64 x.kind, .int .i64 x.tick, .string sa, .string sb] 23)
      replace K := K.below bn K.lt
      replace L := L.below bn L.lt
      replace B := B.trans (bn.mono B.size)
      have hxs : ∀ W, (binOp .neq 23 (.agg #[.int .i64 x.kind, .int .i64 x.tick, .string sa, .string sb]) (.agg #[.int .i64 x.kind, .int .i64 x.tick, .string sa, .string sb])).run Tryd.prog W = .ok (.bool false) W := fun W => by
        rw [ev_neq]; simp
      obtain ⟨wd, hwd⟩ : ∃ wd, (w3.alloc (.cells #[.int .i64 x.kind, .int .i64 x.tick, .string sa, .string sb] 23)).drew = wd := ⟨_, rfl⟩
      replace K : KB wd w.heap.size 23 #[.int .i64 x.kind, .int .i64 x.tick, .string sa, .string sb] := by rw [← hwd]; exact K
      replace L : KB wd (w.heap.size + 1) 23 #[.int .i64 y.kind, .int .i64 y.tick, .string ya, .string yb] := by rw [← hwd]; exact L
      replace J : KB wd w3.heap.size 23 #[.int .i64 x.kind, .int .i64 x.tick, .string sa, .string sb] := by rw [← hwd]; exact J
      replace B : Below w.heap.size w wd := by rw [← hwd]; exact Below_drawn B 1
      have HWD := Lib.hid hwd
      clear HGX b3 bn hz hwd
      obtain ⟨KQ, LQ, JQ⟩ := And.intro K (And.intro L J)
      have HC : Hid (∀ W, KB W w.heap.size 23 #[.int .i64 x.kind, .int .i64 x.tick, .string sa, .string sb] → KB W (w.heap.size + 1) 23 #[.int .i64 y.kind, .int .i64 y.tick, .string ya, .string yb] → KB W w3.heap.size 23 #[.int .i64 x.kind, .int .i64 x.tick, .string sa, .string sb] → W.cell? ⟨w.heap.size, 0, none⟩ = some (.int .i64 x.kind) ∧ W.cell? ⟨w.heap.size, 1, none⟩ = some (.int .i64 x.tick) ∧ W.cell? ⟨w.heap.size, 2, none⟩ = some (.string sa) ∧ W.cell? ⟨w.heap.size, 3, none⟩ = some (.string sb) ∧ W.cell? ⟨w.heap.size + 1, 0, none⟩ = some (.int .i64 y.kind) ∧ W.cell? ⟨w.heap.size + 1, 1, none⟩ = some (.int .i64 y.tick) ∧ W.cell? ⟨w.heap.size + 1, 2, none⟩ = some (.string ya) ∧ W.cell? ⟨w.heap.size + 1, 3, none⟩ = some (.string yb) ∧ W.cell? ⟨w3.heap.size, 0, none⟩ = some (.int .i64 x.kind) ∧ W.cell? ⟨w3.heap.size, 1, none⟩ = some (.int .i64 x.tick) ∧ W.cell? ⟨w3.heap.size, 2, none⟩ = some (.string sa) ∧ W.cell? ⟨w3.heap.size, 3, none⟩ = some (.string sb)) := fun W K L J => ⟨K.cell 0, K.cell 1, K.cell 2, K.cell 3, L.cell 0, L.cell 1, L.cell 2, L.cell 3, J.cell 0, J.cell 1, J.cell 2, J.cell 3⟩
      clear K L J
      go_wp2_with fail
      rename_i KK hKK
      have HKK := Lib.hid hKK
      clear hKK
      by_cases ha : x.a = []
      · rw [decide_eq_true ha] at e1
        obtain ⟨f1, f2, f3⟩ := e1
        have f0 : sa.toList = [] := by simpa using f1
        clear HX HY HEV HSAME HXI2 e2 e3 ha
        refine wp_region_held_drew (S := (fun W => W.cell? ⟨w.heap.size, 0, none⟩ = some (.int .i64 x.kind) ∧ W.cell? ⟨w.heap.size, 1, none⟩ = some (.int .i64 x.tick) ∧ W.cell? ⟨w.heap.size, 2, none⟩ = some (.string sa) ∧ W.cell? ⟨w.heap.size, 3, none⟩ = some (.string sb) ∧ W.cell? ⟨w.heap.size + 1, 0, none⟩ = some (.int .i64 y.kind) ∧ W.cell? ⟨w.heap.size + 1, 1, none⟩ = some (.int .i64 y.tick) ∧ W.cell? ⟨w.heap.size + 1, 2, none⟩ = some (.string ya) ∧ W.cell? ⟨w.heap.size + 1, 3, none⟩ = some (.string yb) ∧ W.cell? ⟨w3.heap.size, 0, none⟩ = some (.int .i64 x.kind) ∧ W.cell? ⟨w3.heap.size, 1, none⟩ = some (.int .i64 x.tick) ∧ W.cell? ⟨w3.heap.size, 2, none⟩ = some (.string sa) ∧ W.cell? ⟨w3.heap.size, 3, none⟩ = some (.string sb))) (by kernel_rfl) (by rw [HWD.out]; exact HC.out _ KQ LQ JQ) (fun hHeld => ?_)
        rw [HWD.out] at hHeld ⊢
        refine hyY (some 56) 0 rfl hHeld ?_; go_frame
        refine hyO (some 57) 1 rfl (fun K hK => ?_)
        go_simp
        go_at_call 10
        refine (HN.out _ _).mono ?_
        rintro e wq ⟨rfl, rfl⟩
        go_wp2_with fail
        refine hK.out _ _ ?_ (fun hH2 => ?_)
        · exact HC.out _ KQ LQ JQ
        clear hHeld hK K; have hHeld := hH2; clear hH2; try go_frame
        refine hyY (some 58) 2 rfl hHeld ?_; go_frame
        refine hyY (some 59) 3 rfl hHeld ?_; go_frame
        refine hyY (some 60) 4 rfl hHeld ?_; go_frame
        refine hyY (some 61) 5 rfl hHeld ?_; go_frame
        refine hyY (some 62) 6 rfl hHeld ?_; go_frame
        refine hyY (some 63) 7 rfl hHeld ?_; go_frame
        refine hyY (some 64) 8 rfl hHeld ?_; go_frame
        refine hyY (some 65) 9 rfl hHeld ?_; go_frame
        refine hyY (some 66) 10 rfl hHeld ?_; go_frame
        refine hyY (some 67) 11 rfl hHeld ?_; go_frame
        refine hyY (some 68) 12 rfl hHeld ?_; go_frame
        refine hyY (some 69) 13 rfl hHeld ?_; go_frame
        refine hyY (some 70) 14 rfl hHeld ?_; go_frame
        refine hyY (some 71) 15 rfl hHeld ?_; go_frame
        refine hyY (some 72) 16 rfl hHeld ?_; go_frame
        refine hyY (some 73) 17 rfl hHeld ?_; go_frame
        refine hyN (some 74) 18 rfl hHeld ?_; go_frame
        refine hyN (some 75) 19 rfl hHeld ?_; go_frame
        refine hyN (some 76) 20 rfl hHeld ?_; go_frame
        refine hyY (some 77) 21 rfl hHeld ?_; go_frame
        refine hyY (some 78) 22 rfl hHeld ?_; go_frame
        refine hyN (some 79) 23 rfl hHeld ?_; go_frame
        refine hyN (some 80) 24 rfl hHeld ?_; go_frame
        refine hyN (some 81) 25 rfl hHeld ?_; go_frame
        refine hyN (some 82) 26 rfl hHeld ?_; go_frame
        refine hyN (some 83) 27 rfl hHeld ?_; go_frame
        refine hyY (some 84) 28 rfl hHeld ?_; go_frame
        refine hyY (some 85) 29 rfl hHeld ?_; go_frame
        refine hyN (some 86) 30 rfl hHeld ?_; go_frame
        refine hyN (some 87) 31 rfl hHeld ?_; go_frame
        refine hyN (some 88) 32 rfl hHeld ?_; go_frame
        refine hyY (some 89) 33 rfl hHeld ?_; go_frame
        refine hyY (some 90) 34 rfl hHeld ?_; go_frame
        refine wpAnyH_done (by kernel_rfl) ?_ _
        have hKK := HKK.out
        clear hHeld HC KQ LQ JQ HN
        go_wp2_with fail
        go_meet
        exact B
      · rw [decide_eq_false ha] at e1
        obtain ⟨f1, f2, f3⟩ := e1
        have f0 : ¬ sa.toList = [] := by simpa using f1
        by_cases hb : y.a = []
        · rw [decide_eq_true hb] at e2
          obtain ⟨g1, g2, g3⟩ := e2
          have g0 : ya.toList = [] := by simpa using g1
          clear HX HY HEV HSAME HXI2 e3 ha hb
          refine wp_region_held_drew (S := (fun W => W.cell? ⟨w.heap.size, 0, none⟩ = some (.int .i64 x.kind) ∧ W.cell? ⟨w.heap.size, 1, none⟩ = some (.int .i64 x.tick) ∧ W.cell? ⟨w.heap.size, 2, none⟩ = some (.string sa) ∧ W.cell? ⟨w.heap.size, 3, none⟩ = some (.string sb) ∧ W.cell? ⟨w.heap.size + 1, 0, none⟩ = some (.int .i64 y.kind) ∧ W.cell? ⟨w.heap.size + 1, 1, none⟩ = some (.int .i64 y.tick) ∧ W.cell? ⟨w.heap.size + 1, 2, none⟩ = some (.string ya) ∧ W.cell? ⟨w.heap.size + 1, 3, none⟩ = some (.string yb) ∧ W.cell? ⟨w3.heap.size, 0, none⟩ = some (.int .i64 x.kind) ∧ W.cell? ⟨w3.heap.size, 1, none⟩ = some (.int .i64 x.tick) ∧ W.cell? ⟨w3.heap.size, 2, none⟩ = some (.string sa) ∧ W.cell? ⟨w3.heap.size, 3, none⟩ = some (.string sb))) (by kernel_rfl) (by rw [HWD.out]; exact HC.out _ KQ LQ JQ) (fun hHeld => ?_)
          rw [HWD.out] at hHeld ⊢
          refine hyY (some 56) 0 rfl hHeld ?_; go_frame
          refine hyO (some 57) 1 rfl (fun K hK => ?_)
          go_simp
          go_at_call 10
          refine (HN.out _ _).mono ?_
          rintro e wq ⟨rfl, rfl⟩
          go_wp2_with fail
          refine hK.out _ _ ?_ (fun hH2 => ?_)
          · exact HC.out _ KQ LQ JQ
          clear hHeld hK K; have hHeld := hH2; clear hH2; try go_frame
          refine hyY (some 58) 2 rfl hHeld ?_; go_frame
          refine hyY (some 59) 3 rfl hHeld ?_; go_frame
          refine hyY (some 60) 4 rfl hHeld ?_; go_frame
          refine hyY (some 61) 5 rfl hHeld ?_; go_frame
          refine hyY (some 62) 6 rfl hHeld ?_; go_frame
          refine hyY (some 63) 7 rfl hHeld ?_; go_frame
          refine hyY (some 64) 8 rfl hHeld ?_; go_frame
          refine hyY (some 65) 9 rfl hHeld ?_; go_frame
          refine hyY (some 66) 10 rfl hHeld ?_; go_frame
          refine hyY (some 67) 11 rfl hHeld ?_; go_frame
          refine hyY (some 68) 12 rfl hHeld ?_; go_frame
          refine hyY (some 69) 13 rfl hHeld ?_; go_frame
          refine hyY (some 70) 14 rfl hHeld ?_; go_frame
          refine hyY (some 71) 15 rfl hHeld ?_; go_frame
          refine hyY (some 72) 16 rfl hHeld ?_; go_frame
          refine hyY (some 73) 17 rfl hHeld ?_; go_frame
          refine hyY (some 74) 18 rfl hHeld ?_; go_frame
          refine hyY (some 75) 19 rfl hHeld ?_; go_frame
          refine hyY (some 76) 20 rfl hHeld ?_; go_frame
          refine hyY (some 77) 21 rfl hHeld ?_; go_frame
          refine hyY (some 78) 22 rfl hHeld ?_; go_frame
          refine hyN (some 79) 23 rfl hHeld ?_; go_frame
          refine hyN (some 80) 24 rfl hHeld ?_; go_frame
          refine hyN (some 81) 25 rfl hHeld ?_; go_frame
          refine hyN (some 82) 26 rfl hHeld ?_; go_frame
          refine hyN (some 83) 27 rfl hHeld ?_; go_frame
          refine hyY (some 84) 28 rfl hHeld ?_; go_frame
          refine hyY (some 85) 29 rfl hHeld ?_; go_frame
          refine hyN (some 86) 30 rfl hHeld ?_; go_frame
          refine hyN (some 87) 31 rfl hHeld ?_; go_frame
          refine hyN (some 88) 32 rfl hHeld ?_; go_frame
          refine hyY (some 89) 33 rfl hHeld ?_; go_frame
          refine hyY (some 90) 34 rfl hHeld ?_; go_frame
          refine wpAnyH_done (by kernel_rfl) ?_ _
          have hKK := HKK.out
          clear hHeld HC KQ LQ JQ HN
          go_wp2_with fail
          go_meet
          exact B
        · rw [decide_eq_false hb] at e2
          obtain ⟨g1, g2, g3⟩ := e2
          have g0 : ¬ ya.toList = [] := by simpa using g1
          by_cases ht : textE x = textE y
          · rw [decide_eq_true ht] at e3
            obtain ⟨s1, s2, s3, s4⟩ := HSAME.out (HXI2.out ha hb ht)
            have h3 : tx.toList = ty.toList := by simpa using e3
            have hxs2 : ∀ W, (binOp .neq 23 (.agg #[.int .i64 x.kind, .int .i64 x.tick, .string sa, .string sb]) (.agg #[.int .i64 y.kind, .int .i64 y.tick, .string ya, .string yb])).run Tryd.prog W = .ok (.bool false) W := fun W => by
              rw [ev_neq, s1, s2, s3, s4]; simp
            clear HEV HSAME HXI2 ha hb ht s1 s2 s3 s4
            refine wp_region_held_drew (S := (fun W => W.cell? ⟨w.heap.size, 0, none⟩ = some (.int .i64 x.kind) ∧ W.cell? ⟨w.heap.size, 1, none⟩ = some (.int .i64 x.tick) ∧ W.cell? ⟨w.heap.size, 2, none⟩ = some (.string sa) ∧ W.cell? ⟨w.heap.size, 3, none⟩ = some (.string sb) ∧ W.cell? ⟨w.heap.size + 1, 0, none⟩ = some (.int .i64 y.kind) ∧ W.cell? ⟨w.heap.size + 1, 1, none⟩ = some (.int .i64 y.tick) ∧ W.cell? ⟨w.heap.size + 1, 2, none⟩ = some (.string ya) ∧ W.cell? ⟨w.heap.size + 1, 3, none⟩ = some (.string yb) ∧ W.cell? ⟨w3.heap.size, 0, none⟩ = some (.int .i64 x.kind) ∧ W.cell? ⟨w3.heap.size, 1, none⟩ = some (.int .i64 x.tick) ∧ W.cell? ⟨w3.heap.size, 2, none⟩ = some (.string sa) ∧ W.cell? ⟨w3.heap.size, 3, none⟩ = some (.string sb))) (by kernel_rfl) (by rw [HWD.out]; exact HC.out _ KQ LQ JQ) (fun hHeld => ?_)
            rw [HWD.out] at hHeld ⊢
            refine hyY (some 56) 0 rfl hHeld ?_; go_frame
            refine hyO (some 57) 1 rfl (fun K hK => ?_)
            go_simp
            go_at_call 10
            refine (HN.out _ _).mono ?_
            rintro e wq ⟨rfl, rfl⟩
            go_wp2_with fail
            refine hK.out _ _ ?_ (fun hH2 => ?_)
            · exact HC.out _ KQ LQ JQ
            clear hHeld hK K; have hHeld := hH2; clear hH2; try go_frame
            refine hyY (some 58) 2 rfl hHeld ?_; go_frame
            refine hyY (some 59) 3 rfl hHeld ?_; go_frame
            refine hyY (some 60) 4 rfl hHeld ?_; go_frame
            refine hyY (some 61) 5 rfl hHeld ?_; go_frame
            refine hyY (some 62) 6 rfl hHeld ?_; go_frame
            refine hyY (some 63) 7 rfl hHeld ?_; go_frame
            refine hyY (some 64) 8 rfl hHeld ?_; go_frame
            refine hyY (some 65) 9 rfl hHeld ?_; go_frame
            refine hyY (some 66) 10 rfl hHeld ?_; go_frame
            refine hyY (some 67) 11 rfl hHeld ?_; go_frame
            refine hyY (some 68) 12 rfl hHeld ?_; go_frame
            refine hyY (some 69) 13 rfl hHeld ?_; go_frame
            refine hyY (some 70) 14 rfl hHeld ?_; go_frame
            refine hyY (some 71) 15 rfl hHeld ?_; go_frame
            refine hyY (some 72) 16 rfl hHeld ?_; go_frame
            refine hyY (some 73) 17 rfl hHeld ?_; go_frame
            refine hyY (some 74) 18 rfl hHeld ?_; go_frame
            refine hyY (some 75) 19 rfl hHeld ?_; go_frame
            refine hyY (some 76) 20 rfl hHeld ?_; go_frame
            refine hyY (some 77) 21 rfl hHeld ?_; go_frame
            refine hyY (some 78) 22 rfl hHeld ?_; go_frame
            refine hyY (some 79) 23 rfl hHeld ?_; go_frame
            refine hyY (some 81) 25 rfl hHeld ?_; go_frame
            refine hyO (some 80) 24 rfl (fun K hK => ?_)
            go_simp
            go_at_call 12
            refine (HX.out _ B).mono ?_
            rintro e wq ⟨rfl, bn⟩
            replace KQ := KQ.below bn KQ.lt
            replace LQ := LQ.below bn LQ.lt
            replace JQ := JQ.below bn JQ.lt
            replace B := B.trans (bn.mono B.size)
            clear bn HX
            go_wp2_with fail
            refine hK.out _ _ ?_ (fun hH2 => ?_)
            · exact HC.out _ KQ LQ JQ
            clear hHeld hK K; have hHeld := hH2; clear hH2; try go_frame
            refine hyO (some 82) 26 rfl (fun K hK => ?_)
            go_simp
            go_at_call 12
            refine (HY.out _ B).mono ?_
            rintro e wq ⟨rfl, bn⟩
            replace KQ := KQ.below bn KQ.lt
            replace LQ := LQ.below bn LQ.lt
            replace JQ := JQ.below bn JQ.lt
            replace B := B.trans (bn.mono B.size)
            clear bn HY
            go_wp2_with fail
            refine hK.out _ _ ?_ (fun hH2 => ?_)
            · exact HC.out _ KQ LQ JQ
            clear hHeld hK K; have hHeld := hH2; clear hH2; try go_frame
            refine hyY (some 83) 27 rfl hHeld ?_; go_frame
            refine hyY (some 84) 28 rfl hHeld ?_; go_frame
            refine hyY (some 85) 29 rfl hHeld ?_; go_frame
            refine hyY (some 86) 30 rfl hHeld ?_; go_frame
            refine hyY (some 87) 31 rfl hHeld ?_; go_frame
            refine hyY (some 88) 32 rfl hHeld ?_; go_frame
            refine hyY (some 89) 33 rfl hHeld ?_; go_frame
            refine hyY (some 90) 34 rfl hHeld ?_; go_frame
            refine wpAnyH_done (by kernel_rfl) ?_ _
            have hKK := HKK.out
            clear hHeld HC KQ LQ JQ HN
            go_wp2_with fail
            go_meet
            exact B
          · rw [decide_eq_false ht] at e3
            have h3 : ¬ tx.toList = ty.toList := by simpa using e3
            clear HEV HSAME HXI2 ha hb ht
            refine wp_region_held_drew (S := (fun W => W.cell? ⟨w.heap.size, 0, none⟩ = some (.int .i64 x.kind) ∧ W.cell? ⟨w.heap.size, 1, none⟩ = some (.int .i64 x.tick) ∧ W.cell? ⟨w.heap.size, 2, none⟩ = some (.string sa) ∧ W.cell? ⟨w.heap.size, 3, none⟩ = some (.string sb) ∧ W.cell? ⟨w.heap.size + 1, 0, none⟩ = some (.int .i64 y.kind) ∧ W.cell? ⟨w.heap.size + 1, 1, none⟩ = some (.int .i64 y.tick) ∧ W.cell? ⟨w.heap.size + 1, 2, none⟩ = some (.string ya) ∧ W.cell? ⟨w.heap.size + 1, 3, none⟩ = some (.string yb) ∧ W.cell? ⟨w3.heap.size, 0, none⟩ = some (.int .i64 x.kind) ∧ W.cell? ⟨w3.heap.size, 1, none⟩ = some (.int .i64 x.tick) ∧ W.cell? ⟨w3.heap.size, 2, none⟩ = some (.string sa) ∧ W.cell? ⟨w3.heap.size, 3, none⟩ = some (.string sb))) (by kernel_rfl) (by rw [HWD.out]; exact HC.out _ KQ LQ JQ) (fun hHeld => ?_)
            rw [HWD.out] at hHeld ⊢
            refine hyY (some 56) 0 rfl hHeld ?_; go_frame
            refine hyO (some 57) 1 rfl (fun K hK => ?_)
            go_simp
            go_at_call 10
            refine (HN.out _ _).mono ?_
            rintro e wq ⟨rfl, rfl⟩
            go_wp2_with fail
            refine hK.out _ _ ?_ (fun hH2 => ?_)
            · exact HC.out _ KQ LQ JQ
            clear hHeld hK K; have hHeld := hH2; clear hH2; try go_frame
            refine hyY (some 58) 2 rfl hHeld ?_; go_frame
            refine hyY (some 59) 3 rfl hHeld ?_; go_frame
            refine hyY (some 60) 4 rfl hHeld ?_; go_frame
            refine hyY (some 61) 5 rfl hHeld ?_; go_frame
            refine hyY (some 62) 6 rfl hHeld ?_; go_frame
            refine hyY (some 63) 7 rfl hHeld ?_; go_frame
            refine hyY (some 64) 8 rfl hHeld ?_; go_frame
            refine hyY (some 65) 9 rfl hHeld ?_; go_frame
            refine hyY (some 66) 10 rfl hHeld ?_; go_frame
            refine hyY (some 67) 11 rfl hHeld ?_; go_frame
            refine hyY (some 68) 12 rfl hHeld ?_; go_frame
            refine hyY (some 69) 13 rfl hHeld ?_; go_frame
            refine hyY (some 70) 14 rfl hHeld ?_; go_frame
            refine hyY (some 71) 15 rfl hHeld ?_; go_frame
            refine hyY (some 72) 16 rfl hHeld ?_; go_frame
            refine hyY (some 73) 17 rfl hHeld ?_; go_frame
            refine hyY (some 74) 18 rfl hHeld ?_; go_frame
            refine hyY (some 75) 19 rfl hHeld ?_; go_frame
            refine hyY (some 76) 20 rfl hHeld ?_; go_frame
            refine hyY (some 77) 21 rfl hHeld ?_; go_frame
            refine hyY (some 78) 22 rfl hHeld ?_; go_frame
            refine hyY (some 79) 23 rfl hHeld ?_; go_frame
            refine hyY (some 81) 25 rfl hHeld ?_; go_frame
            refine hyO (some 80) 24 rfl (fun K hK => ?_)
            go_simp
            go_at_call 12
            refine (HX.out _ B).mono ?_
            rintro e wq ⟨rfl, bn⟩
            replace KQ := KQ.below bn KQ.lt
            replace LQ := LQ.below bn LQ.lt
            replace JQ := JQ.below bn JQ.lt
            replace B := B.trans (bn.mono B.size)
            clear bn HX
            go_wp2_with fail
            refine hK.out _ _ ?_ (fun hH2 => ?_)
            · exact HC.out _ KQ LQ JQ
            clear hHeld hK K; have hHeld := hH2; clear hH2; try go_frame
            refine hyO (some 82) 26 rfl (fun K hK => ?_)
            go_simp
            go_at_call 12
            refine (HY.out _ B).mono ?_
            rintro e wq ⟨rfl, bn⟩
            replace KQ := KQ.below bn KQ.lt
            replace LQ := LQ.below bn LQ.lt
            replace JQ := JQ.below bn JQ.lt
            replace B := B.trans (bn.mono B.size)
            clear bn HY
            go_wp2_with fail
            refine hK.out _ _ ?_ (fun hH2 => ?_)
            · exact HC.out _ KQ LQ JQ
            clear hHeld hK K; have hHeld := hH2; clear hH2; try go_frame
            refine hyY (some 83) 27 rfl hHeld ?_; go_frame
            refine hyY (some 84) 28 rfl hHeld ?_; go_frame
            refine hyY (some 85) 29 rfl hHeld ?_; go_frame
            refine hyN (some 86) 30 rfl hHeld ?_; go_frame
            refine hyN (some 87) 31 rfl hHeld ?_; go_frame
            refine hyN (some 88) 32 rfl hHeld ?_; go_frame
            refine hyY (some 89) 33 rfl hHeld ?_; go_frame
            refine hyY (some 90) 34 rfl hHeld ?_; go_frame
            refine wpAnyH_done (by kernel_rfl) ?_ _
            have hKK := HKK.out
            clear hHeld HC KQ LQ JQ HN
            go_wp2_with fail
            go_meet
            exact B
  case rest =>
    clear HX HY HEV HSAME HXI HPN HPY e1 e2 e3 z1 z2 z3 z4 K L xa B HT
    have B := hcut
    have hg := HG.out wc _ l B (HV.out _ B) (by omega)
    obtain ⟨⟨⟨k, t, a, b⟩, re⟩, hr⟩ : ∃ r, getE l = r := ⟨_, rfl⟩
    have hbk := HBK.out
    rw [hr] at hg hbk
    dsimp only at hbk
    have HGX := Lib.hid hg
    have HBK2 := Lib.hid hbk
    have hlc : ∃ A2 c2, (Value.slice Av l.length cv) = .slice A2 l.length c2 := ⟨_, _, rfl⟩
    clear hg hbk HG HBK hr hcut hlc
    go_wp2_with fail
    refine HGX.out.mono ?_
    rintro e w3 ⟨vz, rfl, hvz, b3⟩
    clear HGX
    have hp2 := fun W hb => HP2.out ⟨k, t, a, b⟩ vz W hvz hb
    obtain ⟨rfl, _⟩ := hvz
    dsimp only at hp2 ⊢
    obtain ⟨za, hza⟩ : ∃ s : ByteArray, strV a = .string s := ⟨_, rfl⟩
    obtain ⟨zb, hzb⟩ : ∃ s : ByteArray, strV b = .string s := ⟨_, rfl⟩
    rw [hza, hzb] at hp2 ⊢
    have HPZ := Lib.hid hp2
    have J := KB.new w3 23 #[.int .i64 k, .int .i64 t, .string za, .string zb]
    have bn := (Below.refl w3.heap.size w3).alloc (Nat.le_refl _) (.cells #[.int .i64 k, .int .i64 t, .string za, .string zb] 23)
    replace B := (B.trans (b3.mono B.size)).trans (bn.mono (B.trans (b3.mono B.size)).size)
    clear hp2 HP2 hza hzb b3 bn
    by_cases h0 : re = 0
    case neg =>
      have g1 : (re != 0) = true := bne_iff_ne.2 h0
      have g2 : (re == 0) = false := beq_eq_false_iff_ne.2 h0
      clear HPZ HBK2 HV J
      go_wp2_with fail
      refine (HN.out _ _).mono ?_
      rintro e w4 ⟨rfl, rfl⟩
      clear HN
      go_wp2_with fail
      refine (HL.out _ B).mono ?_
      rintro e w5 ⟨rfl, b5⟩
      replace B := B.trans (b5.mono B.size)
      clear HL b5
      go_wp2_with fail
      go_ret
      exact ⟨rfl, B⟩
    case pos =>
      have hbk := HBK2.out h0
      subst h0
      have hpz := HPZ.out
      rw [hbk] at hpz
      replace HPZ := Lib.hid hpz
      clear HBK2 hbk hpz
      go_wp2_with fail
      refine (HN.out _ _).mono ?_
      rintro e w4 ⟨rfl, rfl⟩
      have j0 := J.cell 0
      have j1 := J.cell 1
      have j2 := J.cell 2
      have j3 := J.cell 3
      have hpz := Lib.hid (HPZ.out _ B)
      clear HPZ
      go_wp2_with fail
      refine hpz.out.mono ?_
      rintro e w5 ⟨vp, rfl, xp, b5⟩
      dsimp only at xp ⊢
      replace B := B.trans (b5.mono B.size)
      have hsm := Lib.hid (same_to _ _ vp _ l w5 xp (HV.out _ B))
      clear hpz j0 j1 j2 j3 J b5 xp HV
      go_wp2_with fail
      refine (HN.out _ _).mono ?_
      rintro e w6 ⟨rfl, rfl⟩
      go_wp2_with fail
      refine hsm.out.mono ?_
      rintro e w7 ⟨rfl, b7⟩
      replace B := B.trans (b7.mono B.size)
      clear hsm b7 HN
      go_wp2_with fail
      refine (HL.out _ B).mono ?_
      rintro e w8 ⟨rfl, b8⟩
      replace B := B.trans (b8.mono B.size)
      clear HL b8
      go_wp2_with fail
      go_ret
      exact ⟨rfl, B⟩
end
section
open Go.RowKit Go.ChangeShapes Go.WideShapes Go.Joins
theorem eventBack_law {H : Type} (enc : TypeId × Value → H) (W : World) (base : Nat) (hT : ETabs W) (v0 : Value) (d0 : DataW H) (p0 : List MemPlace) (v1 : Value) (d1 : DataW H) (p1 : List MemPlace) (v2 : Value) (d2 : DataW H) (p2 : List MemPlace)
    (k0 : Value.okWide Tryd.prog W .any base 23 v0) (k1 : Value.okWide Tryd.prog W .any base 23 v1) (k2 : Value.okWide Tryd.prog W .any base 25 v2)
    (h0 : DataW.Trod enc Tryd.prog W 0 (fun _ => true) true 23 v0 d0 p0) (h1 : DataW.Trod enc Tryd.prog W 0 (fun _ => true) true 23 v1 d1 p1) (h2 : DataW.Trod enc Tryd.prog W 0 (fun _ => true) true 25 v2 d2 p2) :
    Calls Tryd.prog 5 #[v0, v1, v2] W fun e W' => e = .returned (.bool true) ∧ Below W.heap.size W W' := by
  obtain ⟨x0, hx0⟩ := open_event k0 h0
  obtain ⟨x1, hx1⟩ := open_event k1 h1
  obtain ⟨l2, hb2⟩ := BS_of_arg k2 h2
  exact eventBack_main evOk x0 x1 l2 v0 v1 v2 W hT hx0 hx1 (hb2.lt.mono fun b h => h.2)
end
end Go.Proofs.YtpeopkjmmmodpaaDoor
section
namespace Go.Proofs.YtpeopkjmmmodpaaDoor.eventBack
open Go.ChangeShapes Go.WideShapes Go.ChangeAt Go.RowKit
theorem own : ownKnob Tryd.prog.godebug = none := by kernel_rfl
theorem laidOut : laidOutB Tryd.prog = true := by kernel_rfl
theorem door_met (os : Os) (args : Array Value) : laidMetH Tryd.prog Rows.eventBackRow.laid ((World.doorLaid Tryd.prog 400 os).forCall (fun _ _ => 0) ⟨#[], args, []⟩).memory :=
  laidMetH_of_parts3 (fuel := 8) (laidMet_of_run' 8 (by kernel_rfl) (by kernel_rfl)) (by kernel_rfl) (by kernel_rfl)
set_option maxRecDepth 100000 in
theorem lifted (os : Os) (started : os.Started) (H : Type) (enc : TypeId × Value → H) :
    ReturnsInHanded {} Tryd.checked os 5 .any (fun w args => (Rows.eventBackSpec.pre enc Tryd.prog Tryd.f5 [] false w args ∧ laidMetH Tryd.prog Rows.eventBackRow.laid w) ∧ sizedMet enc Tryd.prog Tryd.f5 (OpenSpec.ofChange Rows.eventBackSpec) false w args)
      (Rows.eventBackSpec.post enc Tryd.prog Tryd.f5 false true false false) := by
  refine returnsInHanded_of_change_and (C := Tryd.checked) (X := fun w _ => laidMetH Tryd.prog Rows.eventBackRow.laid w) (fun _ _ _ hh h => h.of_heap hh) own started (by kernel_rfl) Tryd.func5
    (ChangeSpec.witness_shaped (enc := enc) (C := Tryd.checked) (os := os) (X := fun w _ => laidMetH Tryd.prog Rows.eventBackRow.laid w) false (World.doorLaid Tryd.prog 400 os) #[.agg #[.int .i64 0, .int .i64 0, .string ByteArray.empty, .string ByteArray.empty], .agg #[.int .i64 0, .int .i64 0, .string ByteArray.empty, .string ByteArray.empty], .slice none 0 0] 8 rfl (World.shaped_of_RefB (by kernel_rfl) (by kernel_rfl)) (by kernel_rfl) (by kernel_rfl) (by kernel_rfl) (door_met os _)) ?_
  intro W base args ds gs before hval0 hW _ _ hL _
  have hval : ∀ (j : Nat) t v, Tryd.f5.params[j]? = some t → args[j]? = some v → Value.okWide Tryd.prog W .any base t v := hval0
  have hW' := hW
  obtain ⟨p, q, hA0, hV, rfl, hfz, hnd⟩ := hW
  have hA : DataW.TrodAll enc Tryd.prog W 0 (fun _ => true) true Tryd.f5.params.toList args.toList ds p := hA0
  rw [Tryd.params5] at hA hval
  obtain ⟨v0, vs0, d0, ds0, p0, q0, hargs, rfl, rfl, h0, r0⟩ := trodAll_cons hA
  obtain ⟨v1, vs1, d1, ds1, p1, q1, rfl, rfl, rfl, h1, r1⟩ := trodAll_cons r0
  obtain ⟨v2, vs2, d2, ds2, p2, q2, rfl, rfl, rfl, h2, r2⟩ := trodAll_cons r1
  obtain ⟨rfl, rfl, rfl⟩ := trodAll_nil r2
  obtain rfl : args = #[v0, v1, v2] := by cases args; simp_all
  obtain ⟨rfl, rfl⟩ := trodVars_none hV
  have lt0 : ∀ x ∈ p0, x.block < W.heap.size := by obtain ⟨m, hm⟩ := h0; exact DataW.trod_lt m _ _ _ hm
  have lt1 : ∀ x ∈ p1, x.block < W.heap.size := by obtain ⟨m, hm⟩ := h1; exact DataW.trod_lt m _ _ _ hm
  have lt2 : ∀ x ∈ p2, x.block < W.heap.size := by obtain ⟨m, hm⟩ := h2; exact DataW.trod_lt m _ _ _ hm
  refine (eventBack_law enc W base (etabs_of_laid (by kernel_rfl) hL) v0 d0 p0 v1 d1 p1 v2 d2 p2 (hval 0 _ v0 rfl rfl) (hval 1 _ v1 rfl rfl) (hval 2 _ v2 rfl rfl) h0 h1 h2).mono fun e W' ⟨he, bel⟩ => ?_
  subst he
  exact ⟨_, rfl, _, _, _, [], _, [], hW', trodAll_mk1 (shut_bool Tryd.underlying4 _), (trodAll_cons_mk (Below.trod laidOut (by kernel_rfl) (of_decide_eq_true (by kernel_rfl)) h0 bel lt0) (trodAll_cons_mk (Below.trod laidOut (by kernel_rfl) (of_decide_eq_true (by kernel_rfl)) h1 bel lt1) (trodAll_cons_mk (Below.trod laidOut (by kernel_rfl) (of_decide_eq_true (by kernel_rfl)) h2 bel lt2) trodAll_mk0))), rfl, bel.frame _, fun h => by cases h⟩
theorem over : Rows.eventBackRow.holds Tryd.pinned (OpenSpec.ofChange Rows.eventBackSpec) :=
  OpenClaim.holds_of_wide 5 Tryd.f5 rfl rfl rfl rfl rfl rfl rfl ⟨rfl, rfl, rfl, rfl, rfl⟩ rfl rfl rfl rfl rfl (by kernel_rfl) Tryd.func5 (by kernel_rfl)
    (of_decide_eq_true (by kernel_rfl)) (by unfold Func.isWrapper; first | (rw [if_pos (by decide +kernel)]; kernel_rfl) | (rw [if_neg (by decide +kernel)]; exact ⟨rfl, rfl⟩))
    (fun os started H enc _ => lifted os started H enc)
theorem proved : Rows.EventBackSaid := over
theorem row_tie : Rows.eventBackRow.laidByTextAt .later Tryd.pinned [.data, .data, .data, .data] true := eventBack_row_tie
theorem card : Rows.EventBackCardSaid :=
  Claim7.holds_tied_plain_at .later [] [.data, .data, .data, .data] true Rows.eventBackCard.stood.harness false
    over (fun _ h => by cases h) (by kernel_rfl) (fun _ h => by cases h) row_tie rfl ⟨rfl, rfl⟩ (by kernel_rfl) rfl
    (fun f fn hf hfn => by
      obtain rfl : f = 5 := Option.some.inj ((show Tryd.prog.funcNamed Rows.eventBackRow.func = some 5 by kernel_rfl).symm.trans hf) |>.symm
      obtain rfl : fn = Tryd.f5 := (Option.some.inj (Tryd.func5.symm.trans hfn)).symm
      exact ⟨by kernel_rfl, fun j t ht => by
        rw [Tryd.params5] at ht
        have hm : t ∈ [23, 23, 25] := by simpa using Array.mem_of_getElem? ht
        have hall : ([23, 23, 25].all fun u => !Tryd.prog.wantsStandIn u) = true := by kernel_rfl
        exact (show Tryd.prog.wantsStandIn t = false by simpa using List.all_eq_true.1 hall t hm)⟩)
    (by kernel_rfl)
end Go.Proofs.YtpeopkjmmmodpaaDoor.eventBack
end
