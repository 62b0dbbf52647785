/-
  Pow: strconv.Itoa over the loaded program: its contract. No condition but that the library's table of powers of ten is as laid.
  EvX: The program's own Text (layer 23), over the loaded program: its contract. No condition but that the table of the kinds' words, and the library's of powers of ten, are as laid.
  EvY: The program's own Get (layer 23), over the loaded program: its contract. No condition but that the table of the kinds' words is as laid, and the size that it names.
  EvZ: What the listed variables give the walks of layer 23: the library's table of powers of ten, and the program's table of the kinds' words, are as laid; the contracts of the package's own functions, all together. No condition.
-/
import Derived.Test.YtpeopkjmmmodpaaDoorLayI
import Derived.Test.YtpeopkjmmmodpaaDoorEy02
import Derived.Test.YtpeopkjmmmodpaaDoorEy01
import Derived.Lib.AppendIntMem
import Derived.Lib.ItoaLen
import Derived.Lib.SlBytesConst
import Derived.Test.YtpeopkjmmmodpaaDoorEy08
import Derived.Test.YtpeopkjmmmodpaaDoorEy07
import Derived.Test.YtpeopkjmmmodpaaDoorEy05
import Derived.Test.YtpeopkjmmmodpaaDoorRows
import Derived.ProofKit
import Derived.LaidMore
import Derived.OpenShut
import Derived.FnData
import Derived.Stop.LaidErr
set_option linter.unusedVariables false
set_option maxRecDepth 100000
namespace Go.Proofs.YtpeopkjmmmodpaaDoor
section
open Go.RowKit
def Pow (w : World) : Prop := Lib.TabIs Tryd.prog w "internal/strconv.uint64pow10" .u64 Lib.pow10Tab
theorem Pow.below {w w' : World} (h : Pow w) (b : Below w.heap.size w w') : Pow w' := Lib.tabBelow_of_tabIs h w' b
theorem itoa_any (n : Int) (hn : I64 n) (w : World) (hp : Pow w) :
    Calls Tryd.prog 26 #[.int .i64 n] w fun e w' => e = .returned (strV (Lib.itoa n)) ∧ Below w.heap.size w w' := by
  refine (Any.strconv_Itoa Tryd.laysItoa n hn.1 hn.2 w hp).mono ?_
  rintro e w' ⟨rfl, k, os, rfl⟩
  exact ⟨rfl, Lib.below_grow _ _ (Nat.le_refl _) _ _⟩
end
section
open Go.RowKit Go.ChangeShapes Go.WideShapes Go.Joins
theorem tailE_len {n : List UInt8} (h : n.length ≤ 16) : (tailE n).length ≤ 17 := by unfold tailE; split <;> simp; omega
set_option maxHeartbeats 16000000 in
theorem pevtext_any (x : Ev) (v : Value) (w : World) (hT : Wds w) (hP : Pow w) (hv : EvV v x) :
    Calls Tryd.prog 12 #[v] w fun e w' => e = .returned (strV (textE x)) ∧ Below w.heap.size w w' := by
  have HM := Lib.hid (fun W hw => pevcheck_any x v W hw hv)
  obtain ⟨rfl, hk, ht, hla, hlb⟩ := hv
  have K := KB.new w 23 #[.int .i64 x.kind, .int .i64 x.tick, strV x.a, strV x.b]
  have B := (Below.refl w.heap.size w).alloc (Nat.le_refl _) (.cells #[.int .i64 x.kind, .int .i64 x.tick, strV x.a, strV x.b] 23)
  obtain ⟨D, hD⟩ : ∃ D : Ending → World → Prop, D = fun e w' => e = .returned (strV (textE x)) ∧ Below w.heap.size w w' := ⟨_, rfl⟩
  rw [← hD]
  have HNO : Hid (mayE x = false → ∀ W, Below w.heap.size w W → D (.returned (.string ⟨#[]⟩)) W) := fun h W hb => by
    rw [hD]; unfold textE; rw [if_neg (by rw [h]; decide)]; exact ⟨rfl, hb⟩
  have HYES : Hid (mayE x = true → ∃ j tn : Nat, j < 14 ∧ x.kind = (j : Int) + 1 ∧ x.tick = (tn : Int) ∧ tn ≤ 1099511627776 ∧ x.a.length ≤ 16 ∧ x.b.length ≤ 16 ∧ ∀ W u, u = strV (Lib.decDigits tn ++ [32] ++ wordP ((j : Int) + 1) ++ tailE x.a ++ tailE x.b) → Below w.heap.size w W → D (.returned u) W) := fun h => by
    obtain ⟨h1, h2, h3, h4⟩ := (mayE_iff x).1 h
    refine ⟨(x.kind - 1).toNat, x.tick.toNat, by omega, by omega, by omega, by omega, nameE_len h3, nameE_len h4, fun W u hu hb => ?_⟩
    rw [hD, hu, text_is h, show (((x.kind - 1).toNat : Nat) : Int) + 1 = x.kind by omega, wordP_yes h1]
    exact ⟨rfl, hb⟩
  clear hD
  have hcall := HM.out _ (hT.below B)
  have HWD : Hid (∀ k W, Below w.heap.size w W → Calls Tryd.prog 24 #[.int .i64 k] W fun e w' => e = .returned (strV (wordP k)) ∧ w' = W) := fun k W hb => pword_any k W (hT.below hb)
  have HPW : Hid (∀ W, Below w.heap.size w W → Pow W) := fun W hb => hP.below hb
  have HBA := Lib.hid (fun (h : x.a.length ≤ 16) W => pbehind_any x.a (by omega) W)
  have HBB := Lib.hid (fun (h : x.b.length ≤ 16) W => pbehind_any x.b (by omega) W)
  obtain ⟨sa, hsa⟩ : ∃ s : ByteArray, strV x.a = .string s := ⟨_, rfl⟩
  obtain ⟨sb, hsb⟩ : ∃ s : ByteArray, strV x.b = .string s := ⟨_, rfl⟩
  have hba := HBA.out
  have hbb := HBB.out
  rw [hsa, hsb] at hcall K B ⊢
  rw [hsa] at hba
  rw [hsb] at hbb
  have HCK := Lib.hid hcall
  replace HBA := Lib.hid hba
  replace HBB := Lib.hid hbb
  have q0 := K.cell 0
  have q1 := K.cell 1
  have q2 := K.cell 2
  have q3 := K.cell 3
  clear hcall HM hba hbb hsa hsb hT hP hla hlb
  generalize x.kind = k at *
  generalize x.tick = t at *
  generalize x.a = la at *
  generalize x.b = lb at *
  generalize mayE x = m at *
  go_enter Tryd.func12, Tryd.ntmps12
  go_wp2_with fail
  refine HCK.out.mono ?_
  rintro e w1 ⟨rfl, b1⟩
  have K1 := K.below b1 K.lt
  have B1 := B.trans (b1.mono B.size)
  clear HCK K B b1 q0 q1 q2 q3
  cases m with
  | false =>
    have hfin := HNO.out rfl _ B1
    clear HNO HYES HBA HBB HWD HPW
    go_wp2_with fail
    exact hfin
  | true =>
  obtain ⟨j, tn, hj, rfl, rfl, htn, a16, b16, hfin⟩ := HYES.out rfl
  have hba := HBA.out a16
  have hbb := HBB.out b16
  have HIT : Hid (∀ W, Below w.heap.size w W → Calls Tryd.prog 26 #[.int .i64 (tn : Int)] W fun e w' => e = .returned (strV (Lib.decDigits tn)) ∧ Below W.heap.size W w') := fun W hb => by
    have h := itoa_any (tn : Int) (by unfold I64; omega) W (HPW.out W hb)
    rwa [Lib.itoa_nonneg] at h
  have HW2 : Hid (∀ W, Below w.heap.size w W → Calls Tryd.prog 24 #[.int .i64 ((j : Int) + 1)] W fun e w' => e = .returned (strV (wordP ((j : Int) + 1))) ∧ w' = W) := fun W hb => HWD.out _ W hb
  have hdl := digits_len htn
  have hwl : (wordP ((j : Int) + 1)).length ≤ 8 := by rw [wordP_yes (by omega)]; exact word_len j hj
  have hta := tailE_len a16
  have htb := tailE_len b16
  clear HNO HYES hk ht HBA HBB HWD HPW a16 b16
  have hw2 := HW2.out
  have hit := HIT.out
  generalize wordP ((j : Int) + 1) = wd at *
  generalize Lib.decDigits tn = dg at *
  generalize tailE la = ta at *
  generalize tailE lb = tb at *
  obtain ⟨sw, hsw⟩ : ∃ s : ByteArray, s = ⟨wd.toArray⟩ := ⟨_, rfl⟩
  obtain ⟨sd, hsd⟩ : ∃ s : ByteArray, s = ⟨dg.toArray⟩ := ⟨_, rfl⟩
  obtain ⟨ra, hra⟩ : ∃ s : ByteArray, s = ⟨ta.toArray⟩ := ⟨_, rfl⟩
  obtain ⟨rb, hrb⟩ : ∃ s : ByteArray, s = ⟨tb.toArray⟩ := ⟨_, rfl⟩
  obtain ⟨u1, hu1⟩ : ∃ s : ByteArray, s = ⟨(dg ++ [32]).toArray⟩ := ⟨_, rfl⟩
  obtain ⟨u2, hu2⟩ : ∃ s : ByteArray, s = ⟨(dg ++ [32] ++ wd).toArray⟩ := ⟨_, rfl⟩
  obtain ⟨u3, hu3⟩ : ∃ s : ByteArray, s = ⟨(dg ++ [32] ++ wd ++ ta).toArray⟩ := ⟨_, rfl⟩
  obtain ⟨u4, hu4⟩ : ∃ s : ByteArray, s = ⟨(dg ++ [32] ++ wd ++ ta ++ tb).toArray⟩ := ⟨_, rfl⟩
  have f1 := wadd sd ⟨#[32]⟩ u1 dg [32] hsd rfl hu1 (by simp; omega)
  have f2 := wadd u1 sw u2 (dg ++ [32]) wd hu1 hsw hu2 (by simp; omega)
  have f3 := wadd u2 ra u3 (dg ++ [32] ++ wd) ta hu2 hra hu3 (by simp; omega)
  have f4 := wadd u3 rb u4 (dg ++ [32] ++ wd ++ ta) tb hu3 hrb hu4 (by simp; omega)
  rw [show strV wd = .string sw by rw [hsw]; rfl] at hw2
  rw [show strV dg = .string sd by rw [hsd]; rfl] at hit
  rw [show strV ta = .string ra by rw [hra]; rfl] at hba
  rw [show strV tb = .string rb by rw [hrb]; rfl] at hbb
  replace HW2 := Lib.hid hw2
  replace HIT := Lib.hid hit
  have HBA := Lib.hid hba
  have HBB := Lib.hid hbb
  replace hfin := fun W => hfin W (.string u4) (by rw [hu4]; rfl)
  have HFIN := Lib.hid hfin
  clear hw2 hit hba hbb hfin hsw hsd hra hrb hu1 hu2 hu3 hu4 hdl hwl hta htb
  have N : PN w w.heap.size 23 #[.int .i64 ((j : Int) + 1), .int .i64 (tn : Int), .string sa, .string sb] w1 [] := ⟨K1, B1, fun p hp => by cases hp⟩
  clear K1 B1
  go_wp2_with fail
  rename_i KK hKK
  have HKK := Lib.hid hKK
  clear hKK
  replace N : PN w w.heap.size 23 #[.int .i64 ((j : Int) + 1), .int .i64 (tn : Int), .string sa, .string sb] w1.drew [] := N.past (Below_drawn (Below.refl _ _) 1)
  have HC : Hid (∀ W L, PN w w.heap.size 23 #[.int .i64 ((j : Int) + 1), .int .i64 (tn : Int), .string sa, .string sb] W L → W.cell? ⟨w.heap.size, 0, none⟩ = some (.int .i64 ((j : Int) + 1)) ∧ W.cell? ⟨w.heap.size, 1, none⟩ = some (.int .i64 (tn : Int)) ∧ W.cell? ⟨w.heap.size, 2, none⟩ = some (.string sa) ∧ W.cell? ⟨w.heap.size, 3, none⟩ = some (.string sb)) := fun W L K => ⟨K.kb.cell 0, K.kb.cell 1, K.kb.cell 2, K.kb.cell 3⟩
  refine wp_region_held_drew (S := (fun W => W.cell? ⟨w.heap.size, 0, none⟩ = some (.int .i64 ((j : Int) + 1)) ∧ W.cell? ⟨w.heap.size, 1, none⟩ = some (.int .i64 (tn : Int)) ∧ W.cell? ⟨w.heap.size, 2, none⟩ = some (.string sa) ∧ W.cell? ⟨w.heap.size, 3, none⟩ = some (.string sb))) (by kernel_rfl) (HC.out _ _ N) (fun hHeld => ?_)
  generalize w1.drew = wq at *
  refine hyY (some 6) 0 rfl hHeld ?_; go_frame
  refine hyY (some 7) 1 rfl hHeld ?_; go_frame
  refine hyY (some 10) 4 rfl hHeld ?_; go_frame
  refine hyY (some 11) 5 rfl hHeld ?_; go_frame
  refine hyY (some 14) 8 rfl hHeld ?_; go_frame
  refine hyY (some 15) 9 rfl hHeld ?_; go_frame
  refine hyY (some 18) 12 rfl hHeld ?_; go_frame
  refine hyY (some 19) 13 rfl hHeld ?_; go_frame
  refine hyO (some 8) 2 rfl (fun K hK => ?_)
  go_simp
  go_at_call 26
  refine (HIT.out _ N.bl).mono ?_
  rintro e wq ⟨rfl, bn⟩
  replace N := N.past bn
  clear bn
  go_wp2_with fail
  refine hK.out _ _ ?_ (fun hH2 => ?_)
  · exact HC.out _ _ N
  clear hHeld hK K; have hHeld := hH2; clear hH2; try go_frame
  refine hyY (some 9) 3 rfl hHeld ?_; go_frame
  refine hyO (some 12) 6 rfl (fun K hK => ?_)
  go_simp
  go_at_call 24
  refine (HW2.out _ N.bl).mono ?_
  rintro e wq ⟨rfl, rfl⟩
  go_wp2_with fail
  refine hK.out _ _ ?_ (fun hH2 => ?_)
  · exact HC.out _ _ N
  clear hHeld hK K; have hHeld := hH2; clear hH2; try go_frame
  refine hyY (some 13) 7 rfl hHeld ?_; go_frame
  refine hyO (some 16) 10 rfl (fun K hK => ?_)
  go_simp
  go_at_call 27
  refine (HBA.out _).mono ?_
  rintro e wq ⟨rfl, rfl⟩
  clear HBA
  go_wp2_with fail
  refine hK.out _ _ ?_ (fun hH2 => ?_)
  · exact HC.out _ _ N
  clear hHeld hK K; have hHeld := hH2; clear hH2; try go_frame
  refine hyY (some 17) 11 rfl hHeld ?_; go_frame
  refine hyO (some 20) 14 rfl (fun K hK => ?_)
  go_simp
  go_at_call 27
  refine (HBB.out _).mono ?_
  rintro e wq ⟨rfl, rfl⟩
  go_wp2_with fail
  refine hK.out _ _ ?_ (fun hH2 => ?_)
  · exact HC.out _ _ N
  clear hHeld hK K; have hHeld := hH2; clear hH2; try go_frame
  refine hyY (some 21) 15 rfl hHeld ?_; go_frame
  refine hyY (some 2) 16 rfl hHeld ?_; go_frame
  refine wpAnyH_done (by kernel_rfl) ?_ _
  have hfin := HFIN.out wq N.bl
  have hKK := HKK.out
  clear hHeld HC HFIN N HBB HW2 HIT
  go_wp2_with fail
  exact hfin
end
section
open Go.RowKit Go.ChangeShapes Go.WideShapes Go.Joins
theorem ev_nil_passed : passed 1 (some ([] : List UInt8)) = (none, []) := by unfold passed; rw [if_pos (.inr (by simp))]
theorem ev_cons_passed (k : UInt8) (l : List UInt8) : passed 1 (some (k :: l)) = (some l, [k]) := by unfold passed; rw [if_neg (by simp; omega)]; rfl
set_option maxHeartbeats 16000000 in
theorem pevget_any (S : Nat → Prop) (v : Value) (l : List UInt8) (w : World) (hT : Wds w) (h : BS w S v l) (hl : l.length ≤ 1000000) :
    Calls Tryd.prog 16 #[v] w (EGetAs w (getE l)) := by
  have K4 := KB.new w 23 #[.int .i64 0, .int .i64 0, .string ⟨#[]⟩, .string ⟨#[]⟩]
  have B := (Below.refl w.heap.size w).alloc (Nat.le_refl _) (.cells #[.int .i64 0, .int .i64 0, .string ⟨#[]⟩, .string ⟨#[]⟩] 23)
  have h1 := h.alloc (.cells #[.int .i64 0, .int .i64 0, .string ⟨#[]⟩, .string ⟨#[]⟩] 23)
  obtain ⟨D, hD⟩ : ∃ D, D = EGetAs w (getE l) := ⟨_, rfl⟩
  rw [← hD]
  obtain ⟨⟨st1, p5⟩, h5⟩ : ∃ p, passed 1 (some l) = p := ⟨_, rfl⟩
  obtain ⟨⟨st2, z⟩, hC⟩ : ∃ p, cntOf 1099511627776 st1 = p := ⟨_, rfl⟩
  obtain ⟨⟨st3, na⟩, hA⟩ : ∃ p, txtOf 16 st2 = p := ⟨_, rfl⟩
  obtain ⟨⟨st4, nb⟩, hB⟩ : ∃ p, txtOf 16 st3 = p := ⟨_, rfl⟩
  have hl1 : (st1.getD []).length ≤ 1000000 := by
    cases l with
    | nil => rw [ev_nil_passed] at h5; injection h5 with h5 _; subst h5; simp
    | cons k l => rw [ev_cons_passed] at h5; injection h5 with h5 _; subst h5; simp at hl ⊢; omega
  have hl2 : (st2.getD []).length ≤ 1000000 := by
    have k2 := cntOf_len 1099511627776 st1
    rw [hC] at k2
    simp only at k2
    omega
  have hl3 : (st3.getD []).length ≤ 1000000 := by
    have k2 := txt_len 16 st2
    rw [hA] at k2
    simp only at k2
    omega
  have hna : na.length ≤ 1000000 := by
    have k2 := txt_few 16 st2
    rw [hA] at k2
    simp only at k2
    omega
  have hnb : nb.length ≤ 1000000 := by
    have k2 := txt_few 16 st3
    rw [hB] at k2
    simp only at k2
    omega
  have hz : z ≤ 1099511627776 := by
    have k := numOf_lt st1
    unfold cntOf at hC
    split at hC
    · injection hC with _ e; omega
    · rename_i hh
      rw [hC] at hh
      simp only at hh
      omega
  have hEV : ∀ k : UInt8, EvV (.agg #[.int .i64 (k.toNat : Int), .int .i64 (z : Int), strV na, strV nb]) ⟨(k.toNat : Int), (z : Int), na, nb⟩ := fun k => by
    have hk256 : k.toNat < 256 := k.toNat_lt
    exact ⟨rfl, by show I64 (k.toNat : Int); unfold I64; omega, by show I64 (z : Int); unfold I64; omega, Nat.le_trans hna (by unfold maxLen; omega), Nat.le_trans hnb (by unfold maxLen; omega)⟩
  have HNO : Hid (st4 ≠ some [] → ∀ W, Below w.heap.size w W → D (.returned (.tuple #[.agg #[.int .i64 0, .int .i64 0, .string ⟨#[]⟩, .string ⟨#[]⟩], .int .i64 2])) W) := fun hn W hb => by
    have e : getE l = (zeroE, 2) := by
      cases l with
      | nil => unfold getE readE; rw [if_neg (fun h => by cases h.1)]
      | cons k l =>
        rw [ev_cons_passed] at h5
        injection h5 with h5 _
        subst h5
        unfold getE
        rw [readE_cons, hC]
        dsimp only
        rw [hA]
        dsimp only
        rw [hB, if_neg (fun h => hn h.1)]
    rw [hD, e]; exact ⟨_, rfl, zero_EvV, hb⟩
  have HYES : Hid (st4 = some [] → ∃ k : UInt8, p5 = [k] ∧ (mayE ⟨(k.toNat : Int), (z : Int), na, nb⟩ = false → ∀ W, Below w.heap.size w W → D (.returned (.tuple #[.agg #[.int .i64 0, .int .i64 0, .string ⟨#[]⟩, .string ⟨#[]⟩], .int .i64 2])) W) ∧ (mayE ⟨(k.toNat : Int), (z : Int), na, nb⟩ = true → ∀ W, Below w.heap.size w W → D (.returned (.tuple #[.agg #[.int .i64 (k.toNat : Int), .int .i64 (z : Int), strV na, strV nb], .int .i64 0])) W)) := fun hy => by
    cases l with
    | nil =>
      rw [ev_nil_passed] at h5
      injection h5 with h5 _
      subst h5
      have e2 := sc_cnt_none 1099511627776
      rw [hC] at e2
      have e2 : st2 = none := e2
      subst e2
      have e3 := sc_txt_none 16
      rw [hA] at e3
      have e3 : st3 = none := e3
      subst e3
      have e4 := sc_txt_none 16
      rw [hB] at e4
      have e4 : st4 = none := e4
      rw [e4] at hy; cases hy
    | cons k l =>
      rw [ev_cons_passed] at h5
      injection h5 with h5 h6
      subst h5
      have hg : getE (k :: l) = if st4 = some [] ∧ mayE ⟨(k.toNat : Int), (z : Int), na, nb⟩ = true then (⟨(k.toNat : Int), (z : Int), na, nb⟩, 0) else (zeroE, 2) := by
        unfold getE
        rw [readE_cons, hC]
        dsimp only
        rw [hA]
        dsimp only
        rw [hB]
      refine ⟨k, h6.symm, fun hm W hb => ?_, fun hm W hb => ?_⟩
      · rw [hD, hg, if_neg (fun h => by rw [hm] at h; cases h.2)]; exact ⟨_, rfl, zero_EvV, hb⟩
      · rw [hD, hg, if_pos ⟨hy, hm⟩]; exact ⟨_, rfl, hEV k, hb⟩
  have HCK : Hid (∀ (k : UInt8) W, Below w.heap.size w W → Calls Tryd.prog 11 #[.agg #[.int .i64 (k.toNat : Int), .int .i64 (z : Int), strV na, strV nb]] W fun e w' => e = .returned (.int .i64 (if mayE ⟨(k.toNat : Int), (z : Int), na, nb⟩ = true then 0 else 1)) ∧ Below W.heap.size W w') := fun k W hb => pevcheck_any _ _ W (hT.below hb) (hEV k)
  clear hD h hEV hT
  go_enter Tryd.func16, Tryd.ntmps16
  go_wp2_with fail
  refine (new_any S v l _ h1 (by omega)).mono ?_
  rintro e w1 ⟨g, rfl, hg1, hg2, hr, b1⟩
  replace K4 := K4.below b1 K4.lt
  replace B := B.trans (b1.mono B.size)
  have hgw : w.heap.size < g := by rw [World.size_alloc] at hg1; omega
  clear h1 b1 hg1
  generalize (fun b => (w.alloc (.cells #[.int .i64 0, .int .i64 0, .string ⟨#[]⟩, .string ⟨#[]⟩] 23)).heap.size ≤ b ∧ b < g) = S0 at hr
  have hne4 : some g ≠ some w.heap.size := by simp; omega
  have htk := fun W h => take_rd 1 g S0 (some l) W h (by simp; omega)
  rw [h5] at htk
  have hcn := fun W h => count_some 1099511627776 (by omega) g S0 st1 W h
  rw [hC] at hcn
  have hta := fun W h => text_some 16 (by omega) g S0 st2 W h (by omega)
  rw [hA] at hta
  have htb := fun W h => text_some 16 (by omega) g S0 st3 W h (by omega)
  rw [hB] at htb
  simp only at htk hcn hta htb
  have HTK := Lib.hid htk
  have HCN := Lib.hid hcn
  have HTA := Lib.hid hta
  have HTB := Lib.hid htb
  have HOK := Lib.hid (fun W h => ok_rd g S0 st4 W h)
  have HLF := Lib.hid (fun W h => left_rd g S0 st4 W h)
  clear htk hcn hta htb h5 hC hA hB hl1 hl2 hl3 hl hz
  go_wp2_with fail
  refine (HTK.out _ hr).mono ?_
  rintro e w2 ⟨v5, rfl, hr2, o5, g2⟩
  have x5 : BS w2 (fun b => b ≠ g ∧ b < w2.heap.size) v5 p5 := (own_BS o5).mono fun b h => ⟨by omega, h.2⟩
  replace K4 := K4.grown g2 hne4
  replace B := B.trans (below_of_grown' g2 (Nat.le_of_lt hgw) B.size)
  clear HTK hr o5 g2
  go_wp2_with fail
  refine (HCN.out _ hr2).mono ?_
  rintro e w3 ⟨rfl, hr3, g3⟩
  replace x5 := x5.grown g3 (fun b e h => by injection e with e; exact h.1 e.symm)
  replace K4 := K4.grown g3 hne4
  replace B := B.trans (below_of_grown' g3 (Nat.le_of_lt hgw) B.size)
  clear HCN hr2 g3
  go_wp2_with fail
  refine (HTA.out _ hr3).mono ?_
  rintro e w4 ⟨v7, rfl, hr4, o7, g4⟩
  have x7 : BS w4 (fun b => b ≠ g ∧ b < w4.heap.size) v7 na := (own_BS o7).mono fun b h => ⟨by have := hr3.lt; omega, h.2⟩
  replace x5 := x5.grown g4 (fun b e h => by injection e with e; exact h.1 e.symm)
  replace K4 := K4.grown g4 hne4
  replace B := B.trans (below_of_grown' g4 (Nat.le_of_lt hgw) B.size)
  clear HTA hr3 o7 g4
  go_wp2_with fail
  refine (HTB.out _ hr4).mono ?_
  rintro e w5 ⟨v8, rfl, hr5, o8, g5⟩
  have x8 : BS w5 (fun b => b ≠ g ∧ b < w5.heap.size) v8 nb := (own_BS o8).mono fun b h => ⟨by have := hr4.lt; omega, h.2⟩
  replace x5 := x5.grown g5 (fun b e h => by injection e with e; exact h.1 e.symm)
  replace x7 := x7.grown g5 (fun b e h => by injection e with e; exact h.1 e.symm)
  replace K4 := K4.grown g5 hne4
  replace B := B.trans (below_of_grown' g5 (Nat.le_of_lt hgw) B.size)
  clear HTB hr4 o8 g5
  have m0 := K4.cell 0
  have m1 := K4.cell 1
  have m2 := K4.cell 2
  have m3 := K4.cell 3
  have f0 := K4.free 0
  have f1 := K4.free 1
  have f2 := K4.free 2
  have f3 := K4.free 3
  go_wp2_with fail
  refine (HOK.out _ hr5).mono ?_
  rintro e w6 ⟨rfl, rfl⟩
  clear HOK
  have k6 := K4.put4e (.int .i64 0) (.int .i64 0) (.string ⟨#[]⟩) (.string ⟨#[]⟩)
  have B9 := B.trans (below_of_grown' (egrown_four w5 w.heap.size (.int .i64 0) (.int .i64 0) (.string ⟨#[]⟩) (.string ⟨#[]⟩)) (Nat.le_refl _) B.size)
  cases st4 with
  | none =>
    have hfin := HNO.out (by simp) _ B9
    clear HNO HYES HLF HCK hr5 x5 x7 x8
    go_wp2_with fail
    exact bodyPost_ret (results_cell_tmp (P := Tryd.prog) (p := 2) (u := 3) rfl _ _ w.heap.size _ _ (0, 0) _ rfl k6 Tryd.underlying23 rfl (by kernel_rfl)) rfl hfin
  | some rest =>
  go_wp2_with fail
  refine (HLF.out _ hr5).mono ?_
  rintro e w6 ⟨rfl, rfl⟩
  clear HLF
  simp only [Option.getD_some]
  by_cases h0 : 0 < rest.length
  · have dd : decide (0 < (rest.length : Int)) = true := decide_eq_true (by omega)
    have hfin := HNO.out (fun h => by injection h with h; rw [h] at h0; simp at h0) _ B9
    clear HNO HYES HCK hr5 x5 x7 x8
    go_wp2_with fail
    exact bodyPost_ret (results_cell_tmp (P := Tryd.prog) (p := 2) (u := 3) rfl _ _ w.heap.size _ _ (0, 0) _ rfl k6 Tryd.underlying23 rfl (by kernel_rfl)) rfl hfin
  obtain rfl : rest = [] := List.eq_nil_of_length_eq_zero (by omega)
  obtain ⟨k, rfl, hno, hyes⟩ := HYES.out rfl
  obtain ⟨A5, c5, rfl, _⟩ := x5.form
  obtain ⟨A7, c7, rfl, _⟩ := x7.form
  obtain ⟨A8, c8, rfl, _⟩ := x8.form
  obtain ⟨b, o, rfl, _, _, hcell⟩ := x5.at_ (by simp)
  have hS5 : w5.cell? ⟨b, o, none⟩ = some (.int .u8 (k.toNat : Int)) := hcell 0 k rfl
  have HC : Hid (∀ W, W.cell? ⟨b, o, none⟩ = some (.int .u8 (k.toNat : Int)) → BS W (fun b => b ≠ g ∧ b < w5.heap.size) (.slice A7 na.length c7) na → BS W (fun b => b ≠ g ∧ b < w5.heap.size) (.slice A8 nb.length c8) nb → W.cell? ⟨b, o, none⟩ = some (.int .u8 (k.toNat : Int)) ∧ (convert 25 9 (.slice A7 na.length c7)).run Tryd.prog W = .ok (strV na) W ∧ (convert 25 9 (.slice A8 nb.length c8)).run Tryd.prog W = .ok (strV nb) W) :=
    fun W h1 h2 h3 => ⟨h1, h2.str Tryd.underlying25 Tryd.underlying5 Tryd.underlying9, h3.str Tryd.underlying25 Tryd.underlying5 Tryd.underlying9⟩
  replace x7 : BS w5 (fun b => b ≠ g ∧ b < w5.heap.size) (.slice A7 na.length c7) na := x7.lt.mono fun b h => ⟨by have := h; omega, by have := h; omega⟩
  have hk256 : k.toNat < 256 := k.toNat_lt
  have hck := HCK.out k
  obtain ⟨sna, hsna⟩ : ∃ s : ByteArray, strV na = .string s := ⟨_, rfl⟩
  obtain ⟨snb, hsnb⟩ : ∃ s : ByteArray, strV nb = .string s := ⟨_, rfl⟩
  have hc := HC.out
  rw [hsna, hsnb] at hc hck hyes
  replace HC := Lib.hid hc
  replace HCK := Lib.hid hck
  have HNO2 := Lib.hid hno
  have HYES2 := Lib.hid hyes
  clear hc hck hno hyes HNO HYES hsna hsnb hcell x5 k6 B9 hr5 h0
  generalize mayE ⟨(k.toNat : Int), (z : Int), na, nb⟩ = m at *
  generalize k.toNat = kn at *
  have hkw : IntKind.i64.wrap (kn : Int) = (kn : Int) := by rw [IntKind.wrap_i64]; omega
  have hw5 : w.heap.size < w5.heap.size := K4.lt
  go_wp2_with fail
  rename_i KK hKK
  have HKK := Lib.hid hKK
  clear hKK m0 m1 m2 m3 f0 f1 f2 f3
  replace K4 : KB w5.drew w.heap.size 23 #[.int .i64 0, .int .i64 0, .string ⟨#[]⟩, .string ⟨#[]⟩] := K4
  replace B : Below w.heap.size w w5.drew := Below_drawn B 1
  replace hS5 : w5.drew.cell? ⟨b, o, none⟩ = some (.int .u8 (kn : Int)) := hS5
  replace x7 : BS w5.drew (fun b => b ≠ g ∧ b < w5.heap.size) (.slice A7 na.length c7) na := x7.below' (Below_drawn (Below.refl _ _) 1)
  replace x8 : BS w5.drew (fun b => b ≠ g ∧ b < w5.heap.size) (.slice A8 nb.length c8) nb := x8.below' (Below_drawn (Below.refl _ _) 1)
  have hsz : w5.heap.size ≤ w5.drew.heap.size := Nat.le_refl _
  refine wp_region_held_drew (S := (fun W => W.cell? ⟨b, o, none⟩ = some (.int .u8 (kn : Int)) ∧ (convert 25 9 (.slice A7 na.length c7)).run Tryd.prog W = .ok (.string sna) W ∧ (convert 25 9 (.slice A8 nb.length c8)).run Tryd.prog W = .ok (.string snb) W)) (by kernel_rfl) (HC.out _ hS5 x7 x8) (fun hHeld => ?_)
  generalize w5.drew = wq at *
  have hb5 : b < wq.heap.size := World.block_lt_of_cell? _ _ hS5
  refine hyY (some 29) 0 rfl hHeld ?_; go_frame
  refine hyY (some 30) 1 rfl hHeld ?_; go_frame
  refine hyY (some 31) 2 rfl hHeld ?_; go_frame
  refine hyY (some 32) 3 rfl hHeld ?_; go_frame
  refine hyY (some 33) 4 rfl hHeld ?_; go_frame
  refine hyY (some 34) 5 rfl hHeld ?_; go_frame
  refine hyY (some 35) 6 rfl hHeld ?_; go_frame
  refine hyY (some 36) 7 rfl hHeld ?_; go_frame
  refine hyY (some 37) 8 rfl hHeld ?_; go_frame
  refine hyY (some 38) 9 rfl hHeld ?_; go_frame
  refine hyO (some 9) 10 rfl (fun K hK => ?_)
  go_simp
  have K9 := KB.new wq 23 #[.int .i64 0, .int .i64 0, .string ⟨#[]⟩, .string ⟨#[]⟩]
  have bn := (Below.refl wq.heap.size wq).alloc (Nat.le_refl _) (.cells #[.int .i64 0, .int .i64 0, .string ⟨#[]⟩, .string ⟨#[]⟩] 23)
  replace K4 := K4.below bn K4.lt
  replace B := B.trans (bn.mono B.size)
  replace hS5 := (bn.cell hb5).trans hS5
  replace x7 := x7.below' bn
  replace x8 := x8.below' bn
  obtain ⟨g9, hg9⟩ : ∃ g9, g9 = wq.heap.size := ⟨_, rfl⟩
  rw [← hg9] at K9 hb5 hsz ⊢
  clear bn hg9
  generalize wq.alloc (.cells #[.int .i64 0, .int .i64 0, .string ⟨#[]⟩, .string ⟨#[]⟩] 23) = wm at *
  refine hK.out _ _ ?_ (fun hH2 => ?_)
  · exact HC.out _ hS5 x7 x8
  clear hHeld hK K; have hHeld := hH2; clear hH2; try go_frame
  refine hyO none 11 rfl (fun K hK => ?_)
  have c0 := K9.cell 0
  have c1 := K9.cell 1
  have c2 := K9.cell 2
  have c3 := K9.cell 3
  have f0 := K9.free 0
  have f1 := K9.free 1
  have f2 := K9.free 2
  have f3 := K9.free 3
  replace K9 := K9.put4e (.int .i64 (kn : Int)) (.int .i64 (z : Int)) (.string sna) (.string snb)
  have g8 := egrown_four wm g9 (.int .i64 (kn : Int)) (.int .i64 (z : Int)) (.string sna) (.string snb)
  replace K4 := K4.grown g8 (by intro e; injection e with e; omega)
  replace B := B.trans (below_of_grown' g8 (by omega) B.size)
  replace hS5 := cell_far g8 (by omega) hS5
  replace x7 := x7.grown g8 (fun b e h => by injection e with e; have := h.2; omega)
  replace x8 := x8.grown g8 (fun b e h => by injection e with e; have := h.2; omega)
  clear g8
  go_simp
  refine hK.out _ _ ?_ (fun hH2 => ?_)
  · exact HC.out _ hS5 x7 x8
  clear hHeld hK K; have hHeld := hH2; clear hH2; try go_frame
  refine wpAnyH_done (by kernel_rfl) ?_ _
  have hKK := HKK.out
  clear hHeld HC HKK x7 x8 hS5
  clear c0 c1 c2 c3 f0 f1 f2 f3
  generalize (((wm.setCell ⟨g9, 0, none⟩ (.int .i64 (kn : Int))).setCell ⟨g9, 1, none⟩ (.int .i64 (z : Int))).setCell ⟨g9, 2, none⟩ (.string sna)).setCell ⟨g9, 3, none⟩ (.string snb) = w7 at *
  have q0 := K9.cell 0
  have q1 := K9.cell 1
  have q2 := K9.cell 2
  have q3 := K9.cell 3
  go_wp2_with fail
  refine (HCK.out _ B).mono ?_
  rintro e w9 ⟨rfl, b9⟩
  clear HCK q0 q1 q2 q3
  replace K9 := K9.below b9 K9.lt
  replace K4 := K4.below b9 K4.lt
  replace B := B.trans (b9.mono B.size)
  have q0 := K9.cell 0
  have q1 := K9.cell 1
  have q2 := K9.cell 2
  have q3 := K9.cell 3
  have m0 := K4.cell 0
  have m1 := K4.cell 1
  have m2 := K4.cell 2
  have m3 := K4.cell 3
  have f0 := K4.free 0
  have f1 := K4.free 1
  have f2 := K4.free 2
  have f3 := K4.free 3
  cases m with
  | false =>
    have k6 := K4.put4e (.int .i64 0) (.int .i64 0) (.string ⟨#[]⟩) (.string ⟨#[]⟩)
    have B9 := B.trans (below_of_grown' (egrown_four w9 w.heap.size (.int .i64 0) (.int .i64 0) (.string ⟨#[]⟩) (.string ⟨#[]⟩)) (Nat.le_refl _) B.size)
    have hfin := HNO2.out rfl _ B9
    clear HNO2 HYES2 b9 K9
    go_wp2_with fail
    exact bodyPost_ret (results_cell_tmp (P := Tryd.prog) (p := 2) (u := 3) rfl _ _ w.heap.size _ _ (0, 0) _ rfl k6 Tryd.underlying23 rfl (by kernel_rfl)) rfl hfin
  | true =>
    have k6 := K4.put4e (.int .i64 (kn : Int)) (.int .i64 (z : Int)) (.string sna) (.string snb)
    have B9 := B.trans (below_of_grown' (egrown_four w9 w.heap.size (.int .i64 (kn : Int)) (.int .i64 (z : Int)) (.string sna) (.string snb)) (Nat.le_refl _) B.size)
    have hfin := HYES2.out rfl _ B9
    clear HNO2 HYES2 b9 K9
    go_wp2_with fail
    exact bodyPost_ret (results_cell_tmp (P := Tryd.prog) (p := 2) (u := 3) rfl _ _ w.heap.size _ _ (0, 0) _ rfl k6 Tryd.underlying23 rfl (by kernel_rfl)) rfl hfin
end
section
open Go.ChangeShapes Go.WideShapes Go.ChangeAt Go.RowKit
def ETabs (w : World) : Prop := Pow w ∧ Wds w
theorem evOk : EvOk ETabs where
  past := fun w w' h b => ⟨h.1.below b, h.2.below b⟩
  check := fun x v w h hv => pevcheck_any x v w h.2 hv
  put := fun x v w h hv => pevput_any x v w h.2 hv
  get := fun v l w h hb hl => pevget_any _ v l w h.2 hb hl
  text := fun x v w h hv => pevtext_any x v w h.2 h.1 hv
  ends := fun x v w h hv => pevends_any x v w h.2 hv
theorem pow_data : (Rows.laid_internal_strconv_uint64pow10 : DataW Unit) = Lib.tabData .u64 Lib.pow10Tab := by kernel_rfl
theorem pow_type : (Tryd.prog.globals[1]?).map (·.type) = some 81 := by kernel_rfl
theorem cells_u64 : Tryd.prog.cellsOf 58 = 1 := by kernel_rfl
theorem cells_tab20 : Tryd.prog.cellsOf 81 = 20 := by kernel_rfl
theorem wds_type : (Tryd.prog.globals[0]?).map (·.type) = some 59 := by kernel_rfl
theorem wds_name : Tryd.prog.globalNamed "hanaper/event.words" = some 0 := by kernel_rfl
theorem cells_str1 : Tryd.prog.cellsOf 9 = 1 := by kernel_rfl
theorem cells_tab15 : Tryd.prog.cellsOf 59 = 15 := by kernel_rfl
theorem wds_data : (Rows.laid_hanaper_event_words : DataW Unit) = .agg ((List.range 15).map fun k : Nat => .lit (.string (wordP (k : Int)))) := by kernel_rfl
theorem wds_of_laid {W : World} (h : laidMet Tryd.prog [("hanaper/event.words", (Rows.laid_hanaper_event_words : DataW Unit))] W) : Wds W := by
  obtain ⟨ps, ⟨g0, t0, cs0, f0, p0, q0, hg0, ht0, hv0, hd0, _, _⟩, _, _⟩ := h
  obtain rfl := Option.some.inj (wds_name.symm.trans hg0)
  obtain rfl := Option.some.inj (wds_type.symm.trans ht0)
  rw [wds_data] at hd0
  obtain ⟨xs, m1, rfl, hx1, hlen, hn, hel⟩ := DataW.trod_array Tryd.underlying59 hd0
  simp only [Prod.mk.injEq, DataW.agg.injEq] at hx1
  rw [cells_tab15] at hlen
  have hcell : ∀ k : Nat, k < 15 → W.cell? ⟨0, k, none⟩ = some (strV (wordP (k : Int))) := by
    intro k hk
    have h0 := hel k hk
    rw [cells_str1] at h0
    have hix : xs[k]? = some (xs[k]'(by omega)) := List.getElem?_eq_getElem (by omega)
    rw [hix] at h0
    have hxi : (xs[k]'(by omega)).1 = .lit (.string (wordP (k : Int))) := by
      have := congrArg (fun l => l[k]?) hx1.1
      simp only [List.getElem?_map, hix, Option.map_some, List.getElem?_range hk] at this
      exact (Option.some.inj this).symm
    obtain ⟨s, e0, x0, _⟩ := DataW.trod_string Tryd.underlying9 h0
    rw [x0] at hxi
    simp only [DataW.lit.injEq, Lit.string.injEq] at hxi
    rw [World.var?_cell hg0 hv0 k]
    have h5 := congrArg (fun l => l[0]?) e0
    simp only [List.getElem?_take, List.getElem?_drop] at h5
    have h6 : cs0.toList[k]? = some (.string s) := by simpa using h5
    rw [← Array.getElem?_toList, h6, ← hxi]
    rfl
  exact ⟨World.block_lt_of_cell? W _ (hcell 0 (by omega)), hcell⟩
theorem etabs_of_laid {W : World} {a b : String} (hs : Tryd.prog.globalNamed "internal/strconv.uint64pow10" = some 1)
    (h : laidMetH Tryd.prog [(a, Rows.laid_math_bits_deBruijn32tab), (b, Rows.laid_math_bits_deBruijn64tab), ("internal/strconv.uint64pow10", Rows.laid_internal_strconv_uint64pow10), ("hanaper/event.words", Rows.laid_hanaper_event_words)] W) : ETabs W := by
  rw [MakeChecks.laidMetH_plain _ _ _ (by kernel_rfl)] at h
  have h2 := laidMet.tail (laidMet.tail h)
  have h3 := laidMet.tail h2
  rw [pow_data] at h2
  exact ⟨Lib.tabIs_of_head hs pow_type Tryd.underlying81 Tryd.underlying58 cells_u64 cells_tab20 h2, wds_of_laid h3⟩
end
end Go.Proofs.YtpeopkjmmmodpaaDoor
