/-
  EventPutsW: The law EventPuts over the loaded program: which events may be, their bytes, and texts. No condition but the contracts of the package's own functions.
-/
import Derived.Test.YtpeopkjmmmodpaaDoorEy05
import Derived.Test.YtpeopkjmmmodpaaDoorEy04
set_option linter.unusedVariables false
set_option maxRecDepth 100000
namespace Go.Proofs.YtpeopkjmmmodpaaDoor
section
open Go.RowKit Go.ChangeShapes Go.WideShapes Go.Joins
theorem put_err (x : Ev) : (if mayE x = true then (0 : Int) else 1) = (putE x).2 := by unfold putE; split <;> rfl
set_option maxHeartbeats 16000000 in
theorem eventPuts_main {T : World → Prop} (hC : EvOk T) (x : Ev) (v : Value) (w : World) (hT : T w) (hv : EvV v x) :
    Calls Tryd.prog 3 #[v] w fun e w' => e = .returned (.bool true) ∧ Below w.heap.size w w' := by
  have HT : Hid (∀ W, Below w.heap.size w W → T W) := fun W hb => hC.past _ _ hT hb
  have HL0 := Lib.hid (fun W h => evlive_any hC W h)
  have HP := Lib.hid (fun W h => hC.put x v W h hv)
  have HR := Lib.hid (fun W => evput_any x v W hv)
  have HX := Lib.hid (fun W h => hC.text x v W h hv)
  have HRX := Lib.hid (fun W => evtext_any x v W hv)
  have HE := Lib.hid (fun W h => hC.ends x v W h hv)
  have HRE := Lib.hid (fun W => evends_any x v W hv)
  have hch := fun W h => hC.check x v W h hv
  rw [put_err] at hch
  have HCH := Lib.hid hch
  have HN := Lib.hid (fun e W => evnum_any e W)
  obtain ⟨rfl, hk, ht, hla, hlb⟩ := hv
  have K := KB.new w 23 #[.int .i64 x.kind, .int .i64 x.tick, strV x.a, strV x.b]
  have B := (Below.refl w.heap.size w).alloc (Nat.le_refl _) (.cells #[.int .i64 x.kind, .int .i64 x.tick, strV x.a, strV x.b] 23)
  obtain ⟨sa, hsa⟩ : ∃ s : ByteArray, s = ⟨x.a.toArray⟩ := ⟨_, rfl⟩
  obtain ⟨sb, hsb⟩ : ∃ s : ByteArray, s = ⟨x.b.toArray⟩ := ⟨_, rfl⟩
  have hva : strV x.a = .string sa := by rw [hsa]; rfl
  have hvb : strV x.b = .string sb := by rw [hsb]; rfl
  obtain ⟨tx, htx⟩ : ∃ s : ByteArray, strV (textE x) = .string s := ⟨_, rfl⟩
  have h1 := HP.out
  have h2 := HR.out
  have h3 := HX.out
  have h4 := HRX.out
  have h5 := HE.out
  have h6 := HRE.out
  have h7 := HCH.out
  rw [hva, hvb] at h1 h2 h3 h4 h5 h6 h7 K B ⊢
  rw [htx] at h3 h4
  replace HP := Lib.hid h1
  replace HR := Lib.hid h2
  replace HX := Lib.hid h3
  replace HRX := Lib.hid h4
  replace HE := Lib.hid h5
  replace HRE := Lib.hid h6
  replace HCH := Lib.hid h7
  have hza : sa.size ≤ 9223372036854775807 := by rw [hsa]; show x.a.length ≤ _; unfold maxLen at hla; omega
  have hzb : sb.size ≤ 9223372036854775807 := by rw [hsb]; show x.b.length ≤ _; unfold maxLen at hlb; omega
  clear h1 h2 h3 h4 h5 h6 h7 hch hva hvb htx hsa hsb hla hlb hk ht
  generalize endsE x = en at *
  generalize putE x = r at *
  obtain ⟨pl, pe⟩ := r
  dsimp only at HCH
  generalize x.kind = k at *
  generalize x.tick = t at *
  go_enter Tryd.func3, Tryd.ntmps3
  have hlive : ∀ W, Below w.heap.size w W → Calls Tryd.prog 6 #[] W fun e w' => e = .returned (.bool true) ∧ Below W.heap.size W w' := fun W hb => HL0.out W (HT.out W hb)
  have HL := Lib.hid hlive
  clear HL0 hlive
  by_cases a100 : 100 < sa.size
  · have d1 : decide ((100 : Int) < (sa.size : Int)) = true := decide_eq_true (by omega)
    clear HP HR HX HRX HE HRE HCH HN HT
    go_wp2_with fail
    refine (HL.out _ B).mono ?_
    rintro e w2 ⟨rfl, b2⟩
    replace B := B.trans (b2.mono B.size)
    clear b2 HL
    go_wp2_with fail
    go_ret
    exact ⟨rfl, B⟩
  have d1 : decide ((100 : Int) < (sa.size : Int)) = false := decide_eq_false (by omega)
  by_cases b100 : 100 < sb.size
  · have d2 : decide ((100 : Int) < (sb.size : Int)) = true := decide_eq_true (by omega)
    clear HP HR HX HRX HE HRE HCH HN HT
    go_wp2_with fail
    refine (HL.out _ B).mono ?_
    rintro e w2 ⟨rfl, b2⟩
    replace B := B.trans (b2.mono B.size)
    clear b2 HL
    go_wp2_with fail
    go_ret
    exact ⟨rfl, B⟩
  have d2 : decide ((100 : Int) < (sb.size : Int)) = false := decide_eq_false (by omega)
  clear a100 b100
  have q0 := K.cell 0
  have q1 := K.cell 1
  have q2 := K.cell 2
  have q3 := K.cell 3
  have hp := Lib.hid (HP.out _ (HT.out _ B))
  clear HP
  go_wp2_with fail
  refine hp.out.mono ?_
  rintro e w1 ⟨va, rfl, xa, b1⟩
  replace K := K.below b1 K.lt
  replace B := B.trans (b1.mono B.size)
  clear hp b1 q0 q1 q2 q3 d1 d2
  have q0 := K.cell 0
  have q1 := K.cell 1
  have q2 := K.cell 2
  have q3 := K.cell 3
  dsimp only at xa ⊢
  go_wp2_with fail
  refine (HR.out _).mono ?_
  rintro e w2 ⟨vb, rfl, xb, b2⟩
  dsimp only at xb ⊢
  replace xa := xa.below' b2
  replace K := K.below b2 K.lt
  replace B := B.trans (b2.mono B.size)
  clear HR b2 q0 q1 q2 q3
  have HC : Hid (∀ W, KB W w.heap.size 23 #[.int .i64 k, .int .i64 t, .string sa, .string sb] → W.cell? ⟨w.heap.size, 0, none⟩ = some (.int .i64 k) ∧ W.cell? ⟨w.heap.size, 1, none⟩ = some (.int .i64 t) ∧ W.cell? ⟨w.heap.size, 2, none⟩ = some (.string sa) ∧ W.cell? ⟨w.heap.size, 3, none⟩ = some (.string sb)) := fun W K => ⟨K.cell 0, K.cell 1, K.cell 2, K.cell 3⟩
  go_wp2_with fail
  rename_i KK hKK
  have HKK := Lib.hid hKK
  clear hKK
  have KQ : KB w2.drew w.heap.size 23 #[.int .i64 k, .int .i64 t, .string sa, .string sb] := K
  clear K
  replace B : Below w.heap.size w w2.drew := Below_drawn B 1
  replace xa : BS w2.drew _ va pl := xa
  replace xb : BS w2.drew _ vb pl := xb
  refine wp_region_held_drew (S := (fun W => W.cell? ⟨w.heap.size, 0, none⟩ = some (.int .i64 k) ∧ W.cell? ⟨w.heap.size, 1, none⟩ = some (.int .i64 t) ∧ W.cell? ⟨w.heap.size, 2, none⟩ = some (.string sa) ∧ W.cell? ⟨w.heap.size, 3, none⟩ = some (.string sb))) (by kernel_rfl) (HC.out _ KQ) (fun hHeld => ?_)
  generalize w2.drew = wq at *
  refine hyY (some 28) 0 rfl hHeld ?_; go_frame
  refine hyY (some 29) 1 rfl hHeld ?_; go_frame
  refine hyO (some 30) 2 rfl (fun K hK => ?_)
  go_simp
  go_at_call 9
  refine (same_to _ _ va vb _ _ xa xb).mono ?_
  rintro e wq ⟨rfl, bn⟩
  replace KQ := KQ.below bn KQ.lt
  replace B := B.trans (bn.mono B.size)
  clear bn xa xb
  go_wp2_with fail
  refine hK.out _ _ ?_ (fun hH2 => ?_)
  · exact HC.out _ KQ
  clear hHeld hK K; have hHeld := hH2; clear hH2; try go_frame
  refine hyY (some 31) 3 rfl hHeld ?_; go_frame
  refine hyY (some 32) 4 rfl hHeld ?_; go_frame
  refine hyY (some 34) 6 rfl hHeld ?_; go_frame
  refine hyO (some 33) 5 rfl (fun K hK => ?_)
  go_simp
  go_at_call 10
  refine (HN.out _ _).mono ?_
  rintro e wq ⟨rfl, rfl⟩
  go_wp2_with fail
  refine hK.out _ _ ?_ (fun hH2 => ?_)
  · exact HC.out _ KQ
  clear hHeld hK K; have hHeld := hH2; clear hH2; try go_frame
  refine hyY (some 35) 7 rfl hHeld ?_; go_frame
  refine hyY (some 36) 8 rfl hHeld ?_; go_frame
  refine hyY (some 37) 9 rfl hHeld ?_; go_frame
  refine hyY (some 38) 10 rfl hHeld ?_; go_frame
  refine hyY (some 41) 13 rfl hHeld ?_; go_frame
  refine hyO (some 39) 11 rfl (fun K hK => ?_)
  go_simp
  go_at_call 11
  refine (HCH.out _ (HT.out _ B)).mono ?_
  rintro e wq ⟨rfl, bn⟩
  replace KQ := KQ.below bn KQ.lt
  replace B := B.trans (bn.mono B.size)
  clear bn HCH
  go_wp2_with fail
  refine hK.out _ _ ?_ (fun hH2 => ?_)
  · exact HC.out _ KQ
  clear hHeld hK K; have hHeld := hH2; clear hH2; try go_frame
  refine hyO (some 40) 12 rfl (fun K hK => ?_)
  go_simp
  go_at_call 10
  refine (HN.out _ _).mono ?_
  rintro e wq ⟨rfl, rfl⟩
  go_wp2_with fail
  refine hK.out _ _ ?_ (fun hH2 => ?_)
  · exact HC.out _ KQ
  clear hHeld hK K; have hHeld := hH2; clear hH2; try go_frame
  refine hyY (some 42) 14 rfl hHeld ?_; go_frame
  refine hyY (some 43) 15 rfl hHeld ?_; go_frame
  refine hyY (some 44) 16 rfl hHeld ?_; go_frame
  refine hyY (some 45) 17 rfl hHeld ?_; go_frame
  refine hyY (some 47) 19 rfl hHeld ?_; go_frame
  refine hyO (some 46) 18 rfl (fun K hK => ?_)
  go_simp
  go_at_call 12
  refine (HX.out _ (HT.out _ B)).mono ?_
  rintro e wq ⟨rfl, bn⟩
  replace KQ := KQ.below bn KQ.lt
  replace B := B.trans (bn.mono B.size)
  clear bn HX
  go_wp2_with fail
  refine hK.out _ _ ?_ (fun hH2 => ?_)
  · exact HC.out _ KQ
  clear hHeld hK K; have hHeld := hH2; clear hH2; try go_frame
  refine hyO (some 48) 20 rfl (fun K hK => ?_)
  go_simp
  go_at_call 13
  refine (HRX.out _).mono ?_
  rintro e wq ⟨rfl, bn⟩
  replace KQ := KQ.below bn KQ.lt
  replace B := B.trans (bn.mono B.size)
  clear bn HRX
  go_wp2_with fail
  refine hK.out _ _ ?_ (fun hH2 => ?_)
  · exact HC.out _ KQ
  clear hHeld hK K; have hHeld := hH2; clear hH2; try go_frame
  refine hyY (some 49) 21 rfl hHeld ?_; go_frame
  refine hyY (some 50) 22 rfl hHeld ?_; go_frame
  refine hyY (some 51) 23 rfl hHeld ?_; go_frame
  refine hyY (some 52) 24 rfl hHeld ?_; go_frame
  refine hyY (some 54) 26 rfl hHeld ?_; go_frame
  refine hyO (some 53) 25 rfl (fun K hK => ?_)
  go_simp
  go_at_call 14
  refine (HE.out _ (HT.out _ B)).mono ?_
  rintro e wq ⟨rfl, bn⟩
  replace KQ := KQ.below bn KQ.lt
  replace B := B.trans (bn.mono B.size)
  clear bn HE
  go_wp2_with fail
  refine hK.out _ _ ?_ (fun hH2 => ?_)
  · exact HC.out _ KQ
  clear hHeld hK K; have hHeld := hH2; clear hH2; try go_frame
  refine hyO (some 55) 27 rfl (fun K hK => ?_)
  go_simp
  go_at_call 15
  refine (HRE.out _).mono ?_
  rintro e wq ⟨rfl, bn⟩
  replace KQ := KQ.below bn KQ.lt
  replace B := B.trans (bn.mono B.size)
  clear bn HRE
  go_wp2_with fail
  refine hK.out _ _ ?_ (fun hH2 => ?_)
  · exact HC.out _ KQ
  clear hHeld hK K; have hHeld := hH2; clear hH2; try go_frame
  refine hyY (some 56) 28 rfl hHeld ?_; go_frame
  refine hyY (some 57) 29 rfl hHeld ?_; go_frame
  refine hyY (some 58) 30 rfl hHeld ?_; go_frame
  refine hyO (some 59) 31 rfl (fun K hK => ?_)
  go_simp
  go_at_call 6
  refine (HL.out _ B).mono ?_
  rintro e wq ⟨rfl, bn⟩
  replace KQ := KQ.below bn KQ.lt
  replace B := B.trans (bn.mono B.size)
  clear bn HL
  go_wp2_with fail
  refine hK.out _ _ ?_ (fun hH2 => ?_)
  · exact HC.out _ KQ
  clear hHeld hK K; have hHeld := hH2; clear hH2; try go_frame
  refine hyY (some 60) 32 rfl hHeld ?_; go_frame
  refine hyY (some 2) 33 rfl hHeld ?_; go_frame
  refine wpAnyH_done (by kernel_rfl) ?_ _
  have hKK := HKK.out
  clear hHeld HC HN HT
  go_wp2_with fail
  go_ret
  exact ⟨rfl, B⟩
end
end Go.Proofs.YtpeopkjmmmodpaaDoor
