/-
  The document's Miles, Put and SameMiles (layer 19), over the loaded program: each one's contract. No condition but what each theorem names.
-/
import Derived.Test.YtommcdgognlfcaaDuQ
import Derived.Test.YtommcdgognlfcaaHeld
namespace Go.Proofs.Ytommcdgognlfcaa
open Go.RowKit
set_option maxRecDepth 100000
set_option linter.unusedVariables false

set_option maxHeartbeats 2000000 in
/-- The document's Miles. -/
theorem rmiles19_any (S : Nat → Prop) (a0 a1 a2 a3 cid : ByteArray) (t st : Int) (ht : I64 t) (vm : Value) (ms : List Ml) (w : World) (hm : ML w S vm ms) (hl : ms.length ≤ 50) :
    Calls Try.prog 16 #[.agg #[.string a0, .string a1, .string a2, .string a3, .int .i64 t, .int .i64 st], .agg #[.string cid, vm]] w (OwnMs w (milesM t ms)) := by
  obtain ⟨Am, capm, rfl, hlm, hmm⟩ := hm.form
  obtain ⟨w2, hw2⟩ : ∃ w2, w2 = (w.alloc (.cells #[.string a0, .string a1, .string a2, .string a3, .int .i64 t, .int .i64 st] 33)).alloc (.cells #[.string cid, .slice Am ms.length capm] 35) := ⟨_, rfl⟩
  have s2 : w2.heap.size = w.heap.size + 2 := by rw [hw2]; simp
  have B2 : Below w.heap.size w w2 := by rw [hw2]; exact ((Below.refl _ _).alloc (Nat.le_refl _) _).alloc (by simp) _
  have B3 : Below w.heap.size w (w2.alloc (.cells #[.string ⟨#[105, 110, 103, 101, 115, 116]⟩, .int .i64 t] 43)) := B2.alloc (by omega) _
  have hown : (w2.alloc (.cells #[.string ⟨#[105, 110, 103, 101, 115, 116]⟩, .int .i64 t] 43)).ownsRow w.heap.size 43 2 (.slice (some ⟨w.heap.size + 2, 0, none⟩) 1 1) ([([105, 110, 103, 101, 115, 116], t)] : List Ml).length (flatM [([105, 110, 103, 101, 115, 116], t)]) := by
    have := World.ownsRow_lit (base := w.heap.size) (e := 43) (size := 2) w2 #[.string ⟨#[105, 110, 103, 101, 115, 116]⟩, .int .i64 t] 1 (by omega) (by unfold maxLen; omega) rfl
    rw [s2] at this
    exact this
  have hx := hm.below' B3
  obtain ⟨D, hD⟩ : ∃ D, D = OwnMs w (milesM t ms) := ⟨_, rfl⟩
  rw [← hD]
  have HD : Hid (∀ v W, W.ownsRow w.heap.size 43 2 v ([([105, 110, 103, 101, 115, 116], t)] ++ ms).length (flatM ([([105, 110, 103, 101, 115, 116], t)] ++ ms)) → Below w.heap.size w W → D (.returned v) W) := fun v W h1 h2 => by
    rw [hD]; exact ⟨v, rfl, h1, h2⟩
  have hs3 : w.heap.size ≤ (w2.alloc (.cells #[.string ⟨#[105, 110, 103, 101, 115, 116]⟩, .int .i64 t] 43)).heap.size := by simp; omega
  rw [hw2] at hown B3 hx hs3
  clear hD hw2 s2 B2 hm
  have HL := Lib.hid hl
  clear hl
  go_enter Try.func16, Try.ntmps16
  go_wp2_with (at_builtin; go_loud (refine wpList_growML _ rfl _ _ rfl w.heap.size _ [([105, 110, 103, 101, 115, 116], t)] rfl hown _ _ ms rfl hx (by have := HL.out; simp; omega) hs3 ?_); intro v3 w3 o3 g3 ho3)
  have hfin := HD.out v3 w3 o3 (B3.grown g3 hs3 fun g hg => own_ge hown g hg)
  clear HD B3 hx hown o3 g3 ho3
  go_wp2_with fail
  exact hfin

set_option maxHeartbeats 8000000 in
/-- The document's Put. -/
theorem rput19_any (S : Nat → Prop) (m : Ml) (hmi : I64 m.2) (hml : m.1.length ≤ maxLen) (vm : Value) (ms : List Ml) (w : World) (hS : ∀ b, S b → b < w.heap.size) (hm : ML w S vm ms) (hl : ms.length ≤ 50) :
    Calls Try.prog 18 #[vm, .agg #[strV m.1, .int .i64 m.2]] w (PutAs w (putM ms m)) := by
  have hgood := ml_good hm
  obtain ⟨Am, capm, rfl, hlm, hmm⟩ := hm.form
  obtain ⟨D, hD⟩ : ∃ D, D = PutAs w (putM ms m) := ⟨_, rfl⟩
  rw [← hD]
  have HFULL : Hid (8 ≤ ms.length → ∀ W, Below w.heap.size w W → D (.returned (.tuple #[.slice none 0 0, .bool false])) W) := fun h W hb => by
    rw [hD, put_full h]; exact ⟨_, rfl, ML.nil _ _, hb⟩
  have HTHERE : Hid (∀ j (hj : j < ms.length), ms[j].1 = m.1 → ∀ W, Below w.heap.size w W → D (.returned (.tuple #[.slice none 0 0, .bool false])) W) := fun j hj h W hb => by
    rw [hD, put_there hj h]; exact ⟨_, rfl, ML.nil _ _, hb⟩
  have HNEW : Hid (¬ 8 ≤ ms.length → (∀ j (hj : j < ms.length), j < ms.length → ¬ ms[j].1 = m.1) → ∀ v W, W.ownsRow (w.heap.size + 1) 43 2 v (ms ++ [m]).length (flatM (ms ++ [m])) → Below w.heap.size w W → D (.returned (.tuple #[v, .bool true])) W) := fun h ha v W ho hb => by
    rw [hD, put_new h fun j hj => ha j hj hj]
    exact ⟨_, rfl, ML_own (own_base ho (by omega)) fun x hx => by
      rcases List.mem_append.1 hx with hx | hx
      · exact hgood x hx
      · rw [List.mem_singleton] at hx
        rw [hx]; exact ⟨hmi, hml⟩, hb⟩
  clear hD hgood
  have HMB : Hid (∀ (wr : World), Below w.heap.size w wr → ∀ j (hj : j < ms.length), ∃ b o, Am = some ⟨b, o, none⟩ ∧ b < w.heap.size ∧ wr.cell? ⟨b, o + j * 2, none⟩ = some (strV ms[j].1) ∧ wr.cell? ⟨b, o + j * 2 + 1, none⟩ = some (.int .i64 ms[j].2) ∧ I64 ms[j].2 ∧ ms[j].1.length ≤ maxLen) := fun wr hb j hj => mile_b hm rfl hb j hj
  have HML : Hid (∀ (wr : World), Below w.heap.size w wr → ML wr S (.slice Am ms.length capm) ms) := fun wr hb => hm.below' hb
  have HONE : Hid (∀ (wr : World) g, KB wr g 43 #[strV m.1, .int .i64 m.2] → ML wr (fun b => b = g) (.slice (some ⟨g, 0, none⟩) 1 1) [m]) := fun wr g h => ml_one h rfl hmi hml
  have HLL := Lib.hid hl
  clear hm hS hmi hml hl
  have B0 := (Below.refl w.heap.size w).alloc (Nat.le_refl _) (.cells #[strV m.1, .int .i64 m.2] 43)
  have kb := KB.new w 43 #[strV m.1, .int .i64 m.2]
  obtain ⟨mn, hmn⟩ : ∃ mn, mn = m.1 := ⟨_, rfl⟩
  rw [← hmn] at kb B0 HTHERE HNEW HONE ⊢
  clear hmn
  generalize m.2 = t at *
  unfold strV at *
  obtain ⟨s, hs⟩ : ∃ s : ByteArray, s = ⟨mn.toArray⟩ := ⟨_, rfl⟩
  rw [← hs] at B0 kb HONE ⊢
  have HSQ := Lib.hid hs
  clear hs
  by_cases h8 : 8 ≤ ms.length
  · have d : decide ((8 : Int) ≤ (ms.length : Int)) = true := decide_eq_true (by omega)
    have d' : decide (8 ≤ ms.length) = true := decide_eq_true h8
    have hfin := HFULL.out h8 _ B0
    clear HFULL HTHERE HNEW HMB HML HONE
    go_enter Try.func18, Try.ntmps18
    go_wp2_with fail
    exact hfin
  have d : decide ((8 : Int) ≤ (ms.length : Int)) = false := decide_eq_false (by omega)
  have d' : decide (8 ≤ ms.length) = false := decide_eq_false h8
  have HN8 := Lib.hid (fun ha => HNEW.out h8 ha)
  clear HNEW HFULL
  go_enter Try.func18, Try.ntmps18
  go_wp2_with fail
  clear d d' h8
  go_loopw [6] (fun xv wr => ∃ j : Nat, j ≤ ms.length ∧ xv = .int .i64 j ∧ Hid (∀ i (hi : i < ms.length), i < j → ¬ ms[i].1 = mn) ∧ KB wr w.heap.size 43 #[.string s, .int .i64 t] ∧ Below w.heap.size w wr) (fun xv _ => ms.length - (intOf xv).toNat)
  case atStart => exact ⟨0, by omega, rfl, fun i _ h => absurd h (Nat.not_lt_zero _), kb, B0⟩
  case round =>
    clear kb B0
    obtain ⟨j, hj, rfl, hall, K, B⟩ := hrel
    have hnn : ms.length ≤ 50 := HLL.out
    by_cases hlt : j < ms.length
    · have hltI : (j : Int) < (ms.length : Int) := by omega
      obtain ⟨b, o, rfl, hb, k0, k1, hi, _⟩ := HMB.out wr B j hlt
      obtain ⟨s0, hs0⟩ : ∃ s : ByteArray, s = ⟨ms[j].1.toArray⟩ := ⟨_, rfl⟩
      rw [← hs0] at k0
      have gq := eq_txt s0 s _ _ hs0 HSQ.out
      have q0 : wr.cell? ⟨w.heap.size, 0, none⟩ = some (.string s) := K.cell 0
      by_cases hcl : ms[j].1 = mn
      · have HY := Lib.hid (HTHERE.out j hlt hcl)
        rw [decide_eq_true hcl] at gq
        clear hcl hs0 HTHERE HN8 hall HMB HML HONE hi
        generalize ms[j].2 = t at *
        go_wp2_with fail
        go_quiet (fail)
        have hfin := HY.out _ (Below_drawn B nq)
        clear HY
        go_wp2_with fail
        exact hfin
      · rw [decide_eq_false hcl] at gq
        have HN : Hid (∀ i (hi : i < ms.length), i < j + 1 → ¬ ms[i].1 = mn) := fun i hi hij => by
          rcases Nat.lt_or_ge i j with h' | h'
          · exact hall.out i hi h'
          · obtain rfl : i = j := by omega
            exact hcl
        clear hall HTHERE HN8 hcl hs0
        generalize ms[j].2 = t at *
        go_wp2_with fail
        go_quiet (fail)
        have B6 := Below_drawn B nq
        have K6 := K.drewN nq
        go_wp2_with fail
        go_roundw
        case rel => exact ⟨j + 1, by omega, by go_num, HN, K6, B6⟩
        case measure => simp [intOf]; omega
    · have HN := Lib.hid (HN8.out (fun i hi hl => hall.out i hi (by omega)))
      clear hall HTHERE HN8 HMB
      have hsz := K.lt
      have BL : Below (w.heap.size + 1) wr.drew wr.drew := Below.refl _ _
      have BW : Below w.heap.size w wr.drew := Below_drawn B 1
      have KD : KB wr.drew w.heap.size 43 #[.string s, .int .i64 t] := K
      have HC : Hid (∀ W, Below (w.heap.size + 1) wr.drew W → W.cell? ⟨w.heap.size, 0, none⟩ = some (.string s) ∧ W.cell? ⟨w.heap.size, 1, none⟩ = some (.int .i64 t)) := fun W hb => by
        have K' := KD.below hb (by omega)
        exact ⟨K'.cell 0, K'.cell 1⟩
      have HM2 : Hid (∀ W, Below (w.heap.size + 1) wr.drew W → ML W S (.slice Am ms.length capm) ms) := fun W hb => HML.out W (BW.trans (hb.mono (by omega)))
      have HN2 : Hid (∀ v W, W.ownsRow (w.heap.size + 1) 43 2 v (ms ++ [m]).length (flatM (ms ++ [m])) → Below (w.heap.size + 1) wr.drew W → D (.returned (.tuple #[v, .bool true])) W) := fun v W ho hb => HN.out v W ho (BW.trans (hb.mono (by omega)))
      have hsD : w.heap.size + 1 ≤ wr.drew.heap.size := hsz
      clear HN HML BW KD K B hsz
      go_wp2_with fail
      rename_i KK hKK
      have HKK := Lib.hid hKK
      clear hKK
      refine wp_region_held_drew (S := (fun W => W.cell? ⟨w.heap.size, 0, none⟩ = some (.string s) ∧ W.cell? ⟨w.heap.size, 1, none⟩ = some (.int .i64 t))) (by kernel_rfl) (HC.out _ BL) (fun hHeld => ?_)
      generalize wr.drew = wd at *
      refine hyY (some 25) 1 rfl hHeld ?_; go_frame
      refine hyY (some 27) 3 rfl hHeld ?_; go_frame
      refine held_two (o := ⟨some 24, _, _, _, _, _⟩) (p := ⟨some 28, _, _, _, _, _⟩) 0 4 (by kernel_rfl) rfl rfl (by rfl) (by rfl) (fun K hK => ?_) (fun K hK => ?_)
      · go_simp
        have OW := own_empty wd (w.heap.size + 1) hsD
        replace BL := BL.alloc hsD (.cells #[] 43)
        refine hK.out _ _ ?_ (fun hH2 => ?_)
        · exact HC.out _ BL
        clear hHeld hK K; have hHeld := hH2; clear hH2; try go_frame
        refine held_two (o := ⟨some 26, _, _, _, _, _⟩) (p := ⟨some 28, _, _, _, _, _⟩) 2 4 (by kernel_rfl) rfl rfl (by rfl) (by rfl) (fun K hK => ?_) (fun K hK => ?_)
        · refine wp_growML _ _ rfl (w.heap.size + 1) _ [] rfl OW S _ ms rfl (HM2.out _ BL) (by simp; omega) (Nat.le_trans hsD BL.size) ?_
          intro v2 w2 O2 g2 ho2
          rw [List.nil_append] at O2
          replace BL := BL.grown g2 (Nat.le_trans hsD BL.size) fun g hg => own_ge OW g hg
          replace OW := O2
          refine hK.out _ _ ?_ (fun hH2 => ?_)
          · exact HC.out _ BL
          clear hHeld hK K; have hHeld := hH2; clear hH2; try go_frame
          refine hyO (some 28) 4 rfl (fun K hK => ?_)
          go_simp
          have K1 := KB.new w2 43 #[.string s, .int .i64 t]
          replace OW := own_past ((Below.refl _ _).alloc (Nat.le_refl _) (.cells #[.string s, .int .i64 t] 43)) OW
          replace BL := BL.alloc (Nat.le_trans hsD BL.size) (.cells #[.string s, .int .i64 t] 43)
          refine hK.out _ _ ?_ (fun hH2 => ?_)
          · exact HC.out _ BL
          clear hHeld hK K; have hHeld := hH2; clear hH2; try go_frame
          refine hyO (some 29) 5 rfl (fun K hK => ?_)
          refine wp_growML _ _ rfl (w.heap.size + 1) _ ms rfl OW _ _ [m] rfl (HONE.out _ _ K1) (by simp; omega) (Nat.le_trans hsD BL.size) ?_
          intro v5 w5 O5 g5 ho5
          replace BL := BL.grown g5 (Nat.le_trans hsD BL.size) fun g hg => own_ge OW g hg
          refine hK.out _ _ ?_ (fun hH2 => ?_)
          · exact HC.out _ BL
          clear hHeld hK K; have hHeld := hH2; clear hH2; try go_frame
          refine hyY (some 4) 6 rfl hHeld ?_; go_frame
          refine hyY (some 5) 7 rfl hHeld ?_; go_frame
          refine wpAnyH_done (by kernel_rfl) ?_ _
          have hfin := HN2.out v5 w5 O5 BL
          have hKK := HKK.out
          clear HN2 HM2 HC HONE OW O5 K1 BL g5 ho5 hHeld
          go_wp2_with fail
          exact hfin
        · go_simp
          have K1 := KB.new (wd.alloc (.cells #[] 43)) 43 #[.string s, .int .i64 t]
          rw [World.size_alloc] at K1
          replace OW := own_past ((Below.refl _ _).alloc (Nat.le_refl _) (.cells #[.string s, .int .i64 t] 43)) OW
          replace BL := BL.alloc (Nat.le_trans hsD BL.size) (.cells #[.string s, .int .i64 t] 43)
          refine hK.out _ _ ?_ (fun hH2 => ?_)
          · exact HC.out _ BL
          clear hHeld hK K; have hHeld := hH2; clear hH2; try go_frame
          refine hyO (some 26) 2 rfl (fun K hK => ?_)
          refine wp_growML _ _ rfl (w.heap.size + 1) _ [] rfl OW S _ ms rfl (HM2.out _ BL) (by simp; omega) (Nat.le_trans hsD BL.size) ?_
          intro v2 w2 O2 g2 ho2
          rw [List.nil_append] at O2
          replace BL := BL.grown g2 (Nat.le_trans hsD BL.size) fun g hg => own_ge OW g hg
          replace K1 := K1.grown g2 (by intro e; injection e with e; simp at e)
          replace OW := O2
          refine hK.out _ _ ?_ (fun hH2 => ?_)
          · exact HC.out _ BL
          clear hHeld hK K; have hHeld := hH2; clear hH2; try go_frame
          refine hyO (some 29) 5 rfl (fun K hK => ?_)
          refine wp_growML _ _ rfl (w.heap.size + 1) _ ms rfl OW _ _ [m] rfl (HONE.out _ _ K1) (by simp; omega) (Nat.le_trans hsD BL.size) ?_
          intro v5 w5 O5 g5 ho5
          replace BL := BL.grown g5 (Nat.le_trans hsD BL.size) fun g hg => own_ge OW g hg
          refine hK.out _ _ ?_ (fun hH2 => ?_)
          · exact HC.out _ BL
          clear hHeld hK K; have hHeld := hH2; clear hH2; try go_frame
          refine hyY (some 4) 6 rfl hHeld ?_; go_frame
          refine hyY (some 5) 7 rfl hHeld ?_; go_frame
          refine wpAnyH_done (by kernel_rfl) ?_ _
          have hfin := HN2.out v5 w5 O5 BL
          have hKK := HKK.out
          clear HN2 HM2 HC HONE OW O5 K1 BL g5 ho5 hHeld
          go_wp2_with fail
          exact hfin
      · go_simp
        have K0 := KB.new wd 43 #[.string s, .int .i64 t]
        replace BL := BL.alloc hsD (.cells #[.string s, .int .i64 t] 43)
        refine hK.out _ _ ?_ (fun hH2 => ?_)
        · exact HC.out _ BL
        clear hHeld hK K; have hHeld := hH2; clear hH2; try go_frame
        refine hyO (some 24) 0 rfl (fun K hK => ?_)
        go_simp
        have OW := own_empty (wd.alloc (.cells #[.string s, .int .i64 t] 43)) (w.heap.size + 1) (by simp; omega)
        rw [World.size_alloc] at OW
        replace BL := BL.alloc (Nat.le_trans hsD BL.size) (.cells #[] 43)
        have K1 := K0.alloc (.cells #[] 43)
        refine hK.out _ _ ?_ (fun hH2 => ?_)
        · exact HC.out _ BL
        clear hHeld hK K; have hHeld := hH2; clear hH2; try go_frame
        refine hyO (some 26) 2 rfl (fun K hK => ?_)
        refine wp_growML _ _ rfl (w.heap.size + 1) _ [] rfl OW S _ ms rfl (HM2.out _ BL) (by simp; omega) (Nat.le_trans hsD BL.size) ?_
        intro v2 w2 O2 g2 ho2
        rw [List.nil_append] at O2
        replace BL := BL.grown g2 (Nat.le_trans hsD BL.size) fun g hg => own_ge OW g hg
        replace K1 := K1.grown g2 (by intro e; injection e with e; simp at e)
        replace OW := O2
        refine hK.out _ _ ?_ (fun hH2 => ?_)
        · exact HC.out _ BL
        clear hHeld hK K; have hHeld := hH2; clear hH2; try go_frame
        refine hyO (some 29) 5 rfl (fun K hK => ?_)
        refine wp_growML _ _ rfl (w.heap.size + 1) _ ms rfl OW _ _ [m] rfl (HONE.out _ _ K1) (by simp; omega) (Nat.le_trans hsD BL.size) ?_
        intro v5 w5 O5 g5 ho5
        replace BL := BL.grown g5 (Nat.le_trans hsD BL.size) fun g hg => own_ge OW g hg
        refine hK.out _ _ ?_ (fun hH2 => ?_)
        · exact HC.out _ BL
        clear hHeld hK K; have hHeld := hH2; clear hH2; try go_frame
        refine hyY (some 4) 6 rfl hHeld ?_; go_frame
        refine hyY (some 5) 7 rfl hHeld ?_; go_frame
        refine wpAnyH_done (by kernel_rfl) ?_ _
        have hfin := HN2.out v5 w5 O5 BL
        have hKK := HKK.out
        clear HN2 HM2 HC HONE OW O5 K1 BL g5 ho5 hHeld
        go_wp2_with fail
        exact hfin
end Go.Proofs.Ytommcdgognlfcaa
