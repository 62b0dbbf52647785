/-
  SuZ: StoreDoes' law, over the loaded program. No condition but the table roots.
  StoreDoesW: StoreDoes's law over arguments that came in. No condition but the table roots.
  StoreDoesP: THE STATEMENT StoreDoes of layer: proved out of the law's contract (storeDoes_law): for every input the call returns true, and the input reads as it did. No condition.
-/
import Derived.Test.YteddmnoeljakpaaGreatDoorSw47
import Derived.Test.YteddmnoeljakpaaGreatDoorSw50
import Derived.Test.YteddmnoeljakpaaGreatDoorSw46
import Derived.Test.YteddmnoeljakpaaGreatDoorSw49
import Derived.Test.YteddmnoeljakpaaGreatDoorCards
import Derived.Test.YteddmnoeljakpaaGreatDoorTie
import Derived.Test.YteddmnoeljakpaaGreatDoorSw01
import Derived.Stop.Joined
import Derived.SevenTiedAt
import Derived.WalkKit
import Derived.ProofKit
import Derived.OpenShut
import Derived.ShutString
import Derived.ChangeOld
import Derived.Below
set_option linter.unusedVariables false
set_option maxRecDepth 100000
namespace Go.Proofs.YteddmnoeljakpaaGreatDoor
section
open Go.RowKit
set_option maxHeartbeats 8000000 in
theorem does_no (c : CI) (hm : ¬ c.may) (v : Value) (w : World) (ht : Tab w) : Calls Tryz.prog 3 #[cfgV c, v] w (Yes13 w) := by
 have B0 := (Below.refl w.heap.size w).alloc (Nat.le_refl _) (.cells #[.int .i64 c.log, .int .i64 c.files, .int .i64 c.slots, .int .i64 c.data] 23)
 have K0 := KB.new w 23 #[.int .i64 c.log, .int .i64 c.files, .int .i64 c.slots, .int .i64 c.data]
 have HLV := Lib.hid (fun W (h : Tab W) => live13_any W h)
 have HT := Lib.hid ht
 have r0 := K0.cell 0
 have r1 := K0.cell 1
 have r2 := K0.cell 2
 have r3 := K0.cell 3
 have hsl := fun W => sslots_any c W
 have hmy := fun W => rmay_any c W
 have hck := fun W => scheck_any c W
 have hsz := fun W => ssize_any c W
 have hnu := fun x W => num13_any x W
 have ez : c.size = 0 := if_neg hm
 simp only [if_neg hm, decide_eq_false hm, CI.chk_no hm, ez] at hsl hmy hck hsz
 clear ht hm ez
 unfold cfgV at *
 go_enter Tryz.func3, Tryz.ntmps3
 go_wp2_with fail
 refine (hsl _).mono ?_
 rintro e w1 ⟨rfl, b1⟩
 have B1 := B0.trans (b1.mono B0.size)
 have K1 := K0.below b1 K0.lt
 clear hsl b1 B0 K0 r0 r1 r2 r3
 have r0 := K1.cell 0
 have r1 := K1.cell 1
 have r2 := K1.cell 2
 have r3 := K1.cell 3
 go_wp2_with fail
 refine (hmy _).mono ?_
 rintro e w2 ⟨rfl, b2⟩
 have B2 := B1.trans (b2.mono B1.size)
 have K2 := K1.below b2 K1.lt
 clear hmy b2 B1 K1 r0 r1 r2 r3
 have r0 := K2.cell 0
 have r1 := K2.cell 1
 have r2 := K2.cell 2
 have r3 := K2.cell 3
 go_wp2_with fail
 refine (hck _).mono ?_
 rintro e w3 ⟨rfl, b3⟩
 have B3 := B2.trans (b3.mono B2.size)
 have K3 := K2.below b3 K2.lt
 clear hck b3 B2 K2 r0 r1 r2 r3
 have r0 := K3.cell 0
 have r1 := K3.cell 1
 have r2 := K3.cell 2
 have r3 := K3.cell 3
 go_wp2_with (go_at_call 9; refine (hnu _ _).mono ?_; rintro e w' ⟨rfl, rfl⟩)
 refine (hsz _).mono ?_
 rintro e w4 ⟨rfl, b4⟩
 have B4 := B3.trans (b4.mono B3.size)
 have hlv := HLV.out _ (HT.out.below B4)
 clear hsz b4 B3 K3 r0 r1 r2 r3
 go_wp2_with fail
 refine hlv.mono ?_
 rintro e w5 ⟨rfl, b5⟩
 have B5 := B4.trans (b5.mono B4.size)
 clear hlv
 go_wp2_with fail
 go_ret
 exact ⟨rfl, B5⟩
set_option maxHeartbeats 16000000 in
theorem does_go (c : CI) (hm : c.may) (v : Value) (ls : List (List Fi)) (w : World) (ht : Tab w) (hv : FSS w (fun b => b < w.heap.size) v ls) : Calls Tryz.prog 3 #[cfgV c, v] w (Yes13 w) := by
 obtain ⟨A, cp, rfl, hlc, hcm⟩ := hv.form
 have hl63 : ls.length ≤ 9223372036854775807 := by unfold maxLen at hcm; omega
 have B0 := (Below.refl w.heap.size w).alloc (Nat.le_refl _) (.cells #[.int .i64 c.log, .int .i64 c.files, .int .i64 c.slots, .int .i64 c.data] 23)
 have K0 := KB.new w 23 #[.int .i64 c.log, .int .i64 c.files, .int .i64 c.slots, .int .i64 c.data]
 have HLV := Lib.hid (fun W (h : Tab W) => live13_any W h)
 have HT := Lib.hid ht
 have HV := Lib.hid hv
 have HM := Lib.hid hm
 have HLI := Lib.hid (fun W (b : Below w.heap.size w W) => light_any _ _ ls W (hv.elder (Nat.le_refl _) b))
 have r0 := K0.cell 0
 have r1 := K0.cell 1
 have r2 := K0.cell 2
 have r3 := K0.cell 3
 have hsl := fun W => sslots_any c W
 have hmy := fun W => rmay_any c W
 have hrs := fun W => rsize_any c W
 have HCK := Lib.hid (fun W => scheck_any c W)
 have HSZ := Lib.hid (fun W => ssize_any c W)
 have HNU := Lib.hid (fun x W => num13_any x W)
 have HBG := Lib.hid (fun W (h : Tab W) => begin_any c hm W h)
 have hbd : 0 ≤ c.log ∧ c.log ≤ 400 ∧ 0 ≤ c.files ∧ c.files ≤ 64 := by
  obtain ⟨⟨⟨a1, a2⟩, ⟨b1, b2⟩, _⟩, _⟩ := hm
  omega
 obtain ⟨FF, hFF⟩ : ∃ x, x = 1 + c.log + c.files := ⟨_, rfl⟩
 have ew1 : IntKind.i64.wrap (1 + c.log) = 1 + c.log := by rw [IntKind.wrap_i64]; omega
 have ew2 : IntKind.i64.wrap (1 + c.log + c.files) = FF := by rw [IntKind.wrap_i64]; omega
 simp only [if_pos hm, decide_eq_true hm, ← hFF] at hsl hmy
 have HCK0 : Hid (c.chk = 0) := CI.chk_yes hm
 have HEW : Hid (IntKind.i64.wrap (1 + c.log) = 1 + c.log ∧ IntKind.i64.wrap (1 + c.log + c.files) = FF) := ⟨ew1, ew2⟩
 clear ht hm hv hlc hcm hbd hFF ew1 ew2
 obtain ⟨Z, hZ⟩ : ∃ x, x = c.size := ⟨_, rfl⟩
 rw [← hZ] at hrs
 have HZZ := Lib.hid hZ
 clear hZ
 unfold cfgV at *
 go_enter Tryz.func3, Tryz.ntmps3
 go_wp2_with fail
 refine (hsl _).mono ?_
 rintro e w1 ⟨rfl, b1⟩
 have B1 := B0.trans (b1.mono B0.size)
 have K1 := K0.below b1 K0.lt
 clear hsl b1 B0 K0 r0 r1 r2 r3
 have r0 := K1.cell 0
 have r1 := K1.cell 1
 have r2 := K1.cell 2
 have r3 := K1.cell 3
 go_wp2_with fail
 refine (hmy _).mono ?_
 rintro e w2 ⟨rfl, b2⟩
 have B2 := B1.trans (b2.mono B1.size)
 have K2 := K1.below b2 K1.lt
 have hli := HLI.out _ B2
 clear hmy b2 B1 K1 r0 r1 r2 r3
 have r0 := K2.cell 0
 have r1 := K2.cell 1
 have r2 := K2.cell 2
 have r3 := K2.cell 3
 go_wp2_with fail
 refine hli.mono ?_
 rintro e w3 ⟨b, rfl, hb, rfl⟩
 clear hli
 cases b with
 | false =>
  have hlv := HLV.out _ (HT.out.below B2)
  clear hb r0 r1 r2 r3 K2
  go_wp2_with fail
  refine hlv.mono ?_
  rintro e w5 ⟨rfl, b5⟩
  have B5 := B2.trans (b5.mono B2.size)
  clear hlv
  go_wp2_with fail
  go_ret
  exact ⟨rfl, B5⟩
 | true =>
  have HL := Lib.hid (hb rfl)
  clear hb
  go_wp2_with fail
  refine (hrs _).mono ?_
  rintro e w4 ⟨rfl, b4⟩
  have B4 := B2.trans (b4.mono B2.size)
  have K4 := K2.below b4 K2.lt
  clear hrs b4 B2 K2 r0 r1 r2 r3
  by_cases h200 : 200 < Z
  ·have D : decide ((200 : Int) < Z) = true := decide_eq_true h200
   have hlv := HLV.out _ (HT.out.below B4)
   clear h200 K4
   go_wp2_with fail
   refine hlv.mono ?_
   rintro e w5 ⟨rfl, b5⟩
   have B5 := B4.trans (b5.mono B4.size)
   clear hlv
   go_wp2_with fail
   go_ret
   exact ⟨rfl, B5⟩
  ·have D : decide ((200 : Int) < Z) = false := decide_eq_false h200
   have hbg := HBG.out _ (HT.out.below B4)
   have r0 := K4.cell 0
   have r1 := K4.cell 1
   have r2 := K4.cell 2
   have r3 := K4.cell 3
   have KK4 : Hid (∀ W, Below w4.heap.size w4 W → W.cell? ⟨w.heap.size, 0, none⟩ = some (.int .i64 c.log) ∧ W.cell? ⟨w.heap.size, 1, none⟩ = some (.int .i64 c.files) ∧ W.cell? ⟨w.heap.size, 2, none⟩ = some (.int .i64 c.slots) ∧ W.cell? ⟨w.heap.size, 3, none⟩ = some (.int .i64 c.data)) := fun W b => ⟨(K4.below b K4.lt).cell 0, (K4.below b K4.lt).cell 1, (K4.below b K4.lt).cell 2, (K4.below b K4.lt).cell 3⟩
   have HB4 := Lib.hid B4
   clear h200 K4 B4
   go_wp2_with fail
   refine hbg.mono ?_
   rintro e w5 ⟨a, rfl, hst, hha, b5⟩
   have HS5 := Lib.hid hst
   have HHA := Lib.hid hha
   have HB5 := Lib.hid b5
   have HDR : Hid (Below w4.heap.size w4 w5.drew) := Below_drawn b5 1
   have hsz := HSZ.out
   have hrs := fun W => rsize_any c W
   have hck := HCK.out
   have hnu := HNU.out
   obtain ⟨ew1, ew2⟩ := HEW.out
   rw [HCK0.out] at hck
   rw [← HZZ.out] at hsz hrs
   unfold cfgV at hrs
   have D1 : (Z != Z) = false := by simp
   have D2 : (FF != FF) = false := by simp
   have D3 : (c.slots != c.slots) = false := by simp
   clear hbg hst hha b5 r0 r1 r2 r3 D
   go_wp2_with fail
   rename_i KK hKK
   have HKK := Lib.hid hKK
   clear hKK
   refine wp_region_held_drew (S := (fun W => W.cell? ⟨w.heap.size, 0, none⟩ = some (.int .i64 c.log) ∧ W.cell? ⟨w.heap.size, 1, none⟩ = some (.int .i64 c.files) ∧ W.cell? ⟨w.heap.size, 2, none⟩ = some (.int .i64 c.slots) ∧ W.cell? ⟨w.heap.size, 3, none⟩ = some (.int .i64 c.data))) (by kernel_rfl) (KK4.out _ HDR.out) (fun hHeld => ?_)
   refine hyY (some 56) 0 rfl hHeld ?_; go_frame
   refine hyY (some 57) 1 rfl hHeld ?_; go_frame
   refine hyY (some 58) 2 rfl hHeld ?_; go_frame
   refine hyY (some 59) 3 rfl hHeld ?_; go_frame
   refine hyY (some 61) 5 rfl hHeld ?_; go_frame
   refine hyO (some 60) 4 rfl (fun K hK => ?_)
   go_simp
   go_at_call 11
   refine (hsz _).mono ?_
   rintro e w6 ⟨rfl, b6⟩
   have c1 := HDR.out.trans (b6.mono HDR.out.size)
   go_wp2_with fail
   refine hK.out _ _ ?_ (fun hH2 => ?_)
   ·first | exact hHeld | exact KK4.out _ c3 | exact KK4.out _ c2 | exact KK4.out _ c1
   clear hHeld hK K; have hHeld := hH2; clear hH2; try go_frame
   refine hyO (some 62) 6 rfl (fun K hK => ?_)
   go_simp
   go_at_call 14
   refine (hrs _).mono ?_
   rintro e w7 ⟨rfl, b7⟩
   have c2 := c1.trans (b7.mono c1.size)
   go_wp2_with fail
   refine hK.out _ _ ?_ (fun hH2 => ?_)
   ·first | exact hHeld | exact KK4.out _ c3 | exact KK4.out _ c2 | exact KK4.out _ c1
   clear hHeld hK K; have hHeld := hH2; clear hH2; try go_frame
   refine hyY (some 63) 7 rfl hHeld ?_; go_frame
   refine hyY (some 64) 8 rfl hHeld ?_; go_frame
   refine hyY (some 65) 9 rfl hHeld ?_; go_frame
   refine hyY (some 66) 10 rfl hHeld ?_; go_frame
   refine hyO (some 67) 11 rfl (fun K hK => ?_)
   go_simp
   go_at_call 10
   refine (hck _).mono ?_
   rintro e w8 ⟨rfl, b8⟩
   have c3 := c2.trans (b8.mono c2.size)
   go_wp2_with fail
   refine hK.out _ _ ?_ (fun hH2 => ?_)
   ·first | exact hHeld | exact KK4.out _ c3 | exact KK4.out _ c2 | exact KK4.out _ c1
   clear hHeld hK K; have hHeld := hH2; clear hH2; try go_frame
   refine hyO (some 68) 12 rfl (fun K hK => ?_)
   go_simp
   go_at_call 9
   refine (hnu _ _).mono ?_
   rintro e w' ⟨rfl, rfl⟩
   go_wp2_with fail
   refine hK.out _ _ ?_ (fun hH2 => ?_)
   ·first | exact hHeld | exact KK4.out _ c3 | exact KK4.out _ c2 | exact KK4.out _ c1
   clear hHeld hK K; have hHeld := hH2; clear hH2; try go_frame
   refine hyY (some 69) 13 rfl hHeld ?_; go_frame
   refine hyY (some 70) 14 rfl hHeld ?_; go_frame
   refine hyY (some 71) 15 rfl hHeld ?_; go_frame
   refine hyY (some 72) 16 rfl hHeld ?_; go_frame
   refine hyY (some 73) 17 rfl hHeld ?_; go_frame
   refine hyY (some 74) 18 rfl hHeld ?_; go_frame
   refine hyY (some 75) 19 rfl hHeld ?_; go_frame
   refine hyY (some 76) 20 rfl hHeld ?_; go_frame
   refine hyY (some 77) 21 rfl hHeld ?_; go_frame
   refine hyY (some 78) 22 rfl hHeld ?_; go_frame
   refine hyY (some 79) 23 rfl hHeld ?_; go_frame
   refine hyY (some 80) 24 rfl hHeld ?_; go_frame
   refine hyY (some 81) 25 rfl hHeld ?_; go_frame
   refine hyY (some 82) 26 rfl hHeld ?_; go_frame
   refine hyY (some 83) 27 rfl hHeld ?_; go_frame
   refine hyY (some 84) 28 rfl hHeld ?_; go_frame
   refine hyY (some 85) 29 rfl hHeld ?_; go_frame
   refine hyY (some 86) 30 rfl hHeld ?_; go_frame
   refine wpAnyH_done (by kernel_rfl) ?_ _
   have hKK := HKK.out
   have b9 : Below w5.drew.heap.size w5.drew w8 := (b6.trans (b7.mono b6.size)).trans (b8.mono (b6.trans (b7.mono b6.size)).size)
   have HS9 := Lib.hid ((HS5.out.drewN 1).below b9)
   have HB9 := Lib.hid c3
   clear hsz hrs hck hnu ew1 ew2 D1 D2 D3 b6 b7 b8 b9 c1 c2 c3 hHeld
   go_wp2_with fail
   have hnu := HNU.out
   go_loopw [10, 11] (fun wv iv wr => ∃ (k : Nat) (fl : List Fe) (s : Dk), k ≤ ls.length ∧ iv = .int .i64 (k : Int) ∧ ST wr a c (nodesF fl) s false ∧ Rest c fl s ∧ s.fuse = -1 ∧ FS wr (fun b => ¬ a.has b) wv (filesF fl) ∧ Below w4.heap.size w4 wr) (fun _ iv _ => ls.length - (intOf iv).toNat)
   case atStart => exact ⟨0, [], blank c.cn.size, by omega, rfl, HS9.out, rest_blank HM.out, rfl, FS.nil _ _, HB9.out⟩
   case round =>
    obtain ⟨k, fl, s, hk, rfl, hst, hr, hf, hfs, bl⟩ := hrel
    by_cases hlt : k < ls.length
    ·have hltI : (k : Int) < (ls.length : Int) := by omega
     have blw : Below w.heap.size w wr := HB4.out.trans (bl.mono HB4.out.size)
     obtain ⟨b, o, rfl, sb, hbl, hx⟩ := HV.out.at_ (by omega)
     obtain ⟨l, hl⟩ : ∃ l, ls[k]? = some l := ⟨_, List.getElem?_eq_getElem hlt⟩
     obtain ⟨X, z, j0, hl0⟩ := hx k l hl
     have hok := light_at HL.out hl
     have hlw := hl0.below' blw
     have hoff : ∀ x, x < w.heap.size → ¬ a.has x := fun x hx h => by have := HHA.out x h; have := HB4.out.size; omega
     have q0 := (World.cell?_of_block (w := w) (blw.block b hbl)).trans j0
     have BD : Below wr.heap.size wr wr.drew := Below_drawn (Below.refl _ _) 1
     have hri := rright13_any c HM.out _ _ _ _ (filesF fl) l wr.drew (hfs.drewN 1) (hlw.drewN 1) (by rw [files_len]; have := fine_few hr HM.out; omega) (by have := hok.1; omega) (fun f hf => by have := fine_small hr f hf; omega) (fun f hf => by have := (hok.2 f hf).2; omega)
     rw [right_try HM.out hr.fine] at hri
     have HTR := Lib.hid (fun W (b : Below wr.heap.size wr W) => stry_any (hst.below b) _ _ l (hlw.below' b) (by have := hok.1; omega))
     have HDO := Lib.hid (fun W (b : Below wr.heap.size wr W) => sdo_rest (hst.below b) hr hf _ _ l (hlw.below' b) hoff (by have := hok.1; omega))
     have HRD := Lib.hid (fun W v (g : FS W (fun b => ¬ a.has b) v (filesF fl)) (g2 : FS W (fun b => b < w.heap.size) (.slice X l.length z) l) => rdo_any _ _ v _ (filesF fl) l W g g2 (by rw [files_len]; have := fine_few hr HM.out; omega) (by have := hok.1; omega) fun f hf => by have := (hok.2 f hf).2; omega)
     have HWF := Lib.hid (will_files (c := c) (fl := fl) l)
     have HFS := Lib.hid hfs
     have HLW := Lib.hid hlw
     have HBL := Lib.hid bl
     have HQ0 : Hid (∀ W, Below wr.heap.size wr W → W.cell? ⟨b, o + k, none⟩ = some (.slice X l.length z)) := fun W bb => (World.cell?_of_block (w := wr) (bb.block b (by have := blw.size; omega))).trans q0
     have HOF := Lib.hid hoff
     have HST := Lib.hid hst
     clear hx hl0 hl hok hoff hst hr hf hfs bl hlw j0 q0 blw sb
     obtain ⟨E, hE⟩ : ∃ E, E = tryN c (nodesF fl) false l := ⟨_, rfl⟩
     rw [← hE] at hri HTR HDO HWF
     have DE : (E != E) = false := by simp
     have HE := Lib.hid hE
     clear hE
     unfold cfgV at hri
     go_wp2_with fail
     rename_i KK hKK
     have HKK := Lib.hid hKK
     clear hKK
     refine wp_region_held_drew (S := (fun W => (W.cell? ⟨w.heap.size, 0, none⟩ = some (.int .i64 c.log) ∧ W.cell? ⟨w.heap.size, 1, none⟩ = some (.int .i64 c.files) ∧ W.cell? ⟨w.heap.size, 2, none⟩ = some (.int .i64 c.slots) ∧ W.cell? ⟨w.heap.size, 3, none⟩ = some (.int .i64 c.data)) ∧ W.cell? ⟨b, o + k, none⟩ = some (.slice X l.length z))) (by kernel_rfl) ⟨KK4.out _ (HBL.out.trans (BD.mono HBL.out.size)), HQ0.out _ BD⟩ (fun hHeld => ?_)
     refine hyY (some 93) 0 rfl hHeld ?_; go_frame
     refine hyY (some 94) 1 rfl hHeld ?_; go_frame
     refine hyY (some 95) 2 rfl hHeld ?_; go_frame
     refine hyY (some 96) 3 rfl hHeld ?_; go_frame
     refine hyY (some 97) 4 rfl hHeld ?_; go_frame
     refine hyY (some 98) 5 rfl hHeld ?_; go_frame
     refine hyO (some 99) 6 rfl (fun K hK => ?_)
     go_simp
     go_at_call 16
     refine hri.mono ?_
     rintro e w6 ⟨rfl, b6'⟩
     have b6 := BD.trans (b6'.mono BD.size)
     go_wp2_with fail
     refine hK.out _ _ ?_ (fun hH2 => ?_)
     ·first | exact hHeld | exact ⟨KK4.out _ (HBL.out.trans (b6.mono HBL.out.size)), HQ0.out _ b6⟩
     clear hHeld hK K; have hHeld := hH2; clear hH2; try go_frame
     refine hyY (some 12) 7 rfl hHeld ?_; go_frame
     refine wpAnyH_done (by kernel_rfl) ?_ _
     have hKK := HKK.out
     have htr := HTR.out _ b6
     have q0 := HQ0.out _ b6
     clear hri b6' hHeld
     go_wp2_with fail
     refine htr.mono ?_
     rintro e w7 ⟨rfl, b7'⟩
     have b7 := b6.trans (b7'.mono b6.size)
     have hdo := HDO.out _ b7
     clear htr q0
     have q0 := HQ0.out _ b7
     go_wp2_with (go_at_call 9; refine (hnu _ _).mono ?_; rintro e w' ⟨rfl, rfl⟩)
     refine hdo.mono ?_
     rintro e w8 ⟨rfl, ⟨s8, hst8, hr8, hf8⟩, k8⟩
     have hfs8 := (HFS.out.below' b7).beside k8
     have B8 : Below w4.heap.size w4 w8 := k8.elder (HBL.out.trans (b7.mono HBL.out.size)) HHA.out (HBL.out.trans (b7.mono HBL.out.size)).size
     have hlw8 : FS w8 (fun b => b < w.heap.size) (.slice X l.length z) l := (HLW.out.below' b7).keep k8.size fun x hx hlt => k8.block x ⟨hlt, HOF.out x hx⟩
     have q8 : w8.cell? ⟨b, o + k, none⟩ = some (.slice X l.length z) := (World.cell?_of_block (w := w7) (k8.block b ⟨by have := HB4.out.size; have := (HBL.out.trans (b7.mono HBL.out.size)).size; omega, HOF.out b hbl⟩)).trans q0
     clear hdo b7' b6 b7 BD q0 k8
     by_cases hE0 : E = 0
     ·have DE0 : (E == 0) = true := by rw [hE0]; rfl
      rw [if_pos hE0] at HWF
      have hrd := HRD.out w8 _ hfs8 hlw8
      clear hE0
      go_wp2_with (go_at_call 9; refine (hnu _ _).mono ?_; rintro e w' ⟨rfl, rfl⟩)
      refine hrd.mono ?_
      rintro e wx ⟨v9, rfl, hfx, bx⟩
      rw [← HWF.out] at hfx
      have HSX := Lib.hid (hst8.below bx)
      have HBX := Lib.hid (B8.trans (bx.mono B8.size))
      have hfz : FS wx (fun b => ¬ a.has b) v9 (filesF (willF c fl l)) := hfx.mono fun x hx => by
       rcases hx with ⟨h, _⟩ | ⟨h, _⟩
       ·exact h
       ·exact fun hh => by have := hst8.lt x hh; omega
      clear hst8 hfs8 hlw8 B8 hrd q8 bx hfx
      have hfs8 := hfz
      clear hfz
      have hst8 := HSX.out
      have B8 := HBX.out
      have hlk := like_any hst8 hr8 (by rw [hf8]; decide) _ _ hfs8
      have r0 := (KK4.out _ B8).1
      have r1 := (KK4.out _ B8).2.1
      have r2 := (KK4.out _ B8).2.2.1
      have r3 := (KK4.out _ B8).2.2.2
      have HS8 := Lib.hid hst8
      have HR8 := Lib.hid hr8
      have HF8 := Lib.hid hf8
      have HFS8 := Lib.hid hfs8
      have HB8 := Lib.hid B8
      clear hst8 hr8 hf8 hfs8 B8
      unfold cfgV at hlk
      go_wp2_with fail
      refine hlk.mono ?_
      rintro e w9 ⟨rfl, b9⟩
      have B9 := HB8.out.trans (b9.mono HB8.out.size)
      have hcl := clean_any (HS8.out.below b9).ds HM.out HR8.out _ _ (HFS8.out.below' b9)
      have s0 := (KK4.out _ B9).1
      have s1 := (KK4.out _ B9).2.1
      have s2 := (KK4.out _ B9).2.2.1
      have s3 := (KK4.out _ B9).2.2.2
      clear hlk r0 r1 r2 r3
      unfold cfgV at hcl
      go_wp2_with fail
      refine hcl.mono ?_
      rintro e w10 ⟨rfl, b10⟩
      have B10 := B9.trans (b10.mono B9.size)
      have HSA := Lib.hid ((HS8.out.below b9).below b10)
      have HFA := Lib.hid ((HFS8.out.below' b9).below' b10)
      clear hcl s0 s1 s2 s3
      go_wp2_with fail
      go_roundw
      case rel => exact ⟨k + 1, willF c fl l, s8, by omega, by go_num, HSA.out, HR8.out, HF8.out, HFA.out, B10⟩
      case measure => simp [intOf]; omega
     ·have DE0 : (E == 0) = false := by simpa using hE0
      rw [if_neg hE0, ← HWF.out] at *
      clear hE0 hlw8 q8
      obtain ⟨t0, t1, t2, t3⟩ := KK4.out _ B8
      go_wp2_with (go_at_call 9; refine (hnu _ _).mono ?_; rintro e w' ⟨rfl, rfl⟩)
      have hlk := like_any hst8 hr8 (by rw [hf8]; decide) _ _ hfs8
      have r0 := (KK4.out _ B8).1
      have r1 := (KK4.out _ B8).2.1
      have r2 := (KK4.out _ B8).2.2.1
      have r3 := (KK4.out _ B8).2.2.2
      have HS8 := Lib.hid hst8
      have HR8 := Lib.hid hr8
      have HF8 := Lib.hid hf8
      have HFS8 := Lib.hid hfs8
      have HB8 := Lib.hid B8
      clear hst8 hr8 hf8 hfs8 B8
      unfold cfgV at hlk
      go_wp2_with fail
      refine hlk.mono ?_
      rintro e w9 ⟨rfl, b9⟩
      have B9 := HB8.out.trans (b9.mono HB8.out.size)
      have hcl := clean_any (HS8.out.below b9).ds HM.out HR8.out _ _ (HFS8.out.below' b9)
      have s0 := (KK4.out _ B9).1
      have s1 := (KK4.out _ B9).2.1
      have s2 := (KK4.out _ B9).2.2.1
      have s3 := (KK4.out _ B9).2.2.2
      clear hlk r0 r1 r2 r3
      unfold cfgV at hcl
      go_wp2_with fail
      refine hcl.mono ?_
      rintro e w10 ⟨rfl, b10⟩
      have B10 := B9.trans (b10.mono B9.size)
      have HSA := Lib.hid ((HS8.out.below b9).below b10)
      have HFA := Lib.hid ((HFS8.out.below' b9).below' b10)
      clear hcl s0 s1 s2 s3
      go_wp2_with fail
      go_roundw
      case rel => exact ⟨k + 1, willF c fl l, s8, by omega, by go_num, HSA.out, HR8.out, HF8.out, HFA.out, B10⟩
      case measure => simp [intOf]; omega
    ·obtain rfl : k = ls.length := by omega
     have hop := sopen_rest hst.ds HM.out hr (by rw [hf]; decide) hst.tab fun h => hst.sn.pt (Or.inl h)
     obtain ⟨r0, r1, r2, r3⟩ := KK4.out _ bl
     have HPA : Hid (∀ x, a.p.has x → w4.heap.size ≤ x) := fun x h => HHA.out x (Or.inl h)
     have HR := Lib.hid hr
     have HF := Lib.hid hf
     have HFS := Lib.hid hfs
     have HBL := Lib.hid bl
     unfold cfgV at hop
     clear hst hr hf hfs bl
     go_wp2_with fail
     refine hop.mono ?_
     rintro e w6 ⟨a2, ha2, rfl, hst, hh, hk6⟩
     have B6 := hk6.elderP HBL.out HPA.out HBL.out.size
     have hfs6 : FS w6 (fun b => ¬ a.has b) _ _ := HFS.out.keep hk6.size fun x hx hlt => hk6.block x ⟨hlt, fun h => hx (Or.inl h)⟩
     have hlk := like_any hst HR.out (by rw [HF.out]; decide) _ _ hfs6
     have HS6 := Lib.hid hst
     clear hop r0 r1 r2 r3 hst hh hk6 ha2 hfs6
     obtain ⟨r0, r1, r2, r3⟩ := KK4.out _ B6
     unfold cfgV at hlk
     go_wp2_with (go_at_call 9; refine (hnu _ _).mono ?_; rintro e w' ⟨rfl, rfl⟩)
     refine hlk.mono ?_
     rintro e w7 ⟨rfl, b7⟩
     have B7 := B6.trans (b7.mono B6.size)
     have hlv := HLV.out _ (HS6.out.below b7).tab
     clear hlk r0 r1 r2 r3
     go_wp2_with fail
     refine hlv.mono ?_
     rintro e w8 ⟨rfl, b8⟩
     have B8 := HB4.out.trans ((B7.trans (b8.mono B7.size)).mono HB4.out.size)
     clear hlv
     go_wp2_with fail
     go_ret
     exact ⟨rfl, B8⟩
theorem store_does (c : CI) (v : Value) (ls : List (List Fi)) (w : World) (ht : Tab w) (hv : FSS w (fun b => b < w.heap.size) v ls) : Calls Tryz.prog 3 #[cfgV c, v] w (Yes13 w) := by
 by_cases hm : c.may
 ·exact does_go c hm v ls w ht hv
 ·exact does_no c hm v w ht
end
section
open Go.RowKit Go.ChangeShapes Go.WideShapes Go.Joins
theorem storeDoes_law {H : Type} (enc : TypeId × Value → H) (W : World) (base : Nat) (ht : Tab W)
    (v0 : Value) (d0 : DataW H) (p0 : List MemPlace) (v1 : Value) (d1 : DataW H) (p1 : List MemPlace)
    (k0 : Value.okWide Tryz.prog W .any base 23 v0) (k1 : Value.okWide Tryz.prog W .any base 24 v1)
    (h0 : DataW.Trod enc Tryz.prog W 0 (fun _ => true) true 23 v0 d0 p0) (h1 : DataW.Trod enc Tryz.prog W 0 (fun _ => true) true 24 v1 d1 p1) :
    Calls Tryz.prog 3 #[v0, v1] W fun e W' => e = .returned (.bool true) ∧ Below W.heap.size W W' := by
  obtain ⟨c, rfl⟩ := open_cfg13 k0 h0
  obtain ⟨ls, hv⟩ := open_lists k1 h1
  exact store_does c v1 ls W ht hv
end
end Go.Proofs.YteddmnoeljakpaaGreatDoor
section
namespace Go.Proofs.YteddmnoeljakpaaGreatDoor.storeDoes
open Go.ChangeShapes Go.WideShapes Go.ChangeAt Go.RowKit
theorem own : ownKnob Tryz.prog.godebug = none := by kernel_rfl
theorem laidOut : laidOutB Tryz.prog = true := by kernel_rfl
theorem door_met (os : Os) (args : Array Value) : laidMetH Tryz.prog Rows.storeDoesRow.laid ((World.doorLaid Tryz.prog 400 os).forCall (fun _ _ => 0) ⟨#[], args, []⟩).memory :=
  laidMetH_of_parts3 (fuel := 8) (laidMet_of_run' 8 (by kernel_rfl) (by kernel_rfl)) (by kernel_rfl) (by kernel_rfl)
set_option maxRecDepth 100000 in
theorem lifted (os : Os) (started : os.Started) (H : Type) (enc : TypeId × Value → H) :
    ReturnsInHanded {} Tryz.checked os 3 .any (fun w args => (Rows.storeDoesSpec.pre enc Tryz.prog Tryz.f3 [] false w args ∧ laidMetH Tryz.prog Rows.storeDoesRow.laid w) ∧ sizedMet enc Tryz.prog Tryz.f3 (OpenSpec.ofChange Rows.storeDoesSpec) false w args)
      (Rows.storeDoesSpec.post enc Tryz.prog Tryz.f3 false true false false) := by
  refine returnsInHanded_of_change_and (C := Tryz.checked) (X := fun w _ => laidMetH Tryz.prog Rows.storeDoesRow.laid w) (fun _ _ _ hh h => h.of_heap hh) own started (by kernel_rfl) Tryz.func3
    (ChangeSpec.witness_shaped (enc := enc) (C := Tryz.checked) (os := os) (X := fun w _ => laidMetH Tryz.prog Rows.storeDoesRow.laid w) false (World.doorLaid Tryz.prog 400 os) #[.agg #[.int .i64 0, .int .i64 0, .int .i64 0, .int .i64 0], .slice none 0 0] 8 rfl (World.shaped_of_RefB (by kernel_rfl) (by kernel_rfl)) (by kernel_rfl) (by kernel_rfl) (by kernel_rfl) (door_met os _)) ?_
  intro W base args ds gs before hval0 hW _ _ hL _
  have hval : ∀ (j : Nat) t v, Tryz.f3.params[j]? = some t → args[j]? = some v → Value.okWide Tryz.prog W .any base t v := hval0
  have hW' := hW
  obtain ⟨p, q, hA0, hV, rfl, hfz, hnd⟩ := hW
  have hA : DataW.TrodAll enc Tryz.prog W 0 (fun _ => true) true Tryz.f3.params.toList args.toList ds p := hA0
  rw [Tryz.params3] at hA hval
  obtain ⟨v0, vs0, d0, ds0, p0, q0, hargs, rfl, rfl, h0, r0⟩ := trodAll_cons hA
  obtain ⟨v1, vs1, d1, ds1, p1, q1, rfl, rfl, rfl, h1, r1⟩ := trodAll_cons r0
  obtain ⟨rfl, rfl, rfl⟩ := trodAll_nil r1
  obtain rfl : args = #[v0, v1] := by cases args; simp_all
  obtain ⟨rfl, rfl⟩ := trodVars_none hV
  have lt0 : ∀ x ∈ p0, x.block < W.heap.size := by obtain ⟨m, hm⟩ := h0; exact DataW.trod_lt m _ _ _ hm
  have lt1 : ∀ x ∈ p1, x.block < W.heap.size := by obtain ⟨m, hm⟩ := h1; exact DataW.trod_lt m _ _ _ hm
  refine (storeDoes_law enc W base (tab_of_laid (by kernel_rfl) hL) v0 d0 p0 v1 d1 p1 (hval 0 _ v0 rfl rfl) (hval 1 _ v1 rfl rfl) h0 h1).mono fun e W' ⟨he, bel⟩ => ?_
  subst he
  exact ⟨_, rfl, _, _, _, [], _, [], hW', trodAll_mk1 (shut_bool Tryz.underlying4 _), (trodAll_cons_mk (Below.trod laidOut (by kernel_rfl) (of_decide_eq_true (by kernel_rfl)) h0 bel lt0) (trodAll_cons_mk (Below.trod laidOut (by kernel_rfl) (of_decide_eq_true (by kernel_rfl)) h1 bel lt1) trodAll_mk0)), rfl, bel.frame _, fun h => by cases h⟩
theorem over : Rows.storeDoesRow.holds Tryz.pinned (OpenSpec.ofChange Rows.storeDoesSpec) :=
  OpenClaim.holds_of_wide 3 Tryz.f3 rfl rfl rfl rfl rfl rfl rfl ⟨rfl, rfl, rfl, rfl, rfl⟩ rfl rfl rfl rfl rfl (by kernel_rfl) Tryz.func3 (by kernel_rfl)
    (of_decide_eq_true (by kernel_rfl)) (by unfold Func.isWrapper; first | (rw [if_pos (by decide +kernel)]; kernel_rfl) | (rw [if_neg (by decide +kernel)]; exact ⟨rfl, rfl⟩))
    (fun os started H enc _ => lifted os started H enc)
theorem proved : Rows.StoreDoesSaid := over
theorem row_tie : Rows.storeDoesRow.laidByTextAt .later Tryz.pinned [.data] true := storeDoes_row_tie
theorem card : Rows.StoreDoesCardSaid :=
  Claim7.holds_tied_plain_at .later [] [.data] true Rows.storeDoesCard.stood.harness false
    over (fun _ h => by cases h) (by kernel_rfl) (fun _ h => by cases h) row_tie rfl ⟨rfl, rfl⟩ (by kernel_rfl) rfl
    (fun f fn hf hfn => by
      obtain rfl : f = 3 := Option.some.inj ((show Tryz.prog.funcNamed Rows.storeDoesRow.func = some 3 by kernel_rfl).symm.trans hf) |>.symm
      obtain rfl : fn = Tryz.f3 := (Option.some.inj (Tryz.func3.symm.trans hfn)).symm
      exact ⟨by kernel_rfl, fun j t ht => by
        rw [Tryz.params3] at ht
        have hm : t ∈ [23, 24] := by simpa using Array.mem_of_getElem? ht
        have hall : ([23, 24].all fun u => !Tryz.prog.wantsStandIn u) = true := by kernel_rfl
        exact (show Tryz.prog.wantsStandIn t = false by simpa using List.all_eq_true.1 hall t hm)⟩)
    (by kernel_rfl)
end Go.Proofs.YteddmnoeljakpaaGreatDoor.storeDoes
end
