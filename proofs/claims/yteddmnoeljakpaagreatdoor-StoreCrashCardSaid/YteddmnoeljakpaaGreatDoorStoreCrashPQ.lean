/-
  SuW: Arguments of the statement StoreCrash, opened: a list of crashes. No condition.
  SvD: StoreCrash's law, over the loaded program. No condition but the table roots.
  StoreCrashW: StoreCrash's law over arguments that came in. No condition but the table roots.
  StoreCrashP: THE STATEMENT StoreCrash of layer: proved out of the law's contract (storeCrash_law): for every input the call returns true, and the input reads as it did. No condition.
-/
import Derived.Test.YteddmnoeljakpaaGreatDoorSw47
import Derived.Test.YteddmnoeljakpaaGreatDoorSw49
import Derived.Test.YteddmnoeljakpaaGreatDoorSw50
import Derived.Test.YteddmnoeljakpaaGreatDoorSw46
import Derived.Deep.CutRange
import Derived.Test.YteddmnoeljakpaaGreatDoorCards
import Derived.Test.YteddmnoeljakpaaGreatDoorTie
import Derived.Test.YteddmnoeljakpaaGreatDoorSw01
import Derived.Stop.Joined
import Derived.SevenTiedAt
import Derived.WalkKit
import Derived.ProofKit
import Derived.OpenShut
import Derived.ShutString
import Derived.ChangeOld
import Derived.Below
set_option linter.unusedVariables false
set_option maxRecDepth 100000
namespace Go.Proofs.YteddmnoeljakpaaGreatDoor
section
open Go.RowKit Go.ChangeShapes Go.WideShapes Go.Joins
abbrev Crs := Int × List Bool
def CrS (w : World) (v : Value) (l : List Crs) : Prop :=
  ∃ A c, v = .slice A l.length c ∧ l.length ≤ c ∧ c ≤ maxLen ∧
    (0 < l.length → ∃ b o, A = some ⟨b, o, none⟩ ∧ b < w.heap.size ∧ ∀ j q, l[j]? = some q → w.cell? ⟨b, o + j * 2, none⟩ = some (.int .i64 q.1) ∧ I64 q.1 ∧ ∃ K m z, w.cell? ⟨b, o + j * 2 + 1, none⟩ = some (.slice K m z) ∧ CS w (fun b => b < w.heap.size) (.slice K m z) (q.2.map Value.bool))
theorem CrS.form {w : World} {v : Value} {l : List Crs} (h : CrS w v l) : ∃ A c, v = .slice A l.length c ∧ l.length ≤ c ∧ c ≤ maxLen := by
  obtain ⟨A, c, e, hl, hc, _⟩ := h
  exact ⟨A, c, e, hl, hc⟩
theorem CrS.at_ {w : World} {A : Option Addr} {n c : Nat} {l : List Crs} (h : CrS w (.slice A n c) l) (hp : 0 < l.length) :
    ∃ b o, A = some ⟨b, o, none⟩ ∧ b < w.heap.size ∧ ∀ j q, l[j]? = some q → w.cell? ⟨b, o + j * 2, none⟩ = some (.int .i64 q.1) ∧ I64 q.1 ∧ ∃ K m z, w.cell? ⟨b, o + j * 2 + 1, none⟩ = some (.slice K m z) ∧ CS w (fun b => b < w.heap.size) (.slice K m z) (q.2.map Value.bool) := by
  obtain ⟨A', c', e, _, _, hx⟩ := h
  injection e with e1 e2 e3
  subst e1
  exact hx hp
theorem cells_crash : Tryz.prog.cellsOf 50 = 2 := by kernel_rfl
theorem keep_of_trod {H : Type} {enc : TypeId × Value → H} {W : World} {fuel : Nat} {cs : List Value} {x : DataW H × List MemPlace}
    (h : DataW.trod enc Tryz.prog W 0 (fun _ => true) true fuel 48 cs = some x) : ∃ A n c, ∃ ks : List Bool, cs = [.slice A n c] ∧ CS W (fun b => b < W.heap.size) (.slice A n c) (ks.map Value.bool) := by
  rcases Deep.open_bools Tryz.underlying48 Tryz.underlying4 (by kernel_rfl) h with ⟨hcs, _⟩ | ⟨a, len, cap, B, hcs, _, hl, hm, _, hc⟩
  · exact ⟨none, 0, 0, [], hcs, CS.nil _ _⟩
  · have hlen : (((List.range len).map B).map Value.bool).length = len := by simp
    refine ⟨some a, len, cap, (List.range len).map B, hcs, some a, cap, by rw [hlen], by omega, hm, fun h0 => ?_⟩
    rw [hlen] at h0
    obtain ⟨b, o, spot⟩ := a
    have k0 := hc 0 (by omega)
    have hspot : spot = none := by simpa [Addr.add] using World.cell?_spot k0
    subst hspot
    rw [add_plain] at k0
    refine ⟨b, o, rfl, World.block_lt_of_cell? _ _ k0, World.block_lt_of_cell? _ _ k0, fun j u hu => ?_⟩
    have hj : j < len := by
      have := (List.getElem?_eq_some_iff.1 hu).1
      omega
    have kj := hc j (by omega)
    rw [add_plain] at kj
    rw [kj]
    simpa [hj] using hu
theorem open_cr {H : Type} {enc : TypeId × Value → H} {W : World} {fuel : Nat} {cs : List Value} {x : DataW H × List MemPlace}
    (h : DataW.trod enc Tryz.prog W 0 (fun _ => true) true fuel 50 cs = some x) : ∃ a : Crs, ∃ A n c, cs = [.int .i64 a.1, .slice A n c] ∧ I64 a.1 ∧ CS W (fun b => b < W.heap.size) (.slice A n c) (a.2.map Value.bool) := by
  obtain ⟨xs, n, _, _, hl, hlen, hf⟩ := DataW.trod_struct Tryz.underlying50 h
  rw [cells_crash] at hl
  match cs, hl with
  | [c0, c1], _ =>
    have hxs : xs.length = 2 := by simpa using hlen
    have at_ : ∀ i, (hi : i < 2) → xs[i]? = some (xs[i]'(by omega)) := fun i hi => List.getElem?_eq_getElem (by omega)
    have k0 : DataW.trod enc Tryz.prog W 0 (fun _ => true) true n 3 ([c0, c1].drop 0 |>.take (Tryz.prog.cellsOf 3)) = some (xs[0]'(by omega)) := (hf 0 _ rfl).trans (at_ 0 (by omega))
    have k1 : DataW.trod enc Tryz.prog W 0 (fun _ => true) true n 48 ([c0, c1].drop 1 |>.take (Tryz.prog.cellsOf 48)) = some (xs[1]'(by omega)) := (hf 1 _ rfl).trans (at_ 1 (by omega))
    rw [cells_i] at k0
    rw [cells_bools] at k1
    obtain ⟨t, e0, _, w0⟩ := DataW.trod_int Tryz.underlying3 k0
    obtain ⟨A, m, c, ks, e1, hc⟩ := keep_of_trod k1
    simp at e0 e1
    subst e0 e1
    have ht : -9223372036854775808 ≤ t ∧ t ≤ 9223372036854775807 := by simpa [Lit.wf, IntKind.min, IntKind.max, IntKind.signed, IntKind.bits] using w0
    exact ⟨(t, ks), A, m, c, rfl, ht, hc⟩
theorem open_crashes {H : Type} {enc : TypeId × Value → H} {W : World} {base : Nat} {v : Value} {d : DataW H} {p : List MemPlace}
    (ok : Value.okWide Tryz.prog W .any base 47 v) (h : DataW.Trod enc Tryz.prog W 0 (fun _ => true) true 47 v d p) : ∃ l : List Crs, CrS W v l := by
  obtain ⟨a0, len, cap, rfl⟩ := okWide_slice Tryz.underlying47 ok
  obtain ⟨fuel, hf⟩ := h
  rcases DataW.trod_slice Tryz.underlying47 hf with ⟨hcs, _⟩ | ⟨a, len', cap', elems, rest, n, _, hcs, _, _, hlc, hm, hel, hi, _, _⟩
  · simp [Value.cells] at hcs
    obtain ⟨rfl, rfl, rfl⟩ := hcs
    exact ⟨[], none, 0, rfl, by simp, by simp [maxLen], fun h => absurd h (by simp)⟩
  · simp [Value.cells] at hcs
    obtain ⟨rfl, rfl, rfl⟩ := hcs
    rw [cells_crash] at hi
    have hi2 : ∀ i, i < len → ∃ b : Crs, I64 b.1 ∧ ∃ A m c, CS W (fun b => b < W.heap.size) (.slice A m c) (b.2.map Value.bool) ∧ W.cell? ((a.add (i * 2)).add 0) = some (.int .i64 b.1) ∧ W.cell? ((a.add (i * 2)).add 1) = some (.slice A m c) := by
      intro i hil
      have := hi i hil
      rw [List.getElem?_eq_getElem (by omega)] at this
      obtain ⟨cs, hcs, htr⟩ := Option.bind_eq_some_iff.1 this
      obtain ⟨b, A, m, c, rfl, hb, hk⟩ := open_cr htr
      obtain ⟨_, _, hcell⟩ := World.cells?_some hcs
      exact ⟨b, hb, A, m, c, hk, hcell 0 (by simp), hcell 1 (by simp)⟩
    haveI : Inhabited Crs := ⟨(0, [])⟩
    obtain ⟨f, hf⟩ := Deep.choose_lt (α := Crs) hi2
    have hlen : ((List.range len).map f).length = len := by simp
    refine ⟨(List.range len).map f, some a, cap, by rw [hlen], by omega, hm, fun h0 => ?_⟩
    rw [hlen] at h0
    obtain ⟨b, o, spot⟩ := a
    obtain ⟨_, _, _, _, _, k0, _⟩ := hf 0 h0
    have hspot : spot = none := by simpa [Addr.add] using World.cell?_spot k0
    subst hspot
    rw [add_plain, add_plain] at k0
    refine ⟨b, o, rfl, World.block_lt_of_cell? _ _ k0, fun i x hix => ?_⟩
    have hil : i < len := by
      have := (List.getElem?_eq_some_iff.1 hix).1
      omega
    simp [hil] at hix
    subst hix
    obtain ⟨hb, A, m, c, hk, q0, q1⟩ := hf i hil
    rw [add_plain, add_plain] at q0 q1
    exact ⟨q0, hb, A, m, c, q1, hk⟩
end
section
open Go.RowKit
structure AtC (w4 : World) (a : SA) (V10 V14 : Value) (fl fl' : List Fe) (wr : World) (s : Dk) : Prop where
 ds : DS wr a.p s
 was : FS wr (fun b => ¬ a.has b) V10 (filesF fl)
 will : FS wr (fun b => ¬ a.has b) V14 (filesF fl')
 bl : Below w4.heap.size w4 wr
section
variable {w4 wr wn : World} {a : SA} {V10 V14 : Value} {fl fl' : List Fe} {s s' : Dk}
theorem AtC.disk (h : AtC w4 a V10 V14 fl fl' wr s) (hp : ∀ x, a.p.has x → w4.heap.size ≤ x) (k : KeepP (Off a.p wr) wr wn) (hd : DS wn a.p s') : AtC w4 a V10 V14 fl fl' wn s' :=
 ⟨hd, h.was.keep k.size fun b hb hlt => k.block b ⟨hlt, fun hh => hb (Or.inl hh)⟩, h.will.keep k.size fun b hb hlt => k.block b ⟨hlt, fun hh => hb (Or.inl hh)⟩, k.elderP h.bl hp h.bl.size⟩
theorem keep_fuse13 {p : DA} (hg : wr.grownBy wn (some p.d)) : KeepP (Off p wr) wr wn := (KeepP.refl (Off p wr) wr).grown hg (fun g e hx => hx.2 (by cases e; exact .inl rfl)) fun x hx => hx.1
end
set_option maxHeartbeats 8000000 in
theorem crash_no (c : CI) (hm : ¬ c.may) (v u : Value) (w : World) (ht : Tab w) : Calls Tryz.prog 4 #[cfgV c, v, u] w (Yes13 w) := by
 have B0 := (Below.refl w.heap.size w).alloc (Nat.le_refl _) (.cells #[.int .i64 c.log, .int .i64 c.files, .int .i64 c.slots, .int .i64 c.data] 23)
 have K0 := KB.new w 23 #[.int .i64 c.log, .int .i64 c.files, .int .i64 c.slots, .int .i64 c.data]
 have HLV := Lib.hid (fun W (h : Tab W) => live13_any W h)
 have HT := Lib.hid ht
 have r0 := K0.cell 0
 have r1 := K0.cell 1
 have r2 := K0.cell 2
 have r3 := K0.cell 3
 have hmy := fun W => rmay_any c W
 simp only [decide_eq_false hm] at hmy
 clear ht hm K0
 unfold cfgV at *
 go_enter Tryz.func4, Tryz.ntmps4
 go_wp2_with fail
 refine (hmy _).mono ?_
 rintro e w2 ⟨rfl, b2⟩
 have B2 := B0.trans (b2.mono B0.size)
 clear hmy b2 B0 r0 r1 r2 r3
 have hlv := HLV.out _ (HT.out.below B2)
 go_wp2_with fail
 refine hlv.mono ?_
 rintro e wL ⟨rfl, bL⟩
 have BL := B2.trans (bL.mono B2.size)
 clear hlv
 go_wp2_with fail
 go_ret
 exact ⟨rfl, BL⟩
set_option maxHeartbeats 32000000 in
theorem crash_go (c : CI) (hm : c.may) (v u : Value) (ls : List (List Fi)) (xs : List Crs) (w : World) (ht : Tab w) (hv : FSS w (fun b => b < w.heap.size) v ls) (hu : CrS w u xs) : Calls Tryz.prog 4 #[cfgV c, v, u] w (Yes13 w) := by
 obtain ⟨A, cp, rfl, hlc, hcm⟩ := hv.form
 obtain ⟨A2, cp2, rfl, hlc2, hcm2⟩ := hu.form
 have hl63 : ls.length ≤ 9223372036854775807 := by unfold maxLen at hcm; omega
 have hx63 : xs.length ≤ 9223372036854775807 := by unfold maxLen at hcm2; omega
 have B0 := (Below.refl w.heap.size w).alloc (Nat.le_refl _) (.cells #[.int .i64 c.log, .int .i64 c.files, .int .i64 c.slots, .int .i64 c.data] 23)
 have K0 := KB.new w 23 #[.int .i64 c.log, .int .i64 c.files, .int .i64 c.slots, .int .i64 c.data]
 have HLV := Lib.hid (fun W (h : Tab W) => live13_any W h)
 have HT := Lib.hid ht
 have HV := Lib.hid hv
 have HU := Lib.hid hu
 have HM := Lib.hid hm
 have HLI := Lib.hid (fun W (b : Below w.heap.size w W) => light_any _ _ ls W (hv.elder (Nat.le_refl _) b))
 have r0 := K0.cell 0
 have r1 := K0.cell 1
 have r2 := K0.cell 2
 have r3 := K0.cell 3
 have hmy := fun W => rmay_any c W
 have hrs := fun W => rsize_any c W
 have HNU := Lib.hid (fun x W => num13_any x W)
 have HBG := Lib.hid (fun W (h : Tab W) => begin_any c hm W h)
 simp only [decide_eq_true hm] at hmy
 clear ht hm hv hu hlc hcm hlc2 hcm2
 obtain ⟨Z, hZ⟩ : ∃ x, x = c.size := ⟨_, rfl⟩
 rw [← hZ] at hrs
 clear hZ
 unfold cfgV at *
 go_enter Tryz.func4, Tryz.ntmps4
 go_wp2_with fail
 refine (hmy _).mono ?_
 rintro e w2 ⟨rfl, b2⟩
 have B2 := B0.trans (b2.mono B0.size)
 have K2 := K0.below b2 K0.lt
 have hli := HLI.out _ B2
 clear hmy b2 B0 K0 r0 r1 r2 r3
 have r0 := K2.cell 0
 have r1 := K2.cell 1
 have r2 := K2.cell 2
 have r3 := K2.cell 3
 go_wp2_with fail
 refine hli.mono ?_
 rintro e w3 ⟨t, rfl, hb, rfl⟩
 clear hli
 cases t with
 | false =>
  clear hb r0 r1 r2 r3 K2
  have hlv := HLV.out _ (HT.out.below B2)
  go_wp2_with fail
  refine hlv.mono ?_
  rintro e wL ⟨rfl, bL⟩
  have BL := B2.trans (bL.mono B2.size)
  clear hlv
  go_wp2_with fail
  go_ret
  exact ⟨rfl, BL⟩
 | true =>
  have HL := Lib.hid (hb rfl)
  clear hb
  go_wp2_with fail
  refine (hrs _).mono ?_
  rintro e w4 ⟨rfl, b4⟩
  have B4 := B2.trans (b4.mono B2.size)
  have K4 := K2.below b4 K2.lt
  clear hrs b4 B2 K2 r0 r1 r2 r3
  by_cases h200 : 200 < Z
  ·have D : decide ((200 : Int) < Z) = true := decide_eq_true h200
   clear h200 K4
   have hlv := HLV.out _ (HT.out.below B4)
   go_wp2_with fail
   refine hlv.mono ?_
   rintro e wL ⟨rfl, bL⟩
   have BL := B4.trans (bL.mono B4.size)
   clear hlv
   go_wp2_with fail
   go_ret
   exact ⟨rfl, BL⟩
  ·have D : decide ((200 : Int) < Z) = false := decide_eq_false h200
   by_cases h6 : 6 < xs.length
   ·have D2 : decide ((6 : Int) < (xs.length : Int)) = true := decide_eq_true (by omega)
    have D2' : decide (6 < xs.length) = true := decide_eq_true h6
    clear h200 h6 K4
    have hlv := HLV.out _ (HT.out.below B4)
    go_wp2_with fail
    refine hlv.mono ?_
    rintro e wL ⟨rfl, bL⟩
    have BL := B4.trans (bL.mono B4.size)
    clear hlv
    go_wp2_with fail
    go_ret
    exact ⟨rfl, BL⟩
   ·have D2 : decide ((6 : Int) < (xs.length : Int)) = false := decide_eq_false (by omega)
    have D2' : decide (6 < xs.length) = false := decide_eq_false h6
    by_cases h0 : ls.length = 0
    ·have D3 : ((ls.length : Int) == 0) = true := by rw [h0]; rfl
     have D3' : decide (ls.length = 0) = true := decide_eq_true h0
     clear h200 h6 h0 K4
     generalize ls.length = LN at *
     have hlv := HLV.out _ (HT.out.below B4)
     go_wp2_with fail
     refine hlv.mono ?_
     rintro e wL ⟨rfl, bL⟩
     have BL := B4.trans (bL.mono B4.size)
     clear hlv
     go_wp2_with fail
     go_ret
     exact ⟨rfl, BL⟩
    ·have D3 : ((ls.length : Int) == 0) = false := by simpa using h0
     have D3' : decide (ls.length = 0) = false := decide_eq_false h0
     have hbg := HBG.out _ (HT.out.below B4)
     have r0 := K4.cell 0
     have r1 := K4.cell 1
     have r2 := K4.cell 2
     have r3 := K4.cell 3
     have KK4 : Hid (∀ W, Below w4.heap.size w4 W → W.cell? ⟨w.heap.size, 0, none⟩ = some (.int .i64 c.log) ∧ W.cell? ⟨w.heap.size, 1, none⟩ = some (.int .i64 c.files) ∧ W.cell? ⟨w.heap.size, 2, none⟩ = some (.int .i64 c.slots) ∧ W.cell? ⟨w.heap.size, 3, none⟩ = some (.int .i64 c.data)) := fun W b => ⟨(K4.below b K4.lt).cell 0, (K4.below b K4.lt).cell 1, (K4.below b K4.lt).cell 2, (K4.below b K4.lt).cell 3⟩
     have HB4 := Lib.hid B4
     clear h200 h6 K4 B4
     go_wp2_with fail
     refine hbg.mono ?_
     rintro e w5 ⟨a, rfl, hst, hha, b5⟩
     have HHA := Lib.hid hha
     have HS5 := Lib.hid hst
     have HB5 := Lib.hid b5
     have HPA : Hid (∀ x, a.p.has x → w4.heap.size ≤ x) := fun x h => HHA.out x (Or.inl h)
     have HPT : Hid (¬ a.p.has 1) := fun h => hst.sn.pt (Or.inl h)
     have HOF : Hid (∀ x, x < w.heap.size → ¬ a.has x) := fun x hx h => by have := hha x h; have := HB4.out.size; omega
     have hnu := HNU.out
     clear hbg hst hha b5 r0 r1 r2 r3 D D2 D2' D3 D3'
     go_wp2_with fail
     go_loopw [10, 11] (fun wv iv wr => ∃ (k : Nat) (fl : List Fe) (s : Dk), k + 1 ≤ ls.length ∧ iv = .int .i64 (k : Int) ∧ ST wr a c (nodesF fl) s false ∧ Rest c fl s ∧ s.fuse = -1 ∧ FS wr (fun b => ¬ a.has b) wv (filesF fl) ∧ Below w4.heap.size w4 wr) (fun _ iv _ => ls.length - (intOf iv).toNat)
     case atStart => exact ⟨0, [], blank c.cn.size, by omega, rfl, HS5.out, rest_blank HM.out, rfl, FS.nil _ _, HB5.out⟩
     case round =>
      obtain ⟨k, fl, s, hk, rfl, hst, hr, hf, hfs, bl⟩ := hrel
      have blw : Below w.heap.size w wr := HB4.out.trans (bl.mono HB4.out.size)
      obtain ⟨b, o, rfl, sb, hbl, hx⟩ := HV.out.at_ (by omega)
      have hltI : (k : Int) < (ls.length : Int) := by omega
      obtain ⟨l, hl⟩ : ∃ l, ls[k]? = some l := ⟨_, List.getElem?_eq_getElem (by omega)⟩
      obtain ⟨X, z, j0, hl0⟩ := hx k l hl
      have hok := light_at HL.out hl
      have hlw := hl0.below' blw
      have q0 := (World.cell?_of_block (w := w) (blw.block b hbl)).trans j0
      have HDO := Lib.hid (fun W (b : Below wr.heap.size wr W) => sdo_rest (hst.below b) hr hf _ _ l (hlw.below' b) HOF.out (by have := hok.1; omega))
      have HRD := Lib.hid (fun W v (g : FS W (fun b => ¬ a.has b) v (filesF fl)) (g2 : FS W (fun b => b < w.heap.size) (.slice X l.length z) l) => rdo_any _ _ v _ (filesF fl) l W g g2 (by rw [files_len]; have := fine_few hr HM.out; omega) (by have := hok.1; omega) fun f hf => by have := (hok.2 f hf).2; omega)
      have HWF := Lib.hid (will_files (c := c) (fl := fl) l)
      have HRI := Lib.hid (fun W v (g : FS W (fun b => ¬ a.has b) v (filesF fl)) (g2 : FS W (fun b => b < w.heap.size) (.slice X l.length z) l) => right_try HM.out hr.fine l ▸ rright13_any c HM.out _ _ _ _ (filesF fl) l W g g2 (by rw [files_len]; have := fine_few hr HM.out; omega) (by have := hok.1; omega) (fun f hf => by have := fine_small hr f hf; omega) (fun f hf => by have := (hok.2 f hf).2; omega))
      have HLEN : Hid (l.length ≤ 1000000) := by show _ ≤ _; have := hok.1; omega
      have HFS := Lib.hid hfs
      have HLW := Lib.hid hlw
      have HBL := Lib.hid bl
      have HQ0 : Hid (∀ W, Below wr.heap.size wr W → W.cell? ⟨b, o + k, none⟩ = some (.slice X l.length z)) := fun W bb => (World.cell?_of_block (w := wr) (bb.block b (by have := blw.size; omega))).trans q0
      have HST := Lib.hid hst
      have HR := Lib.hid hr
      have HF := Lib.hid hf
      have HBB := Lib.hid hbl
      clear hx hl0 hl hok hst hr hf hfs bl hlw j0 blw sb hbl
      obtain ⟨E, hE⟩ : ∃ E, E = tryN c (nodesF fl) false l := ⟨_, rfl⟩
      rw [← hE] at HRI HDO HWF
      have DE : (E != E) = false := by simp
      clear hE
      by_cases hlt : k + 1 < ls.length
      ·have D1 : decide ((k : Int) + 1 < (ls.length : Int)) = true := decide_eq_true (by omega)
       have D1I : (k : Int) + 1 < (ls.length : Int) := by omega
       have BD : Below wr.heap.size wr wr.drew := Below_drawn (Below.refl _ _) 1
       have hri := HRI.out wr.drew _ (HFS.out.drewN 1) (HLW.out.drewN 1)
       unfold cfgV at hri
       clear q0
       go_wp2_with fail
       rename_i KK hKK
       have HKK := Lib.hid hKK
       clear hKK
       refine wp_region_held_drew (S := (fun W => (W.cell? ⟨w.heap.size, 0, none⟩ = some (.int .i64 c.log) ∧ W.cell? ⟨w.heap.size, 1, none⟩ = some (.int .i64 c.files) ∧ W.cell? ⟨w.heap.size, 2, none⟩ = some (.int .i64 c.slots) ∧ W.cell? ⟨w.heap.size, 3, none⟩ = some (.int .i64 c.data)) ∧ W.cell? ⟨b, o + k, none⟩ = some (.slice X l.length z))) (by kernel_rfl) ⟨KK4.out _ (HBL.out.trans (BD.mono HBL.out.size)), HQ0.out _ BD⟩ (fun hHeld => ?_)
       refine hyY (some 58) 0 rfl hHeld ?_; go_frame
       refine hyY (some 59) 1 rfl hHeld ?_; go_frame
       refine hyY (some 60) 2 rfl hHeld ?_; go_frame
       refine hyY (some 61) 3 rfl hHeld ?_; go_frame
       refine hyY (some 62) 4 rfl hHeld ?_; go_frame
       refine hyY (some 63) 5 rfl hHeld ?_; go_frame
       refine hyO (some 64) 6 rfl (fun K hK => ?_)
       go_simp
       go_at_call 16
       refine hri.mono ?_
       rintro e w6 ⟨rfl, b6'⟩
       have b6 := BD.trans (b6'.mono BD.size)
       go_wp2_with fail
       refine hK.out _ _ ?_ (fun hH2 => ?_)
       ·first | exact hHeld | exact ⟨KK4.out _ (HBL.out.trans (b6.mono HBL.out.size)), HQ0.out _ b6⟩
       clear hHeld hK K; have hHeld := hH2; clear hH2; try go_frame
       refine hyY (some 12) 7 rfl hHeld ?_; go_frame
       refine wpAnyH_done (by kernel_rfl) ?_ _
       have hKK := HKK.out
       have hdo := HDO.out _ b6
       have q0 := HQ0.out _ b6
       clear hri b6' hHeld
       go_wp2_with fail
       refine hdo.mono ?_
       rintro e w8 ⟨rfl, ⟨s8, hst8, hr8, hf8⟩, k8⟩
       have hfs8 := (HFS.out.below' b6).beside k8
       have B8 : Below w4.heap.size w4 w8 := k8.elder (HBL.out.trans (b6.mono HBL.out.size)) HHA.out (HBL.out.trans (b6.mono HBL.out.size)).size
       have hlw8 : FS w8 (fun b => b < w.heap.size) (.slice X l.length z) l := (HLW.out.below' b6).keep k8.size fun x hx hlt => k8.block x ⟨hlt, HOF.out x hx⟩
       have q8 : w8.cell? ⟨b, o + k, none⟩ = some (.slice X l.length z) := (World.cell?_of_block (w := w6) (k8.block b ⟨by have := HBB.out; have := HB4.out.size; have := (HBL.out.trans (b6.mono HBL.out.size)).size; omega, HOF.out b HBB.out⟩)).trans q0
       have HR8 := Lib.hid hr8
       have HF8 := Lib.hid hf8
       clear hdo b6 BD q0 k8 hr8 hf8
       by_cases hE0 : E = 0
       ·have DE0 : (E == 0) = true := by rw [hE0]; rfl
        rw [if_pos hE0] at HWF
        have hrd := HRD.out w8 _ hfs8 hlw8
        clear hE0
        go_wp2_with (go_at_call 9; refine (hnu _ _).mono ?_; rintro e w' ⟨rfl, rfl⟩)
        refine hrd.mono ?_
        rintro e wx ⟨v9, rfl, hfx, bx⟩
        rw [← HWF.out] at hfx
        have HSX := Lib.hid (hst8.below bx)
        have HBX := Lib.hid (B8.trans (bx.mono B8.size))
        have HFZ : Hid (FS wx (fun b => ¬ a.has b) v9 (filesF (willF c fl l))) := hfx.mono fun x hx => by
         rcases hx with ⟨h, _⟩ | ⟨h, _⟩
         ·exact h
         ·exact fun hh => by have := hst8.lt x hh; omega
        clear hst8 hfs8 hlw8 B8 hrd q8 bx hfx
        go_wp2_with fail
        go_roundw
        case rel => exact ⟨k + 1, willF c fl l, s8, by omega, by go_num, HSX.out, HR8.out, HF8.out, HFZ.out, HBX.out⟩
        case measure => simp [intOf]; omega
       ·have DE0 : (E == 0) = false := by simpa using hE0
        rw [if_neg hE0] at HWF
        rw [← HWF.out] at hfs8
        have HSX := Lib.hid hst8
        have HBX := Lib.hid B8
        have HFZ := Lib.hid hfs8
        clear hE0 hlw8 q8 hst8 hfs8 B8
        go_wp2_with (go_at_call 9; refine (hnu _ _).mono ?_; rintro e w' ⟨rfl, rfl⟩)
        go_roundw
        case rel => exact ⟨k + 1, willF c fl l, s8, by omega, by go_num, HSX.out, HR8.out, HF8.out, HFZ.out, HBX.out⟩
        case measure => simp [intOf]; omega
      ·have D1 : decide ((k : Int) + 1 < (ls.length : Int)) = false := decide_eq_false (by omega)
       have hke : (ls.length : Int) = (k : Int) + 1 := by omega
       have ewl : IntKind.i64.wrap ((ls.length : Int) - 1) = (k : Int) := by rw [IntKind.wrap_i64]; omega
       have ewl' : IntKind.i64.wrap ((k : Int) + 1 - 1) = (k : Int) := by rw [IntKind.wrap_i64]; omega
       obtain ⟨r0, r1, r2, r3⟩ := KK4.out _ HBL.out
       have hri := HRI.out wr _ HFS.out HLW.out
       unfold cfgV at hri
       clear hlt hke
       go_wp2_with fail
       refine hri.mono ?_
       rintro e w6 ⟨rfl, b6⟩
       clear hri r0 r1 r2 r3 q0 ewl ewl' D1
       obtain ⟨eb, heb⟩ : ∃ eb, eb = (E == 0) := ⟨_, rfl⟩
       have DEB : (E == 0) = eb := heb.symm
       have HEB : Hid (eb = true ↔ E = 0) := by show _ ↔ _; rw [heb]; exact beq_iff_eq
       clear heb
       go_upto_if 93 with fail
       go_cut [14] from 94 to 96 (fun v wc => FS wc (fun b => ¬ a.has b) v (filesF (willF c fl l)) ∧ Below wr.heap.size wr wc)
       case first =>
        cases eb with
        | true =>
         have hE0 := HEB.out.1 rfl
         rw [if_pos hE0] at HWF
         have hrd := HRD.out w6 _ (HFS.out.below' b6) (HLW.out.below' b6)
         clear hE0 DEB
         go_wp2_with fail
         refine hrd.mono ?_
         rintro e wx ⟨v9, rfl, hfx, bx⟩
         rw [← HWF.out] at hfx
         have HFZ : Hid (FS wx (fun b => ¬ a.has b) v9 (filesF (willF c fl l))) := hfx.mono fun x hx => by
          rcases hx with ⟨h, _⟩ | ⟨h, _⟩
          ·exact h
          ·exact fun hh => by have := (HST.out.below b6).lt x hh; omega
         have HBX := Lib.hid (b6.trans (bx.mono b6.size))
         clear hrd bx hfx
         go_wp2_with fail
         go_meet
         exact ⟨HFZ.out, HBX.out⟩
        | false =>
         have hE0 : ¬ E = 0 := fun h => by have := HEB.out.2 h; cases this
         rw [if_neg hE0] at HWF
         have hfz := HFS.out.below' b6
         rw [← HWF.out] at hfz
         have HFZ := Lib.hid hfz
         clear hE0 hfz DEB
         go_wp2_with fail
         go_meet
         exact ⟨HFZ.out, b6⟩
       case rest =>
        obtain ⟨hfw, bc⟩ := hcut
        obtain ⟨w7, rfl⟩ : ∃ w7, w7 = wc := ⟨_, rfl⟩
        have HFW := Lib.hid hfw
        have HBC := Lib.hid bc
        clear hfw bc b6 DEB HEB
        go_upto_region 19 with fail
        go_cut [106] from 97 to 106 (fun v wc => ∃ b : Bool, v = .bool b ∧ wc = w7 ∧ (b = true → 0 < xs.length ∧ ∃ b0 o x, A2 = some ⟨b0, o, none⟩ ∧ w7.cell? ⟨b0, o, none⟩ = some (.int .i64 x) ∧ I64 x ∧ 0 < x))
        case first =>
         by_cases h0 : 0 < xs.length
         ·have h1 : decide ((0 : Int) < (xs.length : Int)) = true := decide_eq_true (by omega)
          have h2 : (0 : Int) < (xs.length : Int) := by omega
          obtain ⟨b0, o0, rfl, hbl, hx⟩ := HU.out.at_ h0
          obtain ⟨x0, i0, _⟩ := hx 0 _ (List.getElem?_eq_getElem h0)
          have c0' : w7.cell? ⟨b0, o0, none⟩ = some (.int .i64 xs[0].1) := by
           rw [Nat.zero_mul, Nat.add_zero] at x0
           exact (World.cell?_of_block (w := w) ((HB4.out.trans ((HBL.out.trans (HBC.out.mono HBL.out.size)).mono HB4.out.size)).block b0 hbl)).trans x0
          clear hx x0
          generalize xs[0].1 = x at *
          go_wp2_with fail
          go_meet
          exact ⟨_, rfl, rfl, fun hb => ⟨h0, _, _, _, rfl, c0', i0, by simpa using hb⟩⟩
         ·have h1 : decide ((0 : Int) < (xs.length : Int)) = false := decide_eq_false (by omega)
          go_wp2_with fail
          go_meet
          exact ⟨_, rfl, rfl, fun hb => by cases hb⟩
        case rest =>
         obtain ⟨bf, rfl, hwc, hf⟩ := hcut
         obtain rfl : w7 = wc := hwc.symm
         clear hwc
         go_upto_if 106 with fail
         go_cut [] from 107 to 112 (fun wc => ∃ s2, ST wc a c (nodesF fl) s2 false ∧ Rest c fl s2 ∧ KeepP (Off a.p w7) w7 wc)
         case first =>
          cases bf with
          | true =>
           obtain ⟨h0, b0, o0, x, rfl, c0', i0, hx⟩ := hf rfl
           have h2 : (0 : Int) < (xs.length : Int) := by omega
           have hfu := fuse_any (HST.out.below HBC.out).ds x i0
           go_wp2_with fail
           refine hfu.mono ?_
           rintro e w11 ⟨rfl, d11, g11⟩
           clear hfu
           go_wp2_with fail
           go_meet
           exact ⟨{ s with fuse := x }, (HST.out.below HBC.out).again d11 (keep_fuse13 g11) rfl, HR.out.fuse x, keep_fuse13 g11⟩
          | false =>
           go_wp2_with fail
           go_meet
           exact ⟨s, HST.out.below HBC.out, HR.out, KeepP.refl _ _⟩
         case rest =>
          obtain ⟨s2, hst2, hr2, k2⟩ := hcut
          obtain ⟨w11, rfl⟩ : ∃ w11, w11 = wc := ⟨_, rfl⟩
          have hl11 : FS w11 (fun b => b < w.heap.size) (.slice X l.length z) l := (HLW.out.below' HBC.out).keep k2.size fun x hx hlt => k2.block x ⟨hlt, fun h => HOF.out x hx (Or.inl h)⟩
          have hdo := sdo_any hst2 hr2.fine _ _ l hl11 HOF.out HLEN.out
          obtain ⟨P, haft⟩ := doF_left HM.out hr2 l
          have HAF := Lib.hid haft
          have hwa := ((HFS.out.below' HBC.out).keep k2.size fun x hx hlt => k2.block x ⟨hlt, fun h => hx (Or.inl h)⟩)
          have hwi := (HFW.out.keep k2.size fun x hx hlt => k2.block x ⟨hlt, fun h => hx (Or.inl h)⟩)
          have HWA := Lib.hid hwa
          have HWI := Lib.hid hwi
          have HB11 := Lib.hid (k2.elderP (HBL.out.trans (HBC.out.mono HBL.out.size)) HPA.out (HBL.out.trans (HBC.out.mono HBL.out.size)).size)
          unfold DoAs at hdo
          clear haft hwa hwi hl11 hst2 hr2 k2 hf
          generalize hfl' : willF c fl l = fl' at *
          generalize (doF c fl false l s2).2.2 = flx at *
          generalize (doF c fl false l s2).2.1 = E2 at *
          generalize (doF c fl false l s2).1 = s3 at *
          clear hfl'
          have DD : (E2 == 0) = decide (E2 = 0) := rfl
          generalize decide (E2 = 0) = dn at *
          go_wp2_with fail
          refine hdo.mono ?_
          rintro e w12 ⟨rfl, ⟨br, hst12, _⟩, k12⟩
          have K12 : AtC w4 a u10 u14 fl fl' w12 s3 := ⟨hst12.ds, HWA.out.beside k12, HWI.out.beside k12, k12.elder HB11.out HHA.out HB11.out.size⟩
          have HK12 := Lib.hid K12
          clear hdo hst12 k12 K12
          go_wp2_with (go_at_call 9; refine (hnu _ _).mono ?_; rintro e w' ⟨rfl, rfl⟩)
          go_loopw [16] (fun iv wr => ∃ (k : Nat) (s : Dk), k ≤ xs.length ∧ iv = .int .i64 (k : Int) ∧ Aft c fl fl' P dn s ∧ AtC w4 a u10 u14 fl fl' wr s) (fun iv _ => xs.length - (intOf iv).toNat)
          case atStart => exact ⟨0, s3, Nat.zero_le _, rfl, HAF.out, HK12.out⟩
          case round =>
           obtain ⟨k, s, hkl, rfl, hLs, K⟩ := hrel
           have BKW := HB4.out.trans (K.bl.mono HB4.out.size)
           by_cases hlt : k < xs.length
           ·obtain ⟨b0, o0, rfl, hbl, hx⟩ := HU.out.at_ (by omega)
            have hcb : ∀ a, wr.cell? ⟨b0, a, none⟩ = w.cell? ⟨b0, a, none⟩ := fun a => World.cell?_of_block (w := w) (BKW.block b0 hbl)
            obtain ⟨_, _, Kk, m, z, x1, xk⟩ := hx k _ (List.getElem?_eq_getElem hlt)
            rw [← hcb] at x1
            have cs := xk.below' BKW
            have hltI2 : (k : Int) < (xs.length : Int) := by omega
            generalize xs[k].2 = ks at *
            have hcr := crash_any K.ds _ _ ks cs fun b sb hb => HOF.out b sb (Or.inl hb)
            have HX := Lib.hid hx
            have HC := Lib.hid hcb
            have hlen : ((s.crashed ks).safe.length : Int) = c.sum := by rw [crashed_lenW, hLs.len]; exact sum_cn HM.out
            have HLN := Lib.hid hlen
            clear xk cs hx hcb hlen
            by_cases h1 : k + 1 < xs.length
            ·have D1 : decide ((k : Int) + 1 < (xs.length : Int)) = true := decide_eq_true (by omega)
             have D2 : (k : Int) + 1 < (xs.length : Int) := by omega
             obtain ⟨x0, i0, _⟩ := HX.out (k + 1) _ (List.getElem?_eq_getElem h1)
             rw [← HC.out] at x0
             generalize xs[k + 1].1 = x at *
             go_wp2_with fail
             refine hcr.mono ?_
             rintro e w13 ⟨rfl, d13, k13⟩
             have K13 := K.disk HPA.out k13 d13
             have x13 : w13.cell? ⟨b0, o0 + (k + 1) * 2, none⟩ = some (.int .i64 x) := (World.cell?_of_block (w := wr) (k13.block b0 ⟨by have := BKW.size; omega, fun h => HOF.out b0 hbl (Or.inl h)⟩)).trans x0
             clear hcr d13 k13 K x0 x1
             by_cases hx0 : 0 < x
             ·have hd0 : decide (0 < x) = true := decide_eq_true hx0
              have hfu := fuse_any K13.ds x i0
              clear hx0
              go_wp2_with fail
              refine hfu.mono ?_
              rintro e w14 ⟨rfl, d14, g14⟩
              have K14 := K13.disk HPA.out (keep_fuse13 g14) d14
              have hop := sopen_any K14.ds c HM.out HLN.out (HT.out.below (HB4.out.trans (K14.bl.mono HB4.out.size))) HPT.out
              obtain ⟨r0, r1, r2, r3⟩ := KK4.out _ K14.bl
              have hL15 := hLs.open_ ks x
              unfold cfgV at hop
              clear hfu d14 g14 K13 x13 hLs
              go_wp2_with fail
              refine hop.mono ?_
              rintro e w15 ho
              obtain ⟨v15, rfl⟩ := ho.back
              have K15 := K14.disk HPA.out ho.keep ho.ds
              clear hop ho K14
              go_wp2_with fail
              go_roundw
              case rel => exact ⟨k + 1, _, by omega, by go_num, hL15, K15⟩
              case measure => simp [intOf]; omega
             ·have hd0 : decide (0 < x) = false := decide_eq_false hx0
              have hop := sopen_any K13.ds c HM.out HLN.out (HT.out.below (HB4.out.trans (K13.bl.mono HB4.out.size))) HPT.out
              obtain ⟨r0, r1, r2, r3⟩ := KK4.out _ K13.bl
              have hL15 := hLs.open_ ks (-1)
              unfold cfgV at hop
              clear hx0 hLs
              go_wp2_with fail
              refine hop.mono ?_
              rintro e w15 ho
              obtain ⟨v15, rfl⟩ := ho.back
              have K15 := K13.disk HPA.out ho.keep ho.ds
              clear hop ho K13
              go_wp2_with fail
              go_roundw
              case rel => exact ⟨k + 1, _, by omega, by go_num, hL15, K15⟩
              case measure => simp [intOf]; omega
            ·have D1 : decide ((k : Int) + 1 < (xs.length : Int)) = false := decide_eq_false (by omega)
             go_wp2_with fail
             refine hcr.mono ?_
             rintro e w13 ⟨rfl, d13, k13⟩
             have K13 := K.disk HPA.out k13 d13
             have hop := sopen_any K13.ds c HM.out HLN.out (HT.out.below (HB4.out.trans (K13.bl.mono HB4.out.size))) HPT.out
             obtain ⟨r0, r1, r2, r3⟩ := KK4.out _ K13.bl
             have hL15 := hLs.open_ ks (-1)
             unfold cfgV at hop
             clear hcr d13 k13 K x1 hLs
             go_wp2_with fail
             refine hop.mono ?_
             rintro e w15 ho
             obtain ⟨v15, rfl⟩ := ho.back
             have K15 := K13.disk HPA.out ho.keep ho.ds
             clear hop ho K13
             go_wp2_with fail
             go_roundw
             case rel => exact ⟨k + 1, _, by omega, by go_num, hL15, K15⟩
             case measure => simp [intOf]; omega
           ·obtain rfl : k = xs.length := by omega
            have hcr := crash_any K.ds (fun _ => False) (.slice none 0 0) [] (CS.nil _ _) (fun _ h => h.elim)
            have hlen : ((s.crashed []).safe.length : Int) = c.sum := by rw [crashed_lenW, hLs.len]; exact sum_cn HM.out
            obtain ⟨e0, f0, hres⟩ := hLs.last []
            have HFT := Lib.hid hLs.then_
            clear hLs
            go_wp2_with fail
            refine hcr.mono ?_
            rintro e w13 ⟨rfl, d13, k13⟩
            have K13 := K.disk HPA.out k13 d13
            have hop := sopen_any K13.ds c HM.out hlen (HT.out.below (HB4.out.trans (K13.bl.mono HB4.out.size))) HPT.out
            obtain ⟨r0, r1, r2, r3⟩ := KK4.out _ K13.bl
            unfold cfgV at hop
            clear hcr d13 k13 K hlen
            go_wp2_with fail
            refine hop.mono ?_
            rintro e w14 ho
            have K14 := K13.disk HPA.out ho.keep ho.ds
            have HB3 := Lib.hid K14.bl
            have HWA := Lib.hid K14.was
            have HWI := Lib.hid K14.will
            have HF3 := Lib.hid f0
            clear hop K13 r0 r1 r2 r3 K14
            rcases hres with hr3 | ⟨hdn, hr3⟩
            ·obtain ⟨a3, ha3, rfl, hst3, _⟩ := ho.rest HM.out e0 (by rw [f0]; decide) hr3
             have hlk := like_any hst3 hr3 (by rw [f0]; decide) _ _ HWI.out
             obtain ⟨r0, r1, r2, r3⟩ := KK4.out _ HB3.out
             have HS3 := Lib.hid hst3
             have HRW := Lib.hid hr3
             have HA3 := Lib.hid ha3
             unfold cfgV at hlk
             clear ho e0 f0 hst3 hr3 ha3
             go_wp2_with (go_at_call 9; refine (hnu _ _).mono ?_; rintro e w' ⟨rfl, rfl⟩)
             refine hlk.mono ?_
             rintro e wX ⟨rfl, bX⟩
             have hcl := clean_any (HS3.out.below bX).ds HM.out HRW.out _ _ (HWI.out.below' bX)
             clear hlk r0 r1 r2 r3
             obtain ⟨r0, r1, r2, r3⟩ := KK4.out _ (HB3.out.trans (bX.mono HB3.out.size))
             rw [HA3.out] at hcl
             unfold cfgV at hcl
             go_wp2_with fail
             refine hcl.mono ?_
             rintro e wZ ⟨rfl, bZ'⟩
             have bZ := bX.trans (bZ'.mono bX.size)
             have BZ := HB4.out.trans ((HB3.out.trans (bZ.mono HB3.out.size)).mono HB4.out.size)
             clear hcl r0 r1 r2 r3
             have hlv := HLV.out _ (HT.out.below BZ)
             go_wp2_with fail
             refine hlv.mono ?_
             rintro e wL ⟨rfl, bL⟩
             have BL := BZ.trans (bL.mono BZ.size)
             clear hlv
             go_wp2_with fail
             go_ret
             exact ⟨rfl, BL⟩
            ·subst hdn
             obtain ⟨a3, ha3, rfl, hst3, _⟩ := ho.rest HM.out e0 (by rw [f0]; decide) hr3
             have hlk := like_some hst3 hr3 (by rw [f0]; decide) _ _ _ (few_of HFT.out HM.out) (small_of HFT.out) HWI.out
             obtain ⟨r0, r1, r2, r3⟩ := KK4.out _ HB3.out
             have HS3 := Lib.hid hst3
             have HRW := Lib.hid hr3
             have HA3 := Lib.hid ha3
             unfold cfgV at hlk
             clear ho e0 f0 hst3 hr3 ha3
             go_wp2_with (go_at_call 9; refine (hnu _ _).mono ?_; rintro e w' ⟨rfl, rfl⟩)
             refine hlk.mono ?_
             rintro e wX ⟨bo, rfl, _, bX⟩
             clear hlk r0 r1 r2 r3
             cases bo with
             | false =>
              have hkW := like_any (HS3.out.below bX) HRW.out (by rw [HF3.out]; decide) _ _ (HWA.out.below' bX)
              obtain ⟨r0, r1, r2, r3⟩ := KK4.out _ (HB3.out.trans (bX.mono HB3.out.size))
              unfold cfgV at hkW
              go_wp2_with fail
              refine hkW.mono ?_
              rintro e wY ⟨rfl, bY'⟩
              have bY := bX.trans (bY'.mono bX.size)
              have hcW := clean_any (HS3.out.below bY).ds HM.out HRW.out _ _ (HWA.out.below' bY)
              clear hkW r0 r1 r2 r3
              obtain ⟨r0, r1, r2, r3⟩ := KK4.out _ (HB3.out.trans (bY.mono HB3.out.size))
              rw [HA3.out] at hcW
              unfold cfgV at hcW
              go_wp2_with fail
              refine hcW.mono ?_
              rintro e wZ ⟨rfl, bZ'⟩
              have bZ := bY.trans (bZ'.mono bY.size)
              have BZ := HB4.out.trans ((HB3.out.trans (bZ.mono HB3.out.size)).mono HB4.out.size)
              clear hcW r0 r1 r2 r3
              have hlv := HLV.out _ (HT.out.below BZ)
              go_wp2_with fail
              refine hlv.mono ?_
              rintro e wL ⟨rfl, bL⟩
              have BL := BZ.trans (bL.mono BZ.size)
              clear hlv
              go_wp2_with fail
              go_ret
              exact ⟨rfl, BL⟩
             | true =>
              have hcl := clean_is (HS3.out.below bX).ds HM.out HRW.out _ _ _ (few_of HFT.out HM.out) (small_of HFT.out) (HWI.out.below' bX)
              obtain ⟨r0, r1, r2, r3⟩ := KK4.out _ (HB3.out.trans (bX.mono HB3.out.size))
              rw [HA3.out] at hcl
              unfold cfgV at hcl
              generalize decide (someK c.cn _ c.cn.data ≤ pagesL _) = bp at hcl
              go_wp2_with fail
              refine hcl.mono ?_
              rintro e wQ ⟨rfl, bQ'⟩
              have bQ := bX.trans (bQ'.mono bX.size)
              clear hcl r0 r1 r2 r3
              cases bp with
              | false =>
               have hkW := like_any (HS3.out.below bQ) HRW.out (by rw [HF3.out]; decide) _ _ (HWA.out.below' bQ)
               obtain ⟨r0, r1, r2, r3⟩ := KK4.out _ (HB3.out.trans (bQ.mono HB3.out.size))
               unfold cfgV at hkW
               go_wp2_with fail
               refine hkW.mono ?_
               rintro e wY ⟨rfl, bY'⟩
               have bY := bQ.trans (bY'.mono bQ.size)
               have hcW := clean_any (HS3.out.below bY).ds HM.out HRW.out _ _ (HWA.out.below' bY)
               clear hkW r0 r1 r2 r3
               obtain ⟨r0, r1, r2, r3⟩ := KK4.out _ (HB3.out.trans (bY.mono HB3.out.size))
               rw [HA3.out] at hcW
               unfold cfgV at hcW
               go_wp2_with fail
               refine hcW.mono ?_
               rintro e wZ ⟨rfl, bZ'⟩
               have bZ := bY.trans (bZ'.mono bY.size)
               have BZ := HB4.out.trans ((HB3.out.trans (bZ.mono HB3.out.size)).mono HB4.out.size)
               clear hcW r0 r1 r2 r3
               have hlv := HLV.out _ (HT.out.below BZ)
               go_wp2_with fail
               refine hlv.mono ?_
               rintro e wL ⟨rfl, bL⟩
               have BL := BZ.trans (bL.mono BZ.size)
               clear hlv
               go_wp2_with fail
               go_ret
               exact ⟨rfl, BL⟩
              | true =>
               have BZ := HB4.out.trans ((HB3.out.trans (bQ.mono HB3.out.size)).mono HB4.out.size)
               have hlv := HLV.out _ (HT.out.below BZ)
               go_wp2_with fail
               refine hlv.mono ?_
               rintro e wL ⟨rfl, bL⟩
               have BL := BZ.trans (bL.mono BZ.size)
               clear hlv
               go_wp2_with fail
               go_ret
               exact ⟨rfl, BL⟩
theorem store_crash (c : CI) (v u : Value) (ls : List (List Fi)) (xs : List Crs) (w : World) (ht : Tab w) (hv : FSS w (fun b => b < w.heap.size) v ls) (hu : CrS w u xs) : Calls Tryz.prog 4 #[cfgV c, v, u] w (Yes13 w) := by
 by_cases hm : c.may
 ·exact crash_go c hm v u ls xs w ht hv hu
 ·exact crash_no c hm v u w ht
end
section
open Go.RowKit Go.ChangeShapes Go.WideShapes Go.Joins
theorem storeCrash_law {H : Type} (enc : TypeId × Value → H) (W : World) (base : Nat) (ht : Tab W)
    (v0 : Value) (d0 : DataW H) (p0 : List MemPlace) (v1 : Value) (d1 : DataW H) (p1 : List MemPlace) (v2 : Value) (d2 : DataW H) (p2 : List MemPlace)
    (k0 : Value.okWide Tryz.prog W .any base 23 v0) (k1 : Value.okWide Tryz.prog W .any base 24 v1) (k2 : Value.okWide Tryz.prog W .any base 47 v2)
    (h0 : DataW.Trod enc Tryz.prog W 0 (fun _ => true) true 23 v0 d0 p0) (h1 : DataW.Trod enc Tryz.prog W 0 (fun _ => true) true 24 v1 d1 p1) (h2 : DataW.Trod enc Tryz.prog W 0 (fun _ => true) true 47 v2 d2 p2) :
    Calls Tryz.prog 4 #[v0, v1, v2] W fun e W' => e = .returned (.bool true) ∧ Below W.heap.size W W' := by
  obtain ⟨c, rfl⟩ := open_cfg13 k0 h0
  obtain ⟨ls, hv⟩ := open_lists k1 h1
  obtain ⟨xs, hu⟩ := open_crashes k2 h2
  exact store_crash c v1 v2 ls xs W ht hv hu
end
end Go.Proofs.YteddmnoeljakpaaGreatDoor
section
namespace Go.Proofs.YteddmnoeljakpaaGreatDoor.storeCrash
open Go.ChangeShapes Go.WideShapes Go.ChangeAt Go.RowKit
theorem own : ownKnob Tryz.prog.godebug = none := by kernel_rfl
theorem laidOut : laidOutB Tryz.prog = true := by kernel_rfl
theorem door_met (os : Os) (args : Array Value) : laidMetH Tryz.prog Rows.storeCrashRow.laid ((World.doorLaid Tryz.prog 400 os).forCall (fun _ _ => 0) ⟨#[], args, []⟩).memory :=
  laidMetH_of_parts3 (fuel := 8) (laidMet_of_run' 8 (by kernel_rfl) (by kernel_rfl)) (by kernel_rfl) (by kernel_rfl)
set_option maxRecDepth 100000 in
theorem lifted (os : Os) (started : os.Started) (H : Type) (enc : TypeId × Value → H) :
    ReturnsInHanded {} Tryz.checked os 4 .any (fun w args => (Rows.storeCrashSpec.pre enc Tryz.prog Tryz.f4 [] false w args ∧ laidMetH Tryz.prog Rows.storeCrashRow.laid w) ∧ sizedMet enc Tryz.prog Tryz.f4 (OpenSpec.ofChange Rows.storeCrashSpec) false w args)
      (Rows.storeCrashSpec.post enc Tryz.prog Tryz.f4 false true false false) := by
  refine returnsInHanded_of_change_and (C := Tryz.checked) (X := fun w _ => laidMetH Tryz.prog Rows.storeCrashRow.laid w) (fun _ _ _ hh h => h.of_heap hh) own started (by kernel_rfl) Tryz.func4
    (ChangeSpec.witness_shaped (enc := enc) (C := Tryz.checked) (os := os) (X := fun w _ => laidMetH Tryz.prog Rows.storeCrashRow.laid w) false (World.doorLaid Tryz.prog 400 os) #[.agg #[.int .i64 0, .int .i64 0, .int .i64 0, .int .i64 0], .slice none 0 0, .slice none 0 0] 8 rfl (World.shaped_of_RefB (by kernel_rfl) (by kernel_rfl)) (by kernel_rfl) (by kernel_rfl) (by kernel_rfl) (door_met os _)) ?_
  intro W base args ds gs before hval0 hW _ _ hL _
  have hval : ∀ (j : Nat) t v, Tryz.f4.params[j]? = some t → args[j]? = some v → Value.okWide Tryz.prog W .any base t v := hval0
  have hW' := hW
  obtain ⟨p, q, hA0, hV, rfl, hfz, hnd⟩ := hW
  have hA : DataW.TrodAll enc Tryz.prog W 0 (fun _ => true) true Tryz.f4.params.toList args.toList ds p := hA0
  rw [Tryz.params4] at hA hval
  obtain ⟨v0, vs0, d0, ds0, p0, q0, hargs, rfl, rfl, h0, r0⟩ := trodAll_cons hA
  obtain ⟨v1, vs1, d1, ds1, p1, q1, rfl, rfl, rfl, h1, r1⟩ := trodAll_cons r0
  obtain ⟨v2, vs2, d2, ds2, p2, q2, rfl, rfl, rfl, h2, r2⟩ := trodAll_cons r1
  obtain ⟨rfl, rfl, rfl⟩ := trodAll_nil r2
  obtain rfl : args = #[v0, v1, v2] := by cases args; simp_all
  obtain ⟨rfl, rfl⟩ := trodVars_none hV
  have lt0 : ∀ x ∈ p0, x.block < W.heap.size := by obtain ⟨m, hm⟩ := h0; exact DataW.trod_lt m _ _ _ hm
  have lt1 : ∀ x ∈ p1, x.block < W.heap.size := by obtain ⟨m, hm⟩ := h1; exact DataW.trod_lt m _ _ _ hm
  have lt2 : ∀ x ∈ p2, x.block < W.heap.size := by obtain ⟨m, hm⟩ := h2; exact DataW.trod_lt m _ _ _ hm
  refine (storeCrash_law enc W base (tab_of_laid (by kernel_rfl) hL) v0 d0 p0 v1 d1 p1 v2 d2 p2 (hval 0 _ v0 rfl rfl) (hval 1 _ v1 rfl rfl) (hval 2 _ v2 rfl rfl) h0 h1 h2).mono fun e W' ⟨he, bel⟩ => ?_
  subst he
  exact ⟨_, rfl, _, _, _, [], _, [], hW', trodAll_mk1 (shut_bool Tryz.underlying4 _), (trodAll_cons_mk (Below.trod laidOut (by kernel_rfl) (of_decide_eq_true (by kernel_rfl)) h0 bel lt0) (trodAll_cons_mk (Below.trod laidOut (by kernel_rfl) (of_decide_eq_true (by kernel_rfl)) h1 bel lt1) (trodAll_cons_mk (Below.trod laidOut (by kernel_rfl) (of_decide_eq_true (by kernel_rfl)) h2 bel lt2) trodAll_mk0))), rfl, bel.frame _, fun h => by cases h⟩
theorem over : Rows.storeCrashRow.holds Tryz.pinned (OpenSpec.ofChange Rows.storeCrashSpec) :=
  OpenClaim.holds_of_wide 4 Tryz.f4 rfl rfl rfl rfl rfl rfl rfl ⟨rfl, rfl, rfl, rfl, rfl⟩ rfl rfl rfl rfl rfl (by kernel_rfl) Tryz.func4 (by kernel_rfl)
    (of_decide_eq_true (by kernel_rfl)) (by unfold Func.isWrapper; first | (rw [if_pos (by decide +kernel)]; kernel_rfl) | (rw [if_neg (by decide +kernel)]; exact ⟨rfl, rfl⟩))
    (fun os started H enc _ => lifted os started H enc)
theorem proved : Rows.StoreCrashSaid := over
theorem row_tie : Rows.storeCrashRow.laidByTextAt .later Tryz.pinned [.data] true := storeCrash_row_tie
theorem card : Rows.StoreCrashCardSaid :=
  Claim7.holds_tied_plain_at .later [] [.data] true Rows.storeCrashCard.stood.harness false
    over (fun _ h => by cases h) (by kernel_rfl) (fun _ h => by cases h) row_tie rfl ⟨rfl, rfl⟩ (by kernel_rfl) rfl
    (fun f fn hf hfn => by
      obtain rfl : f = 4 := Option.some.inj ((show Tryz.prog.funcNamed Rows.storeCrashRow.func = some 4 by kernel_rfl).symm.trans hf) |>.symm
      obtain rfl : fn = Tryz.f4 := (Option.some.inj (Tryz.func4.symm.trans hfn)).symm
      exact ⟨by kernel_rfl, fun j t ht => by
        rw [Tryz.params4] at ht
        have hm : t ∈ [23, 24, 47] := by simpa using Array.mem_of_getElem? ht
        have hall : ([23, 24, 47].all fun u => !Tryz.prog.wantsStandIn u) = true := by kernel_rfl
        exact (show Tryz.prog.wantsStandIn t = false by simpa using List.all_eq_true.1 hall t hm)⟩)
    (by kernel_rfl)
end Go.Proofs.YteddmnoeljakpaaGreatDoor.storeCrash
end
