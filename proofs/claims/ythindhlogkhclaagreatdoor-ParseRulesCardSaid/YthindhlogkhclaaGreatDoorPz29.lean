/-
  PbG: The document's conditions at every depth, and its rule (layer 18), over the loaded program: their contracts. No condition but what each names.
-/
import Derived.Test.YthindhlogkhclaaGreatDoorPz28
set_option linter.unusedVariables false
set_option maxRecDepth 100000
namespace Go.Proofs.YthindhlogkhclaaGreatDoor
section
open Go.RowKit
theorem condd_all (p : Nat) (n : Int) (L : List Tk) (hL : FineL L) : ∀ (D : Nat), D ≤ 8 → ∀ (d : Int), d = 9 - (D : Int) → ∀ (s : Ps) (w : World), Sd w p n L s → Calls Tryz.prog 43 #[.pointer (some ⟨p, 0, none⟩), .int .i64 d] w (GotD p n L (condP D) s w)
  | 0 => fun _ d hd s w h => condd_deep p n L 0 d (by omega) s w h
  | D + 1 => fun hD d hd s w h => by
    have ih := condd_all p n L hL D (by omega) (d + 1) (by omega)
    exact condd_any p n L hL.1 (termP (condP D)) (Way.cond D).term d (by omega)
      (fun s1 W1 h1 => termd_any p n L hL.1 (factP (condP D)) (Way.cond D).fact d (fun s2 W2 h2 => factd_any p n L hL (condP D) d (by omega) (by omega) (fun s3 W3 h3 => ih s3 W3 h3) s2 W2 h2) s1 W1 h1) s w h
def GotE (p : Nat) (n : Int) (L : List Tk) (s : Ps) (w : World) (e : Ending) (w' : World) : Prop :=
  ∃ (z0 : ByteArray) (i1 i2 : Int) (z3 : ByteArray) (X4 : Option Addr) (n4 z4 : Nat) (i5 : Int), e = .returned (.agg #[.string z0, .int .i64 i1, .int .i64 i2, .string z3, .slice X4 n4 z4, .int .i64 i5]) ∧
    RX w' (fun b => w.heap.size ≤ b) 17 (ruleP s).1 (.string z0) (.int .i64 i1) (.int .i64 i2) (.string z3) (.slice X4 n4 z4) (.int .i64 i5) ∧ Sd w' p n L (ruleP s).2 ∧ w.grownBy w' (some p)
theorem isd_some (p : Nat) (n : Int) (L : List Tk) (s : Ps) (k : Nat) (wd : List UInt8) (b : Bool) (hb : isP k wd s = b) (z : ByteArray) (hz : strV wd = .string z) :
    Hid (∀ W, Sd W p n L s → Calls Tryz.prog 41 #[.pointer (some ⟨p, 0, none⟩), .int .i64 (k : Int), .string z] W fun e w' => e = .returned (.bool b) ∧ ∃ m, w' = W.drewN m) := fun W h => by
  have := is18_any p n L s k wd W h
  rw [hb, hz] at this; exact this
set_option maxHeartbeats 32000000 in
theorem ruled_any (p : Nat) (n : Int) (L : List Tk) (hL : FineL L) (s : Ps) (w : World) (h : Sd w p n L s) : Calls Tryz.prog 19 #[.pointer (some ⟨p, 0, none⟩)] w (GotE p n L s w) := by
  have hp := h.lt
  obtain ⟨D, hD⟩ : ∃ D, D = GotE p n L s w := ⟨_, rfl⟩
  rw [← hD]
  have HD : Hid (∀ W z0 i1 i2 z3 X4 n4 z4 i5, RX W (fun b => w.heap.size ≤ b) 17 (ruleP s).1 (.string z0) (.int .i64 i1) (.int .i64 i2) (.string z3) (.slice X4 n4 z4) (.int .i64 i5) → Sd W p n L (ruleP s).2 → w.grownBy W (some p) →
      D (.returned (.agg #[.string z0, .int .i64 i1, .int .i64 i2, .string z3, .slice X4 n4 z4, .int .i64 i5])) W) := fun W z0 i1 i2 z3 X4 n4 z4 i5 h1 h2 h3 => by rw [hD]; exact ⟨z0, i1, i2, z3, X4, n4, z4, i5, rfl, h1, h2, h3⟩
  have hru : ruleP s = (⟨(ofP s).1, (condP 8 (nextP 1 keepP (ofP s).2).2).1, (actP (nextP 1 thenP (condP 8 (nextP 1 keepP (ofP s).2).2).2).2).1⟩, (nextP 6 [] (actP (nextP 1 thenP (condP 8 (nextP 1 keepP (ofP s).2).2).2).2).2).2) := rfl
  rw [hru] at HD
  dsimp only at HD
  clear hD hru
  have HFI : Hid (FineL s.rest) := h.fine hL
  have HV0 : Hid (∃ v0, v0 = (w.alloc (.cells #[.string ⟨#[]⟩, .int .i64 0, .int .i64 0, .string ⟨#[]⟩, .slice none 0 0, .int .i64 0] 44)).alloc (.cells #[.string ⟨#[]⟩, .int .i64 0, .int .i64 0, .string ⟨#[]⟩, .slice none 0 0, .int .i64 0] 44) ∧ KB v0 w.heap.size 44 #[.string ⟨#[]⟩, .int .i64 0, .int .i64 0, .string ⟨#[]⟩, .slice none 0 0, .int .i64 0] ∧ KB v0 (w.heap.size + 1) 44 #[.string ⟨#[]⟩, .int .i64 0, .int .i64 0, .string ⟨#[]⟩, .slice none 0 0, .int .i64 0] ∧ Sd v0 p n L s ∧ w.grownBy v0 (some p) ∧ v0.heap.size = w.heap.size + 2) := by
    obtain ⟨K0, R0, b0⟩ := two_boxes w #[.string ⟨#[]⟩, .int .i64 0, .int .i64 0, .string ⟨#[]⟩, .slice none 0 0, .int .i64 0] #[.string ⟨#[]⟩, .int .i64 0, .int .i64 0, .string ⟨#[]⟩, .slice none 0 0, .int .i64 0] 44
    exact ⟨_, rfl, K0, R0, h.below b0, grown_of_below b0 _, by simp⟩
  obtain ⟨v0, hv0, R0, X0, H0, G0, zs0⟩ := HV0.out
  have S0 : w.heap.size + 2 ≤ v0.heap.size := by omega
  have HVV := Lib.hid hv0
  clear h HV0 hv0 zs0
  have hf1 : ∀ (W : World) k z i a, (Instr.field 79 (.agg #[.int .i64 k, .string z, .int .i64 i, .int .i64 a]) 1).run Tryz.prog W = .ok (.string z) W := fun W k z i a => by kernel_rfl
  have HCO : Hid (∀ s W, Sd W p n L s → Calls Tryz.prog 43 #[.pointer (some ⟨p, 0, none⟩), .int .i64 1] W (GotD p n L (condP 8) s W)) := fun s W hW => condd_all p n L hL 8 (by omega) 1 (by omega) s W hW
  unfold GotD at HCO
  by_cases hc : isP 1 classP s = true
  · skip
    have hof : ofP s = ((nextP 2 [] (nextP 1 classP s).2).1.text, (nextP 2 [] (nextP 1 classP s).2).2) := by unfold ofP; rw [if_pos hc]
    rw [hof] at HD
    have F1 := (next_fine (m := saysB [classP]) HFI.out).2
    rw [← next_says (by decide)] at F1
    have F2 := (next_fine (m := kindB 2) F1).1
    rw [← next_kind] at F2
    obtain ⟨k1, z1, i1, a1, hz1, hi1, HN1⟩ := nextd_some p n L s 1 classP
    clear hz1 hi1
    have HI0 := isd_some p n L s 1 classP true hc _ rfl
    generalize (nextP 1 classP s).2 = s1 at *
    obtain ⟨k2, z2, i2, a2, hz2, hi2, HN2⟩ := nextd_some p n L s1 2 []
    clear hi2
    have HCL : Hid ((nextP 2 [] s1).1.text.length ≤ maxLen) := F2.2
    have HZ2 : Hid (strV (nextP 2 [] s1).1.text = .string z2) := hz2
    generalize (nextP 2 [] s1).1.text = cls at *
    generalize (nextP 2 [] s1).2 = so at *
    have hw1 : strV classP = .string ⟨#[99, 108, 97, 115, 115]⟩ := rfl
    have hw2 : strV [] = .string ⟨#[]⟩ := rfl
    rw [hw1] at HN1
    rw [hw2] at HN2
    clear hz2 F1 F2 hof hc hw1 hw2 HFI
    dsimp only at HD
    obtain ⟨k3, z3, i3, a3, hz3, hi3, HN3⟩ := nextd_some p n L so 1 keepP
    clear hz3 hi3
    generalize (nextP 1 keepP so).2 = s3 at *
    have HC3 := Lib.hid (HCO.out s3)
    generalize condP 8 s3 = co at *
    obtain ⟨cx, s4⟩ := co
    dsimp only at HD HC3
    obtain ⟨k5, z5, i5, a5, hz5, hi5, HN5⟩ := nextd_some p n L s4 1 thenP
    clear hz5 hi5
    generalize (nextP 1 thenP s4).2 = s5 at *
    have hw3 : strV keepP = .string ⟨#[107, 101, 101, 112]⟩ := rfl
    have hw5 : strV thenP = .string ⟨#[116, 104, 101, 110]⟩ := rfl
    rw [hw3] at HN3
    rw [hw5] at HN5
    clear HCO hw3 hw5
    by_cases hd : isP 1 destroyP s5 = true
    · have hac : actP s5 = (1, (nextP 1 destroyP s5).2) := by unfold actP; rw [if_pos hd]
      have HI1 := isd_some p n L s5 1 destroyP true hd _ rfl
      rw [hac] at HD
      dsimp only at HD
      obtain ⟨k6, z6, i6, a6, hz6, hi6, HN6⟩ := nextd_some p n L s5 1 destroyP
      clear hz6 hi6 hac hd
      generalize (nextP 1 destroyP s5).2 = s6 at *
      obtain ⟨k7, z7, i7, a7, hz7, hi7, HN7⟩ := nextd_some p n L s6 6 []
      clear hz7 hi7
      generalize (nextP 6 [] s6).2 = s7 at *
      have hw6 : strV destroyP = .string ⟨#[100, 101, 115, 116, 114, 111, 121]⟩ := rfl
      have hw7 : strV [] = .string ⟨#[]⟩ := rfl
      rw [hw6] at HN6
      rw [hw7] at HN7
      clear hw6 hw7
      go_enter Tryz.func19, Tryz.ntmps19
      have hi := HI0.out v0 H0
      clear HI0
      go_wp2_with fail
      rw [← HVV.out]
      refine hi.mono ?_
      rintro e wi1 ⟨rfl, mi1, hmi1⟩
      have gn : v0.grownBy wi1 (some p) := by rw [hmi1]; exact ⟨rfl, rfl, rfl, Nat.le_refl _, fun _ _ _ => rfl⟩
      have Hi1 : Sd wi1 p n L s := by rw [hmi1]; exact H0
      have Ri1 := R0.grown gn (fun e => by injection e with e; omega)
      have Xi1 := X0.grown gn (fun e => by injection e with e; omega)
      have Gi1 := grown_trans G0 gn
      have Si1 : w.heap.size + 2 ≤ wi1.heap.size := by have := gn.size; have := S0; omega
      clear hi gn hmi1
      clear HVV R0 X0 H0 G0 S0
      have hn := HN1.out wi1 Hi1
      clear HN1
      go_wp2_with fail
      skip
      refine hn.mono ?_
      rintro e wn2 ⟨rfl, Hn2, gn⟩
      have Rn2 := Ri1.grown gn (fun e => by injection e with e; omega)
      have Xn2 := Xi1.grown gn (fun e => by injection e with e; omega)
      have Gn2 := grown_trans Gi1 gn
      have Sn2 : w.heap.size + 2 ≤ wn2.heap.size := by have := gn.size; have := Si1; omega
      clear hn gn
      have hn := HN2.out wn2 Hn2
      clear HN2
      go_wp2_with fail
      skip
      refine hn.mono ?_
      rintro e wn3 ⟨rfl, Hn3, gn⟩
      have Rn3 := Rn2.grown gn (fun e => by injection e with e; omega)
      have Xn3 := Xn2.grown gn (fun e => by injection e with e; omega)
      have Gn3 := grown_trans Gn2 gn
      have Sn3 : w.heap.size + 2 ≤ wn3.heap.size := by have := gn.size; have := Sn2; omega
      clear hn gn
      have xf := Xn3.free 0
      have xc := Xn3.cell 0
      have xlt := Xn3.lt
      have Hs := Hn3.setCell (a := ⟨w.heap.size + 1, 0, none⟩) (by show p < w.heap.size + 1; omega) (.string z2)
      have Rs := Rn3.aside (h := w.heap.size + 1) (i := 0) (by omega) (.string z2)
      have Xs := Xn3.put 0 (.string z2)
      have Gs := grown_cell Gn3 (a := ⟨w.heap.size + 1, 0, none⟩) (by show w.heap.size ≤ w.heap.size + 1; omega) (.string z2)
      have Ss : w.heap.size + 2 ≤ (wn3.setCell ⟨w.heap.size + 1, 0, none⟩ (.string z2)).heap.size := by simp [World.setCell]; exact Sn3
      have hn := HN3.out (wn3.setCell ⟨w.heap.size + 1, 0, none⟩ (.string z2)) Hs
      clear HN3
      go_wp2_with fail
      skip
      refine hn.mono ?_
      rintro e wn4 ⟨rfl, Hn4, gn⟩
      have Rn4 := Rs.grown gn (fun e => by injection e with e; omega)
      have Xn4 := Xs.grown gn (fun e => by injection e with e; omega)
      have Gn4 := grown_trans Gs gn
      have Sn4 : w.heap.size + 2 ≤ wn4.heap.size := by have := gn.size; have := Ss; omega
      clear hn gn
      clear xf xc xlt Hs Rs Xs Gs Ss
      have hco := HC3.out wn4 Hn4
      clear HC3
      go_wp2_with fail
      refine hco.mono ?_
      rintro e wc ⟨i1', i2', zz3, X4, n4, z4, rfl, hxc, Hc, gc⟩
      have Rc := Rn4.grown gc (fun e => by injection e with e; omega)
      have Xc := Xn4.grown gc (fun e => by injection e with e; omega)
      have Gc := grown_trans Gn4 gc
      have Sc : w.heap.size + 2 ≤ wc.heap.size := by have := gc.size; omega
      have hxS : w.heap.size + 2 ≤ wn4.heap.size := Sn4
      have xf1 := Xc.free 1
      have xf2 := Xc.free 2
      have xf3 := Xc.free 3
      have xf4 := Xc.free 4
      have xc1 := Xc.cell 1
      have xc2 := Xc.cell 2
      have xc3 := Xc.cell 3
      have xc4 := Xc.cell 4
      have xlt := Xc.lt
      have Hs := (((Hc.setCell (a := ⟨w.heap.size + 1, 1, none⟩) (by show p < w.heap.size + 1; omega) (.int .i64 i1')).setCell (a := ⟨w.heap.size + 1, 2, none⟩) (by show p < w.heap.size + 1; omega) (.int .i64 i2')).setCell (a := ⟨w.heap.size + 1, 3, none⟩) (by show p < w.heap.size + 1; omega) (.string zz3)).setCell (a := ⟨w.heap.size + 1, 4, none⟩) (by show p < w.heap.size + 1; omega) (.slice X4 n4 z4)
      have Rs := (((Rc.aside (h := w.heap.size + 1) (i := 1) (by omega) (.int .i64 i1')).aside (h := w.heap.size + 1) (i := 2) (by omega) (.int .i64 i2')).aside (h := w.heap.size + 1) (i := 3) (by omega) (.string zz3)).aside (h := w.heap.size + 1) (i := 4) (by omega) (.slice X4 n4 z4)
      have Xs := (((Xc.put 1 (.int .i64 i1')).put 2 (.int .i64 i2')).put 3 (.string zz3)).put 4 (.slice X4 n4 z4)
      have hle1 : w.heap.size ≤ w.heap.size + 1 := Nat.le_succ _
      have Gs := grown_cell (grown_cell (grown_cell (grown_cell Gc (a := ⟨w.heap.size + 1, 1, none⟩) hle1 (.int .i64 i1')) (a := ⟨w.heap.size + 1, 2, none⟩) hle1 (.int .i64 i2')) (a := ⟨w.heap.size + 1, 3, none⟩) hle1 (.string zz3)) (a := ⟨w.heap.size + 1, 4, none⟩) hle1 (.slice X4 n4 z4)
      obtain ⟨wd, hwd⟩ : ∃ wd, wd = ((((wc.setCell ⟨w.heap.size + 1, 1, none⟩ (.int .i64 i1')).setCell ⟨w.heap.size + 1, 2, none⟩ (.int .i64 i2')).setCell ⟨w.heap.size + 1, 3, none⟩ (.string zz3)).setCell ⟨w.heap.size + 1, 4, none⟩ (.slice X4 n4 z4)) := ⟨_, rfl⟩
      have zwd : wd.heap.size = wc.heap.size := by rw [hwd]; simp [World.setCell]
      have Sd' : w.heap.size + 2 ≤ wd.heap.size := by omega
      have hxd : EX wd (fun b => w.heap.size + 2 ≤ b) 17 cx (.int .i64 i1') (.int .i64 i2') (.string zz3) (.slice X4 n4 z4) := EX.keepL 17 cx _ _ _ _ hxc (by omega) (fun b sb' hb' => by
        have h5 : wn4.heap.size ≤ b := sb'
        rw [hwd]
        exact (Below.heap_setCell _ _ _ _ (by show b ≠ w.heap.size + 1; omega)).trans ((Below.heap_setCell _ _ _ _ (by show b ≠ w.heap.size + 1; omega)).trans ((Below.heap_setCell _ _ _ _ (by show b ≠ w.heap.size + 1; omega)).trans (Below.heap_setCell _ _ _ _ (by show b ≠ w.heap.size + 1; omega))))) (fun b sb' _ => Nat.le_trans hxS sb')
      rw [← hwd] at Hs Rs Xs Gs
      have HWD := Lib.hid hwd
      have HXD := Lib.hid hxd
      have FD := World.grownBy.refl wd (some p)
      clear hco hxc hxd Hc gc Rc Xc Gc hxS hwd
      have hn := HN5.out wd Hs
      clear HN5
      go_wp2_with fail
      rw [← HWD.out]
      refine hn.mono ?_
      rintro e wn5 ⟨rfl, Hn5, gn⟩
      have Rn5 := Rs.grown gn (fun e => by injection e with e; omega)
      have Xn5 := Xs.grown gn (fun e => by injection e with e; omega)
      have Gn5 := grown_trans Gs gn
      have Sn5 : w.heap.size + 2 ≤ wn5.heap.size := by have := gn.size; have := Sd'; omega
      have Fn5 := grown_trans FD gn
      clear hn gn
      clear xf1 xf2 xf3 xf4 xc1 xc2 xc3 xc4 xlt Hs Rs Xs Gs FD HWD zwd Sc
      have hi := HI1.out wn5 Hn5
      clear HI1
      go_wp2_with fail
      skip
      refine hi.mono ?_
      rintro e wi6 ⟨rfl, mi6, hmi6⟩
      have gn : wn5.grownBy wi6 (some p) := by rw [hmi6]; exact ⟨rfl, rfl, rfl, Nat.le_refl _, fun _ _ _ => rfl⟩
      have Hi6 : Sd wi6 p n L s5 := by rw [hmi6]; exact Hn5
      have Ri6 := Rn5.grown gn (fun e => by injection e with e; omega)
      have Xi6 := Xn5.grown gn (fun e => by injection e with e; omega)
      have Gi6 := grown_trans Gn5 gn
      have Si6 : w.heap.size + 2 ≤ wi6.heap.size := by have := gn.size; have := Sn5; omega
      have Fi6 := grown_trans Fn5 gn
      clear hi gn hmi6
      have xf5 := Xi6.free 5
      have xc5 := Xi6.cell 5
      have xlt := Xi6.lt
      have Ht := Hi6.setCell (a := ⟨w.heap.size + 1, 5, none⟩) (by show p < w.heap.size + 1; omega) (.int .i64 1)
      have Rt := Ri6.aside (h := w.heap.size + 1) (i := 5) (by omega) (.int .i64 1)
      have Xt := Xi6.put 5 (.int .i64 1)
      have Gt := grown_cell Gi6 (a := ⟨w.heap.size + 1, 5, none⟩) (by show w.heap.size ≤ w.heap.size + 1; omega) (.int .i64 1)
      have St : w.heap.size + 2 ≤ (wi6.setCell ⟨w.heap.size + 1, 5, none⟩ (.int .i64 1)).heap.size := by simp [World.setCell]; exact Si6
      have HGT : Hid (∀ b, w.heap.size + 2 ≤ b → b < wd.heap.size → (wi6.setCell ⟨w.heap.size + 1, 5, none⟩ (.int .i64 1)).heap[b]? = wd.heap[b]?) := fun b hb hlt => (Below.heap_setCell _ _ _ _ (by show b ≠ w.heap.size + 1; omega)).trans (Fi6.block b hlt (fun e => by injection e with e; omega))
      have HGS : Hid (wd.heap.size ≤ (wi6.setCell ⟨w.heap.size + 1, 5, none⟩ (.int .i64 1)).heap.size) := by show _ ≤ _; have := Fi6.size; simp [World.setCell]; exact this
      have hn := HN6.out (wi6.setCell ⟨w.heap.size + 1, 5, none⟩ (.int .i64 1)) Ht
      clear HN6
      go_wp2_with fail
      skip
      refine hn.mono ?_
      rintro e wn7 ⟨rfl, Hn7, gn⟩
      have Rn7 := Rt.grown gn (fun e => by injection e with e; omega)
      have Xn7 := Xt.grown gn (fun e => by injection e with e; omega)
      have Gn7 := grown_trans Gt gn
      have Sn7 : w.heap.size + 2 ≤ wn7.heap.size := by have := gn.size; have := St; omega
      have Fn7 := grown_trans (World.grownBy.refl (wi6.setCell ⟨w.heap.size + 1, 5, none⟩ (.int .i64 1)) (some p)) gn
      clear hn gn
      have hn := HN7.out wn7 Hn7
      clear HN7
      go_wp2_with fail
      skip
      refine hn.mono ?_
      rintro e wn8 ⟨rfl, Hn8, gn⟩
      have Rn8 := Rn7.grown gn (fun e => by injection e with e; omega)
      have Xn8 := Xn7.grown gn (fun e => by injection e with e; omega)
      have Gn8 := grown_trans Gn7 gn
      have Sn8 : w.heap.size + 2 ≤ wn8.heap.size := by have := gn.size; have := Sn7; omega
      have Fn8 := grown_trans Fn7 gn
      clear hn gn
      have hle2 : w.heap.size ≤ w.heap.size := Nat.le_refl _
      have xfin : KB wn8 (w.heap.size + 1) 44 #[.string z2, .int .i64 i1', .int .i64 i2', .string zz3, .slice X4 n4 z4, .int .i64 1] := Xn8
      have f0 := Rn8.free 0
      have f1 := Rn8.free 1
      have f2 := Rn8.free 2
      have f3 := Rn8.free 3
      have f4 := Rn8.free 4
      have f5 := Rn8.free 5
      have r0 := Rn8.cell 0
      have r1 := Rn8.cell 1
      have r2 := Rn8.cell 2
      have r3 := Rn8.cell 3
      have r4 := Rn8.cell 4
      have r5 := Rn8.cell 5
      have x0 := xfin.cell 0
      have x1 := xfin.cell 1
      have x2 := xfin.cell 2
      have x3 := xfin.cell 3
      have x4 := xfin.cell 4
      have x5 := xfin.cell 5
      have hg0 := Rn8.lt
      have hg1 := xfin.lt
      obtain ⟨W5, hW5⟩ : ∃ W5, W5 = ((((((wn8.setCell ⟨w.heap.size, 0, none⟩ (.string z2)).setCell ⟨w.heap.size, 1, none⟩ (.int .i64 i1')).setCell ⟨w.heap.size, 2, none⟩ (.int .i64 i2')).setCell ⟨w.heap.size, 3, none⟩ (.string zz3)).setCell ⟨w.heap.size, 4, none⟩ (.slice X4 n4 z4)).setCell ⟨w.heap.size, 5, none⟩ (.int .i64 1)) := ⟨_, rfl⟩
      have kfin := Rn8.put6 (.string z2) (.int .i64 i1') (.int .i64 i2') (.string zz3) (.slice X4 n4 z4) (.int .i64 1)
      have st5 := (((((Hn8.setCell (a := ⟨w.heap.size, 0, none⟩) hp (.string z2)).setCell (a := ⟨w.heap.size, 1, none⟩) hp (.int .i64 i1')).setCell (a := ⟨w.heap.size, 2, none⟩) hp (.int .i64 i2')).setCell (a := ⟨w.heap.size, 3, none⟩) hp (.string zz3)).setCell (a := ⟨w.heap.size, 4, none⟩) hp (.slice X4 n4 z4)).setCell (a := ⟨w.heap.size, 5, none⟩) hp (.int .i64 1)
      have gr5 := grown_cell (grown_cell (grown_four Gn8 hle2 (.string z2) (.int .i64 i1') (.int .i64 i2') (.string zz3)) (a := ⟨w.heap.size, 4, none⟩) hle2 (.slice X4 n4 z4)) (a := ⟨w.heap.size, 5, none⟩) hle2 (.int .i64 1)
      have hblk : ∀ b, w.heap.size + 2 ≤ b → b < wd.heap.size → W5.heap[b]? = wd.heap[b]? := fun b hb hlt => by
        have e1 : W5.heap[b]? = wn8.heap[b]? := by
          rw [hW5]
          exact (Below.heap_setCell _ _ _ _ (by show b ≠ w.heap.size; omega)).trans ((Below.heap_setCell _ _ _ _ (by show b ≠ w.heap.size; omega)).trans ((Below.heap_setCell _ _ _ _ (by show b ≠ w.heap.size; omega)).trans ((Below.heap_setCell _ _ _ _ (by show b ≠ w.heap.size; omega)).trans ((Below.heap_setCell _ _ _ _ (by show b ≠ w.heap.size; omega)).trans (Below.heap_setCell _ _ _ _ (by show b ≠ w.heap.size; omega))))))
        exact e1.trans ((Fn8.block b (Nat.lt_of_lt_of_le hlt HGS.out) (fun e => by injection e with e; omega)).trans (HGT.out b hb hlt))
      have hsz5 : wd.heap.size ≤ W5.heap.size := by
        have h1 := Nat.le_trans HGS.out Fn8.size
        have h3 : W5.heap.size = wn8.heap.size := by rw [hW5]; simp [World.setCell]
        rw [h3]; exact h1
      rw [← hW5] at kfin st5 gr5
      have hfin := HD.out W5 z2 i1' i2' zz3 X4 n4 z4 1 ⟨HZ2.out.symm, HCL.out, EX.keepL 17 cx _ _ _ _ HXD.out hsz5 (fun b sb' hlt => hblk b sb' hlt) (fun b sb' _ => by have h9 : w.heap.size + 2 ≤ b := sb'; show w.heap.size ≤ b; omega), rfl, by show I64 1; unfold I64; omega⟩ st5 gr5
      have HW5 := Lib.hid hW5
      clear hW5 hblk hsz5 st5 gr5 xfin Rn8 Xn8 Hn8 Gn8 Fn8 Ht Rt Xt Gt St HGT HGS HD HXD HZ2 HCL
      go_wp2_with fail
      rw [← HW5.out]
      exact bodyPost_ret (results_cell (P := Tryz.prog) rfl _ _ w.heap.size _ _ (0, 0) _ rfl kfin Tryz.underlying44 rfl (by kernel_rfl)) rfl hfin
    by_cases hr : isP 1 reviewP s5 = true
    · have hac : actP s5 = (2, (nextP 1 reviewP s5).2) := by unfold actP; rw [if_neg hd, if_pos hr]
      have hd0 : isP 1 destroyP s5 = false := by simpa using hd
      have HI1 := isd_some p n L s5 1 destroyP false hd0 _ rfl
      clear hd0
      have HI2 := isd_some p n L s5 1 reviewP true hr _ rfl
      clear hr
      rw [hac] at HD
      dsimp only at HD
      obtain ⟨k6, z6, i6, a6, hz6, hi6, HN6⟩ := nextd_some p n L s5 1 reviewP
      clear hz6 hi6 hac hd
      generalize (nextP 1 reviewP s5).2 = s6 at *
      obtain ⟨k7, z7, i7, a7, hz7, hi7, HN7⟩ := nextd_some p n L s6 6 []
      clear hz7 hi7
      generalize (nextP 6 [] s6).2 = s7 at *
      have hw6 : strV reviewP = .string ⟨#[114, 101, 118, 105, 101, 119]⟩ := rfl
      have hw7 : strV [] = .string ⟨#[]⟩ := rfl
      rw [hw6] at HN6
      rw [hw7] at HN7
      clear hw6 hw7
      go_enter Tryz.func19, Tryz.ntmps19
      have hi := HI0.out v0 H0
      clear HI0
      go_wp2_with fail
      rw [← HVV.out]
      refine hi.mono ?_
      rintro e wi9 ⟨rfl, mi9, hmi9⟩
      have gn : v0.grownBy wi9 (some p) := by rw [hmi9]; exact ⟨rfl, rfl, rfl, Nat.le_refl _, fun _ _ _ => rfl⟩
      have Hi9 : Sd wi9 p n L s := by rw [hmi9]; exact H0
      have Ri9 := R0.grown gn (fun e => by injection e with e; omega)
      have Xi9 := X0.grown gn (fun e => by injection e with e; omega)
      have Gi9 := grown_trans G0 gn
      have Si9 : w.heap.size + 2 ≤ wi9.heap.size := by have := gn.size; have := S0; omega
      clear hi gn hmi9
      clear HVV R0 X0 H0 G0 S0
      have hn := HN1.out wi9 Hi9
      clear HN1
      go_wp2_with fail
      skip
      refine hn.mono ?_
      rintro e wn10 ⟨rfl, Hn10, gn⟩
      have Rn10 := Ri9.grown gn (fun e => by injection e with e; omega)
      have Xn10 := Xi9.grown gn (fun e => by injection e with e; omega)
      have Gn10 := grown_trans Gi9 gn
      have Sn10 : w.heap.size + 2 ≤ wn10.heap.size := by have := gn.size; have := Si9; omega
      clear hn gn
      have hn := HN2.out wn10 Hn10
      clear HN2
      go_wp2_with fail
      skip
      refine hn.mono ?_
      rintro e wn11 ⟨rfl, Hn11, gn⟩
      have Rn11 := Rn10.grown gn (fun e => by injection e with e; omega)
      have Xn11 := Xn10.grown gn (fun e => by injection e with e; omega)
      have Gn11 := grown_trans Gn10 gn
      have Sn11 : w.heap.size + 2 ≤ wn11.heap.size := by have := gn.size; have := Sn10; omega
      clear hn gn
      have xf := Xn11.free 0
      have xc := Xn11.cell 0
      have xlt := Xn11.lt
      have Hs := Hn11.setCell (a := ⟨w.heap.size + 1, 0, none⟩) (by show p < w.heap.size + 1; omega) (.string z2)
      have Rs := Rn11.aside (h := w.heap.size + 1) (i := 0) (by omega) (.string z2)
      have Xs := Xn11.put 0 (.string z2)
      have Gs := grown_cell Gn11 (a := ⟨w.heap.size + 1, 0, none⟩) (by show w.heap.size ≤ w.heap.size + 1; omega) (.string z2)
      have Ss : w.heap.size + 2 ≤ (wn11.setCell ⟨w.heap.size + 1, 0, none⟩ (.string z2)).heap.size := by simp [World.setCell]; exact Sn11
      have hn := HN3.out (wn11.setCell ⟨w.heap.size + 1, 0, none⟩ (.string z2)) Hs
      clear HN3
      go_wp2_with fail
      skip
      refine hn.mono ?_
      rintro e wn12 ⟨rfl, Hn12, gn⟩
      have Rn12 := Rs.grown gn (fun e => by injection e with e; omega)
      have Xn12 := Xs.grown gn (fun e => by injection e with e; omega)
      have Gn12 := grown_trans Gs gn
      have Sn12 : w.heap.size + 2 ≤ wn12.heap.size := by have := gn.size; have := Ss; omega
      clear hn gn
      clear xf xc xlt Hs Rs Xs Gs Ss
      have hco := HC3.out wn12 Hn12
      clear HC3
      go_wp2_with fail
      refine hco.mono ?_
      rintro e wc ⟨i1', i2', zz3, X4, n4, z4, rfl, hxc, Hc, gc⟩
      have Rc := Rn12.grown gc (fun e => by injection e with e; omega)
      have Xc := Xn12.grown gc (fun e => by injection e with e; omega)
      have Gc := grown_trans Gn12 gc
      have Sc : w.heap.size + 2 ≤ wc.heap.size := by have := gc.size; omega
      have hxS : w.heap.size + 2 ≤ wn12.heap.size := Sn12
      have xf1 := Xc.free 1
      have xf2 := Xc.free 2
      have xf3 := Xc.free 3
      have xf4 := Xc.free 4
      have xc1 := Xc.cell 1
      have xc2 := Xc.cell 2
      have xc3 := Xc.cell 3
      have xc4 := Xc.cell 4
      have xlt := Xc.lt
      have Hs := (((Hc.setCell (a := ⟨w.heap.size + 1, 1, none⟩) (by show p < w.heap.size + 1; omega) (.int .i64 i1')).setCell (a := ⟨w.heap.size + 1, 2, none⟩) (by show p < w.heap.size + 1; omega) (.int .i64 i2')).setCell (a := ⟨w.heap.size + 1, 3, none⟩) (by show p < w.heap.size + 1; omega) (.string zz3)).setCell (a := ⟨w.heap.size + 1, 4, none⟩) (by show p < w.heap.size + 1; omega) (.slice X4 n4 z4)
      have Rs := (((Rc.aside (h := w.heap.size + 1) (i := 1) (by omega) (.int .i64 i1')).aside (h := w.heap.size + 1) (i := 2) (by omega) (.int .i64 i2')).aside (h := w.heap.size + 1) (i := 3) (by omega) (.string zz3)).aside (h := w.heap.size + 1) (i := 4) (by omega) (.slice X4 n4 z4)
      have Xs := (((Xc.put 1 (.int .i64 i1')).put 2 (.int .i64 i2')).put 3 (.string zz3)).put 4 (.slice X4 n4 z4)
      have hle1 : w.heap.size ≤ w.heap.size + 1 := Nat.le_succ _
      have Gs := grown_cell (grown_cell (grown_cell (grown_cell Gc (a := ⟨w.heap.size + 1, 1, none⟩) hle1 (.int .i64 i1')) (a := ⟨w.heap.size + 1, 2, none⟩) hle1 (.int .i64 i2')) (a := ⟨w.heap.size + 1, 3, none⟩) hle1 (.string zz3)) (a := ⟨w.heap.size + 1, 4, none⟩) hle1 (.slice X4 n4 z4)
      obtain ⟨wd, hwd⟩ : ∃ wd, wd = ((((wc.setCell ⟨w.heap.size + 1, 1, none⟩ (.int .i64 i1')).setCell ⟨w.heap.size + 1, 2, none⟩ (.int .i64 i2')).setCell ⟨w.heap.size + 1, 3, none⟩ (.string zz3)).setCell ⟨w.heap.size + 1, 4, none⟩ (.slice X4 n4 z4)) := ⟨_, rfl⟩
      have zwd : wd.heap.size = wc.heap.size := by rw [hwd]; simp [World.setCell]
      have Sd' : w.heap.size + 2 ≤ wd.heap.size := by omega
      have hxd : EX wd (fun b => w.heap.size + 2 ≤ b) 17 cx (.int .i64 i1') (.int .i64 i2') (.string zz3) (.slice X4 n4 z4) := EX.keepL 17 cx _ _ _ _ hxc (by omega) (fun b sb' hb' => by
        have h5 : wn12.heap.size ≤ b := sb'
        rw [hwd]
        exact (Below.heap_setCell _ _ _ _ (by show b ≠ w.heap.size + 1; omega)).trans ((Below.heap_setCell _ _ _ _ (by show b ≠ w.heap.size + 1; omega)).trans ((Below.heap_setCell _ _ _ _ (by show b ≠ w.heap.size + 1; omega)).trans (Below.heap_setCell _ _ _ _ (by show b ≠ w.heap.size + 1; omega))))) (fun b sb' _ => Nat.le_trans hxS sb')
      rw [← hwd] at Hs Rs Xs Gs
      have HWD := Lib.hid hwd
      have HXD := Lib.hid hxd
      have FD := World.grownBy.refl wd (some p)
      clear hco hxc hxd Hc gc Rc Xc Gc hxS hwd
      have hn := HN5.out wd Hs
      clear HN5
      go_wp2_with fail
      rw [← HWD.out]
      refine hn.mono ?_
      rintro e wn13 ⟨rfl, Hn13, gn⟩
      have Rn13 := Rs.grown gn (fun e => by injection e with e; omega)
      have Xn13 := Xs.grown gn (fun e => by injection e with e; omega)
      have Gn13 := grown_trans Gs gn
      have Sn13 : w.heap.size + 2 ≤ wn13.heap.size := by have := gn.size; have := Sd'; omega
      have Fn13 := grown_trans FD gn
      clear hn gn
      clear xf1 xf2 xf3 xf4 xc1 xc2 xc3 xc4 xlt Hs Rs Xs Gs FD HWD zwd Sc
      have hi := HI1.out wn13 Hn13
      clear HI1
      go_wp2_with fail
      skip
      refine hi.mono ?_
      rintro e wi14 ⟨rfl, mi14, hmi14⟩
      have gn : wn13.grownBy wi14 (some p) := by rw [hmi14]; exact ⟨rfl, rfl, rfl, Nat.le_refl _, fun _ _ _ => rfl⟩
      have Hi14 : Sd wi14 p n L s5 := by rw [hmi14]; exact Hn13
      have Ri14 := Rn13.grown gn (fun e => by injection e with e; omega)
      have Xi14 := Xn13.grown gn (fun e => by injection e with e; omega)
      have Gi14 := grown_trans Gn13 gn
      have Si14 : w.heap.size + 2 ≤ wi14.heap.size := by have := gn.size; have := Sn13; omega
      have Fi14 := grown_trans Fn13 gn
      clear hi gn hmi14
      have hi := HI2.out wi14 Hi14
      clear HI2
      go_wp2_with fail
      skip
      refine hi.mono ?_
      rintro e wi15 ⟨rfl, mi15, hmi15⟩
      have gn : wi14.grownBy wi15 (some p) := by rw [hmi15]; exact ⟨rfl, rfl, rfl, Nat.le_refl _, fun _ _ _ => rfl⟩
      have Hi15 : Sd wi15 p n L s5 := by rw [hmi15]; exact Hi14
      have Ri15 := Ri14.grown gn (fun e => by injection e with e; omega)
      have Xi15 := Xi14.grown gn (fun e => by injection e with e; omega)
      have Gi15 := grown_trans Gi14 gn
      have Si15 : w.heap.size + 2 ≤ wi15.heap.size := by have := gn.size; have := Si14; omega
      have Fi15 := grown_trans Fi14 gn
      clear hi gn hmi15
      have xf5 := Xi15.free 5
      have xc5 := Xi15.cell 5
      have xlt := Xi15.lt
      have Ht := Hi15.setCell (a := ⟨w.heap.size + 1, 5, none⟩) (by show p < w.heap.size + 1; omega) (.int .i64 2)
      have Rt := Ri15.aside (h := w.heap.size + 1) (i := 5) (by omega) (.int .i64 2)
      have Xt := Xi15.put 5 (.int .i64 2)
      have Gt := grown_cell Gi15 (a := ⟨w.heap.size + 1, 5, none⟩) (by show w.heap.size ≤ w.heap.size + 1; omega) (.int .i64 2)
      have St : w.heap.size + 2 ≤ (wi15.setCell ⟨w.heap.size + 1, 5, none⟩ (.int .i64 2)).heap.size := by simp [World.setCell]; exact Si15
      have HGT : Hid (∀ b, w.heap.size + 2 ≤ b → b < wd.heap.size → (wi15.setCell ⟨w.heap.size + 1, 5, none⟩ (.int .i64 2)).heap[b]? = wd.heap[b]?) := fun b hb hlt => (Below.heap_setCell _ _ _ _ (by show b ≠ w.heap.size + 1; omega)).trans (Fi15.block b hlt (fun e => by injection e with e; omega))
      have HGS : Hid (wd.heap.size ≤ (wi15.setCell ⟨w.heap.size + 1, 5, none⟩ (.int .i64 2)).heap.size) := by show _ ≤ _; have := Fi15.size; simp [World.setCell]; exact this
      have hn := HN6.out (wi15.setCell ⟨w.heap.size + 1, 5, none⟩ (.int .i64 2)) Ht
      clear HN6
      go_wp2_with fail
      skip
      refine hn.mono ?_
      rintro e wn16 ⟨rfl, Hn16, gn⟩
      have Rn16 := Rt.grown gn (fun e => by injection e with e; omega)
      have Xn16 := Xt.grown gn (fun e => by injection e with e; omega)
      have Gn16 := grown_trans Gt gn
      have Sn16 : w.heap.size + 2 ≤ wn16.heap.size := by have := gn.size; have := St; omega
      have Fn16 := grown_trans (World.grownBy.refl (wi15.setCell ⟨w.heap.size + 1, 5, none⟩ (.int .i64 2)) (some p)) gn
      clear hn gn
      have hn := HN7.out wn16 Hn16
      clear HN7
      go_wp2_with fail
      skip
      refine hn.mono ?_
      rintro e wn17 ⟨rfl, Hn17, gn⟩
      have Rn17 := Rn16.grown gn (fun e => by injection e with e; omega)
      have Xn17 := Xn16.grown gn (fun e => by injection e with e; omega)
      have Gn17 := grown_trans Gn16 gn
      have Sn17 : w.heap.size + 2 ≤ wn17.heap.size := by have := gn.size; have := Sn16; omega
      have Fn17 := grown_trans Fn16 gn
      clear hn gn
      have hle2 : w.heap.size ≤ w.heap.size := Nat.le_refl _
      have xfin : KB wn17 (w.heap.size + 1) 44 #[.string z2, .int .i64 i1', .int .i64 i2', .string zz3, .slice X4 n4 z4, .int .i64 2] := Xn17
      have f0 := Rn17.free 0
      have f1 := Rn17.free 1
      have f2 := Rn17.free 2
      have f3 := Rn17.free 3
      have f4 := Rn17.free 4
      have f5 := Rn17.free 5
      have r0 := Rn17.cell 0
      have r1 := Rn17.cell 1
      have r2 := Rn17.cell 2
      have r3 := Rn17.cell 3
      have r4 := Rn17.cell 4
      have r5 := Rn17.cell 5
      have x0 := xfin.cell 0
      have x1 := xfin.cell 1
      have x2 := xfin.cell 2
      have x3 := xfin.cell 3
      have x4 := xfin.cell 4
      have x5 := xfin.cell 5
      have hg0 := Rn17.lt
      have hg1 := xfin.lt
      obtain ⟨W5, hW5⟩ : ∃ W5, W5 = ((((((wn17.setCell ⟨w.heap.size, 0, none⟩ (.string z2)).setCell ⟨w.heap.size, 1, none⟩ (.int .i64 i1')).setCell ⟨w.heap.size, 2, none⟩ (.int .i64 i2')).setCell ⟨w.heap.size, 3, none⟩ (.string zz3)).setCell ⟨w.heap.size, 4, none⟩ (.slice X4 n4 z4)).setCell ⟨w.heap.size, 5, none⟩ (.int .i64 2)) := ⟨_, rfl⟩
      have kfin := Rn17.put6 (.string z2) (.int .i64 i1') (.int .i64 i2') (.string zz3) (.slice X4 n4 z4) (.int .i64 2)
      have st5 := (((((Hn17.setCell (a := ⟨w.heap.size, 0, none⟩) hp (.string z2)).setCell (a := ⟨w.heap.size, 1, none⟩) hp (.int .i64 i1')).setCell (a := ⟨w.heap.size, 2, none⟩) hp (.int .i64 i2')).setCell (a := ⟨w.heap.size, 3, none⟩) hp (.string zz3)).setCell (a := ⟨w.heap.size, 4, none⟩) hp (.slice X4 n4 z4)).setCell (a := ⟨w.heap.size, 5, none⟩) hp (.int .i64 2)
      have gr5 := grown_cell (grown_cell (grown_four Gn17 hle2 (.string z2) (.int .i64 i1') (.int .i64 i2') (.string zz3)) (a := ⟨w.heap.size, 4, none⟩) hle2 (.slice X4 n4 z4)) (a := ⟨w.heap.size, 5, none⟩) hle2 (.int .i64 2)
      have hblk : ∀ b, w.heap.size + 2 ≤ b → b < wd.heap.size → W5.heap[b]? = wd.heap[b]? := fun b hb hlt => by
        have e1 : W5.heap[b]? = wn17.heap[b]? := by
          rw [hW5]
          exact (Below.heap_setCell _ _ _ _ (by show b ≠ w.heap.size; omega)).trans ((Below.heap_setCell _ _ _ _ (by show b ≠ w.heap.size; omega)).trans ((Below.heap_setCell _ _ _ _ (by show b ≠ w.heap.size; omega)).trans ((Below.heap_setCell _ _ _ _ (by show b ≠ w.heap.size; omega)).trans ((Below.heap_setCell _ _ _ _ (by show b ≠ w.heap.size; omega)).trans (Below.heap_setCell _ _ _ _ (by show b ≠ w.heap.size; omega))))))
        exact e1.trans ((Fn17.block b (Nat.lt_of_lt_of_le hlt HGS.out) (fun e => by injection e with e; omega)).trans (HGT.out b hb hlt))
      have hsz5 : wd.heap.size ≤ W5.heap.size := by
        have h1 := Nat.le_trans HGS.out Fn17.size
        have h3 : W5.heap.size = wn17.heap.size := by rw [hW5]; simp [World.setCell]
        rw [h3]; exact h1
      rw [← hW5] at kfin st5 gr5
      have hfin := HD.out W5 z2 i1' i2' zz3 X4 n4 z4 2 ⟨HZ2.out.symm, HCL.out, EX.keepL 17 cx _ _ _ _ HXD.out hsz5 (fun b sb' hlt => hblk b sb' hlt) (fun b sb' _ => by have h9 : w.heap.size + 2 ≤ b := sb'; show w.heap.size ≤ b; omega), rfl, by show I64 2; unfold I64; omega⟩ st5 gr5
      have HW5 := Lib.hid hW5
      clear hW5 hblk hsz5 st5 gr5 xfin Rn17 Xn17 Hn17 Gn17 Fn17 Ht Rt Xt Gt St HGT HGS HD HXD HZ2 HCL
      go_wp2_with fail
      rw [← HW5.out]
      exact bodyPost_ret (results_cell (P := Tryz.prog) rfl _ _ w.heap.size _ _ (0, 0) _ rfl kfin Tryz.underlying44 rfl (by kernel_rfl)) rfl hfin
    · have hac : actP s5 = (3, (nextP 1 keepP s5).2) := by unfold actP; rw [if_neg hd, if_neg hr]
      have hd0 : isP 1 destroyP s5 = false := by simpa using hd
      have HI1 := isd_some p n L s5 1 destroyP false hd0 _ rfl
      clear hd0
      have hr0 : isP 1 reviewP s5 = false := by simpa using hr
      have HI2 := isd_some p n L s5 1 reviewP false hr0 _ rfl
      clear hr0 hr
      rw [hac] at HD
      dsimp only at HD
      obtain ⟨k6, z6, i6, a6, hz6, hi6, HN6⟩ := nextd_some p n L s5 1 keepP
      clear hz6 hi6 hac hd
      generalize (nextP 1 keepP s5).2 = s6 at *
      obtain ⟨k7, z7, i7, a7, hz7, hi7, HN7⟩ := nextd_some p n L s6 6 []
      clear hz7 hi7
      generalize (nextP 6 [] s6).2 = s7 at *
      have hw6 : strV keepP = .string ⟨#[107, 101, 101, 112]⟩ := rfl
      have hw7 : strV [] = .string ⟨#[]⟩ := rfl
      rw [hw6] at HN6
      rw [hw7] at HN7
      clear hw6 hw7
      go_enter Tryz.func19, Tryz.ntmps19
      have hi := HI0.out v0 H0
      clear HI0
      go_wp2_with fail
      rw [← HVV.out]
      refine hi.mono ?_
      rintro e wi18 ⟨rfl, mi18, hmi18⟩
      have gn : v0.grownBy wi18 (some p) := by rw [hmi18]; exact ⟨rfl, rfl, rfl, Nat.le_refl _, fun _ _ _ => rfl⟩
      have Hi18 : Sd wi18 p n L s := by rw [hmi18]; exact H0
      have Ri18 := R0.grown gn (fun e => by injection e with e; omega)
      have Xi18 := X0.grown gn (fun e => by injection e with e; omega)
      have Gi18 := grown_trans G0 gn
      have Si18 : w.heap.size + 2 ≤ wi18.heap.size := by have := gn.size; have := S0; omega
      clear hi gn hmi18
      clear HVV R0 X0 H0 G0 S0
      have hn := HN1.out wi18 Hi18
      clear HN1
      go_wp2_with fail
      skip
      refine hn.mono ?_
      rintro e wn19 ⟨rfl, Hn19, gn⟩
      have Rn19 := Ri18.grown gn (fun e => by injection e with e; omega)
      have Xn19 := Xi18.grown gn (fun e => by injection e with e; omega)
      have Gn19 := grown_trans Gi18 gn
      have Sn19 : w.heap.size + 2 ≤ wn19.heap.size := by have := gn.size; have := Si18; omega
      clear hn gn
      have hn := HN2.out wn19 Hn19
      clear HN2
      go_wp2_with fail
      skip
      refine hn.mono ?_
      rintro e wn20 ⟨rfl, Hn20, gn⟩
      have Rn20 := Rn19.grown gn (fun e => by injection e with e; omega)
      have Xn20 := Xn19.grown gn (fun e => by injection e with e; omega)
      have Gn20 := grown_trans Gn19 gn
      have Sn20 : w.heap.size + 2 ≤ wn20.heap.size := by have := gn.size; have := Sn19; omega
      clear hn gn
      have xf := Xn20.free 0
      have xc := Xn20.cell 0
      have xlt := Xn20.lt
      have Hs := Hn20.setCell (a := ⟨w.heap.size + 1, 0, none⟩) (by show p < w.heap.size + 1; omega) (.string z2)
      have Rs := Rn20.aside (h := w.heap.size + 1) (i := 0) (by omega) (.string z2)
      have Xs := Xn20.put 0 (.string z2)
      have Gs := grown_cell Gn20 (a := ⟨w.heap.size + 1, 0, none⟩) (by show w.heap.size ≤ w.heap.size + 1; omega) (.string z2)
      have Ss : w.heap.size + 2 ≤ (wn20.setCell ⟨w.heap.size + 1, 0, none⟩ (.string z2)).heap.size := by simp [World.setCell]; exact Sn20
      have hn := HN3.out (wn20.setCell ⟨w.heap.size + 1, 0, none⟩ (.string z2)) Hs
      clear HN3
      go_wp2_with fail
      skip
      refine hn.mono ?_
      rintro e wn21 ⟨rfl, Hn21, gn⟩
      have Rn21 := Rs.grown gn (fun e => by injection e with e; omega)
      have Xn21 := Xs.grown gn (fun e => by injection e with e; omega)
      have Gn21 := grown_trans Gs gn
      have Sn21 : w.heap.size + 2 ≤ wn21.heap.size := by have := gn.size; have := Ss; omega
      clear hn gn
      clear xf xc xlt Hs Rs Xs Gs Ss
      have hco := HC3.out wn21 Hn21
      clear HC3
      go_wp2_with fail
      refine hco.mono ?_
      rintro e wc ⟨i1', i2', zz3, X4, n4, z4, rfl, hxc, Hc, gc⟩
      have Rc := Rn21.grown gc (fun e => by injection e with e; omega)
      have Xc := Xn21.grown gc (fun e => by injection e with e; omega)
      have Gc := grown_trans Gn21 gc
      have Sc : w.heap.size + 2 ≤ wc.heap.size := by have := gc.size; omega
      have hxS : w.heap.size + 2 ≤ wn21.heap.size := Sn21
      have xf1 := Xc.free 1
      have xf2 := Xc.free 2
      have xf3 := Xc.free 3
      have xf4 := Xc.free 4
      have xc1 := Xc.cell 1
      have xc2 := Xc.cell 2
      have xc3 := Xc.cell 3
      have xc4 := Xc.cell 4
      have xlt := Xc.lt
      have Hs := (((Hc.setCell (a := ⟨w.heap.size + 1, 1, none⟩) (by show p < w.heap.size + 1; omega) (.int .i64 i1')).setCell (a := ⟨w.heap.size + 1, 2, none⟩) (by show p < w.heap.size + 1; omega) (.int .i64 i2')).setCell (a := ⟨w.heap.size + 1, 3, none⟩) (by show p < w.heap.size + 1; omega) (.string zz3)).setCell (a := ⟨w.heap.size + 1, 4, none⟩) (by show p < w.heap.size + 1; omega) (.slice X4 n4 z4)
      have Rs := (((Rc.aside (h := w.heap.size + 1) (i := 1) (by omega) (.int .i64 i1')).aside (h := w.heap.size + 1) (i := 2) (by omega) (.int .i64 i2')).aside (h := w.heap.size + 1) (i := 3) (by omega) (.string zz3)).aside (h := w.heap.size + 1) (i := 4) (by omega) (.slice X4 n4 z4)
      have Xs := (((Xc.put 1 (.int .i64 i1')).put 2 (.int .i64 i2')).put 3 (.string zz3)).put 4 (.slice X4 n4 z4)
      have hle1 : w.heap.size ≤ w.heap.size + 1 := Nat.le_succ _
      have Gs := grown_cell (grown_cell (grown_cell (grown_cell Gc (a := ⟨w.heap.size + 1, 1, none⟩) hle1 (.int .i64 i1')) (a := ⟨w.heap.size + 1, 2, none⟩) hle1 (.int .i64 i2')) (a := ⟨w.heap.size + 1, 3, none⟩) hle1 (.string zz3)) (a := ⟨w.heap.size + 1, 4, none⟩) hle1 (.slice X4 n4 z4)
      obtain ⟨wd, hwd⟩ : ∃ wd, wd = ((((wc.setCell ⟨w.heap.size + 1, 1, none⟩ (.int .i64 i1')).setCell ⟨w.heap.size + 1, 2, none⟩ (.int .i64 i2')).setCell ⟨w.heap.size + 1, 3, none⟩ (.string zz3)).setCell ⟨w.heap.size + 1, 4, none⟩ (.slice X4 n4 z4)) := ⟨_, rfl⟩
      have zwd : wd.heap.size = wc.heap.size := by rw [hwd]; simp [World.setCell]
      have Sd' : w.heap.size + 2 ≤ wd.heap.size := by omega
      have hxd : EX wd (fun b => w.heap.size + 2 ≤ b) 17 cx (.int .i64 i1') (.int .i64 i2') (.string zz3) (.slice X4 n4 z4) := EX.keepL 17 cx _ _ _ _ hxc (by omega) (fun b sb' hb' => by
        have h5 : wn21.heap.size ≤ b := sb'
        rw [hwd]
        exact (Below.heap_setCell _ _ _ _ (by show b ≠ w.heap.size + 1; omega)).trans ((Below.heap_setCell _ _ _ _ (by show b ≠ w.heap.size + 1; omega)).trans ((Below.heap_setCell _ _ _ _ (by show b ≠ w.heap.size + 1; omega)).trans (Below.heap_setCell _ _ _ _ (by show b ≠ w.heap.size + 1; omega))))) (fun b sb' _ => Nat.le_trans hxS sb')
      rw [← hwd] at Hs Rs Xs Gs
      have HWD := Lib.hid hwd
      have HXD := Lib.hid hxd
      have FD := World.grownBy.refl wd (some p)
      clear hco hxc hxd Hc gc Rc Xc Gc hxS hwd
      have hn := HN5.out wd Hs
      clear HN5
      go_wp2_with fail
      rw [← HWD.out]
      refine hn.mono ?_
      rintro e wn22 ⟨rfl, Hn22, gn⟩
      have Rn22 := Rs.grown gn (fun e => by injection e with e; omega)
      have Xn22 := Xs.grown gn (fun e => by injection e with e; omega)
      have Gn22 := grown_trans Gs gn
      have Sn22 : w.heap.size + 2 ≤ wn22.heap.size := by have := gn.size; have := Sd'; omega
      have Fn22 := grown_trans FD gn
      clear hn gn
      clear xf1 xf2 xf3 xf4 xc1 xc2 xc3 xc4 xlt Hs Rs Xs Gs FD HWD zwd Sc
      have hi := HI1.out wn22 Hn22
      clear HI1
      go_wp2_with fail
      skip
      refine hi.mono ?_
      rintro e wi23 ⟨rfl, mi23, hmi23⟩
      have gn : wn22.grownBy wi23 (some p) := by rw [hmi23]; exact ⟨rfl, rfl, rfl, Nat.le_refl _, fun _ _ _ => rfl⟩
      have Hi23 : Sd wi23 p n L s5 := by rw [hmi23]; exact Hn22
      have Ri23 := Rn22.grown gn (fun e => by injection e with e; omega)
      have Xi23 := Xn22.grown gn (fun e => by injection e with e; omega)
      have Gi23 := grown_trans Gn22 gn
      have Si23 : w.heap.size + 2 ≤ wi23.heap.size := by have := gn.size; have := Sn22; omega
      have Fi23 := grown_trans Fn22 gn
      clear hi gn hmi23
      have hi := HI2.out wi23 Hi23
      clear HI2
      go_wp2_with fail
      skip
      refine hi.mono ?_
      rintro e wi24 ⟨rfl, mi24, hmi24⟩
      have gn : wi23.grownBy wi24 (some p) := by rw [hmi24]; exact ⟨rfl, rfl, rfl, Nat.le_refl _, fun _ _ _ => rfl⟩
      have Hi24 : Sd wi24 p n L s5 := by rw [hmi24]; exact Hi23
      have Ri24 := Ri23.grown gn (fun e => by injection e with e; omega)
      have Xi24 := Xi23.grown gn (fun e => by injection e with e; omega)
      have Gi24 := grown_trans Gi23 gn
      have Si24 : w.heap.size + 2 ≤ wi24.heap.size := by have := gn.size; have := Si23; omega
      have Fi24 := grown_trans Fi23 gn
      clear hi gn hmi24
      have xf5 := Xi24.free 5
      have xc5 := Xi24.cell 5
      have xlt := Xi24.lt
      have Ht := Hi24.setCell (a := ⟨w.heap.size + 1, 5, none⟩) (by show p < w.heap.size + 1; omega) (.int .i64 3)
      have Rt := Ri24.aside (h := w.heap.size + 1) (i := 5) (by omega) (.int .i64 3)
      have Xt := Xi24.put 5 (.int .i64 3)
      have Gt := grown_cell Gi24 (a := ⟨w.heap.size + 1, 5, none⟩) (by show w.heap.size ≤ w.heap.size + 1; omega) (.int .i64 3)
      have St : w.heap.size + 2 ≤ (wi24.setCell ⟨w.heap.size + 1, 5, none⟩ (.int .i64 3)).heap.size := by simp [World.setCell]; exact Si24
      have HGT : Hid (∀ b, w.heap.size + 2 ≤ b → b < wd.heap.size → (wi24.setCell ⟨w.heap.size + 1, 5, none⟩ (.int .i64 3)).heap[b]? = wd.heap[b]?) := fun b hb hlt => (Below.heap_setCell _ _ _ _ (by show b ≠ w.heap.size + 1; omega)).trans (Fi24.block b hlt (fun e => by injection e with e; omega))
      have HGS : Hid (wd.heap.size ≤ (wi24.setCell ⟨w.heap.size + 1, 5, none⟩ (.int .i64 3)).heap.size) := by show _ ≤ _; have := Fi24.size; simp [World.setCell]; exact this
      have hn := HN6.out (wi24.setCell ⟨w.heap.size + 1, 5, none⟩ (.int .i64 3)) Ht
      clear HN6
      go_wp2_with fail
      skip
      refine hn.mono ?_
      rintro e wn25 ⟨rfl, Hn25, gn⟩
      have Rn25 := Rt.grown gn (fun e => by injection e with e; omega)
      have Xn25 := Xt.grown gn (fun e => by injection e with e; omega)
      have Gn25 := grown_trans Gt gn
      have Sn25 : w.heap.size + 2 ≤ wn25.heap.size := by have := gn.size; have := St; omega
      have Fn25 := grown_trans (World.grownBy.refl (wi24.setCell ⟨w.heap.size + 1, 5, none⟩ (.int .i64 3)) (some p)) gn
      clear hn gn
      have hn := HN7.out wn25 Hn25
      clear HN7
      go_wp2_with fail
      skip
      refine hn.mono ?_
      rintro e wn26 ⟨rfl, Hn26, gn⟩
      have Rn26 := Rn25.grown gn (fun e => by injection e with e; omega)
      have Xn26 := Xn25.grown gn (fun e => by injection e with e; omega)
      have Gn26 := grown_trans Gn25 gn
      have Sn26 : w.heap.size + 2 ≤ wn26.heap.size := by have := gn.size; have := Sn25; omega
      have Fn26 := grown_trans Fn25 gn
      clear hn gn
      have hle2 : w.heap.size ≤ w.heap.size := Nat.le_refl _
      have xfin : KB wn26 (w.heap.size + 1) 44 #[.string z2, .int .i64 i1', .int .i64 i2', .string zz3, .slice X4 n4 z4, .int .i64 3] := Xn26
      have f0 := Rn26.free 0
      have f1 := Rn26.free 1
      have f2 := Rn26.free 2
      have f3 := Rn26.free 3
      have f4 := Rn26.free 4
      have f5 := Rn26.free 5
      have r0 := Rn26.cell 0
      have r1 := Rn26.cell 1
      have r2 := Rn26.cell 2
      have r3 := Rn26.cell 3
      have r4 := Rn26.cell 4
      have r5 := Rn26.cell 5
      have x0 := xfin.cell 0
      have x1 := xfin.cell 1
      have x2 := xfin.cell 2
      have x3 := xfin.cell 3
      have x4 := xfin.cell 4
      have x5 := xfin.cell 5
      have hg0 := Rn26.lt
      have hg1 := xfin.lt
      obtain ⟨W5, hW5⟩ : ∃ W5, W5 = ((((((wn26.setCell ⟨w.heap.size, 0, none⟩ (.string z2)).setCell ⟨w.heap.size, 1, none⟩ (.int .i64 i1')).setCell ⟨w.heap.size, 2, none⟩ (.int .i64 i2')).setCell ⟨w.heap.size, 3, none⟩ (.string zz3)).setCell ⟨w.heap.size, 4, none⟩ (.slice X4 n4 z4)).setCell ⟨w.heap.size, 5, none⟩ (.int .i64 3)) := ⟨_, rfl⟩
      have kfin := Rn26.put6 (.string z2) (.int .i64 i1') (.int .i64 i2') (.string zz3) (.slice X4 n4 z4) (.int .i64 3)
      have st5 := (((((Hn26.setCell (a := ⟨w.heap.size, 0, none⟩) hp (.string z2)).setCell (a := ⟨w.heap.size, 1, none⟩) hp (.int .i64 i1')).setCell (a := ⟨w.heap.size, 2, none⟩) hp (.int .i64 i2')).setCell (a := ⟨w.heap.size, 3, none⟩) hp (.string zz3)).setCell (a := ⟨w.heap.size, 4, none⟩) hp (.slice X4 n4 z4)).setCell (a := ⟨w.heap.size, 5, none⟩) hp (.int .i64 3)
      have gr5 := grown_cell (grown_cell (grown_four Gn26 hle2 (.string z2) (.int .i64 i1') (.int .i64 i2') (.string zz3)) (a := ⟨w.heap.size, 4, none⟩) hle2 (.slice X4 n4 z4)) (a := ⟨w.heap.size, 5, none⟩) hle2 (.int .i64 3)
      have hblk : ∀ b, w.heap.size + 2 ≤ b → b < wd.heap.size → W5.heap[b]? = wd.heap[b]? := fun b hb hlt => by
        have e1 : W5.heap[b]? = wn26.heap[b]? := by
          rw [hW5]
          exact (Below.heap_setCell _ _ _ _ (by show b ≠ w.heap.size; omega)).trans ((Below.heap_setCell _ _ _ _ (by show b ≠ w.heap.size; omega)).trans ((Below.heap_setCell _ _ _ _ (by show b ≠ w.heap.size; omega)).trans ((Below.heap_setCell _ _ _ _ (by show b ≠ w.heap.size; omega)).trans ((Below.heap_setCell _ _ _ _ (by show b ≠ w.heap.size; omega)).trans (Below.heap_setCell _ _ _ _ (by show b ≠ w.heap.size; omega))))))
        exact e1.trans ((Fn26.block b (Nat.lt_of_lt_of_le hlt HGS.out) (fun e => by injection e with e; omega)).trans (HGT.out b hb hlt))
      have hsz5 : wd.heap.size ≤ W5.heap.size := by
        have h1 := Nat.le_trans HGS.out Fn26.size
        have h3 : W5.heap.size = wn26.heap.size := by rw [hW5]; simp [World.setCell]
        rw [h3]; exact h1
      rw [← hW5] at kfin st5 gr5
      have hfin := HD.out W5 z2 i1' i2' zz3 X4 n4 z4 3 ⟨HZ2.out.symm, HCL.out, EX.keepL 17 cx _ _ _ _ HXD.out hsz5 (fun b sb' hlt => hblk b sb' hlt) (fun b sb' _ => by have h9 : w.heap.size + 2 ≤ b := sb'; show w.heap.size ≤ b; omega), rfl, by show I64 3; unfold I64; omega⟩ st5 gr5
      have HW5 := Lib.hid hW5
      clear hW5 hblk hsz5 st5 gr5 xfin Rn26 Xn26 Hn26 Gn26 Fn26 Ht Rt Xt Gt St HGT HGS HD HXD HZ2 HCL
      go_wp2_with fail
      rw [← HW5.out]
      exact bodyPost_ret (results_cell (P := Tryz.prog) rfl _ _ w.heap.size _ _ (0, 0) _ rfl kfin Tryz.underlying44 rfl (by kernel_rfl)) rfl hfin
  · skip
    have hof : ofP s = ([], (nextP 1 defaultP s).2) := by unfold ofP; rw [if_neg hc]
    rw [hof] at HD
    have hc0 : isP 1 classP s = false := by simpa using hc
    have HI0 := isd_some p n L s 1 classP false hc0 _ rfl
    obtain ⟨k1, z1, i1, a1, hz1, hi1, HN1⟩ := nextd_some p n L s 1 defaultP
    clear hz1 hi1
    have HCL : Hid (([] : List UInt8).length ≤ maxLen) := by show _ ≤ _; simp
    have HZ2 : Hid (strV ([] : List UInt8) = .string ⟨#[]⟩) := rfl
    generalize (nextP 1 defaultP s).2 = so at *
    have hw1 : strV defaultP = .string ⟨#[100, 101, 102, 97, 117, 108, 116]⟩ := rfl
    rw [hw1] at HN1
    clear hof hc hc0 hw1 HFI
    dsimp only at HD
    obtain ⟨k3, z3, i3, a3, hz3, hi3, HN3⟩ := nextd_some p n L so 1 keepP
    clear hz3 hi3
    generalize (nextP 1 keepP so).2 = s3 at *
    have HC3 := Lib.hid (HCO.out s3)
    generalize condP 8 s3 = co at *
    obtain ⟨cx, s4⟩ := co
    dsimp only at HD HC3
    obtain ⟨k5, z5, i5, a5, hz5, hi5, HN5⟩ := nextd_some p n L s4 1 thenP
    clear hz5 hi5
    generalize (nextP 1 thenP s4).2 = s5 at *
    have hw3 : strV keepP = .string ⟨#[107, 101, 101, 112]⟩ := rfl
    have hw5 : strV thenP = .string ⟨#[116, 104, 101, 110]⟩ := rfl
    rw [hw3] at HN3
    rw [hw5] at HN5
    clear HCO hw3 hw5
    by_cases hd : isP 1 destroyP s5 = true
    · have hac : actP s5 = (1, (nextP 1 destroyP s5).2) := by unfold actP; rw [if_pos hd]
      have HI1 := isd_some p n L s5 1 destroyP true hd _ rfl
      rw [hac] at HD
      dsimp only at HD
      obtain ⟨k6, z6, i6, a6, hz6, hi6, HN6⟩ := nextd_some p n L s5 1 destroyP
      clear hz6 hi6 hac hd
      generalize (nextP 1 destroyP s5).2 = s6 at *
      obtain ⟨k7, z7, i7, a7, hz7, hi7, HN7⟩ := nextd_some p n L s6 6 []
      clear hz7 hi7
      generalize (nextP 6 [] s6).2 = s7 at *
      have hw6 : strV destroyP = .string ⟨#[100, 101, 115, 116, 114, 111, 121]⟩ := rfl
      have hw7 : strV [] = .string ⟨#[]⟩ := rfl
      rw [hw6] at HN6
      rw [hw7] at HN7
      clear hw6 hw7
      go_enter Tryz.func19, Tryz.ntmps19
      have hi := HI0.out v0 H0
      clear HI0
      go_wp2_with fail
      rw [← HVV.out]
      refine hi.mono ?_
      rintro e wi1 ⟨rfl, mi1, hmi1⟩
      have gn : v0.grownBy wi1 (some p) := by rw [hmi1]; exact ⟨rfl, rfl, rfl, Nat.le_refl _, fun _ _ _ => rfl⟩
      have Hi1 : Sd wi1 p n L s := by rw [hmi1]; exact H0
      have Ri1 := R0.grown gn (fun e => by injection e with e; omega)
      have Xi1 := X0.grown gn (fun e => by injection e with e; omega)
      have Gi1 := grown_trans G0 gn
      have Si1 : w.heap.size + 2 ≤ wi1.heap.size := by have := gn.size; have := S0; omega
      clear hi gn hmi1
      clear HVV R0 X0 H0 G0 S0
      have hn := HN1.out wi1 Hi1
      clear HN1
      go_wp2_with fail
      skip
      refine hn.mono ?_
      rintro e wn2 ⟨rfl, Hn2, gn⟩
      have Rn2 := Ri1.grown gn (fun e => by injection e with e; omega)
      have Xn2 := Xi1.grown gn (fun e => by injection e with e; omega)
      have Gn2 := grown_trans Gi1 gn
      have Sn2 : w.heap.size + 2 ≤ wn2.heap.size := by have := gn.size; have := Si1; omega
      clear hn gn
      have hn := HN3.out wn2 Hn2
      clear HN3
      go_wp2_with fail
      skip
      refine hn.mono ?_
      rintro e wn3 ⟨rfl, Hn3, gn⟩
      have Rn3 := Rn2.grown gn (fun e => by injection e with e; omega)
      have Xn3 := Xn2.grown gn (fun e => by injection e with e; omega)
      have Gn3 := grown_trans Gn2 gn
      have Sn3 : w.heap.size + 2 ≤ wn3.heap.size := by have := gn.size; have := Sn2; omega
      clear hn gn
      have hco := HC3.out wn3 Hn3
      clear HC3
      go_wp2_with fail
      refine hco.mono ?_
      rintro e wc ⟨i1', i2', zz3, X4, n4, z4, rfl, hxc, Hc, gc⟩
      have Rc := Rn3.grown gc (fun e => by injection e with e; omega)
      have Xc := Xn3.grown gc (fun e => by injection e with e; omega)
      have Gc := grown_trans Gn3 gc
      have Sc : w.heap.size + 2 ≤ wc.heap.size := by have := gc.size; omega
      have hxS : w.heap.size + 2 ≤ wn3.heap.size := Sn3
      have xf1 := Xc.free 1
      have xf2 := Xc.free 2
      have xf3 := Xc.free 3
      have xf4 := Xc.free 4
      have xc1 := Xc.cell 1
      have xc2 := Xc.cell 2
      have xc3 := Xc.cell 3
      have xc4 := Xc.cell 4
      have xlt := Xc.lt
      have Hs := (((Hc.setCell (a := ⟨w.heap.size + 1, 1, none⟩) (by show p < w.heap.size + 1; omega) (.int .i64 i1')).setCell (a := ⟨w.heap.size + 1, 2, none⟩) (by show p < w.heap.size + 1; omega) (.int .i64 i2')).setCell (a := ⟨w.heap.size + 1, 3, none⟩) (by show p < w.heap.size + 1; omega) (.string zz3)).setCell (a := ⟨w.heap.size + 1, 4, none⟩) (by show p < w.heap.size + 1; omega) (.slice X4 n4 z4)
      have Rs := (((Rc.aside (h := w.heap.size + 1) (i := 1) (by omega) (.int .i64 i1')).aside (h := w.heap.size + 1) (i := 2) (by omega) (.int .i64 i2')).aside (h := w.heap.size + 1) (i := 3) (by omega) (.string zz3)).aside (h := w.heap.size + 1) (i := 4) (by omega) (.slice X4 n4 z4)
      have Xs := (((Xc.put 1 (.int .i64 i1')).put 2 (.int .i64 i2')).put 3 (.string zz3)).put 4 (.slice X4 n4 z4)
      have hle1 : w.heap.size ≤ w.heap.size + 1 := Nat.le_succ _
      have Gs := grown_cell (grown_cell (grown_cell (grown_cell Gc (a := ⟨w.heap.size + 1, 1, none⟩) hle1 (.int .i64 i1')) (a := ⟨w.heap.size + 1, 2, none⟩) hle1 (.int .i64 i2')) (a := ⟨w.heap.size + 1, 3, none⟩) hle1 (.string zz3)) (a := ⟨w.heap.size + 1, 4, none⟩) hle1 (.slice X4 n4 z4)
      obtain ⟨wd, hwd⟩ : ∃ wd, wd = ((((wc.setCell ⟨w.heap.size + 1, 1, none⟩ (.int .i64 i1')).setCell ⟨w.heap.size + 1, 2, none⟩ (.int .i64 i2')).setCell ⟨w.heap.size + 1, 3, none⟩ (.string zz3)).setCell ⟨w.heap.size + 1, 4, none⟩ (.slice X4 n4 z4)) := ⟨_, rfl⟩
      have zwd : wd.heap.size = wc.heap.size := by rw [hwd]; simp [World.setCell]
      have Sd' : w.heap.size + 2 ≤ wd.heap.size := by omega
      have hxd : EX wd (fun b => w.heap.size + 2 ≤ b) 17 cx (.int .i64 i1') (.int .i64 i2') (.string zz3) (.slice X4 n4 z4) := EX.keepL 17 cx _ _ _ _ hxc (by omega) (fun b sb' hb' => by
        have h5 : wn3.heap.size ≤ b := sb'
        rw [hwd]
        exact (Below.heap_setCell _ _ _ _ (by show b ≠ w.heap.size + 1; omega)).trans ((Below.heap_setCell _ _ _ _ (by show b ≠ w.heap.size + 1; omega)).trans ((Below.heap_setCell _ _ _ _ (by show b ≠ w.heap.size + 1; omega)).trans (Below.heap_setCell _ _ _ _ (by show b ≠ w.heap.size + 1; omega))))) (fun b sb' _ => Nat.le_trans hxS sb')
      rw [← hwd] at Hs Rs Xs Gs
      have HWD := Lib.hid hwd
      have HXD := Lib.hid hxd
      have FD := World.grownBy.refl wd (some p)
      clear hco hxc hxd Hc gc Rc Xc Gc hxS hwd
      have hn := HN5.out wd Hs
      clear HN5
      go_wp2_with fail
      rw [← HWD.out]
      refine hn.mono ?_
      rintro e wn4 ⟨rfl, Hn4, gn⟩
      have Rn4 := Rs.grown gn (fun e => by injection e with e; omega)
      have Xn4 := Xs.grown gn (fun e => by injection e with e; omega)
      have Gn4 := grown_trans Gs gn
      have Sn4 : w.heap.size + 2 ≤ wn4.heap.size := by have := gn.size; have := Sd'; omega
      have Fn4 := grown_trans FD gn
      clear hn gn
      clear xf1 xf2 xf3 xf4 xc1 xc2 xc3 xc4 xlt Hs Rs Xs Gs FD HWD zwd Sc
      have hi := HI1.out wn4 Hn4
      clear HI1
      go_wp2_with fail
      skip
      refine hi.mono ?_
      rintro e wi5 ⟨rfl, mi5, hmi5⟩
      have gn : wn4.grownBy wi5 (some p) := by rw [hmi5]; exact ⟨rfl, rfl, rfl, Nat.le_refl _, fun _ _ _ => rfl⟩
      have Hi5 : Sd wi5 p n L s5 := by rw [hmi5]; exact Hn4
      have Ri5 := Rn4.grown gn (fun e => by injection e with e; omega)
      have Xi5 := Xn4.grown gn (fun e => by injection e with e; omega)
      have Gi5 := grown_trans Gn4 gn
      have Si5 : w.heap.size + 2 ≤ wi5.heap.size := by have := gn.size; have := Sn4; omega
      have Fi5 := grown_trans Fn4 gn
      clear hi gn hmi5
      have xf5 := Xi5.free 5
      have xc5 := Xi5.cell 5
      have xlt := Xi5.lt
      have Ht := Hi5.setCell (a := ⟨w.heap.size + 1, 5, none⟩) (by show p < w.heap.size + 1; omega) (.int .i64 1)
      have Rt := Ri5.aside (h := w.heap.size + 1) (i := 5) (by omega) (.int .i64 1)
      have Xt := Xi5.put 5 (.int .i64 1)
      have Gt := grown_cell Gi5 (a := ⟨w.heap.size + 1, 5, none⟩) (by show w.heap.size ≤ w.heap.size + 1; omega) (.int .i64 1)
      have St : w.heap.size + 2 ≤ (wi5.setCell ⟨w.heap.size + 1, 5, none⟩ (.int .i64 1)).heap.size := by simp [World.setCell]; exact Si5
      have HGT : Hid (∀ b, w.heap.size + 2 ≤ b → b < wd.heap.size → (wi5.setCell ⟨w.heap.size + 1, 5, none⟩ (.int .i64 1)).heap[b]? = wd.heap[b]?) := fun b hb hlt => (Below.heap_setCell _ _ _ _ (by show b ≠ w.heap.size + 1; omega)).trans (Fi5.block b hlt (fun e => by injection e with e; omega))
      have HGS : Hid (wd.heap.size ≤ (wi5.setCell ⟨w.heap.size + 1, 5, none⟩ (.int .i64 1)).heap.size) := by show _ ≤ _; have := Fi5.size; simp [World.setCell]; exact this
      have hn := HN6.out (wi5.setCell ⟨w.heap.size + 1, 5, none⟩ (.int .i64 1)) Ht
      clear HN6
      go_wp2_with fail
      skip
      refine hn.mono ?_
      rintro e wn6 ⟨rfl, Hn6, gn⟩
      have Rn6 := Rt.grown gn (fun e => by injection e with e; omega)
      have Xn6 := Xt.grown gn (fun e => by injection e with e; omega)
      have Gn6 := grown_trans Gt gn
      have Sn6 : w.heap.size + 2 ≤ wn6.heap.size := by have := gn.size; have := St; omega
      have Fn6 := grown_trans (World.grownBy.refl (wi5.setCell ⟨w.heap.size + 1, 5, none⟩ (.int .i64 1)) (some p)) gn
      clear hn gn
      have hn := HN7.out wn6 Hn6
      clear HN7
      go_wp2_with fail
      skip
      refine hn.mono ?_
      rintro e wn7 ⟨rfl, Hn7, gn⟩
      have Rn7 := Rn6.grown gn (fun e => by injection e with e; omega)
      have Xn7 := Xn6.grown gn (fun e => by injection e with e; omega)
      have Gn7 := grown_trans Gn6 gn
      have Sn7 : w.heap.size + 2 ≤ wn7.heap.size := by have := gn.size; have := Sn6; omega
      have Fn7 := grown_trans Fn6 gn
      clear hn gn
      have hle2 : w.heap.size ≤ w.heap.size := Nat.le_refl _
      have xfin : KB wn7 (w.heap.size + 1) 44 #[.string ⟨#[]⟩, .int .i64 i1', .int .i64 i2', .string zz3, .slice X4 n4 z4, .int .i64 1] := Xn7
      have f0 := Rn7.free 0
      have f1 := Rn7.free 1
      have f2 := Rn7.free 2
      have f3 := Rn7.free 3
      have f4 := Rn7.free 4
      have f5 := Rn7.free 5
      have r0 := Rn7.cell 0
      have r1 := Rn7.cell 1
      have r2 := Rn7.cell 2
      have r3 := Rn7.cell 3
      have r4 := Rn7.cell 4
      have r5 := Rn7.cell 5
      have x0 := xfin.cell 0
      have x1 := xfin.cell 1
      have x2 := xfin.cell 2
      have x3 := xfin.cell 3
      have x4 := xfin.cell 4
      have x5 := xfin.cell 5
      have hg0 := Rn7.lt
      have hg1 := xfin.lt
      obtain ⟨W5, hW5⟩ : ∃ W5, W5 = ((((((wn7.setCell ⟨w.heap.size, 0, none⟩ (.string ⟨#[]⟩)).setCell ⟨w.heap.size, 1, none⟩ (.int .i64 i1')).setCell ⟨w.heap.size, 2, none⟩ (.int .i64 i2')).setCell ⟨w.heap.size, 3, none⟩ (.string zz3)).setCell ⟨w.heap.size, 4, none⟩ (.slice X4 n4 z4)).setCell ⟨w.heap.size, 5, none⟩ (.int .i64 1)) := ⟨_, rfl⟩
      have kfin := Rn7.put6 (.string ⟨#[]⟩) (.int .i64 i1') (.int .i64 i2') (.string zz3) (.slice X4 n4 z4) (.int .i64 1)
      have st5 := (((((Hn7.setCell (a := ⟨w.heap.size, 0, none⟩) hp (.string ⟨#[]⟩)).setCell (a := ⟨w.heap.size, 1, none⟩) hp (.int .i64 i1')).setCell (a := ⟨w.heap.size, 2, none⟩) hp (.int .i64 i2')).setCell (a := ⟨w.heap.size, 3, none⟩) hp (.string zz3)).setCell (a := ⟨w.heap.size, 4, none⟩) hp (.slice X4 n4 z4)).setCell (a := ⟨w.heap.size, 5, none⟩) hp (.int .i64 1)
      have gr5 := grown_cell (grown_cell (grown_four Gn7 hle2 (.string ⟨#[]⟩) (.int .i64 i1') (.int .i64 i2') (.string zz3)) (a := ⟨w.heap.size, 4, none⟩) hle2 (.slice X4 n4 z4)) (a := ⟨w.heap.size, 5, none⟩) hle2 (.int .i64 1)
      have hblk : ∀ b, w.heap.size + 2 ≤ b → b < wd.heap.size → W5.heap[b]? = wd.heap[b]? := fun b hb hlt => by
        have e1 : W5.heap[b]? = wn7.heap[b]? := by
          rw [hW5]
          exact (Below.heap_setCell _ _ _ _ (by show b ≠ w.heap.size; omega)).trans ((Below.heap_setCell _ _ _ _ (by show b ≠ w.heap.size; omega)).trans ((Below.heap_setCell _ _ _ _ (by show b ≠ w.heap.size; omega)).trans ((Below.heap_setCell _ _ _ _ (by show b ≠ w.heap.size; omega)).trans ((Below.heap_setCell _ _ _ _ (by show b ≠ w.heap.size; omega)).trans (Below.heap_setCell _ _ _ _ (by show b ≠ w.heap.size; omega))))))
        exact e1.trans ((Fn7.block b (Nat.lt_of_lt_of_le hlt HGS.out) (fun e => by injection e with e; omega)).trans (HGT.out b hb hlt))
      have hsz5 : wd.heap.size ≤ W5.heap.size := by
        have h1 := Nat.le_trans HGS.out Fn7.size
        have h3 : W5.heap.size = wn7.heap.size := by rw [hW5]; simp [World.setCell]
        rw [h3]; exact h1
      rw [← hW5] at kfin st5 gr5
      have hfin := HD.out W5 ⟨#[]⟩ i1' i2' zz3 X4 n4 z4 1 ⟨HZ2.out.symm, HCL.out, EX.keepL 17 cx _ _ _ _ HXD.out hsz5 (fun b sb' hlt => hblk b sb' hlt) (fun b sb' _ => by have h9 : w.heap.size + 2 ≤ b := sb'; show w.heap.size ≤ b; omega), rfl, by show I64 1; unfold I64; omega⟩ st5 gr5
      have HW5 := Lib.hid hW5
      clear hW5 hblk hsz5 st5 gr5 xfin Rn7 Xn7 Hn7 Gn7 Fn7 Ht Rt Xt Gt St HGT HGS HD HXD HZ2 HCL
      go_wp2_with fail
      rw [← HW5.out]
      exact bodyPost_ret (results_cell (P := Tryz.prog) rfl _ _ w.heap.size _ _ (0, 0) _ rfl kfin Tryz.underlying44 rfl (by kernel_rfl)) rfl hfin
    by_cases hr : isP 1 reviewP s5 = true
    · have hac : actP s5 = (2, (nextP 1 reviewP s5).2) := by unfold actP; rw [if_neg hd, if_pos hr]
      have hd0 : isP 1 destroyP s5 = false := by simpa using hd
      have HI1 := isd_some p n L s5 1 destroyP false hd0 _ rfl
      clear hd0
      have HI2 := isd_some p n L s5 1 reviewP true hr _ rfl
      clear hr
      rw [hac] at HD
      dsimp only at HD
      obtain ⟨k6, z6, i6, a6, hz6, hi6, HN6⟩ := nextd_some p n L s5 1 reviewP
      clear hz6 hi6 hac hd
      generalize (nextP 1 reviewP s5).2 = s6 at *
      obtain ⟨k7, z7, i7, a7, hz7, hi7, HN7⟩ := nextd_some p n L s6 6 []
      clear hz7 hi7
      generalize (nextP 6 [] s6).2 = s7 at *
      have hw6 : strV reviewP = .string ⟨#[114, 101, 118, 105, 101, 119]⟩ := rfl
      have hw7 : strV [] = .string ⟨#[]⟩ := rfl
      rw [hw6] at HN6
      rw [hw7] at HN7
      clear hw6 hw7
      go_enter Tryz.func19, Tryz.ntmps19
      have hi := HI0.out v0 H0
      clear HI0
      go_wp2_with fail
      rw [← HVV.out]
      refine hi.mono ?_
      rintro e wi8 ⟨rfl, mi8, hmi8⟩
      have gn : v0.grownBy wi8 (some p) := by rw [hmi8]; exact ⟨rfl, rfl, rfl, Nat.le_refl _, fun _ _ _ => rfl⟩
      have Hi8 : Sd wi8 p n L s := by rw [hmi8]; exact H0
      have Ri8 := R0.grown gn (fun e => by injection e with e; omega)
      have Xi8 := X0.grown gn (fun e => by injection e with e; omega)
      have Gi8 := grown_trans G0 gn
      have Si8 : w.heap.size + 2 ≤ wi8.heap.size := by have := gn.size; have := S0; omega
      clear hi gn hmi8
      clear HVV R0 X0 H0 G0 S0
      have hn := HN1.out wi8 Hi8
      clear HN1
      go_wp2_with fail
      skip
      refine hn.mono ?_
      rintro e wn9 ⟨rfl, Hn9, gn⟩
      have Rn9 := Ri8.grown gn (fun e => by injection e with e; omega)
      have Xn9 := Xi8.grown gn (fun e => by injection e with e; omega)
      have Gn9 := grown_trans Gi8 gn
      have Sn9 : w.heap.size + 2 ≤ wn9.heap.size := by have := gn.size; have := Si8; omega
      clear hn gn
      have hn := HN3.out wn9 Hn9
      clear HN3
      go_wp2_with fail
      skip
      refine hn.mono ?_
      rintro e wn10 ⟨rfl, Hn10, gn⟩
      have Rn10 := Rn9.grown gn (fun e => by injection e with e; omega)
      have Xn10 := Xn9.grown gn (fun e => by injection e with e; omega)
      have Gn10 := grown_trans Gn9 gn
      have Sn10 : w.heap.size + 2 ≤ wn10.heap.size := by have := gn.size; have := Sn9; omega
      clear hn gn
      have hco := HC3.out wn10 Hn10
      clear HC3
      go_wp2_with fail
      refine hco.mono ?_
      rintro e wc ⟨i1', i2', zz3, X4, n4, z4, rfl, hxc, Hc, gc⟩
      have Rc := Rn10.grown gc (fun e => by injection e with e; omega)
      have Xc := Xn10.grown gc (fun e => by injection e with e; omega)
      have Gc := grown_trans Gn10 gc
      have Sc : w.heap.size + 2 ≤ wc.heap.size := by have := gc.size; omega
      have hxS : w.heap.size + 2 ≤ wn10.heap.size := Sn10
      have xf1 := Xc.free 1
      have xf2 := Xc.free 2
      have xf3 := Xc.free 3
      have xf4 := Xc.free 4
      have xc1 := Xc.cell 1
      have xc2 := Xc.cell 2
      have xc3 := Xc.cell 3
      have xc4 := Xc.cell 4
      have xlt := Xc.lt
      have Hs := (((Hc.setCell (a := ⟨w.heap.size + 1, 1, none⟩) (by show p < w.heap.size + 1; omega) (.int .i64 i1')).setCell (a := ⟨w.heap.size + 1, 2, none⟩) (by show p < w.heap.size + 1; omega) (.int .i64 i2')).setCell (a := ⟨w.heap.size + 1, 3, none⟩) (by show p < w.heap.size + 1; omega) (.string zz3)).setCell (a := ⟨w.heap.size + 1, 4, none⟩) (by show p < w.heap.size + 1; omega) (.slice X4 n4 z4)
      have Rs := (((Rc.aside (h := w.heap.size + 1) (i := 1) (by omega) (.int .i64 i1')).aside (h := w.heap.size + 1) (i := 2) (by omega) (.int .i64 i2')).aside (h := w.heap.size + 1) (i := 3) (by omega) (.string zz3)).aside (h := w.heap.size + 1) (i := 4) (by omega) (.slice X4 n4 z4)
      have Xs := (((Xc.put 1 (.int .i64 i1')).put 2 (.int .i64 i2')).put 3 (.string zz3)).put 4 (.slice X4 n4 z4)
      have hle1 : w.heap.size ≤ w.heap.size + 1 := Nat.le_succ _
      have Gs := grown_cell (grown_cell (grown_cell (grown_cell Gc (a := ⟨w.heap.size + 1, 1, none⟩) hle1 (.int .i64 i1')) (a := ⟨w.heap.size + 1, 2, none⟩) hle1 (.int .i64 i2')) (a := ⟨w.heap.size + 1, 3, none⟩) hle1 (.string zz3)) (a := ⟨w.heap.size + 1, 4, none⟩) hle1 (.slice X4 n4 z4)
      obtain ⟨wd, hwd⟩ : ∃ wd, wd = ((((wc.setCell ⟨w.heap.size + 1, 1, none⟩ (.int .i64 i1')).setCell ⟨w.heap.size + 1, 2, none⟩ (.int .i64 i2')).setCell ⟨w.heap.size + 1, 3, none⟩ (.string zz3)).setCell ⟨w.heap.size + 1, 4, none⟩ (.slice X4 n4 z4)) := ⟨_, rfl⟩
      have zwd : wd.heap.size = wc.heap.size := by rw [hwd]; simp [World.setCell]
      have Sd' : w.heap.size + 2 ≤ wd.heap.size := by omega
      have hxd : EX wd (fun b => w.heap.size + 2 ≤ b) 17 cx (.int .i64 i1') (.int .i64 i2') (.string zz3) (.slice X4 n4 z4) := EX.keepL 17 cx _ _ _ _ hxc (by omega) (fun b sb' hb' => by
        have h5 : wn10.heap.size ≤ b := sb'
        rw [hwd]
        exact (Below.heap_setCell _ _ _ _ (by show b ≠ w.heap.size + 1; omega)).trans ((Below.heap_setCell _ _ _ _ (by show b ≠ w.heap.size + 1; omega)).trans ((Below.heap_setCell _ _ _ _ (by show b ≠ w.heap.size + 1; omega)).trans (Below.heap_setCell _ _ _ _ (by show b ≠ w.heap.size + 1; omega))))) (fun b sb' _ => Nat.le_trans hxS sb')
      rw [← hwd] at Hs Rs Xs Gs
      have HWD := Lib.hid hwd
      have HXD := Lib.hid hxd
      have FD := World.grownBy.refl wd (some p)
      clear hco hxc hxd Hc gc Rc Xc Gc hxS hwd
      have hn := HN5.out wd Hs
      clear HN5
      go_wp2_with fail
      rw [← HWD.out]
      refine hn.mono ?_
      rintro e wn11 ⟨rfl, Hn11, gn⟩
      have Rn11 := Rs.grown gn (fun e => by injection e with e; omega)
      have Xn11 := Xs.grown gn (fun e => by injection e with e; omega)
      have Gn11 := grown_trans Gs gn
      have Sn11 : w.heap.size + 2 ≤ wn11.heap.size := by have := gn.size; have := Sd'; omega
      have Fn11 := grown_trans FD gn
      clear hn gn
      clear xf1 xf2 xf3 xf4 xc1 xc2 xc3 xc4 xlt Hs Rs Xs Gs FD HWD zwd Sc
      have hi := HI1.out wn11 Hn11
      clear HI1
      go_wp2_with fail
      skip
      refine hi.mono ?_
      rintro e wi12 ⟨rfl, mi12, hmi12⟩
      have gn : wn11.grownBy wi12 (some p) := by rw [hmi12]; exact ⟨rfl, rfl, rfl, Nat.le_refl _, fun _ _ _ => rfl⟩
      have Hi12 : Sd wi12 p n L s5 := by rw [hmi12]; exact Hn11
      have Ri12 := Rn11.grown gn (fun e => by injection e with e; omega)
      have Xi12 := Xn11.grown gn (fun e => by injection e with e; omega)
      have Gi12 := grown_trans Gn11 gn
      have Si12 : w.heap.size + 2 ≤ wi12.heap.size := by have := gn.size; have := Sn11; omega
      have Fi12 := grown_trans Fn11 gn
      clear hi gn hmi12
      have hi := HI2.out wi12 Hi12
      clear HI2
      go_wp2_with fail
      skip
      refine hi.mono ?_
      rintro e wi13 ⟨rfl, mi13, hmi13⟩
      have gn : wi12.grownBy wi13 (some p) := by rw [hmi13]; exact ⟨rfl, rfl, rfl, Nat.le_refl _, fun _ _ _ => rfl⟩
      have Hi13 : Sd wi13 p n L s5 := by rw [hmi13]; exact Hi12
      have Ri13 := Ri12.grown gn (fun e => by injection e with e; omega)
      have Xi13 := Xi12.grown gn (fun e => by injection e with e; omega)
      have Gi13 := grown_trans Gi12 gn
      have Si13 : w.heap.size + 2 ≤ wi13.heap.size := by have := gn.size; have := Si12; omega
      have Fi13 := grown_trans Fi12 gn
      clear hi gn hmi13
      have xf5 := Xi13.free 5
      have xc5 := Xi13.cell 5
      have xlt := Xi13.lt
      have Ht := Hi13.setCell (a := ⟨w.heap.size + 1, 5, none⟩) (by show p < w.heap.size + 1; omega) (.int .i64 2)
      have Rt := Ri13.aside (h := w.heap.size + 1) (i := 5) (by omega) (.int .i64 2)
      have Xt := Xi13.put 5 (.int .i64 2)
      have Gt := grown_cell Gi13 (a := ⟨w.heap.size + 1, 5, none⟩) (by show w.heap.size ≤ w.heap.size + 1; omega) (.int .i64 2)
      have St : w.heap.size + 2 ≤ (wi13.setCell ⟨w.heap.size + 1, 5, none⟩ (.int .i64 2)).heap.size := by simp [World.setCell]; exact Si13
      have HGT : Hid (∀ b, w.heap.size + 2 ≤ b → b < wd.heap.size → (wi13.setCell ⟨w.heap.size + 1, 5, none⟩ (.int .i64 2)).heap[b]? = wd.heap[b]?) := fun b hb hlt => (Below.heap_setCell _ _ _ _ (by show b ≠ w.heap.size + 1; omega)).trans (Fi13.block b hlt (fun e => by injection e with e; omega))
      have HGS : Hid (wd.heap.size ≤ (wi13.setCell ⟨w.heap.size + 1, 5, none⟩ (.int .i64 2)).heap.size) := by show _ ≤ _; have := Fi13.size; simp [World.setCell]; exact this
      have hn := HN6.out (wi13.setCell ⟨w.heap.size + 1, 5, none⟩ (.int .i64 2)) Ht
      clear HN6
      go_wp2_with fail
      skip
      refine hn.mono ?_
      rintro e wn14 ⟨rfl, Hn14, gn⟩
      have Rn14 := Rt.grown gn (fun e => by injection e with e; omega)
      have Xn14 := Xt.grown gn (fun e => by injection e with e; omega)
      have Gn14 := grown_trans Gt gn
      have Sn14 : w.heap.size + 2 ≤ wn14.heap.size := by have := gn.size; have := St; omega
      have Fn14 := grown_trans (World.grownBy.refl (wi13.setCell ⟨w.heap.size + 1, 5, none⟩ (.int .i64 2)) (some p)) gn
      clear hn gn
      have hn := HN7.out wn14 Hn14
      clear HN7
      go_wp2_with fail
      skip
      refine hn.mono ?_
      rintro e wn15 ⟨rfl, Hn15, gn⟩
      have Rn15 := Rn14.grown gn (fun e => by injection e with e; omega)
      have Xn15 := Xn14.grown gn (fun e => by injection e with e; omega)
      have Gn15 := grown_trans Gn14 gn
      have Sn15 : w.heap.size + 2 ≤ wn15.heap.size := by have := gn.size; have := Sn14; omega
      have Fn15 := grown_trans Fn14 gn
      clear hn gn
      have hle2 : w.heap.size ≤ w.heap.size := Nat.le_refl _
      have xfin : KB wn15 (w.heap.size + 1) 44 #[.string ⟨#[]⟩, .int .i64 i1', .int .i64 i2', .string zz3, .slice X4 n4 z4, .int .i64 2] := Xn15
      have f0 := Rn15.free 0
      have f1 := Rn15.free 1
      have f2 := Rn15.free 2
      have f3 := Rn15.free 3
      have f4 := Rn15.free 4
      have f5 := Rn15.free 5
      have r0 := Rn15.cell 0
      have r1 := Rn15.cell 1
      have r2 := Rn15.cell 2
      have r3 := Rn15.cell 3
      have r4 := Rn15.cell 4
      have r5 := Rn15.cell 5
      have x0 := xfin.cell 0
      have x1 := xfin.cell 1
      have x2 := xfin.cell 2
      have x3 := xfin.cell 3
      have x4 := xfin.cell 4
      have x5 := xfin.cell 5
      have hg0 := Rn15.lt
      have hg1 := xfin.lt
      obtain ⟨W5, hW5⟩ : ∃ W5, W5 = ((((((wn15.setCell ⟨w.heap.size, 0, none⟩ (.string ⟨#[]⟩)).setCell ⟨w.heap.size, 1, none⟩ (.int .i64 i1')).setCell ⟨w.heap.size, 2, none⟩ (.int .i64 i2')).setCell ⟨w.heap.size, 3, none⟩ (.string zz3)).setCell ⟨w.heap.size, 4, none⟩ (.slice X4 n4 z4)).setCell ⟨w.heap.size, 5, none⟩ (.int .i64 2)) := ⟨_, rfl⟩
      have kfin := Rn15.put6 (.string ⟨#[]⟩) (.int .i64 i1') (.int .i64 i2') (.string zz3) (.slice X4 n4 z4) (.int .i64 2)
      have st5 := (((((Hn15.setCell (a := ⟨w.heap.size, 0, none⟩) hp (.string ⟨#[]⟩)).setCell (a := ⟨w.heap.size, 1, none⟩) hp (.int .i64 i1')).setCell (a := ⟨w.heap.size, 2, none⟩) hp (.int .i64 i2')).setCell (a := ⟨w.heap.size, 3, none⟩) hp (.string zz3)).setCell (a := ⟨w.heap.size, 4, none⟩) hp (.slice X4 n4 z4)).setCell (a := ⟨w.heap.size, 5, none⟩) hp (.int .i64 2)
      have gr5 := grown_cell (grown_cell (grown_four Gn15 hle2 (.string ⟨#[]⟩) (.int .i64 i1') (.int .i64 i2') (.string zz3)) (a := ⟨w.heap.size, 4, none⟩) hle2 (.slice X4 n4 z4)) (a := ⟨w.heap.size, 5, none⟩) hle2 (.int .i64 2)
      have hblk : ∀ b, w.heap.size + 2 ≤ b → b < wd.heap.size → W5.heap[b]? = wd.heap[b]? := fun b hb hlt => by
        have e1 : W5.heap[b]? = wn15.heap[b]? := by
          rw [hW5]
          exact (Below.heap_setCell _ _ _ _ (by show b ≠ w.heap.size; omega)).trans ((Below.heap_setCell _ _ _ _ (by show b ≠ w.heap.size; omega)).trans ((Below.heap_setCell _ _ _ _ (by show b ≠ w.heap.size; omega)).trans ((Below.heap_setCell _ _ _ _ (by show b ≠ w.heap.size; omega)).trans ((Below.heap_setCell _ _ _ _ (by show b ≠ w.heap.size; omega)).trans (Below.heap_setCell _ _ _ _ (by show b ≠ w.heap.size; omega))))))
        exact e1.trans ((Fn15.block b (Nat.lt_of_lt_of_le hlt HGS.out) (fun e => by injection e with e; omega)).trans (HGT.out b hb hlt))
      have hsz5 : wd.heap.size ≤ W5.heap.size := by
        have h1 := Nat.le_trans HGS.out Fn15.size
        have h3 : W5.heap.size = wn15.heap.size := by rw [hW5]; simp [World.setCell]
        rw [h3]; exact h1
      rw [← hW5] at kfin st5 gr5
      have hfin := HD.out W5 ⟨#[]⟩ i1' i2' zz3 X4 n4 z4 2 ⟨HZ2.out.symm, HCL.out, EX.keepL 17 cx _ _ _ _ HXD.out hsz5 (fun b sb' hlt => hblk b sb' hlt) (fun b sb' _ => by have h9 : w.heap.size + 2 ≤ b := sb'; show w.heap.size ≤ b; omega), rfl, by show I64 2; unfold I64; omega⟩ st5 gr5
      have HW5 := Lib.hid hW5
      clear hW5 hblk hsz5 st5 gr5 xfin Rn15 Xn15 Hn15 Gn15 Fn15 Ht Rt Xt Gt St HGT HGS HD HXD HZ2 HCL
      go_wp2_with fail
      rw [← HW5.out]
      exact bodyPost_ret (results_cell (P := Tryz.prog) rfl _ _ w.heap.size _ _ (0, 0) _ rfl kfin Tryz.underlying44 rfl (by kernel_rfl)) rfl hfin
    · have hac : actP s5 = (3, (nextP 1 keepP s5).2) := by unfold actP; rw [if_neg hd, if_neg hr]
      have hd0 : isP 1 destroyP s5 = false := by simpa using hd
      have HI1 := isd_some p n L s5 1 destroyP false hd0 _ rfl
      clear hd0
      have hr0 : isP 1 reviewP s5 = false := by simpa using hr
      have HI2 := isd_some p n L s5 1 reviewP false hr0 _ rfl
      clear hr0 hr
      rw [hac] at HD
      dsimp only at HD
      obtain ⟨k6, z6, i6, a6, hz6, hi6, HN6⟩ := nextd_some p n L s5 1 keepP
      clear hz6 hi6 hac hd
      generalize (nextP 1 keepP s5).2 = s6 at *
      obtain ⟨k7, z7, i7, a7, hz7, hi7, HN7⟩ := nextd_some p n L s6 6 []
      clear hz7 hi7
      generalize (nextP 6 [] s6).2 = s7 at *
      have hw6 : strV keepP = .string ⟨#[107, 101, 101, 112]⟩ := rfl
      have hw7 : strV [] = .string ⟨#[]⟩ := rfl
      rw [hw6] at HN6
      rw [hw7] at HN7
      clear hw6 hw7
      go_enter Tryz.func19, Tryz.ntmps19
      have hi := HI0.out v0 H0
      clear HI0
      go_wp2_with fail
      rw [← HVV.out]
      refine hi.mono ?_
      rintro e wi16 ⟨rfl, mi16, hmi16⟩
      have gn : v0.grownBy wi16 (some p) := by rw [hmi16]; exact ⟨rfl, rfl, rfl, Nat.le_refl _, fun _ _ _ => rfl⟩
      have Hi16 : Sd wi16 p n L s := by rw [hmi16]; exact H0
      have Ri16 := R0.grown gn (fun e => by injection e with e; omega)
      have Xi16 := X0.grown gn (fun e => by injection e with e; omega)
      have Gi16 := grown_trans G0 gn
      have Si16 : w.heap.size + 2 ≤ wi16.heap.size := by have := gn.size; have := S0; omega
      clear hi gn hmi16
      clear HVV R0 X0 H0 G0 S0
      have hn := HN1.out wi16 Hi16
      clear HN1
      go_wp2_with fail
      skip
      refine hn.mono ?_
      rintro e wn17 ⟨rfl, Hn17, gn⟩
      have Rn17 := Ri16.grown gn (fun e => by injection e with e; omega)
      have Xn17 := Xi16.grown gn (fun e => by injection e with e; omega)
      have Gn17 := grown_trans Gi16 gn
      have Sn17 : w.heap.size + 2 ≤ wn17.heap.size := by have := gn.size; have := Si16; omega
      clear hn gn
      have hn := HN3.out wn17 Hn17
      clear HN3
      go_wp2_with fail
      skip
      refine hn.mono ?_
      rintro e wn18 ⟨rfl, Hn18, gn⟩
      have Rn18 := Rn17.grown gn (fun e => by injection e with e; omega)
      have Xn18 := Xn17.grown gn (fun e => by injection e with e; omega)
      have Gn18 := grown_trans Gn17 gn
      have Sn18 : w.heap.size + 2 ≤ wn18.heap.size := by have := gn.size; have := Sn17; omega
      clear hn gn
      have hco := HC3.out wn18 Hn18
      clear HC3
      go_wp2_with fail
      refine hco.mono ?_
      rintro e wc ⟨i1', i2', zz3, X4, n4, z4, rfl, hxc, Hc, gc⟩
      have Rc := Rn18.grown gc (fun e => by injection e with e; omega)
      have Xc := Xn18.grown gc (fun e => by injection e with e; omega)
      have Gc := grown_trans Gn18 gc
      have Sc : w.heap.size + 2 ≤ wc.heap.size := by have := gc.size; omega
      have hxS : w.heap.size + 2 ≤ wn18.heap.size := Sn18
      have xf1 := Xc.free 1
      have xf2 := Xc.free 2
      have xf3 := Xc.free 3
      have xf4 := Xc.free 4
      have xc1 := Xc.cell 1
      have xc2 := Xc.cell 2
      have xc3 := Xc.cell 3
      have xc4 := Xc.cell 4
      have xlt := Xc.lt
      have Hs := (((Hc.setCell (a := ⟨w.heap.size + 1, 1, none⟩) (by show p < w.heap.size + 1; omega) (.int .i64 i1')).setCell (a := ⟨w.heap.size + 1, 2, none⟩) (by show p < w.heap.size + 1; omega) (.int .i64 i2')).setCell (a := ⟨w.heap.size + 1, 3, none⟩) (by show p < w.heap.size + 1; omega) (.string zz3)).setCell (a := ⟨w.heap.size + 1, 4, none⟩) (by show p < w.heap.size + 1; omega) (.slice X4 n4 z4)
      have Rs := (((Rc.aside (h := w.heap.size + 1) (i := 1) (by omega) (.int .i64 i1')).aside (h := w.heap.size + 1) (i := 2) (by omega) (.int .i64 i2')).aside (h := w.heap.size + 1) (i := 3) (by omega) (.string zz3)).aside (h := w.heap.size + 1) (i := 4) (by omega) (.slice X4 n4 z4)
      have Xs := (((Xc.put 1 (.int .i64 i1')).put 2 (.int .i64 i2')).put 3 (.string zz3)).put 4 (.slice X4 n4 z4)
      have hle1 : w.heap.size ≤ w.heap.size + 1 := Nat.le_succ _
      have Gs := grown_cell (grown_cell (grown_cell (grown_cell Gc (a := ⟨w.heap.size + 1, 1, none⟩) hle1 (.int .i64 i1')) (a := ⟨w.heap.size + 1, 2, none⟩) hle1 (.int .i64 i2')) (a := ⟨w.heap.size + 1, 3, none⟩) hle1 (.string zz3)) (a := ⟨w.heap.size + 1, 4, none⟩) hle1 (.slice X4 n4 z4)
      obtain ⟨wd, hwd⟩ : ∃ wd, wd = ((((wc.setCell ⟨w.heap.size + 1, 1, none⟩ (.int .i64 i1')).setCell ⟨w.heap.size + 1, 2, none⟩ (.int .i64 i2')).setCell ⟨w.heap.size + 1, 3, none⟩ (.string zz3)).setCell ⟨w.heap.size + 1, 4, none⟩ (.slice X4 n4 z4)) := ⟨_, rfl⟩
      have zwd : wd.heap.size = wc.heap.size := by rw [hwd]; simp [World.setCell]
      have Sd' : w.heap.size + 2 ≤ wd.heap.size := by omega
      have hxd : EX wd (fun b => w.heap.size + 2 ≤ b) 17 cx (.int .i64 i1') (.int .i64 i2') (.string zz3) (.slice X4 n4 z4) := EX.keepL 17 cx _ _ _ _ hxc (by omega) (fun b sb' hb' => by
        have h5 : wn18.heap.size ≤ b := sb'
        rw [hwd]
        exact (Below.heap_setCell _ _ _ _ (by show b ≠ w.heap.size + 1; omega)).trans ((Below.heap_setCell _ _ _ _ (by show b ≠ w.heap.size + 1; omega)).trans ((Below.heap_setCell _ _ _ _ (by show b ≠ w.heap.size + 1; omega)).trans (Below.heap_setCell _ _ _ _ (by show b ≠ w.heap.size + 1; omega))))) (fun b sb' _ => Nat.le_trans hxS sb')
      rw [← hwd] at Hs Rs Xs Gs
      have HWD := Lib.hid hwd
      have HXD := Lib.hid hxd
      have FD := World.grownBy.refl wd (some p)
      clear hco hxc hxd Hc gc Rc Xc Gc hxS hwd
      have hn := HN5.out wd Hs
      clear HN5
      go_wp2_with fail
      rw [← HWD.out]
      refine hn.mono ?_
      rintro e wn19 ⟨rfl, Hn19, gn⟩
      have Rn19 := Rs.grown gn (fun e => by injection e with e; omega)
      have Xn19 := Xs.grown gn (fun e => by injection e with e; omega)
      have Gn19 := grown_trans Gs gn
      have Sn19 : w.heap.size + 2 ≤ wn19.heap.size := by have := gn.size; have := Sd'; omega
      have Fn19 := grown_trans FD gn
      clear hn gn
      clear xf1 xf2 xf3 xf4 xc1 xc2 xc3 xc4 xlt Hs Rs Xs Gs FD HWD zwd Sc
      have hi := HI1.out wn19 Hn19
      clear HI1
      go_wp2_with fail
      skip
      refine hi.mono ?_
      rintro e wi20 ⟨rfl, mi20, hmi20⟩
      have gn : wn19.grownBy wi20 (some p) := by rw [hmi20]; exact ⟨rfl, rfl, rfl, Nat.le_refl _, fun _ _ _ => rfl⟩
      have Hi20 : Sd wi20 p n L s5 := by rw [hmi20]; exact Hn19
      have Ri20 := Rn19.grown gn (fun e => by injection e with e; omega)
      have Xi20 := Xn19.grown gn (fun e => by injection e with e; omega)
      have Gi20 := grown_trans Gn19 gn
      have Si20 : w.heap.size + 2 ≤ wi20.heap.size := by have := gn.size; have := Sn19; omega
      have Fi20 := grown_trans Fn19 gn
      clear hi gn hmi20
      have hi := HI2.out wi20 Hi20
      clear HI2
      go_wp2_with fail
      skip
      refine hi.mono ?_
      rintro e wi21 ⟨rfl, mi21, hmi21⟩
      have gn : wi20.grownBy wi21 (some p) := by rw [hmi21]; exact ⟨rfl, rfl, rfl, Nat.le_refl _, fun _ _ _ => rfl⟩
      have Hi21 : Sd wi21 p n L s5 := by rw [hmi21]; exact Hi20
      have Ri21 := Ri20.grown gn (fun e => by injection e with e; omega)
      have Xi21 := Xi20.grown gn (fun e => by injection e with e; omega)
      have Gi21 := grown_trans Gi20 gn
      have Si21 : w.heap.size + 2 ≤ wi21.heap.size := by have := gn.size; have := Si20; omega
      have Fi21 := grown_trans Fi20 gn
      clear hi gn hmi21
      have xf5 := Xi21.free 5
      have xc5 := Xi21.cell 5
      have xlt := Xi21.lt
      have Ht := Hi21.setCell (a := ⟨w.heap.size + 1, 5, none⟩) (by show p < w.heap.size + 1; omega) (.int .i64 3)
      have Rt := Ri21.aside (h := w.heap.size + 1) (i := 5) (by omega) (.int .i64 3)
      have Xt := Xi21.put 5 (.int .i64 3)
      have Gt := grown_cell Gi21 (a := ⟨w.heap.size + 1, 5, none⟩) (by show w.heap.size ≤ w.heap.size + 1; omega) (.int .i64 3)
      have St : w.heap.size + 2 ≤ (wi21.setCell ⟨w.heap.size + 1, 5, none⟩ (.int .i64 3)).heap.size := by simp [World.setCell]; exact Si21
      have HGT : Hid (∀ b, w.heap.size + 2 ≤ b → b < wd.heap.size → (wi21.setCell ⟨w.heap.size + 1, 5, none⟩ (.int .i64 3)).heap[b]? = wd.heap[b]?) := fun b hb hlt => (Below.heap_setCell _ _ _ _ (by show b ≠ w.heap.size + 1; omega)).trans (Fi21.block b hlt (fun e => by injection e with e; omega))
      have HGS : Hid (wd.heap.size ≤ (wi21.setCell ⟨w.heap.size + 1, 5, none⟩ (.int .i64 3)).heap.size) := by show _ ≤ _; have := Fi21.size; simp [World.setCell]; exact this
      have hn := HN6.out (wi21.setCell ⟨w.heap.size + 1, 5, none⟩ (.int .i64 3)) Ht
      clear HN6
      go_wp2_with fail
      skip
      refine hn.mono ?_
      rintro e wn22 ⟨rfl, Hn22, gn⟩
      have Rn22 := Rt.grown gn (fun e => by injection e with e; omega)
      have Xn22 := Xt.grown gn (fun e => by injection e with e; omega)
      have Gn22 := grown_trans Gt gn
      have Sn22 : w.heap.size + 2 ≤ wn22.heap.size := by have := gn.size; have := St; omega
      have Fn22 := grown_trans (World.grownBy.refl (wi21.setCell ⟨w.heap.size + 1, 5, none⟩ (.int .i64 3)) (some p)) gn
      clear hn gn
      have hn := HN7.out wn22 Hn22
      clear HN7
      go_wp2_with fail
      skip
      refine hn.mono ?_
      rintro e wn23 ⟨rfl, Hn23, gn⟩
      have Rn23 := Rn22.grown gn (fun e => by injection e with e; omega)
      have Xn23 := Xn22.grown gn (fun e => by injection e with e; omega)
      have Gn23 := grown_trans Gn22 gn
      have Sn23 : w.heap.size + 2 ≤ wn23.heap.size := by have := gn.size; have := Sn22; omega
      have Fn23 := grown_trans Fn22 gn
      clear hn gn
      have hle2 : w.heap.size ≤ w.heap.size := Nat.le_refl _
      have xfin : KB wn23 (w.heap.size + 1) 44 #[.string ⟨#[]⟩, .int .i64 i1', .int .i64 i2', .string zz3, .slice X4 n4 z4, .int .i64 3] := Xn23
      have f0 := Rn23.free 0
      have f1 := Rn23.free 1
      have f2 := Rn23.free 2
      have f3 := Rn23.free 3
      have f4 := Rn23.free 4
      have f5 := Rn23.free 5
      have r0 := Rn23.cell 0
      have r1 := Rn23.cell 1
      have r2 := Rn23.cell 2
      have r3 := Rn23.cell 3
      have r4 := Rn23.cell 4
      have r5 := Rn23.cell 5
      have x0 := xfin.cell 0
      have x1 := xfin.cell 1
      have x2 := xfin.cell 2
      have x3 := xfin.cell 3
      have x4 := xfin.cell 4
      have x5 := xfin.cell 5
      have hg0 := Rn23.lt
      have hg1 := xfin.lt
      obtain ⟨W5, hW5⟩ : ∃ W5, W5 = ((((((wn23.setCell ⟨w.heap.size, 0, none⟩ (.string ⟨#[]⟩)).setCell ⟨w.heap.size, 1, none⟩ (.int .i64 i1')).setCell ⟨w.heap.size, 2, none⟩ (.int .i64 i2')).setCell ⟨w.heap.size, 3, none⟩ (.string zz3)).setCell ⟨w.heap.size, 4, none⟩ (.slice X4 n4 z4)).setCell ⟨w.heap.size, 5, none⟩ (.int .i64 3)) := ⟨_, rfl⟩
      have kfin := Rn23.put6 (.string ⟨#[]⟩) (.int .i64 i1') (.int .i64 i2') (.string zz3) (.slice X4 n4 z4) (.int .i64 3)
      have st5 := (((((Hn23.setCell (a := ⟨w.heap.size, 0, none⟩) hp (.string ⟨#[]⟩)).setCell (a := ⟨w.heap.size, 1, none⟩) hp (.int .i64 i1')).setCell (a := ⟨w.heap.size, 2, none⟩) hp (.int .i64 i2')).setCell (a := ⟨w.heap.size, 3, none⟩) hp (.string zz3)).setCell (a := ⟨w.heap.size, 4, none⟩) hp (.slice X4 n4 z4)).setCell (a := ⟨w.heap.size, 5, none⟩) hp (.int .i64 3)
      have gr5 := grown_cell (grown_cell (grown_four Gn23 hle2 (.string ⟨#[]⟩) (.int .i64 i1') (.int .i64 i2') (.string zz3)) (a := ⟨w.heap.size, 4, none⟩) hle2 (.slice X4 n4 z4)) (a := ⟨w.heap.size, 5, none⟩) hle2 (.int .i64 3)
      have hblk : ∀ b, w.heap.size + 2 ≤ b → b < wd.heap.size → W5.heap[b]? = wd.heap[b]? := fun b hb hlt => by
        have e1 : W5.heap[b]? = wn23.heap[b]? := by
          rw [hW5]
          exact (Below.heap_setCell _ _ _ _ (by show b ≠ w.heap.size; omega)).trans ((Below.heap_setCell _ _ _ _ (by show b ≠ w.heap.size; omega)).trans ((Below.heap_setCell _ _ _ _ (by show b ≠ w.heap.size; omega)).trans ((Below.heap_setCell _ _ _ _ (by show b ≠ w.heap.size; omega)).trans ((Below.heap_setCell _ _ _ _ (by show b ≠ w.heap.size; omega)).trans (Below.heap_setCell _ _ _ _ (by show b ≠ w.heap.size; omega))))))
        exact e1.trans ((Fn23.block b (Nat.lt_of_lt_of_le hlt HGS.out) (fun e => by injection e with e; omega)).trans (HGT.out b hb hlt))
      have hsz5 : wd.heap.size ≤ W5.heap.size := by
        have h1 := Nat.le_trans HGS.out Fn23.size
        have h3 : W5.heap.size = wn23.heap.size := by rw [hW5]; simp [World.setCell]
        rw [h3]; exact h1
      rw [← hW5] at kfin st5 gr5
      have hfin := HD.out W5 ⟨#[]⟩ i1' i2' zz3 X4 n4 z4 3 ⟨HZ2.out.symm, HCL.out, EX.keepL 17 cx _ _ _ _ HXD.out hsz5 (fun b sb' hlt => hblk b sb' hlt) (fun b sb' _ => by have h9 : w.heap.size + 2 ≤ b := sb'; show w.heap.size ≤ b; omega), rfl, by show I64 3; unfold I64; omega⟩ st5 gr5
      have HW5 := Lib.hid hW5
      clear hW5 hblk hsz5 st5 gr5 xfin Rn23 Xn23 Hn23 Gn23 Fn23 Ht Rt Xt Gt St HGT HGS HD HXD HZ2 HCL
      go_wp2_with fail
      rw [← HW5.out]
      exact bodyPost_ret (results_cell (P := Tryz.prog) rfl _ _ w.heap.size _ _ (0, 0) _ rfl kfin Tryz.underlying44 rfl (by kernel_rfl)) rfl hfin
end
end Go.Proofs.YthindhlogkhclaaGreatDoor
