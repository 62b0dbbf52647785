/-
  PaJ: The program's rule (layer 18), over the loaded program: its contract. No condition but what it names.
-/
import Derived.Test.YthindhlogkhclaaGreatDoorPz24
set_option linter.unusedVariables false
set_option maxRecDepth 100000
namespace Go.Proofs.YthindhlogkhclaaGreatDoor
section
open Go.RowKit
def GotR (p : Nat) (n d : Int) (s : Ps) (w : World) (e : Ending) (w' : World) : Prop :=
  ∃ (z0 : ByteArray) (i1 i2 : Int) (z3 : ByteArray) (X4 : Option Addr) (n4 z4 : Nat) (i5 : Int), e = .returned (.agg #[.string z0, .int .i64 i1, .int .i64 i2, .string z3, .slice X4 n4 z4, .int .i64 i5]) ∧
    ((ruleP s).2.e = 0 → RX w' (fun b => w.heap.size ≤ b) 17 (ruleP s).1 (.string z0) (.int .i64 i1) (.int .i64 i2) (.string z3) (.slice X4 n4 z4) (.int .i64 i5)) ∧ St w' p n d (ruleP s).2 ∧ w.grownBy w' (some p)
theorem take_some (p : Nat) (n d : Int) (s : Ps) (m : Tk → Bool) : ∃ (k : Int) (z : ByteArray) (i a : Int), strV (nextB m s).1.text = .string z ∧
    Hid (∀ F caps W, MayF p W F caps m → St W p n d s → Calls Tryz.prog 30 #[.pointer (some ⟨p, 0, none⟩), .func (.func F) #[] caps] W fun e w' => e = .returned (.agg #[.int .i64 k, .string z, .int .i64 i, .int .i64 a]) ∧ St w' p n d (nextB m s).2 ∧ W.grownBy w' (some p)) :=
  ⟨(nextB m s).1.kind, ⟨(nextB m s).1.text.toArray⟩, (nextB m s).1.n, (nextB m s).1.at_, rfl, fun F caps W hm h => take_any p n d s F caps m W hm h⟩
theorem KB.put6 {w : World} {g : Nat} {t : TypeId} {a b c e f i : Value} (h : KB w g t #[a, b, c, e, f, i]) (x y z u v k : Value) : KB ((((((w.setCell ⟨g, 0, none⟩ x).setCell ⟨g, 1, none⟩ y).setCell ⟨g, 2, none⟩ z).setCell ⟨g, 3, none⟩ u).setCell ⟨g, 4, none⟩ v).setCell ⟨g, 5, none⟩ k) g t #[x, y, z, u, v, k] :=
  (((((h.put 0 x).put 1 y).put 2 z).put 3 u).put 4 v).put 5 k
theorem KB.aside {w : World} {g h i : Nat} {t : TypeId} {cs : Array Value} (k : KB w g t cs) (hne : g ≠ h) (u : Value) : KB (w.setCell ⟨h, i, none⟩ u) g t cs := k.keep (Below.heap_setCell w ⟨h, i, none⟩ u g hne)
set_option maxHeartbeats 16000000 in
theorem rule18_any (p : Nat) (n : Int) (s : Ps) (w : World) (h : St w p n 0 s) : Calls Tryz.prog 15 #[.pointer (some ⟨p, 0, none⟩)] w (GotR p n 0 s w) := by
  have hp := h.lt
  obtain ⟨rw1, rw2⟩ := rule_way s
  obtain ⟨D, hD⟩ : ∃ D, D = GotR p n 0 s w := ⟨_, rfl⟩
  rw [← hD]
  have HD : Hid (∀ W z0 i1 i2 z3 X4 n4 z4 i5, ((ruleP s).2.e = 0 → RX W (fun b => w.heap.size ≤ b) 17 (ruleP s).1 (.string z0) (.int .i64 i1) (.int .i64 i2) (.string z3) (.slice X4 n4 z4) (.int .i64 i5)) → St W p n 0 (ruleP s).2 → w.grownBy W (some p) →
      D (.returned (.agg #[.string z0, .int .i64 i1, .int .i64 i2, .string z3, .slice X4 n4 z4, .int .i64 i5])) W) := fun W z0 i1 i2 z3 X4 n4 z4 i5 h1 h2 h3 => by rw [hD]; exact ⟨z0, i1, i2, z3, X4, n4, z4, i5, rfl, h1, h2, h3⟩
  clear hD
  have HF0 : Hid (FineL s.rest) := h.fine
  obtain ⟨k1, z1, n1, a1, hz1, HT1⟩ := take_some p n 0 s (saysB [classP, defaultP])
  have hz1' : z1 = ⟨(nextB (saysB [classP, defaultP]) s).1.text.toArray⟩ := by unfold strV at hz1; injection hz1 with hz1; exact hz1.symm
  have gq := eq_txt z1 ⟨classP.toArray⟩ _ classP hz1' rfl
  have tq : (⟨classP.toArray⟩ : ByteArray).toList = [99, 108, 97, 115, 115] := by rw [Lib.toList_data]; rfl
  rw [tq] at gq
  have hofy : (nextB (saysB [classP, defaultP]) s).1.text = classP → ofB s = ((nextB (kindB 2) (nextB (saysB [classP, defaultP]) s).2).1.text, (nextB (kindB 2) (nextB (saysB [classP, defaultP]) s).2).2) := fun h => by unfold ofB; rw [if_pos h]
  have hofn : ¬ (nextB (saysB [classP, defaultP]) s).1.text = classP → ofB s = ([], (nextB (saysB [classP, defaultP]) s).2) := fun h => by unfold ofB; rw [if_neg h]
  have HF1 : Hid (FineL (nextB (saysB [classP, defaultP]) s).2.rest) := (next_fine HF0.out).2
  -- two blocks
  have HV0 : Hid (∃ v0, v0 = (w.alloc (.cells #[.string ⟨#[]⟩, .int .i64 0, .int .i64 0, .string ⟨#[]⟩, .slice none 0 0, .int .i64 0] 44)).alloc (.cells #[.string ⟨#[]⟩, .int .i64 0, .int .i64 0, .string ⟨#[]⟩, .slice none 0 0, .int .i64 0] 44) ∧ KB v0 w.heap.size 44 #[.string ⟨#[]⟩, .int .i64 0, .int .i64 0, .string ⟨#[]⟩, .slice none 0 0, .int .i64 0] ∧ KB v0 (w.heap.size + 1) 44 #[.string ⟨#[]⟩, .int .i64 0, .int .i64 0, .string ⟨#[]⟩, .slice none 0 0, .int .i64 0] ∧ St v0 p n 0 s ∧ w.grownBy v0 (some p) ∧ v0.heap.size = w.heap.size + 2) := by
    obtain ⟨K0, R0, b0⟩ := two_boxes w #[.string ⟨#[]⟩, .int .i64 0, .int .i64 0, .string ⟨#[]⟩, .slice none 0 0, .int .i64 0] #[.string ⟨#[]⟩, .int .i64 0, .int .i64 0, .string ⟨#[]⟩, .slice none 0 0, .int .i64 0] 44
    exact ⟨_, rfl, K0, R0, h.below b0, grown_of_below b0 _, by simp⟩
  obtain ⟨v0, hv0, R0, X0, H0, G0, zs0⟩ := HV0.out
  have S0 : w.heap.size + 2 ≤ v0.heap.size := by omega
  have HVV := Lib.hid hv0
  clear h HV0 HF0 tq
  have hf1 : ∀ (W : World) k z i a, (Instr.field 62 (.agg #[.int .i64 k, .string z, .int .i64 i, .int .i64 a]) 1).run Tryz.prog W = .ok (.string z) W := fun W k z i a => by kernel_rfl
  by_cases hc : (nextB (saysB [classP, defaultP]) s).1.text = classP
  · skip
    rw [hofy hc] at rw1 rw2
    obtain ⟨k2, z2, n2, a2, hz2, HT2⟩ := take_some p n 0 (nextB (saysB [classP, defaultP]) s).2 (kindB 2)
    have HCL : Hid ((nextB (kindB 2) (nextB (saysB [classP, defaultP]) s).2).1.text.length ≤ maxLen) := (next_fine HF1.out).1.2
    have HZ2 : Hid (strV (nextB (kindB 2) (nextB (saysB [classP, defaultP]) s).2).1.text = .string z2) := hz2
    rw [decide_eq_true hc] at gq
    have gq' : z1.toList = [99, 108, 97, 115, 115] := by simpa using gq
    clear hz2
    generalize (nextB (kindB 2) (nextB (saysB [classP, defaultP]) s).2).1.text = cls at *
    generalize (nextB (kindB 2) (nextB (saysB [classP, defaultP]) s).2).2 = so at *
    dsimp only at rw1 rw2
    clear hofy hofn hc hz1 hz1' HF1
    generalize (nextB (saysB [classP, defaultP]) s).2 = s1 at *
    obtain ⟨k3, z3, n3, a3, _, HT3⟩ := take_some p n 0 so (saysB [keepP])
    generalize (nextB (saysB [keepP]) so).2 = s3 at *
    have HCO : Hid (∀ W, St W p n 0 s3 → Calls Tryz.prog 33 #[.pointer (some ⟨p, 0, none⟩)] W (GotAs p n 0 (condP 8) s3 W)) := fun W hW => cond18_any p n 8 (by omega) 0 (by omega) s3 W hW
    unfold GotAs at HCO
    generalize condP 8 s3 = co at *
    obtain ⟨cx, s4⟩ := co
    dsimp only at rw1 rw2 HCO
    obtain ⟨k5, z5, n5, a5, _, HT5⟩ := take_some p n 0 s4 (saysB [thenP])
    generalize (nextB (saysB [thenP]) s4).2 = s5 at *
    obtain ⟨k6, z6, n6, a6, hz6, HT6⟩ := take_some p n 0 s5 (saysB [destroyP, reviewP, keepP])
    have hac := act18_any (nextB (saysB [destroyP, reviewP, keepP]) s5).1.text
    rw [hz6] at hac
    have HAI : Hid (I64 (actN (nextB (saysB [destroyP, reviewP, keepP]) s5).1.text)) := by
      show I64 _
      unfold actN I64
      split
      · omega
      · split
        · omega
        · split <;> omega
    generalize actN (nextB (saysB [destroyP, reviewP, keepP]) s5).1.text = ac at *
    generalize (nextB (saysB [destroyP, reviewP, keepP]) s5).2 = s6 at *
    obtain ⟨k7, z7, n7, a7, _, HT7⟩ := take_some p n 0 s6 (kindB 6)
    generalize (nextB (kindB 6) s6).2 = s7 at *
    have HR1 := Lib.hid rw1
    have HR2 := Lib.hid rw2
    clear rw1 rw2 hz6
    go_enter Tryz.func15, Tryz.ntmps15
    have CS : CS (v0.alloc (.cells #[.string ⟨#[99, 108, 97, 115, 115]⟩, .string ⟨#[100, 101, 102, 97, 117, 108, 116]⟩] 9)) (fun b => b = v0.heap.size) (.slice (some ⟨v0.heap.size, 0, none⟩) 2 2) ([classP, defaultP].map strV) := cs_lit v0 9 [strV classP, strV defaultP] (by simp [maxLen])
    have Ha := H0.alloc (.cells #[.string ⟨#[99, 108, 97, 115, 115]⟩, .string ⟨#[100, 101, 102, 97, 117, 108, 116]⟩] 9)
    have Ra := R0.alloc (.cells #[.string ⟨#[99, 108, 97, 115, 115]⟩, .string ⟨#[100, 101, 102, 97, 117, 108, 116]⟩] 9)
    have Xa := X0.alloc (.cells #[.string ⟨#[99, 108, 97, 115, 115]⟩, .string ⟨#[100, 101, 102, 97, 117, 108, 116]⟩] 9)
    have Ga := grown_alloc G0 (.cells #[.string ⟨#[99, 108, 97, 115, 115]⟩, .string ⟨#[100, 101, 102, 97, 117, 108, 116]⟩] 9)
    skip
    have hsy := says_any (.slice (some ⟨v0.heap.size, 0, none⟩) 2 2) ⟨_, _, _, rfl⟩ (v0.alloc (.cells #[.string ⟨#[99, 108, 97, 115, 115]⟩, .string ⟨#[100, 101, 102, 97, 117, 108, 116]⟩] 9))
    have zc : v0.heap.size = (w.heap.size + 2) := by exact zs0
    obtain ⟨v, hv⟩ : ∃ v, v = v0.alloc (.cells #[.string ⟨#[99, 108, 97, 115, 115]⟩, .string ⟨#[100, 101, 102, 97, 117, 108, 116]⟩] 9) := ⟨_, rfl⟩
    have zv : v.heap.size = (w.heap.size + 2) + 1 := by rw [hv, World.size_alloc, zc]
    rw [← hv] at CS Ha Ra Xa Ga hsy
    rw [zv, zc] at hsy
    rw [zc] at CS
    rw [HVV.out] at hv
    have HV := Lib.hid hv
    clear hv
    go_wp2_with fail
    rw [← HV.out]
    refine hsy.mono ?_
    rintro e wb1 ⟨rfl, kb, bb⟩
    rw [← zv] at bb
    have gb := grown_of_below bb (some p)
    have hsw : w.heap.size + 2 ≤ (w.heap.size + 2) := by have := S0; omega
    have mm := may_says (p := p) kb (by omega) (CS.below' bb) (fun b hb => by omega)
    have Hb := Ha.below bb
    have Rb := Ra.but gb hp
    have Xb := Xa.but gb (by omega)
    have Gb := grown_trans Ga gb
    skip
    have sb : w.heap.size + 2 ≤ wb1.heap.size := by have := bb.size; omega
    have ht := HT1.out _ _ wb1 mm Hb
    clear CS Ha Ra Xa Ga hsy zc zv kb bb gb mm HV Hb HT1
    go_wp2_with fail
    refine ht.mono ?_
    rintro e wn1 ⟨rfl, Hn1, gn⟩
    have Rn1 := Rb.but gn hp
    have Xn1 := Xb.but gn (by omega)
    have Gn1 := grown_trans Gb gn
    skip
    have Sn1 : w.heap.size + 2 ≤ wn1.heap.size := by have := gn.size; omega
    clear ht Rb Xb Gb sb gn hsw
    clear HVV R0 X0 H0 G0 zs0 S0 hv0
    have ht := HT2.out _ _ wn1 (may_quoted p wn1) Hn1
    clear HT2
    go_wp2_with fail
    refine ht.mono ?_
    rintro e wn2 ⟨rfl, Hn2, gn⟩
    have Rn2 := Rn1.but gn hp
    have Xn2 := Xn1.but gn (by omega)
    have Gn2 := grown_trans Gn1 gn
    have Sn2 : w.heap.size + 2 ≤ wn2.heap.size := by have := gn.size; have := Sn1; skip; omega
    have xf := Xn2.free 0
    have xc := Xn2.cell 0
    have xlt := Xn2.lt
    have Hs := Hn2.setCell (a := ⟨w.heap.size + 1, 0, none⟩) (by show p < w.heap.size + 1; omega) (.string z2)
    have Rs := Rn2.aside (h := w.heap.size + 1) (i := 0) (by omega) (.string z2)
    have Xs := Xn2.put 0 (.string z2)
    have Gs := grown_cell Gn2 (a := ⟨w.heap.size + 1, 0, none⟩) (by show w.heap.size ≤ w.heap.size + 1; omega) (.string z2)
    have CS : CS ((wn2.setCell ⟨w.heap.size + 1, 0, none⟩ (.string z2)).alloc (.cells #[.string ⟨#[107, 101, 101, 112]⟩] 9)) (fun b => b = (wn2.setCell ⟨w.heap.size + 1, 0, none⟩ (.string z2)).heap.size) (.slice (some ⟨(wn2.setCell ⟨w.heap.size + 1, 0, none⟩ (.string z2)).heap.size, 0, none⟩) 1 1) ([keepP].map strV) := cs_lit (wn2.setCell ⟨w.heap.size + 1, 0, none⟩ (.string z2)) 9 [strV keepP] (by simp [maxLen])
    have Ha := Hs.alloc (.cells #[.string ⟨#[107, 101, 101, 112]⟩] 9)
    have Ra := Rs.alloc (.cells #[.string ⟨#[107, 101, 101, 112]⟩] 9)
    have Xa := Xs.alloc (.cells #[.string ⟨#[107, 101, 101, 112]⟩] 9)
    have Ga := grown_alloc Gs (.cells #[.string ⟨#[107, 101, 101, 112]⟩] 9)
    skip
    have hsy := says_any (.slice (some ⟨(wn2.setCell ⟨w.heap.size + 1, 0, none⟩ (.string z2)).heap.size, 0, none⟩) 1 1) ⟨_, _, _, rfl⟩ ((wn2.setCell ⟨w.heap.size + 1, 0, none⟩ (.string z2)).alloc (.cells #[.string ⟨#[107, 101, 101, 112]⟩] 9))
    have zc : (wn2.setCell ⟨w.heap.size + 1, 0, none⟩ (.string z2)).heap.size = wn2.heap.size := by simp [World.setCell]
    obtain ⟨v, hv⟩ : ∃ v, v = (wn2.setCell ⟨w.heap.size + 1, 0, none⟩ (.string z2)).alloc (.cells #[.string ⟨#[107, 101, 101, 112]⟩] 9) := ⟨_, rfl⟩
    have zv : v.heap.size = wn2.heap.size + 1 := by rw [hv, World.size_alloc, zc]
    rw [← hv] at CS Ha Ra Xa Ga hsy
    rw [zv, zc] at hsy
    rw [zc] at CS
    skip
    have HV := Lib.hid hv
    clear hv
    go_wp2_with fail
    rw [← HV.out]
    refine hsy.mono ?_
    rintro e wb3 ⟨rfl, kb, bb⟩
    rw [← zv] at bb
    have gb := grown_of_below bb (some p)
    have hsw : w.heap.size + 2 ≤ wn2.heap.size := by have := Sn2; omega
    have mm := may_says (p := p) kb (by omega) (CS.below' bb) (fun b hb => by omega)
    have Hb := Ha.below bb
    have Rb := Ra.but gb hp
    have Xb := Xa.but gb (by omega)
    have Gb := grown_trans Ga gb
    skip
    have sb : w.heap.size + 2 ≤ wb3.heap.size := by have := bb.size; omega
    have ht := HT3.out _ _ wb3 mm Hb
    clear CS Ha Ra Xa Ga hsy zc zv kb bb gb mm HV Hb HT3
    go_wp2_with fail
    refine ht.mono ?_
    rintro e wn3 ⟨rfl, Hn3, gn⟩
    have Rn3 := Rb.but gn hp
    have Xn3 := Xb.but gn (by omega)
    have Gn3 := grown_trans Gb gn
    skip
    have Sn3 : w.heap.size + 2 ≤ wn3.heap.size := by have := gn.size; omega
    clear ht Rb Xb Gb sb gn hsw
    clear xf xc xlt Hs Rs Xs Gs
    have hco := HCO.out wn3 Hn3
    clear HCO
    go_wp2_with fail
    refine hco.mono ?_
    rintro e wc ⟨i1, i2, zz3, X4, n4, z4, rfl, hxc, Hc, gc⟩
    have Rc := Rn3.but gc hp
    have Xc := Xn3.but gc (by omega)
    have Gc := grown_trans Gn3 gc
    have Sc : w.heap.size + 2 ≤ wc.heap.size := by have := gc.size; omega
    have hxS : w.heap.size + 2 ≤ wn3.heap.size := Sn3
    have xf1 := Xc.free 1
    have xf2 := Xc.free 2
    have xf3 := Xc.free 3
    have xf4 := Xc.free 4
    have xc1 := Xc.cell 1
    have xc2 := Xc.cell 2
    have xc3 := Xc.cell 3
    have xc4 := Xc.cell 4
    have xlt := Xc.lt
    have Hs := (((Hc.setCell (a := ⟨w.heap.size + 1, 1, none⟩) (by show p < w.heap.size + 1; omega) (.int .i64 i1)).setCell (a := ⟨w.heap.size + 1, 2, none⟩) (by show p < w.heap.size + 1; omega) (.int .i64 i2)).setCell (a := ⟨w.heap.size + 1, 3, none⟩) (by show p < w.heap.size + 1; omega) (.string zz3)).setCell (a := ⟨w.heap.size + 1, 4, none⟩) (by show p < w.heap.size + 1; omega) (.slice X4 n4 z4)
    have Rs := (((Rc.aside (h := w.heap.size + 1) (i := 1) (by omega) (.int .i64 i1)).aside (h := w.heap.size + 1) (i := 2) (by omega) (.int .i64 i2)).aside (h := w.heap.size + 1) (i := 3) (by omega) (.string zz3)).aside (h := w.heap.size + 1) (i := 4) (by omega) (.slice X4 n4 z4)
    have Xs := (((Xc.put 1 (.int .i64 i1)).put 2 (.int .i64 i2)).put 3 (.string zz3)).put 4 (.slice X4 n4 z4)
    have hle1 : w.heap.size ≤ w.heap.size + 1 := Nat.le_succ _
    have Gs := grown_cell (grown_cell (grown_cell (grown_cell Gc (a := ⟨w.heap.size + 1, 1, none⟩) hle1 (.int .i64 i1)) (a := ⟨w.heap.size + 1, 2, none⟩) hle1 (.int .i64 i2)) (a := ⟨w.heap.size + 1, 3, none⟩) hle1 (.string zz3)) (a := ⟨w.heap.size + 1, 4, none⟩) hle1 (.slice X4 n4 z4)
    obtain ⟨wd, hwd⟩ : ∃ wd, wd = ((((wc.setCell ⟨w.heap.size + 1, 1, none⟩ (.int .i64 i1)).setCell ⟨w.heap.size + 1, 2, none⟩ (.int .i64 i2)).setCell ⟨w.heap.size + 1, 3, none⟩ (.string zz3)).setCell ⟨w.heap.size + 1, 4, none⟩ (.slice X4 n4 z4)) := ⟨_, rfl⟩
    have zwd : wd.heap.size = wc.heap.size := by rw [hwd]; simp [World.setCell]
    have Sd : w.heap.size + 2 ≤ wd.heap.size := by omega
    have hxd : s4.e = 0 → EX wd (fun b => w.heap.size + 2 ≤ b) 17 cx (.int .i64 i1) (.int .i64 i2) (.string zz3) (.slice X4 n4 z4) := fun he => EX.keepL 17 cx _ _ _ _ (hxc he) (by omega) (fun b sb' hb' => by
      have h5 : wn3.heap.size ≤ b := sb'
      rw [hwd]
      exact (Below.heap_setCell _ _ _ _ (by show b ≠ w.heap.size + 1; omega)).trans ((Below.heap_setCell _ _ _ _ (by show b ≠ w.heap.size + 1; omega)).trans ((Below.heap_setCell _ _ _ _ (by show b ≠ w.heap.size + 1; omega)).trans (Below.heap_setCell _ _ _ _ (by show b ≠ w.heap.size + 1; omega))))) (fun b sb' _ => Nat.le_trans hxS sb')
    rw [← hwd] at Hs Rs Xs Gs
    have HWD := Lib.hid hwd
    have HXD := Lib.hid hxd
    clear hco hxc hxd Hc gc Rc Xc Gc hxS hwd
    have FD := World.grownBy.refl wd (some p)
    have CS : CS (wd.alloc (.cells #[.string ⟨#[116, 104, 101, 110]⟩] 9)) (fun b => b = wd.heap.size) (.slice (some ⟨wd.heap.size, 0, none⟩) 1 1) ([thenP].map strV) := cs_lit wd 9 [strV thenP] (by simp [maxLen])
    have Ha := Hs.alloc (.cells #[.string ⟨#[116, 104, 101, 110]⟩] 9)
    have Ra := Rs.alloc (.cells #[.string ⟨#[116, 104, 101, 110]⟩] 9)
    have Xa := Xs.alloc (.cells #[.string ⟨#[116, 104, 101, 110]⟩] 9)
    have Ga := grown_alloc Gs (.cells #[.string ⟨#[116, 104, 101, 110]⟩] 9)
    have Fa := grown_alloc FD (.cells #[.string ⟨#[116, 104, 101, 110]⟩] 9)
    have hsy := says_any (.slice (some ⟨wd.heap.size, 0, none⟩) 1 1) ⟨_, _, _, rfl⟩ (wd.alloc (.cells #[.string ⟨#[116, 104, 101, 110]⟩] 9))
    have zc : wd.heap.size = wc.heap.size := zwd
    obtain ⟨v, hv⟩ : ∃ v, v = wd.alloc (.cells #[.string ⟨#[116, 104, 101, 110]⟩] 9) := ⟨_, rfl⟩
    have zv : v.heap.size = wc.heap.size + 1 := by rw [hv, World.size_alloc, zc]
    rw [← hv] at CS Ha Ra Xa Ga hsy Fa
    rw [zv, zc] at hsy
    rw [zc] at CS
    rw [HWD.out] at hv
    have HV := Lib.hid hv
    clear hv
    go_wp2_with fail
    rw [← HV.out]
    refine hsy.mono ?_
    rintro e wb4 ⟨rfl, kb, bb⟩
    rw [← zv] at bb
    have gb := grown_of_below bb (some p)
    have hsw : w.heap.size + 2 ≤ wc.heap.size := by have := Sd; omega
    have mm := may_says (p := p) kb (by omega) (CS.below' bb) (fun b hb => by omega)
    have Hb := Ha.below bb
    have Rb := Ra.but gb hp
    have Xb := Xa.but gb (by omega)
    have Gb := grown_trans Ga gb
    have Fb := grown_trans Fa gb
    have sb : w.heap.size + 2 ≤ wb4.heap.size := by have := bb.size; omega
    have ht := HT5.out _ _ wb4 mm Hb
    clear CS Ha Ra Xa Ga hsy zc zv kb bb gb mm HV Hb HT5
    go_wp2_with fail
    refine ht.mono ?_
    rintro e wn4 ⟨rfl, Hn4, gn⟩
    have Rn4 := Rb.but gn hp
    have Xn4 := Xb.but gn (by omega)
    have Gn4 := grown_trans Gb gn
    have Fn4 := grown_trans Fb gn
    have Sn4 : w.heap.size + 2 ≤ wn4.heap.size := by have := gn.size; omega
    clear ht Rb Xb Gb sb gn hsw
    clear xf1 xf2 xf3 xf4 xc1 xc2 xc3 xc4 xlt Hs Rs Xs Gs
    have CS : CS (wn4.alloc (.cells #[.string ⟨#[100, 101, 115, 116, 114, 111, 121]⟩, .string ⟨#[114, 101, 118, 105, 101, 119]⟩, .string ⟨#[107, 101, 101, 112]⟩] 9)) (fun b => b = wn4.heap.size) (.slice (some ⟨wn4.heap.size, 0, none⟩) 3 3) ([destroyP, reviewP, keepP].map strV) := cs_lit wn4 9 [strV destroyP, strV reviewP, strV keepP] (by simp [maxLen])
    have Ha := Hn4.alloc (.cells #[.string ⟨#[100, 101, 115, 116, 114, 111, 121]⟩, .string ⟨#[114, 101, 118, 105, 101, 119]⟩, .string ⟨#[107, 101, 101, 112]⟩] 9)
    have Ra := Rn4.alloc (.cells #[.string ⟨#[100, 101, 115, 116, 114, 111, 121]⟩, .string ⟨#[114, 101, 118, 105, 101, 119]⟩, .string ⟨#[107, 101, 101, 112]⟩] 9)
    have Xa := Xn4.alloc (.cells #[.string ⟨#[100, 101, 115, 116, 114, 111, 121]⟩, .string ⟨#[114, 101, 118, 105, 101, 119]⟩, .string ⟨#[107, 101, 101, 112]⟩] 9)
    have Ga := grown_alloc Gn4 (.cells #[.string ⟨#[100, 101, 115, 116, 114, 111, 121]⟩, .string ⟨#[114, 101, 118, 105, 101, 119]⟩, .string ⟨#[107, 101, 101, 112]⟩] 9)
    have Fa := grown_alloc Fn4 (.cells #[.string ⟨#[100, 101, 115, 116, 114, 111, 121]⟩, .string ⟨#[114, 101, 118, 105, 101, 119]⟩, .string ⟨#[107, 101, 101, 112]⟩] 9)
    have hsy := says_any (.slice (some ⟨wn4.heap.size, 0, none⟩) 3 3) ⟨_, _, _, rfl⟩ (wn4.alloc (.cells #[.string ⟨#[100, 101, 115, 116, 114, 111, 121]⟩, .string ⟨#[114, 101, 118, 105, 101, 119]⟩, .string ⟨#[107, 101, 101, 112]⟩] 9))
    have zc : wn4.heap.size = wn4.heap.size := by rfl
    obtain ⟨v, hv⟩ : ∃ v, v = wn4.alloc (.cells #[.string ⟨#[100, 101, 115, 116, 114, 111, 121]⟩, .string ⟨#[114, 101, 118, 105, 101, 119]⟩, .string ⟨#[107, 101, 101, 112]⟩] 9) := ⟨_, rfl⟩
    have zv : v.heap.size = wn4.heap.size + 1 := by rw [hv, World.size_alloc, zc]
    rw [← hv] at CS Ha Ra Xa Ga hsy Fa
    rw [zv, zc] at hsy
    rw [zc] at CS
    skip
    have HV := Lib.hid hv
    clear hv
    go_wp2_with fail
    rw [← HV.out]
    refine hsy.mono ?_
    rintro e wb5 ⟨rfl, kb, bb⟩
    rw [← zv] at bb
    have gb := grown_of_below bb (some p)
    have hsw : w.heap.size + 2 ≤ wn4.heap.size := by have := Sn4; omega
    have mm := may_says (p := p) kb (by omega) (CS.below' bb) (fun b hb => by omega)
    have Hb := Ha.below bb
    have Rb := Ra.but gb hp
    have Xb := Xa.but gb (by omega)
    have Gb := grown_trans Ga gb
    have Fb := grown_trans Fa gb
    have sb : w.heap.size + 2 ≤ wb5.heap.size := by have := bb.size; omega
    have ht := HT6.out _ _ wb5 mm Hb
    clear CS Ha Ra Xa Ga hsy zc zv kb bb gb mm HV Hb HT6
    go_wp2_with fail
    refine ht.mono ?_
    rintro e wn5 ⟨rfl, Hn5, gn⟩
    have Rn5 := Rb.but gn hp
    have Xn5 := Xb.but gn (by omega)
    have Gn5 := grown_trans Gb gn
    have Fn5 := grown_trans Fb gn
    have Sn5 : w.heap.size + 2 ≤ wn5.heap.size := by have := gn.size; omega
    clear ht Rb Xb Gb sb gn hsw
    go_wp2_with fail
    refine (hac _).mono ?_
    rintro e wa ⟨rfl, e9⟩
    have e9 := e9.symm
    subst e9
    clear hac
    have xf5 := Xn5.free 5
    have xc5 := Xn5.cell 5
    have xlt := Xn5.lt
    have Ht := Hn5.setCell (a := ⟨w.heap.size + 1, 5, none⟩) (by show p < w.heap.size + 1; omega) (.int .i64 ac)
    have Rt := Rn5.aside (h := w.heap.size + 1) (i := 5) (by omega) (.int .i64 ac)
    have Xt := Xn5.put 5 (.int .i64 ac)
    have Gt := grown_cell Gn5 (a := ⟨w.heap.size + 1, 5, none⟩) (by show w.heap.size ≤ w.heap.size + 1; omega) (.int .i64 ac)
    have ht := HT7.out _ _ (wn5.setCell ⟨w.heap.size + 1, 5, none⟩ (.int .i64 ac)) (may_end p (wn5.setCell ⟨w.heap.size + 1, 5, none⟩ (.int .i64 ac))) Ht
    clear HT7
    go_wp2_with fail
    refine ht.mono ?_
    rintro e wn6 ⟨rfl, Hn6, gn⟩
    have Rn6 := Rt.but gn hp
    have Xn6 := Xt.but gn (by omega)
    have Gn6 := grown_trans Gt gn
    have Sn6 : w.heap.size + 2 ≤ wn6.heap.size := by have := gn.size; have := Sn5; simp only [World.setCell, Array.size_modify] at *; omega
    have hle2 : w.heap.size ≤ w.heap.size := Nat.le_refl _
    have xfin : KB wn6 (w.heap.size + 1) 44 #[.string z2, .int .i64 i1, .int .i64 i2, .string zz3, .slice X4 n4 z4, .int .i64 ac] := Xn6
    have f0 := Rn6.free 0
    have f1 := Rn6.free 1
    have f2 := Rn6.free 2
    have f3 := Rn6.free 3
    have f4 := Rn6.free 4
    have f5 := Rn6.free 5
    have r0 := Rn6.cell 0
    have r1 := Rn6.cell 1
    have r2 := Rn6.cell 2
    have r3 := Rn6.cell 3
    have r4 := Rn6.cell 4
    have r5 := Rn6.cell 5
    have x0 := xfin.cell 0
    have x1 := xfin.cell 1
    have x2 := xfin.cell 2
    have x3 := xfin.cell 3
    have x4 := xfin.cell 4
    have x5 := xfin.cell 5
    have hg0 := Rn6.lt
    have hg1 := xfin.lt
    obtain ⟨W5, hW5⟩ : ∃ W5, W5 = ((((((wn6.setCell ⟨w.heap.size, 0, none⟩ (.string z2)).setCell ⟨w.heap.size, 1, none⟩ (.int .i64 i1)).setCell ⟨w.heap.size, 2, none⟩ (.int .i64 i2)).setCell ⟨w.heap.size, 3, none⟩ (.string zz3)).setCell ⟨w.heap.size, 4, none⟩ (.slice X4 n4 z4)).setCell ⟨w.heap.size, 5, none⟩ (.int .i64 ac)) := ⟨_, rfl⟩
    have kfin := Rn6.put6 (.string z2) (.int .i64 i1) (.int .i64 i2) (.string zz3) (.slice X4 n4 z4) (.int .i64 ac)
    have st5 := (((((Hn6.setCell (a := ⟨w.heap.size, 0, none⟩) hp (.string z2)).setCell (a := ⟨w.heap.size, 1, none⟩) hp (.int .i64 i1)).setCell (a := ⟨w.heap.size, 2, none⟩) hp (.int .i64 i2)).setCell (a := ⟨w.heap.size, 3, none⟩) hp (.string zz3)).setCell (a := ⟨w.heap.size, 4, none⟩) hp (.slice X4 n4 z4)).setCell (a := ⟨w.heap.size, 5, none⟩) hp (.int .i64 ac)
    have gr5 := grown_cell (grown_cell (grown_four Gn6 hle2 (.string z2) (.int .i64 i1) (.int .i64 i2) (.string zz3)) (a := ⟨w.heap.size, 4, none⟩) hle2 (.slice X4 n4 z4)) (a := ⟨w.heap.size, 5, none⟩) hle2 (.int .i64 ac)
    have hblk : ∀ b, w.heap.size + 2 ≤ b → b < wd.heap.size → W5.heap[b]? = wd.heap[b]? := fun b hb hlt => by
      have e1 : W5.heap[b]? = wn6.heap[b]? := by
        rw [hW5]
        exact (Below.heap_setCell _ _ _ _ (by show b ≠ w.heap.size; omega)).trans ((Below.heap_setCell _ _ _ _ (by show b ≠ w.heap.size; omega)).trans ((Below.heap_setCell _ _ _ _ (by show b ≠ w.heap.size; omega)).trans ((Below.heap_setCell _ _ _ _ (by show b ≠ w.heap.size; omega)).trans ((Below.heap_setCell _ _ _ _ (by show b ≠ w.heap.size; omega)).trans (Below.heap_setCell _ _ _ _ (by show b ≠ w.heap.size; omega))))))
      have hsf := Fn5.size
      exact e1.trans ((gn.block b (by simp [World.setCell]; omega) (fun e => by injection e with e; omega)).trans ((Below.heap_setCell _ _ _ _ (by show b ≠ w.heap.size + 1; omega)).trans (Fn5.block b hlt (fun e => by injection e with e; omega))))
    have hsz5 : wd.heap.size ≤ W5.heap.size := by
      have h1 := Fn5.size
      have h2 := gn.size
      have h3 : W5.heap.size = wn6.heap.size := by rw [hW5]; simp [World.setCell]
      simp [World.setCell] at h2
      omega
    rw [← hW5] at kfin st5 gr5
    rw [← HR1.out] at st5
    have hfin := HD.out W5 z2 i1 i2 zz3 X4 n4 z4 ac (fun he => by
      obtain ⟨h1, h2⟩ := HR2.out he
      rw [h1]
      exact ⟨HZ2.out.symm, HCL.out, EX.keepL 17 cx _ _ _ _ (HXD.out h2) hsz5 (fun b sb' hlt => hblk b sb' hlt) (fun b sb' _ => by have h9 : w.heap.size + 2 ≤ b := sb'; show w.heap.size ≤ b; omega), rfl, HAI.out⟩) st5 gr5
    have HW5 := Lib.hid hW5
    clear hW5 hblk hsz5 st5 gr5 xfin Rn6 Xn6 Hn6 Gn6 gn Ht Rt Xt Gt HD HR1 HR2 HXD HZ2 HCL HAI Fn5
    go_wp2_with fail
    rw [← HW5.out]
    exact bodyPost_ret (results_cell (P := Tryz.prog) rfl _ _ w.heap.size _ _ (0, 0) _ rfl kfin Tryz.underlying44 rfl (by kernel_rfl)) rfl hfin
  · skip
    rw [hofn hc] at rw1 rw2
    have HCL : Hid (([] : List UInt8).length ≤ maxLen) := by show _ ≤ _; simp
    have HZ2 : Hid (strV ([] : List UInt8) = .string ⟨#[]⟩) := rfl
    rw [decide_eq_false hc] at gq
    have gq' : ¬ z1.toList = [99, 108, 97, 115, 115] := by simpa using gq
    dsimp only at rw1 rw2
    clear hofy hofn hc hz1 hz1' HF1
    generalize (nextB (saysB [classP, defaultP]) s).2 = so at *
    obtain ⟨k3, z3, n3, a3, _, HT3⟩ := take_some p n 0 so (saysB [keepP])
    generalize (nextB (saysB [keepP]) so).2 = s3 at *
    have HCO : Hid (∀ W, St W p n 0 s3 → Calls Tryz.prog 33 #[.pointer (some ⟨p, 0, none⟩)] W (GotAs p n 0 (condP 8) s3 W)) := fun W hW => cond18_any p n 8 (by omega) 0 (by omega) s3 W hW
    unfold GotAs at HCO
    generalize condP 8 s3 = co at *
    obtain ⟨cx, s4⟩ := co
    dsimp only at rw1 rw2 HCO
    obtain ⟨k5, z5, n5, a5, _, HT5⟩ := take_some p n 0 s4 (saysB [thenP])
    generalize (nextB (saysB [thenP]) s4).2 = s5 at *
    obtain ⟨k6, z6, n6, a6, hz6, HT6⟩ := take_some p n 0 s5 (saysB [destroyP, reviewP, keepP])
    have hac := act18_any (nextB (saysB [destroyP, reviewP, keepP]) s5).1.text
    rw [hz6] at hac
    have HAI : Hid (I64 (actN (nextB (saysB [destroyP, reviewP, keepP]) s5).1.text)) := by
      show I64 _
      unfold actN I64
      split
      · omega
      · split
        · omega
        · split <;> omega
    generalize actN (nextB (saysB [destroyP, reviewP, keepP]) s5).1.text = ac at *
    generalize (nextB (saysB [destroyP, reviewP, keepP]) s5).2 = s6 at *
    obtain ⟨k7, z7, n7, a7, _, HT7⟩ := take_some p n 0 s6 (kindB 6)
    generalize (nextB (kindB 6) s6).2 = s7 at *
    have HR1 := Lib.hid rw1
    have HR2 := Lib.hid rw2
    clear rw1 rw2 hz6
    go_enter Tryz.func15, Tryz.ntmps15
    have CS : CS (v0.alloc (.cells #[.string ⟨#[99, 108, 97, 115, 115]⟩, .string ⟨#[100, 101, 102, 97, 117, 108, 116]⟩] 9)) (fun b => b = v0.heap.size) (.slice (some ⟨v0.heap.size, 0, none⟩) 2 2) ([classP, defaultP].map strV) := cs_lit v0 9 [strV classP, strV defaultP] (by simp [maxLen])
    have Ha := H0.alloc (.cells #[.string ⟨#[99, 108, 97, 115, 115]⟩, .string ⟨#[100, 101, 102, 97, 117, 108, 116]⟩] 9)
    have Ra := R0.alloc (.cells #[.string ⟨#[99, 108, 97, 115, 115]⟩, .string ⟨#[100, 101, 102, 97, 117, 108, 116]⟩] 9)
    have Xa := X0.alloc (.cells #[.string ⟨#[99, 108, 97, 115, 115]⟩, .string ⟨#[100, 101, 102, 97, 117, 108, 116]⟩] 9)
    have Ga := grown_alloc G0 (.cells #[.string ⟨#[99, 108, 97, 115, 115]⟩, .string ⟨#[100, 101, 102, 97, 117, 108, 116]⟩] 9)
    skip
    have hsy := says_any (.slice (some ⟨v0.heap.size, 0, none⟩) 2 2) ⟨_, _, _, rfl⟩ (v0.alloc (.cells #[.string ⟨#[99, 108, 97, 115, 115]⟩, .string ⟨#[100, 101, 102, 97, 117, 108, 116]⟩] 9))
    have zc : v0.heap.size = (w.heap.size + 2) := by exact zs0
    obtain ⟨v, hv⟩ : ∃ v, v = v0.alloc (.cells #[.string ⟨#[99, 108, 97, 115, 115]⟩, .string ⟨#[100, 101, 102, 97, 117, 108, 116]⟩] 9) := ⟨_, rfl⟩
    have zv : v.heap.size = (w.heap.size + 2) + 1 := by rw [hv, World.size_alloc, zc]
    rw [← hv] at CS Ha Ra Xa Ga hsy
    rw [zv, zc] at hsy
    rw [zc] at CS
    rw [HVV.out] at hv
    have HV := Lib.hid hv
    clear hv
    go_wp2_with fail
    rw [← HV.out]
    refine hsy.mono ?_
    rintro e wb1 ⟨rfl, kb, bb⟩
    rw [← zv] at bb
    have gb := grown_of_below bb (some p)
    have hsw : w.heap.size + 2 ≤ (w.heap.size + 2) := by have := S0; omega
    have mm := may_says (p := p) kb (by omega) (CS.below' bb) (fun b hb => by omega)
    have Hb := Ha.below bb
    have Rb := Ra.but gb hp
    have Xb := Xa.but gb (by omega)
    have Gb := grown_trans Ga gb
    skip
    have sb : w.heap.size + 2 ≤ wb1.heap.size := by have := bb.size; omega
    have ht := HT1.out _ _ wb1 mm Hb
    clear CS Ha Ra Xa Ga hsy zc zv kb bb gb mm HV Hb HT1
    go_wp2_with fail
    refine ht.mono ?_
    rintro e wn1 ⟨rfl, Hn1, gn⟩
    have Rn1 := Rb.but gn hp
    have Xn1 := Xb.but gn (by omega)
    have Gn1 := grown_trans Gb gn
    skip
    have Sn1 : w.heap.size + 2 ≤ wn1.heap.size := by have := gn.size; omega
    clear ht Rb Xb Gb sb gn hsw
    clear HVV R0 X0 H0 G0 zs0 S0 hv0
    have CS : CS (wn1.alloc (.cells #[.string ⟨#[107, 101, 101, 112]⟩] 9)) (fun b => b = wn1.heap.size) (.slice (some ⟨wn1.heap.size, 0, none⟩) 1 1) ([keepP].map strV) := cs_lit wn1 9 [strV keepP] (by simp [maxLen])
    have Ha := Hn1.alloc (.cells #[.string ⟨#[107, 101, 101, 112]⟩] 9)
    have Ra := Rn1.alloc (.cells #[.string ⟨#[107, 101, 101, 112]⟩] 9)
    have Xa := Xn1.alloc (.cells #[.string ⟨#[107, 101, 101, 112]⟩] 9)
    have Ga := grown_alloc Gn1 (.cells #[.string ⟨#[107, 101, 101, 112]⟩] 9)
    skip
    have hsy := says_any (.slice (some ⟨wn1.heap.size, 0, none⟩) 1 1) ⟨_, _, _, rfl⟩ (wn1.alloc (.cells #[.string ⟨#[107, 101, 101, 112]⟩] 9))
    have zc : wn1.heap.size = wn1.heap.size := by rfl
    obtain ⟨v, hv⟩ : ∃ v, v = wn1.alloc (.cells #[.string ⟨#[107, 101, 101, 112]⟩] 9) := ⟨_, rfl⟩
    have zv : v.heap.size = wn1.heap.size + 1 := by rw [hv, World.size_alloc, zc]
    rw [← hv] at CS Ha Ra Xa Ga hsy
    rw [zv, zc] at hsy
    rw [zc] at CS
    skip
    have HV := Lib.hid hv
    clear hv
    go_wp2_with fail
    rw [← HV.out]
    refine hsy.mono ?_
    rintro e wb2 ⟨rfl, kb, bb⟩
    rw [← zv] at bb
    have gb := grown_of_below bb (some p)
    have hsw : w.heap.size + 2 ≤ wn1.heap.size := by have := Sn1; omega
    have mm := may_says (p := p) kb (by omega) (CS.below' bb) (fun b hb => by omega)
    have Hb := Ha.below bb
    have Rb := Ra.but gb hp
    have Xb := Xa.but gb (by omega)
    have Gb := grown_trans Ga gb
    skip
    have sb : w.heap.size + 2 ≤ wb2.heap.size := by have := bb.size; omega
    have ht := HT3.out _ _ wb2 mm Hb
    clear CS Ha Ra Xa Ga hsy zc zv kb bb gb mm HV Hb HT3
    go_wp2_with fail
    refine ht.mono ?_
    rintro e wn2 ⟨rfl, Hn2, gn⟩
    have Rn2 := Rb.but gn hp
    have Xn2 := Xb.but gn (by omega)
    have Gn2 := grown_trans Gb gn
    skip
    have Sn2 : w.heap.size + 2 ≤ wn2.heap.size := by have := gn.size; omega
    clear ht Rb Xb Gb sb gn hsw
    have hco := HCO.out wn2 Hn2
    clear HCO
    go_wp2_with fail
    refine hco.mono ?_
    rintro e wc ⟨i1, i2, zz3, X4, n4, z4, rfl, hxc, Hc, gc⟩
    have Rc := Rn2.but gc hp
    have Xc := Xn2.but gc (by omega)
    have Gc := grown_trans Gn2 gc
    have Sc : w.heap.size + 2 ≤ wc.heap.size := by have := gc.size; omega
    have hxS : w.heap.size + 2 ≤ wn2.heap.size := Sn2
    have xf1 := Xc.free 1
    have xf2 := Xc.free 2
    have xf3 := Xc.free 3
    have xf4 := Xc.free 4
    have xc1 := Xc.cell 1
    have xc2 := Xc.cell 2
    have xc3 := Xc.cell 3
    have xc4 := Xc.cell 4
    have xlt := Xc.lt
    have Hs := (((Hc.setCell (a := ⟨w.heap.size + 1, 1, none⟩) (by show p < w.heap.size + 1; omega) (.int .i64 i1)).setCell (a := ⟨w.heap.size + 1, 2, none⟩) (by show p < w.heap.size + 1; omega) (.int .i64 i2)).setCell (a := ⟨w.heap.size + 1, 3, none⟩) (by show p < w.heap.size + 1; omega) (.string zz3)).setCell (a := ⟨w.heap.size + 1, 4, none⟩) (by show p < w.heap.size + 1; omega) (.slice X4 n4 z4)
    have Rs := (((Rc.aside (h := w.heap.size + 1) (i := 1) (by omega) (.int .i64 i1)).aside (h := w.heap.size + 1) (i := 2) (by omega) (.int .i64 i2)).aside (h := w.heap.size + 1) (i := 3) (by omega) (.string zz3)).aside (h := w.heap.size + 1) (i := 4) (by omega) (.slice X4 n4 z4)
    have Xs := (((Xc.put 1 (.int .i64 i1)).put 2 (.int .i64 i2)).put 3 (.string zz3)).put 4 (.slice X4 n4 z4)
    have hle1 : w.heap.size ≤ w.heap.size + 1 := Nat.le_succ _
    have Gs := grown_cell (grown_cell (grown_cell (grown_cell Gc (a := ⟨w.heap.size + 1, 1, none⟩) hle1 (.int .i64 i1)) (a := ⟨w.heap.size + 1, 2, none⟩) hle1 (.int .i64 i2)) (a := ⟨w.heap.size + 1, 3, none⟩) hle1 (.string zz3)) (a := ⟨w.heap.size + 1, 4, none⟩) hle1 (.slice X4 n4 z4)
    obtain ⟨wd, hwd⟩ : ∃ wd, wd = ((((wc.setCell ⟨w.heap.size + 1, 1, none⟩ (.int .i64 i1)).setCell ⟨w.heap.size + 1, 2, none⟩ (.int .i64 i2)).setCell ⟨w.heap.size + 1, 3, none⟩ (.string zz3)).setCell ⟨w.heap.size + 1, 4, none⟩ (.slice X4 n4 z4)) := ⟨_, rfl⟩
    have zwd : wd.heap.size = wc.heap.size := by rw [hwd]; simp [World.setCell]
    have Sd : w.heap.size + 2 ≤ wd.heap.size := by omega
    have hxd : s4.e = 0 → EX wd (fun b => w.heap.size + 2 ≤ b) 17 cx (.int .i64 i1) (.int .i64 i2) (.string zz3) (.slice X4 n4 z4) := fun he => EX.keepL 17 cx _ _ _ _ (hxc he) (by omega) (fun b sb' hb' => by
      have h5 : wn2.heap.size ≤ b := sb'
      rw [hwd]
      exact (Below.heap_setCell _ _ _ _ (by show b ≠ w.heap.size + 1; omega)).trans ((Below.heap_setCell _ _ _ _ (by show b ≠ w.heap.size + 1; omega)).trans ((Below.heap_setCell _ _ _ _ (by show b ≠ w.heap.size + 1; omega)).trans (Below.heap_setCell _ _ _ _ (by show b ≠ w.heap.size + 1; omega))))) (fun b sb' _ => Nat.le_trans hxS sb')
    rw [← hwd] at Hs Rs Xs Gs
    have HWD := Lib.hid hwd
    have HXD := Lib.hid hxd
    clear hco hxc hxd Hc gc Rc Xc Gc hxS hwd
    have FD := World.grownBy.refl wd (some p)
    have CS : CS (wd.alloc (.cells #[.string ⟨#[116, 104, 101, 110]⟩] 9)) (fun b => b = wd.heap.size) (.slice (some ⟨wd.heap.size, 0, none⟩) 1 1) ([thenP].map strV) := cs_lit wd 9 [strV thenP] (by simp [maxLen])
    have Ha := Hs.alloc (.cells #[.string ⟨#[116, 104, 101, 110]⟩] 9)
    have Ra := Rs.alloc (.cells #[.string ⟨#[116, 104, 101, 110]⟩] 9)
    have Xa := Xs.alloc (.cells #[.string ⟨#[116, 104, 101, 110]⟩] 9)
    have Ga := grown_alloc Gs (.cells #[.string ⟨#[116, 104, 101, 110]⟩] 9)
    have Fa := grown_alloc FD (.cells #[.string ⟨#[116, 104, 101, 110]⟩] 9)
    have hsy := says_any (.slice (some ⟨wd.heap.size, 0, none⟩) 1 1) ⟨_, _, _, rfl⟩ (wd.alloc (.cells #[.string ⟨#[116, 104, 101, 110]⟩] 9))
    have zc : wd.heap.size = wc.heap.size := zwd
    obtain ⟨v, hv⟩ : ∃ v, v = wd.alloc (.cells #[.string ⟨#[116, 104, 101, 110]⟩] 9) := ⟨_, rfl⟩
    have zv : v.heap.size = wc.heap.size + 1 := by rw [hv, World.size_alloc, zc]
    rw [← hv] at CS Ha Ra Xa Ga hsy Fa
    rw [zv, zc] at hsy
    rw [zc] at CS
    rw [HWD.out] at hv
    have HV := Lib.hid hv
    clear hv
    go_wp2_with fail
    rw [← HV.out]
    refine hsy.mono ?_
    rintro e wb3 ⟨rfl, kb, bb⟩
    rw [← zv] at bb
    have gb := grown_of_below bb (some p)
    have hsw : w.heap.size + 2 ≤ wc.heap.size := by have := Sd; omega
    have mm := may_says (p := p) kb (by omega) (CS.below' bb) (fun b hb => by omega)
    have Hb := Ha.below bb
    have Rb := Ra.but gb hp
    have Xb := Xa.but gb (by omega)
    have Gb := grown_trans Ga gb
    have Fb := grown_trans Fa gb
    have sb : w.heap.size + 2 ≤ wb3.heap.size := by have := bb.size; omega
    have ht := HT5.out _ _ wb3 mm Hb
    clear CS Ha Ra Xa Ga hsy zc zv kb bb gb mm HV Hb HT5
    go_wp2_with fail
    refine ht.mono ?_
    rintro e wn3 ⟨rfl, Hn3, gn⟩
    have Rn3 := Rb.but gn hp
    have Xn3 := Xb.but gn (by omega)
    have Gn3 := grown_trans Gb gn
    have Fn3 := grown_trans Fb gn
    have Sn3 : w.heap.size + 2 ≤ wn3.heap.size := by have := gn.size; omega
    clear ht Rb Xb Gb sb gn hsw
    clear xf1 xf2 xf3 xf4 xc1 xc2 xc3 xc4 xlt Hs Rs Xs Gs
    have CS : CS (wn3.alloc (.cells #[.string ⟨#[100, 101, 115, 116, 114, 111, 121]⟩, .string ⟨#[114, 101, 118, 105, 101, 119]⟩, .string ⟨#[107, 101, 101, 112]⟩] 9)) (fun b => b = wn3.heap.size) (.slice (some ⟨wn3.heap.size, 0, none⟩) 3 3) ([destroyP, reviewP, keepP].map strV) := cs_lit wn3 9 [strV destroyP, strV reviewP, strV keepP] (by simp [maxLen])
    have Ha := Hn3.alloc (.cells #[.string ⟨#[100, 101, 115, 116, 114, 111, 121]⟩, .string ⟨#[114, 101, 118, 105, 101, 119]⟩, .string ⟨#[107, 101, 101, 112]⟩] 9)
    have Ra := Rn3.alloc (.cells #[.string ⟨#[100, 101, 115, 116, 114, 111, 121]⟩, .string ⟨#[114, 101, 118, 105, 101, 119]⟩, .string ⟨#[107, 101, 101, 112]⟩] 9)
    have Xa := Xn3.alloc (.cells #[.string ⟨#[100, 101, 115, 116, 114, 111, 121]⟩, .string ⟨#[114, 101, 118, 105, 101, 119]⟩, .string ⟨#[107, 101, 101, 112]⟩] 9)
    have Ga := grown_alloc Gn3 (.cells #[.string ⟨#[100, 101, 115, 116, 114, 111, 121]⟩, .string ⟨#[114, 101, 118, 105, 101, 119]⟩, .string ⟨#[107, 101, 101, 112]⟩] 9)
    have Fa := grown_alloc Fn3 (.cells #[.string ⟨#[100, 101, 115, 116, 114, 111, 121]⟩, .string ⟨#[114, 101, 118, 105, 101, 119]⟩, .string ⟨#[107, 101, 101, 112]⟩] 9)
    have hsy := says_any (.slice (some ⟨wn3.heap.size, 0, none⟩) 3 3) ⟨_, _, _, rfl⟩ (wn3.alloc (.cells #[.string ⟨#[100, 101, 115, 116, 114, 111, 121]⟩, .string ⟨#[114, 101, 118, 105, 101, 119]⟩, .string ⟨#[107, 101, 101, 112]⟩] 9))
    have zc : wn3.heap.size = wn3.heap.size := by rfl
    obtain ⟨v, hv⟩ : ∃ v, v = wn3.alloc (.cells #[.string ⟨#[100, 101, 115, 116, 114, 111, 121]⟩, .string ⟨#[114, 101, 118, 105, 101, 119]⟩, .string ⟨#[107, 101, 101, 112]⟩] 9) := ⟨_, rfl⟩
    have zv : v.heap.size = wn3.heap.size + 1 := by rw [hv, World.size_alloc, zc]
    rw [← hv] at CS Ha Ra Xa Ga hsy Fa
    rw [zv, zc] at hsy
    rw [zc] at CS
    skip
    have HV := Lib.hid hv
    clear hv
    go_wp2_with fail
    rw [← HV.out]
    refine hsy.mono ?_
    rintro e wb4 ⟨rfl, kb, bb⟩
    rw [← zv] at bb
    have gb := grown_of_below bb (some p)
    have hsw : w.heap.size + 2 ≤ wn3.heap.size := by have := Sn3; omega
    have mm := may_says (p := p) kb (by omega) (CS.below' bb) (fun b hb => by omega)
    have Hb := Ha.below bb
    have Rb := Ra.but gb hp
    have Xb := Xa.but gb (by omega)
    have Gb := grown_trans Ga gb
    have Fb := grown_trans Fa gb
    have sb : w.heap.size + 2 ≤ wb4.heap.size := by have := bb.size; omega
    have ht := HT6.out _ _ wb4 mm Hb
    clear CS Ha Ra Xa Ga hsy zc zv kb bb gb mm HV Hb HT6
    go_wp2_with fail
    refine ht.mono ?_
    rintro e wn4 ⟨rfl, Hn4, gn⟩
    have Rn4 := Rb.but gn hp
    have Xn4 := Xb.but gn (by omega)
    have Gn4 := grown_trans Gb gn
    have Fn4 := grown_trans Fb gn
    have Sn4 : w.heap.size + 2 ≤ wn4.heap.size := by have := gn.size; omega
    clear ht Rb Xb Gb sb gn hsw
    go_wp2_with fail
    refine (hac _).mono ?_
    rintro e wa ⟨rfl, e9⟩
    have e9 := e9.symm
    subst e9
    clear hac
    have xf5 := Xn4.free 5
    have xc5 := Xn4.cell 5
    have xlt := Xn4.lt
    have Ht := Hn4.setCell (a := ⟨w.heap.size + 1, 5, none⟩) (by show p < w.heap.size + 1; omega) (.int .i64 ac)
    have Rt := Rn4.aside (h := w.heap.size + 1) (i := 5) (by omega) (.int .i64 ac)
    have Xt := Xn4.put 5 (.int .i64 ac)
    have Gt := grown_cell Gn4 (a := ⟨w.heap.size + 1, 5, none⟩) (by show w.heap.size ≤ w.heap.size + 1; omega) (.int .i64 ac)
    have ht := HT7.out _ _ (wn4.setCell ⟨w.heap.size + 1, 5, none⟩ (.int .i64 ac)) (may_end p (wn4.setCell ⟨w.heap.size + 1, 5, none⟩ (.int .i64 ac))) Ht
    clear HT7
    go_wp2_with fail
    refine ht.mono ?_
    rintro e wn5 ⟨rfl, Hn5, gn⟩
    have Rn5 := Rt.but gn hp
    have Xn5 := Xt.but gn (by omega)
    have Gn5 := grown_trans Gt gn
    have Sn5 : w.heap.size + 2 ≤ wn5.heap.size := by have := gn.size; have := Sn4; simp only [World.setCell, Array.size_modify] at *; omega
    have hle2 : w.heap.size ≤ w.heap.size := Nat.le_refl _
    have xfin : KB wn5 (w.heap.size + 1) 44 #[.string ⟨#[]⟩, .int .i64 i1, .int .i64 i2, .string zz3, .slice X4 n4 z4, .int .i64 ac] := Xn5
    have f0 := Rn5.free 0
    have f1 := Rn5.free 1
    have f2 := Rn5.free 2
    have f3 := Rn5.free 3
    have f4 := Rn5.free 4
    have f5 := Rn5.free 5
    have r0 := Rn5.cell 0
    have r1 := Rn5.cell 1
    have r2 := Rn5.cell 2
    have r3 := Rn5.cell 3
    have r4 := Rn5.cell 4
    have r5 := Rn5.cell 5
    have x0 := xfin.cell 0
    have x1 := xfin.cell 1
    have x2 := xfin.cell 2
    have x3 := xfin.cell 3
    have x4 := xfin.cell 4
    have x5 := xfin.cell 5
    have hg0 := Rn5.lt
    have hg1 := xfin.lt
    obtain ⟨W5, hW5⟩ : ∃ W5, W5 = ((((((wn5.setCell ⟨w.heap.size, 0, none⟩ (.string ⟨#[]⟩)).setCell ⟨w.heap.size, 1, none⟩ (.int .i64 i1)).setCell ⟨w.heap.size, 2, none⟩ (.int .i64 i2)).setCell ⟨w.heap.size, 3, none⟩ (.string zz3)).setCell ⟨w.heap.size, 4, none⟩ (.slice X4 n4 z4)).setCell ⟨w.heap.size, 5, none⟩ (.int .i64 ac)) := ⟨_, rfl⟩
    have kfin := Rn5.put6 (.string ⟨#[]⟩) (.int .i64 i1) (.int .i64 i2) (.string zz3) (.slice X4 n4 z4) (.int .i64 ac)
    have st5 := (((((Hn5.setCell (a := ⟨w.heap.size, 0, none⟩) hp (.string ⟨#[]⟩)).setCell (a := ⟨w.heap.size, 1, none⟩) hp (.int .i64 i1)).setCell (a := ⟨w.heap.size, 2, none⟩) hp (.int .i64 i2)).setCell (a := ⟨w.heap.size, 3, none⟩) hp (.string zz3)).setCell (a := ⟨w.heap.size, 4, none⟩) hp (.slice X4 n4 z4)).setCell (a := ⟨w.heap.size, 5, none⟩) hp (.int .i64 ac)
    have gr5 := grown_cell (grown_cell (grown_four Gn5 hle2 (.string ⟨#[]⟩) (.int .i64 i1) (.int .i64 i2) (.string zz3)) (a := ⟨w.heap.size, 4, none⟩) hle2 (.slice X4 n4 z4)) (a := ⟨w.heap.size, 5, none⟩) hle2 (.int .i64 ac)
    have hblk : ∀ b, w.heap.size + 2 ≤ b → b < wd.heap.size → W5.heap[b]? = wd.heap[b]? := fun b hb hlt => by
      have e1 : W5.heap[b]? = wn5.heap[b]? := by
        rw [hW5]
        exact (Below.heap_setCell _ _ _ _ (by show b ≠ w.heap.size; omega)).trans ((Below.heap_setCell _ _ _ _ (by show b ≠ w.heap.size; omega)).trans ((Below.heap_setCell _ _ _ _ (by show b ≠ w.heap.size; omega)).trans ((Below.heap_setCell _ _ _ _ (by show b ≠ w.heap.size; omega)).trans ((Below.heap_setCell _ _ _ _ (by show b ≠ w.heap.size; omega)).trans (Below.heap_setCell _ _ _ _ (by show b ≠ w.heap.size; omega))))))
      have hsf := Fn4.size
      exact e1.trans ((gn.block b (by simp [World.setCell]; omega) (fun e => by injection e with e; omega)).trans ((Below.heap_setCell _ _ _ _ (by show b ≠ w.heap.size + 1; omega)).trans (Fn4.block b hlt (fun e => by injection e with e; omega))))
    have hsz5 : wd.heap.size ≤ W5.heap.size := by
      have h1 := Fn4.size
      have h2 := gn.size
      have h3 : W5.heap.size = wn5.heap.size := by rw [hW5]; simp [World.setCell]
      simp [World.setCell] at h2
      omega
    rw [← hW5] at kfin st5 gr5
    rw [← HR1.out] at st5
    have hfin := HD.out W5 ⟨#[]⟩ i1 i2 zz3 X4 n4 z4 ac (fun he => by
      obtain ⟨h1, h2⟩ := HR2.out he
      rw [h1]
      exact ⟨HZ2.out.symm, HCL.out, EX.keepL 17 cx _ _ _ _ (HXD.out h2) hsz5 (fun b sb' hlt => hblk b sb' hlt) (fun b sb' _ => by have h9 : w.heap.size + 2 ≤ b := sb'; show w.heap.size ≤ b; omega), rfl, HAI.out⟩) st5 gr5
    have HW5 := Lib.hid hW5
    clear hW5 hblk hsz5 st5 gr5 xfin Rn5 Xn5 Hn5 Gn5 gn Ht Rt Xt Gt HD HR1 HR2 HXD HZ2 HCL HAI Fn4
    go_wp2_with fail
    rw [← HW5.out]
    exact bodyPost_ret (results_cell (P := Tryz.prog) rfl _ _ w.heap.size _ _ (0, 0) _ rfl kfin Tryz.underlying44 rfl (by kernel_rfl)) rfl hfin
end
end Go.Proofs.YthindhlogkhclaaGreatDoor
