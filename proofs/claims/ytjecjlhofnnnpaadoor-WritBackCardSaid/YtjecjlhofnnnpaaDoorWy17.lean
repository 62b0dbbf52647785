/-
  WvJ: The program's Parse (layer 21), over the loaded program: its contract. No condition but the size that it names, and that the library's table and errors are as laid.
  SpT: The document's tell (layer 15): digits of a number, over the loaded program: its contract. No condition but the size that it names.
  WtA: The document's text, kid and Text (layer 21), over the loaded program: each one's contract. No condition but the sizes that each contract names.
-/
import Derived.Test.YtjecjlhofnnnpaaDoorWy13
import Derived.Test.YtjecjlhofnnnpaaDoorWy14
import Derived.Test.YtjecjlhofnnnpaaDoorWy16
import Derived.Test.YtjecjlhofnnnpaaDoorWy03
import Derived.Test.YtjecjlhofnnnpaaDoorWy05
import Derived.Test.YtjecjlhofnnnpaaDoorWy01
import Derived.Lib.ItoaLen
import Derived.Test.YtjecjlhofnnnpaaDoorWy04
import Derived.Deep.RegionHeld3
import Derived.BigQuiet
set_option linter.unusedVariables false
set_option maxRecDepth 100000
namespace Go.Proofs.YtjecjlhofnnnpaaDoor
section
open Go.RowKit
def PTop : Prop := ∀ (S : Nat → Prop) (g : Nat) (ws : List Wv) (w : World), PW w g S (some ws) 0 → (∀ b, S b → b < w.heap.size) → ws.length ≤ 1000000 →
    Calls Tryd.prog 14 #[.pointer (some ⟨g, 0, none⟩)] w (PFactV w g S (84 + 1) (orV (f := 83) (factW 41) ws) 0)
theorem ptop_any : PTop := fun S g ws w h hS hL =>
  pscope_any g 84 S (andV (f := 83) (factW 41)) (andW_shrinks (factW_shrinks 41)) True 0 (pterm_any g 83 S (factW 41) (factW_shrinks 41) True 0 fun st w h1 h2 h3 _ => pfactor_any S 41 g 0 (by omega) (by omega) st w h1 h2 h3 (.inr ⟨rfl, by omega⟩)) (some ws) w h hS hL (.inr trivial)
set_option maxHeartbeats 4000000 in
theorem pparse_long (l : List UInt8) (hl : 1000 < l.length) (hm : l.length ≤ maxLen) (w : World) : Calls Tryd.prog 8 #[strV l] w (ParseZ w (zeroNs, 3)) := by
  have hs : ((⟨l.toArray⟩ : ByteArray).size : Int) = (l.length : Int) := rfl
  have K := KB.new w 24 #[.int .i64 0, .string ⟨#[]⟩, .int .i64 0, .int .i64 0, .slice none 0 0]
  have B := (Below.refl w.heap.size w).alloc (Nat.le_refl _) (.cells #[.int .i64 0, .string ⟨#[]⟩, .int .i64 0, .int .i64 0, .slice none 0 0] 24)
  have hml : l.length ≤ 9223372036854775807 := by unfold maxLen at hm; omega
  unfold strV
  generalize (⟨l.toArray⟩ : ByteArray) = s at *
  go_enter Tryd.func8, Tryd.ntmps8
  go_wp2_with fail
  exact bodyPost_ret (results_cell_tmp (P := Tryd.prog) (p := 2) (u := 3) rfl _ _ w.heap.size _ _ (0, 0) _ rfl K Tryd.underlying24 rfl (by kernel_rfl)) rfl ⟨_, rfl, zero_ZV _ _ _, B⟩
set_option maxHeartbeats 8000000 in
theorem pparse_short (l : List UInt8) (hl : l.length ≤ 1000) (w : World) (hT : Tabs w) (r : Ns (Sc 84) × Int) (o : Option (Sc (84 + 1) × List Wv)) (ho : o = orV (f := 83) (factW 41) (wordsW l))
    (r0 : o = none → r = (zeroNs, 2)) (r1 : ∀ x y ys, o = some (x, y :: ys) → r = (zeroNs, 2)) (r2 : ∀ x, o = some (x, []) → mayS (84 + 1) x = false → r = (zeroNs, 1)) (r3 : ∀ x : Sc (84 + 1), o = some (x, []) → mayS (84 + 1) x = true → r = ((x : Ns (Sc 84)), 0)) :
    Calls Tryd.prog 8 #[strV l] w (ParseZ w r) := by
  have hs : ((⟨l.toArray⟩ : ByteArray).size : Int) = (l.length : Int) := rfl
  have K := KB.new w 24 #[.int .i64 0, .string ⟨#[]⟩, .int .i64 0, .int .i64 0, .slice none 0 0]
  have B := (Below.refl w.heap.size w).alloc (Nat.le_refl _) (.cells #[.int .i64 0, .string ⟨#[]⟩, .int .i64 0, .int .i64 0, .slice none 0 0] 24)
  have hwd := split_any l hl (w.alloc (.cells #[.int .i64 0, .string ⟨#[]⟩, .int .i64 0, .int .i64 0, .slice none 0 0] 24))
  have hfew := wordsW_few l
  have htop := fun S g W => ptop_any S g (wordsW l) W
  rw [← ho] at htop
  clear ho
  generalize wordsW l = ws at *
  replace htop := Lib.hid htop
  replace r0 := Lib.hid r0
  replace r1 := Lib.hid r1
  replace r2 := Lib.hid r2
  replace r3 := Lib.hid r3
  replace hfew := Lib.hid hfew
  unfold strV at hwd ⊢
  generalize (⟨l.toArray⟩ : ByteArray) = s at *
  go_enter Tryd.func8, Tryd.ntmps8
  go_wp2_with fail
  refine hwd.mono ?_
  rintro e w1 ⟨v1, rfl, how, b1⟩
  have K1 := K.below b1 K.lt
  have B1 := B.trans (b1.mono B.size)
  have hcs := (CS.of_own how).lt
  obtain ⟨A1, c1, rfl, _⟩ := hcs.form
  have hn1 : (ws.map strV).length = ws.length := by simp
  have s1 : w.heap.size + 1 ≤ w1.heap.size := by have := b1.size; simpa using this
  have R1 : PW (w1.alloc (.cells #[.slice A1 (ws.map strV).length c1, .int .i64 0, .bool false] 41)) w1.heap.size (fun x => w.heap.size < x ∧ x < w1.heap.size) (some ws) 0 :=
    ⟨_, _, _, KB.new w1 _ _, (hcs.keep (by simp) fun b _ hb => Below.heap_alloc w1 _ b hb).mono fun b hb => ⟨by have := hb.1; simp at this; omega, hb.2⟩, by omega, (fun u hu => by have := hfew.out.2 u hu; omega), w, hT, B1.alloc B1.size _, by omega⟩
  have K2 := K1.alloc (.cells #[.slice A1 (ws.map strV).length c1, .int .i64 0, .bool false] 41)
  have B2 := B1.alloc B1.size (.cells #[.slice A1 (ws.map strV).length c1, .int .i64 0, .bool false] 41)
  have hc := htop.out _ w1.heap.size _ R1 (fun b hb => by simp; omega) (by have := hfew.out.1; omega)
  rw [hn1] at hc K2 B2
  clear R1 hcs how b1 B1 K1 hwd htop hfew K B hn1 hT
  go_wp2_with fail
  refine hc.mono ?_
  rintro e w3 ⟨v3, x3, rfl, R3, tv3, hx3, G3⟩
  replace hx3 := Lib.hid hx3
  obtain ⟨e0, e1, e2, e3, e4, rfl, tm⟩ := tv3
  obtain ⟨j0, l1, j2, j3, X4, n4, z4, rfl, rfl, rfl, rfl, rfl⟩ := tm.form
  unfold strV at *
  have K3 := (K2.grown G3 (by simp; omega)).alloc (.cells #[.int .i64 j0, .string ⟨l1.toArray⟩, .int .i64 j2, .int .i64 j3, .slice X4 n4 z4] 24)
  have B3 := B2.grown G3 B2.size (fun k hk => by injection hk with hk; omega)
  have B4 := B3.alloc B3.size (.cells #[.int .i64 j0, .string ⟨l1.toArray⟩, .int .i64 j2, .int .i64 j3, .slice X4 n4 z4] 24)
  have R4 := R3.alloc (.cells #[.int .i64 j0, .string ⟨l1.toArray⟩, .int .i64 j2, .int .i64 j3, .slice X4 n4 z4] 24)
  have g3 := G3.size
  rw [World.size_alloc] at g3
  clear hc K2 B2 B3 R3 G3
  cases o with
  | none =>
    have hr := r0.out rfl
    subst hr
    clear r0 r1 r2 r3 hx3
    obtain ⟨⟨Ar, cr, q1⟩, _, q2, _⟩ := R4.cells
    have q2 : (w3.alloc (.cells #[.int .i64 j0, .string ⟨l1.toArray⟩, .int .i64 j2, .int .i64 j3, .slice X4 n4 z4] 24)).cell? ⟨w1.heap.size, 2, none⟩ = some (.bool true) := q2
    clear R4 tm
    have c0 : (w3.alloc (.cells #[.int .i64 j0, .string ⟨l1.toArray⟩, .int .i64 j2, .int .i64 j3, .slice X4 n4 z4] 24)).cell? ⟨w.heap.size, 0, none⟩ = some (.int .i64 0) := K3.cell 0
    have c1 : (w3.alloc (.cells #[.int .i64 j0, .string ⟨l1.toArray⟩, .int .i64 j2, .int .i64 j3, .slice X4 n4 z4] 24)).cell? ⟨w.heap.size, 1, none⟩ = some (.string ⟨#[]⟩) := K3.cell 1
    have c2 : (w3.alloc (.cells #[.int .i64 j0, .string ⟨l1.toArray⟩, .int .i64 j2, .int .i64 j3, .slice X4 n4 z4] 24)).cell? ⟨w.heap.size, 2, none⟩ = some (.int .i64 0) := K3.cell 2
    have c3 : (w3.alloc (.cells #[.int .i64 j0, .string ⟨l1.toArray⟩, .int .i64 j2, .int .i64 j3, .slice X4 n4 z4] 24)).cell? ⟨w.heap.size, 3, none⟩ = some (.int .i64 0) := K3.cell 3
    have c4 : (w3.alloc (.cells #[.int .i64 j0, .string ⟨l1.toArray⟩, .int .i64 j2, .int .i64 j3, .slice X4 n4 z4] 24)).cell? ⟨w.heap.size, 4, none⟩ = some (.slice none 0 0) := K3.cell 4
    have f0 := K3.free 0
    have f1 := K3.free 1
    have f2 := K3.free 2
    have f3 := K3.free 3
    have f4 := K3.free 4
    go_wp2_with fail
    exact bodyPost_ret (results_cell_tmp (P := Tryd.prog) (p := 2) (u := 3) rfl _ _ w.heap.size _ _ (0, 0) _ rfl (zput_five K3) Tryd.underlying24 rfl (by kernel_rfl)) rfl ⟨_, rfl, zero_ZV _ _ _, B4.trans (below_of_grown' (zgrown_five _ _ _ _ _ _ _) (Nat.le_refl _) B4.size)⟩
  | some p =>
    obtain ⟨x, rest⟩ := p
    obtain rfl : x3 = x := hx3.out _ rfl
    obtain ⟨Ar, nr, cr, k1, k2, _⟩ := R4
    obtain ⟨wsr, rfl⟩ : ∃ wsr, wsr = rest := ⟨_, rfl⟩
    have k2 : CS _ _ (.slice Ar nr cr) (wsr.map strV) := k2
    obtain ⟨_, _, ea, hl2, hm2⟩ := k2.form
    injection ea with ea1 ea2 ea3
    subst ea1 ea2 ea3
    have q1 : (w3.alloc (.cells #[.int .i64 j0, .string ⟨l1.toArray⟩, .int .i64 j2, .int .i64 j3, .slice X4 n4 z4] 24)).cell? ⟨w1.heap.size, 0, none⟩ = some (.slice Ar (wsr.map strV).length cr) := k1.cell 0
    have q2 : (w3.alloc (.cells #[.int .i64 j0, .string ⟨l1.toArray⟩, .int .i64 j2, .int .i64 j3, .slice X4 n4 z4] 24)).cell? ⟨w1.heap.size, 2, none⟩ = some (.bool false) := k1.cell 2
    cases wsr with
    | cons y ys =>
      have hr := r1.out x3 y ys rfl
      subst hr
      have hlen : ((y :: ys).map strV).length ≤ 9223372036854775807 := by unfold maxLen at hm2; omega
      have hpos : (0 : Int) < (((y :: ys).map strV).length : Int) := by simp
      have hposN : 0 < ((y :: ys).map strV).length := by simp
      clear r0 r1 r2 r3 hx3 k1 k2 tm
      generalize ((y :: ys).map strV).length = ln at *
      have c0 : (w3.alloc (.cells #[.int .i64 j0, .string ⟨l1.toArray⟩, .int .i64 j2, .int .i64 j3, .slice X4 n4 z4] 24)).cell? ⟨w.heap.size, 0, none⟩ = some (.int .i64 0) := K3.cell 0
      have c1 : (w3.alloc (.cells #[.int .i64 j0, .string ⟨l1.toArray⟩, .int .i64 j2, .int .i64 j3, .slice X4 n4 z4] 24)).cell? ⟨w.heap.size, 1, none⟩ = some (.string ⟨#[]⟩) := K3.cell 1
      have c2 : (w3.alloc (.cells #[.int .i64 j0, .string ⟨l1.toArray⟩, .int .i64 j2, .int .i64 j3, .slice X4 n4 z4] 24)).cell? ⟨w.heap.size, 2, none⟩ = some (.int .i64 0) := K3.cell 2
      have c3 : (w3.alloc (.cells #[.int .i64 j0, .string ⟨l1.toArray⟩, .int .i64 j2, .int .i64 j3, .slice X4 n4 z4] 24)).cell? ⟨w.heap.size, 3, none⟩ = some (.int .i64 0) := K3.cell 3
      have c4 : (w3.alloc (.cells #[.int .i64 j0, .string ⟨l1.toArray⟩, .int .i64 j2, .int .i64 j3, .slice X4 n4 z4] 24)).cell? ⟨w.heap.size, 4, none⟩ = some (.slice none 0 0) := K3.cell 4
      have f0 := K3.free 0
      have f1 := K3.free 1
      have f2 := K3.free 2
      have f3 := K3.free 3
      have f4 := K3.free 4
      go_wp2_with fail
      exact bodyPost_ret (results_cell_tmp (P := Tryd.prog) (p := 2) (u := 3) rfl _ _ w.heap.size _ _ (0, 0) _ rfl (zput_five K3) Tryd.underlying24 rfl (by kernel_rfl)) rfl ⟨_, rfl, zero_ZV _ _ _, B4.trans (below_of_grown' (zgrown_five _ _ _ _ _ _ _) (Nat.le_refl _) B4.size)⟩
    | nil =>
      have q1 : (w3.alloc (.cells #[.int .i64 j0, .string ⟨l1.toArray⟩, .int .i64 j2, .int .i64 j3, .slice X4 n4 z4] 24)).cell? ⟨w1.heap.size, 0, none⟩ = some (.slice Ar 0 cr) := q1
      clear k1 k2 hl2 hm2
      have K7 := KB.new w3 24 #[.int .i64 j0, .string ⟨l1.toArray⟩, .int .i64 j2, .int .i64 j3, .slice X4 n4 z4]
      have tv3 : ZV (w3.alloc (.cells #[.int .i64 j0, .string ⟨l1.toArray⟩, .int .i64 j2, .int .i64 j3, .slice X4 n4 z4] 24)) (fun x => w.heap.size < x ∧ x < (w3.alloc (.cells #[.int .i64 j0, .string ⟨l1.toArray⟩, .int .i64 j2, .int .i64 j3, .slice X4 n4 z4] 24)).heap.size) (84 + 1) (.agg #[.int .i64 j0, .string ⟨l1.toArray⟩, .int .i64 j2, .int .i64 j3, .slice X4 n4 z4]) x3 := ZV.alloc ⟨_, _, _, _, _, rfl, ZX.keepS tm (Nat.le_refl _) (fun _ _ _ => rfl) fun x hx => ⟨by have := hx.1; simp at this; omega, by have := hx.2; simp; omega⟩⟩ _
      have hmy := zpcheck_any _ (84 + 1) x3 _ _ (fun b hb => hb.2) tv3
      clear tm
      cases hmay : mayS (84 + 1) x3 with
      | false =>
        have hr := r2.out x3 rfl hmay
        subst hr
        rw [hmay] at hmy
        rw [if_neg (by simp)] at hmy
        clear r0 r1 r2 r3 hx3 hmay
        have d0 : (w3.alloc (.cells #[.int .i64 j0, .string ⟨l1.toArray⟩, .int .i64 j2, .int .i64 j3, .slice X4 n4 z4] 24)).cell? ⟨w3.heap.size, 0, none⟩ = some (.int .i64 j0) := K7.cell 0
        have d1 : (w3.alloc (.cells #[.int .i64 j0, .string ⟨l1.toArray⟩, .int .i64 j2, .int .i64 j3, .slice X4 n4 z4] 24)).cell? ⟨w3.heap.size, 1, none⟩ = some (.string ⟨l1.toArray⟩) := K7.cell 1
        have d2 : (w3.alloc (.cells #[.int .i64 j0, .string ⟨l1.toArray⟩, .int .i64 j2, .int .i64 j3, .slice X4 n4 z4] 24)).cell? ⟨w3.heap.size, 2, none⟩ = some (.int .i64 j2) := K7.cell 2
        have d3 : (w3.alloc (.cells #[.int .i64 j0, .string ⟨l1.toArray⟩, .int .i64 j2, .int .i64 j3, .slice X4 n4 z4] 24)).cell? ⟨w3.heap.size, 3, none⟩ = some (.int .i64 j3) := K7.cell 3
        have d4 : (w3.alloc (.cells #[.int .i64 j0, .string ⟨l1.toArray⟩, .int .i64 j2, .int .i64 j3, .slice X4 n4 z4] 24)).cell? ⟨w3.heap.size, 4, none⟩ = some (.slice X4 n4 z4) := K7.cell 4
        go_wp2_with fail
        refine hmy.mono ?_
        rintro e w4 ⟨rfl, b4⟩
        have K4 := K3.below b4 K3.lt
        have K8 := K7.below b4 K7.lt
        have B5 := B4.trans (b4.mono B4.size)
        have tv4 := tv3.below' b4
        have s4 := b4.size
        clear hmy q1 q2 d0 d1 d2 d3 d4 K3 K7 B4 tv3 b4
        have c0 : (w4).cell? ⟨w.heap.size, 0, none⟩ = some (.int .i64 0) := K4.cell 0
        have c1 : (w4).cell? ⟨w.heap.size, 1, none⟩ = some (.string ⟨#[]⟩) := K4.cell 1
        have c2 : (w4).cell? ⟨w.heap.size, 2, none⟩ = some (.int .i64 0) := K4.cell 2
        have c3 : (w4).cell? ⟨w.heap.size, 3, none⟩ = some (.int .i64 0) := K4.cell 3
        have c4 : (w4).cell? ⟨w.heap.size, 4, none⟩ = some (.slice none 0 0) := K4.cell 4
        have f0 := K4.free 0
        have f1 := K4.free 1
        have f2 := K4.free 2
        have f3 := K4.free 3
        have f4 := K4.free 4
        go_wp2_with fail
        exact bodyPost_ret (results_cell_tmp (P := Tryd.prog) (p := 2) (u := 3) rfl _ _ w.heap.size _ _ (0, 0) _ rfl (zput_five K4) Tryd.underlying24 rfl (by kernel_rfl)) rfl ⟨_, rfl, zero_ZV _ _ _, B5.trans (below_of_grown' (zgrown_five _ _ _ _ _ _ _) (Nat.le_refl _) B5.size)⟩
      | true =>
        have hr := r3.out x3 rfl hmay
        subst hr
        rw [hmay] at hmy
        rw [if_pos rfl] at hmy
        clear r0 r1 r2 r3 hx3 hmay
        have d0 : (w3.alloc (.cells #[.int .i64 j0, .string ⟨l1.toArray⟩, .int .i64 j2, .int .i64 j3, .slice X4 n4 z4] 24)).cell? ⟨w3.heap.size, 0, none⟩ = some (.int .i64 j0) := K7.cell 0
        have d1 : (w3.alloc (.cells #[.int .i64 j0, .string ⟨l1.toArray⟩, .int .i64 j2, .int .i64 j3, .slice X4 n4 z4] 24)).cell? ⟨w3.heap.size, 1, none⟩ = some (.string ⟨l1.toArray⟩) := K7.cell 1
        have d2 : (w3.alloc (.cells #[.int .i64 j0, .string ⟨l1.toArray⟩, .int .i64 j2, .int .i64 j3, .slice X4 n4 z4] 24)).cell? ⟨w3.heap.size, 2, none⟩ = some (.int .i64 j2) := K7.cell 2
        have d3 : (w3.alloc (.cells #[.int .i64 j0, .string ⟨l1.toArray⟩, .int .i64 j2, .int .i64 j3, .slice X4 n4 z4] 24)).cell? ⟨w3.heap.size, 3, none⟩ = some (.int .i64 j3) := K7.cell 3
        have d4 : (w3.alloc (.cells #[.int .i64 j0, .string ⟨l1.toArray⟩, .int .i64 j2, .int .i64 j3, .slice X4 n4 z4] 24)).cell? ⟨w3.heap.size, 4, none⟩ = some (.slice X4 n4 z4) := K7.cell 4
        go_wp2_with fail
        refine hmy.mono ?_
        rintro e w4 ⟨rfl, b4⟩
        have K4 := K3.below b4 K3.lt
        have K8 := K7.below b4 K7.lt
        have B5 := B4.trans (b4.mono B4.size)
        have tv4 := tv3.below' b4
        have s4 := b4.size
        clear hmy q1 q2 d0 d1 d2 d3 d4 K3 K7 B4 tv3 b4
        have c0 : (w4).cell? ⟨w.heap.size, 0, none⟩ = some (.int .i64 0) := K4.cell 0
        have c1 : (w4).cell? ⟨w.heap.size, 1, none⟩ = some (.string ⟨#[]⟩) := K4.cell 1
        have c2 : (w4).cell? ⟨w.heap.size, 2, none⟩ = some (.int .i64 0) := K4.cell 2
        have c3 : (w4).cell? ⟨w.heap.size, 3, none⟩ = some (.int .i64 0) := K4.cell 3
        have c4 : (w4).cell? ⟨w.heap.size, 4, none⟩ = some (.slice none 0 0) := K4.cell 4
        have f0 := K4.free 0
        have f1 := K4.free 1
        have f2 := K4.free 2
        have f3 := K4.free 3
        have f4 := K4.free 4
        have d0 : (w4).cell? ⟨w3.heap.size, 0, none⟩ = some (.int .i64 j0) := K8.cell 0
        have d1 : (w4).cell? ⟨w3.heap.size, 1, none⟩ = some (.string ⟨l1.toArray⟩) := K8.cell 1
        have d2 : (w4).cell? ⟨w3.heap.size, 2, none⟩ = some (.int .i64 j2) := K8.cell 2
        have d3 : (w4).cell? ⟨w3.heap.size, 3, none⟩ = some (.int .i64 j3) := K8.cell 3
        have d4 : (w4).cell? ⟨w3.heap.size, 4, none⟩ = some (.slice X4 n4 z4) := K8.cell 4
        have hfin : ZV (((((w4.setCell ⟨w.heap.size, 0, none⟩ (.int .i64 j0)).setCell ⟨w.heap.size, 1, none⟩ (.string ⟨l1.toArray⟩)).setCell ⟨w.heap.size, 2, none⟩ (.int .i64 j2)).setCell ⟨w.heap.size, 3, none⟩ (.int .i64 j3)).setCell ⟨w.heap.size, 4, none⟩ (.slice X4 n4 z4)) (fun x => w.heap.size ≤ x ∧ x < (((((w4.setCell ⟨w.heap.size, 0, none⟩ (.int .i64 j0)).setCell ⟨w.heap.size, 1, none⟩ (.string ⟨l1.toArray⟩)).setCell ⟨w.heap.size, 2, none⟩ (.int .i64 j2)).setCell ⟨w.heap.size, 3, none⟩ (.int .i64 j3)).setCell ⟨w.heap.size, 4, none⟩ (.slice X4 n4 z4)).heap.size) (84 + 1) (.agg #[.int .i64 j0, .string ⟨l1.toArray⟩, .int .i64 j2, .int .i64 j3, .slice X4 n4 z4]) x3 :=
          tv4.keepL (Nat.le_of_eq (zsets_size _ _ _ _ _ _ _)) (fun x hx _ => zsets_block _ _ _ _ _ _ _ _ (by have := hx.1; omega)) fun x hx hlt => ⟨by have := hx.1; omega, by rw [← zsets_size]; exact hlt⟩
        replace hfin := Lib.hid hfin
        clear tv4
        go_wp2_with fail
        exact bodyPost_ret (results_cell_tmp (P := Tryd.prog) (p := 2) (u := 3) rfl _ _ w.heap.size _ _ (0, 0) _ rfl (zput_five K4) Tryd.underlying24 rfl (by kernel_rfl)) rfl ⟨_, rfl, hfin.out, B5.trans (below_of_grown' (zgrown_five _ _ _ _ _ _ _) (Nat.le_refl _) B5.size)⟩
theorem pparse_any (l : List UInt8) (hm : l.length ≤ maxLen) (w : World) (hT : Tabs w) : Calls Tryd.prog 8 #[strV l] w (ParseZ w (parseSc l)) := by
  rw [parse_is]
  by_cases h : 1000 < l.length
  · rw [if_pos h]; exact pparse_long l h hm w
  · rw [if_neg h]
    refine pparse_short l (by omega) w hT _ _ rfl (fun e => ?_) (fun x y ys e => ?_) (fun x e hb => ?_) (fun x e hb => ?_)
    · rw [e]; rfl
    · rw [e]; rfl
    · rw [e]; exact if_neg (by rw [hb]; simp)
    · rw [e]; exact if_pos hb
end
section
open Go.RowKit
theorem digit_one_fin : ∀ r : Fin 10, (([48, 49, 50, 51, 52, 53, 54, 55, 56, 57] : List UInt8).drop r.val).take (r.val + 1 - r.val) = [UInt8.ofNat (48 + r.val)] := by decide
theorem digit_txt (r : Nat) (hr : r < 10) : ∀ W : World, (Instr.slice 9 (.string { data := #[48, 49, 50, 51, 52, 53, 54, 55, 56, 57] }) (some (.int .u64 (r : Int))) (some (.int .u64 ((r : Int) + 1))) none).run Tryd.prog W = .ok (.string ⟨[UInt8.ofNat (48 + r)].toArray⟩) W := fun W => by
  have h := txt_mid [48, 49, 50, 51, 52, 53, 54, 55, 56, 57] .u64 .u64 r (r + 1) (by omega) (by simp; omega) W
  rw [digit_one_fin ⟨r, hr⟩] at h
  exact h
def restD (m : Nat) : List UInt8 := if m = 0 then [] else Lib.decDigits m
theorem digits_step (m : Nat) : Lib.decDigits m = restD (m / 10) ++ [UInt8.ofNat (48 + m % 10)] := by
  unfold restD
  by_cases h : m < 10
  · rw [if_pos (by omega), Lib.decDigits_one h, Nat.mod_eq_of_lt h]; rfl
  · rw [if_neg (by omega), Lib.decDigits, dif_neg h]
theorem rest_step {m : Nat} {t l : List UInt8} (h0 : 0 < m) (h : restD m ++ t = l) : restD (m / 10) ++ (UInt8.ofNat (48 + m % 10) :: t) = l := by
  rw [← h]
  have e : restD m = Lib.decDigits m := by unfold restD; rw [if_neg (by omega)]
  rw [e, digits_step m, List.append_assoc]
  rfl
end
section
open Go.RowKit
theorem wadd (s t u : ByteArray) (l m : List UInt8) (hs : s = ⟨l.toArray⟩) (ht : t = ⟨m.toArray⟩) (hu : u = ⟨(l ++ m).toArray⟩) (h : l.length + m.length ≤ 9223372036854775807) : ∀ W : World, (Op.stringOp .add s t).run Tryd.prog W = .ok (.string u) W := by
  subst hs ht hu
  exact txt_add l m h
theorem ZV.op {w : World} {S : Nat → Prop} : ∀ {f : Nat} {t : Sc f} {a b c d e : Value}, ZV w S f (.agg #[a, b, c, d, e]) t → a = .int .i64 (opS f t)
  | 0, t, _, _, _, _, _, _ => nomatch t
  | f + 1, t, _, _, _, _, _, h => by
    obtain ⟨_, _, _, _, _, e, h⟩ := h
    injection e with e
    simp only [Array.mk.injEq, List.cons.injEq, and_true] at e
    obtain ⟨rfl, rfl, rfl, rfl, rfl⟩ := e
    exact h.1
end
end Go.Proofs.YtjecjlhofnnnpaaDoor
