/-
  PaH: The program's condition (layer 18), over the loaded program: its contract, at every depth. No condition but what it names.
  PaI: The program's act and rule (layer 18), over the loaded program: their contracts. No condition but what it names.
-/
import Derived.Test.YthindhlogkhclaaGreatDoorPz23
set_option linter.unusedVariables false
set_option maxRecDepth 100000
namespace Go.Proofs.YthindhlogkhclaaGreatDoor
section
open Go.RowKit
theorem St.deep {w : World} {p : Nat} {n d : Int} {s : Ps} (h : St w p n d s) (d' : Int) : St (w.setCell ⟨p, 3, none⟩ (.int .i64 d')) p n d' s := by
  obtain ⟨v, F, k, ht, r⟩ := h
  exact ⟨v, F, k.put 3 _, ht.but (grown_set w p 3 _), r⟩
set_option maxHeartbeats 8000000 in
theorem cond_step (p : Nat) (n d : Int) {k : Nat} (f : Ps → Ex (k + 1) × Ps) (hd0 : 0 ≤ d) (hd8 : d ≤ 8) (s s2 : Ps) (w : World) (hs2 : s2 = if d = 8 then failP 2 (burnP s) else burnP s)
    (hsev : ∀ W, St W p n (d + 1) s2 → Calls Tryz.prog 67 #[.pointer (some ⟨p, 0, none⟩), .int .i64 2, .string ⟨#[111, 114]⟩, .func (.func 68) #[.pointer (some ⟨p, 0, none⟩)] #[]] W (GotAs p n (d + 1) f s2 W))
    (h : St w p n d s) : Calls Tryz.prog 33 #[.pointer (some ⟨p, 0, none⟩)] w (GotAs p n d f s2 w) := by
  have hp := h.lt
  have R0 := KB.new w 42 #[.int .i64 0, .int .i64 0, .string ⟨#[]⟩, .slice none 0 0]
  have g0 : w.grownBy (w.alloc (.cells #[.int .i64 0, .int .i64 0, .string ⟨#[]⟩, .slice none 0 0] 42)) (some p) := grown_alloc (World.grownBy.refl w _) _
  have hsp := spend_any p n d s _ (h.alloc (.cells #[.int .i64 0, .int .i64 0, .string ⟨#[]⟩, .slice none 0 0] 42))
  have s0 : (w.alloc (.cells #[.int .i64 0, .int .i64 0, .string ⟨#[]⟩, .slice none 0 0] 42)).heap.size = w.heap.size + 1 := by simp
  obtain ⟨D, hD⟩ : ∃ D, D = GotAs p n d f s2 w := ⟨_, rfl⟩
  rw [← hD]
  have HD : Hid (∀ W i0 i1 z2 X3 n3 z3, ((f s2).2.e = 0 → EX W (fun b => w.heap.size ≤ b) (k + 1) (f s2).1 (.int .i64 i0) (.int .i64 i1) (.string z2) (.slice X3 n3 z3)) → St W p n d (f s2).2 → w.grownBy W (some p) →
      D (.returned (.agg #[.int .i64 i0, .int .i64 i1, .string z2, .slice X3 n3 z3])) W) := fun W i0 i1 z2 X3 n3 z3 h1 h2 h3 => by rw [hD]; exact ⟨i0, i1, z2, X3, n3, z3, rfl, h1, h2, h3⟩
  have HSV := Lib.hid hsev
  unfold GotAs at HSV
  clear hD h hsev
  generalize f s2 = fp at *
  obtain ⟨fx, fs⟩ := fp
  dsimp only at HD HSV
  have I1 : IntKind.i64.wrap (d + 1) = d + 1 := by rw [IntKind.wrap_i64]; omega
  have I2 : wrap64 (d + 1) = d + 1 := IntWalk.wrap64_in _ (by omega)
  have I3 : IntKind.i64.wrap ((d + 1) - 1) = d := by rw [IntKind.wrap_i64]; omega
  have I4 : wrap64 ((d + 1) - 1) = d := by rw [IntWalk.wrap64_in _ (by omega)]; omega
  -- the end
  have HEND : Hid (∀ w3 w5 i0 i1 z2 X3 n3 z3, KB w3 w.heap.size 42 #[.int .i64 0, .int .i64 0, .string ⟨#[]⟩, .slice none 0 0] → w.grownBy w3 (some p) → w3.grownBy w5 (some p) → (fs.e = 0 → EX w5 (fun b => w3.heap.size ≤ b) (k + 1) fx (.int .i64 i0) (.int .i64 i1) (.string z2) (.slice X3 n3 z3)) → St w5 p n (d + 1) fs →
      ∀ W5, W5 = ((((((w5.setCell ⟨p, 3, none⟩ (.int .i64 d)).setCell ⟨w.heap.size, 0, none⟩ (.int .i64 i0)).setCell ⟨w.heap.size, 1, none⟩ (.int .i64 i1)).setCell ⟨w.heap.size, 2, none⟩ (.string z2)).setCell ⟨w.heap.size, 3, none⟩ (.slice X3 n3 z3)).alloc (.cells #[.int .i64 i0, .int .i64 i1, .string z2, .slice X3 n3 z3] 42)) →
      KB W5 w.heap.size 42 #[.int .i64 i0, .int .i64 i1, .string z2, .slice X3 n3 z3] ∧ D (.returned (.agg #[.int .i64 i0, .int .i64 i1, .string z2, .slice X3 n3 z3])) W5) := by
    intro w3 w5 i0 i1 z2 X3 n3 z3 R3 G3 g5 hx h5 W5 hW5
    have hw3 : w.heap.size + 1 ≤ w3.heap.size := R3.lt
    have R5 : KB (w5.setCell ⟨p, 3, none⟩ (.int .i64 d)) w.heap.size 42 #[.int .i64 0, .int .i64 0, .string ⟨#[]⟩, .slice none 0 0] := (R3.but g5 hp).but (grown_set w5 p 3 _) hp
    have G5 : w.grownBy (w5.setCell ⟨p, 3, none⟩ (.int .i64 d)) (some p) := grown_trans (grown_trans G3 g5) (grown_set w5 p 3 _)
    have e5 := ((h5.deep d).four hp (.int .i64 i0) (.int .i64 i1) (.string z2) (.slice X3 n3 z3)).alloc (.cells #[.int .i64 i0, .int .i64 i1, .string z2, .slice X3 n3 z3] 42)
    have e6 := grown_alloc (grown_four G5 (Nat.le_refl _) (.int .i64 i0) (.int .i64 i1) (.string z2) (.slice X3 n3 z3)) (.cells #[.int .i64 i0, .int .i64 i1, .string z2, .slice X3 n3 z3] 42)
    have e7 := (R5.put4 (.int .i64 i0) (.int .i64 i1) (.string z2) (.slice X3 n3 z3)).alloc (.cells #[.int .i64 i0, .int .i64 i1, .string z2, .slice X3 n3 z3] 42)
    have hblk : ∀ b, b < w5.heap.size → w.heap.size + 1 ≤ b → W5.heap[b]? = w5.heap[b]? := fun b hlt hb => by
      rw [hW5]
      refine (Below.heap_alloc _ _ _ (by simp [World.setCell]; exact hlt)).trans ?_
      exact (Below.heap_setCell _ _ _ _ (by show b ≠ w.heap.size; omega)).trans ((Below.heap_setCell _ _ _ _ (by show b ≠ w.heap.size; omega)).trans ((Below.heap_setCell _ _ _ _ (by show b ≠ w.heap.size; omega)).trans ((Below.heap_setCell _ _ _ _ (by show b ≠ w.heap.size; omega)).trans (Below.heap_setCell _ _ _ _ (by show b ≠ p; omega)))))
    have hsz : W5.heap.size = w5.heap.size + 1 := by rw [hW5]; simp [World.setCell]
    rw [← hW5] at e5 e6 e7
    exact ⟨e7, HD.out W5 i0 i1 z2 X3 n3 z3 (fun he => EX.keepL (k + 1) fx _ _ _ _ (hx he) (by omega) (fun b sb' hb' => hblk b hb' (Nat.le_trans hw3 sb')) (fun b sb' _ => by have h5 : w3.heap.size ≤ b := sb'; show w.heap.size ≤ b; omega)) e5 e6⟩
  clear HD
  by_cases h8 : d = 8
  · rw [if_pos h8] at hs2
    have HFL : Hid (∀ W, St W p n d (burnP s) → Calls Tryz.prog 64 #[.pointer (some ⟨p, 0, none⟩), .int .i64 2] W fun e w' => e = .returned (.tuple #[]) ∧ St w' p n d s2 ∧ W.grownBy w' (some p)) := fun W hW => by rw [hs2]; exact fail_any p n d (burnP s) 2 W (by decide) hW
    have hd8' : (d == 8) = true := by rw [h8]; rfl
    clear hs2 h8
    generalize burnP s = s1 at *
    go_enter Tryz.func33, Tryz.ntmps33
    go_wp2_with fail
    refine hsp.mono ?_
    rintro e w1 ⟨rfl, h1, g1⟩
    have R1 := R0.but g1 hp
    have G1 := grown_trans g0 g1
    have hfl := HFL.out w1 h1
    obtain ⟨v1, F1, k1, _⟩ := h1
    have q3 : w1.cell? ⟨p, 3, none⟩ = some (.int .i64 d) := k1.cell 3
    have hp1 := k1.lt
    clear hsp g1 k1 HFL
    go_wp2_with fail
    refine hfl.mono ?_
    rintro e w2 ⟨rfl, h2, g2⟩
    have R2 := (R1.but g2 hp).but (grown_set w2 p 3 (.int .i64 (d + 1))) hp
    have G2 := grown_trans (grown_trans G1 g2) (grown_set w2 p 3 (.int .i64 (d + 1)))
    have H2 := h2.deep (d + 1)
    obtain ⟨v2, F2, k2, _⟩ := h2
    have q3' : w2.cell? ⟨p, 3, none⟩ = some (.int .i64 d) := k2.cell 3
    have f3' := k2.free 3
    have hp2 := k2.lt
    have hsv := HSV.out _ H2
    clear hfl q3 k2 H2 g2 R1 G1 hp1
    go_wp2_with fail
    refine hsv.mono ?_
    rintro e w5 ⟨i0, i1, z2, X3, n3, z3, rfl, hx5, h5, g5⟩
    have R5 := R2.but g5 hp
    have hnp : ¬ w.heap.size = p := by omega
    have hnp2 : ¬ p = w.heap.size := by omega
    have f0 := R5.free 0
    have f1 := R5.free 1
    have f2 := R5.free 2
    have f3 := R5.free 3
    have r0 := R5.cell 0
    have r1 := R5.cell 1
    have r2 := R5.cell 2
    have r3 := R5.cell 3
    have hg0 := R5.lt
    obtain ⟨kfin, hfin⟩ := HEND.out _ w5 i0 i1 z2 X3 n3 z3 R2 G2 g5 hx5 h5 _ rfl
    obtain ⟨v5, F5, k5, _⟩ := h5
    have q35 : w5.cell? ⟨p, 3, none⟩ = some (.int .i64 (d + 1)) := k5.cell 3
    have f35 := k5.free 3
    have hp5 := k5.lt
    obtain ⟨W5, hW5⟩ : ∃ W5, W5 = ((((((w5.setCell ⟨p, 3, none⟩ (.int .i64 d)).setCell ⟨w.heap.size, 0, none⟩ (.int .i64 i0)).setCell ⟨w.heap.size, 1, none⟩ (.int .i64 i1)).setCell ⟨w.heap.size, 2, none⟩ (.string z2)).setCell ⟨w.heap.size, 3, none⟩ (.slice X3 n3 z3)).alloc (.cells #[.int .i64 i0, .int .i64 i1, .string z2, .slice X3 n3 z3] 42)) := ⟨_, rfl⟩
    rw [← hW5] at kfin hfin
    have HW5 := Lib.hid hW5
    clear hW5 hsv R2 G2 R5 k5 hx5 g5 HEND HSV q3' f3' hp2
    go_wp2_with fail
    rw [← HW5.out]
    exact bodyPost_ret (results_cell (P := Tryz.prog) rfl _ _ w.heap.size _ _ (0, 0) _ rfl kfin Tryz.underlying42 rfl (by kernel_rfl)) rfl hfin
  · rw [if_neg h8] at hs2
    have hd8' : (d == 8) = false := beq_eq_false_iff_ne.2 h8
    rw [← hs2] at hsp
    clear hs2
    go_enter Tryz.func33, Tryz.ntmps33
    go_wp2_with fail
    refine hsp.mono ?_
    rintro e w1 ⟨rfl, h1, g1⟩
    have h1' := h1
    have R1 := R0.but g1 hp
    have G1 := grown_trans g0 g1
    obtain ⟨v1, F1, k1, _⟩ := h1
    have q3 : w1.cell? ⟨p, 3, none⟩ = some (.int .i64 d) := k1.cell 3
    have hp1 := k1.lt
    have f3' := k1.free 3
    have H2 := h1'.deep (d + 1)
    have R2 := R1.but (grown_set w1 p 3 (.int .i64 (d + 1))) hp
    have G2 := grown_trans G1 (grown_set w1 p 3 (.int .i64 (d + 1)))
    have hsv := HSV.out _ H2
    clear hsp g1 k1 H2 R1 G1
    go_wp2_with fail
    refine hsv.mono ?_
    rintro e w5 ⟨i0, i1, z2, X3, n3, z3, rfl, hx5, h5, g5⟩
    have R5 := R2.but g5 hp
    have hnp : ¬ w.heap.size = p := by omega
    have hnp2 : ¬ p = w.heap.size := by omega
    have f0 := R5.free 0
    have f1 := R5.free 1
    have f2 := R5.free 2
    have f3 := R5.free 3
    have r0 := R5.cell 0
    have r1 := R5.cell 1
    have r2 := R5.cell 2
    have r3 := R5.cell 3
    have hg0 := R5.lt
    obtain ⟨kfin, hfin⟩ := HEND.out _ w5 i0 i1 z2 X3 n3 z3 R2 G2 g5 hx5 h5 _ rfl
    obtain ⟨v5, F5, k5, _⟩ := h5
    have q35 : w5.cell? ⟨p, 3, none⟩ = some (.int .i64 (d + 1)) := k5.cell 3
    have f35 := k5.free 3
    have hp5 := k5.lt
    obtain ⟨W5, hW5⟩ : ∃ W5, W5 = ((((((w5.setCell ⟨p, 3, none⟩ (.int .i64 d)).setCell ⟨w.heap.size, 0, none⟩ (.int .i64 i0)).setCell ⟨w.heap.size, 1, none⟩ (.int .i64 i1)).setCell ⟨w.heap.size, 2, none⟩ (.string z2)).setCell ⟨w.heap.size, 3, none⟩ (.slice X3 n3 z3)).alloc (.cells #[.int .i64 i0, .int .i64 i1, .string z2, .slice X3 n3 z3] 42)) := ⟨_, rfl⟩
    rw [← hW5] at kfin hfin
    have HW5 := Lib.hid hW5
    clear hW5 hsv R2 G2 R5 k5 hx5 g5 HEND HSV q3 f3' hp1 h1'
    go_wp2_with fail
    rw [← HW5.out]
    exact bodyPost_ret (results_cell (P := Tryz.prog) rfl _ _ w.heap.size _ _ (0, 0) _ rfl kfin Tryz.underlying42 rfl (by kernel_rfl)) rfl hfin
theorem got_to {p : Nat} {n d : Int} {k k2 : Nat} {f : Ps → Ex k × Ps} {f2 : Ps → Ex k2 × Ps} {s s2 : Ps} {w : World} {e : Ending} {w' : World} (h : GotAs p n d f s w e w') (h2 : (f2 s2).2 = (f s).2) (he : (f s).2.e ≠ 0) : GotAs p n d f2 s2 w e w' := by
  obtain ⟨i0, i1, z2, X3, n3, z3, h1, _, h3, h4⟩ := h
  exact ⟨i0, i1, z2, X3, n3, z3, h1, fun h => absurd (by rw [← h2]; exact h) he, by rw [h2]; exact h3, h4⟩
theorem got_same {p : Nat} {n d : Int} {k : Nat} {f f2 : Ps → Ex k × Ps} {s s2 : Ps} {w : World} {e : Ending} {w' : World} (h : GotAs p n d f s w e w') (h2 : f2 s2 = f s) : GotAs p n d f2 s2 w e w' := by
  obtain ⟨i0, i1, z2, X3, n3, z3, h1, h0, h3, h4⟩ := h
  exact ⟨i0, i1, z2, X3, n3, z3, h1, by rw [h2]; exact h0, by rw [h2]; exact h3, h4⟩
theorem Stuck.pack {k : Nat} {f : Ps → Ex k × Ps} (op : Int) (bw : List UInt8) (hf : Stuck f) : Stuck (fun s => (packP k op (manyP f bw s).1, (manyP f bw s).2)) := fun s h => Stuck.many hf bw s h
theorem cond18_any (p : Nat) (n : Int) : ∀ (D : Nat), D ≤ 8 → ∀ (d : Int), d = 8 - (D : Int) → ∀ (s : Ps) (w : World), St w p n d s → Calls Tryz.prog 33 #[.pointer (some ⟨p, 0, none⟩)] w (GotAs p n d (condP D) s w)
  | 0 => fun _ d hd s w h => by
    obtain rfl : d = 8 := by omega
    have hw : strV orP = .string ⟨#[111, 114]⟩ := rfl
    have hway0 : Way (fun s => (zeroX 0, s)) := Way.pure _
    have hst0 : Stuck (fun s => (zeroX 0, s)) := fun s _ => rfl
    have hne : (failP 2 (burnP s)).e ≠ 0 := fail_e 2 (by decide) _
    have hsev := fun (W : World) (hW : St W p n (8 + 1) (failP 2 (burnP s))) => several_any p n (8 + 1) (termP (fun s => (zeroX 0, s))) hway0.term Stuck.term 68 2 (by unfold I64; omega) orP (by decide) (by decide) false runs_term
      (fun s' W' hok' h' => term18_any p n (8 + 1) (factP (fun s => (zeroX 0, s))) hway0.fact Stuck.fact false (fun s'' W'' hok'' h'' => fact18_any p n (8 + 1) (fun s => (zeroX 0, s)) hst0 false (fun h => by cases h) s'' W'' hok'' h'') s' W' hok' h')
      (failP 2 (burnP s)) W (.inr hne) hW
    rw [hw] at hsev
    refine (cond_step p n 8 _ (by omega) (by omega) s (failP 2 (burnP s)) w (by rw [if_pos rfl]) hsev h).mono fun e w' hg => ?_
    have hs2 : (packP 2 2 (manyP (termP (fun s => (zeroX 0, s))) orP (failP 2 (burnP s))).1, (manyP (termP (fun s => (zeroX 0, s))) orP (failP 2 (burnP s))).2).2 = failP 2 (burnP s) := Stuck.pack 2 orP Stuck.term _ hne
    exact got_to hg (by rw [hs2]; rfl) (by rw [hs2]; exact hne)
  | D + 1 => fun hD d hd s w h => by
    have ih := cond18_any p n D (by omega) (d + 1) (by omega)
    have hw : strV orP = .string ⟨#[111, 114]⟩ := rfl
    have hsev := fun (W : World) (hW : St W p n (d + 1) (burnP s)) => several_any p n (d + 1) (termP (condP D)) (Way.cond D).term Stuck.term 68 2 (by unfold I64; omega) orP (by decide) (by decide) true runs_term
      (fun s' W' hok' h' => term18_any p n (d + 1) (factP (condP D)) (Way.cond D).fact Stuck.fact true (fun s'' W'' hok'' h'' => fact18_any p n (d + 1) (condP D) (Stuck.cond D) true (fun _ s3 W3 _ h3 => ih s3 W3 h3) s'' W'' hok'' h'') s' W' hok' h')
      (burnP s) W (.inl rfl) hW
    rw [hw] at hsev
    refine (cond_step p n d _ (by omega) (by omega) s (burnP s) w (by rw [if_neg (by omega)]) hsev h).mono fun e w' hg => ?_
    by_cases he : (burnP s).e = 0
    · refine got_same hg ?_
      rw [condP, if_pos he]
    · have hs2 : (packP (2 * D + 2) 2 (manyP (termP (condP D)) orP (burnP s)).1, (manyP (termP (condP D)) orP (burnP s)).2).2 = burnP s := Stuck.pack 2 orP Stuck.term _ he
      refine got_to hg ?_ (by rw [hs2]; exact he)
      rw [hs2, condP, if_neg he]
end
section
open Go.RowKit
theorem rule_way (s : Ps) :
    (ruleP s).2 = (nextB (kindB 6) (nextB (saysB [destroyP, reviewP, keepP]) (nextB (saysB [thenP]) (condP 8 (nextB (saysB [keepP]) (ofB s).2).2).2).2).2).2 ∧
    ((ruleP s).2.e = 0 → (ruleP s).1 = ⟨(ofB s).1, (condP 8 (nextB (saysB [keepP]) (ofB s).2).2).1, actN (nextB (saysB [destroyP, reviewP, keepP]) (nextB (saysB [thenP]) (condP 8 (nextB (saysB [keepP]) (ofB s).2).2).2).2).1.text⟩ ∧
      (condP 8 (nextB (saysB [keepP]) (ofB s).2).2).2.e = 0) := by
  obtain ⟨o1, o2⟩ := of_b s
  have hs := o1
  have k0 : ∀ x, nextP 1 keepP x = nextB (saysB [keepP]) x := next_says (by decide)
  have k1 : ∀ x, nextP 1 thenP x = nextB (saysB [thenP]) x := next_says (by decide)
  have k2 : ∀ x, nextP 6 [] x = nextB (kindB 6) x := next_kind 6
  unfold ruleP
  rw [o1, k0, k1, k2]
  obtain ⟨a1, a2⟩ := act_b (nextB (saysB [thenP]) (condP 8 (nextB (saysB [keepP]) (ofB s).2).2).2).2
  dsimp only
  rw [a1]
  refine ⟨rfl, fun he => ?_⟩
  have st : ∀ {x : Ps} {m : Tk → Bool}, (nextB m x).2.e = 0 → x.e = 0 := fun {x} {m} h => Classical.byContradiction fun hn => by rw [nextb_err hn] at h; exact hn h
  have e1 := st he
  have e2 := st e1
  have e3 := st e2
  have e4 : (nextB (saysB [keepP]) (ofB s).2).2.e = 0 := Classical.byContradiction fun hn => by rw [Stuck.cond 8 _ hn] at e3; exact hn e3
  have e5 := st e4
  rw [o2 (by rw [hs]; exact e5), a2 (by rw [a1]; exact e1)]
  exact ⟨rfl, e3⟩
theorem act18_any (l : List UInt8) (w : World) : Calls Tryz.prog 34 #[strV l] w fun e w' => e = .returned (.int .i64 (actN l)) ∧ w' = w := by
  obtain ⟨s, hs⟩ : ∃ s : ByteArray, s = ⟨l.toArray⟩ := ⟨_, rfl⟩
  have hsv : strV l = .string s := by unfold strV; rw [hs]
  have e1 := eq_txt s ⟨destroyP.toArray⟩ l destroyP hs rfl
  have e2 := eq_txt s ⟨reviewP.toArray⟩ l reviewP hs rfl
  have e3 := eq_txt s ⟨keepP.toArray⟩ l keepP hs rfl
  have t1 : (⟨destroyP.toArray⟩ : ByteArray).toList = [100, 101, 115, 116, 114, 111, 121] := by rw [Lib.toList_data]; rfl
  have t2 : (⟨reviewP.toArray⟩ : ByteArray).toList = [114, 101, 118, 105, 101, 119] := by rw [Lib.toList_data]; rfl
  have t3 : (⟨keepP.toArray⟩ : ByteArray).toList = [107, 101, 101, 112] := by rw [Lib.toList_data]; rfl
  have u1 := e1
  have u2 := e2
  have u3 := e3
  rw [t1] at u1
  rw [t2] at u2
  rw [t3] at u3
  have n12 : ¬ destroyP = reviewP := by decide
  have n13 : ¬ destroyP = keepP := by decide
  have n23 : ¬ reviewP = keepP := by decide
  rw [hsv]
  by_cases h1 : l = destroyP
  · skip
    have ha : actN l = 1 := by unfold actN; rw [if_pos h1]
    rw [ha]
    rw [show decide (l = destroyP) = true from decide_eq_true h1] at u1
    have g1 : (s.toList == (⟨#[100, 101, 115, 116, 114, 111, 121]⟩ : ByteArray).toList) = true := by rw [show (⟨#[100, 101, 115, 116, 114, 111, 121]⟩ : ByteArray).toList = _ from t1]; exact u1
    have v1 : s.toList = [100, 101, 115, 116, 114, 111, 121] := by simpa using u1
    clear ha hsv hs e1 e2 e3 t1 t2 t3 n12 n13 n23
    go_enter Tryz.func34, Tryz.ntmps34
    go_wp2_with fail
    go_ret
    exact ⟨rfl, rfl⟩
  by_cases h2 : l = reviewP
  · skip
    have ha : actN l = 2 := by unfold actN; rw [if_neg h1]; rw [if_pos h2]
    rw [ha]
    rw [show decide (l = destroyP) = false from decide_eq_false h1] at u1
    have g1 : (s.toList == (⟨#[100, 101, 115, 116, 114, 111, 121]⟩ : ByteArray).toList) = false := by rw [show (⟨#[100, 101, 115, 116, 114, 111, 121]⟩ : ByteArray).toList = _ from t1]; exact u1
    have v1 : ¬ s.toList = [100, 101, 115, 116, 114, 111, 121] := by simpa using u1
    rw [show decide (l = reviewP) = true from decide_eq_true h2] at u2
    have g2 : (s.toList == (⟨#[114, 101, 118, 105, 101, 119]⟩ : ByteArray).toList) = true := by rw [show (⟨#[114, 101, 118, 105, 101, 119]⟩ : ByteArray).toList = _ from t2]; exact u2
    have v2 : s.toList = [114, 101, 118, 105, 101, 119] := by simpa using u2
    clear ha hsv hs e1 e2 e3 t1 t2 t3 n12 n13 n23
    go_enter Tryz.func34, Tryz.ntmps34
    go_wp2_with fail
    go_ret
    exact ⟨rfl, rfl⟩
  by_cases h3 : l = keepP
  · skip
    have ha : actN l = 3 := by unfold actN; rw [if_neg h1]; rw [if_neg h2]; rw [if_pos h3]
    rw [ha]
    rw [show decide (l = destroyP) = false from decide_eq_false h1] at u1
    have g1 : (s.toList == (⟨#[100, 101, 115, 116, 114, 111, 121]⟩ : ByteArray).toList) = false := by rw [show (⟨#[100, 101, 115, 116, 114, 111, 121]⟩ : ByteArray).toList = _ from t1]; exact u1
    have v1 : ¬ s.toList = [100, 101, 115, 116, 114, 111, 121] := by simpa using u1
    rw [show decide (l = reviewP) = false from decide_eq_false h2] at u2
    have g2 : (s.toList == (⟨#[114, 101, 118, 105, 101, 119]⟩ : ByteArray).toList) = false := by rw [show (⟨#[114, 101, 118, 105, 101, 119]⟩ : ByteArray).toList = _ from t2]; exact u2
    have v2 : ¬ s.toList = [114, 101, 118, 105, 101, 119] := by simpa using u2
    rw [show decide (l = keepP) = true from decide_eq_true h3] at u3
    have g3 : (s.toList == (⟨#[107, 101, 101, 112]⟩ : ByteArray).toList) = true := by rw [show (⟨#[107, 101, 101, 112]⟩ : ByteArray).toList = _ from t3]; exact u3
    have v3 : s.toList = [107, 101, 101, 112] := by simpa using u3
    clear ha hsv hs e1 e2 e3 t1 t2 t3 n12 n13 n23
    go_enter Tryz.func34, Tryz.ntmps34
    go_wp2_with fail
    go_ret
    exact ⟨rfl, rfl⟩
  · skip
    have ha : actN l = 0 := by unfold actN; rw [if_neg h1, if_neg h2, if_neg h3]
    rw [ha]
    rw [show decide (l = destroyP) = false from decide_eq_false h1] at u1
    have g1 : (s.toList == (⟨#[100, 101, 115, 116, 114, 111, 121]⟩ : ByteArray).toList) = false := by rw [show (⟨#[100, 101, 115, 116, 114, 111, 121]⟩ : ByteArray).toList = _ from t1]; exact u1
    have v1 : ¬ s.toList = [100, 101, 115, 116, 114, 111, 121] := by simpa using u1
    rw [show decide (l = reviewP) = false from decide_eq_false h2] at u2
    have g2 : (s.toList == (⟨#[114, 101, 118, 105, 101, 119]⟩ : ByteArray).toList) = false := by rw [show (⟨#[114, 101, 118, 105, 101, 119]⟩ : ByteArray).toList = _ from t2]; exact u2
    have v2 : ¬ s.toList = [114, 101, 118, 105, 101, 119] := by simpa using u2
    rw [show decide (l = keepP) = false from decide_eq_false h3] at u3
    have g3 : (s.toList == (⟨#[107, 101, 101, 112]⟩ : ByteArray).toList) = false := by rw [show (⟨#[107, 101, 101, 112]⟩ : ByteArray).toList = _ from t3]; exact u3
    have v3 : ¬ s.toList = [107, 101, 101, 112] := by simpa using u3
    clear ha hsv hs e1 e2 e3 t1 t2 t3 n12 n13 n23
    go_enter Tryz.func34, Tryz.ntmps34
    go_wp2_with fail
    go_ret
    exact ⟨rfl, rfl⟩
end
end Go.Proofs.YthindhlogkhclaaGreatDoor
