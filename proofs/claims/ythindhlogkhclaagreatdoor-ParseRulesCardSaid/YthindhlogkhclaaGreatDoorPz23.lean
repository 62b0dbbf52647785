/-
  PaE: The program's term, fact and condition (layer 18), over the loaded program: their contracts. No condition but what each names.
-/
import Derived.Test.YthindhlogkhclaaGreatDoorPz22
set_option linter.unusedVariables false
set_option maxRecDepth 100000
namespace Go.Proofs.YthindhlogkhclaaGreatDoor
section
open Go.RowKit
theorem zero_fine : FineT zeroTk := ⟨by show I64 0; unfold I64; omega, by show ([] : List UInt8).length ≤ maxLen; simp⟩
theorem next_fine {m : Tk → Bool} {s : Ps} (h : FineL s.rest) : FineT (nextB m s).1 ∧ FineL (nextB m s).2.rest := by
  rcases nextb_cases m s with ⟨_, e⟩ | ⟨_, _, e⟩ | ⟨_, _, _, e⟩ | ⟨_, _, t, r, e1, _, e⟩
  · rw [e]; exact ⟨zero_fine, h⟩
  · rw [e]; exact ⟨zero_fine, h⟩
  · rw [e]; exact ⟨zero_fine, h⟩
  · rw [e]; rw [e1] at h; exact ⟨h.2 t (List.mem_cons_self ..), h.tail⟩
theorem span_way (k : Nat) (s : Ps) : (spanP k s).2 = (nextB mileB (nextB (saysB [afterP]) (nextB (kindB 3) s).2).2).2 ∧
    ((spanP k s).2.e = 0 → (spanP k s).1 = (⟨1, (nextB (kindB 3) s).1.n, (nextB mileB (nextB (saysB [afterP]) (nextB (kindB 3) s).2).2).1.text, []⟩ : Nx (Ex k))) := by
  unfold spanP
  rw [next_kind, next_says (by decide)]
  obtain ⟨h1, h2⟩ := mile_b (nextB (saysB [afterP]) (nextB (kindB 3) s).2).2
  refine ⟨h1, fun he => ?_⟩
  dsimp only at he ⊢
  rw [h2 he]
  rfl
theorem fact_way {k : Nat} {inner : Ps → Ex (k + 1) × Ps} (hs : Stuck inner) (s : Ps) :
    ((foundP (kindB 4) s).1 = true ∧ (foundP (kindB 4) s).2.e = 0 ∧ factP inner s = ((inner (foundP (kindB 4) s).2).1, (nextB (kindB 5) (inner (foundP (kindB 4) s).2).2).2)) ∨
    ((foundP (kindB 4) s).1 = false ∧ (factP inner s).2 = (spanP k (foundP (kindB 4) s).2).2 ∧ ((factP inner s).2.e = 0 → (factP inner s).1 = (spanP k (foundP (kindB 4) s).2).1)) := by
  by_cases hb : isP 4 [] s = true
  · have e1 : foundP (kindB 4) s = (decide ((nextP 4 [] s).2.e = 0), (nextP 4 [] s).2) := by unfold foundP; rw [if_pos (by rw [← isp_kind]; exact hb), next_kind]
    have e2 : factP inner s = innerP inner s := by unfold factP; rw [if_pos hb]
    rw [e1, e2]
    unfold innerP
    dsimp only
    by_cases he : (nextP 4 [] s).2.e = 0
    · exact .inl ⟨decide_eq_true he, he, by rw [next_kind 5]⟩
    · refine .inr ⟨decide_eq_false he, ?_, fun h => ?_⟩
      · rw [hs _ he, Stuck.next 5 [] _ he, Stuck.span k _ he]
      · rw [hs _ he, Stuck.next 5 [] _ he] at h; exact absurd h he
  · have e1 : foundP (kindB 4) s = (false, s) := by unfold foundP; rw [if_neg (by rw [← isp_kind]; exact hb)]
    have e2 : factP inner s = spanP k s := by unfold factP; rw [if_neg hb]
    rw [e1, e2]
    exact .inr ⟨rfl, rfl, fun _ => rfl⟩
theorem runs_term (args : Array Value) (W : World) : (callFunc 68 args).run Tryz.prog W = .ok (.enter 68 args) W := enters_of Tryz.func68 (by kernel_rfl) rfl args W
theorem runs_fact (args : Array Value) (W : World) : (callFunc 88 args).run Tryz.prog W = .ok (.enter 88 args) W := enters_of Tryz.func88 (by kernel_rfl) rfl args W
set_option maxHeartbeats 4000000 in
theorem term18_any (p : Nat) (n d : Int) {k : Nat} (f : Ps → Ex k × Ps) (hway : Way f) (hst : Stuck f) (g : Bool)
    (hone : ∀ (s : Ps) (W : World), Okg g s → St W p n d s → Calls Tryz.prog 88 #[.pointer (some ⟨p, 0, none⟩)] W (GotAs p n d f s W)) (s : Ps) (w : World) (hok : Okg g s) (h : St w p n d s) :
    Calls Tryz.prog 68 #[.pointer (some ⟨p, 0, none⟩)] w (GotAs p n d (fun s => (packP k 3 (manyP f andP s).1, (manyP f andP s).2)) s w) := by
  have hp := h.lt
  have R0 := KB.new w 42 #[.int .i64 0, .int .i64 0, .string ⟨#[]⟩, .slice none 0 0]
  have g0 : w.grownBy (w.alloc (.cells #[.int .i64 0, .int .i64 0, .string ⟨#[]⟩, .slice none 0 0] 42)) (some p) := grown_alloc (World.grownBy.refl w _) _
  have hsv := several_any p n d f hway hst 88 3 (by unfold I64; omega) andP (by decide) (by decide) g runs_fact hone s _ hok (h.alloc (.cells #[.int .i64 0, .int .i64 0, .string ⟨#[]⟩, .slice none 0 0] 42))
  have hw : strV andP = .string ⟨#[97, 110, 100]⟩ := rfl
  rw [hw] at hsv
  obtain ⟨D, hD⟩ : ∃ D, D = GotAs p n d (fun s => (packP k 3 (manyP f andP s).1, (manyP f andP s).2)) s w := ⟨_, rfl⟩
  rw [← hD]
  have s0 : (w.alloc (.cells #[.int .i64 0, .int .i64 0, .string ⟨#[]⟩, .slice none 0 0] 42)).heap.size = w.heap.size + 1 := by simp
  have HD : Hid (∀ W i0 i1 z2 X3 n3 z3, ((manyP f andP s).2.e = 0 → EX W (fun b => w.heap.size ≤ b) (k + 1) (packP k 3 (manyP f andP s).1) (.int .i64 i0) (.int .i64 i1) (.string z2) (.slice X3 n3 z3)) → St W p n d (manyP f andP s).2 → w.grownBy W (some p) →
      D (.returned (.agg #[.int .i64 i0, .int .i64 i1, .string z2, .slice X3 n3 z3])) W) := fun W i0 i1 z2 X3 n3 z3 h1 h2 h3 => by rw [hD]; exact ⟨i0, i1, z2, X3, n3, z3, rfl, h1, h2, h3⟩
  unfold GotAs at hsv
  dsimp only at hsv
  clear hD hone hw h
  generalize packP k 3 (manyP f andP s).1 = x at *
  generalize (manyP f andP s).2 = s' at *
  go_enter Tryz.func68, Tryz.ntmps68
  go_wp2_with fail
  refine hsv.mono ?_
  rintro e w1 ⟨i0, i1, z2, X3, n3, z3, rfl, hx1, h1, g1⟩
  rw [s0] at hx1
  have R1 := R0.but g1 hp
  have G1 := grown_trans g0 g1
  have f0 := R1.free 0
  have f1 := R1.free 1
  have f2 := R1.free 2
  have f3 := R1.free 3
  have r0 := R1.cell 0
  have r1 := R1.cell 1
  have r2 := R1.cell 2
  have r3 := R1.cell 3
  have hg0 := R1.lt
  obtain ⟨W5, hW5⟩ : ∃ W5, W5 = ((((w1.setCell ⟨w.heap.size, 0, none⟩ (.int .i64 i0)).setCell ⟨w.heap.size, 1, none⟩ (.int .i64 i1)).setCell ⟨w.heap.size, 2, none⟩ (.string z2)).setCell ⟨w.heap.size, 3, none⟩ (.slice X3 n3 z3)) := ⟨_, rfl⟩
  have kfin := R1.put4 (.int .i64 i0) (.int .i64 i1) (.string z2) (.slice X3 n3 z3)
  have st5 := h1.four hp (.int .i64 i0) (.int .i64 i1) (.string z2) (.slice X3 n3 z3)
  have gr5 := grown_four G1 (Nat.le_refl _) (.int .i64 i0) (.int .i64 i1) (.string z2) (.slice X3 n3 z3)
  have hblk : ∀ b, w.heap.size + 1 ≤ b → W5.heap[b]? = w1.heap[b]? := fun b hb => by
    rw [hW5]
    exact (Below.heap_setCell _ _ _ _ (by show b ≠ w.heap.size; omega)).trans ((Below.heap_setCell _ _ _ _ (by show b ≠ w.heap.size; omega)).trans ((Below.heap_setCell _ _ _ _ (by show b ≠ w.heap.size; omega)).trans (Below.heap_setCell _ _ _ _ (by show b ≠ w.heap.size; omega))))
  have hsz5 : W5.heap.size = w1.heap.size := by rw [hW5]; simp [World.setCell]
  rw [← hW5] at kfin st5 gr5
  have hfin := HD.out W5 i0 i1 z2 X3 n3 z3 (fun he => EX.keepL (k + 1) x _ _ _ _ (hx1 he) (by omega) (fun b sb' _ => hblk b sb') (fun b sb' _ => by show w.heap.size ≤ b; omega)) st5 gr5
  have HW5 := Lib.hid hW5
  clear hW5 hblk hsv h1 g1 R1 G1 g0 R0 st5 gr5 HD hx1 hsz5
  go_wp2_with fail
  rw [← HW5.out]
  exact bodyPost_ret (results_cell (P := Tryz.prog) rfl _ _ w.heap.size _ _ (0, 0) _ rfl kfin Tryz.underlying42 rfl (by kernel_rfl)) rfl hfin
set_option maxHeartbeats 8000000 in
theorem fact18_any (p : Nat) (n d : Int) {k : Nat} (inner : Ps → Ex (k + 1) × Ps) (hst : Stuck inner) (g : Bool)
    (hin : g = true → ∀ (s : Ps) (W : World), s.e = 0 → St W p n d s → Calls Tryz.prog 33 #[.pointer (some ⟨p, 0, none⟩)] W (GotAs p n d inner s W)) (s : Ps) (w : World) (hok : Okg g s) (h : St w p n d s) :
    Calls Tryz.prog 88 #[.pointer (some ⟨p, 0, none⟩)] w (GotAs p n d (factP inner) s w) := by
  have hp := h.lt
  have R0 := KB.new w 42 #[.int .i64 0, .int .i64 0, .string ⟨#[]⟩, .slice none 0 0]
  have g0 : w.grownBy (w.alloc (.cells #[.int .i64 0, .int .i64 0, .string ⟨#[]⟩, .slice none 0 0] 42)) (some p) := grown_alloc (World.grownBy.refl w _) _
  have hf := found_any p n d s _ #[] (kindB 4) _ (may_open p _) (h.alloc (.cells #[.int .i64 0, .int .i64 0, .string ⟨#[]⟩, .slice none 0 0] 42))
  have HFI : Hid (FineL s.rest) := h.fine
  have s0 : (w.alloc (.cells #[.int .i64 0, .int .i64 0, .string ⟨#[]⟩, .slice none 0 0] 42)).heap.size = w.heap.size + 1 := by simp
  obtain ⟨D, hD⟩ : ∃ D, D = GotAs p n d (factP inner) s w := ⟨_, rfl⟩
  rw [← hD]
  have HD : Hid (∀ W i0 i1 z2 X3 n3 z3, ((factP inner s).2.e = 0 → EX W (fun b => w.heap.size ≤ b) (k + 1) (factP inner s).1 (.int .i64 i0) (.int .i64 i1) (.string z2) (.slice X3 n3 z3)) → St W p n d (factP inner s).2 → w.grownBy W (some p) →
      D (.returned (.agg #[.int .i64 i0, .int .i64 i1, .string z2, .slice X3 n3 z3])) W) := fun W i0 i1 z2 X3 n3 z3 h1 h2 h3 => by rw [hD]; exact ⟨i0, i1, z2, X3, n3, z3, rfl, h1, h2, h3⟩
  have HFW := fact_way hst s
  have HOK1 : Okg g (foundP (kindB 4) s).2 := hok.step (Stuck.found _)
  have HFI1 : Hid (FineL (foundP (kindB 4) s).2.rest) := by
    show FineL _
    unfold foundP
    by_cases hb : isB (kindB 4) s = true
    · rw [if_pos hb]; exact (next_fine HFI.out).2
    · rw [if_neg hb]; exact HFI.out
  unfold FoundAs at hf
  clear hD h hok
  generalize factP inner s = fp at *
  obtain ⟨fx, fs⟩ := fp
  generalize foundP (kindB 4) s = fo at *
  obtain ⟨fb, s1⟩ := fo
  dsimp only at HFW HD hf HOK1 HFI1
  rcases HFW with ⟨rfl, h1e, hfe⟩ | ⟨rfl, hfs, hfx⟩
  · -- a condition in brackets
    have hgt : g = true := HOK1.resolve_right (fun h => h h1e)
    have HIN : Hid (∀ (W : World), St W p n d s1 → Calls Tryz.prog 33 #[.pointer (some ⟨p, 0, none⟩)] W (GotAs p n d inner s1 W)) := fun W hW => hin hgt s1 W h1e hW
    unfold GotAs at HIN
    injection hfe with hfe1 hfe2
    subst hfe1 hfe2
    generalize inner s1 = ip at *
    obtain ⟨ix, s2⟩ := ip
    dsimp only at HIN HD
    have HTK : Hid (∀ W, St W p n d s2 → Calls Tryz.prog 30 #[.pointer (some ⟨p, 0, none⟩), .func (.func 105) #[] #[]] W (TakeAs p n d (kindB 5) s2 W)) := fun W hW => take_any p n d s2 _ #[] (kindB 5) W (may_closing p W) hW
    unfold TakeAs at HTK
    have HSE : Hid ((nextB (kindB 5) s2).2.e = 0 → s2.e = 0) := fun he => Classical.byContradiction fun hn => by
      rw [nextb_err hn] at he; exact hn he
    generalize (nextB (kindB 5) s2).2 = s3 at *
    obtain ⟨tk, htk⟩ : ∃ tk, tk = tokV (nextB (kindB 5) s2).1 := ⟨_, rfl⟩
    rw [← htk] at HTK
    clear hin HOK1 HFI HFI1 h1e htk
    go_enter Tryz.func88, Tryz.ntmps88
    go_wp2_with fail
    refine hf.mono ?_
    rintro e w1 ⟨rfl, h1, g1⟩
    have s1' : w.heap.size + 1 ≤ w1.heap.size := by have := g1.size; omega
    have R1 := R0.but g1 hp
    have G1 := grown_trans g0 g1
    have hi := HIN.out w1 h1
    clear hf h1 g1 HIN
    go_wp2_with fail
    refine hi.mono ?_
    rintro e w2 ⟨i0, i1, z2, X3, n3, z3, rfl, hx2, h2, g2⟩
    have s2' : w.heap.size + 1 ≤ w2.heap.size := by have := g2.size; omega
    have R2 := (R1.but g2 hp).alloc (.cells #[.int .i64 i0, .int .i64 i1, .string z2, .slice X3 n3 z3] 42)
    have K2 := KB.new w2 42 #[.int .i64 i0, .int .i64 i1, .string z2, .slice X3 n3 z3]
    have G2 := grown_alloc (grown_trans G1 g2) (.cells #[.int .i64 i0, .int .i64 i1, .string z2, .slice X3 n3 z3] 42)
    have ht := HTK.out _ (h2.alloc (.cells #[.int .i64 i0, .int .i64 i1, .string z2, .slice X3 n3 z3] 42))
    have b2 := (Below.refl w2.heap.size w2).alloc (Nat.le_refl _) (.cells #[.int .i64 i0, .int .i64 i1, .string z2, .slice X3 n3 z3] 42)
    have z2' : (w2.alloc (.cells #[.int .i64 i0, .int .i64 i1, .string z2, .slice X3 n3 z3] 42)).heap.size = w2.heap.size + 1 := by simp
    clear hi h2 g2 HTK
    go_wp2_with fail
    refine ht.mono ?_
    rintro e w3 ⟨rfl, h3, g3⟩
    have R3 := R2.but g3 hp
    have K3 := K2.but g3 (by omega)
    have G3 := grown_trans G2 g3
    have B3 := grown_trans (grown_of_below b2 (some p)) g3
    have hs3 : w2.heap.size + 1 ≤ w3.heap.size := by have := g3.size; omega
    have f0 := R3.free 0
    have f1 := R3.free 1
    have f2 := R3.free 2
    have f3 := R3.free 3
    have r0 := R3.cell 0
    have r1 := R3.cell 1
    have r2 := R3.cell 2
    have r3 := R3.cell 3
    have k0 := K3.cell 0
    have k1 := K3.cell 1
    have k2 := K3.cell 2
    have k3 := K3.cell 3
    have hg0 := R3.lt
    have hg1 := K3.lt
    have hne : ¬ w.heap.size = w2.heap.size := by omega
    have hne2 : ¬ w2.heap.size = w.heap.size := by omega
    obtain ⟨W5, hW5⟩ : ∃ W5, W5 = ((((w3.setCell ⟨w.heap.size, 0, none⟩ (.int .i64 i0)).setCell ⟨w.heap.size, 1, none⟩ (.int .i64 i1)).setCell ⟨w.heap.size, 2, none⟩ (.string z2)).setCell ⟨w.heap.size, 3, none⟩ (.slice X3 n3 z3)) := ⟨_, rfl⟩
    have kfin := R3.put4 (.int .i64 i0) (.int .i64 i1) (.string z2) (.slice X3 n3 z3)
    have st5 := h3.four hp (.int .i64 i0) (.int .i64 i1) (.string z2) (.slice X3 n3 z3)
    have gr5 := grown_four G3 (Nat.le_refl _) (.int .i64 i0) (.int .i64 i1) (.string z2) (.slice X3 n3 z3)
    have hblk : ∀ b, w.heap.size + 1 ≤ b → W5.heap[b]? = w3.heap[b]? := fun b hb => by
      rw [hW5]
      exact (Below.heap_setCell _ _ _ _ (by show b ≠ w.heap.size; omega)).trans ((Below.heap_setCell _ _ _ _ (by show b ≠ w.heap.size; omega)).trans ((Below.heap_setCell _ _ _ _ (by show b ≠ w.heap.size; omega)).trans (Below.heap_setCell _ _ _ _ (by show b ≠ w.heap.size; omega))))
    have hsz5 : W5.heap.size = w3.heap.size := by rw [hW5]; simp [World.setCell]
    rw [← hW5] at kfin st5 gr5
    have hfin := HD.out W5 i0 i1 z2 X3 n3 z3 (fun he => EX.keepL (k + 1) ix _ _ _ _ (hx2 (HSE.out he)) (by omega) (fun b sb' hb' => (hblk b (Nat.le_trans s1' sb')).trans (B3.block b hb' (fun e => by have h5 : w1.heap.size ≤ b := sb'; injection e with e; omega))) (fun b sb' _ => by have h5 : w1.heap.size ≤ b := sb'; show w.heap.size ≤ b; omega)) st5 gr5
    have HW5 := Lib.hid hW5
    clear hW5 hblk ht h3 g3 R1 R2 R3 K2 K3 G1 G2 G3 B3 b2 g0 R0 st5 gr5 HD HSE hx2 hsz5
    go_wp2_with fail
    rw [← HW5.out]
    exact bodyPost_ret (results_cell (P := Tryz.prog) rfl _ _ w.heap.size _ _ (0, 0) _ rfl kfin Tryz.underlying42 rfl (by kernel_rfl)) rfl hfin
  · -- days after a milestone
    obtain ⟨hw1, hw2⟩ := span_way k s1
    have HX : Hid (fs.e = 0 → fx = (⟨1, (nextB (kindB 3) s1).1.n, (nextB mileB (nextB (saysB [afterP]) (nextB (kindB 3) s1).2).2).1.text, []⟩ : Nx (Ex k))) := fun he => (hfx he).trans (hw2 (hfs ▸ he))
    have HS3 : Hid ((nextB mileB (nextB (saysB [afterP]) (nextB (kindB 3) s1).2).2).2 = fs) := (hfs.trans hw1).symm
    have F1 := next_fine (m := kindB 3) HFI1.out
    have F2 := next_fine (m := saysB [afterP]) F1.2
    have F3 := next_fine (m := mileB) F2.2
    have HN1 : Hid (I64 (nextB (kindB 3) s1).1.n) := F1.1.1
    have HN3 : Hid ((nextB mileB (nextB (saysB [afterP]) (nextB (kindB 3) s1).2).2).1.text.length ≤ maxLen) := F3.1.2
    have HT1 : Hid (∀ W, St W p n d s1 → Calls Tryz.prog 30 #[.pointer (some ⟨p, 0, none⟩), .func (.func 106) #[] #[]] W (TakeAs p n d (kindB 3) s1 W)) := fun W hW => take_any p n d s1 _ #[] (kindB 3) W (may_days p W) hW
    unfold TakeAs at HT1
    generalize nextB (kindB 3) s1 = q1 at *
    obtain ⟨t1, s2⟩ := q1
    dsimp only at HX HS3 HN1 HN3 HT1
    have HT2 : Hid (∀ W m, MayF p W 65 m (saysB [afterP]) → St W p n d s2 → Calls Tryz.prog 30 #[.pointer (some ⟨p, 0, none⟩), .func (.func 65) #[] m] W (TakeAs p n d (saysB [afterP]) s2 W)) := fun W m hm hW => take_any p n d s2 _ m (saysB [afterP]) W hm hW
    unfold TakeAs at HT2
    generalize nextB (saysB [afterP]) s2 = q2 at *
    obtain ⟨t2, s3⟩ := q2
    dsimp only at HX HS3 HN3 HT2
    have HT3 : Hid (∀ W, St W p n d s3 → Calls Tryz.prog 30 #[.pointer (some ⟨p, 0, none⟩), .func (.func 107) #[] #[]] W (TakeAs p n d mileB s3 W)) := fun W hW => take_any p n d s3 _ #[] mileB W (may_mile p W) hW
    unfold TakeAs at HT3
    generalize nextB mileB s3 = q3 at *
    obtain ⟨t3, s4⟩ := q3
    dsimp only at HX HS3 HN3 HT3
    obtain ⟨n1, hn1⟩ : ∃ n1, n1 = t1.n := ⟨_, rfl⟩
    obtain ⟨l3, hl3⟩ : ∃ l3, l3 = t3.text := ⟨_, rfl⟩
    rw [← hn1] at HX HN1
    rw [← hl3] at HX HN3
    unfold tokV at HT1 HT2 HT3
    rw [← hn1] at HT1
    rw [← hl3] at HT3
    obtain ⟨z1, hz1⟩ : ∃ z : ByteArray, strV t1.text = .string z := ⟨_, rfl⟩
    obtain ⟨y2, hy2⟩ : ∃ z : ByteArray, strV t2.text = .string z := ⟨_, rfl⟩
    obtain ⟨z3, hz3⟩ : ∃ z : ByteArray, strV l3 = .string z := ⟨_, rfl⟩
    rw [hz1] at HT1
    rw [hy2] at HT2
    rw [hz3] at HT3
    have HZ3 := Lib.hid hz3
    have hwa : strV afterP = .string ⟨#[97, 102, 116, 101, 114]⟩ := rfl
    clear hin hfs hfx hw1 hw2 F1 F2 F3 HOK1 HFI HFI1 hn1 hl3 hz1 hy2 hz3
    generalize (t1.kind : Int) = a1 at *
    generalize (t1.at_ : Int) = c1 at *
    generalize (t2.kind : Int) = a2 at *
    generalize (t2.at_ : Int) = c2 at *
    generalize t2.n = b2 at *
    generalize (t3.kind : Int) = a3 at *
    generalize (t3.at_ : Int) = c3 at *
    generalize t3.n = b3 at *
    have hfd1 : ∀ W : World, (Instr.field 62 (.agg #[.int .i64 a1, .string z1, .int .i64 n1, .int .i64 c1]) 2).run Tryz.prog W = .ok (.int .i64 n1) W := fun W => by kernel_rfl
    have hfd3 : ∀ W : World, (Instr.field 62 (.agg #[.int .i64 a3, .string z3, .int .i64 b3, .int .i64 c3]) 1).run Tryz.prog W = .ok (.string z3) W := fun W => by kernel_rfl
    go_enter Tryz.func88, Tryz.ntmps88
    go_wp2_with fail
    refine hf.mono ?_
    rintro e w1 ⟨rfl, h1, g1⟩
    have s1' : w.heap.size + 1 ≤ w1.heap.size := by have := g1.size; omega
    have R1 := R0.but g1 hp
    have G1 := grown_trans g0 g1
    have ht := HT1.out w1 h1
    clear hf h1 g1 HT1 R0 g0
    go_wp2_with fail
    refine ht.mono ?_
    rintro e w2 ⟨rfl, h2, g2⟩
    have s2' : w.heap.size + 1 ≤ w2.heap.size := by have := g2.size; omega
    have R2 := (R1.but g2 hp).alloc (.cells #[.int .i64 1, .int .i64 n1, .string ⟨#[]⟩, .slice none 0 0] 42)
    have K2 := KB.new w2 42 #[.int .i64 1, .int .i64 n1, .string ⟨#[]⟩, .slice none 0 0]
    have G2 := grown_alloc (grown_trans G1 g2) (.cells #[.int .i64 1, .int .i64 n1, .string ⟨#[]⟩, .slice none 0 0] 42)
    have H2 := h2.alloc (.cells #[.int .i64 1, .int .i64 n1, .string ⟨#[]⟩, .slice none 0 0] 42)
    obtain ⟨v2, hv2⟩ : ∃ v2, v2 = w2.alloc (.cells #[.int .i64 1, .int .i64 n1, .string ⟨#[]⟩, .slice none 0 0] 42) := ⟨_, rfl⟩
    have zv2 : v2.heap.size = w2.heap.size + 1 := by rw [hv2]; simp
    rw [← hv2] at R2 K2 G2 H2
    have CS0 : CS (v2.alloc (.cells #[.string ⟨#[97, 102, 116, 101, 114]⟩] 9)) (fun b => b = v2.heap.size) (.slice (some ⟨v2.heap.size, 0, none⟩) 1 1) ([afterP].map strV) := cs_lit v2 9 [strV afterP] (by simp [maxLen])
    have H3 := H2.alloc (.cells #[.string ⟨#[97, 102, 116, 101, 114]⟩] 9)
    have R3 := R2.alloc (.cells #[.string ⟨#[97, 102, 116, 101, 114]⟩] 9)
    have K3 := K2.alloc (.cells #[.string ⟨#[97, 102, 116, 101, 114]⟩] 9)
    have G3 := grown_alloc G2 (.cells #[.string ⟨#[97, 102, 116, 101, 114]⟩] 9)
    have hsy := says_any (.slice (some ⟨v2.heap.size, 0, none⟩) 1 1) ⟨_, _, _, rfl⟩ (v2.alloc (.cells #[.string ⟨#[97, 102, 116, 101, 114]⟩] 9))
    obtain ⟨v3, hv3⟩ : ∃ v3, v3 = v2.alloc (.cells #[.string ⟨#[97, 102, 116, 101, 114]⟩] 9) := ⟨_, rfl⟩
    have zv3 : v3.heap.size = w2.heap.size + 2 := by rw [hv3, World.size_alloc, zv2]
    rw [← hv3] at CS0 H3 R3 K3 G3 hsy
    rw [zv3] at hsy
    rw [zv2] at hsy CS0
    have HV3 : Hid (v3 = (w2.alloc (.cells #[.int .i64 1, .int .i64 n1, .string ⟨#[]⟩, .slice none 0 0] 42)).alloc (.cells #[.string ⟨#[97, 102, 116, 101, 114]⟩] 9)) := by show _ = _; rw [hv3, hv2]
    clear ht h2 g2 H2 R2 K2 G2 hv2 hv3 R1 G1 zv2
    go_wp2_with fail
    rw [← HV3.out]
    refine hsy.mono ?_
    rintro e w3 ⟨rfl, kb3, bb3⟩
    rw [← zv3] at bb3
    have g3 := grown_of_below bb3 (some p)
    have m3 := may_says (p := p) kb3 (by omega) (CS0.below' bb3) (fun b hb => by omega)
    have H4 := H3.below bb3
    have R4 := R3.but g3 hp
    have K4 := K3.but g3 (by omega)
    have G4 := grown_trans G3 g3
    have hs3 : w2.heap.size + 2 ≤ w3.heap.size := by have := bb3.size; omega
    have ht := HT2.out w3 _ m3 H4
    clear hsy kb3 bb3 m3 CS0 H3 R3 K3 G3 g3 HT2 HV3
    go_wp2_with fail
    refine ht.mono ?_
    rintro e w4 ⟨rfl, h4, g4⟩
    have R5 := R4.but g4 hp
    have K5 := K4.but g4 (by omega)
    have G5 := grown_trans G4 g4
    have hs4 : w2.heap.size + 2 ≤ w4.heap.size := by have := g4.size; omega
    have ht5 := HT3.out w4 h4
    clear ht H4 R4 K4 G4 h4 g4 HT3
    go_wp2_with fail
    refine ht5.mono ?_
    rintro e w5 ⟨rfl, h5, g5⟩
    have R6 := R5.but g5 hp
    have K6 := K5.but g5 (by omega)
    have G6 := grown_trans G5 g5
    have hs5 : w2.heap.size + 2 ≤ w5.heap.size := by have := g5.size; omega
    have hne : ¬ w.heap.size = w2.heap.size := by omega
    have hne2 : ¬ w2.heap.size = w.heap.size := by omega
    have K7 := K6.put 2 (.string z3)
    have R7 := R6.keep (w' := w5.setCell ⟨w2.heap.size, 2, none⟩ (.string z3)) (Below.heap_setCell w5 _ _ _ (by show w.heap.size ≠ w2.heap.size; omega))
    have St7 := h5.setCell (a := ⟨w2.heap.size, 2, none⟩) (by show p < w2.heap.size; omega) (.string z3)
    have G7 := grown_cell G6 (a := ⟨w2.heap.size, 2, none⟩) (by show w.heap.size ≤ w2.heap.size; omega) (.string z3)
    have hs7 : (w5.setCell ⟨w2.heap.size, 2, none⟩ (.string z3)).heap.size = w5.heap.size := by simp [World.setCell]
    have e2 := K6.free 2
    have f0 := R6.free 0
    have f1 := R6.free 1
    have f2 := R6.free 2
    have f3 := R6.free 3
    have r0 := R6.cell 0
    have r1 := R6.cell 1
    have r2 := R6.cell 2
    have r3 := R6.cell 3
    have k0 := K6.cell 0
    have k1 := K6.cell 1
    have k2 := K6.cell 2
    have k3 := K6.cell 3
    have hg0 := R6.lt
    have hg1 := K6.lt
    obtain ⟨W5, hW5⟩ : ∃ W5, W5 = (((((w5.setCell ⟨w2.heap.size, 2, none⟩ (.string z3)).setCell ⟨w.heap.size, 0, none⟩ (.int .i64 1)).setCell ⟨w.heap.size, 1, none⟩ (.int .i64 n1)).setCell ⟨w.heap.size, 2, none⟩ (.string z3)).setCell ⟨w.heap.size, 3, none⟩ (.slice none 0 0)) := ⟨_, rfl⟩
    have kfin := R7.put4 (.int .i64 1) (.int .i64 n1) (.string z3) (.slice none 0 0)
    have st5 := St7.four hp (.int .i64 1) (.int .i64 n1) (.string z3) (.slice none 0 0)
    have gr5 := grown_four G7 (Nat.le_refl _) (.int .i64 1) (.int .i64 n1) (.string z3) (.slice none 0 0)
    rw [← hW5] at kfin st5 gr5
    rw [HS3.out] at st5
    have hfin := HD.out W5 1 n1 z3 none 0 0 (fun he => by
      rw [HX.out he]
      exact ⟨rfl, by show I64 1; unfold I64; omega, rfl, HN1.out, HZ3.out.symm, HN3.out, XS.nil _ _ _⟩) st5 gr5
    have HW5 := Lib.hid hW5
    clear hW5 ht5 h5 g5 R5 R6 R7 K5 K6 K7 G5 G6 G7 St7 st5 gr5 HD hs7
    go_wp2_with fail
    rw [← HW5.out]
    exact bodyPost_ret (results_cell (P := Tryz.prog) rfl _ _ w.heap.size _ _ (0, 0) _ rfl kfin Tryz.underlying42 rfl (by kernel_rfl)) rfl hfin
end
end Go.Proofs.YthindhlogkhclaaGreatDoor
