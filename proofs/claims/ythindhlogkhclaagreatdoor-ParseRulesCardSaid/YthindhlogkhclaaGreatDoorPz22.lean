/-
  PaD: The program's several (layer 18), over the loaded program, for every method whose contract is known: its walk. No condition but what it names.
-/
import Derived.Test.YthindhlogkhclaaGreatDoorPz21
import Derived.Laws.EntriesVeiled
set_option linter.unusedVariables false
set_option maxRecDepth 100000
namespace Go.Proofs.YthindhlogkhclaaGreatDoor
section
open Go.RowKit
set_option maxHeartbeats 16000000 in
theorem several_any (p : Nat) (n d : Int) {k : Nat} (f : Ps → Ex k × Ps) (hway : Way f) (hst : Stuck f) (G : Nat) (op : Int) (hop : I64 op) (bw : List UInt8) (hbw : bw ≠ []) (hbl : bw.length ≤ 1000) (g : Bool)
    (hrun : ∀ (args : Array Value) (W : World), (callFunc G args).run Tryz.prog W = .ok (.enter G args) W)
    (hone : ∀ (s : Ps) (W : World), Okg g s → St W p n d s → Calls Tryz.prog G #[.pointer (some ⟨p, 0, none⟩)] W (GotAs p n d f s W)) (s : Ps) (w : World) (hok : Okg g s) (h : St w p n d s) :
    Calls Tryz.prog 67 #[.pointer (some ⟨p, 0, none⟩), .int .i64 op, strV bw, .func (.func G) #[.pointer (some ⟨p, 0, none⟩)] #[]] w (GotAs p n d (fun s => (packP k op (manyP f bw s).1, (manyP f bw s).2)) s w) := by
  have hp := h.lt
  have R0 := Lib.hid (KB.new w 42 #[.int .i64 0, .int .i64 0, .string ⟨#[]⟩, .slice none 0 0])
  have ho := hone s _ hok (h.alloc (.cells #[.int .i64 0, .int .i64 0, .string ⟨#[]⟩, .slice none 0 0] 42))
  have HO : Hid (∀ (s : Ps) (W : World), Okg g s → St W p n d s → Calls Tryz.prog G #[.pointer (some ⟨p, 0, none⟩)] W (GotAs p n d f s W)) := hone
  have G0 : Hid (w.grownBy (w.alloc (.cells #[.int .i64 0, .int .i64 0, .string ⟨#[]⟩, .slice none 0 0] 42)) (some p)) := grown_alloc (World.grownBy.refl w _) _
  have s0 : (w.alloc (.cells #[.int .i64 0, .int .i64 0, .string ⟨#[]⟩, .slice none 0 0] 42)).heap.size = w.heap.size + 1 := by simp
  obtain ⟨D, hD⟩ : ∃ D, D = GotAs p n d (fun s => (packP k op (manyP f bw s).1, (manyP f bw s).2)) s w := ⟨_, rfl⟩
  rw [← hD]
  have HD : Hid (∀ W i0 i1 z2 X3 n3 z3, ((manyP f bw s).2.e = 0 → EX W (fun b => w.heap.size ≤ b) (k + 1) (packP k op (manyP f bw s).1) (.int .i64 i0) (.int .i64 i1) (.string z2) (.slice X3 n3 z3)) → St W p n d (manyP f bw s).2 → w.grownBy W (some p) →
      D (.returned (.agg #[.int .i64 i0, .int .i64 i1, .string z2, .slice X3 n3 z3])) W) := fun W i0 i1 z2 X3 n3 z3 h1 h2 h3 => by rw [hD]; exact ⟨i0, i1, z2, X3, n3, z3, rfl, h1, h2, h3⟩
  have HFL : Hid (FineL s.rest) := h.fine
  have HM1 : Hid (moreP f bw s.rest.length [(f s).1] (f s).2 = manyP f bw s) := rfl
  have HF1 : Hid ((f s).2.rest.length ≤ s.rest.length) := hway.front s
  have HOK1 : Hid (Okg g (f s).2) := hok.step hst
  obtain ⟨sb, hsb⟩ : ∃ z : ByteArray, strV bw = .string z := ⟨_, rfl⟩
  rw [hsb]
  unfold GotAs at ho
  obtain ⟨M, hM⟩ : ∃ M, M = manyP f bw s := ⟨_, rfl⟩
  rw [← hM] at HD HM1
  clear hone hD hM hok
  go_enter Tryz.func67, Tryz.ntmps67
  go_wp2_with fail
  refine ho.mono ?_
  rintro e w1 ⟨i0, i1, z2, X3, n3, z3, rfl, hx1, h1, g1⟩
  rw [s0] at hx1
  have hs1 : w.heap.size + 1 ≤ w1.heap.size := by have := g1.size; omega
  have R1 := Lib.hid (R0.out.but g1 hp)
  have G1 := Lib.hid (grown_trans G0.out g1)
  have own1 := ownX_one w1 (w.heap.size + 1) hs1 (.int .i64 i0, .int .i64 i1, .string z2, .slice X3 n3 z3)
  have H1 := Lib.hid (h1.alloc (.cells #[.int .i64 i0, .int .i64 i1, .string z2, .slice X3 n3 z3] 42))
  have HQ1 : Hid ((f s).2.e = 0 → QX (w1.alloc (.cells #[.int .i64 i0, .int .i64 i1, .string z2, .slice X3 n3 z3] 42)) (SR (w.heap.size + 1) (.slice (some ⟨w1.heap.size, 0, none⟩) 1 1) (w1.heap.size + 1)) k [(.int .i64 i0, .int .i64 i1, .string z2, .slice X3 n3 z3)] [(f s).1]) := fun he =>
    QX.one (EX.keepL k _ _ _ _ _ (hx1 he) (by simp) (fun b _ hb => Below.heap_alloc w1 _ b hb) fun b sb hb => ⟨sb, by omega, fun e => by have e' : some w1.heap.size = some b := e; injection e' with e'; omega⟩)
  have R2 := Lib.hid (R1.out.alloc (.cells #[.int .i64 i0, .int .i64 i1, .string z2, .slice X3 n3 z3] 42))
  have G2 := Lib.hid (grown_alloc G1.out (.cells #[.int .i64 i0, .int .i64 i1, .string z2, .slice X3 n3 z3] 42))
  clear ho hx1 h1 g1 R1 G1 R0 G0
  go_wp2_with fail
  go_loopw [9] (fun kv wr => ∃ (l : List (Ex k)) (sj : Ps) (qs : List QuX), wr.ownsRow (w.heap.size + 1) 42 4 kv qs.length (flatX qs) ∧ Hid (1 ≤ qs.length) ∧ Hid (qs.length + sj.rest.length ≤ s.rest.length + 1) ∧ Hid (moreP f bw s.rest.length l sj = M) ∧
    Hid (Okg g sj) ∧ Hid (∀ q ∈ qs, FormQ q) ∧ Hid (sj.e = 0 → QX wr (SR (w.heap.size + 1) kv wr.heap.size) k qs l) ∧ Hid (St wr p n d sj) ∧ Hid (KB wr w.heap.size 42 #[.int .i64 0, .int .i64 0, .string ⟨#[]⟩, .slice none 0 0]) ∧ Hid (w.grownBy wr (some p)) ∧ w.heap.size + 1 ≤ wr.heap.size) (fun _ wr => lenAt wr p)
  case atStart =>
    refine ⟨[(f s).1], (f s).2, [(.int .i64 i0, .int .i64 i1, .string z2, .slice X3 n3 z3)], own1, Nat.le_refl _, by have := HF1.out; show 1 + _ ≤ _; omega, HM1, HOK1, ?_, ?_, H1, R2, G2, by simp; omega⟩
    · intro q hq
      rw [List.mem_singleton] at hq
      exact ⟨_, _, _, _, _, _, hq⟩
    · have := HQ1.out
      rw [← World.size_alloc w1 (.cells #[.int .i64 i0, .int .i64 i1, .string z2, .slice X3 n3 z3] 42)] at this
      exact this
  case round =>
    clear HM1 HOK1 HF1 H1 R2 G2 own1 HQ1
    obtain ⟨l, sj, qs, how, HL1, HLB, HMJ, HOK, HFQ, HQ, HS, HR, HG, hsz⟩ := hrel
    have hpw : p < wr.heap.size := by omega
    have CS0 : Hid (CS (wr.alloc (.cells #[.string sb] 9)) (fun b => b = wr.heap.size) (.slice (some ⟨wr.heap.size, 0, none⟩) 1 1) ([bw].map strV)) := by
      have := cs_lit wr 9 [strV bw] (by simp [maxLen])
      rw [hsb] at this
      show CS _ _ _ [strV bw]
      rw [hsb]; exact this
    have HS2 := Lib.hid (HS.out.alloc (.cells #[.string sb] 9))
    have HB2 : Hid (wr.grownBy (wr.alloc (.cells #[.string sb] 9)) (some p)) := grown_alloc (World.grownBy.refl wr _) _
    have hsy := says_any (.slice (some ⟨wr.heap.size, 0, none⟩) 1 1) ⟨_, _, _, rfl⟩ (wr.alloc (.cells #[.string sb] 9))
    rw [World.size_alloc] at hsy
    have HOK4 : Hid (Okg g (foundP (saysB [bw]) sj).2) := HOK.out.step (Stuck.found _)
    have HW := found_way hway hst hbw (G := s.rest.length) (l := l) (s := sj) (by have := HLB.out; have := HL1.out; omega)
    have HFA : Hid (∀ w3 m, MayF p w3 65 m (saysB [bw]) → St w3 p n d sj → Calls Tryz.prog 87 #[.pointer (some ⟨p, 0, none⟩), .func (.func 65) #[] m] w3 (fun e w' => e = .returned (.bool (foundP (saysB [bw]) sj).1) ∧ St w' p n d (foundP (saysB [bw]) sj).2 ∧ w3.grownBy w' (some p))) :=
      fun w3 m hm h3 => found_any p n d sj _ m (saysB [bw]) w3 hm h3
    generalize foundP (saysB [bw]) sj = fp at *
    obtain ⟨fb, s4⟩ := fp
    dsimp only at HOK4 HW HFA
    rw [HMJ.out] at HW
    go_wp2_with fail
    refine hsy.mono ?_
    rintro e w3 ⟨rfl, kb3, b3⟩
    rw [← World.size_alloc wr (.cells #[.string sb] 9)] at b3
    have m3 := may_says (p := p) kb3 (by omega) (CS0.out.below' b3) (fun b hb => by omega)
    have hf := HFA.out w3 _ m3 (HS2.out.below b3)
    have B3 := Lib.hid (grown_trans HB2.out (grown_of_below b3 (some p)))
    have s3 : wr.heap.size + 1 ≤ w3.heap.size := by have := b3.size; simp at this; omega
    clear hsy kb3 b3 m3 CS0 HFA HS2 HB2
    rcases HW with ⟨rfl, hje, h4e, h4r, hmo⟩ | ⟨rfl, hmo, hend⟩
    · have HMO := Lib.hid hmo
      have H4E := Lib.hid h4e
      clear hmo
      go_wp2_with fail
      refine hf.mono ?_
      rintro e w4 ⟨rfl, h4, g4⟩
      have B4 := Lib.hid (grown_trans B3.out g4)
      have how4 := own_but B4.out (by omega) how
      have ho4 := HO.out s4 w4 HOK4.out h4
      have s4' : wr.heap.size + 1 ≤ w4.heap.size := by have := g4.size; omega
      unfold GotAs at ho4
      clear hf h4 g4
      go_wp2_with fail
      refine ho4.mono ?_
      rintro e w5 ⟨j0, j1, y2, Y3, m3, t3, rfl, hx5, h5, g5⟩
      have B5 := grown_trans B4.out g5
      have s5' : wr.heap.size + 1 ≤ w5.heap.size := by have := g5.size; omega
      have how5 := own_but g5 (by omega) how4
      have hown := fun k hk => how.lt k hk
      obtain ⟨w6, hw6⟩ : ∃ w6, w6 = w5.alloc (.cells #[.int .i64 j0, .int .i64 j1, .string y2, .slice Y3 m3 t3] 42) := ⟨_, rfl⟩
      have b6 := (Below.refl w5.heap.size w5).alloc (Nat.le_refl _) (.cells #[.int .i64 j0, .int .i64 j1, .string y2, .slice Y3 m3 t3] 42)
      have kat := KB.new w5 42 #[.int .i64 j0, .int .i64 j1, .string y2, .slice Y3 m3 t3]
      have hsz6 : w6.heap.size = w5.heap.size + 1 := by rw [hw6]; simp
      rw [← hw6] at b6 kat
      have how6 := own_past b6 how5
      have hat : ∀ i u, (quadX (.int .i64 j0, .int .i64 j1, .string y2, .slice Y3 m3 t3))[i]? = some u → w6.cell? ((⟨w5.heap.size, 0, none⟩ : Addr).add i) = some u := fun i u hu => by
        rw [Addr.add_lit, Nat.zero_add, kat.cell]
        simpa [quadX] using hu
      have B6 := grown_trans B5 (grown_of_below b6 (some p))
      have h1c : ∀ u ∈ quadX (.int .i64 j0, .int .i64 j1, .string y2, .slice Y3 m3 t3), u.oneCell' = true := by
        intro u hu
        simp [quadX] at hu
        rcases hu with rfl | rfl | rfl | rfl <;> rfl
      have HK7 : Hid (∀ w7, w6.grownBy w7 u9.ownBlock → KB w7 w.heap.size 42 #[.int .i64 0, .int .i64 0, .string ⟨#[]⟩, .slice none 0 0] ∧ St w7 p n d (f s4).2 ∧ w.grownBy w7 (some p) ∧ w.heap.size + 1 ≤ w7.heap.size) := fun w7 g7 => by
        refine ⟨(HR.out.but B6 hp).grown g7 (fun e => ?_), (h5.below b6).own g7 (fun k hk => ?_), grown_own (grown_trans HG.out B6) g7 (fun k hk => ?_), by have := g7.size; omega⟩
        · have := (hown _ e).1; omega
        · have := (hown _ hk).1; omega
        · have := (hown _ hk).1; omega
      have HQ7 : Hid (∀ v7 w7, w6.grownBy w7 u9.ownBlock → (v7.ownBlock = u9.ownBlock ∨ v7.ownBlock = some w6.heap.size) → (f s4).2.e = 0 → QX w7 (SR (w.heap.size + 1) v7 w7.heap.size) k (qs ++ [(.int .i64 j0, .int .i64 j1, .string y2, .slice Y3 m3 t3)]) (l ++ [(f s4).1])) := fun v7 w7 g7 ho7 he => by
        have hs7 := g7.size
        refine QX.append ((HQ.out hje).keepL (by omega) (fun b' sb' hb' => ?_) (fun b' sb' hb' => ?_)) ((QX.one (hx5 he)).keepL (by omega) (fun b' sb' hb' => ?_) (fun b' sb' hb' => ?_))
        · exact (g7.block b' (by omega) (fun e => sb'.2.2 e.symm)).trans (B6.block b' hb' (fun e => by have := sb'.1; injection e with e; omega))
        · refine ⟨sb'.1, by omega, fun e => ?_⟩
          rcases ho7 with h | h
          · exact sb'.2.2 (h.symm.trans e)
          · rw [h] at e; injection e with e; omega
        · refine (g7.block b' (by omega) (fun e => ?_)).trans (b6.block b' hb')
          have h1 := (hown _ e.symm).2
          have h2 : w4.heap.size ≤ b' := sb'
          omega
        · have h2 : w4.heap.size ≤ b' := sb'
          refine ⟨by omega, by omega, fun e => ?_⟩
          rcases ho7 with h | h
          · have h1 := (hown _ (h.symm.trans e)).2
            omega
          · rw [h] at e; injection e with e; omega
      have HOK7 : Hid (Okg g (f s4).2) := HOK4.out.step hst
      have HFR : Hid ((f s4).2.rest.length ≤ s4.rest.length) := hway.front s4
      have hql : qs.length ≤ 1000000000 := by have := HLB.out; have := HFL.out.1; omega
      have hB6 : w.heap.size + 1 ≤ w6.heap.size := by omega
      have HW6 := Lib.hid hw6
      clear hx5 h5 g5 B5 B6 how how4 how5 b6 kat hown hw6 ho4 hsz6 s5' s4' s3
      go_wp2_with (at_builtin; rw [← HW6.out]; go_loud (refine wpList_growX w6 rfl _ _ rfl (w.heap.size + 1) _ qs rfl how6 ⟨_, 0, none⟩ 1 (.int .i64 j0, .int .i64 j1, .string y2, .slice Y3 m3 t3) rfl hat h1c hql hB6 ?_); intro v7 w7 how7 g7 ho7)
      go_roundw
      case rel =>
        obtain ⟨e1, e2, e3, e4⟩ := HK7.out w7 g7
        refine ⟨l ++ [(f s4).1], (f s4).2, _, how7, ?_, ?_, ?_, HOK7, ?_, ?_, e2, e1, e3, e4⟩
        · have := HL1.out; show 1 ≤ _; rw [List.length_append]; omega
        · have := HLB.out; have := HFR.out; show _ + _ ≤ _; rw [List.length_append]; show _ + 1 + _ ≤ _; omega
        · show _ = _; rw [← HMO.out]
        · intro q hq
          rcases List.mem_append.1 hq with hq | hq
          · exact HFQ.out q hq
          · rw [List.mem_singleton] at hq
            exact ⟨_, _, _, _, _, _, hq⟩
        · exact fun he => HQ7.out _ w7 g7 ho7 he
      case measure =>
        obtain ⟨e1, e2, e3, e4⟩ := HK7.out w7 g7
        have := HFR.out
        rw [e2.len, HS.out.len]
        omega
    · go_wp2_with fail
      refine hf.mono ?_
      rintro e w4 ⟨rfl, h4, g4⟩
      have B4 := grown_trans B3.out g4
      have how4 := own_but B4 (by omega) how
      have R4 := HR.out.but B4 hp
      have G4 := grown_trans HG.out B4
      have s4' : wr.heap.size + 1 ≤ w4.heap.size := by have := g4.size; omega
      have HMO := Lib.hid hmo
      have HEND := Lib.hid hend
      cases qs with
      | nil => exact absurd HL1.out (by simp)
      | cons q qr =>
        obtain ⟨j0, j1, y2, Y3, m3, t3, rfl⟩ := HFQ.out q (List.mem_cons_self ..)
        obtain ⟨g', c', rfl, hg1, hg2, hc1, hc2, q0, q1, q2, q3⟩ := ownX_head how4
        dsimp only at q0 q1 q2 q3
        have hqw : qr.length ≤ 1000000 := by have := HLB.out; have := HFL.out.1; rw [List.length_cons] at *; omega
        have f0 := R4.free 0
        have f1 := R4.free 1
        have f2 := R4.free 2
        have f3 := R4.free 3
        have r0 := R4.cell 0
        have r1 := R4.cell 1
        have r2 := R4.cell 2
        have r3 := R4.cell 3
        have hg0 := R4.lt
        have hgg : ¬ g' = w.heap.size := by omega
        have hgg2 : ¬ w.heap.size = g' := by omega
        have HQE : Hid (∀ (he : M.2.e = 0), sj.e = 0 ∧ M.1 = l ∧ QX wr (SR (w.heap.size + 1) (.slice (some ⟨g', 0, none⟩) (qr.length + 1) c') wr.heap.size) k ((.int .i64 j0, .int .i64 j1, .string y2, .slice Y3 m3 t3) :: qr) l) := fun he => by
          rw [HMO.out] at he
          obtain ⟨h1, h2⟩ := HEND.out he
          exact ⟨h2, h1, HQ.out h2⟩
        have h4' : St w4 p n d M.2 := by rw [HMO.out]; exact h4
        by_cases hq1 : qr = []
        · subst hq1
          obtain ⟨W5, hW5⟩ : ∃ W5, W5 = ((((w4.setCell ⟨w.heap.size, 0, none⟩ (.int .i64 j0)).setCell ⟨w.heap.size, 1, none⟩ (.int .i64 j1)).setCell ⟨w.heap.size, 2, none⟩ (.string y2)).setCell ⟨w.heap.size, 3, none⟩ (.slice Y3 m3 t3)) := ⟨_, rfl⟩
          have kfin := R4.put4 (.int .i64 j0) (.int .i64 j1) (.string y2) (.slice Y3 m3 t3)
          have st5 := h4'.four hp (.int .i64 j0) (.int .i64 j1) (.string y2) (.slice Y3 m3 t3)
          have gr5 := grown_four G4 (Nat.le_refl _) (.int .i64 j0) (.int .i64 j1) (.string y2) (.slice Y3 m3 t3)
          have hblk : ∀ b, w.heap.size + 1 ≤ b → W5.heap[b]? = w4.heap[b]? := fun b hb => by
            rw [hW5]
            exact (Below.heap_setCell _ _ _ _ (by show b ≠ w.heap.size; omega)).trans ((Below.heap_setCell _ _ _ _ (by show b ≠ w.heap.size; omega)).trans ((Below.heap_setCell _ _ _ _ (by show b ≠ w.heap.size; omega)).trans (Below.heap_setCell _ _ _ _ (by show b ≠ w.heap.size; omega))))
          have hsz5 : W5.heap.size = w4.heap.size := by rw [hW5]; simp [World.setCell]
          rw [← hW5] at kfin st5 gr5
          have hfin := HD.out W5 j0 j1 y2 Y3 m3 t3 (fun he => by
            obtain ⟨h1, h2, h3⟩ := HQE.out he
            rw [h2]
            match l, h3 with
            | [x], h3 =>
              have hx := h3.2 0 _ x rfl rfl
              refine EX.lifted k x _ _ _ _ (EX.keepL k x _ _ _ _ hx (by omega) (fun b sb' hb' => ?_) (fun b sb' _ => ?_))
              · exact (hblk b sb'.1).trans (B4.block b hb' (fun e => by have := sb'.1; injection e with e; omega))
              · have h1 := sb'.1; show w.heap.size ≤ b; omega
            | [], h3 => exact absurd h3.1 (by simp)
            | _ :: _ :: _, h3 => exact absurd h3.1 (by simp)) st5 gr5
          have HW5 := Lib.hid hW5
          clear hW5 hblk hf h4 h4' g4 B4 B3 how how4 R4 G4 st5 gr5 HQE HMO HEND HMJ HOK HFQ HQ HS HR HG HL1 HLB HO HD hmo hend HFL
          go_wp2_with fail
          rw [← HW5.out]
          exact bodyPost_ret (results_cell (P := Tryz.prog) rfl _ _ w.heap.size _ _ (0, 0) _ rfl kfin Tryz.underlying42 rfl (by kernel_rfl)) rfl hfin
        · have hq2 : ¬ ((qr.length : Int) + 1 = 1) := by
            have : qr.length ≠ 0 := fun h => hq1 (List.length_eq_zero_iff.1 h)
            omega
          obtain ⟨W5, hW5⟩ : ∃ W5, W5 = ((((w4.setCell ⟨w.heap.size, 0, none⟩ (.int .i64 op)).setCell ⟨w.heap.size, 1, none⟩ (.int .i64 0)).setCell ⟨w.heap.size, 2, none⟩ (.string ⟨#[]⟩)).setCell ⟨w.heap.size, 3, none⟩ (.slice (some ⟨g', 0, none⟩) (qr.length + 1) c')) := ⟨_, rfl⟩
          have kfin := R4.put4 (.int .i64 op) (.int .i64 0) (.string ⟨#[]⟩) (.slice (some ⟨g', 0, none⟩) (qr.length + 1) c')
          have st5 := h4'.four hp (.int .i64 op) (.int .i64 0) (.string ⟨#[]⟩) (.slice (some ⟨g', 0, none⟩) (qr.length + 1) c')
          have gr5 := grown_four G4 (Nat.le_refl _) (.int .i64 op) (.int .i64 0) (.string ⟨#[]⟩) (.slice (some ⟨g', 0, none⟩) (qr.length + 1) c')
          have hblk : ∀ b, w.heap.size + 1 ≤ b → W5.heap[b]? = w4.heap[b]? := fun b hb => by
            rw [hW5]
            exact (Below.heap_setCell _ _ _ _ (by show b ≠ w.heap.size; omega)).trans ((Below.heap_setCell _ _ _ _ (by show b ≠ w.heap.size; omega)).trans ((Below.heap_setCell _ _ _ _ (by show b ≠ w.heap.size; omega)).trans (Below.heap_setCell _ _ _ _ (by show b ≠ w.heap.size; omega))))
          have hsz5 : W5.heap.size = w4.heap.size := by rw [hW5]; simp [World.setCell]
          rw [← hW5] at kfin st5 gr5
          have hfin := HD.out W5 op 0 ⟨#[]⟩ (some ⟨g', 0, none⟩) (qr.length + 1) c' (fun he => by
            obtain ⟨h1, h2, h3⟩ := HQE.out he
            rw [h2]
            have hl : l.length = qr.length + 1 := by rw [← h3.1]; rfl
            have hpk : packP k op l = (⟨op, 0, [], l⟩ : Nx (Ex k)) := by
              match l, hl with
              | [], hl => rfl
              | [x], hl => exact absurd (List.length_eq_zero_iff.1 (show qr.length = 0 by have h1 : ([x] : List (Ex k)).length = 1 := rfl; omega)) hq1
              | _ :: _ :: _, _ => rfl
            rw [hpk]
            have hqx : QX w4 (fun b => w.heap.size + 1 ≤ b) k ((.int .i64 j0, .int .i64 j1, .string y2, .slice Y3 m3 t3) :: qr) l :=
              h3.keepL (by omega) (fun b sb' hb' => B4.block b hb' (fun e => by have := sb'.1; injection e with e; omega)) fun b sb' _ => sb'.1
            have hxs := XS_of_own how4 hqx fun b h1 _ => h1
            refine ⟨rfl, hop, rfl, by show I64 0; unfold I64; omega, rfl, by simp, ?_⟩
            exact XS.mapL hxs (by omega) (fun b h _ => hblk b h) (fun b h _ => by show w.heap.size ≤ b; omega) (fun t c0 c1 c2 c3 h => EX.keepL k t c0 c1 c2 c3 h (by omega) (fun b h _ => hblk b h) (fun b h _ => by show w.heap.size ≤ b; omega))) st5 gr5
          have HW5 := Lib.hid hW5
          clear hW5 hblk hf h4 h4' g4 B4 B3 how how4 R4 G4 st5 gr5 HQE HMO HEND HMJ HOK HFQ HQ HS HR HG HL1 HLB HO HD hmo hend HFL
          go_wp2_with fail
          rw [← HW5.out]
          exact bodyPost_ret (results_cell (P := Tryz.prog) rfl _ _ w.heap.size _ _ (0, 0) _ rfl kfin Tryz.underlying42 rfl (by kernel_rfl)) rfl hfin
end
end Go.Proofs.YthindhlogkhclaaGreatDoor
