/-
  WaT: Commit, over the loaded program: its contract. No condition but what each theorem names (the table roots among it).
-/
import Derived.Test.YtgoifhpinoodgaaDoorWo33

section
namespace Go.Proofs.YtgoifhpinoodgaaDoor
open Go.RowKit
set_option maxRecDepth 100000
set_option linter.unusedVariables false

theorem commit_nil (A : Option Addr) (m c : Nat) (w : World) : Calls Tryd.prog 20 #[.pointer none, .slice A m c] w fun e w' => e = .returned (.int .i64 9) ∧ Below w.heap.size w w' := by
  have B0 := ((Below.refl w.heap.size w).alloc (Nat.le_refl _) (.cells #[.pointer none] 47)).alloc (by simp) (.cells #[.slice A m c] 25)
  go_enter Tryd.func20, Tryd.ntmps20
  go_wp2_with (go_at_call 47; refine (lcheck_nil _ _).mono ?_; rintro e w' ⟨rfl, rfl⟩)
  go_ret
  exact ⟨rfl, B0⟩

section
variable {w : World} {lg n : Nat} {p : DA} {br : Bool} {s : Dk}
/-- Commit, of what is not begun. -/
theorem commit_no (v : Value) (ps : List Pt) (hn : n ≤ 100000) (hg : LG w lg p n br) (hd : DS w p s) (h : PS w (Off p w) v ps) (hno : chkP br n s.safe.length ps ≠ 0 ∨ ps.length = 0) :
    Calls Tryd.prog 20 #[.pointer (some ⟨lg, 0, none⟩), v] w fun e w' => e = .returned (.int .i64 (chkP br n s.safe.length ps)) ∧ Below w.heap.size w w' := by
  obtain ⟨A, c, rfl, _⟩ := h.form
  have B0 := ((Below.refl w.heap.size w).alloc (Nat.le_refl _) (.cells #[.pointer (some ⟨lg, 0, none⟩)] 47)).alloc (by simp) (.cells #[.slice A ps.length c] 25)
  have K3 := KB.new (w.alloc (.cells #[.pointer (some ⟨lg, 0, none⟩)] 47)) 25 #[.slice A ps.length c]
  rw [World.size_alloc] at K3
  have hch := lcheck_any (Off p w) _ ps hn (hg.below B0) (hd.below B0) (h.below' B0)
  generalize chkP br n s.safe.length ps = x at *
  by_cases hx : x = 0
  · subst hx
    have h0 : ps.length = 0 := by
      rcases hno with h | h
      · exact absurd rfl h
      · exact h
    clear hno h
    generalize ps.length = m at *
    subst h0
    go_enter Tryd.func20, Tryd.ntmps20
    go_wp2_with fail
    refine hch.mono ?_
    rintro e w1 ⟨rfl, b1⟩
    have c3 : w1.cell? ⟨w.heap.size + 1, 0, none⟩ = some (.slice A 0 c) := (K3.below b1 K3.lt).cell 0
    go_wp2_with fail
    go_ret
    exact ⟨rfl, B0.trans (b1.mono B0.size)⟩
  · have hx1 : (x != 0) = true := by simpa using hx
    have hx2 : (x == 0) = false := by simpa using hx
    clear hno h
    go_enter Tryd.func20, Tryd.ntmps20
    go_wp2_with fail
    refine hch.mono ?_
    rintro e w1 ⟨rfl, b1⟩
    clear hx
    go_wp2_with fail
    go_ret
    exact ⟨rfl, B0.trans (b1.mono B0.size)⟩

set_option maxHeartbeats 4000000 in
/-- Commit. -/
theorem commit_go (v : Value) (ps : List Pt) (hg : LG w lg p n false) (hgp : ¬ p.has lg) (hd : DS w p s) (h : PS w (Off p w) v ps) (hf : Fine n s.safe.length ps) (h1 : 1 ≤ ps.length) (ht : Tab w) (htp : ¬ p.has 0) :
    Calls Tryd.prog 20 #[.pointer (some ⟨lg, 0, none⟩), v] w fun e w' => e = .returned (.int .i64 (commitD ps s).2) ∧ DS w' p (commitD ps s).1 ∧ LG w' lg p n (decide ((commitD ps s).2 ≠ 0)) ∧ KeepP (fun x => Off p w x ∧ x ≠ lg) w w' := by
  obtain ⟨A, c, rfl, _⟩ := h.form
  have hlog := hf.log
  have hfew := hf.few
  have B0 := ((Below.refl w.heap.size w).alloc (Nat.le_refl _) (.cells #[.pointer (some ⟨lg, 0, none⟩)] 47)).alloc (by simp) (.cells #[.slice A ps.length c] 25)
  have K2 := (KB.new w 47 #[.pointer (some ⟨lg, 0, none⟩)]).alloc (.cells #[.slice A ps.length c] 25)
  have K3 := KB.new (w.alloc (.cells #[.pointer (some ⟨lg, 0, none⟩)] 47)) 25 #[.slice A ps.length c]
  rw [World.size_alloc] at K3
  have hch := lcheck_any (Off p w) _ ps (by omega) (hg.below B0) (hd.below B0) (h.below' B0)
  have hck : chkP false n s.safe.length ps = 0 := by unfold chkP; rw [if_neg (by simp), if_pos hf.takes, if_neg (by have := hf.room; omega)]
  rw [hck] at hch
  have hr := room_fits hf.room
  have hent := fun (W : World) (hW : PS W (Off p w) (.slice A ps.length c) ps) => entries_any (Off p w) _ ps W hW (fun q hq => by have := takes_at hf.takes hq; omega) (by omega)
  have HENT := Lib.hid hent
  have hlt := hd.lt
  have HNQ : Hid (∀ x, w.heap.size ≤ x → ¬ p.has x) := fun x hx hh => by have := hlt x hh; omega
  have D0 : decide ((ps.length : Int) = 0) = false := by simp; intro e; rw [e] at h1; simp at h1
  have D0' : ((ps.length : Int) == 0) = false := by simp; intro e; rw [e] at h1; simp at h1
  have D0'' : ¬ (ps.length : Int) = 0 := by omega
  have hst := fun (W : World) (a : CA) (vL vZ : Value) (cn : CN p a) (hcc : CC w W p a n ps (.slice A ps.length c) vL vZ) (hdW : DS W p s) => commit_steps cn hcc hdW hf
  have HST := Lib.hid hst
  have hel := hf.len
  have HH := Lib.hid h
  clear hent hst hck hr h
  go_enter Tryd.func20, Tryd.ntmps20
  go_wp2_with fail
  refine hch.mono ?_
  rintro e w1 ⟨rfl, b1⟩
  have k2 := K2.below b1 K2.lt
  have k3 := K3.below b1 K3.lt
  have B1 := B0.trans (b1.mono B0.size)
  have c3 : w1.cell? ⟨w.heap.size + 1, 0, none⟩ = some (.slice A ps.length c) := k3.cell 0
  clear hch b1 K2 K3 B0
  go_wp2_with fail
  refine (HENT.out w1 (HH.out.below' B1)).mono ?_
  rintro e w2 ⟨vL, rfl, hL, b2⟩
  have k22 := k2.below b2 k2.lt
  have k32 := k3.below b2 k3.lt
  have B2 := B1.trans (b2.mono B1.size)
  obtain ⟨AL, cL, rfl, _⟩ := hL.form
  obtain ⟨m, hm⟩ : ∃ m, m = (entriesL ps).length := ⟨_, rfl⟩
  rw [← hm] at hel hL ⊢
  obtain ⟨C, hC, hmk⟩ := make_rows (w2.alloc (.cells #[.slice AL m cL] 33)) m (by omega)
  rw [World.size_alloc] at hmk
  have k6 : KB (((w2.alloc (.cells #[.slice AL m cL] 33)).alloc (.cells C 34)).alloc (.cells #[.slice (some ⟨w2.heap.size + 1, 0, none⟩) m m] 33)) w2.heap.size 33 #[.slice AL m cL] := ((KB.new _ _ _).alloc _).alloc _
  have kr : KB (((w2.alloc (.cells #[.slice AL m cL] 33)).alloc (.cells C 34)).alloc (.cells #[.slice (some ⟨w2.heap.size + 1, 0, none⟩) m m] 33)) (w2.heap.size + 1) 34 (([] : List Value) ++ List.replicate (m - 0) nilB).toArray := by
    have := KB.new (w2.alloc (.cells #[.slice AL m cL] 33)) 34 C
    rw [World.size_alloc] at this
    rw [← hC]
    exact this.alloc _
  have k7 : KB (((w2.alloc (.cells #[.slice AL m cL] 33)).alloc (.cells C 34)).alloc (.cells #[.slice (some ⟨w2.heap.size + 1, 0, none⟩) m m] 33)) (w2.heap.size + 1 + 1) 33 #[.slice (some ⟨w2.heap.size + 1, 0, none⟩) m m] := by
    have := KB.new ((w2.alloc (.cells #[.slice AL m cL] 33)).alloc (.cells C 34)) 33 #[.slice (some ⟨w2.heap.size + 1, 0, none⟩) m m]
    rw [World.size_alloc, World.size_alloc] at this
    exact this
  have B3 := (((Below.refl w2.heap.size w2).alloc (Nat.le_refl _) (.cells #[.slice AL m cL] 33)).alloc (by simp) (.cells C 34)).alloc (by simp; omega) (.cells #[.slice (some ⟨w2.heap.size + 1, 0, none⟩) m m] 33)
  have HM := Lib.hid hm
  have hml : m ≤ 1024 := by omega
  have hmi : m ≤ 9223372036854775807 := by omega
  clear hC k2 k3 b2 hm c3
  go_wp2_with fail
  go_loopw [28] (fun iv wr => ∃ (k : Nat) (vs : List Value), k ≤ m ∧ iv = .int .i64 k ∧ vs.length = k ∧ KB wr (w2.heap.size + 1) 34 (vs ++ List.replicate (m - k) nilB).toArray ∧ OW wr (w2.heap.size + 1 + 1 + 1) vs (List.replicate k (zs 256)) ∧ KB wr w2.heap.size 33 #[.slice AL m cL] ∧ KB wr (w2.heap.size + 1 + 1) 33 #[.slice (some ⟨w2.heap.size + 1, 0, none⟩) m m] ∧ Below w2.heap.size w2 wr) (fun iv _ => m - (intOf iv).toNat)
  case atStart => exact ⟨0, [], by omega, rfl, rfl, kr, OW.nil _ _, k6, k7, B3⟩
  case round =>
    clear kr k6 k7 B3 hmk
    obtain ⟨k, vs, hk, rfl, hvl, kr, ow, k6, k7, bl⟩ := hrel
    by_cases hlt2 : k < m
    · have HROW := Lib.hid (row_at (n := m) hvl hlt2)
      have HSET := fun x => Lib.hid (row_set (n := m) hvl hlt2 x)
      have HVL := Lib.hid hvl
      have hs1 := bl.size
      have hs2 := k7.lt
      clear hvl
      go_wp2_with fail
      refine wp_region_held_drew (S := (fun W => W.cell? ⟨w2.heap.size + 1 + 1, 0, none⟩ = some (.slice (some ⟨w2.heap.size + 1, 0, none⟩) m m))) (by kernel_rfl) ((k7.drewN 1).cell 0) (fun hHeld => ?_)
      refine held_yes (o := ⟨some 31, _, _, _, _, _⟩) (v := ?_) 0 rfl (by kernel_rfl) (by kernel_rfl) (by kernel_rfl) (fun _ _ _ h => h) (by rfl) hHeld (fun w hSw => ?_) ?_
      rotate_left
      · (try dsimp only at hSw)
        go_simp
        with_reducible rfl
      go_frame
      refine held_yes (o := ⟨some 32, _, _, _, _, _⟩) (v := ?_) 1 rfl (by kernel_rfl) (by kernel_rfl) (by kernel_rfl) (fun _ _ _ h => h) (by rfl) hHeld (fun w hSw => ?_) ?_
      rotate_left
      · (try dsimp only at hSw)
        go_simp
        with_reducible rfl
      go_frame
      refine held_one (o := ⟨some 33, _, _, _, _, _⟩) 2 (by kernel_rfl) rfl (by rfl) (fun K hK => ?_)
      go_simp
      go_at_call 49
      refine (zero_any _).mono ?_
      rintro e w5 ⟨rfl, kz, b5⟩
      have BL5 := (Below_drawn (Below.refl wr.heap.size wr) 1).trans b5
      have kr5 := kr.below BL5 kr.lt
      have k75 := k7.below BL5 k7.lt
      have cc5 := kr5.cell k
      have ff5 := kr5.free k
      rw [HROW.out] at cc5
      have q5 : w5.cell? ⟨w2.heap.size + 1 + 1, 0, none⟩ = some (.slice (some ⟨w2.heap.size + 1, 0, none⟩) m m) := k75.cell 0
      go_wp2_with fail
      refine hK.out _ _ ?_ (fun hH2 => ?_)
      · first | exact q5 | (rw [World.cell?_setCell_ne]; exact q5; simp) | (exact (World.cell?_of_block (w := w5) (Below.heap_setCell _ ⟨w2.heap.size + 1, k, none⟩ _ _ (by simp))).trans q5)
      clear hHeld hK K
      have hHeld := hH2
      clear hH2
      try go_frame
      refine held_yes (o := ⟨some 34, _, _, _, _, _⟩) (v := ?_) 3 rfl (by kernel_rfl) (by kernel_rfl) (by kernel_rfl) (fun _ _ _ h => h) (by rfl) hHeld (fun w hSw => ?_) ?_
      rotate_left
      · (try dsimp only at hSw)
        go_simp
        with_reducible rfl
      go_frame
      refine held_one (o := ⟨none, _, _, _, _, _⟩) 4 (by kernel_rfl) rfl (by rfl) (fun K hK => ?_)
      go_simp
      refine hK.out _ _ ?_ (fun hH2 => ?_)
      · first | exact q5 | (rw [World.cell?_setCell_ne]; exact q5; simp) | (exact (World.cell?_of_block (w := w5) (Below.heap_setCell _ ⟨w2.heap.size + 1, k, none⟩ _ _ (by simp))).trans q5)
      clear hHeld hK K
      have hHeld := hH2
      clear hH2
      try go_frame
      refine wpAnyH_done (by kernel_rfl) ?_ _
      have kk6 := kr5.put k (.slice (some ⟨wr.heap.size, 0, none⟩) 256 256)
      rw [(HSET _).out] at kk6
      have ow5 : OW w5 (w2.heap.size + 1 + 1 + 1) vs (List.replicate k (zs 256)) := ow.keep fun b h1 h2 => BL5.block b h2
      have how5 : w5.ownsRow (w2.heap.size + 1 + 1 + 1) 5 1 (.slice (some ⟨wr.heap.size, 0, none⟩) 256 256) (zs 256).length ((zs 256).map bv) := by
        have := kz.own (B := w2.heap.size + 1 + 1 + 1) (by show _ ≤ wr.heap.size; omega) (by rw [zs_len]; simp [maxLen])
        rw [zs_len] at this ⊢
        exact this
      have V6 : OW (w5.setCell ⟨w2.heap.size + 1, k, none⟩ (.slice (some ⟨wr.heap.size, 0, none⟩) 256 256)) (w2.heap.size + 1 + 1 + 1) (vs ++ [.slice (some ⟨wr.heap.size, 0, none⟩) 256 256]) (List.replicate (k + 1) (zs 256)) := by
        rw [List.replicate_succ']
        exact (ow5.append (OW.one how5)).keep fun b h1 h2 => Below.heap_setCell _ ⟨w2.heap.size + 1, k, none⟩ _ b (by show b ≠ w2.heap.size + 1; omega)
      have k66 := (k6.below BL5 k6.lt).keep (w' := w5.setCell ⟨w2.heap.size + 1, k, none⟩ (.slice (some ⟨wr.heap.size, 0, none⟩) 256 256)) (Below.heap_setCell _ ⟨w2.heap.size + 1, k, none⟩ _ _ (by show w2.heap.size ≠ w2.heap.size + 1; omega))
      have k76 := k75.keep (w' := w5.setCell ⟨w2.heap.size + 1, k, none⟩ (.slice (some ⟨wr.heap.size, 0, none⟩) 256 256)) (Below.heap_setCell _ ⟨w2.heap.size + 1, k, none⟩ _ _ (by show w2.heap.size + 1 + 1 ≠ w2.heap.size + 1; omega))
      have B6 := (bl.trans (BL5.mono hs1)).setCell (p := ⟨w2.heap.size + 1, k, none⟩) (by show _ ≤ w2.heap.size + 1; omega) (.slice (some ⟨wr.heap.size, 0, none⟩) 256 256)
      clear hHeld HSET HROW kr5 k75 cc5 ff5 q5 kz BL5 ow5 how5 kr ow k6 k7 bl
      go_wp2_with fail
      go_roundw
      case rel => exact ⟨k + 1, _, by omega, by go_num, by rw [List.length_append, HVL.out]; rfl, kk6, V6, k66, k76, B6⟩
      case measure => simp [intOf]; omega
    · obtain rfl : k = m := by omega
      rw [Nat.sub_self, List.replicate_zero, List.append_nil] at kr
      have hls : LS wr (fun b => w2.heap.size ≤ b ∧ b < wr.heap.size) (.slice (some ⟨w2.heap.size + 1, 0, none⟩) (List.replicate k (zs 256)).length (List.replicate k (zs 256)).length) (List.replicate k (zs 256)) :=
        LS_of_kb kr ow.reads (fun b hb => ⟨by omega, hb.2⟩) ⟨by omega, kr.lt⟩ (by rw [hvl]; simp [maxLen]; omega)
      rw [List.length_replicate] at hls
      have hzl : List.replicate k (zs 256) = (entriesL ps).map fun _ => zs 256 := by rw [HM.out]; exact List.map_const'.symm
      rw [hzl] at hls
      have BLr := B2.trans (bl.mono B2.size)
      have hs2 := B2.size
      have B4 := (Below.refl wr.heap.size wr).alloc (Nat.le_refl _) (.cells ((comFs w.heap.size (w.heap.size + 1) w2.heap.size (w2.heap.size + 1 + 1)).map fnV).toArray 43)
      have BL4 := BLr.trans (B4.mono BLr.size)
      have hlm : LG w lg p n false := hg
      have hcn : CN p ⟨wr.heap.size, w.heap.size, w.heap.size + 1, w2.heap.size, w2.heap.size + 1 + 1, lg⟩ := ⟨HNQ.out _ BLr.size, HNQ.out _ (Nat.le_refl _), HNQ.out _ (by show _ ≤ w.heap.size + 1; omega), HNQ.out _ hs2, HNQ.out _ (by show _ ≤ w2.heap.size + 1 + 1; omega), hgp, htp⟩
      have hs4 := BL4.size
      have hcc : CC w (wr.alloc (.cells ((comFs w.heap.size (w.heap.size + 1) w2.heap.size (w2.heap.size + 1 + 1)).map fnV).toArray 43)) p ⟨wr.heap.size, w.heap.size, w.heap.size + 1, w2.heap.size, w2.heap.size + 1 + 1, lg⟩ n ps (.slice A ps.length c) (.slice AL k cL) (.slice (some ⟨w2.heap.size + 1, 0, none⟩) k k) := by
        refine ⟨KB.new _ _ _, (k22.below bl k22.lt).alloc _, (k32.below bl k32.lt).alloc _, k6.alloc _, k7.alloc _, hg.below BL4, ht.below BL4, ?_, ?_, ?_, KeepP.of_below BL4 fun x hx => hx.1⟩
        · exact HH.out.off_below BL4
        · exact (hL.keep (w' := wr.alloc (.cells ((comFs w.heap.size (w.heap.size + 1) w2.heap.size (w2.heap.size + 1 + 1)).map fnV).toArray 43)) (Nat.le_trans bl.size B4.size) fun b _ hb => (B4.block b (Nat.lt_of_lt_of_le hb bl.size)).trans (bl.block b hb)).mono fun b sb => by
            rcases sb with sb | sb
            · exact ⟨Nat.lt_of_lt_of_le sb.1.1 hs4, sb.1.2⟩
            · exact ⟨by have := bl.size; have := B4.size; omega, HNQ.out b (by have := B1.size; omega)⟩
        · exact (hls.below' B4).mono fun b sb => ⟨Nat.lt_of_lt_of_le sb.2 B4.size, HNQ.out b (by omega)⟩
      have hst := HST.out _ _ _ _ hcn hcc (hd.below BL4)
      have HCN := Lib.hid hcn
      have hsw := B1.size
      dsimp only at hst
      clear hcc hcn HST HENT hls hzl kr ow k6 k7 hL k22 k32 hvl B4 BL4 BLr
      go_wp2_with fail
      refine hst.mono ?_
      rintro e w5 ⟨x, rfl, h1x, h2x⟩
      have hfin : CC w w5 p ⟨wr.heap.size, w.heap.size, w.heap.size + 1, w2.heap.size, w2.heap.size + 1 + 1, lg⟩ n ps (.slice A ps.length c) (.slice AL k cL) (.slice (some ⟨w2.heap.size + 1, 0, none⟩) k k) ∧ x = (commitD ps s).2 ∧ DS w5 p (commitD ps s).1 := by
        by_cases hx : x = 0
        · obtain ⟨cc, t, d, _, hseq⟩ := h1x hx
          have e5 : (t, (0 : Int)) = commitD ps s := hseq
          rw [← e5]
          exact ⟨cc, hx, d⟩
        · exact h2x hx
      obtain ⟨cc, hx, d⟩ := hfin
      have q2 : w5.cell? ⟨w.heap.size, 0, none⟩ = some (.pointer (some ⟨lg, 0, none⟩)) := cc.k2.cell 0
      have q3 : w5.cell? ⟨lg, 2, none⟩ = some (.bool false) := cc.lg.c2
      have f3 : w5.frozen? ⟨lg, 2, none⟩ = false := KB.free cc.lg 2
      have HCC := Lib.hid cc
      have HX := Lib.hid hx
      have HD := Lib.hid d
      clear h1x h2x hst cc hx d
      go_wp2_with fail
      go_ret
      have hk := KB.put HCC.out.lg 2 (.bool (x != 0))
      have hxx : decide (x ≠ 0) = (x != 0) := by by_cases h0 : x = 0 <;> simp [h0]
      refine ⟨by rw [← HX.out]; rfl, HD.out.keep fun y hy => Below.heap_setCell _ ⟨lg, 2, none⟩ _ y (fun e => hgp (by have e' : y = lg := e; rw [← e']; exact hy)), by rw [← HX.out, hxx]; exact hk, (HCC.out.kp.mono fun y hy => hy.1).set ⟨lg, 2, none⟩ (fun h => h.2 rfl) _⟩
end
end Go.Proofs.YtgoifhpinoodgaaDoor
end
