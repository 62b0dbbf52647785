/-
  WbC: The document's own Done (layer 10), over the loaded program: its contract. No condition but what it names.
-/
import Derived.Test.YtgoifhpinoodgaaDoorWo36

section
namespace Go.Proofs.YtgoifhpinoodgaaDoor
open Go.RowKit
set_option maxRecDepth 100000
set_option linter.unusedVariables false

/-- Block g is a row of slices, of which the first ones are vs. -/
def RowOf (w : World) (g c : Nat) (vs : List Value) : Prop := ∃ cur : List Value, KB w g 34 cur.toArray ∧ cur.take vs.length = vs ∧ vs.length ≤ c ∧ c ≤ maxLen
section
variable {w w' : World} {g c B n : Nat} {vs : List Value}
theorem RowOf.of {v : Value} (h : w.ownsRow B 34 1 v vs.length vs) (h0 : 0 < vs.length) : ∃ g c, v = .slice (some ⟨g, 0, none⟩) vs.length c ∧ B ≤ g ∧ v.ownBlock = some g ∧ RowOf w g c vs := by
  obtain ⟨_, h2⟩ := h
  rcases h2 with ⟨_, h1⟩ | ⟨g, cap, cur, rfl, hb, hg, hnc, hcm, hcs, htk⟩
  · omega
  · exact ⟨g, cap, rfl, hb, rfl, cur.toList, by simpa [KB] using hg, by simpa using htk, hnc, hcm⟩
theorem RowOf.lt (h : RowOf w g c vs) : g < w.heap.size := by obtain ⟨cur, k, _⟩ := h; exact k.lt
theorem RowOf.below (h : RowOf w g c vs) (hb : Below w.heap.size w w') : RowOf w' g c vs := by
  obtain ⟨cur, k, r⟩ := h
  exact ⟨cur, k.below hb k.lt, r⟩
theorem RowOf.cell (h : RowOf w g c vs) (i : Nat) (hi : i < vs.length) : w.cell? ⟨g, i, none⟩ = some vs[i] := by
  obtain ⟨cur, k, e, _⟩ := h
  rw [k.cell, List.getElem?_toArray]
  have := congrArg (fun l => l[i]?) e
  simp only [List.getElem?_take] at this
  rw [if_pos hi, List.getElem?_eq_getElem hi] at this
  exact this
theorem RowOf.free (h : RowOf w g c vs) (i : Nat) : w.frozen? ⟨g, i, none⟩ = false := by
  obtain ⟨cur, k, _⟩ := h
  exact k.free i
theorem RowOf.set (h : RowOf w g c vs) (i : Nat) (u : Value) : RowOf (w.setCell ⟨g, i, none⟩ u) g c (vs.set i u) := by
  obtain ⟨cur, k, e, h1, h2⟩ := h
  refine ⟨cur.set i u, ?_, ?_, by simpa using h1, h2⟩
  · have := k.put i u
    rwa [List.setIfInBounds_toArray] at this
  · rw [List.length_set, List.take_set, e]
theorem RowOf.ls {S S' : Nat → Prop} {ls : List (List UInt8)} (h : RowOf w g c vs) (hv : VS w S vs ls) (hS : ∀ b, S b → S' b) (hg : S' g) : LS w S' (.slice (some ⟨g, 0, none⟩) ls.length c) ls := by
  obtain ⟨cur, k, e, h1, h2⟩ := id h
  refine ⟨_, c, rfl, by rw [← hv.1]; exact h1, h2, fun h0 => ⟨g, 0, rfl, hg, h.lt, fun j l hj => ?_⟩⟩
  have hjl := (List.getElem?_eq_some_iff.1 hj).1
  have hjv : j < vs.length := by rw [hv.1]; exact hjl
  refine ⟨vs[j], ?_, (hv.2 j vs[j] l (List.getElem?_eq_getElem hjv) hj).mono hS⟩
  rw [Nat.zero_add]
  exact h.cell j hjv
theorem VS.set {S : Nat → Prop} {ls : List (List UInt8)} {u : Value} {l : List UInt8} (h : VS w S vs ls) (hu : BS w S u l) (i : Nat) : VS w S (vs.set i u) (ls.set i l) := by
  refine ⟨by rw [List.length_set, List.length_set, h.1], fun j v m hv hm => ?_⟩
  rw [List.getElem?_set] at hv hm
  by_cases e : i = j
  · subst e
    rw [if_pos rfl] at hv hm
    split at hv
    · split at hm
      · obtain rfl := Option.some.inj hv
        obtain rfl := Option.some.inj hm
        exact hu
      · cases hm
    · cases hv
  · rw [if_neg e] at hv hm
    exact h.2 j v m hv hm
end

/-- An image behind patches. -/
def doneL (ls : List (List UInt8)) (ps : List Pt) : List (List UInt8) := ps.foldl (fun acc v => acc.set v.1.toNat v.2) ls
theorem doneL_len : ∀ (ps : List Pt) (ls : List (List UInt8)), (doneL ls ps).length = ls.length
  | [], _ => rfl
  | p :: r, ls => by
    show (doneL (ls.set p.1.toNat p.2) r).length = _
    rw [doneL_len r, List.length_set]
theorem doneL_at : ∀ (ps : List Pt) (ls : List (List UInt8)) (i : Nat), i < ls.length → (doneL ls ps)[i]? = some (lastP ps i (ls.getD i []))
  | [], ls, i, h => by
    show ls[i]? = some (ls.getD i [])
    rw [List.getElem?_eq_getElem h]
    rw [List.getD_eq_getElem?_getD, List.getElem?_eq_getElem h]
    rfl
  | p :: r, ls, i, h => by
    show (doneL (ls.set p.1.toNat p.2) r)[i]? = _
    rw [doneL_at r _ i (by rw [List.length_set]; exact h)]
    show some (lastP r i ((ls.set p.1.toNat p.2).getD i [])) = some (lastP r i (if p.1.toNat = i then p.2 else ls.getD i []))
    congr 2
    rw [List.getD_eq_getElem?_getD, List.getElem?_set, List.getD_eq_getElem?_getD]
    by_cases e : p.1.toNat = i
    · rw [if_pos e, if_pos e]
      subst e
      rw [if_pos h]
      rfl
    · rw [if_neg e, if_neg e]
theorem doneL_succ {ps : List Pt} {k : Nat} {a : Int} {l : List UInt8} (h : ps[k]? = some (a, l)) (ls : List (List UInt8)) : doneL ls (ps.take (k + 1)) = (doneL ls (ps.take k)).set a.toNat l := by
  unfold doneL
  rw [List.take_add_one, h, List.foldl_append]
  rfl

/-- What Done hands back: a row of its own, and sectors of their own. -/
def DoneAs (w : World) (L : List (List UInt8)) (e : Ending) (w' : World) : Prop :=
  ∃ g cg vs, e = .returned (.slice (some ⟨g, 0, none⟩) L.length cg) ∧ w.heap.size ≤ g ∧ RowOf w' g cg vs ∧ VS w' (fun x => w.heap.size ≤ x ∧ x < w'.heap.size ∧ x ≠ g) vs L ∧ Below w.heap.size w w'
theorem DoneAs.ls {w w' : World} {L : List (List UInt8)} {e : Ending} (h : DoneAs w L e w') : ∃ v', e = .returned v' ∧ LS w' (fun x => w.heap.size ≤ x ∧ x < w'.heap.size) v' L ∧ Below w.heap.size w w' := by
  obtain ⟨g, cg, vs, rfl, hg, hr, hv, bl⟩ := h
  exact ⟨_, rfl, hr.ls hv (fun x hx => ⟨hx.1, hx.2.1⟩) ⟨hg, hr.lt⟩, bl⟩

set_option maxHeartbeats 4000000 in
/-- Done. -/
theorem rdone_row (S S' : Nat → Prop) (x y : Value) (ls : List (List UInt8)) (ps : List Pt) (w : World) (hx : LS w S x ls) (hy : PS w S' y ps) (h0 : 0 < ls.length) (hl : ls.length ≤ 1000000) (hb : ∀ l ∈ ls, l.length ≤ 100000000) (hp : ∀ q ∈ ps, 0 ≤ q.1 ∧ q.1 < (ls.length : Int) ∧ q.2.length ≤ 100000000) :
    Calls Tryd.prog 37 #[x, y] w (DoneAs w (doneL ls ps)) := by
  obtain ⟨A, c, rfl, hc, hcm⟩ := hx.form
  obtain ⟨A2, c2, rfl, hc2, hcm2, _⟩ := hy.form
  have hlen : ls.length ≤ 9223372036854775807 := by omega
  have hlen2 : ps.length ≤ 9223372036854775807 := by unfold maxLen at hcm2; omega
  obtain ⟨R, hR⟩ : ∃ R, R = doneL ls ps := ⟨_, rfl⟩
  have HR := Lib.hid hR
  rw [← hR]
  have HX := Lib.hid hx
  have HY := Lib.hid hy
  have HB : Hid (∀ (k : Nat) (l : List UInt8), ls[k]? = some l → l.length ≤ 140737488355328) := fun k l h => by have := hb l (List.mem_of_getElem? h); omega
  have HP : Hid (∀ (k : Nat) (a : Int) (l : List UInt8), ps[k]? = some (a, l) → 0 ≤ a ∧ a < (ls.length : Int) ∧ l.length ≤ 140737488355328) := fun k a l h => by have := hp _ (List.mem_of_getElem? h); exact ⟨this.1, this.2.1, by have := this.2.2; dsimp only at this; omega⟩
  clear hR hx hy hb hp
  go_enter Tryd.func37, Tryd.ntmps37
  go_wp2
  go_loopw [5, 6] (fun ov iv wr => ∃ (k : Nat) (vs : List Value), k ≤ ls.length ∧ iv = .int .i64 k ∧ wr.ownsRow w.heap.size 34 1 ov vs.length vs ∧ VS wr (MineO (fun _ => False) w.heap.size ov wr) vs (ls.take k) ∧ Below w.heap.size w wr) (fun _ iv _ => ls.length - (intOf iv).toNat)
  case atStart => exact ⟨0, [], by omega, rfl, World.ownsRow_nil _ _ _ _, ⟨rfl, fun i v l hv _ => by simp at hv⟩, Below.refl _ _⟩
  case round =>
    obtain ⟨k, vs, hk, rfl, how, vv, bl⟩ := hrel
    by_cases hlt : k < ls.length
    · obtain ⟨b, o, rfl, _, hb, h1⟩ := (HX.out.below' bl).at_ (by omega)
      obtain ⟨l, hv⟩ : ∃ l, ls[k]? = some l := ⟨_, List.getElem?_eq_getElem hlt⟩
      obtain ⟨X, z, k0, bs⟩ := h1 k l hv
      have hcp := copy_any _ _ l wr bs (HB.out k l hv)
      have HT : Hid (ls.take (k + 1) = ls.take k ++ [l]) := by show _ = _; rw [List.take_add_one, hv]; rfl
      have HVL : Hid (vs.length + 1 ≤ 1000000000) := by show _ ≤ _; have := vv.1; rw [List.length_take] at this; omega
      clear h1 hv bs
      go_wp2_with fail
      refine hcp.mono ?_
      rintro e w3 ⟨v3, rfl, how3, b3⟩
      have hs := bl.size
      have B3 := bl.trans (b3.mono hs)
      have bs3 := own_BS how3
      obtain ⟨A3, c3, rfl, _⟩ := bs3.form
      have vv3 := (vv.mine b3).append (VS.one (bs3.mono (S' := MineO (fun _ => False) w.heap.size u5 w3) fun x hx => .inr ⟨by omega, hx.2, fun e => by have := own_lt how e; omega⟩))
      rw [← HT.out] at vv3
      have how3' := own_past b3 how
      have hat := onev_at w3 34 (.slice A3 l.length c3)
      have B4 := (Below.refl w3.heap.size w3).alloc (Nat.le_refl _) (.cells #[.slice A3 l.length c3] 34)
      have how4 := own_past B4 how3'
      have vv4 := vv3.mine B4
      have BL4 := B3.trans (B4.mono B3.size)
      have hs4 := BL4.size
      clear hcp how3 b3 bs3 vv3 vv how how3' B4 HT k0
      go_wp2_with (at_builtin; refine wpList_growL _ rfl _ _ rfl w.heap.size u5 vs rfl how4 ⟨w3.heap.size, 0, none⟩ 1 1 [.slice A3 l.length c3] rfl rfl hat (by intro u hu; simp at hu; subst hu; rfl) HVL.out hs4 ?_; intro v5 w5 how5 g5 ho5)
      go_roundw
      case rel => exact ⟨k + 1, _, by omega, by go_num, how5, vv4.minegrow how4 g5 ho5 hs4, BL4.grown g5 hs4 fun g e => own_ge how4 g e⟩
      case measure => simp [intOf]; omega
    · obtain rfl : k = ls.length := by omega
      rw [List.take_length] at vv
      have hvl := vv.1
      obtain ⟨g, cg, hov, hgB, hgo, row⟩ := RowOf.of how (by omega)
      have vs0 : VS wr (fun x => w.heap.size ≤ x ∧ x < wr.heap.size ∧ x ≠ g) vs ls := vv.mono fun x hx => by
        rcases hx with hx | hx
        · exact absurd hx.1 id
        · exact ⟨hx.1, hx.2.1, fun e => hx.2.2 (by rw [hgo, e])⟩
      subst hov
      have HVL0 := Lib.hid hvl
      rw [hvl]
      clear vv how hgo hvl
      go_wp2_with fail
      go_loopw [7] (fun iv wr => ∃ (k : Nat) (vs : List Value), k ≤ ps.length ∧ iv = .int .i64 k ∧ Hid (vs.length = ls.length) ∧ RowOf wr g cg vs ∧ VS wr (fun x => w.heap.size ≤ x ∧ x < wr.heap.size ∧ x ≠ g) vs (doneL ls (ps.take k)) ∧ Below w.heap.size w wr) (fun iv _ => ps.length - (intOf iv).toNat)
      case atStart => exact ⟨0, vs, by omega, rfl, HVL0, row, vs0, bl⟩
      case round =>
        clear row vs0 bl HVL0
        obtain ⟨k, vs, hk, rfl, HVL, hrow, hvs, bl⟩ := hrel
        by_cases hlt : k < ps.length
        · obtain ⟨bp, op, rfl, _, hbp, h1⟩ := (HY.out.below' bl).at_ (by omega)
          obtain ⟨⟨a, lB⟩, hv⟩ : ∃ q, ps[k]? = some q := ⟨_, List.getElem?_eq_getElem hlt⟩
          obtain ⟨k0, XB, zB, k1, hbs⟩ := h1 k _ hv
          obtain ⟨p0, p1, p2⟩ := HP.out k a lB hv
          dsimp only at k0 k1 hbs
          obtain ⟨iA, rfl⟩ := Int.eq_ofNat_of_zero_le p0
          have HT := Lib.hid (doneL_succ hv ls)
          rw [Int.toNat_natCast] at HT
          have hcp := fun (W : World) (h : BS W S' (.slice XB lB.length zB) lB) => copy_any _ _ lB W h p2
          have hiA : iA < vs.length := by have := HVL.out; omega
          have hgp : bp ≠ g := by
            intro e
            obtain ⟨b', o', ea, _, hb', _⟩ := HY.out.at_ (by omega)
            injection ea with ea
            injection ea with ea
            omega
          clear h1 hv p0
          go_wp2_with fail
          refine wp_region_held_drew (S := (fun W => W.cell? ⟨bp, op + k * 2, none⟩ = some (.int .i64 (iA : Int)) ∧ W.cell? ⟨bp, op + k * 2 + 1, none⟩ = some (.slice XB lB.length zB))) (by kernel_rfl) ⟨k0, k1⟩ (fun hHeld => ?_)
          refine held_yes (o := ⟨some 28, _, _, _, _, _⟩) (v := ?_) 0 rfl (by kernel_rfl) (by kernel_rfl) (by kernel_rfl) (fun _ _ _ h => h) (by rfl) hHeld (fun w hSw => ?_) ?_
          rotate_left
          · (try dsimp only at hSw)
            go_simp
            with_reducible rfl
          go_frame
          refine held_yes (o := ⟨some 29, _, _, _, _, _⟩) (v := ?_) 1 rfl (by kernel_rfl) (by kernel_rfl) (by kernel_rfl) (fun _ _ _ h => h) (by rfl) hHeld (fun w hSw => ?_) ?_
          rotate_left
          · (try dsimp only at hSw)
            go_simp
            with_reducible rfl
          go_frame
          refine held_yes (o := ⟨some 30, _, _, _, _, _⟩) (v := ?_) 2 rfl (by kernel_rfl) (by kernel_rfl) (by kernel_rfl) (fun _ _ _ h => h) (by rfl) hHeld (fun w hSw => ?_) ?_
          rotate_left
          · (try dsimp only at hSw)
            go_simp
            with_reducible rfl
          go_frame
          refine held_yes (o := ⟨some 31, _, _, _, _, _⟩) (v := ?_) 3 rfl (by kernel_rfl) (by kernel_rfl) (by kernel_rfl) (fun _ _ _ h => h) (by rfl) hHeld (fun w hSw => ?_) ?_
          rotate_left
          · (try dsimp only at hSw)
            go_simp
            with_reducible rfl
          go_frame
          refine held_yes (o := ⟨some 32, _, _, _, _, _⟩) (v := ?_) 4 rfl (by kernel_rfl) (by kernel_rfl) (by kernel_rfl) (fun _ _ _ h => h) (by rfl) hHeld (fun w hSw => ?_) ?_
          rotate_left
          · (try dsimp only at hSw)
            go_simp
            with_reducible rfl
          go_frame
          refine held_yes (o := ⟨some 33, _, _, _, _, _⟩) (v := ?_) 5 rfl (by kernel_rfl) (by kernel_rfl) (by kernel_rfl) (fun _ _ _ h => h) (by rfl) hHeld (fun w hSw => ?_) ?_
          rotate_left
          · (try dsimp only at hSw)
            go_simp
            with_reducible rfl
          go_frame
          refine held_yes (o := ⟨some 34, _, _, _, _, _⟩) (v := ?_) 6 rfl (by kernel_rfl) (by kernel_rfl) (by kernel_rfl) (fun _ _ _ h => h) (by rfl) hHeld (fun w hSw => ?_) ?_
          rotate_left
          · (try dsimp only at hSw)
            go_simp
            with_reducible rfl
          go_frame
          refine held_yes (o := ⟨some 35, _, _, _, _, _⟩) (v := ?_) 7 rfl (by kernel_rfl) (by kernel_rfl) (by kernel_rfl) (fun _ _ _ h => h) (by rfl) hHeld (fun w hSw => ?_) ?_
          rotate_left
          · (try dsimp only at hSw)
            go_simp
            with_reducible rfl
          go_frame
          refine held_yes (o := ⟨some 36, _, _, _, _, _⟩) (v := ?_) 8 rfl (by kernel_rfl) (by kernel_rfl) (by kernel_rfl) (fun _ _ _ h => h) (by rfl) hHeld (fun w hSw => ?_) ?_
          rotate_left
          · (try dsimp only at hSw)
            go_simp
            with_reducible rfl
          go_frame
          refine held_yes (o := ⟨some 37, _, _, _, _, _⟩) (v := ?_) 9 rfl (by kernel_rfl) (by kernel_rfl) (by kernel_rfl) (fun _ _ _ h => h) (by rfl) hHeld (fun w hSw => ?_) ?_
          rotate_left
          · (try dsimp only at hSw)
            go_simp
            with_reducible rfl
          go_frame
          refine held_yes (o := ⟨some 38, _, _, _, _, _⟩) (v := ?_) 10 rfl (by kernel_rfl) (by kernel_rfl) (by kernel_rfl) (fun _ _ _ h => h) (by rfl) hHeld (fun w hSw => ?_) ?_
          rotate_left
          · (try dsimp only at hSw)
            go_simp
            with_reducible rfl
          go_frame
          refine held_one (o := ⟨some 39, _, _, _, _, _⟩) 11 (by kernel_rfl) rfl (by rfl) (fun K hK => ?_)
          go_simp
          go_at_call 28
          refine (hcp _ (hbs.drewN 1)).mono ?_
          rintro e w5 ⟨v5, rfl, how5, b5⟩
          have BL5 := (Below_drawn (Below.refl wr.heap.size wr) 1).trans b5
          have rw5 := hrow.below BL5
          have cc5 := rw5.cell iA hiA
          have ff5 := rw5.free iA
          have bs5 := own_BS how5
          obtain ⟨A5, c5, rfl, _⟩ := bs5.form
          have q5 : w5.cell? ⟨bp, op + k * 2, none⟩ = some (.int .i64 (iA : Int)) ∧ w5.cell? ⟨bp, op + k * 2 + 1, none⟩ = some (.slice XB lB.length zB) := ⟨(World.cell?_of_block (w := wr) (BL5.block _ hbp)).trans k0, (World.cell?_of_block (w := wr) (BL5.block _ hbp)).trans k1⟩
          go_wp2_with fail
          refine hK.out _ _ ?_ (fun hH2 => ?_)
          · first | exact q5 | exact ⟨(World.cell?_of_block (w := w5) (Below.heap_setCell _ ⟨g, iA, none⟩ _ _ hgp)).trans q5.1, (World.cell?_of_block (w := w5) (Below.heap_setCell _ ⟨g, iA, none⟩ _ _ hgp)).trans q5.2⟩
          clear hHeld hK K
          have hHeld := hH2
          clear hH2
          try go_frame
          refine held_yes (o := ⟨some 40, _, _, _, _, _⟩) (v := ?_) 12 rfl (by kernel_rfl) (by kernel_rfl) (by kernel_rfl) (fun _ _ _ h => h) (by rfl) hHeld (fun w hSw => ?_) ?_
          rotate_left
          · (try dsimp only at hSw)
            go_simp
            with_reducible rfl
          go_frame
          refine held_one (o := ⟨none, _, _, _, _, _⟩) 13 (by kernel_rfl) rfl (by rfl) (fun K hK => ?_)
          go_simp
          refine hK.out _ _ ?_ (fun hH2 => ?_)
          · first | exact q5 | exact ⟨(World.cell?_of_block (w := w5) (Below.heap_setCell _ ⟨g, iA, none⟩ _ _ hgp)).trans q5.1, (World.cell?_of_block (w := w5) (Below.heap_setCell _ ⟨g, iA, none⟩ _ _ hgp)).trans q5.2⟩
          clear hHeld hK K
          have hHeld := hH2
          clear hH2
          try go_frame
          refine wpAnyH_done (by kernel_rfl) ?_ _
          have bsF := bs5
          have hs := bl.size
          have BL := bl.trans (BL5.mono hs)
          have row6 := rw5.set iA (.slice A5 lB.length c5)
          have vs5 : VS w5 (fun x => w.heap.size ≤ x ∧ x < w5.heap.size ∧ x ≠ g) vs (doneL ls (ps.take k)) := (hvs.below' BL5).mono fun x hx => ⟨hx.1, Nat.lt_of_lt_of_le hx.2.1 BL5.size, hx.2.2⟩
          have vs6 := vs5.set (bsF.mono (S' := fun x => w.heap.size ≤ x ∧ x < w5.heap.size ∧ x ≠ g) fun x hx => ⟨by have : wr.heap.size ≤ x := hx.1; omega, hx.2, fun e => by have := hrow.lt; have : wr.heap.size ≤ x := hx.1; omega⟩) iA
          rw [← HT.out] at vs6
          have vs7 := vs6.keep (w' := w5.setCell ⟨g, iA, none⟩ (.slice A5 lB.length c5)) (by simp [World.setCell]) fun b hb _ => Below.heap_setCell _ ⟨g, iA, none⟩ _ b hb.2.2
          have B6 := BL.setCell (p := ⟨g, iA, none⟩) hgB (.slice A5 lB.length c5)
          have HVL2 : Hid ((vs.set iA (.slice A5 lB.length c5)).length = ls.length) := by show _ = _; rw [List.length_set]; exact HVL.out
          clear hHeld hcp how5 b5 cc5 ff5 bs5 q5 rw5 vs5 vs6 bsF BL hbs hvs hrow BL5 k0 k1
          go_wp2_with fail
          go_roundw
          case rel => exact ⟨k + 1, _, by omega, by go_num, HVL2, row6, vs7.mono fun x hx => ⟨hx.1, by simp [World.setCell]; exact hx.2.1, hx.2.2⟩, B6⟩
          case measure => simp [intOf]; omega
        · obtain rfl : k = ps.length := by omega
          rw [List.take_length, ← HR.out] at hvs
          have hrl : R.length = ls.length := by rw [HR.out, doneL_len]
          rw [← hrl]
          clear HR hrl HVL
          go_wp2_with fail
          go_ret
          exact ⟨g, cg, vs, rfl, hgB, hrow, hvs, bl⟩
theorem rdone_any (S S' : Nat → Prop) (x y : Value) (ls : List (List UInt8)) (ps : List Pt) (w : World) (hx : LS w S x ls) (hy : PS w S' y ps) (h0 : 0 < ls.length) (hl : ls.length ≤ 1000000) (hb : ∀ l ∈ ls, l.length ≤ 100000000) (hp : ∀ q ∈ ps, 0 ≤ q.1 ∧ q.1 < (ls.length : Int) ∧ q.2.length ≤ 100000000) :
    Calls Tryd.prog 37 #[x, y] w fun e w' => ∃ v', e = .returned v' ∧ LS w' (fun x => w.heap.size ≤ x ∧ x < w'.heap.size) v' (doneL ls ps) ∧ Below w.heap.size w w' :=
  (rdone_row S S' x y ls ps w hx hy h0 hl hb hp).mono fun e w' h => h.ls
end Go.Proofs.YtgoifhpinoodgaaDoor
end
