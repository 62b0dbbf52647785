/-
  SuM: Names, over the loaded program: the document's Names: its contract. No condition but what each theorem names.
-/
import Derived.Test.YteddmnoeljakpaaGreatDoorSw43
import Derived.Test.YteddmnoeljakpaaGreatDoorSw12
import Derived.Sort.Walk0
set_option linter.unusedVariables false
set_option maxRecDepth 100000
namespace Go.Proofs.YteddmnoeljakpaaGreatDoor
section
open Go.RowKit Go.Sort
set_option maxHeartbeats 8000000 in
theorem rnames_any (S : Nat → Prop) (v : Value) (l : List Fi) (w : World) (h : FS w S v l) (hl : l.length ≤ 100000) :
  Calls Tryz.prog 55 #[v] w fun e w' => ∃ v', e = .returned v' ∧ w'.ownsRow w.heap.size 9 1 v' (namesL l).length ((namesL l).map strV) ∧ Below w.heap.size w w' := by
 obtain ⟨A, cp, rfl, hlc, hcm⟩ := h.form
 have hl63 : l.length ≤ 9223372036854775807 := by omega
 have HL := Lib.hid hl
 clear hl
 go_enter Tryz.func55, Tryz.ntmps55
 go_wp2
 go_loopw [3, 4] (fun v iv wr => ∃ (k : Nat) (P : List (List UInt8)), k ≤ l.length ∧ iv = .int .i64 (k : Int) ∧ P.length = k ∧ Hid (P.Pairwise (fun a b => leB a b = true) ∧ P.Perm ((l.take k).map (·.name))) ∧ wr.ownsRow w.heap.size 9 1 v P.length (P.map strV) ∧ Below w.heap.size w wr) (fun _ iv _ => l.length - (intOf iv).toNat)
 case atStart => exact ⟨0, [], by omega, rfl, rfl, ⟨List.Pairwise.nil, List.Perm.refl _⟩, World.ownsRow_nil _ _ _ _, Below.refl _ _⟩
 case round =>
  obtain ⟨k, P, hk, rfl, rfl, HP, how, bl⟩ := hrel
  by_cases hlt : P.length < l.length
  ·have hltI : (P.length : Int) < (l.length : Int) := by omega
   obtain ⟨b, o, rfl, sb, hbl, hx⟩ := h.at_ (by omega)
   obtain ⟨f, hf⟩ : ∃ f, l[P.length]? = some f := ⟨_, List.getElem?_eq_getElem hlt⟩
   have q0 := (World.cell?_of_block (w := w) (bl.block b hbl)).trans (hx P.length f hf).1
   obtain ⟨x, hxn⟩ : ∃ x, x = f.name := ⟨_, rfl⟩
   rw [← hxn] at q0
   have HX : Hid ((l.take (P.length + 1)).map (·.name) = (l.take P.length).map (·.name) ++ [x]) := by
    show _ = _
    obtain ⟨hk2, e⟩ := List.getElem?_eq_some_iff.1 hf
    rw [List.take_succ_eq_append_getElem hk2, e, List.map_append, hxn]
    rfl
   have HQL : Hid (P.length + 1 ≤ 1000000000) := by show _ ≤ _; have := HL.out; omega
   clear hx hf hxn
   obtain ⟨A1, c1, hv1, hc1, _⟩ := (CS.of_own how).form
   rw [List.length_map] at hv1 hc1
   subst hv1
   have B6 := (Below.refl wr.heap.size wr).alloc (Nat.le_refl _) (.cells #[strV x] 9)
   have how6 := own_past B6 how
   have BL6 := bl.trans (B6.mono bl.size)
   have hcx : (wr.alloc (.cells #[strV x] 9)).cell? ⟨wr.heap.size, 0, none⟩ = some (strV x) := (KB.new wr 9 #[strV x]).cell 0
   unfold strV at q0 hcx
   go_wp2_with (at_builtin; go_loud (refine wpList_growS _ rfl _ _ rfl w.heap.size (.slice A1 P.length c1) P rfl how6 ⟨wr.heap.size, 0, none⟩ 1 x rfl hcx HQL.out BL6.size ?_); intro v7 w7 how7 g7 ho7)
   have how8 : w7.ownsRow w.heap.size 9 1 v7 (P ++ [x]).length ((P ++ [x]).map strV) := by rw [List.length_append]; exact how7
   obtain ⟨g, c7, hv7, os⟩ := OS.of how8 (by simp)
   rw [List.length_append, show [x].length = 1 from rfl] at hv7
   subst hv7
   have BL7 := BL6.grown g7 BL6.size fun g e => own_ge how6 g e
   have hP1 : P.length + 1 ≤ 9223372036854775807 := by have := HQL.out; omega
   clear how6 how7 how8 g7 ho7 B6 BL6 hcx q0
   go_loopw [5] (fun kv wr => ∃ j : Nat, j ≤ P.length ∧ kv = .int .i64 (j : Int) ∧ OS wr w.heap.size g c7 (P.take j ++ x :: P.drop j) ∧ Hid (∀ y ∈ P.drop j, ¬ y ≤ x) ∧ Below w.heap.size w wr) (fun kv _ => (intOf kv).toNat)
   case atStart => exact ⟨P.length, Nat.le_refl _, rfl, by rw [List.take_length, List.drop_length]; exact os, (show ∀ y ∈ P.drop P.length, ¬ y ≤ x from fun y hy => by rw [List.drop_length] at hy; cases hy), BL7⟩
   case round =>
    clear os BL7
    obtain ⟨j, hj, rfl, os, HY, bl⟩ := hrel
    have BD : Below w.heap.size w wr.drew := Below_drawn bl 1
    have osD : OS wr.drew w.heap.size g c7 (P.take j ++ x :: P.drop j) := os.drewN 1
    have HBD := Lib.hid BD
    have HOS := Lib.hid osD
    have HLEN : Hid ((P.take j ++ x :: P.drop j).length = P.length + 1) := by show _ = _; rw [List.length_append, List.length_cons, List.length_take, List.length_drop]; omega
    have HPRM : Hid ((P.take j ++ x :: P.drop j).Perm ((l.take (P.length + 1)).map (·.name))) := by
     show List.Perm _ _
     rw [HX.out]
     have h1 : (P.take j ++ x :: P.drop j).Perm (P ++ [x]) := by
      have h2 : (P.take j ++ x :: P.drop j).Perm (x :: (P.take j ++ P.drop j)) := List.perm_middle
      rw [List.take_append_drop] at h2
      exact h2.trans (List.perm_append_singleton x P).symm
     exact h1.trans (List.Perm.append_right _ HP.out.2)
    by_cases h0 : 0 < j
    ·obtain ⟨i, hi⟩ : ∃ i, i + 1 = j := ⟨j - 1, by omega⟩
     obtain ⟨p, hp⟩ : ∃ p, P[i]? = some p := ⟨_, List.getElem?_eq_getElem (by omega)⟩
     obtain ⟨hsw, h1, h2⟩ := names_swap (x := x) hp
     rw [hi] at h1 h2 hsw
     have q1 := osD.cell h1
     have q2 := osD.cell h2
     have D : decide ((0 : Int) < (j : Int)) = true := decide_eq_true (by omega)
     have D' : decide (0 < j) = true := decide_eq_true h0
     have ew : IntKind.i64.wrap ((j : Int) - 1) = (i : Int) := by rw [IntKind.wrap_i64]; omega
     have hiI : (i : Int) < ((P.length : Int) + 1) := by omega
     have hjI : (j : Int) < ((P.length : Int) + 1) := by omega
     have HSW := Lib.hid hsw
     have HI := Lib.hid hi
     have HPP := Lib.hid hp
     unfold strV at q1 q2
     have HGE : Hid (w.heap.size ≤ g) := os.ge
     clear hsw h1 h2 hi hp h0 os osD BD
     by_cases hle : p ≤ x
     ·have HLE : Hid (∀ q, 0 < j → P[j - 1]? = some q → q ≤ x) := fun q _ hq => by
       rw [show j - 1 = i by have := HI.out; omega, HPP.out] at hq
       obtain rfl := Option.some.inj hq
       exact hle
      rcases List.le_iff_lt_or_eq.1 hle with hlt2 | heq
      ·have hb1 : Op.bytesLess p x = true := by rw [bytesLess_eq]; exact decide_eq_true hlt2
       clear hle hlt2
       go_wp2
       rename_i KK hKK
       have HKK := Lib.hid hKK
       clear hKK
       refine wp_region_held_drew (S := (fun W => W.cell? ⟨g, i, none⟩ = some (.string ⟨p.toArray⟩) ∧ W.cell? ⟨g, j, none⟩ = some (.string ⟨x.toArray⟩))) (by kernel_rfl) ⟨q1, q2⟩ (fun hHeld => ?_)
       refine hyY (some 22) 0 rfl hHeld ?_; go_frame
       refine hyY (some 23) 1 rfl hHeld ?_; go_frame
       refine hyY (some 24) 2 rfl hHeld ?_; go_frame
       refine hyY (some 25) 3 rfl hHeld ?_; go_frame
       refine hyY (some 26) 4 rfl hHeld ?_; go_frame
       refine hyY (some 27) 5 rfl hHeld ?_; go_frame
       refine hyY (some 28) 6 rfl hHeld ?_; go_frame
       refine hyY (some 29) 7 rfl hHeld ?_; go_frame
       refine hyY (some 30) 8 rfl hHeld ?_; go_frame
       refine hyY (some 31) 9 rfl hHeld ?_; go_frame
       refine hyY (some 32) 10 rfl hHeld ?_; go_frame
       refine hyY (some 33) 11 rfl hHeld ?_; go_frame
       refine hyY (some 34) 12 rfl hHeld ?_; go_frame
       refine hyY (some 35) 13 rfl hHeld ?_; go_frame
       refine wpAnyH_done (by kernel_rfl) ?_ _
       have hKK := HKK.out
       go_wp2
       go_roundw
       case rel => exact ⟨P.length + 1, P.take j ++ x :: P.drop j, by omega, by go_num, HLEN.out, ⟨names_in HP.out.1 HY.out HLE.out hj, HPRM.out⟩, by rw [show (Value.slice (some ⟨g, 0, none⟩) (P.length + 1) c7) = .slice (some ⟨g, 0, none⟩) (P.take j ++ x :: P.drop j).length c7 by rw [HLEN.out]]; exact HOS.out.own, HBD.out⟩
       case measure => simp [intOf]; omega
      ·have hb1 : (p == x) = true := by rw [heq]; exact beq_self_eq_true x
       clear hle heq
       go_wp2
       rename_i KK hKK
       have HKK := Lib.hid hKK
       clear hKK
       refine wp_region_held_drew (S := (fun W => W.cell? ⟨g, i, none⟩ = some (.string ⟨p.toArray⟩) ∧ W.cell? ⟨g, j, none⟩ = some (.string ⟨x.toArray⟩))) (by kernel_rfl) ⟨q1, q2⟩ (fun hHeld => ?_)
       refine hyY (some 22) 0 rfl hHeld ?_; go_frame
       refine hyY (some 23) 1 rfl hHeld ?_; go_frame
       refine hyY (some 24) 2 rfl hHeld ?_; go_frame
       refine hyY (some 25) 3 rfl hHeld ?_; go_frame
       refine hyY (some 26) 4 rfl hHeld ?_; go_frame
       refine hyY (some 27) 5 rfl hHeld ?_; go_frame
       refine hyY (some 28) 6 rfl hHeld ?_; go_frame
       refine hyY (some 29) 7 rfl hHeld ?_; go_frame
       refine hyY (some 30) 8 rfl hHeld ?_; go_frame
       refine hyY (some 31) 9 rfl hHeld ?_; go_frame
       refine hyY (some 32) 10 rfl hHeld ?_; go_frame
       refine hyY (some 33) 11 rfl hHeld ?_; go_frame
       refine hyY (some 34) 12 rfl hHeld ?_; go_frame
       refine hyY (some 35) 13 rfl hHeld ?_; go_frame
       refine wpAnyH_done (by kernel_rfl) ?_ _
       have hKK := HKK.out
       go_wp2
       go_roundw
       case rel => exact ⟨P.length + 1, P.take j ++ x :: P.drop j, by omega, by go_num, HLEN.out, ⟨names_in HP.out.1 HY.out HLE.out hj, HPRM.out⟩, by rw [show (Value.slice (some ⟨g, 0, none⟩) (P.length + 1) c7) = .slice (some ⟨g, 0, none⟩) (P.take j ++ x :: P.drop j).length c7 by rw [HLEN.out]]; exact HOS.out.own, HBD.out⟩
       case measure => simp [intOf]; omega
     ·have hb1 : Op.bytesLess p x = false := by rw [bytesLess_eq]; exact decide_eq_false fun h => hle (List.le_of_lt h)
      have hb2 : (p == x) = false := beq_eq_false_iff_ne.2 fun h => hle (h ▸ List.le_refl _)
      have HGT := Lib.hid hle
      go_wp2
      rename_i KK hKK
      have HKK := Lib.hid hKK
      clear hKK
      refine wp_region_held_drew (S := (fun W => W.cell? ⟨g, i, none⟩ = some (.string ⟨p.toArray⟩) ∧ W.cell? ⟨g, j, none⟩ = some (.string ⟨x.toArray⟩))) (by kernel_rfl) ⟨q1, q2⟩ (fun hHeld => ?_)
      refine hyY (some 22) 0 rfl hHeld ?_; go_frame
      refine hyY (some 23) 1 rfl hHeld ?_; go_frame
      refine hyY (some 24) 2 rfl hHeld ?_; go_frame
      refine hyY (some 25) 3 rfl hHeld ?_; go_frame
      refine hyY (some 26) 4 rfl hHeld ?_; go_frame
      refine hyY (some 27) 5 rfl hHeld ?_; go_frame
      refine hyY (some 28) 6 rfl hHeld ?_; go_frame
      refine hyY (some 29) 7 rfl hHeld ?_; go_frame
      refine hyY (some 30) 8 rfl hHeld ?_; go_frame
      refine hyY (some 31) 9 rfl hHeld ?_; go_frame
      refine hyY (some 32) 10 rfl hHeld ?_; go_frame
      refine hyY (some 33) 11 rfl hHeld ?_; go_frame
      refine hyY (some 34) 12 rfl hHeld ?_; go_frame
      refine hyY (some 35) 13 rfl hHeld ?_; go_frame
      refine wpAnyH_done (by kernel_rfl) ?_ _
      have hKK := HKK.out
      have r1 : wr.cell? ⟨g, i, none⟩ = some (.string ⟨p.toArray⟩) := q1
      have r2 : wr.cell? ⟨g, j, none⟩ = some (.string ⟨x.toArray⟩) := q2
      have os0 : OS wr w.heap.size g c7 (P.take j ++ x :: P.drop j) := HOS.out
      have r3 : wr.frozen? ⟨g, i, none⟩ = false := os0.free i
      have os1 := os0.put i x
      have r4 : wr.frozen? ⟨g, j, none⟩ = false := os0.free j
      have r5 : (wr.setCell ⟨g, i, none⟩ (.string ⟨x.toArray⟩)).cell? ⟨g, j, none⟩ = some (.string ⟨x.toArray⟩) := by
       have h2 := (names_swap (x := x) HPP.out).2.2
       rw [HI.out] at h2
       exact os1.cell (by rw [List.getElem?_set_ne (by have := HI.out; omega)]; exact h2)
      have os2 := os1.put j p
      rw [HSW.out] at os2
      have HOS2 := Lib.hid os2
      have HB8 : Hid (Below w.heap.size w (((wr.setCell ⟨g, i, none⟩ (.string ⟨x.toArray⟩)).setCell ⟨g, j, none⟩ (.string ⟨p.toArray⟩)).drew.drew)) :=
       Below_drawn ((bl.setCell (p := ⟨g, i, none⟩) HGE.out _).setCell (p := ⟨g, j, none⟩) HGE.out _) 2
      have HYI : Hid (∀ y ∈ P.drop i, ¬ y ≤ x) := fun y hy => by
       obtain ⟨hpi, e⟩ := List.getElem?_eq_some_iff.1 HPP.out
       rw [List.drop_eq_getElem_cons hpi, e] at hy
       rcases List.mem_cons.1 hy with rfl | hy
       ·exact HGT.out
       ·rw [HI.out] at hy
        exact HY.out y hy
      clear hle os0 os1 os2 q1 q2 hHeld
      go_wp2
      rename_i KK2 hKK2
      have HKK2 := Lib.hid hKK2
      clear hKK2
      refine wp_region_held_drew (S := (fun _ => True)) (by kernel_rfl) trivial (fun hHeld => ?_)
      refine hyY (some 36) 0 rfl hHeld ?_; go_frame
      refine hyY (some 37) 1 rfl hHeld ?_; go_frame
      refine hyY (some 38) 2 rfl hHeld ?_; go_frame
      refine hyY (some 39) 3 rfl hHeld ?_; go_frame
      refine hyY (some 40) 4 rfl hHeld ?_; go_frame
      refine hyY (some 41) 5 rfl hHeld ?_; go_frame
      refine hyY (some 42) 6 rfl hHeld ?_; go_frame
      refine hyY (some 43) 7 rfl hHeld ?_; go_frame
      refine hyY (some 45) 9 rfl hHeld ?_; go_frame
      refine hyY (some 46) 10 rfl hHeld ?_; go_frame
      refine hyY (some 47) 11 rfl hHeld ?_; go_frame
      refine hyY (some 48) 12 rfl hHeld ?_; go_frame
      refine held_two (o := ⟨some 44, _, _, _, _, _⟩) (p := ⟨some 49, _, _, _, _, _⟩) 8 13 (by kernel_rfl) rfl rfl (by rfl) (by rfl) (fun K hK => ?_) (fun K hK => ?_)
      ·go_simp
       refine hK.out _ _ ?_ (fun hH2 => ?_)
       ·trivial
       clear hHeld hK K; have hHeld := hH2; clear hH2; try go_frame
       refine hyO (some 49) 13 rfl (fun K hK => ?_)
       go_simp
       refine hK.out _ _ ?_ (fun hH2 => ?_)
       ·trivial
       clear hHeld hK K; have hHeld := hH2; clear hH2; try go_frame
       refine hyY (some 50) 14 rfl hHeld ?_; go_frame
       refine hyO none 15 rfl (fun K hK => ?_)
       go_simp
       refine hK.out _ _ ?_ (fun hH2 => ?_)
       ·trivial
       clear hHeld hK K; have hHeld := hH2; clear hH2; try go_frame
       refine hyY (some 51) 16 rfl hHeld ?_; go_frame
       refine hyO none 17 rfl (fun K hK => ?_)
       go_simp
       refine hK.out _ _ ?_ (fun hH2 => ?_)
       ·trivial
       clear hHeld hK K; have hHeld := hH2; clear hH2; try go_frame
       refine wpAnyH_done (by kernel_rfl) ?_ _
       have hKK2 := HKK2.out
       go_wp2
       go_roundw
       case rel => exact ⟨i, by have := HI.out; omega, by first | rfl | go_num, HOS2.out, HYI.out, HB8.out⟩
       case measure => have := HI.out; simp [intOf]; omega
      ·go_simp
       refine hK.out _ _ ?_ (fun hH2 => ?_)
       ·trivial
       clear hHeld hK K; have hHeld := hH2; clear hH2; try go_frame
       refine hyO (some 44) 8 rfl (fun K hK => ?_)
       go_simp
       refine hK.out _ _ ?_ (fun hH2 => ?_)
       ·trivial
       clear hHeld hK K; have hHeld := hH2; clear hH2; try go_frame
       refine hyY (some 50) 14 rfl hHeld ?_; go_frame
       refine hyO none 15 rfl (fun K hK => ?_)
       go_simp
       refine hK.out _ _ ?_ (fun hH2 => ?_)
       ·trivial
       clear hHeld hK K; have hHeld := hH2; clear hH2; try go_frame
       refine hyY (some 51) 16 rfl hHeld ?_; go_frame
       refine hyO none 17 rfl (fun K hK => ?_)
       go_simp
       refine hK.out _ _ ?_ (fun hH2 => ?_)
       ·trivial
       clear hHeld hK K; have hHeld := hH2; clear hH2; try go_frame
       refine wpAnyH_done (by kernel_rfl) ?_ _
       have hKK2 := HKK2.out
       go_wp2
       go_roundw
       case rel => exact ⟨i, by have := HI.out; omega, by first | rfl | go_num, HOS2.out, HYI.out, HB8.out⟩
       case measure => have := HI.out; simp [intOf]; omega
    ·obtain rfl : j = 0 := by omega
     have D : decide ((0 : Int) < ((0 : Nat) : Int)) = false := decide_eq_false (by omega)
     clear h0
     go_wp2
     rename_i KK hKK
     have HKK := Lib.hid hKK
     clear hKK
     refine wp_region_held_drew (S := (fun _ => True)) (by kernel_rfl) trivial (fun hHeld => ?_)
     refine hyY (some 22) 0 rfl hHeld ?_; go_frame
     refine hyY (some 23) 1 rfl hHeld ?_; go_frame
     refine hyY (some 24) 2 rfl hHeld ?_; go_frame
     refine hyN (some 25) 3 rfl hHeld ?_; go_frame
     refine hyN (some 26) 4 rfl hHeld ?_; go_frame
     refine hyN (some 27) 5 rfl hHeld ?_; go_frame
     refine hyN (some 28) 6 rfl hHeld ?_; go_frame
     refine hyN (some 29) 7 rfl hHeld ?_; go_frame
     refine hyN (some 30) 8 rfl hHeld ?_; go_frame
     refine hyN (some 31) 9 rfl hHeld ?_; go_frame
     refine hyN (some 32) 10 rfl hHeld ?_; go_frame
     refine hyN (some 33) 11 rfl hHeld ?_; go_frame
     refine hyN (some 34) 12 rfl hHeld ?_; go_frame
     refine hyY (some 35) 13 rfl hHeld ?_; go_frame
     refine wpAnyH_done (by kernel_rfl) ?_ _
     have hKK := HKK.out
     go_wp2
     go_roundw
     case rel => exact ⟨P.length + 1, P.take 0 ++ x :: P.drop 0, by omega, by go_num, HLEN.out, ⟨names_in HP.out.1 HY.out (fun p h => absurd h (Nat.lt_irrefl _)) (Nat.zero_le _), HPRM.out⟩, by rw [show (Value.slice (some ⟨g, 0, none⟩) (P.length + 1) c7) = .slice (some ⟨g, 0, none⟩) (P.take 0 ++ x :: P.drop 0).length c7 by rw [HLEN.out]]; exact HOS.out.own, HBD.out⟩
     case measure => simp [intOf]; omega
  ·have hPl : P.length = l.length := by omega
   have he := Lib.hid (namesL_of HP.out.1 (by have := HP.out.2; rwa [hPl, List.take_length] at this))
   go_wp2
   go_ret
   exact ⟨_, rfl, by rw [← he.out]; exact how, bl⟩
end
end Go.Proofs.YteddmnoeljakpaaGreatDoor
