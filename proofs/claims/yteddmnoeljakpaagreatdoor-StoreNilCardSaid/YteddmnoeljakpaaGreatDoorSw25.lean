/-
  StR: Lists of whole numbers joined, and sorted: slices.Concat, slices.Grow, slices.Sort; which sectors are given (give); over the loaded program: each one's contract. No condition but what each theorem names.
-/
import Derived.Test.YteddmnoeljakpaaGreatDoorSw23
import Derived.Test.YteddmnoeljakpaaGreatDoorLayG
import Derived.Test.YteddmnoeljakpaaGreatDoorLay
import Derived.Sort.OwnSortedInts
set_option linter.unusedVariables false
set_option maxRecDepth 100000
namespace Go.Proofs.YteddmnoeljakpaaGreatDoor
section
open Go.RowKit Go.Sort
theorem run_growI (w : World) (base : Nat) (ty : TypeId) (v : Value) (xs : List Int) (hown : w.ownsRow base 3 1 v xs.length (xs.map iv))
    (S : Nat → Prop) (x : Value) (ys : List Int) (hx : IS w S x ys) (hb : xs.length + ys.length ≤ 1000000000) (hbase : base ≤ w.heap.size) :
    ∃ v' w', (Builtin.append_ #[89, 89] ty #[v, x]).run Tryz.prog w = .ok v' w' ∧ w'.ownsRow base 3 1 v' (xs ++ ys).length ((xs ++ ys).map iv) ∧ w.grownBy w' v.ownBlock ∧
      (v'.ownBlock = v.ownBlock ∨ v'.ownBlock = some w.heap.size) := by
  obtain ⟨i0, hi, hz0, hz1, hz2⟩ := info_parts info_int
  obtain ⟨A, c, rfl, hl, hc, hn, hcell⟩ := hx
  rcases A with _ | ad
  · obtain rfl := hn rfl
    have h0 : ys = [] := List.eq_nil_of_length_eq_zero (by omega)
    subst h0
    exact ⟨v, w, run_append_owned_none w base 89 ty 3 i0 1 Tryz.underlying89 hi v _ _ hown, by simpa using hown, World.grownBy.refl w _, .inl rfl⟩
  · have hnews : ∀ j u, (ys.map iv)[j]? = some u → w.cell? (ad.add j) = some u := by
      intro j u hu
      have hj : 0 < ys.length := by
        have := (List.getElem?_eq_some_iff.1 hu).1
        simp at this
        omega
      obtain ⟨b, o, ea, _, _, hx⟩ := hcell hj
      injection ea with ea
      subst ea
      rw [List.getElem?_map] at hu
      obtain ⟨z, hz, rfl⟩ := Option.map_eq_some_iff.1 hu
      rw [Addr.add_lit]
      exact hx j z hz
    obtain ⟨v', w', h1, h2, h3, _, h5⟩ := run_append_own_at (P := Tryz.prog) w base 89 ty 3 i0 _ 1 8 Tryz.underlying89 hi hz0 hz1 hz2 rfl (by omega) v xs.length _ hown ad ys.length c (ys.map iv) (by simp) hnews (ints_one ys)
      (by unfold maxLen; omega) (by omega) hbase
    exact ⟨v', w', h1, by simpa using h2, h3, h5⟩
theorem wpList_growI (w : World) {ops : Array Oper} {rest : List Oper} {o : Oper} {a : Act} {Q : Exit → Act → World → Prop} (hgd : o.guard = none) (s x : Operand)
    (ho : o.op = .call { callee := .builtin .append, args := #[s, x], argTypes := #[89, 89] })
    (base : Nat) (v : Value) (xs : List Int) (hs : a.eval s = v) (hown : w.ownsRow base 3 1 v xs.length (xs.map iv))
    (S : Nat → Prop) (xv : Value) (ys : List Int) (hxe : a.eval x = xv) (hx : IS w S xv ys) (hb : xs.length + ys.length ≤ 1000000000) (hbase : base ≤ w.heap.size)
    (h : ∀ v' w', w'.ownsRow base 3 1 v' (xs ++ ys).length ((xs ++ ys).map iv) → w.grownBy w' v.ownBlock → (v'.ownBlock = v.ownBlock ∨ v'.ownBlock = some w.heap.size) → wpList Tryz.prog ops Q rest (a.put o.dst v') w') :
    wpList Tryz.prog ops Q (o :: rest) a w := by
  refine wpList_plain hgd fun K hK => ?_
  obtain ⟨v', w', hrun, h2, h3, h4⟩ := run_growI w base o.type v xs hown S xv ys hx hb hbase
  unfold Oper.wp execOp
  simp only [ho, resolve, invoke, builtin, Sem.run_bind, Sem.run_pure, Result.andThen_ok, List.map_toArray, List.map_cons, List.map_nil, hs, hxe, hrun]
  exact hK _ _ (h v' w' h2 h3 h4)
theorem grow_any (n : Nat) (hn : n ≤ 1000000000) (w : World) : Calls Tryz.prog 114 #[.slice none 0 0, .int .i64 (n : Int)] w fun e w' => ∃ v, e = .returned v ∧ w'.ownsRow w.heap.size 3 1 v 0 [] ∧ Below w.heap.size w w' := by
  by_cases h0 : n = 0
  · subst h0
    refine (Any8.slices_Grow_room Tryz.laysGrow none 0 0 0 w (Nat.le_refl _) (by omega) (by omega) (Nat.le_refl _)).mono ?_
    rintro e w' ⟨rfl, rfl⟩
    exact ⟨_, rfl, World.ownsRow_nil _ _ _ _, Below.refl _ _⟩
  · obtain ⟨i0, hi, hz0, hz1, hz2⟩ := info_parts info_int
    refine (Any8.slices_Grow_grow Tryz.laysGrow i0 _ hi hz0 (by omega) none 0 0 n [] w (Nat.le_refl _) (by omega) (by rw [hz2]; omega) (by omega) (by simp) (fun _ => rfl) (fun a e => by cases e)).mono ?_
    rintro e w' ⟨rfl, rfl⟩
    have hge := grownCap_ge w (0 + n) 0 3
    have hge2 := grownCap_ge w n 0 (Tryz.laysGrow_ren.t 25)
    have hle := grownCap_le_maxLen w (0 + n) 0 3 (by unfold maxLen; omega)
    refine ⟨_, rfl, ⟨rfl, .inr ⟨w.heap.size, _, _, rfl, Nat.le_refl _, heap_alloc_new w.drew _, Nat.zero_le _, hle, ?_, by simp⟩⟩, ?_⟩
    · simp [Builtin.zeroCells, Value.cells]
      omega
    · exact (Below_drawn (Below.refl w.heap.size w) 1).alloc (Nat.le_refl _) _
set_option maxHeartbeats 2000000 in
theorem concat_any (g : Nat) (S1 S2 : Nat → Prop) (A1 A2 : Option Addr) (c1 c2 : Nat) (l1 l2 : List Int) (w : World) (hg : KB w g 89 #[.slice A1 l1.length c1, .slice A2 l2.length c2]) (h1 : IS w S1 (.slice A1 l1.length c1) l1) (h2 : IS w S2 (.slice A2 l2.length c2) l2) (hl1 : l1.length ≤ 100000) (hl2 : l2.length ≤ 100000) :
    Calls Tryz.prog 77 #[.slice (some ⟨g, 0, none⟩) 2 2] w fun e w' => ∃ v, e = .returned v ∧ w'.ownsRow w.heap.size 3 1 v (l1 ++ l2).length ((l1 ++ l2).map iv) ∧ Below w.heap.size w w' := by
  have k0 : w.cell? ⟨g, 0, none⟩ = some (.slice A1 l1.length c1) := hg.cell 0
  have k1 : w.cell? ⟨g, 1, none⟩ = some (.slice A2 l2.length c2) := hg.cell 1
  have e1 : IntKind.i64.wrap ((l1.length : Int)) = (l1.length : Int) := by rw [IntKind.wrap_i64]; omega
  have e2 : IntKind.i64.wrap ((l1.length : Int) + (l2.length : Int)) = ((l1.length + l2.length : Nat) : Int) := by rw [IntKind.wrap_i64]; omega
  have hgr := fun W => grow_any (l1.length + l2.length) (by omega) W
  have H1 := Lib.hid hl1
  have H2 := Lib.hid hl2
  clear hl1 hl2
  go_enter Tryz.func77, Tryz.ntmps77
  go_wp2_with fail
  go_loopw [3, 11] (fun tv iv wr => ((iv = .int .i64 0 ∧ tv = .int .i64 0) ∨ (iv = .int .i64 1 ∧ tv = .int .i64 (l1.length : Int)) ∨ (iv = .int .i64 2 ∧ tv = .int .i64 ((l1.length + l2.length : Nat) : Int))) ∧ w = wr) (fun _ iv _ => 2 - (intOf iv).toNat)
  case atStart => exact ⟨.inl ⟨rfl, rfl⟩, rfl⟩
  case round =>
    obtain ⟨hrel, rfl⟩ := hrel
    rcases hrel with ⟨rfl, rfl⟩ | ⟨rfl, rfl⟩ | ⟨rfl, rfl⟩
    · have D : decide ((l1.length : Int) < 0) = false := decide_eq_false (by omega)
      have D' : ¬ (l1.length : Int) < 0 := by omega
      go_wp2_with fail
      go_roundw
      case rel => exact ⟨.inr (.inl ⟨rfl, rfl⟩), (by first | rfl | trivial)⟩
      case measure => simp [intOf]
    · have D : decide (((l1.length + l2.length : Nat) : Int) < 0) = false := decide_eq_false (by omega)
      have D' : ¬ ((l1.length + l2.length : Nat) : Int) < 0 := by omega
      go_wp2_with fail
      go_roundw
      case rel => exact ⟨.inr (.inr ⟨rfl, rfl⟩), (by first | rfl | trivial)⟩
      case measure => simp [intOf]
    · go_wp2_with fail
      refine (hgr _).mono ?_
      rintro e w2 ⟨v, rfl, how, B⟩
      go_wp2_with fail
      clear hgr e1 e2
      go_loopw [6, 27] (fun vv xv wr => Below w.heap.size w wr ∧ ((xv = .int .i64 0 ∧ wr.ownsRow w.heap.size 3 1 vv 0 []) ∨ (xv = .int .i64 1 ∧ wr.ownsRow w.heap.size 3 1 vv l1.length (l1.map iv)) ∨ (xv = .int .i64 2 ∧ wr.ownsRow w.heap.size 3 1 vv (l1 ++ l2).length ((l1 ++ l2).map iv)))) (fun _ xv _ => 2 - (intOf xv).toNat)
      case atStart => exact ⟨B, .inl ⟨rfl, how⟩⟩
      case round =>
        obtain ⟨bl, hrel⟩ := hrel
        have kk := World.cell?_of_block (w := w) (bl.block g hg.lt) (a := ⟨g, 0, none⟩)
        have kk1 := World.cell?_of_block (w := w) (bl.block g hg.lt) (a := ⟨g, 1, none⟩)
        rw [k0] at kk
        rw [k1] at kk1
        clear how B k0 k1
        rcases hrel with ⟨rfl, hown⟩ | ⟨rfl, hown⟩ | ⟨rfl, hown⟩
        · obtain ⟨Av, cv, rfl, _⟩ := (own_IS (l := []) hown).form
          have hx := h1.below' bl
          go_wp2_with (at_builtin; go_loud (refine wpList_growI _ rfl _ _ rfl w.heap.size _ [] rfl hown _ _ l1 rfl hx (by have := H1.out; simp; omega) bl.size ?_); intro v3 w3 o3 g3 ho3)
          have bl3 := bl.grown g3 bl.size fun g hg => own_ge hown g hg
          rw [List.nil_append] at o3
          go_wp2_with fail
          go_roundw
          case rel => exact ⟨bl3, .inr (.inl ⟨rfl, o3⟩)⟩
          case measure => simp [intOf]
        · obtain ⟨Av, cv, rfl, _⟩ := (own_IS (l := l1) hown).form
          have hx := h2.below' bl
          go_wp2_with (at_builtin; go_loud (refine wpList_growI _ rfl _ _ rfl w.heap.size _ l1 rfl hown _ _ l2 rfl hx (by have := H1.out; have := H2.out; omega) bl.size ?_); intro v3 w3 o3 g3 ho3)
          have bl3 := bl.grown g3 bl.size fun g hg => own_ge hown g hg
          have HO := Lib.hid o3
          clear o3
          go_wp2_with fail
          go_roundw
          case rel => exact ⟨bl3, .inr (.inr ⟨rfl, HO.out⟩)⟩
          case measure => simp [intOf]
        · go_wp2_with fail
          go_ret
          exact ⟨_, rfl, hown, bl⟩
theorem sort_any (base : Nat) (v : Value) (l : List Int) (w : World) (h : w.ownsRow base 3 1 v l.length (l.map iv)) (hl : l.length ≤ 1000000000) :
    Calls Tryz.prog 78 #[v] w fun e w' => e = .returned (.tuple #[]) ∧ w'.ownsRow base 3 1 v (sortI l).length ((sortI l).map iv) ∧ w.grownBy w' v.ownBlock := by
  rcases h.2 with ⟨rfl, hz⟩ | ⟨gb, cap, cur, rfl, hbase, hgb, r1, r2, r3, r4⟩
  · obtain rfl : l = [] := List.eq_nil_of_length_eq_zero hz
    refine (AnyM.slices_Sort_int_none Tryz.laysSort none 0 w).mono ?_
    rintro e w' ⟨rfl, rfl⟩
    rw [show sortI [] = [] by simp [sortI]]
    exact ⟨rfl, h, World.grownBy.refl _ _⟩
  · have hH : Holds (Value.int .i64) w gb 0 l.toArray := holds_of_blockI hgb (by simpa using r4)
    have hgl : gb < w.heap.size := (Array.getElem?_eq_some_iff.1 hgb).1
    refine (AnyM.slices_Sort_int Tryz.laysSort gb 0 cap l w hH hgl (by omega)).mono ?_
    rintro e w' ⟨rfl, nn, os, rfl⟩
    refine ⟨rfl, ?_, grownBy_sortedI _⟩
    have := ownsRow_sortedI (w := w) (base := base) (g := gb) (cap := cap) (n := nn) (e := 3) (os := os) (cur := cur) (ss := l) (ts := l.mergeSort fun x y => decide (x ≤ y)) (by simp) hbase hgb r1 r2 r3
    rw [show (sortI l).length = l.length from sortI_len l]
    exact this
theorem markL_set {us : List Bool} {l : List Int} {z : Int} (h0 : 0 ≤ z) (h1 : z.toNat < us.length) : (markL us l).set z.toNat true = markL us (l ++ [z]) := by
  apply List.ext_getElem?
  intro j
  unfold markL
  rw [List.getElem?_set, List.getElem?_mapIdx, List.getElem?_mapIdx, List.length_mapIdx]
  by_cases e : z.toNat = j
  · subst e
    rw [if_pos rfl, if_pos h1, List.getElem?_eq_getElem h1]
    have : decide (((z.toNat : Nat) : Int) ∈ l ++ [z]) = true := decide_eq_true (by rw [List.mem_append]; exact .inr (by simp; omega))
    rw [Option.map_some, this, Bool.or_true]
  · rw [if_neg e]
    cases us[j]? with
    | none => rfl
    | some x =>
      simp only [Option.map_some, Option.some.injEq]
      congr 1
      refine decide_eq_decide.2 ?_
      rw [List.mem_append, List.mem_singleton]
      constructor
      · exact .inl
      · rintro (h | h)
        · exact h
        · exact absurd h (by omega)
def boolsA (us : List Bool) : Array Value := (us.map Value.bool).toArray
theorem boolsA_set (us : List Bool) (i : Nat) : (boolsA us).setIfInBounds i (.bool true) = boolsA (us.set i true) := by
  unfold boolsA
  rw [List.setIfInBounds_toArray, ← List.map_set]
theorem KB.bos {w : World} {u n : Nat} {t : TypeId} {us : List Bool} (h : KB w u t (boolsA us)) (hl : us.length = n) (hn : n ≤ maxLen) : BO w (fun b => b = u) (.slice (some ⟨u, 0, none⟩) n n) us := by
  subst hl
  refine ⟨some ⟨u, 0, none⟩, us.length, rfl, Nat.le_refl _, hn, fun _ => ⟨u, 0, rfl, rfl, h.lt, fun j z hj => ?_⟩⟩
  rw [Nat.zero_add, h.cell]
  unfold boolsA
  rw [List.getElem?_toArray, List.getElem?_map, hj]
  rfl
set_option maxHeartbeats 2000000 in
theorem give_any (u D : Nat) (us : List Bool) (n : Nat) (w : World) (hk : KB w u 4 (boolsA us)) (hl : us.length = D) (hD : D ≤ 1000000) (hn : n ≤ 1000000) :
    Calls Tryz.prog 76 #[.slice (some ⟨u, 0, none⟩) D D, .int .i64 (n : Int)] w fun e w' => ∃ v, e = .returned v ∧ w'.ownsRow w.heap.size 3 1 v (giveL us n).length ((giveL us n).map iv) ∧
      KB w' u 4 (boolsA (markL us (giveL us n))) ∧ KeepP (fun x => x < w.heap.size ∧ x ≠ u) w w' := by
  have hbo := (hk.bos hl (by unfold maxLen; omega)).mono (S' := fun b => b < w.heap.size) fun b hb => by subst hb; exact hk.lt
  have hpk := pick_any _ us (n : Int) (by omega) w hbo
  rw [show pickS us (n : Int) = (giveL us n, (pickS us n).2) from rfl] at hpk
  have hfree := fun z (hz : z ∈ giveL us n) => giveL_free hz
  have hLl : (giveL us n).length ≤ D := by
    unfold giveL pickS
    split
    · simp
    · rw [ofN_length, List.length_take]
      have := selK_le (freeF us) us.length
      omega
  generalize (pickS us n).2 = ok at *
  have HF := Lib.hid hfree
  generalize giveL us n = L at *
  have hu := hk.lt
  clear hbo hfree
  go_enter Tryz.func76, Tryz.ntmps76
  go_wp2_with fail
  refine hpk.mono ?_
  rintro e w1 ⟨v, rfl, how, b1⟩
  have k1 : KB w1 u 4 (boolsA (markL us [])) := by rw [markL_nil]; exact hk.below b1 hu
  have x1 := own_IS how
  obtain ⟨A, cp, rfl, hcl, hcm, _⟩ := x1.form
  have hne : ∀ g, (Value.slice A L.length cp).ownBlock = some g → w.heap.size ≤ g := fun g hg => own_ge how g hg
  have K1 := KeepP.of_below (P := fun x => x < w.heap.size ∧ x ≠ u) b1 fun x hx => hx.1
  have hL63 : L.length ≤ 9223372036854775807 := by omega
  have hlu : us.length = D := hl
  clear hpk hk b1 x1
  go_wp2_with fail
  go_loopw [17] (fun xv wr => ∃ j : Nat, j ≤ L.length ∧ xv = .int .i64 j ∧ wr.ownsRow w.heap.size 3 1 (.slice A L.length cp) L.length (L.map iv) ∧ KB wr u 4 (boolsA (markL us (L.take j))) ∧ KeepP (fun x => x < w.heap.size ∧ x ≠ u) w wr) (fun xv _ => L.length - (intOf xv).toNat)
  case atStart => exact ⟨0, by omega, rfl, how, k1, K1⟩
  case round =>
    obtain ⟨j, hj, rfl, how2, k2, K2⟩ := hrel
    clear how k1 K1
    by_cases hlt : j < L.length
    · obtain ⟨b, o, rfl, hb1, _, hx⟩ := (own_IS how2).at_ (by omega)
      have hcj := hx j _ (List.getElem?_eq_getElem hlt)
      have hz := HF.out _ (List.getElem_mem hlt)
      have hms := Lib.hid (markL_set (us := us) (l := L.take j) hz.1 (by have := hz.2.1; omega))
      have htk := Lib.hid (List.take_succ_eq_append_getElem hlt)
      have hz0 := hz.1
      have hz1 : L[j] < (D : Int) := by rw [← hlu]; exact hz.2.1
      clear hx hz
      generalize L[j] = z at *
      obtain ⟨zn, rfl⟩ : ∃ zn : Nat, z = (zn : Int) := ⟨z.toNat, by omega⟩
      rw [Int.toNat_natCast] at hms
      have ct : wr.cell? ⟨u, zn, none⟩ = some (.bool ((markL us (L.take j)).getD zn true)) := by
        rw [k2.cell]
        unfold boolsA
        rw [List.getElem?_toArray, List.getElem?_map, List.getElem?_eq_getElem (by rw [markL_len]; omega)]
        rw [List.getD_eq_getElem?_getD, List.getElem?_eq_getElem (by rw [markL_len]; omega)]
        rfl
      have ft := k2.free zn
      generalize (markL us (L.take j)).getD zn true = bz at ct
      have k3 := k2.put zn (.bool true)
      rw [boolsA_set, hms.out, ← htk.out] at k3
      have g3 := grown_set wr u zn (.bool true)
      have how3 := how2.kept g3 (by have := hne b rfl; simp [Value.ownBlock]; omega)
      have K3 : KeepP (fun x => x < w.heap.size ∧ x ≠ u) w (wr.setCell ⟨u, zn, none⟩ (.bool true)) := K2.grown g3 (fun g e hx => hx.2 (by injection e with e; exact e.symm)) fun x hx => hx.1
      have hltI : (j : Int) < (L.length : Int) := by omega
      clear k2 K2 how2 g3 hms htk
      go_wp2_with fail
      go_roundw
      case rel => exact ⟨j + 1, by omega, by go_num, how3, k3, K3⟩
      case measure => simp [intOf]; omega
    · obtain rfl : j = L.length := by omega
      rw [List.take_length] at k2
      go_wp2_with fail
      go_ret
      exact ⟨_, rfl, how2, k2, K2⟩
theorem concat_two {g n1 n2 : Nat} {S1 S2 : Nat → Prop} {A1 A2 : Option Addr} {c1 c2 : Nat} {l1 l2 : List Int} {w : World} (e1 : l1.length = n1) (e2 : l2.length = n2) (hg : KB w g 89 #[.slice A1 n1 c1, .slice A2 n2 c2]) (h1 : IS w S1 (.slice A1 n1 c1) l1) (h2 : IS w S2 (.slice A2 n2 c2) l2) (hl1 : n1 ≤ 100000) (hl2 : n2 ≤ 100000) :
    Calls Tryz.prog 77 #[.slice (some ⟨g, 0, none⟩) 2 2] w fun e w' => ∃ v, e = .returned v ∧ w'.ownsRow w.heap.size 3 1 v (l1 ++ l2).length ((l1 ++ l2).map iv) ∧ Below w.heap.size w w' := by
  subst e1 e2
  exact concat_any g S1 S2 A1 A2 c1 c2 l1 l2 w hg h1 h2 hl1 hl2
theorem giveL_le (us : List Bool) (n : Nat) : (giveL us n).length ≤ us.length := by
  unfold giveL pickS
  split
  · simp
  · rw [ofN_length, List.length_take]
    have := selK_le (freeF us) us.length
    omega
end
end Go.Proofs.YteddmnoeljakpaaGreatDoor
