/-
  Rows of milestones: append of a whole list, slices.Grow, slices.Concat of two, the program's own (layer 19), over the loaded program: each one's contract. No condition but what each theorem names.
-/
import Derived.Test.YtommcdgognlfcaaDuP
import Derived.Test.YtommcdgognlfcaaCln
import Derived.Test.YtommcdgognlfcaaLayG
import Derived.Shelf.Spec.SlicesGrow
import Derived.Laws.OwnMore
namespace Go.Proofs.Ytommcdgognlfcaa
open Go.RowKit
set_option maxRecDepth 100000
set_option linter.unusedVariables false

theorem ml_good {w : World} {S : Nat → Prop} {v : Value} {l : List Ml} (h : ML w S v l) : ∀ m ∈ l, I64 m.2 ∧ m.1.length ≤ maxLen := fun m hx => by
  obtain ⟨j, hj, rfl⟩ := List.mem_iff_getElem.1 hx
  obtain ⟨A, c, rfl, _⟩ := h.form
  obtain ⟨b, o, _, _, _, hc⟩ := h.at_ (by omega)
  obtain ⟨_, _, h3, h4⟩ := hc j _ (List.getElem?_eq_getElem hj)
  exact ⟨h3, h4⟩

/-- One milestone, alone in a block. -/
theorem ml_one {W : World} {S : Nat → Prop} {R : Nat} {m : Ml} {t : TypeId} (h : KB W R t #[strV m.1, .int .i64 m.2]) (hS : S R) (hi : I64 m.2) (hl : m.1.length ≤ maxLen) : ML W S (.slice (some ⟨R, 0, none⟩) 1 1) [m] := by
  refine ⟨_, 1, rfl, by simp, by unfold maxLen; omega, (fun h => by cases h), fun _ => ⟨R, 0, rfl, hS, h.lt, fun i u hx => ?_⟩⟩
  match i with
  | 0 =>
    injection hx with hx
    subst hx
    exact ⟨h.cell 0, h.cell 1, hi, hl⟩
  | k + 1 => cases hx

/-- append of a list that reads as milestones onto a row of the call's own. -/
theorem run_growML (w : World) (base : Nat) (v : Value) (l : List Ml) (hown : w.ownsRow base 43 2 v l.length (flatM l)) (S : Nat → Prop) (x : Value) (us : List Ml) (hx : ML w S x us)
    (hb : l.length + us.length ≤ 1000000000) (hbase : base ≤ w.heap.size) (ty : TypeId) :
    ∃ v' w', (Builtin.append_ #[25, 25] ty #[v, x]).run Try.prog w = .ok v' w' ∧ w'.ownsRow base 43 2 v' (l ++ us).length (flatM (l ++ us)) ∧ w.grownBy w' v.ownBlock ∧
      (v'.ownBlock = v.ownBlock ∨ v'.ownBlock = some w.heap.size) := by
  obtain ⟨A, c, rfl, hl, hc, hn⟩ := hx.form0
  rcases A with _ | ad
  · obtain rfl := hn rfl
    obtain rfl : us = [] := List.eq_nil_of_length_eq_zero (by omega)
    obtain ⟨i0, hi, hz0, hz1, hz2⟩ := info_parts info_mile
    exact ⟨v, w, run_append_owned_none w base 25 ty 43 i0 2 Try.underlying25 hi v _ _ hown, by simpa using hown, World.grownBy.refl w _, .inl rfl⟩
  · by_cases h0 : 0 < us.length
    · obtain ⟨b, o, ea, _, _, _⟩ := hx.at_ h0
      injection ea with ea
      subst ea
      exact run_growM w base v l hown ⟨b, o, none⟩ c us (fun j u hu => hx.flat j u hu) hb hbase ty
    · obtain rfl : us = [] := List.eq_nil_of_length_eq_zero (by omega)
      exact run_growM w base v l hown ad c [] (fun j u hu => by simp [flatM] at hu) hb hbase ty
theorem wpList_growML (w : World) {ops : Array Oper} {rest : List Oper} {o : Oper} {a : Act} {Q : Exit → Act → World → Prop} (hgd : o.guard = none) (s x : Operand)
    (ho : o.op = .call { callee := .builtin .append, args := #[s, x], argTypes := #[25, 25] })
    (base : Nat) (v : Value) (l : List Ml) (hs : a.eval s = v) (hown : w.ownsRow base 43 2 v l.length (flatM l))
    (S : Nat → Prop) (xv : Value) (us : List Ml) (hxe : a.eval x = xv) (hx : ML w S xv us)
    (hb : l.length + us.length ≤ 1000000000) (hbase : base ≤ w.heap.size)
    (h : ∀ v' w', w'.ownsRow base 43 2 v' (l ++ us).length (flatM (l ++ us)) → w.grownBy w' v.ownBlock → (v'.ownBlock = v.ownBlock ∨ v'.ownBlock = some w.heap.size) → wpList Try.prog ops Q rest (a.put o.dst v') w') :
    wpList Try.prog ops Q (o :: rest) a w := by
  refine wpList_plain hgd fun K hK => ?_
  obtain ⟨v', w', hrun, h2, h3, h4⟩ := run_growML w base v l hown S xv us hx hb hbase o.type
  unfold Oper.wp execOp
  simp only [ho, resolve, invoke, builtin, Sem.run_bind, Sem.run_pure, Result.andThen_ok, List.map_toArray, List.map_cons, List.map_nil, hs, hxe, hrun]
  exact hK _ _ (h v' w' h2 h3 h4)
theorem wp_growML {w : World} {o : Oper} {a : Act} {K : Act → World → Prop} {Q : Exit → Act → World → Prop} (s x : Operand)
    (ho : o.op = .call { callee := .builtin .append, args := #[s, x], argTypes := #[25, 25] })
    (base : Nat) (v : Value) (l : List Ml) (hs : a.eval s = v) (hown : w.ownsRow base 43 2 v l.length (flatM l))
    (S : Nat → Prop) (xv : Value) (us : List Ml) (hxe : a.eval x = xv) (hx : ML w S xv us)
    (hb : l.length + us.length ≤ 1000000000) (hbase : base ≤ w.heap.size)
    (h : ∀ v' w', w'.ownsRow base 43 2 v' (l ++ us).length (flatM (l ++ us)) → w.grownBy w' v.ownBlock → (v'.ownBlock = v.ownBlock ∨ v'.ownBlock = some w.heap.size) → K (a.put o.dst v') w') :
    Oper.wp Try.prog o a w K Q := by
  obtain ⟨v', w', hrun, h2, h3, h4⟩ := run_growML w base v l hown S xv us hx hb hbase o.type
  unfold Oper.wp execOp
  simp only [ho, resolve, invoke, builtin, Sem.run_bind, Sem.run_pure, Result.andThen_ok, List.map_toArray, List.map_cons, List.map_nil, hs, hxe, hrun]
  exact h _ _ h2 h3 h4
/-- A row of none. -/
theorem own_empty (w : World) (base : Nat) (h : base ≤ w.heap.size) : (w.alloc (.cells #[] 43)).ownsRow base 43 2 (.slice (some ⟨w.heap.size, 0, none⟩) 0 0) ([] : List Ml).length (flatM []) :=
  ⟨rfl, .inr ⟨w.heap.size, 0, #[], rfl, h, heap_alloc_new w _, Nat.le_refl _, by unfold maxLen; omega, rfl, rfl⟩⟩

/-- slices.Grow of nil. -/
theorem growm_any (n : Nat) (hn : n ≤ 1000000000) (w : World) : Calls Try.prog 43 #[.slice none 0 0, .int .i64 (n : Int)] w fun e w' => ∃ v, e = .returned v ∧ w'.ownsRow w.heap.size 43 2 v ([] : List Ml).length (flatM []) ∧ Below w.heap.size w w' := by
  by_cases h0 : n = 0
  · subst h0
    refine (Any8.slices_Grow_room Try.laysGrow none 0 0 0 w (Nat.le_refl _) (by omega) (by omega) (Nat.le_refl _)).mono ?_
    rintro e w' ⟨rfl, rfl⟩
    exact ⟨_, rfl, World.ownsRow_nil _ _ _ _, Below.refl _ _⟩
  · obtain ⟨i0, hi, hz0, hz1, hz2⟩ := info_parts info_mile
    refine (Any8.slices_Grow_grow Try.laysGrow i0 _ hi hz0 (by omega) none 0 0 n [] w (Nat.le_refl _) (by omega) (by rw [hz2]; omega) (by omega) (by simp) (fun _ => rfl) (fun a e => by cases e)).mono ?_
    rintro e w' ⟨rfl, rfl⟩
    have hge := grownCap_ge w (0 + n) 0 43
    have hge2 := grownCap_ge w n 0 (Try.laysGrow_ren.t 25)
    have hle := grownCap_le_maxLen w (0 + n) 0 43 (by unfold maxLen; omega)
    refine ⟨_, rfl, ⟨rfl, .inr ⟨w.heap.size, _, _, rfl, Nat.le_refl _, heap_alloc_new w.drew _, Nat.zero_le _, hle, ?_, by simp [flatM]⟩⟩, ?_⟩
    · simp [Builtin.zeroCells, Value.cells]
      omega
    · exact (Below_drawn (Below.refl w.heap.size w) 1).alloc (Nat.le_refl _) _

theorem ML_own {w : World} {B : Nat} {v : Value} {l : List Ml} (h : w.ownsRow B 43 2 v l.length (flatM l)) (hm : ∀ m ∈ l, I64 m.2 ∧ m.1.length ≤ maxLen) : ML w (fun b => B ≤ b ∧ b < w.heap.size) v l := ML_of_own h hm fun b h1 h2 => ⟨h1, h2⟩
theorem own_form {w : World} {B n : Nat} {v : Value} {xs : List Value} (h : w.ownsRow B 43 2 v n xs) : ∃ A c, v = .slice A n c ∧ n ≤ c ∧ c ≤ maxLen := by
  obtain ⟨_, h2⟩ := h
  rcases h2 with ⟨rfl, rfl⟩ | ⟨g, cap, cur, rfl, _, _, h3, h4, _⟩
  · exact ⟨none, 0, rfl, Nat.le_refl _, by unfold maxLen; omega⟩
  · exact ⟨_, cap, rfl, h3, h4⟩

set_option maxHeartbeats 2000000 in
/-- slices.Concat of two. -/
theorem concatm_any (g : Nat) (S1 S2 : Nat → Prop) (A1 A2 : Option Addr) (c1 c2 : Nat) (l1 l2 : List Ml) (w : World) (hg : KB w g 25 #[.slice A1 l1.length c1, .slice A2 l2.length c2]) (h1 : ML w S1 (.slice A1 l1.length c1) l1) (h2 : ML w S2 (.slice A2 l2.length c2) l2) (hl1 : l1.length ≤ 100000) (hl2 : l2.length ≤ 100000) :
    Calls Try.prog 35 #[.slice (some ⟨g, 0, none⟩) 2 2] w fun e w' => ∃ v, e = .returned v ∧ w'.ownsRow w.heap.size 43 2 v (l1 ++ l2).length (flatM (l1 ++ l2)) ∧ Below w.heap.size w w' := by
  have k0 : w.cell? ⟨g, 0, none⟩ = some (.slice A1 l1.length c1) := hg.cell 0
  have k1 : w.cell? ⟨g, 1, none⟩ = some (.slice A2 l2.length c2) := hg.cell 1
  have e1 : IntKind.i64.wrap ((l1.length : Int)) = (l1.length : Int) := by rw [IntKind.wrap_i64]; omega
  have e2 : IntKind.i64.wrap ((l1.length : Int) + (l2.length : Int)) = ((l1.length + l2.length : Nat) : Int) := by rw [IntKind.wrap_i64]; omega
  have hgr := fun W => growm_any (l1.length + l2.length) (by omega) W
  have H1 := Lib.hid hl1
  have H2 := Lib.hid hl2
  clear hl1 hl2
  go_enter Try.func35, Try.ntmps35
  go_wp2_with fail
  go_loopw [3, 11] (fun tv xv wr => ((xv = .int .i64 0 ∧ tv = .int .i64 0) ∨ (xv = .int .i64 1 ∧ tv = .int .i64 (l1.length : Int)) ∨ (xv = .int .i64 2 ∧ tv = .int .i64 ((l1.length + l2.length : Nat) : Int))) ∧ w = wr) (fun _ xv _ => 2 - (intOf xv).toNat)
  case atStart => exact ⟨.inl ⟨rfl, rfl⟩, rfl⟩
  case round =>
    obtain ⟨hrel, rfl⟩ := hrel
    rcases hrel with ⟨rfl, rfl⟩ | ⟨rfl, rfl⟩ | ⟨rfl, rfl⟩
    · have D : decide ((l1.length : Int) < 0) = false := decide_eq_false (by omega)
      have D' : ¬ (l1.length : Int) < 0 := by omega
      go_wp2_with fail
      go_roundw
      case rel => exact ⟨.inr (.inl ⟨rfl, rfl⟩), (by first | rfl | trivial)⟩
      case measure => simp [intOf]
    · have D : decide (((l1.length + l2.length : Nat) : Int) < 0) = false := decide_eq_false (by omega)
      have D' : ¬ ((l1.length + l2.length : Nat) : Int) < 0 := by omega
      go_wp2_with fail
      go_roundw
      case rel => exact ⟨.inr (.inr ⟨rfl, rfl⟩), (by first | rfl | trivial)⟩
      case measure => simp [intOf]
    · go_wp2_with fail
      refine (hgr _).mono ?_
      rintro e w2 ⟨v, rfl, how, B⟩
      go_wp2_with fail
      clear hgr e1 e2
      go_loopw [6, 27] (fun vv xv wr => Below w.heap.size w wr ∧ ((xv = .int .i64 0 ∧ wr.ownsRow w.heap.size 43 2 vv ([] : List Ml).length (flatM [])) ∨ (xv = .int .i64 1 ∧ wr.ownsRow w.heap.size 43 2 vv l1.length (flatM l1)) ∨ (xv = .int .i64 2 ∧ wr.ownsRow w.heap.size 43 2 vv (l1 ++ l2).length (flatM (l1 ++ l2))))) (fun _ xv _ => 2 - (intOf xv).toNat)
      case atStart => exact ⟨B, .inl ⟨rfl, how⟩⟩
      case round =>
        obtain ⟨bl, hrel⟩ := hrel
        have kk := World.cell?_of_block (w := w) (bl.block g hg.lt) (a := ⟨g, 0, none⟩)
        have kk1 := World.cell?_of_block (w := w) (bl.block g hg.lt) (a := ⟨g, 1, none⟩)
        rw [k0] at kk
        rw [k1] at kk1
        clear how B k0 k1
        rcases hrel with ⟨rfl, hown⟩ | ⟨rfl, hown⟩ | ⟨rfl, hown⟩
        · obtain ⟨Av, cv, rfl, _⟩ := own_form hown
          have hx := h1.below' bl
          go_wp2_with (at_builtin; go_loud (refine wpList_growML _ rfl _ _ rfl w.heap.size _ [] rfl hown _ _ l1 rfl hx (by have := H1.out; simp; omega) bl.size ?_); intro v3 w3 o3 g3 ho3)
          have bl3 := bl.grown g3 bl.size fun g hg => own_ge hown g hg
          rw [List.nil_append] at o3
          go_wp2_with fail
          go_roundw
          case rel => exact ⟨bl3, .inr (.inl ⟨rfl, o3⟩)⟩
          case measure => simp [intOf]
        · obtain ⟨Av, cv, rfl, _⟩ := own_form hown
          have hx := h2.below' bl
          go_wp2_with (at_builtin; go_loud (refine wpList_growML _ rfl _ _ rfl w.heap.size _ l1 rfl hown _ _ l2 rfl hx (by have := H1.out; have := H2.out; omega) bl.size ?_); intro v3 w3 o3 g3 ho3)
          have bl3 := bl.grown g3 bl.size fun g hg => own_ge hown g hg
          have HO := Lib.hid o3
          clear o3
          go_wp2_with fail
          go_roundw
          case rel => exact ⟨bl3, .inr (.inr ⟨rfl, HO.out⟩)⟩
          case measure => simp [intOf]
        · go_wp2_with fail
          go_ret
          exact ⟨_, rfl, hown, bl⟩

theorem set_same' {α : Type} : ∀ {l : List α} {j : Nat} {u : α}, l[j]? = some u → l.set j u = l
  | [], _, _, h => by cases h
  | a :: l, 0, u, h => by simp at h; subst h; rfl
  | a :: l, j + 1, u, h => by rw [List.set_cons_succ, set_same' (l := l) (by simpa using h)]

/-- What own answers: a list of the call's own. -/
def OwnMs (w : World) (l : List Ml) (e : Ending) (w' : World) : Prop := ∃ v, e = .returned v ∧ w'.ownsRow w.heap.size 43 2 v l.length (flatM l) ∧ Below w.heap.size w w'

set_option maxHeartbeats 4000000 in
/-- own of two lists. -/
theorem ownm_any (g : Nat) (S1 S2 : Nat → Prop) (A1 A2 : Option Addr) (c1 c2 : Nat) (l1 l2 : List Ml) (w : World) (hg : KB w g 25 #[.slice A1 l1.length c1, .slice A2 l2.length c2]) (h1 : ML w S1 (.slice A1 l1.length c1) l1) (h2 : ML w S2 (.slice A2 l2.length c2) l2) (hl1 : l1.length ≤ 100000) (hl2 : l2.length ≤ 100000)
    (hn : ∀ m ∈ l1 ++ l2, m.1.length ≤ 140737488355328) :
    Calls Try.prog 29 #[.slice (some ⟨g, 0, none⟩) 2 2] w (OwnMs w (l1 ++ l2)) := by
  have hc := concatm_any g S1 S2 A1 A2 c1 c2 l1 l2 w hg h1 h2 hl1 hl2
  have hlen : (l1 ++ l2).length ≤ 200000 := by rw [List.length_append]; omega
  generalize l1 ++ l2 = l at *
  have HCL : Hid (∀ j (hj : j < l.length) W, Calls Try.prog 33 #[strV l[j].1] W fun e w' => e = .returned (strV l[j].1) ∧ Below W.heap.size W w') := fun j hj W => clone_any l[j].1 (hn _ (List.getElem_mem hj)) W
  have HAT : Hid (∀ j (hj : j < l.length), (flatM l)[j * 2]? = some (strV l[j].1)) := fun j hj => (flatM_at l j _ (List.getElem?_eq_getElem hj)).1
  clear hn hg h1 h2 hl1 hl2 l1 l2
  go_enter Try.func29, Try.ntmps29
  go_wp2_with fail
  refine hc.mono ?_
  rintro e w2 ⟨v, rfl, how, B⟩
  obtain ⟨Av, cv, rfl, hlc, hcm⟩ := own_form how
  clear hc
  go_wp2_with fail
  go_loopw [9] (fun xv wr => ∃ j : Nat, j ≤ l.length ∧ xv = .int .i64 j ∧ wr.ownsRow w.heap.size 43 2 (.slice Av l.length cv) l.length (flatM l) ∧ Below w.heap.size w wr) (fun xv _ => l.length - (intOf xv).toNat)
  case atStart => exact ⟨0, by omega, rfl, how, B⟩
  case round =>
    clear how B
    obtain ⟨j, hj, rfl, how, B⟩ := hrel
    by_cases hlt : j < l.length
    · have hltI : (j : Int) < (l.length : Int) := by omega
      obtain ⟨g, rfl⟩ : ∃ g, Av = some ⟨g, 0, none⟩ := by
        obtain ⟨_, h2⟩ := how
        rcases h2 with ⟨e, h0⟩ | ⟨g, cap, cur, e, _⟩
        · omega
        · injection e with e; exact ⟨g, e⟩
      have hcl := HCL.out j hlt
      have hat := HAT.out j hlt
      have k0 : wr.cell? ⟨g, j * 2, none⟩ = some (strV l[j].1) := (how.cellAt (j * 2) (by omega)).trans hat
      have HAJ := Lib.hid hat
      clear hat
      unfold strV at *
      generalize (⟨l[j].1.toArray⟩ : ByteArray) = s at *
      go_wp2_with fail
      refine (hcl _).mono ?_
      rintro e w5 ⟨rfl, b5⟩
      have B5 := B.trans (b5.mono B.size)
      have how5 := own_past b5 how
      have f5 := how5.frozenAt (j * 2)
      have k5 : w5.cell? ⟨g, j * 2, none⟩ = some (.string s) := (how5.cellAt (j * 2) (by omega)).trans HAJ.out
      have how6 := how5.stored (j * 2) (.string s)
      rw [set_same' HAJ.out] at how6
      replace how6 := how6.1
      have hge := own_ge how5 g rfl
      have B6 := B5.setCell (p := ⟨g, j * 2, none⟩) hge (.string s)
      clear hcl k0 b5 B how how5 B5
      go_wp2_with fail
      go_roundw
      case rel => exact ⟨j + 1, by omega, by go_num, how6, B6⟩
      case measure => simp [intOf]; omega
    · go_wp2_with fail
      go_ret
      exact ⟨_, rfl, how, B⟩
end Go.Proofs.Ytommcdgognlfcaa
