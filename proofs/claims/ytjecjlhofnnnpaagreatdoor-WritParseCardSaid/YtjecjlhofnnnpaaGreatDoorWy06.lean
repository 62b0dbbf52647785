/-
  WtC: Words that are left, and whether reading failed (layer 21): the document's state in memory; take, ahead; a row of texts that grows; over the loaded program: each one's contract. No condition but the sizes that each contract names.
  SpA: Units of spans: the program's size, upTo, Days, After, Add, and the document's Unit, Days, After, Add (layer 15), over the loaded program: each one's contract. No condition but that a number is an int.
  SpB: Numbers told in digits: the program's number and the document's Number of at most seven digits (layer 15), over the loaded program: each one's contract. No condition.
  WtD: Numbers told in digits: the document's Number of at most thirteen digits (layers 15, 21), over the loaded program: its contract. No condition.
  Step: append onto a row of the call's own, as one step of a region that draws its order: over any program. No condition.
  ScY: Scopes that came in; append of one scope onto a row of the call's own; over the loaded program. No condition. (WRITTEN IN ROUND 19, NEVER COMPILED: no seat had api.Scope yet.)
-/
import Derived.Test.YtjecjlhofnnnpaaGreatDoorWy04
import Derived.Test.YtjecjlhofnnnpaaGreatDoorWy05
import Derived.BigQuiet
import Derived.Test.YtjecjlhofnnnpaaGreatDoorWy03
import Derived.Test.YtjecjlhofnnnpaaGreatDoorWy01
import Derived.Lib.Hide
import Derived.Deep.RegionLaw
set_option linter.unusedVariables false
set_option maxRecDepth 100000
namespace Go.Proofs.YtjecjlhofnnnpaaGreatDoor
section
open Go.RowKit
theorem info_wstr : (Tryz.prog.info? 9).map (fun i => (i.zero, i.size, i.bytes)) = some (some (.string ⟨#[]⟩), 1, 16) := by kernel_rfl
theorem run_growW (w : World) (base : Nat) (ty : TypeId) (v : Value) (xs : List (List UInt8)) (hown : w.ownsRow base 9 1 v xs.length (xs.map strV)) (ad : Addr) (c : Nat) (x : List UInt8) (hx : w.cell? ad = some (strV x))
    (hb : xs.length ≤ 1000000000) (hbase : base ≤ w.heap.size) :
    ∃ v' w', (Builtin.append_ #[42, 42] ty #[v, .slice (some ad) 1 c]).run Tryz.prog w = .ok v' w' ∧ w'.ownsRow base 9 1 v' (xs ++ [x]).length ((xs ++ [x]).map strV) ∧ w.grownBy w' v.ownBlock ∧
      (v'.ownBlock = v.ownBlock ∨ v'.ownBlock = some w.heap.size) := by
  obtain ⟨i0, hi, hz0, hz1, hz2⟩ := info_parts info_wstr
  obtain ⟨v', w', h1, h2, h3, _, h5⟩ := run_append_own_at (P := Tryz.prog) w base 42 ty 9 i0 _ 1 16 Tryz.underlying42 hi hz0 hz1 hz2 rfl (by omega) v xs.length _ hown ad 1 c [strV x] (by simp) (by
      intro j u hu
      match j, hu with
      | 0, hu =>
        simp at hu
        subst hu
        rw [show ad.add 0 = ad from by cases ad; rfl]
        exact hx) (by intro u hu; simp at hu; subst hu; rfl)
    (by unfold maxLen; omega) (by omega) hbase
  exact ⟨v', w', h1, by simpa using h2, h3, h5⟩
theorem wpList_growW (w : World) {ops : Array Oper} {rest : List Oper} {o : Oper} {a : Act} {Q : Exit → Act → World → Prop} (hgd : o.guard = none) (s y : Operand)
    (ho : o.op = .call { callee := .builtin .append, args := #[s, y], argTypes := #[42, 42] })
    (base : Nat) (v : Value) (xs : List (List UInt8)) (hs : a.eval s = v) (hown : w.ownsRow base 9 1 v xs.length (xs.map strV))
    (ad : Addr) (c : Nat) (x : List UInt8) (hxe : a.eval y = .slice (some ad) 1 c) (hx : w.cell? ad = some (strV x)) (hb : xs.length ≤ 1000000000) (hbase : base ≤ w.heap.size)
    (h : ∀ v' w', w'.ownsRow base 9 1 v' (xs ++ [x]).length ((xs ++ [x]).map strV) → w.grownBy w' v.ownBlock → (v'.ownBlock = v.ownBlock ∨ v'.ownBlock = some w.heap.size) → wpList Tryz.prog ops Q rest (a.put o.dst v') w') :
    wpList Tryz.prog ops Q (o :: rest) a w := by
  refine wpList_plain hgd fun K hK => ?_
  obtain ⟨v', w', hrun, h2, h3, h4⟩ := run_growW w base o.type v xs hown ad c x hx hb hbase
  unfold Oper.wp execOp
  simp only [ho, resolve, invoke, builtin, Sem.run_bind, Sem.run_pure, Result.andThen_ok, List.map_toArray, List.map_cons, List.map_nil, hs, hxe, hrun]
  exact hK _ _ (h v' w' h2 h3 h4)
theorem CS.drop1 {w : World} {S : Nat → Prop} {b o n c : Nat} {u : Value} {cs : List Value} (h : CS w S (.slice (some ⟨b, o, none⟩) n c) (u :: cs)) :
    CS w S (.slice (some (if c = 1 then ⟨b, o, none⟩ else ⟨b, o + 1, none⟩)) (n - 1) (c - 1)) cs := by
  obtain ⟨A, c', e, hl, hc, hx⟩ := h
  injection e with e1 e2 e3
  subst e1 e2 e3
  rw [List.length_cons] at hl hx ⊢
  refine ⟨_, _, rfl, by omega, by omega, fun h0 => ?_⟩
  obtain ⟨b', o', ea, sb, hb, hx⟩ := hx (by omega)
  injection ea with ea
  injection ea with ea eo _
  subst ea eo
  rw [if_neg (by omega)]
  refine ⟨b, o + 1, rfl, sb, hb, fun j u hu => ?_⟩
  have := hx (j + 1) u (by simpa using hu)
  rwa [show o + 1 + j = o + (j + 1) from by omega]
def SW (w : World) (g : Nat) (S : Nat → Prop) (st : Option (List Wv)) : Prop :=
  ∃ A n c ws, KB w g 50 #[.slice A n c, .bool st.isNone] ∧ CS w S (.slice A n c) (ws.map strV) ∧ ¬ S g ∧ (∀ u ∈ ws, u.length ≤ 1000) ∧ ∀ l, st = some l → ws = l
theorem SW.keep {w w' : World} {g : Nat} {S : Nat → Prop} {st : Option (List Wv)} (h : SW w g S st) (hs : w.heap.size ≤ w'.heap.size) (hg : w'.heap[g]? = w.heap[g]?) (hk : ∀ b, S b → b < w.heap.size → w'.heap[b]? = w.heap[b]?) : SW w' g S st := by
  obtain ⟨A, n, c, ws, h1, h2, h3, h4, h5⟩ := h
  exact ⟨A, n, c, ws, h1.keep hg, h2.keep hs hk, h3, h4, h5⟩
theorem SW.lt {w : World} {g : Nat} {S : Nat → Prop} {st : Option (List Wv)} (h : SW w g S st) : g < w.heap.size := by
  obtain ⟨_, _, _, _, h1, _⟩ := h
  exact h1.lt
theorem SW.below {w w' : World} {g : Nat} {S : Nat → Prop} {st : Option (List Wv)} (h : SW w g S st) (hb : Below w.heap.size w w') : SW w' g S st := h.keep hb.size (hb.block g h.lt) fun b _ hl => hb.block b hl
theorem SW.alloc {w : World} {g : Nat} {S : Nat → Prop} {st : Option (List Wv)} (h : SW w g S st) (o : Obj) : SW (w.alloc o) g S st := h.below ((Below.refl _ _).alloc (Nat.le_refl _) o)
theorem SW.grownX {w w' : World} {g : Nat} {S : Nat → Prop} {st : Option (List Wv)} {row : Option Nat} (h : SW w g S st) (hg : w.grownBy w' row) (hr : ∀ x, row = some x → x ≠ g ∧ ¬ S x) : SW w' g S st :=
  h.keep hg.size (hg.block g h.lt (fun e => (hr g e.symm).1 rfl)) fun b sb hb => hg.block b hb (fun e => (hr b e.symm).2 sb)
theorem SW.far {w : World} {g h i : Nat} {S : Nat → Prop} {st : Option (List Wv)} {u : Value} (r : SW w g S st) (hne : h ≠ g) (hS : ¬ S h) : SW (w.setCell ⟨h, i, none⟩ u) g S st :=
  r.grownX (grown_set w h i u) fun x e => by injection e with e; subst e; exact ⟨hne, hS⟩
theorem SW.failed {w : World} {g : Nat} {S : Nat → Prop} {st : Option (List Wv)} (h : SW w g S st) : SW (w.setCell ⟨g, 1, none⟩ (.bool true)) g S none := by
  obtain ⟨A, n, c, ws, h1, h2, h3, h4, h5⟩ := h
  exact ⟨A, n, c, ws, h1.put 1 _, h2.keep (by simp [World.setCell]) (fun b sb _ => Below.heap_setCell w ⟨g, 1, none⟩ (.bool true) b (fun e => h3 (by have e : b = g := e; rw [← e]; exact sb))), h3, h4, fun l e => by cases e⟩
theorem SW.cells {w : World} {g : Nat} {S : Nat → Prop} {st : Option (List Wv)} (h : SW w g S st) : (∃ A n c, w.cell? ⟨g, 0, none⟩ = some (.slice A n c)) ∧ w.cell? ⟨g, 1, none⟩ = some (.bool st.isNone) ∧ w.frozen? ⟨g, 0, none⟩ = false ∧ w.frozen? ⟨g, 1, none⟩ = false := by
  obtain ⟨A, n, c, ws, h1, _⟩ := h
  exact ⟨⟨A, n, c, h1.cell 0⟩, h1.cell 1, h1.free 0, h1.free 1⟩
def takeW : Option (List Wv) → Wv × Option (List Wv)
  | some (u :: l) => (u, some l)
  | _ => ([], none)
def aheadW : Option (List Wv) → Wv → Bool
  | some (u :: _), v => decide (u = v)
  | _, _ => false
set_option maxHeartbeats 4000000 in
theorem wtake_any (g : Nat) (S : Nat → Prop) (st : Option (List Wv)) (w : World) (h : SW w g S st) :
    Calls Tryz.prog 34 #[.pointer (some ⟨g, 0, none⟩)] w fun e w' => e = .returned (strV (takeW st).1) ∧ SW w' g S (takeW st).2 ∧ w.grownBy w' (some g) := by
  have hF := h.failed
  have G1 := grown_set w g 1 (.bool true)
  rcases st with _ | _ | ⟨u, l⟩
  · obtain ⟨⟨A, n, c, c0⟩, c1, f0, f1⟩ := h.cells
    have hf : Hid (SW (w.setCell ⟨g, 1, none⟩ (.bool true)) g S none) := hF
    have c1 : w.cell? ⟨g, 1, none⟩ = some (.bool true) := c1
    clear h hF
    go_enter Tryz.func34, Tryz.ntmps34
    go_wp2_with fail
    go_ret
    exact ⟨rfl, hf.out, G1⟩
  · obtain ⟨A, n, c, ws, h1, h2, h3, h4, h5⟩ := h
    obtain rfl := h5 [] rfl
    obtain ⟨A', c', e, _⟩ := h2.form
    injection e with e1 e2 e3
    subst e1 e2
    have c0 : w.cell? ⟨g, 0, none⟩ = some (.slice A 0 c) := h1.cell 0
    have c1 : w.cell? ⟨g, 1, none⟩ = some (.bool false) := h1.cell 1
    have f1 := h1.free 1
    have hf : Hid (SW (w.setCell ⟨g, 1, none⟩ (.bool true)) g S none) := hF
    clear hF h1 h2 h5
    go_enter Tryz.func34, Tryz.ntmps34
    go_wp2_with fail
    go_ret
    exact ⟨rfl, hf.out, G1⟩
  · obtain ⟨A, n, c, ws, h1, h2, h3, h4, h5⟩ := h
    obtain rfl := h5 (u :: l) rfl
    obtain ⟨b, o, rfl, sb, hb, hx⟩ := h2.at_ (by simp)
    have hu : w.cell? ⟨b, o, none⟩ = some (strV u) := hx 0 (strV u) rfl
    obtain ⟨A', c', e, hl, hc⟩ := h2.form
    injection e with e1 e2 e3
    subst e1 e2 e3
    have hd := h2.drop1
    have c0 : w.cell? ⟨g, 0, none⟩ = some (.slice (some ⟨b, o, none⟩) ((u :: l).map strV).length c) := h1.cell 0
    have c1 : w.cell? ⟨g, 1, none⟩ = some (.bool false) := h1.cell 1
    have f0 := h1.free 0
    have hne : b ≠ g := fun e => h3 (e ▸ sb)
    have hn : ((u :: l).map strV).length = l.length + 1 := by simp
    have HN : Hid (SW (w.setCell ⟨g, 0, none⟩ (.slice (some (if c = 1 then ⟨b, o, none⟩ else ⟨b, o + 1, none⟩)) (l.length + 1 - 1) (c - 1))) g S (some l)) := by
      refine ⟨_, _, _, l, h1.put 0 _, ?_, h3, fun v hv => h4 v (List.mem_cons_of_mem _ hv), fun l' e => by injection e⟩
      rw [hn] at hd
      exact hd.keep (by simp [World.setCell]) fun x sx _ => Below.heap_setCell w ⟨g, 0, none⟩ _ x (fun e => h3 (by have e : x = g := e; rw [← e]; exact sx))
    have G0 := grown_set w g 0 (.slice (some (if c = 1 then ⟨b, o, none⟩ else ⟨b, o + 1, none⟩)) (l.length + 1 - 1) (c - 1))
    rw [hn] at c0 hl
    have hlI : (1 : Int) ≤ (c : Int) := by omega
    have hl1 : 1 ≤ c := by omega
    have hnm : c ≤ 9223372036854775807 := by unfold maxLen at hc; omega
    have HG := Lib.hid G0
    clear hd h1 h2 h5 hx hF G1 hn h4 G0
    show Calls _ _ _ _ fun e w' => e = .returned (strV u) ∧ SW w' g S (some l) ∧ w.grownBy w' (some g)
    unfold strV at *
    generalize (⟨u.toArray⟩ : ByteArray) = s at *
    by_cases hc1 : c = 1
    · subst hc1
      rw [if_pos rfl] at HN HG
      have hl0 : l.length = 0 := by omega
      rw [hl0] at c0 HN HG hl
      clear hl0
      go_enter Tryz.func34, Tryz.ntmps34
      go_wp2_with fail
      go_ret
      exact ⟨rfl, HN.out, HG.out⟩
    · rw [if_neg hc1] at HN HG
      have e1 : l.length + 1 - 1 = l.length := by omega
      rw [e1] at HN HG
      clear e1
      go_enter Tryz.func34, Tryz.ntmps34
      go_wp2_with fail
      go_ret
      exact ⟨rfl, HN.out, HG.out⟩
set_option maxHeartbeats 4000000 in
theorem wahead_any (g : Nat) (S : Nat → Prop) (st : Option (List Wv)) (v : Wv) (w : World) (h : SW w g S st) :
    Calls Tryz.prog 33 #[.pointer (some ⟨g, 0, none⟩), strV v] w fun e w' => e = .returned (.bool (aheadW st v)) ∧ w' = w := by
  rcases st with _ | _ | ⟨u, l⟩
  · obtain ⟨⟨A, n, c, c0⟩, c1, _, _⟩ := h.cells
    have c1 : w.cell? ⟨g, 1, none⟩ = some (.bool true) := c1
    clear h
    unfold strV
    generalize (⟨v.toArray⟩ : ByteArray) = s at *
    go_enter Tryz.func33, Tryz.ntmps33
    go_wp2_with fail
    go_ret
    exact ⟨rfl, rfl⟩
  · obtain ⟨A, n, c, ws, h1, h2, h3, h4, h5⟩ := h
    obtain rfl := h5 [] rfl
    obtain ⟨A', c', e, _⟩ := h2.form
    injection e with e1 e2 e3
    subst e1 e2
    have c0 : w.cell? ⟨g, 0, none⟩ = some (.slice A 0 c) := h1.cell 0
    have c1 : w.cell? ⟨g, 1, none⟩ = some (.bool false) := h1.cell 1
    clear h1 h2 h5
    unfold strV
    generalize (⟨v.toArray⟩ : ByteArray) = s at *
    go_enter Tryz.func33, Tryz.ntmps33
    go_wp2_with fail
    go_ret
    exact ⟨rfl, rfl⟩
  · obtain ⟨A, n, c, ws, h1, h2, h3, h4, h5⟩ := h
    obtain rfl := h5 (u :: l) rfl
    obtain ⟨b, o, rfl, sb, hb, hx⟩ := h2.at_ (by simp)
    have hu : w.cell? ⟨b, o, none⟩ = some (strV u) := hx 0 (strV u) rfl
    obtain ⟨A', c', e, hl, hc⟩ := h2.form
    injection e with e1 e2 e3
    subst e1 e2 e3
    have c0 : w.cell? ⟨g, 0, none⟩ = some (.slice (some ⟨b, o, none⟩) ((u :: l).map strV).length c) := h1.cell 0
    have c1 : w.cell? ⟨g, 1, none⟩ = some (.bool false) := h1.cell 1
    have hn : ((u :: l).map strV).length = l.length + 1 := by simp
    rw [hn] at c0 hl
    have hpos : (0 : Int) < ((l.length + 1 : Nat) : Int) := by omega
    have hposN : 0 < l.length + 1 := by omega
    generalize l.length + 1 = n at *
    clear h1 h2 h5 hx hn h4
    show Calls _ _ _ _ fun e w' => e = .returned (.bool (decide (u = v))) ∧ w' = w
    unfold strV at *
    obtain ⟨s, hs⟩ : ∃ s : ByteArray, s = ⟨u.toArray⟩ := ⟨_, rfl⟩
    obtain ⟨s', hs'⟩ : ∃ s : ByteArray, s = ⟨v.toArray⟩ := ⟨_, rfl⟩
    have gq := zeq_txt s s' u v hs hs'
    rw [← hs] at hu
    rw [← hs']
    clear hs hs'
    generalize decide (u = v) = b at *
    go_enter Tryz.func33, Tryz.ntmps33
    go_wp2_with fail
    go_ret
    exact ⟨rfl, rfl⟩
end
section
open Go.RowKit
theorem days_1 (n : Int) (c : Nat) (hu : unitD c = 1) :
    (if n < 0 then Value.tuple #[.int .i64 0, .int .i64 1] else if 1048576 < n then .tuple #[.int .i64 0, .int .i64 16] else .tuple #[.int .i64 (n), .int .i64 0]) = .tuple #[.int .i64 (daysD n c).1, .int .i64 (daysD n c).2] := by
  unfold daysD
  rw [hu]
  have e : (1048576 : Int) / ((1 : Nat) : Int) = 1048576 := rfl
  have e2 : n * ((1 : Nat) : Int) = n := Int.mul_one n
  rw [e, e2]
  by_cases h0 : n < 0
  · rw [if_pos h0, if_pos (.inl h0)]
  · have hno : ¬ (n < 0 ∨ 1 = 0) := by omega
    rw [if_neg h0, if_neg hno]
    by_cases h1 : 1048576 < n
    · rw [if_pos h1, if_pos h1]
    · rw [if_neg h1, if_neg h1]
theorem days_7 (n : Int) (c : Nat) (hu : unitD c = 7) :
    (if n < 0 then Value.tuple #[.int .i64 0, .int .i64 1] else if 149796 < n then .tuple #[.int .i64 0, .int .i64 16] else .tuple #[.int .i64 (n * 7), .int .i64 0]) = .tuple #[.int .i64 (daysD n c).1, .int .i64 (daysD n c).2] := by
  unfold daysD
  rw [hu]
  have e : (1048576 : Int) / ((7 : Nat) : Int) = 149796 := rfl
  have e2 : n * ((7 : Nat) : Int) = n * 7 := rfl
  rw [e, e2]
  by_cases h0 : n < 0
  · rw [if_pos h0, if_pos (.inl h0)]
  · have hno : ¬ (n < 0 ∨ 7 = 0) := by omega
    rw [if_neg h0, if_neg hno]
    by_cases h1 : 149796 < n
    · rw [if_pos h1, if_pos h1]
    · rw [if_neg h1, if_neg h1]
theorem days_30 (n : Int) (c : Nat) (hu : unitD c = 30) :
    (if n < 0 then Value.tuple #[.int .i64 0, .int .i64 1] else if 34952 < n then .tuple #[.int .i64 0, .int .i64 16] else .tuple #[.int .i64 (n * 30), .int .i64 0]) = .tuple #[.int .i64 (daysD n c).1, .int .i64 (daysD n c).2] := by
  unfold daysD
  rw [hu]
  have e : (1048576 : Int) / ((30 : Nat) : Int) = 34952 := rfl
  have e2 : n * ((30 : Nat) : Int) = n * 30 := rfl
  rw [e, e2]
  by_cases h0 : n < 0
  · rw [if_pos h0, if_pos (.inl h0)]
  · have hno : ¬ (n < 0 ∨ 30 = 0) := by omega
    rw [if_neg h0, if_neg hno]
    by_cases h1 : 34952 < n
    · rw [if_pos h1, if_pos h1]
    · rw [if_neg h1, if_neg h1]
theorem days_365 (n : Int) (c : Nat) (hu : unitD c = 365) :
    (if n < 0 then Value.tuple #[.int .i64 0, .int .i64 1] else if 2872 < n then .tuple #[.int .i64 0, .int .i64 16] else .tuple #[.int .i64 (n * 365), .int .i64 0]) = .tuple #[.int .i64 (daysD n c).1, .int .i64 (daysD n c).2] := by
  unfold daysD
  rw [hu]
  have e : (1048576 : Int) / ((365 : Nat) : Int) = 2872 := rfl
  have e2 : n * ((365 : Nat) : Int) = n * 365 := rfl
  rw [e, e2]
  by_cases h0 : n < 0
  · rw [if_pos h0, if_pos (.inl h0)]
  · have hno : ¬ (n < 0 ∨ 365 = 0) := by omega
    rw [if_neg h0, if_neg hno]
    by_cases h1 : 2872 < n
    · rw [if_pos h1, if_pos h1]
    · rw [if_neg h1, if_neg h1]
end
section
open Go.RowKit
theorem numF_step {l : List UInt8} {k m : Nat} {x : UInt8} (hx : l[k]? = some x) (h0 : 48 ≤ x.toNat) (h1 : x.toNat ≤ 57) : numF m (l.drop k) = numF (10 * m + (x.toNat - 48)) (l.drop (k + 1)) := by
  obtain ⟨hk, rfl⟩ := List.getElem?_eq_some_iff.1 hx
  rw [List.drop_eq_getElem_cons hk]
  simp only [numF]
  rw [if_pos ⟨h0, h1⟩]
theorem numF_stop {l : List UInt8} {k m : Nat} {x : UInt8} (hx : l[k]? = some x) (h : ¬ (48 ≤ x.toNat ∧ x.toNat ≤ 57)) : numF m (l.drop k) = none := by
  obtain ⟨hk, rfl⟩ := List.getElem?_eq_some_iff.1 hx
  rw [List.drop_eq_getElem_cons hk]
  simp only [numF]
  rw [if_neg h]
theorem numF_end {l : List UInt8} {k m : Nat} (h : l.length ≤ k) : numF m (l.drop k) = some m := by
  rw [List.drop_of_length_le h]; rfl
theorem ten_six {k m : Nat} (hk : k ≤ 6) (hm : m < 10 ^ k) : m < 1000000 :=
  Nat.lt_of_lt_of_le hm (by have := Nat.pow_le_pow_right (n := 10) (by decide) hk; simpa using this)
theorem ten_step {k m d : Nat} (hm : m < 10 ^ k) (hd : d < 10) : 10 * m + d < 10 ^ (k + 1) := by
  rw [Nat.pow_succ]; omega
end
section
open Go.RowKit
def numIT : Option Nat → Int
  | none => -1
  | some n => (n : Int)
theorem ten_twelve {k m : Nat} (hk : k ≤ 12) (hm : m < 10 ^ k) : m < 1000000000000 :=
  Nat.lt_of_lt_of_le hm (by have := Nat.pow_le_pow_right (n := 10) (by decide) hk; simpa using this)
set_option maxHeartbeats 2000000 in
theorem wnumber_any (l : List UInt8) (hl : l.length ≤ maxLen) (w : World) :
    Calls Tryz.prog 64 #[strV l, .int .i64 13] w fun e w' => e = .returned (.int .i64 (numIT (numT l))) ∧ w = w' := by
  have hs : ((⟨l.toArray⟩ : ByteArray).size : Int) = (l.length : Int) := rfl
  have hml : l.length ≤ 9223372036854775807 := by unfold maxLen at hl; omega
  unfold strV
  by_cases q1 : l.length < 1
  · have e : numT l = none := by unfold numT; rw [if_pos (.inl q1)]
    rw [e]
    clear hl
    go_enter Tryz.func64, Tryz.ntmps64
    go_wp2
    go_ret
    exact ⟨rfl, rfl⟩
  by_cases q2 : 13 < l.length
  · have e : numT l = none := by unfold numT; rw [if_pos (.inr (.inl q2))]
    rw [e]
    clear hl
    go_enter Tryz.func64, Tryz.ntmps64
    go_wp2
    go_ret
    exact ⟨rfl, rfl⟩
  obtain ⟨x, hx⟩ : ∃ x, l[0]? = some x := ⟨_, List.getElem?_eq_getElem (by omega)⟩
  have hh : l.head? = some x := by rw [List.head?_eq_getElem?]; exact hx
  have hix := txt_at l 0 x hx
  simp only [Int.natCast_zero] at hix
  by_cases q3 : x = 48 ∧ 1 < l.length
  · have e : numT l = none := by unfold numT; rw [if_pos (.inr (.inr ⟨by rw [hh, q3.1], q3.2⟩))]
    rw [e]
    obtain ⟨q3, q4⟩ := q3
    subst q3
    clear hl hh hx e
    go_enter Tryz.func64, Tryz.ntmps64
    go_wp2
    go_ret
    exact ⟨rfl, rfl⟩
  have hone : ¬ (x = 48 ∧ 1 < l.length) := q3
  have e : numT l = numF 0 l := by
    unfold numT
    rw [if_neg]
    rintro (a | a | ⟨a, b⟩)
    · exact q1 a
    · exact q2 a
    · rw [hh] at a
      exact q3 ⟨Option.some.inj a, b⟩
  rw [e]
  obtain ⟨r, hr⟩ : ∃ r, r = numF 0 l := ⟨_, rfl⟩
  rw [← hr]
  have HR := Lib.hid hr
  have HAT := Lib.hid (txt_at l)
  have hx0 := x.toNat_lt
  have hq : (x.toNat = 48 ∧ ¬ 1 < l.length) ∨ (x.toNat ≠ 48 ∧ ¬ 1 < l.length) ∨ (((x.toNat : Int) == 48) = false ∧ 1 < l.length) := by
    by_cases hc : x.toNat = 48
    · exact .inl ⟨hc, fun h => q3 ⟨UInt8.toNat.inj (by rw [hc]; rfl), h⟩⟩
    · by_cases h1 : 1 < l.length
      · exact .inr (.inr ⟨beq_eq_false_iff_ne.2 (by omega), h1⟩)
      · exact .inr (.inl ⟨hc, h1⟩)
  generalize x.toNat = c at hix hx0 hq
  clear q3 hone e hr hh hx
  obtain ⟨s, hse⟩ : ∃ s : ByteArray, s = ⟨l.toArray⟩ := ⟨_, rfl⟩
  rw [← hse] at hs hix HAT ⊢
  clear hse hl
  rcases hq with ⟨rfl, q4⟩ | ⟨q4, q5⟩ | ⟨q4, q5⟩
  all_goals
    go_enter Tryz.func64, Tryz.ntmps64
    go_wp2
    go_loop [5, 6] (fun n i => ∃ (k m : Nat), k ≤ l.length ∧ i = .int .i64 k ∧ n = .int .i64 m ∧ Hid (numF 0 l = numF m (l.drop k)) ∧ Hid (m < 10 ^ k)) (fun _ i => l.length - (intOf i).toNat)
    case atStart => exact ⟨0, 0, by omega, rfl, rfl, rfl, Nat.one_pos⟩
    case round =>
      clear hix
      obtain ⟨k, m, hk, rfl, rfl, ha, hm⟩ := hrel
      by_cases hlt : k < l.length
      · obtain ⟨y, hy⟩ : ∃ y, l[k]? = some y := ⟨_, List.getElem?_eq_getElem hlt⟩
        have hiy := HAT.out k y hy
        have hyl := y.toNat_lt
        have HST := Lib.hid (numF_step (m := m) hy)
        have HSO := Lib.hid (numF_stop (m := m) hy)
        have hm6 := ten_twelve (by omega) hm.out
        generalize y.toNat = d at hiy hyl HST HSO
        clear hy HAT
        by_cases b1 : d < 48
        · have e0 : r = none := by rw [HR.out, ha.out, HSO.out (by omega)]
          subst e0
          clear ha HST HSO HR hm
          go_wp2
          go_ret
          exact ⟨rfl, rfl⟩
        by_cases b2 : 57 < d
        · have e0 : r = none := by rw [HR.out, ha.out, HSO.out (by omega)]
          subst e0
          clear ha HST HSO HR hm
          go_wp2
          go_ret
          exact ⟨rfl, rfl⟩
        · have hn := Lib.hid (ha.out.trans (HST.out (by omega) (by omega)))
          have hm2 := Lib.hid (ten_step (d := d - 48) hm.out (by omega))
          obtain ⟨z, hz⟩ : ∃ z, z = d - 48 := ⟨_, rfl⟩
          rw [← hz] at hn hm2
          have ez : IntKind.u8.wrap ((d : Int) - 48) = (z : Int) := by rw [IntKind.wrap_u8]; omega
          clear ha HST HSO HR hm
          go_wp2
          go_round
          case rel => exact ⟨k + 1, 10 * m + z, by omega, by go_num, by go_num, hn, hm2⟩
          case measure => simp [intOf]; omega
      · have e0 : r = some m := by rw [HR.out, ha.out, numF_end (by omega)]
        subst e0
        clear ha HR hm HAT
        go_wp2
        go_ret
        exact ⟨rfl, rfl⟩
end
section
open Go.RowKit
theorem step_grow {P : Program} {ops : Array Oper} {o : Oper} {a : Act} {w : World} {K : Act → World → Prop} {Q : Exit → Act → World → Prop} {E : Prop}
    (hg : o.guard = none) (s x : Operand) (t : TypeId) (hop : o.op = Op.call { callee := Callee.builtin Builtin.append, args := #[s, x], argTypes := #[t, t] })
    (base : Nat) (e : TypeId) (i : TypeInfo) (ht : P.underlying t = some (.slice e)) (hi : P.info? e = some i) (hz : i.zero = some (.int .u8 0))
    (hsize : i.size = 1) (hby : i.bytes = 1) (v : Value) (xs : List UInt8) (hs : a.eval s = v) (hown : w.ownsRow base e 1 v xs.length (xs.map bv))
    (S : Nat → Prop) (xv : Value) (ys : List UInt8) (hxe : a.eval x = xv) (hx : BS w S xv ys) (hb : xs.length + ys.length ≤ 140737488355328) (hbase : base ≤ w.heap.size)
    (hK : ∀ v' w', w'.ownsRow base e 1 v' (xs ++ ys).length ((xs ++ ys).map bv) → w.grownBy w' v.ownBlock → (v'.ownBlock = v.ownBlock ∨ v'.ownBlock = some w.heap.size) → K (a.put o.dst v') w') :
    if Region.wanted o (yielded ops a.tmps) = true then Oper.wp P o a w K Q else E := by
  have hw : Region.wanted o (yielded ops a.tmps) = true := by simp [Region.wanted, hg]
  rw [if_pos hw]
  obtain ⟨v', w', hrun, h2, h3, h4⟩ := run_grow (P := P) w base t o.type e i ht hi hz hsize hby v xs hown S xv ys hx hb hbase
  unfold Oper.wp execOp
  simp only [hop, resolve, invoke, builtin, Sem.run_bind, Sem.run_pure, Result.andThen_ok, List.map_toArray, List.map_cons, List.map_nil, hs, hxe, hrun]
  exact hK _ _ h2 h3 h4
theorem wp_grow {P : Program} {o : Oper} {a : Act} {w : World} {K : Act → World → Prop} {Q : Exit → Act → World → Prop}
    (s x : Operand) (t : TypeId) (hop : o.op = Op.call { callee := Callee.builtin Builtin.append, args := #[s, x], argTypes := #[t, t] })
    (base : Nat) (e : TypeId) (i : TypeInfo) (ht : P.underlying t = some (.slice e)) (hi : P.info? e = some i) (hz : i.zero = some (.int .u8 0))
    (hsize : i.size = 1) (hby : i.bytes = 1) (v : Value) (xs : List UInt8) (hs : a.eval s = v) (hown : w.ownsRow base e 1 v xs.length (xs.map bv))
    (S : Nat → Prop) (xv : Value) (ys : List UInt8) (hxe : a.eval x = xv) (hx : BS w S xv ys) (hb : xs.length + ys.length ≤ 140737488355328) (hbase : base ≤ w.heap.size)
    (hK : ∀ v' w', w'.ownsRow base e 1 v' (xs ++ ys).length ((xs ++ ys).map bv) → w.grownBy w' v.ownBlock → (v'.ownBlock = v.ownBlock ∨ v'.ownBlock = some w.heap.size) → K (a.put o.dst v') w') :
    Oper.wp P o a w K Q := by
  obtain ⟨v', w', hrun, h2, h3, h4⟩ := run_grow (P := P) w base t o.type e i ht hi hz hsize hby v xs hown S xv ys hx hb hbase
  unfold Oper.wp execOp
  simp only [hop, resolve, invoke, builtin, Sem.run_bind, Sem.run_pure, Result.andThen_ok, List.map_toArray, List.map_cons, List.map_nil, hs, hxe, hrun]
  exact hK _ _ h2 h3 h4
theorem own_ne {w : World} {B e size n g : Nat} {v : Value} {xs : List Value} (h : w.ownsRow B e size v n xs) (hg : g < B) : v.ownBlock ≠ some g := by
  obtain ⟨_, h2⟩ := h
  rcases h2 with ⟨rfl, _⟩ | ⟨g', c, cur, rfl, hb, _⟩
  · simp [Value.ownBlock]
  · simp [Value.ownBlock]; omega
theorem own_ge {w : World} {B e size n : Nat} {v : Value} {xs : List Value} (h : w.ownsRow B e size v n xs) (k : Nat) (hk : v.ownBlock = some k) : B ≤ k := by
  rcases Nat.lt_or_ge k B with hlt | hge
  · exact absurd hk (own_ne h hlt)
  · exact hge
end
section
open Go.RowKit Go.ChangeShapes Go.WideShapes Go.Joins
theorem cells_scope : Tryz.prog.cellsOf 24 = 5 := by kernel_rfl
theorem cells_znum : Tryz.prog.cellsOf 3 = 1 := by kernel_rfl
theorem cells_zstr : Tryz.prog.cellsOf 9 = 1 := by kernel_rfl
theorem cells_scopes : Tryz.prog.cellsOf 22 = 1 := by kernel_rfl
theorem five_of {cs : List Value} (h : cs.length = 5) : ∃ c0 c1 c2 c3 c4, cs = [c0, c1, c2, c3, c4] := by
  match cs, h with
  | [a, b, c, d, e], _ => exact ⟨a, b, c, d, e, rfl⟩
theorem ZX_of_trod {H : Type} {enc : TypeId × Value → H} {W : World} : ∀ (n : Nat) (cs : List Value) (x : DataW H × List MemPlace), DataW.trod enc Tryz.prog W 0 (fun _ => true) true n 24 cs = some x →
    ∃ (t : Sc n) (c0 c1 c2 c3 c4 : Value), cs = [c0, c1, c2, c3, c4] ∧ ZX W (fun b => b < W.heap.size) n t c0 c1 c2 c3 c4 := by
  intro n
  induction n using Nat.strongRecOn with
  | _ n ih =>
    intro cs x h
    obtain ⟨xs, m, rfl, _, hl, hxl, hf⟩ := DataW.trod_struct Tryz.underlying24 h
    rw [cells_scope] at hl
    obtain ⟨c0, c1, c2, c3, c4, rfl⟩ := five_of hl
    obtain ⟨x0, x1, x2, x3, x4, rfl⟩ : ∃ x0 x1 x2 x3 x4, xs = [x0, x1, x2, x3, x4] := by
      match xs, hxl with
      | [a, b, c, d, e], _ => exact ⟨a, b, c, d, e, rfl⟩
    have g0 : DataW.trod enc Tryz.prog W 0 (fun _ => true) true m 3 (List.take (Tryz.prog.cellsOf 3) [c0, c1, c2, c3, c4]) = some x0 := hf 0 _ rfl
    have g1 : DataW.trod enc Tryz.prog W 0 (fun _ => true) true m 9 (List.take (Tryz.prog.cellsOf 9) [c1, c2, c3, c4]) = some x1 := hf 1 _ rfl
    have g2 : DataW.trod enc Tryz.prog W 0 (fun _ => true) true m 3 (List.take (Tryz.prog.cellsOf 3) [c2, c3, c4]) = some x2 := hf 2 _ rfl
    have g3 : DataW.trod enc Tryz.prog W 0 (fun _ => true) true m 3 (List.take (Tryz.prog.cellsOf 3) [c3, c4]) = some x3 := hf 3 _ rfl
    have g4 : DataW.trod enc Tryz.prog W 0 (fun _ => true) true m 22 (List.take (Tryz.prog.cellsOf 22) [c4]) = some x4 := hf 4 _ rfl
    rw [cells_znum] at g0 g2 g3
    rw [cells_zstr] at g1
    rw [cells_scopes] at g4
    obtain ⟨k, e0, _, wk⟩ := DataW.trod_int Tryz.underlying3 g0
    obtain ⟨s, e1, _, ws⟩ := DataW.trod_string Tryz.underlying9 g1
    obtain ⟨u, e2, _, wu⟩ := DataW.trod_int Tryz.underlying3 g2
    obtain ⟨y, e3, _, wy⟩ := DataW.trod_int Tryz.underlying3 g3
    simp at e0 e1 e2 e3
    subst e0 e1 e2 e3
    have hk : I64 k := by simpa [I64, Lit.wf, IntKind.min, IntKind.max, IntKind.signed, IntKind.bits] using wk
    have hu : I64 u := by simpa [I64, Lit.wf, IntKind.min, IntKind.max, IntKind.signed, IntKind.bits] using wu
    have hy : I64 y := by simpa [I64, Lit.wf, IntKind.min, IntKind.max, IntKind.signed, IntKind.bits] using wy
    have hsz : s.data.toList.length = s.size := by rw [Array.length_toList]; rfl
    have main : ∃ ks : List (Sc m), ZS W (fun b => b < W.heap.size) (ZX W (fun b => b < W.heap.size) m) c4 ks := by
      rcases DataW.trod_slice Tryz.underlying22 g4 with ⟨hcs, _⟩ | ⟨a, len, cap, elems, rest, n, rfl, hcs, _, _, hlc, hm, hel, hi, _, _⟩
      · simp at hcs
        subst hcs
        exact ⟨[], ZS.nil _ _ _⟩
      · simp at hcs
        subst hcs
        rw [cells_scope] at hi
        have hi2 : ∀ i, i < len → ∃ t : Sc (n + 1), ∃ c0 c1 c2 c3 c4, W.cell? (a.add (i * 5)) = some c0 ∧ W.cell? ((a.add (i * 5)).add 1) = some c1 ∧ W.cell? ((a.add (i * 5)).add 2) = some c2 ∧ W.cell? ((a.add (i * 5)).add 3) = some c3 ∧ W.cell? ((a.add (i * 5)).add 4) = some c4 ∧
            ZX W (fun b => b < W.heap.size) (n + 1) t c0 c1 c2 c3 c4 := by
          intro i hil
          have := hi i hil
          rw [List.getElem?_eq_getElem (by omega)] at this
          obtain ⟨cs, hcs, htr⟩ := Option.bind_eq_some_iff.1 this
          obtain ⟨t, d0, d1, d2, d3, d4, rfl, ht⟩ := ih n (by omega) cs _ htr
          obtain ⟨_, _, hcell⟩ := World.cells?_some hcs
          have k0 := hcell 0 (by omega)
          have k1 := hcell 1 (by omega)
          have k2 := hcell 2 (by omega)
          have k3 := hcell 3 (by omega)
          have k4 := hcell 4 (by omega)
          refine ⟨liftS n t, d0, d1, d2, d3, d4, ?_, k1, k2, k3, k4, ZX.lifted n t d0 d1 d2 d3 d4 ht⟩
          have : (a.add (i * 5)).add 0 = a.add (i * 5) := rfl
          rw [← this]; exact k0
        haveI : Inhabited (Sc (n + 1)) := ⟨(⟨0, [], 0, 0, []⟩ : Ns (Sc n))⟩
        obtain ⟨f, hf⟩ := Deep.choose_lt (α := Sc (n + 1)) hi2
        have hlen : ((List.range len).map f).length = len := by simp
        refine ⟨(List.range len).map f, some a, cap, by rw [hlen], by omega, hm, (fun h => by cases h), fun h0 => ?_⟩
        rw [hlen] at h0
        obtain ⟨b, o, spot⟩ := a
        have hspot : spot = none := by
          obtain ⟨_, _, _, _, _, k0, _⟩ := hf 0 h0
          simpa [Addr.add] using World.cell?_spot k0
        subst hspot
        have hb : b < W.heap.size := by
          obtain ⟨_, _, _, _, _, k0, _⟩ := hf 0 h0
          rw [add_plain] at k0
          exact World.block_lt_of_cell? _ _ k0
        refine ⟨b, o, rfl, hb, hb, fun i t hit => ?_⟩
        have hil : i < len := by
          have := (List.getElem?_eq_some_iff.1 hit).1
          omega
        simp [hil] at hit
        subst hit
        obtain ⟨d0, d1, d2, d3, d4, k0, k1, k2, k3, k4, kt⟩ := hf i hil
        rw [add_plain] at k0 k1 k2 k3 k4
        rw [add_plain] at k1 k2 k3 k4
        exact ⟨d0, d1, d2, d3, d4, k0, k1, k2, k3, k4, kt⟩
    obtain ⟨ks, hks⟩ := main
    exact ⟨(⟨k, s.data.toList, u, y, ks⟩ : Ns (Sc m)), _, _, _, _, _, rfl, rfl, hk, rfl, by show s.data.toList.length ≤ _; omega, rfl, hu, rfl, hy, hks⟩
theorem open_scope {H : Type} {enc : TypeId × Value → H} {W : World} {base : Nat} {v : Value} {d : DataW H} {p : List MemPlace}
    (ok : Value.okWide Tryz.prog W .any base 24 v) (h : DataW.Trod enc Tryz.prog W 0 (fun _ => true) true 24 v d p) :
    ∃ (n : Nat), ∀ m, n ≤ m → ∃ t : Sc m, ZV W (fun b => b < W.heap.size) m v t := by
  obtain ⟨cs, rfl, hsz⟩ := okWide_struct Tryz.underlying24 ok
  obtain ⟨n, hn⟩ := h
  refine ⟨n, fun m hm => ?_⟩
  obtain ⟨k, rfl⟩ := Nat.le.dest hm
  clear hm
  induction k with
  | zero =>
    obtain ⟨t, c0, c1, c2, c3, c4, e, ht⟩ := ZX_of_trod n _ _ hn
    refine ⟨t, c0, c1, c2, c3, c4, ?_, ht⟩
    have : cs = #[c0, c1, c2, c3, c4] := by
      apply Array.toList_inj.1
      simpa [Value.cells] using e
    rw [this]
  | succ k ih =>
    obtain ⟨t, ht⟩ := ih
    exact ⟨liftS (n + k) t, ht.lifted⟩
theorem info_scope : (Tryz.prog.info? 24).map (fun i => (i.zero, i.size, i.bytes)) = some (some (.agg #[.int .i64 0, .string ⟨#[]⟩, .int .i64 0, .int .i64 0, .slice none 0 0]), 5, 64) := by kernel_rfl
theorem run_growZ (w : World) (base : Nat) (v : Value) (qs : List QuZ) (hown : w.ownsRow base 24 5 v qs.length (flatZ qs)) (ad : Addr) (c : Nat) (p : QuZ) (hx : ∀ j u, (fiveZ p)[j]? = some u → w.cell? (ad.add j) = some u) (h1 : ∀ u ∈ fiveZ p, u.oneCell' = true)
    (hb : qs.length ≤ 1000000000) (hbase : base ≤ w.heap.size) (ty : TypeId) :
    ∃ v' w', (Builtin.append_ #[22, 22] ty #[v, .slice (some ad) 1 c]).run Tryz.prog w = .ok v' w' ∧ w'.ownsRow base 24 5 v' (qs ++ [p]).length (flatZ (qs ++ [p])) ∧ w.grownBy w' v.ownBlock ∧
      (v'.ownBlock = v.ownBlock ∨ v'.ownBlock = some w.heap.size) := by
  obtain ⟨i0, hi, hz0, hz1, hz2⟩ := info_parts info_scope
  have e : flatZ [p] = fiveZ p := by simp [flatZ]
  obtain ⟨v', w', a1, a2, a3, _, a5⟩ := run_append_own_at (P := Tryz.prog) (w := w) base 22 ty 24 i0 _ 5 64 Tryz.underlying22 hi hz0 hz1 hz2 rfl (by omega) v qs.length _ hown ad 1 c (flatZ [p]) (flatZ_length [p]) (by rw [e]; exact hx) (by rw [e]; exact h1)
    (by unfold maxLen; omega) (by omega) hbase
  exact ⟨v', w', a1, by rw [List.length_append, flatZ_append]; exact a2, a3, a5⟩
theorem wpList_growZ (w : World) {ops : Array Oper} {rest : List Oper} {o : Oper} {a : Act} {Q : Exit → Act → World → Prop} (hgd : o.guard = none) (s y : Operand)
    (ho : o.op = .call { callee := .builtin .append, args := #[s, y], argTypes := #[22, 22] })
    (base : Nat) (v : Value) (qs : List QuZ) (hs : a.eval s = v) (hown : w.ownsRow base 24 5 v qs.length (flatZ qs))
    (ad : Addr) (c : Nat) (p : QuZ) (hye : a.eval y = .slice (some ad) 1 c) (hx : ∀ j u, (fiveZ p)[j]? = some u → w.cell? (ad.add j) = some u) (h1 : ∀ u ∈ fiveZ p, u.oneCell' = true)
    (hb : qs.length ≤ 1000000000) (hbase : base ≤ w.heap.size)
    (h : ∀ v' w', w'.ownsRow base 24 5 v' (qs ++ [p]).length (flatZ (qs ++ [p])) → w.grownBy w' v.ownBlock → (v'.ownBlock = v.ownBlock ∨ v'.ownBlock = some w.heap.size) → wpList Tryz.prog ops Q rest (a.put o.dst v') w') :
    wpList Tryz.prog ops Q (o :: rest) a w := by
  refine wpList_plain hgd fun K hK => ?_
  obtain ⟨v', w', hrun, h2, h3, h4⟩ := run_growZ w base v qs hown ad c p hx h1 hb hbase o.type
  unfold Oper.wp execOp
  simp only [ho, resolve, invoke, builtin, Sem.run_bind, Sem.run_pure, Result.andThen_ok, List.map_toArray, List.map_cons, List.map_nil, hs, hye, hrun]
  exact hK _ _ (h v' w' h2 h3 h4)
end
end Go.Proofs.YtjecjlhofnnnpaaGreatDoor
