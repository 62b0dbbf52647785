/-
  PaV: The program's reader in memory (layer 18), over the loaded program: spend, fail, take and found: their contracts. No condition but what each names.
  RuY: Rows of conditions of a call's own: what they read as, and append onto them. No condition.
  RuZ: What a call hands back out of a block; conditions kept where more is known of their blocks: over the loaded program. No condition.
-/
import Derived.Test.YthindhlogkhclaaGreatDoorPz15
import Derived.Test.YthindhlogkhclaaGreatDoorPz09
import Derived.Test.YthindhlogkhclaaGreatDoorPz07
set_option linter.unusedVariables false
set_option maxRecDepth 100000
namespace Go.Proofs.YthindhlogkhclaaGreatDoor
section
open Go.RowKit
def FineT (t : Tk) : Prop := I64 t.n ∧ t.text.length ≤ maxLen
def FineL (l : List Tk) : Prop := l.length ≤ 1000000 ∧ ∀ t ∈ l, FineT t
theorem FineL.tail {t : Tk} {r : List Tk} (h : FineL (t :: r)) : FineL r := ⟨by have := h.1; rw [List.length_cons] at this; omega, fun q hq => h.2 q (List.mem_cons_of_mem _ hq)⟩
def St (w : World) (p : Nat) (n d : Int) (s : Ps) : Prop :=
  ∃ v F, KB w p 50 #[v, .int .i64 n, .int .i64 F, .int .i64 d, .int .i64 s.e] ∧ TS w (fun b => b < p) v s.rest ∧ I64 F ∧ (s.e = 0 → F = s.fuel) ∧ FineL s.rest
section
variable {w w' : World} {p : Nat} {n d : Int} {s : Ps}
theorem St.lt (h : St w p n d s) : p < w.heap.size := by obtain ⟨v, F, k, _⟩ := h; exact k.lt
theorem St.below (h : St w p n d s) (b : Below w.heap.size w w') : St w' p n d s := by
  obtain ⟨v, F, k, ht, r⟩ := h
  exact ⟨v, F, k.below b k.lt, ht.below' b, r⟩
theorem St.to (h : St w p n d s) {s' : Ps} (hr : s'.rest = s.rest) (he : s'.e = s.e) (hf : s.e = 0 → s'.fuel = s.fuel) : St w p n d s' := by
  obtain ⟨v, F, k, ht, hi, hF, hn⟩ := h
  refine ⟨v, F, by rw [he]; exact k, by rw [hr]; exact ht, hi, fun h0 => (hF (he ▸ h0)).trans (hf (he ▸ h0)).symm, by rw [hr]; exact hn⟩
theorem TS.but {v : Value} {l : List Tk} (h : TS w (fun b => b < p) v l) (g : w.grownBy w' (some p)) : TS w' (fun b => b < p) v l := h.keep g.size fun b sb hb => g.block b hb (fun e => by injection e with e; omega)
theorem St.keep (h : St w p n d s) (hs : w.heap.size ≤ w'.heap.size) (hk : ∀ b, b ≤ p → w'.heap[b]? = w.heap[b]?) : St w' p n d s := by
  obtain ⟨v, F, k, ht, r⟩ := h
  exact ⟨v, F, k.keep (hk p (Nat.le_refl _)), ht.keep hs fun b sb _ => hk b (Nat.le_of_lt sb), r⟩
theorem St.fine (h : St w p n d s) : FineL s.rest := by obtain ⟨v, F, k, ht, hi, hF, hn⟩ := h; exact hn
def lenAt (w : World) (p : Nat) : Nat := match w.cell? ⟨p, 0, none⟩ with | some (.slice _ n _) => n | _ => 0
theorem St.len (h : St w p n d s) : lenAt w p = s.rest.length := by
  obtain ⟨v, F, k, ht, _⟩ := h
  obtain ⟨A, c, rfl, _⟩ := ht.form
  have q : w.cell? ⟨p, 0, none⟩ = some (.slice A s.rest.length c) := k.cell 0
  unfold lenAt
  rw [q]
theorem St.alloc (h : St w p n d s) (o : Obj) : St (w.alloc o) p n d s := h.below ((Below.refl _ _).alloc (Nat.le_refl _) o)
theorem St.setCell (h : St w p n d s) {a : Addr} (ha : p < a.block) (u : Value) : St (w.setCell a u) p n d s :=
  h.keep (by simp [World.setCell]) fun b hb => Below.heap_setCell w a u b (by omega)
theorem grown_alloc {row : Option Nat} (h : w.grownBy w' row) (o : Obj) : w.grownBy (w'.alloc o) row := ⟨h.os, h.tape, h.output, by have := h.size; simp; omega, fun k hk hr => (Below.heap_alloc w' o k (by have := h.size; omega)).trans (h.block k hk hr)⟩
theorem grown_cell {row : Option Nat} (h : w.grownBy w' row) {a : Addr} (ha : w.heap.size ≤ a.block) (u : Value) : w.grownBy (w'.setCell a u) row :=
  ⟨h.os, h.tape, h.output, by simp [World.setCell]; exact h.size, fun k hk hr => (Below.heap_setCell w' a u k (by omega)).trans (h.block k hk hr)⟩
theorem KB.but {g : Nat} {t : TypeId} {cs : Array Value} (h : KB w g t cs) (k : w.grownBy w' (some p)) (hp : p < g) : KB w' g t cs := h.grown k (fun e => by injection e with e; omega)
end
def failP (e : Int) (s : Ps) : Ps := if s.e = 0 then ⟨s.rest, s.fuel, e, s.used⟩ else s
theorem fail_deep (s : Ps) : failP 2 s = deepP s := rfl
theorem fail_any (p : Nat) (n d : Int) (s : Ps) (e0 : Int) (w : World) (h0 : e0 ≠ 0) (h : St w p n d s) :
    Calls Tryz.prog 64 #[.pointer (some ⟨p, 0, none⟩), .int .i64 e0] w fun e w' => e = .returned (.tuple #[]) ∧ St w' p n d (failP e0 s) ∧ w.grownBy w' (some p) := by
  have hst := Lib.hid h
  obtain ⟨v, F, k, ht, hi, hF, hn⟩ := h
  have hp := k.lt
  have q4 : w.cell? ⟨p, 4, none⟩ = some (.int .i64 s.e) := k.cell 4
  have f4 : w.frozen? ⟨p, 4, none⟩ = false := k.free 4
  by_cases he : s.e = 0
  · have hst' : St (w.setCell ⟨p, 4, none⟩ (.int .i64 e0)) p n d (failP e0 s) := by
      unfold failP
      rw [if_pos he]
      exact ⟨v, F, k.put 4 _, ht.but (grown_set w p 4 _), hi, fun h => absurd h h0, hn⟩
    have hg := grown_set w p 4 (.int .i64 e0)
    rw [he] at q4
    clear hst k ht hi hF hn he
    go_enter Tryz.func64, Tryz.ntmps64
    go_wp2_with fail
    go_end0
    exact ⟨rfl, hst', hg⟩
  · have hst' : St w p n d (failP e0 s) := by
      unfold failP
      rw [if_neg he]
      exact hst.out
    have g2 : (s.e == 0) = false := beq_eq_false_iff_ne.2 he
    clear hst k ht hi hF hn
    generalize s.e = e at *
    go_enter Tryz.func64, Tryz.ntmps64
    go_wp2_with fail
    go_end0
    exact ⟨rfl, hst', World.grownBy.refl w _⟩
theorem spend_any (p : Nat) (n d : Int) (s : Ps) (w : World) (h : St w p n d s) :
    Calls Tryz.prog 63 #[.pointer (some ⟨p, 0, none⟩)] w fun e w' => e = .returned (.tuple #[]) ∧ St w' p n d (burnP s) ∧ w.grownBy w' (some p) := by
  have hfl := fail_any p n d s 14 w (by decide) h
  have hst := Lib.hid h
  obtain ⟨v, F, k, ht, hi, hF, hn⟩ := h
  have hp := k.lt
  have q2 : w.cell? ⟨p, 2, none⟩ = some (.int .i64 F) := k.cell 2
  have f2 : w.frozen? ⟨p, 2, none⟩ = false := k.free 2
  by_cases hlt : F < 1
  · have HB : Hid (∀ w', St w' p n d (failP 14 s) → St w' p n d (burnP s)) := by
      intro w' h'
      by_cases he : s.e = 0
      · rw [burn_out he (by rw [← hF he]; exact hlt)]
        unfold failP at h'
        rw [if_pos he] at h'
        exact h'
      · rw [burn_err he]
        unfold failP at h'
        rw [if_neg he] at h'
        exact h'
    clear hst k ht hF hn hi
    go_enter Tryz.func63, Tryz.ntmps63
    go_wp2_with fail
    refine hfl.mono ?_
    rintro e w5 ⟨rfl, h5, g5⟩
    have h6 := HB.out w5 h5
    clear hfl HB h5
    go_wp2_with fail
    (try simp only [Exit.inBlock, Exit.then]); refine bodyPost_ret (results_none rfl _ _ _) rfl ?_
    exact ⟨rfl, h6, g5⟩
  · have hst' : St (w.setCell ⟨p, 2, none⟩ (.int .i64 (F - 1))) p n d (burnP s) := by
      have hi' : I64 (F - 1) := by unfold I64 at hi ⊢; omega
      have kk := k.put 2 (.int .i64 (F - 1))
      have tt := ht.but (grown_set w p 2 (.int .i64 (F - 1)))
      by_cases he : s.e = 0
      · rw [burn_ok he (by rw [← hF he]; exact hlt)]
        refine ⟨v, F - 1, ?_, tt, hi', fun _ => by rw [hF he], hn⟩
        rw [he] at kk
        exact kk
      · rw [burn_err he]
        exact ⟨v, F - 1, kk, tt, hi', fun h => absurd h he, hn⟩
    have hg := grown_set w p 2 (.int .i64 (F - 1))
    have I1 : IntKind.i64.wrap (F - 1) = F - 1 := by rw [IntKind.wrap_i64]; unfold I64 at hi; omega
    have I2 : wrap64 (F - 1) = F - 1 := IntWalk.wrap64_in _ (by unfold I64 at hi; omega)
    clear hst k ht hF hn hi hfl
    go_enter Tryz.func63, Tryz.ntmps63
    go_wp2_with fail
    go_end0
    exact ⟨rfl, hst', hg⟩
end
section
open Go.RowKit
abbrev QuX := Value × Value × Value × Value
def quadX (q : QuX) : List Value := [q.1, q.2.1, q.2.2.1, q.2.2.2]
def flatX (qs : List QuX) : List Value := qs.flatMap quadX
theorem flatX_cons (q : QuX) (qs : List QuX) : flatX (q :: qs) = quadX q ++ flatX qs := rfl
theorem flatX_append (a b : List QuX) : flatX (a ++ b) = flatX a ++ flatX b := List.flatMap_append
theorem flatX_length : ∀ (qs : List QuX), (flatX qs).length = qs.length * 4
  | [] => rfl
  | q :: qs => by rw [flatX_cons, List.length_append, flatX_length qs]; simp [quadX, Nat.succ_mul]; omega
theorem flatX_at : ∀ (qs : List QuX) (i : Nat) (q : QuX), qs[i]? = some q → (flatX qs)[i * 4]? = some q.1 ∧ (flatX qs)[i * 4 + 1]? = some q.2.1 ∧ (flatX qs)[i * 4 + 2]? = some q.2.2.1 ∧ (flatX qs)[i * 4 + 3]? = some q.2.2.2
  | [], i, q, h => by simp at h
  | p :: qs, 0, q, h => by
    simp at h
    subst h
    exact ⟨rfl, rfl, rfl, rfl⟩
  | p :: qs, i + 1, q, h => by
    obtain ⟨h0, h1, h2, h3⟩ := flatX_at qs i q (by simpa using h)
    rw [flatX_cons]
    have e : ∀ k, (quadX p ++ flatX qs)[(i + 1) * 4 + k]? = (flatX qs)[i * 4 + k]? := fun k => by
      rw [List.getElem?_append_right (by simp [quadX]; omega)]
      congr 1
      simp [quadX]; omega
    exact ⟨(e 0).trans h0, (e 1).trans h1, (e 2).trans h2, (e 3).trans h3⟩
def QX (w : World) (S : Nat → Prop) (f : Nat) (qs : List QuX) (ks : List (Ex f)) : Prop :=
  qs.length = ks.length ∧ ∀ (i : Nat) (q : QuX) (t : Ex f), qs[i]? = some q → ks[i]? = some t → EX w S f t q.1 q.2.1 q.2.2.1 q.2.2.2
section
variable {w w' : World} {S S' : Nat → Prop} {f : Nat} {qs ps : List QuX} {ks ls : List (Ex f)}
theorem QX.keepS (h : QX w S f qs ks) (hs : w.heap.size ≤ w'.heap.size) (hk : ∀ b, S b → b < w.heap.size → w'.heap[b]? = w.heap[b]?) (hS : ∀ b, S b → S' b) : QX w' S' f qs ks :=
  ⟨h.1, fun i q t hq ht => EX.keepS f t _ _ _ _ (h.2 i q t hq ht) hs hk hS⟩
theorem QX.below' (h : QX w S f qs ks) (hb : Below w.heap.size w w') : QX w' S f qs ks := h.keepS hb.size (fun b _ hlt => hb.block b hlt) fun _ h => h
theorem QX.mono (h : QX w S f qs ks) (hS : ∀ b, S b → S' b) : QX w S' f qs ks := h.keepS (Nat.le_refl _) (fun _ _ _ => rfl) hS
theorem QX.nil (w : World) (S : Nat → Prop) (f : Nat) : QX w S f [] [] := ⟨rfl, fun i q t h => by simp at h⟩
theorem QX.append (h : QX w S f qs ks) (g : QX w S f ps ls) : QX w S f (qs ++ ps) (ks ++ ls) := by
  refine ⟨by rw [List.length_append, List.length_append, h.1, g.1], fun i q t hq ht => ?_⟩
  rcases Nat.lt_or_ge i qs.length with hi | hi
  · rw [List.getElem?_append_left hi] at hq
    rw [List.getElem?_append_left (by rw [← h.1]; exact hi)] at ht
    exact h.2 i q t hq ht
  · rw [List.getElem?_append_right hi] at hq
    rw [List.getElem?_append_right (by rw [← h.1]; exact hi), ← h.1] at ht
    exact g.2 _ q t hq ht
theorem QX.one {c0 c1 c2 c3 : Value} {t : Ex f} (h : EX w S f t c0 c1 c2 c3) : QX w S f [(c0, c1, c2, c3)] [t] := by
  refine ⟨rfl, fun i q u hq hu => ?_⟩
  match i, hq, hu with
  | 0, hq, hu => simp at hq hu; subst hq hu; exact h
theorem EX.cells1 {t : Ex f} {c0 c1 c2 c3 : Value} (h : EX w S f t c0 c1 c2 c3) : ∀ u ∈ quadX (c0, c1, c2, c3), u.oneCell' = true := by
  obtain ⟨i0, i1, l2, X3, n3, z3, rfl, rfl, rfl, rfl⟩ := h.form
  intro u hu
  simp [quadX] at hu
  rcases hu with rfl | rfl | rfl | rfl <;> rfl
end
theorem XS_of_own {w : World} {S : Nat → Prop} {f base : Nat} {v : Value} {qs : List QuX} {ks : List (Ex f)} (h : w.ownsRow base 42 4 v qs.length (flatX qs)) (hq : QX w S f qs ks)
    (hS : ∀ b, base ≤ b → b < w.heap.size → S b) : XS w S (EX w S f) v ks := by
  obtain ⟨_, h2⟩ := h
  rw [hq.1] at h2
  rcases h2 with ⟨rfl, h0⟩ | ⟨g, cap, cur, rfl, hb, hg, hnc, hcm, hcs, htk⟩
  · obtain rfl : ks = [] := List.eq_nil_of_length_eq_zero h0
    exact XS.nil _ _ _
  · have hlt : g < w.heap.size := (Array.getElem?_eq_some_iff.1 hg).1
    refine ⟨_, cap, rfl, hnc, hcm, fun h0 => ⟨g, 0, rfl, hS g hb hlt, hlt, fun i t hi => ?_⟩⟩
    have hil := (List.getElem?_eq_some_iff.1 hi).1
    have hqi : qs[i]? = some (qs[i]'(by rw [hq.1]; exact hil)) := List.getElem?_eq_getElem _
    obtain ⟨e0, e1, e2, e3⟩ := flatX_at qs i _ hqi
    have cell : ∀ k u, k < 4 → (flatX qs)[i * 4 + k]? = some u → w.cell? ⟨g, 0 + i * 4 + k, none⟩ = some u := fun k u hk hu => by
      rw [cell_of_row w g (0 + i * 4 + k) cur _ (0, 0) hg, Nat.zero_add]
      rw [← htk, List.getElem?_take, if_pos (by omega)] at hu
      simpa using hu
    exact ⟨_, _, _, _, cell 0 _ (by omega) e0, cell 1 _ (by omega) e1, cell 2 _ (by omega) e2, cell 3 _ (by omega) e3, hq.2 i _ t hqi hi⟩
theorem info_expr : (Tryz.prog.info? 42).map (fun i => (i.zero, i.size, i.bytes)) = some (some (.agg #[.int .i64 0, .int .i64 0, .string ⟨#[]⟩, .slice none 0 0]), 4, 56) := by kernel_rfl
theorem run_growX (w : World) (base : Nat) (v : Value) (qs : List QuX) (hown : w.ownsRow base 42 4 v qs.length (flatX qs)) (ad : Addr) (c : Nat) (p : QuX) (hx : ∀ j u, (quadX p)[j]? = some u → w.cell? (ad.add j) = some u) (h1 : ∀ u ∈ quadX p, u.oneCell' = true)
    (hb : qs.length ≤ 1000000000) (hbase : base ≤ w.heap.size) (ty : TypeId) :
    ∃ v' w', (Builtin.append_ #[40, 40] ty #[v, .slice (some ad) 1 c]).run Tryz.prog w = .ok v' w' ∧ w'.ownsRow base 42 4 v' (qs ++ [p]).length (flatX (qs ++ [p])) ∧ w.grownBy w' v.ownBlock ∧
      (v'.ownBlock = v.ownBlock ∨ v'.ownBlock = some w.heap.size) := by
  obtain ⟨i0, hi, hz0, hz1, hz2⟩ := info_parts info_expr
  have e : flatX [p] = quadX p := by simp [flatX]
  obtain ⟨v', w', a1, a2, a3, _, a5⟩ := run_append_own_at (P := Tryz.prog) (w := w) base 40 ty 42 i0 _ 4 56 Tryz.underlying40 hi hz0 hz1 hz2 rfl (by omega) v qs.length _ hown ad 1 c (flatX [p]) (flatX_length [p]) (by rw [e]; exact hx) (by rw [e]; exact h1)
    (by unfold maxLen; omega) (by omega) hbase
  exact ⟨v', w', a1, by rw [List.length_append, flatX_append]; exact a2, a3, a5⟩
theorem wpList_growX (w : World) {ops : Array Oper} {rest : List Oper} {o : Oper} {a : Act} {Q : Exit → Act → World → Prop} (hgd : o.guard = none) (s y : Operand)
    (ho : o.op = .call { callee := .builtin .append, args := #[s, y], argTypes := #[40, 40] })
    (base : Nat) (v : Value) (qs : List QuX) (hs : a.eval s = v) (hown : w.ownsRow base 42 4 v qs.length (flatX qs))
    (ad : Addr) (c : Nat) (p : QuX) (hye : a.eval y = .slice (some ad) 1 c) (hx : ∀ j u, (quadX p)[j]? = some u → w.cell? (ad.add j) = some u) (h1 : ∀ u ∈ quadX p, u.oneCell' = true)
    (hb : qs.length ≤ 1000000000) (hbase : base ≤ w.heap.size)
    (h : ∀ v' w', w'.ownsRow base 42 4 v' (qs ++ [p]).length (flatX (qs ++ [p])) → w.grownBy w' v.ownBlock → (v'.ownBlock = v.ownBlock ∨ v'.ownBlock = some w.heap.size) → wpList Tryz.prog ops Q rest (a.put o.dst v') w') :
    wpList Tryz.prog ops Q (o :: rest) a w := by
  refine wpList_plain hgd fun K hK => ?_
  obtain ⟨v', w', hrun, h2, h3, h4⟩ := run_growX w base v qs hown ad c p hx h1 hb hbase o.type
  unfold Oper.wp execOp
  simp only [ho, resolve, invoke, builtin, Sem.run_bind, Sem.run_pure, Result.andThen_ok, List.map_toArray, List.map_cons, List.map_nil, hs, hye, hrun]
  exact hK _ _ (h v' w' h2 h3 h4)
end
section
open Go.RowKit
theorem results_cell {P : Program} {fn : Func} {p : Tmp} {ty : TypeId} (h : fn.results = #[.cell p ty]) (tmps : Array Value) (w : World) (g : Nat) (t : TypeId) (cs : Array Value) (fr : Nat × Nat) (d : TypeDesc)
    (hp : tmps.getD p undef = .pointer (some ⟨g, 0, none⟩)) (hg : w.heap[g]? = some (.cells cs t fr))
    (hu : P.underlying ty = some d) (hd : (match d with | .struct _ | .array _ _ => true | _ => false) = true) (hi : (P.info? ty).map (·.size) = some cs.size) :
    (results fn tmps).run P w = .ok (.agg cs) w := by
  have hp' : tmps[p]?.getD undef = .pointer (some ⟨g, 0, none⟩) := by simpa using hp
  simp [results, h, hp', asAddr, run_loadVar_row w g t ty cs fr d hg hu hd hi]
theorem XS.mapL {α : Type} {E E' : α → Value → Value → Value → Value → Prop} {w w' : World} {S S' : Nat → Prop} {v : Value} {ks : List α} (h : XS w S E v ks)
    (hs : w.heap.size ≤ w'.heap.size) (hk : ∀ b, S b → b < w.heap.size → w'.heap[b]? = w.heap[b]?) (hS : ∀ b, S b → b < w.heap.size → S' b) (he : ∀ t c0 c1 c2 c3, E t c0 c1 c2 c3 → E' t c0 c1 c2 c3) : XS w' S' E' v ks := by
  obtain ⟨A, c, e, hl, hc, hx⟩ := h
  refine ⟨A, c, e, hl, hc, fun h0 => ?_⟩
  obtain ⟨b, o, ea, sb, hb, hx⟩ := hx h0
  refine ⟨b, o, ea, hS b sb hb, by omega, fun i t hi => ?_⟩
  obtain ⟨c0, c1, c2, c3, k0, k1, k2, k3, ke⟩ := hx i t hi
  have hc := fun (x : Nat) => World.cell?_of_block (w := w) (w' := w') (a := ⟨b, x, none⟩) (hk b sb hb)
  exact ⟨c0, c1, c2, c3, (hc _).trans k0, (hc _).trans k1, (hc _).trans k2, (hc _).trans k3, he _ _ _ _ _ ke⟩
theorem EX.keepL {w w' : World} {S S' : Nat → Prop} : ∀ (f : Nat) (t : Ex f) (c0 c1 c2 c3 : Value), EX w S f t c0 c1 c2 c3 → w.heap.size ≤ w'.heap.size → (∀ b, S b → b < w.heap.size → w'.heap[b]? = w.heap[b]?) → (∀ b, S b → b < w.heap.size → S' b) → EX w' S' f t c0 c1 c2 c3
  | 0, t, _, _, _, _, _, _, _, _ => nomatch t
  | f + 1, (t : Nx (Ex f)), c0, c1, c2, c3, h, hs, hk, hS => by
    obtain ⟨h0, h1, h2, h3, h4, h4', h5⟩ := h
    exact ⟨h0, h1, h2, h3, h4, h4', XS.mapL (w' := w') (S' := S') (E' := EX w' S' f) h5 hs hk hS fun u d0 d1 d2 d3 hu => EX.keepL f u d0 d1 d2 d3 hu hs hk hS⟩
theorem QX.keepL {w w' : World} {S S' : Nat → Prop} {f : Nat} {qs : List QuX} {ks : List (Ex f)} (h : QX w S f qs ks) (hs : w.heap.size ≤ w'.heap.size) (hk : ∀ b, S b → b < w.heap.size → w'.heap[b]? = w.heap[b]?) (hS : ∀ b, S b → b < w.heap.size → S' b) : QX w' S' f qs ks :=
  ⟨h.1, fun i q t hq ht => EX.keepL f t _ _ _ _ (h.2 i q t hq ht) hs hk hS⟩
end
end Go.Proofs.YthindhlogkhclaaGreatDoor
