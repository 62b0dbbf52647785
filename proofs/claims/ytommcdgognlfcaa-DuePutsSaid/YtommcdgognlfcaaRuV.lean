/-
  Conditions and rules in memory, over the loaded program: what four (six) cells read as; kept over what turns elsewhere; rules and conditions that came in, opened. No condition.
-/
import Derived.Test.YtommcdgognlfcaaKp
import Derived.Test.YtommcdgognlfcaaRuM
import Derived.Test.YtommcdgognlfcaaArgs
import Derived.Test.YtommcdgognlfcaaTxt
namespace Go.Proofs.Ytommcdgognlfcaa
open Go.RowKit Go.ChangeShapes Go.WideShapes Go.Joins
set_option maxRecDepth 100000
set_option linter.unusedVariables false

/-- The slice value v reads, in w, as the list ks; each element's four cells read as E says. -/
def XS {α : Type} (w : World) (S : Nat → Prop) (E : α → Value → Value → Value → Value → Prop) (v : Value) (ks : List α) : Prop :=
  ∃ A c, v = .slice A ks.length c ∧ ks.length ≤ c ∧ c ≤ maxLen ∧
    (0 < ks.length → ∃ b o, A = some ⟨b, o, none⟩ ∧ S b ∧ b < w.heap.size ∧
      ∀ i t, ks[i]? = some t → ∃ c0 c1 c2 c3, w.cell? ⟨b, o + i * 4, none⟩ = some c0 ∧ w.cell? ⟨b, o + i * 4 + 1, none⟩ = some c1 ∧ w.cell? ⟨b, o + i * 4 + 2, none⟩ = some c2 ∧ w.cell? ⟨b, o + i * 4 + 3, none⟩ = some c3 ∧ E t c0 c1 c2 c3)

/-- The four cells read, in w, as the condition x. -/
def EX (w : World) (S : Nat → Prop) : (f : Nat) → Ex f → Value → Value → Value → Value → Prop
  | 0, x, _, _, _, _ => nomatch x
  | f + 1, (x : Nx (Ex f)), c0, c1, c2, c3 => c0 = .int .i64 x.op ∧ I64 x.op ∧ c1 = .int .i64 x.days ∧ I64 x.days ∧ c2 = strV x.mile ∧ x.mile.length ≤ maxLen ∧ XS w S (EX w S f) c3 x.kids

section
variable {w w' : World} {S S' : Nat → Prop}

theorem XS.map {α β : Type} {E : α → Value → Value → Value → Value → Prop} {E' : β → Value → Value → Value → Value → Prop} {v : Value} {ks : List α} (g : α → β) (h : XS w S E v ks)
    (hs : w.heap.size ≤ w'.heap.size) (hk : ∀ b, S b → b < w.heap.size → w'.heap[b]? = w.heap[b]?) (hS : ∀ b, S b → S' b) (he : ∀ t c0 c1 c2 c3, E t c0 c1 c2 c3 → E' (g t) c0 c1 c2 c3) : XS w' S' E' v (ks.map g) := by
  obtain ⟨A, c, e, hl, hc, hx⟩ := h
  refine ⟨A, c, by rw [e, List.length_map], by rw [List.length_map]; exact hl, hc, fun h0 => ?_⟩
  rw [List.length_map] at h0
  obtain ⟨b, o, ea, sb, hb, hx⟩ := hx h0
  refine ⟨b, o, ea, hS b sb, by omega, fun i t hi => ?_⟩
  rw [List.getElem?_map] at hi
  cases hq : ks[i]? with
  | none => rw [hq] at hi; cases hi
  | some u =>
    rw [hq] at hi
    simp only [Option.map_some, Option.some.injEq] at hi
    subst hi
    obtain ⟨c0, c1, c2, c3, k0, k1, k2, k3, ke⟩ := hx i u hq
    have hc := fun (x : Nat) => World.cell?_of_block (w := w) (w' := w') (a := ⟨b, x, none⟩) (hk b sb hb)
    exact ⟨c0, c1, c2, c3, (hc _).trans k0, (hc _).trans k1, (hc _).trans k2, (hc _).trans k3, he _ _ _ _ _ ke⟩

theorem EX.keepS : ∀ (f : Nat) (t : Ex f) (c0 c1 c2 c3 : Value), EX w S f t c0 c1 c2 c3 → w.heap.size ≤ w'.heap.size → (∀ b, S b → b < w.heap.size → w'.heap[b]? = w.heap[b]?) → (∀ b, S b → S' b) → EX w' S' f t c0 c1 c2 c3
  | 0, t, _, _, _, _, _, _, _, _ => nomatch t
  | f + 1, (t : Nx (Ex f)), c0, c1, c2, c3, h, hs, hk, hS => by
    obtain ⟨h0, h1, h2, h3, h4, h4', h5⟩ := h
    have := XS.map (w' := w') (S' := S') (E' := EX w' S' f) id h5 hs hk hS fun u d0 d1 d2 d3 hu => EX.keepS f u d0 d1 d2 d3 hu hs hk hS
    rw [List.map_id] at this
    exact ⟨h0, h1, h2, h3, h4, h4', this⟩

theorem EX.lifted : ∀ (f : Nat) (t : Ex f) (c0 c1 c2 c3 : Value), EX w S f t c0 c1 c2 c3 → EX w S (f + 1) (liftX f t) c0 c1 c2 c3
  | 0, t, _, _, _, _, _ => nomatch t
  | f + 1, (t : Nx (Ex f)), c0, c1, c2, c3, h => by
    obtain ⟨h0, h1, h2, h3, h4, h4', h5⟩ := h
    exact ⟨h0, h1, h2, h3, h4, h4', XS.map (w' := w) (S' := S) (E' := EX w S (f + 1)) (liftX f) h5 (Nat.le_refl _) (fun _ _ _ => rfl) (fun _ h => h) fun u d0 d1 d2 d3 hu => EX.lifted f u d0 d1 d2 d3 hu⟩
theorem EX.mono {f : Nat} {t : Ex f} {c0 c1 c2 c3 : Value} (h : EX w S f t c0 c1 c2 c3) (hS : ∀ b, S b → S' b) : EX w S' f t c0 c1 c2 c3 := EX.keepS f t c0 c1 c2 c3 h (Nat.le_refl _) (fun _ _ _ => rfl) hS
theorem EX.below' {f : Nat} {t : Ex f} {c0 c1 c2 c3 : Value} (h : EX w S f t c0 c1 c2 c3) (hb : Below w.heap.size w w') : EX w' S f t c0 c1 c2 c3 := EX.keepS f t c0 c1 c2 c3 h hb.size (fun b _ hlt => hb.block b hlt) fun _ h => h
theorem EX.keepP {P : Nat → Prop} {f : Nat} {t : Ex f} {c0 c1 c2 c3 : Value} (h : EX w S f t c0 c1 c2 c3) (k : KeepP P w w') (hp : ∀ b, S b → b < w.heap.size → P b) : EX w' S f t c0 c1 c2 c3 := EX.keepS f t c0 c1 c2 c3 h k.size (fun b sb hb => k.block b (hp b sb hb)) fun _ h => h
theorem EX.alloc {f : Nat} {t : Ex f} {c0 c1 c2 c3 : Value} (h : EX w S f t c0 c1 c2 c3) (o : Obj) : EX (w.alloc o) S f t c0 c1 c2 c3 := EX.keepS f t c0 c1 c2 c3 h (by simp) (fun b _ hb => Below.heap_alloc w o b hb) fun _ h => h
/-- What four cells that read as a condition are. -/
theorem EX.form : ∀ {f : Nat} {t : Ex f} {e0 e1 e2 e3 : Value}, EX w S f t e0 e1 e2 e3 → ∃ (i0 i1 : Int) (l2 : List UInt8) (X3 : Option Addr) (n3 z3 : Nat), e0 = .int .i64 i0 ∧ e1 = .int .i64 i1 ∧ e2 = strV l2 ∧ e3 = .slice X3 n3 z3
  | 0, t, _, _, _, _, _ => nomatch t
  | f + 1, (t : Nx (Ex f)), e0, e1, e2, e3, h => by
    obtain ⟨rfl, _, rfl, _, rfl, _, hk⟩ := h
    obtain ⟨A3, c3, rfl, _⟩ := hk
    exact ⟨_, _, _, A3, _, c3, rfl, rfl, rfl, rfl⟩
theorem EX.op_cell : ∀ {f : Nat} {t : Ex f} {e0 e1 e2 e3 : Value}, EX w S f t e0 e1 e2 e3 → e0 = .int .i64 (opX f t) ∧ I64 (opX f t)
  | 0, t, _, _, _, _, _ => nomatch t
  | f + 1, (t : Nx (Ex f)), e0, e1, e2, e3, h => ⟨h.1, h.2.1⟩
theorem XS.nil {α : Type} (w : World) (S : Nat → Prop) (E : α → Value → Value → Value → Value → Prop) : XS w S E (.slice none 0 0) [] := ⟨none, 0, rfl, by simp, by simp [maxLen], fun h => absurd h (by simp)⟩
theorem XS.form {α : Type} {E : α → Value → Value → Value → Value → Prop} {v : Value} {ks : List α} (h : XS w S E v ks) : ∃ A c, v = .slice A ks.length c ∧ ks.length ≤ c ∧ c ≤ maxLen := by
  obtain ⟨A, c, e, hl, hc, _⟩ := h
  exact ⟨A, c, e, hl, hc⟩
/-- A kid of a condition, where memory stands now. -/
theorem kid_x {wr : World} {f : Nat} {A : Option Addr} {c n : Nat} {ks : List (Ex f)} (h : XS w S (EX w S f) (.slice A n c) ks) (hn : ks.length = n) (hs : w.heap.size ≤ wr.heap.size) (hk : ∀ b, S b → b < w.heap.size → wr.heap[b]? = w.heap[b]?) (j : Nat) (hj : j < ks.length) :
    ∃ b o e0 e1 e2 e3, A = some ⟨b, o, none⟩ ∧ b < w.heap.size ∧ wr.cell? ⟨b, o + j * 4, none⟩ = some e0 ∧ wr.cell? ⟨b, o + j * 4 + 1, none⟩ = some e1 ∧ wr.cell? ⟨b, o + j * 4 + 2, none⟩ = some e2 ∧ wr.cell? ⟨b, o + j * 4 + 3, none⟩ = some e3 ∧
      EX wr S f ks[j] e0 e1 e2 e3 := by
  subst hn
  obtain ⟨A', c', e, hl, hc, hx⟩ := h
  injection e with e1 e2 e3
  subst e1 e3
  obtain ⟨b, o, rfl, sb, hlt, hx⟩ := hx (by omega)
  obtain ⟨e0, e1, e2, e3, k0, k1, k2, k3, ht⟩ := hx j ks[j] (List.getElem?_eq_getElem hj)
  have hc := fun (x : Nat) => World.cell?_of_block (w := w) (w' := wr) (a := ⟨b, x, none⟩) (hk b sb hlt)
  exact ⟨b, o, e0, e1, e2, e3, rfl, hlt, (hc _).trans k0, (hc _).trans k1, (hc _).trans k2, (hc _).trans k3, EX.keepS f ks[j] e0 e1 e2 e3 ht hs hk fun _ h => h⟩
end

/-- The six cells read, in w, as the rule r. -/
def RX (w : World) (S : Nat → Prop) (f : Nat) (r : Rl f) (c0 c1 c2 c3 c4 c5 : Value) : Prop := c0 = strV r.cls ∧ r.cls.length ≤ maxLen ∧ EX w S f r.when_ c1 c2 c3 c4 ∧ c5 = .int .i64 r.act ∧ I64 r.act
/-- The slice value v reads, in w, as these rules. -/
def RS (w : World) (S : Nat → Prop) (f : Nat) (v : Value) (l : List (Rl f)) : Prop :=
  ∃ A c, v = .slice A l.length c ∧ l.length ≤ c ∧ c ≤ maxLen ∧
    (0 < l.length → ∃ b o, A = some ⟨b, o, none⟩ ∧ S b ∧ b < w.heap.size ∧
      ∀ i t, l[i]? = some t → ∃ c0 c1 c2 c3 c4 c5, w.cell? ⟨b, o + i * 6, none⟩ = some c0 ∧ w.cell? ⟨b, o + i * 6 + 1, none⟩ = some c1 ∧ w.cell? ⟨b, o + i * 6 + 2, none⟩ = some c2 ∧ w.cell? ⟨b, o + i * 6 + 3, none⟩ = some c3 ∧
        w.cell? ⟨b, o + i * 6 + 4, none⟩ = some c4 ∧ w.cell? ⟨b, o + i * 6 + 5, none⟩ = some c5 ∧ RX w S f t c0 c1 c2 c3 c4 c5)

section
variable {w w' : World} {S S' : Nat → Prop} {f : Nat} {v : Value} {l : List (Rl f)}
theorem RS.keepS (h : RS w S f v l) (hs : w.heap.size ≤ w'.heap.size) (hk : ∀ b, S b → b < w.heap.size → w'.heap[b]? = w.heap[b]?) (hS : ∀ b, S b → S' b) : RS w' S' f v l := by
  obtain ⟨A, c, e, hl, hc, hx⟩ := h
  refine ⟨A, c, e, hl, hc, fun h0 => ?_⟩
  obtain ⟨b, o, ea, sb, hb, hx⟩ := hx h0
  refine ⟨b, o, ea, hS b sb, by omega, fun i t hi => ?_⟩
  obtain ⟨c0, c1, c2, c3, c4, c5, k0, k1, k2, k3, k4, k5, r0, r1, r2, r3⟩ := hx i t hi
  have hc := fun (x : Nat) => World.cell?_of_block (w := w) (w' := w') (a := ⟨b, x, none⟩) (hk b sb hb)
  exact ⟨c0, c1, c2, c3, c4, c5, (hc _).trans k0, (hc _).trans k1, (hc _).trans k2, (hc _).trans k3, (hc _).trans k4, (hc _).trans k5, r0, r1, EX.keepS f t.when_ c1 c2 c3 c4 r2 hs hk hS, r3⟩
theorem RS.below' (h : RS w S f v l) (hb : Below w.heap.size w w') : RS w' S f v l := h.keepS hb.size (fun b _ hlt => hb.block b hlt) fun _ h => h
theorem RS.mono (h : RS w S f v l) (hS : ∀ b, S b → S' b) : RS w S' f v l := h.keepS (Nat.le_refl _) (fun _ _ _ => rfl) hS
theorem RS.alloc (h : RS w S f v l) (o : Obj) : RS (w.alloc o) S f v l := h.keepS (by simp) (fun b _ hb => Below.heap_alloc w o b hb) fun _ h => h
theorem RS.keepP {P : Nat → Prop} (h : RS w S f v l) (k : KeepP P w w') (hp : ∀ b, S b → b < w.heap.size → P b) : RS w' S f v l := h.keepS k.size (fun b sb hb => k.block b (hp b sb hb)) fun _ h => h
theorem RS.form (h : RS w S f v l) : ∃ A c, v = .slice A l.length c ∧ l.length ≤ c ∧ c ≤ maxLen := by
  obtain ⟨A, c, e, hl, hc, _⟩ := h
  exact ⟨A, c, e, hl, hc⟩
theorem RS.nil (w : World) (S : Nat → Prop) (f : Nat) : RS w S f (.slice none 0 0) [] := ⟨none, 0, rfl, by simp, by simp [maxLen], fun h => absurd h (by simp)⟩
theorem RS.lifted (h : RS w S f v l) : RS w S (f + 1) v (l.map fun r => ⟨r.cls, liftX f r.when_, r.act⟩) := by
  obtain ⟨A, c, e, hl, hc, hx⟩ := h
  refine ⟨A, c, by rw [List.length_map]; exact e, by rw [List.length_map]; exact hl, hc, fun h0 => ?_⟩
  rw [List.length_map] at h0
  obtain ⟨b, o, ea, sb, hb, hx⟩ := hx h0
  refine ⟨b, o, ea, sb, hb, fun i t hi => ?_⟩
  rw [List.getElem?_map] at hi
  cases hq : l[i]? with
  | none => rw [hq] at hi; cases hi
  | some u =>
    rw [hq] at hi
    simp only [Option.map_some, Option.some.injEq] at hi
    subst hi
    obtain ⟨c0, c1, c2, c3, c4, c5, k0, k1, k2, k3, k4, k5, r0, r1, r2, r3⟩ := hx i u hq
    exact ⟨c0, c1, c2, c3, c4, c5, k0, k1, k2, k3, k4, k5, r0, r1, EX.lifted f u.when_ c1 c2 c3 c4 r2, r3⟩
/-- A rule of a list, where memory stands now. -/
theorem rule_at {wr : World} {A : Option Addr} {c n : Nat} (h : RS w S f (.slice A n c) l) (hn : l.length = n) (hs : w.heap.size ≤ wr.heap.size) (hk : ∀ b, S b → b < w.heap.size → wr.heap[b]? = w.heap[b]?) (j : Nat) (hj : j < l.length) :
    ∃ b o e0 e1 e2 e3 e4 e5, A = some ⟨b, o, none⟩ ∧ b < w.heap.size ∧ wr.cell? ⟨b, o + j * 6, none⟩ = some e0 ∧ wr.cell? ⟨b, o + j * 6 + 1, none⟩ = some e1 ∧ wr.cell? ⟨b, o + j * 6 + 2, none⟩ = some e2 ∧ wr.cell? ⟨b, o + j * 6 + 3, none⟩ = some e3 ∧
      wr.cell? ⟨b, o + j * 6 + 4, none⟩ = some e4 ∧ wr.cell? ⟨b, o + j * 6 + 5, none⟩ = some e5 ∧ RX wr S f l[j] e0 e1 e2 e3 e4 e5 := by
  subst hn
  have h' := h.keepS (w' := wr) hs hk fun _ h => h
  obtain ⟨A', c', e, hl, hc, hx⟩ := h
  obtain ⟨A2, c2, e', _, _, hx'⟩ := h'
  rw [e] at e'
  injection e with e1 e2 e3
  injection e' with e1' e2' e3'
  subst e1 e3 e1' e3'
  obtain ⟨b, o, rfl, sb, hlt, _⟩ := hx (by omega)
  obtain ⟨b', o', eb, _, _, hx'⟩ := hx' (by omega)
  injection eb with eb
  injection eb with eb eo
  subst eb eo
  obtain ⟨c0, c1, c2, c3, c4, c5, k0, k1, k2, k3, k4, k5, r⟩ := hx' j l[j] (List.getElem?_eq_getElem hj)
  exact ⟨b, o, c0, c1, c2, c3, c4, c5, rfl, hlt, k0, k1, k2, k3, k4, k5, r⟩
end

/-- The value v, a whole condition, reads in w as x. -/
def EV (w : World) (S : Nat → Prop) (f : Nat) (v : Value) (x : Ex f) : Prop := ∃ c0 c1 c2 c3, v = .agg #[c0, c1, c2, c3] ∧ EX w S f x c0 c1 c2 c3
section
variable {w w' : World} {S S' : Nat → Prop} {f : Nat} {v : Value} {t : Ex f}
theorem EV.mono (h : EV w S f v t) (hS : ∀ b, S b → S' b) : EV w S' f v t := by
  obtain ⟨c0, c1, c2, c3, e, h⟩ := h
  exact ⟨c0, c1, c2, c3, e, h.mono hS⟩
theorem EV.below' (h : EV w S f v t) (hb : Below w.heap.size w w') : EV w' S f v t := by
  obtain ⟨c0, c1, c2, c3, e, h⟩ := h
  exact ⟨c0, c1, c2, c3, e, h.below' hb⟩
theorem EV.alloc (h : EV w S f v t) (o : Obj) : EV (w.alloc o) S f v t := by
  obtain ⟨c0, c1, c2, c3, e, h⟩ := h
  exact ⟨c0, c1, c2, c3, e, h.alloc o⟩
theorem EV.lifted (h : EV w S f v t) : EV w S (f + 1) v (liftX f t) := by
  obtain ⟨c0, c1, c2, c3, e, h⟩ := h
  exact ⟨c0, c1, c2, c3, e, EX.lifted f t c0 c1 c2 c3 h⟩
end

/-! What came in. -/
theorem cells_expr : Try.prog.cellsOf 24 = 4 := by kernel_rfl
theorem cells_rule : Try.prog.cellsOf 49 = 6 := by kernel_rfl
theorem cells_num : Try.prog.cellsOf 3 = 1 := by kernel_rfl
theorem cells_exprs : Try.prog.cellsOf 22 = 1 := by kernel_rfl

theorem four_of {cs : List Value} (h : cs.length = 4) : ∃ c0 c1 c2 c3, cs = [c0, c1, c2, c3] := by
  match cs, h with
  | [a, b, c, d], _ => exact ⟨a, b, c, d, rfl⟩
theorem six_of {cs : List Value} (h : cs.length = 6) : ∃ c0 c1 c2 c3 c4 c5, cs = [c0, c1, c2, c3, c4, c5] := by
  match cs, h with
  | [a, b, c, d, e, g], _ => exact ⟨a, b, c, d, e, g, rfl⟩

theorem EX_of_trod {H : Type} {enc : TypeId × Value → H} {W : World} : ∀ (n : Nat) (cs : List Value) (x : DataW H × List MemPlace), DataW.trod enc Try.prog W 0 (fun _ => true) true n 24 cs = some x →
    ∃ (t : Ex n) (c0 c1 c2 c3 : Value), cs = [c0, c1, c2, c3] ∧ EX W (fun b => b < W.heap.size) n t c0 c1 c2 c3 := by
  intro n
  induction n using Nat.strongRecOn with
  | _ n ih =>
    intro cs x h
    obtain ⟨xs, m, rfl, _, hl, hxl, hf⟩ := DataW.trod_struct Try.underlying24 h
    rw [cells_expr] at hl
    obtain ⟨c0, c1, c2, c3, rfl⟩ := four_of hl
    obtain ⟨x0, x1, x2, x3, rfl⟩ : ∃ x0 x1 x2 x3, xs = [x0, x1, x2, x3] := by
      match xs, hxl with
      | [a, b, c, d], _ => exact ⟨a, b, c, d, rfl⟩
    have g0 : DataW.trod enc Try.prog W 0 (fun _ => true) true m 3 (List.take (Try.prog.cellsOf 3) [c0, c1, c2, c3]) = some x0 := hf 0 _ rfl
    have g1 : DataW.trod enc Try.prog W 0 (fun _ => true) true m 3 (List.take (Try.prog.cellsOf 3) [c1, c2, c3]) = some x1 := hf 1 _ rfl
    have g2 : DataW.trod enc Try.prog W 0 (fun _ => true) true m 9 (List.take (Try.prog.cellsOf 9) [c2, c3]) = some x2 := hf 2 _ rfl
    have g3 : DataW.trod enc Try.prog W 0 (fun _ => true) true m 22 (List.take (Try.prog.cellsOf 22) [c3]) = some x3 := hf 3 _ rfl
    rw [cells_num] at g0 g1
    rw [cells_str] at g2
    rw [cells_exprs] at g3
    obtain ⟨k, e0, _, wk⟩ := DataW.trod_int Try.underlying3 g0
    obtain ⟨u, e1, _, wu⟩ := DataW.trod_int Try.underlying3 g1
    obtain ⟨s, e2, _, ws⟩ := DataW.trod_string Try.underlying9 g2
    simp at e0 e1 e2
    subst e0 e1 e2
    have hk : I64 k := by simpa [I64, Lit.wf, IntKind.min, IntKind.max, IntKind.signed, IntKind.bits] using wk
    have hu : I64 u := by simpa [I64, Lit.wf, IntKind.min, IntKind.max, IntKind.signed, IntKind.bits] using wu
    have hsz : s.data.toList.length = s.size := by rw [Array.length_toList]; rfl
    have main : ∃ ks : List (Ex m), XS W (fun b => b < W.heap.size) (EX W (fun b => b < W.heap.size) m) c3 ks := by
      rcases Deep.open_slice Try.underlying22 g3 with ⟨hcs, _⟩ | _
      · simp at hcs
        subst hcs
        exact ⟨[], XS.nil _ _ _⟩
      · rcases DataW.trod_slice Try.underlying22 g3 with ⟨hcs, _⟩ | ⟨a, len, cap, elems, rest, n, rfl, hcs, _, _, hlc, hm, hel, hi, _, _⟩
        · simp at hcs
          subst hcs
          exact ⟨[], XS.nil _ _ _⟩
        · simp at hcs
          subst hcs
          rw [cells_expr] at hi
          have hi2 : ∀ i, i < len → ∃ t : Ex (n + 1), ∃ c0 c1 c2 c3, W.cell? (a.add (i * 4)) = some c0 ∧ W.cell? ((a.add (i * 4)).add 1) = some c1 ∧ W.cell? ((a.add (i * 4)).add 2) = some c2 ∧ W.cell? ((a.add (i * 4)).add 3) = some c3 ∧
              EX W (fun b => b < W.heap.size) (n + 1) t c0 c1 c2 c3 := by
            intro i hil
            have := hi i hil
            rw [List.getElem?_eq_getElem (by omega)] at this
            obtain ⟨cs, hcs, htr⟩ := Option.bind_eq_some_iff.1 this
            obtain ⟨t, d0, d1, d2, d3, rfl, ht⟩ := ih n (by omega) cs _ htr
            obtain ⟨_, _, hcell⟩ := World.cells?_some hcs
            have k0 := hcell 0 (by omega)
            have k1 := hcell 1 (by omega)
            have k2 := hcell 2 (by omega)
            have k3 := hcell 3 (by omega)
            refine ⟨liftX n t, d0, d1, d2, d3, ?_, k1, k2, k3, EX.lifted n t d0 d1 d2 d3 ht⟩
            have : (a.add (i * 4)).add 0 = a.add (i * 4) := rfl
            rw [← this]; exact k0
          haveI : Inhabited (Ex (n + 1)) := ⟨(⟨0, 0, [], []⟩ : Nx (Ex n))⟩
          obtain ⟨f, hf⟩ := Deep.choose_lt (α := Ex (n + 1)) hi2
          have hlen : ((List.range len).map f).length = len := by simp
          refine ⟨(List.range len).map f, some a, cap, by rw [hlen], by omega, hm, fun h0 => ?_⟩
          rw [hlen] at h0
          obtain ⟨b, o, spot⟩ := a
          have hspot : spot = none := by
            obtain ⟨_, _, _, _, k0, _⟩ := hf 0 h0
            simpa [Addr.add] using World.cell?_spot k0
          subst hspot
          have hb : b < W.heap.size := by
            obtain ⟨_, _, _, _, k0, _⟩ := hf 0 h0
            rw [add_plain] at k0
            exact World.block_lt_of_cell? _ _ k0
          refine ⟨b, o, rfl, hb, hb, fun i t hit => ?_⟩
          have hil : i < len := by
            have := (List.getElem?_eq_some_iff.1 hit).1
            omega
          simp [hil] at hit
          subst hit
          obtain ⟨d0, d1, d2, d3, k0, k1, k2, k3, kt⟩ := hf i hil
          rw [add_plain] at k0 k1 k2 k3
          rw [add_plain] at k1 k2 k3
          exact ⟨d0, d1, d2, d3, k0, k1, k2, k3, kt⟩
    obtain ⟨ks, hks⟩ := main
    exact ⟨(⟨k, u, s.data.toList, ks⟩ : Nx (Ex m)), _, _, _, _, rfl, rfl, hk, rfl, hu, rfl, by show s.data.toList.length ≤ _; omega, hks⟩

/-- A condition that came in. -/
theorem open_expr {H : Type} {enc : TypeId × Value → H} {W : World} {base : Nat} {v : Value} {d : DataW H} {p : List MemPlace}
    (ok : Value.okWide Try.prog W .any base 24 v) (h : DataW.Trod enc Try.prog W 0 (fun _ => true) true 24 v d p) :
    ∃ (n : Nat), ∀ m, n ≤ m → ∃ t : Ex m, EV W (fun b => b < W.heap.size) m v t := by
  obtain ⟨cs, rfl, hsz⟩ := okWide_struct Try.underlying24 ok
  obtain ⟨n, hn⟩ := h
  refine ⟨n, fun m hm => ?_⟩
  obtain ⟨k, rfl⟩ := Nat.le.dest hm
  clear hm
  induction k with
  | zero =>
    obtain ⟨t, c0, c1, c2, c3, e, ht⟩ := EX_of_trod n _ _ hn
    refine ⟨t, c0, c1, c2, c3, ?_, ht⟩
    have : cs = #[c0, c1, c2, c3] := by
      apply Array.toList_inj.1
      simpa [Value.cells] using e
    rw [this]
  | succ k ih =>
    obtain ⟨t, ht⟩ := ih
    exact ⟨liftX (n + k) t, ht.lifted⟩

theorem RX_of_trod {H : Type} {enc : TypeId × Value → H} {W : World} (n : Nat) (cs : List Value) (x : DataW H × List MemPlace) (h : DataW.trod enc Try.prog W 0 (fun _ => true) true n 49 cs = some x) :
    ∃ (t : Rl n) (c0 c1 c2 c3 c4 c5 : Value), cs = [c0, c1, c2, c3, c4, c5] ∧ RX W (fun b => b < W.heap.size) n t c0 c1 c2 c3 c4 c5 := by
  obtain ⟨xs, m, rfl, _, hl, hxl, hf⟩ := DataW.trod_struct Try.underlying49 h
  rw [cells_rule] at hl
  obtain ⟨c0, c1, c2, c3, c4, c5, rfl⟩ := six_of hl
  obtain ⟨x0, x1, x2, rfl⟩ : ∃ x0 x1 x2, xs = [x0, x1, x2] := by
    match xs, hxl with
    | [a, b, c], _ => exact ⟨a, b, c, rfl⟩
  have g0 : DataW.trod enc Try.prog W 0 (fun _ => true) true m 9 (List.take (Try.prog.cellsOf 9) [c0, c1, c2, c3, c4, c5]) = some x0 := hf 0 _ rfl
  have g1 : DataW.trod enc Try.prog W 0 (fun _ => true) true m 24 (List.take (Try.prog.cellsOf 24) [c1, c2, c3, c4, c5]) = some x1 := hf 1 _ rfl
  have g2 : DataW.trod enc Try.prog W 0 (fun _ => true) true m 3 (List.take (Try.prog.cellsOf 3) [c5]) = some x2 := hf 2 _ rfl
  rw [cells_str] at g0
  rw [cells_expr] at g1
  rw [cells_num] at g2
  obtain ⟨s, e0, _, ws⟩ := DataW.trod_string Try.underlying9 g0
  obtain ⟨u, e2, _, wu⟩ := DataW.trod_int Try.underlying3 g2
  obtain ⟨t, d0, d1, d2, d3, e1, ht⟩ := EX_of_trod m _ _ g1
  simp at e0 e1 e2
  obtain ⟨rfl, rfl, rfl, rfl⟩ := e1
  subst e0 e2
  have hu : I64 u := by simpa [I64, Lit.wf, IntKind.min, IntKind.max, IntKind.signed, IntKind.bits] using wu
  have hsz : s.data.toList.length = s.size := by rw [Array.length_toList]; rfl
  exact ⟨⟨s.data.toList, liftX m t, u⟩, _, _, _, _, _, _, rfl, rfl, by show s.data.toList.length ≤ _; omega, EX.lifted m t _ _ _ _ ht, rfl, hu⟩

/-- Rules that came in. -/
theorem open_rules {H : Type} {enc : TypeId × Value → H} {W : World} {base : Nat} {v : Value} {d : DataW H} {p : List MemPlace}
    (ok : Value.okWide Try.prog W .any base 31 v) (h : DataW.Trod enc Try.prog W 0 (fun _ => true) true 31 v d p) :
    ∃ (n : Nat), ∀ m, n ≤ m → ∃ l : List (Rl m), RS W (fun b => b < W.heap.size) m v l := by
  obtain ⟨a0, len0, cap0, rfl⟩ := okWide_slice Try.underlying31 ok
  obtain ⟨n0, hn⟩ := h
  have main : ∃ n, ∃ l : List (Rl n), RS W (fun b => b < W.heap.size) n (.slice a0 len0 cap0) l := by
    rcases DataW.trod_slice Try.underlying31 hn with ⟨hcs, _⟩ | ⟨a, len, cap, elems, rest, n, rfl, hcs, _, _, hlc, hm, hel, hi, _, _⟩
    · simp [Value.cells] at hcs
      obtain ⟨rfl, rfl, rfl⟩ := hcs
      exact ⟨0, [], RS.nil _ _ _⟩
    · simp [Value.cells] at hcs
      obtain ⟨rfl, rfl, rfl⟩ := hcs
      rw [cells_rule] at hi
      have hi2 : ∀ i, i < len0 → ∃ t : Rl n, ∃ c0 c1 c2 c3 c4 c5, W.cell? (a.add (i * 6)) = some c0 ∧ W.cell? ((a.add (i * 6)).add 1) = some c1 ∧ W.cell? ((a.add (i * 6)).add 2) = some c2 ∧ W.cell? ((a.add (i * 6)).add 3) = some c3 ∧
          W.cell? ((a.add (i * 6)).add 4) = some c4 ∧ W.cell? ((a.add (i * 6)).add 5) = some c5 ∧ RX W (fun b => b < W.heap.size) n t c0 c1 c2 c3 c4 c5 := by
        intro i hil
        have := hi i hil
        rw [List.getElem?_eq_getElem (by omega)] at this
        obtain ⟨cs, hcs, htr⟩ := Option.bind_eq_some_iff.1 this
        obtain ⟨t, d0, d1, d2, d3, d4, d5, rfl, ht⟩ := RX_of_trod n cs _ htr
        obtain ⟨_, _, hcell⟩ := World.cells?_some hcs
        have k0 := hcell 0 (by omega)
        have k1 := hcell 1 (by omega)
        have k2 := hcell 2 (by omega)
        have k3 := hcell 3 (by omega)
        have k4 := hcell 4 (by omega)
        have k5 := hcell 5 (by omega)
        refine ⟨t, d0, d1, d2, d3, d4, d5, ?_, k1, k2, k3, k4, k5, ht⟩
        have : (a.add (i * 6)).add 0 = a.add (i * 6) := rfl
        rw [← this]; exact k0
      by_cases hz : len0 = 0
      · subst hz
        exact ⟨n, [], _, _, rfl, by simp, hm, fun h => absurd h (by simp)⟩
      haveI : Inhabited (Rl n) := ⟨(hi2 0 (by omega)).choose⟩
      obtain ⟨f, hf⟩ := Deep.choose_lt (α := Rl n) hi2
      have hlen : ((List.range len0).map f).length = len0 := by simp
      refine ⟨n, (List.range len0).map f, some a, cap0, by rw [hlen], by omega, hm, fun h0 => ?_⟩
      rw [hlen] at h0
      obtain ⟨b, o, spot⟩ := a
      have hspot : spot = none := by
        obtain ⟨_, _, _, _, _, _, k0, _⟩ := hf 0 h0
        simpa [Addr.add] using World.cell?_spot k0
      subst hspot
      have hb : b < W.heap.size := by
        obtain ⟨_, _, _, _, _, _, k0, _⟩ := hf 0 h0
        rw [add_plain] at k0
        exact World.block_lt_of_cell? _ _ k0
      refine ⟨b, o, rfl, hb, hb, fun i t hit => ?_⟩
      have hil : i < len0 := by
        have := (List.getElem?_eq_some_iff.1 hit).1
        omega
      simp [hil] at hit
      subst hit
      obtain ⟨d0, d1, d2, d3, d4, d5, k0, k1, k2, k3, k4, k5, kt⟩ := hf i hil
      rw [add_plain] at k0 k1 k2 k3 k4 k5
      rw [add_plain] at k1 k2 k3 k4 k5
      exact ⟨d0, d1, d2, d3, d4, d5, k0, k1, k2, k3, k4, k5, kt⟩
  obtain ⟨n, l, hl⟩ := main
  refine ⟨n, fun m hm => ?_⟩
  obtain ⟨k, rfl⟩ := Nat.le.dest hm
  clear hm
  induction k with
  | zero => exact ⟨l, hl⟩
  | succ k ih =>
    obtain ⟨l', hl'⟩ := ih
    exact ⟨_, hl'.lifted⟩
end Go.Proofs.Ytommcdgognlfcaa
