/-
  HdV: Holds in memory (layer 22): a hold is seven cells (its Id, its scope's five, whether it is active), a list of holds is a row of them; holds that came in; rows of holds that grow. No condition.
-/
import Derived.Test.YtdkmjdcddldjgaaHy01
import Derived.Test.YtdkmjdcddldjgaaHy02
import Derived.Test.YtdkmjdcddldjgaaHy03
set_option linter.unusedVariables false
set_option maxRecDepth 100000
namespace Go.Proofs.Ytdkmjdcddldjgaa
section
open Go.ChangeShapes Go.WideShapes Go.ChangeAt Go.RowKit
def HX (w : World) (S : Nat → Prop) (f : Nat) (h : Hl f) (c0 c1 c2 c3 c4 c5 c6 : Value) : Prop := c0 = strV h.id ∧ h.id.length ≤ maxLen ∧ ZX w S f h.sc c1 c2 c3 c4 c5 ∧ c6 = .bool h.act
def HS (w : World) (S : Nat → Prop) (f : Nat) (v : Value) (l : List (Hl f)) : Prop :=
  ∃ A c, v = .slice A l.length c ∧ l.length ≤ c ∧ c ≤ maxLen ∧ (A = none → c = 0) ∧
    (0 < l.length → ∃ b o, A = some ⟨b, o, none⟩ ∧ S b ∧ b < w.heap.size ∧
      ∀ i t, l[i]? = some t → ∃ c0 c1 c2 c3 c4 c5 c6, w.cell? ⟨b, o + i * 7, none⟩ = some c0 ∧ w.cell? ⟨b, o + i * 7 + 1, none⟩ = some c1 ∧ w.cell? ⟨b, o + i * 7 + 2, none⟩ = some c2 ∧ w.cell? ⟨b, o + i * 7 + 3, none⟩ = some c3 ∧ w.cell? ⟨b, o + i * 7 + 4, none⟩ = some c4 ∧ w.cell? ⟨b, o + i * 7 + 5, none⟩ = some c5 ∧ w.cell? ⟨b, o + i * 7 + 6, none⟩ = some c6 ∧ HX w S f t c0 c1 c2 c3 c4 c5 c6)
def liftHl (f : Nat) (h : Hl f) : Hl (f + 1) := ⟨h.id, liftS f h.sc, h.act⟩
section
variable {w w' : World} {S S' : Nat → Prop} {f : Nat} {v : Value} {l : List (Hl f)}
theorem HX.keepL {t : Hl f} {c0 c1 c2 c3 c4 c5 c6 : Value} (h : HX w S f t c0 c1 c2 c3 c4 c5 c6) (hs : w.heap.size ≤ w'.heap.size) (hk : ∀ b, S b → b < w.heap.size → w'.heap[b]? = w.heap[b]?) (hS : ∀ b, S b → b < w.heap.size → S' b) : HX w' S' f t c0 c1 c2 c3 c4 c5 c6 := by
  obtain ⟨h0, h1, h2, h3⟩ := h
  exact ⟨h0, h1, ZX.keepL f _ _ _ _ _ _ h2 hs hk hS, h3⟩
theorem HX.below' {t : Hl f} {c0 c1 c2 c3 c4 c5 c6 : Value} (h : HX w S f t c0 c1 c2 c3 c4 c5 c6) (hb : Below w.heap.size w w') : HX w' S f t c0 c1 c2 c3 c4 c5 c6 := h.keepL hb.size (fun b _ hlt => hb.block b hlt) fun _ h _ => h
theorem HX.lifted {t : Hl f} {c0 c1 c2 c3 c4 c5 c6 : Value} (h : HX w S f t c0 c1 c2 c3 c4 c5 c6) : HX w S (f + 1) (liftHl f t) c0 c1 c2 c3 c4 c5 c6 := by
  obtain ⟨h0, h1, h2, h3⟩ := h
  exact ⟨h0, h1, ZX.lifted f _ _ _ _ _ _ h2, h3⟩
theorem HX.form {t : Hl f} {c0 c1 c2 c3 c4 c5 c6 : Value} (h : HX w S f t c0 c1 c2 c3 c4 c5 c6) : ∃ (l0 : List UInt8) (i1 : Int) (l2 : List UInt8) (i3 i4 : Int) (X5 : Option Addr) (n5 z5 : Nat) (b6 : Bool), c0 = strV l0 ∧ c1 = .int .i64 i1 ∧ c2 = strV l2 ∧ c3 = .int .i64 i3 ∧ c4 = .int .i64 i4 ∧ c5 = .slice X5 n5 z5 ∧ c6 = .bool b6 := by
  obtain ⟨h0, h1, h2, h3⟩ := h
  obtain ⟨i1, l2, i3, i4, X5, n5, z5, e1, e2, e3, e4, e5⟩ := h2.form
  exact ⟨_, i1, l2, i3, i4, X5, n5, z5, _, h0, e1, e2, e3, e4, e5, h3⟩
theorem HS.keepL (h : HS w S f v l) (hs : w.heap.size ≤ w'.heap.size) (hk : ∀ b, S b → b < w.heap.size → w'.heap[b]? = w.heap[b]?) (hS : ∀ b, S b → b < w.heap.size → S' b) : HS w' S' f v l := by
  obtain ⟨A, c, e, hl, hc, hn, hx⟩ := h
  refine ⟨A, c, e, hl, hc, hn, fun h0 => ?_⟩
  obtain ⟨b, o, ea, sb, hb, hx⟩ := hx h0
  refine ⟨b, o, ea, hS b sb hb, by omega, fun i t hi => ?_⟩
  obtain ⟨c0, c1, c2, c3, c4, c5, c6, k0, k1, k2, k3, k4, k5, k6, r⟩ := hx i t hi
  have hc := fun (x : Nat) => World.cell?_of_block (w := w) (w' := w') (a := ⟨b, x, none⟩) (hk b sb hb)
  exact ⟨c0, c1, c2, c3, c4, c5, c6, (hc _).trans k0, (hc _).trans k1, (hc _).trans k2, (hc _).trans k3, (hc _).trans k4, (hc _).trans k5, (hc _).trans k6, r.keepL hs hk hS⟩
theorem HS.below' (h : HS w S f v l) (hb : Below w.heap.size w w') : HS w' S f v l := h.keepL hb.size (fun b _ hlt => hb.block b hlt) fun _ h _ => h
theorem HS.mono (h : HS w S f v l) (hS : ∀ b, S b → S' b) : HS w S' f v l := h.keepL (Nat.le_refl _) (fun _ _ _ => rfl) fun b sb _ => hS b sb
theorem HS.alloc (h : HS w S f v l) (o : Obj) : HS (w.alloc o) S f v l := h.keepL (by simp) (fun b _ hb => Below.heap_alloc w o b hb) fun _ h _ => h
theorem HS.form (h : HS w S f v l) : ∃ A c, v = .slice A l.length c ∧ l.length ≤ c ∧ c ≤ maxLen ∧ (A = none → c = 0) := by
  obtain ⟨A, c, e, hl, hc, hn, _⟩ := h
  exact ⟨A, c, e, hl, hc, hn⟩
theorem HS.nil (w : World) (S : Nat → Prop) (f : Nat) : HS w S f (.slice none 0 0) [] := ⟨none, 0, rfl, by simp, by simp [maxLen], fun _ => rfl, fun h => absurd h (by simp)⟩
theorem HS.lifted (h : HS w S f v l) : HS w S (f + 1) v (l.map (liftHl f)) := by
  obtain ⟨A, c, e, hl, hc, hn, hx⟩ := h
  refine ⟨A, c, by rw [List.length_map]; exact e, by rw [List.length_map]; exact hl, hc, hn, fun h0 => ?_⟩
  rw [List.length_map] at h0
  obtain ⟨b, o, ea, sb, hb, hx⟩ := hx h0
  refine ⟨b, o, ea, sb, hb, fun i t hi => ?_⟩
  rw [List.getElem?_map] at hi
  cases hq : l[i]? with
  | none => rw [hq] at hi; cases hi
  | some u =>
    rw [hq] at hi
    simp only [Option.map_some, Option.some.injEq] at hi
    subst hi
    obtain ⟨c0, c1, c2, c3, c4, c5, c6, k0, k1, k2, k3, k4, k5, k6, r⟩ := hx i u hq
    exact ⟨c0, c1, c2, c3, c4, c5, c6, k0, k1, k2, k3, k4, k5, k6, r.lifted⟩
theorem hold_at {wr : World} {A : Option Addr} {c n : Nat} (h : HS w S f (.slice A n c) l) (hn : l.length = n) (hs : w.heap.size ≤ wr.heap.size) (hk : ∀ b, S b → b < w.heap.size → wr.heap[b]? = w.heap[b]?) (j : Nat) (hj : j < l.length) :
    ∃ b o e0 e1 e2 e3 e4 e5 e6, A = some ⟨b, o, none⟩ ∧ b < w.heap.size ∧ wr.cell? ⟨b, o + j * 7, none⟩ = some e0 ∧ wr.cell? ⟨b, o + j * 7 + 1, none⟩ = some e1 ∧ wr.cell? ⟨b, o + j * 7 + 2, none⟩ = some e2 ∧ wr.cell? ⟨b, o + j * 7 + 3, none⟩ = some e3 ∧ wr.cell? ⟨b, o + j * 7 + 4, none⟩ = some e4 ∧ wr.cell? ⟨b, o + j * 7 + 5, none⟩ = some e5 ∧ wr.cell? ⟨b, o + j * 7 + 6, none⟩ = some e6 ∧ HX wr S f l[j] e0 e1 e2 e3 e4 e5 e6 := by
  subst hn
  obtain ⟨A', c', e, hl, hc, _, hx⟩ := h
  injection e with e1 e2 e3
  subst e1 e3
  obtain ⟨b, o, rfl, sb, hlt, hx⟩ := hx (by omega)
  obtain ⟨c0, c1, c2, c3, c4, c5, c6, k0, k1, k2, k3, k4, k5, k6, r⟩ := hx j l[j] (List.getElem?_eq_getElem hj)
  have hc := fun (x : Nat) => World.cell?_of_block (w := w) (w' := wr) (a := ⟨b, x, none⟩) (hk b sb hlt)
  exact ⟨b, o, c0, c1, c2, c3, c4, c5, c6, rfl, hlt, (hc _).trans k0, (hc _).trans k1, (hc _).trans k2, (hc _).trans k3, (hc _).trans k4, (hc _).trans k5, (hc _).trans k6, r.keepL hs hk fun _ h _ => h⟩
end
theorem hold_atb {w wr : World} {S : Nat → Prop} {f : Nat} {l : List (Hl f)} {A : Option Addr} {c n : Nat} (h : HS w S f (.slice A n c) l) (hn : l.length = n) (hb : Below w.heap.size w wr) (j : Nat) (hj : j < l.length) :
    ∃ b o e0 e1 e2 e3 e4 e5 e6, A = some ⟨b, o, none⟩ ∧ b < w.heap.size ∧ wr.cell? ⟨b, o + j * 7, none⟩ = some e0 ∧ wr.cell? ⟨b, o + j * 7 + 1, none⟩ = some e1 ∧ wr.cell? ⟨b, o + j * 7 + 2, none⟩ = some e2 ∧ wr.cell? ⟨b, o + j * 7 + 3, none⟩ = some e3 ∧ wr.cell? ⟨b, o + j * 7 + 4, none⟩ = some e4 ∧ wr.cell? ⟨b, o + j * 7 + 5, none⟩ = some e5 ∧ wr.cell? ⟨b, o + j * 7 + 6, none⟩ = some e6 ∧ HX wr S f l[j] e0 e1 e2 e3 e4 e5 e6 :=
  hold_at h hn hb.size (fun b _ hlt => hb.block b hlt) j hj
/-! What came in. -/
theorem cells_hold : Try.prog.cellsOf 47 = 7 := by kernel_rfl
theorem cells_hbool : Try.prog.cellsOf 4 = 1 := by kernel_rfl
theorem seven_of {cs : List Value} (h : cs.length = 7) : ∃ c0 c1 c2 c3 c4 c5 c6, cs = [c0, c1, c2, c3, c4, c5, c6] := by
  match cs, h with
  | [a, b, c, d, e, g, i], _ => exact ⟨a, b, c, d, e, g, i, rfl⟩
theorem HX_of_trod {H : Type} {enc : TypeId × Value → H} {W : World} (n : Nat) (cs : List Value) (x : DataW H × List MemPlace) (h : DataW.trod enc Try.prog W 0 (fun _ => true) true n 47 cs = some x) :
    ∃ (t : Hl n) (c0 c1 c2 c3 c4 c5 c6 : Value), cs = [c0, c1, c2, c3, c4, c5, c6] ∧ HX W (fun b => b < W.heap.size) n t c0 c1 c2 c3 c4 c5 c6 := by
  obtain ⟨xs, m, rfl, _, hl, hxl, hf⟩ := DataW.trod_struct Try.underlying47 h
  rw [cells_hold] at hl
  obtain ⟨c0, c1, c2, c3, c4, c5, c6, rfl⟩ := seven_of hl
  obtain ⟨x0, x1, x2, rfl⟩ : ∃ x0 x1 x2, xs = [x0, x1, x2] := by
    match xs, hxl with
    | [a, b, c], _ => exact ⟨a, b, c, rfl⟩
  have g0 : DataW.trod enc Try.prog W 0 (fun _ => true) true m 9 (List.take (Try.prog.cellsOf 9) [c0, c1, c2, c3, c4, c5, c6]) = some x0 := hf 0 _ rfl
  have g1 : DataW.trod enc Try.prog W 0 (fun _ => true) true m 25 (List.take (Try.prog.cellsOf 25) [c1, c2, c3, c4, c5, c6]) = some x1 := hf 1 _ rfl
  have g2 : DataW.trod enc Try.prog W 0 (fun _ => true) true m 4 (List.take (Try.prog.cellsOf 4) [c6]) = some x2 := hf 2 _ rfl
  rw [cells_zstr] at g0
  rw [cells_scope] at g1
  rw [cells_hbool] at g2
  obtain ⟨s, e0, _, ws⟩ := DataW.trod_string Try.underlying9 g0
  obtain ⟨u, e2, _⟩ := DataW.trod_bool Try.underlying4 g2
  obtain ⟨t, d0, d1, d2, d3, d4, e1, ht⟩ := ZX_of_trod m _ _ g1
  simp at e0 e1 e2
  obtain ⟨rfl, rfl, rfl, rfl, rfl⟩ := e1
  subst e0 e2
  have hsz : s.data.toList.length = s.size := by rw [Array.length_toList]; rfl
  exact ⟨⟨s.data.toList, liftS m t, u⟩, _, _, _, _, _, _, _, rfl, rfl, by show s.data.toList.length ≤ _; omega, ZX.lifted m t _ _ _ _ _ ht, rfl⟩
theorem open_holds {H : Type} {enc : TypeId × Value → H} {W : World} {base : Nat} {v : Value} {d : DataW H} {p : List MemPlace}
    (ok : Value.okWide Try.prog W .any base 22 v) (h : DataW.Trod enc Try.prog W 0 (fun _ => true) true 22 v d p) :
    ∃ (n : Nat), ∀ m, n ≤ m → ∃ l : List (Hl m), HS W (fun b => b < W.heap.size) m v l := by
  obtain ⟨a0, len0, cap0, rfl⟩ := okWide_slice Try.underlying22 ok
  obtain ⟨n0, hn⟩ := h
  have main : ∃ n, ∃ l : List (Hl n), HS W (fun b => b < W.heap.size) n (.slice a0 len0 cap0) l := by
    rcases DataW.trod_slice Try.underlying22 hn with ⟨hcs, _⟩ | ⟨a, len, cap, elems, rest, n, rfl, hcs, _, _, hlc, hm, hel, hi, _, _⟩
    · simp [Value.cells] at hcs
      obtain ⟨rfl, rfl, rfl⟩ := hcs
      exact ⟨0, [], HS.nil _ _ _⟩
    · simp [Value.cells] at hcs
      obtain ⟨rfl, rfl, rfl⟩ := hcs
      rw [cells_hold] at hi
      have hi2 : ∀ i, i < len0 → ∃ t : Hl n, ∃ c0 c1 c2 c3 c4 c5 c6, W.cell? (a.add (i * 7)) = some c0 ∧ W.cell? ((a.add (i * 7)).add 1) = some c1 ∧ W.cell? ((a.add (i * 7)).add 2) = some c2 ∧ W.cell? ((a.add (i * 7)).add 3) = some c3 ∧ W.cell? ((a.add (i * 7)).add 4) = some c4 ∧ W.cell? ((a.add (i * 7)).add 5) = some c5 ∧ W.cell? ((a.add (i * 7)).add 6) = some c6 ∧ HX W (fun b => b < W.heap.size) n t c0 c1 c2 c3 c4 c5 c6 := by
        intro i hil
        have := hi i hil
        rw [List.getElem?_eq_getElem (by omega)] at this
        obtain ⟨cs, hcs, htr⟩ := Option.bind_eq_some_iff.1 this
        obtain ⟨t, d0, d1, d2, d3, d4, d5, d6, rfl, ht⟩ := HX_of_trod n cs _ htr
        obtain ⟨_, _, hcell⟩ := World.cells?_some hcs
        have k0 := hcell 0 (by omega)
        have k1 := hcell 1 (by omega)
        have k2 := hcell 2 (by omega)
        have k3 := hcell 3 (by omega)
        have k4 := hcell 4 (by omega)
        have k5 := hcell 5 (by omega)
        have k6 := hcell 6 (by omega)
        refine ⟨t, d0, d1, d2, d3, d4, d5, d6, ?_, k1, k2, k3, k4, k5, k6, ht⟩
        have : (a.add (i * 7)).add 0 = a.add (i * 7) := rfl
        rw [← this]; exact k0
      by_cases hz : len0 = 0
      · subst hz
        exact ⟨n, [], _, _, rfl, by simp, hm, (fun h => by cases h), fun h => absurd h (by simp)⟩
      haveI : Inhabited (Hl n) := ⟨(hi2 0 (by omega)).choose⟩
      obtain ⟨f, hf⟩ := Deep.choose_lt (α := Hl n) hi2
      have hlen : ((List.range len0).map f).length = len0 := by simp
      refine ⟨n, (List.range len0).map f, some a, cap0, by rw [hlen], by omega, hm, (fun h => by cases h), fun h0 => ?_⟩
      rw [hlen] at h0
      obtain ⟨b, o, spot⟩ := a
      have hspot : spot = none := by
        obtain ⟨_, _, _, _, _, _, _, k0, _⟩ := hf 0 h0
        simpa [Addr.add] using World.cell?_spot k0
      subst hspot
      have hb : b < W.heap.size := by
        obtain ⟨_, _, _, _, _, _, _, k0, _⟩ := hf 0 h0
        rw [add_plain] at k0
        exact World.block_lt_of_cell? _ _ k0
      refine ⟨b, o, rfl, hb, hb, fun i t hit => ?_⟩
      have hil : i < len0 := by
        have := (List.getElem?_eq_some_iff.1 hit).1
        omega
      simp [hil] at hit
      subst hit
      obtain ⟨d0, d1, d2, d3, d4, d5, d6, k0, k1, k2, k3, k4, k5, k6, kt⟩ := hf i hil
      rw [add_plain] at k0 k1 k2 k3 k4 k5 k6
      rw [add_plain] at k1 k2 k3 k4 k5 k6
      exact ⟨d0, d1, d2, d3, d4, d5, d6, k0, k1, k2, k3, k4, k5, k6, kt⟩
  obtain ⟨n, l, hl⟩ := main
  refine ⟨n, fun m hm => ?_⟩
  obtain ⟨k, rfl⟩ := Nat.le.dest hm
  clear hm
  induction k with
  | zero => exact ⟨l, hl⟩
  | succ k ih =>
    obtain ⟨l', hl'⟩ := ih
    exact ⟨_, hl'.lifted⟩
/-! Rows of a call's own. -/
abbrev SvH := Value × Value × Value × Value × Value × Value × Value
def sevH (q : SvH) : List Value := [q.1, q.2.1, q.2.2.1, q.2.2.2.1, q.2.2.2.2.1, q.2.2.2.2.2.1, q.2.2.2.2.2.2]
def flatH (qs : List SvH) : List Value := qs.flatMap sevH
theorem flatH_cons (q : SvH) (qs : List SvH) : flatH (q :: qs) = sevH q ++ flatH qs := rfl
theorem flatH_append (a b : List SvH) : flatH (a ++ b) = flatH a ++ flatH b := List.flatMap_append
theorem flatH_length : ∀ (qs : List SvH), (flatH qs).length = qs.length * 7
  | [] => rfl
  | q :: qs => by rw [flatH_cons, List.length_append, flatH_length qs]; simp [sevH, Nat.succ_mul]; omega
theorem flatH_at : ∀ (qs : List SvH) (i : Nat) (q : SvH), qs[i]? = some q → ∀ k, k < 7 → (flatH qs)[i * 7 + k]? = (sevH q)[k]?
  | [], i, q, h => by simp at h
  | p :: qs, 0, q, h => by
    intro k hk
    simp at h
    subst h
    rw [flatH_cons, Nat.zero_mul, Nat.zero_add, List.getElem?_append_left (show k < (sevH p).length from hk)]
  | p :: qs, i + 1, q, h => by
    intro k hk
    have := flatH_at qs i q (by simpa using h) k hk
    rw [flatH_cons, List.getElem?_append_right (by show 7 ≤ _; omega), show (sevH p).length = 7 from rfl, ← this]
    congr 1
    omega
def QH (w : World) (S : Nat → Prop) (f : Nat) (qs : List SvH) (ks : List (Hl f)) : Prop :=
  qs.length = ks.length ∧ ∀ (i : Nat) (q : SvH) (t : Hl f), qs[i]? = some q → ks[i]? = some t → HX w S f t q.1 q.2.1 q.2.2.1 q.2.2.2.1 q.2.2.2.2.1 q.2.2.2.2.2.1 q.2.2.2.2.2.2
section
variable {w w' : World} {S S' : Nat → Prop} {f : Nat} {qs ps : List SvH} {ks ls : List (Hl f)}
theorem QH.keepL (h : QH w S f qs ks) (hs : w.heap.size ≤ w'.heap.size) (hk : ∀ b, S b → b < w.heap.size → w'.heap[b]? = w.heap[b]?) (hS : ∀ b, S b → b < w.heap.size → S' b) : QH w' S' f qs ks :=
  ⟨h.1, fun i q t hq ht => (h.2 i q t hq ht).keepL hs hk hS⟩
theorem QH.below' (h : QH w S f qs ks) (hb : Below w.heap.size w w') : QH w' S f qs ks := h.keepL hb.size (fun b _ hlt => hb.block b hlt) fun _ h _ => h
theorem QH.mono (h : QH w S f qs ks) (hS : ∀ b, S b → S' b) : QH w S' f qs ks := h.keepL (Nat.le_refl _) (fun _ _ _ => rfl) fun b sb _ => hS b sb
theorem QH.nil (w : World) (S : Nat → Prop) (f : Nat) : QH w S f [] [] := ⟨rfl, fun i q t h => by simp at h⟩
theorem QH.append (h : QH w S f qs ks) (g : QH w S f ps ls) : QH w S f (qs ++ ps) (ks ++ ls) := by
  refine ⟨by rw [List.length_append, List.length_append, h.1, g.1], fun i q t hq ht => ?_⟩
  rcases Nat.lt_or_ge i qs.length with hi | hi
  · rw [List.getElem?_append_left hi] at hq
    rw [List.getElem?_append_left (by rw [← h.1]; exact hi)] at ht
    exact h.2 i q t hq ht
  · rw [List.getElem?_append_right hi] at hq
    rw [List.getElem?_append_right (by rw [← h.1]; exact hi), ← h.1] at ht
    exact g.2 _ q t hq ht
theorem QH.one {c0 c1 c2 c3 c4 c5 c6 : Value} {t : Hl f} (h : HX w S f t c0 c1 c2 c3 c4 c5 c6) : QH w S f [(c0, c1, c2, c3, c4, c5, c6)] [t] := by
  refine ⟨rfl, fun i q u hq hu => ?_⟩
  match i, hq, hu with
  | 0, hq, hu => simp at hq hu; subst hq hu; exact h
theorem HX.cells1 {t : Hl f} {c0 c1 c2 c3 c4 c5 c6 : Value} (h : HX w S f t c0 c1 c2 c3 c4 c5 c6) : ∀ u ∈ sevH (c0, c1, c2, c3, c4, c5, c6), u.oneCell' = true := by
  obtain ⟨l0, i1, l2, i3, i4, X5, n5, z5, b6, rfl, rfl, rfl, rfl, rfl, rfl, rfl⟩ := h.form
  intro u hu
  simp [sevH] at hu
  rcases hu with rfl | rfl | rfl | rfl | rfl | rfl | rfl <;> rfl
theorem QH.set (h : QH w S f qs ks) {j : Nat} {c0 c1 c2 c3 c4 c5 c6 : Value} {t : Hl f} (ht : HX w S f t c0 c1 c2 c3 c4 c5 c6) : QH w S f (qs.set j (c0, c1, c2, c3, c4, c5, c6)) (ks.set j t) := by
  refine ⟨by rw [List.length_set, List.length_set, h.1], fun i q u hq hu => ?_⟩
  by_cases hij : j = i
  · subst hij
    rw [List.getElem?_set_self'] at hq hu
    cases h1 : qs[j]? with
    | none => rw [h1] at hq; cases hq
    | some q0 =>
      cases h2 : ks[j]? with
      | none => rw [h2] at hu; cases hu
      | some t0 =>
        rw [h1] at hq
        rw [h2] at hu
        simp at hq hu
        subst hq hu
        exact ht
  · rw [List.getElem?_set_ne hij] at hq hu
    exact h.2 i q u hq hu
end
theorem HS.sevens {w : World} {S : Nat → Prop} {f : Nat} {v : Value} {l : List (Hl f)} (h : HS w S f v l) : ∃ (A : Option Addr) (c : Nat) (qs : List SvH), v = .slice A l.length c ∧ l.length ≤ c ∧ c ≤ maxLen ∧ (A = none → c = 0) ∧ QH w S f qs l ∧ (∀ q ∈ qs, ∀ u ∈ sevH q, u.oneCell' = true) ∧
    (0 < l.length → ∃ b o, A = some ⟨b, o, none⟩ ∧ S b ∧ b < w.heap.size ∧ ∀ j u, (flatH qs)[j]? = some u → w.cell? ⟨b, o + j, none⟩ = some u) := by
  obtain ⟨A, c, e, hl, hc, hn, hx⟩ := h
  by_cases h0 : l.length = 0
  · obtain rfl : l = [] := List.eq_nil_of_length_eq_zero h0
    exact ⟨A, c, [], e, hl, hc, hn, QH.nil _ _ _, (fun q hq => by cases hq), fun h => absurd h (by simp)⟩
  · obtain ⟨b, o, ea, sb, hb, hx⟩ := hx (by omega)
    have hi2 : ∀ i, i < l.length → ∃ q : SvH, (∀ k u, k < 7 → (sevH q)[k]? = some u → w.cell? ⟨b, o + i * 7 + k, none⟩ = some u) ∧ ∀ t, l[i]? = some t → HX w S f t q.1 q.2.1 q.2.2.1 q.2.2.2.1 q.2.2.2.2.1 q.2.2.2.2.2.1 q.2.2.2.2.2.2 := fun i hi => by
      obtain ⟨c0, c1, c2, c3, c4, c5, c6, k0, k1, k2, k3, k4, k5, k6, r⟩ := hx i l[i] (List.getElem?_eq_getElem hi)
      refine ⟨(c0, c1, c2, c3, c4, c5, c6), fun k u hk hu => ?_, fun t ht => by rw [List.getElem?_eq_getElem hi] at ht; injection ht with ht; rw [← ht]; exact r⟩
      match k, hk, hu with
      | 0, _, hu => simp [sevH] at hu; subst hu; exact k0
      | 1, _, hu => simp [sevH] at hu; subst hu; exact k1
      | 2, _, hu => simp [sevH] at hu; subst hu; exact k2
      | 3, _, hu => simp [sevH] at hu; subst hu; exact k3
      | 4, _, hu => simp [sevH] at hu; subst hu; exact k4
      | 5, _, hu => simp [sevH] at hu; subst hu; exact k5
      | 6, _, hu => simp [sevH] at hu; subst hu; exact k6
    haveI : Inhabited SvH := ⟨(hi2 0 (by omega)).choose⟩
    obtain ⟨g, hg⟩ := Deep.choose_lt (α := SvH) hi2
    have hql : ((List.range l.length).map g).length = l.length := by simp
    have hqi : ∀ i (hi : i < l.length), ((List.range l.length).map g)[i]? = some (g i) := fun i hi => by simp [hi]
    refine ⟨A, c, (List.range l.length).map g, e, hl, hc, hn, ⟨hql, fun i q t hq ht => ?_⟩, fun q hq => ?_, fun _ => ⟨b, o, ea, sb, hb, fun j u hu => ?_⟩⟩
    · have hi := (List.getElem?_eq_some_iff.1 ht).1
      rw [hqi i hi] at hq
      injection hq with hq
      subst hq
      exact (hg i hi).2 t ht
    · obtain ⟨i, hi, rfl⟩ := List.mem_map.1 hq
      rw [List.mem_range] at hi
      exact ((hg i hi).2 _ (List.getElem?_eq_getElem hi)).cells1
    · have hj := (List.getElem?_eq_some_iff.1 hu).1
      rw [flatH_length, hql] at hj
      have hd := Nat.div_add_mod j 7
      have hm := Nat.mod_lt j (show 7 > 0 by decide)
      have hi : j / 7 < l.length := by omega
      have := flatH_at _ (j / 7) _ (hqi (j / 7) hi) (j % 7) hm
      rw [show j / 7 * 7 + j % 7 = j from by omega] at this
      rw [this] at hu
      have := (hg (j / 7) hi).1 (j % 7) u hm hu
      rwa [show o + j / 7 * 7 + j % 7 = o + j from by omega] at this
theorem HS_of_own {w : World} {S : Nat → Prop} {f base : Nat} {v : Value} {qs : List SvH} {ks : List (Hl f)} (h : w.ownsRow base 47 7 v qs.length (flatH qs)) (hq : QH w S f qs ks)
    (hS : ∀ b, base ≤ b → b < w.heap.size → S b) : HS w S f v ks := by
  obtain ⟨_, h2⟩ := h
  rw [hq.1] at h2
  rcases h2 with ⟨rfl, h0⟩ | ⟨g, cap, cur, rfl, hb, hg, hnc, hcm, hcs, htk⟩
  · obtain rfl : ks = [] := List.eq_nil_of_length_eq_zero h0
    exact HS.nil _ _ _
  · have hlt : g < w.heap.size := (Array.getElem?_eq_some_iff.1 hg).1
    refine ⟨_, cap, rfl, hnc, hcm, (fun h => by cases h), fun h0 => ⟨g, 0, rfl, hS g hb hlt, hlt, fun i t hi => ?_⟩⟩
    have hil := (List.getElem?_eq_some_iff.1 hi).1
    have hqi : qs[i]? = some (qs[i]'(by rw [hq.1]; exact hil)) := List.getElem?_eq_getElem _
    have cell : ∀ k u, k < 7 → (sevH (qs[i]'(by rw [hq.1]; exact hil)))[k]? = some u → w.cell? ⟨g, 0 + i * 7 + k, none⟩ = some u := fun k u hk hu => by
      rw [← flatH_at qs i _ hqi k hk] at hu
      rw [cell_of_row w g (0 + i * 7 + k) cur _ (0, 0) hg, Nat.zero_add]
      rw [← htk, List.getElem?_take, if_pos (by omega)] at hu
      simpa using hu
    exact ⟨_, _, _, _, _, _, _, cell 0 _ (by omega) rfl, cell 1 _ (by omega) rfl, cell 2 _ (by omega) rfl, cell 3 _ (by omega) rfl, cell 4 _ (by omega) rfl, cell 5 _ (by omega) rfl, cell 6 _ (by omega) rfl, hq.2 i _ t hqi hi⟩
theorem info_hold : (Try.prog.info? 47).map (fun i => (i.zero, i.size, i.bytes)) = some (some (.agg #[.string ⟨#[]⟩, .int .i64 0, .string ⟨#[]⟩, .int .i64 0, .int .i64 0, .slice none 0 0, .bool false]), 7, 88) := by kernel_rfl
theorem run_growHs (w : World) (base : Nat) (v : Value) (qs : List SvH) (hown : w.ownsRow base 47 7 v qs.length (flatH qs)) (ad : Addr) (c : Nat) (ps : List SvH) (hx : ∀ j u, (flatH ps)[j]? = some u → w.cell? (ad.add j) = some u)
    (h1 : ∀ q ∈ ps, ∀ u ∈ sevH q, u.oneCell' = true) (hb : qs.length + ps.length ≤ 1000000000) (hbase : base ≤ w.heap.size) (ty : TypeId) :
    ∃ v' w', (Builtin.append_ #[22, 22] ty #[v, .slice (some ad) ps.length c]).run Try.prog w = .ok v' w' ∧ w'.ownsRow base 47 7 v' (qs ++ ps).length (flatH (qs ++ ps)) ∧ w.grownBy w' v.ownBlock ∧
      (v'.ownBlock = v.ownBlock ∨ v'.ownBlock = some w.heap.size) := by
  obtain ⟨i0, hi, hz0, hz1, hz2⟩ := info_parts info_hold
  have hone : ∀ u ∈ flatH ps, u.oneCell' = true := fun u hu => by
    obtain ⟨q, hq, hu⟩ := List.mem_flatMap.1 hu
    exact h1 q hq u hu
  obtain ⟨v', w', a1, a2, a3, _, a5⟩ := run_append_own_at (P := Try.prog) (w := w) base 22 ty 47 i0 _ 7 88 Try.underlying22 hi hz0 hz1 hz2 rfl (by omega) v qs.length _ hown ad ps.length c (flatH ps) (flatH_length ps) hx hone
    (by unfold maxLen; omega) (by omega) hbase
  exact ⟨v', w', a1, by rw [List.length_append, flatH_append]; exact a2, a3, a5⟩
theorem run_growHL {S : Nat → Prop} {f : Nat} (w : World) (base : Nat) (v : Value) (qs : List SvH) (hown : w.ownsRow base 47 7 v qs.length (flatH qs)) (x : Value) (l : List (Hl f)) (hx : HS w S f x l)
    (hb : qs.length + l.length ≤ 1000000000) (hbase : base ≤ w.heap.size) (ty : TypeId) :
    ∃ (ps : List SvH) (v' : Value) (w' : World), QH w S f ps l ∧ (Builtin.append_ #[22, 22] ty #[v, x]).run Try.prog w = .ok v' w' ∧ w'.ownsRow base 47 7 v' (qs ++ ps).length (flatH (qs ++ ps)) ∧ w.grownBy w' v.ownBlock ∧
      (v'.ownBlock = v.ownBlock ∨ v'.ownBlock = some w.heap.size) := by
  obtain ⟨A, c, ps, rfl, hl, hc, hn, hq, h1, hcell⟩ := hx.sevens
  rcases A with _ | ad
  · obtain rfl := hn rfl
    obtain rfl : l = [] := List.eq_nil_of_length_eq_zero (by omega)
    obtain rfl : ps = [] := List.eq_nil_of_length_eq_zero hq.1
    obtain ⟨i0, hi, hz0, hz1, hz2⟩ := info_parts info_hold
    exact ⟨[], v, w, hq, run_append_owned_none w base 22 ty 47 i0 7 Try.underlying22 hi v _ _ hown, by simpa using hown, World.grownBy.refl w _, .inl rfl⟩
  · by_cases h0 : 0 < l.length
    · obtain ⟨b, o, ea, _, _, hcl2⟩ := hcell h0
      injection ea with ea
      subst ea
      rw [← hq.1]
      obtain ⟨v', w', h⟩ := run_growHs w base v qs hown ⟨b, o, none⟩ c ps (fun j u hu => by rw [add_plain]; exact hcl2 j u hu) h1 (by rw [hq.1]; exact hb) hbase ty
      exact ⟨ps, v', w', hq, h⟩
    · obtain rfl : l = [] := List.eq_nil_of_length_eq_zero (by omega)
      obtain rfl : ps = [] := List.eq_nil_of_length_eq_zero hq.1
      obtain ⟨v', w', h⟩ := run_growHs w base v qs hown ad c [] (fun j u hu => by simp [flatH] at hu) (fun q hq => by cases hq) (by simpa using hb) hbase ty
      exact ⟨[], v', w', hq, h⟩
theorem wpList_growHL {S : Nat → Prop} {f : Nat} (w : World) {ops : Array Oper} {rest : List Oper} {o : Oper} {a : Act} {Q : Exit → Act → World → Prop} (hgd : o.guard = none) (s y : Operand)
    (ho : o.op = .call { callee := .builtin .append, args := #[s, y], argTypes := #[22, 22] })
    (base : Nat) (v : Value) (qs : List SvH) (hs : a.eval s = v) (hown : w.ownsRow base 47 7 v qs.length (flatH qs)) (x : Value) (l : List (Hl f)) (hye : a.eval y = x) (hx : HS w S f x l)
    (hb : qs.length + l.length ≤ 1000000000) (hbase : base ≤ w.heap.size)
    (h : ∀ (ps : List SvH) v' w', QH w S f ps l → w'.ownsRow base 47 7 v' (qs ++ ps).length (flatH (qs ++ ps)) → w.grownBy w' v.ownBlock → (v'.ownBlock = v.ownBlock ∨ v'.ownBlock = some w.heap.size) → wpList Try.prog ops Q rest (a.put o.dst v') w') :
    wpList Try.prog ops Q (o :: rest) a w := by
  refine wpList_plain hgd fun K hK => ?_
  obtain ⟨ps, v', w', hq, hrun, h2, h3, h4⟩ := run_growHL w base v qs hown x l hx hb hbase o.type
  unfold Oper.wp execOp
  simp only [ho, resolve, invoke, builtin, Sem.run_bind, Sem.run_pure, Result.andThen_ok, List.map_toArray, List.map_cons, List.map_nil, hs, hye, hrun]
  exact hK _ _ (h ps v' w' hq h2 h3 h4)
theorem wpList_growH1 (w : World) {ops : Array Oper} {rest : List Oper} {o : Oper} {a : Act} {Q : Exit → Act → World → Prop} (hgd : o.guard = none) (s y : Operand)
    (ho : o.op = .call { callee := .builtin .append, args := #[s, y], argTypes := #[22, 22] })
    (base : Nat) (v : Value) (qs : List SvH) (hs : a.eval s = v) (hown : w.ownsRow base 47 7 v qs.length (flatH qs)) (ad : Addr) (c : Nat) (p : SvH) (hye : a.eval y = .slice (some ad) 1 c) (hx : ∀ j u, (sevH p)[j]? = some u → w.cell? (ad.add j) = some u) (h1 : ∀ u ∈ sevH p, u.oneCell' = true)
    (hb : qs.length ≤ 100000000) (hbase : base ≤ w.heap.size)
    (h : ∀ v' w', w'.ownsRow base 47 7 v' (qs ++ [p]).length (flatH (qs ++ [p])) → w.grownBy w' v.ownBlock → (v'.ownBlock = v.ownBlock ∨ v'.ownBlock = some w.heap.size) → wpList Try.prog ops Q rest (a.put o.dst v') w') :
    wpList Try.prog ops Q (o :: rest) a w := by
  refine wpList_plain hgd fun K hK => ?_
  have e : flatH [p] = sevH p := by simp [flatH]
  obtain ⟨v', w', hrun, h2, h3, h4⟩ := run_growHs w base v qs hown ad c [p] (by rw [e]; exact hx) (fun q hq => by rw [List.mem_singleton] at hq; rw [hq]; exact h1) (by simp; omega) hbase o.type
  have hrun : (Builtin.append_ #[22, 22] o.type #[v, .slice (some ad) 1 c]).run Try.prog w = .ok v' w' := hrun
  unfold Oper.wp execOp
  simp only [ho, resolve, invoke, builtin, Sem.run_bind, Sem.run_pure, Result.andThen_ok, List.map_toArray, List.map_cons, List.map_nil, hs, hye, hrun]
  exact hK _ _ (h v' w' h2 h3 h4)
theorem ownH_empty (w : World) (base : Nat) (h : base ≤ w.heap.size) : (w.alloc (.cells #[] 47)).ownsRow base 47 7 (.slice (some ⟨w.heap.size, 0, none⟩) 0 0) ([] : List SvH).length (flatH []) :=
  ⟨rfl, .inr ⟨w.heap.size, 0, #[], rfl, h, heap_alloc_new w _, Nat.le_refl _, by unfold maxLen; omega, rfl, rfl⟩⟩
theorem own_cell {w : World} {base e size n g c : Nat} {xs : List Value} (h : w.ownsRow base e size (.slice (some ⟨g, 0, none⟩) n c) n xs) (i : Nat) (u : Value) : (w.setCell ⟨g, i, none⟩ u).ownsRow base e size (.slice (some ⟨g, 0, none⟩) n c) n (xs.set i u) := by
  obtain ⟨h1, h2⟩ := h
  refine ⟨by rw [List.length_set]; exact h1, ?_⟩
  rcases h2 with ⟨h2, _⟩ | ⟨g', cap, cur, ev, hb, hg, hnc, hcm, hcs, htk⟩
  · cases h2
  · injection ev with ev1 ev2 ev3
    injection ev1 with ev1
    injection ev1 with ev1
    subst ev1 ev3
    have hk : KB w g e cur := hg
    refine .inr ⟨g, c, cur.setIfInBounds i u, rfl, hb, hk.put i u, hnc, hcm, by simpa using hcs, ?_⟩
    rw [← htk]
    apply List.ext_getElem?
    intro j
    simp only [List.getElem?_take, List.getElem?_set, Array.toList_setIfInBounds, List.length_take]
    by_cases hj : j < n * size
    · rw [if_pos hj, if_pos hj]
      by_cases hij : i = j
      · subst hij
        simp only [if_true]
        by_cases hc : i < cur.toList.length
        · rw [if_pos hc, if_pos (by omega)]
        · rw [if_neg hc, if_neg (by omega)]
      · rw [if_neg hij, if_neg hij]
    · rw [if_neg hj, if_neg hj]
      by_cases hij : i = j
      · subst hij
        rw [if_pos rfl, if_neg (by omega)]
      · rw [if_neg hij]
theorem flatH_set : ∀ (qs : List SvH) (j : Nat) (q : SvH), j < qs.length →
    (((((((flatH qs).set (j * 7) q.1).set (j * 7 + 1) q.2.1).set (j * 7 + 2) q.2.2.1).set (j * 7 + 3) q.2.2.2.1).set (j * 7 + 4) q.2.2.2.2.1).set (j * 7 + 5) q.2.2.2.2.2.1).set (j * 7 + 6) q.2.2.2.2.2.2 = flatH (qs.set j q)
  | [], j, q, h => by simp at h
  | p :: qs, 0, q, h => by simp [flatH_cons, sevH]
  | p :: qs, j + 1, q, h => by
    have ih := flatH_set qs j q (by simpa using h)
    have e : ∀ k, (j + 1) * 7 + k = (sevH p).length + (j * 7 + k) := fun k => by rw [show (sevH p).length = 7 from rfl]; omega
    have e0 : (j + 1) * 7 = (sevH p).length + j * 7 := by rw [show (sevH p).length = 7 from rfl]; omega
    have hs : ∀ (l : List Value) (k : Nat) (u : Value), (sevH p ++ l).set ((sevH p).length + k) u = sevH p ++ l.set k u := fun l k u => by
      rw [List.set_append_right _ _ (Nat.le_add_right _ _), Nat.add_sub_cancel_left]
    rw [List.set_cons_succ, flatH_cons, flatH_cons, e 1, e 2, e 3, e 4, e 5, e 6, e0, hs, hs, hs, hs, hs, hs, hs, ih]
end
end Go.Proofs.Ytdkmjdcddldjgaa
