/-
  WaP: Patches in memory: what a slice of them reads as, rows of them of a call's own, append onto these; a log in memory. No condition.
-/
import Derived.Test.YtgoifhpinoodgaaDoorWo16
import Derived.Test.YtgoifhpinoodgaaDoorWo17
import Derived.Test.YtgoifhpinoodgaaDoorWo18

section
namespace Go.Proofs.YtgoifhpinoodgaaDoor
open Go.RowKit
set_option maxRecDepth 100000
set_option linter.unusedVariables false

/-- The slice value v reads, in w, as patches; where it is not empty it and they lie in blocks of which S holds. -/
def PS (w : World) (S : Nat → Prop) (v : Value) (ps : List Pt) : Prop :=
  ∃ A c, v = .slice A ps.length c ∧ ps.length ≤ c ∧ c ≤ maxLen ∧ (A = none → c = 0) ∧
    (0 < ps.length → ∃ b o, A = some ⟨b, o, none⟩ ∧ S b ∧ b < w.heap.size ∧ ∀ j p, ps[j]? = some p →
      w.cell? ⟨b, o + j * 2, none⟩ = some (.int .i64 p.1) ∧ ∃ x, w.cell? ⟨b, o + j * 2 + 1, none⟩ = some x ∧ BS w S x p.2)

section
variable {w w' : World} {S S' : Nat → Prop} {v : Value} {ps : List Pt}
theorem PS.nil (w : World) (S : Nat → Prop) : PS w S (.slice none 0 0) [] := ⟨none, 0, rfl, by simp, by simp [maxLen], fun _ => rfl, fun h => absurd h (by simp)⟩
theorem PS.keepS (h : PS w S v ps) (hs : w.heap.size ≤ w'.heap.size) (hk : ∀ b, S b → b < w.heap.size → w'.heap[b]? = w.heap[b]?) (hS : ∀ b, S b → S' b) : PS w' S' v ps := by
  obtain ⟨A, c, e, hl, hc, hn, hx⟩ := h
  refine ⟨A, c, e, hl, hc, hn, fun h0 => ?_⟩
  obtain ⟨b, o, ea, sb, hb, hx⟩ := hx h0
  refine ⟨b, o, ea, hS b sb, by omega, fun j p hj => ?_⟩
  obtain ⟨h1, x, h2, h3⟩ := hx j p hj
  exact ⟨(World.cell?_of_block (w := w) (hk b sb hb)).trans h1, x, (World.cell?_of_block (w := w) (hk b sb hb)).trans h2, (h3.keep hs hk).mono hS⟩
theorem PS.mono (h : PS w S v ps) (hS : ∀ b, S b → S' b) : PS w S' v ps := h.keepS (Nat.le_refl _) (fun _ _ _ => rfl) hS
theorem PS.below' (h : PS w S v ps) (hg : Below w.heap.size w w') : PS w' S v ps := h.keepS hg.size (fun b _ hb => hg.block b hb) fun _ h => h
theorem PS.form (h : PS w S v ps) : ∃ A c, v = .slice A ps.length c ∧ ps.length ≤ c ∧ c ≤ maxLen ∧ (A = none → c = 0) := by
  obtain ⟨A, c, e, hl, hc, hn, hx⟩ := h
  exact ⟨A, c, e, hl, hc, hn⟩
/-- A patch of a slice that is not empty. -/
theorem PS.at_ {A : Option Addr} {n c : Nat} (h : PS w S (.slice A n c) ps) (hp : 0 < ps.length) :
    ∃ b o, A = some ⟨b, o, none⟩ ∧ S b ∧ b < w.heap.size ∧ ∀ j p, ps[j]? = some p → w.cell? ⟨b, o + j * 2, none⟩ = some (.int .i64 p.1) ∧ ∃ X z, w.cell? ⟨b, o + j * 2 + 1, none⟩ = some (.slice X p.2.length z) ∧ BS w S (.slice X p.2.length z) p.2 := by
  obtain ⟨A', c', e, hl, hc, hn, hx⟩ := h
  injection e with e1 e2 e3
  subst e1
  obtain ⟨b, o, ea, sb, hb, hx⟩ := hx hp
  refine ⟨b, o, ea, sb, hb, fun j p hj => ?_⟩
  obtain ⟨h1, x, h2, h3⟩ := hx j p hj
  obtain ⟨X, z, rfl, _⟩ := h3.form
  exact ⟨h1, X, z, h2, h3⟩
theorem PS.off {p : DA} (h : PS w (Off p w) v ps) (k : KeepP (Off p w) w w') : PS w' (Off p w') v ps := h.keepS k.size (fun b sb _ => k.block b sb) fun b sb => ⟨Nat.lt_of_lt_of_le sb.1 k.size, sb.2⟩
theorem PS.off_below {p : DA} (h : PS w (Off p w) v ps) (k : Below w.heap.size w w') : PS w' (Off p w') v ps := h.keepS k.size (fun b _ hb => k.block b hb) fun b sb => ⟨Nat.lt_of_lt_of_le sb.1 k.size, sb.2⟩
end

/-- Two cells. -/
abbrev Two2 := Int × Value
def two2 (q : Two2) : List Value := [.int .i64 q.1, q.2]
def flatW (qs : List Two2) : List Value := qs.flatMap two2
theorem flatW_nil : flatW [] = [] := rfl
theorem flatW_cons (q : Two2) (qs : List Two2) : flatW (q :: qs) = two2 q ++ flatW qs := rfl
theorem flatW_append (a b : List Two2) : flatW (a ++ b) = flatW a ++ flatW b := List.flatMap_append
theorem flatW_length : ∀ (qs : List Two2), (flatW qs).length = qs.length * 2
  | [] => rfl
  | q :: qs => by rw [flatW_cons, List.length_append, flatW_length qs]; simp [two2, Nat.succ_mul]; omega
theorem flatW_at : ∀ (qs : List Two2) (i : Nat) (q : Two2), qs[i]? = some q → (flatW qs)[i * 2]? = some (.int .i64 q.1) ∧ (flatW qs)[i * 2 + 1]? = some q.2
  | [], i, q, h => by simp at h
  | p :: qs, 0, q, h => by
    simp at h
    subst h
    exact ⟨rfl, rfl⟩
  | p :: qs, i + 1, q, h => by
    obtain ⟨h0, h1⟩ := flatW_at qs i q (by simpa using h)
    rw [flatW_cons]
    have e : ∀ k, (two2 p ++ flatW qs)[(i + 1) * 2 + k]? = (flatW qs)[i * 2 + k]? := fun k => by
      rw [List.getElem?_append_right (by simp [two2]; omega)]
      congr 1
      simp [two2]; omega
    exact ⟨(e 0).trans h0, (e 1).trans h1⟩

/-- The cells read, in w, as the patches ps. -/
def PT (w : World) (S : Nat → Prop) (qs : List Two2) (ps : List Pt) : Prop :=
  qs.length = ps.length ∧ ∀ (i : Nat) (q : Two2) (t : Pt), qs[i]? = some q → ps[i]? = some t → q.1 = t.1 ∧ BS w S q.2 t.2

section
variable {w w' : World} {S S' : Nat → Prop} {qs us : List Two2} {ps ls : List Pt}
theorem PT.keepS (h : PT w S qs ps) (hs : w.heap.size ≤ w'.heap.size) (hk : ∀ b, S b → b < w.heap.size → w'.heap[b]? = w.heap[b]?) (hS : ∀ b, S b → S' b) : PT w' S' qs ps :=
  ⟨h.1, fun i q t hq ht => ⟨(h.2 i q t hq ht).1, ((h.2 i q t hq ht).2.keep hs hk).mono hS⟩⟩
theorem PT.below' (h : PT w S qs ps) (hb : Below w.heap.size w w') : PT w' S qs ps := h.keepS hb.size (fun b _ hlt => hb.block b hlt) fun _ h => h
theorem PT.mono (h : PT w S qs ps) (hS : ∀ b, S b → S' b) : PT w S' qs ps := h.keepS (Nat.le_refl _) (fun _ _ _ => rfl) hS
theorem PT.nil (w : World) (S : Nat → Prop) : PT w S [] [] := ⟨rfl, fun i q t h => by simp at h⟩
theorem PT.append (h : PT w S qs ps) (g : PT w S us ls) : PT w S (qs ++ us) (ps ++ ls) := by
  refine ⟨by rw [List.length_append, List.length_append, h.1, g.1], fun i q t hq ht => ?_⟩
  rcases Nat.lt_or_ge i qs.length with hi | hi
  · rw [List.getElem?_append_left hi] at hq
    rw [List.getElem?_append_left (by rw [← h.1]; exact hi)] at ht
    exact h.2 i q t hq ht
  · rw [List.getElem?_append_right hi] at hq
    rw [List.getElem?_append_right (by rw [← h.1]; exact hi), ← h.1] at ht
    exact g.2 _ q t hq ht
theorem PT.one {a : Int} {v : Value} {l : List UInt8} (h : BS w S v l) : PT w S [(a, v)] [(a, l)] := by
  refine ⟨rfl, fun i q u hq hu => ?_⟩
  match i, hq, hu with
  | 0, hq, hu => simp at hq hu; subst hq hu; exact ⟨rfl, h⟩
theorem PT.cells1 (h : PT w S qs ps) : ∀ u ∈ flatW qs, u.oneCell' = true := by
  intro u hu
  obtain ⟨q, hq, hu⟩ := List.mem_flatMap.1 hu
  obtain ⟨i, hi, e⟩ := List.mem_iff_getElem.1 hq
  have h1 : qs[i]? = some q := by rw [List.getElem?_eq_getElem hi, e]
  have h2 : ps[i]? = some (ps[i]'(by rw [← h.1]; exact hi)) := List.getElem?_eq_getElem _
  obtain ⟨X, z, e2, _⟩ := (h.2 i q _ h1 h2).2.form
  simp [two2] at hu
  rcases hu with rfl | rfl
  · rfl
  · rw [e2]; rfl
end

/-- A row of patches of a call's own reads as patches. -/
theorem PS_of_own {w : World} {S : Nat → Prop} {base : Nat} {v : Value} {qs : List Two2} {ps : List Pt} (h : w.ownsRow base 55 2 v qs.length (flatW qs)) (hq : PT w S qs ps)
    (hS : ∀ b, base ≤ b → b < w.heap.size → S b) : PS w S v ps := by
  obtain ⟨_, h2⟩ := h
  rw [hq.1] at h2
  rcases h2 with ⟨rfl, h0⟩ | ⟨g, cap, cur, rfl, hb, hg, hnc, hcm, hcs, htk⟩
  · obtain rfl : ps = [] := List.eq_nil_of_length_eq_zero h0
    exact PS.nil _ _
  · have hlt : g < w.heap.size := (Array.getElem?_eq_some_iff.1 hg).1
    refine ⟨_, cap, rfl, hnc, hcm, (fun h => by cases h), fun h0 => ⟨g, 0, rfl, hS g hb hlt, hlt, fun i t hi => ?_⟩⟩
    have hil := (List.getElem?_eq_some_iff.1 hi).1
    have hqi : qs[i]? = some (qs[i]'(by rw [hq.1]; exact hil)) := List.getElem?_eq_getElem _
    obtain ⟨e0, e1⟩ := flatW_at qs i _ hqi
    obtain ⟨ea, eb⟩ := hq.2 i _ t hqi hi
    rw [ea] at e0
    have cell : ∀ k u, k < 2 → (flatW qs)[i * 2 + k]? = some u → w.cell? ⟨g, 0 + i * 2 + k, none⟩ = some u := fun k u hk hu => by
      rw [cell_of_row w g (0 + i * 2 + k) cur _ (0, 0) hg, Nat.zero_add]
      rw [← htk, List.getElem?_take, if_pos (by omega)] at hu
      simpa using hu
    exact ⟨cell 0 _ (by omega) e0, _, cell 1 _ (by omega) e1, eb⟩

/-- A whole block of patches reads as patches. -/
theorem PS_of_kb {w : World} {S S' : Nat → Prop} {g n : Nat} {t : TypeId} {qs : List Two2} {ps : List Pt} (h : KB w g t (flatW qs).toArray) (hq : PT w S qs ps) (hn : ps.length = n) (hS : ∀ b, S b → S' b) (hg : S' g) (hm : n ≤ maxLen) :
    PS w S' (.slice (some ⟨g, 0, none⟩) n n) ps := by
  subst hn
  refine ⟨_, _, rfl, Nat.le_refl _, hm, (fun h => by cases h), fun h0 => ⟨g, 0, rfl, hg, h.lt, fun i t hi => ?_⟩⟩
  have hil := (List.getElem?_eq_some_iff.1 hi).1
  have hqi : qs[i]? = some (qs[i]'(by rw [hq.1]; exact hil)) := List.getElem?_eq_getElem _
  obtain ⟨e0, e1⟩ := flatW_at qs i _ hqi
  obtain ⟨ea, eb⟩ := hq.2 i _ t hqi hi
  rw [ea] at e0
  rw [Nat.zero_add]
  exact ⟨by rw [h.cell]; simpa using e0, _, by rw [h.cell]; simpa using e1, eb.mono hS⟩

theorem info_patch : (Tryd.prog.info? 55).map (fun i => (i.zero, i.size, i.bytes)) = some (some (.agg #[.int .i64 0, .slice none 0 0]), 2, 32) := by kernel_rfl
theorem cells_patch : Tryd.prog.cellsOf 55 = 2 := by kernel_rfl

theorem run_growP (w : World) (base : Nat) (v : Value) (qs : List Two2) (hown : w.ownsRow base 55 2 v qs.length (flatW qs)) (ad : Addr) (c : Nat) (us : List Two2) (hx : ∀ j u, (flatW us)[j]? = some u → w.cell? (ad.add j) = some u) (h1 : ∀ u ∈ flatW us, u.oneCell' = true)
    (hb : qs.length + us.length ≤ 1000000000) (hbase : base ≤ w.heap.size) (ty : TypeId) :
    ∃ v' w', (Builtin.append_ #[25, 25] ty #[v, .slice (some ad) us.length c]).run Tryd.prog w = .ok v' w' ∧ w'.ownsRow base 55 2 v' (qs ++ us).length (flatW (qs ++ us)) ∧ w.grownBy w' v.ownBlock ∧
      (v'.ownBlock = v.ownBlock ∨ v'.ownBlock = some w.heap.size) := by
  obtain ⟨i0, hi, hz0, hz1, hz2⟩ := info_parts info_patch
  obtain ⟨v', w', a1, a2, a3, _, a5⟩ := run_append_own_at (P := Tryd.prog) (w := w) base 25 ty 55 i0 _ 2 32 Tryd.underlying25 hi hz0 hz1 hz2 rfl (by omega) v qs.length _ hown ad us.length c (flatW us) (flatW_length us) hx h1
    (by unfold maxLen; omega) (by omega) hbase
  exact ⟨v', w', a1, by rw [List.length_append, flatW_append]; exact a2, a3, a5⟩

theorem wpList_growP (w : World) {ops : Array Oper} {rest : List Oper} {o : Oper} {a : Act} {Q : Exit → Act → World → Prop} (hgd : o.guard = none) (s x : Operand)
    (ho : o.op = .call { callee := .builtin .append, args := #[s, x], argTypes := #[25, 25] })
    (base : Nat) (v : Value) (qs : List Two2) (hs : a.eval s = v) (hown : w.ownsRow base 55 2 v qs.length (flatW qs))
    (ad : Addr) (c n : Nat) (us : List Two2) (hxe : a.eval x = .slice (some ad) n c) (hn : n = us.length) (hx : ∀ j u, (flatW us)[j]? = some u → w.cell? (ad.add j) = some u)
    (h1 : ∀ u ∈ flatW us, u.oneCell' = true) (hb : qs.length + us.length ≤ 1000000000) (hbase : base ≤ w.heap.size)
    (h : ∀ v' w', w'.ownsRow base 55 2 v' (qs ++ us).length (flatW (qs ++ us)) → w.grownBy w' v.ownBlock → (v'.ownBlock = v.ownBlock ∨ v'.ownBlock = some w.heap.size) → wpList Tryd.prog ops Q rest (a.put o.dst v') w') :
    wpList Tryd.prog ops Q (o :: rest) a w := by
  subst hn
  refine wpList_plain hgd fun K hK => ?_
  obtain ⟨v', w', hrun, h2, h3, h4⟩ := run_growP w base v qs hown ad c us hx h1 hb hbase o.type
  unfold Oper.wp execOp
  simp only [ho, resolve, invoke, builtin, Sem.run_bind, Sem.run_pure, Result.andThen_ok, List.map_toArray, List.map_cons, List.map_nil, hs, hxe, hrun]
  exact hK _ _ (h v' w' h2 h3 h4)

/-- A log in memory: its block. -/
def lgRow (p : DA) (n : Nat) (br : Bool) : Array Value := #[.pointer (some ⟨p.d, 0, none⟩), .int .i64 n, .bool br]
def LG (w : World) (g : Nat) (p : DA) (n : Nat) (br : Bool) : Prop := KB w g 83 (lgRow p n br)
section
variable {w : World} {g n : Nat} {p : DA} {br : Bool}
theorem LG.c0 (h : LG w g p n br) : w.cell? ⟨g, 0, none⟩ = some (.pointer (some ⟨p.d, 0, none⟩)) := KB.cell h 0
theorem LG.c1 (h : LG w g p n br) : w.cell? ⟨g, 1, none⟩ = some (.int .i64 n) := KB.cell h 1
theorem LG.c2 (h : LG w g p n br) : w.cell? ⟨g, 2, none⟩ = some (.bool br) := KB.cell h 2
end
end Go.Proofs.YtgoifhpinoodgaaDoor
end
