/-
  DcB: The document's closure of a list of terms: its contract, over the loaded program. No condition but what the theorem names.
  DcD: What of a term is seen at once, as a map's key; a map whose elements are told as they are. No condition.
-/
import Derived.Test.YthgaljgelngmaaaDoorDv27
import Derived.Maps.OwnOps
import Derived.Maps.Views
import Derived.DeepKeys4

section
namespace Go.Proofs.YthgaljgelngmaaaDoor
open Go.RowKit
set_option linter.unusedVariables false

/-- The error of a list of terms. -/
def errT (f : Nat) (l : List (Tm f)) : Int := if l.all (fun t => mayT f t 8) = true then (if 300 < l.length ∨ 2000 < (univT f l).length then 4 else 0) else 1

theorem errT_one {f : Nat} {l : List (Tm f)} (h : l.all (fun t => mayT f t 8) = false) : errT f l = 1 := by unfold errT; rw [h]; rfl
theorem errT_four {f : Nat} {l : List (Tm f)} (h : l.all (fun t => mayT f t 8) = true) (hm : 300 < l.length ∨ 2000 < (univT f l).length) : errT f l = 4 := by unfold errT; rw [if_pos h, if_pos hm]
theorem errT_zero {f : Nat} {l : List (Tm f)} (h : l.all (fun t => mayT f t 8) = true) (h1 : l.length ≤ 300) (h2 : (univT f l).length ≤ 2000) : errT f l = 0 := by unfold errT; rw [if_pos h, if_neg (by omega)]
theorem errT_cases (f : Nat) (l : List (Tm f)) : errT f l = 0 ∨ errT f l = 1 ∨ errT f l = 4 := by
  unfold errT
  split
  · split
    · exact .inr (.inr rfl)
    · exact .inl rfl
  · exact .inr (.inl rfl)
theorem errT_ok {f : Nat} {l : List (Tm f)} (h : errT f l = 0) : (∀ t ∈ l, mayT f t 8 = true) ∧ l.length ≤ 300 ∧ (univT f l).length ≤ 2000 := by
  unfold errT at h
  split at h
  · rename_i h1
    split at h
    · cases h
    · rename_i h2
      exact ⟨List.all_eq_true.1 h1, by omega, by omega⟩
  · cases h

theorem univT_take (f : Nat) (l : List (Tm f)) (j : Nat) (hj : j < l.length) : (univT f (l.take (j + 1))).length = (univT f (l.take j)).length + (partsT f l[j]).length := by
  unfold univT
  rw [List.take_add_one, List.getElem?_eq_getElem hj, List.flatMap_append]
  simp
theorem univT_take_le (f : Nat) (l : List (Tm f)) (j : Nat) : (univT f (l.take j)).length ≤ (univT f l).length := by
  have : univT f l = univT f (l.take j) ++ univT f (l.drop j) := by
    unfold univT
    rw [← List.flatMap_append, List.take_append_drop]
  rw [this, List.length_append]
  omega
theorem partsT_may {f : Nat} {t : Tm f} (h : mayT f t 8 = true) : (partsT f t).length ≤ 255 := by
  rw [← (partsU_T f t).len]
  exact parts_may h
theorem univT_le (f : Nat) (l : List (Tm f)) (h : ∀ t ∈ l, mayT f t 8 = true) : (univT f l).length ≤ l.length * 255 := flatM_le (partsT f) 255 l fun u hu => partsT_may (h u hu)

theorem At_one (w : World) (e0 e1 e2 e3 : Value) : At (w.alloc (.cells #[e0, e1, e2, e3] 35)) ⟨w.heap.size, 0, none⟩ [(e0, e1, e2, e3)] := by
  obtain ⟨g, c, e, h⟩ := At_of_own (own_one w w.heap.size (Nat.le_refl _) (e0, e1, e2, e3)) (by simp)
  injection e with e _ _
  injection e with e
  rw [e]
  exact h

/-- One more term behind a row of a call's own. -/
theorem QT.oneMore {w w7 : World} {S : Nat → Prop} {f B n e size : Nat} {v : Value} {qs : List Quad} {ks : List (Tm f)} {e0 e1 e2 e3 : Value} {t : Tm f} {o : Obj} {xs : List Value} (hq : QT w S f qs ks) (tm : TM w S f t e0 e1 e2 e3)
    (how : w.ownsRow B e size v n xs) (hS : ∀ b, S b → b < B ∧ b < w.heap.size) (hg7 : (w.alloc o).grownBy w7 v.ownBlock) : QT w7 S f (qs ++ [(e0, e1, e2, e3)]) (ks ++ [t]) :=
  (hq.append (QT.one tm)).keepS (Nat.le_trans (by simp) hg7.size) (fun x hx hlt => (hg7.block x (by simp; omega) fun e => absurd (own_ge how x e.symm) (by have := hS x hx; omega)).trans (Below.heap_alloc w o x hlt)) fun _ h => h
theorem Below_oneMore {m B n e size : Nat} {w0 w w7 : World} {v : Value} {o : Obj} {xs : List Value} (h : Below m w0 w) (how : w.ownsRow B e size v n xs) (hm : m ≤ B) (hw : m ≤ w.heap.size) (hg7 : (w.alloc o).grownBy w7 v.ownBlock) : Below m w0 w7 :=
  (h.alloc hw o).grown hg7 (by simp; omega) fun x hx => Nat.le_trans hm (own_ge how x hx)

theorem KS_row {w : World} {S : Nat → Prop} {f B : Nat} {v : Value} {qs : List Quad} {ks : List (Tm f)} (h : w.ownsRow B 35 4 v qs.length (flatQ qs)) (hq : QT w S f qs ks) (hS : ∀ b, S b → b < w.heap.size) :
    KS w (fun b => b < w.heap.size) (TM w (fun b => b < w.heap.size) f) v ks := KS_of_own h (hq.mono hS) fun _ _ h => h

theorem QT.at_ {w : World} {S : Nat → Prop} {f : Nat} {qs : List Quad} {ks : List (Tm f)} (h : QT w S f qs ks) (i : Nat) (t : Tm f) (hi : ks[i]? = some t) : ∃ q, qs[i]? = some q ∧ TM w S f t q.1 q.2.1 q.2.2.1 q.2.2.2 := by
  have hl := (List.getElem?_eq_some_iff.1 hi).1
  exact ⟨_, List.getElem?_eq_getElem (by rw [h.1]; exact hl), h.2 i _ t (List.getElem?_eq_getElem _) hi⟩

/-- A row's element, by its cells. -/
theorem own_at {w : World} {S : Nat → Prop} {f B : Nat} {v : Value} {qs : List Quad} {ks : List (Tm f)} (h : w.ownsRow B 35 4 v qs.length (flatQ qs)) (hq : QT w S f qs ks) (j : Nat) (t : Tm f) (hj : ks[j]? = some t) :
    ∃ g c e0 e1 e2 e3, v = .slice (some ⟨g, 0, none⟩) qs.length c ∧ g < w.heap.size ∧ w.cell? ⟨g, j * 4, none⟩ = some e0 ∧ w.cell? ⟨g, j * 4 + 1, none⟩ = some e1 ∧ w.cell? ⟨g, j * 4 + 2, none⟩ = some e2 ∧ w.cell? ⟨g, j * 4 + 3, none⟩ = some e3 ∧ TM w S f t e0 e1 e2 e3 ∧ qs[j]? = some (e0, e1, e2, e3) := by
  obtain ⟨⟨e0, e1, e2, e3⟩, hq1, tm⟩ := hq.at_ j t hj
  obtain ⟨g, c, rfl, hat⟩ := At_of_own h (by have := (List.getElem?_eq_some_iff.1 hq1).1; omega)
  obtain ⟨f0, f1, f2, f3⟩ := flatQ_at qs j _ hq1
  have hc := fun (k : Nat) (u : Value) (hu : (flatQ qs)[k]? = some u) => hat k u hu
  have hlt : g < w.heap.size := by
    have := hc _ _ f0
    rw [Addr.add_lit] at this
    exact World.block_lt_of_cell? _ _ this
  simp only [Addr.add_lit, Nat.zero_add] at hc
  exact ⟨g, c, e0, e1, e2, e3, rfl, hlt, hc _ _ f0, hc _ _ f1, hc _ _ f2, hc _ _ f3, tm, hq1⟩

/-- What a closure answers: the closure, or nil and an error. -/
def Closed (f : Nat) (l : List (Tm f)) (w' : World) (u : Value) (E : Int) : Prop :=
  (E = 0 → KS w' (fun b => b < w'.heap.size) (TM w' (fun b => b < w'.heap.size) f) u (cloT f l)) ∧ (E ≠ 0 → u = .slice none 0 0)
theorem Closed.nil {f : Nat} {l : List (Tm f)} {w' : World} {E : Int} (h : E ≠ 0) : Closed f l w' (.slice none 0 0) E := ⟨fun e => absurd e h, fun _ => rfl⟩
theorem Closed.yes {f : Nat} {l : List (Tm f)} {w' : World} {u : Value} (h : KS w' (fun b => b < w'.heap.size) (TM w' (fun b => b < w'.heap.size) f) u (cloT f l)) : Closed f l w' u 0 := ⟨fun _ => h, fun e => absurd rfl e⟩
end Go.Proofs.YthgaljgelngmaaaDoor
end

section
namespace Go.Proofs.YthgaljgelngmaaaDoor
open Go.RowKit Go.Maps
set_option linter.unusedVariables false

theorem laidOutA : laidOutB Tryd.prog = true := by kernel_rfl
theorem keyTypeL : Tryd.prog.keyTypeAt (Tryd.prog.types.size + 1) 62 = true := by kernel_rfl
theorem law_look : Keyed Tryd.prog 62 := Keyed.of_law (deep_law_laid laidOutA (m := Tryd.prog.types.size + 1) (Nat.le_of_ble_eq_true (by kernel_rfl)) (Nat.le_of_ble_eq_true (by kernel_rfl)) keyTypeL (by kernel_rfl))
theorem cells_look : Tryd.prog.cellsOf 62 = 3 := by kernel_rfl

theorem keyOf_look (a b c : Int) (ha : I64 a) (hb : 0 ≤ b ∧ b < 18446744073709551616) (hc : I64 c) : ∃ kl, keyOf Tryd.prog 62 (.agg #[.int .i64 a, .int .u64 b, .int .i64 c]) = some kl := by
  have w1 : (Lit.int .i64 a).wf = true := by have h1 := ha.1; have h2 := ha.2; simp [Lit.wf, IntKind.min, IntKind.max, IntKind.signed, IntKind.bits]; omega
  have w2 : (Lit.int .u64 b).wf = true := by simp [Lit.wf, IntKind.min, IntKind.max, IntKind.signed, IntKind.bits]; omega
  have w3 : (Lit.int .i64 c).wf = true := by have h1 := hc.1; have h2 := hc.2; simp [Lit.wf, IntKind.min, IntKind.max, IntKind.signed, IntKind.bits]; omega
  have hform : Value.formed Tryd.prog 62 (.agg #[.int .i64 a, .int .u64 b, .int .i64 c]) = true := by
    simp [Value.formed, Tryd.underlying62, cells_look]
  have hkt : Tryd.prog.keyType 62 = true := keyTypeL
  have hl : ∃ L, Tryd.prog.keyLits (Tryd.prog.types.size + 1) 62 [.int .i64 a, .int .u64 b, .int .i64 c] = some L := by
    obtain ⟨n, hn⟩ : ∃ n, Tryd.prog.types.size = n + 1 := ⟨Tryd.prog.types.size - 1, by kernel_rfl⟩
    rw [hn]
    simp [Program.keyLits, Tryd.underlying62, Tryd.underlying3, Tryd.underlying32, cells_look, cells_int, cells_u64, w1, w2, w3]
  obtain ⟨L, hL⟩ := hl
  refine ⟨.string (keyBytes L), ?_⟩
  unfold keyOf
  rw [Tryd.underlying62]
  dsimp only
  rw [hkt, hform, Bool.and_self, if_pos rfl]
  show Option.map _ (Tryd.prog.keyLits (Tryd.prog.types.size + 1) 62 [.int .i64 a, .int .u64 b, .int .i64 c]) = _
  rw [hL]
  rfl

/-- What of a term is seen at once. -/
abbrev Look := Int × Nat × Nat
def lookT : (f : Nat) → Tm f → Look
  | 0, t => nomatch t
  | f + 1, (t : Nd (Tm f)) => (t.kind, t.n, t.data.length)
def keyV (k : Look) : Value := .agg #[.int .i64 k.1, .int .u64 (k.2.1 : Int), .int .i64 (k.2.2 : Int)]
def goodL (k : Look) : Prop := I64 k.1 ∧ k.2.1 < 18446744073709551616 ∧ k.2.2 ≤ maxLen
theorem keyV_key {k : Look} (h : goodL k) : ∃ kl, keyOf Tryd.prog 62 (keyV k) = some kl :=
  keyOf_look _ _ _ h.1 ⟨by omega, by have := h.2.1; omega⟩ (by have := h.2.2; unfold maxLen at this; unfold I64; omega)
theorem keyV_inj {k k' : Look} (h : keyV k = keyV k') : k = k' := by
  obtain ⟨a, b, c⟩ := k
  obtain ⟨a', b', c'⟩ := k'
  unfold keyV at h
  simp only [Value.agg.injEq, Array.mk.injEq, List.cons.injEq, Value.int.injEq, true_and, and_true] at h
  obtain ⟨h1, h2, h3⟩ := h
  simp only [Prod.mk.injEq]
  exact ⟨h1, by omega, by omega⟩
theorem lookT_tm {w : World} {S : Nat → Prop} : ∀ {f : Nat} {t : Tm f} {c0 c1 c2 c3 : Value}, TM w S f t c0 c1 c2 c3 → goodL (lookT f t) ∧ c0 = .int .i64 (lookT f t).1 ∧ c1 = .int .u64 ((lookT f t).2.1 : Int) ∧ (∃ X z, c2 = .slice X (lookT f t).2.2 z) ∧ ∃ X n z, c3 = .slice X n z
  | 0, t, _, _, _, _, _ => nomatch t
  | f + 1, (t : Nd (Tm f)), c0, c1, c2, c3, h => by
    obtain ⟨rfl, h1, rfl, h2, hb, hk⟩ := h
    obtain ⟨A2, z2, e2, _⟩ := hb.form
    obtain ⟨A3, z3, e3, _⟩ := id hk
    exact ⟨⟨h1, h2, hb.len⟩, rfl, rfl, ⟨A2, z2, e2⟩, A3, _, z3, e3⟩

/-- An element of a map, told as it is. -/
def rawE (v : Value) : Option (DataW Value × List MemPlace) := some (.held v, [])
abbrev nilS : Value := .slice none 0 0
/-- Block m is a map: at key k it holds vo k. -/
def MapW (w : World) (m : Nat) (vo : Look → Value) (n : Nat) : Prop :=
  ∃ D : DataW Value, w.ownsMap Tryd.prog 62 rawE m n D ∧ IsMap D ∧ ∀ k kl, goodL k → keyOf Tryd.prog 62 (keyV k) = some kl → D.atKey kl (.held nilS) = .held (vo k)

theorem zero_terms (w : World) : (zeroValue 22).run Tryd.prog w = .ok nilS w := by kernel_rfl

section
variable {w w' : World} {m n : Nat} {vo : Look → Value}
theorem MapW.made (w : World) : MapW (w.alloc (.map #[] 0)) w.heap.size (fun _ => nilS) 0 :=
  ⟨.map [], World.ownsMap_made w _ _ _, ⟨[], rfl⟩, fun _ _ _ _ => rfl⟩
theorem MapW.lt (h : MapW w m vo n) : m < w.heap.size := h.choose_spec.1.lt
theorem MapW.keep (h : MapW w m vo n) (hk : w'.heap[m]? = w.heap[m]?) : MapW w' m vo n := by
  obtain ⟨D, ⟨es, clock, hb, F, hs, hD⟩, h2, h3⟩ := h
  exact ⟨D, ⟨es, clock, hk.trans hb, F, hs, hD⟩, h2, h3⟩
theorem MapW.look (h : MapW w m vo n) (k : Look) (hk : goodL k) : (Instr.lookup 59 (.map (some m)) (keyV k) false).run Tryd.prog w = .ok (vo k) w := by
  obtain ⟨D, h1, h2, h3⟩ := h
  obtain ⟨kl, hkl⟩ := keyV_key hk
  obtain ⟨v, ps, hrun, hv⟩ := h1.lookup (t := 59) law_look Tryd.underlying59 (zero_terms w) (zd := .held nilS) (zp := []) rfl hkl
  rw [h3 k kl hk hkl] at hv
  simp only [rawE, Option.some.injEq, Prod.mk.injEq, DataW.held.injEq] at hv
  rw [hrun, hv.1]
theorem MapW.put (h : MapW w m vo n) (hn : n < maxLen) (k : Look) (hk : goodL k) (v : Value) :
    ∃ w', (Instr.mapUpdate 59 (.map (some m)) (keyV k) v).run Tryd.prog w = .ok () w' ∧ MapW w' m (fun k' => if k' = k then v else vo k') (n + 1) ∧ w.grownBy w' (some m) := by
  obtain ⟨D, h1, h2, h3⟩ := h
  obtain ⟨kl, hkl⟩ := keyV_key hk
  obtain ⟨w', hrun, r1, r2⟩ := h1.update (t := 59) law_look Tryd.underlying59 hn (val := v) (d := .held v) (ps := []) hkl rfl
  refine ⟨w', hrun, ⟨_, r1, ?_, fun k' kl' hk' hkl' => ?_⟩, r2⟩
  · obtain ⟨es, rfl⟩ := h2
    exact ⟨_, rfl⟩
  · by_cases he : k' = k
    · subst he
      rw [hkl] at hkl'
      obtain rfl := Option.some.inj hkl'
      show _ = DataW.held (if k' = k' then v else vo k')
      rw [if_pos rfl]
      exact atKey_put_same h2 (law_look.key hkl) _ _
    · show _ = DataW.held (if k' = k then v else vo k')
      rw [if_neg he]
      have hne : kl' ≠ kl := fun e => he (keyV_inj (law_look.inj (e ▸ hkl') hkl))
      rw [atKey_put_other hne]
      exact h3 k' kl' hk' hkl'
end
end Go.Proofs.YthgaljgelngmaaaDoor
end
