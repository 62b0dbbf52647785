/-
  TermG: Rows of terms of a call's own: what they read as, and append onto them. No condition.
  TermH: The document's Parts of layer 5, over the loaded program: its contract. No condition but the sizes that it names.
  TlvA: The reader of tlv, its small methods: each one's contract over the loaded program (Ok, Left, fail, pass, clone, Take, New). No condition but the worlds' shapes that each contract names.
-/
import Derived.Test.YthgaljgelngmaaaDoorDv02
import Derived.Test.YthgaljgelngmaaaDoorDv06
import Derived.Test.YthgaljgelngmaaaDoorProg
import Derived.Test.YthgaljgelngmaaaDoorMem
import Derived.Test.YthgaljgelngmaaaDoorDv05
import Derived.Test.YthgaljgelngmaaaDoorDv01
import Derived.WalkKit
import Derived.WalkSpells
import Derived.BigQuiet
import Derived.Deep.QuietTactic

section
namespace Go.Proofs.YthgaljgelngmaaaDoor
open Go.RowKit
set_option linter.unusedVariables false

/-- Four cells. -/
abbrev Quad := Value × Value × Value × Value
def quad (q : Quad) : List Value := [q.1, q.2.1, q.2.2.1, q.2.2.2]
def flatQ (qs : List Quad) : List Value := qs.flatMap quad
theorem flatQ_nil : flatQ [] = [] := rfl
theorem flatQ_cons (q : Quad) (qs : List Quad) : flatQ (q :: qs) = quad q ++ flatQ qs := rfl
theorem flatQ_append (a b : List Quad) : flatQ (a ++ b) = flatQ a ++ flatQ b := List.flatMap_append
theorem flatQ_length : ∀ (qs : List Quad), (flatQ qs).length = qs.length * 4
  | [] => rfl
  | q :: qs => by rw [flatQ_cons, List.length_append, flatQ_length qs]; simp [quad, Nat.succ_mul]; omega
theorem flatQ_at : ∀ (qs : List Quad) (i : Nat) (q : Quad), qs[i]? = some q → (flatQ qs)[i * 4]? = some q.1 ∧ (flatQ qs)[i * 4 + 1]? = some q.2.1 ∧ (flatQ qs)[i * 4 + 2]? = some q.2.2.1 ∧ (flatQ qs)[i * 4 + 3]? = some q.2.2.2
  | [], i, q, h => by simp at h
  | p :: qs, 0, q, h => by
    simp at h
    subst h
    exact ⟨rfl, rfl, rfl, rfl⟩
  | p :: qs, i + 1, q, h => by
    obtain ⟨h0, h1, h2, h3⟩ := flatQ_at qs i q (by simpa using h)
    rw [flatQ_cons]
    have e : ∀ k, (quad p ++ flatQ qs)[(i + 1) * 4 + k]? = (flatQ qs)[i * 4 + k]? := fun k => by
      rw [List.getElem?_append_right (by simp [quad]; omega)]
      congr 1
      simp [quad]; omega
    exact ⟨(e 0).trans h0, (e 1).trans h1, (e 2).trans h2, (e 3).trans h3⟩

/-- The quads read, in w, as the terms ks. -/
def QT (w : World) (S : Nat → Prop) (f : Nat) (qs : List Quad) (ks : List (Tm f)) : Prop :=
  qs.length = ks.length ∧ ∀ (i : Nat) (q : Quad) (t : Tm f), qs[i]? = some q → ks[i]? = some t → TM w S f t q.1 q.2.1 q.2.2.1 q.2.2.2

section
variable {w w' : World} {S S' : Nat → Prop} {f : Nat} {qs ps : List Quad} {ks ls : List (Tm f)}
theorem QT.keepS (h : QT w S f qs ks) (hs : w.heap.size ≤ w'.heap.size) (hk : ∀ b, S b → b < w.heap.size → w'.heap[b]? = w.heap[b]?) (hS : ∀ b, S b → S' b) : QT w' S' f qs ks :=
  ⟨h.1, fun i q t hq ht => TM.keepS f t _ _ _ _ (h.2 i q t hq ht) hs hk hS⟩
theorem QT.below' (h : QT w S f qs ks) (hb : Below w.heap.size w w') : QT w' S f qs ks := h.keepS hb.size (fun b _ hlt => hb.block b hlt) fun _ h => h
theorem QT.mono (h : QT w S f qs ks) (hS : ∀ b, S b → S' b) : QT w S' f qs ks := h.keepS (Nat.le_refl _) (fun _ _ _ => rfl) hS
theorem QT.nil (w : World) (S : Nat → Prop) (f : Nat) : QT w S f [] [] := ⟨rfl, fun i q t h => by simp at h⟩
theorem QT.append (h : QT w S f qs ks) (g : QT w S f ps ls) : QT w S f (qs ++ ps) (ks ++ ls) := by
  refine ⟨by rw [List.length_append, List.length_append, h.1, g.1], fun i q t hq ht => ?_⟩
  rcases Nat.lt_or_ge i qs.length with hi | hi
  · rw [List.getElem?_append_left hi] at hq
    rw [List.getElem?_append_left (by rw [← h.1]; exact hi)] at ht
    exact h.2 i q t hq ht
  · rw [List.getElem?_append_right hi] at hq
    rw [List.getElem?_append_right (by rw [← h.1]; exact hi), ← h.1] at ht
    exact g.2 _ q t hq ht
theorem QT.one {c0 c1 c2 c3 : Value} {t : Tm f} (h : TM w S f t c0 c1 c2 c3) : QT w S f [(c0, c1, c2, c3)] [t] := by
  refine ⟨rfl, fun i q u hq hu => ?_⟩
  match i, hq, hu with
  | 0, hq, hu => simp at hq hu; subst hq hu; exact h
theorem TM.cells1 : ∀ {f : Nat} {t : Tm f} {c0 c1 c2 c3 : Value}, TM w S f t c0 c1 c2 c3 → ∀ u ∈ quad (c0, c1, c2, c3), u.oneCell' = true
  | 0, t, _, _, _, _, _ => nomatch t
  | f + 1, (t : Nd (Tm f)), c0, c1, c2, c3, h => by
    obtain ⟨rfl, _, rfl, _, hb, hk⟩ := h
    obtain ⟨A2, cap2, rfl, _⟩ := hb.form
    obtain ⟨A3, cap3, rfl, _⟩ := hk
    intro u hu
    simp [quad] at hu
    rcases hu with rfl | rfl | rfl | rfl <;> rfl
theorem QT.cells1 (h : QT w S f qs ks) : ∀ u ∈ flatQ qs, u.oneCell' = true := by
  intro u hu
  obtain ⟨q, hq, hu⟩ := List.mem_flatMap.1 hu
  obtain ⟨i, hi, e⟩ := List.mem_iff_getElem.1 hq
  have h1 : qs[i]? = some q := by rw [List.getElem?_eq_getElem hi, e]
  have h2 : ks[i]? = some (ks[i]'(by rw [← h.1]; exact hi)) := List.getElem?_eq_getElem _
  exact TM.cells1 (h.2 i q _ h1 h2) u hu
end

/-- A row of terms of a call's own reads as a list of terms. -/
theorem KS_of_own {w : World} {S : Nat → Prop} {f base : Nat} {v : Value} {qs : List Quad} {ks : List (Tm f)} (h : w.ownsRow base 35 4 v qs.length (flatQ qs)) (hq : QT w S f qs ks)
    (hS : ∀ b, base ≤ b → b < w.heap.size → S b) : KS w S (TM w S f) v ks := by
  obtain ⟨_, h2⟩ := h
  rw [hq.1] at h2
  rcases h2 with ⟨rfl, h0⟩ | ⟨g, cap, cur, rfl, hb, hg, hnc, hcm, hcs, htk⟩
  · obtain rfl : ks = [] := List.eq_nil_of_length_eq_zero h0
    exact ⟨none, 0, rfl, by simp, by simp [maxLen], fun _ => rfl, fun h => absurd h (by simp)⟩
  · have hlt : g < w.heap.size := (Array.getElem?_eq_some_iff.1 hg).1
    refine ⟨_, cap, rfl, hnc, hcm, (fun h => by cases h), fun h0 => ⟨g, 0, rfl, hS g hb hlt, hlt, fun i t hi => ?_⟩⟩
    have hil := (List.getElem?_eq_some_iff.1 hi).1
    have hqi : qs[i]? = some (qs[i]'(by rw [hq.1]; exact hil)) := List.getElem?_eq_getElem _
    obtain ⟨e0, e1, e2, e3⟩ := flatQ_at qs i _ hqi
    have cell : ∀ k u, k < 4 → (flatQ qs)[i * 4 + k]? = some u → w.cell? ⟨g, 0 + i * 4 + k, none⟩ = some u := fun k u hk hu => by
      rw [cell_of_row w g (0 + i * 4 + k) cur _ (0, 0) hg, Nat.zero_add]
      rw [← htk, List.getElem?_take, if_pos (by omega)] at hu
      simpa using hu
    exact ⟨_, _, _, _, cell 0 _ (by omega) e0, cell 1 _ (by omega) e1, cell 2 _ (by omega) e2, cell 3 _ (by omega) e3, hq.2 i _ t hqi hi⟩

/-- A new row of one term. -/
theorem own_one (w : World) (base : Nat) (hb : base ≤ w.heap.size) (q : Quad) : (w.alloc (.cells #[q.1, q.2.1, q.2.2.1, q.2.2.2] 35)).ownsRow base 35 4 (.slice (some ⟨w.heap.size, 0, none⟩) 1 1) [q].length (flatQ [q]) :=
  ⟨rfl, .inr ⟨w.heap.size, 1, #[q.1, q.2.1, q.2.2.1, q.2.2.2], rfl, hb, heap_alloc_new w _, Nat.le_refl _, by simp [maxLen], rfl, rfl⟩⟩

theorem info_term : (Tryd.prog.info? 35).map (fun i => (i.zero, i.size, i.bytes)) = some (some (.agg #[.int .i64 0, .int .u64 0, .slice none 0 0, .slice none 0 0]), 4, 64) := by kernel_rfl

/-- The cells of a slice that lies at an address, as quads. -/
def At (w : World) (ad : Addr) (qs : List Quad) : Prop := ∀ j u, (flatQ qs)[j]? = some u → w.cell? (ad.add j) = some u

theorem run_growT (w : World) (base : Nat) (v : Value) (qs : List Quad) (hown : w.ownsRow base 35 4 v qs.length (flatQ qs)) (ad : Addr) (c : Nat) (ps : List Quad) (hx : At w ad ps) (h1 : ∀ u ∈ flatQ ps, u.oneCell' = true)
    (hb : qs.length + ps.length ≤ 1000000000) (hbase : base ≤ w.heap.size) (ty : TypeId) :
    ∃ v' w', (Builtin.append_ #[22, 22] ty #[v, .slice (some ad) ps.length c]).run Tryd.prog w = .ok v' w' ∧ w'.ownsRow base 35 4 v' (qs ++ ps).length (flatQ (qs ++ ps)) ∧ w.grownBy w' v.ownBlock ∧
      (v'.ownBlock = v.ownBlock ∨ v'.ownBlock = some w.heap.size) := by
  obtain ⟨i0, hi, hz0, hz1, hz2⟩ := info_parts info_term
  obtain ⟨v', w', a1, a2, a3, _, a5⟩ := run_append_own_at (P := Tryd.prog) (w := w) base 22 ty 35 i0 _ 4 64 Tryd.underlying22 hi hz0 hz1 hz2 rfl (by omega) v qs.length _ hown ad ps.length c (flatQ ps) (flatQ_length ps) hx h1
    (by unfold maxLen; omega) (by omega) hbase
  exact ⟨v', w', a1, by rw [List.length_append, flatQ_append]; exact a2, a3, a5⟩
end Go.Proofs.YthgaljgelngmaaaDoor
end

section
namespace Go.Proofs.YthgaljgelngmaaaDoor
open Go.RowKit
set_option linter.unusedVariables false

theorem wpList_growT (w : World) {ops : Array Oper} {rest : List Oper} {o : Oper} {a : Act} {Q : Exit → Act → World → Prop} (hgd : o.guard = none) (s x : Operand)
    (ho : o.op = .call { callee := .builtin .append, args := #[s, x], argTypes := #[22, 22] })
    (base : Nat) (v : Value) (qs : List Quad) (hs : a.eval s = v) (hown : w.ownsRow base 35 4 v qs.length (flatQ qs))
    (ad : Addr) (c : Nat) (ps : List Quad) (hxe : a.eval x = .slice (some ad) ps.length c) (hx : At w ad ps) (h1 : ∀ u ∈ flatQ ps, u.oneCell' = true) (hb : qs.length + ps.length ≤ 1000000000) (hbase : base ≤ w.heap.size)
    (h : ∀ v' w', w'.ownsRow base 35 4 v' (qs ++ ps).length (flatQ (qs ++ ps)) → w.grownBy w' v.ownBlock → (v'.ownBlock = v.ownBlock ∨ v'.ownBlock = some w.heap.size) → wpList Tryd.prog ops Q rest (a.put o.dst v') w') :
    wpList Tryd.prog ops Q (o :: rest) a w := by
  refine wpList_plain hgd fun K hK => ?_
  obtain ⟨v', w', hrun, h2, h3, h4⟩ := run_growT w base v qs hown ad c ps hx h1 hb hbase o.type
  unfold Oper.wp execOp
  simp only [ho, resolve, invoke, builtin, Sem.run_bind, Sem.run_pure, Result.andThen_ok, List.map_toArray, List.map_cons, List.map_nil, hs, hxe, hrun]
  exact hK _ _ (h v' w' h2 h3 h4)

/-- What a row of a call's own lies at. -/
theorem At_of_own {w : World} {base : Nat} {v : Value} {qs : List Quad} (h : w.ownsRow base 35 4 v qs.length (flatQ qs)) (h0 : 0 < qs.length) : ∃ g c, v = .slice (some ⟨g, 0, none⟩) qs.length c ∧ At w ⟨g, 0, none⟩ qs := by
  obtain ⟨_, h2⟩ := h
  rcases h2 with ⟨rfl, hz⟩ | ⟨g, cap, cur, rfl, hb, hg, hnc, hcm, hcs, htk⟩
  · omega
  · refine ⟨g, cap, rfl, fun j u hu => ?_⟩
    rw [Addr.add_lit, Nat.zero_add, cell_of_row w g j cur _ (0, 0) hg]
    have hj := (List.getElem?_eq_some_iff.1 hu).1
    rw [flatQ_length] at hj
    rw [← htk, List.getElem?_take, if_pos hj] at hu
    simpa using hu

theorem QT.lifted {w : World} {S : Nat → Prop} {f : Nat} {qs : List Quad} {ks : List (Tm f)} (h : QT w S f qs ks) : QT w S (f + 1) qs (ks.map (lift f)) := by
  refine ⟨by rw [List.length_map]; exact h.1, fun i q t hq ht => ?_⟩
  rw [List.getElem?_map] at ht
  cases hk : ks[i]? with
  | none => rw [hk] at ht; cases ht
  | some u =>
    rw [hk] at ht
    simp only [Option.map_some, Option.some.injEq] at ht
    subst ht
    exact TM.lifted f u _ _ _ _ (h.2 i q u hq hk)

/-- The parts of a term with its first j kids. -/
def partP {f : Nat} (t : Tm (f + 1)) (ks : List (Tm f)) (j : Nat) : List (Tm (f + 1)) := t :: ((ks.take j).flatMap fun u => (partsT f u).map (lift f))
theorem partP_zero {f : Nat} (t : Tm (f + 1)) (ks : List (Tm f)) : partP t ks 0 = [t] := by simp [partP]
theorem partP_succ {f : Nat} (t : Tm (f + 1)) (ks : List (Tm f)) (j : Nat) (hj : j < ks.length) : partP t ks (j + 1) = partP t ks j ++ (partsT f ks[j]).map (lift f) := by
  unfold partP
  rw [List.take_add_one, List.getElem?_eq_getElem hj, List.flatMap_append]
  simp
theorem partP_all {f : Nat} (k : Int) (n : Nat) (d : List UInt8) (ks : List (Tm f)) : partP (⟨k, n, d, ks⟩ : Nd (Tm f)) ks ks.length = partsT (f + 1) (⟨k, n, d, ks⟩ : Nd (Tm f)) := by
  unfold partP
  rw [List.take_length]; rfl
theorem partP_le {f : Nat} (t : Tm (f + 1)) (ks : List (Tm f)) (j : Nat) : (partP t ks j).length ≤ (partP t ks ks.length).length := by
  unfold partP
  rw [List.take_length]
  have e : ks.flatMap (fun u => (partsT f u).map (lift f)) = (ks.take j).flatMap (fun u => (partsT f u).map (lift f)) ++ (ks.drop j).flatMap (fun u => (partsT f u).map (lift f)) := by rw [← List.flatMap_append, List.take_append_drop]
  rw [e]
  simp only [List.length_cons, List.length_append]
  omega
theorem parts_pos : ∀ {f : Nat} (t : Tm f), 0 < (partsT f t).length
  | 0, t => nomatch t
  | f + 1, (t : Nd (Tm f)) => Nat.succ_pos _

set_option maxHeartbeats 1000000 in
theorem rparts_any (S : Nat → Prop) : ∀ (f : Nat) (t : Tm f) (v : Value) (w : World), (∀ b, S b → b < w.heap.size) → TV w S f v t → (partsT f t).length ≤ 1000000 →
    Calls Tryd.prog 23 #[v] w fun e w' => ∃ u qs, e = .returned u ∧ w'.ownsRow w.heap.size 35 4 u qs.length (flatQ qs) ∧ QT w' S f qs (partsT f t) ∧ Below w.heap.size w w' := by
  intro f
  induction f with
  | zero => intro t; exact nomatch t
  | succ f ih =>
    intro t v w hSw hv hlen0
    obtain ⟨c0, c1, c2, c3, rfl, ht⟩ := hv
    have q1 := QT.one ht
    obtain ⟨rfl, hk, rfl, hn, hdat, hks⟩ := id ht
    obtain ⟨A2, cap2, rfl, _⟩ := hdat.form
    obtain ⟨A3, cap3, e3, hl3, hm3, _⟩ := id hks
    obtain ⟨k, n, d, ks⟩ := (t : Nd (Tm f))
    simp only at e3 hks hk hn hdat hl3 q1
    subst e3
    have hlen : ks.length ≤ 9223372036854775807 := by unfold maxLen at hm3; omega
    have hall := partP_all k n d ks
    clear ht
    dsimp only
    generalize (⟨k, n, d, ks⟩ : Nd (Tm f)) = T at *
    replace hall : partP (T : Tm (f + 1)) ks ks.length = partsT (f + 1) T := hall
    rw [← hall] at hlen0 ⊢
    have hz : QT w S (f + 1) [(.int .i64 k, .int .u64 n, .slice A2 d.length cap2, .slice A3 ks.length cap3)] (partP (T : Tm (f + 1)) ks 0) := by
      have e := partP_zero (f := f) (T : Tm (f + 1)) ks
      rw [e]; exact q1
    clear q1 hall
    have HP : Hid (∀ j, (partP (T : Tm (f + 1)) ks j).length ≤ 1000000) := fun j => Nat.le_trans (partP_le _ ks j) hlen0
    have HS : Hid (∀ j (hj : j < ks.length), partP (T : Tm (f + 1)) ks (j + 1) = partP (T : Tm (f + 1)) ks j ++ (partsT f ks[j]).map (lift f)) := fun j hj => partP_succ _ ks j hj
    clear hlen0 hdat
    generalize partP (T : Tm (f + 1)) ks = PP at *
    have kb := (KB.new w 35 #[.int .i64 k, .int .u64 n, .slice A2 d.length cap2, .slice A3 ks.length cap3]).alloc (.cells #[.int .i64 k, .int .u64 n, .slice A2 d.length cap2, .slice A3 ks.length cap3] 35)
    have B0 := ((Below.refl w.heap.size w).alloc (Nat.le_refl _) (.cells #[.int .i64 k, .int .u64 n, .slice A2 d.length cap2, .slice A3 ks.length cap3] 35)).alloc (by simp) (.cells #[.int .i64 k, .int .u64 n, .slice A2 d.length cap2, .slice A3 ks.length cap3] 35)
    have how := own_one (w.alloc (.cells #[.int .i64 k, .int .u64 n, .slice A2 d.length cap2, .slice A3 ks.length cap3] 35)) (w.heap.size + 1) (by simp) (.int .i64 k, .int .u64 n, .slice A2 d.length cap2, .slice A3 ks.length cap3)
    rw [World.size_alloc] at how
    go_enter Tryd.func23, Tryd.ntmps23
    go_wp2_with fail
    have hz1 := hz.below' B0
    clear hz
    generalize (w.alloc (.cells #[.int .i64 k, .int .u64 n, .slice A2 d.length cap2, .slice A3 ks.length cap3] 35)).alloc (.cells #[.int .i64 k, .int .u64 n, .slice A2 d.length cap2, .slice A3 ks.length cap3] 35) = w1 at *
    go_loopw [3, 4] (fun vv iv wr => ∃ (j : Nat) (qs : List Quad), j ≤ ks.length ∧ QT wr S (f + 1) qs (PP j) ∧ iv = .int .i64 j ∧ wr.ownsRow (w.heap.size + 1) 35 4 vv qs.length (flatQ qs) ∧
      KB wr w.heap.size 35 #[.int .i64 k, .int .u64 n, .slice A2 d.length cap2, .slice A3 ks.length cap3] ∧ Below w.heap.size w wr) (fun _ iv _ => ks.length - (intOf iv).toNat)
    case atStart => exact ⟨0, _, by omega, hz1, rfl, how, kb, B0⟩
    case round =>
      obtain ⟨j, qs, hj, hq, rfl, hown, K5, B5⟩ := hrel
      have q3 : wr.cell? ⟨w.heap.size, 3, none⟩ = some (.slice A3 ks.length cap3) := K5.cell 3
      by_cases hlt : j < ks.length
      · obtain ⟨b, o, e0, e1, e2, e3, rfl, hb, k0, k1, k2, k3, hv⟩ := kid_as hks rfl B5 j hlt
        have hs := HS.out j hlt
        have hl := HP.out (j + 1)
        rw [hs, List.length_append, List.length_map] at hl
        have hc := ih ks[j] (.agg #[e0, e1, e2, e3]) wr (fun b hb => Nat.lt_of_lt_of_le (hSw b hb) B5.size) hv (by omega)
        have hpos := parts_pos ks[j]
        have HSS := Lib.hid hs
        clear hv hks hs
        generalize partsT f ks[j] = M at *
        go_wp2_with fail
        refine hc.mono ?_
        rintro e w5 ⟨v5, ps, rfl, how5, hq5, b5⟩
        have K6 := K5.below b5 K5.lt
        have B6 := B5.trans (b5.mono B5.size)
        have how6 := own_past b5 hown
        have hq6 := hq.below' b5
        have HL : Hid (qs.length + ps.length ≤ 1000000000) := by
          have h1 := hq.1
          have h2 := hq5.1
          show _ ≤ _
          omega
        obtain ⟨g5, c5, rfl, hat⟩ := At_of_own how5 (by have := hq5.1; omega)
        clear hc q3 k0 k1 k2 k3 hq hown
        go_wp2_with (at_builtin; refine wpList_growT _ rfl _ _ rfl (w.heap.size + 1) _ qs rfl how6 _ _ ps rfl hat hq5.cells1 HL.out K6.lt ?_; intro v7 w7 how7 hg7 _)
        have K7 := K6.grown hg7 (own_ne how6 (Nat.lt_succ_self w.heap.size))
        have B7 := B6.grown hg7 B6.size fun x hx => Nat.le_trans (Nat.le_succ _) (own_ge how6 x hx)
        have hq7 : QT w7 S (f + 1) (qs ++ ps) (PP (j + 1)) := by
          rw [HSS.out]
          exact (hq6.append hq5.lifted).keepS hg7.size (fun x hx hlt => hg7.block x hlt fun e => absurd (own_ge how6 x e.symm) (by have := hSw x hx; omega)) fun _ h => h
        go_roundw
        case rel => exact ⟨j + 1, qs ++ ps, by omega, hq7, by go_num, how7, K7, B7⟩
        case measure => simp [intOf]; omega
      · have e : j = ks.length := by omega
        subst e
        go_wp2_with fail
        go_ret
        exact ⟨_, qs, rfl, own_base hown (Nat.le_succ _), hq, B5⟩
end Go.Proofs.YthgaljgelngmaaaDoor
end

section
namespace Go.Proofs.YthgaljgelngmaaaDoor
open Go.RowKit
end Go.Proofs.YthgaljgelngmaaaDoor
end
