/-
  The document's reading of a term, over the loaded program: its whole contract. No condition but the sizes that it names.
-/
import Derived.Test.YtmepcdljobdigaaDoorTermJ
namespace Go.Proofs.YtmepcdljobdigaaDoor
open Go.RowKit
set_option linter.unusedVariables false

theorem own_grown {w w' : World} {base e size n g : Nat} {v : Value} {xs : List Value} (h : w.ownsRow base e size v n xs) (hg : w.grownBy w' (some g)) (hb : g < base) : w'.ownsRow base e size v n xs := by
  refine h.kept hg ?_
  have := own_ne h hb
  first | exact .inl this | (intro e; exact this e) | (cases hq : v.ownBlock <;> simp_all)

theorem step_growT {ops : Array Oper} {o : Oper} {a : Act} {w : World} {K : Act → World → Prop} {Q : Exit → Act → World → Prop} {E : Prop} (hg : o.guard = none) (s x : Operand)
    (ho : o.op = .call { callee := .builtin .append, args := #[s, x], argTypes := #[24, 24] })
    (base : Nat) (v : Value) (qs : List Quad) (hs : a.eval s = v) (hown : w.ownsRow base 26 4 v qs.length (flatQ qs))
    (ad : Addr) (c : Nat) (ps : List Quad) (hxe : a.eval x = .slice (some ad) ps.length c) (hx : At w ad ps) (h1 : ∀ u ∈ flatQ ps, u.oneCell' = true) (hb : qs.length + ps.length ≤ 1000000000) (hbase : base ≤ w.heap.size)
    (hK : ∀ v' w', w'.ownsRow base 26 4 v' (qs ++ ps).length (flatQ (qs ++ ps)) → w.grownBy w' v.ownBlock → (v'.ownBlock = v.ownBlock ∨ v'.ownBlock = some w.heap.size) → K (a.put o.dst v') w') :
    if Region.wanted o (yielded ops a.tmps) = true then Oper.wp Tryd.prog o a w K Q else E := by
  have hw : Region.wanted o (yielded ops a.tmps) = true := by simp [Region.wanted, hg]
  rw [if_pos hw]
  obtain ⟨v', w', hrun, h2, h3, h4⟩ := run_growT w base v qs hown ad c ps hx h1 hb hbase o.type
  unfold Oper.wp execOp
  simp only [ho, resolve, invoke, builtin, Sem.run_bind, Sem.run_pure, Result.andThen_ok, List.map_toArray, List.map_cons, List.map_nil, hs, hxe, hrun]
  exact hK _ _ h2 h3 h4

theorem At_new (w : World) (q : Quad) : At (w.alloc (.cells #[q.1, q.2.1, q.2.2.1, q.2.2.2] 26)) ⟨w.heap.size, 0, none⟩ [q] := by
  have h := own_one w w.heap.size (Nat.le_refl _) q
  obtain ⟨g, c, e, ha⟩ := At_of_own h (by simp)
  injection e with e1 e2 e3
  injection e1 with e1
  rw [e1]; exact ha

theorem readL_zero {α : Type} (g : Option (List UInt8) → Option (List UInt8) × α) (st : Option (List UInt8)) : readL g 0 st = (st, []) := by cases st <;> rfl
theorem readL_none {α : Type} (g : Option (List UInt8) → Option (List UInt8) × α) (n : Nat) : readL g n none = (none, []) := by cases n <;> rfl
theorem readL_some {α : Type} (g : Option (List UInt8) → Option (List UInt8) × α) (n : Nat) (l : List UInt8) : readL g (n + 1) (some l) = ((readL g n (g (some l)).1).1, (g (some l)).2 :: (readL g n (g (some l)).1).2) := rfl

/-- How far the kids are read. -/
def Sofar {α : Type} (g : Option (List UInt8) → Option (List UInt8) × α) (r : Option (List UInt8) × List α) (n : Nat) (st : Option (List UInt8)) (ks : List α) : Prop := r = ((readL g n st).1, ks ++ (readL g n st).2)
theorem Sofar.start {α : Type} (g : Option (List UInt8) → Option (List UInt8) × α) (n : Nat) (st : Option (List UInt8)) : Sofar g (readL g n st) n st [] := rfl
theorem Sofar.step {α : Type} {g : Option (List UInt8) → Option (List UInt8) × α} {r : Option (List UInt8) × List α} {n : Nat} {l : List UInt8} {ks : List α} (h : Sofar g r (n + 1) (some l) ks) : Sofar g r n (g (some l)).1 (ks ++ [(g (some l)).2]) := by
  unfold Sofar at h ⊢
  rw [h, readL_some]
  simp
theorem Sofar.done {α : Type} {g : Option (List UInt8) → Option (List UInt8) × α} {r : Option (List UInt8) × List α} {n : Nat} {st : Option (List UInt8)} {ks : List α} (h : Sofar g r n st ks) (he : n = 0 ∨ st = none) : r = (st, ks) := by
  unfold Sofar at h
  rcases he with rfl | rfl
  · rw [h, readL_zero, List.append_nil]
  · rw [h, readL_none, List.append_nil]

end Go.Proofs.YtmepcdljobdigaaDoor
