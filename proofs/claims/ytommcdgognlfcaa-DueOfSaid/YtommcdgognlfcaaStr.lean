/-
  Own words for texts, over any program: a byte slice turned into a text; arrays of bytes compared.
  No condition; nothing of the dump is used here.
-/
import Derived.Test.YtommcdgognlfcaaMem
import Derived.Laws.BytesArg
import Derived.Stop.BytesEq
import Derived.Deep.MidRow
namespace Go.Proofs.Ytommcdgognlfcaa
open Go.RowKit
set_option linter.unusedVariables false

theorem nums_str (l : List UInt8) : strOfNums (l.map fun b => (b.toNat : Int)) = ⟨l.toArray⟩ := by
  unfold strOfNums
  congr 2
  rw [List.map_map]
  have : ((fun n : Int => UInt8.ofNat n.toNat) ∘ fun b : UInt8 => (b.toNat : Int)) = id := by
    funext b
    simp
  rw [this, List.map_id]

/-- string(b). -/
theorem BS.str {P : Program} {w : World} {S : Nat → Prop} {v : Value} {l : List UInt8} (h : BS w S v l) {src e dst : TypeId} (hs : P.underlying src = some (.slice e)) (he : P.underlying e = some (.int .u8)) (hd : P.underlying dst = some .string) :
    (convert src dst v).run P w = .ok (.string ⟨l.toArray⟩) w := by
  obtain ⟨A, c, rfl, hc, hm, hn⟩ := h.form
  by_cases h0 : l = []
  · subst h0
    cases A with
    | none => exact run_convert_bytes_nil w src e hs he 0 c dst hd
    | some a =>
      obtain ⟨b, o, s⟩ := a
      have hz : ∀ (a : Addr), (loadCells a 0).run P w = .ok #[] w := by
        intro a
        simp [loadCells, loadCellsFrom]
      rw [run_convert_bytes_string w src dst e _ _ _ hs he hd]
      simp [Conv.bytesToString, hz]
      rfl
  · have hp : 0 < l.length := by cases l with
    | nil => exact absurd rfl h0
    | cons a t => simp
    obtain ⟨b, o, rfl, _, _, hx⟩ := h.at_ hp
    have := run_convert_bytes_arg (P := P) w src e hs he b o l.length c (l.map fun b => (b.toNat : Int)) (by simp) (fun i hi => by
      have := hx i l[i] (List.getElem?_eq_getElem hi)
      rw [this]
      simp [List.getD, List.getElem?_eq_getElem hi]) dst hd
    rw [nums_str] at this
    exact this

theorem cell_bv : Extern.Stop.cell = bv := rfl

/-- Two arrays of bytes compared. -/
theorem eq_bytes {P : Program} (w : World) (d : Nat) (t e : TypeId) (n : Nat) (ht : P.underlying t = some (.array n e)) (he : P.underlying e = some (.int .u8)) (hsz : ∀ w, (sizeOf e).run P w = .ok 1 w)
    (xs ys : List UInt8) (hx : xs.length = n) (hy : ys.length = n) :
    (Op.equalIn (d + 2) t (.agg (xs.map bv).toArray) (.agg (ys.map bv).toArray)).run P w = .ok (xs == ys) w :=
  run_equalIn_bytes w d t e n ht he hsz xs ys hx hy

/-- One byte slice, laid into a block of the call's own. -/
theorem LS.one {w : World} {S : Nat → Prop} {x : Value} {l : List UInt8} {t : TypeId} (hx : BS w S x l) :
    LS (w.alloc (.cells #[x] t)) (fun b => S b ∨ b = w.heap.size) (.slice (some ⟨w.heap.size, 0, none⟩) 1 1) [l] := by
  refine ⟨_, 1, rfl, by simp, by simp [maxLen], fun _ => ⟨w.heap.size, 0, rfl, .inr rfl, by simp, fun j l' hj => ?_⟩⟩
  have hk := KB.new w t #[x]
  match j, hj with
  | 0, hj => simp at hj; subst hj; exact ⟨x, hk.cell 0, (hx.alloc _).mono fun b h => .inl h⟩

/-- It lies below the heap's end. -/
theorem LS.lt {w : World} {S : Nat → Prop} {v : Value} {ls : List (List UInt8)} (h : LS w S v ls) : LS w (fun b => b < w.heap.size) v ls := by
  obtain ⟨A, c, e, hl, hc, hx⟩ := h
  refine ⟨A, c, e, hl, hc, fun h0 => ?_⟩
  obtain ⟨b, o, ea, sb, hb, hx⟩ := hx h0
  refine ⟨b, o, ea, hb, hb, fun j l hj => ?_⟩
  obtain ⟨x, h1, h2⟩ := hx j l hj
  exact ⟨x, h1, h2.lt.mono fun _ h => h.2⟩

theorem LS.nil (w : World) (S : Nat → Prop) : LS w S (.slice none 0 0) [] := ⟨none, 0, rfl, by simp, by simp [maxLen], fun h => absurd h (by simp)⟩

/-- The cells of a block. -/
def rowOf (w : World) (g : Nat) : Array Value := match w.heap[g]? with
  | some (.cells cs _ _) => cs
  | _ => #[]
theorem rowOf_kb {w : World} {g : Nat} {t : TypeId} {cs : Array Value} (h : KB w g t cs) : rowOf w g = cs := by
  unfold rowOf
  unfold KB at h
  rw [h]
theorem rowOf_drew (w : World) (g : Nat) : rowOf w.drew g = rowOf w g := rfl
theorem rowOf_drewN (w : World) (g n : Nat) : rowOf (w.drewN n) g = rowOf w g := rfl

/-- A whole array is read out of the block that it fills: as the walk asks it, in whatever world. -/
theorem run_loadAt_rowOf {P : Program} {ty e : TypeId} {n : Nat} (hu : P.underlying ty = some (.array n e)) {m : Nat} (hi : (P.info? ty).map (·.size) = some m) (hm : 0 < m) (w : World) (g : Nat) (h : (rowOf w g).size = m) :
    (Instr.loadAt ty (.pointer (some ⟨g, 0, none⟩))).run P w = .ok (.agg (rowOf w g)) w := by
  have hr : w.rangeAt g 0 (rowOf w g).toList := by
    intro j v hj
    unfold rowOf at hj h
    split at hj
    · rename_i cs t fr hg
      rw [cell_of_row w g (0 + j) cs t fr hg, Nat.zero_add]
      simpa using hj
    · simp at hj
  have := run_loadAt_mid (P := P) w g 0 ty (rowOf w g).toList _ hr hu rfl (by rw [hi]; simp [h])
  simpa using this

/-- The block that a pointer to a block's head names. -/
def ptrBlock (v : Value) : Nat := match v with
  | .pointer (some ⟨g, 0, none⟩) => g
  | _ => 0
theorem ptrBlock_mk (g : Nat) : ptrBlock (.pointer (some ⟨g, 0, none⟩)) = g := rfl

/-- The same, at the level of the whole operation (for a region that draws its order). -/
theorem wp_load_rowOf {P : Program} {ty e : TypeId} {n : Nat} (hu : P.underlying ty = some (.array n e)) {m : Nat} (hi : (P.info? ty).map (·.size) = some m) (hm : 0 < m)
    {d : Option Tmp} {x : Operand} {t : TypeId} {pos : String} {after : Array Edge} {gd : Option (Nat × Bool)} {a : Act} {w : World} {K : Act → World → Prop} {Q : Exit → Act → World → Prop}
    (hx : a.eval x = .pointer (some ⟨ptrBlock (a.eval x), 0, none⟩)) (h : (rowOf w (ptrBlock (a.eval x))).size = m) :
    Oper.wp P { dst := d, op := Op.load ty x, type := t, pos := pos, after := after, guard := gd } a w K Q = K (a.put d (.agg (rowOf w (ptrBlock (a.eval x))))) w := by
  have hrun := run_loadAt_rowOf (P := P) hu hi hm w _ h
  rw [← hx] at hrun
  unfold Oper.wp execOp
  simp only [Sem.run_bind, hrun, Result.andThen_ok, Sem.run_pure]
  rfl
end Go.Proofs.Ytommcdgognlfcaa
