/-
  Str: Own words for texts, over any program: a byte slice turned into a text; arrays of bytes compared. No condition; nothing of the dump is used here.
  TermV: Terms in memory, over any program: what four cells read as; kept over what turns elsewhere; a term that came in, opened. No condition.
-/
import Derived.Test.YthgaljgelngmaaaDoorMem
import Derived.Laws.BytesArg
import Derived.Stop.BytesEq
import Derived.Deep.MidRow
import Derived.Test.YthgaljgelngmaaaDoorDv01

section
namespace Go.Proofs.YthgaljgelngmaaaDoor
open Go.RowKit
set_option linter.unusedVariables false

theorem nums_str (l : List UInt8) : strOfNums (l.map fun b => (b.toNat : Int)) = ⟨l.toArray⟩ := by
  unfold strOfNums
  congr 2
  rw [List.map_map]
  have : ((fun n : Int => UInt8.ofNat n.toNat) ∘ fun b : UInt8 => (b.toNat : Int)) = id := by
    funext b
    simp
  rw [this, List.map_id]

/-- string(b). -/
theorem BS.str {P : Program} {w : World} {S : Nat → Prop} {v : Value} {l : List UInt8} (h : BS w S v l) {src e dst : TypeId} (hs : P.underlying src = some (.slice e)) (he : P.underlying e = some (.int .u8)) (hd : P.underlying dst = some .string) :
    (convert src dst v).run P w = .ok (.string ⟨l.toArray⟩) w := by
  obtain ⟨A, c, rfl, hc, hm, hn⟩ := h.form
  by_cases h0 : l = []
  · subst h0
    cases A with
    | none => exact run_convert_bytes_nil w src e hs he 0 c dst hd
    | some a =>
      obtain ⟨b, o, s⟩ := a
      have hz : ∀ (a : Addr), (loadCells a 0).run P w = .ok #[] w := by
        intro a
        simp [loadCells, loadCellsFrom]
      rw [run_convert_bytes_string w src dst e _ _ _ hs he hd]
      simp [Conv.bytesToString, hz]
      rfl
  · have hp : 0 < l.length := by cases l with
    | nil => exact absurd rfl h0
    | cons a t => simp
    obtain ⟨b, o, rfl, _, _, hx⟩ := h.at_ hp
    have := run_convert_bytes_arg (P := P) w src e hs he b o l.length c (l.map fun b => (b.toNat : Int)) (by simp) (fun i hi => by
      have := hx i l[i] (List.getElem?_eq_getElem hi)
      rw [this]
      simp [List.getD, List.getElem?_eq_getElem hi]) dst hd
    rw [nums_str] at this
    exact this

theorem cell_bv : Extern.Stop.cell = bv := rfl

/-- Two arrays of bytes compared. -/
theorem eq_bytes {P : Program} (w : World) (d : Nat) (t e : TypeId) (n : Nat) (ht : P.underlying t = some (.array n e)) (he : P.underlying e = some (.int .u8)) (hsz : ∀ w, (sizeOf e).run P w = .ok 1 w)
    (xs ys : List UInt8) (hx : xs.length = n) (hy : ys.length = n) :
    (Op.equalIn (d + 2) t (.agg (xs.map bv).toArray) (.agg (ys.map bv).toArray)).run P w = .ok (xs == ys) w :=
  run_equalIn_bytes w d t e n ht he hsz xs ys hx hy

/-- One byte slice, laid into a block of the call's own. -/
theorem LS.one {w : World} {S : Nat → Prop} {x : Value} {l : List UInt8} {t : TypeId} (hx : BS w S x l) :
    LS (w.alloc (.cells #[x] t)) (fun b => S b ∨ b = w.heap.size) (.slice (some ⟨w.heap.size, 0, none⟩) 1 1) [l] := by
  refine ⟨_, 1, rfl, by simp, by simp [maxLen], fun _ => ⟨w.heap.size, 0, rfl, .inr rfl, by simp, fun j l' hj => ?_⟩⟩
  have hk := KB.new w t #[x]
  match j, hj with
  | 0, hj => simp at hj; subst hj; exact ⟨x, hk.cell 0, (hx.alloc _).mono fun b h => .inl h⟩

/-- It lies below the heap's end. -/
theorem LS.lt {w : World} {S : Nat → Prop} {v : Value} {ls : List (List UInt8)} (h : LS w S v ls) : LS w (fun b => b < w.heap.size) v ls := by
  obtain ⟨A, c, e, hl, hc, hx⟩ := h
  refine ⟨A, c, e, hl, hc, fun h0 => ?_⟩
  obtain ⟨b, o, ea, sb, hb, hx⟩ := hx h0
  refine ⟨b, o, ea, hb, hb, fun j l hj => ?_⟩
  obtain ⟨x, h1, h2⟩ := hx j l hj
  exact ⟨x, h1, h2.lt.mono fun _ h => h.2⟩

theorem LS.nil (w : World) (S : Nat → Prop) : LS w S (.slice none 0 0) [] := ⟨none, 0, rfl, by simp, by simp [maxLen], fun h => absurd h (by simp)⟩

/-- The cells of a block. -/
def rowOf (w : World) (g : Nat) : Array Value := match w.heap[g]? with
  | some (.cells cs _ _) => cs
  | _ => #[]
theorem rowOf_kb {w : World} {g : Nat} {t : TypeId} {cs : Array Value} (h : KB w g t cs) : rowOf w g = cs := by
  unfold rowOf
  unfold KB at h
  rw [h]
theorem rowOf_drew (w : World) (g : Nat) : rowOf w.drew g = rowOf w g := rfl
theorem rowOf_drewN (w : World) (g n : Nat) : rowOf (w.drewN n) g = rowOf w g := rfl

/-- A whole array is read out of the block that it fills: as the walk asks it, in whatever world. -/
theorem run_loadAt_rowOf {P : Program} {ty e : TypeId} {n : Nat} (hu : P.underlying ty = some (.array n e)) {m : Nat} (hi : (P.info? ty).map (·.size) = some m) (hm : 0 < m) (w : World) (g : Nat) (h : (rowOf w g).size = m) :
    (Instr.loadAt ty (.pointer (some ⟨g, 0, none⟩))).run P w = .ok (.agg (rowOf w g)) w := by
  have hr : w.rangeAt g 0 (rowOf w g).toList := by
    intro j v hj
    unfold rowOf at hj h
    split at hj
    · rename_i cs t fr hg
      rw [cell_of_row w g (0 + j) cs t fr hg, Nat.zero_add]
      simpa using hj
    · simp at hj
  have := run_loadAt_mid (P := P) w g 0 ty (rowOf w g).toList _ hr hu rfl (by rw [hi]; simp [h])
  simpa using this

/-- The block that a pointer to a block's head names. -/
def ptrBlock (v : Value) : Nat := match v with
  | .pointer (some ⟨g, 0, none⟩) => g
  | _ => 0
theorem ptrBlock_mk (g : Nat) : ptrBlock (.pointer (some ⟨g, 0, none⟩)) = g := rfl

/-- The same, at the level of the whole operation (for a region that draws its order). -/
theorem wp_load_rowOf {P : Program} {ty e : TypeId} {n : Nat} (hu : P.underlying ty = some (.array n e)) {m : Nat} (hi : (P.info? ty).map (·.size) = some m) (hm : 0 < m)
    {d : Option Tmp} {x : Operand} {t : TypeId} {pos : String} {after : Array Edge} {gd : Option (Nat × Bool)} {a : Act} {w : World} {K : Act → World → Prop} {Q : Exit → Act → World → Prop}
    (hx : a.eval x = .pointer (some ⟨ptrBlock (a.eval x), 0, none⟩)) (h : (rowOf w (ptrBlock (a.eval x))).size = m) :
    Oper.wp P { dst := d, op := Op.load ty x, type := t, pos := pos, after := after, guard := gd } a w K Q = K (a.put d (.agg (rowOf w (ptrBlock (a.eval x))))) w := by
  have hrun := run_loadAt_rowOf (P := P) hu hi hm w _ h
  rw [← hx] at hrun
  unfold Oper.wp execOp
  simp only [Sem.run_bind, hrun, Result.andThen_ok, Sem.run_pure]
  rfl
end Go.Proofs.YthgaljgelngmaaaDoor
end

section
namespace Go.Proofs.YthgaljgelngmaaaDoor
open Go.RowKit Go.ChangeShapes Go.WideShapes Go.Joins
set_option linter.unusedVariables false

/-- A whole number of 64 bits. -/
def I64 (n : Int) : Prop := -9223372036854775808 ≤ n ∧ n ≤ 9223372036854775807

/-- The slice value v reads, in w, as the list ks; each element's four cells read as E says. -/
def KS {α : Type} (w : World) (S : Nat → Prop) (E : α → Value → Value → Value → Value → Prop) (v : Value) (ks : List α) : Prop :=
  ∃ A c, v = .slice A ks.length c ∧ ks.length ≤ c ∧ c ≤ maxLen ∧ (A = none → c = 0) ∧
    (0 < ks.length → ∃ b o, A = some ⟨b, o, none⟩ ∧ S b ∧ b < w.heap.size ∧
      ∀ i t, ks[i]? = some t → ∃ c0 c1 c2 c3, w.cell? ⟨b, o + i * 4, none⟩ = some c0 ∧ w.cell? ⟨b, o + i * 4 + 1, none⟩ = some c1 ∧ w.cell? ⟨b, o + i * 4 + 2, none⟩ = some c2 ∧ w.cell? ⟨b, o + i * 4 + 3, none⟩ = some c3 ∧ E t c0 c1 c2 c3)

/-- The four cells read, in w, as the term t. -/
def TM (w : World) (S : Nat → Prop) : (f : Nat) → Tm f → Value → Value → Value → Value → Prop
  | 0, t, _, _, _, _ => nomatch t
  | f + 1, (t : Nd (Tm f)), c0, c1, c2, c3 => c0 = .int .i64 t.kind ∧ I64 t.kind ∧ c1 = .int .u64 (t.n : Int) ∧ t.n < 18446744073709551616 ∧ BS w S c2 t.data ∧ KS w S (TM w S f) c3 t.kids

section
variable {w w' : World} {S S' : Nat → Prop}

theorem KS.map {α β : Type} {E : α → Value → Value → Value → Value → Prop} {E' : β → Value → Value → Value → Value → Prop} {v : Value} {ks : List α} (g : α → β) (h : KS w S E v ks)
    (hs : w.heap.size ≤ w'.heap.size) (hk : ∀ b, S b → b < w.heap.size → w'.heap[b]? = w.heap[b]?) (hS : ∀ b, S b → S' b) (he : ∀ t c0 c1 c2 c3, E t c0 c1 c2 c3 → E' (g t) c0 c1 c2 c3) : KS w' S' E' v (ks.map g) := by
  obtain ⟨A, c, e, hl, hc, hn, hx⟩ := h
  refine ⟨A, c, by rw [e, List.length_map], by rw [List.length_map]; exact hl, hc, hn, fun h0 => ?_⟩
  rw [List.length_map] at h0
  obtain ⟨b, o, ea, sb, hb, hx⟩ := hx h0
  refine ⟨b, o, ea, hS b sb, by omega, fun i t hi => ?_⟩
  rw [List.getElem?_map] at hi
  cases hq : ks[i]? with
  | none => rw [hq] at hi; cases hi
  | some u =>
    rw [hq] at hi
    simp only [Option.map_some, Option.some.injEq] at hi
    subst hi
    obtain ⟨c0, c1, c2, c3, k0, k1, k2, k3, ke⟩ := hx i u hq
    have hc := fun (x : Nat) => World.cell?_of_block (w := w) (w' := w') (a := ⟨b, x, none⟩) (hk b sb hb)
    exact ⟨c0, c1, c2, c3, (hc _).trans k0, (hc _).trans k1, (hc _).trans k2, (hc _).trans k3, he _ _ _ _ _ ke⟩

theorem TM.keepS : ∀ (f : Nat) (t : Tm f) (c0 c1 c2 c3 : Value), TM w S f t c0 c1 c2 c3 → w.heap.size ≤ w'.heap.size → (∀ b, S b → b < w.heap.size → w'.heap[b]? = w.heap[b]?) → (∀ b, S b → S' b) → TM w' S' f t c0 c1 c2 c3
  | 0, t, _, _, _, _, _, _, _, _ => nomatch t
  | f + 1, (t : Nd (Tm f)), c0, c1, c2, c3, h, hs, hk, hS => by
    obtain ⟨h0, h1, h2, h3, h4, h5⟩ := h
    have := KS.map (w' := w') (S' := S') (E' := TM w' S' f) id h5 hs hk hS fun u d0 d1 d2 d3 hu => TM.keepS f u d0 d1 d2 d3 hu hs hk hS
    rw [List.map_id] at this
    exact ⟨h0, h1, h2, h3, (h4.keep hs hk).mono hS, this⟩

theorem TM.lifted : ∀ (f : Nat) (t : Tm f) (c0 c1 c2 c3 : Value), TM w S f t c0 c1 c2 c3 → TM w S (f + 1) (lift f t) c0 c1 c2 c3
  | 0, t, _, _, _, _, _ => nomatch t
  | f + 1, (t : Nd (Tm f)), c0, c1, c2, c3, h => by
    obtain ⟨h0, h1, h2, h3, h4, h5⟩ := h
    exact ⟨h0, h1, h2, h3, h4, KS.map (w' := w) (S' := S) (E' := TM w S (f + 1)) (lift f) h5 (Nat.le_refl _) (fun _ _ _ => rfl) (fun _ h => h) fun u d0 d1 d2 d3 hu => TM.lifted f u d0 d1 d2 d3 hu⟩
end

/-- The value v, a whole term, reads in w as t. -/
def TV (w : World) (S : Nat → Prop) (f : Nat) (v : Value) (t : Tm f) : Prop := ∃ c0 c1 c2 c3, v = .agg #[c0, c1, c2, c3] ∧ TM w S f t c0 c1 c2 c3

section
variable {w w' : World} {S S' : Nat → Prop} {f : Nat} {v : Value} {t : Tm f}
theorem TV.mono (h : TV w S f v t) (hS : ∀ b, S b → S' b) : TV w S' f v t := by
  obtain ⟨c0, c1, c2, c3, e, h⟩ := h
  exact ⟨c0, c1, c2, c3, e, TM.keepS f t c0 c1 c2 c3 h (Nat.le_refl _) (fun _ _ _ => rfl) hS⟩
theorem TV.keep (h : TV w S f v t) (hs : w.heap.size ≤ w'.heap.size) (hk : ∀ b, S b → b < w.heap.size → w'.heap[b]? = w.heap[b]?) : TV w' S f v t := by
  obtain ⟨c0, c1, c2, c3, e, h⟩ := h
  exact ⟨c0, c1, c2, c3, e, TM.keepS f t c0 c1 c2 c3 h hs hk fun _ h => h⟩
theorem TV.below' (h : TV w S f v t) (hb : Below w.heap.size w w') : TV w' S f v t := h.keep hb.size fun b _ hlt => hb.block b hlt
theorem TV.alloc (h : TV w S f v t) (o : Obj) : TV (w.alloc o) S f v t := h.keep (by simp) fun b _ hb => Below.heap_alloc w o b hb
theorem TV.lifted (h : TV w S f v t) : TV w S (f + 1) v (lift f t) := by
  obtain ⟨c0, c1, c2, c3, e, h⟩ := h
  exact ⟨c0, c1, c2, c3, e, TM.lifted f t c0 c1 c2 c3 h⟩
end

theorem cells_term : Tryd.prog.cellsOf 35 = 4 := by kernel_rfl

theorem four_of {cs : List Value} (h : cs.length = 4) : ∃ c0 c1 c2 c3, cs = [c0, c1, c2, c3] := by
  match cs, h with
  | [a, b, c, d], _ => exact ⟨a, b, c, d, rfl⟩

theorem cells_int : Tryd.prog.cellsOf 3 = 1 := by kernel_rfl
theorem cells_u64 : Tryd.prog.cellsOf 32 = 1 := by kernel_rfl
theorem cells_data : Tryd.prog.cellsOf 33 = 1 := by kernel_rfl
theorem cells_kids : Tryd.prog.cellsOf 22 = 1 := by kernel_rfl

theorem TM_of_trod {H : Type} {enc : TypeId × Value → H} {W : World} : ∀ (n : Nat) (cs : List Value) (x : DataW H × List MemPlace), DataW.trod enc Tryd.prog W 0 (fun _ => true) true n 35 cs = some x →
    ∃ (t : Tm n) (c0 c1 c2 c3 : Value), cs = [c0, c1, c2, c3] ∧ TM W (fun b => b < W.heap.size) n t c0 c1 c2 c3 := by
  intro n
  induction n using Nat.strongRecOn with
  | _ n ih =>
    intro cs x h
    obtain ⟨xs, m, rfl, _, hl, hxl, hf⟩ := DataW.trod_struct Tryd.underlying35 h
    rw [cells_term] at hl
    obtain ⟨c0, c1, c2, c3, rfl⟩ := four_of hl
    obtain ⟨x0, x1, x2, x3, rfl⟩ : ∃ x0 x1 x2 x3, xs = [x0, x1, x2, x3] := by
      match xs, hxl with
      | [a, b, c, d], _ => exact ⟨a, b, c, d, rfl⟩
    have g0 : DataW.trod enc Tryd.prog W 0 (fun _ => true) true m 3 (List.take (Tryd.prog.cellsOf 3) [c0, c1, c2, c3]) = some x0 := hf 0 _ rfl
    have g1 : DataW.trod enc Tryd.prog W 0 (fun _ => true) true m 32 (List.take (Tryd.prog.cellsOf 32) [c1, c2, c3]) = some x1 := hf 1 _ rfl
    have g2 : DataW.trod enc Tryd.prog W 0 (fun _ => true) true m 33 (List.take (Tryd.prog.cellsOf 33) [c2, c3]) = some x2 := hf 2 _ rfl
    have g3 : DataW.trod enc Tryd.prog W 0 (fun _ => true) true m 22 (List.take (Tryd.prog.cellsOf 22) [c3]) = some x3 := hf 3 _ rfl
    rw [cells_int] at g0
    rw [cells_u64] at g1
    rw [cells_data] at g2
    rw [cells_kids] at g3
    obtain ⟨k, e0, _, wk⟩ := DataW.trod_int Tryd.underlying3 g0
    obtain ⟨u, e1, _, wu⟩ := DataW.trod_int Tryd.underlying32 g1
    simp at e0 e1
    subst e0 e1
    have hk : I64 k := by simpa [I64, Lit.wf, IntKind.min, IntKind.max, IntKind.signed, IntKind.bits] using wk
    have hu : 0 ≤ u ∧ u ≤ 18446744073709551615 := by simpa [Lit.wf, IntKind.min, IntKind.max, IntKind.signed, IntKind.bits] using wu
    obtain ⟨d, hd⟩ := BS_of_trod (v := c2) g2
    replace hd := hd.lt.mono (S' := fun b => b < W.heap.size) fun _ h => h.2
    have hun : ((u.toNat : Nat) : Int) = u := by omega
    have main : ∃ ks : List (Tm m), KS W (fun b => b < W.heap.size) (TM W (fun b => b < W.heap.size) m) c3 ks := by
      rcases Deep.open_slice Tryd.underlying22 g3 with ⟨hcs, _⟩ | _
      · simp at hcs
        subst hcs
        exact ⟨[], none, 0, rfl, by simp, by simp [maxLen], fun _ => rfl, fun h => absurd h (by simp)⟩
      · rcases DataW.trod_slice Tryd.underlying22 g3 with ⟨hcs, _⟩ | ⟨a, len, cap, elems, rest, n, rfl, hcs, _, _, hlc, hm, hel, hi, _, _⟩
        · simp at hcs
          subst hcs
          exact ⟨[], none, 0, rfl, by simp, by simp [maxLen], fun _ => rfl, fun h => absurd h (by simp)⟩
        · simp at hcs
          subst hcs
          rw [cells_term] at hi
          have hi2 : ∀ i, i < len → ∃ t : Tm (n + 1), ∃ c0 c1 c2 c3, W.cell? (a.add (i * 4)) = some c0 ∧ W.cell? ((a.add (i * 4)).add 1) = some c1 ∧ W.cell? ((a.add (i * 4)).add 2) = some c2 ∧ W.cell? ((a.add (i * 4)).add 3) = some c3 ∧
              TM W (fun b => b < W.heap.size) (n + 1) t c0 c1 c2 c3 := by
            intro i hil
            have := hi i hil
            rw [List.getElem?_eq_getElem (by omega)] at this
            obtain ⟨cs, hcs, htr⟩ := Option.bind_eq_some_iff.1 this
            obtain ⟨t, d0, d1, d2, d3, rfl, ht⟩ := ih n (by omega) cs _ htr
            obtain ⟨_, _, hcell⟩ := World.cells?_some hcs
            have k0 := hcell 0 (by omega)
            have k1 := hcell 1 (by omega)
            have k2 := hcell 2 (by omega)
            have k3 := hcell 3 (by omega)
            refine ⟨lift n t, d0, d1, d2, d3, ?_, k1, k2, k3, TM.lifted n t d0 d1 d2 d3 ht⟩
            have : (a.add (i * 4)).add 0 = a.add (i * 4) := rfl
            rw [← this]; exact k0
          haveI : Inhabited (Tm (n + 1)) := ⟨(zeroN : Nd (Tm n))⟩
          obtain ⟨f, hf⟩ := Deep.choose_lt (α := Tm (n + 1)) hi2
          have hlen : ((List.range len).map f).length = len := by simp
          refine ⟨(List.range len).map f, some a, cap, by rw [hlen], by omega, hm, (fun h => by cases h), fun h0 => ?_⟩
          rw [hlen] at h0
          obtain ⟨b, o, spot⟩ := a
          have hspot : spot = none := by
            obtain ⟨_, _, _, _, k0, _⟩ := hf 0 h0
            simpa [Addr.add] using World.cell?_spot k0
          subst hspot
          have hb : b < W.heap.size := by
            obtain ⟨_, _, _, _, k0, _⟩ := hf 0 h0
            rw [add_plain] at k0
            exact World.block_lt_of_cell? _ _ k0
          refine ⟨b, o, rfl, hb, hb, fun i t hit => ?_⟩
          have hil : i < len := by
            have := (List.getElem?_eq_some_iff.1 hit).1
            omega
          simp [hil] at hit
          subst hit
          obtain ⟨d0, d1, d2, d3, k0, k1, k2, k3, kt⟩ := hf i hil
          rw [add_plain] at k0 k1 k2 k3
          rw [add_plain] at k1 k2 k3
          exact ⟨d0, d1, d2, d3, k0, k1, k2, k3, kt⟩
    obtain ⟨ks, hks⟩ := main
    exact ⟨(⟨k, u.toNat, d, ks⟩ : Nd (Tm m)), _, _, _, _, rfl, rfl, hk, by rw [hun], by show u.toNat < _; omega, hd, hks⟩

/-- A term that came in. -/
theorem open_term {H : Type} {enc : TypeId × Value → H} {W : World} {base : Nat} {v : Value} {d : DataW H} {p : List MemPlace}
    (ok : Value.okWide Tryd.prog W .any base 35 v) (h : DataW.Trod enc Tryd.prog W 0 (fun _ => true) true 35 v d p) :
    ∃ (n : Nat), ∀ m, n ≤ m → ∃ t : Tm m, TV W (fun b => b < W.heap.size) m v t := by
  obtain ⟨cs, rfl, hsz⟩ := okWide_struct Tryd.underlying35 ok
  obtain ⟨n, hn⟩ := h
  refine ⟨n, fun m hm => ?_⟩
  obtain ⟨k, rfl⟩ := Nat.le.dest hm
  clear hm
  induction k with
  | zero =>
    obtain ⟨t, c0, c1, c2, c3, e, ht⟩ := TM_of_trod n _ _ hn
    refine ⟨t, c0, c1, c2, c3, ?_, ht⟩
    have : cs = #[c0, c1, c2, c3] := by
      apply Array.toList_inj.1
      simpa [Value.cells] using e
    rw [this]
  | succ k ih =>
    obtain ⟨t, ht⟩ := ih
    exact ⟨lift (n + k) t, ht.lifted⟩
end Go.Proofs.YthgaljgelngmaaaDoor
end
