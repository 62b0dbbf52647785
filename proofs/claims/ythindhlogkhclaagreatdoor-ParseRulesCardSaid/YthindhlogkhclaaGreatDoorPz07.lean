/-
  Str: Own words for texts, over any program: a byte slice turned into a text; arrays of bytes compared. No condition; nothing of the dump is used here.
  Base: Small facts over the loaded program that several layers' texts use. No condition.
  Txt: Texts (strings) as values: a string of given bytes; its bytes as a slice of the call's own; whether two are the same; a string that came in. General. No condition.
  Step: append onto a row of the call's own, as one step of a region that draws its order: over any program. No condition.
  LxT: Words of a text (tokens) in memory: a slice of them, and append of one, over the loaded program. No condition but sizes.
-/
import Derived.Test.YthindhlogkhclaaGreatDoorPz01
import Derived.Laws.BytesArg
import Derived.Stop.BytesEq
import Derived.Deep.MidRow
import Derived.Test.YthindhlogkhclaaGreatDoorProg
import Derived.WalkKit
import Derived.Test.YthindhlogkhclaaGreatDoorPz06
import Derived.Lib.ConvBytes
import Derived.Deep.RegionLaw
set_option linter.unusedVariables false
set_option maxRecDepth 100000
namespace Go.Proofs.YthindhlogkhclaaGreatDoor
section
open Go.RowKit
theorem nums_str (l : List UInt8) : strOfNums (l.map fun b => (b.toNat : Int)) = ⟨l.toArray⟩ := by
  unfold strOfNums
  congr 2
  rw [List.map_map]
  have : ((fun n : Int => UInt8.ofNat n.toNat) ∘ fun b : UInt8 => (b.toNat : Int)) = id := by
    funext b
    simp
  rw [this, List.map_id]
theorem BS.str {P : Program} {w : World} {S : Nat → Prop} {v : Value} {l : List UInt8} (h : BS w S v l) {src e dst : TypeId} (hs : P.underlying src = some (.slice e)) (he : P.underlying e = some (.int .u8)) (hd : P.underlying dst = some .string) :
    (convert src dst v).run P w = .ok (.string ⟨l.toArray⟩) w := by
  obtain ⟨A, c, rfl, hc, hm, hn⟩ := h.form
  by_cases h0 : l = []
  · subst h0
    cases A with
    | none => exact run_convert_bytes_nil w src e hs he 0 c dst hd
    | some a =>
      obtain ⟨b, o, s⟩ := a
      have hz : ∀ (a : Addr), (loadCells a 0).run P w = .ok #[] w := by
        intro a
        simp [loadCells, loadCellsFrom]
      rw [run_convert_bytes_string w src dst e _ _ _ hs he hd]
      simp [Conv.bytesToString, hz]
      rfl
  · have hp : 0 < l.length := by cases l with
    | nil => exact absurd rfl h0
    | cons a t => simp
    obtain ⟨b, o, rfl, _, _, hx⟩ := h.at_ hp
    have := run_convert_bytes_arg (P := P) w src e hs he b o l.length c (l.map fun b => (b.toNat : Int)) (by simp) (fun i hi => by
      have := hx i l[i] (List.getElem?_eq_getElem hi)
      rw [this]
      simp [List.getD, List.getElem?_eq_getElem hi]) dst hd
    rw [nums_str] at this
    exact this
theorem cell_bv : Extern.Stop.cell = bv := rfl
theorem eq_bytes {P : Program} (w : World) (d : Nat) (t e : TypeId) (n : Nat) (ht : P.underlying t = some (.array n e)) (he : P.underlying e = some (.int .u8)) (hsz : ∀ w, (sizeOf e).run P w = .ok 1 w)
    (xs ys : List UInt8) (hx : xs.length = n) (hy : ys.length = n) :
    (Op.equalIn (d + 2) t (.agg (xs.map bv).toArray) (.agg (ys.map bv).toArray)).run P w = .ok (xs == ys) w :=
  run_equalIn_bytes w d t e n ht he hsz xs ys hx hy
theorem LS.one {w : World} {S : Nat → Prop} {x : Value} {l : List UInt8} {t : TypeId} (hx : BS w S x l) :
    LS (w.alloc (.cells #[x] t)) (fun b => S b ∨ b = w.heap.size) (.slice (some ⟨w.heap.size, 0, none⟩) 1 1) [l] := by
  refine ⟨_, 1, rfl, by simp, by simp [maxLen], fun _ => ⟨w.heap.size, 0, rfl, .inr rfl, by simp, fun j l' hj => ?_⟩⟩
  have hk := KB.new w t #[x]
  match j, hj with
  | 0, hj => simp at hj; subst hj; exact ⟨x, hk.cell 0, (hx.alloc _).mono fun b h => .inl h⟩
theorem LS.lt {w : World} {S : Nat → Prop} {v : Value} {ls : List (List UInt8)} (h : LS w S v ls) : LS w (fun b => b < w.heap.size) v ls := by
  obtain ⟨A, c, e, hl, hc, hx⟩ := h
  refine ⟨A, c, e, hl, hc, fun h0 => ?_⟩
  obtain ⟨b, o, ea, sb, hb, hx⟩ := hx h0
  refine ⟨b, o, ea, hb, hb, fun j l hj => ?_⟩
  obtain ⟨x, h1, h2⟩ := hx j l hj
  exact ⟨x, h1, h2.lt.mono fun _ h => h.2⟩
theorem LS.nil (w : World) (S : Nat → Prop) : LS w S (.slice none 0 0) [] := ⟨none, 0, rfl, by simp, by simp [maxLen], fun h => absurd h (by simp)⟩
def rowOf (w : World) (g : Nat) : Array Value := match w.heap[g]? with
  | some (.cells cs _ _) => cs
  | _ => #[]
theorem rowOf_kb {w : World} {g : Nat} {t : TypeId} {cs : Array Value} (h : KB w g t cs) : rowOf w g = cs := by
  unfold rowOf
  unfold KB at h
  rw [h]
theorem rowOf_drew (w : World) (g : Nat) : rowOf w.drew g = rowOf w g := rfl
theorem rowOf_drewN (w : World) (g n : Nat) : rowOf (w.drewN n) g = rowOf w g := rfl
theorem run_loadAt_rowOf {P : Program} {ty e : TypeId} {n : Nat} (hu : P.underlying ty = some (.array n e)) {m : Nat} (hi : (P.info? ty).map (·.size) = some m) (hm : 0 < m) (w : World) (g : Nat) (h : (rowOf w g).size = m) :
    (Instr.loadAt ty (.pointer (some ⟨g, 0, none⟩))).run P w = .ok (.agg (rowOf w g)) w := by
  have hr : w.rangeAt g 0 (rowOf w g).toList := by
    intro j v hj
    unfold rowOf at hj h
    split at hj
    · rename_i cs t fr hg
      rw [cell_of_row w g (0 + j) cs t fr hg, Nat.zero_add]
      simpa using hj
    · simp at hj
  have := run_loadAt_mid (P := P) w g 0 ty (rowOf w g).toList _ hr hu rfl (by rw [hi]; simp [h])
  simpa using this
def ptrBlock (v : Value) : Nat := match v with
  | .pointer (some ⟨g, 0, none⟩) => g
  | _ => 0
theorem ptrBlock_mk (g : Nat) : ptrBlock (.pointer (some ⟨g, 0, none⟩)) = g := rfl
theorem wp_load_rowOf {P : Program} {ty e : TypeId} {n : Nat} (hu : P.underlying ty = some (.array n e)) {m : Nat} (hi : (P.info? ty).map (·.size) = some m) (hm : 0 < m)
    {d : Option Tmp} {x : Operand} {t : TypeId} {pos : String} {after : Array Edge} {gd : Option (Nat × Bool)} {a : Act} {w : World} {K : Act → World → Prop} {Q : Exit → Act → World → Prop}
    (hx : a.eval x = .pointer (some ⟨ptrBlock (a.eval x), 0, none⟩)) (h : (rowOf w (ptrBlock (a.eval x))).size = m) :
    Oper.wp P { dst := d, op := Op.load ty x, type := t, pos := pos, after := after, guard := gd } a w K Q = K (a.put d (.agg (rowOf w (ptrBlock (a.eval x))))) w := by
  have hrun := run_loadAt_rowOf (P := P) hu hi hm w _ h
  rw [← hx] at hrun
  unfold Oper.wp execOp
  simp only [Sem.run_bind, hrun, Result.andThen_ok, Sem.run_pure]
  rfl
end
section
open Go.RowKit
theorem info_byte : (Tryz.prog.info? 5).map (fun i => (i.zero, i.size, i.bytes)) = some (some (.int .u8 0), 1, 1) := by kernel_rfl
theorem own_BS {w' : World} {v : Value} {l : List UInt8} {B : Nat} (h : w'.ownsRow B 5 1 v l.length (l.map bv)) : BS w' (fun b => B ≤ b ∧ b < w'.heap.size) v l := (BS.of_own h).lt
theorem drewN_twice (w : World) (n m : Nat) : (w.drewN n).drewN m = w.drewN (n + m) := by simp [World.drewN, Nat.add_assoc]
theorem ret_int {k : IntKind} {a b : Int} (h : a = b) : Ending.returned (.int k a) = .returned (.int k b) := by rw [h]
theorem own_base {w : World} {B B' e size n : Nat} {v : Value} {xs : List Value} (h : w.ownsRow B' e size v n xs) (hB : B ≤ B') : w.ownsRow B e size v n xs := by
  obtain ⟨h1, h2⟩ := h
  refine ⟨h1, ?_⟩
  rcases h2 with h2 | ⟨g, c, cur, a, b, r⟩
  · exact .inl h2
  · exact .inr ⟨g, c, cur, a, by omega, r⟩
def Fresh (w : World) (e : Ending) (w' : World) (l : List UInt8) : Prop :=
  ∃ v, e = .returned v ∧ w'.ownsRow w.heap.size 5 1 v l.length (l.map bv) ∧ Below w.heap.size w w'
theorem lit_one (w : World) (m : Nat) (base : Nat) (hb : base ≤ w.heap.size) : (w.alloc (.cells #[bv (UInt8.ofNat (m % 256))] 5)).ownsRow base 5 1 (.slice (some ⟨w.heap.size, 0, none⟩) 1 1) [UInt8.ofNat (m % 256)].length ([UInt8.ofNat (m % 256)].map bv) :=
  World.ownsRow_lit w #[bv (UInt8.ofNat (m % 256))] 1 hb (by simp [maxLen]) rfl
theorem byte_mod (m : Nat) : Value.int .u8 ((m : Int) % 256) = bv (UInt8.ofNat (m % 256)) := by
  unfold bv
  have : (UInt8.ofNat (m % 256)).toNat = m % 256 := by simp
  rw [this]
  congr 1
end
section
open Go.RowKit Go.ChangeShapes Go.WideShapes Go.Joins
def strV (l : List UInt8) : Value := .string ⟨l.toArray⟩
theorem cells_str : Tryz.prog.cellsOf 9 = 1 := by kernel_rfl
theorem open_str {H : Type} {enc : TypeId × Value → H} {W : World} {base : Nat} {v : Value} {d : DataW H} {p : List MemPlace}
    (ok : Value.okWide Tryz.prog W .any base 9 v) (h : DataW.Trod enc Tryz.prog W 0 (fun _ => true) true 9 v d p) : ∃ l : List UInt8, v = strV l ∧ l.length ≤ maxLen := by
  obtain ⟨n, hn⟩ := h
  obtain ⟨s, hs⟩ := okWide_string Tryz.underlying9 ok
  subst hs
  obtain ⟨s', e, _, hs⟩ := DataW.trod_string Tryz.underlying9 hn
  simp [Value.cells] at e
  subst e
  have : s.data.toList.length = s.size := by rw [Array.length_toList]; rfl
  exact ⟨s.data.toList, rfl, by omega⟩
theorem str_eq (l m : List UInt8) : ((⟨l.toArray⟩ : ByteArray).toList == (⟨m.toArray⟩ : ByteArray).toList) = decide (l = m) := by
  rw [Lib.toList_data, Lib.toList_data]
  show (l == m) = _
  by_cases h : l = m
  · rw [decide_eq_true h]; exact beq_iff_eq.2 h
  · rw [decide_eq_false h]; exact beq_eq_false_iff_ne.2 h
theorem conv_str (w : World) (l : List UInt8) (hl : l.length ≤ maxLen) : ∃ c w', (convert 9 111 (strV l)).run Tryz.prog w = .ok (.slice (some ⟨w.heap.size, 0, none⟩) l.length c) w' ∧
    BS w' (fun b => w.heap.size ≤ b ∧ b < w'.heap.size) (.slice (some ⟨w.heap.size, 0, none⟩) l.length c) l ∧ Below w.heap.size w w' := by
  refine ⟨_, _, Lib.run_convert_string_bytes (P := Tryz.prog) w 9 111 5 ⟨l.toArray⟩ (u := .string) Tryz.underlying9 Tryz.underlying111 Tryz.underlying5, ?_, ?_⟩
  · refine ⟨_, _, rfl, grownCap_ge _ _ _ _, grownCap_le_maxLen _ _ _ _ hl, (fun h => by cases h), fun h0 => ⟨w.heap.size, 0, rfl, ⟨Nat.le_refl _, by rw [Lib.bytesWorld_size]; omega⟩, by rw [Lib.bytesWorld_size]; omega, fun j u hu => ?_⟩⟩
    have hj := (List.getElem?_eq_some_iff.1 hu).1
    rw [Nat.zero_add, Lib.bytesWorld_cell w _ ⟨l.toArray⟩ j hj]
    simp [hu]
  · exact ⟨rfl, rfl, rfl, by rw [Lib.bytesWorld_size]; omega, fun j hj => Lib.bytesWorld_at_old w _ _ j hj⟩
end
section
open Go.RowKit
theorem step_grow {P : Program} {ops : Array Oper} {o : Oper} {a : Act} {w : World} {K : Act → World → Prop} {Q : Exit → Act → World → Prop} {E : Prop}
    (hg : o.guard = none) (s x : Operand) (t : TypeId) (hop : o.op = Op.call { callee := Callee.builtin Builtin.append, args := #[s, x], argTypes := #[t, t] })
    (base : Nat) (e : TypeId) (i : TypeInfo) (ht : P.underlying t = some (.slice e)) (hi : P.info? e = some i) (hz : i.zero = some (.int .u8 0))
    (hsize : i.size = 1) (hby : i.bytes = 1) (v : Value) (xs : List UInt8) (hs : a.eval s = v) (hown : w.ownsRow base e 1 v xs.length (xs.map bv))
    (S : Nat → Prop) (xv : Value) (ys : List UInt8) (hxe : a.eval x = xv) (hx : BS w S xv ys) (hb : xs.length + ys.length ≤ 140737488355328) (hbase : base ≤ w.heap.size)
    (hK : ∀ v' w', w'.ownsRow base e 1 v' (xs ++ ys).length ((xs ++ ys).map bv) → w.grownBy w' v.ownBlock → (v'.ownBlock = v.ownBlock ∨ v'.ownBlock = some w.heap.size) → K (a.put o.dst v') w') :
    if Region.wanted o (yielded ops a.tmps) = true then Oper.wp P o a w K Q else E := by
  have hw : Region.wanted o (yielded ops a.tmps) = true := by simp [Region.wanted, hg]
  rw [if_pos hw]
  obtain ⟨v', w', hrun, h2, h3, h4⟩ := run_grow (P := P) w base t o.type e i ht hi hz hsize hby v xs hown S xv ys hx hb hbase
  unfold Oper.wp execOp
  simp only [hop, resolve, invoke, builtin, Sem.run_bind, Sem.run_pure, Result.andThen_ok, List.map_toArray, List.map_cons, List.map_nil, hs, hxe, hrun]
  exact hK _ _ h2 h3 h4
theorem wp_grow {P : Program} {o : Oper} {a : Act} {w : World} {K : Act → World → Prop} {Q : Exit → Act → World → Prop}
    (s x : Operand) (t : TypeId) (hop : o.op = Op.call { callee := Callee.builtin Builtin.append, args := #[s, x], argTypes := #[t, t] })
    (base : Nat) (e : TypeId) (i : TypeInfo) (ht : P.underlying t = some (.slice e)) (hi : P.info? e = some i) (hz : i.zero = some (.int .u8 0))
    (hsize : i.size = 1) (hby : i.bytes = 1) (v : Value) (xs : List UInt8) (hs : a.eval s = v) (hown : w.ownsRow base e 1 v xs.length (xs.map bv))
    (S : Nat → Prop) (xv : Value) (ys : List UInt8) (hxe : a.eval x = xv) (hx : BS w S xv ys) (hb : xs.length + ys.length ≤ 140737488355328) (hbase : base ≤ w.heap.size)
    (hK : ∀ v' w', w'.ownsRow base e 1 v' (xs ++ ys).length ((xs ++ ys).map bv) → w.grownBy w' v.ownBlock → (v'.ownBlock = v.ownBlock ∨ v'.ownBlock = some w.heap.size) → K (a.put o.dst v') w') :
    Oper.wp P o a w K Q := by
  obtain ⟨v', w', hrun, h2, h3, h4⟩ := run_grow (P := P) w base t o.type e i ht hi hz hsize hby v xs hown S xv ys hx hb hbase
  unfold Oper.wp execOp
  simp only [hop, resolve, invoke, builtin, Sem.run_bind, Sem.run_pure, Result.andThen_ok, List.map_toArray, List.map_cons, List.map_nil, hs, hxe, hrun]
  exact hK _ _ h2 h3 h4
theorem own_ne {w : World} {B e size n g : Nat} {v : Value} {xs : List Value} (h : w.ownsRow B e size v n xs) (hg : g < B) : v.ownBlock ≠ some g := by
  obtain ⟨_, h2⟩ := h
  rcases h2 with ⟨rfl, _⟩ | ⟨g', c, cur, rfl, hb, _⟩
  · simp [Value.ownBlock]
  · simp [Value.ownBlock]; omega
theorem own_ge {w : World} {B e size n : Nat} {v : Value} {xs : List Value} (h : w.ownsRow B e size v n xs) (k : Nat) (hk : v.ownBlock = some k) : B ≤ k := by
  rcases Nat.lt_or_ge k B with hlt | hge
  · exact absurd hk (own_ne h hlt)
  · exact hge
end
section
open Go.RowKit
def fourT (t : Tk) : List Value := [.int .i64 (t.kind : Int), strV t.text, .int .i64 t.n, .int .i64 (t.at_ : Int)]
def flatK (l : List Tk) : List Value := l.flatMap fourT
theorem flatK_cons (t : Tk) (l : List Tk) : flatK (t :: l) = fourT t ++ flatK l := rfl
theorem flatK_append (a b : List Tk) : flatK (a ++ b) = flatK a ++ flatK b := List.flatMap_append
theorem flatK_len : ∀ l : List Tk, (flatK l).length = l.length * 4
  | [] => rfl
  | q :: l => by rw [flatK_cons, List.length_append, flatK_len l, List.length_cons]; show 4 + _ = _; omega
theorem flatK_at : ∀ (l : List Tk) (i : Nat) (t : Tk), l[i]? = some t → ∀ k, k < 4 → (flatK l)[i * 4 + k]? = (fourT t)[k]?
  | [], i, q, h => by simp at h
  | p :: l, 0, q, h => by
    intro k hk
    simp at h
    subst h
    rw [flatK_cons, Nat.zero_mul, Nat.zero_add, List.getElem?_append_left (show k < (fourT p).length from hk)]
  | p :: l, i + 1, q, h => by
    intro k hk
    have := flatK_at l i q (by simpa using h) k hk
    rw [flatK_cons, List.getElem?_append_right (by show 4 ≤ _; omega), show (fourT p).length = 4 from rfl, ← this]
    congr 1
    omega
theorem flatK_one (t : Tk) : flatK [t] = fourT t := by unfold flatK; simp
theorem flatK_cells (l : List Tk) : ∀ u ∈ flatK l, u.oneCell' = true := by
  intro u hu
  obtain ⟨t, _, hu⟩ := List.mem_flatMap.1 hu
  simp [fourT] at hu
  rcases hu with rfl | rfl | rfl | rfl <;> rfl
def TS (w : World) (S : Nat → Prop) (v : Value) (l : List Tk) : Prop :=
  ∃ A c, v = .slice A l.length c ∧ l.length ≤ c ∧ c ≤ maxLen ∧
    (0 < l.length → ∃ b o, A = some ⟨b, o, none⟩ ∧ S b ∧ b < w.heap.size ∧ ∀ j t, l[j]? = some t →
      w.cell? ⟨b, o + j * 4, none⟩ = some (.int .i64 (t.kind : Int)) ∧ w.cell? ⟨b, o + j * 4 + 1, none⟩ = some (strV t.text) ∧ w.cell? ⟨b, o + j * 4 + 2, none⟩ = some (.int .i64 t.n) ∧ w.cell? ⟨b, o + j * 4 + 3, none⟩ = some (.int .i64 (t.at_ : Int)))
section
variable {w w' : World} {S S' : Nat → Prop} {v : Value} {l : List Tk}
theorem TS.keep (h : TS w S v l) (hs : w.heap.size ≤ w'.heap.size) (hk : ∀ b, S b → b < w.heap.size → w'.heap[b]? = w.heap[b]?) : TS w' S v l := by
  obtain ⟨A, c, e, hl, hc, hx⟩ := h
  refine ⟨A, c, e, hl, hc, fun h0 => ?_⟩
  obtain ⟨b, o, ea, sb, hb, hx⟩ := hx h0
  have hkb := hk b sb hb
  refine ⟨b, o, ea, sb, Nat.lt_of_lt_of_le hb hs, fun j f hj => ?_⟩
  obtain ⟨h1, h2, h3, h4⟩ := hx j f hj
  exact ⟨(World.cell?_of_block (w := w) hkb).trans h1, (World.cell?_of_block (w := w) hkb).trans h2, (World.cell?_of_block (w := w) hkb).trans h3, (World.cell?_of_block (w := w) hkb).trans h4⟩
theorem TS.below' (h : TS w S v l) (hb : Below w.heap.size w w') : TS w' S v l := h.keep hb.size fun b _ hlt => hb.block b hlt
theorem TS.form (h : TS w S v l) : ∃ A c, v = .slice A l.length c ∧ l.length ≤ c ∧ c ≤ maxLen := by
  obtain ⟨A, c, e, hl, hc, _⟩ := h
  exact ⟨A, c, e, hl, hc⟩
theorem TS.at_ {A : Option Addr} {n c : Nat} (h : TS w S (.slice A n c) l) (hp : 0 < l.length) :
    ∃ b o, A = some ⟨b, o, none⟩ ∧ S b ∧ b < w.heap.size ∧ ∀ j t, l[j]? = some t →
      w.cell? ⟨b, o + j * 4, none⟩ = some (.int .i64 (t.kind : Int)) ∧ w.cell? ⟨b, o + j * 4 + 1, none⟩ = some (strV t.text) ∧ w.cell? ⟨b, o + j * 4 + 2, none⟩ = some (.int .i64 t.n) ∧ w.cell? ⟨b, o + j * 4 + 3, none⟩ = some (.int .i64 (t.at_ : Int)) := by
  obtain ⟨A', c', e, _, _, hx⟩ := h
  injection e with e1 e2 e3
  subst e1
  exact hx hp
theorem TS.nil (w : World) (S : Nat → Prop) : TS w S (.slice none 0 0) [] := ⟨none, 0, rfl, by simp, by simp [maxLen], fun h => absurd h (by simp)⟩
theorem TS_of_own {base e : Nat} (h : w.ownsRow base e 4 v l.length (flatK l)) : TS w (fun b => base ≤ b) v l := by
  obtain ⟨_, h2⟩ := h
  rcases h2 with ⟨rfl, h0⟩ | ⟨g, cap, cur, rfl, hb, hg, hnc, hcm, hcs, htk⟩
  · obtain rfl : l = [] := List.eq_nil_of_length_eq_zero h0
    exact TS.nil _ _
  · have hlt : g < w.heap.size := (Array.getElem?_eq_some_iff.1 hg).1
    refine ⟨_, cap, rfl, hnc, hcm, fun h0 => ⟨g, 0, rfl, hb, hlt, fun i f hi => ?_⟩⟩
    have hil := (List.getElem?_eq_some_iff.1 hi).1
    have cell : ∀ k u, k < 4 → (fourT f)[k]? = some u → w.cell? ⟨g, 0 + i * 4 + k, none⟩ = some u := fun k u hk hu => by
      rw [← flatK_at l i f hi k hk] at hu
      rw [cell_of_row w g (0 + i * 4 + k) cur _ (0, 0) hg, Nat.zero_add]
      rw [← htk, List.getElem?_take, if_pos (by omega)] at hu
      simpa using hu
    exact ⟨cell 0 _ (by omega) rfl, cell 1 _ (by omega) rfl, cell 2 _ (by omega) rfl, cell 3 _ (by omega) rfl⟩
theorem own_slice {base e : Nat} (h : w.ownsRow base e 4 v l.length (flatK l)) : ∃ A c, v = .slice A l.length c := by
  obtain ⟨A, c, e, _⟩ := TS_of_own h
  exact ⟨A, c, e⟩
end
structure TokT (t e : TypeId) : Prop where
  u : Tryz.prog.underlying t = some (.slice e)
  i : (Tryz.prog.info? e).map (fun i => (i.zero, i.size, i.bytes)) = some (some (.agg #[.int .i64 0, .string ⟨#[]⟩, .int .i64 0, .int .i64 0]), 4, 40)
theorem run_growK {t e : TypeId} (ht : TokT t e) (w : World) (base : Nat) (v : Value) (l : List Tk) (hown : w.ownsRow base e 4 v l.length (flatK l)) (ad : Addr) (c : Nat) (x : Tk) (hx : ∀ j u, (fourT x)[j]? = some u → w.cell? (ad.add j) = some u)
    (hb : l.length ≤ 1000000000) (hbase : base ≤ w.heap.size) (ty : TypeId) :
    ∃ v' w', (Builtin.append_ #[t, t] ty #[v, .slice (some ad) 1 c]).run Tryz.prog w = .ok v' w' ∧ w'.ownsRow base e 4 v' (l ++ [x]).length (flatK (l ++ [x])) ∧ w.grownBy w' v.ownBlock ∧
      (v'.ownBlock = v.ownBlock ∨ v'.ownBlock = some w.heap.size) := by
  obtain ⟨i0, hi, hz0, hz1, hz2⟩ := info_parts ht.i
  obtain ⟨v', w', a1, a2, a3, _, a5⟩ := run_append_own_at (P := Tryz.prog) (w := w) base t ty e i0 _ 4 40 ht.u hi hz0 hz1 hz2 rfl (by omega) v l.length _ hown ad 1 c (flatK [x]) (flatK_len [x]) (by rw [flatK_one]; exact hx) (flatK_cells [x])
    (by unfold maxLen; omega) (by omega) hbase
  exact ⟨v', w', a1, by rw [List.length_append, flatK_append]; exact a2, a3, a5⟩
theorem wpList_growK {t e : TypeId} (ht : TokT t e) (w : World) {ops : Array Oper} {rest : List Oper} {o : Oper} {a : Act} {Q : Exit → Act → World → Prop} (hgd : o.guard = none) (s y : Operand)
    (ho : o.op = .call { callee := .builtin .append, args := #[s, y], argTypes := #[t, t] })
    (base : Nat) (v : Value) (l : List Tk) (hs : a.eval s = v) (hown : w.ownsRow base e 4 v l.length (flatK l))
    (ad : Addr) (c : Nat) (x : Tk) (hye : a.eval y = .slice (some ad) 1 c) (hx : ∀ j u, (fourT x)[j]? = some u → w.cell? (ad.add j) = some u)
    (hb : l.length ≤ 1000000000) (hbase : base ≤ w.heap.size)
    (h : ∀ v' w', w'.ownsRow base e 4 v' (l ++ [x]).length (flatK (l ++ [x])) → w.grownBy w' v.ownBlock → (v'.ownBlock = v.ownBlock ∨ v'.ownBlock = some w.heap.size) → wpList Tryz.prog ops Q rest (a.put o.dst v') w') :
    wpList Tryz.prog ops Q (o :: rest) a w := by
  refine wpList_plain hgd fun K hK => ?_
  obtain ⟨v', w', hrun, h2, h3, h4⟩ := run_growK ht w base v l hown ad c x hx hb hbase o.type
  unfold Oper.wp execOp
  simp only [ho, resolve, invoke, builtin, Sem.run_bind, Sem.run_pure, Result.andThen_ok, List.map_toArray, List.map_cons, List.map_nil, hs, hye, hrun]
  exact hK _ _ (h v' w' h2 h3 h4)
theorem onek_at (w : World) (t : TypeId) (x : Tk) : ∀ j u, (fourT x)[j]? = some u → (w.alloc (.cells #[.int .i64 (x.kind : Int), strV x.text, .int .i64 x.n, .int .i64 (x.at_ : Int)] t)).cell? ((⟨w.heap.size, 0, none⟩ : Addr).add j) = some u := by
  intro j u h
  rw [Addr.add_lit, Nat.zero_add, (KB.new w t #[.int .i64 (x.kind : Int), strV x.text, .int .i64 x.n, .int .i64 (x.at_ : Int)]).cell]
  simpa [fourT] using h
theorem tok_lex : TokT 46 62 := ⟨Tryz.underlying46, by kernel_rfl⟩
theorem tok_ref : TokT 54 79 := ⟨Tryz.underlying54, by kernel_rfl⟩
end
end Go.Proofs.YthindhlogkhclaaGreatDoor
