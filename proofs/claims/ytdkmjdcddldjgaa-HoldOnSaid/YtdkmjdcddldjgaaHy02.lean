/-
  Str: Own words for texts, over any program: a byte slice turned into a text; arrays of bytes compared. No condition; nothing of the dump is used here.
  Base: Small facts over the loaded program that several layers' texts use. No condition.
  Txt: Texts (strings) as values: a string of given bytes; its bytes as a slice of the call's own; whether two are the same; a string that came in. General. No condition.
  ScV: Scopes in memory: what five cells read as; kept over what turns elsewhere; rows of five cells of a call's own. No type of the program is named here. No condition.
  Step: append onto a row of the call's own, as one step of a region that draws its order: over any program. No condition.
  ScY: Scopes that came in; append of one scope onto a row of the call's own; over the loaded program. No condition. (WRITTEN IN ROUND 19, NEVER COMPILED: no seat had api.Scope yet.)
-/
import Derived.Test.YtdkmjdcddldjgaaHy00
import Derived.Laws.BytesArg
import Derived.Stop.BytesEq
import Derived.Deep.MidRow
import Derived.Test.YtdkmjdcddldjgaaProg
import Derived.WalkKit
import Derived.Test.YtdkmjdcddldjgaaHy01
import Derived.Lib.ConvBytes
import Derived.Deep.RegionLaw
set_option linter.unusedVariables false
set_option maxRecDepth 100000
namespace Go.Proofs.Ytdkmjdcddldjgaa
section
open Go.RowKit
theorem nums_str (l : List UInt8) : strOfNums (l.map fun b => (b.toNat : Int)) = ⟨l.toArray⟩ := by
  unfold strOfNums
  congr 2
  rw [List.map_map]
  have : ((fun n : Int => UInt8.ofNat n.toNat) ∘ fun b : UInt8 => (b.toNat : Int)) = id := by
    funext b
    simp
  rw [this, List.map_id]
theorem BS.str {P : Program} {w : World} {S : Nat → Prop} {v : Value} {l : List UInt8} (h : BS w S v l) {src e dst : TypeId} (hs : P.underlying src = some (.slice e)) (he : P.underlying e = some (.int .u8)) (hd : P.underlying dst = some .string) :
    (convert src dst v).run P w = .ok (.string ⟨l.toArray⟩) w := by
  obtain ⟨A, c, rfl, hc, hm, hn⟩ := h.form
  by_cases h0 : l = []
  · subst h0
    cases A with
    | none => exact run_convert_bytes_nil w src e hs he 0 c dst hd
    | some a =>
      obtain ⟨b, o, s⟩ := a
      have hz : ∀ (a : Addr), (loadCells a 0).run P w = .ok #[] w := by
        intro a
        simp [loadCells, loadCellsFrom]
      rw [run_convert_bytes_string w src dst e _ _ _ hs he hd]
      simp [Conv.bytesToString, hz]
      rfl
  · have hp : 0 < l.length := by cases l with
    | nil => exact absurd rfl h0
    | cons a t => simp
    obtain ⟨b, o, rfl, _, _, hx⟩ := h.at_ hp
    have := run_convert_bytes_arg (P := P) w src e hs he b o l.length c (l.map fun b => (b.toNat : Int)) (by simp) (fun i hi => by
      have := hx i l[i] (List.getElem?_eq_getElem hi)
      rw [this]
      simp [List.getD, List.getElem?_eq_getElem hi]) dst hd
    rw [nums_str] at this
    exact this
theorem cell_bv : Extern.Stop.cell = bv := rfl
theorem eq_bytes {P : Program} (w : World) (d : Nat) (t e : TypeId) (n : Nat) (ht : P.underlying t = some (.array n e)) (he : P.underlying e = some (.int .u8)) (hsz : ∀ w, (sizeOf e).run P w = .ok 1 w)
    (xs ys : List UInt8) (hx : xs.length = n) (hy : ys.length = n) :
    (Op.equalIn (d + 2) t (.agg (xs.map bv).toArray) (.agg (ys.map bv).toArray)).run P w = .ok (xs == ys) w :=
  run_equalIn_bytes w d t e n ht he hsz xs ys hx hy
theorem LS.one {w : World} {S : Nat → Prop} {x : Value} {l : List UInt8} {t : TypeId} (hx : BS w S x l) :
    LS (w.alloc (.cells #[x] t)) (fun b => S b ∨ b = w.heap.size) (.slice (some ⟨w.heap.size, 0, none⟩) 1 1) [l] := by
  refine ⟨_, 1, rfl, by simp, by simp [maxLen], fun _ => ⟨w.heap.size, 0, rfl, .inr rfl, by simp, fun j l' hj => ?_⟩⟩
  have hk := KB.new w t #[x]
  match j, hj with
  | 0, hj => simp at hj; subst hj; exact ⟨x, hk.cell 0, (hx.alloc _).mono fun b h => .inl h⟩
theorem LS.lt {w : World} {S : Nat → Prop} {v : Value} {ls : List (List UInt8)} (h : LS w S v ls) : LS w (fun b => b < w.heap.size) v ls := by
  obtain ⟨A, c, e, hl, hc, hx⟩ := h
  refine ⟨A, c, e, hl, hc, fun h0 => ?_⟩
  obtain ⟨b, o, ea, sb, hb, hx⟩ := hx h0
  refine ⟨b, o, ea, hb, hb, fun j l hj => ?_⟩
  obtain ⟨x, h1, h2⟩ := hx j l hj
  exact ⟨x, h1, h2.lt.mono fun _ h => h.2⟩
theorem LS.nil (w : World) (S : Nat → Prop) : LS w S (.slice none 0 0) [] := ⟨none, 0, rfl, by simp, by simp [maxLen], fun h => absurd h (by simp)⟩
def rowOf (w : World) (g : Nat) : Array Value := match w.heap[g]? with
  | some (.cells cs _ _) => cs
  | _ => #[]
theorem rowOf_kb {w : World} {g : Nat} {t : TypeId} {cs : Array Value} (h : KB w g t cs) : rowOf w g = cs := by
  unfold rowOf
  unfold KB at h
  rw [h]
theorem rowOf_drew (w : World) (g : Nat) : rowOf w.drew g = rowOf w g := rfl
theorem rowOf_drewN (w : World) (g n : Nat) : rowOf (w.drewN n) g = rowOf w g := rfl
theorem run_loadAt_rowOf {P : Program} {ty e : TypeId} {n : Nat} (hu : P.underlying ty = some (.array n e)) {m : Nat} (hi : (P.info? ty).map (·.size) = some m) (hm : 0 < m) (w : World) (g : Nat) (h : (rowOf w g).size = m) :
    (Instr.loadAt ty (.pointer (some ⟨g, 0, none⟩))).run P w = .ok (.agg (rowOf w g)) w := by
  have hr : w.rangeAt g 0 (rowOf w g).toList := by
    intro j v hj
    unfold rowOf at hj h
    split at hj
    · rename_i cs t fr hg
      rw [cell_of_row w g (0 + j) cs t fr hg, Nat.zero_add]
      simpa using hj
    · simp at hj
  have := run_loadAt_mid (P := P) w g 0 ty (rowOf w g).toList _ hr hu rfl (by rw [hi]; simp [h])
  simpa using this
def ptrBlock (v : Value) : Nat := match v with
  | .pointer (some ⟨g, 0, none⟩) => g
  | _ => 0
theorem ptrBlock_mk (g : Nat) : ptrBlock (.pointer (some ⟨g, 0, none⟩)) = g := rfl
theorem wp_load_rowOf {P : Program} {ty e : TypeId} {n : Nat} (hu : P.underlying ty = some (.array n e)) {m : Nat} (hi : (P.info? ty).map (·.size) = some m) (hm : 0 < m)
    {d : Option Tmp} {x : Operand} {t : TypeId} {pos : String} {after : Array Edge} {gd : Option (Nat × Bool)} {a : Act} {w : World} {K : Act → World → Prop} {Q : Exit → Act → World → Prop}
    (hx : a.eval x = .pointer (some ⟨ptrBlock (a.eval x), 0, none⟩)) (h : (rowOf w (ptrBlock (a.eval x))).size = m) :
    Oper.wp P { dst := d, op := Op.load ty x, type := t, pos := pos, after := after, guard := gd } a w K Q = K (a.put d (.agg (rowOf w (ptrBlock (a.eval x))))) w := by
  have hrun := run_loadAt_rowOf (P := P) hu hi hm w _ h
  rw [← hx] at hrun
  unfold Oper.wp execOp
  simp only [Sem.run_bind, hrun, Result.andThen_ok, Sem.run_pure]
  rfl
end
section
open Go.RowKit
theorem info_byte : (Try.prog.info? 5).map (fun i => (i.zero, i.size, i.bytes)) = some (some (.int .u8 0), 1, 1) := by kernel_rfl
theorem own_BS {w' : World} {v : Value} {l : List UInt8} {B : Nat} (h : w'.ownsRow B 5 1 v l.length (l.map bv)) : BS w' (fun b => B ≤ b ∧ b < w'.heap.size) v l := (BS.of_own h).lt
theorem drewN_twice (w : World) (n m : Nat) : (w.drewN n).drewN m = w.drewN (n + m) := by simp [World.drewN, Nat.add_assoc]
theorem ret_int {k : IntKind} {a b : Int} (h : a = b) : Ending.returned (.int k a) = .returned (.int k b) := by rw [h]
theorem own_base {w : World} {B B' e size n : Nat} {v : Value} {xs : List Value} (h : w.ownsRow B' e size v n xs) (hB : B ≤ B') : w.ownsRow B e size v n xs := by
  obtain ⟨h1, h2⟩ := h
  refine ⟨h1, ?_⟩
  rcases h2 with h2 | ⟨g, c, cur, a, b, r⟩
  · exact .inl h2
  · exact .inr ⟨g, c, cur, a, by omega, r⟩
def Fresh (w : World) (e : Ending) (w' : World) (l : List UInt8) : Prop :=
  ∃ v, e = .returned v ∧ w'.ownsRow w.heap.size 5 1 v l.length (l.map bv) ∧ Below w.heap.size w w'
theorem lit_one (w : World) (m : Nat) (base : Nat) (hb : base ≤ w.heap.size) : (w.alloc (.cells #[bv (UInt8.ofNat (m % 256))] 5)).ownsRow base 5 1 (.slice (some ⟨w.heap.size, 0, none⟩) 1 1) [UInt8.ofNat (m % 256)].length ([UInt8.ofNat (m % 256)].map bv) :=
  World.ownsRow_lit w #[bv (UInt8.ofNat (m % 256))] 1 hb (by simp [maxLen]) rfl
theorem byte_mod (m : Nat) : Value.int .u8 ((m : Int) % 256) = bv (UInt8.ofNat (m % 256)) := by
  unfold bv
  have : (UInt8.ofNat (m % 256)).toNat = m % 256 := by simp
  rw [this]
  congr 1
end
section
open Go.RowKit Go.ChangeShapes Go.WideShapes Go.Joins
def strV (l : List UInt8) : Value := .string ⟨l.toArray⟩
theorem cells_str : Try.prog.cellsOf 9 = 1 := by kernel_rfl
theorem open_str {H : Type} {enc : TypeId × Value → H} {W : World} {base : Nat} {v : Value} {d : DataW H} {p : List MemPlace}
    (ok : Value.okWide Try.prog W .any base 9 v) (h : DataW.Trod enc Try.prog W 0 (fun _ => true) true 9 v d p) : ∃ l : List UInt8, v = strV l ∧ l.length ≤ maxLen := by
  obtain ⟨n, hn⟩ := h
  obtain ⟨s, hs⟩ := okWide_string Try.underlying9 ok
  subst hs
  obtain ⟨s', e, _, hs⟩ := DataW.trod_string Try.underlying9 hn
  simp [Value.cells] at e
  subst e
  have : s.data.toList.length = s.size := by rw [Array.length_toList]; rfl
  exact ⟨s.data.toList, rfl, by omega⟩
theorem str_eq (l m : List UInt8) : ((⟨l.toArray⟩ : ByteArray).toList == (⟨m.toArray⟩ : ByteArray).toList) = decide (l = m) := by
  rw [Lib.toList_data, Lib.toList_data]
  show (l == m) = _
  by_cases h : l = m
  · rw [decide_eq_true h]; exact beq_iff_eq.2 h
  · rw [decide_eq_false h]; exact beq_eq_false_iff_ne.2 h
theorem conv_str (w : World) (l : List UInt8) (hl : l.length ≤ maxLen) : ∃ c w', (convert 9 77 (strV l)).run Try.prog w = .ok (.slice (some ⟨w.heap.size, 0, none⟩) l.length c) w' ∧
    BS w' (fun b => w.heap.size ≤ b ∧ b < w'.heap.size) (.slice (some ⟨w.heap.size, 0, none⟩) l.length c) l ∧ Below w.heap.size w w' := by
  refine ⟨_, _, Lib.run_convert_string_bytes (P := Try.prog) w 9 77 5 ⟨l.toArray⟩ (u := .string) Try.underlying9 Try.underlying77 Try.underlying5, ?_, ?_⟩
  · refine ⟨_, _, rfl, grownCap_ge _ _ _ _, grownCap_le_maxLen _ _ _ _ hl, (fun h => by cases h), fun h0 => ⟨w.heap.size, 0, rfl, ⟨Nat.le_refl _, by rw [Lib.bytesWorld_size]; omega⟩, by rw [Lib.bytesWorld_size]; omega, fun j u hu => ?_⟩⟩
    have hj := (List.getElem?_eq_some_iff.1 hu).1
    rw [Nat.zero_add, Lib.bytesWorld_cell w _ ⟨l.toArray⟩ j hj]
    simp [hu]
  · exact ⟨rfl, rfl, rfl, by rw [Lib.bytesWorld_size]; omega, fun j hj => Lib.bytesWorld_at_old w _ _ j hj⟩
end
section
open Go.RowKit
def ZS {α : Type} (w : World) (S : Nat → Prop) (E : α → Value → Value → Value → Value → Value → Prop) (v : Value) (ks : List α) : Prop :=
  ∃ A c, v = .slice A ks.length c ∧ ks.length ≤ c ∧ c ≤ maxLen ∧ (A = none → c = 0) ∧
    (0 < ks.length → ∃ b o, A = some ⟨b, o, none⟩ ∧ S b ∧ b < w.heap.size ∧
      ∀ i t, ks[i]? = some t → ∃ c0 c1 c2 c3 c4, w.cell? ⟨b, o + i * 5, none⟩ = some c0 ∧ w.cell? ⟨b, o + i * 5 + 1, none⟩ = some c1 ∧ w.cell? ⟨b, o + i * 5 + 2, none⟩ = some c2 ∧ w.cell? ⟨b, o + i * 5 + 3, none⟩ = some c3 ∧ w.cell? ⟨b, o + i * 5 + 4, none⟩ = some c4 ∧ E t c0 c1 c2 c3 c4)
def ZX (w : World) (S : Nat → Prop) : (f : Nat) → Sc f → Value → Value → Value → Value → Value → Prop
  | 0, x, _, _, _, _, _ => nomatch x
  | f + 1, (x : Ns (Sc f)), c0, c1, c2, c3, c4 => c0 = .int .i64 x.op ∧ I64 x.op ∧ c1 = strV x.name ∧ x.name.length ≤ maxLen ∧ c2 = .int .i64 x.from_ ∧ I64 x.from_ ∧ c3 = .int .i64 x.to_ ∧ I64 x.to_ ∧ ZS w S (ZX w S f) c4 x.kids
section
variable {w w' : World} {S S' : Nat → Prop}
theorem ZS.mapL {α β : Type} {E : α → Value → Value → Value → Value → Value → Prop} {E' : β → Value → Value → Value → Value → Value → Prop} {v : Value} {ks : List α} (g : α → β) (h : ZS w S E v ks)
    (hs : w.heap.size ≤ w'.heap.size) (hk : ∀ b, S b → b < w.heap.size → w'.heap[b]? = w.heap[b]?) (hS : ∀ b, S b → b < w.heap.size → S' b) (he : ∀ t c0 c1 c2 c3 c4, E t c0 c1 c2 c3 c4 → E' (g t) c0 c1 c2 c3 c4) : ZS w' S' E' v (ks.map g) := by
  obtain ⟨A, c, e, hl, hc, hn, hx⟩ := h
  refine ⟨A, c, by rw [e, List.length_map], by rw [List.length_map]; exact hl, hc, hn, fun h0 => ?_⟩
  rw [List.length_map] at h0
  obtain ⟨b, o, ea, sb, hb, hx⟩ := hx h0
  refine ⟨b, o, ea, hS b sb hb, by omega, fun i t hi => ?_⟩
  rw [List.getElem?_map] at hi
  cases hq : ks[i]? with
  | none => rw [hq] at hi; cases hi
  | some u =>
    rw [hq] at hi
    simp only [Option.map_some, Option.some.injEq] at hi
    subst hi
    obtain ⟨c0, c1, c2, c3, c4, k0, k1, k2, k3, k4, ke⟩ := hx i u hq
    have hc := fun (x : Nat) => World.cell?_of_block (w := w) (w' := w') (a := ⟨b, x, none⟩) (hk b sb hb)
    exact ⟨c0, c1, c2, c3, c4, (hc _).trans k0, (hc _).trans k1, (hc _).trans k2, (hc _).trans k3, (hc _).trans k4, he _ _ _ _ _ _ ke⟩
theorem ZX.keepL : ∀ (f : Nat) (t : Sc f) (c0 c1 c2 c3 c4 : Value), ZX w S f t c0 c1 c2 c3 c4 → w.heap.size ≤ w'.heap.size → (∀ b, S b → b < w.heap.size → w'.heap[b]? = w.heap[b]?) → (∀ b, S b → b < w.heap.size → S' b) → ZX w' S' f t c0 c1 c2 c3 c4
  | 0, t, _, _, _, _, _, _, _, _, _ => nomatch t
  | f + 1, (t : Ns (Sc f)), c0, c1, c2, c3, c4, h, hs, hk, hS => by
    obtain ⟨h0, h1, h2, h3, h4, h5, h6, h7, h8⟩ := h
    have := ZS.mapL (w' := w') (S' := S') (E' := ZX w' S' f) id h8 hs hk hS fun u d0 d1 d2 d3 d4 hu => ZX.keepL f u d0 d1 d2 d3 d4 hu hs hk hS
    rw [List.map_id] at this
    exact ⟨h0, h1, h2, h3, h4, h5, h6, h7, this⟩
theorem ZX.lifted : ∀ (f : Nat) (t : Sc f) (c0 c1 c2 c3 c4 : Value), ZX w S f t c0 c1 c2 c3 c4 → ZX w S (f + 1) (liftS f t) c0 c1 c2 c3 c4
  | 0, t, _, _, _, _, _, _ => nomatch t
  | f + 1, (t : Ns (Sc f)), c0, c1, c2, c3, c4, h => by
    obtain ⟨h0, h1, h2, h3, h4, h5, h6, h7, h8⟩ := h
    exact ⟨h0, h1, h2, h3, h4, h5, h6, h7, ZS.mapL (w' := w) (S' := S) (E' := ZX w S (f + 1)) (liftS f) h8 (Nat.le_refl _) (fun _ _ _ => rfl) (fun _ h _ => h) fun u d0 d1 d2 d3 d4 hu => ZX.lifted f u d0 d1 d2 d3 d4 hu⟩
section
variable {f : Nat} {t : Sc f} {c0 c1 c2 c3 c4 : Value}
theorem ZX.keepS (h : ZX w S f t c0 c1 c2 c3 c4) (hs : w.heap.size ≤ w'.heap.size) (hk : ∀ b, S b → b < w.heap.size → w'.heap[b]? = w.heap[b]?) (hS : ∀ b, S b → S' b) : ZX w' S' f t c0 c1 c2 c3 c4 := ZX.keepL f t c0 c1 c2 c3 c4 h hs hk fun b sb _ => hS b sb
theorem ZX.mono (h : ZX w S f t c0 c1 c2 c3 c4) (hS : ∀ b, S b → S' b) : ZX w S' f t c0 c1 c2 c3 c4 := h.keepS (Nat.le_refl _) (fun _ _ _ => rfl) hS
theorem ZX.below' (h : ZX w S f t c0 c1 c2 c3 c4) (hb : Below w.heap.size w w') : ZX w' S f t c0 c1 c2 c3 c4 := h.keepS hb.size (fun b _ hlt => hb.block b hlt) fun _ h => h
theorem ZX.keepP {P : Nat → Prop} (h : ZX w S f t c0 c1 c2 c3 c4) (k : KeepP P w w') (hp : ∀ b, S b → b < w.heap.size → P b) : ZX w' S f t c0 c1 c2 c3 c4 := h.keepS k.size (fun b sb hb => k.block b (hp b sb hb)) fun _ h => h
theorem ZX.alloc (h : ZX w S f t c0 c1 c2 c3 c4) (o : Obj) : ZX (w.alloc o) S f t c0 c1 c2 c3 c4 := h.keepS (by simp) (fun b _ hb => Below.heap_alloc w o b hb) fun _ h => h
end
theorem ZX.form : ∀ {f : Nat} {t : Sc f} {e0 e1 e2 e3 e4 : Value}, ZX w S f t e0 e1 e2 e3 e4 → ∃ (i0 : Int) (l1 : List UInt8) (i2 i3 : Int) (X4 : Option Addr) (n4 z4 : Nat), e0 = .int .i64 i0 ∧ e1 = strV l1 ∧ e2 = .int .i64 i2 ∧ e3 = .int .i64 i3 ∧ e4 = .slice X4 n4 z4
  | 0, t, _, _, _, _, _, _ => nomatch t
  | f + 1, (t : Ns (Sc f)), e0, e1, e2, e3, e4, h => by
    obtain ⟨rfl, _, rfl, _, rfl, _, rfl, _, hk⟩ := h
    obtain ⟨A3, c3, rfl, _⟩ := hk
    exact ⟨_, _, _, _, A3, _, c3, rfl, rfl, rfl, rfl, rfl⟩
theorem ZS.nil {α : Type} (w : World) (S : Nat → Prop) (E : α → Value → Value → Value → Value → Value → Prop) : ZS w S E (.slice none 0 0) [] := ⟨none, 0, rfl, by simp, by simp [maxLen], fun _ => rfl, fun h => absurd h (by simp)⟩
theorem ZS.form {α : Type} {E : α → Value → Value → Value → Value → Value → Prop} {v : Value} {ks : List α} (h : ZS w S E v ks) : ∃ A c, v = .slice A ks.length c ∧ ks.length ≤ c ∧ c ≤ maxLen := by
  obtain ⟨A, c, e, hl, hc, _⟩ := h
  exact ⟨A, c, e, hl, hc⟩
theorem ZS.past {f : Nat} {v : Value} {ks : List (Sc f)} (h : ZS w S (ZX w S f) v ks) (hb : Below w.heap.size w w') : ZS w' S (ZX w' S f) v ks := by
  have := ZS.mapL (E' := ZX w' S f) (w' := w') (S' := S) id h hb.size (fun b _ hl => hb.block b hl) (fun _ h _ => h) (fun t c0 c1 c2 c3 c4 h => h.below' hb)
  rwa [List.map_id] at this
theorem kid_z {wr : World} {f : Nat} {A : Option Addr} {c n : Nat} {ks : List (Sc f)} (h : ZS w S (ZX w S f) (.slice A n c) ks) (hn : ks.length = n) (hs : w.heap.size ≤ wr.heap.size) (hk : ∀ b, S b → b < w.heap.size → wr.heap[b]? = w.heap[b]?) (j : Nat) (hj : j < ks.length) :
    ∃ b o e0 e1 e2 e3 e4, A = some ⟨b, o, none⟩ ∧ b < w.heap.size ∧ wr.cell? ⟨b, o + j * 5, none⟩ = some e0 ∧ wr.cell? ⟨b, o + j * 5 + 1, none⟩ = some e1 ∧ wr.cell? ⟨b, o + j * 5 + 2, none⟩ = some e2 ∧ wr.cell? ⟨b, o + j * 5 + 3, none⟩ = some e3 ∧ wr.cell? ⟨b, o + j * 5 + 4, none⟩ = some e4 ∧
      ZX wr S f ks[j] e0 e1 e2 e3 e4 := by
  subst hn
  obtain ⟨A', c', e, hl, hc, _, hx⟩ := h
  injection e with e1 e2 e3
  subst e1 e3
  obtain ⟨b, o, rfl, sb, hlt, hx⟩ := hx (by omega)
  obtain ⟨e0, e1, e2, e3, e4, k0, k1, k2, k3, k4, ht⟩ := hx j ks[j] (List.getElem?_eq_getElem hj)
  have hc := fun (x : Nat) => World.cell?_of_block (w := w) (w' := wr) (a := ⟨b, x, none⟩) (hk b sb hlt)
  exact ⟨b, o, e0, e1, e2, e3, e4, rfl, hlt, (hc _).trans k0, (hc _).trans k1, (hc _).trans k2, (hc _).trans k3, (hc _).trans k4, ht.keepS hs hk fun _ h => h⟩
end
def ZV (w : World) (S : Nat → Prop) (f : Nat) (v : Value) (x : Sc f) : Prop := ∃ c0 c1 c2 c3 c4, v = .agg #[c0, c1, c2, c3, c4] ∧ ZX w S f x c0 c1 c2 c3 c4
section
variable {w w' : World} {S S' : Nat → Prop} {f : Nat} {v : Value} {t : Sc f}
theorem ZV.keepL (h : ZV w S f v t) (hs : w.heap.size ≤ w'.heap.size) (hk : ∀ b, S b → b < w.heap.size → w'.heap[b]? = w.heap[b]?) (hS : ∀ b, S b → b < w.heap.size → S' b) : ZV w' S' f v t := by
  obtain ⟨c0, c1, c2, c3, c4, e, h⟩ := h
  exact ⟨c0, c1, c2, c3, c4, e, ZX.keepL f t _ _ _ _ _ h hs hk hS⟩
theorem ZV.mono (h : ZV w S f v t) (hS : ∀ b, S b → S' b) : ZV w S' f v t := h.keepL (Nat.le_refl _) (fun _ _ _ => rfl) fun b sb _ => hS b sb
theorem ZV.below' (h : ZV w S f v t) (hb : Below w.heap.size w w') : ZV w' S f v t := h.keepL hb.size (fun b _ hlt => hb.block b hlt) fun _ h _ => h
theorem ZV.alloc (h : ZV w S f v t) (o : Obj) : ZV (w.alloc o) S f v t := h.keepL (by simp) (fun b _ hb => Below.heap_alloc w o b hb) fun _ h _ => h
theorem ZV.lifted (h : ZV w S f v t) : ZV w S (f + 1) v (liftS f t) := by
  obtain ⟨c0, c1, c2, c3, c4, e, h⟩ := h
  exact ⟨c0, c1, c2, c3, c4, e, ZX.lifted f t c0 c1 c2 c3 c4 h⟩
theorem ZV.form (h : ZV w S f v t) : ∃ (i0 : Int) (l1 : List UInt8) (i2 i3 : Int) (X4 : Option Addr) (n4 z4 : Nat), v = .agg #[.int .i64 i0, strV l1, .int .i64 i2, .int .i64 i3, .slice X4 n4 z4] := by
  obtain ⟨c0, c1, c2, c3, c4, rfl, h⟩ := h
  obtain ⟨i0, l1, i2, i3, X4, n4, z4, rfl, rfl, rfl, rfl, rfl⟩ := h.form
  exact ⟨i0, l1, i2, i3, X4, n4, z4, rfl⟩
end
theorem zeroZ (w : World) (S : Nat → Prop) (f : Nat) : ZX w S (f + 1) (zeroNs : Ns (Sc f)) (.int .i64 0) (.string ⟨#[]⟩) (.int .i64 0) (.int .i64 0) (.slice none 0 0) :=
  ⟨rfl, by show I64 0; unfold I64; decide, rfl, Nat.zero_le _, rfl, by show I64 0; unfold I64; decide, rfl, by show I64 0; unfold I64; decide, ZS.nil _ _ _⟩
/-! Rows of five cells. -/
abbrev QuZ := Value × Value × Value × Value × Value
def fiveZ (q : QuZ) : List Value := [q.1, q.2.1, q.2.2.1, q.2.2.2.1, q.2.2.2.2]
def flatZ (qs : List QuZ) : List Value := qs.flatMap fiveZ
theorem flatZ_cons (q : QuZ) (qs : List QuZ) : flatZ (q :: qs) = fiveZ q ++ flatZ qs := rfl
theorem flatZ_append (a b : List QuZ) : flatZ (a ++ b) = flatZ a ++ flatZ b := List.flatMap_append
theorem flatZ_length : ∀ (qs : List QuZ), (flatZ qs).length = qs.length * 5
  | [] => rfl
  | q :: qs => by rw [flatZ_cons, List.length_append, flatZ_length qs]; simp [fiveZ, Nat.succ_mul]; omega
theorem flatZ_at : ∀ (qs : List QuZ) (i : Nat) (q : QuZ), qs[i]? = some q → (flatZ qs)[i * 5]? = some q.1 ∧ (flatZ qs)[i * 5 + 1]? = some q.2.1 ∧ (flatZ qs)[i * 5 + 2]? = some q.2.2.1 ∧ (flatZ qs)[i * 5 + 3]? = some q.2.2.2.1 ∧ (flatZ qs)[i * 5 + 4]? = some q.2.2.2.2
  | [], i, q, h => by simp at h
  | p :: qs, 0, q, h => by
    simp at h
    subst h
    exact ⟨rfl, rfl, rfl, rfl, rfl⟩
  | p :: qs, i + 1, q, h => by
    obtain ⟨h0, h1, h2, h3, h4⟩ := flatZ_at qs i q (by simpa using h)
    rw [flatZ_cons]
    have e : ∀ k, (fiveZ p ++ flatZ qs)[(i + 1) * 5 + k]? = (flatZ qs)[i * 5 + k]? := fun k => by
      rw [List.getElem?_append_right (by simp [fiveZ]; omega)]
      congr 1
      simp [fiveZ]; omega
    exact ⟨(e 0).trans h0, (e 1).trans h1, (e 2).trans h2, (e 3).trans h3, (e 4).trans h4⟩
def QZ (w : World) (S : Nat → Prop) (f : Nat) (qs : List QuZ) (ks : List (Sc f)) : Prop :=
  qs.length = ks.length ∧ ∀ (i : Nat) (q : QuZ) (t : Sc f), qs[i]? = some q → ks[i]? = some t → ZX w S f t q.1 q.2.1 q.2.2.1 q.2.2.2.1 q.2.2.2.2
section
variable {w w' : World} {S S' : Nat → Prop} {f : Nat} {qs ps : List QuZ} {ks ls : List (Sc f)}
theorem QZ.keepL (h : QZ w S f qs ks) (hs : w.heap.size ≤ w'.heap.size) (hk : ∀ b, S b → b < w.heap.size → w'.heap[b]? = w.heap[b]?) (hS : ∀ b, S b → b < w.heap.size → S' b) : QZ w' S' f qs ks :=
  ⟨h.1, fun i q t hq ht => ZX.keepL f t _ _ _ _ _ (h.2 i q t hq ht) hs hk hS⟩
theorem QZ.below' (h : QZ w S f qs ks) (hb : Below w.heap.size w w') : QZ w' S f qs ks := h.keepL hb.size (fun b _ hlt => hb.block b hlt) fun _ h _ => h
theorem QZ.mono (h : QZ w S f qs ks) (hS : ∀ b, S b → S' b) : QZ w S' f qs ks := h.keepL (Nat.le_refl _) (fun _ _ _ => rfl) fun b sb _ => hS b sb
theorem QZ.nil (w : World) (S : Nat → Prop) (f : Nat) : QZ w S f [] [] := ⟨rfl, fun i q t h => by simp at h⟩
theorem QZ.append (h : QZ w S f qs ks) (g : QZ w S f ps ls) : QZ w S f (qs ++ ps) (ks ++ ls) := by
  refine ⟨by rw [List.length_append, List.length_append, h.1, g.1], fun i q t hq ht => ?_⟩
  rcases Nat.lt_or_ge i qs.length with hi | hi
  · rw [List.getElem?_append_left hi] at hq
    rw [List.getElem?_append_left (by rw [← h.1]; exact hi)] at ht
    exact h.2 i q t hq ht
  · rw [List.getElem?_append_right hi] at hq
    rw [List.getElem?_append_right (by rw [← h.1]; exact hi), ← h.1] at ht
    exact g.2 _ q t hq ht
theorem QZ.one {c0 c1 c2 c3 c4 : Value} {t : Sc f} (h : ZX w S f t c0 c1 c2 c3 c4) : QZ w S f [(c0, c1, c2, c3, c4)] [t] := by
  refine ⟨rfl, fun i q u hq hu => ?_⟩
  match i, hq, hu with
  | 0, hq, hu => simp at hq hu; subst hq hu; exact h
theorem ZX.cells1 {t : Sc f} {c0 c1 c2 c3 c4 : Value} (h : ZX w S f t c0 c1 c2 c3 c4) : ∀ u ∈ fiveZ (c0, c1, c2, c3, c4), u.oneCell' = true := by
  obtain ⟨i0, l1, i2, i3, X3, n3, z3, rfl, rfl, rfl, rfl, rfl⟩ := h.form
  intro u hu
  simp [fiveZ] at hu
  rcases hu with rfl | rfl | rfl | rfl | rfl <;> rfl
end
theorem ZS_of_own {w : World} {S : Nat → Prop} {f base e : Nat} {v : Value} {qs : List QuZ} {ks : List (Sc f)} (h : w.ownsRow base e 5 v qs.length (flatZ qs)) (hq : QZ w S f qs ks)
    (hS : ∀ b, base ≤ b → b < w.heap.size → S b) : ZS w S (ZX w S f) v ks := by
  obtain ⟨_, h2⟩ := h
  rw [hq.1] at h2
  rcases h2 with ⟨rfl, h0⟩ | ⟨g, cap, cur, rfl, hb, hg, hnc, hcm, hcs, htk⟩
  · obtain rfl : ks = [] := List.eq_nil_of_length_eq_zero h0
    exact ZS.nil _ _ _
  · have hlt : g < w.heap.size := (Array.getElem?_eq_some_iff.1 hg).1
    refine ⟨_, cap, rfl, hnc, hcm, (fun h => by cases h), fun h0 => ⟨g, 0, rfl, hS g hb hlt, hlt, fun i t hi => ?_⟩⟩
    have hil := (List.getElem?_eq_some_iff.1 hi).1
    have hqi : qs[i]? = some (qs[i]'(by rw [hq.1]; exact hil)) := List.getElem?_eq_getElem _
    obtain ⟨e0, e1, e2, e3, e4⟩ := flatZ_at qs i _ hqi
    have cell : ∀ k u, k < 5 → (flatZ qs)[i * 5 + k]? = some u → w.cell? ⟨g, 0 + i * 5 + k, none⟩ = some u := fun k u hk hu => by
      rw [cell_of_row w g (0 + i * 5 + k) cur _ (0, 0) hg, Nat.zero_add]
      rw [← htk, List.getElem?_take, if_pos (by omega)] at hu
      simpa using hu
    exact ⟨_, _, _, _, _, cell 0 _ (by omega) e0, cell 1 _ (by omega) e1, cell 2 _ (by omega) e2, cell 3 _ (by omega) e3, cell 4 _ (by omega) e4, hq.2 i _ t hqi hi⟩
end
section
open Go.RowKit
theorem step_grow {P : Program} {ops : Array Oper} {o : Oper} {a : Act} {w : World} {K : Act → World → Prop} {Q : Exit → Act → World → Prop} {E : Prop}
    (hg : o.guard = none) (s x : Operand) (t : TypeId) (hop : o.op = Op.call { callee := Callee.builtin Builtin.append, args := #[s, x], argTypes := #[t, t] })
    (base : Nat) (e : TypeId) (i : TypeInfo) (ht : P.underlying t = some (.slice e)) (hi : P.info? e = some i) (hz : i.zero = some (.int .u8 0))
    (hsize : i.size = 1) (hby : i.bytes = 1) (v : Value) (xs : List UInt8) (hs : a.eval s = v) (hown : w.ownsRow base e 1 v xs.length (xs.map bv))
    (S : Nat → Prop) (xv : Value) (ys : List UInt8) (hxe : a.eval x = xv) (hx : BS w S xv ys) (hb : xs.length + ys.length ≤ 140737488355328) (hbase : base ≤ w.heap.size)
    (hK : ∀ v' w', w'.ownsRow base e 1 v' (xs ++ ys).length ((xs ++ ys).map bv) → w.grownBy w' v.ownBlock → (v'.ownBlock = v.ownBlock ∨ v'.ownBlock = some w.heap.size) → K (a.put o.dst v') w') :
    if Region.wanted o (yielded ops a.tmps) = true then Oper.wp P o a w K Q else E := by
  have hw : Region.wanted o (yielded ops a.tmps) = true := by simp [Region.wanted, hg]
  rw [if_pos hw]
  obtain ⟨v', w', hrun, h2, h3, h4⟩ := run_grow (P := P) w base t o.type e i ht hi hz hsize hby v xs hown S xv ys hx hb hbase
  unfold Oper.wp execOp
  simp only [hop, resolve, invoke, builtin, Sem.run_bind, Sem.run_pure, Result.andThen_ok, List.map_toArray, List.map_cons, List.map_nil, hs, hxe, hrun]
  exact hK _ _ h2 h3 h4
theorem wp_grow {P : Program} {o : Oper} {a : Act} {w : World} {K : Act → World → Prop} {Q : Exit → Act → World → Prop}
    (s x : Operand) (t : TypeId) (hop : o.op = Op.call { callee := Callee.builtin Builtin.append, args := #[s, x], argTypes := #[t, t] })
    (base : Nat) (e : TypeId) (i : TypeInfo) (ht : P.underlying t = some (.slice e)) (hi : P.info? e = some i) (hz : i.zero = some (.int .u8 0))
    (hsize : i.size = 1) (hby : i.bytes = 1) (v : Value) (xs : List UInt8) (hs : a.eval s = v) (hown : w.ownsRow base e 1 v xs.length (xs.map bv))
    (S : Nat → Prop) (xv : Value) (ys : List UInt8) (hxe : a.eval x = xv) (hx : BS w S xv ys) (hb : xs.length + ys.length ≤ 140737488355328) (hbase : base ≤ w.heap.size)
    (hK : ∀ v' w', w'.ownsRow base e 1 v' (xs ++ ys).length ((xs ++ ys).map bv) → w.grownBy w' v.ownBlock → (v'.ownBlock = v.ownBlock ∨ v'.ownBlock = some w.heap.size) → K (a.put o.dst v') w') :
    Oper.wp P o a w K Q := by
  obtain ⟨v', w', hrun, h2, h3, h4⟩ := run_grow (P := P) w base t o.type e i ht hi hz hsize hby v xs hown S xv ys hx hb hbase
  unfold Oper.wp execOp
  simp only [hop, resolve, invoke, builtin, Sem.run_bind, Sem.run_pure, Result.andThen_ok, List.map_toArray, List.map_cons, List.map_nil, hs, hxe, hrun]
  exact hK _ _ h2 h3 h4
theorem own_ne {w : World} {B e size n g : Nat} {v : Value} {xs : List Value} (h : w.ownsRow B e size v n xs) (hg : g < B) : v.ownBlock ≠ some g := by
  obtain ⟨_, h2⟩ := h
  rcases h2 with ⟨rfl, _⟩ | ⟨g', c, cur, rfl, hb, _⟩
  · simp [Value.ownBlock]
  · simp [Value.ownBlock]; omega
theorem own_ge {w : World} {B e size n : Nat} {v : Value} {xs : List Value} (h : w.ownsRow B e size v n xs) (k : Nat) (hk : v.ownBlock = some k) : B ≤ k := by
  rcases Nat.lt_or_ge k B with hlt | hge
  · exact absurd hk (own_ne h hlt)
  · exact hge
end
section
open Go.RowKit Go.ChangeShapes Go.WideShapes Go.Joins
theorem cells_scope : Try.prog.cellsOf 25 = 5 := by kernel_rfl
theorem cells_znum : Try.prog.cellsOf 3 = 1 := by kernel_rfl
theorem cells_zstr : Try.prog.cellsOf 9 = 1 := by kernel_rfl
theorem cells_scopes : Try.prog.cellsOf 23 = 1 := by kernel_rfl
theorem five_of {cs : List Value} (h : cs.length = 5) : ∃ c0 c1 c2 c3 c4, cs = [c0, c1, c2, c3, c4] := by
  match cs, h with
  | [a, b, c, d, e], _ => exact ⟨a, b, c, d, e, rfl⟩
theorem ZX_of_trod {H : Type} {enc : TypeId × Value → H} {W : World} : ∀ (n : Nat) (cs : List Value) (x : DataW H × List MemPlace), DataW.trod enc Try.prog W 0 (fun _ => true) true n 25 cs = some x →
    ∃ (t : Sc n) (c0 c1 c2 c3 c4 : Value), cs = [c0, c1, c2, c3, c4] ∧ ZX W (fun b => b < W.heap.size) n t c0 c1 c2 c3 c4 := by
  intro n
  induction n using Nat.strongRecOn with
  | _ n ih =>
    intro cs x h
    obtain ⟨xs, m, rfl, _, hl, hxl, hf⟩ := DataW.trod_struct Try.underlying25 h
    rw [cells_scope] at hl
    obtain ⟨c0, c1, c2, c3, c4, rfl⟩ := five_of hl
    obtain ⟨x0, x1, x2, x3, x4, rfl⟩ : ∃ x0 x1 x2 x3 x4, xs = [x0, x1, x2, x3, x4] := by
      match xs, hxl with
      | [a, b, c, d, e], _ => exact ⟨a, b, c, d, e, rfl⟩
    have g0 : DataW.trod enc Try.prog W 0 (fun _ => true) true m 3 (List.take (Try.prog.cellsOf 3) [c0, c1, c2, c3, c4]) = some x0 := hf 0 _ rfl
    have g1 : DataW.trod enc Try.prog W 0 (fun _ => true) true m 9 (List.take (Try.prog.cellsOf 9) [c1, c2, c3, c4]) = some x1 := hf 1 _ rfl
    have g2 : DataW.trod enc Try.prog W 0 (fun _ => true) true m 3 (List.take (Try.prog.cellsOf 3) [c2, c3, c4]) = some x2 := hf 2 _ rfl
    have g3 : DataW.trod enc Try.prog W 0 (fun _ => true) true m 3 (List.take (Try.prog.cellsOf 3) [c3, c4]) = some x3 := hf 3 _ rfl
    have g4 : DataW.trod enc Try.prog W 0 (fun _ => true) true m 23 (List.take (Try.prog.cellsOf 23) [c4]) = some x4 := hf 4 _ rfl
    rw [cells_znum] at g0 g2 g3
    rw [cells_zstr] at g1
    rw [cells_scopes] at g4
    obtain ⟨k, e0, _, wk⟩ := DataW.trod_int Try.underlying3 g0
    obtain ⟨s, e1, _, ws⟩ := DataW.trod_string Try.underlying9 g1
    obtain ⟨u, e2, _, wu⟩ := DataW.trod_int Try.underlying3 g2
    obtain ⟨y, e3, _, wy⟩ := DataW.trod_int Try.underlying3 g3
    simp at e0 e1 e2 e3
    subst e0 e1 e2 e3
    have hk : I64 k := by simpa [I64, Lit.wf, IntKind.min, IntKind.max, IntKind.signed, IntKind.bits] using wk
    have hu : I64 u := by simpa [I64, Lit.wf, IntKind.min, IntKind.max, IntKind.signed, IntKind.bits] using wu
    have hy : I64 y := by simpa [I64, Lit.wf, IntKind.min, IntKind.max, IntKind.signed, IntKind.bits] using wy
    have hsz : s.data.toList.length = s.size := by rw [Array.length_toList]; rfl
    have main : ∃ ks : List (Sc m), ZS W (fun b => b < W.heap.size) (ZX W (fun b => b < W.heap.size) m) c4 ks := by
      rcases DataW.trod_slice Try.underlying23 g4 with ⟨hcs, _⟩ | ⟨a, len, cap, elems, rest, n, rfl, hcs, _, _, hlc, hm, hel, hi, _, _⟩
      · simp at hcs
        subst hcs
        exact ⟨[], ZS.nil _ _ _⟩
      · simp at hcs
        subst hcs
        rw [cells_scope] at hi
        have hi2 : ∀ i, i < len → ∃ t : Sc (n + 1), ∃ c0 c1 c2 c3 c4, W.cell? (a.add (i * 5)) = some c0 ∧ W.cell? ((a.add (i * 5)).add 1) = some c1 ∧ W.cell? ((a.add (i * 5)).add 2) = some c2 ∧ W.cell? ((a.add (i * 5)).add 3) = some c3 ∧ W.cell? ((a.add (i * 5)).add 4) = some c4 ∧
            ZX W (fun b => b < W.heap.size) (n + 1) t c0 c1 c2 c3 c4 := by
          intro i hil
          have := hi i hil
          rw [List.getElem?_eq_getElem (by omega)] at this
          obtain ⟨cs, hcs, htr⟩ := Option.bind_eq_some_iff.1 this
          obtain ⟨t, d0, d1, d2, d3, d4, rfl, ht⟩ := ih n (by omega) cs _ htr
          obtain ⟨_, _, hcell⟩ := World.cells?_some hcs
          have k0 := hcell 0 (by omega)
          have k1 := hcell 1 (by omega)
          have k2 := hcell 2 (by omega)
          have k3 := hcell 3 (by omega)
          have k4 := hcell 4 (by omega)
          refine ⟨liftS n t, d0, d1, d2, d3, d4, ?_, k1, k2, k3, k4, ZX.lifted n t d0 d1 d2 d3 d4 ht⟩
          have : (a.add (i * 5)).add 0 = a.add (i * 5) := rfl
          rw [← this]; exact k0
        haveI : Inhabited (Sc (n + 1)) := ⟨(⟨0, [], 0, 0, []⟩ : Ns (Sc n))⟩
        obtain ⟨f, hf⟩ := Deep.choose_lt (α := Sc (n + 1)) hi2
        have hlen : ((List.range len).map f).length = len := by simp
        refine ⟨(List.range len).map f, some a, cap, by rw [hlen], by omega, hm, (fun h => by cases h), fun h0 => ?_⟩
        rw [hlen] at h0
        obtain ⟨b, o, spot⟩ := a
        have hspot : spot = none := by
          obtain ⟨_, _, _, _, _, k0, _⟩ := hf 0 h0
          simpa [Addr.add] using World.cell?_spot k0
        subst hspot
        have hb : b < W.heap.size := by
          obtain ⟨_, _, _, _, _, k0, _⟩ := hf 0 h0
          rw [add_plain] at k0
          exact World.block_lt_of_cell? _ _ k0
        refine ⟨b, o, rfl, hb, hb, fun i t hit => ?_⟩
        have hil : i < len := by
          have := (List.getElem?_eq_some_iff.1 hit).1
          omega
        simp [hil] at hit
        subst hit
        obtain ⟨d0, d1, d2, d3, d4, k0, k1, k2, k3, k4, kt⟩ := hf i hil
        rw [add_plain] at k0 k1 k2 k3 k4
        rw [add_plain] at k1 k2 k3 k4
        exact ⟨d0, d1, d2, d3, d4, k0, k1, k2, k3, k4, kt⟩
    obtain ⟨ks, hks⟩ := main
    exact ⟨(⟨k, s.data.toList, u, y, ks⟩ : Ns (Sc m)), _, _, _, _, _, rfl, rfl, hk, rfl, by show s.data.toList.length ≤ _; omega, rfl, hu, rfl, hy, hks⟩
theorem open_scope {H : Type} {enc : TypeId × Value → H} {W : World} {base : Nat} {v : Value} {d : DataW H} {p : List MemPlace}
    (ok : Value.okWide Try.prog W .any base 25 v) (h : DataW.Trod enc Try.prog W 0 (fun _ => true) true 25 v d p) :
    ∃ (n : Nat), ∀ m, n ≤ m → ∃ t : Sc m, ZV W (fun b => b < W.heap.size) m v t := by
  obtain ⟨cs, rfl, hsz⟩ := okWide_struct Try.underlying25 ok
  obtain ⟨n, hn⟩ := h
  refine ⟨n, fun m hm => ?_⟩
  obtain ⟨k, rfl⟩ := Nat.le.dest hm
  clear hm
  induction k with
  | zero =>
    obtain ⟨t, c0, c1, c2, c3, c4, e, ht⟩ := ZX_of_trod n _ _ hn
    refine ⟨t, c0, c1, c2, c3, c4, ?_, ht⟩
    have : cs = #[c0, c1, c2, c3, c4] := by
      apply Array.toList_inj.1
      simpa [Value.cells] using e
    rw [this]
  | succ k ih =>
    obtain ⟨t, ht⟩ := ih
    exact ⟨liftS (n + k) t, ht.lifted⟩
theorem info_scope : (Try.prog.info? 25).map (fun i => (i.zero, i.size, i.bytes)) = some (some (.agg #[.int .i64 0, .string ⟨#[]⟩, .int .i64 0, .int .i64 0, .slice none 0 0]), 5, 64) := by kernel_rfl
theorem run_growZ (w : World) (base : Nat) (v : Value) (qs : List QuZ) (hown : w.ownsRow base 25 5 v qs.length (flatZ qs)) (ad : Addr) (c : Nat) (p : QuZ) (hx : ∀ j u, (fiveZ p)[j]? = some u → w.cell? (ad.add j) = some u) (h1 : ∀ u ∈ fiveZ p, u.oneCell' = true)
    (hb : qs.length ≤ 1000000000) (hbase : base ≤ w.heap.size) (ty : TypeId) :
    ∃ v' w', (Builtin.append_ #[23, 23] ty #[v, .slice (some ad) 1 c]).run Try.prog w = .ok v' w' ∧ w'.ownsRow base 25 5 v' (qs ++ [p]).length (flatZ (qs ++ [p])) ∧ w.grownBy w' v.ownBlock ∧
      (v'.ownBlock = v.ownBlock ∨ v'.ownBlock = some w.heap.size) := by
  obtain ⟨i0, hi, hz0, hz1, hz2⟩ := info_parts info_scope
  have e : flatZ [p] = fiveZ p := by simp [flatZ]
  obtain ⟨v', w', a1, a2, a3, _, a5⟩ := run_append_own_at (P := Try.prog) (w := w) base 23 ty 25 i0 _ 5 64 Try.underlying23 hi hz0 hz1 hz2 rfl (by omega) v qs.length _ hown ad 1 c (flatZ [p]) (flatZ_length [p]) (by rw [e]; exact hx) (by rw [e]; exact h1)
    (by unfold maxLen; omega) (by omega) hbase
  exact ⟨v', w', a1, by rw [List.length_append, flatZ_append]; exact a2, a3, a5⟩
theorem wpList_growZ (w : World) {ops : Array Oper} {rest : List Oper} {o : Oper} {a : Act} {Q : Exit → Act → World → Prop} (hgd : o.guard = none) (s y : Operand)
    (ho : o.op = .call { callee := .builtin .append, args := #[s, y], argTypes := #[23, 23] })
    (base : Nat) (v : Value) (qs : List QuZ) (hs : a.eval s = v) (hown : w.ownsRow base 25 5 v qs.length (flatZ qs))
    (ad : Addr) (c : Nat) (p : QuZ) (hye : a.eval y = .slice (some ad) 1 c) (hx : ∀ j u, (fiveZ p)[j]? = some u → w.cell? (ad.add j) = some u) (h1 : ∀ u ∈ fiveZ p, u.oneCell' = true)
    (hb : qs.length ≤ 1000000000) (hbase : base ≤ w.heap.size)
    (h : ∀ v' w', w'.ownsRow base 25 5 v' (qs ++ [p]).length (flatZ (qs ++ [p])) → w.grownBy w' v.ownBlock → (v'.ownBlock = v.ownBlock ∨ v'.ownBlock = some w.heap.size) → wpList Try.prog ops Q rest (a.put o.dst v') w') :
    wpList Try.prog ops Q (o :: rest) a w := by
  refine wpList_plain hgd fun K hK => ?_
  obtain ⟨v', w', hrun, h2, h3, h4⟩ := run_growZ w base v qs hown ad c p hx h1 hb hbase o.type
  unfold Oper.wp execOp
  simp only [ho, resolve, invoke, builtin, Sem.run_bind, Sem.run_pure, Result.andThen_ok, List.map_toArray, List.map_cons, List.map_nil, hs, hye, hrun]
  exact hK _ _ (h v' w' h2 h3 h4)
end
end Go.Proofs.Ytdkmjdcddldjgaa
