/-
  LxN: Plain mathematics of layer 16 (lex): that a text's words stand in order, with nothing but blanks and remarks between (P16.2); two right texts, a line feed between, have the words of both. No program. No condition.
  Args: Arguments opened: a []byte that came in reads as bytes. No condition.
  Str: Own words for texts, over any program: a byte slice turned into a text; arrays of bytes compared. No condition; nothing of the dump is used here.
  Base: Small facts over the loaded program that several layers' texts use. No condition.
-/
import Derived.Test.YthindhlogkhclaaDoorPm02
import Derived.Test.YthindhlogkhclaaDoorProg
import Derived.Test.YthindhlogkhclaaDoorMem
import Derived.ProofKit
import Derived.OpenShut
import Derived.Lib.SmallJoins
import Derived.Deep.Slices
import Derived.Laws.BytesArg
import Derived.Stop.BytesEq
import Derived.Deep.MidRow
import Derived.WalkKit
set_option linter.unusedVariables false
set_option maxRecDepth 100000
namespace Go.Proofs.YthindhlogkhclaaDoor
section
def Tk.size (t : Tk) : Nat := t.text.length + (if t.kind = 2 then 2 else 0)
theorem mk_size (k : Nat) (t : List UInt8) (n : Int) (a : Nat) : (Tk.mk k t n a).size = t.length + (if k = 2 then 2 else 0) := rfl
def OrdT (s : List UInt8) : Nat → List Tk → Prop
  | i, [] => i + skipN false (s.drop i) = s.length
  | i, t :: l => i + skipN false (s.drop i) = t.at_ ∧ 1 ≤ t.size ∧ t.at_ + t.size ≤ s.length ∧ OrdT s (t.at_ + t.size) l
theorem ord_lex (s : List UInt8) : ∀ (f i : Nat), i ≤ s.length → s.length - i < f → (lexL f i (s.drop i)).2.2 = 0 → OrdT s i (lexL f i (s.drop i)).1
  | 0, _, _, h, _ => absurd h (Nat.not_lt_zero _)
  | f + 1, i, hi, hf, he => by
    have hs := skip_le false (s.drop i)
    rw [List.length_drop] at hs
    by_cases h : (s.drop i).drop (skipN false (s.drop i)) = []
    · rw [lex_end h]
      have := List.drop_eq_nil_iff.1 h
      rw [List.length_drop] at this
      show i + _ = _
      omega
    · by_cases h0 : (oneW ((s.drop i).drop (skipN false (s.drop i)))).e = 0
      · have o1 := one_size h0
        rw [lex_one h h0] at he ⊢
        rw [List.drop_drop, List.drop_drop] at *
        rw [List.length_drop] at o1
        obtain ⟨o1, o2, o3, o4, o5, o6⟩ := o1
        refine ⟨rfl, ?_, ?_, ?_⟩
        · rw [mk_size, ← o3]
          exact o1
        · rw [mk_size, ← o3]
          show i + skipN false (s.drop i) + _ ≤ _
          omega
        · rw [mk_size, ← o3]
          exact ord_lex s f (i + skipN false (s.drop i) + (oneW (s.drop (i + skipN false (s.drop i)))).size) (by omega) (by omega) he
      · rw [lex_bad h h0] at he
        exact absurd he h0
theorem all_ord {s : List UInt8} (he : (allS s).2.2 = 0) : OrdT s 0 (allS s).1 := by
  unfold allS at he ⊢
  by_cases h : 600 < s.length
  · rw [if_pos h] at he; exact absurd he (by decide)
  · rw [if_neg h] at he ⊢
    by_cases h2 : (lexL (s.length + 1) 0 s).2.2 = 0
    · rw [if_pos h2]
      have := ord_lex s (s.length + 1) 0 (by omega) (by omega)
      rw [List.drop_zero] at this
      exact this h2
    · rw [if_neg h2] at he; exact absurd he h2
/-! Two texts. -/
theorem skip_join : ∀ (b : Bool) (l m : List UInt8), skipN b (l ++ 10 :: m) = if l.drop (skipN b l) = [] then l.length + 1 + skipN false m else skipN b l
  | true, [], m => by
    have e : skipN true (10 :: m) = skipN false m + 1 := by rw [skipN, if_pos (by decide)]
    rw [List.nil_append, e, if_pos (by simp), List.length_nil]
    omega
  | false, [], m => by
    have e : skipN false (10 :: m) = skipN false m + 1 := by rw [skipN, if_neg (by decide), if_pos (by decide)]
    rw [List.nil_append, e, if_pos (by simp), List.length_nil]
    omega
  | true, b :: l, m => by
    rw [List.cons_append, skipN, skipN]
    by_cases h : b.toNat = 10
    · rw [if_pos h, if_pos h, skip_join false l m, List.drop_succ_cons, List.length_cons]
      split <;> omega
    · rw [if_neg h, if_neg h, skip_join true l m, List.drop_succ_cons, List.length_cons]
      split <;> omega
  | false, b :: l, m => by
    rw [List.cons_append, skipN, skipN]
    by_cases h : b.toNat = 35
    · rw [if_pos h, if_pos h, skip_join true l m, List.drop_succ_cons, List.length_cons]
      split <;> omega
    · rw [if_neg h, if_neg h]
      by_cases h2 : blankC b.toNat = true
      · rw [if_pos h2, if_pos h2, skip_join false l m, List.drop_succ_cons, List.length_cons]
        split <;> omega
      · rw [if_neg h2, if_neg h2, List.drop_zero, if_neg (by simp)]
theorem parse_unit {l : List UInt8} (h : (parseD l).2 = 0) : ∃ c, l.getLast? = some c ∧ unitD c.toNat ≠ 0 := by
  unfold parseD at h
  cases hl : l.getLast? with
  | none => rw [hl] at h; simp at h
  | some c =>
    rw [hl] at h
    refine ⟨c, rfl, fun e => ?_⟩
    simp only at h
    rw [if_pos e] at h
    exact absurd h (by decide)
theorem unit_dig {c : Nat} (h : unitD c ≠ 0) : digC c = false := by
  rcases unit_cases c with e | ⟨e, _⟩ | ⟨e, _⟩ | ⟨e, _⟩ | ⟨e, _⟩
  · exact absurd e h
  all_goals (rw [e]; decide)
theorem span_room {r : List UInt8} (h : (parseD (spanE r)).2 = 0) : takeN digC r < r.length := by
  have hle := takeN_le digC r
  refine Classical.byContradiction fun hn => ?_
  obtain ⟨c, hc, hu⟩ := parse_unit h
  have e : spanE r = r := by unfold spanE; rw [List.take_of_length_le (by omega)]
  rw [e] at hc
  have hd := unit_dig hu
  rw [List.getLast?_eq_getElem?] at hc
  have hlt := (List.getElem?_eq_some_iff.1 hc).1
  have := takeN_in digC r _ c hc (by omega)
  rw [hd] at this
  cases this
theorem one_join {r : List UInt8} (m : List UInt8) (h : (oneW r).e = 0) : oneW (r ++ 10 :: m) = oneW r := by
  cases r with
  | nil => exact absurd h (by decide)
  | cons c l =>
    rw [List.cons_append, oneW_cons, oneW_cons]
    rw [oneW_cons] at h
    unfold oneC at h ⊢
    by_cases h1 : c.toNat = 40
    · rw [if_pos h1, if_pos h1]
    rw [if_neg h1] at h ⊢
    rw [if_neg h1]
    by_cases h2 : c.toNat = 41
    · rw [if_pos h2, if_pos h2]
    rw [if_neg h2] at h ⊢
    rw [if_neg h2]
    by_cases h3 : c.toNat = 59
    · rw [if_pos h3, if_pos h3]
    rw [if_neg h3] at h ⊢
    rw [if_neg h3]
    by_cases h4 : lowC c.toNat = true
    · rw [if_pos h4, if_pos h4]
      unfold wordW
      have e := takeN_wall wordC (c :: l) m 10 (by decide)
      rw [List.cons_append] at e
      rw [e, ← List.cons_append, List.take_append_of_le_length (takeN_le _ _)]
    rw [if_neg h4] at h ⊢
    rw [if_neg h4]
    by_cases h5 : c.toNat = 34
    · rw [if_pos h5] at h ⊢
      rw [if_pos h5]
      unfold quoteW at h ⊢
      by_cases h6 : takeN noQ l < l.length ∧ nameS (l.take (takeN noQ l)) = true
      · rw [takeN_append noQ l _ h6.1, List.take_append_of_le_length (takeN_le _ _), if_pos h6, if_pos ⟨by rw [List.length_append]; omega, h6.2⟩]
      · rw [if_neg h6] at h; exact absurd h (by decide)
    rw [if_neg h5] at h ⊢
    rw [if_neg h5]
    by_cases h6 : digC c.toNat = true
    · rw [if_pos h6] at h ⊢
      rw [if_pos h6]
      unfold spanW at h ⊢
      by_cases h7 : (parseD (spanE (c :: l))).2 = 0
      · have hr := span_room h7
        have e : spanE (c :: (l ++ 10 :: m)) = spanE (c :: l) := by
          unfold spanE
          rw [← List.cons_append, takeN_append digC (c :: l) _ hr, List.take_append_of_le_length hr]
        rw [e]
      · rw [if_neg h7] at h; exact absurd h h7
    · rw [if_neg h6] at h; exact absurd h (by decide)
def Tk.on (d : Nat) (t : Tk) : Tk := { t with at_ := t.at_ + d }
theorem lex_on (d : Nat) : ∀ (f a : Nat) (r : List UInt8), lexL f (a + d) r = ((lexL f a r).1.map (Tk.on d), (lexL f a r).2.1 + d, (lexL f a r).2.2)
  | 0, a, r => rfl
  | f + 1, a, r => by
    by_cases h : r.drop (skipN false r) = []
    · rw [lex_end h, lex_end h]
      refine Prod.ext rfl (Prod.ext ?_ rfl)
      show a + d + _ = a + _ + d
      omega
    · by_cases h0 : (oneW (r.drop (skipN false r))).e = 0
      · rw [lex_one h h0, lex_one h h0, show a + d + skipN false r + (oneW (r.drop (skipN false r))).size = a + skipN false r + (oneW (r.drop (skipN false r))).size + d by omega, lex_on d f]
        refine Prod.ext ?_ (Prod.ext rfl rfl)
        show _ :: _ = _ :: _
        congr 1
        unfold Tk.on
        simp only [Tk.mk.injEq, true_and]
        omega
      · rw [lex_bad h h0, lex_bad h h0]
        refine Prod.ext rfl (Prod.ext ?_ rfl)
        show a + d + _ = a + _ + d
        omega
theorem lex_join : ∀ (f a : Nat) (l m : List UInt8), (l ++ 10 :: m).length < f → (lexL f a l).2.2 = 0 →
    lexL f a (l ++ 10 :: m) = ((lexL f a l).1 ++ (lexL f (a + l.length + 1) m).1, (lexL f (a + l.length + 1) m).2)
  | 0, _, _, _, h, _ => absurd h (Nat.not_lt_zero _)
  | f + 1, a, l, m, hf, he => by
    have hs := skip_le false l
    have hj := skip_join false l m
    rw [List.length_append, List.length_cons] at hf
    by_cases h : l.drop (skipN false l) = []
    · rw [if_pos h] at hj
      rw [lex_end h]
      have hd : (l ++ 10 :: m).drop (skipN false (l ++ 10 :: m)) = m.drop (skipN false m) := by
        rw [hj, show l.length + 1 + skipN false m = l.length + (1 + skipN false m) by omega, ← List.drop_drop, List.drop_left, Nat.add_comm 1, List.drop_succ_cons]
      have e2 : a + skipN false (l ++ 10 :: m) = a + l.length + 1 + skipN false m := by omega
      rw [lexL, lexL, hd, e2]
      try rfl
    · by_cases h0 : (oneW (l.drop (skipN false l))).e = 0
      · rw [if_neg h] at hj
        have hd : (l ++ 10 :: m).drop (skipN false (l ++ 10 :: m)) = l.drop (skipN false l) ++ 10 :: m := by rw [hj, List.drop_append_of_le_length hs]
        have hne : (l ++ 10 :: m).drop (skipN false (l ++ 10 :: m)) ≠ [] := by rw [hd]; simp
        have ho := one_join m h0
        have o1 := one_size h0
        have hl := drop_less h h0
        rw [List.length_drop] at o1
        rw [lex_one h h0] at he ⊢
        rw [lex_one hne (by rw [hd, ho]; exact h0), hd, ho, hj, List.drop_append_of_le_length (by rw [List.length_drop]; exact o1.2.1)]
        have ih := lex_join f (a + skipN false l + (oneW (l.drop (skipN false l))).size) ((l.drop (skipN false l)).drop (oneW (l.drop (skipN false l))).size) m (by rw [List.length_append, List.length_cons]; omega) he
        have ea : a + skipN false l + (oneW (l.drop (skipN false l))).size + ((l.drop (skipN false l)).drop (oneW (l.drop (skipN false l))).size).length + 1 = a + l.length + 1 := by rw [List.length_drop, List.length_drop]; omega
        rw [ea] at ih
        rw [ih, lex_fuel f (f + 1) (a + l.length + 1) m (by omega) (by omega)]
        rfl
      · rw [lex_bad h h0] at he; exact absurd he h0
theorem all_join {s t : List UInt8} (hs : s.length ≤ 300) (ht : t.length ≤ 290) (h1 : (allS s).2.2 = 0) (h2 : (allS t).2.2 = 0) :
    allS (s ++ 10 :: t) = ((allS s).1 ++ (allS t).1.map (Tk.on (s.length + 1)), s.length + t.length + 1, 0) := by
  have alls : ∀ u : List UInt8, u.length ≤ 600 → (allS u).2.2 = 0 → (lexL (u.length + 1) 0 u).2.2 = 0 ∧ allS u = lexL (u.length + 1) 0 u := by
    intro u hu h
    unfold allS at h ⊢
    rw [if_neg (by omega)] at h ⊢
    by_cases h2 : (lexL (u.length + 1) 0 u).2.2 = 0
    · rw [if_pos h2]; exact ⟨h2, rfl⟩
    · rw [if_neg h2] at h; exact absurd h h2
  obtain ⟨e1, a1⟩ := alls s (by omega) h1
  obtain ⟨e2, a2⟩ := alls t (by omega) h2
  have hlen : (s ++ 10 :: t).length = s.length + t.length + 1 := by rw [List.length_append, List.length_cons]; omega
  have f1 := lex_fuel (s.length + 1) (s.length + t.length + 2) 0 s (by omega) (by omega)
  have f2 := lex_fuel (t.length + 1) (s.length + t.length + 2) 0 t (by omega) (by omega)
  have p2 := (lex_place (t.length + 1) 0 t (by omega)).2.2 e2
  have j := lex_join (s.length + t.length + 2) 0 s t (by omega) (by rw [← f1]; exact e1)
  have o := lex_on (s.length + 1) (s.length + t.length + 2) 0 t
  rw [show 0 + s.length + 1 = 0 + (s.length + 1) by omega, o, ← f1, ← f2, e2] at j
  have e3 : allS (s ++ 10 :: t) = lexL (s.length + t.length + 2) 0 (s ++ 10 :: t) := by
    unfold allS
    rw [if_neg (by omega), hlen, if_pos (by rw [j])]
  rw [e3, j, a1, a2]
  refine Prod.ext rfl (Prod.ext ?_ rfl)
  show (lexL (t.length + 1) 0 t).2.1 + (s.length + 1) = s.length + t.length + 1
  omega
end
section
open Go.RowKit Go.ChangeShapes Go.WideShapes Go.Joins
theorem cells_byte : Tryd.prog.cellsOf 5 = 1 := by kernel_rfl
def byteOf (z : Int) : UInt8 := UInt8.ofNat z.toNat
theorem byteOf_nat {z : Int} (h : (Lit.int .u8 z).wf = true) : ((byteOf z).toNat : Int) = z := by
  have hx : 0 ≤ z ∧ z ≤ 255 := by simpa [Lit.wf, IntKind.min, IntKind.max, IntKind.signed, IntKind.bits] using h
  unfold byteOf
  have : (UInt8.ofNat z.toNat).toNat = z.toNat % 256 := by simp
  rw [this]
  omega
theorem BS_of_trod {H : Type} {enc : TypeId × Value → H} {W : World} {fuel : Nat} {v : Value} {x : DataW H × List MemPlace}
    (h : DataW.trod enc Tryd.prog W 0 (fun _ => true) true fuel 97 [v] = some x) : ∃ l, BS W (fun _ => True) v l := by
  rcases open_ints Tryd.underlying97 Tryd.underlying5 cells_byte h with ⟨hcs, _⟩ | ⟨a, len, cap, zs, hcs, _, hl, hm, hz, _, hcell, hwz⟩
  · simp at hcs
    subst hcs
    exact ⟨[], BS.nil _ _⟩
  · simp at hcs
    subst hcs
    simp only [if_true] at hz
    have hlen : ((zs.take len).map byteOf).length = len := by simp; omega
    refine ⟨(zs.take len).map byteOf, some a, cap, by rw [hlen], by omega, hm, (fun h => by cases h), fun h0 => ?_⟩
    rw [hlen] at h0
    obtain ⟨b, o, rfl, hc⟩ := ints_at hcell (by omega)
    refine ⟨b, o, rfl, trivial, World.block_lt_of_cell? _ _ (hc 0 (by omega)), fun j u hu => ?_⟩
    have hj : j < len := by
      have := (List.getElem?_eq_some_iff.1 hu).1
      omega
    rw [hc j (by omega)]
    have hjz : j < zs.length := by omega
    simp [hj, List.getElem?_eq_getElem hjz] at hu
    subst hu
    unfold bv
    rw [byteOf_nat (hwz _ (List.getElem_mem hjz))]
    simp [List.getD, List.getElem?_eq_getElem hjz]
theorem BS_of_arg {H : Type} {enc : TypeId × Value → H} {W : World} {base : Nat} {v : Value} {d : DataW H} {p : List MemPlace}
    (ok : Value.okWide Tryd.prog W .any base 97 v) (h : DataW.Trod enc Tryd.prog W 0 (fun _ => true) true 97 v d p) : ∃ l, BS W (fun _ => True) v l := by
  obtain ⟨a0, len, cap, rfl⟩ := okWide_slice Tryd.underlying97 ok
  obtain ⟨fuel, hf⟩ := h
  exact BS_of_trod (x := _) hf
theorem cells_bytes : Tryd.prog.cellsOf 97 = 1 := by kernel_rfl
end
section
open Go.RowKit
theorem nums_str (l : List UInt8) : strOfNums (l.map fun b => (b.toNat : Int)) = ⟨l.toArray⟩ := by
  unfold strOfNums
  congr 2
  rw [List.map_map]
  have : ((fun n : Int => UInt8.ofNat n.toNat) ∘ fun b : UInt8 => (b.toNat : Int)) = id := by
    funext b
    simp
  rw [this, List.map_id]
theorem BS.str {P : Program} {w : World} {S : Nat → Prop} {v : Value} {l : List UInt8} (h : BS w S v l) {src e dst : TypeId} (hs : P.underlying src = some (.slice e)) (he : P.underlying e = some (.int .u8)) (hd : P.underlying dst = some .string) :
    (convert src dst v).run P w = .ok (.string ⟨l.toArray⟩) w := by
  obtain ⟨A, c, rfl, hc, hm, hn⟩ := h.form
  by_cases h0 : l = []
  · subst h0
    cases A with
    | none => exact run_convert_bytes_nil w src e hs he 0 c dst hd
    | some a =>
      obtain ⟨b, o, s⟩ := a
      have hz : ∀ (a : Addr), (loadCells a 0).run P w = .ok #[] w := by
        intro a
        simp [loadCells, loadCellsFrom]
      rw [run_convert_bytes_string w src dst e _ _ _ hs he hd]
      simp [Conv.bytesToString, hz]
      rfl
  · have hp : 0 < l.length := by cases l with
    | nil => exact absurd rfl h0
    | cons a t => simp
    obtain ⟨b, o, rfl, _, _, hx⟩ := h.at_ hp
    have := run_convert_bytes_arg (P := P) w src e hs he b o l.length c (l.map fun b => (b.toNat : Int)) (by simp) (fun i hi => by
      have := hx i l[i] (List.getElem?_eq_getElem hi)
      rw [this]
      simp [List.getD, List.getElem?_eq_getElem hi]) dst hd
    rw [nums_str] at this
    exact this
theorem cell_bv : Extern.Stop.cell = bv := rfl
theorem eq_bytes {P : Program} (w : World) (d : Nat) (t e : TypeId) (n : Nat) (ht : P.underlying t = some (.array n e)) (he : P.underlying e = some (.int .u8)) (hsz : ∀ w, (sizeOf e).run P w = .ok 1 w)
    (xs ys : List UInt8) (hx : xs.length = n) (hy : ys.length = n) :
    (Op.equalIn (d + 2) t (.agg (xs.map bv).toArray) (.agg (ys.map bv).toArray)).run P w = .ok (xs == ys) w :=
  run_equalIn_bytes w d t e n ht he hsz xs ys hx hy
theorem LS.one {w : World} {S : Nat → Prop} {x : Value} {l : List UInt8} {t : TypeId} (hx : BS w S x l) :
    LS (w.alloc (.cells #[x] t)) (fun b => S b ∨ b = w.heap.size) (.slice (some ⟨w.heap.size, 0, none⟩) 1 1) [l] := by
  refine ⟨_, 1, rfl, by simp, by simp [maxLen], fun _ => ⟨w.heap.size, 0, rfl, .inr rfl, by simp, fun j l' hj => ?_⟩⟩
  have hk := KB.new w t #[x]
  match j, hj with
  | 0, hj => simp at hj; subst hj; exact ⟨x, hk.cell 0, (hx.alloc _).mono fun b h => .inl h⟩
theorem LS.lt {w : World} {S : Nat → Prop} {v : Value} {ls : List (List UInt8)} (h : LS w S v ls) : LS w (fun b => b < w.heap.size) v ls := by
  obtain ⟨A, c, e, hl, hc, hx⟩ := h
  refine ⟨A, c, e, hl, hc, fun h0 => ?_⟩
  obtain ⟨b, o, ea, sb, hb, hx⟩ := hx h0
  refine ⟨b, o, ea, hb, hb, fun j l hj => ?_⟩
  obtain ⟨x, h1, h2⟩ := hx j l hj
  exact ⟨x, h1, h2.lt.mono fun _ h => h.2⟩
theorem LS.nil (w : World) (S : Nat → Prop) : LS w S (.slice none 0 0) [] := ⟨none, 0, rfl, by simp, by simp [maxLen], fun h => absurd h (by simp)⟩
def rowOf (w : World) (g : Nat) : Array Value := match w.heap[g]? with
  | some (.cells cs _ _) => cs
  | _ => #[]
theorem rowOf_kb {w : World} {g : Nat} {t : TypeId} {cs : Array Value} (h : KB w g t cs) : rowOf w g = cs := by
  unfold rowOf
  unfold KB at h
  rw [h]
theorem rowOf_drew (w : World) (g : Nat) : rowOf w.drew g = rowOf w g := rfl
theorem rowOf_drewN (w : World) (g n : Nat) : rowOf (w.drewN n) g = rowOf w g := rfl
theorem run_loadAt_rowOf {P : Program} {ty e : TypeId} {n : Nat} (hu : P.underlying ty = some (.array n e)) {m : Nat} (hi : (P.info? ty).map (·.size) = some m) (hm : 0 < m) (w : World) (g : Nat) (h : (rowOf w g).size = m) :
    (Instr.loadAt ty (.pointer (some ⟨g, 0, none⟩))).run P w = .ok (.agg (rowOf w g)) w := by
  have hr : w.rangeAt g 0 (rowOf w g).toList := by
    intro j v hj
    unfold rowOf at hj h
    split at hj
    · rename_i cs t fr hg
      rw [cell_of_row w g (0 + j) cs t fr hg, Nat.zero_add]
      simpa using hj
    · simp at hj
  have := run_loadAt_mid (P := P) w g 0 ty (rowOf w g).toList _ hr hu rfl (by rw [hi]; simp [h])
  simpa using this
def ptrBlock (v : Value) : Nat := match v with
  | .pointer (some ⟨g, 0, none⟩) => g
  | _ => 0
theorem ptrBlock_mk (g : Nat) : ptrBlock (.pointer (some ⟨g, 0, none⟩)) = g := rfl
theorem wp_load_rowOf {P : Program} {ty e : TypeId} {n : Nat} (hu : P.underlying ty = some (.array n e)) {m : Nat} (hi : (P.info? ty).map (·.size) = some m) (hm : 0 < m)
    {d : Option Tmp} {x : Operand} {t : TypeId} {pos : String} {after : Array Edge} {gd : Option (Nat × Bool)} {a : Act} {w : World} {K : Act → World → Prop} {Q : Exit → Act → World → Prop}
    (hx : a.eval x = .pointer (some ⟨ptrBlock (a.eval x), 0, none⟩)) (h : (rowOf w (ptrBlock (a.eval x))).size = m) :
    Oper.wp P { dst := d, op := Op.load ty x, type := t, pos := pos, after := after, guard := gd } a w K Q = K (a.put d (.agg (rowOf w (ptrBlock (a.eval x))))) w := by
  have hrun := run_loadAt_rowOf (P := P) hu hi hm w _ h
  rw [← hx] at hrun
  unfold Oper.wp execOp
  simp only [Sem.run_bind, hrun, Result.andThen_ok, Sem.run_pure]
  rfl
end
section
open Go.RowKit
theorem info_byte : (Tryd.prog.info? 5).map (fun i => (i.zero, i.size, i.bytes)) = some (some (.int .u8 0), 1, 1) := by kernel_rfl
theorem own_BS {w' : World} {v : Value} {l : List UInt8} {B : Nat} (h : w'.ownsRow B 5 1 v l.length (l.map bv)) : BS w' (fun b => B ≤ b ∧ b < w'.heap.size) v l := (BS.of_own h).lt
theorem drewN_twice (w : World) (n m : Nat) : (w.drewN n).drewN m = w.drewN (n + m) := by simp [World.drewN, Nat.add_assoc]
theorem ret_int {k : IntKind} {a b : Int} (h : a = b) : Ending.returned (.int k a) = .returned (.int k b) := by rw [h]
theorem own_base {w : World} {B B' e size n : Nat} {v : Value} {xs : List Value} (h : w.ownsRow B' e size v n xs) (hB : B ≤ B') : w.ownsRow B e size v n xs := by
  obtain ⟨h1, h2⟩ := h
  refine ⟨h1, ?_⟩
  rcases h2 with h2 | ⟨g, c, cur, a, b, r⟩
  · exact .inl h2
  · exact .inr ⟨g, c, cur, a, by omega, r⟩
def Fresh (w : World) (e : Ending) (w' : World) (l : List UInt8) : Prop :=
  ∃ v, e = .returned v ∧ w'.ownsRow w.heap.size 5 1 v l.length (l.map bv) ∧ Below w.heap.size w w'
theorem lit_one (w : World) (m : Nat) (base : Nat) (hb : base ≤ w.heap.size) : (w.alloc (.cells #[bv (UInt8.ofNat (m % 256))] 5)).ownsRow base 5 1 (.slice (some ⟨w.heap.size, 0, none⟩) 1 1) [UInt8.ofNat (m % 256)].length ([UInt8.ofNat (m % 256)].map bv) :=
  World.ownsRow_lit w #[bv (UInt8.ofNat (m % 256))] 1 hb (by simp [maxLen]) rfl
theorem byte_mod (m : Nat) : Value.int .u8 ((m : Int) % 256) = bv (UInt8.ofNat (m % 256)) := by
  unfold bv
  have : (UInt8.ofNat (m % 256)).toNat = m % 256 := by simp
  rw [this]
  congr 1
end
end Go.Proofs.YthindhlogkhclaaDoor
