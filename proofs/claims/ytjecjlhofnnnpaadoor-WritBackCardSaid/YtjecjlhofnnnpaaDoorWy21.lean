/-
  WvL: num and live: the page's example (layer 21), over the loaded program. No condition but that the library's table and errors are as laid.
  WrQ: Plain mathematics of layer 21 (writ): the words of a scope that may be are read as that scope, whatever stands behind that is no 'and' and no 'or'. No program. No condition.
  ScE: The document's Same (layer 20), over the loaded program: its contract. No condition.
-/
import Derived.Test.YtjecjlhofnnnpaaDoorWy17
import Derived.Test.YtjecjlhofnnnpaaDoorWy20
import Derived.Test.YtjecjlhofnnnpaaDoorWy04
import Derived.Test.YtjecjlhofnnnpaaDoorWy05
import Derived.Deep.RegionHeld3
set_option linter.unusedVariables false
set_option maxRecDepth 100000
namespace Go.Proofs.YtjecjlhofnnnpaaDoor
section
open Go.RowKit
theorem wlnum_any (e : Int) (he : I64 e) (w : World) : Calls Tryd.prog 7 #[.int .i64 e] w fun r w' => r = .returned (.int .i64 e) ∧ w' = w := by
  have W1 : wrap64 e = e := IntWalk.wrap64_in _ (by unfold I64 at he; omega)
  go_enter Tryd.func7, Tryd.ntmps7
  go_wp2_with fail
  go_ret
  exact ⟨rfl, rfl⟩
def exW : List UInt8 := [99, 97, 115, 101, 32, 97, 32, 97, 110, 100, 32, 110, 111, 116, 32, 40, 32, 115, 117, 98, 106, 101, 99, 116, 32, 98, 32, 111, 114, 32, 116, 105, 109, 101, 32, 53, 45, 57, 32, 41]
theorem exW_ok : (parseSc exW).2 = 0 := by decide +kernel
theorem exW_text : textSc 85 (parseSc exW).1 = (exW, 0) := by decide +kernel
theorem exW_op : opS 85 (parseSc exW).1 = 6 := by decide +kernel
def Yes21 (w : World) (e : Ending) (w' : World) : Prop := e = .returned (.bool true) ∧ Below w.heap.size w w'
set_option maxHeartbeats 4000000 in
theorem live21_any (w : World) (hT : Tabs w) : Calls Tryd.prog 5 #[] w (Yes21 w) := by
  have hp := pparse_any exW (by decide) w hT
  have HTX : Hid (∀ S W v, Below w.heap.size w W → (∀ b, S b → b < W.heap.size) → ZV W S 85 v (parseSc exW).1 → Calls Tryd.prog 6 #[v] W fun e w' => e = .returned (.tuple #[strV exW, .int .i64 0]) ∧ Below W.heap.size W w') := fun S W v hb hS hv => by
    have := pText_any S 85 (parseSc exW).1 v W hS (hT.below hb).1 hv
    rw [exW_text] at this
    exact this
  have HOP := Lib.hid exW_op
  unfold ParseZ at hp
  rw [exW_ok] at hp
  generalize (parseSc exW).1 = X at *
  have eex : strV exW = .string ⟨#[99, 97, 115, 101, 32, 97, 32, 97, 110, 100, 32, 110, 111, 116, 32, 40, 32, 115, 117, 98, 106, 101, 99, 116, 32, 98, 32, 111, 114, 32, 116, 105, 109, 101, 32, 53, 45, 57, 32, 41]⟩ := rfl
  rw [eex] at hp HTX
  have HL := Lib.hid (wlnum_any 0 (by unfold I64; omega))
  clear hT eex
  go_enter Tryd.func5, Tryd.ntmps5
  go_wp2_with fail
  refine hp.mono ?_
  rintro e w1 ⟨v1, rfl, z1, b1⟩
  have B1 := b1
  obtain ⟨i0, l1, i2, i3, X4, n4, z4, rfl⟩ := z1.form
  have e0 := z1.op
  rw [HOP.out] at e0
  injection e0 with _ e0
  subst e0
  have z2 := z1.alloc (.cells #[.int .i64 6, strV l1, .int .i64 i2, .int .i64 i3, .slice X4 n4 z4] 24)
  have k1 := KB.new w1 24 #[.int .i64 6, strV l1, .int .i64 i2, .int .i64 i3, .slice X4 n4 z4]
  have B2 := B1.alloc B1.size (.cells #[.int .i64 6, strV l1, .int .i64 i2, .int .i64 i3, .slice X4 n4 z4] 24)
  have ht := HTX.out _ _ _ B2 (fun b hb => by have := hb.2; simp; omega) z2
  unfold strV at *
  generalize (⟨l1.toArray⟩ : ByteArray) = s at *
  clear hp z1 z2 b1 B1 HTX HOP
  go_wp2_with fail
  refine ht.mono ?_
  rintro e w2 ⟨rfl, b2⟩
  have k2 := k1.below b2 k1.lt
  have B3 := B2.trans (b2.mono B2.size)
  have q0 : w2.cell? ⟨w1.heap.size, 0, none⟩ = some (.int .i64 6) := k2.cell 0
  have hl := HL.out w2
  clear ht k1 b2 B2
  go_wp2_with (go_at_call 7; refine hl.mono ?_; rintro e w' ⟨rfl, rfl⟩)
  go_ret
  exact ⟨rfl, B3⟩
end
section
open Go.Lib
theorem wmany_reads {α β : Type} {g : List Wv → Option (β × List Wv)} {s : Wv} {P : List Wv → Prop} {R : α → β → Bool} {T : α → List Wv} (hg : Shrinks g) (hP : ∀ r, P (s :: r)) :
    ∀ (ks : List α) (rest : List Wv), ks ≠ [] → P rest → rest.head? ≠ some s → (∀ k ∈ ks, ∀ r, P r → ∃ u, g (T k ++ r) = some (u, r) ∧ R k u = true) →
      ∃ us, manyL g s (sepW s (ks.map T) ++ rest) = some (us, rest) ∧ sameSL R ks us = true
  | [], _, h, _, _, _ => absurd rfl h
  | [k], rest, _, hr, hh, hk => by
    obtain ⟨u, hu, hR⟩ := hk k (List.mem_cons_self ..) rest hr
    refine ⟨[u], ?_, by rw [sameSL, hR]; rfl⟩
    rw [List.map_cons, List.map_nil, sepW, manyL_eq hg, hu]
    cases rest with
    | nil => rfl
    | cons w r => exact if_neg fun e => hh (by rw [e]; rfl)
  | k :: k2 :: ks, rest, _, hr, hh, hk => by
    obtain ⟨u, hu, hR⟩ := hk k (List.mem_cons_self ..) (s :: (sepW s ((k2 :: ks).map T) ++ rest)) (hP _)
    obtain ⟨us, h1, h2⟩ := wmany_reads hg hP (k2 :: ks) rest (by simp) hr hh fun x hx => hk x (List.mem_cons_of_mem _ hx)
    refine ⟨u :: us, ?_, by rw [sameSL, hR, h2]; rfl⟩
    rw [List.map_cons, List.map_cons, sepW, List.append_assoc, List.cons_append, ← List.map_cons, manyL_eq hg, hu]
    dsimp only
    rw [if_pos rfl, h1]
    rfl
theorem many_one {β : Type} {g : List Wv → Option (β × List Wv)} {s : Wv} {ws rest : List Wv} {u : β} (hg : Shrinks g) (hu : g ws = some (u, rest)) (hh : rest.head? ≠ some s) : manyL g s ws = some ([u], rest) := by
  rw [manyL_eq hg, hu]
  cases rest with
  | nil => rfl
  | cons w r => exact if_neg fun e => hh (by rw [e]; rfl)
theorem same_liftS {f g : Nat} {x : Sc f} {u : Sc g} (h : sameS f g x u = true) : sameS f (g + 1) x (liftS g u) = true :=
  sameS_trans f g (g + 1) x u (liftS g u) h (sameS_sym (g + 1) g (liftS g u) u (sameS_lift g u))
theorem qone_many {f : Nat} {op : Int} {l : List (Sc f)} (h : 2 ≤ l.length) : oneV op l = (⟨op, [], 0, 0, l⟩ : Ns (Sc f)) := by
  match l, h with
  | a :: b :: l, _ => rfl
theorem and_one {f : Nat} {g : List Wv → Option (Sc f × List Wv)} {ws rest : List Wv} {u : Sc f} (hg : Shrinks g) (hu : g ws = some (u, rest)) (hh : rest.head? ≠ some wAnd) : andV g ws = some (liftS f u, rest) := by
  unfold andV; rw [many_one hg hu hh]; rfl
theorem or_one {f : Nat} {g : List Wv → Option (Sc f × List Wv)} {ws rest : List Wv} {u : Sc (f + 1)} (hg : Shrinks g) (hu : andV g ws = some (u, rest)) (hh : rest.head? ≠ some wOr) : orV g ws = some (liftS (f + 1) u, rest) := by
  unfold orV; rw [many_one (andW_shrinks hg) hu hh]; rfl
theorem fact_succ (d : Nat) (w : Wv) (ws : List Wv) : factW (d + 1) (w :: ws) =
      if w = wNot then (factW d ws).map fun p => (notsS p.1, p.2)
      else if w = wOpen then (orV (factW d) ws).bind fun p => match p.2 with
        | [] => none
        | c :: rest => if c = wClose then some (p.1, rest) else none
      else if w = wAll then some (leafS 1 [] 0 0, ws)
      else match ws with
        | [] => none
        | n :: rest =>
          if w = wTime then (timeW n).map fun p => (leafS 5 [] (p.1 : Int) (p.2 : Int), rest)
          else if namesOp w = 0 ∨ nameS n = false then none else some (leafS (namesOp w) n 0 0, rest) := rfl
def FactOk (f : Nat) : Prop := ∀ (x : Sc f) (e d : Nat), okS f x e = true → 2 * e ≤ d + 1 → opS f x ≠ 6 → opS f x ≠ 7 → ∀ rest, ∃ u, factW d (toksW f x ++ rest) = some (u, rest) ∧ sameS f (2 * d + 1) x u = true
def KidOk (f : Nat) : Prop := ∀ (x : Sc f) (e d : Nat), okS f x e = true → 2 * e ≤ d → ∀ op, op ≠ 7 → ∀ rest, ∃ u, factW d (kidW f op x ++ rest) = some (u, rest) ∧ sameS f (2 * d + 1) x u = true
def TermOk (f : Nat) : Prop := ∀ (x : Sc f) (e d : Nat), okS f x e = true → 2 * e ≤ d → ∀ rest, rest.head? ≠ some wAnd → ∃ u, andV (factW d) (kidW f 7 x ++ rest) = some (u, rest) ∧ sameS f (2 * d + 2) x u = true
def WholeOk (f : Nat) : Prop := ∀ (x : Sc f) (e d : Nat), okS f x e = true → 2 * e ≤ d + 1 → ∀ rest, rest.head? ≠ some wAnd → rest.head? ≠ some wOr → ∃ u, orV (factW d) (toksW f x ++ rest) = some (u, rest) ∧ sameS f (2 * d + 3) x u = true
theorem depth_pos {f : Nat} {x : Sc f} {e : Nat} (h : okS f x e = true) : 1 ≤ e := by
  match f, x, h with
  | f + 1, (x : Ns (Sc f)), h =>
    have := (wok_fits h).1
    omega
theorem kids_depth {f : Nat} {x : Ns (Sc f)} {e : Nat} (h : okS (f + 1) x e = true) : ∀ k ∈ x.kids, okS f k ((e - 1 : Nat) : Int) = true := fun k hk => by
  have h1 := (wok_fits h).1
  have := (wok_fits h).2.2 k hk
  rwa [show ((e : Int) - 1) = ((e - 1 : Nat) : Int) by omega] at this
theorem leaf_same {f g : Nat} {x : Ns (Sc f)} {op : Int} {n : Wv} {a b : Int} (h1 : x.op = op) (h2 : x.name = n) (h3 : x.from_ = a) (h4 : x.to_ = b) (h5 : x.kids = []) : sameS (f + 1) (g + 1) x (leafS op n a b) = true :=
  sameS_parts.2 ⟨h1, h2, h3, h4, by rw [h5]; rfl⟩
theorem fact_ok {f : Nat} (hkid : KidOk f) : FactOk (f + 1) := by
  intro (x : Ns (Sc f)) e d h hd h6 h7 rest
  rw [opS_eq] at h6 h7
  obtain ⟨_, hf, _⟩ := wok_fits h
  have hpos := depth_pos h
  obtain ⟨d, rfl⟩ : ∃ d', d = d' + 1 := ⟨d - 1, by omega⟩
  obtain ⟨hr, _⟩ := (fits_iff x).1 hf
  rw [toksW_eq]
  by_cases h1 : x.op = 1
  · rw [if_pos h1]
    refine ⟨leafS 1 [] 0 0, ?_, leaf_same h1 (fits_plain hf (by omega)) (fits_zero hf (by omega)).1 (fits_zero hf (by omega)).2 (fits_all hf h1)⟩
    show factW (d + 1) (wAll :: rest) = _
    rw [fact_succ, if_neg (by decide), if_neg (by decide), if_pos rfl]
  rw [if_neg h1]
  by_cases h2 : x.op = 2
  · obtain ⟨n1, n2, n3, n4⟩ := fits_named hf (.inl h2)
    rw [if_pos h2]
    refine ⟨leafS 2 x.name 0 0, ?_, leaf_same h2 rfl n2 n3 n4⟩
    show factW (d + 1) (wCase :: x.name :: rest) = _
    rw [fact_succ, if_neg (by decide), if_neg (by decide), if_neg (by decide)]
    dsimp only
    rw [if_neg (by decide), if_neg (by rw [n1]; decide)]
    rfl
  rw [if_neg h2]
  by_cases h3 : x.op = 3
  · obtain ⟨n1, n2, n3, n4⟩ := fits_named hf (.inr (.inl h3))
    rw [if_pos h3]
    refine ⟨leafS 3 x.name 0 0, ?_, leaf_same h3 rfl n2 n3 n4⟩
    show factW (d + 1) (wSubj :: x.name :: rest) = _
    rw [fact_succ, if_neg (by decide), if_neg (by decide), if_neg (by decide)]
    dsimp only
    rw [if_neg (by decide), if_neg (by rw [n1]; decide)]
    rfl
  rw [if_neg h3]
  by_cases h4 : x.op = 4
  · obtain ⟨n1, n2, n3, n4⟩ := fits_named hf (.inr (.inr h4))
    rw [if_pos h4]
    refine ⟨leafS 4 x.name 0 0, ?_, leaf_same h4 rfl n2 n3 n4⟩
    show factW (d + 1) (wClass :: x.name :: rest) = _
    rw [fact_succ, if_neg (by decide), if_neg (by decide), if_neg (by decide)]
    dsimp only
    rw [if_neg (by decide), if_neg (by rw [n1]; decide)]
    rfl
  rw [if_neg h4]
  by_cases h5 : x.op = 5
  · obtain ⟨n1, n2, n3, n4⟩ := fits_time hf h5
    rw [if_pos h5]
    refine ⟨leafS 5 [] (x.from_.toNat : Int) (x.to_.toNat : Int), ?_, leaf_same h5 (fits_plain hf (by omega)) (by omega) (by omega) n4⟩
    show factW (d + 1) (wTime :: spanV x.from_ x.to_ :: rest) = _
    rw [fact_succ, if_neg (by decide), if_neg (by decide), if_neg (by decide)]
    dsimp only
    rw [if_pos rfl, time_span n1 n2 n3]
    rfl
  rw [if_neg h5]
  have h8 : x.op = 8 := by omega
  obtain ⟨k, ek⟩ := fits_not hf h8
  rw [if_pos h8, ek]
  dsimp only
  obtain ⟨u, hu, hs⟩ := hkid k (e - 1) d (kids_depth h k (by rw [ek]; simp)) (by omega) 8 (by decide) rest
  refine ⟨notsS u, ?_, ?_⟩
  · rw [List.cons_append, fact_succ, if_pos rfl, hu]; rfl
  · refine same_liftS (g := 2 * d + 2) ?_
    refine sameS_parts.2 ⟨h8, fits_plain hf (by omega), (fits_zero hf (by omega)).1, (fits_zero hf (by omega)).2, ?_⟩
    rw [ek, sameSL, hs]; rfl
theorem toks_many {f : Nat} {x : Ns (Sc f)} (hk : x.op = 6 ∨ x.op = 7) : toksW (f + 1) x = sepW (if x.op = 7 then wOr else wAnd) (x.kids.map (kidW f x.op)) := by
  rw [toksW_eq, if_neg (by omega), if_neg (by omega), if_neg (by omega), if_neg (by omega), if_neg (by omega), if_neg (by omega)]
theorem and_ok {f : Nat} (hkid : KidOk f) {x : Ns (Sc f)} {e d : Nat} (h : okS (f + 1) x e = true) (hd : 2 * e ≤ d + 1) (h6 : x.op = 6) (rest : List Wv) (hr : rest.head? ≠ some wAnd) :
    ∃ u, andV (factW d) (toksW (f + 1) x ++ rest) = some (u, rest) ∧ sameS (f + 1) (2 * d + 2) x u = true := by
  obtain ⟨_, hf, _⟩ := wok_fits h
  have hpos := depth_pos h
  have h2 := wfits_many hf (.inl h6)
  obtain ⟨us, e1, e2⟩ := wmany_reads (g := factW d) (s := wAnd) (P := fun _ => True) (R := fun k u => sameS f (2 * d + 1) k u) (T := kidW f x.op) (factW_shrinks d) (fun _ => trivial) x.kids rest (by intro e; rw [e] at h2; simp at h2) trivial hr
    fun k hk r _ => hkid k (e - 1) d (kids_depth h k hk) (by omega) x.op (by omega) r
  have hl := sameSL_len _ _ e2
  refine ⟨oneV 6 us, ?_, ?_⟩
  · rw [toks_many (.inl h6), if_neg (by omega)]
    unfold andV
    rw [e1]; rfl
  · rw [qone_many (by omega)]
    exact sameS_parts.2 ⟨h6, fits_plain hf (by omega), (fits_zero hf (by omega)).1, (fits_zero hf (by omega)).2, e2⟩
theorem kid_bare {f : Nat} {op : Int} {x : Sc f} (h : ¬ (opS f x = 7 ∨ (opS f x = 6 ∧ op ≠ 7))) : kidW f op x = toksW f x := by
  unfold kidW bracedW
  rw [if_neg (by rw [decide_eq_true_eq]; exact h)]
theorem kid_braced {f : Nat} {op : Int} {x : Sc f} (h : opS f x = 7 ∨ (opS f x = 6 ∧ op ≠ 7)) : kidW f op x = wOpen :: (toksW f x ++ [wClose]) := by
  unfold kidW bracedW
  rw [if_pos (by rw [decide_eq_true_eq]; exact h)]
theorem whole_ok {f : Nat} (hkid : KidOk f) (hterm : TermOk f) : WholeOk (f + 1) := by
  intro (x : Ns (Sc f)) e d h hd rest hr1 hr2
  have hpos := depth_pos h
  by_cases h7 : x.op = 7
  · obtain ⟨_, hf, _⟩ := wok_fits h
    have h2 := wfits_many hf (.inr h7)
    obtain ⟨us, e1, e2⟩ := wmany_reads (g := andV (factW d)) (s := wOr) (P := fun r => r.head? ≠ some wAnd) (R := fun k u => sameS f (2 * d + 2) k u) (T := kidW f x.op) (andW_shrinks (factW_shrinks d)) (fun r => by simp [wOr, wAnd]) x.kids rest (by intro e; rw [e] at h2; simp at h2) hr1 hr2
      fun k hk r hrr => by rw [h7]; exact hterm k (e - 1) d (kids_depth h k hk) (by omega) r hrr
    have hl := sameSL_len _ _ e2
    refine ⟨oneV 7 us, ?_, ?_⟩
    · rw [toks_many (.inr h7), if_pos h7]
      unfold orV
      rw [e1]; rfl
    · rw [qone_many (by omega)]
      exact sameS_parts.2 ⟨h7, fits_plain hf (by omega), (fits_zero hf (by omega)).1, (fits_zero hf (by omega)).2, e2⟩
  · have hterm1 : ∃ u, andV (factW d) (toksW (f + 1) x ++ rest) = some (u, rest) ∧ sameS (f + 1) (2 * d + 2) x u = true := by
      by_cases h6 : x.op = 6
      · exact and_ok hkid h hd h6 rest hr1
      · obtain ⟨u, hu, hs⟩ := fact_ok hkid x e d h hd (by rw [opS_eq]; exact h6) (by rw [opS_eq]; exact h7) rest
        exact ⟨liftS _ u, and_one (factW_shrinks d) hu hr1, same_liftS hs⟩
    obtain ⟨u, hu, hs⟩ := hterm1
    exact ⟨liftS _ u, or_one (factW_shrinks d) hu hr2, same_liftS hs⟩
theorem braces {f : Nat} (hw : WholeOk f) {x : Sc f} {e d : Nat} (h : okS f x e = true) (hd : 2 * e ≤ d) (rest : List Wv) :
    ∃ u, factW d (wOpen :: (toksW f x ++ [wClose]) ++ rest) = some (u, rest) ∧ sameS f (2 * d + 1) x u = true := by
  have hpos := depth_pos h
  obtain ⟨d, rfl⟩ : ∃ d', d = d' + 1 := ⟨d - 1, by omega⟩
  obtain ⟨u, hu, hs⟩ := hw x e d h (by omega) (wClose :: rest) (by simp [wClose, wAnd]) (by simp [wClose, wOr])
  refine ⟨u, ?_, hs⟩
  rw [List.cons_append, List.append_assoc, List.cons_append, List.nil_append, fact_succ, if_neg (by decide), if_pos rfl, hu, Option.bind_some]
  exact if_pos rfl
theorem reads_all : ∀ (f : Nat), KidOk f ∧ TermOk f ∧ WholeOk f
  | 0 => ⟨(fun (x : Sc 0) => nomatch x), (fun (x : Sc 0) => nomatch x), (fun (x : Sc 0) => nomatch x)⟩
  | f + 1 => by
    obtain ⟨hkid, hterm, _⟩ := reads_all f
    have hw := whole_ok hkid hterm
    have hk : KidOk (f + 1) := by
      intro (x : Ns (Sc f)) e d h hd op hop rest
      by_cases hb : opS (f + 1) x = 7 ∨ (opS (f + 1) x = 6 ∧ op ≠ 7)
      · rw [kid_braced hb]; exact braces hw h hd rest
      · rw [kid_bare hb]
        exact fact_ok hkid x e d h (by omega) (fun e => hb (.inr ⟨e, hop⟩)) (fun e => hb (.inl e)) rest
    refine ⟨hk, ?_, hw⟩
    intro (x : Ns (Sc f)) e d h hd rest hr
    by_cases h7 : x.op = 7
    · obtain ⟨u, hu, hs⟩ := hk x e d h hd 6 (by decide) rest
      have e7 : kidW (f + 1) 7 x = kidW (f + 1) 6 x := by rw [kid_braced (f := f + 1) (x := x) (op := 7) (.inl h7), kid_braced (f := f + 1) (x := x) (op := 6) (.inl h7)]
      rw [e7]
      exact ⟨liftS _ u, and_one (factW_shrinks d) hu hr, same_liftS hs⟩
    · have hb : ¬ (opS (f + 1) x = 7 ∨ (opS (f + 1) x = 6 ∧ (7 : Int) ≠ 7)) := fun hh => hh.elim h7 fun hh => hh.2 rfl
      rw [kid_bare hb]
      by_cases h6 : x.op = 6
      · exact and_ok hkid h (by omega) h6 rest hr
      · obtain ⟨u, hu, hs⟩ := fact_ok hkid x e d h (by omega) (by rw [opS_eq]; exact h6) (by rw [opS_eq]; exact h7) rest
        exact ⟨liftS _ u, and_one (factW_shrinks d) hu hr, same_liftS hs⟩
/-! How long a scope's text is. -/
theorem join_cons (w : Wv) {ws : List Wv} (h : ws ≠ []) : joinW (w :: ws) = w ++ 32 :: joinW ws := by
  match ws, h with
  | v :: ws, _ => rfl
theorem join_append : ∀ {a b : List Wv}, a ≠ [] → b ≠ [] → joinW (a ++ b) = joinW a ++ 32 :: joinW b
  | [], _, h, _ => absurd rfl h
  | [w], b, _, hb => join_cons w hb
  | w :: v :: a, b, _, hb => by
    rw [List.cons_append, join_cons w (by simp), join_append (a := v :: a) (by simp) hb, join_cons w (by simp), List.append_assoc, List.cons_append]
theorem join_sep_len {s : Wv} (hs : s.length ≤ 3) : ∀ {ts : List (List Wv)} , ts ≠ [] → (∀ t ∈ ts, t ≠ []) → (joinW (sepW s ts)).length + 5 ≤ (ts.map fun t => (joinW t).length + 5).sum
  | [], h, _ => absurd rfl h
  | [t], _, _ => by simp [sepW]
  | t :: u :: ts, _, h => by
    have ih := join_sep_len hs (ts := u :: ts) (by simp) fun x hx => h x (List.mem_cons_of_mem _ hx)
    rw [sepW, join_append (h t (List.mem_cons_self ..)) (by simp), join_cons s (sep_ne (by simp) fun x hx => h x (List.mem_cons_of_mem _ hx))]
    rw [List.map_cons, List.sum_cons]
    simp only [List.length_append, List.length_cons] at ih ⊢
    omega
theorem span_len {a b : Int} (h0 : 0 ≤ a) (h1 : a ≤ b) (h2 : b ≤ 1099511627776) : (spanV a b).length ≤ 27 := by
  unfold spanV
  rw [List.length_append, List.length_cons]
  have := digits_len (k := a.toNat) (by omega)
  have := digits_len (k := b.toNat) (by omega)
  omega
theorem kid_len {f : Nat} {op : Int} {k : Sc f} (h : toksW f k ≠ []) : (joinW (kidW f op k)).length ≤ (joinW (toksW f k)).length + 4 := by
  unfold kidW
  split
  · rw [join_cons _ (by simp), join_append h (by simp)]
    simp [joinW, wOpen, wClose]
  · omega
theorem wtext_len : ∀ (f : Nat) (x : Sc f) (d : Int), okS f x d = true → (joinW (toksW f x)).length + 9 ≤ 41 * nodesS f x
  | 0, x, _, _ => nomatch x
  | f + 1, (x : Ns (Sc f)), d, h => by
    obtain ⟨_, hf, hk⟩ := wok_fits h
    rw [nodesS_eq, toksW_eq]
    have hkid : ∀ op, ∀ k ∈ x.kids, kidW f op k ≠ [] ∧ (joinW (kidW f op k)).length + 5 ≤ 41 * nodesS f k := fun op k hx => by
      have h1 := toks_ne f k (d - 1) (hk k hx)
      have h2 := kid_len (op := op) h1
      have h3 := wtext_len f k (d - 1) (hk k hx)
      exact ⟨kid_ne h1, by omega⟩
    have hname : (x.op = 2 ∨ x.op = 3 ∨ x.op = 4) → x.name.length ≤ 16 := fun hh => ((name_iff _).1 (fits_named hf hh).1).2.1
    by_cases h1 : x.op = 1
    · rw [if_pos h1]; simp [joinW, wAll]; omega
    rw [if_neg h1]
    by_cases h2 : x.op = 2
    · have := hname (.inl h2)
      rw [if_pos h2]; simp [joinW, wCase]; omega
    rw [if_neg h2]
    by_cases h3 : x.op = 3
    · have := hname (.inr (.inl h3))
      rw [if_pos h3]; simp [joinW, wSubj]; omega
    rw [if_neg h3]
    by_cases h4 : x.op = 4
    · have := hname (.inr (.inr h4))
      rw [if_pos h4]; simp [joinW, wClass]; omega
    rw [if_neg h4]
    by_cases h5 : x.op = 5
    · obtain ⟨t1, t2, t3, _⟩ := fits_time hf h5
      have := span_len t1 t2 t3
      rw [if_pos h5]; simp [joinW, wTime]; omega
    rw [if_neg h5]
    by_cases h8 : x.op = 8
    · obtain ⟨k, ek⟩ := fits_not hf h8
      obtain ⟨n1, n2⟩ := hkid 8 k (by rw [ek]; simp)
      rw [if_pos h8, ek]
      dsimp only
      rw [join_cons _ n1]
      simp [wNot]; omega
    rw [if_neg h8]
    obtain ⟨hr, _⟩ := (fits_iff x).1 hf
    have h2' := wfits_many hf (by omega)
    have hl := join_sep_len (s := if x.op = 7 then wOr else wAnd) (by split <;> decide) (ts := x.kids.map (kidW f x.op)) (by intro e; rw [List.map_eq_nil_iff] at e; rw [e] at h2'; simp at h2') fun t ht => by
      obtain ⟨k, hx, rfl⟩ := List.mem_map.1 ht
      exact (hkid x.op k hx).1
    rw [List.map_map] at hl
    have hsum : ∀ (ks : List (Sc f)), (∀ k ∈ ks, (joinW (kidW f x.op k)).length + 5 ≤ 41 * nodesS f k) → (ks.map ((fun t => (joinW t).length + 5) ∘ kidW f x.op)).sum ≤ 41 * (ks.map (nodesS f)).sum := fun ks => by
      induction ks with
      | nil => intro _; simp
      | cons k ks ih =>
        intro hh
        have := ih fun u hu => hh u (List.mem_cons_of_mem _ hu)
        have := hh k (List.mem_cons_self ..)
        simp only [List.map_cons, List.sum_cons, Function.comp]
        omega
    have := hsum x.kids fun k hx => (hkid x.op k hx).2
    omega
theorem writ_back {f : Nat} {x : Sc f} (h : mayS f x = true) : (parseSc (joinW (toksW f x))).2 = 0 ∧ sameS f 85 x (parseSc (joinW (toksW f x))).1 = true := by
  have h' := h
  unfold mayS at h'
  rw [Bool.and_eq_true, decide_eq_true_eq] at h'
  have hl := wtext_len f x 8 h'.1
  obtain ⟨u, hu, hs⟩ := (reads_all f).2.2 x 8 41 h'.1 (by omega) [] (by simp) (by simp)
  rw [List.append_nil] at hu
  unfold parseSc
  rw [if_neg (by omega), words_join _ (toks_ne f x 8 h'.1) (toks_blank f x 8 h'.1), hu]
  dsimp only
  rw [if_pos ((zsame_may hs).symm.trans h)]
  exact ⟨rfl, hs⟩
theorem writ_may {s : List UInt8} (h : (parseSc s).2 = 0) : mayS 85 (parseSc s).1 = true := by
  unfold parseSc at h ⊢
  split at h
  · cases h
  · rename_i hn
    rw [if_neg hn]
    split at h
    · split at h
      · rename_i hm; rw [if_pos hm]; exact hm
      · cases h
    · cases h
end
section
open Go.RowKit
set_option maxHeartbeats 4000000 in
theorem zrsame_any (S S' : Nat → Prop) : ∀ (f g : Nat) (a : Sc f) (b : Sc g) (x y : Value) (w : World), ZV w S f x a → ZV w S' g y b →
    Calls Tryd.prog 9 #[x, y] w fun e w' => e = .returned (.bool (sameS f g a b)) ∧ Below w.heap.size w w' := by
  intro f
  induction f with
  | zero => intro g a; exact nomatch a
  | succ f ih =>
    intro g a b x y w hx hy
    cases g with
    | zero => exact nomatch b
    | succ g =>
    obtain ⟨c0, c1, c2, c3, c4, rfl, rfl, _, rfl, _, rfl, _, rfl, _, hks⟩ := hx
    obtain ⟨c0', c1', c2', c3', c4', rfl, rfl, _, rfl, _, rfl, _, rfl, _, hks'⟩ := hy
    obtain ⟨A3, cap3, e3, hl3, hm3⟩ := hks.form
    obtain ⟨A3', cap3', e3', _⟩ := hks'.form
    obtain ⟨k, d, n, o, ks⟩ := (a : Ns (Sc f))
    obtain ⟨k', d', n', o', ks'⟩ := (b : Ns (Sc g))
    simp only at e3 e3' hks hks' hl3
    subst e3 e3'
    have hlen : ks.length ≤ 9223372036854775807 := by unfold maxLen at hm3; omega
    have hr : sameS (f + 1) (g + 1) (⟨k, d, n, o, ks⟩ : Ns (Sc f)) (⟨k', d', n', o', ks'⟩ : Ns (Sc g)) = (decide (k = k') && (decide (d = d') && (decide (n = n') && (decide (o = o') && sameSL (sameS f g) ks ks')))) := by
      rw [Bool.eq_iff_iff, sameS_parts]
      simp only [Bool.and_eq_true, decide_eq_true_eq]
    rw [hr]
    clear hr
    dsimp only
    unfold strV at *
    obtain ⟨s, hs⟩ : ∃ s : ByteArray, s = ⟨d.toArray⟩ := ⟨_, rfl⟩
    obtain ⟨s', hs'⟩ : ∃ s : ByteArray, s = ⟨d'.toArray⟩ := ⟨_, rfl⟩
    rw [← hs, ← hs']
    have gs := zne_txt s s' d d' hs hs'
    clear hs hs'
    obtain ⟨kx, ky, B0⟩ := ztwo_boxes w #[.int .i64 k, .string s, .int .i64 n, .int .i64 o, .slice A3 ks.length cap3] #[.int .i64 k', .string s', .int .i64 n', .int .i64 o', .slice A3' ks'.length cap3'] 24 24
    generalize decide (d = d') = e at *
    by_cases h1 : k = k'
    case neg =>
      rw [decide_eq_false h1, Bool.false_and]
      have g1 : (k != k') = true := bne_iff_ne.2 h1
      clear gs
      go_enter Tryd.func9, Tryd.ntmps9
      go_wp2_with fail
      go_ret
      exact ⟨rfl, B0⟩
    subst h1
    rw [decide_eq_true rfl, Bool.true_and]
    cases e with
    | false =>
      rw [Bool.false_and]
      rw [Bool.not_false] at gs
      replace gs := (zeq_prop gs).1 rfl
      go_enter Tryd.func9, Tryd.ntmps9
      go_wp2_with fail
      go_ret
      exact ⟨rfl, B0⟩
    | true =>
      rw [Bool.true_and]
      rw [Bool.not_true] at gs
      replace gs := (zeq_prop gs).2 rfl
      by_cases h2 : n = n'
      case neg =>
        rw [decide_eq_false h2, Bool.false_and]
        have g1 : (n != n') = true := bne_iff_ne.2 h2
        go_enter Tryd.func9, Tryd.ntmps9
        go_wp2_with fail
        go_ret
        exact ⟨rfl, B0⟩
      subst h2
      rw [decide_eq_true rfl, Bool.true_and]
      by_cases h2 : o = o'
      case neg =>
        rw [decide_eq_false h2, Bool.false_and]
        have g1 : (o != o') = true := bne_iff_ne.2 h2
        go_enter Tryd.func9, Tryd.ntmps9
        go_wp2_with fail
        go_ret
        exact ⟨rfl, B0⟩
      subst h2
      rw [decide_eq_true rfl, Bool.true_and]
      by_cases h3 : ks.length = ks'.length
      case neg =>
        rw [zsame_long h3]
        have g1 : (ks.length != ks'.length) = true := bne_iff_ne.2 h3
        have g2 : ((ks.length : Int) != (ks'.length : Int)) = true := bne_iff_ne.2 (by omega)
        go_enter Tryd.func9, Tryd.ntmps9
        go_wp2_with fail
        go_ret
        exact ⟨rfl, B0⟩
      rw [← h3] at hks' kx ky B0 ⊢
      have HR : Hid ((∀ (i : Nat) (u : Sc f) (v : Sc g), ks[i]? = some u → ks'[i]? = some v → sameS f g u v = true) → sameSL (sameS f g) ks ks' = true) := fun h => zsame_yes h3 h
      have HN : Hid (∀ (i : Nat) (u : Sc f) (v : Sc g), ks[i]? = some u → ks'[i]? = some v → sameS f g u v = false → sameSL (sameS f g) ks ks' = false) := fun i u v h1 h2 h => zsame_stop h1 h2 h
      have H3 := Lib.hid h3
      clear h3
      generalize sameSL (sameS f g) ks ks' = r at *
      go_enter Tryd.func9, Tryd.ntmps9
      go_wp2_with fail
      clear gs
      go_loopw [5] (fun iv wr => ∃ j : Nat, j ≤ ks.length ∧ Hid (∀ (i : Nat) (u : Sc f) (v : Sc g), i < j → ks[i]? = some u → ks'[i]? = some v → sameS f g u v = true) ∧ iv = .int .i64 j ∧
        KB wr w.heap.size 24 #[.int .i64 k, .string s, .int .i64 n, .int .i64 o, .slice A3 ks.length cap3] ∧ KB wr (w.heap.size + 1) 24 #[.int .i64 k, .string s', .int .i64 n, .int .i64 o, .slice A3' ks.length cap3'] ∧
        Below w.heap.size w wr) (fun iv _ => ks.length - (intOf iv).toNat)
      case atStart => exact ⟨0, by omega, fun i u v h => absurd h (by omega), rfl, kx, ky, B0⟩
      case round =>
        obtain ⟨j, hj, hall, rfl, K, L, B⟩ := hrel
        have q3 : wr.cell? ⟨w.heap.size, 4, none⟩ = some (.slice A3 ks.length cap3) := K.cell 4
        by_cases hlt : j < ks.length
        · have hlt' : j < ks'.length := by have := H3.out; omega
          obtain ⟨b, q, e0, e1, e2, e3, e4, rfl, hb, k0, k1, k2, k3, k4, hv⟩ := kid_zb hks rfl B j hlt
          obtain ⟨b', q', d0, d1, d2, d3, d4, rfl, hb', m0, m1, m2, m3, m4, hv'⟩ := kid_zb hks' H3.out.symm B j hlt'
          have p3 : wr.cell? ⟨w.heap.size + 1, 4, none⟩ = some (.slice (some ⟨b', q', none⟩) ks.length cap3') := L.cell 4
          have tv : ZV wr.drew S f (.agg #[e0, e1, e2, e3, e4]) ks[j] := hv.below' (Below_drawn (Below.refl _ _) 1)
          have tv' : ZV wr.drew S' g (.agg #[d0, d1, d2, d3, d4]) ks'[j] := hv'.below' (Below_drawn (Below.refl _ _) 1)
          have hc := ih g ks[j] ks'[j] _ _ wr.drew tv tv'
          have hyes : Hid (sameS f g ks[j] ks'[j] = true → ∀ (i : Nat) (u : Sc f) (v : Sc g), i < j + 1 → ks[i]? = some u → ks'[i]? = some v → sameS f g u v = true) := by
            intro hp i u v hi hu hw
            rcases Nat.lt_or_ge i j with h | h
            · exact hall.out i u v h hu hw
            · obtain rfl : i = j := by omega
              rw [List.getElem?_eq_getElem hlt] at hu
              rw [List.getElem?_eq_getElem hlt'] at hw
              injection hu with hu
              injection hw with hw
              rw [← hu, ← hw]; exact hp
          have hno : Hid (sameS f g ks[j] ks'[j] = false → r = false) := fun hp => HN.out j _ _ (List.getElem?_eq_getElem hlt) (List.getElem?_eq_getElem hlt') hp
          have K' : KB wr.drew w.heap.size 24 #[.int .i64 k, .string s, .int .i64 n, .int .i64 o, .slice (some ⟨b, q, none⟩) ks.length cap3] := K
          have L' : KB wr.drew (w.heap.size + 1) 24 #[.int .i64 k, .string s', .int .i64 n, .int .i64 o, .slice (some ⟨b', q', none⟩) ks.length cap3'] := L
          have B' : Below w.heap.size w wr.drew := Below_drawn B 1
          clear hv hv' tv tv' hks hks' HR HN K L B hall
          generalize sameS f g ks[j] ks'[j] = p at *
          have far : ∀ w5, Below wr.drew.heap.size wr.drew w5 → ∀ (h : Nat) (i : Nat) (u : Value), h < w.heap.size → wr.cell? ⟨h, i, none⟩ = some u → w5.cell? ⟨h, i, none⟩ = some u := fun w5 b5 h i u hg hu =>
            (World.cell?_of_block (w := wr.drew) (b5.block h (Nat.lt_of_lt_of_le hg B'.size))).trans hu
          go_wp2_with fail
          go_region_held3 (fun w' => w'.cell? ⟨w.heap.size, 4, none⟩ = some (.slice (some ⟨b, q, none⟩) ks.length cap3) ∧ w'.cell? ⟨w.heap.size + 1, 4, none⟩ = some (.slice (some ⟨b', q', none⟩) ks.length cap3') ∧
              w'.cell? ⟨b, q + j * 5, none⟩ = some e0 ∧ w'.cell? ⟨b, q + j * 5 + 1, none⟩ = some e1 ∧ w'.cell? ⟨b, q + j * 5 + 2, none⟩ = some e2 ∧ w'.cell? ⟨b, q + j * 5 + 3, none⟩ = some e3 ∧ w'.cell? ⟨b, q + j * 5 + 4, none⟩ = some e4 ∧
              w'.cell? ⟨b', q' + j * 5, none⟩ = some d0 ∧ w'.cell? ⟨b', q' + j * 5 + 1, none⟩ = some d1 ∧ w'.cell? ⟨b', q' + j * 5 + 2, none⟩ = some d2 ∧ w'.cell? ⟨b', q' + j * 5 + 3, none⟩ = some d3 ∧ w'.cell? ⟨b', q' + j * 5 + 4, none⟩ = some d4)
            (first | exact ⟨q3, p3, k0, k1, k2, k3, k4, m0, m1, m2, m3, m4⟩ | exact ⟨K'.cell 4, L'.cell 4, far _ b5 _ _ _ hb k0, far _ b5 _ _ _ hb k1, far _ b5 _ _ _ hb k2, far _ b5 _ _ _ hb k3, far _ b5 _ _ _ hb k4, far _ b5 _ _ _ hb' m0, far _ b5 _ _ _ hb' m1, far _ b5 _ _ _ hb' m2, far _ b5 _ _ _ hb' m3, far _ b5 _ _ _ hb' m4⟩ | go_keep)
            (first
              | (go_at_call 9; refine hc.mono ?_; rintro e w5 ⟨rfl, b5⟩; replace K' := K'.below b5 K'.lt; replace L' := L'.below b5 L'.lt; replace B' := B'.trans (b5.mono B'.size)))
          clear far k0 k1 k2 k3 k4 m0 m1 m2 m3 m4 q3 p3 hc b5
          cases p with
          | true =>
            have hy := Lib.hid (hyes.out rfl)
            clear hyes hno
            go_wp2_with fail
            go_roundw
            case rel => exact ⟨j + 1, by omega, hy.out, by go_num, K', L', B'⟩
            case measure => simp [intOf]; omega
          | false =>
            have hr := hno.out rfl
            clear hyes hno
            subst hr
            go_wp2_with fail
            go_ret
            exact ⟨rfl, B'⟩
        · have hr : r = true := HR.out fun i u v hu hv => hall.out i u v (by have := (List.getElem?_eq_some_iff.1 hu).1; omega) hu hv
          clear HR HN hall
          subst hr
          go_wp2_with fail
          go_ret
          exact ⟨rfl, B⟩
end
end Go.Proofs.YtjecjlhofnnnpaaDoor
