/-
  Plain mathematics of layer 17 (rule): no two lists that may be, and are not the same, are written the same (P17.3). No program. No condition.
-/
import Derived.Test.YtbhebjkicooidaaDoorRvA
namespace Go.Proofs.YtbhebjkicooidaaDoor
set_option maxRecDepth 100000
set_option linter.unusedVariables false

def andT : T3 := (1, andW, 0)
def orT : T3 := (1, orW, 0)
/-- What stands behind a condition does not go on with it. -/
def Rest (u : List T3) : Prop := u.head? ≠ some orT ∧ u.head? ≠ some andT
def NoAnd (u : List T3) : Prop := u.head? ≠ some andT
/-- A condition, naked or in brackets: as an and has it. -/
def atT (f : Nat) (x : Ex f) : List T3 := if opX f x = 1 then toksX f x else (4, [40], 0) :: (toksX f x ++ [(5, [41], 0)])
/-- As an or has it. -/
def tmT (f : Nat) (x : Ex f) : List T3 := if opX f x = 2 then (4, [40], 0) :: (toksX f x ++ [(5, [41], 0)]) else toksX f x

/-- The words of two conditions are told apart. -/
def Cl (f g : Nat) : Prop := ∀ (x : Ex f) (y : Ex g) (d e : Int) (u v : List T3), okX f x d = true → okX g y e = true → Rest u → Rest v → toksX f x ++ u = toksX g y ++ v → sameX f g x y = true ∧ u = v

theorem join_cl {α β : Type} (I : α → List T3) (I' : β → List T3) (same : α → β → Bool) (s : T3) (HT : List T3 → Prop) (hs : ∀ l, HT (s :: l)) : ∀ (l : List α) (l' : List β), l ≠ [] → l' ≠ [] →
    (∀ a ∈ l, ∀ b ∈ l', ∀ u v, HT u → HT v → I a ++ u = I' b ++ v → same a b = true ∧ u = v) → ∀ u v, HT u → HT v → u.head? ≠ some s → v.head? ≠ some s → joinK s (l.map I) ++ u = joinK s (l'.map I') ++ v → sameXL same l l' = true ∧ u = v
  | [], _, h, _, _, _, _, _, _, _, _, _ => absurd rfl h
  | _ :: _, [], _, h, _, _, _, _, _, _, _, _ => absurd rfl h
  | [a], [b], _, _, hi, u, v, hu, hv, _, _, e => by
    obtain ⟨h1, h2⟩ := hi a (by simp) b (by simp) u v hu hv e
    exact ⟨by simp [sameXL, h1], h2⟩
  | [a], b :: b2 :: r, _, _, hi, u, v, hu, hv, nu, _, e => by
    have e' : I a ++ u = I' b ++ (s :: (joinK s ((b2 :: r).map I') ++ v)) := by
      rw [show joinK s ([a].map I) = I a from rfl, show joinK s ((b :: b2 :: r).map I') = I' b ++ s :: joinK s ((b2 :: r).map I') from rfl, List.append_assoc] at e
      exact e
    obtain ⟨_, h2⟩ := hi a (by simp) b (by simp) u _ hu (hs _) e'
    rw [h2] at nu
    exact absurd rfl nu
  | a :: a2 :: r, [b], _, _, hi, u, v, hu, hv, _, nv, e => by
    have e' : I a ++ (s :: (joinK s ((a2 :: r).map I) ++ u)) = I' b ++ v := by
      rw [show joinK s ([b].map I') = I' b from rfl, show joinK s ((a :: a2 :: r).map I) = I a ++ s :: joinK s ((a2 :: r).map I) from rfl, List.append_assoc] at e
      exact e
    obtain ⟨_, h2⟩ := hi a (by simp) b (by simp) _ v (hs _) hv e'
    rw [← h2] at nv
    exact absurd rfl nv
  | a :: a2 :: r, b :: b2 :: q, _, _, hi, u, v, hu, hv, nu, nv, e => by
    have e' : I a ++ (s :: (joinK s ((a2 :: r).map I) ++ u)) = I' b ++ (s :: (joinK s ((b2 :: q).map I') ++ v)) := by
      rw [show joinK s ((a :: a2 :: r).map I) = I a ++ s :: joinK s ((a2 :: r).map I) from rfl, show joinK s ((b :: b2 :: q).map I') = I' b ++ s :: joinK s ((b2 :: q).map I') from rfl, List.append_assoc, List.append_assoc] at e
      exact e
    obtain ⟨h1, h2⟩ := hi a (by simp) b (by simp) _ _ (hs _) (hs _) e'
    injection h2 with _ h2
    obtain ⟨h3, h4⟩ := join_cl I I' same s HT hs (a2 :: r) (b2 :: q) (by simp) (by simp) (fun x hx y hy => hi x (List.mem_cons_of_mem _ hx) y (List.mem_cons_of_mem _ hy)) u v hu hv nu nv h2
    exact ⟨by rw [sameXL, h1, h3]; rfl, h4⟩

theorem op_of_ok : ∀ {f : Nat} {x : Ex f} {d : Int}, okX f x d = true → opX f x = 1 ∨ opX f x = 2 ∨ opX f x = 3
  | 0, x, _, _ => nomatch x
  | f + 1, x, d, h => by
    have hf := ok_fits (x := (x : Nx (Ex f))) h
    by_cases h1 : (x : Nx (Ex f)).op = 1
    · exact .inl h1
    · rcases (fits_many hf h1).1 with h | h
      · exact .inr (.inl h)
      · exact .inr (.inr h)
/-- The words of a day's condition. -/
theorem toks_one : ∀ {f : Nat} {x : Ex f} {d : Int}, okX f x d = true → opX f x = 1 → ∃ dy m, toksX f x = [(3, textD dy, dy), (1, afterV, 0), (1, m, 0)] ∧ ∀ {g : Nat} {y : Ex g} {e : Int}, okX g y e = true → opX g y = 1 → toksX g y = [(3, textD dy, dy), (1, afterV, 0), (1, m, 0)] → sameX f g x y = true
  | 0, x, _, _, _ => nomatch x
  | f + 1, x, d, h, h1 => by
    have hf := ok_fits (x := (x : Nx (Ex f))) h
    obtain ⟨_, _, _, hk⟩ := fits_one hf h1
    refine ⟨(x : Nx (Ex f)).days, (x : Nx (Ex f)).mile, (toks_eq f x).trans (if_pos h1), ?_⟩
    intro g
    cases g with
    | zero => intro y; exact nomatch y
    | succ g =>
      intro y e hy hy1 ht
      have hf' := ok_fits (x := (y : Nx (Ex g))) hy
      obtain ⟨_, _, _, hk'⟩ := fits_one hf' hy1
      have e2 : toksX (g + 1) y = [(3, textD (y : Nx (Ex g)).days, (y : Nx (Ex g)).days), (1, afterV, 0), (1, (y : Nx (Ex g)).mile, 0)] := (toks_eq g y).trans (if_pos hy1)
      rw [e2] at ht
      simp only [List.cons.injEq, Prod.mk.injEq, true_and, and_true] at ht
      obtain ⟨⟨_, hd⟩, hm⟩ := ht
      show (decide ((x : Nx (Ex f)).op = (y : Nx (Ex g)).op) && decide ((x : Nx (Ex f)).days = (y : Nx (Ex g)).days) && decide ((x : Nx (Ex f)).mile = (y : Nx (Ex g)).mile) && sameXL (sameX f g) (x : Nx (Ex f)).kids (y : Nx (Ex g)).kids) = true
      have h1' : (x : Nx (Ex f)).op = 1 := h1
      have hy1' : (y : Nx (Ex g)).op = 1 := hy1
      rw [hk, hk', h1', hy1', decide_eq_true hd.symm, decide_eq_true hm.symm]
      rfl

theorem rest_close (u : List T3) : Rest ((5, [41], 0) :: u) := ⟨by show some _ ≠ some _; decide, by show some _ ≠ some _; decide⟩
theorem noand_of {u : List T3} (h : Rest u) : NoAnd u := h.2

/-- Naked or in brackets. -/
theorem at_cl {f g : Nat} (x : Ex f) (y : Ex g) (d e : Int) (u v : List T3) (hx : okX f x d = true) (hy : okX g y e = true) (hc : opX f x ≠ 1 → opX g y ≠ 1 → Cl f g) (h : atT f x ++ u = atT g y ++ v) : sameX f g x y = true ∧ u = v := by
  unfold atT at h
  by_cases h1 : opX f x = 1
  · obtain ⟨dy, m, ex, hs⟩ := toks_one hx h1
    by_cases h2 : opX g y = 1
    · obtain ⟨dy', m', ey, _⟩ := toks_one hy h2
      rw [if_pos h1, if_pos h2, ex, ey] at h
      simp only [List.cons_append, List.nil_append, List.cons.injEq, Prod.mk.injEq, true_and, and_true] at h
      obtain ⟨⟨ht, hd⟩, hm, hu⟩ := h
      refine ⟨hs hy h2 (by rw [ey, hd, hm]), hu⟩
    · rw [if_pos h1, if_neg h2, ex] at h
      simp at h
  · by_cases h2 : opX g y = 1
    · obtain ⟨dy', m', ey, _⟩ := toks_one hy h2
      rw [if_neg h1, if_pos h2, ey] at h
      simp at h
    · rw [if_neg h1, if_neg h2] at h
      simp only [List.cons_append, List.cons.injEq, true_and, List.append_assoc] at h
      obtain ⟨h3, h4⟩ := hc h1 h2 x y d e ([(5, [41], 0)] ++ u) ([(5, [41], 0)] ++ v) hx hy (rest_close u) (rest_close v) h
      exact ⟨h3, by simpa using h4⟩

/-- What an and has. -/
theorem toks_and {f : Nat} {x : Nx (Ex f)} {d : Int} (hx : okX (f + 1) x d = true) (h : x.op = 3) : toksX (f + 1) x = joinK andT (x.kids.map (atT f)) := by
  rw [toks_eq, if_neg (by omega), h]
  have e : sepT 3 = andT := rfl
  rw [e]
  congr 1
  apply List.map_congr_left
  intro u hu
  have ho := op_of_ok (ok_kid hx hu)
  unfold brT atT
  by_cases h1 : opX f u = 1
  · rw [if_pos h1, if_neg (by omega)]
  · rw [if_neg h1, if_pos (by omega)]
theorem toks_or {f : Nat} {x : Nx (Ex f)} {d : Int} (hx : okX (f + 1) x d = true) (h : x.op = 2) : toksX (f + 1) x = joinK orT (x.kids.map (tmT f)) := by
  rw [toks_eq, if_neg (by omega), h]
  have e : sepT 2 = orT := rfl
  rw [e]
  congr 1
  apply List.map_congr_left
  intro u hu
  unfold brT tmT
  by_cases h1 : opX f u = 2
  · rw [if_pos h1, if_pos (.inl h1)]
  · rw [if_neg h1, if_neg (by omega)]
theorem same_many {f g : Nat} {x : Nx (Ex f)} {y : Nx (Ex g)} {d e : Int} (hx : okX (f + 1) x d = true) (hy : okX (g + 1) y e = true) (h1 : x.op ≠ 1) (ho : x.op = y.op) (hk : sameXL (sameX f g) x.kids y.kids = true) : sameX (f + 1) (g + 1) x y = true := by
  obtain ⟨_, d0, m0, _⟩ := fits_many (ok_fits hx) h1
  obtain ⟨_, d1, m1, _⟩ := fits_many (ok_fits hy) (by rw [← ho]; exact h1)
  show (decide (x.op = y.op) && decide (x.days = y.days) && decide (x.mile = y.mile) && sameXL (sameX f g) x.kids y.kids) = true
  rw [hk, decide_eq_true ho, d0, d1, m0, m1]
  rfl
theorem kids_some {f : Nat} {x : Nx (Ex f)} {d : Int} (hx : okX (f + 1) x d = true) (h1 : x.op ≠ 1) : x.kids ≠ [] := fun h => by
  have := (fits_many (ok_fits hx) h1).2.2.2
  rw [h] at this
  simp at this

/-- As an or has it. -/
theorem tm_cl : ∀ {f g : Nat} (x : Ex f) (y : Ex g) (d e : Int) (u v : List T3), okX f x d = true → okX g y e = true → (∀ f', f' < f → ∀ g', Cl f' g') → (opX f x = 2 → ∀ g', Cl f g') → NoAnd u → NoAnd v → tmT f x ++ u = tmT g y ++ v → sameX f g x y = true ∧ u = v
  | 0, _, x, _, _, _, _, _, _, _, _, _, _, _, _ => nomatch x
  | _ + 1, 0, _, y, _, _, _, _, _, _, _, _, _, _, _ => nomatch y
  | f + 1, g + 1, x, y, d, e, u, v, hx, hy, H1, H2, hu, hv, h => by
    have at1 : opX (f + 1) x ≠ 3 → tmT (f + 1) x = atT (f + 1) x := fun h3 => by
      unfold tmT atT
      rcases op_of_ok hx with h | h | h
      · rw [if_neg (by omega), if_pos h]
      · rw [if_pos h, if_neg (by omega)]
      · exact absurd h h3
    have at2 : opX (g + 1) y ≠ 3 → tmT (g + 1) y = atT (g + 1) y := fun h3 => by
      unfold tmT atT
      rcases op_of_ok hy with h | h | h
      · rw [if_neg (by omega), if_pos h]
      · rw [if_pos h, if_neg (by omega)]
      · exact absurd h h3
    by_cases hx3 : opX (f + 1) x = 3
    · have ex : tmT (f + 1) x = joinK andT ((x : Nx (Ex f)).kids.map (atT f)) := by unfold tmT; rw [if_neg (by omega)]; exact toks_and hx hx3
      have hxk := kids_some hx (show (x : Nx (Ex f)).op ≠ 1 from fun h => by have h3 : (x : Nx (Ex f)).op = 3 := hx3; omega)
      by_cases hy3 : opX (g + 1) y = 3
      · have ey : tmT (g + 1) y = joinK andT ((y : Nx (Ex g)).kids.map (atT g)) := by unfold tmT; rw [if_neg (by omega)]; exact toks_and hy hy3
        have hyk := kids_some hy (show (y : Nx (Ex g)).op ≠ 1 from fun h => by have h3 : (y : Nx (Ex g)).op = 3 := hy3; omega)
        rw [ex, ey] at h
        obtain ⟨h3, h4⟩ := join_cl (atT f) (atT g) (sameX f g) andT (fun _ => True) (fun _ => trivial) _ _ hxk hyk (fun a ha b hb u v _ _ he => at_cl a b _ _ u v (ok_kid hx ha) (ok_kid hy hb) (fun _ _ => H1 f (by omega) g) he) u v trivial trivial hu hv h
        exact ⟨same_many hx hy (fun h => by have h3 : (x : Nx (Ex f)).op = 3 := hx3; omega) (hx3.trans hy3.symm) h3, h4⟩
      · rw [ex, at2 hy3] at h
        exfalso
        cases hk : (x : Nx (Ex f)).kids with
        | nil => exact hxk hk
        | cons a r =>
          have h2k := (fits_many (ok_fits hx) (show (x : Nx (Ex f)).op ≠ 1 from fun h => by have h3 : (x : Nx (Ex f)).op = 3 := hx3; omega)).2.2.2
          rw [hk] at h h2k
          cases r with
          | nil => simp at h2k
          | cons a2 r =>
            rw [show joinK andT ((a :: a2 :: r).map (atT f)) = atT f a ++ andT :: joinK andT ((a2 :: r).map (atT f)) from rfl, List.append_assoc] at h
            obtain ⟨_, h4⟩ := at_cl a y _ _ _ v (ok_kid hx (by rw [hk]; simp)) hy (fun _ _ => H1 f (by omega) _) h
            exact hv (by rw [← h4]; rfl)
    · rw [at1 hx3] at h
      by_cases hy3 : opX (g + 1) y = 3
      · have ey : tmT (g + 1) y = joinK andT ((y : Nx (Ex g)).kids.map (atT g)) := by unfold tmT; rw [if_neg (by omega)]; exact toks_and hy hy3
        have hyk := kids_some hy (show (y : Nx (Ex g)).op ≠ 1 from fun h => by have h3 : (y : Nx (Ex g)).op = 3 := hy3; omega)
        rw [ey] at h
        exfalso
        cases hk : (y : Nx (Ex g)).kids with
        | nil => exact hyk hk
        | cons a r =>
          have h2k := (fits_many (ok_fits hy) (show (y : Nx (Ex g)).op ≠ 1 from fun h => by have h3 : (y : Nx (Ex g)).op = 3 := hy3; omega)).2.2.2
          rw [hk] at h h2k
          cases r with
          | nil => simp at h2k
          | cons a2 r =>
            rw [show joinK andT ((a :: a2 :: r).map (atT g)) = atT g a ++ andT :: joinK andT ((a2 :: r).map (atT g)) from rfl, List.append_assoc] at h
            obtain ⟨_, h4⟩ := at_cl x a _ _ u _ hx (ok_kid hy (by rw [hk]; simp)) (fun h1 _ => H2 (by rcases op_of_ok hx with h | h | h; exact absurd h h1; exact h; exact absurd h hx3) _) h
            exact hu (by rw [h4]; rfl)
      · rw [at2 hy3] at h
        exact at_cl x y d e u v hx hy (fun h1 _ => H2 (by rcases op_of_ok hx with h | h | h; exact absurd h h1; exact h; exact absurd h hx3) _) h

theorem noand_or (l : List T3) : NoAnd (orT :: l) := by show some orT ≠ some andT; decide
/-- Conditions are told apart. -/
theorem cl_all : ∀ (n f g : Nat), f ≤ n → Cl f g
  | 0, f, g, h => by
    obtain rfl : f = 0 := by omega
    intro x; exact nomatch x
  | n + 1, 0, g, _ => by intro x; exact nomatch x
  | n + 1, f + 1, 0, _ => by intro _ y; exact nomatch y
  | n + 1, f + 1, g + 1, hn => by
    intro x y d e u v hx hy hu hv h
    have IH : ∀ f', f' ≤ f → ∀ g', Cl f' g' := fun f' h' g' => cl_all n f' g' (by omega)
    by_cases hx2 : opX (f + 1) x = 2
    · have ex := toks_or (x := (x : Nx (Ex f))) hx hx2
      have hx1 : (x : Nx (Ex f)).op ≠ 1 := fun h => by have h3 : (x : Nx (Ex f)).op = 2 := hx2; omega
      have hxk := kids_some hx hx1
      by_cases hy2 : opX (g + 1) y = 2
      · have ey := toks_or (x := (y : Nx (Ex g))) hy hy2
        have hy1 : (y : Nx (Ex g)).op ≠ 1 := fun h => by have h3 : (y : Nx (Ex g)).op = 2 := hy2; omega
        have hyk := kids_some hy hy1
        have h' : joinK orT ((x : Nx (Ex f)).kids.map (tmT f)) ++ u = joinK orT ((y : Nx (Ex g)).kids.map (tmT g)) ++ v := by rw [← ex, ← ey]; exact h
        obtain ⟨h3, h4⟩ := join_cl (tmT f) (tmT g) (sameX f g) orT NoAnd noand_or _ _ hxk hyk (fun a ha b hb u v hu hv he => tm_cl a b _ _ u v (ok_kid hx ha) (ok_kid hy hb) (fun f' h' g' => IH f' (by omega) g') (fun _ g' => IH f (by omega) g') hu hv he) u v hu.2 hv.2 hu.1 hv.1 h'
        exact ⟨same_many hx hy hx1 (hx2.trans hy2.symm) h3, h4⟩
      · exfalso
        have ty : tmT (g + 1) y = toksX (g + 1) y := by unfold tmT; rw [if_neg hy2]
        cases hk : (x : Nx (Ex f)).kids with
        | nil => exact hxk hk
        | cons a r =>
          have h2k := (fits_many (ok_fits hx) hx1).2.2.2
          rw [hk] at ex h2k
          cases r with
          | nil => simp at h2k
          | cons a2 r =>
            have h' : tmT f a ++ (orT :: (joinK orT ((a2 :: r).map (tmT f)) ++ u)) = tmT (g + 1) y ++ v := by
              rw [ty, ← h, show toksX (f + 1) x = tmT f a ++ orT :: joinK orT ((a2 :: r).map (tmT f)) from ex, List.append_assoc]
              rfl
            obtain ⟨_, h4⟩ := tm_cl a y _ _ _ v (ok_kid hx (by rw [hk]; simp)) hy (fun f' h' g' => IH f' (by omega) g') (fun _ g' => IH f (by omega) g') (noand_or _) hv.2 h'
            exact hv.1 (by rw [← h4]; rfl)
    · have tx : tmT (f + 1) x = toksX (f + 1) x := by unfold tmT; rw [if_neg hx2]
      by_cases hy2 : opX (g + 1) y = 2
      · exfalso
        have ey := toks_or (x := (y : Nx (Ex g))) hy hy2
        have hy1 : (y : Nx (Ex g)).op ≠ 1 := fun h => by have h3 : (y : Nx (Ex g)).op = 2 := hy2; omega
        have hyk := kids_some hy hy1
        cases hk : (y : Nx (Ex g)).kids with
        | nil => exact hyk hk
        | cons a r =>
          have h2k := (fits_many (ok_fits hy) hy1).2.2.2
          rw [hk] at ey h2k
          cases r with
          | nil => simp at h2k
          | cons a2 r =>
            have h' : tmT (f + 1) x ++ u = tmT g a ++ (orT :: (joinK orT ((a2 :: r).map (tmT g)) ++ v)) := by
              rw [tx, h, show toksX (g + 1) y = tmT g a ++ orT :: joinK orT ((a2 :: r).map (tmT g)) from ey, List.append_assoc]
              rfl
            obtain ⟨_, h4⟩ := tm_cl x a _ _ u _ hx (ok_kid hy (by rw [hk]; simp)) (fun f' h' g' => IH f' (by omega) g') (fun h => absurd h hx2) hu.2 (noand_or _) h'
            exact hu.1 (by rw [h4]; rfl)
      · have ty : tmT (g + 1) y = toksX (g + 1) y := by unfold tmT; rw [if_neg hy2]
        exact tm_cl x y d e u v hx hy (fun f' h' g' => IH f' (by omega) g') (fun h => absurd h hx2) hu.2 hv.2 (by rw [tx, ty]; exact h)

theorem act_one {n m : Int} (hn : 1 ≤ n ∧ n ≤ 3) (hm : 1 ≤ m ∧ m ≤ 3) (h : actS n = actS m) : n = m := by
  unfold actS at h
  rcases (show n = 1 ∨ n = 2 ∨ n = 3 by omega) with rfl | rfl | rfl <;> rcases (show m = 1 ∨ m = 2 ∨ m = 3 by omega) with rfl | rfl | rfl <;> first | rfl | (exfalso; revert h; decide)
theorem rest_then (u : List T3) : Rest ((1, thenV, 0) :: u) := ⟨by show some _ ≠ some _; decide, by show some _ ≠ some _; decide⟩
theorem of_one {c c' : List UInt8} {u v : List T3} (h : ofT c ++ ((1, keepV, 0) :: u) = ofT c' ++ ((1, keepV, 0) :: v)) : c = c' ∧ u = v := by
  unfold ofT at h
  by_cases h1 : c = []
  · by_cases h2 : c' = []
    · rw [if_pos h1, if_pos h2] at h
      simp at h
      exact ⟨h1.trans h2.symm, h⟩
    · rw [if_pos h1, if_neg h2] at h
      simp at h
  · by_cases h2 : c' = []
    · rw [if_neg h1, if_pos h2] at h
      simp at h
    · rw [if_neg h1, if_neg h2] at h
      simp at h
      exact h
/-- Rules are told apart. -/
theorem rule_one {f g : Nat} {r : Rl f} {s : Rl g} (hr : goodR f r = true) (hs : goodR g s = true) {u v : List T3} (h : toksR f r ++ u = toksR g s ++ v) : sameR f g r s = true ∧ u = v := by
  unfold goodR at hr hs
  simp only [Bool.and_eq_true, decide_eq_true_eq] at hr hs
  obtain ⟨⟨ha, _⟩, hm⟩ := hr
  obtain ⟨⟨ha', _⟩, hm'⟩ := hs
  unfold mayX at hm hm'
  simp only [Bool.and_eq_true] at hm hm'
  unfold toksR at h
  rw [List.append_assoc, List.append_assoc, List.cons_append, List.cons_append] at h
  obtain ⟨hc, h⟩ := of_one h
  rw [List.append_assoc, List.append_assoc] at h
  obtain ⟨hx, h⟩ := cl_all f f g (Nat.le_refl _) r.when_ s.when_ 8 8 _ _ hm.1 hm'.1 (rest_then _) (rest_then _) h
  have h' : ((1, thenV, 0) :: (1, actS r.act, 0) :: (6, [59], 0) :: u : List T3) = (1, thenV, 0) :: (1, actS s.act, 0) :: (6, [59], 0) :: v := h
  simp only [List.cons.injEq, Prod.mk.injEq, true_and, and_true] at h'
  replace h := h'
  refine ⟨?_, h.2⟩
  unfold sameR
  rw [decide_eq_true hc, decide_eq_true (act_one ha ha' h.1), hx]
  rfl
theorem ofT_some (c : List UInt8) : ofT c ≠ [] := by unfold ofT; split <;> simp
/-- Lists of rules are told apart. -/
theorem rules_one {f g : Nat} : ∀ (l : List (Rl f)) (m : List (Rl g)), (∀ r ∈ l, goodR f r = true) → (∀ r ∈ m, goodR g r = true) → l.flatMap (toksR f) = m.flatMap (toksR g) → sameXL (sameR f g) l m = true
  | [], [], _, _, _ => rfl
  | [], s :: m, _, _, h => by
    exfalso
    rw [List.flatMap_nil, List.flatMap_cons] at h
    have := congrArg List.length h
    unfold toksR at this
    simp at this
  | r :: l, [], _, _, h => by
    exfalso
    rw [List.flatMap_nil, List.flatMap_cons] at h
    have := congrArg List.length h
    unfold toksR at this
    simp at this
  | r :: l, s :: m, hl, hm, h => by
    rw [List.flatMap_cons, List.flatMap_cons] at h
    obtain ⟨h1, h2⟩ := rule_one (hl r (by simp)) (hm s (by simp)) h
    rw [sameXL, h1, rules_one l m (fun x hx => hl x (by simp [hx])) (fun x hx => hm x (by simp [hx])) h2]
    rfl
theorem good_of_print {f : Nat} {l : List (Rl f)} (h : (printR f l).2 = 0) : ∀ r ∈ l, goodR f r = true := by
  unfold printR at h
  by_cases hz : checkR f l = 0
  case neg => rw [if_neg hz] at h; exact absurd h hz
  unfold checkR at hz
  by_cases h1 : 12 < l.length
  · rw [if_pos h1] at hz; omega
  · rw [if_neg h1] at hz
    by_cases h2 : l.all (goodR f) = false
    · rw [if_pos h2] at hz; omega
    · exact fun r hr => List.all_eq_true.1 (by simpa using h2) r hr
/-- P17.3. -/
theorem print_one {f g : Nat} {l : List (Rl f)} {m : List (Rl g)} (hl : (printR f l).2 = 0) (hm : (printR g m).2 = 0) (h : (printR f l).1 = (printR g m).1) : sameXL (sameR f g) l m = true := by
  obtain ⟨L, e1, a1⟩ := all_print hl
  obtain ⟨M, e2, a2⟩ := all_print hm
  rw [h, a2] at a1
  have : M = L := congrArg Prod.fst a1
  exact rules_one l m (good_of_print hl) (good_of_print hm) (by rw [← e1, ← e2, this])
theorem print_same {f : Nat} {l m : List (Rl f)} (hl : (printR f l).2 = 0) (hm : (printR f m).2 = 0) : decide ((printR f l).1 = (printR f m).1) = sameXL (sameR f f) l m := by
  by_cases h : (printR f l).1 = (printR f m).1
  · rw [decide_eq_true h, print_one hl hm h]
  · rw [decide_eq_false h]
    cases hs : sameXL (sameR f f) l m with
    | false => rfl
    | true => exact absurd (by rw [(sameR_list f l m).1 hs]) h
end Go.Proofs.YtbhebjkicooidaaDoor
