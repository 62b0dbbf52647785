/-
  PaM: Plain mathematics of layer 18 (parse): rules are read from words, with fuel; what more fuel, and less, does. No program. No condition.
-/
import Derived.Test.YthindhlogkhclaaGreatDoorPz03
set_option linter.unusedVariables false
set_option maxRecDepth 100000
namespace Go.Proofs.YthindhlogkhclaaGreatDoor
section
structure Ps where
  rest : List Tk
  fuel : Int
  e : Int
  used : Int
def zeroTk : Tk := ⟨0, [], 0, 0⟩
def burnP (s : Ps) : Ps := if s.e = 0 then (if s.fuel < 1 then ⟨s.rest, s.fuel, 14, s.used⟩ else ⟨s.rest, s.fuel - 1, 0, s.used + 1⟩) else s
def fitT (k : Nat) (w : List UInt8) (t : Tk) : Bool := decide (t.kind = k) && (decide (w = []) || decide (t.text = w))
def isP (k : Nat) (w : List UInt8) (s : Ps) : Bool := decide (s.e = 0) && (match s.rest with | [] => false | t :: _ => fitT k w t)
def takeP (k : Nat) (w : List UInt8) (s : Ps) : Tk × Ps := match s.rest with | [] => (zeroTk, ⟨[], s.fuel, 2, s.used⟩) | t :: r => if fitT k w t = true then (t, ⟨r, s.fuel, s.e, s.used⟩) else (zeroTk, ⟨t :: r, s.fuel, 2, s.used⟩)
def nextP (k : Nat) (w : List UInt8) (s : Ps) : Tk × Ps := if (burnP s).e = 0 then takeP k w (burnP s) else (zeroTk, burnP s)
def headP (s : Ps) : List UInt8 := match s.rest with | [] => [] | t :: _ => t.text
def zeroX (k : Nat) : Ex (k + 1) := (⟨0, 0, [], []⟩ : Nx (Ex k))
def afterP : List UInt8 := [97, 102, 116, 101, 114]
def orP : List UInt8 := [111, 114]
def andP : List UInt8 := [97, 110, 100]
def classP : List UInt8 := [99, 108, 97, 115, 115]
def defaultP : List UInt8 := [100, 101, 102, 97, 117, 108, 116]
def keepP : List UInt8 := [107, 101, 101, 112]
def thenP : List UInt8 := [116, 104, 101, 110]
def destroyP : List UInt8 := [100, 101, 115, 116, 114, 111, 121]
def reviewP : List UInt8 := [114, 101, 118, 105, 101, 119]
def mileP (s : Ps) : Option (List UInt8) × Ps :=
  if s.e = 0 ∧ 0 < s.fuel ∧ isP 1 [] s = true ∧ wordS (headP s) = false then (none, ⟨s.rest, s.fuel - 1, 2, s.used + 1⟩) else (some (nextP 1 [] s).1.text, (nextP 1 [] s).2)
def markP (k : Nat) (n : Int) (o : Option (List UInt8)) : Ex (k + 1) := match o with | none => zeroX k | some m => (⟨1, n, m, []⟩ : Nx (Ex k))
def spanP (k : Nat) (s : Ps) : Ex (k + 1) × Ps :=
  (markP k (nextP 3 [] s).1.n (mileP (nextP 1 afterP (nextP 3 [] s).2).2).1, (mileP (nextP 1 afterP (nextP 3 [] s).2).2).2)
def innerP {α : Type} (inner : Ps → α × Ps) (s : Ps) : α × Ps := ((inner (nextP 4 [] s).2).1, (nextP 5 [] (inner (nextP 4 [] s).2).2).2)
def factP {k : Nat} (inner : Ps → Ex (k + 1) × Ps) (s : Ps) : Ex (k + 1) × Ps := if isP 4 [] s = true then innerP inner s else spanP k s
def moreP {α : Type} (item : Ps → α × Ps) (w : List UInt8) : Nat → List α → Ps → List α × Ps
  | 0, l, s => (l, s)
  | g + 1, l, s => if isP 1 w s = true then moreP item w g (l ++ [(item (nextP 1 w s).2).1]) (item (nextP 1 w s).2).2 else (l, s)
def manyP {α : Type} (item : Ps → α × Ps) (w : List UInt8) (s : Ps) : List α × Ps := moreP item w s.rest.length [(item s).1] (item s).2
def packP (k : Nat) (op : Int) (l : List (Ex k)) : Ex (k + 1) := match l with | [x] => liftX k x | l => (⟨op, 0, [], l⟩ : Nx (Ex k))
def termP {k : Nat} (inner : Ps → Ex (k + 1) × Ps) (s : Ps) : Ex (k + 2) × Ps := (packP (k + 1) 3 (manyP (factP inner) andP s).1, (manyP (factP inner) andP s).2)
def deepP (s : Ps) : Ps := if s.e = 0 then ⟨s.rest, s.fuel, 2, s.used⟩ else s
def condP : (d : Nat) → Ps → Ex (2 * d + 1) × Ps
  | 0, s => (zeroX 0, deepP (burnP s))
  | d + 1, s => if (burnP s).e = 0 then (packP (2 * d + 2) 2 (manyP (termP (condP d)) orP (burnP s)).1, (manyP (termP (condP d)) orP (burnP s)).2) else (zeroX (2 * d + 2), burnP s)
def ofP (s : Ps) : List UInt8 × Ps := if isP 1 classP s = true then ((nextP 2 [] (nextP 1 classP s).2).1.text, (nextP 2 [] (nextP 1 classP s).2).2) else ([], (nextP 1 defaultP s).2)
def actP (s : Ps) : Int × Ps := if isP 1 destroyP s = true then (1, (nextP 1 destroyP s).2) else if isP 1 reviewP s = true then (2, (nextP 1 reviewP s).2) else (3, (nextP 1 keepP s).2)
def ruleP (s : Ps) : Rl 17 × Ps :=
  (⟨(ofP s).1, (condP 8 (nextP 1 keepP (ofP s).2).2).1, (actP (nextP 1 thenP (condP 8 (nextP 1 keepP (ofP s).2).2).2).2).1⟩,
    (nextP 6 [] (actP (nextP 1 thenP (condP 8 (nextP 1 keepP (ofP s).2).2).2).2).2).2)
def rulesP : Nat → List (Rl 17) → Ps → List (Rl 17) × Ps
  | 0, l, s => (l, s)
  | g + 1, l, s => if s.e = 0 ∧ s.rest ≠ [] then rulesP g (l ++ [(ruleP s).1]) (ruleP s).2 else (l, s)
def hereP (n : Nat) (s : Ps) : Nat := match s.rest with | [] => n | t :: _ => t.at_
def readP (t : List UInt8) (fuel : Int) : List (Rl 17) × Nat × Int × Int :=
  if (allS t).2.2 = 0 then
    (if (rulesP (allS t).1.length [] ⟨(allS t).1, fuel, 0, 0⟩).2.e = 0 then
      (if checkR 17 (rulesP (allS t).1.length [] ⟨(allS t).1, fuel, 0, 0⟩).1 = 0 then ((rulesP (allS t).1.length [] ⟨(allS t).1, fuel, 0, 0⟩).1, t.length, 0, (rulesP (allS t).1.length [] ⟨(allS t).1, fuel, 0, 0⟩).2.used)
      else ([], 0, checkR 17 (rulesP (allS t).1.length [] ⟨(allS t).1, fuel, 0, 0⟩).1, (rulesP (allS t).1.length [] ⟨(allS t).1, fuel, 0, 0⟩).2.used))
    else ([], hereP t.length (rulesP (allS t).1.length [] ⟨(allS t).1, fuel, 0, 0⟩).2, (rulesP (allS t).1.length [] ⟨(allS t).1, fuel, 0, 0⟩).2.e, (rulesP (allS t).1.length [] ⟨(allS t).1, fuel, 0, 0⟩).2.used))
  else ([], (allS t).2.1, (allS t).2.2, 0)
/-! More fuel. -/
def Sim (k : Int) (s s' : Ps) : Prop := s'.rest = s.rest ∧ s'.e = s.e ∧ s'.used = s.used ∧ s'.fuel = s.fuel + k
structure Way {α : Type} (f : Ps → α × Ps) : Prop where
  stays : ∀ s, s.e ≠ 0 → (f s).2.e = s.e
  front : ∀ s, (f s).2.rest.length ≤ s.rest.length
  sum : ∀ s, (f s).2.fuel + (f s).2.used = s.fuel + s.used
  low : ∀ s, 0 ≤ s.used → (s.used = 0 ∨ 0 ≤ s.fuel) → 0 ≤ (f s).2.used ∧ ((f s).2.used = 0 ∨ 0 ≤ (f s).2.fuel)
  falls : ∀ s, (f s).2.fuel ≤ s.fuel
  sim : ∀ k s s', 0 ≤ k → Sim k s s' → (f s).2.e ≠ 14 → (f s').1 = (f s).1 ∧ Sim k (f s).2 (f s').2
  less : ∀ k s s', 0 ≤ k → Sim k s s' → (f s').2.e ≠ 14 → k ≤ (f s').2.fuel → (f s').1 = (f s).1 ∧ Sim k (f s).2 (f s').2
theorem burn_ok {s : Ps} (h : s.e = 0) (h1 : ¬ s.fuel < 1) : burnP s = ⟨s.rest, s.fuel - 1, 0, s.used + 1⟩ := by unfold burnP; rw [if_pos h, if_neg h1]
theorem burn_out {s : Ps} (h : s.e = 0) (h1 : s.fuel < 1) : burnP s = ⟨s.rest, s.fuel, 14, s.used⟩ := by unfold burnP; rw [if_pos h, if_pos h1]
theorem burn_err {s : Ps} (h : ¬ s.e = 0) : burnP s = s := by unfold burnP; rw [if_neg h]
theorem is_sim {k : Int} {s s' : Ps} (h : Sim k s s') (i : Nat) (w : List UInt8) : isP i w s' = isP i w s := by unfold isP; rw [h.1, h.2.1]
theorem head_sim {k : Int} {s s' : Ps} (h : Sim k s s') : headP s' = headP s := by unfold headP; rw [h.1]
theorem Way.burn {α : Type} (a : α) : Way (fun s => (a, burnP s)) where
  stays s h := by show (burnP s).e = _; rw [burn_err h]
  front s := by
    show (burnP s).rest.length ≤ _
    by_cases h : s.e = 0
    · by_cases h1 : s.fuel < 1
      · rw [burn_out h h1]; exact Nat.le_refl _
      · rw [burn_ok h h1]; exact Nat.le_refl _
    · rw [burn_err h]; exact Nat.le_refl _
  sum s := by
    show (burnP s).fuel + (burnP s).used = _
    by_cases h : s.e = 0
    · by_cases h1 : s.fuel < 1
      · rw [burn_out h h1]
      · rw [burn_ok h h1]; show s.fuel - 1 + (s.used + 1) = _; omega
    · rw [burn_err h]
  low s h0 hd := by
    show 0 ≤ (burnP s).used ∧ ((burnP s).used = 0 ∨ 0 ≤ (burnP s).fuel)
    by_cases h : s.e = 0
    · by_cases h1 : s.fuel < 1
      · rw [burn_out h h1]; exact ⟨h0, hd⟩
      · rw [burn_ok h h1]; exact ⟨by show 0 ≤ s.used + 1; omega, .inr (by show 0 ≤ s.fuel - 1; omega)⟩
    · rw [burn_err h]; exact ⟨h0, hd⟩
  sim k s s' hk hs he := by
    refine ⟨rfl, ?_⟩
    show Sim k (burnP s) (burnP s')
    change (burnP s).e ≠ 14 at he
    obtain ⟨h1, h2, h3, h4⟩ := hs
    by_cases h : s.e = 0
    · by_cases hf : s.fuel < 1
      · rw [burn_out h hf] at he; exact absurd rfl he
      · rw [burn_ok h hf, burn_ok (h2.trans h) (by omega)]
        exact ⟨h1, rfl, by show s'.used + 1 = s.used + 1; omega, by show s'.fuel - 1 = s.fuel - 1 + k; omega⟩
    · rw [burn_err h, burn_err (by rw [h2]; exact h)]
      exact ⟨h1, h2, h3, h4⟩
  falls s := by
    show (burnP s).fuel ≤ _
    by_cases h : s.e = 0
    · by_cases h1 : s.fuel < 1
      · rw [burn_out h h1]; exact Int.le_refl _
      · rw [burn_ok h h1]; show s.fuel - 1 ≤ s.fuel; omega
    · rw [burn_err h]; exact Int.le_refl _
  less k s s' hk hs he hf := by
    refine ⟨rfl, ?_⟩
    show Sim k (burnP s) (burnP s')
    change (burnP s').e ≠ 14 at he
    change k ≤ (burnP s').fuel at hf
    obtain ⟨h1, h2, h3, h4⟩ := hs
    by_cases h : s'.e = 0
    · by_cases hg : s'.fuel < 1
      · rw [burn_out h hg] at he; exact absurd rfl he
      · rw [burn_ok h hg] at hf ⊢
        change k ≤ s'.fuel - 1 at hf
        rw [burn_ok (h2.symm.trans h) (by omega)]
        exact ⟨h1, rfl, by show s'.used + 1 = s.used + 1; omega, by show s'.fuel - 1 = s.fuel - 1 + k; omega⟩
    · rw [burn_err h, burn_err (by rw [← h2]; exact h)]
      exact ⟨h1, h2, h3, h4⟩
theorem Way.bind {α β : Type} {f : Ps → α × Ps} {g : α → Ps → β × Ps} (hf : Way f) (hg : ∀ a, Way (g a)) : Way (fun s => g (f s).1 (f s).2) where
  stays s h := by
    have h1 := hf.stays s h
    exact ((hg _).stays _ (by rw [h1]; exact h)).trans h1
  front s := Nat.le_trans ((hg _).front _) (hf.front s)
  sum s := ((hg _).sum _).trans (hf.sum s)
  low s h0 hd := by
    obtain ⟨h1, h2⟩ := hf.low s h0 hd
    exact (hg _).low _ h1 h2
  sim k s s' hk hs he := by
    have h1 : (f s).2.e ≠ 14 := fun h => he (((hg _).stays _ (by rw [h]; decide)).trans h)
    obtain ⟨h2, h3⟩ := hf.sim k s s' hk hs h1
    show (g (f s').1 (f s').2).1 = _ ∧ Sim k _ (g (f s').1 (f s').2).2
    rw [h2]
    exact (hg _).sim k _ _ hk h3 he
  falls s := Int.le_trans ((hg _).falls _) (hf.falls s)
  less k s s' hk hs he hl := by
    have h1 : (f s').2.e ≠ 14 := fun h => he (((hg _).stays _ (by rw [h]; decide)).trans h)
    obtain ⟨h2, h3⟩ := hf.less k s s' hk hs h1 (Int.le_trans hl ((hg _).falls _))
    show (g (f s').1 (f s').2).1 = _ ∧ Sim k _ (g (f s').1 (f s').2).2
    have hl' : k ≤ (g (f s').1 (f s').2).2.fuel := hl
    have he' : (g (f s').1 (f s').2).2.e ≠ 14 := he
    rw [h2] at hl' he' ⊢
    exact (hg _).less k _ _ hk h3 he' hl'
theorem Way.ite {α : Type} {f g : Ps → α × Ps} {c : Ps → Bool} (hc : ∀ k s s', Sim k s s' → c s' = c s) (hf : Way f) (hg : Way g) : Way (fun s => if c s = true then f s else g s) where
  stays s h := by
    by_cases hb : c s = true
    · rw [if_pos hb]; exact hf.stays s h
    · rw [if_neg hb]; exact hg.stays s h
  front s := by
    by_cases hb : c s = true
    · rw [if_pos hb]; exact hf.front s
    · rw [if_neg hb]; exact hg.front s
  sum s := by
    by_cases hb : c s = true
    · rw [if_pos hb]; exact hf.sum s
    · rw [if_neg hb]; exact hg.sum s
  low s h0 hd := by
    by_cases hb : c s = true
    · rw [if_pos hb]; exact hf.low s h0 hd
    · rw [if_neg hb]; exact hg.low s h0 hd
  sim k s s' hk hs he := by
    have e := hc k s s' hs
    by_cases hb : c s = true
    · skip
      rw [if_pos hb] at he ⊢
      rw [if_pos (e.trans hb)]
      exact hf.sim k s s' hk hs he
    · skip
      rw [if_neg hb] at he ⊢
      rw [if_neg (by rw [e]; exact hb)]
      exact hg.sim k s s' hk hs he
  falls s := by
    by_cases hb : c s = true
    · rw [if_pos hb]; exact hf.falls s
    · rw [if_neg hb]; exact hg.falls s
  less k s s' hk hs he hl := by
    have e := hc k s s' hs
    by_cases hb : c s = true
    · have hb' := e.trans hb
      rw [if_pos hb'] at he hl ⊢
      rw [if_pos hb]
      exact hf.less k s s' hk hs he hl
    · have hb' : ¬ c s' = true := by rw [e]; exact hb
      rw [if_neg hb'] at he hl ⊢
      rw [if_neg hb]
      exact hg.less k s s' hk hs he hl
theorem Way.pure {α : Type} (a : α) : Way (fun s => (a, s)) where
  stays _ _ := rfl
  front _ := Nat.le_refl _
  sum _ := rfl
  low _ h0 hd := ⟨h0, hd⟩
  falls _ := Int.le_refl _
  sim _ _ _ _ hs _ := ⟨rfl, hs⟩
  less _ _ _ _ hs _ _ := ⟨rfl, hs⟩
theorem Way.map {α β : Type} {f : Ps → α × Ps} (hf : Way f) (g : α → β) : Way (fun s => (g (f s).1, (f s).2)) := hf.bind (g := fun a s => (g a, s)) fun a => Way.pure (g a)
theorem Way.same {α : Type} {f g : Ps → α × Ps} (hf : Way f) (h : ∀ s, f s = g s) : Way g := by
  have : f = g := funext h
  rw [← this]; exact hf
theorem Way.gas {α : Type} {f : Nat → Ps → α × Ps} (h : ∀ g, Way (f g)) : Way (fun s => f s.rest.length s) where
  stays s := (h _).stays s
  front s := (h _).front s
  sum s := (h _).sum s
  low s := (h _).low s
  falls s := (h _).falls s
  sim k s s' hk hs he := by
    show (f s'.rest.length s').1 = _ ∧ Sim k _ (f s'.rest.length s').2
    rw [hs.1]
    exact (h _).sim k s s' hk hs he
  less k s s' hk hs he hl := by
    have he' : (f s'.rest.length s').2.e ≠ 14 := he
    have hl' : k ≤ (f s'.rest.length s').2.fuel := hl
    show (f s'.rest.length s').1 = _ ∧ Sim k _ (f s'.rest.length s').2
    rw [hs.1] at he' hl' ⊢
    exact (h _).less k s s' hk hs he' hl'
theorem Way.unless {α : Type} {f g : Ps → α × Ps} (hf : Way f) (hg : Way g) : Way (fun s => if s.e = 0 then f s else g s) :=
  (Way.ite (c := fun s => decide (s.e = 0)) (fun k s s' h => by rw [h.2.1]) hf hg).same fun s => by
    by_cases h : s.e = 0
    · rw [if_pos (decide_eq_true h), if_pos h]
    · rw [if_neg (by rw [decide_eq_false h]; decide), if_neg h]
theorem take_cases (i : Nat) (w : List UInt8) (s : Ps) : takeP i w s = (zeroTk, ⟨s.rest, s.fuel, 2, s.used⟩) ∨ ∃ t r, s.rest = t :: r ∧ takeP i w s = (t, ⟨r, s.fuel, s.e, s.used⟩) := by
  obtain ⟨l, f, e, u⟩ := s
  cases l with
  | nil => exact .inl rfl
  | cons t r =>
    by_cases h : fitT i w t = true
    · exact .inr ⟨t, r, rfl, by show (if fitT i w t = true then _ else _) = _; rw [if_pos h]⟩
    · exact .inl (by show (if fitT i w t = true then _ else _) = _; rw [if_neg h])
theorem take_sim {k : Int} {s s' : Ps} (h : Sim k s s') (i : Nat) (w : List UInt8) : (takeP i w s').1 = (takeP i w s).1 ∧ Sim k (takeP i w s).2 (takeP i w s').2 := by
  obtain ⟨l, f, e, u⟩ := s
  obtain ⟨l', f', e', u'⟩ := s'
  obtain ⟨h1, h2, h3, h4⟩ := h
  dsimp only at h1 h2 h3 h4
  subst h1 h2 h3 h4
  cases l' with
  | nil => exact ⟨rfl, rfl, rfl, rfl, rfl⟩
  | cons t r =>
    by_cases h : fitT i w t = true
    · show (if fitT i w t = true then _ else _ : Tk × Ps).1 = (if fitT i w t = true then _ else _ : Tk × Ps).1 ∧ Sim k (if fitT i w t = true then _ else _ : Tk × Ps).2 (if fitT i w t = true then _ else _ : Tk × Ps).2
      rw [if_pos h, if_pos h]; exact ⟨rfl, rfl, rfl, rfl, rfl⟩
    · show (if fitT i w t = true then _ else _ : Tk × Ps).1 = (if fitT i w t = true then _ else _ : Tk × Ps).1 ∧ Sim k (if fitT i w t = true then _ else _ : Tk × Ps).2 (if fitT i w t = true then _ else _ : Tk × Ps).2
      rw [if_neg h, if_neg h]; exact ⟨rfl, rfl, rfl, rfl, rfl⟩
theorem Way.take (i : Nat) (w : List UInt8) : Way (fun s => if s.e = 0 then takeP i w s else (zeroTk, s)) where
  stays s h := by rw [if_neg h]
  front s := by
    by_cases h : s.e = 0
    · rw [if_pos h]
      rcases take_cases i w s with e | ⟨t, r, e1, e⟩
      · rw [e]; exact Nat.le_refl _
      · rw [e, e1]; exact Nat.le_succ _
    · rw [if_neg h]; exact Nat.le_refl _
  sum s := by
    by_cases h : s.e = 0
    · rw [if_pos h]
      rcases take_cases i w s with e | ⟨t, r, e1, e⟩ <;> rw [e]
    · rw [if_neg h]
  low s h0 hd := by
    by_cases h : s.e = 0
    · rw [if_pos h]
      rcases take_cases i w s with e | ⟨t, r, e1, e⟩ <;> (rw [e]; exact ⟨h0, hd⟩)
    · rw [if_neg h]; exact ⟨h0, hd⟩
  falls s := by
    by_cases h : s.e = 0
    · rw [if_pos h]
      rcases take_cases i w s with e | ⟨t, r, e1, e⟩ <;> (rw [e]; exact Int.le_refl _)
    · rw [if_neg h]; exact Int.le_refl _
  sim k s s' hk hs he := by
    have e := hs.2.1
    by_cases h : s.e = 0
    · rw [if_pos h, if_pos (e.trans h)]; exact take_sim hs i w
    · rw [if_neg h, if_neg (by rw [e]; exact h)]; exact ⟨rfl, hs⟩
  less k s s' hk hs he hl := by
    have e := hs.2.1
    by_cases h : s.e = 0
    · rw [if_pos h, if_pos (e.trans h)]; exact take_sim hs i w
    · rw [if_neg h, if_neg (by rw [e]; exact h)]; exact ⟨rfl, hs⟩
theorem Way.next (i : Nat) (w : List UInt8) : Way (nextP i w) := (Way.burn ()).bind (g := fun _ s => if s.e = 0 then takeP i w s else (zeroTk, s)) fun _ => Way.take i w
theorem next_out {s : Ps} (h : s.e = 0) (h1 : s.fuel < 1) (i : Nat) (w : List UInt8) : (nextP i w s).2.e = 14 := by
  unfold nextP
  rw [burn_out h h1, if_neg (by show ¬ (14 : Int) = 0; decide)]
theorem mile_no {s : Ps} (h : ¬ (s.e = 0 ∧ 0 < s.fuel ∧ isP 1 [] s = true ∧ wordS (headP s) = false)) : mileP s = (some (nextP 1 [] s).1.text, (nextP 1 [] s).2) := by unfold mileP; rw [if_neg h]
theorem mile_yes {s : Ps} (h : s.e = 0 ∧ 0 < s.fuel ∧ isP 1 [] s = true ∧ wordS (headP s) = false) : mileP s = (none, ⟨s.rest, s.fuel - 1, 2, s.used + 1⟩) := by unfold mileP; rw [if_pos h]
theorem Way.mile : Way mileP where
  stays s h := by
    rw [mile_no fun hc => h hc.1]
    exact (Way.next 1 []).stays s h
  front s := by
    by_cases h : s.e = 0 ∧ 0 < s.fuel ∧ isP 1 [] s = true ∧ wordS (headP s) = false
    · rw [mile_yes h]; exact Nat.le_refl _
    · rw [mile_no h]; exact (Way.next 1 []).front s
  sum s := by
    by_cases h : s.e = 0 ∧ 0 < s.fuel ∧ isP 1 [] s = true ∧ wordS (headP s) = false
    · rw [mile_yes h]; show s.fuel - 1 + (s.used + 1) = _; omega
    · rw [mile_no h]; exact (Way.next 1 []).sum s
  low s h0 hd := by
    by_cases h : s.e = 0 ∧ 0 < s.fuel ∧ isP 1 [] s = true ∧ wordS (headP s) = false
    · rw [mile_yes h]; exact ⟨by show 0 ≤ s.used + 1; omega, .inr (by have := h.2.1; show 0 ≤ s.fuel - 1; omega)⟩
    · rw [mile_no h]; exact (Way.next 1 []).low s h0 hd
  falls s := by
    by_cases h : s.e = 0 ∧ 0 < s.fuel ∧ isP 1 [] s = true ∧ wordS (headP s) = false
    · rw [mile_yes h]; show s.fuel - 1 ≤ s.fuel; omega
    · rw [mile_no h]; exact (Way.next 1 []).falls s
  sim k s s' hk hs he := by
    have hi := is_sim hs 1 []
    have hh := head_sim hs
    obtain ⟨h1, h2, h3, h4⟩ := hs
    by_cases h : s.e = 0 ∧ 0 < s.fuel ∧ isP 1 [] s = true ∧ wordS (headP s) = false
    · rw [mile_yes h, mile_yes ⟨h2.trans h.1, by have := h.2.1; omega, hi.trans h.2.2.1, by rw [hh]; exact h.2.2.2⟩]
      exact ⟨rfl, h1, rfl, by show s'.used + 1 = s.used + 1; omega, by show s'.fuel - 1 = s.fuel - 1 + k; omega⟩
    · have h' : ¬ (s'.e = 0 ∧ 0 < s'.fuel ∧ isP 1 [] s' = true ∧ wordS (headP s') = false) := fun hc => by
        rw [mile_no h] at he
        refine he (next_out (h2.symm.trans hc.1) (Int.not_le.1 fun hn => h ⟨h2.symm.trans hc.1, by omega, hi.symm.trans hc.2.2.1, by rw [← hh]; exact hc.2.2.2⟩) 1 [])
      rw [mile_no h] at he ⊢
      rw [mile_no h']
      obtain ⟨g1, g2⟩ := (Way.next 1 []).sim k s s' hk ⟨h1, h2, h3, h4⟩ he
      exact ⟨by show some _ = some _; rw [g1], g2⟩
  less k s s' hk hs he hl := by
    have hi := is_sim hs 1 []
    have hh := head_sim hs
    obtain ⟨h1, h2, h3, h4⟩ := hs
    by_cases h' : s'.e = 0 ∧ 0 < s'.fuel ∧ isP 1 [] s' = true ∧ wordS (headP s') = false
    · rw [mile_yes h'] at hl ⊢
      change k ≤ s'.fuel - 1 at hl
      rw [mile_yes ⟨h2.symm.trans h'.1, by omega, hi.symm.trans h'.2.2.1, by rw [← hh]; exact h'.2.2.2⟩]
      exact ⟨rfl, h1, rfl, by show s'.used + 1 = s.used + 1; omega, by show s'.fuel - 1 = s.fuel - 1 + k; omega⟩
    · have h : ¬ (s.e = 0 ∧ 0 < s.fuel ∧ isP 1 [] s = true ∧ wordS (headP s) = false) := fun hc =>
        h' ⟨h2.trans hc.1, by have := hc.2.1; omega, hi.trans hc.2.2.1, by rw [hh]; exact hc.2.2.2⟩
      rw [mile_no h'] at he hl ⊢
      rw [mile_no h]
      obtain ⟨g1, g2⟩ := (Way.next 1 []).less k s s' hk ⟨h1, h2, h3, h4⟩ he hl
      exact ⟨by show some _ = some _; rw [g1], g2⟩
theorem Way.span (k : Nat) : Way (spanP k) :=
  (Way.next 3 []).bind (g := fun (a : Tk) s => (markP k a.n (mileP (nextP 1 afterP s).2).1, (mileP (nextP 1 afterP s).2).2)) fun a =>
    (Way.next 1 afterP).bind (g := fun _ s => (markP k a.n (mileP s).1, (mileP s).2)) fun _ => Way.mile.map (markP k a.n)
theorem Way.inner {α : Type} {f : Ps → α × Ps} (hf : Way f) : Way (innerP f) :=
  (Way.next 4 []).bind (g := fun _ s => ((f s).1, (nextP 5 [] (f s).2).2)) fun _ => hf.bind (g := fun x s => (x, (nextP 5 [] s).2)) fun x => (Way.next 5 []).map fun _ => x
theorem Way.fact {k : Nat} {f : Ps → Ex (k + 1) × Ps} (hf : Way f) : Way (factP f) := Way.ite (fun k s s' h => is_sim h 4 []) hf.inner (Way.span k)
theorem Way.more {α : Type} {f : Ps → α × Ps} (hf : Way f) (w : List UInt8) : ∀ (g : Nat) (l : List α), Way (moreP f w g l)
  | 0, l => Way.pure l
  | g + 1, l => Way.ite (fun k s s' h => is_sim h 1 w) ((Way.next 1 w).bind (g := fun _ s => moreP f w g (l ++ [(f s).1]) (f s).2) fun _ => hf.bind (g := fun x s => moreP f w g (l ++ [x]) s) fun x => Way.more hf w g (l ++ [x])) (Way.pure l)
theorem Way.many {α : Type} {f : Ps → α × Ps} (hf : Way f) (w : List UInt8) : Way (manyP f w) :=
  Way.gas (f := fun g s => moreP f w g [(f s).1] (f s).2) fun g => hf.bind (g := fun x s => moreP f w g [x] s) fun x => Way.more hf w g [x]
theorem Way.term {k : Nat} {f : Ps → Ex (k + 1) × Ps} (hf : Way f) : Way (termP f) := (hf.fact.many andP).map (packP (k + 1) 3)
theorem deep_ok {s : Ps} (h : s.e = 0) : deepP s = ⟨s.rest, s.fuel, 2, s.used⟩ := by unfold deepP; rw [if_pos h]
theorem deep_err {s : Ps} (h : ¬ s.e = 0) : deepP s = s := by unfold deepP; rw [if_neg h]
theorem deep_sim {k : Int} {s s' : Ps} (h : Sim k s s') : Sim k (deepP s) (deepP s') := by
  obtain ⟨h1, h2, h3, h4⟩ := h
  by_cases h : s.e = 0
  · rw [deep_ok h, deep_ok (h2.trans h)]; exact ⟨h1, rfl, h3, h4⟩
  · rw [deep_err h, deep_err (by rw [h2]; exact h)]; exact ⟨h1, h2, h3, h4⟩
theorem Way.deep {α : Type} (a : α) : Way (fun s => (a, deepP s)) where
  stays s h := by show (deepP s).e = _; rw [deep_err h]
  front s := by
    show (deepP s).rest.length ≤ _
    by_cases h : s.e = 0
    · rw [deep_ok h]; exact Nat.le_refl _
    · rw [deep_err h]; exact Nat.le_refl _
  sum s := by
    show (deepP s).fuel + (deepP s).used = _
    by_cases h : s.e = 0
    · rw [deep_ok h]
    · rw [deep_err h]
  low s h0 hd := by
    show 0 ≤ (deepP s).used ∧ ((deepP s).used = 0 ∨ 0 ≤ (deepP s).fuel)
    by_cases h : s.e = 0
    · rw [deep_ok h]; exact ⟨h0, hd⟩
    · rw [deep_err h]; exact ⟨h0, hd⟩
  falls s := by
    show (deepP s).fuel ≤ _
    by_cases h : s.e = 0
    · rw [deep_ok h]; exact Int.le_refl _
    · rw [deep_err h]; exact Int.le_refl _
  sim k s s' hk hs he := ⟨rfl, deep_sim hs⟩
  less k s s' hk hs he hl := ⟨rfl, deep_sim hs⟩
theorem Way.cond : ∀ d : Nat, Way (condP d)
  | 0 => (Way.burn ()).bind (g := fun _ s => (zeroX 0, deepP s)) fun _ => Way.deep _
  | d + 1 => (Way.burn ()).bind (g := fun _ s => if s.e = 0 then (packP (2 * d + 2) 2 (manyP (termP (condP d)) orP s).1, (manyP (termP (condP d)) orP s).2) else (zeroX (2 * d + 2), s)) fun _ =>
      Way.unless (((Way.cond d).term.many orP).map (packP (2 * d + 2) 2)) (Way.pure _)
theorem Way.of : Way ofP :=
  Way.ite (fun k s s' h => is_sim h 1 classP) ((Way.next 1 classP).bind (g := fun _ s => ((nextP 2 [] s).1.text, (nextP 2 [] s).2)) fun _ => (Way.next 2 []).map (·.text)) ((Way.next 1 defaultP).map fun _ => [])
theorem Way.act : Way actP :=
  Way.ite (fun k s s' h => is_sim h 1 destroyP) ((Way.next 1 destroyP).map fun _ => 1) (Way.ite (fun k s s' h => is_sim h 1 reviewP) ((Way.next 1 reviewP).map fun _ => 2) ((Way.next 1 keepP).map fun _ => 3))
theorem Way.rule : Way ruleP :=
  Way.of.bind (g := fun (c : List UInt8) s => ((⟨c, (condP 8 (nextP 1 keepP s).2).1, (actP (nextP 1 thenP (condP 8 (nextP 1 keepP s).2).2).2).1⟩ : Rl 17), (nextP 6 [] (actP (nextP 1 thenP (condP 8 (nextP 1 keepP s).2).2).2).2).2)) fun c =>
    (Way.next 1 keepP).bind (g := fun (_ : Tk) s => ((⟨c, (condP 8 s).1, (actP (nextP 1 thenP (condP 8 s).2).2).1⟩ : Rl 17), (nextP 6 [] (actP (nextP 1 thenP (condP 8 s).2).2).2).2)) fun _ =>
      (Way.cond 8).bind (g := fun x s => ((⟨c, x, (actP (nextP 1 thenP s).2).1⟩ : Rl 17), (nextP 6 [] (actP (nextP 1 thenP s).2).2).2)) fun x =>
        (Way.next 1 thenP).bind (g := fun (_ : Tk) s => ((⟨c, x, (actP s).1⟩ : Rl 17), (nextP 6 [] (actP s).2).2)) fun _ =>
          Way.act.bind (g := fun (a : Int) s => ((⟨c, x, a⟩ : Rl 17), (nextP 6 [] s).2)) fun a => (Way.next 6 []).map fun _ => (⟨c, x, a⟩ : Rl 17)
theorem Way.rules : ∀ (g : Nat) (l : List (Rl 17)), Way (rulesP g l)
  | 0, l => Way.pure l
  | g + 1, l => (Way.ite (c := fun s => decide (s.e = 0 ∧ s.rest ≠ [])) (fun k s s' h => by rw [h.1, h.2.1]) (Way.rule.bind (g := fun r s => rulesP g (l ++ [r]) s) fun r => Way.rules g (l ++ [r])) (Way.pure l)).same fun s => by
      show _ = rulesP (g + 1) l s
      rw [rulesP]
      by_cases h : s.e = 0 ∧ s.rest ≠ []
      · rw [if_pos (decide_eq_true h), if_pos h]
      · rw [if_neg (by rw [decide_eq_false h]; decide), if_neg h]
/-! What more fuel, and less, does to a text. -/
def runP (L : List Tk) (n : Int) : List (Rl 17) × Ps := rulesP L.length [] ⟨L, n, 0, 0⟩
theorem run_sim (L : List Tk) (n k : Int) : Sim k ⟨L, n, 0, 0⟩ ⟨L, n + k, 0, 0⟩ := ⟨rfl, rfl, rfl, rfl⟩
theorem run_sum (L : List Tk) (n : Int) : (runP L n).2.fuel + (runP L n).2.used = n := ((Way.rules L.length []).sum ⟨L, n, 0, 0⟩).trans (by show n + 0 = n; omega)
theorem run_low (L : List Tk) (n : Int) : 0 ≤ (runP L n).2.used ∧ ((runP L n).2.used = 0 ∨ 0 ≤ (runP L n).2.fuel) := (Way.rules L.length []).low ⟨L, n, 0, 0⟩ (Int.le_refl _) (.inl rfl)
theorem run_more (L : List Tk) (n k : Int) (hk : 0 ≤ k) (h : (runP L n).2.e ≠ 14) : (runP L (n + k)).1 = (runP L n).1 ∧ Sim k (runP L n).2 (runP L (n + k)).2 := (Way.rules L.length []).sim k _ _ hk (run_sim L n k) h
theorem run_just (L : List Tk) (n : Int) (h0 : 0 ≤ n) (h : (runP L n).2.e ≠ 14) : (runP L (runP L n).2.used).1 = (runP L n).1 ∧ (runP L (runP L n).2.used).2.rest = (runP L n).2.rest ∧ (runP L (runP L n).2.used).2.e = (runP L n).2.e ∧ (runP L (runP L n).2.used).2.used = (runP L n).2.used := by
  have hs := run_sum L n
  have hl := run_low L n
  obtain ⟨u, hu⟩ : ∃ u, u = (runP L n).2.used := ⟨_, rfl⟩
  rw [← hu] at hs hl ⊢
  have e : u + (n - u) = n := by omega
  have hw := (Way.rules L.length []).less (n - u) _ _ (by omega) (run_sim L u (n - u))
  rw [e] at hw
  obtain ⟨g1, g2, g3, g4, g5⟩ := hw h (by show n - u ≤ (runP L n).2.fuel; omega)
  exact ⟨g1.symm, g2.symm, g3.symm, g4.symm.trans hu.symm⟩
theorem run_less (L : List Tk) (n m : Int) (h : (runP L n).2.e ≠ 14) (h0 : 0 ≤ m) (hm : m < (runP L n).2.used) (hn : m ≤ n) : (runP L m).2.e = 14 := by
  apply Classical.byContradiction
  intro he
  obtain ⟨_, _, _, g, _⟩ := run_more L m (n - m) (by omega) he
  rw [show m + (n - m) = n by omega] at g
  have h1 := run_sum L m
  have h2 := run_low L m
  omega
end
end Go.Proofs.YthindhlogkhclaaGreatDoor
