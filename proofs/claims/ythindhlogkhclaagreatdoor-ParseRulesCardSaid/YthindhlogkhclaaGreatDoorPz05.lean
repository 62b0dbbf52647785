/-
  PaR: Plain mathematics of layer 18 (parse): the loops, a round at a time (so many rounds as there are words are enough). No program. No condition.
  PaG: Plain mathematics of layer 18 (parse): behind an error nothing is read; words that are asked for by what they are; what the program asks for comes to what the document asks for. No program. No condition.
-/
import Derived.Test.YthindhlogkhclaaGreatDoorPz04
set_option linter.unusedVariables false
set_option maxRecDepth 100000
namespace Go.Proofs.YthindhlogkhclaaGreatDoor
section
theorem is_err {i : Nat} {w : List UInt8} {s : Ps} (h : s.e ≠ 0) : isP i w s = false := by unfold isP; rw [decide_eq_false h]; rfl
theorem is_nil {i : Nat} {w : List UInt8} {s : Ps} (h : s.rest = []) : isP i w s = false := by unfold isP; rw [h]; simp
theorem next_ok {i : Nat} {w : List UInt8} {s : Ps} (h : (nextP i w s).2.e = 0) : s.e = 0 ∧ 1 ≤ s.fuel ∧ ∃ t r, s.rest = t :: r ∧ nextP i w s = (t, ⟨r, s.fuel - 1, 0, s.used + 1⟩) := by
  by_cases h0 : s.e = 0
  case neg => exact absurd (((Way.next i w).stays s h0).symm.trans h) h0
  by_cases h1 : s.fuel < 1
  · have := next_out h0 h1 i w
    rw [this] at h; exact absurd h (by decide)
  refine ⟨h0, by omega, ?_⟩
  unfold nextP at h ⊢
  rw [burn_ok h0 h1, if_pos rfl] at h ⊢
  rcases take_cases i w ⟨s.rest, s.fuel - 1, 0, s.used + 1⟩ with e | ⟨t, r, e1, e⟩
  · rw [e] at h; exact absurd h (by show ¬ (2 : Int) = 0; decide)
  · exact ⟨t, r, e1, e⟩
theorem next_short {i : Nat} {w : List UInt8} {s : Ps} (h : (nextP i w s).2.e = 0) : (nextP i w s).2.rest.length + 1 = s.rest.length := by
  obtain ⟨_, _, t, r, e1, e2⟩ := next_ok h
  rw [e2, e1]
  rfl
section
variable {α : Type} {item : Ps → α × Ps} {w : List UInt8}
theorem more_stop {G : Nat} {l : List α} {s : Ps} (h : isP 1 w s = false) : moreP item w G l s = (l, s) := by
  cases G with
  | zero => rfl
  | succ g => rw [moreP, h, if_neg (by decide)]
theorem more_gas (hi : Way item) : ∀ (G G' : Nat) (l : List α) (s : Ps), s.rest.length ≤ G → s.rest.length ≤ G' → moreP item w G l s = moreP item w G' l s := by
  intro G
  induction G with
  | zero =>
    intro G' l s h h'
    rw [more_stop (is_nil (List.length_eq_zero_iff.1 (by omega))), more_stop (is_nil (List.length_eq_zero_iff.1 (by omega)))]
  | succ g ih =>
    intro G' l s h h'
    by_cases hb : isP 1 w s = true
    · cases G' with
      | zero =>
        rw [is_nil (List.length_eq_zero_iff.1 (by omega))] at hb
        cases hb
      | succ g' =>
        rw [moreP, moreP, if_pos hb, if_pos hb]
        by_cases he : (nextP 1 w s).2.e = 0
        · have h1 := next_short he
          have h2 := hi.front (nextP 1 w s).2
          exact ih g' _ _ (by omega) (by omega)
        · have h2 : (item (nextP 1 w s).2).2.e ≠ 0 := by rw [hi.stays _ he]; exact he
          rw [more_stop (is_err h2), more_stop (is_err h2)]
    · have hb' : isP 1 w s = false := by simpa using hb
      rw [more_stop hb', more_stop hb']
theorem more_step (hi : Way item) {G : Nat} {l : List α} {s : Ps} (h : isP 1 w s = true) (hG : s.rest.length ≤ G) : moreP item w G l s = moreP item w G (l ++ [(item (nextP 1 w s).2).1]) (item (nextP 1 w s).2).2 := by
  have e : moreP item w G l s = moreP item w (G + 1) l s := more_gas hi _ _ _ _ hG (by omega)
  rw [e, moreP, if_pos h]
theorem more_front (hi : Way item) {s : Ps} : (item (nextP 1 w s).2).2.rest.length ≤ s.rest.length := Nat.le_trans (hi.front _) ((Way.next 1 w).front s)
end
theorem of_short {s : Ps} (h : (ofP s).2.e = 0) : (ofP s).2.rest.length + 1 ≤ s.rest.length := by
  unfold ofP at h ⊢
  by_cases hb : isP 1 classP s = true
  · rw [if_pos hb] at h ⊢
    have h1 := next_short h
    have h2 := (Way.next 1 classP).front s
    show (nextP 2 [] (nextP 1 classP s).2).2.rest.length + 1 ≤ _
    omega
  · rw [if_neg hb] at h ⊢
    exact Nat.le_of_eq (next_short h)
theorem rule_short {s : Ps} (h : (ruleP s).2.e = 0) : (ruleP s).2.rest.length + 1 ≤ s.rest.length := by
  have ho : (ofP s).2.e = 0 := Classical.byContradiction fun hn => by
    have h2 := (Way.next 1 keepP).stays _ hn
    have h3 := (Way.cond 8).stays (nextP 1 keepP (ofP s).2).2 (by rw [h2]; exact hn)
    have h4 := (Way.next 1 thenP).stays (condP 8 (nextP 1 keepP (ofP s).2).2).2 (by rw [h3, h2]; exact hn)
    have h5 := Way.act.stays (nextP 1 thenP (condP 8 (nextP 1 keepP (ofP s).2).2).2).2 (by rw [h4, h3, h2]; exact hn)
    have h6 := (Way.next 6 []).stays (actP (nextP 1 thenP (condP 8 (nextP 1 keepP (ofP s).2).2).2).2).2 (by rw [h5, h4, h3, h2]; exact hn)
    exact hn ((h6.trans (h5.trans (h4.trans (h3.trans h2)))).symm.trans h)
  have h1 := of_short ho
  have h2 := (Way.next 1 keepP).front (ofP s).2
  have h3 := (Way.cond 8).front (nextP 1 keepP (ofP s).2).2
  have h4 := (Way.next 1 thenP).front (condP 8 (nextP 1 keepP (ofP s).2).2).2
  have h5 := Way.act.front (nextP 1 thenP (condP 8 (nextP 1 keepP (ofP s).2).2).2).2
  have h6 := (Way.next 6 []).front (actP (nextP 1 thenP (condP 8 (nextP 1 keepP (ofP s).2).2).2).2).2
  show (nextP 6 [] (actP (nextP 1 thenP (condP 8 (nextP 1 keepP (ofP s).2).2).2).2).2).2.rest.length + 1 ≤ _
  omega
theorem rules_stop {G : Nat} {l : List (Rl 17)} {s : Ps} (h : ¬ (s.e = 0 ∧ s.rest ≠ [])) : rulesP G l s = (l, s) := by
  cases G with
  | zero => rfl
  | succ g => rw [rulesP, if_neg h]
theorem rules_gas : ∀ (G G' : Nat) (l : List (Rl 17)) (s : Ps), s.rest.length ≤ G → s.rest.length ≤ G' → rulesP G l s = rulesP G' l s := by
  intro G
  induction G with
  | zero =>
    intro G' l s h h'
    have hn : s.rest = [] := List.length_eq_zero_iff.1 (by omega)
    rw [rules_stop fun hc => hc.2 hn, rules_stop fun hc => hc.2 hn]
  | succ g ih =>
    intro G' l s h h'
    by_cases hb : s.e = 0 ∧ s.rest ≠ []
    · cases G' with
      | zero => exact absurd (List.length_eq_zero_iff.1 (by omega)) hb.2
      | succ g' =>
        rw [rulesP, rulesP, if_pos hb, if_pos hb]
        by_cases he : (ruleP s).2.e = 0
        · have h1 := rule_short he
          exact ih g' _ _ (by omega) (by omega)
        · rw [rules_stop fun hc => he hc.1, rules_stop fun hc => he hc.1]
    · rw [rules_stop hb, rules_stop hb]
theorem rules_step {G : Nat} {l : List (Rl 17)} {s : Ps} (h : s.e = 0 ∧ s.rest ≠ []) (hG : s.rest.length ≤ G) : rulesP G l s = rulesP G (l ++ [(ruleP s).1]) (ruleP s).2 := by
  have e : rulesP G l s = rulesP (G + 1) l s := rules_gas _ _ _ _ hG (by omega)
  rw [e, rulesP, if_pos h]
theorem rules_end : ∀ (G : Nat) (l : List (Rl 17)) (s : Ps), s.rest.length ≤ G → (rulesP G l s).2.e = 0 → (rulesP G l s).2.rest = [] := by
  intro G
  induction G with
  | zero =>
    intro l s h _
    exact List.length_eq_zero_iff.1 (by show s.rest.length = 0; omega)
  | succ g ih =>
    intro l s h he
    by_cases hb : s.e = 0 ∧ s.rest ≠ []
    · rw [rulesP, if_pos hb] at he ⊢
      by_cases hr : (ruleP s).2.e = 0
      · have h1 := rule_short hr
        exact ih _ _ (by omega) he
      · rw [rules_stop fun hc => hr hc.1] at he
        exact absurd he hr
    · rw [rules_stop hb] at he ⊢
      exact Classical.byContradiction fun hn => hb ⟨he, hn⟩
end
section
def Stuck {α : Type} (f : Ps → α × Ps) : Prop := ∀ s, s.e ≠ 0 → (f s).2 = s
theorem Stuck.bind {α β : Type} {f : Ps → α × Ps} {g : α → Ps → β × Ps} (hf : Stuck f) (hg : ∀ a, Stuck (g a)) : Stuck (fun s => g (f s).1 (f s).2) := fun s h => by
  have h1 := hf s h
  show (g (f s).1 (f s).2).2 = s
  rw [h1]; exact hg _ s h
theorem Stuck.map {α β : Type} {f : Ps → α × Ps} (hf : Stuck f) (g : α → β) : Stuck (fun s => (g (f s).1, (f s).2)) := hf
theorem Stuck.next (i : Nat) (w : List UInt8) : Stuck (nextP i w) := fun s h => by
  unfold nextP
  rw [burn_err h, if_neg h]
theorem is_err' {i : Nat} {w : List UInt8} {s : Ps} (h : s.e ≠ 0) : ¬ isP i w s = true := by rw [is_err h]; decide
theorem Stuck.mile : Stuck mileP := fun s h => by
  rw [mile_no fun hc => h hc.1]
  exact Stuck.next 1 [] s h
theorem Stuck.span (k : Nat) : Stuck (spanP k) := fun s h => by
  unfold spanP
  show (mileP (nextP 1 afterP (nextP 3 [] s).2).2).2 = s
  rw [Stuck.next 3 [] s h, Stuck.next 1 afterP s h, Stuck.mile s h]
theorem Stuck.inner {α : Type} {f : Ps → α × Ps} (hf : Stuck f) : Stuck (innerP f) := fun s h => by
  show (nextP 5 [] (f (nextP 4 [] s).2).2).2 = s
  rw [Stuck.next 4 [] s h, hf s h, Stuck.next 5 [] s h]
theorem Stuck.fact {k : Nat} {f : Ps → Ex (k + 1) × Ps} : Stuck (factP f) := fun s h => by
  unfold factP
  rw [if_neg (is_err' h)]
  exact Stuck.span k s h
theorem Stuck.more {α : Type} {f : Ps → α × Ps} (w : List UInt8) (g : Nat) (l : List α) (s : Ps) (h : s.e ≠ 0) : moreP f w g l s = (l, s) := more_stop (is_err h)
theorem Stuck.many {α : Type} {f : Ps → α × Ps} (hf : Stuck f) (w : List UInt8) : Stuck (manyP f w) := fun s h => by
  unfold manyP
  rw [hf s h, Stuck.more w _ _ s h]
theorem Stuck.term {k : Nat} {f : Ps → Ex (k + 1) × Ps} : Stuck (termP f) := fun s h => Stuck.many Stuck.fact andP s h
theorem Stuck.cond : ∀ d : Nat, Stuck (condP d)
  | 0 => fun s h => by show deepP (burnP s) = s; rw [burn_err h, deep_err h]
  | d + 1 => fun s h => by
    rw [condP, burn_err h, if_neg h]
theorem Stuck.of : Stuck ofP := fun s h => by
  unfold ofP
  rw [if_neg (is_err' h)]
  exact Stuck.next 1 defaultP s h
theorem Stuck.act : Stuck actP := fun s h => by
  unfold actP
  rw [if_neg (is_err' h), if_neg (is_err' h)]
  exact Stuck.next 1 keepP s h
theorem Stuck.rule : Stuck ruleP := fun s h => by
  show (nextP 6 [] (actP (nextP 1 thenP (condP 8 (nextP 1 keepP (ofP s).2).2).2).2).2).2 = s
  rw [Stuck.of s h, Stuck.next 1 keepP s h, Stuck.cond 8 s h, Stuck.next 1 thenP s h, Stuck.act s h, Stuck.next 6 [] s h]
/-! Words that are asked for by what they are. -/
def takeB (m : Tk → Bool) (s : Ps) : Tk × Ps := match s.rest with | [] => (zeroTk, ⟨[], s.fuel, 2, s.used⟩) | t :: r => if m t = true then (t, ⟨r, s.fuel, s.e, s.used⟩) else (zeroTk, ⟨t :: r, s.fuel, 2, s.used⟩)
def nextB (m : Tk → Bool) (s : Ps) : Tk × Ps := if (burnP s).e = 0 then takeB m (burnP s) else (zeroTk, burnP s)
def isB (m : Tk → Bool) (s : Ps) : Bool := decide (s.e = 0) && (match s.rest with | [] => false | t :: _ => m t)
theorem next_b (k : Nat) (w : List UInt8) (s : Ps) : nextP k w s = nextB (fitT k w) s := rfl
theorem is_b (k : Nat) (w : List UInt8) (s : Ps) : isP k w s = isB (fitT k w) s := rfl
theorem nextb_err {m : Tk → Bool} {s : Ps} (h : s.e ≠ 0) : nextB m s = (zeroTk, s) := by unfold nextB; rw [burn_err h, if_neg h]
theorem nextb_out {m : Tk → Bool} {s : Ps} (h : s.e = 0) (h1 : s.fuel < 1) : nextB m s = (zeroTk, ⟨s.rest, s.fuel, 14, s.used⟩) := by
  unfold nextB; rw [burn_out h h1, if_neg (by show ¬ (14 : Int) = 0; decide)]
theorem nextb_nil {m : Tk → Bool} {f u : Int} (h1 : ¬ f < 1) : nextB m ⟨[], f, 0, u⟩ = (zeroTk, ⟨[], f - 1, 2, u + 1⟩) := by
  unfold nextB; rw [burn_ok rfl h1, if_pos rfl]; rfl
theorem nextb_yes {m : Tk → Bool} {t : Tk} {r : List Tk} {f u : Int} (h1 : ¬ f < 1) (hm : m t = true) : nextB m ⟨t :: r, f, 0, u⟩ = (t, ⟨r, f - 1, 0, u + 1⟩) := by
  unfold nextB; rw [burn_ok rfl h1, if_pos rfl]
  show (if m t = true then _ else _) = _
  rw [if_pos hm]
theorem nextb_no {m : Tk → Bool} {t : Tk} {r : List Tk} {f u : Int} (h1 : ¬ f < 1) (hm : m t = false) : nextB m ⟨t :: r, f, 0, u⟩ = (zeroTk, ⟨t :: r, f - 1, 2, u + 1⟩) := by
  unfold nextB; rw [burn_ok rfl h1, if_pos rfl]
  show (if m t = true then _ else _) = _
  rw [if_neg (by rw [hm]; decide)]
theorem isb_err {m : Tk → Bool} {s : Ps} (h : s.e ≠ 0) : ¬ isB m s = true := by unfold isB; rw [decide_eq_false h, Bool.false_and]; decide
theorem Stuck.nextB (m : Tk → Bool) : Stuck (nextB m) := fun s h => by rw [nextb_err h]
theorem nextb_cases (m : Tk → Bool) (s : Ps) : (s.e ≠ 0 ∧ nextB m s = (zeroTk, s)) ∨ (s.e = 0 ∧ s.fuel < 1 ∧ nextB m s = (zeroTk, ⟨s.rest, s.fuel, 14, s.used⟩)) ∨
    (s.e = 0 ∧ 1 ≤ s.fuel ∧ (s.rest = [] ∨ ∃ t r, s.rest = t :: r ∧ m t = false) ∧ nextB m s = (zeroTk, ⟨s.rest, s.fuel - 1, 2, s.used + 1⟩)) ∨
    (s.e = 0 ∧ 1 ≤ s.fuel ∧ ∃ t r, s.rest = t :: r ∧ m t = true ∧ nextB m s = (t, ⟨r, s.fuel - 1, 0, s.used + 1⟩)) := by
  obtain ⟨l, f, e, u⟩ := s
  by_cases h : e = 0
  case neg => exact .inl ⟨h, nextb_err h⟩
  subst h
  by_cases h1 : f < 1
  · exact .inr (.inl ⟨rfl, h1, nextb_out rfl h1⟩)
  have h1' : 1 ≤ f := by omega
  cases l with
  | nil => exact .inr (.inr (.inl ⟨rfl, h1', .inl rfl, nextb_nil h1⟩))
  | cons t r =>
    cases hm : m t with
    | true => exact .inr (.inr (.inr ⟨rfl, h1', t, r, rfl, hm, nextb_yes h1 hm⟩))
    | false => exact .inr (.inr (.inl ⟨rfl, h1', .inr ⟨t, r, rfl, hm⟩, nextb_no h1 hm⟩))
/-! What words are asked for. -/
def kindB (k : Nat) (t : Tk) : Bool := decide (t.kind = k)
def saysB (ws : List (List UInt8)) (t : Tk) : Bool := decide (t.kind = 1) && ws.contains t.text
def mileB (t : Tk) : Bool := decide (t.kind = 1) && wordS t.text
theorem fit_kind (k : Nat) : fitT k [] = kindB k := by
  funext t
  unfold fitT kindB
  rw [decide_eq_true rfl, Bool.true_or, Bool.and_true]
theorem fit_says {w : List UInt8} (hw : w ≠ []) : fitT 1 w = saysB [w] := by
  funext t
  unfold fitT saysB
  rw [decide_eq_false hw, Bool.false_or]
  congr 1
  by_cases h : t.text = w
  · rw [decide_eq_true h, h]; simp
  · rw [decide_eq_false h]; simp [h]
theorem next_kind (k : Nat) (s : Ps) : nextP k [] s = nextB (kindB k) s := by rw [next_b, fit_kind]
theorem next_says {w : List UInt8} (hw : w ≠ []) (s : Ps) : nextP 1 w s = nextB (saysB [w]) s := by rw [next_b, fit_says hw]
theorem isp_kind (k : Nat) (s : Ps) : isP k [] s = isB (kindB k) s := by rw [is_b, fit_kind]
theorem isp_says {w : List UInt8} (hw : w ≠ []) (s : Ps) : isP 1 w s = isB (saysB [w]) s := by rw [is_b, fit_says hw]
theorem mile_b (s : Ps) : (mileP s).2 = (nextB mileB s).2 ∧ ((mileP s).2.e = 0 → (mileP s).1 = some (nextB mileB s).1.text) := by
  obtain ⟨l, f, e, u⟩ := s
  by_cases h : e = 0
  case neg =>
    rw [mile_no fun hc => h hc.1, next_kind, nextb_err h, nextb_err h]
    exact ⟨rfl, fun _ => rfl⟩
  subst h
  by_cases h1 : f < 1
  · rw [mile_no (fun hc => by have := hc.2.1; dsimp only at this; omega), next_kind, nextb_out rfl h1, nextb_out rfl h1]
    exact ⟨rfl, fun _ => rfl⟩
  cases l with
  | nil =>
    rw [mile_no (fun hc => by have := hc.2.2.1; rw [is_nil rfl] at this; cases this), next_kind, nextb_nil h1, nextb_nil h1]
    exact ⟨rfl, fun _ => rfl⟩
  | cons t r =>
    by_cases hk : t.kind = 1
    · have hi : isP 1 [] ⟨t :: r, f, 0, u⟩ = true := by
        rw [isp_kind]; show (decide ((0 : Int) = 0) && decide (t.kind = 1)) = true
        rw [decide_eq_true hk]; rfl
      cases hw : wordS t.text with
      | true =>
        have hm : mileB t = true := by unfold mileB; rw [decide_eq_true hk, hw]; rfl
        rw [mile_no (fun hc => by have := hc.2.2.2; change wordS t.text = false at this; rw [hw] at this; cases this), next_kind, nextb_yes h1 (decide_eq_true hk), nextb_yes h1 hm]
        exact ⟨rfl, fun _ => rfl⟩
      | false =>
        have hm : mileB t = false := by unfold mileB; rw [hw, Bool.and_false]
        rw [mile_yes ⟨rfl, (by show 0 < f; omega), hi, hw⟩, nextb_no h1 hm]
        exact ⟨rfl, fun h => absurd h (by show ¬ (2 : Int) = 0; decide)⟩
    · have hk' : kindB 1 t = false := decide_eq_false hk
      have hm : mileB t = false := by unfold mileB; rw [decide_eq_false hk]; rfl
      rw [mile_no (fun hc => by
        have := hc.2.2.1
        rw [isp_kind] at this
        change (decide ((0 : Int) = 0) && kindB 1 t) = true at this
        rw [hk'] at this; cases this), next_kind, nextb_no h1 hk', nextb_no h1 hm]
      exact ⟨rfl, fun _ => rfl⟩
def ofB (s : Ps) : List UInt8 × Ps :=
  if (nextB (saysB [classP, defaultP]) s).1.text = classP then ((nextB (kindB 2) (nextB (saysB [classP, defaultP]) s).2).1.text, (nextB (kindB 2) (nextB (saysB [classP, defaultP]) s).2).2) else ([], (nextB (saysB [classP, defaultP]) s).2)
theorem of_b (s : Ps) : (ofP s).2 = (ofB s).2 ∧ ((ofP s).2.e = 0 → (ofP s).1 = (ofB s).1) := by
  have hz : ¬ zeroTk.text = classP := by decide
  unfold ofP ofB
  rw [isp_says (by decide), next_says (by decide), next_says (w := defaultP) (by decide), next_kind]
  obtain ⟨l, f, e, u⟩ := s
  by_cases h : e = 0
  case neg =>
    rw [if_neg (isb_err h), nextb_err (m := saysB [defaultP]) h, nextb_err (m := saysB [classP, defaultP]) h, if_neg hz]
    exact ⟨rfl, fun _ => rfl⟩
  subst h
  cases l with
  | nil =>
    rw [if_neg (by unfold isB; simp)]
    by_cases h1 : f < 1
    · rw [nextb_out rfl h1, nextb_out rfl h1, if_neg hz]; exact ⟨rfl, fun _ => rfl⟩
    · rw [nextb_nil h1, nextb_nil h1, if_neg hz]; exact ⟨rfl, fun _ => rfl⟩
  | cons t r =>
    have e0 : isB (saysB [classP]) ⟨t :: r, f, 0, u⟩ = saysB [classP] t := by show (decide ((0 : Int) = 0) && saysB [classP] t) = _; simp
    rw [e0]
    by_cases hc : saysB [classP] t = true
    · have hk : t.kind = 1 ∧ t.text = classP := by unfold saysB at hc; simpa using hc
      have hm : saysB [classP, defaultP] t = true := by unfold saysB; rw [hk.1, hk.2]; decide
      rw [if_pos hc]
      by_cases h1 : f < 1
      · rw [nextb_out (m := saysB [classP]) rfl h1, nextb_out (m := saysB [classP, defaultP]) rfl h1, if_neg hz, nextb_err (by show ¬ (14 : Int) = 0; decide)]
        exact ⟨rfl, fun h => absurd h (by show ¬ (14 : Int) = 0; decide)⟩
      · rw [nextb_yes h1 hc, nextb_yes h1 hm, if_pos hk.2]
        exact ⟨rfl, fun _ => rfl⟩
    · rw [if_neg hc]
      by_cases h1 : f < 1
      · rw [nextb_out rfl h1, nextb_out rfl h1, if_neg hz]; exact ⟨rfl, fun _ => rfl⟩
      · cases hd : saysB [defaultP] t with
        | true =>
          have hk : t.kind = 1 ∧ t.text = defaultP := by unfold saysB at hd; simpa using hd
          have hm : saysB [classP, defaultP] t = true := by unfold saysB; rw [hk.1, hk.2]; decide
          rw [nextb_yes h1 hd, nextb_yes h1 hm, if_neg (by show ¬ t.text = classP; rw [hk.2]; decide)]
          exact ⟨rfl, fun _ => rfl⟩
        | false =>
          have hm : saysB [classP, defaultP] t = false := by
            unfold saysB at hc hd ⊢
            simp at hc hd ⊢
            intro hk
            exact ⟨hc hk, hd hk⟩
          rw [nextb_no h1 hd, nextb_no h1 hm, if_neg hz]
          exact ⟨rfl, fun _ => rfl⟩
def actN (w : List UInt8) : Int := if w = destroyP then 1 else if w = reviewP then 2 else if w = keepP then 3 else 0
theorem act_b (s : Ps) : (actP s).2 = (nextB (saysB [destroyP, reviewP, keepP]) s).2 ∧ ((actP s).2.e = 0 → (actP s).1 = actN (nextB (saysB [destroyP, reviewP, keepP]) s).1.text) := by
  unfold actP
  rw [isp_says (by decide), isp_says (w := reviewP) (by decide), next_says (by decide), next_says (w := reviewP) (by decide), next_says (w := keepP) (by decide)]
  obtain ⟨l, f, e, u⟩ := s
  by_cases h : e = 0
  case neg =>
    rw [if_neg (isb_err h), if_neg (isb_err h), nextb_err (m := saysB [keepP]) h, nextb_err (m := saysB [destroyP, reviewP, keepP]) h]
    exact ⟨rfl, fun h' => absurd h' h⟩
  subst h
  cases l with
  | nil =>
    rw [if_neg (by unfold isB; simp), if_neg (by unfold isB; simp)]
    by_cases h1 : f < 1
    · rw [nextb_out rfl h1, nextb_out rfl h1]; exact ⟨rfl, fun h => absurd h (by show ¬ (14 : Int) = 0; decide)⟩
    · rw [nextb_nil h1, nextb_nil h1]; exact ⟨rfl, fun h => absurd h (by show ¬ (2 : Int) = 0; decide)⟩
  | cons t r =>
    have e0 : ∀ m, isB m ⟨t :: r, f, 0, u⟩ = m t := fun m => by show (decide ((0 : Int) = 0) && m t) = _; simp
    rw [e0, e0]
    have one : ∀ w, saysB [w] t = true → t.kind = 1 ∧ t.text = w := fun w h => by unfold saysB at h; simpa using h
    have main : ∀ w a, (w = destroyP ∧ a = 1 ∨ w = reviewP ∧ a = 2 ∨ w = keepP ∧ a = 3) → saysB [w] t = true →
        (nextB (saysB [w]) ⟨t :: r, f, 0, u⟩).2 = (nextB (saysB [destroyP, reviewP, keepP]) ⟨t :: r, f, 0, u⟩).2 ∧
        ((nextB (saysB [w]) ⟨t :: r, f, 0, u⟩).2.e = 0 → a = actN (nextB (saysB [destroyP, reviewP, keepP]) ⟨t :: r, f, 0, u⟩).1.text) := by
      intro w a hw hs
      have hk := one w hs
      have hm : saysB [destroyP, reviewP, keepP] t = true := by
        unfold saysB
        rw [hk.1, hk.2]
        rcases hw with ⟨rfl, _⟩ | ⟨rfl, _⟩ | ⟨rfl, _⟩ <;> decide
      by_cases h1 : f < 1
      · rw [nextb_out rfl h1, nextb_out rfl h1]; exact ⟨rfl, fun h => absurd h (by show ¬ (14 : Int) = 0; decide)⟩
      · rw [nextb_yes h1 hs, nextb_yes h1 hm]
        refine ⟨rfl, fun _ => ?_⟩
        show a = actN t.text
        rw [hk.2]
        rcases hw with ⟨rfl, rfl⟩ | ⟨rfl, rfl⟩ | ⟨rfl, rfl⟩ <;> decide
    by_cases hd : saysB [destroyP] t = true
    · rw [if_pos hd]; exact main destroyP 1 (.inl ⟨rfl, rfl⟩) hd
    rw [if_neg hd]
    by_cases hr : saysB [reviewP] t = true
    · rw [if_pos hr]; exact main reviewP 2 (.inr (.inl ⟨rfl, rfl⟩)) hr
    rw [if_neg hr]
    cases hkp : saysB [keepP] t with
    | true => exact main keepP 3 (.inr (.inr ⟨rfl, rfl⟩)) hkp
    | false =>
      have hm : saysB [destroyP, reviewP, keepP] t = false := by
        unfold saysB at hd hr hkp ⊢
        simp at hd hr hkp ⊢
        intro hk
        exact ⟨hd hk, hr hk, hkp hk⟩
      by_cases h1 : f < 1
      · rw [nextb_out rfl h1, nextb_out rfl h1]; exact ⟨rfl, fun h => absurd h (by show ¬ (14 : Int) = 0; decide)⟩
      · rw [nextb_no h1 hkp, nextb_no h1 hm]; exact ⟨rfl, fun h => absurd h (by show ¬ (2 : Int) = 0; decide)⟩
end
end Go.Proofs.YthindhlogkhclaaGreatDoor
