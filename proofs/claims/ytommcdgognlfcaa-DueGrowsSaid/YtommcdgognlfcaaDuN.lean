/-
  Plain mathematics of layer 19 (due), as the program goes: where the first milestone of a name stands; the ticks that are known of kids, the least and the greatest of them. No program. No condition.
-/
import Derived.Test.YtommcdgognlfcaaDuM
namespace Go.Proofs.Ytommcdgognlfcaa
set_option maxRecDepth 100000
set_option linter.unusedVariables false

/-- Where the first milestone of a name stands; -1, if none does. -/
def placeM (l : List Ml) (n : List UInt8) : Int := match l.findIdx? (fun m => decide (m.1 = n)) with | some i => (i : Int) | none => -1
theorem placeM_none {l : List Ml} {n : List UInt8} (h : ∀ (i : Nat) (hi : i < l.length), l[i].1 ≠ n) : placeM l n = -1 := by
  unfold placeM
  have : l.findIdx? (fun m => decide (m.1 = n)) = none := by
    rw [List.findIdx?_eq_none_iff]
    intro r hr
    obtain ⟨i, hi, rfl⟩ := List.mem_iff_getElem.1 hr
    exact decide_eq_false (h i hi)
  rw [this]
theorem placeM_some {l : List Ml} {n : List UInt8} {j : Nat} (hj : j < l.length) (h1 : ∀ (i : Nat) (hi : i < l.length), i < j → l[i].1 ≠ n) (h2 : l[j].1 = n) : placeM l n = (j : Int) := by
  unfold placeM
  have : l.findIdx? (fun m => decide (m.1 = n)) = some j := by
    rw [List.findIdx?_eq_some_iff_getElem]
    exact ⟨hj, decide_eq_true h2, fun i hi => by have := h1 i (by omega) hi; simpa using this⟩
  rw [this]
theorem placeM_is (l : List Ml) (n : List UInt8) : (placeM l n = -1 ∧ ∀ (i : Nat) (hi : i < l.length), l[i].1 ≠ n) ∨ ∃ (j : Nat) (hj : j < l.length), placeM l n = (j : Int) ∧ l[j].1 = n ∧ ∀ (i : Nat) (hi : i < l.length), i < j → l[i].1 ≠ n := by
  cases hq : l.findIdx? (fun m => decide (m.1 = n)) with
  | none =>
    rw [List.findIdx?_eq_none_iff] at hq
    have ha : ∀ (i : Nat) (hi : i < l.length), l[i].1 ≠ n := fun i hi => of_decide_eq_false (hq _ (List.getElem_mem hi))
    exact .inl ⟨placeM_none ha, ha⟩
  | some j =>
    rw [List.findIdx?_eq_some_iff_getElem] at hq
    obtain ⟨hj, h1, h2⟩ := hq
    have ha : ∀ (i : Nat) (hi : i < l.length), i < j → l[i].1 ≠ n := fun i hi hij => by have := h2 i hij; simpa using this
    exact .inr ⟨j, hj, placeM_some hj ha (of_decide_eq_true h1), of_decide_eq_true h1, ha⟩
theorem mile_place_none {ms : List Ml} {n : List UInt8} {d : Int} (h : placeM ms n < 0) : mileD ms n d = (0, false) := by
  rcases placeM_is ms n with ⟨_, ha⟩ | ⟨j, hj, e, _, _⟩
  · exact mile_none ha
  · omega
theorem mile_place_at {ms : List Ml} {n : List UInt8} {d : Int} (h : ¬ placeM ms n < 0) : ∃ (j : Nat) (hj : j < ms.length), placeM ms n = (j : Int) ∧ mileD ms n d = afterD ms[j].2 d := by
  rcases placeM_is ms n with ⟨e, _⟩ | ⟨j, hj, e, h2, ha⟩
  · omega
  · exact ⟨j, hj, e, mile_at hj (fun i hi => ha i (by omega) hi) h2⟩
theorem put_place {l : List Ml} {m : Ml} : putM l m = if 8 ≤ l.length ∨ 0 ≤ placeM l m.1 then ([], false) else (l ++ [m], true) := by
  by_cases h8 : 8 ≤ l.length
  · rw [if_pos (.inl h8), put_full h8]
  · rcases placeM_is l m.1 with ⟨e, ha⟩ | ⟨j, hj, e, h2, _⟩
    · rw [if_neg (by omega), put_new h8 ha]
    · rw [if_pos (.inr (by omega)), put_there hj h2]

/-- Those that are known. -/
def knownL : List (Int × Bool) → List Int
  | [] => []
  | p :: l => if p.2 = true then p.1 :: knownL l else knownL l
def minL : List Int → Int
  | [] => 0
  | a :: l => l.foldl min a
def maxL : List Int → Int
  | [] => 0
  | a :: l => l.foldl max a
theorem known_length : ∀ (l : List (Int × Bool)), (knownL l).length ≤ l.length ∧ ((knownL l).length = l.length ↔ ∀ p ∈ l, p.2 = true)
  | [] => ⟨Nat.le_refl _, by simp [knownL]⟩
  | p :: l => by
    obtain ⟨h1, h2⟩ := known_length l
    rw [knownL]
    by_cases hp : p.2 = true
    · rw [if_pos hp]
      refine ⟨by simp; omega, ?_⟩
      rw [List.length_cons, List.length_cons, Nat.add_right_cancel_iff, h2]
      constructor
      · intro h q hq; cases hq with | head => exact hp | tail _ hq => exact h q hq
      · intro h q hq; exact h q (List.mem_cons_of_mem _ hq)
    · rw [if_neg hp]
      refine ⟨by simp; omega, ?_⟩
      constructor
      · intro h; simp at h; omega
      · intro h; exact absurd (h p (List.mem_cons_self ..)) hp
theorem known_append (a b : List (Int × Bool)) : knownL (a ++ b) = knownL a ++ knownL b := by
  induction a with
  | nil => rfl
  | cons p l ih =>
    rw [List.cons_append, knownL, knownL, ih]
    split <;> rfl
theorem or_min (a : Int) (l : List (Int × Bool)) : kidsL 2 (a, true) l = ((knownL l).foldl min a, true) := by
  induction l generalizing a with
  | nil => rfl
  | cons p l ih =>
    have e : kidS 2 (a, true) p = if p.2 = true then (min a p.1, true) else (a, true) := by
      unfold kidS orS
      rw [if_pos rfl]
      by_cases hp : p.2 = true
      · by_cases hl : p.1 < a
        · rw [if_pos ⟨hp, .inr hl⟩, if_pos hp, show min a p.1 = p.1 by omega]
        · rw [if_neg (fun h => by rcases h.2 with h | h; cases h; exact hl h), if_pos hp, show min a p.1 = a by omega]
      · rw [if_neg fun h => hp h.1, if_neg hp]
    rw [kidsL, if_neg (fun h => absurd h.1 (by decide)), e, knownL]
    by_cases hp : p.2 = true
    · rw [if_pos hp, if_pos hp, ih]; rfl
    · rw [if_neg hp, if_neg hp, ih]
theorem or_known : ∀ (l : List (Int × Bool)), kidsL 2 (0, false) l = if 0 < (knownL l).length then (minL (knownL l), true) else (0, false)
  | [] => rfl
  | p :: l => by
    have e : kidS 2 (0, false) p = if p.2 = true then (p.1, true) else (0, false) := by
      unfold kidS orS
      rw [if_pos rfl]
      by_cases hp : p.2 = true
      · rw [if_pos ⟨hp, .inl rfl⟩, if_pos hp]
      · rw [if_neg fun h => hp h.1, if_neg hp]
    rw [kidsL, if_neg (fun h => absurd h.1 (by decide)), e, knownL]
    by_cases hp : p.2 = true
    · rw [if_pos hp, if_pos hp, or_min, if_pos (by simp)]; rfl
    · rw [if_neg hp, if_neg hp, or_known l]
theorem and_max (a : Int) (l : List (Int × Bool)) : (∀ p ∈ l, p.2 = true) → kidsL 3 (a, true) l = ((knownL l).foldl max a, true) := by
  induction l generalizing a with
  | nil => intro _; rfl
  | cons p l ih =>
    intro h
    have hp := h p (List.mem_cons_self ..)
    have e : kidS 3 (a, true) p = (max a p.1, true) := by
      unfold kidS andS
      rw [if_neg (by decide), if_pos rfl]
      by_cases hl : a < p.1
      · rw [if_pos (.inr hl), show max a p.1 = p.1 by omega]
      · rw [if_neg (fun h => by rcases h with h | h; cases h; exact hl h), show max a p.1 = a by omega]
    rw [kidsL, if_neg (fun h => by rw [hp] at h; cases h.2), e, knownL, if_pos hp, ih _ fun q hq => h q (List.mem_cons_of_mem _ hq)]
    rfl
theorem and_known' (l : List (Int × Bool)) : kidsL 3 (0, false) l = if 0 < (knownL l).length ∧ (knownL l).length = l.length then (maxL (knownL l), true) else (0, false) := by
  obtain ⟨h1, h2⟩ := known_length l
  by_cases ha : ∀ p ∈ l, p.2 = true
  · match l, ha with
    | [], _ => rfl
    | p :: l, ha =>
      have hp := ha p (List.mem_cons_self ..)
      rw [if_pos ⟨by rw [h2.2 ha]; simp, h2.2 ha⟩]
      have e : kidS 3 (0, false) p = (p.1, true) := by
        unfold kidS andS
        rw [if_neg (by decide), if_pos rfl, if_pos (.inl rfl)]
      rw [kidsL, if_neg (fun h => by rw [hp] at h; cases h.2), e, knownL, if_pos hp, and_max _ _ fun q hq => ha q (List.mem_cons_of_mem _ hq)]
      rfl
  · rw [if_neg fun h => ha (h2.1 h.2)]
    refine kidsL_stop l _ ?_
    by_cases hn : ∃ p ∈ l, p.2 = false
    · exact hn
    · exact absurd (fun p hp => by
        cases h : p.2 with
        | true => rfl
        | false => exact absurd ⟨p, hp, h⟩ hn) ha

/-- The ticks that are known of kids. -/
def ticksX (ms : List Ml) (f : Nat) (ks : List (Ex f)) : List Int := knownL (ks.map (whenX ms f))
theorem ticks_le (ms : List Ml) (f : Nat) (ks : List (Ex f)) : (ticksX ms f ks).length ≤ ks.length := by
  have := (known_length (ks.map (whenX ms f))).1
  rw [List.length_map] at this
  exact this
theorem ticks_zero (ms : List Ml) (f : Nat) (ks : List (Ex f)) : ticksX ms f (ks.take 0) = [] := rfl
theorem ticks_step (ms : List Ml) (f : Nat) (ks : List (Ex f)) {j : Nat} (hj : j < ks.length) : ticksX ms f (ks.take (j + 1)) = if (whenX ms f ks[j]).2 = true then ticksX ms f (ks.take j) ++ [(whenX ms f ks[j]).1] else ticksX ms f (ks.take j) := by
  unfold ticksX
  rw [List.take_succ_eq_append_getElem hj, List.map_append, known_append, List.map_cons, List.map_nil, knownL, knownL]
  split
  · rfl
  · rw [List.append_nil]
theorem ticks_in (ms : List Ml) (f : Nat) (ks : List (Ex f)) : ∀ t ∈ ticksX ms f ks, 0 ≤ t ∧ t ≤ 1099511627776 := by
  have : ∀ (l : List (Int × Bool)), (∀ p ∈ l, 0 ≤ p.1 ∧ p.1 ≤ 1099511627776) → ∀ t ∈ knownL l, 0 ≤ t ∧ t ≤ 1099511627776 := fun l => by
    induction l with
    | nil => intro _ t ht; cases ht
    | cons p l ih =>
      intro h t ht
      rw [knownL] at ht
      have ih' := ih fun q hq => h q (List.mem_cons_of_mem _ hq)
      split at ht
      · cases ht with
        | head => exact h p (List.mem_cons_self ..)
        | tail _ ht => exact ih' t ht
      · exact ih' t ht
  refine this _ fun p hp => ?_
  obtain ⟨k, _, rfl⟩ := List.mem_map.1 hp
  exact when_in ms f k
theorem when_or {ms : List Ml} {f : Nat} {x : Nx (Ex f)} (h : x.op = 2) : whenX ms (f + 1) x = if 0 < (ticksX ms f x.kids).length then (minL (ticksX ms f x.kids), true) else (0, false) := by
  rw [when_kids (by rw [h]; decide), h]; exact or_known _
theorem when_and {ms : List Ml} {f : Nat} {x : Nx (Ex f)} (h : x.op = 3) : whenX ms (f + 1) x = if 0 < (ticksX ms f x.kids).length ∧ (ticksX ms f x.kids).length = x.kids.length then (maxL (ticksX ms f x.kids), true) else (0, false) := by
  rw [when_kids (by rw [h]; decide), h, and_known', List.length_map]; rfl
/-- The least, one at a time. -/
theorem min_step {l : List Int} {j : Nat} (hj : j < l.length) (h0 : 0 < j) : minL (l.take (j + 1)) = min (minL (l.take j)) l[j] := by
  match l, j, h0 with
  | a :: l, j + 1, _ =>
    have hj' : j < l.length := by simpa using hj
    show (List.take (j + 1) l).foldl min a = min ((List.take j l).foldl min a) _
    rw [List.take_succ_eq_append_getElem hj', List.foldl_append]
    rfl
theorem max_step {l : List Int} {j : Nat} (hj : j < l.length) (h0 : 0 < j) : maxL (l.take (j + 1)) = max (maxL (l.take j)) l[j] := by
  match l, j, h0 with
  | a :: l, j + 1, _ =>
    have hj' : j < l.length := by simpa using hj
    show (List.take (j + 1) l).foldl max a = max ((List.take j l).foldl max a) _
    rw [List.take_succ_eq_append_getElem hj', List.foldl_append]
    rfl
theorem min_one {l : List Int} (h : 0 < l.length) : minL (l.take 1) = l[0] := by
  match l, h with
  | a :: l, _ => rfl
theorem max_one {l : List Int} (h : 0 < l.length) : maxL (l.take 1) = l[0] := by
  match l, h with
  | a :: l, _ => rfl

/-- When a record is due, by the rule that is found for it. -/
def dueO (f : Nat) (o : Option (Rl f)) (ms : List Ml) : Int × Int × Bool := match o with
  | none => (0, 0, false)
  | some r => if (whenX ms f r.when_).2 = true then ((whenX ms f r.when_).1, r.act, true) else (0, 0, false)
end Go.Proofs.Ytommcdgognlfcaa
