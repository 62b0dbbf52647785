/-
  Plain mathematics of layer 19 (due): when a condition is met by milestones, when a record is due; with milestones more what was known stays known. No program. No condition.
-/
import Derived.Test.YtommcdgognlfcaaRuM
import Derived.Test.YtommcdgognlfcaaSpM
namespace Go.Proofs.Ytommcdgognlfcaa
set_option maxRecDepth 100000
set_option linter.unusedVariables false

/-- A milestone: its name, and when it was. -/
abbrev Ml := List UInt8 × Int

/-- When the first milestone of that name was. -/
def firstM : List Ml → List UInt8 → Option Int
  | [], _ => none
  | m :: l, n => if m.1 = n then some m.2 else firstM l n

/-- What the first milestone of that name says, so many days behind it. -/
def mileD (ms : List Ml) (n : List UInt8) (d : Int) : Int × Bool := match firstM ms n with
  | none => (0, false)
  | some t => afterD t d

/-- The least one known so far, with one more. -/
def orS (s p : Int × Bool) : Int × Bool := if p.2 = true ∧ (s.2 = false ∨ p.1 < s.1) then (p.1, true) else s
/-- The greatest one so far, with one more that is known. -/
def andS (s p : Int × Bool) : Int × Bool := if s.2 = false ∨ s.1 < p.1 then (p.1, true) else s
/-- So far, with one more, as the condition's Op asks it. -/
def kidS (op : Int) (s p : Int × Bool) : Int × Bool := if op = 2 then orS s p else if op = 3 then andS s p else s
/-- The kids' answers together, from s on. -/
def kidsL (op : Int) : Int × Bool → List (Int × Bool) → Int × Bool
  | s, [] => s
  | s, p :: l => if op = 3 ∧ p.2 = false then (0, false) else kidsL op (kidS op s p) l

/-- When a condition is met, and whether that is known. -/
def whenX (ms : List Ml) : (f : Nat) → Ex f → Int × Bool
  | 0, x => nomatch x
  | f + 1, (x : Nx (Ex f)) => if x.op = 1 then mileD ms x.mile x.days else kidsL x.op (0, false) (x.kids.map (whenX ms f))

theorem when_eq (ms : List Ml) (f : Nat) (x : Nx (Ex f)) : whenX ms (f + 1) x = if x.op = 1 then mileD ms x.mile x.days else kidsL x.op (0, false) (x.kids.map (whenX ms f)) := rfl
theorem when_after {ms : List Ml} {f : Nat} {x : Nx (Ex f)} (h : x.op = 1) : whenX ms (f + 1) x = mileD ms x.mile x.days := by rw [when_eq, if_pos h]
theorem when_kids {ms : List Ml} {f : Nat} {x : Nx (Ex f)} (h : ¬ x.op = 1) : whenX ms (f + 1) x = kidsL x.op (0, false) (x.kids.map (whenX ms f)) := by rw [when_eq, if_neg h]

/-- What the first j kids say together. -/
def kidsK (ms : List Ml) (f : Nat) (op : Int) (ks : List (Ex f)) (j : Nat) : Int × Bool := ((ks.take j).map (whenX ms f)).foldl (kidS op) (0, false)
theorem kids_zero (ms : List Ml) (f : Nat) (op : Int) (ks : List (Ex f)) : kidsK ms f op ks 0 = (0, false) := rfl
theorem kids_step (ms : List Ml) (f : Nat) (op : Int) (ks : List (Ex f)) {j : Nat} (hj : j < ks.length) : kidsK ms f op ks (j + 1) = kidS op (kidsK ms f op ks j) (whenX ms f ks[j]) := by
  unfold kidsK
  rw [List.take_succ_eq_append_getElem hj, List.map_append, List.foldl_append]
  rfl
theorem kidsL_fold (op : Int) : ∀ (l : List (Int × Bool)) (s : Int × Bool), (op = 3 → ∀ p ∈ l, p.2 = true) → kidsL op s l = l.foldl (kidS op) s
  | [], _, _ => rfl
  | p :: l, s, h => by
    have hp : ¬ (op = 3 ∧ p.2 = false) := fun ⟨h1, h2⟩ => by rw [h h1 p (List.mem_cons_self ..)] at h2; cases h2
    rw [kidsL, if_neg hp, List.foldl_cons, kidsL_fold op l _ fun h1 q hq => h h1 q (List.mem_cons_of_mem _ hq)]
theorem kidsL_stop : ∀ (l : List (Int × Bool)) (s : Int × Bool), (∃ p ∈ l, p.2 = false) → kidsL 3 s l = (0, false)
  | [], _, ⟨_, h, _⟩ => by cases h
  | p :: l, s, ⟨q, hq, hk⟩ => by
    rw [kidsL]
    by_cases hp : p.2 = false
    · rw [if_pos ⟨rfl, hp⟩]
    · rw [if_neg fun h => hp h.2]
      cases hq with
      | head => exact absurd hk hp
      | tail _ hq => exact kidsL_stop l _ ⟨q, hq, hk⟩
/-- All kids gone through: the answer is theirs together. -/
theorem kids_all {ms : List Ml} {f : Nat} {x : Nx (Ex f)} (h : ¬ x.op = 1) (ha : x.op = 3 → ∀ j (hj : j < x.kids.length), (whenX ms f x.kids[j]).2 = true) : whenX ms (f + 1) x = kidsK ms f x.op x.kids x.kids.length := by
  rw [when_kids h]
  unfold kidsK
  rw [List.take_length]
  refine kidsL_fold _ _ _ fun h3 p hp => ?_
  obtain ⟨k, hk, rfl⟩ := List.mem_map.1 hp
  obtain ⟨j, hj, rfl⟩ := List.mem_iff_getElem.1 hk
  exact ha h3 j hj
/-- Of ExAnd one kid that is not known is enough. -/
theorem kids_stop {ms : List Ml} {f : Nat} {x : Nx (Ex f)} (h : x.op = 3) {j : Nat} (hj : j < x.kids.length) (hk : (whenX ms f x.kids[j]).2 = false) : whenX ms (f + 1) x = (0, false) := by
  rw [when_kids (by rw [h]; decide), h]
  exact kidsL_stop _ _ ⟨_, List.mem_map.2 ⟨_, List.getElem_mem hj, rfl⟩, hk⟩
/-- Of another Op nothing is known. -/
theorem when_other {ms : List Ml} {f : Nat} {x : Nx (Ex f)} (h1 : ¬ x.op = 1) (h2 : ¬ x.op = 2) (h3 : ¬ x.op = 3) : whenX ms (f + 1) x = (0, false) := by
  rw [when_kids h1]
  have : ∀ (l : List (Int × Bool)) (s : Int × Bool), kidsL x.op s l = s := fun l => by
    induction l with
    | nil => intro s; rfl
    | cons p l ih =>
      intro s
      have e : kidS x.op s p = s := by unfold kidS; rw [if_neg h2, if_neg h3]
      rw [kidsL, if_neg fun h => h3 h.1, e, ih]
  exact this _ _

/-- What is not known is 0. -/
theorem kidsL_zero (op : Int) : ∀ (l : List (Int × Bool)) (s : Int × Bool), (s.2 = false → s.1 = 0) → (kidsL op s l).2 = false → (kidsL op s l).1 = 0
  | [], s, h, e => h e
  | p :: l, s, h, e => by
    rw [kidsL] at e ⊢
    by_cases hp : op = 3 ∧ p.2 = false
    · rw [if_pos hp]
    · rw [if_neg hp] at e ⊢
      refine kidsL_zero op l _ (fun h9 => ?_) e
      unfold kidS at h9 ⊢
      by_cases h2 : op = 2
      · rw [if_pos h2] at h9 ⊢
        unfold orS at h9 ⊢
        split at h9
        · cases h9
        · rename_i hn; rw [if_neg hn]; exact h h9
      · rw [if_neg h2] at h9 ⊢
        by_cases h3 : op = 3
        · rw [if_pos h3] at h9 ⊢
          unfold andS at h9 ⊢
          split at h9
          · cases h9
          · rename_i hn; rw [if_neg hn]; exact h h9
        · rw [if_neg h3] at h9 ⊢; exact h h9
theorem after_zero {t d : Int} (h : (afterD t d).2 = false) : (afterD t d).1 = 0 := by
  unfold afterD at h ⊢
  split at h
  · rename_i hn; rw [if_pos hn]
  · cases h
theorem mile_zero {ms : List Ml} {n : List UInt8} {d : Int} (h : (mileD ms n d).2 = false) : (mileD ms n d).1 = 0 := by
  unfold mileD at h ⊢
  split at h
  · rfl
  · exact after_zero h
theorem when_zero : ∀ {ms : List Ml} {f : Nat} {x : Ex f}, (whenX ms f x).2 = false → (whenX ms f x).1 = 0
  | _, 0, x, _ => nomatch x
  | ms, f + 1, (x : Nx (Ex f)), h => by
    by_cases h1 : x.op = 1
    · rw [when_after h1] at h ⊢; exact mile_zero h
    · rw [when_kids h1] at h ⊢; exact kidsL_zero _ _ _ (fun _ => rfl) h
theorem when_none {ms : List Ml} {f : Nat} {x : Ex f} (h : (whenX ms f x).2 = false) : whenX ms f x = (0, false) := Prod.ext (when_zero h) h

/-- A tick that is told is from 0 to the greatest one. -/
theorem after_in {t d : Int} : 0 ≤ (afterD t d).1 ∧ (afterD t d).1 ≤ 1099511627776 := by
  unfold afterD
  split
  · exact ⟨Int.le_refl _, by omega⟩
  · rename_i h; simp only; omega
theorem kidS_in {op : Int} {s p : Int × Bool} (hs : 0 ≤ s.1 ∧ s.1 ≤ 1099511627776) (hp : 0 ≤ p.1 ∧ p.1 ≤ 1099511627776) : 0 ≤ (kidS op s p).1 ∧ (kidS op s p).1 ≤ 1099511627776 := by
  unfold kidS orS andS
  repeat' split
  all_goals first | exact hs | exact hp
theorem kidsL_in (op : Int) : ∀ (l : List (Int × Bool)) (s : Int × Bool), (0 ≤ s.1 ∧ s.1 ≤ 1099511627776) → (∀ p ∈ l, 0 ≤ p.1 ∧ p.1 ≤ 1099511627776) → 0 ≤ (kidsL op s l).1 ∧ (kidsL op s l).1 ≤ 1099511627776
  | [], s, h, _ => h
  | p :: l, s, h, hl => by
    rw [kidsL]
    split
    · exact ⟨Int.le_refl _, by omega⟩
    · exact kidsL_in op l _ (kidS_in h (hl p (List.mem_cons_self ..))) fun q hq => hl q (List.mem_cons_of_mem _ hq)
theorem when_in : ∀ (ms : List Ml) (f : Nat) (x : Ex f), 0 ≤ (whenX ms f x).1 ∧ (whenX ms f x).1 ≤ 1099511627776
  | _, 0, x => nomatch x
  | ms, f + 1, (x : Nx (Ex f)) => by
    by_cases h1 : x.op = 1
    · rw [when_after h1]
      unfold mileD
      split
      · exact ⟨Int.le_refl _, by omega⟩
      · exact after_in
    · rw [when_kids h1]
      refine kidsL_in _ _ _ ⟨Int.le_refl _, by omega⟩ fun p hp => ?_
      obtain ⟨k, _, rfl⟩ := List.mem_map.1 hp
      exact when_in ms f k
theorem kidsK_in (ms : List Ml) (f : Nat) (op : Int) (ks : List (Ex f)) : ∀ j, 0 ≤ (kidsK ms f op ks j).1 ∧ (kidsK ms f op ks j).1 ≤ 1099511627776
  | 0 => ⟨Int.le_refl _, by rw [kids_zero]; decide⟩
  | j + 1 => by
    by_cases hj : j < ks.length
    · rw [kids_step ms f op ks hj]; exact kidS_in (kidsK_in ms f op ks j) (when_in ms f _)
    · have e : kidsK ms f op ks (j + 1) = kidsK ms f op ks j := by unfold kidsK; rw [List.take_of_length_le (by omega), List.take_of_length_le (by omega)]
      rw [e]; exact kidsK_in ms f op ks j

/-- Whether a condition has no ExAnd. -/
def plainX : (f : Nat) → Ex f → Bool
  | 0, x => nomatch x
  | f + 1, (x : Nx (Ex f)) => x.kids.all (plainX f) && !decide (x.op = 3)

/-- q knows what p knows, and as early or earlier, where c holds. -/
def Sooner (c : Prop) (p q : Int × Bool) : Prop := p.2 = true → q.2 = true ∧ (c → q.1 ≤ p.1)
theorem sooner_or {c : Prop} {s t p q : Int × Bool} (hs : Sooner c s t) (hp : Sooner c p q) : Sooner c (orS s p) (orS t q) := by
  obtain ⟨s1, s2⟩ := s; obtain ⟨t1, t2⟩ := t; obtain ⟨p1, p2⟩ := p; obtain ⟨q1, q2⟩ := q
  unfold Sooner orS at *
  dsimp only at *
  cases s2 <;> cases t2 <;> cases p2 <;> cases q2 <;> simp at * <;> (repeat' split) <;> simp_all <;> intros <;> (try have hc := hs ‹_›) <;> (try have hc' := hp ‹_›) <;> (first | omega | (have h1 := hs ‹_›; have h2 := hp ‹_›; omega) | skip)
theorem known_and {s p : Int × Bool} (h : s.2 = true ∨ p.2 = p.2) : (andS s p).2 = true := by
  unfold andS
  split
  · rfl
  · rename_i hn
    cases h9 : s.2 with
    | true => rfl
    | false => exact absurd (.inl h9) hn
theorem and_known : ∀ (l : List (Int × Bool)) (s : Int × Bool), (kidsL 3 s l).2 = true ↔ (∀ p ∈ l, p.2 = true) ∧ (s.2 = true ∨ l ≠ [])
  | [], s => by rw [kidsL]; simp
  | p :: l, s => by
    rw [kidsL]
    by_cases hp : p.2 = false
    · rw [if_pos ⟨rfl, hp⟩]
      constructor
      · intro h; cases h
      · intro h; have := h.1 p (List.mem_cons_self ..); rw [hp] at this; cases this
    · rw [if_neg fun h => hp h.2, and_known l]
      have hk : kidS 3 s p = andS s p := by unfold kidS; rw [if_neg (by decide), if_pos rfl]
      rw [hk]
      have hpt : p.2 = true := by simpa using hp
      constructor
      · intro ⟨h, _⟩
        exact ⟨fun q hq => by cases hq with | head => exact hpt | tail _ hq => exact h q hq, .inr (by simp)⟩
      · intro ⟨h, _⟩
        exact ⟨fun q hq => h q (List.mem_cons_of_mem _ hq), .inl (known_and (.inr rfl))⟩
theorem sooner_or_all {c : Prop} {α : Type} (g h : α → Int × Bool) : ∀ (ks : List α) (s t : Int × Bool), Sooner c s t → (∀ k ∈ ks, Sooner c (g k) (h k)) → Sooner c (kidsL 2 s (ks.map g)) (kidsL 2 t (ks.map h))
  | [], s, t, hs, _ => hs
  | k :: ks, s, t, hs, hk => by
    have e : ∀ s p, kidS 2 s p = orS s p := fun s p => by unfold kidS; rw [if_pos rfl]
    rw [List.map_cons, List.map_cons, kidsL, kidsL, if_neg fun h => absurd h.1 (by decide), if_neg fun h => absurd h.1 (by decide), e, e]
    exact sooner_or_all g h ks _ _ (sooner_or hs (hk k (List.mem_cons_self ..))) fun k' hk' => hk k' (List.mem_cons_of_mem _ hk')
theorem first_more : ∀ {a b : List Ml} {n : List UInt8} {t : Int}, firstM a n = some t → firstM (a ++ b) n = some t
  | [], _, _, _, h => by cases h
  | m :: l, b, n, t, h => by
    rw [List.cons_append, firstM]
    rw [firstM] at h
    by_cases hm : m.1 = n
    · rw [if_pos hm] at h ⊢; exact h
    · rw [if_neg hm] at h ⊢; exact first_more h
/-- P19.3: with milestones more, behind the others, what was known is known; without ExAnd it is due as early or earlier. -/
theorem when_grows (a b : List Ml) : ∀ (f : Nat) (x : Ex f), Sooner (plainX f x = true) (whenX a f x) (whenX (a ++ b) f x)
  | 0, x => nomatch x
  | f + 1, (x : Nx (Ex f)) => by
    intro h
    by_cases h1 : x.op = 1
    · rw [when_after h1] at h ⊢
      rw [when_after h1]
      unfold mileD at h ⊢
      cases hq : firstM a x.mile with
      | none => rw [hq] at h; cases h
      | some t =>
        rw [hq] at h
        rw [first_more (b := b) hq]
        exact ⟨h, fun _ => Int.le_refl _⟩
    · rw [when_kids h1] at h ⊢
      rw [when_kids h1]
      by_cases h2 : x.op = 2
      · rw [h2] at h ⊢
        refine sooner_or_all (c := plainX (f + 1) x = true) _ _ x.kids (0, false) (0, false) (fun h => by cases h) (fun k hk hg => ?_) h
        have ih := when_grows a b f k hg
        refine ⟨ih.1, fun hc => ih.2 ?_⟩
        have hc' : (x.kids.all (plainX f) && !decide (x.op = 3)) = true := hc
        rw [Bool.and_eq_true, List.all_eq_true] at hc'
        exact hc'.1 k hk
      · by_cases h3 : x.op = 3
        · refine ⟨?_, fun hc => ?_⟩
          · rw [h3] at h ⊢
            rw [and_known] at h ⊢
            refine ⟨fun p hp => ?_, .inr ?_⟩
            · obtain ⟨k, hk, rfl⟩ := List.mem_map.1 hp
              exact (when_grows a b f k (h.1 _ (List.mem_map.2 ⟨k, hk, rfl⟩))).1
            · rcases h.2 with h9 | h9
              · cases h9
              · intro e; exact h9 (by rw [List.map_eq_nil_iff] at e ⊢; exact e)
          · have hc' : (x.kids.all (plainX f) && !decide (x.op = 3)) = true := hc
            rw [Bool.and_eq_true, decide_eq_true h3] at hc'
            exact absurd hc'.2 (by decide)
        · have := when_other (ms := a) h1 h2 h3
          rw [when_kids h1] at this
          rw [this] at h
          cases h

/-- A record's milestones: its ingest, and its case's. -/
def milesM (t : Int) (l : List Ml) : List Ml := ([105, 110, 103, 101, 115, 116], t) :: l
/-- One milestone more, or none of them. -/
def putM (l : List Ml) (m : Ml) : List Ml × Bool := if 8 ≤ l.length then ([], false) else if l.any (fun x => decide (x.1 = m.1)) then ([], false) else (l ++ [m], true)
theorem put_full {l : List Ml} {m : Ml} (h : 8 ≤ l.length) : putM l m = ([], false) := by unfold putM; rw [if_pos h]
theorem put_there {l : List Ml} {m : Ml} {j : Nat} (hj : j < l.length) (h : l[j].1 = m.1) : putM l m = ([], false) := by
  unfold putM
  split
  · rfl
  · rw [if_pos (List.any_eq_true.2 ⟨_, List.getElem_mem hj, decide_eq_true h⟩)]
theorem put_new {l : List Ml} {m : Ml} (h : ¬ 8 ≤ l.length) (ha : ∀ j (hj : j < l.length), ¬ l[j].1 = m.1) : putM l m = (l ++ [m], true) := by
  unfold putM
  rw [if_neg h, if_neg]
  intro hq
  obtain ⟨x, hx, he⟩ := List.any_eq_true.1 hq
  obtain ⟨j, hj, rfl⟩ := List.mem_iff_getElem.1 hx
  exact ha j hj (of_decide_eq_true he)
/-- firstM, a milestone at a time. -/
theorem first_at : ∀ {ms : List Ml} {n : List UInt8} {j : Nat} (hj : j < ms.length), (∀ i (hi : i < j), ¬ (ms[i]'(by omega)).1 = n) → ms[j].1 = n → firstM ms n = some ms[j].2
  | [], _, _, hj, _, _ => by simp at hj
  | m :: l, n, 0, _, _, h => by rw [firstM]; exact if_pos h
  | m :: l, n, j + 1, hj, ha, h => by
    rw [firstM, if_neg (show ¬ m.1 = n from ha 0 (by omega))]
    exact first_at (ms := l) (by simpa using hj) (fun i hi => ha (i + 1) (by omega)) h
theorem first_none : ∀ {ms : List Ml} {n : List UInt8}, (∀ i (hi : i < ms.length), ¬ ms[i].1 = n) → firstM ms n = none
  | [], _, _ => rfl
  | m :: l, n, ha => by
    rw [firstM, if_neg (show ¬ m.1 = n from ha 0 (by simp))]
    exact first_none fun i hi => ha (i + 1) (by simpa using hi)
theorem mile_at {ms : List Ml} {n : List UInt8} {d : Int} {j : Nat} (hj : j < ms.length) (ha : ∀ i (hi : i < j), ¬ (ms[i]'(by omega)).1 = n) (h : ms[j].1 = n) : mileD ms n d = afterD ms[j].2 d := by
  unfold mileD; rw [first_at hj ha h]
theorem mile_none {ms : List Ml} {n : List UInt8} {d : Int} (ha : ∀ i (hi : i < ms.length), ¬ ms[i].1 = n) : mileD ms n d = (0, false) := by
  unfold mileD; rw [first_none ha]

/-- When a record is due, and for what. -/
def dueR (f : Nat) (l : List (Rl f)) (cls : List UInt8) (ms : List Ml) : Int × Int × Bool := match findR f l cls with
  | none => (0, 0, false)
  | some r => if (whenX ms f r.when_).2 = true then ((whenX ms f r.when_).1, r.act, true) else (0, 0, false)
theorem due_none {f : Nat} {l : List (Rl f)} {cls : List UInt8} {ms : List Ml} (h : findR f l cls = none) : dueR f l cls ms = (0, 0, false) := by unfold dueR; rw [h]
theorem due_known {f : Nat} {l : List (Rl f)} {cls : List UInt8} {ms : List Ml} {r : Rl f} (h : findR f l cls = some r) (hk : (whenX ms f r.when_).2 = true) : dueR f l cls ms = ((whenX ms f r.when_).1, r.act, true) := by
  unfold dueR; rw [h]; exact if_pos hk
theorem due_not {f : Nat} {l : List (Rl f)} {cls : List UInt8} {ms : List Ml} {r : Rl f} (h : findR f l cls = some r) (hk : (whenX ms f r.when_).2 = false) : dueR f l cls ms = (0, 0, false) := by
  unfold dueR; rw [h]; exact if_neg (by rw [hk]; decide)

/-- Said to be one deeper, a condition is met at the same time. -/
theorem when_lift (ms : List Ml) : ∀ (f : Nat) (x : Ex f), whenX ms (f + 1) (liftX f x) = whenX ms f x
  | 0, x => nomatch x
  | f + 1, (x : Nx (Ex f)) => by
    show whenX ms (f + 2) (⟨x.op, x.days, x.mile, x.kids.map (liftX f)⟩ : Nx (Ex (f + 1))) = _
    rw [when_eq, when_eq, List.map_map]
    have e : (whenX ms (f + 1) ∘ liftX f) = whenX ms f := funext fun k => when_lift ms f k
    rw [e]

theorem live_when : whenX [([99, 108, 111, 115, 101, 100], 10)] 1 (⟨1, 730, [99, 108, 111, 115, 101, 100], []⟩ : Nx (Ex 0)) = (740, true) := by
  rw [when_after rfl]
  rfl
end Go.Proofs.Ytommcdgognlfcaa
