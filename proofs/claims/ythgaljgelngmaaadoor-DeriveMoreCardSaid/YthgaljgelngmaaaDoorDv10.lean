/-
  DrM: What follows from terms, plain mathematics: the closure by rounds, what is made of it, what is guarded; what follows from more, a cut, and that secrets stay. No program, no condition but what each theorem names.
-/
import Derived.Test.YthgaljgelngmaaaDoorDv01

section
namespace Go.Proofs.YthgaljgelngmaaaDoor
set_option linter.unusedVariables false

/-- What is asked of a term here: its kind, its number, its kids, of which each is smaller. -/
structure Vw (α : Type) where
  kind : α → Int
  num : α → Nat
  kids : α → List α
  size : α → Nat
  less : ∀ t u, u ∈ kids t → size u < size t

section
variable {α : Type} [DecidableEq α]

def putD (c : List α) (t : α) : List α := if t ∈ c then c else c ++ [t]
def putsD (c g : List α) : List α := g.foldl putD c

theorem putD_pre (c : List α) (t : α) : ∃ m, putD c t = c ++ m := by
  unfold putD; split
  · exact ⟨[], by simp⟩
  · exact ⟨[t], rfl⟩
theorem mem_putD (c : List α) (t x : α) : x ∈ putD c t ↔ x ∈ c ∨ x = t := by
  unfold putD; split
  · rename_i h; exact ⟨.inl, fun k => k.elim id fun e => e ▸ h⟩
  · simp
theorem nodup_putD {c : List α} (h : c.Nodup) (t : α) : (putD c t).Nodup := by
  unfold putD; split
  · exact h
  · rename_i k
    exact List.nodup_append.2 ⟨h, by simp, fun a ha b hb => by
      obtain rfl : b = t := by simpa using hb
      intro e; exact k (e ▸ ha)⟩

theorem putsD_nil (c : List α) : putsD c [] = c := rfl
theorem putsD_cons (c : List α) (t : α) (g : List α) : putsD c (t :: g) = putsD (putD c t) g := rfl
theorem putsD_pre : ∀ (g c : List α), ∃ m, putsD c g = c ++ m
  | [], c => ⟨[], by simp [putsD_nil]⟩
  | t :: g, c => by
    obtain ⟨m, h⟩ := putD_pre c t
    obtain ⟨m', h'⟩ := putsD_pre g (putD c t)
    exact ⟨m ++ m', by rw [putsD_cons, h', h, List.append_assoc]⟩
theorem mem_putsD : ∀ (g c : List α) (x : α), x ∈ putsD c g ↔ x ∈ c ∨ x ∈ g
  | [], c, x => by simp [putsD_nil]
  | t :: g, c, x => by rw [putsD_cons, mem_putsD g, mem_putD, List.mem_cons, or_assoc]
theorem nodup_putsD : ∀ (g : List α) {c : List α}, c.Nodup → (putsD c g).Nodup
  | [], _, h => h
  | t :: g, c, h => nodup_putsD g (nodup_putD h t)
theorem putsD_take (c g : List α) (j : Nat) (hj : j < g.length) : putsD c (g.take (j + 1)) = putD (putsD c (g.take j)) g[j] := by
  unfold putsD; rw [List.take_add_one, List.foldl_append, List.getElem?_eq_getElem hj]; rfl

variable (K : Vw α)

/-- Whether a term's second kid is there. -/
def keyD (c : List α) (t : α) : Bool := match (K.kids t)[1]? with
  | some k => decide (k ∈ c)
  | none => false
theorem keyD_iff (c : List α) (t : α) : keyD K c t = true ↔ ∃ k, (K.kids t)[1]? = some k ∧ k ∈ c := by
  unfold keyD
  cases (K.kids t)[1]? with
  | none => simp
  | some k => simp

/-- What a term that is there gives. -/
def givesD (c : List α) (t : α) : List α :=
  if K.kind t = 4 then K.kids t
  else if K.kind t = 5 ∧ keyD K c t = true then (K.kids t).take 1 else []

/-- A part of a round: what the terms of g give, one after the other. -/
def stepD (c g : List α) : List α := g.foldl (fun out t => putsD out (givesD K out t)) c
def roundD (c : List α) : List α := stepD K c c

theorem stepD_cons (c : List α) (t : α) (g : List α) : stepD K c (t :: g) = stepD K (putsD c (givesD K c t)) g := rfl
theorem stepD_take (c g : List α) (j : Nat) (hj : j < g.length) : stepD K c (g.take (j + 1)) = putsD (stepD K c (g.take j)) (givesD K (stepD K c (g.take j)) g[j]) := by
  unfold stepD; rw [List.take_add_one, List.foldl_append, List.getElem?_eq_getElem hj]; rfl
theorem stepD_pre : ∀ (g c : List α), ∃ m, stepD K c g = c ++ m
  | [], c => ⟨[], by simp [stepD]⟩
  | t :: g, c => by
    obtain ⟨m, h⟩ := putsD_pre (givesD K c t) c
    obtain ⟨m', h'⟩ := stepD_pre g (putsD c (givesD K c t))
    exact ⟨m ++ m', by rw [stepD_cons, h', h, List.append_assoc]⟩
theorem nodup_stepD : ∀ (g : List α) {c : List α}, c.Nodup → (stepD K c g).Nodup
  | [], _, h => h
  | t :: g, c, h => nodup_stepD g (nodup_putsD _ h)
theorem givesD_mono {c d : List α} (h : ∀ x ∈ c, x ∈ d) (t : α) : ∀ x ∈ givesD K c t, x ∈ givesD K d t := by
  intro x hx
  unfold givesD at *
  split at hx
  · rename_i h4; rw [if_pos h4]; exact hx
  · rename_i h4
    rw [if_neg h4]
    split at hx
    · rename_i h5
      obtain ⟨k, h1, h2⟩ := (keyD_iff K c t).1 h5.2
      rw [if_pos ⟨h5.1, (keyD_iff K d t).2 ⟨k, h1, h _ h2⟩⟩]
      exact hx
    · exact absurd hx (by simp)

/-- What a step holds is there, or is given by something that is there. -/
theorem stepD_ind (P : α → Prop) (hg : ∀ c t, (∀ x ∈ c, P x) → P t → ∀ x ∈ givesD K c t, P x) : ∀ (g c : List α), (∀ x ∈ c, P x) → (∀ x ∈ g, P x) → ∀ x ∈ stepD K c g, P x
  | [], c, hc, _ => hc
  | t :: g, c, hc, ht => by
    rw [stepD_cons]
    refine stepD_ind P hg g _ (fun x hx => ?_) (fun x hx => ht x (List.mem_cons_of_mem _ hx))
    exact ((mem_putsD _ _ _).1 hx).elim (hc x) (hg c t hc (ht t List.mem_cons_self) x)

/-- Whether nothing is given that is not there. -/
def shutD (c : List α) : Prop := ∀ t ∈ c, ∀ x ∈ givesD K c t, x ∈ c

theorem stepD_shut : ∀ (g c : List α), (stepD K c g).length = c.length → stepD K c g = c ∧ ∀ t ∈ g, ∀ x ∈ givesD K c t, x ∈ c
  | [], c, _ => ⟨rfl, fun t h => absurd h (by simp)⟩
  | t :: g, c, h => by
    rw [stepD_cons] at h ⊢
    obtain ⟨m, hm⟩ := putsD_pre (givesD K c t) c
    obtain ⟨m', hm'⟩ := stepD_pre K g (putsD c (givesD K c t))
    have hl : m.length = 0 := by rw [hm', hm] at h; simp only [List.length_append] at h; omega
    have hz : m = [] := List.length_eq_zero_iff.1 hl
    rw [hz, List.append_nil] at hm
    rw [hm] at h ⊢
    obtain ⟨h1, h2⟩ := stepD_shut g c h
    refine ⟨h1, fun u hu x hx => ?_⟩
    rcases List.mem_cons.1 hu with rfl | hu
    · rw [← hm]; exact (mem_putsD _ _ _).2 (.inr hx)
    · exact h2 u hu x hx

/-- Rounds, until one brings nothing; at most so many. -/
def roundsD : Nat → List α → List α
  | 0, c => c
  | n + 1, c => if (roundD K c).length = c.length then roundD K c else roundsD n (roundD K c)

theorem roundsD_stop {n : Nat} {c : List α} (h : (roundD K c).length = c.length) : roundsD K (n + 1) c = c := by
  rw [roundsD, if_pos h]; exact (stepD_shut K c c h).1
theorem roundsD_on {n : Nat} {c : List α} (h : (roundD K c).length ≠ c.length) : roundsD K (n + 1) c = roundsD K n (roundD K c) := by
  rw [roundsD, if_neg h]
theorem roundsD_pre : ∀ (n : Nat) (c : List α), ∃ m, roundsD K n c = c ++ m
  | 0, c => ⟨[], by simp [roundsD]⟩
  | n + 1, c => by
    obtain ⟨m, h⟩ := stepD_pre K c c
    rw [roundsD]; split
    · exact ⟨m, h⟩
    · obtain ⟨m', h'⟩ := roundsD_pre n (roundD K c)
      exact ⟨m ++ m', by rw [h']; unfold roundD; rw [h, List.append_assoc]⟩
theorem nodup_roundsD : ∀ (n : Nat) {c : List α}, c.Nodup → (roundsD K n c).Nodup
  | 0, _, h => h
  | n + 1, c, h => by
    rw [roundsD]; split
    · exact nodup_stepD K c h
    · exact nodup_roundsD n (nodup_stepD K c h)
theorem roundsD_ind (P : α → Prop) (hg : ∀ c t, (∀ x ∈ c, P x) → P t → ∀ x ∈ givesD K c t, P x) : ∀ (n : Nat) (c : List α), (∀ x ∈ c, P x) → ∀ x ∈ roundsD K n c, P x
  | 0, c, hc => hc
  | n + 1, c, hc => by
    have h := stepD_ind K P hg c c hc hc
    rw [roundsD]; split
    · exact h
    · exact roundsD_ind P hg n _ h

theorem nodup_le : ∀ (l m : List α), l.Nodup → (∀ x ∈ l, x ∈ m) → l.length ≤ m.length
  | [], m, _, _ => Nat.zero_le _
  | a :: l, m, h, hs => by
    have ha : a ∈ m := hs a List.mem_cons_self
    obtain ⟨h1, h2⟩ := List.nodup_cons.1 h
    have := nodup_le l (m.erase a) h2 fun x hx => (List.mem_erase_of_ne (fun e : x = a => h1 (by rw [← e]; exact hx))).2 (hs x (List.mem_cons_of_mem _ hx))
    rw [List.length_erase_of_mem ha] at this
    have hp : 0 < m.length := List.length_pos_of_mem ha
    simp only [List.length_cons]; omega

/-- So many rounds that the terms there can be bound their number: the last brought nothing. -/
theorem roundsD_shut (univ : List α) (hu : ∀ t ∈ univ, ∀ x ∈ K.kids t, x ∈ univ) : ∀ (n : Nat) (c : List α), c.Nodup → (∀ x ∈ c, x ∈ univ) → univ.length < n + c.length → shutD K (roundsD K n c)
  | 0, c, hc, hs, hn => absurd (nodup_le c univ hc hs) (by omega)
  | n + 1, c, hc, hs, hn => by
    by_cases h : (roundD K c).length = c.length
    · rw [roundsD_stop K h]
      exact (stepD_shut K c c h).2
    · rw [roundsD_on K h]
      obtain ⟨m, hm⟩ := stepD_pre K c c
      refine roundsD_shut univ hu n _ (nodup_stepD K c hc) (stepD_ind K (· ∈ univ) (fun c t _ ht x hx => hu t ht x ?_) c c hs hs) ?_
      · unfold givesD at hx
        split at hx
        · exact hx
        · split at hx
          · exact List.mem_of_mem_take hx
          · exact absurd hx (by simp)
      · have : (roundD K c).length = c.length + m.length := by unfold roundD; rw [hm, List.length_append]
        omega

/-- What does not change by a round is what any number of rounds comes to. -/
theorem roundsD_of_shut {c : List α} (h : shutD K c) : ∀ n, roundsD K n c = c := by
  have hr : ∀ g : List α, (∀ t ∈ g, t ∈ c) → stepD K c g = c := by
    intro g
    induction g with
    | nil => intro _; rfl
    | cons t g ih =>
      intro hg
      rw [stepD_cons]
      have : putsD c (givesD K c t) = c := by
        have hx := h t (hg t List.mem_cons_self)
        generalize givesD K c t = l at hx
        clear ih hg
        induction l with
        | nil => rfl
        | cons a l ih =>
          rw [putsD_cons, show putD c a = c by unfold putD; rw [if_pos (hx a List.mem_cons_self)]]
          exact ih fun x hx' => hx x (List.mem_cons_of_mem _ hx')
      rw [this]
      exact ih fun t ht => hg t (List.mem_cons_of_mem _ ht)
  intro n
  cases n with
  | zero => rfl
  | succ n => exact roundsD_stop K (by rw [roundD, hr c fun _ h => h])

theorem roundsD_more (n m : Nat) : ∀ (c : List α), shutD K (roundsD K n c) → n ≤ m → roundsD K m c = roundsD K n c := by
  induction n generalizing m with
  | zero => intro c h _; exact roundsD_of_shut K h m
  | succ n ih =>
    intro c h hm
    obtain ⟨m, rfl⟩ : ∃ k, m = k + 1 := ⟨m - 1, by omega⟩
    by_cases hl : (roundD K c).length = c.length
    · rw [roundsD_stop K hl, roundsD_stop K hl]
    · rw [roundsD_on K hl] at h ⊢
      rw [roundsD_on K hl]
      exact ih m _ h (by omega)

/-- The closure of a list, by so many rounds. -/
def cloD (n : Nat) (l : List α) : List α := roundsD K n (putsD [] l)

theorem cloD_base (n : Nat) (l : List α) : ∀ x ∈ l, x ∈ cloD K n l := by
  intro x hx
  obtain ⟨m, hm⟩ := roundsD_pre K n (putsD [] l)
  unfold cloD; rw [hm]
  exact List.mem_append_left _ ((mem_putsD _ _ _).2 (.inr hx))
theorem cloD_ind (P : α → Prop) (n : Nat) (l : List α) (hg : ∀ c t, (∀ x ∈ c, P x) → P t → ∀ x ∈ givesD K c t, P x) (hl : ∀ x ∈ l, P x) : ∀ x ∈ cloD K n l, P x :=
  roundsD_ind K P hg n _ fun x hx => ((mem_putsD _ _ _).1 hx).elim (fun h => absurd h (by simp)) (hl x)

/-- The cases of what is given. -/
theorem givesD_case {c : List α} {t x : α} (h : x ∈ givesD K c t) : (K.kind t = 4 ∧ x ∈ K.kids t) ∨ (K.kind t = 5 ∧ x ∈ (K.kids t).take 1 ∧ ∃ k, (K.kids t)[1]? = some k ∧ k ∈ c) := by
  unfold givesD at h
  split at h
  · rename_i h4; exact .inl ⟨h4, h⟩
  · split at h
    · rename_i h5
      exact .inr ⟨h5.1, h, (keyD_iff K c t).1 h5.2⟩
    · exact absurd h (by simp)
theorem givesD_pair {c : List α} {t x : α} (h4 : K.kind t = 4) (h : x ∈ K.kids t) : x ∈ givesD K c t := by
  unfold givesD; rw [if_pos h4]; exact h
theorem givesD_enc {c : List α} {t x k : α} (h5 : K.kind t = 5) (h : x ∈ (K.kids t).take 1) (hk : (K.kids t)[1]? = some k) (hc : k ∈ c) : x ∈ givesD K c t := by
  unfold givesD; rw [if_neg (by omega), if_pos ⟨h5, (keyD_iff K c t).2 ⟨k, hk, hc⟩⟩]; exact h

theorem cloD_mono {n m : Nat} {l l' : List α} (hs : shutD K (cloD K m l')) (h : ∀ x ∈ l, x ∈ l') : ∀ x ∈ cloD K n l, x ∈ cloD K m l' :=
  cloD_ind K (· ∈ cloD K m l') n l (fun c t hc ht x hx => hs t ht x (givesD_mono K hc t x hx)) fun x hx => cloD_base K m l' x (h x hx)

/-- Which kinds are put together of their kids. -/
def putK (k : Int) : Bool := decide (k = 4 ∨ k = 5 ∨ k = 6)

/-- Does a term follow from a closure? -/
def madeF (c : List α) : Nat → α → Bool
  | 0, _ => false
  | n + 1, t => decide (t ∈ c) || putK (K.kind t) && (K.kids t).all (madeF c n)
def madeD (c : List α) (t : α) : Bool := madeF K c (K.size t + 1) t

theorem madeF_same (c : List α) : ∀ (n m : Nat) (t : α), K.size t < n → K.size t < m → madeF K c n t = madeF K c m t
  | 0, _, _, h, _ => absurd h (by omega)
  | _ + 1, 0, _, _, h => absurd h (by omega)
  | n + 1, m + 1, t, hn, hm => by
    have : (K.kids t).all (madeF K c n) = (K.kids t).all (madeF K c m) := by
      rw [Bool.eq_iff_iff, List.all_eq_true, List.all_eq_true]
      constructor
      · intro h u hu; rw [← madeF_same c n m u (by have := K.less t u hu; omega) (by have := K.less t u hu; omega)]; exact h u hu
      · intro h u hu; rw [madeF_same c n m u (by have := K.less t u hu; omega) (by have := K.less t u hu; omega)]; exact h u hu
    rw [madeF, madeF, this]
theorem madeD_eq (c : List α) (t : α) : madeD K c t = (decide (t ∈ c) || putK (K.kind t) && (K.kids t).all (madeD K c)) := by
  have : (K.kids t).all (madeF K c (K.size t)) = (K.kids t).all (madeD K c) := by
    rw [Bool.eq_iff_iff, List.all_eq_true, List.all_eq_true]
    constructor
    · intro h u hu; unfold madeD; rw [madeF_same K c _ (K.size t) u (by omega) (K.less t u hu)]; exact h u hu
    · intro h u hu; have := h u hu; unfold madeD at this; rw [madeF_same K c _ (K.size t) u (by omega) (K.less t u hu)] at this; exact this
  rw [madeD, madeF, this]
theorem madeD_iff (c : List α) (t : α) : madeD K c t = true ↔ t ∈ c ∨ putK (K.kind t) = true ∧ ∀ u ∈ K.kids t, madeD K c u = true := by
  rw [madeD_eq, Bool.or_eq_true, Bool.and_eq_true, List.all_eq_true, decide_eq_true_iff]
theorem madeD_base {c : List α} {t : α} (h : t ∈ c) : madeD K c t = true := (madeD_iff K c t).2 (.inl h)

/-- What is made of a closure, all of which is made of another, is made of that. -/
theorem madeD_trans {c d : List α} (h : ∀ x ∈ c, madeD K d x = true) : ∀ (n : Nat) (t : α), K.size t < n → madeD K c t = true → madeD K d t = true
  | 0, _, hn, _ => absurd hn (by omega)
  | n + 1, t, hn, ht => by
    rcases (madeD_iff K c t).1 ht with hc | ⟨hk, hs⟩
    · exact h t hc
    · exact (madeD_iff K d t).2 (.inr ⟨hk, fun u hu => madeD_trans h n u (by have := K.less t u hu; omega) (hs u hu)⟩)
theorem madeD_mono {c d : List α} (h : ∀ x ∈ c, x ∈ d) (t : α) (ht : madeD K c t = true) : madeD K d t = true :=
  madeD_trans K (fun x hx => madeD_base K (h x hx)) _ t (Nat.lt_succ_self _) ht

/-- What follows of terms that follow: all of a closure of more is made of the closure of some. -/
theorem cloD_cut (ok : α → Prop) (okKid : ∀ t, ok t → ∀ u ∈ K.kids t, ok u) (okKey : ∀ t k, ok t → K.kind t = 5 → (K.kids t)[1]? = some k → K.kind k = 2)
    {n m : Nat} {l more : List α} (hs : shutD K (cloD K n l)) (hl : ∀ x ∈ l, ok x) (hm : ∀ x ∈ more, ok x) (hmade : ∀ x ∈ more, madeD K (cloD K n l) x = true) :
    ∀ x ∈ cloD K m (l ++ more), ok x ∧ madeD K (cloD K n l) x = true := by
  refine cloD_ind K (fun x => ok x ∧ madeD K (cloD K n l) x = true) m (l ++ more) (fun c t hc ht x hx => ?_) fun x hx => ?_
  · rcases givesD_case K hx with ⟨h4, hk⟩ | ⟨h5, hx1, k, hk, hkc⟩
    · refine ⟨okKid t ht.1 x hk, ?_⟩
      rcases (madeD_iff K _ t).1 ht.2 with hc | ⟨_, hs'⟩
      · exact madeD_base K (hs t hc x (givesD_pair K h4 hk))
      · exact hs' x hk
    · have hxk : x ∈ K.kids t := List.mem_of_mem_take hx1
      refine ⟨okKid t ht.1 x hxk, ?_⟩
      rcases (madeD_iff K _ t).1 ht.2 with hc' | ⟨_, hs'⟩
      · have h2 := okKey t k ht.1 h5 hk
        rcases (madeD_iff K _ k).1 (hc k hkc).2 with hin | ⟨hp, _⟩
        · exact madeD_base K (hs t hc' x (givesD_enc K h5 hx1 hk hin))
        · rw [h2] at hp; exact absurd hp (by decide)
      · exact hs' x hxk
  · rcases List.mem_append.1 hx with h | h
    · exact ⟨hl x h, madeD_base K (cloD_base K n l x h)⟩
    · exact ⟨hm x h, hmade x h⟩

/-- Whether each place of a secret is within what is sealed by some keys. -/
def fromD (keys : List Nat) (t : α) : Nat := if K.kind t = 5 ∧ (K.kids t).length = 2 ∧ (match (K.kids t)[1]? with | some k => decide (K.num k ∈ keys) | none => false) = true then 1 else 0
def guardF (s : α) (keys : List Nat) : Nat → α → Bool
  | 0, _ => false
  | n + 1, t => !decide (t = s) && (decide (K.kind t = 6) || ((K.kids t).drop (fromD K keys t)).all (guardF s keys n))
def guardD (s : α) (keys : List Nat) (t : α) : Bool := guardF K s keys (K.size t + 1) t

theorem guardF_same (s : α) (keys : List Nat) : ∀ (n m : Nat) (t : α), K.size t < n → K.size t < m → guardF K s keys n t = guardF K s keys m t
  | 0, _, _, h, _ => absurd h (by omega)
  | _ + 1, 0, _, _, h => absurd h (by omega)
  | n + 1, m + 1, t, hn, hm => by
    have : ((K.kids t).drop (fromD K keys t)).all (guardF K s keys n) = ((K.kids t).drop (fromD K keys t)).all (guardF K s keys m) := by
      rw [Bool.eq_iff_iff, List.all_eq_true, List.all_eq_true]
      constructor
      · intro h u hu; have hk := K.less t u (List.mem_of_mem_drop hu); rw [← guardF_same s keys n m u (by omega) (by omega)]; exact h u hu
      · intro h u hu; have hk := K.less t u (List.mem_of_mem_drop hu); rw [guardF_same s keys n m u (by omega) (by omega)]; exact h u hu
    rw [guardF, guardF, this]
theorem guardD_eq (s : α) (keys : List Nat) (t : α) : guardD K s keys t = (!decide (t = s) && (decide (K.kind t = 6) || ((K.kids t).drop (fromD K keys t)).all (guardD K s keys))) := by
  have : ((K.kids t).drop (fromD K keys t)).all (guardF K s keys (K.size t)) = ((K.kids t).drop (fromD K keys t)).all (guardD K s keys) := by
    rw [Bool.eq_iff_iff, List.all_eq_true, List.all_eq_true]
    constructor
    · intro h u hu; have hk := K.less t u (List.mem_of_mem_drop hu); unfold guardD; rw [guardF_same K s keys _ (K.size t) u (by omega) hk]; exact h u hu
    · intro h u hu; have hk := K.less t u (List.mem_of_mem_drop hu); have := h u hu; unfold guardD at this; rw [guardF_same K s keys _ (K.size t) u (by omega) hk] at this; exact this
  rw [guardD, guardF, this]
theorem guardD_iff (s : α) (keys : List Nat) (t : α) : guardD K s keys t = true ↔ t ≠ s ∧ (K.kind t = 6 ∨ ∀ u ∈ (K.kids t).drop (fromD K keys t), guardD K s keys u = true) := by
  rw [guardD_eq, Bool.and_eq_true, Bool.or_eq_true, List.all_eq_true, decide_eq_true_iff, Bool.not_eq_true', decide_eq_false_iff_not]

/-- Secrets stay: what is guarded in each term, by keys none of which is in the closure, does not follow. -/
theorem secret_stays (ok : α → Prop) (okKid : ∀ t, ok t → ∀ u ∈ K.kids t, ok u) (okKey : ∀ t k, ok t → K.kind t = 5 → (K.kids t)[1]? = some k → K.kind k = 2)
    {n : Nat} {l : List α} (hs : shutD K (cloD K n l)) (hl : ∀ x ∈ l, ok x) (s : α) (keys : List Nat) (hp : putK (K.kind s) = false) (hg : ∀ x ∈ l, guardD K s keys x = true)
    (hk : ∀ x ∈ cloD K n l, ok x → K.kind x = 2 → K.num x ∉ keys) : madeD K (cloD K n l) s = false := by
  have h : ∀ x ∈ cloD K n l, x ∈ cloD K n l ∧ ok x ∧ guardD K s keys x = true := by
    refine cloD_ind K (fun x => x ∈ cloD K n l ∧ ok x ∧ guardD K s keys x = true) n l (fun c t hc ht x hx => ?_) fun x hx => ⟨cloD_base K n l x hx, hl x hx, hg x hx⟩
    have hin : x ∈ cloD K n l := hs t ht.1 x (givesD_mono K (fun y hy => (hc y hy).1) t x hx)
    rcases givesD_case K hx with ⟨h4, hkx⟩ | ⟨h5, hx1, k, hk1, hkc⟩
    · refine ⟨hin, okKid t ht.2.1 x hkx, ?_⟩
      rcases ((guardD_iff K s keys t).1 ht.2.2).2 with h6 | hall
      · omega
      · have h0 : fromD K keys t = 0 := by unfold fromD; rw [if_neg]; rintro ⟨h5, _⟩; omega
        rw [h0, List.drop_zero] at hall
        exact hall x hkx
    · have hkx : x ∈ K.kids t := List.mem_of_mem_take hx1
      refine ⟨hin, okKid t ht.2.1 x hkx, ?_⟩
      rcases ((guardD_iff K s keys t).1 ht.2.2).2 with h6 | hall
      · omega
      · have h2 := okKey t k ht.2.1 h5 hk1
        have hnot := hk k (hc k hkc).1 (hc k hkc).2.1 h2
        have h0 : fromD K keys t = 0 := by
          unfold fromD; rw [if_neg]; rintro ⟨_, _, hq⟩
          rw [hk1] at hq
          exact hnot (of_decide_eq_true hq)
        rw [h0, List.drop_zero] at hall
        exact hall x hkx
  rw [Bool.eq_false_iff]
  intro hm
  rcases (madeD_iff K _ s).1 hm with hin | ⟨hq, _⟩
  · exact ((guardD_iff K s keys s).1 (h s hin).2.2).1 rfl
  · rw [hp] at hq; cases hq
end
end Go.Proofs.YthgaljgelngmaaaDoor
end
