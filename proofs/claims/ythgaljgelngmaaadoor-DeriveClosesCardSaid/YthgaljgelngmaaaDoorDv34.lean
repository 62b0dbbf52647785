/-
  DcM: A round of the closure in which those that give nothing any more are left out: it comes to the same. Plain mathematics, no condition but what each theorem names.
-/
import Derived.Test.YthgaljgelngmaaaDoorDv11

section
namespace Go.Proofs.YthgaljgelngmaaaDoor
set_option linter.unusedVariables false

section
variable {α : Type} [DecidableEq α] (V : Vw α)

/-- t gives nothing that is not in c, nor in more than c. -/
def doneD (c : List α) (t : α) : Prop := ∀ d : List α, (∀ x ∈ c, x ∈ d) → ∀ x ∈ givesD V d t, x ∈ d
theorem doneD.mono {c d : List α} {t : α} (h : doneD V c t) (hs : ∀ x ∈ c, x ∈ d) : doneD V d t := fun e he => h e fun x hx => he x (hs x hx)

/-- s is g, some that are done with left out. -/
def skimD (c : List α) : List α → List α → Prop
  | [], s => s = []
  | t :: g, s => (doneD V c t ∧ skimD c g s) ∨ ∃ s', s = t :: s' ∧ skimD c g s'

theorem skimD.refl (c : List α) : ∀ g, skimD V c g g
  | [] => rfl
  | t :: g => .inr ⟨g, rfl, skimD.refl c g⟩
theorem skimD.mono {c d : List α} (hs : ∀ x ∈ c, x ∈ d) : ∀ {g s : List α}, skimD V c g s → skimD V d g s
  | [], s, h => h
  | t :: g, s, h => by
    rcases h with ⟨h1, h2⟩ | ⟨s', rfl, h2⟩
    · exact .inl ⟨h1.mono V hs, skimD.mono hs h2⟩
    · exact .inr ⟨s', rfl, skimD.mono hs h2⟩
theorem skimD.append {c : List α} : ∀ {g s g' s' : List α}, skimD V c g s → skimD V c g' s' → skimD V c (g ++ g') (s ++ s')
  | [], s, g', s', h, h' => by
    obtain rfl : s = [] := h
    exact h'
  | t :: g, s, g', s', h, h' => by
    rcases h with ⟨h1, h2⟩ | ⟨s1, rfl, h2⟩
    · exact .inl ⟨h1, skimD.append h2 h'⟩
    · exact .inr ⟨s1 ++ s', rfl, skimD.append h2 h'⟩
theorem skimD.trans {c : List α} : ∀ {g s r : List α}, skimD V c g s → skimD V c s r → skimD V c g r
  | [], s, r, h, h' => by
    obtain rfl : s = [] := h
    exact h'
  | t :: g, s, r, h, h' => by
    rcases h with ⟨h1, h2⟩ | ⟨s1, rfl, h2⟩
    · exact .inl ⟨h1, skimD.trans h2 h'⟩
    · rcases h' with ⟨h3, h4⟩ | ⟨s2, rfl, h4⟩
      · exact .inl ⟨h3, skimD.trans h2 h4⟩
      · exact .inr ⟨s2, rfl, skimD.trans h2 h4⟩
theorem skimD.sub {c : List α} : ∀ {g s : List α}, skimD V c g s → ∀ x ∈ s, x ∈ g
  | [], s, h, x, hx => by
    obtain rfl : s = [] := h
    exact hx
  | t :: g, s, h, x, hx => by
    rcases h with ⟨h1, h2⟩ | ⟨s1, rfl, h2⟩
    · exact List.mem_cons_of_mem _ (skimD.sub h2 x hx)
    · rcases List.mem_cons.1 hx with rfl | hx
      · exact List.mem_cons_self
      · exact List.mem_cons_of_mem _ (skimD.sub h2 x hx)
theorem skimD.len {c : List α} : ∀ {g s : List α}, skimD V c g s → s.length ≤ g.length
  | [], s, h => by
    obtain rfl : s = [] := h
    exact Nat.le_refl _
  | t :: g, s, h => by
    rcases h with ⟨h1, h2⟩ | ⟨s1, rfl, h2⟩
    · have := skimD.len h2; simp; omega
    · have := skimD.len h2; simp; omega

theorem putsD_in : ∀ (g c : List α), (∀ x ∈ g, x ∈ c) → putsD c g = c
  | [], c, _ => rfl
  | t :: g, c, h => by
    rw [putsD_cons, show putD c t = c from if_pos (h t List.mem_cons_self)]
    exact putsD_in g c fun x hx => h x (List.mem_cons_of_mem _ hx)
theorem mem_stepD (g c : List α) : ∀ x ∈ c, x ∈ stepD V c g := fun x hx => by
  obtain ⟨m, hm⟩ := stepD_pre V g c
  rw [hm]
  exact List.mem_append_left _ hx
theorem stepD_skim : ∀ {g s c : List α}, skimD V c g s → stepD V c g = stepD V c s
  | [], s, c, h => by
    obtain rfl : s = [] := h
    rfl
  | t :: g, s, c, h => by
    rcases h with ⟨h1, h2⟩ | ⟨s1, rfl, h2⟩
    · rw [stepD_cons, putsD_in _ _ (h1 c fun x hx => hx)]
      exact stepD_skim h2
    · rw [stepD_cons, stepD_cons]
      exact stepD_skim (h2.mono V fun x hx => (mem_putsD _ _ _).2 (.inl hx))

/-- What was gone through is done with, but for what is sealed still. -/
theorem doneD_gave {c : List α} {t : α} (h : V.kind t = 5 → keyD V c t = true) : doneD V (putsD c (givesD V c t)) t := by
  intro d hd x hx
  refine hd x ((mem_putsD _ _ _).2 (.inr ?_))
  rcases givesD_case V hx with ⟨h4, h5⟩ | ⟨h5, h6, k, h7, h8⟩
  · exact givesD_pair V h4 h5
  · obtain ⟨k', h9, h10⟩ := (keyD_iff V c t).1 (h h5)
    exact givesD_enc V h5 h6 h9 h10
end

section
variable {f : Nat}
/-- One more of a round gone through: it gave what it gives; it is kept if it is sealed still. -/
theorem skim_step {c0 r sh : List (Tm f)} {i : Nat} {t : Tm f} (hi : r[i]? = some t) (h : skimD (vwT f) (stepD (vwT f) c0 (r.take i)) (r.take i) sh) :
    stepD (vwT f) c0 (r.take (i + 1)) = putsD (stepD (vwT f) c0 (r.take i)) (givesD (vwT f) (stepD (vwT f) c0 (r.take i)) t) ∧
    ((kindT f t = 5 → keyD (vwT f) (stepD (vwT f) c0 (r.take i)) t = true) → skimD (vwT f) (stepD (vwT f) c0 (r.take (i + 1))) (r.take (i + 1)) sh) ∧
    skimD (vwT f) (stepD (vwT f) c0 (r.take (i + 1))) (r.take (i + 1)) (sh ++ [t]) := by
  obtain ⟨hlt, he⟩ := List.getElem?_eq_some_iff.1 hi
  have hs := stepD_take (vwT f) c0 r i hlt
  rw [he] at hs
  have ht : r.take (i + 1) = r.take i ++ [t] := by rw [List.take_add_one, hi]; rfl
  have hm := h.mono (vwT f) (d := stepD (vwT f) c0 (r.take (i + 1))) fun x hx => by rw [hs]; exact (mem_putsD _ _ _).2 (.inl hx)
  refine ⟨hs, fun hk => ?_, ?_⟩
  · have := hm.append (vwT f) (g' := [t]) (s' := []) (.inl ⟨by rw [hs]; exact doneD_gave (vwT f) hk, rfl⟩)
    rw [List.append_nil] at this
    rw [ht] at this ⊢
    exact this
  · have := hm.append (vwT f) (g' := [t]) (s' := [t]) (skimD.refl (vwT f) _ _)
    rw [ht] at this ⊢
    exact this

/-- A round over what is left: the same as the document's. -/
theorem skim_round {c sh : List (Tm f)} {n : Nat} (h : skimD (vwT f) c (c.take n) sh) : stepD (vwT f) c (sh ++ c.drop n) = roundD (vwT f) c := by
  have := h.append (vwT f) (skimD.refl (vwT f) c (c.drop n))
  rw [List.take_append_drop] at this
  exact (stepD_skim (vwT f) this).symm
/-- What is left behind a round. -/
theorem skim_next {c sh sh' : List (Tm f)} {n : Nat} (h : skimD (vwT f) c (c.take n) sh) (h' : skimD (vwT f) (roundD (vwT f) c) (sh ++ c.drop n) sh') : skimD (vwT f) (roundD (vwT f) c) ((roundD (vwT f) c).take c.length) sh' := by
  obtain ⟨m, hm⟩ := stepD_pre (vwT f) c c
  have e : (roundD (vwT f) c).take c.length = c := by
    unfold roundD
    rw [hm, List.take_left']
    rfl
  rw [e]
  have h1 := h.append (vwT f) (skimD.refl (vwT f) c (c.drop n))
  rw [List.take_append_drop] at h1
  exact (h1.mono (vwT f) (mem_stepD (vwT f) c c)).trans (vwT f) h'
theorem skim_zero (c : List (Tm f)) : skimD (vwT f) c (c.take 0) [] := rfl
end
end Go.Proofs.YthgaljgelngmaaaDoor
end
