/-
  A region that draws its order, by what holds at each point, whatever has come up: over any program. No condition.
-/
import Derived.RegionTactic
namespace Go.Proofs.YtjcdkfnjlmofiaaDoor
set_option linter.unusedVariables false

section
variable {P : Program} {ops : Array Oper} {Q : Exit → Act → World → Prop} {md : Region.Mode}

theorem mem_ready {listed : Array Bool} {i : Nat} (h : i ∈ Region.ready md ops listed) : i < ops.size ∧ listed.getD i true = false ∧ ∀ o, ops[i]? = some o → (o.after.all fun e => !Region.binds md e || listed.getD e.on false) = true := by
  unfold Region.ready at h
  obtain ⟨h1, h2⟩ := List.mem_filter.1 h
  simp only [Bool.and_eq_true, Bool.not_eq_true'] at h2
  refine ⟨List.mem_range.1 h1, h2.1, fun o ho => ?_⟩
  have := h2.2
  rw [ho] at this
  exact this

theorem not_ready {listed : Array Bool} {i : Nat} {o : Oper} (h : i ∉ Region.ready md ops listed) (ho : ops[i]? = some o) (ha : (o.after.all fun e => !Region.binds md e || listed.getD e.on false) = true) : listed.getD i true = true := by
  cases hl : listed.getD i true with
  | true => rfl
  | false =>
    exfalso
    apply h
    unfold Region.ready
    refine List.mem_filter.2 ⟨List.mem_range.2 (Array.getElem?_eq_some_iff.1 ho).1, ?_⟩
    rw [hl, ho]
    simpa using ha

theorem count_step {listed : Array Bool} {i : Nat} (h : listed.getD i true = false) : (listed.setIfInBounds i true).toList.count false + 1 = listed.toList.count false := by
  have hi : i < listed.size := by
    rcases Nat.lt_or_ge i listed.size with h1 | h1
    · exact h1
    · rw [Array.getD_eq_getD_getElem?, Array.getElem?_eq_none h1] at h; cases h
  have hv : listed[i] = false := by
    rw [Array.getD_eq_getD_getElem?, Array.getElem?_eq_getElem hi] at h; exact h
  rw [Array.toList_setIfInBounds, List.count_set (by simpa using hi)]
  have hp : 0 < listed.toList.count false := by
    apply List.count_pos_iff.2
    rw [← hv]
    exact Array.getElem_mem_toList hi
  have e1 : (listed.toList[i]'(by simpa using hi) == false) = true := by rw [Array.getElem_toList, hv]; rfl
  rw [if_pos e1, if_neg (by decide)]
  omega

/-- What holds ahead of a region, and is kept by each operation that may come up, whatever has come up before it, leads to its end. -/
theorem wpAny_inv (I : Array Bool → Act → World → Prop) (hend : ∀ fuel listed a w, I listed a w → listed.toList.count false = fuel → Region.ready md ops listed = [] → Q .normal a w)
    (hstep : ∀ fuel listed a w, I listed a w → listed.toList.count false = fuel + 1 → (wpAny P md ops Q (fuel + 1) listed a w) ∨ ∀ i, i ∈ Region.ready md ops listed → wpOp P ops Q i (I (listed.setIfInBounds i true)) a w) :
    ∀ fuel listed a w, I listed a w → listed.toList.count false = fuel → wpAny P md ops Q fuel listed a w := by
  intro fuel
  induction fuel with
  | zero =>
    intro listed a w hI hc
    have hr : Region.ready md ops listed = [] := by
      apply List.eq_nil_iff_forall_not_mem.2
      intro i hi
      obtain ⟨_, h2, _⟩ := mem_ready hi
      have := count_step h2
      omega
    exact ⟨hr, hend 0 listed a w hI hc hr⟩
  | succ fuel ih =>
    intro listed a w hI hc
    rcases hstep fuel listed a w hI hc with h | h
    · exact h
    · refine ⟨fun hr => hend _ listed a w hI hc hr, fun i hi => ?_⟩
      obtain ⟨_, h2, _⟩ := mem_ready hi
      have h3 := count_step h2
      exact wpOp_mono (fun a' w' hI' => ih _ a' w' hI' (by omega)) (h i hi)
end

theorem not_ready2 {md : Region.Mode} {ops : Array Oper} {listed : Array Bool} {i : Nat} (h : i ∉ Region.ready md ops listed) (ha : ((ops[i]?).map (·.after.all fun e => !Region.binds md e || listed.getD e.on false)).getD false = true) : listed.getD i true = true := by
  cases ho : ops[i]? with
  | none => rw [ho] at ha; cases ha
  | some o => rw [ho] at ha; exact not_ready h ho ha
end Go.Proofs.YtjcdkfnjlmofiaaDoor
