/-
  Held: A region that draws its order, operation by operation, over any program: what only reads is taken first, whether its guard lets it be done or not; what is to be done next alone is done. No condition.
  ScG: The document's left (layer 20), over the loaded program: where it is low, flat or of no kind. No condition but the sizes that each contract names.
  ScGN: The document's left (layer 20), over the loaded program: of a case, a subject or a class. No condition but the sizes that each contract names.
  ScGA: The document's left (layer 20), over the loaded program: of all. No condition but the sizes that each contract names.
  ScGT: The document's left (layer 20), over the loaded program: of a time. No condition but the sizes that each contract names.
  ScGM: The document's left (layer 20), over the loaded program: of all of some, or one of some. No condition but the sizes that each contract names.
  ScGO: The document's left (layer 20), over the loaded program: of what is not. No condition but the sizes that each contract names.
  ScH: The document's left and May (layer 20), over the loaded program: each one's contract. No condition but the sizes that each contract names.
  Res: What a function hands back whose results are a variable of several cells and a value, over any program. General. No condition.
  WtP: The document's Parse (layer 21), over the loaded program: its contract. No condition but the size that it names.
  SdD: The program's fits (layer 20), over the loaded program: of a case, a subject, a class: its contract. No condition.
-/
import Derived.Deep.RegionHeld3
import Derived.Maps.RangeWalk
import Derived.Tactics
import Derived.KernelRfl
import Derived.Test.YtjecjlhofnnnpaaDoorWy05
import Derived.Test.YtjecjlhofnnnpaaDoorWy13
import Derived.Test.YtjecjlhofnnnpaaDoorWy11
import Derived.WalkSpells
import Derived.BigQuiet
import Derived.Test.YtjecjlhofnnnpaaDoorWy01
import Derived.Laws.Rows
import Derived.Test.YtjecjlhofnnnpaaDoorWy09
set_option linter.unusedVariables false
set_option maxRecDepth 100000
namespace Go.Proofs.YtjecjlhofnnnpaaDoor
section
section
variable {P : Program} {ops : Array Oper} {Q : Exit → Act → World → Prop} {S : World → Prop} {md : Region.Mode} {fuel : Nat} {listed : Array Bool} {a : Act} {w : World}
theorem held_yes (i : Nat) {o : Oper} {v : Value} (hi : ops[i]? = some o) (hs : Region.noSelect ops = true) (hf : Region.free md ops listed i = true) (hr : (Region.ready md ops listed).contains i = true)
    (hQ : ∀ c a w, Q (.panic c) (a.put o.dst v) w → Q (.panic c) a w) (hw : Region.wanted o (yielded ops a.tmps) = true) (hS : S w) (hy : ∀ w, S w → (execOp a.eval o).run P w = .ok (.value v) w)
    (h : wpAnyH P md ops Q S fuel (listed.setIfInBounds i true) (a.put o.dst v) w) : wpAnyH P md ops Q S (fuel + 1) listed a w :=
  wpAnyH_take hi hs hf hr hQ (Or.inl ⟨hw, hy⟩) hS h
theorem held_no (i : Nat) {o : Oper} (hi : ops[i]? = some o) (hs : Region.noSelect ops = true) (hf : Region.free md ops listed i = true) (hr : (Region.ready md ops listed).contains i = true)
    (hQ : ∀ c a w, Q (.panic c) (a.put o.dst undef) w → Q (.panic c) a w) (hw : Region.wanted o (yielded ops a.tmps) = false) (hS : S w)
    (h : wpAnyH P md ops Q S fuel (listed.setIfInBounds i true) (a.put o.dst undef) w) : wpAnyH P md ops Q S (fuel + 1) listed a w :=
  wpAnyH_take hi hs hf hr hQ (Or.inr ⟨hw, rfl⟩) hS h
theorem held_one (i : Nat) {o : Oper} (hr : Region.ready md ops listed = [i]) (hi : ops[i]? = some o) (hw : Region.wanted o (yielded ops a.tmps) = true)
    (h : ∀ K : Act → World → Prop, Shut (∀ a w, S w → (S w → wpAnyH P md ops Q S fuel (listed.setIfInBounds i true) a w) → K a w) → Oper.wp P o a w K Q) : wpAnyH P md ops Q S (fuel + 1) listed a w :=
  wpAnyH_ready hr (by simp) (AllReadyH.cons hi (fun K hK => by rw [if_pos hw]; exact h K hK) AllReadyH.nil)
theorem held_two (i j : Nat) {o p : Oper} (hr : Region.ready md ops listed = [i, j]) (hi : ops[i]? = some o) (hj : ops[j]? = some p) (hw : Region.wanted o (yielded ops a.tmps) = true) (hv : Region.wanted p (yielded ops a.tmps) = true)
    (h : ∀ K : Act → World → Prop, Shut (∀ a w, S w → (S w → wpAnyH P md ops Q S fuel (listed.setIfInBounds i true) a w) → K a w) → Oper.wp P o a w K Q)
    (k : ∀ K : Act → World → Prop, Shut (∀ a w, S w → (S w → wpAnyH P md ops Q S fuel (listed.setIfInBounds j true) a w) → K a w) → Oper.wp P p a w K Q) : wpAnyH P md ops Q S (fuel + 1) listed a w :=
  wpAnyH_ready hr (by simp) (AllReadyH.cons hi (fun K hK => by rw [if_pos hw]; exact h K hK) (AllReadyH.cons hj (fun K hK => by rw [if_pos hv]; exact k K hK) AllReadyH.nil))
theorem held_three (i j l : Nat) {o p q : Oper} (hr : Region.ready md ops listed = [i, j, l]) (hi : ops[i]? = some o) (hj : ops[j]? = some p) (hl : ops[l]? = some q) (hw : Region.wanted o (yielded ops a.tmps) = true) (hv : Region.wanted p (yielded ops a.tmps) = true) (hu : Region.wanted q (yielded ops a.tmps) = true)
    (h : ∀ K : Act → World → Prop, Shut (∀ a w, S w → (S w → wpAnyH P md ops Q S fuel (listed.setIfInBounds i true) a w) → K a w) → Oper.wp P o a w K Q)
    (k : ∀ K : Act → World → Prop, Shut (∀ a w, S w → (S w → wpAnyH P md ops Q S fuel (listed.setIfInBounds j true) a w) → K a w) → Oper.wp P p a w K Q)
    (m : ∀ K : Act → World → Prop, Shut (∀ a w, S w → (S w → wpAnyH P md ops Q S fuel (listed.setIfInBounds l true) a w) → K a w) → Oper.wp P q a w K Q) : wpAnyH P md ops Q S (fuel + 1) listed a w :=
  wpAnyH_ready hr (by simp) (AllReadyH.cons hi (fun K hK => by rw [if_pos hw]; exact h K hK) (AllReadyH.cons hj (fun K hK => by rw [if_pos hv]; exact k K hK) (AllReadyH.cons hl (fun K hK => by rw [if_pos hu]; exact m K hK) AllReadyH.nil)))
theorem held_four (i j l r : Nat) {o p q s : Oper} (hr : Region.ready md ops listed = [i, j, l, r]) (hi : ops[i]? = some o) (hj : ops[j]? = some p) (hl : ops[l]? = some q) (hrr : ops[r]? = some s) (hw : Region.wanted o (yielded ops a.tmps) = true) (hv : Region.wanted p (yielded ops a.tmps) = true) (hu : Region.wanted q (yielded ops a.tmps) = true) (ht : Region.wanted s (yielded ops a.tmps) = true)
    (h : ∀ K : Act → World → Prop, Shut (∀ a w, S w → (S w → wpAnyH P md ops Q S fuel (listed.setIfInBounds i true) a w) → K a w) → Oper.wp P o a w K Q)
    (k : ∀ K : Act → World → Prop, Shut (∀ a w, S w → (S w → wpAnyH P md ops Q S fuel (listed.setIfInBounds j true) a w) → K a w) → Oper.wp P p a w K Q)
    (m : ∀ K : Act → World → Prop, Shut (∀ a w, S w → (S w → wpAnyH P md ops Q S fuel (listed.setIfInBounds l true) a w) → K a w) → Oper.wp P q a w K Q)
    (n : ∀ K : Act → World → Prop, Shut (∀ a w, S w → (S w → wpAnyH P md ops Q S fuel (listed.setIfInBounds r true) a w) → K a w) → Oper.wp P s a w K Q) : wpAnyH P md ops Q S (fuel + 1) listed a w :=
  wpAnyH_ready hr (by simp) (AllReadyH.cons hi (fun K hK => by rw [if_pos hw]; exact h K hK) (AllReadyH.cons hj (fun K hK => by rw [if_pos hv]; exact k K hK) (AllReadyH.cons hl (fun K hK => by rw [if_pos hu]; exact m K hK) (AllReadyH.cons hrr (fun K hK => by rw [if_pos ht]; exact n K hK) AllReadyH.nil))))
end
section
variable {P : Program} {ops : Array Oper} {Q : Exit → Act → World → Prop} {S : World → Prop} {md : Region.Mode} {fuel : Nat} {listed : Array Bool} {a : Act} {w : World}
theorem hyY (d : Option Nat) (i : Nat) {x1 : Op} {x2 : TypeId} {x3 : String} {x4 : Array Edge} {x5 : Option (Nat × Bool)} {v : Value} (hi : ops[i]? = some ⟨d, x1, x2, x3, x4, x5⟩) (hS : S w)
    (h : wpAnyH P md ops Q S fuel (listed.setIfInBounds i true) (a.put d v) w)
    (hs : Region.noSelect ops = true := by kernel_rfl) (hf : Region.free md ops listed i = true := by kernel_rfl) (hr : (Region.ready md ops listed).contains i = true := by kernel_rfl)
    (hQ : ∀ c a w, Q (.panic c) (a.put d v) w → Q (.panic c) a w := by exact fun _ _ _ h => h) (hw : Region.wanted ⟨d, x1, x2, x3, x4, x5⟩ (yielded ops a.tmps) = true := by rfl)
    (hy : ∀ w, S w → (execOp a.eval ⟨d, x1, x2, x3, x4, x5⟩).run P w = .ok (.value v) w := by (intro w hSw; (try dsimp only at hSw); go_simp; with_reducible rfl)) : wpAnyH P md ops Q S (fuel + 1) listed a w :=
  held_yes i hi hs hf hr hQ hw hS hy h
theorem hyN (d : Option Nat) (i : Nat) {x1 : Op} {x2 : TypeId} {x3 : String} {x4 : Array Edge} {x5 : Option (Nat × Bool)} (hi : ops[i]? = some ⟨d, x1, x2, x3, x4, x5⟩) (hS : S w)
    (h : wpAnyH P md ops Q S fuel (listed.setIfInBounds i true) (a.put d undef) w)
    (hs : Region.noSelect ops = true := by kernel_rfl) (hf : Region.free md ops listed i = true := by kernel_rfl) (hr : (Region.ready md ops listed).contains i = true := by kernel_rfl)
    (hQ : ∀ c a w, Q (.panic c) (a.put d undef) w → Q (.panic c) a w := by exact fun _ _ _ h => h) (hw : Region.wanted ⟨d, x1, x2, x3, x4, x5⟩ (yielded ops a.tmps) = false := by rfl) : wpAnyH P md ops Q S (fuel + 1) listed a w :=
  held_no i hi hs hf hr hQ hw hS h
theorem hyO (d : Option Nat) (i : Nat) {x1 : Op} {x2 : TypeId} {x3 : String} {x4 : Array Edge} {x5 : Option (Nat × Bool)} (hi : ops[i]? = some ⟨d, x1, x2, x3, x4, x5⟩)
    (h : ∀ K : Act → World → Prop, Shut (∀ a w, S w → (S w → wpAnyH P md ops Q S fuel (listed.setIfInBounds i true) a w) → K a w) → Oper.wp P ⟨d, x1, x2, x3, x4, x5⟩ a w K Q)
    (hr : Region.ready md ops listed = [i] := by kernel_rfl) (hw : Region.wanted ⟨d, x1, x2, x3, x4, x5⟩ (yielded ops a.tmps) = true := by rfl) : wpAnyH P md ops Q S (fuel + 1) listed a w :=
  held_one i hr hi hw h
end
end
section
open Go.RowKit
theorem zne_if (s : ByteArray) (l : List UInt8) (hs : s = ⟨l.toArray⟩) (h : ¬ l = []) : (s.toList != []) = true ∧ (s.toList != (⟨#[]⟩ : ByteArray).toList) = true ∧ (¬ s.toList = [] ∧ s.toList.isEmpty = false) := by
  have e : s.toList = l := by rw [hs, Lib.toList_data]
  rw [e]
  exact ⟨bne_iff_ne.2 h, bne_iff_ne.2 (by simpa using h), h, by simpa using h⟩
theorem zne_not (s : ByteArray) (hs : s = ⟨([] : List UInt8).toArray⟩) : (s.toList != []) = false ∧ (s.toList != (⟨#[]⟩ : ByteArray).toList) = false ∧ (s.toList = [] ∧ s.toList.isEmpty = true) := by
  subst hs
  exact ⟨by simp, by simp, by simp, by simp⟩
theorem zname_some {l : List UInt8} (h : nameS l = true) : ¬ l = [] := fun e => by
  have := ((name_iff l).1 h).1
  rw [e] at this
  simp at this
end
section
open Go.RowKit
end
section
open Go.RowKit
end
section
open Go.RowKit
end
section
open Go.RowKit
end
section
open Go.RowKit
end
section
open Go.RowKit
end
section
open Go.RowKit
theorem results_cell_tmp {P : Program} {fn : Func} {p u : Tmp} {ty : TypeId} (h : fn.results = #[.cell p ty, .tmp u]) (tmps : Array Value) (w : World) (g : Nat) (t : TypeId) (cs : Array Value) (fr : Nat × Nat) (d : TypeDesc)
    (hp : tmps.getD p undef = .pointer (some ⟨g, 0, none⟩)) (hg : w.heap[g]? = some (.cells cs t fr))
    (hu : P.underlying ty = some d) (hd : (match d with | .struct _ | .array _ _ => true | _ => false) = true) (hi : (P.info? ty).map (·.size) = some cs.size) :
    (results fn tmps).run P w = .ok (.tuple #[.agg cs, tmps.getD u undef]) w := by
  have hp' : tmps[p]?.getD undef = .pointer (some ⟨g, 0, none⟩) := by simpa using hp
  simp [results, h, hp', asAddr, run_loadVar_row w g t ty cs fr d hg hu hd hi]
theorem KB.put3 {w : World} {g : Nat} {t : TypeId} {a b c : Value} (h : KB w g t #[a, b, c]) (x y z : Value) : KB (((w.setCell ⟨g, 0, none⟩ x).setCell ⟨g, 1, none⟩ y).setCell ⟨g, 2, none⟩ z) g t #[x, y, z] :=
  ((h.put 0 x).put 1 y).put 2 z
theorem res_three (w : World) (g : Nat) (x y z : Value) : w.grownBy (((w.setCell ⟨g, 0, none⟩ x).setCell ⟨g, 1, none⟩ y).setCell ⟨g, 2, none⟩ z) (some g) :=
  grown_trans (grown_trans (grown_set _ _ _ _) (grown_set _ _ _ _)) (grown_set _ _ _ _)
end
section
open Go.RowKit
theorem wordsW_few : ∀ (l : List UInt8), (wordsW l).length ≤ l.length + 1 ∧ ∀ u ∈ wordsW l, u.length ≤ l.length
  | [] => ⟨by simp [wordsW], fun u h => by simp [wordsW] at h; simp [h]⟩
  | b :: l => by
    obtain ⟨h1, h2⟩ := wordsW_few l
    rw [wordsW]
    cases hq : wordsW l with
    | nil => exact ⟨by simp, fun u h => by simp at h; simp [h]⟩
    | cons v vs =>
      rw [hq] at h1 h2
      dsimp only
      split
      · refine ⟨by simp at h1 ⊢; omega, fun u h => ?_⟩
        rw [List.mem_cons] at h
        rcases h with h | h
        · rw [h]; simp
        · have := h2 u h; simp; omega
      · refine ⟨by simp at h1 ⊢; omega, fun u h => ?_⟩
        rw [List.mem_cons] at h
        rcases h with h | h
        · rw [h]; have := h2 v (List.mem_cons_self ..); simp; omega
        · have := h2 u (List.mem_cons_of_mem _ h); simp; omega
def ParseZ (w : World) (r : Ns (Sc 84) × Int) (e : Ending) (w' : World) : Prop := ∃ u, e = .returned (.tuple #[u, .int .i64 r.2]) ∧ ZV w' (fun x => w.heap.size ≤ x ∧ x < w'.heap.size) (84 + 1) u r.1 ∧ Below w.heap.size w w'
def parseT (o : Option (Sc (84 + 1) × List Wv)) : Ns (Sc 84) × Int := match o with
  | some (x, []) => if mayS 85 x = true then (x, 0) else (zeroNs, 1)
  | _ => (zeroNs, 2)
theorem parse_is (l : List UInt8) : parseSc l = if 1000 < l.length then (zeroNs, 3) else parseT (orV (f := 83) (factW 41) (wordsW l)) := rfl
end
section
open Go.RowKit
set_option maxHeartbeats 8000000 in
theorem zpfits_2 (S : Nat → Prop) (f : Nat) (t : Ns (Sc f)) (v : Value) (w : World) (hop : t.op = 2) (hv : ZV w S (f + 1) v t) :
    Calls Tryd.prog 23 #[v] w fun e w' => e = .returned (.bool (fitsS t)) ∧ Below w.heap.size w w' := by
  obtain ⟨c0, c1, c2, c3, c4, rfl, rfl, hk, rfl, hml, rfl, hfr, rfl, hto, hks⟩ := hv
  obtain ⟨A3, cap3, e3, hl3, hm3⟩ := hks.form
  subst e3
  clear hks
  obtain ⟨r, hr⟩ : ∃ r, r = fitsS t := ⟨_, rfl⟩
  rw [← hr]
  have HU : Hid (¬ (nameS t.name = true ∧ t.from_ = 0 ∧ t.to_ = 0 ∧ t.kids.length = 0) → r = false) := fun h => hr.trans (by
    cases hb : fitsS t with
    | false => rfl
    | true => exact absurd ((zfit_named (.inl hop)).1 hb) h)
  have HF : Hid (nameS t.name = true ∧ t.from_ = 0 ∧ t.to_ = 0 ∧ t.kids.length = 0 → r = true) := fun h => hr.trans ((zfit_named (.inl hop)).2 h)
  clear hr
  have HNA := Lib.hid (fun W : World => name_any t.name W)
  rw [hop] at hk ⊢
  generalize t.op = k at *
  generalize t.from_ = fr at *
  generalize t.to_ = to_ at *
  generalize t.name = l at *
  generalize t.kids.length = kl at *
  clear hop
  clear t
  have hlen : kl ≤ 9223372036854775807 := by unfold maxLen at hm3; omega
  obtain ⟨nm, hnm⟩ : ∃ nm : Bool, nm = !decide (l = []) := ⟨_, rfl⟩
  have HN1 : Hid (nm = false → l = []) := fun h => by rw [hnm] at h; simpa using h
  have HN2 : Hid (nm = true → ¬ l = []) := fun h => by rw [hnm] at h; simpa using h
  unfold strV at *
  obtain ⟨s, hs⟩ : ∃ s : ByteArray, s = ⟨l.toArray⟩ := ⟨_, rfl⟩
  have E8 : (s.toList != (⟨#[]⟩ : ByteArray).toList) = nm ∧ (s.toList != []) = nm ∧ (!s.toList.isEmpty) = nm ∧ s.toList.isEmpty = !nm := by
    rw [hnm]
    by_cases h : l = []
    · subst h
      subst hs
      exact ⟨by simp, by simp, by simp, by simp⟩
    · obtain ⟨a1, a2, a3, a4⟩ := zne_if s l hs h
      exact ⟨by rw [a2]; simp [h], by rw [a1]; simp [h], by rw [a4]; simp [h], by rw [a4]; simp [h]⟩
  obtain ⟨E81, E82, E83, E84⟩ := E8
  rw [← hs] at HNA ⊢
  clear hs hml hnm
  have kb := KB.new w 24 #[.int .i64 2, .string s, .int .i64 fr, .int .i64 to_, .slice A3 kl cap3]
  have B0 := (Below.refl w.heap.size w).alloc (Nat.le_refl _) (.cells #[.int .i64 2, .string s, .int .i64 fr, .int .i64 to_, .slice A3 kl cap3] 24)
  have B1 := Below_drawn B0 1
  have kc := kb.below (Below_drawn (Below.refl _ _) 1) kb.lt
  by_cases h5 : fr = 0
  · subst h5
    go_enter Tryd.func23, Tryd.ntmps23
    go_wp2_with fail
    rename_i KK hKK
    have HKK := Lib.hid hKK
    clear hKK
    refine wp_region_held_drew (S := (fun W => W.cell? ⟨w.heap.size, 1, none⟩ = some (.string s) ∧ W.cell? ⟨w.heap.size, 2, none⟩ = some (.int .i64 0) ∧ W.cell? ⟨w.heap.size, 3, none⟩ = some (.int .i64 to_) ∧ W.cell? ⟨w.heap.size, 4, none⟩ = some (.slice A3 kl cap3))) (by kernel_rfl) ⟨kb.cell 1, kb.cell 2, kb.cell 3, kb.cell 4⟩ (fun hHeld => ?_)
    refine hyY (some 6) 0 rfl hHeld ?_; go_frame
    refine hyY (some 7) 1 rfl hHeld ?_; go_frame
    refine hyY (some 8) 2 rfl hHeld ?_; go_frame
    refine hyY (some 9) 3 rfl hHeld ?_; go_frame
    refine hyY (some 10) 4 rfl hHeld ?_; go_frame
    refine hyY (some 11) 5 rfl hHeld ?_; go_frame
    refine hyY (some 12) 6 rfl hHeld ?_; go_frame
    refine hyY (some 13) 7 rfl hHeld ?_; go_frame
    refine hyY (some 14) 8 rfl hHeld ?_; go_frame
    refine hyY (some 15) 9 rfl hHeld ?_; go_frame
    refine hyY (some 16) 10 rfl hHeld ?_; go_frame
    refine hyY (some 17) 11 rfl hHeld ?_; go_frame
    refine hyY (some 18) 12 rfl hHeld ?_; go_frame
    refine hyY (some 19) 13 rfl hHeld ?_; go_frame
    refine hyY (some 3) 14 rfl hHeld ?_; go_frame
    refine hyY (some 4) 15 rfl hHeld ?_; go_frame
    refine hyY (some 5) 16 rfl hHeld ?_; go_frame
    refine wpAnyH_done (by kernel_rfl) ?_ _
    have hKK := HKK.out
    go_wp2_with fail
    refine (HNA.out _).mono ?_
    rintro e w5 ⟨rfl, b5⟩
    have B5 := B1.trans (b5.mono B1.size)
    clear b5 B0 B1
    generalize nameS l = b at *
    cases b with
    | false =>
      obtain rfl := HU.out (fun h => absurd h.1 (by decide))
      clear HU HF
      go_wp2_with fail
      go_ret
      exact ⟨rfl, B5⟩
    | true =>
      by_cases h6 : to_ = 0
      · subst h6
        by_cases h7 : kl = 0
        · subst h7
          obtain rfl := HF.out (by refine ⟨?_, ?_, ?_, ?_⟩ <;> first | trivial | rfl | omega)
          clear HU HF
          go_wp2_with fail
          go_ret
          exact ⟨rfl, B5⟩
        · obtain rfl := HU.out (fun h => h7 h.2.2.2)
          have g7 : ((kl : Int) == 0) = false := beq_eq_false_iff_ne.2 (by omega)
          clear HU HF
          go_wp2_with fail
          go_ret
          exact ⟨rfl, B5⟩
      · obtain rfl := HU.out (fun h => h6 h.2.2.1)
        have g6 : (to_ != 0) = true := bne_iff_ne.2 h6
        clear HU HF
        go_wp2_with fail
        go_ret
        exact ⟨rfl, B5⟩
  · have g5 : (fr != 0) = true := bne_iff_ne.2 h5
    go_enter Tryd.func23, Tryd.ntmps23
    go_wp2_with fail
    rename_i KK hKK
    have HKK := Lib.hid hKK
    clear hKK
    refine wp_region_held_drew (S := (fun W => W.cell? ⟨w.heap.size, 1, none⟩ = some (.string s) ∧ W.cell? ⟨w.heap.size, 2, none⟩ = some (.int .i64 fr) ∧ W.cell? ⟨w.heap.size, 3, none⟩ = some (.int .i64 to_) ∧ W.cell? ⟨w.heap.size, 4, none⟩ = some (.slice A3 kl cap3))) (by kernel_rfl) ⟨kb.cell 1, kb.cell 2, kb.cell 3, kb.cell 4⟩ (fun hHeld => ?_)
    refine hyY (some 6) 0 rfl hHeld ?_; go_frame
    refine hyY (some 7) 1 rfl hHeld ?_; go_frame
    refine hyY (some 8) 2 rfl hHeld ?_; go_frame
    refine hyY (some 9) 3 rfl hHeld ?_; go_frame
    refine hyY (some 10) 4 rfl hHeld ?_; go_frame
    refine hyY (some 11) 5 rfl hHeld ?_; go_frame
    refine hyY (some 12) 6 rfl hHeld ?_; go_frame
    refine hyN (some 13) 7 rfl hHeld ?_; go_frame
    refine hyN (some 14) 8 rfl hHeld ?_; go_frame
    refine hyN (some 15) 9 rfl hHeld ?_; go_frame
    refine hyY (some 16) 10 rfl hHeld ?_; go_frame
    refine hyY (some 17) 11 rfl hHeld ?_; go_frame
    refine hyY (some 18) 12 rfl hHeld ?_; go_frame
    refine hyY (some 19) 13 rfl hHeld ?_; go_frame
    refine hyY (some 3) 14 rfl hHeld ?_; go_frame
    refine hyY (some 4) 15 rfl hHeld ?_; go_frame
    refine hyY (some 5) 16 rfl hHeld ?_; go_frame
    refine wpAnyH_done (by kernel_rfl) ?_ _
    have hKK := HKK.out
    go_wp2_with fail
    refine (HNA.out _).mono ?_
    rintro e w5 ⟨rfl, b5⟩
    have B5 := B1.trans (b5.mono B1.size)
    clear b5 B0 B1
    generalize nameS l = b at *
    cases b with
    | false =>
      obtain rfl := HU.out (fun h => absurd h.1 (by decide))
      clear HU HF
      go_wp2_with fail
      go_ret
      exact ⟨rfl, B5⟩
    | true =>
      obtain rfl := HU.out (fun h => h5 h.2.1)
      clear HU HF
      go_wp2_with fail
      go_ret
      exact ⟨rfl, B5⟩
set_option maxHeartbeats 8000000 in
theorem zpfits_3 (S : Nat → Prop) (f : Nat) (t : Ns (Sc f)) (v : Value) (w : World) (hop : t.op = 3) (hv : ZV w S (f + 1) v t) :
    Calls Tryd.prog 23 #[v] w fun e w' => e = .returned (.bool (fitsS t)) ∧ Below w.heap.size w w' := by
  obtain ⟨c0, c1, c2, c3, c4, rfl, rfl, hk, rfl, hml, rfl, hfr, rfl, hto, hks⟩ := hv
  obtain ⟨A3, cap3, e3, hl3, hm3⟩ := hks.form
  subst e3
  clear hks
  obtain ⟨r, hr⟩ : ∃ r, r = fitsS t := ⟨_, rfl⟩
  rw [← hr]
  have HU : Hid (¬ (nameS t.name = true ∧ t.from_ = 0 ∧ t.to_ = 0 ∧ t.kids.length = 0) → r = false) := fun h => hr.trans (by
    cases hb : fitsS t with
    | false => rfl
    | true => exact absurd ((zfit_named (.inr (.inl hop))).1 hb) h)
  have HF : Hid (nameS t.name = true ∧ t.from_ = 0 ∧ t.to_ = 0 ∧ t.kids.length = 0 → r = true) := fun h => hr.trans ((zfit_named (.inr (.inl hop))).2 h)
  clear hr
  have HNA := Lib.hid (fun W : World => name_any t.name W)
  rw [hop] at hk ⊢
  generalize t.op = k at *
  generalize t.from_ = fr at *
  generalize t.to_ = to_ at *
  generalize t.name = l at *
  generalize t.kids.length = kl at *
  clear hop
  clear t
  have hlen : kl ≤ 9223372036854775807 := by unfold maxLen at hm3; omega
  obtain ⟨nm, hnm⟩ : ∃ nm : Bool, nm = !decide (l = []) := ⟨_, rfl⟩
  have HN1 : Hid (nm = false → l = []) := fun h => by rw [hnm] at h; simpa using h
  have HN2 : Hid (nm = true → ¬ l = []) := fun h => by rw [hnm] at h; simpa using h
  unfold strV at *
  obtain ⟨s, hs⟩ : ∃ s : ByteArray, s = ⟨l.toArray⟩ := ⟨_, rfl⟩
  have E8 : (s.toList != (⟨#[]⟩ : ByteArray).toList) = nm ∧ (s.toList != []) = nm ∧ (!s.toList.isEmpty) = nm ∧ s.toList.isEmpty = !nm := by
    rw [hnm]
    by_cases h : l = []
    · subst h
      subst hs
      exact ⟨by simp, by simp, by simp, by simp⟩
    · obtain ⟨a1, a2, a3, a4⟩ := zne_if s l hs h
      exact ⟨by rw [a2]; simp [h], by rw [a1]; simp [h], by rw [a4]; simp [h], by rw [a4]; simp [h]⟩
  obtain ⟨E81, E82, E83, E84⟩ := E8
  rw [← hs] at HNA ⊢
  clear hs hml hnm
  have kb := KB.new w 24 #[.int .i64 3, .string s, .int .i64 fr, .int .i64 to_, .slice A3 kl cap3]
  have B0 := (Below.refl w.heap.size w).alloc (Nat.le_refl _) (.cells #[.int .i64 3, .string s, .int .i64 fr, .int .i64 to_, .slice A3 kl cap3] 24)
  have B1 := Below_drawn B0 1
  have kc := kb.below (Below_drawn (Below.refl _ _) 1) kb.lt
  by_cases h5 : fr = 0
  · subst h5
    go_enter Tryd.func23, Tryd.ntmps23
    go_wp2_with fail
    rename_i KK hKK
    have HKK := Lib.hid hKK
    clear hKK
    refine wp_region_held_drew (S := (fun W => W.cell? ⟨w.heap.size, 1, none⟩ = some (.string s) ∧ W.cell? ⟨w.heap.size, 2, none⟩ = some (.int .i64 0) ∧ W.cell? ⟨w.heap.size, 3, none⟩ = some (.int .i64 to_) ∧ W.cell? ⟨w.heap.size, 4, none⟩ = some (.slice A3 kl cap3))) (by kernel_rfl) ⟨kb.cell 1, kb.cell 2, kb.cell 3, kb.cell 4⟩ (fun hHeld => ?_)
    refine hyY (some 6) 0 rfl hHeld ?_; go_frame
    refine hyY (some 7) 1 rfl hHeld ?_; go_frame
    refine hyY (some 8) 2 rfl hHeld ?_; go_frame
    refine hyY (some 9) 3 rfl hHeld ?_; go_frame
    refine hyY (some 10) 4 rfl hHeld ?_; go_frame
    refine hyY (some 11) 5 rfl hHeld ?_; go_frame
    refine hyY (some 12) 6 rfl hHeld ?_; go_frame
    refine hyY (some 13) 7 rfl hHeld ?_; go_frame
    refine hyY (some 14) 8 rfl hHeld ?_; go_frame
    refine hyY (some 15) 9 rfl hHeld ?_; go_frame
    refine hyY (some 16) 10 rfl hHeld ?_; go_frame
    refine hyY (some 17) 11 rfl hHeld ?_; go_frame
    refine hyY (some 18) 12 rfl hHeld ?_; go_frame
    refine hyY (some 19) 13 rfl hHeld ?_; go_frame
    refine hyY (some 3) 14 rfl hHeld ?_; go_frame
    refine hyY (some 4) 15 rfl hHeld ?_; go_frame
    refine hyY (some 5) 16 rfl hHeld ?_; go_frame
    refine wpAnyH_done (by kernel_rfl) ?_ _
    have hKK := HKK.out
    go_wp2_with fail
    refine (HNA.out _).mono ?_
    rintro e w5 ⟨rfl, b5⟩
    have B5 := B1.trans (b5.mono B1.size)
    clear b5 B0 B1
    generalize nameS l = b at *
    cases b with
    | false =>
      obtain rfl := HU.out (fun h => absurd h.1 (by decide))
      clear HU HF
      go_wp2_with fail
      go_ret
      exact ⟨rfl, B5⟩
    | true =>
      by_cases h6 : to_ = 0
      · subst h6
        by_cases h7 : kl = 0
        · subst h7
          obtain rfl := HF.out (by refine ⟨?_, ?_, ?_, ?_⟩ <;> first | trivial | rfl | omega)
          clear HU HF
          go_wp2_with fail
          go_ret
          exact ⟨rfl, B5⟩
        · obtain rfl := HU.out (fun h => h7 h.2.2.2)
          have g7 : ((kl : Int) == 0) = false := beq_eq_false_iff_ne.2 (by omega)
          clear HU HF
          go_wp2_with fail
          go_ret
          exact ⟨rfl, B5⟩
      · obtain rfl := HU.out (fun h => h6 h.2.2.1)
        have g6 : (to_ != 0) = true := bne_iff_ne.2 h6
        clear HU HF
        go_wp2_with fail
        go_ret
        exact ⟨rfl, B5⟩
  · have g5 : (fr != 0) = true := bne_iff_ne.2 h5
    go_enter Tryd.func23, Tryd.ntmps23
    go_wp2_with fail
    rename_i KK hKK
    have HKK := Lib.hid hKK
    clear hKK
    refine wp_region_held_drew (S := (fun W => W.cell? ⟨w.heap.size, 1, none⟩ = some (.string s) ∧ W.cell? ⟨w.heap.size, 2, none⟩ = some (.int .i64 fr) ∧ W.cell? ⟨w.heap.size, 3, none⟩ = some (.int .i64 to_) ∧ W.cell? ⟨w.heap.size, 4, none⟩ = some (.slice A3 kl cap3))) (by kernel_rfl) ⟨kb.cell 1, kb.cell 2, kb.cell 3, kb.cell 4⟩ (fun hHeld => ?_)
    refine hyY (some 6) 0 rfl hHeld ?_; go_frame
    refine hyY (some 7) 1 rfl hHeld ?_; go_frame
    refine hyY (some 8) 2 rfl hHeld ?_; go_frame
    refine hyY (some 9) 3 rfl hHeld ?_; go_frame
    refine hyY (some 10) 4 rfl hHeld ?_; go_frame
    refine hyY (some 11) 5 rfl hHeld ?_; go_frame
    refine hyY (some 12) 6 rfl hHeld ?_; go_frame
    refine hyN (some 13) 7 rfl hHeld ?_; go_frame
    refine hyN (some 14) 8 rfl hHeld ?_; go_frame
    refine hyN (some 15) 9 rfl hHeld ?_; go_frame
    refine hyY (some 16) 10 rfl hHeld ?_; go_frame
    refine hyY (some 17) 11 rfl hHeld ?_; go_frame
    refine hyY (some 18) 12 rfl hHeld ?_; go_frame
    refine hyY (some 19) 13 rfl hHeld ?_; go_frame
    refine hyY (some 3) 14 rfl hHeld ?_; go_frame
    refine hyY (some 4) 15 rfl hHeld ?_; go_frame
    refine hyY (some 5) 16 rfl hHeld ?_; go_frame
    refine wpAnyH_done (by kernel_rfl) ?_ _
    have hKK := HKK.out
    go_wp2_with fail
    refine (HNA.out _).mono ?_
    rintro e w5 ⟨rfl, b5⟩
    have B5 := B1.trans (b5.mono B1.size)
    clear b5 B0 B1
    generalize nameS l = b at *
    cases b with
    | false =>
      obtain rfl := HU.out (fun h => absurd h.1 (by decide))
      clear HU HF
      go_wp2_with fail
      go_ret
      exact ⟨rfl, B5⟩
    | true =>
      obtain rfl := HU.out (fun h => h5 h.2.1)
      clear HU HF
      go_wp2_with fail
      go_ret
      exact ⟨rfl, B5⟩
set_option maxHeartbeats 8000000 in
theorem zpfits_4 (S : Nat → Prop) (f : Nat) (t : Ns (Sc f)) (v : Value) (w : World) (hop : t.op = 4) (hv : ZV w S (f + 1) v t) :
    Calls Tryd.prog 23 #[v] w fun e w' => e = .returned (.bool (fitsS t)) ∧ Below w.heap.size w w' := by
  obtain ⟨c0, c1, c2, c3, c4, rfl, rfl, hk, rfl, hml, rfl, hfr, rfl, hto, hks⟩ := hv
  obtain ⟨A3, cap3, e3, hl3, hm3⟩ := hks.form
  subst e3
  clear hks
  obtain ⟨r, hr⟩ : ∃ r, r = fitsS t := ⟨_, rfl⟩
  rw [← hr]
  have HU : Hid (¬ (nameS t.name = true ∧ t.from_ = 0 ∧ t.to_ = 0 ∧ t.kids.length = 0) → r = false) := fun h => hr.trans (by
    cases hb : fitsS t with
    | false => rfl
    | true => exact absurd ((zfit_named (.inr (.inr hop))).1 hb) h)
  have HF : Hid (nameS t.name = true ∧ t.from_ = 0 ∧ t.to_ = 0 ∧ t.kids.length = 0 → r = true) := fun h => hr.trans ((zfit_named (.inr (.inr hop))).2 h)
  clear hr
  have HNA := Lib.hid (fun W : World => name_any t.name W)
  rw [hop] at hk ⊢
  generalize t.op = k at *
  generalize t.from_ = fr at *
  generalize t.to_ = to_ at *
  generalize t.name = l at *
  generalize t.kids.length = kl at *
  clear hop
  clear t
  have hlen : kl ≤ 9223372036854775807 := by unfold maxLen at hm3; omega
  obtain ⟨nm, hnm⟩ : ∃ nm : Bool, nm = !decide (l = []) := ⟨_, rfl⟩
  have HN1 : Hid (nm = false → l = []) := fun h => by rw [hnm] at h; simpa using h
  have HN2 : Hid (nm = true → ¬ l = []) := fun h => by rw [hnm] at h; simpa using h
  unfold strV at *
  obtain ⟨s, hs⟩ : ∃ s : ByteArray, s = ⟨l.toArray⟩ := ⟨_, rfl⟩
  have E8 : (s.toList != (⟨#[]⟩ : ByteArray).toList) = nm ∧ (s.toList != []) = nm ∧ (!s.toList.isEmpty) = nm ∧ s.toList.isEmpty = !nm := by
    rw [hnm]
    by_cases h : l = []
    · subst h
      subst hs
      exact ⟨by simp, by simp, by simp, by simp⟩
    · obtain ⟨a1, a2, a3, a4⟩ := zne_if s l hs h
      exact ⟨by rw [a2]; simp [h], by rw [a1]; simp [h], by rw [a4]; simp [h], by rw [a4]; simp [h]⟩
  obtain ⟨E81, E82, E83, E84⟩ := E8
  rw [← hs] at HNA ⊢
  clear hs hml hnm
  have kb := KB.new w 24 #[.int .i64 4, .string s, .int .i64 fr, .int .i64 to_, .slice A3 kl cap3]
  have B0 := (Below.refl w.heap.size w).alloc (Nat.le_refl _) (.cells #[.int .i64 4, .string s, .int .i64 fr, .int .i64 to_, .slice A3 kl cap3] 24)
  have B1 := Below_drawn B0 1
  have kc := kb.below (Below_drawn (Below.refl _ _) 1) kb.lt
  by_cases h5 : fr = 0
  · subst h5
    go_enter Tryd.func23, Tryd.ntmps23
    go_wp2_with fail
    rename_i KK hKK
    have HKK := Lib.hid hKK
    clear hKK
    refine wp_region_held_drew (S := (fun W => W.cell? ⟨w.heap.size, 1, none⟩ = some (.string s) ∧ W.cell? ⟨w.heap.size, 2, none⟩ = some (.int .i64 0) ∧ W.cell? ⟨w.heap.size, 3, none⟩ = some (.int .i64 to_) ∧ W.cell? ⟨w.heap.size, 4, none⟩ = some (.slice A3 kl cap3))) (by kernel_rfl) ⟨kb.cell 1, kb.cell 2, kb.cell 3, kb.cell 4⟩ (fun hHeld => ?_)
    refine hyY (some 6) 0 rfl hHeld ?_; go_frame
    refine hyY (some 7) 1 rfl hHeld ?_; go_frame
    refine hyY (some 8) 2 rfl hHeld ?_; go_frame
    refine hyY (some 9) 3 rfl hHeld ?_; go_frame
    refine hyY (some 10) 4 rfl hHeld ?_; go_frame
    refine hyY (some 11) 5 rfl hHeld ?_; go_frame
    refine hyY (some 12) 6 rfl hHeld ?_; go_frame
    refine hyY (some 13) 7 rfl hHeld ?_; go_frame
    refine hyY (some 14) 8 rfl hHeld ?_; go_frame
    refine hyY (some 15) 9 rfl hHeld ?_; go_frame
    refine hyY (some 16) 10 rfl hHeld ?_; go_frame
    refine hyY (some 17) 11 rfl hHeld ?_; go_frame
    refine hyY (some 18) 12 rfl hHeld ?_; go_frame
    refine hyY (some 19) 13 rfl hHeld ?_; go_frame
    refine hyY (some 3) 14 rfl hHeld ?_; go_frame
    refine hyY (some 4) 15 rfl hHeld ?_; go_frame
    refine hyY (some 5) 16 rfl hHeld ?_; go_frame
    refine wpAnyH_done (by kernel_rfl) ?_ _
    have hKK := HKK.out
    go_wp2_with fail
    refine (HNA.out _).mono ?_
    rintro e w5 ⟨rfl, b5⟩
    have B5 := B1.trans (b5.mono B1.size)
    clear b5 B0 B1
    generalize nameS l = b at *
    cases b with
    | false =>
      obtain rfl := HU.out (fun h => absurd h.1 (by decide))
      clear HU HF
      go_wp2_with fail
      go_ret
      exact ⟨rfl, B5⟩
    | true =>
      by_cases h6 : to_ = 0
      · subst h6
        by_cases h7 : kl = 0
        · subst h7
          obtain rfl := HF.out (by refine ⟨?_, ?_, ?_, ?_⟩ <;> first | trivial | rfl | omega)
          clear HU HF
          go_wp2_with fail
          go_ret
          exact ⟨rfl, B5⟩
        · obtain rfl := HU.out (fun h => h7 h.2.2.2)
          have g7 : ((kl : Int) == 0) = false := beq_eq_false_iff_ne.2 (by omega)
          clear HU HF
          go_wp2_with fail
          go_ret
          exact ⟨rfl, B5⟩
      · obtain rfl := HU.out (fun h => h6 h.2.2.1)
        have g6 : (to_ != 0) = true := bne_iff_ne.2 h6
        clear HU HF
        go_wp2_with fail
        go_ret
        exact ⟨rfl, B5⟩
  · have g5 : (fr != 0) = true := bne_iff_ne.2 h5
    go_enter Tryd.func23, Tryd.ntmps23
    go_wp2_with fail
    rename_i KK hKK
    have HKK := Lib.hid hKK
    clear hKK
    refine wp_region_held_drew (S := (fun W => W.cell? ⟨w.heap.size, 1, none⟩ = some (.string s) ∧ W.cell? ⟨w.heap.size, 2, none⟩ = some (.int .i64 fr) ∧ W.cell? ⟨w.heap.size, 3, none⟩ = some (.int .i64 to_) ∧ W.cell? ⟨w.heap.size, 4, none⟩ = some (.slice A3 kl cap3))) (by kernel_rfl) ⟨kb.cell 1, kb.cell 2, kb.cell 3, kb.cell 4⟩ (fun hHeld => ?_)
    refine hyY (some 6) 0 rfl hHeld ?_; go_frame
    refine hyY (some 7) 1 rfl hHeld ?_; go_frame
    refine hyY (some 8) 2 rfl hHeld ?_; go_frame
    refine hyY (some 9) 3 rfl hHeld ?_; go_frame
    refine hyY (some 10) 4 rfl hHeld ?_; go_frame
    refine hyY (some 11) 5 rfl hHeld ?_; go_frame
    refine hyY (some 12) 6 rfl hHeld ?_; go_frame
    refine hyN (some 13) 7 rfl hHeld ?_; go_frame
    refine hyN (some 14) 8 rfl hHeld ?_; go_frame
    refine hyN (some 15) 9 rfl hHeld ?_; go_frame
    refine hyY (some 16) 10 rfl hHeld ?_; go_frame
    refine hyY (some 17) 11 rfl hHeld ?_; go_frame
    refine hyY (some 18) 12 rfl hHeld ?_; go_frame
    refine hyY (some 19) 13 rfl hHeld ?_; go_frame
    refine hyY (some 3) 14 rfl hHeld ?_; go_frame
    refine hyY (some 4) 15 rfl hHeld ?_; go_frame
    refine hyY (some 5) 16 rfl hHeld ?_; go_frame
    refine wpAnyH_done (by kernel_rfl) ?_ _
    have hKK := HKK.out
    go_wp2_with fail
    refine (HNA.out _).mono ?_
    rintro e w5 ⟨rfl, b5⟩
    have B5 := B1.trans (b5.mono B1.size)
    clear b5 B0 B1
    generalize nameS l = b at *
    cases b with
    | false =>
      obtain rfl := HU.out (fun h => absurd h.1 (by decide))
      clear HU HF
      go_wp2_with fail
      go_ret
      exact ⟨rfl, B5⟩
    | true =>
      obtain rfl := HU.out (fun h => h5 h.2.1)
      clear HU HF
      go_wp2_with fail
      go_ret
      exact ⟨rfl, B5⟩
end
end Go.Proofs.YtjecjlhofnnnpaaDoor
