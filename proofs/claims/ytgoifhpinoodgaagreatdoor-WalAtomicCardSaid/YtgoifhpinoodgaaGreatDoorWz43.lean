/-
  WbD: Commit of any patches, whether they are refused or not, and crashes behind it, plainly; Commit's contract for all patches. No condition but what each theorem names.
-/
import Derived.Test.YtgoifhpinoodgaaGreatDoorWz42

section
namespace Go.Proofs.YtgoifhpinoodgaaGreatDoor
open Go.RowKit
set_option maxRecDepth 100000
set_option linter.unusedVariables false

/-- What a Commit makes of a disk, whatever the patches are. -/
def comA (n N : Nat) (ps : List Pt) (s : Dk) : Dk × Int := if rightP n N ps ≠ 0 ∨ ps.length = 0 then (s, rightP n N ps) else commitD ps s
/-- The patches that are done. -/
def goodP (n N : Nat) (ps : List Pt) : List Pt := if rightP n N ps = 0 then ps else []
theorem right_zero {n N : Nat} {ps : List Pt} (h : rightP n N ps = 0) : takesB n N ps = true ∧ ps.length ≤ roomN n := by
  unfold rightP at h
  split at h
  · rename_i ht
    refine ⟨ht, ?_⟩
    split at h
    · cases h
    · omega
  · cases h
theorem fine_good {n N : Nat} (ps : List Pt) (hn : n < N) (hN : N ≤ 1024) : Fine n N (goodP n N ps) := by
  unfold goodP
  split
  · rename_i h
    obtain ⟨h1, h2⟩ := right_zero h
    exact ⟨h1, h2, hn, hN⟩
  · exact ⟨rfl, Nat.zero_le _, hn, hN⟩
section
variable {n N : Nat} {ps : List Pt} {s : Dk} {W0 : Nat → List UInt8}
theorem comA_no (h : rightP n N ps ≠ 0 ∨ ps.length = 0) : comA n N ps s = (s, rightP n N ps) := if_pos h
theorem comA_go (h : ¬ (rightP n N ps ≠ 0 ∨ ps.length = 0)) : comA n N ps s = commitD ps s ∧ goodP n N ps = ps := by
  refine ⟨if_neg h, if_pos ?_⟩
  exact Classical.byContradiction fun hh => h (.inl hh)
theorem goodP_no (h : rightP n N ps ≠ 0 ∨ ps.length = 0) : goodP n N ps = [] := by
  unfold goodP
  split
  · rename_i h0
    rcases h with h | h
    · exact absurd h0 h
    · exact List.eq_nil_of_length_eq_zero h
  · rfl
theorem comA_len : (comA n N ps s).1.safe.length = s.safe.length := by
  unfold comA
  split
  · rfl
  · exact commitD_len _ _
/-- On a disk whose log is zero, and whose power does not go. -/
theorem comA_stands (hn : n < N) (hN : N ≤ 1024) (hl : s.safe.length = N) (hf : s.fuse = -1) (hs : Stands n N W0 s) :
    (comA n N ps s).2 = rightP n N ps ∧ (comA n N ps s).1.fuse = -1 ∧ Stands n N (W1 (goodP n N ps) W0) (comA n N ps s).1 := by
  have hfi := fine_good ps hn hN
  by_cases h : rightP n N ps ≠ 0 ∨ ps.length = 0
  · rw [comA_no h, goodP_no h]
    exact ⟨rfl, hf, hs⟩
  · obtain ⟨e1, e2⟩ := comA_go (s := s) h
    rw [e1, e2]
    rw [e2] at hfi
    obtain ⟨c1, c2⟩ := commitD_never ps s hf
    have hr : rightP n N ps = 0 := Classical.byContradiction fun hh => h (.inl hh)
    exact ⟨by rw [c1, hr], c2, commit_stands hfi hl hs c1⟩

/-- What a crash may leave, whatever stays; and what it must, if dn. -/
structure Left (n N : Nat) (P : List Pt) (W0 : Nat → List UInt8) (dn : Bool) (s : Dk) : Prop where
  len : s.safe.length = N
  good : ∀ ks, Good n P W0 (s.crashed ks)
  sure : dn = true → ∀ ks, Allow (AlZ n (W1 P W0)) (s.crashed ks)
theorem Left.fuse {P : List Pt} {dn : Bool} (h : Left n N P W0 dn s) (f : Int) : Left n N P W0 dn { s with fuse := f } := ⟨h.len, h.good, h.sure⟩
theorem stands_allow {W : Nat → List UInt8} (hl : s.safe.length = N) (hs : Stands n N W s) : Allow (AlZ n W) s :=
  Allow.of_now hs.1 fun i hi => ⟨fun e => by subst e; exact hs.2.1 0 (Nat.zero_le _), fun e => hs.2.2 i e (by omega)⟩
/-- Behind a Commit. -/
theorem comA_left (hn : n < N) (hN : N ≤ 1024) (hl : s.safe.length = N) (hs : Stands n N W0 s) (dn : Bool) (hdn : dn = true → (comA n N ps s).2 = 0 ∧ rightP n N ps = 0) : Left n N (goodP n N ps) W0 dn (comA n N ps s).1 := by
  have hfi := fine_good ps hn hN
  have ha := stands_allow hl hs
  by_cases h : rightP n N ps ≠ 0 ∨ ps.length = 0
  · rw [comA_no h, goodP_no h]
    exact ⟨hl, Good.z0 ha, fun _ ks => ha.crashed ks⟩
  · obtain ⟨e1, e2⟩ := comA_go (s := s) h
    rw [e1] at hdn ⊢
    rw [e2] at hfi ⊢
    obtain ⟨g1, g2⟩ := commit_good hfi hl hs.1 ha
    exact ⟨by rw [commitD_len]; exact hl, g1, fun hd ks => (g2 (hdn hd).1).2.1.crashed ks⟩
/-- A crash, and Open behind it. -/
theorem Left.open_ {P : List Pt} {dn : Bool} (h : Left n N P W0 dn s) (hf : Fine n N P) (ks : List Bool) (f : Int) : Left n N P W0 dn (openD n { s.crashed ks with fuse := f }).1 := by
  have hl : ({ s.crashed ks with fuse := f } : Dk).safe.length = N := by show (over _ _).length = N; rw [over_len]; exact h.len
  have hc : ({ s.crashed ks with fuse := f } : Dk).calm := fun _ => rfl
  have hg : Good n P W0 { s.crashed ks with fuse := f } := h.good ks
  obtain ⟨g1, _⟩ := open_good hf hl hc hg
  exact ⟨by rw [openD_len]; exact hl, g1, fun hd ks' => ((open_zero (s := { s.crashed ks with fuse := f }) hf.log hl hc (h.sure hd ks)).2.1).crashed ks'⟩
/-- A crash, and Open behind it, of a disk whose power does not go. -/
theorem Left.last {P : List Pt} {dn : Bool} (h : Left n N P W0 dn s) (hf : Fine n N P) (ks : List Bool) :
    (openD n (s.crashed ks)).2 = 0 ∧ (openD n (s.crashed ks)).1.fuse = -1 ∧ (openD n (s.crashed ks)).1.safe.length = N ∧ (Stands n N (W1 P W0) (openD n (s.crashed ks)).1 ∨ dn = false ∧ Stands n N W0 (openD n (s.crashed ks)).1) := by
  have hl : (s.crashed ks).safe.length = N := by show (over _ _).length = N; rw [over_len]; exact h.len
  have hc : (s.crashed ks).calm := fun _ => rfl
  obtain ⟨c1, c2⟩ := openD_never n (s.crashed ks) rfl
  refine ⟨c1, c2, by rw [openD_len]; exact hl, ?_⟩
  cases dn with
  | true => exact .inl ((open_zero hf.log hl hc (h.sure rfl ks)).2.2 c1)
  | false =>
    rcases (open_good hf hl hc (h.good ks)).2 c1 with h | h
    · exact .inr ⟨rfl, h⟩
    · exact .inl h
/-- The sectors of a disk of which nothing is pending. -/
theorem calm_at (hc : s.calm) {i : Nat} (hi : i < s.safe.length) : s.safe[i]? = some (s.now i) := by
  unfold Dk.now
  rw [hc i, Option.getD_none, List.getD_eq_getElem?_getD, List.getElem?_eq_getElem hi]
  rfl
theorem stands_image {P : List Pt} {t : Dk} (hf : Fine n N P) (hl : s.safe.length = N) (hs : Stands n N W0 s) (ht : t.safe.length = N) (h : Stands n N (W1 P W0) t) : t.safe = doneL s.safe P := by
  apply List.ext_getElem?
  intro i
  by_cases hi : i < N
  · rw [calm_at h.1 (by omega), doneL_at _ _ _ (by omega)]
    have e : s.safe.getD i [] = s.now i := by rw [List.getD_eq_getElem?_getD, calm_at hs.1 (by omega)]; rfl
    rw [e]
    by_cases hin : i ≤ n
    · rw [h.2.1 i hin, hs.2.1 i hin]
      exact congrArg some (lastP_no _ _ _ fun v hv e => by have := hf.behind hv; omega).symm
    · rw [h.2.2 i (by omega) hi, hs.2.2 i (by omega) hi]
      rfl
  · rw [List.getElem?_eq_none (by omega), List.getElem?_eq_none (by rw [doneL_len]; omega)]
end

/-- Commit, of any patches. -/
theorem commit_all {w : World} {lg n : Nat} {p : DA} {s : Dk} (v : Value) (ps : List Pt) (hg : LG w lg p n false) (hgp : ¬ p.has lg) (hd : DS w p s) (h : PS w (Off p w) v ps) (hn : n < s.safe.length) (ht : Tab w) (htp : ¬ p.has 0) :
    Calls Tryz.prog 8 #[.pointer (some ⟨lg, 0, none⟩), v] w fun e w' => e = .returned (.int .i64 (comA n s.safe.length ps s).2) ∧ DS w' p (comA n s.safe.length ps s).1 ∧ (∃ br, LG w' lg p n br ∧ ((comA n s.safe.length ps s).2 = rightP n s.safe.length ps → br = false)) ∧ KeepP (fun x => Off p w x ∧ x ≠ lg) w w' := by
  have few := hd.ok.few
  by_cases hr : rightP n s.safe.length ps ≠ 0 ∨ ps.length = 0
  · rw [comA_no hr]
    refine (commit_no v ps (by omega) hg hd h (by rw [chk_right]; exact hr)).mono ?_
    rintro e w' ⟨rfl, b⟩
    rw [chk_right]
    exact ⟨rfl, hd.below b, ⟨false, hg.below b, fun _ => rfl⟩, KeepP.of_below b fun x hx => hx.1.1⟩
  · obtain ⟨e1, e2⟩ := comA_go (s := s) hr
    rw [e1]
    have hr0 : rightP n s.safe.length ps = 0 := Classical.byContradiction fun hh => hr (.inl hh)
    have hfi := fine_good ps hn few
    rw [e2] at hfi
    refine (commit_go v ps hg hgp hd h hfi (by omega) ht htp).mono ?_
    rintro e w' ⟨rfl, d, l, k⟩
    exact ⟨rfl, d, ⟨_, l, fun hh => by rw [hr0] at hh; simp [hh]⟩, k⟩
end Go.Proofs.YtgoifhpinoodgaaGreatDoor
end
