/-
  TpI: How the program reads a term: plain mathematics, the kind that stands next, and what is told of a reader's block. No condition but what they name.
  TermN: The document's Get of layer 5, over the loaded program: its contract. No condition.
-/
import Derived.Test.YthgaljgelngmaaaDoorDv18
import Derived.Test.YthgaljgelngmaaaDoorDv16
import Derived.Test.YthgaljgelngmaaaDoorDv17
import Derived.Test.YthgaljgelngmaaaDoorDv08

section
namespace Go.Proofs.YthgaljgelngmaaaDoor
open Go.RowKit
set_option linter.unusedVariables false

/-- The kind that stands first. -/
def kindB (l : List UInt8) : Int := match l with
  | [] => 0
  | b :: _ => (b.toNat : Int)

/-- How so many kids are read, whatever happens. -/
def readK {α : Type} (g : Option (List UInt8) → Option (List UInt8) × α) : Nat → Option (List UInt8) → Option (List UInt8) × List α
  | 0, st => (st, [])
  | n + 1, st => ((readK g n (g st).1).1, (g st).2 :: (readK g n (g st).1).2)

/-- How a part is read, its kids by g. -/
def readBy {d : Nat} (g : Option (List UInt8) → Option (List UInt8) × Tm (d + 1)) (st : Option (List UInt8)) : Option (List UInt8) × Nd (Tm (d + 1)) :=
  let k := kindB (passed 1 st).2
  let r1 := readN k (passed 1 st).1
  let r2 := readD k r1.1
  let r3 := readK g (kidsP k).toNat r2.1
  (r3.1, ⟨k, r1.2, r2.2, r3.2⟩)

/-- The next term, at most so many bytes. -/
def readP : (d : Nat) → Option (List UInt8) → Option (List UInt8) × Nd (Tm (d + 1))
  | 0, st => readBy (fun st => (st, (zeroN : Nd (Tm 0)))) st
  | d + 1, st => readBy (readP d) st

theorem kindB_in (l : List UInt8) : 0 ≤ kindB l ∧ kindB l ≤ 255 := by
  unfold kindB
  split
  · omega
  · rename_i b _
    have := b.toNat_lt
    omega

/-- How far the kids are read. -/
def SofarK {α : Type} (g : Option (List UInt8) → Option (List UInt8) × α) (r : Option (List UInt8) × List α) (n : Nat) (st : Option (List UInt8)) (ks : List α) : Prop := r = ((readK g n st).1, ks ++ (readK g n st).2)
theorem SofarK.start {α : Type} (g : Option (List UInt8) → Option (List UInt8) × α) (n : Nat) (st : Option (List UInt8)) : SofarK g (readK g n st) n st [] := rfl
theorem SofarK.step {α : Type} {g : Option (List UInt8) → Option (List UInt8) × α} {r : Option (List UInt8) × List α} {n : Nat} {st : Option (List UInt8)} {ks : List α} (h : SofarK g r (n + 1) st ks) : SofarK g r n (g st).1 (ks ++ [(g st).2]) := by
  unfold SofarK at h ⊢
  rw [h, readK]
  simp
theorem SofarK.done {α : Type} {g : Option (List UInt8) → Option (List UInt8) × α} {r : Option (List UInt8) × List α} {st : Option (List UInt8)} {ks : List α} (h : SofarK g r 0 st ks) : r = (st, ks) := by
  unfold SofarK at h
  rw [h, readK, List.append_nil]

theorem passed_short (st : Option (List UInt8)) (h : kidsP (kindB (passed 1 st).2) ≠ 0) : ((passed 1 st).1.getD []).length < (st.getD []).length := by
  rcases st with _ | _ | ⟨b, l⟩
  · exact absurd (by rw [passed_none]; rfl) h
  · exact absurd (by rw [passed_nil]; rfl) h
  · rw [passed_cons]; simp

theorem readK_le {α : Type} {g : Option (List UInt8) → Option (List UInt8) × α} (h : ∀ st, ((g st).1.getD []).length ≤ (st.getD []).length) : ∀ (n : Nat) (st : Option (List UInt8)), ((readK g n st).1.getD []).length ≤ (st.getD []).length
  | 0, st => Nat.le_refl _
  | n + 1, st => Nat.le_trans (readK_le h n (g st).1) (h st)

theorem readBy_le {d : Nat} {g : Option (List UInt8) → Option (List UInt8) × Tm (d + 1)} (h : ∀ st, ((g st).1.getD []).length ≤ (st.getD []).length) (st : Option (List UInt8)) : ((readBy g st).1.getD []).length ≤ (st.getD []).length := by
  show ((readK g _ (readD _ (readN _ (passed 1 st).1).1).1).1.getD []).length ≤ _
  refine Nat.le_trans (readK_le h _ _) (Nat.le_trans ?_ (passed_le 1 st))
  generalize (passed 1 st).1 = s1
  generalize kindB (passed 1 st).2 = k
  have h1 : ((readN k s1).1.getD []).length ≤ (s1.getD []).length := by
    unfold readN
    split
    · exact numOf_le _
    · exact Nat.le_refl _
  refine Nat.le_trans ?_ h1
  unfold readD
  split
  · exact txtOf_le 100 _
  · exact Nat.le_refl _

theorem readP_le : ∀ (d : Nat) (st : Option (List UInt8)), ((readP d st).1.getD []).length ≤ (st.getD []).length
  | 0, st => readBy_le (fun _ => Nat.le_refl _) st
  | d + 1, st => readBy_le (readP_le d) st

end Go.Proofs.YthgaljgelngmaaaDoor
end

section
namespace Go.Proofs.YthgaljgelngmaaaDoor
open Go.RowKit
set_option linter.unusedVariables false

theorem results_cell_tmp2 {P : Program} {fn : Func} {p u v : Tmp} {ty : TypeId} (h : fn.results = #[.cell p ty, .tmp u, .tmp v]) (tmps : Array Value) (w : World) (g : Nat) (t : TypeId) (cs : Array Value) (fr : Nat × Nat) (d : TypeDesc)
    (hp : tmps.getD p undef = .pointer (some ⟨g, 0, none⟩)) (hg : w.heap[g]? = some (.cells cs t fr))
    (hu : P.underlying ty = some d) (hd : (match d with | .struct _ | .array _ _ => true | _ => false) = true) (hi : (P.info? ty).map (·.size) = some cs.size) :
    (results fn tmps).run P w = .ok (.tuple #[.agg cs, tmps.getD u undef, tmps.getD v undef]) w := by
  have hp' : tmps[p]?.getD undef = .pointer (some ⟨g, 0, none⟩) := by simpa using hp
  simp [results, h, hp', asAddr, run_loadVar_row w g t ty cs fr d hg hu hd hi]

theorem term_form {w : World} {S : Nat → Prop} : ∀ {f : Nat} {t : Tm f} {e0 e1 e2 e3 : Value}, TM w S f t e0 e1 e2 e3 → ∃ (i0 i1 : Int) (X2 : Option Addr) (n2 z2 : Nat) (X3 : Option Addr) (n3 z3 : Nat), e0 = .int .i64 i0 ∧ e1 = .int .u64 i1 ∧ e2 = .slice X2 n2 z2 ∧ e3 = .slice X3 n3 z3
  | 0, t, _, _, _, _, _ => nomatch t
  | f + 1, (t : Nd (Tm f)), e0, e1, e2, e3, h => by
    obtain ⟨rfl, _, rfl, _, hb, hk⟩ := h
    obtain ⟨A2, c2, rfl, _⟩ := hb.form
    obtain ⟨A3, c3, rfl, _⟩ := hk
    exact ⟨_, _, A2, _, c2, A3, _, c3, rfl, rfl, rfl, rfl⟩

/-- What Get answers: the term, how many bytes, the error. -/
def getOf (b : List UInt8) : Nd (Tm 8) × Int × Int :=
  match (readT 8 (some (b.take 400))).1 with
  | none => (zeroN, 0, 2)
  | some l => if mayT 9 (readT 8 (some (b.take 400))).2 8 = true then ((readT 8 (some (b.take 400))).2, ((b.take 400).length : Int) - l.length, 0) else (zeroN, 0, 2)

end Go.Proofs.YthgaljgelngmaaaDoor
end
