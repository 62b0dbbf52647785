/-
  How the program reads a term: plain mathematics, the kind that stands next, and what is told of a reader's block. No condition but what they name.
-/
import Derived.Test.YtmepcdljobdigaaDoorTpG
import Derived.Test.YtmepcdljobdigaaDoorTermW
namespace Go.Proofs.YtmepcdljobdigaaDoor
open Go.RowKit
set_option linter.unusedVariables false

/-- The kind that stands first. -/
def kindB (l : List UInt8) : Int := match l with
  | [] => 0
  | b :: _ => (b.toNat : Int)

/-- How so many kids are read, whatever happens. -/
def readK {α : Type} (g : Option (List UInt8) → Option (List UInt8) × α) : Nat → Option (List UInt8) → Option (List UInt8) × List α
  | 0, st => (st, [])
  | n + 1, st => ((readK g n (g st).1).1, (g st).2 :: (readK g n (g st).1).2)

/-- How a part is read, its kids by g. -/
def readBy {d : Nat} (g : Option (List UInt8) → Option (List UInt8) × Tm (d + 1)) (st : Option (List UInt8)) : Option (List UInt8) × Nd (Tm (d + 1)) :=
  let k := kindB (passed 1 st).2
  let r1 := readN k (passed 1 st).1
  let r2 := readD k r1.1
  let r3 := readK g (kidsP k).toNat r2.1
  (r3.1, ⟨k, r1.2, r2.2, r3.2⟩)

/-- The next term, at most so many bytes. -/
def readP : (d : Nat) → Option (List UInt8) → Option (List UInt8) × Nd (Tm (d + 1))
  | 0, st => readBy (fun st => (st, (zeroN : Nd (Tm 0)))) st
  | d + 1, st => readBy (readP d) st

theorem kindB_in (l : List UInt8) : 0 ≤ kindB l ∧ kindB l ≤ 255 := by
  unfold kindB
  split
  · omega
  · rename_i b _
    have := b.toNat_lt
    omega

/-- How far the kids are read. -/
def SofarK {α : Type} (g : Option (List UInt8) → Option (List UInt8) × α) (r : Option (List UInt8) × List α) (n : Nat) (st : Option (List UInt8)) (ks : List α) : Prop := r = ((readK g n st).1, ks ++ (readK g n st).2)
theorem SofarK.start {α : Type} (g : Option (List UInt8) → Option (List UInt8) × α) (n : Nat) (st : Option (List UInt8)) : SofarK g (readK g n st) n st [] := rfl
theorem SofarK.step {α : Type} {g : Option (List UInt8) → Option (List UInt8) × α} {r : Option (List UInt8) × List α} {n : Nat} {st : Option (List UInt8)} {ks : List α} (h : SofarK g r (n + 1) st ks) : SofarK g r n (g st).1 (ks ++ [(g st).2]) := by
  unfold SofarK at h ⊢
  rw [h, readK]
  simp
theorem SofarK.done {α : Type} {g : Option (List UInt8) → Option (List UInt8) × α} {r : Option (List UInt8) × List α} {st : Option (List UInt8)} {ks : List α} (h : SofarK g r 0 st ks) : r = (st, ks) := by
  unfold SofarK at h
  rw [h, readK, List.append_nil]

theorem passed_short (st : Option (List UInt8)) (h : kidsP (kindB (passed 1 st).2) ≠ 0) : ((passed 1 st).1.getD []).length < (st.getD []).length := by
  rcases st with _ | _ | ⟨b, l⟩
  · exact absurd (by rw [passed_none]; rfl) h
  · exact absurd (by rw [passed_nil]; rfl) h
  · rw [passed_cons]; simp

theorem readK_le {α : Type} {g : Option (List UInt8) → Option (List UInt8) × α} (h : ∀ st, ((g st).1.getD []).length ≤ (st.getD []).length) : ∀ (n : Nat) (st : Option (List UInt8)), ((readK g n st).1.getD []).length ≤ (st.getD []).length
  | 0, st => Nat.le_refl _
  | n + 1, st => Nat.le_trans (readK_le h n (g st).1) (h st)

theorem readBy_le {d : Nat} {g : Option (List UInt8) → Option (List UInt8) × Tm (d + 1)} (h : ∀ st, ((g st).1.getD []).length ≤ (st.getD []).length) (st : Option (List UInt8)) : ((readBy g st).1.getD []).length ≤ (st.getD []).length := by
  show ((readK g _ (readD _ (readN _ (passed 1 st).1).1).1).1.getD []).length ≤ _
  refine Nat.le_trans (readK_le h _ _) (Nat.le_trans ?_ (passed_le 1 st))
  generalize (passed 1 st).1 = s1
  generalize kindB (passed 1 st).2 = k
  have h1 : ((readN k s1).1.getD []).length ≤ (s1.getD []).length := by
    unfold readN
    split
    · exact numOf_le _
    · exact Nat.le_refl _
  refine Nat.le_trans ?_ h1
  unfold readD
  split
  · exact txtOf_le 100 _
  · exact Nat.le_refl _

theorem readP_le : ∀ (d : Nat) (st : Option (List UInt8)), ((readP d st).1.getD []).length ≤ (st.getD []).length
  | 0, st => readBy_le (fun _ => Nat.le_refl _) st
  | d + 1, st => readBy_le (readP_le d) st

theorem RD.far {w : World} {g h i : Nat} {S : Nat → Prop} {st : Option (List UInt8)} {u : Value} (r : RD w g S st) (hne : h ≠ g) (hS : ¬ S h) : RD (w.setCell ⟨h, i, none⟩ u) g S st := by
  obtain ⟨v, h1, h2, h3⟩ := r
  exact ⟨v, h1.far hne, h2.setCell hS u, h3⟩
theorem RD.alloc {w : World} {g : Nat} {S : Nat → Prop} {st : Option (List UInt8)} (r : RD w g S st) (o : Obj) : RD (w.alloc o) g S st := r.below ((Below.refl _ _).alloc (Nat.le_refl _) o)
theorem RD.grownX {w w' : World} {g : Nat} {S : Nat → Prop} {st : Option (List UInt8)} {row : Option Nat} (r : RD w g S st) (hg : w.grownBy w' row) (h1 : row ≠ some g) (h2 : ∀ x, row = some x → ¬ S x) : RD w' g S st := by
  obtain ⟨v, k1, k2, k3⟩ := r
  exact ⟨v, k1.grown hg h1, k2.grown hg h2, k3⟩

theorem kind_rd (g : Nat) (S : Nat → Prop) (st : Option (List UInt8)) (w : World) (h : RD w g S st) (hl : (st.getD []).length ≤ 140737488355328) :
    Calls Tryd.prog 39 #[.pointer (some ⟨g, 0, none⟩)] w fun e w' => e = .returned (.int .i64 (kindB (passed 1 st).2)) ∧ RD w' g S (passed 1 st).1 ∧ w.grownBy w' (some g) := by
  have ht := take_rd 1 g S st w h hl
  generalize passed 1 st = r at *
  obtain ⟨s1, l⟩ := r
  simp only at ht ⊢
  cases l with
  | nil =>
    rw [show kindB [] = 0 from rfl]
    go_enter Tryd.func39, Tryd.ntmps39
    go_wp2_with fail
    refine ht.mono ?_
    rintro e w1 ⟨v1, rfl, hr, how, hg⟩
    obtain ⟨A1, c1, rfl⟩ := own_form how
    clear ht
    go_wp2_with fail
    go_ret
    exact ⟨rfl, hr, hg⟩
  | cons b l =>
    rw [show kindB (b :: l) = (b.toNat : Int) from rfl]
    have hu := b.toNat_lt
    have W2 : wrap64 (b.toNat : Int) = (b.toNat : Int) := IntWalk.wrap64_in _ (by omega)
    go_enter Tryd.func39, Tryd.ntmps39
    go_wp2_with fail
    refine ht.mono ?_
    rintro e w1 ⟨v1, rfl, hr, how, hg⟩
    have hbs := own_BS how
    obtain ⟨A1, c1, rfl⟩ := own_form how
    obtain ⟨bb, oo, rfl, _, _, hx⟩ := hbs.at_ (by simp)
    have hcell : w1.cell? ⟨bb, oo, none⟩ = some (.int .u8 (b.toNat : Int)) := by have := hx 0 b rfl; simpa using this
    have hln : Hid ((b :: l).length = l.length + 1) := rfl
    have hpos : 0 < (b :: l).length := by simp
    clear ht hx hbs how
    generalize (b :: l).length = n at *
    go_wp2_with fail
    go_ret
    exact ⟨rfl, hr, hg⟩
end Go.Proofs.YtmepcdljobdigaaDoor
