/-
  Whether two inodes are the same, the program's and the document's (layer 12), over the loaded program: each one's contract. No condition.
-/
import Derived.Test.YtgahnjhibpcbaaaInI
import Derived.Test.YtgahnjhibpcbaaaIntsEq
namespace Go.Proofs.Ytgahnjhibpcbaaa
open Go.RowKit
set_option maxRecDepth 100000
set_option linter.unusedVariables false

def sameI (x y : Ino) : Bool := decide (x.name = y.name) && (decide (x.size = y.size) && decide (x.at_ = y.at_))
theorem sameI_refl (x : Ino) : sameI x x = true := by unfold sameI; simp

/-- Whether two inodes are the same: hanaper/inode.Same. -/
theorem isame_any (v u : Value) (x y : Ino) (w : World) (h : IV w (fun b => b < w.heap.size) v x) (k : IV w (fun b => b < w.heap.size) u y) :
    Calls Try.prog 18 #[v, u] w fun e w' => e = .returned (.bool (sameI x y)) ∧ Below w.heap.size w w' := by
  obtain ⟨a, rfl, ha, hz, hl⟩ := h
  obtain ⟨A, c, rfl, hc, hcm, _⟩ := ha.form
  obtain ⟨a2, rfl, ha2, hz2, hl2⟩ := k
  obtain ⟨A2, c2, rfl, hc2, hcm2, _⟩ := ha2.form
  have hs := str_eq x.name y.name
  have hsame := fun W h k => equalInts_is (fun b => b < w.heap.size) (fun b => b < w.heap.size) (.slice A x.at_.length c) (.slice A2 y.at_.length c2) x.at_ y.at_ W h k
  obtain ⟨r, hr⟩ : ∃ r, r = sameI x y := ⟨_, rfl⟩
  rw [← hr]
  unfold sameI at hr
  unfold strV at *
  generalize (⟨x.name.toArray⟩ : ByteArray) = sx at *
  generalize (⟨y.name.toArray⟩ : ByteArray) = sy at *
  generalize x.size = z at *
  generalize y.size = z2 at *
  have B1 := (Below.refl w.heap.size w).alloc (Nat.le_refl _) (.cells #[.string sx, .int .i64 z, .slice A x.at_.length c] 24)
  have B2 := B1.alloc B1.size (.cells #[.string sy, .int .i64 z2, .slice A2 y.at_.length c2] 24)
  have i1 := ha.below' B2
  have i2 := ha2.below' B2
  have HI := Lib.hid i1
  have HI2 := Lib.hid i2
  clear ha ha2 i1 i2 B1 hl hl2 hz hz2
  by_cases hn : x.name = y.name
  · rw [decide_eq_true hn] at hs hr
    by_cases hzz : z = z2
    · rw [decide_eq_true hzz] at hr
      subst hzz
      simp only [Bool.true_and] at hr
      have hm : ∀ W h k, Calls Try.prog 43 #[.slice A x.at_.length c, .slice A2 y.at_.length c2] W fun e w' => e = .returned (.bool r) ∧ Below W.heap.size W w' := fun W h k => by rw [hr]; exact hsame W h k
      have hb : (z == z) = true := beq_iff_eq.2 rfl
      clear hsame hr hn
      go_enter Try.func18, Try.ntmps18
      go_wp2_with (go_at_call 43; refine (hm _ HI.out HI2.out).mono ?_; rintro e w2 ⟨rfl, b2⟩)
      go_ret
      exact ⟨rfl, B2.trans (b2.mono B2.size)⟩
    · rw [decide_eq_false hzz] at hr
      simp only [Bool.true_and, Bool.false_and] at hr
      subst hr
      have hb : (z == z2) = false := beq_eq_false_iff_ne.2 hzz
      clear hsame hn
      go_enter Try.func18, Try.ntmps18
      go_wp2_with fail
      go_ret
      exact ⟨rfl, B2⟩
  · rw [decide_eq_false hn] at hs hr
    simp only [Bool.false_and] at hr
    subst hr
    clear hsame hn
    go_enter Try.func18, Try.ntmps18
    go_wp2_with fail
    go_ret
    exact ⟨rfl, B2⟩

/-- Whether two inodes are the same: hanaper/hanaperref12.Same. -/
theorem risame_any (v u : Value) (x y : Ino) (w : World) (h : IV w (fun b => b < w.heap.size) v x) (k : IV w (fun b => b < w.heap.size) u y) :
    Calls Try.prog 17 #[v, u] w fun e w' => e = .returned (.bool (sameI x y)) ∧ Below w.heap.size w w' := by
  obtain ⟨a, rfl, ha, hz, hl⟩ := h
  obtain ⟨A, c, rfl, hc, hcm, _⟩ := ha.form
  obtain ⟨a2, rfl, ha2, hz2, hl2⟩ := k
  obtain ⟨A2, c2, rfl, hc2, hcm2, _⟩ := ha2.form
  have hs := str_eq x.name y.name
  have hsame := fun W h k => sameInts_is (fun b => b < w.heap.size) (fun b => b < w.heap.size) (.slice A x.at_.length c) (.slice A2 y.at_.length c2) x.at_ y.at_ W h k
  obtain ⟨r, hr⟩ : ∃ r, r = sameI x y := ⟨_, rfl⟩
  rw [← hr]
  unfold sameI at hr
  unfold strV at *
  generalize (⟨x.name.toArray⟩ : ByteArray) = sx at *
  generalize (⟨y.name.toArray⟩ : ByteArray) = sy at *
  generalize x.size = z at *
  generalize y.size = z2 at *
  have B1 := (Below.refl w.heap.size w).alloc (Nat.le_refl _) (.cells #[.string sx, .int .i64 z, .slice A x.at_.length c] 24)
  have B2 := B1.alloc B1.size (.cells #[.string sy, .int .i64 z2, .slice A2 y.at_.length c2] 24)
  have i1 := ha.below' B2
  have i2 := ha2.below' B2
  have HI := Lib.hid i1
  have HI2 := Lib.hid i2
  clear ha ha2 i1 i2 B1 hl hl2 hz hz2
  by_cases hn : x.name = y.name
  · rw [decide_eq_true hn] at hs hr
    by_cases hzz : z = z2
    · rw [decide_eq_true hzz] at hr
      subst hzz
      simp only [Bool.true_and] at hr
      have hm : ∀ W h k, Calls Try.prog 42 #[.slice A x.at_.length c, .slice A2 y.at_.length c2] W fun e w' => e = .returned (.bool r) ∧ Below W.heap.size W w' := fun W h k => by rw [hr]; exact hsame W h k
      have hb : (z == z) = true := beq_iff_eq.2 rfl
      clear hsame hr hn
      go_enter Try.func17, Try.ntmps17
      go_wp2_with (go_at_call 42; refine (hm _ HI.out HI2.out).mono ?_; rintro e w2 ⟨rfl, b2⟩)
      go_ret
      exact ⟨rfl, B2.trans (b2.mono B2.size)⟩
    · rw [decide_eq_false hzz] at hr
      simp only [Bool.true_and, Bool.false_and] at hr
      subst hr
      have hb : (z == z2) = false := beq_eq_false_iff_ne.2 hzz
      clear hsame hn
      go_enter Try.func17, Try.ntmps17
      go_wp2_with fail
      go_ret
      exact ⟨rfl, B2⟩
  · rw [decide_eq_false hn] at hs hr
    simp only [Bool.false_and] at hr
    subst hr
    clear hsame hn
    go_enter Try.func17, Try.ntmps17
    go_wp2_with fail
    go_ret
    exact ⟨rfl, B2⟩
end Go.Proofs.Ytgahnjhibpcbaaa
