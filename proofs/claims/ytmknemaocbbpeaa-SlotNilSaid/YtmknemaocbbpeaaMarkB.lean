/-
  Join, Put and Check of mark, over the loaded program: each one's contract. No condition but the sizes that each contract names.
-/
import Derived.Test.YtmknemaocbbpeaaMarkA
namespace Go.Proofs.Ytmknemaocbbpeaa
open Go.RowKit Gau
set_option maxRecDepth 100000
set_option linter.unusedVariables false

/-- The mark of two texts, one behind the other; 0, if n is below 0. -/
def joined (a b : G) (n : Int) : G := if n < 0 then zero else gadd (gmul a (gpow base n.natAbs)) b

theorem mark_one (S : Nat → Prop) (v : Value) (l : List UInt8) (w : World) (h : BS w S v l) :
    Calls Try.prog 42 #[.slice (some ⟨w.heap.size, 0, none⟩) 1 1] (w.alloc (.cells #[v] 36)) fun e w' => e = .returned (cz (mk l)) ∧ (w.alloc (.cells #[v] 36)) = w' := by
  have := mark_any _ _ [l] _ (LS.one (t := 36) h)
  simpa using this

theorem byte_of (m : Nat) (h : m < 256) (i : Int) (e : i = m) : Value.int .u8 i = bv (UInt8.ofNat m) := by
  subst e
  unfold bv
  have : (UInt8.ofNat m).toNat = m := by simp [Nat.mod_eq_of_lt h]
  rw [this]

theorem mput_vals (z : G) : (#[Value.int .u8 ((z.re.val : Int) / 256), .int .u8 ((z.re.val : Int) % 256), .int .u8 ((z.im.val : Int) / 256), .int .u8 ((z.im.val : Int) % 256)] : Array Value) = ((mput z).map bv).toArray := by
  have h1 := z.re.isLt
  have h2 := z.im.isLt
  rw [byte_of (z.re.val / 256) (by omega) _ (by omega), byte_of (z.re.val % 256) (by omega) _ (by omega), byte_of (z.im.val / 256) (by omega) _ (by omega), byte_of (z.im.val % 256) (by omega) _ (by omega)]
  rfl

/-- A row of four. -/
theorem lit_four (w : World) (z : G) (B : Nat) (hb : B ≤ w.heap.size) : (w.alloc (.cells ((mput z).map bv).toArray 5)).ownsRow B 5 1 (.slice (some ⟨w.heap.size, 0, none⟩) 4 4) (mput z).length ((mput z).map bv) :=
  World.ownsRow_lit w ((mput z).map bv).toArray 4 hb (by simp [maxLen]) rfl

theorem put_any (S : Nat → Prop) (v : Value) (l : List UInt8) (w : World) (h : BS w S v l) :
    Calls Try.prog 34 #[v] w fun e w' => Fresh w e w' (mput (mk l)) := by
  have hm := mark_one S v l w h
  obtain ⟨A, c, rfl, _⟩ := h.form
  have hp := parts_cz (mk l)
  generalize mk l = z at *
  generalize cz z = x at *
  go_enter Try.func34, Try.ntmps34
  go_wp2_with fail
  refine hm.mono ?_
  rintro e w' ⟨rfl, rfl⟩
  go_wp2_with fail
  refine (hp _).mono ?_
  rintro e w' ⟨rfl, rfl⟩
  go_wp2
  go_ret
  rw [mput_vals]
  have hl := lit_four (w.alloc (.cells #[.slice A l.length c] 36)) z w.heap.size (by simp)
  simp only [World.size_alloc] at hl
  exact ⟨_, rfl, hl, ((Below.refl _ _).alloc (Nat.le_refl _) _).alloc (by simp) _⟩

theorem equal_any (S S' : Nat → Prop) (x y : Value) (l m : List UInt8) (w : World) (hx : BS w S x l) (hy : BS w S' y m) :
    Calls Try.prog 36 #[x, y] w fun e w' => e = .returned (.bool (decide (l = m))) ∧ w = w' := by
  have h1 := hx.str (P := Try.prog) (src := 36) (e := 5) (dst := 9) Try.underlying36 Try.underlying5 Try.underlying9
  have h2 := hy.str (P := Try.prog) (src := 36) (e := 5) (dst := 9) Try.underlying36 Try.underlying5 Try.underlying9
  have he : (l == m) = decide (l = m) := by
    by_cases h : l = m
    · rw [decide_eq_true h]; exact beq_iff_eq.2 h
    · rw [decide_eq_false h]; exact beq_eq_false_iff_ne.2 h
  obtain ⟨A, c, rfl, _⟩ := hx.form
  obtain ⟨A', c', rfl, _⟩ := hy.form
  go_enter Try.func36, Try.ntmps36
  go_wp2
  go_ret
  exact ⟨rfl, rfl⟩

end Go.Proofs.Ytmknemaocbbpeaa
