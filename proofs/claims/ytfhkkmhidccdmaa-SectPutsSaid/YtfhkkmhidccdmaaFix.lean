/-
  The document's Fixed (layer 1), over the loaded program: its contract. No condition but the sizes that it names.
-/
import Derived.Test.YtfhkkmhidccdmaaBase
import Derived.WalkSpells
import Derived.BigQuiet
import Derived.Deep.QuietTactic
namespace Go.Proofs.Ytfhkkmhidccdmaa
open Go.RowKit
set_option linter.unusedVariables false

/-- The last n bytes of a number, the highest first. -/
def fixB : Nat → Nat → List UInt8
  | 0, _ => []
  | n + 1, x => fixB n (x / 256) ++ [UInt8.ofNat (x % 256)]
theorem fixB_length : ∀ n x, (fixB n x).length = n
  | 0, _ => rfl
  | n + 1, x => by rw [fixB, List.length_append, fixB_length]; rfl

theorem fixed_any (x n : Nat) (w : World) (h : x < 18446744073709551616) (hn : n ≤ 1000000) :
    Calls Try.prog 19 #[.int .u64 x, .int .i64 n] w fun e w' => Fresh w e w' (fixB n x) := by
  obtain ⟨i0, hi, hz0, hz1, hz2⟩ := info_parts info_byte
  obtain ⟨R, hR⟩ : ∃ R, R = fixB n x := ⟨_, rfl⟩
  have H0 : Hid (R = fixB (n - 0) x ++ []) := by show _ = _; rw [hR]; simp
  rw [← hR]
  have HX := Lib.hid h
  have HN := Lib.hid hn
  clear hR h hn
  go_enter Try.func19, Try.ntmps19
  go_wp2
  go_loopw [0, 5, 6] (fun xv v iv wr => ∃ (k m : Nat) (tl : List UInt8), k ≤ n ∧ tl.length = k ∧ Hid (R = fixB (n - k) m ++ tl) ∧ Hid (m < 18446744073709551616) ∧ xv = .int .u64 m ∧ iv = .int .i64 k ∧ wr.ownsRow w.heap.size 5 1 v tl.length (tl.map bv) ∧ Below w.heap.size w wr)
    (fun _ _ iv _ => n - (intOf iv).toNat)
  case atStart => exact ⟨0, x, [], by omega, rfl, H0, HX, rfl, rfl, World.ownsRow_nil _ _ _ _, Below.refl _ _⟩
  case round =>
    obtain ⟨k, m, tl, hk, htl, hR, hm, rfl, rfl, how, hbl⟩ := hrel
    by_cases hlt : k < n
    · have EW : Hid (IntKind.u64.wrap ((m : Int) / 256) = ((m / 256 : Nat) : Int)) := by
        have := hm.out
        show _ = _
        rw [IntWalk.u64_in _ (by omega)]; omega
      have EM : Hid (m / 256 < 18446744073709551616) := by
        have := hm.out
        show _ < _
        omega
      have HR : Hid (R = fixB (n - (k + 1)) (m / 256) ++ (UInt8.ofNat (m % 256) :: tl)) := by
        have e := hR.out
        rw [show n - k = (n - (k + 1)) + 1 by omega, fixB, List.append_assoc] at e
        exact e
      have hle : tl.length + 1 ≤ 140737488355328 := by have := HN.out; omega
      have hb := hbl.size
      have hbs := own_BS how
      obtain ⟨A1, c1, rfl, _⟩ := hbs.form
      clear hR
      go_wp2_with (at_builtin; simp only [byte_mod]; refine wpList_grow _ rfl _ _ _ rfl w.heap.size 5 i0 Try.underlying22 hi hz0 hz1 hz2 (.slice (some ⟨wr.heap.size, 0, none⟩) 1 1) [UInt8.ofNat (m % 256)] rfl (lit_one wr m _ hb) _ _ tl rfl (hbs.alloc _) (by simp; omega) (by simp; omega) ?_; intro v2 w2 how2 hg2 _)
      go_roundw
      case rel =>
        refine ⟨k + 1, m / 256, UInt8.ofNat (m % 256) :: tl, by omega, by simp [htl], HR, EM, by rw [EW.out], by go_num, ?_, (hbl.alloc hb _).grown hg2 (by simp; omega) (by simp [Value.ownBlock]; omega)⟩
        exact how2
      case measure => simp [intOf]; omega
    · have e := hR.out
      rw [show n - k = 0 by omega] at e
      have e2 : R = tl := e
      subst e2
      go_wp2
      go_ret
      exact ⟨_, rfl, how, hbl⟩
end Go.Proofs.Ytfhkkmhidccdmaa
