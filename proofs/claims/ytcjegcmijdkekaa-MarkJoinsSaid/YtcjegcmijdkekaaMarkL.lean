/-
  The statements' own helper of layer 4 ('live'), over the loaded program: its contract. No condition.
-/
import Derived.Test.YtcjegcmijdkekaaMarkB
import Derived.Test.YtcjegcmijdkekaaGauI
namespace Go.Proofs.Ytcjegcmijdkekaa
open Go.RowKit Gau
set_option linter.unusedVariables false

theorem mk_live1 : mk [0] = ⟨1, 0⟩ := by decide
theorem mk_live2 : mk [0, 0] = ⟨5, 1⟩ := by decide
theorem mk_live3 : ([0, 0, 0, 0] : List UInt8) = mput (mk []) := by decide

theorem BS.row (w : World) (l : List UInt8) (h : l.length ≤ maxLen) : BS (w.alloc (.cells (l.map bv).toArray 5)) (fun b => w.heap.size ≤ b) (.slice (some ⟨w.heap.size, 0, none⟩) l.length l.length) l :=
  BS.of_own (World.ownsRow_lit w (l.map bv).toArray l.length (Nat.le_refl _) h (by simp))

theorem mark_row (l : List UInt8) (h : l.length ≤ maxLen) (w : World) :
    Calls Try.prog 10 #[.slice (some ⟨w.heap.size + 1, 0, none⟩) 1 1] ((w.alloc (.cells (l.map bv).toArray 5)).alloc (.cells #[.slice (some ⟨w.heap.size, 0, none⟩) l.length l.length] 22))
      fun e w' => e = .returned (cz (mk l)) ∧ ((w.alloc (.cells (l.map bv).toArray 5)).alloc (.cells #[.slice (some ⟨w.heap.size, 0, none⟩) l.length l.length] 22)) = w' := by
  have := mark_one _ _ l (w.alloc (.cells (l.map bv).toArray 5)) (BS.row w l h)
  rwa [World.size_alloc] at this

theorem live_any (w : World) :
    Calls Try.prog 7 #[] w fun e w' => e = .returned (.bool true) ∧ Below w.heap.size w w' := by
  have m1 := mark_row [0] (by simp [maxLen])
  rw [mk_live1] at m1
  have m2 := mark_row [0, 0] (by simp [maxLen])
  rw [mk_live2] at m2
  have i1 := is_yes ⟨1, 0⟩
  rw [show rz ⟨1, 0⟩ = .agg #[.int .i64 1, .int .i64 0] from rfl] at i1
  have i2 := is_yes ⟨5, 1⟩
  rw [show rz ⟨5, 1⟩ = .agg #[.int .i64 5, .int .i64 1] from rfl] at i2
  have ck : ∀ w : World, Calls Try.prog 14 #[.slice none 0 0, .slice (some ⟨w.heap.size, 0, none⟩) 4 4] (w.alloc (.cells (([0, 0, 0, 0] : List UInt8).map bv).toArray 5)) fun e w' => e = .returned (.bool true) ∧ Below (w.alloc (.cells (([0, 0, 0, 0] : List UInt8).map bv).toArray 5)).heap.size (w.alloc (.cells (([0, 0, 0, 0] : List UInt8).map bv).toArray 5)) w' := by
    intro w
    have := check_any _ _ _ _ [] [0, 0, 0, 0] (w.alloc (.cells (([0, 0, 0, 0] : List UInt8).map bv).toArray 5)) (BS.nil _ (fun _ => True)) (BS.row w [0, 0, 0, 0] (by simp [maxLen]))
    rwa [decide_eq_true mk_live3] at this
  generalize cz ⟨1, 0⟩ = x1 at *
  generalize cz ⟨5, 1⟩ = x2 at *
  simp only [List.map_cons, List.map_nil, bv] at m1 m2 ck
  go_enter Try.func7, Try.ntmps7
  go_wp2_with fail
  refine (m1 _).mono ?_
  rintro e w' ⟨rfl, rfl⟩
  go_wp2_with fail
  refine (i1 _).mono ?_
  rintro e w1 ⟨rfl, b1⟩
  go_wp2_with fail
  refine (m2 _).mono ?_
  rintro e w' ⟨rfl, rfl⟩
  go_wp2_with fail
  refine (i2 _).mono ?_
  rintro e w2 ⟨rfl, b2⟩
  go_wp2_with fail
  refine (ck _).mono ?_
  rintro e w3 ⟨rfl, b3⟩
  have B1 := (((Below.refl w.heap.size w).alloc (Nat.le_refl _) _).alloc (by simp) _).trans (b1.mono (by simp; omega))
  have B2 := ((B1.alloc B1.size _).alloc (by simp; have := B1.size; omega) _).trans (b2.mono (by simp; have := B1.size; omega))
  have B3 := (B2.alloc B2.size _).trans (b3.mono (by simp; have := B2.size; omega))
  go_wp2
  go_ret
  exact ⟨rfl, B3⟩
end Go.Proofs.Ytcjegcmijdkekaa
