/-
  Slots as the law SlotGone meets them: a Put of anything, while the power does not go. No condition but what each theorem names.
-/
import Derived.Test.YtmknemaocbbpeaaSlF
namespace Go.Proofs.Ytmknemaocbbpeaa
open Go.RowKit Gau
set_option maxRecDepth 100000
set_option linter.unusedVariables false

section
variable {w w' w0 : World} {q : Nat} {p : DA} {s : Dk}
/-- Four slots of a disk of eight sectors, at rest. -/
structure G14 (w0 w : World) (p : DA) (q : Nat) (s : Dk) : Prop where
  ds : DS w p s
  rs : Rests s 8
  live : s.fuse ≠ 0
  sl : SL w q p 2 4
  bl : Below w0.heap.size w0 w
theorem G14.below (h : G14 w0 w p q s) (b : Below w.heap.size w w') : G14 w0 w' p q s := ⟨h.ds.below b, h.rs, h.live, h.sl.below b, h.bl.trans (b.mono h.bl.size)⟩
theorem G14.drew (h : G14 w0 w p q s) (n : Nat) : G14 w0 (w.drewN n) p q s := ⟨h.ds.drewN n, h.rs, h.live, ⟨h.sl.kb.drewN n, h.sl.off, h.sl.few⟩, Below_drawn h.bl n⟩

/-- Put, of any bytes at any number, while the power does not go. -/
theorem lput_rest (h : G14 w0 w p q s) (hf : s.fuse = -1) (fp : From p w0.heap.size) (i : Int) (S : Nat → Prop) (v : Value) (l : List UInt8) (hv : BS w S v l) :
    Calls Try.prog 10 #[.pointer (some ⟨q, 0, none⟩), .int .i64 i, v] w fun e w' => ∃ er s', e = .returned (.int .i64 er) ∧ G14 w0 w' p q s' ∧ s'.fuse = -1 := by
  by_cases h0 : i < 0
  · refine (lput_bad _ i 1 v w (by decide) (at_low h.sl i h0)).mono ?_
    rintro e w' ⟨rfl, rfl⟩
    exact ⟨_, s, rfl, h, hf⟩
  · by_cases h1 : (4 : Int) ≤ i
    · refine (lput_bad _ i 1 v w (by decide) (at_high h.sl i h0 h1)).mono ?_
      rintro e w' ⟨rfl, rfl⟩
      exact ⟨_, s, rfl, h, hf⟩
    · obtain ⟨k, rfl⟩ : ∃ k : Nat, i = (k : Int) := ⟨i.toNat, by omega⟩
      by_cases h2 : 249 < l.length
      · refine (lput_long h.sl k (by omega) S v l h2 hv).mono ?_
        rintro e w' ⟨rfl, b⟩
        exact ⟨_, s, rfl, h.below b, hf⟩
      · refine (lput_ok h.ds h.sl (by rw [h.rs.len]; decide) k (by omega) S v l h2 hv).mono ?_
        rintro e w' ⟨rfl, d, k'⟩
        obtain ⟨_, _, r3, r4⟩ := lay_live (i := 2 + k) (l := fullS 4 l) h.rs hf
        exact ⟨_, _, rfl, ⟨d, r3, by rw [r4]; decide, h.sl.keep k', h.bl.trans (k'.off h.bl.size fp)⟩, r4⟩

theorem clear_len {n i : Nat} (h : Rests s n) (hi : i < n) : (clearD s i).1.safe.length = n := by
  unfold clearD
  split
  · exact h.len
  · rcases lay_rests (i := i) (l := zs 256) h with ⟨_, b, _⟩ | ⟨_, b, _⟩
    · rw [b, List.length_set, h.len]
    · rw [b, h.len]
theorem lay_len {n i : Nat} (h : s.safe.length = n) (m : List UInt8) : (layD s i m).1.safe.length = n := by
  unfold layD
  split
  · exact h
  · split
    · exact h
    · exact (over_len _ _).trans h
end
end Go.Proofs.Ytmknemaocbbpeaa
