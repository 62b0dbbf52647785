/-
  Slots in memory: what their block holds; New, made, at, over the loaded program: each one's contract. No condition but what each theorem names.
-/
import Derived.Test.YtmknemaocbbpeaaSlM
import Derived.Test.YtmknemaocbbpeaaGoto
import Derived.Test.YtmknemaocbbpeaaHeld
namespace Go.Proofs.Ytmknemaocbbpeaa
open Go.RowKit
set_option maxRecDepth 100000
set_option linter.unusedVariables false

/-- Slots at q: n sectors from a on, of the disk at p. -/
structure SL (w : World) (q : Nat) (p : DA) (a n : Nat) : Prop where
  kb : KB w q 58 #[.pointer (some ⟨p.d, 0, none⟩), .int .i64 (a : Int), .int .i64 (n : Int)]
  off : ¬ p.has q
  few : a + n ≤ 1024

section
variable {w w' : World} {q : Nat} {p : DA} {a n : Nat}
theorem SL.below (h : SL w q p a n) (hb : Below w.heap.size w w') : SL w' q p a n := ⟨h.kb.below hb h.kb.lt, h.off, h.few⟩
theorem SL.keep (h : SL w q p a n) (k : KeepP (Off p w) w w') : SL w' q p a n := ⟨h.kb.keepP k ⟨h.kb.lt, h.off⟩, h.off, h.few⟩
theorem SL.c0 (h : SL w q p a n) : w.cell? ⟨q, 0, none⟩ = some (.pointer (some ⟨p.d, 0, none⟩)) := h.kb.cell 0
theorem SL.c1 (h : SL w q p a n) : w.cell? ⟨q, 1, none⟩ = some (.int .i64 (a : Int)) := h.kb.cell 1
theorem SL.c2 (h : SL w q p a n) : w.cell? ⟨q, 2, none⟩ = some (.int .i64 (n : Int)) := h.kb.cell 2

theorem lmade_any (h : SL w q p a n) : Calls Try.prog 31 #[.pointer (some ⟨q, 0, none⟩)] w fun e w' => e = .returned (.bool true) ∧ w = w' := by
  have c0 := h.c0
  clear h
  go_enter Try.func31, Try.ntmps31
  go_wp2
  go_ret
  exact ⟨rfl, rfl⟩
theorem lmade_nil (w : World) : Calls Try.prog 31 #[.pointer none] w fun e w' => e = .returned (.bool false) ∧ w = w' := by
  go_enter Try.func31, Try.ntmps31
  go_wp2
  go_ret
  exact ⟨rfl, rfl⟩

theorem at_nil (i : Int) (w : World) : Calls Try.prog 20 #[.pointer none, .int .i64 i] w fun e w' => e = .returned (.tuple #[.int .i64 0, .int .i64 9]) ∧ w = w' := by
  have hm := lmade_nil w
  go_enter Try.func20, Try.ntmps20
  go_wp2
  apply wp_scope_goto (w1 := w) 0 rfl
  case first =>
    go_wp2_with (go_at_call 31; refine hm.mono ?_; rintro e w' ⟨rfl, rfl⟩)
    go_step3
    exact ⟨rfl, rfl, rfl⟩
  case pass =>
    go_wp2
    rw [Exit.jump_ret]
    go_ret2
    exact ⟨rfl, rfl⟩
theorem at_low (h : SL w q p a n) (i : Int) (hi : i < 0) : Calls Try.prog 20 #[.pointer (some ⟨q, 0, none⟩), .int .i64 i] w fun e w' => e = .returned (.tuple #[.int .i64 0, .int .i64 1]) ∧ w = w' := by
  have hm := lmade_any h
  clear h
  go_enter Try.func20, Try.ntmps20
  go_wp2
  apply wp_scope_goto (w1 := w) 0 rfl
  case first =>
    go_wp2_with (go_at_call 31; refine hm.mono ?_; rintro e w' ⟨rfl, rfl⟩)
    go_step3
    exact ⟨rfl, rfl, rfl⟩
  case pass =>
    go_wp2
    rw [Exit.jump_ret]
    go_ret2
    exact ⟨rfl, rfl⟩
theorem at_high (h : SL w q p a n) (i : Int) (h0 : ¬ i < 0) (hi : (n : Int) ≤ i) : Calls Try.prog 20 #[.pointer (some ⟨q, 0, none⟩), .int .i64 i] w fun e w' => e = .returned (.tuple #[.int .i64 0, .int .i64 1]) ∧ w = w' := by
  have hm := lmade_any h
  have c2 := h.c2
  clear h
  go_enter Try.func20, Try.ntmps20
  go_wp2
  apply wp_scope_goto (w1 := w) 0 rfl
  case first =>
    go_wp2_with (go_at_call 31; refine hm.mono ?_; rintro e w' ⟨rfl, rfl⟩)
    go_step3
    exact ⟨rfl, rfl, rfl⟩
  case pass =>
    go_wp2
    rw [Exit.jump_ret]
    go_ret2
    exact ⟨rfl, rfl⟩
theorem at_ok (h : SL w q p a n) (i : Nat) (hi : i < n) : Calls Try.prog 20 #[.pointer (some ⟨q, 0, none⟩), .int .i64 (i : Int)] w fun e w' => e = .returned (.tuple #[.int .i64 ((a + i : Nat) : Int), .int .i64 0]) ∧ w = w' := by
  have hm := lmade_any h
  have c1 := h.c1
  have c2 := h.c2
  have few := h.few
  have D : ¬ (n : Int) ≤ (i : Int) := by omega
  have D0 : ¬ (i : Int) < 0 := by omega
  have e1 : IntKind.i64.wrap ((a : Int) + (i : Int)) = ((a + i : Nat) : Int) := by rw [IntKind.wrap_i64]; omega
  clear h
  go_enter Try.func20, Try.ntmps20
  go_wp2
  refine wp_scope_straight ?_
  go_wp2_with (go_at_call 31; refine hm.mono ?_; rintro e w' ⟨rfl, rfl⟩)
  rw [Exit.noGoto_ret]
  go_ret2
  exact ⟨rfl, rfl⟩
end

/-- New, of no disk. -/
theorem lnew_nil (a n : Int) (w : World) : Calls Try.prog 8 #[.pointer none, .int .i64 a, .int .i64 n] w fun e w' => e = .returned (.tuple #[.pointer none, .int .i64 9]) ∧ w = w' := by
  have hm := size_nil w
  go_enter Try.func8, Try.ntmps8
  go_wp2
  apply wp_scope_goto (w1 := w) 0 rfl
  case first =>
    go_wp2_with (go_at_call 19; refine hm.mono ?_; rintro e w' ⟨rfl, rfl⟩)
    go_step3
    exact ⟨rfl, rfl, rfl⟩
  case pass =>
    go_wp2
    rw [Exit.jump_ret]
    go_ret2
    exact ⟨rfl, rfl⟩

/-- New, of a disk that has the sectors. -/
theorem lnew_ok {w : World} {p : DA} {s : Dk} (h : DS w p s) (a n : Nat) (hn : n ≤ 16) (ha : a + n ≤ s.safe.length) : Calls Try.prog 8 #[.pointer (some ⟨p.d, 0, none⟩), .int .i64 (a : Int), .int .i64 (n : Int)] w fun e w' =>
    e = .returned (.tuple #[.pointer (some ⟨w.heap.size, 0, none⟩), .int .i64 0]) ∧ SL w' w.heap.size p a n ∧ Below w.heap.size w w' := by
  have hm := size_any h
  have few := h.ok.few
  have some_ := h.ok.some_
  have hoff : ¬ p.has w.heap.size := fun hx => by have := h.lt _ hx; omega
  generalize s.safe.length = k at *
  have K := KB.new w 58 #[.pointer (some ⟨p.d, 0, none⟩), .int .i64 (a : Int), .int .i64 (n : Int)]
  have B := (Below.refl w.heap.size w).alloc (Nat.le_refl _) (.cells #[.pointer (some ⟨p.d, 0, none⟩), .int .i64 (a : Int), .int .i64 (n : Int)] 58)
  have D0 : ¬ (k : Int) = 0 := by omega
  have D1 : ¬ (a : Int) < 0 := by omega
  have D2 : ¬ (n : Int) < 0 := by omega
  have D3 : ¬ (16 : Int) < (n : Int) := by omega
  have e1 : IntKind.i64.wrap ((k : Int) - (n : Int)) = (k : Int) - (n : Int) := by rw [IntKind.wrap_i64]; omega
  have D4 : ¬ (k : Int) - (n : Int) < (a : Int) := by omega
  have fw : a + n ≤ 1024 := by omega
  clear h
  go_enter Try.func8, Try.ntmps8
  go_wp2
  refine wp_scope_straight ?_
  go_wp2_with (go_at_call 19; refine hm.mono ?_; rintro e w' ⟨rfl, rfl⟩)
  rw [Exit.noGoto_ret]
  go_ret2
  exact ⟨rfl, ⟨K, hoff, fw⟩, B⟩
end Go.Proofs.Ytmknemaocbbpeaa
