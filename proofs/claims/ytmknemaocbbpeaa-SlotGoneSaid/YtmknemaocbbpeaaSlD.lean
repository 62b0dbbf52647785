/-
  Clear of slots over the loaded program: its contract. No condition but what each theorem names.
-/
import Derived.Test.YtmknemaocbbpeaaSlC
import Derived.Test.YtmknemaocbbpeaaDkD
namespace Go.Proofs.Ytmknemaocbbpeaa
open Go.RowKit Gau
set_option maxRecDepth 100000
set_option linter.unusedVariables false

theorem nums_none {s : Dk} (h : ∀ i, s.pend i = none) : s.nums = [] := by
  refine List.eq_nil_iff_forall_not_mem.2 fun i hi => ?_
  have := (mem_held.1 hi).2
  rw [h i] at this
  cases this

/-- slices.Index, of none. -/
theorem index_none (A : Option Addr) (c : Nat) (x : Int) (w : World) : Calls Try.prog 43 #[.slice A 0 c, .int .i64 x] w fun e w' => e = .returned (.int .i64 (-1)) ∧ w = w' := by
  go_enter Try.func43, Try.ntmps43
  go_wp2
  go_loopw [8] (fun iv wr => iv = .int .i64 0 ∧ w = wr) (fun _ _ => 0)
  case atStart => exact ⟨rfl, rfl⟩
  case round =>
    obtain ⟨rfl, rfl⟩ := hrel
    go_wp2
    go_ret
    exact ⟨rfl, rfl⟩
theorem contains_none (A : Option Addr) (c : Nat) (x : Int) (w : World) : Calls Try.prog 37 #[.slice A 0 c, .int .i64 x] w fun e w' => e = .returned (.bool false) ∧ w = w' := by
  have hi := index_none A c x w
  go_enter Try.func37, Try.ntmps37
  go_wp2_with fail
  refine hi.mono ?_
  rintro e w' ⟨rfl, rfl⟩
  go_wp2
  go_ret
  exact ⟨rfl, rfl⟩

section
variable {w : World} {q : Nat} {p : DA} {a n : Nat} {s : Dk}
/-- comesBack, where nothing is pending. -/
theorem comes_none (h : DS w p s) (hs : SL w q p a n) (hp : ∀ i, s.pend i = none) (i : Int) :
    Calls Try.prog 26 #[.pointer (some ⟨q, 0, none⟩), .int .i64 i] w fun e w' => e = .returned (.bool false) ∧ Below w.heap.size w w' := by
  have c0 := hs.c0
  have hpd := pending_cells h
  rw [nums_none hp] at hpd
  clear h hs hp
  go_enter Try.func26, Try.ntmps26
  go_wp2_with fail
  refine hpd.mono ?_
  rintro e w1 ⟨A, c, rfl, _, _, _, b1⟩
  go_wp2_with fail
  refine (contains_none A c i w1).mono ?_
  rintro e w' ⟨rfl, rfl⟩
  go_wp2
  go_ret
  exact ⟨rfl, b1⟩

/-- Clear, of a disk of which nothing is pending. -/
theorem lclear_ok (h : DS w p s) (hs : SL w q p a n) (hn : a + n ≤ s.safe.length) (hp : ∀ i, s.pend i = none) (hf : s.fuse ≠ 0) (i : Nat) (hi : i < n) :
    Calls Try.prog 12 #[.pointer (some ⟨q, 0, none⟩), .int .i64 (i : Int)] w (LaidAs w p (clearD s (a + i))) := by
  have hat := at_ok hs i hi
  have hr := read_ok h (a + i) (by omega) hf
  have c0 := hs.c0
  have hL : ∀ w' w'' e r, Below w.heap.size w w' → LaidAs w' p r e w'' → LaidAs w p r e w'' := fun w' w'' e r b hx =>
    ⟨hx.1, hx.2.1, (KeepP.of_below b fun x hx => hx.1).trans (hx.2.2.mono fun x hx => ⟨Nat.lt_of_lt_of_le hx.1 b.size, hx.2⟩)⟩
  have HL := Lib.hid hL
  have hem := fun w1 v1 (hb : BS w1 (fun b => w.heap.size ≤ b ∧ b < w1.heap.size) v1 (s.now (a + i))) => empty_any _ v1 _ w1 hb
  unfold clearD
  by_cases hz : s.now (a + i) = zs 256
  · rw [if_pos hz]
    rw [decide_eq_true hz] at hem
    have hcb := fun w' (b : Below w.heap.size w w') => comes_none (h.below b) (hs.below b) hp ((a + i : Nat) : Int)
    have hD := fun w' (b : Below w.heap.size w w') => h.below b
    have HD := Lib.hid hD
    generalize s.now (a + i) = x at *
    clear hz hf h hs hp hL hD
    go_enter Try.func12, Try.ntmps12
    go_wp2
    refine wp_scope_straight ?_
    go_wp2_with fail
    refine hat.mono ?_
    rintro e w' ⟨rfl, rfl⟩
    go_wp2_with fail
    refine hr.mono ?_
    rintro e w1 ⟨v1, rfl, how1, b1⟩
    go_wp2_with fail
    refine (hem w1 v1 (own_BS how1)).mono ?_
    rintro e w2 ⟨rfl, b2⟩
    have B2 := b1.trans (b2.mono b1.size)
    go_wp2_with fail
    refine (hcb w2 B2).mono ?_
    rintro e w3 ⟨rfl, b3⟩
    have B3 := B2.trans (b3.mono B2.size)
    go_wp2
    rw [Exit.noGoto_ret]
    go_ret
    exact ⟨rfl, HD.out _ B3, KeepP.of_below B3 fun x hx => hx.1⟩
  · rw [if_neg hz]
    rw [decide_eq_false hz] at hem
    have hla := fun w' (b : Below w.heap.size w w') v1 S (hb : BS w' S v1 (zs 256)) => lay_any (h.below b) (hs.below b) (a + i) (by omega) S v1 _ hb (zs_len 256)
    generalize s.now (a + i) = x at *
    obtain ⟨r, hr2⟩ : ∃ r, r = layD s (a + i) (zs 256) := ⟨_, rfl⟩
    rw [← hr2] at hla ⊢
    clear hz hf h hs hp hr2 hL
    go_enter Try.func12, Try.ntmps12
    go_wp2
    refine wp_scope_straight ?_
    go_wp2_with fail
    refine hat.mono ?_
    rintro e w' ⟨rfl, rfl⟩
    go_wp2_with fail
    refine hr.mono ?_
    rintro e w1 ⟨v1, rfl, how1, b1⟩
    go_wp2_with fail
    refine (hem w1 v1 (own_BS how1)).mono ?_
    rintro e w2 ⟨rfl, b2⟩
    have B2 := b1.trans (b2.mono b1.size)
    go_wp2_with fail
    refine (zero_any w2).mono ?_
    rintro e w3 ⟨rfl, k3, b3⟩
    have B3 := B2.trans (b3.mono B2.size)
    go_wp2_with fail
    refine (hla w3 B3 _ _ (kb_256 k3 (zs_len 256))).mono ?_
    rintro e w4 hx
    have hx2 := hx
    obtain ⟨rfl, _⟩ := hx2
    go_wp2
    rw [Exit.noGoto_ret]
    go_ret
    exact HL.out _ _ _ _ B3 hx

end
end Go.Proofs.Ytmknemaocbbpeaa
