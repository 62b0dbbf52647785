/-
  lay and Put of slots over the loaded program: each one's contract. No condition but what each theorem names.
-/
import Derived.Test.YtmknemaocbbpeaaSlA
import Derived.Test.YtmknemaocbbpeaaSeB
namespace Go.Proofs.Ytmknemaocbbpeaa
open Go.RowKit Gau
set_option maxRecDepth 100000
set_option linter.unusedVariables false

/-- A scope that the run leaves for its one label, in a frame of which but x and y is known. -/
theorem wp_scope_goto_two {P : Program} {a : Act} {w : World} {Q : Exit → Act → World → Prop} {c rest : Code} (l : Nat) {α β : Type} {a1 : α → β → Act} {R : World → Prop} (hf : findLabel c l = some rest)
    (first : c.wp P (Exit.jump l (fun a' w' => R w' ∧ ∃ x y, a' = a1 x y) Q) a w)
    (pass : ∀ x y w1, R w1 → rest.wp P (Exit.jump l (fun a' w' => (R w' ∧ ∃ x y, a' = a1 x y) ∧ 0 < 0) Q) (a1 x y) w1) : (Code.scope c).wp P Q a w := by
  refine wp_scope_jumps l (fun a' w' => R w' ∧ ∃ x y, a' = a1 x y) (fun _ _ => 0) hf first ?_
  rintro a' w' ⟨hr, x, y, rfl⟩
  exact pass x y w' hr

theorem lay_zero {s : Dk} (i : Nat) (l : List UInt8) (h : s.fuse = 0) : layD s i l = (s, 8) := if_pos h
theorem lay_one {s : Dk} (i : Nat) (l : List UInt8) (h : s.fuse ≠ 0) (h2 : (s.wrote i l).acted.fuse = 0) : layD s i l = ((s.wrote i l).acted, 8) := by unfold layD; rw [if_neg h, if_pos h2]
theorem lay_two {s : Dk} (i : Nat) (l : List UInt8) (h : s.fuse ≠ 0) (h2 : (s.wrote i l).acted.fuse ≠ 0) : layD s i l = ((s.wrote i l).acted.flushed, 0) := by unfold layD; rw [if_neg h, if_neg h2]

section
variable {w : World} {q : Nat} {p : DA} {a n : Nat} {s : Dk}
/-- What may become of a disk. -/
def LaidAs (w : World) (p : DA) (r : Dk × Int) (e : Ending) (w' : World) : Prop := e = .returned (.int .i64 r.2) ∧ DS w' p r.1 ∧ KeepP (Off p w) w w'

/-- lay. -/
theorem lay_any (h : DS w p s) (hs : SL w q p a n) (i : Nat) (hi : i < s.safe.length) (S : Nat → Prop) (v : Value) (l : List UInt8) (hv : BS w S v l) (hl : l.length = 256) :
    Calls Try.prog 22 #[.pointer (some ⟨q, 0, none⟩), .int .i64 (i : Int), v] w (LaidAs w p (layD s i l)) := by
  have c0 := hs.c0
  by_cases hf : s.fuse = 0
  · have hw := write_chk h (i : Int) (by unfold chk; rw [if_pos hf]; decide) v
    rw [show chk s (i : Int) = 8 by unfold chk; rw [if_pos hf]] at hw
    have hL : LaidAs w p (layD s i l) (.returned (.int .i64 8)) w := by rw [lay_zero i l hf]; exact ⟨rfl, h, KeepP.refl _ _⟩
    clear hv hl hf h hs
    go_enter Try.func22, Try.ntmps22
    go_wp2_with fail
    refine hw.mono ?_
    rintro e w' ⟨rfl, rfl⟩
    go_wp2
    go_ret
    exact hL
  · have hw := write_ok h i hi hf S v l hv hl
    by_cases hf2 : (s.wrote i l).acted.fuse = 0
    · have hL : ∀ w', DS w' p (s.wrote i l).acted → KeepP (Off p w) w w' → LaidAs w p (layD s i l) (.returned (.int .i64 8)) w' := fun w' hd hk => by rw [lay_one i l hf hf2]; exact ⟨rfl, hd, hk⟩
      have hfl := fun w' hd => flush_dead (w := w') (p := p) hd hf2
      have HL := Lib.hid hL
      clear hv hl hf hf2 h hL hi
      generalize (s.wrote i l).acted = s1 at *
      go_enter Try.func22, Try.ntmps22
      go_wp2_with fail
      refine hw.mono ?_
      rintro e w1 ⟨rfl, d1, k1⟩
      replace c0 := (hs.keep k1).c0
      go_wp2_with fail
      refine (hfl w1 d1).mono ?_
      rintro e w' ⟨rfl, rfl⟩
      go_wp2
      go_ret
      exact HL.out _ d1 k1
    · have hL : ∀ w', DS w' p (s.wrote i l).acted.flushed → KeepP (Off p w) w w' → LaidAs w p (layD s i l) (.returned (.int .i64 0)) w' := fun w' hd hk => by rw [lay_two i l hf hf2]; exact ⟨rfl, hd, hk⟩
      have hfl := fun w' hd => flush_ok (w := w') (p := p) hd hf2
      have HL := Lib.hid hL
      have hx : ∀ x, Off p w x → x < w.heap.size := fun x hx => hx.1
      clear hv hl hf hf2 h hL hi
      generalize (s.wrote i l).acted = s1 at *
      go_enter Try.func22, Try.ntmps22
      go_wp2_with fail
      refine hw.mono ?_
      rintro e w1 ⟨rfl, d1, k1⟩
      replace c0 := (hs.keep k1).c0
      go_wp2_with fail
      refine (hfl w1 d1).mono ?_
      rintro e w2 ⟨rfl, d2, k2⟩
      go_wp2
      go_ret
      exact HL.out _ d2 (k1.trans (k2.mono fun x hx => ⟨Nat.lt_of_lt_of_le hx.1 k1.size, hx.2⟩))

/-- Put, where there is no such slot. -/
theorem lput_bad (sv : Value) (i er : Int) (v : Value) (w : World) (hne : er ≠ 0)
    (hat : Calls Try.prog 20 #[sv, .int .i64 i] w fun e w' => e = .returned (.tuple #[.int .i64 0, .int .i64 er]) ∧ w = w') :
    Calls Try.prog 10 #[sv, .int .i64 i, v] w fun e w' => e = .returned (.int .i64 er) ∧ w = w' := by
  have hne2 : (er == 0) = false := by simpa using hne
  have hne3 : (er != 0) = true := by simpa using hne
  go_enter Try.func10, Try.ntmps10
  go_wp2
  apply wp_scope_goto (w1 := w) 0 rfl
  case first =>
    go_wp2_with (go_at_call 20; refine hat.mono ?_; rintro e w' ⟨rfl, rfl⟩)
    go_step3
    exact ⟨rfl, rfl, rfl⟩
  case pass =>
    go_wp2
    rw [Exit.jump_ret]
    go_ret
    exact ⟨rfl, rfl⟩

/-- Put, of what is too long. -/
theorem lput_long (hs : SL w q p a n) (i : Nat) (hi : i < n) (S : Nat → Prop) (v : Value) (l : List UInt8) (hl : 249 < l.length) (hv : BS w S v l) :
    Calls Try.prog 10 #[.pointer (some ⟨q, 0, none⟩), .int .i64 (i : Int), v] w fun e w' => e = .returned (.int .i64 3) ∧ Below w.heap.size w w' := by
  have hat := at_ok hs i hi
  have hp := put_sect 4 S v l w hv
  rw [putS_long (by decide) hl] at hp
  clear hs hv hl
  go_enter Try.func10, Try.ntmps10
  go_wp2
  apply wp_scope_goto_any (α := Value) (R := fun w' => Below w.heap.size w w') 0 rfl
  case first =>
    go_wp2_with fail
    refine hat.mono ?_
    rintro e w' ⟨rfl, rfl⟩
    go_wp2_with fail
    refine hp.mono ?_
    rintro e w1 ⟨v1, rfl, _, b1⟩
    go_wp2
    go_step3
    exact ⟨rfl, b1, v1, rfl⟩
  case pass =>
    intro x w1 hr
    go_wp2
    rw [Exit.jump_ret]
    go_ret
    exact ⟨rfl, hr⟩

/-- Put. -/
theorem lput_ok (h : DS w p s) (hs : SL w q p a n) (hn : a + n ≤ s.safe.length) (i : Nat) (hi : i < n) (S : Nat → Prop) (v : Value) (l : List UInt8) (hl : ¬ 249 < l.length) (hv : BS w S v l) :
    Calls Try.prog 10 #[.pointer (some ⟨q, 0, none⟩), .int .i64 (i : Int), v] w (LaidAs w p (layD s (a + i) (fullS 4 l))) := by
  have hat := at_ok hs i hi
  have hp := put_sect 4 S v l w hv
  rw [putS_ok (by decide) hl, show UInt8.ofNat (4 : Int).toNat = 4 from rfl] at hp
  have h256 : (fullS 4 l).length = 256 := fullS_len (by omega)
  generalize fullS 4 l = m at *
  have hla := fun w' (b : Below w.heap.size w w') v1 (hb : BS w' (fun b => w.heap.size ≤ b ∧ b < w'.heap.size) v1 m) => lay_any (h.below b) (hs.below b) (a + i) (by omega) _ v1 m hb h256
  have hL : ∀ w' w'' e, Below w.heap.size w w' → LaidAs w' p (layD s (a + i) m) e w'' → LaidAs w p (layD s (a + i) m) e w'' := fun w' w'' e b hx =>
    ⟨hx.1, hx.2.1, (KeepP.of_below b fun x hx => hx.1).trans (hx.2.2.mono fun x hx => ⟨Nat.lt_of_lt_of_le hx.1 b.size, hx.2⟩)⟩
  have HL := Lib.hid hL
  obtain ⟨r, hr⟩ : ∃ r, r = layD s (a + i) m := ⟨_, rfl⟩
  rw [← hr] at hla HL ⊢
  clear hr hs hv hl h256 h hL
  go_enter Try.func10, Try.ntmps10
  go_wp2
  refine wp_scope_straight ?_
  go_wp2_with fail
  refine hat.mono ?_
  rintro e w' ⟨rfl, rfl⟩
  go_wp2_with fail
  refine hp.mono ?_
  rintro e w1 ⟨v1, rfl, how1, b1⟩
  go_wp2_with fail
  refine (hla w1 b1 v1 (own_BS how1)).mono ?_
  rintro e w2 hx
  have hx2 := hx
  obtain ⟨rfl, _⟩ := hx2
  go_wp2
  rw [Exit.noGoto_ret]
  go_ret
  exact HL.out _ _ _ b1 hx
end
end Go.Proofs.Ytmknemaocbbpeaa
