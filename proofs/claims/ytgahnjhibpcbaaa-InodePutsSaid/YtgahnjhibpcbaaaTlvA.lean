/-
  The reader of tlv, its small methods: each one's contract over the loaded program (Ok, Left, fail, pass, clone, Take, New).
  No condition but the worlds' shapes that each contract names.
-/
import Derived.Test.YtgahnjhibpcbaaaProg
import Derived.Test.YtgahnjhibpcbaaaMem
import Derived.Test.YtgahnjhibpcbaaaBase
import Derived.Test.YtgahnjhibpcbaaaTlvM
import Derived.WalkKit
import Derived.WalkSpells
import Derived.BigQuiet
import Derived.Deep.QuietTactic
namespace Go.Proofs.Ytgahnjhibpcbaaa
open Go.RowKit

/-- A reader's block: what is left (none: it failed), in blocks of which S holds. -/
def RD (w : World) (g : Nat) (S : Nat → Prop) (st : Option (List UInt8)) : Prop :=
  ∃ v, KB w g 73 #[v, .bool st.isSome] ∧ BS w S v (st.getD []) ∧ ¬ S g

theorem RD.keep {w w' : World} {g : Nat} {S : Nat → Prop} {st : Option (List UInt8)} (h : RD w g S st) (hs : w.heap.size ≤ w'.heap.size) (hg : w'.heap[g]? = w.heap[g]?) (hk : ∀ b, S b → b < w.heap.size → w'.heap[b]? = w.heap[b]?) : RD w' g S st := by
  obtain ⟨v, h1, h2, h3⟩ := h
  exact ⟨v, h1.keep hg, h2.keep hs hk, h3⟩

theorem RD.below {w w' : World} {g : Nat} {S : Nat → Prop} {st : Option (List UInt8)} (h : RD w g S st) (hb : Below w.heap.size w w') : RD w' g S st := by
  obtain ⟨v, h1, h2, h3⟩ := h
  exact ⟨v, h1.below hb h1.lt, h2.below' hb, h3⟩

theorem RD.lt {w : World} {g : Nat} {S : Nat → Prop} {st : Option (List UInt8)} (h : RD w g S st) : g < w.heap.size := by
  obtain ⟨v, h1, h2, h3⟩ := h
  exact h1.lt

theorem ok_any (g : Nat) (v : Value) (b : Bool) (w : World) (h : KB w g 73 #[v, .bool b]) :
    Calls Try.prog 37 #[.pointer (some ⟨g, 0, none⟩)] w fun e w' => e = .returned (.bool b) ∧ w = w' := by
  have c1 : w.cell? ⟨g, 1, none⟩ = some (.bool b) := h.cell 1
  go_enter Try.func37, Try.ntmps37
  go_wp2
  go_ret
  exact ⟨rfl, rfl⟩

theorem ok_nil (w : World) :
    Calls Try.prog 37 #[.pointer none] w fun e w' => e = .returned (.bool false) ∧ w = w' := by
  go_enter Try.func37, Try.ntmps37
  go_wp2
  go_ret
  exact ⟨rfl, rfl⟩

theorem left_yes (g : Nat) (A : Option Addr) (n c : Nat) (w : World) (h : KB w g 73 #[.slice A n c, .bool true]) :
    Calls Try.prog 36 #[.pointer (some ⟨g, 0, none⟩)] w fun e w' => e = .returned (.int .i64 n) ∧ w = w' := by
  have c0 : w.cell? ⟨g, 0, none⟩ = some (.slice A n c) := h.cell 0
  go_enter Try.func36, Try.ntmps36
  go_wp2_with (go_at_call 37; refine (ok_any _ _ _ _ h).mono ?_; rintro e w' ⟨rfl, rfl⟩)
  go_ret
  exact ⟨rfl, rfl⟩

theorem left_no (g : Nat) (v : Value) (w : World) (h : KB w g 73 #[v, .bool false]) :
    Calls Try.prog 36 #[.pointer (some ⟨g, 0, none⟩)] w fun e w' => e = .returned (.int .i64 0) ∧ w = w' := by
  go_enter Try.func36, Try.ntmps36
  go_wp2_with (go_at_call 37; refine (ok_any _ _ _ _ h).mono ?_; rintro e w' ⟨rfl, rfl⟩)
  go_ret
  exact ⟨rfl, rfl⟩

theorem left_nil (w : World) :
    Calls Try.prog 36 #[.pointer none] w fun e w' => e = .returned (.int .i64 0) ∧ w = w' := by
  go_enter Try.func36, Try.ntmps36
  go_wp2_with (go_at_call 37; refine (ok_nil _).mono ?_; rintro e w' ⟨rfl, rfl⟩)
  go_ret
  exact ⟨rfl, rfl⟩

theorem fail_nil (w : World) :
    Calls Try.prog 55 #[.pointer none] w fun e w' => e = .returned (.tuple #[]) ∧ w = w' := by
  go_enter Try.func55, Try.ntmps55
  go_wp2
  go_end0
  exact ⟨rfl, rfl⟩

theorem fail_some (g : Nat) (v : Value) (b : Bool) (w : World) (h : KB w g 73 #[v, .bool b]) :
    Calls Try.prog 55 #[.pointer (some ⟨g, 0, none⟩)] w fun e w' => e = .returned (.tuple #[]) ∧ w' = (w.setCell ⟨g, 0, none⟩ (.slice none 0 0)).setCell ⟨g, 1, none⟩ (.bool false) := by
  have c0 : w.cell? ⟨g, 0, none⟩ = some v := h.cell 0
  have c1 : w.cell? ⟨g, 1, none⟩ = some (.bool b) := h.cell 1
  have f0 := h.free 0
  have f1 := h.free 1
  go_enter Try.func55, Try.ntmps55
  go_wp2
  go_end0
  exact ⟨rfl, rfl⟩

theorem fail_rd (g : Nat) (S : Nat → Prop) (st : Option (List UInt8)) (w : World) (h : RD w g S st) :
    Calls Try.prog 55 #[.pointer (some ⟨g, 0, none⟩)] w fun e w' => e = .returned (.tuple #[]) ∧ RD w' g S none ∧ w.grownBy w' (some g) := by
  obtain ⟨v, h1, h2, h3⟩ := h
  refine (fail_some g v _ w h1).mono ?_
  rintro e w' ⟨rfl, rfl⟩
  exact ⟨rfl, ⟨_, (h1.put 0 _).put 1 _, BS.nil _ _, h3⟩, grown_trans (grown_set _ _ _ _) (grown_set _ _ _ _)⟩

theorem pass_nil (n : Int) (w : World) :
    Calls Try.prog 56 #[.pointer none, .int .i64 n] w fun e w' => e = .returned (.slice none 0 0) ∧ w = w' := by
  by_cases h0 : n < 0
  · go_enter Try.func56, Try.ntmps56
    go_wp2_with (first | (go_at_call 36; refine (left_nil _).mono ?_; rintro e w' ⟨rfl, rfl⟩) | (go_at_call 55; refine (fail_nil _).mono ?_; rintro e w' ⟨rfl, rfl⟩))
    go_ret
    exact ⟨rfl, rfl⟩
  · by_cases h1 : n = 0
    · subst h1
      go_enter Try.func56, Try.ntmps56
      go_wp2_with (first | (go_at_call 36; refine (left_nil _).mono ?_; rintro e w' ⟨rfl, rfl⟩) | (go_at_call 55; refine (fail_nil _).mono ?_; rintro e w' ⟨rfl, rfl⟩))
      go_ret
      exact ⟨rfl, rfl⟩
    · have h2 : 0 < n := by omega
      go_enter Try.func56, Try.ntmps56
      go_wp2_with (first | (go_at_call 36; refine (left_nil _).mono ?_; rintro e w' ⟨rfl, rfl⟩) | (go_at_call 55; refine (fail_nil _).mono ?_; rintro e w' ⟨rfl, rfl⟩))
      go_ret
      exact ⟨rfl, rfl⟩

/-- Left, whatever the reader's state. -/
theorem left_rd (g : Nat) (S : Nat → Prop) (st : Option (List UInt8)) (w : World) (h : RD w g S st) :
    Calls Try.prog 36 #[.pointer (some ⟨g, 0, none⟩)] w fun e w' => e = .returned (.int .i64 ((st.getD []).length : Int)) ∧ w = w' := by
  obtain ⟨v, h1, h2, h3⟩ := h
  cases st with
  | none => exact left_no g v w h1
  | some l =>
    obtain ⟨A, c, rfl, _⟩ := h2.form
    exact left_yes g A _ c w h1

theorem ok_rd (g : Nat) (S : Nat → Prop) (st : Option (List UInt8)) (w : World) (h : RD w g S st) :
    Calls Try.prog 37 #[.pointer (some ⟨g, 0, none⟩)] w fun e w' => e = .returned (.bool st.isSome) ∧ w = w' := by
  obtain ⟨v, h1, h2, h3⟩ := h
  exact ok_any g v _ w h1

theorem pass_rd (n : Int) (g : Nat) (S : Nat → Prop) (st : Option (List UInt8)) (w : World) (h : RD w g S st) :
    Calls Try.prog 56 #[.pointer (some ⟨g, 0, none⟩), .int .i64 n] w fun e w' => ∃ v, e = .returned v ∧ RD w' g S (passed n st).1 ∧ BS w' S v (passed n st).2 ∧ w.grownBy w' (some g) := by
  by_cases h0 : n < 0
  · have e0 : passed n st = (none, []) := by unfold passed; rw [if_pos (.inl h0)]
    rw [e0]
    clear e0
    go_enter Try.func56, Try.ntmps56
    go_wp2_with (first | (go_at_call 55; refine (fail_rd _ _ _ _ h).mono ?_; rintro e w' ⟨rfl, hr, hg⟩))
    go_ret
    exact ⟨_, rfl, hr, BS.nil _ _, hg⟩
  · by_cases h1 : ((st.getD []).length : Int) < n
    · have e0 : passed n st = (none, []) := by unfold passed; rw [if_pos (.inr h1)]
      rw [e0]
      clear e0
      go_enter Try.func56, Try.ntmps56
      go_wp2_with (first | (go_at_call 55; refine (fail_rd _ _ _ _ h).mono ?_; rintro e w' ⟨rfl, hr, hg⟩) | (go_at_call 36; refine (left_rd _ _ _ _ h).mono ?_; rintro e w' ⟨rfl, rfl⟩))
      go_ret
      exact ⟨_, rfl, hr, BS.nil _ _, hg⟩
    · have e0 : passed n st = (st.map (·.drop n.toNat), (st.getD []).take n.toNat) := by unfold passed; rw [if_neg (by omega)]
      rw [e0]
      clear e0
      by_cases h2 : n = 0
      · subst h2
        have e1 : st.map (fun l => l.drop (0 : Int).toNat) = st := by cases st <;> simp
        have e2 : (st.getD []).take (0 : Int).toNat = [] := by simp
        rw [e1, e2]
        clear e1 e2
        go_enter Try.func56, Try.ntmps56
        go_wp2_with (first | (go_at_call 36; refine (left_rd _ _ _ _ h).mono ?_; rintro e w' ⟨rfl, rfl⟩))
        go_ret
        exact ⟨_, rfl, h, BS.nil _ _, World.grownBy.refl _ _⟩
      · obtain ⟨v, k1, k2, k3⟩ := h
        have hR : RD w g S st := ⟨v, k1, k2, k3⟩
        obtain ⟨A, c, rfl, kl, kc, _⟩ := k2.form
        obtain ⟨b, o, rfl, sb, hb, hx⟩ := k2.at_ (by omega)
        cases st with
        | none => simp at h1; omega
        | some l =>
          obtain ⟨k, rfl⟩ := Int.eq_ofNat_of_zero_le (show 0 ≤ n by omega)
          simp only [Option.getD_some, Option.map_some, Int.toNat_natCast] at *
          have t1 := k2.take k (by omega)
          have t2 := k2.drop k (by omega)
          have c0 : w.cell? ⟨g, 0, none⟩ = some (.slice (some ⟨b, o, none⟩) l.length c) := k1.cell 0
          have f0 := k1.free 0
          have b1 : (k : Int) ≤ l.length := by omega
          have b2 : l.length ≤ 9223372036854775807 := by unfold maxLen at kc; omega
          have b3 : c ≤ 9223372036854775807 := kc
          have b4 : ¬ (k : Int) = 0 := h2
          clear hx hb k2
          go_enter Try.func56, Try.ntmps56
          go_wp2_with (first | (go_at_call 36; refine (left_rd _ _ _ _ hR).mono ?_; rintro e w' ⟨rfl, rfl⟩))
          all_goals go_ret
          · have hck : c = k := by assumption
            subst hck
            rw [if_pos rfl, Nat.sub_self] at t2
            exact ⟨_, rfl, ⟨_, k1.put 0 _, t2.setCell k3 _, k3⟩, t1.setCell k3 _, grown_set _ _ _ _⟩
          · have hck : ¬ c = k := by assumption
            rw [if_neg hck] at t2
            exact ⟨_, rfl, ⟨_, k1.put 0 _, t2.setCell k3 _, k3⟩, t1.setCell k3 _, grown_set _ _ _ _⟩

theorem clone_any (S : Nat → Prop) (v : Value) (l : List UInt8) (w : World) (h : BS w S v l) (hl : l.length ≤ 140737488355328) :
    Calls Try.prog 53 #[v] w fun e w' => Fresh w e w' l := by
  obtain ⟨i0, hi, hz0, hz1, hz2⟩ := info_parts info_byte
  go_enter Try.func53, Try.ntmps53
  go_wp2_with (at_builtin; refine wpList_grow _ rfl _ _ _ rfl w.heap.size 5 i0 Try.underlying27 hi hz0 hz1 hz2 (.slice none 0 0) [] rfl (World.ownsRow_nil _ _ _ _) S _ l rfl h (by simp; omega) (Nat.le_refl _) ?_; intro v1 w1 hown hg _)
  go_ret
  exact ⟨_, rfl, hown, (Below.refl _ _).grown hg (Nat.le_refl _) (by simp [Value.ownBlock])⟩

theorem new_any (S : Nat → Prop) (v : Value) (l : List UInt8) (w : World) (h : BS w S v l) (hl : l.length ≤ 140737488355328) :
    Calls Try.prog 31 #[v] w fun e w' => ∃ g, e = .returned (.pointer (some ⟨g, 0, none⟩)) ∧ w.heap.size ≤ g ∧ g < w'.heap.size ∧ RD w' g (fun b => w.heap.size ≤ b ∧ b < g) (some l) ∧ Below w.heap.size w w' := by
  go_enter Try.func31, Try.ntmps31
  go_wp2_with (go_at_call 53; refine (clone_any S v l _ h hl).mono ?_; rintro e w1 ⟨v1, rfl, hown, hb⟩; obtain ⟨A1, c1, rfl, _⟩ := (own_BS hown).form)
  go_ret
  have hs := hb.size
  exact ⟨_, rfl, by omega, by simp, ⟨_, KB.new _ _ _, (own_BS hown).alloc _, by omega⟩, hb.alloc hs _⟩

theorem take_rd (n : Int) (g : Nat) (S : Nat → Prop) (st : Option (List UInt8)) (w : World) (h : RD w g S st) (hl : (st.getD []).length ≤ 140737488355328) :
    Calls Try.prog 35 #[.pointer (some ⟨g, 0, none⟩), .int .i64 n] w fun e w' => ∃ v, e = .returned v ∧ RD w' g S (passed n st).1 ∧
      w'.ownsRow w.heap.size 5 1 v (passed n st).2.length ((passed n st).2.map bv) ∧ w.grownBy w' (some g) := by
  go_enter Try.func35, Try.ntmps35
  go_wp2_with (first | (go_at_call 56; refine (pass_rd n g S st w h).mono ?_; rintro e w1 ⟨v1, rfl, hr1, hb1, hg1⟩) | (go_at_call 53; refine (clone_any S v1 _ _ hb1 (by unfold passed; split <;> simp <;> omega)).mono ?_; rintro e w2 ⟨v2, rfl, hown, hb2⟩))
  go_ret
  have hs := hg1.size
  obtain ⟨v, k1, k2, k3⟩ := hr1
  exact ⟨_, rfl, ⟨v, k1.below hb2 k1.lt, k2.below' hb2, k3⟩, own_base hown hs, grown_trans hg1 (grown_of_below hb2 _)⟩

end Go.Proofs.Ytgahnjhibpcbaaa
