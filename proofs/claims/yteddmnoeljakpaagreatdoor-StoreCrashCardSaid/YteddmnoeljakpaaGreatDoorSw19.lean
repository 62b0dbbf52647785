/-
  TlvM: The plain mathematics of tlv: what bytes a number has, what number bytes have, what a reader answers. No condition; nothing of the dump is used here.
  TlvA: The reader of tlv, its small methods: each one's contract over the loaded program (Ok, Left, fail, pass, clone, Take, New). No condition but the worlds' shapes that each contract names.
  TlvB: The reader of tlv: Num, Int, Count, Text: each one's contract over the loaded program. No condition but the worlds' shapes that each contract names.
-/
import Derived.Test.YteddmnoeljakpaaGreatDoorSw00
import Derived.Test.YteddmnoeljakpaaGreatDoorProg
import Derived.WalkKit
import Derived.WalkSpells
import Derived.BigQuiet
import Derived.Deep.QuietTactic
set_option linter.unusedVariables false
set_option maxRecDepth 100000
namespace Go.Proofs.YteddmnoeljakpaaGreatDoor
section
def val : List UInt8 → Nat
  | [] => 0
  | b :: l => b.toNat * 256 ^ l.length + val l
theorem val_lt (l : List UInt8) : val l < 256 ^ l.length := by
  induction l with
  | nil => simp [val]
  | cons b l ih =>
    have hb := b.toNat_lt
    have h1 : b.toNat * 256 ^ l.length ≤ 255 * 256 ^ l.length := Nat.mul_le_mul_right _ (by omega)
    simp only [val, List.length_cons, Nat.pow_succ]
    omega
theorem val_snoc (l : List UInt8) (b : UInt8) : val (l ++ [b]) = val l * 256 + b.toNat := by
  induction l with
  | nil => simp [val]
  | cons c l ih =>
    simp only [List.cons_append, val, ih, List.length_append, List.length_cons, List.length_nil, Nat.zero_add, Nat.pow_succ, Nat.add_mul, Nat.mul_assoc]
    omega
theorem val_take_succ (l : List UInt8) (k : Nat) (h : k < l.length) : val (l.take (k + 1)) = val (l.take k) * 256 + (l[k]).toNat := by
  rw [List.take_succ_eq_append_getElem h, val_snoc]
theorem val_lt_eight (l : List UInt8) (h : l.length ≤ 8) : val l < 18446744073709551616 :=
  Nat.lt_of_lt_of_le (val_lt l) (Nat.le_trans (Nat.pow_le_pow_right (by omega) h) (by decide))
theorem val_lt_seven (l : List UInt8) (h : l.length ≤ 7) : val l < 72057594037927936 :=
  Nat.lt_of_lt_of_le (val_lt l) (Nat.le_trans (Nat.pow_le_pow_right (by omega) h) (by decide))
def dig : Nat → Nat → List UInt8
  | 0, _ => []
  | f + 1, n => if n = 0 then [] else dig f (n / 256) ++ [UInt8.ofNat (n % 256)]
def numb (n : Nat) : List UInt8 := UInt8.ofNat (dig 8 n).length :: dig 8 n
def texb (l : List UInt8) : List UInt8 := numb l.length ++ l
theorem dig_length_le (f n : Nat) : (dig f n).length ≤ f := by
  induction f generalizing n with
  | zero => simp [dig]
  | succ f ih =>
    simp only [dig]
    split
    · simp
    · have := ih (n / 256)
      simp
      omega
theorem dig_val (f n : Nat) (h : n < 256 ^ f) : val (dig f n) = n := by
  induction f generalizing n with
  | zero => simp at h; subst h; rfl
  | succ f ih =>
    simp only [dig]
    split
    · rename_i h0; subst h0; rfl
    · rw [val_snoc, ih (n / 256) (by rw [Nat.pow_succ] at h; omega)]
      have : (UInt8.ofNat (n % 256)).toNat = n % 256 := by simp
      omega
theorem dig_head (f n : Nat) (h : n < 256 ^ f) : (dig f n).head? ≠ some 0 := by
  induction f generalizing n with
  | zero => simp [dig]
  | succ f ih =>
    simp only [dig]
    split
    · simp
    · rename_i h0
      have hd := ih (n / 256) (by rw [Nat.pow_succ] at h; omega)
      by_cases hq : n / 256 = 0
      · have e : dig f (n / 256) = [] := by rw [hq]; cases f <;> simp [dig]
        rw [e]
        simp only [List.nil_append, List.head?_cons, ne_eq, Option.some.injEq]
        intro hx
        have := congrArg UInt8.toNat hx
        simp at this
        omega
      · cases hq' : dig f (n / 256) with
        | nil =>
          have hv := dig_val f (n / 256) (by rw [Nat.pow_succ] at h; omega)
          rw [hq'] at hv
          simp [val] at hv
          omega
        | cons x l =>
          rw [hq'] at hd
          simpa using hd
theorem dig_of_val (f : Nat) (l : List UInt8) (hl : l.length ≤ f) (h0 : l.head? ≠ some 0) : dig f (val l) = l := by
  induction f generalizing l with
  | zero =>
    have : l = [] := List.eq_nil_of_length_eq_zero (by omega)
    subst this; rfl
  | succ f ih =>
    rcases List.eq_nil_or_concat l with rfl | ⟨m, b, rfl⟩
    · simp [val, dig]
    · rw [List.concat_eq_append] at *
      have hb := b.toNat_lt
      rw [val_snoc]
      have hne : val m * 256 + b.toNat ≠ 0 := by
        intro hz
        cases m with
        | nil =>
          simp [val] at hz
          apply h0
          simp
          exact UInt8.toNat_inj.1 (by simpa using hz)
        | cons c m =>
          have hc : c.toNat = 0 := by
            simp only [val] at hz
            have hp : 0 < 256 ^ m.length := Nat.pow_pos (by omega)
            rcases Nat.eq_zero_or_pos c.toNat with h | h
            · exact h
            · have := Nat.mul_pos h hp; omega
          apply h0
          simp
          exact UInt8.toNat_inj.1 (by simpa using hc)
      simp only [dig, if_neg hne]
      rw [show (val m * 256 + b.toNat) / 256 = val m by omega, show (val m * 256 + b.toNat) % 256 = b.toNat by omega, ih m (by simp at hl; omega) (by
        cases m with
        | nil => simp
        | cons c m => simpa using h0)]
      simp
def numOf : Option (List UInt8) → Option (List UInt8) × Nat
  | some (h :: t) => if 8 < h.toNat ∨ t.length < h.toNat ∨ (t.take h.toNat).head? = some 0 then (none, 0) else (some (t.drop h.toNat), val (t.take h.toNat))
  | _ => (none, 0)
theorem numOf_lt (st : Option (List UInt8)) : (numOf st).2 < 18446744073709551616 := by
  unfold numOf
  split
  · split
    · simp
    · exact val_lt_eight _ (by simp; omega)
  · simp
theorem numOf_numb (n : Nat) (l : List UInt8) (h : n < 18446744073709551616) : numOf (some (numb n ++ l)) = (some l, n) := by
  have h1 := dig_length_le 8 n
  have h2 : (UInt8.ofNat (dig 8 n).length).toNat = (dig 8 n).length := by simp; omega
  have h3 : (dig 8 n ++ l).take (dig 8 n).length = dig 8 n := List.take_left
  have h4 : (dig 8 n ++ l).drop (dig 8 n).length = l := List.drop_left
  have h5 := dig_head 8 n (by simpa using h)
  simp only [numb, List.cons_append, numOf, h2, h3, h4]
  rw [if_neg (by simp; exact ⟨by omega, h5⟩), dig_val 8 n (by simpa using h)]
theorem numb_numOf (l l' : List UInt8) (n : Nat) (h : numOf (some l) = (some l', n)) : numb n ++ l' = l := by
  cases l with
  | nil => simp [numOf] at h
  | cons a t =>
    simp only [numOf] at h
    split at h
    · simp at h
    · rename_i hc
      simp only [Prod.mk.injEq, Option.some.injEq] at h
      obtain ⟨rfl, rfl⟩ := h
      have e := dig_of_val 8 (t.take a.toNat) (by simp; omega) (fun e => hc (.inr (.inr e)))
      have e2 : (t.take a.toNat).length = a.toNat := by simp; omega
      simp only [numb, e, e2, List.cons_append, List.take_append_drop]
      congr 1
      simp
def passed (n : Int) (st : Option (List UInt8)) : Option (List UInt8) × List UInt8 :=
  if n < 0 ∨ (st.getD []).length < n then (none, []) else (st.map (·.drop n.toNat), (st.getD []).take n.toNat)
def cntOf (most : Int) (st : Option (List UInt8)) : Option (List UInt8) × Nat :=
  if most < 0 ∨ most < (numOf st).2 then (none, 0) else numOf st
def txtOf (most : Int) (st : Option (List UInt8)) : Option (List UInt8) × List UInt8 := passed (cntOf most st).2 (cntOf most st).1
end
section
open Go.RowKit
def RD (w : World) (g : Nat) (S : Nat → Prop) (st : Option (List UInt8)) : Prop :=
  ∃ v, KB w g 206 #[v, .bool st.isSome] ∧ BS w S v (st.getD []) ∧ ¬ S g
theorem RD.below {w w' : World} {g : Nat} {S : Nat → Prop} {st : Option (List UInt8)} (h : RD w g S st) (hb : Below w.heap.size w w') : RD w' g S st := by
  obtain ⟨v, h1, h2, h3⟩ := h
  exact ⟨v, h1.below hb h1.lt, h2.below' hb, h3⟩
theorem ok_any (g : Nat) (v : Value) (b : Bool) (w : World) (h : KB w g 206 #[v, .bool b]) :
    Calls Tryz.prog 132 #[.pointer (some ⟨g, 0, none⟩)] w fun e w' => e = .returned (.bool b) ∧ w = w' := by
  have c1 : w.cell? ⟨g, 1, none⟩ = some (.bool b) := h.cell 1
  go_enter Tryz.func132, Tryz.ntmps132
  go_wp2
  go_ret
  exact ⟨rfl, rfl⟩
theorem ok_nil (w : World) :
    Calls Tryz.prog 132 #[.pointer none] w fun e w' => e = .returned (.bool false) ∧ w = w' := by
  go_enter Tryz.func132, Tryz.ntmps132
  go_wp2
  go_ret
  exact ⟨rfl, rfl⟩
theorem left_yes (g : Nat) (A : Option Addr) (n c : Nat) (w : World) (h : KB w g 206 #[.slice A n c, .bool true]) :
    Calls Tryz.prog 131 #[.pointer (some ⟨g, 0, none⟩)] w fun e w' => e = .returned (.int .i64 n) ∧ w = w' := by
  have c0 : w.cell? ⟨g, 0, none⟩ = some (.slice A n c) := h.cell 0
  go_enter Tryz.func131, Tryz.ntmps131
  go_wp2_with (go_at_call 132; refine (ok_any _ _ _ _ h).mono ?_; rintro e w' ⟨rfl, rfl⟩)
  go_ret
  exact ⟨rfl, rfl⟩
theorem left_no (g : Nat) (v : Value) (w : World) (h : KB w g 206 #[v, .bool false]) :
    Calls Tryz.prog 131 #[.pointer (some ⟨g, 0, none⟩)] w fun e w' => e = .returned (.int .i64 0) ∧ w = w' := by
  go_enter Tryz.func131, Tryz.ntmps131
  go_wp2_with (go_at_call 132; refine (ok_any _ _ _ _ h).mono ?_; rintro e w' ⟨rfl, rfl⟩)
  go_ret
  exact ⟨rfl, rfl⟩
theorem left_nil (w : World) :
    Calls Tryz.prog 131 #[.pointer none] w fun e w' => e = .returned (.int .i64 0) ∧ w = w' := by
  go_enter Tryz.func131, Tryz.ntmps131
  go_wp2_with (go_at_call 132; refine (ok_nil _).mono ?_; rintro e w' ⟨rfl, rfl⟩)
  go_ret
  exact ⟨rfl, rfl⟩
theorem fail_nil (w : World) :
    Calls Tryz.prog 165 #[.pointer none] w fun e w' => e = .returned (.tuple #[]) ∧ w = w' := by
  go_enter Tryz.func165, Tryz.ntmps165
  go_wp2
  go_end0
  exact ⟨rfl, rfl⟩
theorem fail_some (g : Nat) (v : Value) (b : Bool) (w : World) (h : KB w g 206 #[v, .bool b]) :
    Calls Tryz.prog 165 #[.pointer (some ⟨g, 0, none⟩)] w fun e w' => e = .returned (.tuple #[]) ∧ w' = (w.setCell ⟨g, 0, none⟩ (.slice none 0 0)).setCell ⟨g, 1, none⟩ (.bool false) := by
  have c0 : w.cell? ⟨g, 0, none⟩ = some v := h.cell 0
  have c1 : w.cell? ⟨g, 1, none⟩ = some (.bool b) := h.cell 1
  have f0 := h.free 0
  have f1 := h.free 1
  go_enter Tryz.func165, Tryz.ntmps165
  go_wp2
  go_end0
  exact ⟨rfl, rfl⟩
theorem fail_rd (g : Nat) (S : Nat → Prop) (st : Option (List UInt8)) (w : World) (h : RD w g S st) :
    Calls Tryz.prog 165 #[.pointer (some ⟨g, 0, none⟩)] w fun e w' => e = .returned (.tuple #[]) ∧ RD w' g S none ∧ w.grownBy w' (some g) := by
  obtain ⟨v, h1, h2, h3⟩ := h
  refine (fail_some g v _ w h1).mono ?_
  rintro e w' ⟨rfl, rfl⟩
  exact ⟨rfl, ⟨_, (h1.put 0 _).put 1 _, BS.nil _ _, h3⟩, grown_trans (grown_set _ _ _ _) (grown_set _ _ _ _)⟩
theorem pass_nil (n : Int) (w : World) :
    Calls Tryz.prog 168 #[.pointer none, .int .i64 n] w fun e w' => e = .returned (.slice none 0 0) ∧ w = w' := by
  by_cases h0 : n < 0
  · go_enter Tryz.func168, Tryz.ntmps168
    go_wp2_with (first | (go_at_call 131; refine (left_nil _).mono ?_; rintro e w' ⟨rfl, rfl⟩) | (go_at_call 165; refine (fail_nil _).mono ?_; rintro e w' ⟨rfl, rfl⟩))
    go_ret
    exact ⟨rfl, rfl⟩
  · by_cases h1 : n = 0
    · subst h1
      go_enter Tryz.func168, Tryz.ntmps168
      go_wp2_with (first | (go_at_call 131; refine (left_nil _).mono ?_; rintro e w' ⟨rfl, rfl⟩) | (go_at_call 165; refine (fail_nil _).mono ?_; rintro e w' ⟨rfl, rfl⟩))
      go_ret
      exact ⟨rfl, rfl⟩
    · have h2 : 0 < n := by omega
      go_enter Tryz.func168, Tryz.ntmps168
      go_wp2_with (first | (go_at_call 131; refine (left_nil _).mono ?_; rintro e w' ⟨rfl, rfl⟩) | (go_at_call 165; refine (fail_nil _).mono ?_; rintro e w' ⟨rfl, rfl⟩))
      go_ret
      exact ⟨rfl, rfl⟩
theorem left_rd (g : Nat) (S : Nat → Prop) (st : Option (List UInt8)) (w : World) (h : RD w g S st) :
    Calls Tryz.prog 131 #[.pointer (some ⟨g, 0, none⟩)] w fun e w' => e = .returned (.int .i64 ((st.getD []).length : Int)) ∧ w = w' := by
  obtain ⟨v, h1, h2, h3⟩ := h
  cases st with
  | none => exact left_no g v w h1
  | some l =>
    obtain ⟨A, c, rfl, _⟩ := h2.form
    exact left_yes g A _ c w h1
theorem ok_rd (g : Nat) (S : Nat → Prop) (st : Option (List UInt8)) (w : World) (h : RD w g S st) :
    Calls Tryz.prog 132 #[.pointer (some ⟨g, 0, none⟩)] w fun e w' => e = .returned (.bool st.isSome) ∧ w = w' := by
  obtain ⟨v, h1, h2, h3⟩ := h
  exact ok_any g v _ w h1
theorem pass_rd (n : Int) (g : Nat) (S : Nat → Prop) (st : Option (List UInt8)) (w : World) (h : RD w g S st) :
    Calls Tryz.prog 168 #[.pointer (some ⟨g, 0, none⟩), .int .i64 n] w fun e w' => ∃ v, e = .returned v ∧ RD w' g S (passed n st).1 ∧ BS w' S v (passed n st).2 ∧ w.grownBy w' (some g) := by
  by_cases h0 : n < 0
  · have e0 : passed n st = (none, []) := by unfold passed; rw [if_pos (.inl h0)]
    rw [e0]
    clear e0
    go_enter Tryz.func168, Tryz.ntmps168
    go_wp2_with (first | (go_at_call 165; refine (fail_rd _ _ _ _ h).mono ?_; rintro e w' ⟨rfl, hr, hg⟩))
    go_ret
    exact ⟨_, rfl, hr, BS.nil _ _, hg⟩
  · by_cases h1 : ((st.getD []).length : Int) < n
    · have e0 : passed n st = (none, []) := by unfold passed; rw [if_pos (.inr h1)]
      rw [e0]
      clear e0
      go_enter Tryz.func168, Tryz.ntmps168
      go_wp2_with (first | (go_at_call 165; refine (fail_rd _ _ _ _ h).mono ?_; rintro e w' ⟨rfl, hr, hg⟩) | (go_at_call 131; refine (left_rd _ _ _ _ h).mono ?_; rintro e w' ⟨rfl, rfl⟩))
      go_ret
      exact ⟨_, rfl, hr, BS.nil _ _, hg⟩
    · have e0 : passed n st = (st.map (·.drop n.toNat), (st.getD []).take n.toNat) := by unfold passed; rw [if_neg (by omega)]
      rw [e0]
      clear e0
      by_cases h2 : n = 0
      · subst h2
        have e1 : st.map (fun l => l.drop (0 : Int).toNat) = st := by cases st <;> simp
        have e2 : (st.getD []).take (0 : Int).toNat = [] := by simp
        rw [e1, e2]
        clear e1 e2
        go_enter Tryz.func168, Tryz.ntmps168
        go_wp2_with (first | (go_at_call 131; refine (left_rd _ _ _ _ h).mono ?_; rintro e w' ⟨rfl, rfl⟩))
        go_ret
        exact ⟨_, rfl, h, BS.nil _ _, World.grownBy.refl _ _⟩
      · obtain ⟨v, k1, k2, k3⟩ := h
        have hR : RD w g S st := ⟨v, k1, k2, k3⟩
        obtain ⟨A, c, rfl, kl, kc, _⟩ := k2.form
        obtain ⟨b, o, rfl, sb, hb, hx⟩ := k2.at_ (by omega)
        cases st with
        | none => simp at h1; omega
        | some l =>
          obtain ⟨k, rfl⟩ := Int.eq_ofNat_of_zero_le (show 0 ≤ n by omega)
          simp only [Option.getD_some, Option.map_some, Int.toNat_natCast] at *
          have t1 := k2.take k (by omega)
          have t2 := k2.drop k (by omega)
          have c0 : w.cell? ⟨g, 0, none⟩ = some (.slice (some ⟨b, o, none⟩) l.length c) := k1.cell 0
          have f0 := k1.free 0
          have b1 : (k : Int) ≤ l.length := by omega
          have b2 : l.length ≤ 9223372036854775807 := by unfold maxLen at kc; omega
          have b3 : c ≤ 9223372036854775807 := kc
          have b4 : ¬ (k : Int) = 0 := h2
          clear hx hb k2
          go_enter Tryz.func168, Tryz.ntmps168
          go_wp2_with (first | (go_at_call 131; refine (left_rd _ _ _ _ hR).mono ?_; rintro e w' ⟨rfl, rfl⟩))
          all_goals go_ret
          · have hck : c = k := by assumption
            subst hck
            rw [if_pos rfl, Nat.sub_self] at t2
            exact ⟨_, rfl, ⟨_, k1.put 0 _, t2.setCell k3 _, k3⟩, t1.setCell k3 _, grown_set _ _ _ _⟩
          · have hck : ¬ c = k := by assumption
            rw [if_neg hck] at t2
            exact ⟨_, rfl, ⟨_, k1.put 0 _, t2.setCell k3 _, k3⟩, t1.setCell k3 _, grown_set _ _ _ _⟩
theorem clone_any (S : Nat → Prop) (v : Value) (l : List UInt8) (w : World) (h : BS w S v l) (hl : l.length ≤ 140737488355328) :
    Calls Tryz.prog 163 #[v] w fun e w' => Fresh w e w' l := by
  obtain ⟨i0, hi, hz0, hz1, hz2⟩ := info_parts info_byte
  go_enter Tryz.func163, Tryz.ntmps163
  go_wp2_with (at_builtin; refine wpList_grow _ rfl _ _ _ rfl w.heap.size 5 i0 Tryz.underlying55 hi hz0 hz1 hz2 (.slice none 0 0) [] rfl (World.ownsRow_nil _ _ _ _) S _ l rfl h (by simp; omega) (Nat.le_refl _) ?_; intro v1 w1 hown hg _)
  go_ret
  exact ⟨_, rfl, hown, (Below.refl _ _).grown hg (Nat.le_refl _) (by simp [Value.ownBlock])⟩
theorem new_any (S : Nat → Prop) (v : Value) (l : List UInt8) (w : World) (h : BS w S v l) (hl : l.length ≤ 140737488355328) :
    Calls Tryz.prog 126 #[v] w fun e w' => ∃ g, e = .returned (.pointer (some ⟨g, 0, none⟩)) ∧ w.heap.size ≤ g ∧ g < w'.heap.size ∧ RD w' g (fun b => w.heap.size ≤ b ∧ b < g) (some l) ∧ Below w.heap.size w w' := by
  go_enter Tryz.func126, Tryz.ntmps126
  go_wp2_with (go_at_call 163; refine (clone_any S v l _ h hl).mono ?_; rintro e w1 ⟨v1, rfl, hown, hb⟩; obtain ⟨A1, c1, rfl, _⟩ := (own_BS hown).form)
  go_ret
  have hs := hb.size
  exact ⟨_, rfl, by omega, by simp, ⟨_, KB.new _ _ _, (own_BS hown).alloc _, by omega⟩, hb.alloc hs _⟩
theorem take_rd (n : Int) (g : Nat) (S : Nat → Prop) (st : Option (List UInt8)) (w : World) (h : RD w g S st) (hl : (st.getD []).length ≤ 140737488355328) :
    Calls Tryz.prog 130 #[.pointer (some ⟨g, 0, none⟩), .int .i64 n] w fun e w' => ∃ v, e = .returned v ∧ RD w' g S (passed n st).1 ∧
      w'.ownsRow w.heap.size 5 1 v (passed n st).2.length ((passed n st).2.map bv) ∧ w.grownBy w' (some g) := by
  go_enter Tryz.func130, Tryz.ntmps130
  go_wp2_with (first | (go_at_call 168; refine (pass_rd n g S st w h).mono ?_; rintro e w1 ⟨v1, rfl, hr1, hb1, hg1⟩) | (go_at_call 163; refine (clone_any S v1 _ _ hb1 (by unfold passed; split <;> simp <;> omega)).mono ?_; rintro e w2 ⟨v2, rfl, hown, hb2⟩))
  go_ret
  have hs := hg1.size
  obtain ⟨v, k1, k2, k3⟩ := hr1
  exact ⟨_, rfl, ⟨v, k1.below hb2 k1.lt, k2.below' hb2, k3⟩, own_base hown hs, grown_trans hg1 (grown_of_below hb2 _)⟩
end
section
open Go.RowKit
theorem num_nil (w : World) :
    Calls Tryz.prog 164 #[.pointer none] w fun e w' => e = .returned (.int .u64 0) ∧ w = w' := by
  go_enter Tryz.func164, Tryz.ntmps164
  go_wp2_with (go_at_call 168; refine (pass_nil _ _).mono ?_; rintro e w' ⟨rfl, rfl⟩)
  go_ret
  exact ⟨rfl, rfl⟩
theorem shl_or (a : Nat) (b : UInt8) : (a * 256) ||| b.toNat = a * 256 + b.toNat := by
  have := b.toNat_lt
  rw [show a * 256 = a <<< 8 from by rw [Nat.shiftLeft_eq], ← Nat.shiftLeft_add_eq_or_of_lt (by omega)]
theorem or_step (a : Nat) (b : UInt8) (h : a < 72057594037927936) : bits .or .u64 (IntKind.u64.wrap ((a : Int) * 256)) (IntKind.u64.wrap (b.toNat : Int)) = ((a * 256 + b.toNat : Nat) : Int) := by
  have hb := b.toNat_lt
  rw [IntWalk.u64_in _ (by omega), IntWalk.u64_in _ (by omega), show (a : Int) * 256 = ((a * 256 : Nat) : Int) from by omega, u64_or_nat _ _ (by omega) (by omega), shl_or]
theorem pass_to (n : Int) (g : Nat) (S : Nat → Prop) (st : Option (List UInt8)) (w : World) (st' : Option (List UInt8)) (l : List UInt8) (h : RD w g S st) (hp : passed n st = (st', l)) :
    Calls Tryz.prog 168 #[.pointer (some ⟨g, 0, none⟩), .int .i64 n] w fun e w' => ∃ A c, e = .returned (.slice A l.length c) ∧ RD w' g S st' ∧ BS w' S (.slice A l.length c) l ∧ w.grownBy w' (some g) := by
  refine (pass_rd n g S st w h).mono ?_
  rintro e w' ⟨v, rfl, hr, hb, hg⟩
  rw [hp] at hr hb
  obtain ⟨A, c, rfl, _⟩ := hb.form
  exact ⟨A, c, rfl, hr, hb, hg⟩
theorem num_some (g : Nat) (S : Nat → Prop) (st : Option (List UInt8)) (w : World) (h : RD w g S st) :
    Calls Tryz.prog 164 #[.pointer (some ⟨g, 0, none⟩)] w fun e w' => e = .returned (.int .u64 (numOf st).2) ∧ RD w' g S (numOf st).1 ∧ w.grownBy w' (some g) := by
  by_cases hst : (st.getD []) = []
  · have e0 : numOf st = (none, 0) := by
      rcases st with _ | l
      · rfl
      · simp at hst; subst hst; rfl
    have e1 : passed 1 st = (none, []) := by simp [passed, hst]
    rw [e0]
    have E1 := Lib.hid e1
    clear e0 e1 hst
    go_enter Tryz.func164, Tryz.ntmps164
    go_wp2_with (go_at_call 168; refine (pass_to 1 g S st _ none [] h E1.out).mono ?_; rintro e w1 ⟨A1, c1, rfl, hr1, hb1, hg1⟩)
    go_ret
    exact ⟨rfl, hr1, hg1⟩
  · obtain ⟨x, t, rfl⟩ : ∃ x t, st = some (x :: t) := by
      rcases st with _ | l
      · simp at hst
      · rcases l with _ | ⟨x, t⟩
        · simp at hst
        · exact ⟨x, t, rfl⟩
    clear hst
    have e1 : passed 1 (some (x :: t)) = (some t, [x]) := by
      unfold passed
      rw [if_neg (by simp; omega)]
      rfl
    have E1 := Lib.hid e1
    clear e1
    have hx := x.toNat_lt
    by_cases h8 : 8 < x.toNat
    · have e0 : numOf (some (x :: t)) = (none, 0) := by simp [numOf, h8]
      rw [e0]
      clear e0
      go_enter Tryz.func164, Tryz.ntmps164
      go_wp2_with (first | (go_at_call 168; refine (pass_to 1 g S _ _ _ [x] h E1.out).mono ?_; rintro e w1 ⟨A1, c1, rfl, hr1, hb1, hg1⟩; obtain ⟨b1, o1, rfl, _, _, hc1⟩ := hb1.at_ (by simp); have k1 : w1.cell? ⟨b1, o1, none⟩ = some (.int .u8 (x.toNat : Int)) := hc1 0 x rfl; clear hc1) | (go_at_call 165; refine (fail_rd _ _ _ _ hr1).mono ?_; rintro e w2 ⟨rfl, hr2, hg2⟩))
      go_ret
      exact ⟨rfl, hr2, grown_trans hg1 hg2⟩
    · obtain ⟨st2, ds, e2, e0, hds⟩ : ∃ st2 ds, passed (x.toNat : Int) (some t) = (st2, ds) ∧ numOf (some (x :: t)) = (if ds.head? = some 0 then (none, 0) else (st2, val ds)) ∧ ds.length ≤ 8 := by
        by_cases ht : t.length < x.toNat
        · exact ⟨none, [], by simp [passed, ht], by simp [numOf, ht, val], by simp⟩
        · refine ⟨some (t.drop x.toNat), t.take x.toNat, by simp [passed, ht], ?_, by simp; omega⟩
          simp only [numOf, h8, ht, false_or]
      have E2 := Lib.hid e2
      clear e2
      rcases ds with _ | ⟨d, ds⟩
      · rw [e0]
        simp only [List.head?_nil, reduceCtorEq, if_false, val]
        clear e0 hds
        go_enter Tryz.func164, Tryz.ntmps164
        go_wp2_with fail
        refine (pass_to 1 g S _ _ _ [x] h E1.out).mono ?_
        rintro e w1 ⟨A1, c1, rfl, hr1, hb1, hg1⟩
        obtain ⟨b1, o1, rfl, _, _, hc1⟩ := hb1.at_ (by simp)
        have k1 : w1.cell? ⟨b1, o1, none⟩ = some (.int .u8 (x.toNat : Int)) := hc1 0 x rfl
        clear hc1
        go_wp2_with fail
        refine (pass_to _ g S _ _ _ [] hr1 E2.out).mono ?_
        rintro e w2 ⟨A2, c2, rfl, hr2, hb2, hg2⟩
        go_wp2
        go_loop [5, 38] (fun n i => n = .int .u64 0 ∧ i = .int .i64 0) (fun _ _ => 0)
        case atStart => exact ⟨rfl, rfl⟩
        case round =>
          obtain ⟨rfl, rfl⟩ := hrel
          go_wp2
          go_ret
          exact ⟨rfl, hr2, grown_trans hg1 hg2⟩
      · by_cases hd : d = 0
        · subst hd
          rw [e0]
          simp only [List.head?_cons, if_true]
          clear e0 hds
          go_enter Tryz.func164, Tryz.ntmps164
          go_wp2_with fail
          refine (pass_to 1 g S _ _ _ [x] h E1.out).mono ?_
          rintro e w1 ⟨A1, c1, rfl, hr1, hb1, hg1⟩
          obtain ⟨b1, o1, rfl, _, _, hc1⟩ := hb1.at_ (by simp)
          have k1 : w1.cell? ⟨b1, o1, none⟩ = some (.int .u8 (x.toNat : Int)) := hc1 0 x rfl
          clear hc1
          go_wp2_with fail
          refine (pass_to _ g S _ _ _ (0 :: ds) hr1 E2.out).mono ?_
          rintro e w2 ⟨A2, c2, rfl, hr2, hb2, hg2⟩
          obtain ⟨b2, o2, rfl, _, _, hc2⟩ := hb2.at_ (by simp)
          have k2 : w2.cell? ⟨b2, o2, none⟩ = some (.int .u8 0) := hc2 0 0 rfl
          clear hc2
          go_wp2_with (go_at_call 165; refine (fail_rd _ _ _ _ hr2).mono ?_; rintro e w3 ⟨rfl, hr3, hg3⟩)
          go_ret
          exact ⟨rfl, hr3, grown_trans hg1 (grown_trans hg2 hg3)⟩
        · rw [e0]
          have hd' : ¬ d.toNat = 0 := fun e => hd (UInt8.toNat_inj.1 (by simpa using e))
          have hd0 := d.toNat_lt
          simp only [List.head?_cons, Option.some.injEq, hd, if_false]
          obtain ⟨L, hL⟩ : ∃ L, L = d :: ds := ⟨_, rfl⟩
          rw [← hL] at hds ⊢
          have HL := Lib.hid hL
          have hlp : 0 < L.length := by rw [hL]; simp
          rw [← hL] at E2
          clear e0 hL hd
          go_enter Tryz.func164, Tryz.ntmps164
          go_wp2_with fail
          refine (pass_to 1 g S _ _ _ [x] h E1.out).mono ?_
          rintro e w1 ⟨A1, c1, rfl, hr1, hb1, hg1⟩
          obtain ⟨b1, o1, rfl, _, _, hc1⟩ := hb1.at_ (by simp)
          have k1 : w1.cell? ⟨b1, o1, none⟩ = some (.int .u8 (x.toNat : Int)) := hc1 0 x rfl
          clear hc1
          go_wp2_with fail
          refine (pass_to _ g S _ _ _ L hr1 E2.out).mono ?_
          rintro e w2 ⟨A2, c2, rfl, hr2, hb2, hg2⟩
          obtain ⟨b2, o2, rfl, _, _, hc2⟩ := hb2.at_ hlp
          have k2 : w2.cell? ⟨b2, o2, none⟩ = some (.int .u8 (d.toNat : Int)) := hc2 0 d (by rw [HL.out]; rfl)
          have HC := Lib.hid hc2
          clear hc2
          go_wp2
          go_loop [5, 38] (fun n i => ∃ k : Nat, k ≤ L.length ∧ i = .int .i64 k ∧ n = .int .u64 (val (L.take k) : Nat)) (fun _ i => L.length - (intOf i).toNat)
          case atStart => exact ⟨0, by omega, rfl, rfl⟩
          case round =>
            obtain ⟨k, hk, rfl, rfl⟩ := hrel
            by_cases hlt : k < L.length
            · have kc := HC.out k L[k] (List.getElem?_eq_getElem hlt)
              go_wp2
              go_round
              case rel =>
                refine ⟨k + 1, by omega, by go_num, ?_⟩
                rw [or_step _ _ (val_lt_seven _ (by simp; omega)), val_take_succ L k hlt]
              case measure => simp [intOf]; omega
            · go_wp2
              go_ret
              refine ⟨?_, hr2, grown_trans hg1 hg2⟩
              rw [List.take_of_length_le (by omega)]
              rfl
theorem count_some (most : Int) (h1 : most ≤ 9223372036854775807) (g : Nat) (S : Nat → Prop) (st : Option (List UInt8)) (w : World) (h : RD w g S st) :
    Calls Tryz.prog 128 #[.pointer (some ⟨g, 0, none⟩), .int .i64 most] w fun e w' => e = .returned (.int .i64 (cntOf most st).2) ∧ RD w' g S (cntOf most st).1 ∧ w.grownBy w' (some g) := by
  unfold cntOf
  obtain ⟨n, hn⟩ : ∃ n, n = (numOf st).2 := ⟨_, rfl⟩
  obtain ⟨st', hst'⟩ : ∃ s, s = (numOf st).1 := ⟨_, rfl⟩
  have hp : numOf st = (st', n) := by rw [hn, hst']
  have hc := num_some g S st w h
  rw [← hn, ← hst'] at hc
  rw [hp]
  simp only
  have HC := Lib.hid hc
  clear hc hn hst' hp
  by_cases h0 : most < 0
  · rw [if_pos (.inl h0)]
    go_enter Tryz.func128, Tryz.ntmps128
    go_wp2_with (first | (go_at_call 164; refine (HC.out).mono ?_; rintro e w1 ⟨rfl, hr, hg⟩) | (go_at_call 165; refine (fail_rd _ _ _ _ hr).mono ?_; rintro e w2 ⟨rfl, hr2, hg2⟩))
    go_ret
    exact ⟨rfl, hr2, grown_trans hg hg2⟩
  · by_cases hm : most < n
    · rw [if_pos (.inr hm)]
      have b0 : 0 ≤ most := by omega
      go_enter Tryz.func128, Tryz.ntmps128
      go_wp2_with (first | (go_at_call 164; refine (HC.out).mono ?_; rintro e w1 ⟨rfl, hr, hg⟩) | (go_at_call 165; refine (fail_rd _ _ _ _ hr).mono ?_; rintro e w2 ⟨rfl, hr2, hg2⟩))
      go_ret
      exact ⟨rfl, hr2, grown_trans hg hg2⟩
    · rw [if_neg (by omega)]
      have b0 : 0 ≤ most := by omega
      have b1 : (n : Int) ≤ most := by omega
      go_enter Tryz.func128, Tryz.ntmps128
      go_wp2_with (first | (go_at_call 164; refine (HC.out).mono ?_; rintro e w1 ⟨rfl, hr, hg⟩) | (go_at_call 165; refine (fail_rd _ _ _ _ hr).mono ?_; rintro e w2 ⟨rfl, hr2, hg2⟩))
      go_ret
      exact ⟨rfl, hr, hg⟩
theorem numOf_len (st : Option (List UInt8)) : ((numOf st).1.getD []).length ≤ (st.getD []).length := by
  unfold numOf
  split
  · split <;> simp
    omega
  · simp
theorem cntOf_len (most : Int) (st : Option (List UInt8)) : ((cntOf most st).1.getD []).length ≤ (st.getD []).length := by
  unfold cntOf
  split
  · simp
  · exact numOf_len st
theorem text_some (most : Int) (h1 : most ≤ 9223372036854775807) (g : Nat) (S : Nat → Prop) (st : Option (List UInt8)) (w : World) (h : RD w g S st) (hl : (st.getD []).length ≤ 140737488355328) :
    Calls Tryz.prog 127 #[.pointer (some ⟨g, 0, none⟩), .int .i64 most] w fun e w' => ∃ v, e = .returned v ∧ RD w' g S (txtOf most st).1 ∧
      w'.ownsRow w.heap.size 5 1 v (txtOf most st).2.length ((txtOf most st).2.map bv) ∧ w.grownBy w' (some g) := by
  have hc := count_some most h1 g S st w h
  have hcl := cntOf_len most st
  unfold txtOf
  generalize cntOf most st = r at hc hcl ⊢
  obtain ⟨st', n⟩ := r
  simp only at hc hcl ⊢
  have HC := Lib.hid hc
  have hl' : (st'.getD []).length ≤ 140737488355328 := by omega
  clear hc hcl hl
  go_enter Tryz.func127, Tryz.ntmps127
  go_wp2_with (first | (go_at_call 128; refine (HC.out).mono ?_; rintro e w1 ⟨rfl, hr, hg⟩) | (go_at_call 130; refine (take_rd _ _ _ _ _ hr hl').mono ?_; rintro e w2 ⟨v, rfl, hr2, hown, hg2⟩))
  go_ret
  exact ⟨_, rfl, hr2, own_base hown hg.size, grown_trans hg hg2⟩
end
end Go.Proofs.YteddmnoeljakpaaGreatDoor
