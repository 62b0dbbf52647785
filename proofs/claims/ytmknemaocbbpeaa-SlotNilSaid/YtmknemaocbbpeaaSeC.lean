/-
  Get of sect, over the loaded program: its contract. No condition.
-/
import Derived.Test.YtmknemaocbbpeaaSeB
import Derived.Test.YtmknemaocbbpeaaClone
import Derived.RegionTactic
namespace Go.Proofs.Ytmknemaocbbpeaa
open Go.RowKit Gau
set_option maxRecDepth 100000
set_option linter.unusedVariables false

/-- What Get hands back: a number, bytes in new memory, and a number. -/
def GetAs (w : World) (r : Int × List UInt8 × Int) (e : Ending) (w' : World) : Prop :=
  ∃ v, e = .returned (.tuple #[.int .i64 r.1, v, .int .i64 r.2.2]) ∧ w'.ownsRow w.heap.size 5 1 v r.2.1.length (r.2.1.map bv) ∧ Below w.heap.size w w'

theorem get_none (w w' : World) (n : Int) (h : Below w.heap.size w w') : GetAs w (0, [], n) (.returned (.tuple #[.int .i64 0, .slice none 0 0, .int .i64 n])) w' := ⟨_, rfl, World.ownsRow_nil _ _ _ _, h⟩

theorem get_arg (S : Nat → Prop) (v : Value) (l : List UInt8) (hl : l.length ≠ 256) (w : World) (h : BS w S v l) :
    Calls Try.prog 30 #[v] w (GetAs w (0, [], 1)) := by
  obtain ⟨A, c, rfl, _⟩ := h.form
  have hn := get_none w w 1 (Below.refl _ _)
  have h1 : ¬ (l.length : Int) = 256 := by omega
  clear h
  go_enter Try.func30, Try.ntmps30
  go_wp2
  apply wp_scope_goto (w1 := w) 0 rfl
  case first =>
    go_wp2
    go_step3
    exact ⟨rfl, rfl, rfl⟩
  case pass =>
    go_wp2
    go_ret3
    exact hn

theorem get_zero (S : Nat → Prop) (v : Value) (w : World) (h : BS w S v (zs 256)) :
    Calls Try.prog 30 #[v] w (GetAs w (0, [], 5)) := by
  have hz := empty_any S v _ w h
  rw [decide_eq_true rfl] at hz
  obtain ⟨A, c, rfl, _⟩ := h.form
  have hn := fun w' => get_none w w' 5
  have h1 := zs_len 256
  clear h
  generalize (zs 256).length = n at *
  subst h1
  go_enter Try.func30, Try.ntmps30
  go_wp2
  apply wp_scope_goto_any (α := Value) (R := fun w' => Below w.heap.size w w') 0 rfl
  case first =>
    go_wp2_with fail
    refine hz.mono ?_
    rintro e w1 ⟨rfl, b1⟩
    go_wp2
    go_step3
    obtain ⟨v0, hv0⟩ : ∃ v : Value, v = undef := ⟨_, rfl⟩
    exact ⟨rfl, b1, v0, rfl⟩
  case pass =>
    intro x w1 hr
    go_wp2
    go_ret3
    exact hn _ hr

/-- The first three bytes of a sector, where they lie. -/
theorem three_cells {w : World} {S : Nat → Prop} {A : Option Addr} {c : Nat} {l : List UInt8} (h : BS w S (.slice A l.length c) l) (hl : l.length = 256) :
    ∃ b o, A = some ⟨b, o, none⟩ ∧ w.cell? ⟨b, o, none⟩ = some (.int .u8 ((l.getD 0 0).toNat : Int)) ∧ w.cell? ⟨b, o + 1, none⟩ = some (.int .u8 ((l.getD 1 0).toNat : Int)) ∧ w.cell? ⟨b, o + 2, none⟩ = some (.int .u8 ((l.getD 2 0).toNat : Int)) := by
  obtain ⟨b, o, rfl, _, _, hc⟩ := h.at_ (by omega)
  have hg : ∀ i, i < 256 → l[i]? = some (l.getD i 0) := fun i hi => by rw [List.getD_eq_getElem?_getD, List.getElem?_eq_getElem (by omega)]; rfl
  exact ⟨b, o, rfl, hc 0 _ (hg 0 (by omega)), hc 1 _ (hg 1 (by omega)), hc 2 _ (hg 2 (by omega))⟩

theorem get_far (S : Nat → Prop) (v : Value) (l : List UInt8) (hl : l.length = 256) (hz : l ≠ zs 256) (hf : 249 < lenS l) (w : World) (h : BS w S v l) :
    Calls Try.prog 30 #[v] w (GetAs w (0, [], 17)) := by
  have hz := empty_any S v _ w h
  rw [decide_eq_false (by assumption)] at hz
  obtain ⟨A, c, rfl, _⟩ := h.form
  obtain ⟨b, o, rfl, _⟩ := three_cells h hl
  have hq := fun w' (hb : Below w.heap.size w w') => three_cells (h.below' hb) hl
  have hn := fun w' => get_none w w' 17
  have u0 := (l.getD 0 0).toNat_lt
  have u1 := (l.getD 1 0).toNat_lt
  have u2 := (l.getD 2 0).toNat_lt
  unfold lenS at hf
  generalize (l.getD 0 0).toNat = x0 at *
  generalize (l.getD 1 0).toNat = x1 at *
  generalize (l.getD 2 0).toNat = x2 at *
  have hgt : (252 : Int) < 3 + x1 * 256 + x2 := by omega
  clear h
  rw [hl] at *
  go_enter Try.func30, Try.ntmps30
  go_wp2
  apply wp_scope_goto_any (α := Value) (R := fun w' => Below w.heap.size w w') 0 rfl
  case first =>
    go_wp2_with fail
    refine hz.mono ?_
    rintro e w1 ⟨rfl, b1⟩
    obtain ⟨_, _, ea, q0, q1, q2⟩ := hq w1 b1
    injection ea with ea
    injection ea with ea eo
    subst ea eo
    go_wp2
    go_region
    go_wp2
    go_step3
    obtain ⟨v0, hv0⟩ : ∃ v : Value, v = undef := ⟨_, rfl⟩
    exact ⟨rfl, Below_drawn b1 1, v0, rfl⟩
  case pass =>
    intro x w1 hr
    go_wp2
    go_ret3
    exact hn _ hr

theorem BS.mid {w : World} {S : Nat → Prop} {b o c : Nat} {l : List UInt8} (h : BS w S (.slice (some ⟨b, o, none⟩) l.length c) l) (k n : Nat) (hk : k + n ≤ l.length) (hc : c ≠ k) : BS w S (.slice (some ⟨b, o + k, none⟩) n (c - k)) ((l.drop k).take n) := by
  have h1 := h.drop k (by omega)
  rw [if_neg hc] at h1
  exact h1.take n (by rw [List.length_drop]; omega)

set_option maxRecDepth 100000 in
theorem get_near (S : Nat → Prop) (v : Value) (l : List UInt8) (hl : l.length = 256) (hz : l ≠ zs 256) (hf : ¬ 249 < lenS l) (w : World) (h : BS w S v l) :
    Calls Try.prog 30 #[v] w (GetAs w (if (putS (kindS l) (bodyS l)).1 = l then ((kindS l : Int), bodyS l, 0) else (0, [], 17))) := by
  have hz := empty_any S v _ w h
  rw [decide_eq_false (by assumption)] at hz
  obtain ⟨A, c, rfl, hlc, hcm, _⟩ := h.form
  obtain ⟨b, o, rfl, _⟩ := three_cells h hl
  have hq := fun w' (hb : Below w.heap.size w w') => three_cells (h.below' hb) hl
  have hn := fun w' => get_none w w' 17
  have u0 := (l.getD 0 0).toNat_lt
  have u1 := (l.getD 1 0).toNat_lt
  have u2 := (l.getD 2 0).toNat_lt
  have hlen : (l.getD 1 0).toNat * 256 + (l.getD 2 0).toNat = lenS l := rfl
  have hkind : (l.getD 0 0).toNat = kindS l := rfl
  rw [hkind] at u0
  have hpart : ∀ w', Below w.heap.size w w' → BS w' S (.slice (some ⟨b, o + 3, none⟩) (lenS l) (c - 3)) (bodyS l) := fun w' hb =>
    (h.below' hb).mid 3 (lenS l) (by omega) (by omega)
  have hblen : (bodyS l).length = lenS l := by unfold bodyS; rw [List.length_take, List.length_drop]; omega
  have hwhole : ∀ w', Below w.heap.size w w' → BS w' S (.slice (some ⟨b, o, none⟩) 256 c) l := fun w' hb => by
    have := h.below' hb
    rwa [hl] at this
  rw [hkind] at hq
  obtain ⟨r, hr⟩ : ∃ r : Int × List UInt8 × Int, r = if (putS (kindS l) (bodyS l)).1 = l then ((kindS l : Int), bodyS l, 0) else (0, [], 17) := ⟨_, rfl⟩
  rw [← hr]
  generalize lenS l = n at *
  generalize kindS l = x0 at *
  generalize bodyS l = body at *
  generalize (l.getD 1 0).toNat = x1 at *
  generalize (l.getD 2 0).toNat = x2 at *
  have E : (3 + x1 * 256 + x2 : Int) = ((n + 3 : Nat) : Int) := by omega
  have hle : ((n + 3 : Nat) : Int) ≤ 252 := by omega
  have hput := fun w' (hb : Below w.heap.size w w') => put_sect x0 S _ body w' (hpart w' hb)
  rw [hl] at hz ⊢
  have HE := Lib.hid E
  have HF := Lib.hid hf
  have hc1 : (n : Int) + 3 ≤ c := by omega
  have hc2 : ¬ c = 3 := by omega
  have hc3 : (0 : Int) ≤ (n : Int) + 3 := by omega
  have hc4 : (3 : Int) ≤ (n : Int) + 3 := by omega
  have hbl : body.length ≤ 140737488355328 := by omega
  have HB := Lib.hid hbl
  generalize putS x0 body = r0 at *
  have hyes : r0.1 = l → r = ((x0 : Int), body, 0) := fun e => by rw [hr, if_pos e]
  have hno : r0.1 ≠ l → r = (0, [], 17) := fun e => by rw [hr, if_neg e]
  have HY := Lib.hid hyes
  have HN := Lib.hid hno
  clear E hf hlen hl h hr hyes hno hblen hbl hlc hcm
  go_enter Try.func30, Try.ntmps30
  go_wp2
  apply wp_scope_goto_any (α := Value) (R := fun w' => Below w.heap.size w w' ∧ ¬ r0.1 = l) 0 rfl
  case first =>
    go_wp2_with fail
    refine hz.mono ?_
    rintro e w1 ⟨rfl, b1⟩
    obtain ⟨_, _, ea, q0, q1, q2⟩ := hq w1 b1
    injection ea with ea
    injection ea with ea eo
    subst ea eo
    go_wp2
    go_region
    rw [HE.out]
    go_wp2_with fail
    refine (hput _ (Below_drawn b1 1)).mono ?_
    rintro e w2 ⟨v2, rfl, how2, b2⟩
    have B2 := (Below_drawn b1 1).trans (b2.mono (Below_drawn b1 1).size)
    have heq := equal_any _ _ _ _ _ _ w2 (own_BS how2) (hwhole w2 B2)
    clear q0 q1 q2 how2 b1 b2
    by_cases hcase : r0.1 = l
    · rw [decide_eq_true hcase] at heq
      go_wp2_with fail
      refine heq.mono ?_
      rintro e w' ⟨rfl, rfl⟩
      go_wp2_with fail
      refine (clone2_any _ _ body w2 (hpart w2 B2) HB.out).mono ?_
      rintro e w3 ⟨v3, rfl, how3, b3⟩
      go_wp2
      go_ret3
      rw [HY.out hcase]
      exact ⟨v3, rfl, own_base how3 B2.size, B2.trans (b3.mono B2.size)⟩
    · rw [decide_eq_false hcase] at heq
      go_wp2_with fail
      refine heq.mono ?_
      rintro e w' ⟨rfl, rfl⟩
      go_wp2
      go_step3
      exact ⟨rfl, ⟨B2, hcase⟩, v2, rfl⟩
  case pass =>
    intro x w1 hr
    go_wp2
    go_ret3
    rw [HN.out hr.2]
    exact hn _ hr.1

theorem get_sect (S : Nat → Prop) (v : Value) (l : List UInt8) (w : World) (h : BS w S v l) :
    Calls Try.prog 30 #[v] w (GetAs w (getS l)) := by
  unfold getS
  split
  · rename_i hl
    split
    · rename_i hz
      subst hz
      exact get_zero S v w h
    · rename_i hz
      split
      · rename_i hf
        exact get_far S v l hl hz hf w h
      · rename_i hf
        exact get_near S v l hl hz hf w h
  · rename_i hl
    exact get_arg S v l hl w h
end Go.Proofs.Ytmknemaocbbpeaa
