/-
  SeG: The document's own Get (layer 9), over the loaded program: its contract. No condition.
-/
import Derived.Test.YtgoifhpinoodgaaDoorWo39

section
namespace Go.Proofs.YtgoifhpinoodgaaDoor
open Go.RowKit Gau
set_option maxRecDepth 100000
set_option linter.unusedVariables false

theorem putS_err {k : Int} {b : List UInt8} (h : (putS k b).2 ≠ 0) : (putS k b).1 = [] := by
  unfold putS at h ⊢
  split
  · rfl
  · rename_i h1
    split
    · rfl
    · rename_i h2
      rw [if_neg h1, if_neg h2] at h
      exact absurd rfl h

theorem rget_arg (S : Nat → Prop) (v : Value) (l : List UInt8) (hl : l.length ≠ 256) (w : World) (h : BS w S v l) :
    Calls Tryd.prog 63 #[v] w (GetAs w (0, [], 1)) := by
  obtain ⟨A, c, rfl, _⟩ := h.form
  have hn := get_none w w 1 (Below.refl _ _)
  have h1 : ¬ (l.length : Int) = 256 := by omega
  clear h
  go_enter Tryd.func63, Tryd.ntmps63
  go_wp2
  go_ret3
  exact hn

theorem rget_zero (S : Nat → Prop) (v : Value) (w : World) (h : BS w S v (zs 256)) :
    Calls Tryd.prog 63 #[v] w (GetAs w (0, [], 5)) := by
  have hz := rempty_any S v _ w h
  rw [decide_eq_true rfl] at hz
  obtain ⟨A, c, rfl, _⟩ := h.form
  have hn := fun w' => get_none w w' 5
  have h1 := zs_len 256
  clear h
  generalize (zs 256).length = n at *
  subst h1
  go_enter Tryd.func63, Tryd.ntmps63
  go_wp2_with fail
  refine hz.mono ?_
  rintro e w1 ⟨rfl, b1⟩
  go_wp2
  go_ret3
  exact hn _ b1

theorem rget_far (S : Nat → Prop) (v : Value) (l : List UInt8) (hl : l.length = 256) (hz : l ≠ zs 256) (hf : 249 < lenS l) (w : World) (h : BS w S v l) :
    Calls Tryd.prog 63 #[v] w (GetAs w (0, [], 17)) := by
  have hz := rempty_any S v _ w h
  rw [decide_eq_false (by assumption)] at hz
  obtain ⟨A, c, rfl, _⟩ := h.form
  obtain ⟨b, o, rfl, _⟩ := three_cells h hl
  have hq := fun w' (hb : Below w.heap.size w w') => three_cells (h.below' hb) hl
  have hn := fun w' => get_none w w' 17
  have u1 := (l.getD 1 0).toNat_lt
  have u2 := (l.getD 2 0).toNat_lt
  unfold lenS at hf
  generalize (l.getD 0 0).toNat = x0 at *
  generalize (l.getD 1 0).toNat = x1 at *
  generalize (l.getD 2 0).toNat = x2 at *
  have hgt : (249 : Int) < x1 * 256 + x2 := by omega
  clear h
  rw [hl] at *
  go_enter Tryd.func63, Tryd.ntmps63
  go_wp2_with fail
  refine hz.mono ?_
  rintro e w1 ⟨rfl, b1⟩
  obtain ⟨_, _, ea, q0, q1, q2⟩ := hq w1 b1
  injection ea with ea
  injection ea with ea eo
  subst ea eo
  go_wp2
  go_region
  go_wp2
  go_ret3
  exact hn _ (Below_drawn b1 1)

set_option maxRecDepth 100000 in
theorem rget_near (S : Nat → Prop) (v : Value) (l : List UInt8) (hl : l.length = 256) (hz : l ≠ zs 256) (hf : ¬ 249 < lenS l) (w : World) (h : BS w S v l) :
    Calls Tryd.prog 63 #[v] w (GetAs w (if (putS (kindS l) (bodyS l)).1 = l then ((kindS l : Int), bodyS l, 0) else (0, [], 17))) := by
  have hz := rempty_any S v _ w h
  rw [decide_eq_false (by assumption)] at hz
  obtain ⟨A, c, rfl, hlc, hcm, _⟩ := h.form
  obtain ⟨b, o, rfl, _⟩ := three_cells h hl
  have hq := fun w' (hb : Below w.heap.size w w') => three_cells (h.below' hb) hl
  have hn := fun w' => get_none w w' 17
  have u0 := (l.getD 0 0).toNat_lt
  have u1 := (l.getD 1 0).toNat_lt
  have u2 := (l.getD 2 0).toNat_lt
  have hlen : (l.getD 1 0).toNat * 256 + (l.getD 2 0).toNat = lenS l := rfl
  have hkind : (l.getD 0 0).toNat = kindS l := rfl
  rw [hkind] at u0
  have hpart : ∀ w', Below w.heap.size w w' → BS w' S (.slice (some ⟨b, o + 3, none⟩) (lenS l) (c - 3)) (bodyS l) := fun w' hb =>
    (h.below' hb).mid 3 (lenS l) (by omega) (by omega)
  have hblen : (bodyS l).length = lenS l := by unfold bodyS; rw [List.length_take, List.length_drop]; omega
  have hwhole : ∀ w', Below w.heap.size w w' → BS w' S (.slice (some ⟨b, o, none⟩) 256 c) l := fun w' hb => by
    have := h.below' hb
    rwa [hl] at this
  rw [hkind] at hq
  obtain ⟨r, hr⟩ : ∃ r : Int × List UInt8 × Int, r = if (putS (kindS l) (bodyS l)).1 = l then ((kindS l : Int), bodyS l, 0) else (0, [], 17) := ⟨_, rfl⟩
  rw [← hr]
  generalize lenS l = n at *
  generalize kindS l = x0 at *
  generalize bodyS l = body at *
  generalize (l.getD 1 0).toNat = x1 at *
  generalize (l.getD 2 0).toNat = x2 at *
  have E : (x1 * 256 + x2 : Int) = (n : Int) := by omega
  have hle : (n : Int) ≤ 249 := by omega
  have hput := fun w' S' v' (hb : BS w' S' v' body) => rput_sect x0 S' v' body w' hb
  have herr := fun e : (putS x0 body).2 ≠ 0 => show (putS x0 body).1 ≠ l by rw [putS_err e]; intro e2; rw [← e2] at hl; cases hl
  rw [hl] at hz ⊢
  have HE := Lib.hid E
  have HF := Lib.hid hf
  have hc1 : (3 : Int) + n ≤ c := by omega
  have hc2 : ¬ c = 3 := by omega
  have hc3 : (0 : Int) ≤ 3 + (n : Int) := by omega
  have hc4 : (3 : Int) ≤ 3 + (n : Int) := by omega
  have hbl : body.length ≤ 140737488355328 := by omega
  have HB := Lib.hid hbl
  generalize putS x0 body = r0 at *
  obtain ⟨p0, e0⟩ := r0
  dsimp only at hr herr
  have hyes : p0 = l → r = ((x0 : Int), body, 0) := fun e => by rw [hr, if_pos e]
  have hno : p0 ≠ l → r = (0, [], 17) := fun e => by rw [hr, if_neg e]
  have HY := Lib.hid hyes
  have HN := Lib.hid hno
  have HR := Lib.hid herr
  have H0 := Lib.hid hq
  clear E hf hlen hl h hr hyes hno hblen hbl hlc hcm herr
  go_enter Tryd.func63, Tryd.ntmps63
  go_wp2_with fail
  refine hz.mono ?_
  rintro e w1 ⟨rfl, b1⟩
  obtain ⟨_, _, ea, q0, q1, q2⟩ := hq w1 b1
  injection ea with ea
  injection ea with ea eo
  subst ea eo
  go_wp2
  go_region
  rw [HE.out]
  go_wp2_with fail
  refine (copy_any _ _ body _ (hpart _ (Below_drawn b1 1)) HB.out).mono ?_
  rintro e w2 ⟨v2, rfl, how2, b2⟩
  have B2 := (Below_drawn b1 1).trans (b2.mono (Below_drawn b1 1).size)
  have O2 := own_base how2 (Below_drawn b1 1).size
  clear q0 q1 q2 b1 b2 how2
  obtain ⟨_, _, ea, q0, q1, q2⟩ := hq w2 B2
  injection ea with ea
  injection ea with ea eo
  subst ea eo
  clear q1 q2
  go_wp2_with fail
  refine (hput w2 _ v2 (own_BS O2)).mono ?_
  rintro e w3 ⟨v3, rfl, how3, b3⟩
  have B3 := B2.trans (b3.mono B2.size)
  replace O2 := own_past b3 O2
  have hs := same_is _ _ _ _ _ _ w3 (own_BS how3) (hwhole w3 B3)
  clear hq q0 hput how3 b3 B2 hwhole hpart
  by_cases he : e0 = 0
  · subst he
    by_cases hp : p0 = l
    · have e := HY.out hp
      rw [decide_eq_true hp] at hs
      go_wp2_with fail
      refine hs.mono ?_
      rintro e w4 ⟨rfl, b4⟩
      replace O2 := own_past b4 O2
      have B4 := B3.trans (b4.mono B3.size)
      obtain ⟨b5, o5, ea, q5, _, _⟩ := H0.out w4 B4
      injection ea with ea
      injection ea with ea eo
      subst ea eo
      go_wp2
      go_ret3
      rw [HY.out hp]
      exact ⟨v2, rfl, O2, B4⟩
    · have e := HN.out hp
      rw [decide_eq_false hp] at hs
      go_wp2_with fail
      refine hs.mono ?_
      rintro e w4 ⟨rfl, b4⟩
      have B4 := B3.trans (b4.mono B3.size)
      go_wp2
      go_ret3
      rw [HN.out hp]
      exact hn _ B4
  · have hp := HR.out he
    have hne1 : decide (e0 = 0) = false := decide_eq_false he
    have hne2 : (e0 != 0) = true := bne_iff_ne.2 he
    have hne3 : (e0 == 0) = false := beq_eq_false_iff_ne.2 he
    go_wp2_with fail
    go_ret3
    rw [HN.out hp]
    exact hn _ B3

theorem rget_sect (S : Nat → Prop) (v : Value) (l : List UInt8) (w : World) (h : BS w S v l) :
    Calls Tryd.prog 63 #[v] w (GetAs w (getS l)) := by
  unfold getS
  split
  · rename_i hl
    split
    · rename_i hz
      subst hz
      exact rget_zero S v w h
    · rename_i hz
      split
      · rename_i hf
        exact rget_far S v l hl hz hf w h
      · rename_i hf
        exact rget_near S v l hl hz hf w h
  · rename_i hl
    exact rget_arg S v l hl w h
end Go.Proofs.YtgoifhpinoodgaaDoor
end
