/-
  WaG: head, over the loaded program: the head of a log. No condition but what it names (the table roots among it).
  SeC: Get of sect, over the loaded program: its contract. No condition.
-/
import Derived.Test.YtgoifhpinoodgaaDoorWo26
import Derived.Test.YtgoifhpinoodgaaDoorWo15
import Derived.Deep.RegionHeld3
import Derived.Test.YtgoifhpinoodgaaDoorWo22
import Derived.Test.YtgoifhpinoodgaaDoorWo08
import Derived.RegionTactic

section
namespace Go.Proofs.YtgoifhpinoodgaaDoor
open Go.RowKit
set_option maxRecDepth 100000
set_option linter.unusedVariables false

/-- What a call hands back: a sector in new memory. -/
def SecAs (w : World) (l : List UInt8) (e : Ending) (w' : World) : Prop := ∃ v, e = .returned v ∧ w'.ownsRow w.heap.size 5 1 v l.length (l.map bv) ∧ Below w.heap.size w w'

set_option maxHeartbeats 2000000 in
/-- head. -/
theorem head_any (k : Nat) (hk : k < 65536) (S : Nat → Prop) (v : Value) (L : List (List UInt8)) (w : World) (h : LS w S v L) (ht : Tab w) (hlen : (catB L).length < 100000000000000000) :
    Calls Tryd.prog 53 #[.int .i64 k, v] w (SecAs w (headL k L)) := by
  have hof := of_any v L w h.lt ht hlen
  have hput := fun (W : World) (S : Nat → Prop) (v : Value) (h : BS W S v (numB k ++ sumB (catB L))) => put_sect 1 S v _ W h
  have hgood : putS 1 (numB k ++ sumB (catB L)) = (headL k L, 0) := Prod.ext rfl (put1_ok (by rw [head_body]; omega))
  rw [hgood] at hput
  have HRL := Lib.hid (headL_len k L)
  obtain ⟨ss, hss⟩ : ∃ ss, ss = sumB (catB L) := ⟨_, rfl⟩
  have HSL : Hid (ss.length = 32) := by show _ = _; rw [hss, sumB_length]
  rw [← hss] at hof hput
  have HSM : Hid ((ss.map bv).length = 32) := by show _ = _; rw [List.length_map]; exact HSL.out
  generalize headL k L = R at *
  obtain ⟨i0, ib, hz0, hz1, hz2⟩ := info_parts info_byte
  obtain ⟨A, c, rfl, _⟩ := h.form
  clear hgood hss h ht hlen
  go_enter Tryd.func53, Tryd.ntmps53
  go_wp2_with fail
  refine hof.mono ?_
  rintro e w1 ⟨rfl, b1⟩
  have K0 : KB (w1.alloc (.cells (z32.map bv).toArray 71)) w1.heap.size 71 (z32.map bv).toArray := KB.new _ _ _
  have B0 := b1.alloc b1.size (.cells (z32.map bv).toArray 71)
  go_wp2_with (rw [row32]; refine wpList_store_kb rfl 71 (.tmp 5) (.tmp 9) rfl w1.heap.size (ss.map bv) rfl rfl 71 _ K0 32 (by kernel_rfl) z32_length HSM.out (bytes_one _) ?_; intro w2 k2 g2)
  have B2 := B0.grown g2 B0.size fun g e => by injection e with e; have := b1.size; omega
  obtain ⟨w3, hw3⟩ : ∃ w3, w3 = w2.drew := ⟨_, rfl⟩
  have K3 : KB w3 w1.heap.size 71 (ss.map bv).toArray := by rw [hw3]; exact k2.drewN 1
  have B3 : Below w.heap.size w w3 := by rw [hw3]; exact Below_drawn B2 1
  have B30 := B3
  clear hof b1 K0 B0 k2 g2 B2
  go_frame
  refine wp_region_held_drew (S := (fun _ => True)) (by kernel_rfl) trivial (fun hHeld => ?_)
  rw [← hw3]
  clear hw3
  refine held_yes (o := ⟨some 11, _, _, _, _, _⟩) (v := ?_) 0 rfl (by kernel_rfl) (by kernel_rfl) (by kernel_rfl) (fun _ _ _ h => h) (by rfl) hHeld (fun w hSw => ?_) ?_
  rotate_left
  · (try dsimp only at hSw)
    go_simp
    with_reducible rfl
  go_frame
  refine held_yes (o := ⟨some 13, _, _, _, _, _⟩) (v := ?_) 2 rfl (by kernel_rfl) (by kernel_rfl) (by kernel_rfl) (fun _ _ _ h => h) (by rfl) hHeld (fun w hSw => ?_) ?_
  rotate_left
  · (try dsimp only at hSw)
    go_simp
    with_reducible rfl
  go_frame
  refine held_one (o := ⟨some 12, _, _, _, _, _⟩) 1 (by kernel_rfl) rfl (by rfl) (fun K hK => ?_)
  go_simp
  go_at_call 68
  refine (number_any k _ hk).mono ?_
  rintro e w5 ⟨v5, rfl, how5, b5⟩
  replace K3 := K3.below b5 K3.lt
  have Q5 := K3.bs (n := 32) HSL.out (by simp [maxLen])
  replace B3 := B3.trans (b5.mono B3.size)
  have hs5 := b5.size
  clear b5
  go_wp2_with fail
  refine hK.out _ _ ?_ (fun hH2 => ?_)
  · trivial
  clear hHeld hK K
  have hHeld := hH2
  clear hH2
  try go_frame
  refine held_one (o := ⟨some 14, _, _, _, _, _⟩) 3 (by kernel_rfl) rfl (by rfl) (fun K hK => ?_)
  refine wp_grow _ _ _ rfl w3.heap.size 5 i0 Tryd.underlying34 ib hz0 hz1 hz2 v5 (numB k) rfl how5 _ _ ss rfl Q5 (by have := HSL.out; simp [numB]; omega) hs5 ?_
  intro v6 w6 how6 g6 _
  have b6 := B3.grown g6 B3.size fun g e => by have := own_ge how5 g e; have := B30.size; omega
  have q6 := own_BS how6
  refine hK.out _ _ ?_ (fun hH2 => ?_)
  · trivial
  clear hHeld hK K
  have hHeld := hH2
  clear hH2
  try go_frame
  refine held_one (o := ⟨some 15, _, _, _, _, _⟩) 4 (by kernel_rfl) rfl (by rfl) (fun K hK => ?_)
  go_simp
  go_at_call 69
  refine (hput _ _ _ q6).mono ?_
  rintro e w7 ⟨v7, rfl, how7, b7⟩
  go_wp2_with fail
  refine hK.out _ _ ?_ (fun hH2 => ?_)
  · trivial
  clear hHeld hK K
  have hHeld := hH2
  clear hH2
  try go_frame
  refine held_yes (o := ⟨some 10, _, _, _, _, _⟩) (v := ?_) 5 rfl (by kernel_rfl) (by kernel_rfl) (by kernel_rfl) (fun _ _ _ h => h) (by rfl) hHeld (fun w hSw => ?_) ?_
  rotate_left
  · (try dsimp only at hSw)
    go_simp
    with_reducible rfl
  go_frame
  refine held_yes (o := ⟨some 16, _, _, _, _, _⟩) (v := ?_) 6 rfl (by kernel_rfl) (by kernel_rfl) (by kernel_rfl) (fun _ _ _ h => h) (by rfl) hHeld (fun w hSw => ?_) ?_
  rotate_left
  · (try dsimp only at hSw)
    go_simp
    with_reducible rfl
  go_frame
  refine held_yes (o := ⟨some 6, _, _, _, _, _⟩) (v := ?_) 8 rfl (by kernel_rfl) (by kernel_rfl) (by kernel_rfl) (fun _ _ _ h => h) (by rfl) hHeld (fun w hSw => ?_) ?_
  rotate_left
  · (try dsimp only at hSw)
    go_simp
    with_reducible rfl
  go_frame
  refine held_yes (o := ⟨some 17, _, _, _, _, _⟩) (v := ?_) 7 rfl (by kernel_rfl) (by kernel_rfl) (by kernel_rfl) (fun _ _ _ h => h) (by rfl) hHeld (fun w hSw => ?_) ?_
  rotate_left
  · (try dsimp only at hSw)
    go_simp
    with_reducible rfl
  go_frame
  refine held_yes (o := ⟨some 7, _, _, _, _, _⟩) (v := ?_) 9 rfl (by kernel_rfl) (by kernel_rfl) (by kernel_rfl) (fun _ _ _ h => h) (by rfl) hHeld (fun w hSw => ?_) ?_
  rotate_left
  · (try dsimp only at hSw)
    go_simp
    with_reducible rfl
  go_frame
  refine wpAnyH_done (by kernel_rfl) ?_ _

  have BF := b6.trans (b7.mono b6.size)
  go_wp2
  go_ret
  exact ⟨v7, rfl, own_base how7 b6.size, BF⟩
end Go.Proofs.YtgoifhpinoodgaaDoor
end

section
namespace Go.Proofs.YtgoifhpinoodgaaDoor
open Go.RowKit Gau
set_option maxRecDepth 100000
set_option linter.unusedVariables false

/-- What Get hands back: a number, bytes in new memory, and a number. -/
def GetAs (w : World) (r : Int × List UInt8 × Int) (e : Ending) (w' : World) : Prop :=
  ∃ v, e = .returned (.tuple #[.int .i64 r.1, v, .int .i64 r.2.2]) ∧ w'.ownsRow w.heap.size 5 1 v r.2.1.length (r.2.1.map bv) ∧ Below w.heap.size w w'

theorem get_none (w w' : World) (n : Int) (h : Below w.heap.size w w') : GetAs w (0, [], n) (.returned (.tuple #[.int .i64 0, .slice none 0 0, .int .i64 n])) w' := ⟨_, rfl, World.ownsRow_nil _ _ _ _, h⟩

theorem get_arg (S : Nat → Prop) (v : Value) (l : List UInt8) (hl : l.length ≠ 256) (w : World) (h : BS w S v l) :
    Calls Tryd.prog 78 #[v] w (GetAs w (0, [], 1)) := by
  obtain ⟨A, c, rfl, _⟩ := h.form
  have hn := get_none w w 1 (Below.refl _ _)
  have h1 : ¬ (l.length : Int) = 256 := by omega
  clear h
  go_enter Tryd.func78, Tryd.ntmps78
  go_wp2
  apply wp_scope_goto (w1 := w) 0 rfl
  case first =>
    go_wp2
    go_step3
    exact ⟨rfl, rfl, rfl⟩
  case pass =>
    go_wp2
    go_ret3
    exact hn

theorem get_zero (S : Nat → Prop) (v : Value) (w : World) (h : BS w S v (zs 256)) :
    Calls Tryd.prog 78 #[v] w (GetAs w (0, [], 5)) := by
  have hz := empty_any S v _ w h
  rw [decide_eq_true rfl] at hz
  obtain ⟨A, c, rfl, _⟩ := h.form
  have hn := fun w' => get_none w w' 5
  have h1 := zs_len 256
  clear h
  generalize (zs 256).length = n at *
  subst h1
  go_enter Tryd.func78, Tryd.ntmps78
  go_wp2
  apply wp_scope_goto_any (α := Value) (R := fun w' => Below w.heap.size w w') 0 rfl
  case first =>
    go_wp2_with fail
    refine hz.mono ?_
    rintro e w1 ⟨rfl, b1⟩
    go_wp2
    go_step3
    obtain ⟨v0, hv0⟩ : ∃ v : Value, v = undef := ⟨_, rfl⟩
    exact ⟨rfl, b1, v0, rfl⟩
  case pass =>
    intro x w1 hr
    go_wp2
    go_ret3
    exact hn _ hr

/-- The first three bytes of a sector, where they lie. -/
theorem three_cells {w : World} {S : Nat → Prop} {A : Option Addr} {c : Nat} {l : List UInt8} (h : BS w S (.slice A l.length c) l) (hl : l.length = 256) :
    ∃ b o, A = some ⟨b, o, none⟩ ∧ w.cell? ⟨b, o, none⟩ = some (.int .u8 ((l.getD 0 0).toNat : Int)) ∧ w.cell? ⟨b, o + 1, none⟩ = some (.int .u8 ((l.getD 1 0).toNat : Int)) ∧ w.cell? ⟨b, o + 2, none⟩ = some (.int .u8 ((l.getD 2 0).toNat : Int)) := by
  obtain ⟨b, o, rfl, _, _, hc⟩ := h.at_ (by omega)
  have hg : ∀ i, i < 256 → l[i]? = some (l.getD i 0) := fun i hi => by rw [List.getD_eq_getElem?_getD, List.getElem?_eq_getElem (by omega)]; rfl
  exact ⟨b, o, rfl, hc 0 _ (hg 0 (by omega)), hc 1 _ (hg 1 (by omega)), hc 2 _ (hg 2 (by omega))⟩

theorem get_far (S : Nat → Prop) (v : Value) (l : List UInt8) (hl : l.length = 256) (hz : l ≠ zs 256) (hf : 249 < lenS l) (w : World) (h : BS w S v l) :
    Calls Tryd.prog 78 #[v] w (GetAs w (0, [], 17)) := by
  have hz := empty_any S v _ w h
  rw [decide_eq_false (by assumption)] at hz
  obtain ⟨A, c, rfl, _⟩ := h.form
  obtain ⟨b, o, rfl, _⟩ := three_cells h hl
  have hq := fun w' (hb : Below w.heap.size w w') => three_cells (h.below' hb) hl
  have hn := fun w' => get_none w w' 17
  have u0 := (l.getD 0 0).toNat_lt
  have u1 := (l.getD 1 0).toNat_lt
  have u2 := (l.getD 2 0).toNat_lt
  unfold lenS at hf
  generalize (l.getD 0 0).toNat = x0 at *
  generalize (l.getD 1 0).toNat = x1 at *
  generalize (l.getD 2 0).toNat = x2 at *
  have hgt : (252 : Int) < 3 + x1 * 256 + x2 := by omega
  clear h
  rw [hl] at *
  go_enter Tryd.func78, Tryd.ntmps78
  go_wp2
  apply wp_scope_goto_any (α := Value) (R := fun w' => Below w.heap.size w w') 0 rfl
  case first =>
    go_wp2_with fail
    refine hz.mono ?_
    rintro e w1 ⟨rfl, b1⟩
    obtain ⟨_, _, ea, q0, q1, q2⟩ := hq w1 b1
    injection ea with ea
    injection ea with ea eo
    subst ea eo
    go_wp2
    go_region
    go_wp2
    go_step3
    obtain ⟨v0, hv0⟩ : ∃ v : Value, v = undef := ⟨_, rfl⟩
    exact ⟨rfl, Below_drawn b1 1, v0, rfl⟩
  case pass =>
    intro x w1 hr
    go_wp2
    go_ret3
    exact hn _ hr

theorem BS.mid {w : World} {S : Nat → Prop} {b o c : Nat} {l : List UInt8} (h : BS w S (.slice (some ⟨b, o, none⟩) l.length c) l) (k n : Nat) (hk : k + n ≤ l.length) (hc : c ≠ k) : BS w S (.slice (some ⟨b, o + k, none⟩) n (c - k)) ((l.drop k).take n) := by
  have h1 := h.drop k (by omega)
  rw [if_neg hc] at h1
  exact h1.take n (by rw [List.length_drop]; omega)

set_option maxRecDepth 100000 in
theorem get_near (S : Nat → Prop) (v : Value) (l : List UInt8) (hl : l.length = 256) (hz : l ≠ zs 256) (hf : ¬ 249 < lenS l) (w : World) (h : BS w S v l) :
    Calls Tryd.prog 78 #[v] w (GetAs w (if (putS (kindS l) (bodyS l)).1 = l then ((kindS l : Int), bodyS l, 0) else (0, [], 17))) := by
  have hz := empty_any S v _ w h
  rw [decide_eq_false (by assumption)] at hz
  obtain ⟨A, c, rfl, hlc, hcm, _⟩ := h.form
  obtain ⟨b, o, rfl, _⟩ := three_cells h hl
  have hq := fun w' (hb : Below w.heap.size w w') => three_cells (h.below' hb) hl
  have hn := fun w' => get_none w w' 17
  have u0 := (l.getD 0 0).toNat_lt
  have u1 := (l.getD 1 0).toNat_lt
  have u2 := (l.getD 2 0).toNat_lt
  have hlen : (l.getD 1 0).toNat * 256 + (l.getD 2 0).toNat = lenS l := rfl
  have hkind : (l.getD 0 0).toNat = kindS l := rfl
  rw [hkind] at u0
  have hpart : ∀ w', Below w.heap.size w w' → BS w' S (.slice (some ⟨b, o + 3, none⟩) (lenS l) (c - 3)) (bodyS l) := fun w' hb =>
    (h.below' hb).mid 3 (lenS l) (by omega) (by omega)
  have hblen : (bodyS l).length = lenS l := by unfold bodyS; rw [List.length_take, List.length_drop]; omega
  have hwhole : ∀ w', Below w.heap.size w w' → BS w' S (.slice (some ⟨b, o, none⟩) 256 c) l := fun w' hb => by
    have := h.below' hb
    rwa [hl] at this
  rw [hkind] at hq
  obtain ⟨r, hr⟩ : ∃ r : Int × List UInt8 × Int, r = if (putS (kindS l) (bodyS l)).1 = l then ((kindS l : Int), bodyS l, 0) else (0, [], 17) := ⟨_, rfl⟩
  rw [← hr]
  generalize lenS l = n at *
  generalize kindS l = x0 at *
  generalize bodyS l = body at *
  generalize (l.getD 1 0).toNat = x1 at *
  generalize (l.getD 2 0).toNat = x2 at *
  have E : (3 + x1 * 256 + x2 : Int) = ((n + 3 : Nat) : Int) := by omega
  have hle : ((n + 3 : Nat) : Int) ≤ 252 := by omega
  have hput := fun w' (hb : Below w.heap.size w w') => put_sect x0 S _ body w' (hpart w' hb)
  rw [hl] at hz ⊢
  have HE := Lib.hid E
  have HF := Lib.hid hf
  have hc1 : (n : Int) + 3 ≤ c := by omega
  have hc2 : ¬ c = 3 := by omega
  have hc3 : (0 : Int) ≤ (n : Int) + 3 := by omega
  have hc4 : (3 : Int) ≤ (n : Int) + 3 := by omega
  have hbl : body.length ≤ 140737488355328 := by omega
  have HB := Lib.hid hbl
  generalize putS x0 body = r0 at *
  have hyes : r0.1 = l → r = ((x0 : Int), body, 0) := fun e => by rw [hr, if_pos e]
  have hno : r0.1 ≠ l → r = (0, [], 17) := fun e => by rw [hr, if_neg e]
  have HY := Lib.hid hyes
  have HN := Lib.hid hno
  clear E hf hlen hl h hr hyes hno hblen hbl hlc hcm
  go_enter Tryd.func78, Tryd.ntmps78
  go_wp2
  apply wp_scope_goto_any (α := Value) (R := fun w' => Below w.heap.size w w' ∧ ¬ r0.1 = l) 0 rfl
  case first =>
    go_wp2_with fail
    refine hz.mono ?_
    rintro e w1 ⟨rfl, b1⟩
    obtain ⟨_, _, ea, q0, q1, q2⟩ := hq w1 b1
    injection ea with ea
    injection ea with ea eo
    subst ea eo
    go_wp2
    go_region
    rw [HE.out]
    go_wp2_with fail
    refine (hput _ (Below_drawn b1 1)).mono ?_
    rintro e w2 ⟨v2, rfl, how2, b2⟩
    have B2 := (Below_drawn b1 1).trans (b2.mono (Below_drawn b1 1).size)
    have heq := equal_any _ _ _ _ _ _ w2 (own_BS how2) (hwhole w2 B2)
    clear q0 q1 q2 how2 b1 b2
    by_cases hcase : r0.1 = l
    · rw [decide_eq_true hcase] at heq
      go_wp2_with fail
      refine heq.mono ?_
      rintro e w' ⟨rfl, rfl⟩
      go_wp2_with fail
      refine (clone2_any _ _ body w2 (hpart w2 B2) HB.out).mono ?_
      rintro e w3 ⟨v3, rfl, how3, b3⟩
      go_wp2
      go_ret3
      rw [HY.out hcase]
      exact ⟨v3, rfl, own_base how3 B2.size, B2.trans (b3.mono B2.size)⟩
    · rw [decide_eq_false hcase] at heq
      go_wp2_with fail
      refine heq.mono ?_
      rintro e w' ⟨rfl, rfl⟩
      go_wp2
      go_step3
      exact ⟨rfl, ⟨B2, hcase⟩, v2, rfl⟩
  case pass =>
    intro x w1 hr
    go_wp2
    go_ret3
    rw [HN.out hr.2]
    exact hn _ hr.1

theorem get_sect (S : Nat → Prop) (v : Value) (l : List UInt8) (w : World) (h : BS w S v l) :
    Calls Tryd.prog 78 #[v] w (GetAs w (getS l)) := by
  unfold getS
  split
  · rename_i hl
    split
    · rename_i hz
      subst hz
      exact get_zero S v w h
    · rename_i hz
      split
      · rename_i hf
        exact get_far S v l hl hz hf w h
      · rename_i hf
        exact get_near S v l hl hz hf w h
  · rename_i hl
    exact get_arg S v l hl w h
end Go.Proofs.YtgoifhpinoodgaaDoor
end
