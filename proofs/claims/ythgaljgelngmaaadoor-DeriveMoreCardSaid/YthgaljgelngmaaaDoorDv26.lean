/-
  TpR: Parts, by the program; and when two rows of terms are told the same: each one's contract over the loaded program. No condition but what they name.
-/
import Derived.Test.YthgaljgelngmaaaDoorDv23
import Derived.Test.YthgaljgelngmaaaDoorDv07
import Derived.Test.YthgaljgelngmaaaDoorDv25
import Derived.Deep.RegionHeld3

section
namespace Go.Proofs.YthgaljgelngmaaaDoor
open Go.RowKit
set_option linter.unusedVariables false

theorem runs_parts1 (args : Array Value) (w : World) : (callFunc 41 args).run Tryd.prog w = .ok (.enter 41 args) w :=
  enters_of Tryd.func41 (by kernel_rfl) rfl args w

/-- What Parts answers. -/
def partsOf (f : Nat) (t : Tm f) : List UT := if mayT f t 8 = true then partsU f t else []

/-- A row of terms, of whatever depths. -/
def KU (w : World) (S : Nat → Prop) (v : Value) (us : List UT) : Prop := KS w S (fun (u : UT) => TM w S u.1 u.2) v us
theorem KU.keep {w w' : World} {S S' : Nat → Prop} {v : Value} {us : List UT} (h : KU w S v us) (hs : w.heap.size ≤ w'.heap.size) (hk : ∀ b, S b → b < w.heap.size → w'.heap[b]? = w.heap[b]?) (hS : ∀ b, S b → S' b) : KU w' S' v us := by
  have := KS.map (w' := w') (S' := S') (E' := fun (u : UT) => TM w' S' u.1 u.2) id h hs hk hS fun u d0 d1 d2 d3 hu => TM.keepS u.1 u.2 d0 d1 d2 d3 hu hs hk hS
  rwa [List.map_id] at this

set_option maxHeartbeats 1000000 in
theorem parts_any (S : Nat → Prop) (f : Nat) (t : Tm f) (v : Value) (w : World) (hS : ∀ b, S b → b < w.heap.size) (hsh : Shp w) (hv : TV w S f v t) :
    Calls Tryd.prog 22 #[v] w fun e w' => ∃ u, e = .returned u ∧ KU w' (fun b => b < w'.heap.size) u (partsOf f t) ∧ Below w.heap.size w w' := by
  obtain ⟨e0, e1, e2, e3, rfl, ht⟩ := hv
  obtain ⟨j0, j1, X2, n2, z2, X3, n3, z3, rfl, rfl, rfl, rfl⟩ := tm_form ht
  have tv : TV w S f (.agg #[.int .i64 j0, .int .u64 j1, .slice X2 n2 z2, .slice X3 n3 z3]) t := ⟨_, _, _, _, rfl, ht⟩
  have hchk := check_any S f t _ (w.alloc (.cells #[.int .i64 j0, .int .u64 j1, .slice X2 n2 z2, .slice X3 n3 z3] 35)) (fun b hb => by have := hS b hb; simp; omega) (hsh.alloc _) (tv.alloc _)
  have K0 := KB.new w 35 #[.int .i64 j0, .int .u64 j1, .slice X2 n2 z2, .slice X3 n3 z3]
  have B0 := (Below.refl w.heap.size w).alloc (Nat.le_refl _) (.cells #[.int .i64 j0, .int .u64 j1, .slice X2 n2 z2, .slice X3 n3 z3] 35)
  unfold partsOf
  cases hm : mayT f t 8 with
  | false =>
    rw [hm, if_neg (by simp)] at hchk
    rw [if_neg (by simp)]
    go_enter Tryd.func22, Tryd.ntmps22
    go_wp2_with fail
    refine hchk.mono ?_
    rintro e w5 ⟨rfl, b5⟩
    have B5 := B0.trans (b5.mono B0.size)
    clear hchk
    go_wp2_with fail
    go_ret
    exact ⟨_, rfl, ⟨none, 0, rfl, by simp, by simp [maxLen], fun _ => rfl, fun h => absurd h (by simp)⟩, B5⟩
  | true =>
    rw [hm, if_pos rfl] at hchk
    rw [if_pos rfl]
    have hle := parts_may hm
    have hfw := partsU_few f t (may_few f t 8 hm)
    have hea := fun (w5 : World) (b5 : Below (w.alloc (.cells #[.int .i64 j0, .int .u64 j1, .slice X2 n2 z2, .slice X3 n3 z3] 35)).heap.size (w.alloc (.cells #[.int .i64 j0, .int .u64 j1, .slice X2 n2 z2, .slice X3 n3 z3] 35)) w5) =>
      each_any 41 #[.pointer (some ⟨w5.heap.size, 0, none⟩)] (IQ w5.heap.size (w5.heap.size + 1)) (fun _ _ _ => true) (fun f (t : Nd (Tm f)) s => s ++ [(⟨f + 1, t⟩ : UT)]) (fun s => s.length ≤ 1000000 ∧ ∀ u ∈ s, few u.1 u.2) S (fun P w s o h => h.alloc o) (fun P Q w s h hq => h.mono hq) runs_parts1
        (fun f t s h => by rw [nxtU_parts, List.length_append] at h; exact ⟨by omega, fun u hu => h.2 u (List.mem_append_left _ hu)⟩)
        (fun f t v d s w P hd hP hS hg hsh hi hb hv => (parts1_any w5.heap.size (w5.heap.size + 1) S f t v d s w P hP hS hi (by have := hb.1; rw [List.length_append] at this; exact this) (hb.2 (⟨f + 1, t⟩ : UT) (List.mem_append_right _ (List.mem_singleton_self _))) hv).mono fun e w' hh => ⟨hh.1, fun _ => hh.2.1, hh.2.2⟩)
        f t _ [] (w5.alloc (.cells #[.slice none 0 0] 22)) (fun b => b < w5.heap.size) (fun b hb => by simp; omega) (fun b hb => by have := hS b hb; have := b5.size; simp at this; omega)
        (((hsh.alloc _).below b5).1) (((hsh.alloc _).below b5).alloc _)
        ⟨Nat.lt_irrefl _, Nat.lt_succ_self _, by simp, _, [], KB.new w5 _ _, World.ownsRow_nil _ _ _ _, (fun k hk => by simp [Value.ownBlock] at hk), QU.nil _ _⟩
        (by rw [nxtU_parts, List.nil_append]; exact ⟨by omega, hfw⟩) (((tv.alloc (.cells #[.int .i64 j0, .int .u64 j1, .slice X2 n2 z2, .slice X3 n3 z3] 35)).below' b5).alloc _)
    rw [okT_true, nxtU_parts, List.nil_append] at hea
    clear hm hle hfw tv ht hsh
    generalize partsU f t = L at *
    go_enter Tryd.func22, Tryd.ntmps22
    go_wp2_with fail
    refine hchk.mono ?_
    rintro e w5 ⟨rfl, b5⟩
    have B5 := B0.trans (b5.mono B0.size)
    have K5 := K0.below b5 K0.lt
    have hc := hea w5 b5
    have hz5 := K5.lt
    have q0 := K5.cell 0
    have q1 := K5.cell 1
    have q2 := K5.cell 2
    have q3 := K5.cell 3
    clear hea hchk
    go_wp2_with fail
    refine hc.mono ?_
    rintro e w7 ⟨rfl, hI7, hk7⟩
    obtain ⟨_, _, _, v7, qs, kg7, how7, _, hq7⟩ := hI7 (by trivial)
    have B7 := (B5.alloc (by have := B5.size; omega) (.cells #[.slice none 0 0] 22)).trans (hk7.to_below (B := w.heap.size) fun x hx => by omega)
    have hks := KU_of_own (S := fun b => b < w7.heap.size) how7 (hq7.keepS (Nat.le_refl _) (fun _ _ _ => rfl) fun b hb => hb.2.2) fun b _ h => h
    obtain ⟨A7, c7, rfl⟩ := own_form how7
    have qb : w7.cell? ⟨w5.heap.size, 0, none⟩ = some (.slice A7 qs.length c7) := kg7.cell 0
    clear hc q0 q1 q2 q3 hI7 hk7 b5 hq7 how7
    go_wp2_with fail
    go_ret
    exact ⟨_, rfl, hks, B7⟩

/-- An element of a row, where memory stands now. -/
theorem ks_at {w wr : World} {S : Nat → Prop} {α : Type} {E : α → Value → Value → Value → Value → Prop} {A : Option Addr} {n c : Nat} {us : List α} (h : KS w S E (.slice A n c) us) (hn : us.length = n) (hb : Below w.heap.size w wr) (j : Nat) (hj : j < us.length) :
    ∃ b o e0 e1 e2 e3, A = some ⟨b, o, none⟩ ∧ b < w.heap.size ∧ wr.cell? ⟨b, o + j * 4, none⟩ = some e0 ∧ wr.cell? ⟨b, o + j * 4 + 1, none⟩ = some e1 ∧ wr.cell? ⟨b, o + j * 4 + 2, none⟩ = some e2 ∧ wr.cell? ⟨b, o + j * 4 + 3, none⟩ = some e3 ∧ E us[j] e0 e1 e2 e3 := by
  subst hn
  obtain ⟨A', c', e, hl, hc, hz, hx⟩ := h
  injection e with e1 e2 e3
  subst e1 e3
  obtain ⟨b, o, rfl, sb, hlt, hx⟩ := hx (by omega)
  obtain ⟨e0, e1, e2, e3, k0, k1, k2, k3, ht⟩ := hx j us[j] (List.getElem?_eq_getElem hj)
  have hc := fun (x : Nat) => World.cell?_of_block (w := w) (w' := wr) (a := ⟨b, x, none⟩) (hb.block b hlt)
  exact ⟨b, o, e0, e1, e2, e3, rfl, hlt, (hc _).trans k0, (hc _).trans k1, (hc _).trans k2, (hc _).trans k3, ht⟩

set_option maxHeartbeats 2000000 in
theorem sameAll_yes (S S' : Nat → Prop) (F : Nat) (us : List UT) (ks : List (Tm F)) (v v' : Value) (w : World) (hu : KU w S v us) (hk : KS w S' (TM w S' F) v' ks) (hr : RL (fun (u : UT) (x : Tm F) => sim u.1 F u.2 x) us ks) :
    Calls Tryd.prog 10 #[v, v'] w fun e w' => e = .returned (.bool true) ∧ Below w.heap.size w w' := by
  have hlen := hr.len
  obtain ⟨A, c, rfl, hl, hm, _⟩ := id hu
  obtain ⟨A', c', rfl, _⟩ := id hk
  have hle : us.length ≤ 9223372036854775807 := by unfold maxLen at hm; omega
  have HL := Lib.hid hlen
  rw [← hlen] at hk ⊢
  clear hlen
  go_enter Tryd.func10, Tryd.ntmps10
  go_wp2_with fail
  go_loopw [5] (fun iv wr => ∃ j : Nat, j ≤ us.length ∧ iv = .int .i64 j ∧ Below w.heap.size w wr) (fun iv _ => us.length - (intOf iv).toNat)
  case atStart => exact ⟨0, by omega, rfl, Below.refl _ _⟩
  case round =>
    obtain ⟨j, hj, rfl, B⟩ := hrel
    by_cases hlt : j < us.length
    · have hlt' : j < ks.length := by have := HL.out; omega
      obtain ⟨b, o, e0, e1, e2, e3, rfl, hb, k0, k1, k2, k3, hv⟩ := ks_at hu rfl B j hlt
      obtain ⟨b', o', d0, d1, d2, d3, rfl, hb', m0, m1, m2, m3, hv'⟩ := ks_at hk HL.out.symm B j hlt'
      have hs := hr.at (List.getElem?_eq_getElem hlt) (List.getElem?_eq_getElem hlt')
      have t1 : TV wr.drew S F (.agg #[e0, e1, e2, e3]) ks[j] := ⟨_, _, _, _, rfl, TM.keepS F _ _ _ _ _ (TM.sim _ F _ ks[j] _ _ _ _ hs hv) B.size (fun b _ hlt => B.block b hlt) fun _ h => h⟩
      have t2 : TV wr.drew S' F (.agg #[d0, d1, d2, d3]) ks[j] := ⟨_, _, _, _, rfl, TM.keepS F _ _ _ _ _ hv' B.size (fun b _ hlt => B.block b hlt) fun _ h => h⟩
      have hc := rsame_any S S' F ks[j] ks[j] _ _ wr.drew t1 t2
      rw [(sameT_iff F ks[j] ks[j]).2 rfl] at hc
      have B' : Below w.heap.size w wr.drew := Below_drawn B 1
      clear hv hv' hs t1 t2 hu hk hr B
      have far : ∀ w5, Below wr.drew.heap.size wr.drew w5 → ∀ (g : Nat) (i : Nat) (u : Value), g < w.heap.size → wr.cell? ⟨g, i, none⟩ = some u → w5.cell? ⟨g, i, none⟩ = some u := fun w5 b5 g i u hg hu =>
        (World.cell?_of_block (w := wr.drew) (b5.block g (Nat.lt_of_lt_of_le hg B'.size))).trans hu
      go_wp2_with fail
      go_region_held3 (fun w' => w'.cell? ⟨b, o + j * 4, none⟩ = some e0 ∧ w'.cell? ⟨b, o + j * 4 + 1, none⟩ = some e1 ∧ w'.cell? ⟨b, o + j * 4 + 2, none⟩ = some e2 ∧ w'.cell? ⟨b, o + j * 4 + 3, none⟩ = some e3 ∧
          w'.cell? ⟨b', o' + j * 4, none⟩ = some d0 ∧ w'.cell? ⟨b', o' + j * 4 + 1, none⟩ = some d1 ∧ w'.cell? ⟨b', o' + j * 4 + 2, none⟩ = some d2 ∧ w'.cell? ⟨b', o' + j * 4 + 3, none⟩ = some d3)
        (first | exact ⟨k0, k1, k2, k3, m0, m1, m2, m3⟩ | exact ⟨far _ b5 _ _ _ hb k0, far _ b5 _ _ _ hb k1, far _ b5 _ _ _ hb k2, far _ b5 _ _ _ hb k3, far _ b5 _ _ _ hb' m0, far _ b5 _ _ _ hb' m1, far _ b5 _ _ _ hb' m2, far _ b5 _ _ _ hb' m3⟩ | go_keep)
        (first
          | (go_at_call 25; refine hc.mono ?_; rintro e w5 ⟨rfl, b5⟩; replace B' := B'.trans (b5.mono B'.size)))
      clear far k0 k1 k2 k3 m0 m1 m2 m3 hc b5
      go_wp2_with fail
      go_roundw
      case rel => exact ⟨j + 1, by omega, by go_num, B'⟩
      case measure => simp [intOf]; omega
    · go_wp2_with fail
      go_ret
      exact ⟨rfl, B⟩
end Go.Proofs.YthgaljgelngmaaaDoor
end
