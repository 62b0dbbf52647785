/-
  ScF: The document's Match (layer 20), over the loaded program: its contract. No condition.
  GrW: A row of texts of a call's own that grows by one text; over the loaded program. (Taken out of WtC in round 21: WtC imports it.) No condition but the sizes that it names.
-/
import Derived.Test.YtdkmjdcddldjgaaHy03
import Derived.Test.YtdkmjdcddldjgaaHy05
import Derived.Deep.RegionHeld3
import Derived.Test.YtdkmjdcddldjgaaHy02
set_option linter.unusedVariables false
set_option maxRecDepth 100000
namespace Go.Proofs.Ytdkmjdcddldjgaa
section
open Go.RowKit
def RcV (v : Value) (r : Rc) : Prop := ∃ (id : List UInt8) (st : Int), v = .agg #[strV id, strV r.cse, strV r.sub, strV r.cls, .int .i64 r.tick, .int .i64 st]
theorem zany_stop {α : Type} {p : α → Bool} {l : List α} {i : Nat} (hi : i < l.length) (h : p l[i] = true) : l.any p = true := List.any_eq_true.2 ⟨_, List.getElem_mem hi, h⟩
theorem zall_stop {α : Type} {p : α → Bool} {l : List α} {i : Nat} (hi : i < l.length) (h : p l[i] = false) : l.all p = false := by
  cases hb : l.all p with
  | false => rfl
  | true => rw [List.all_eq_true.1 hb _ (List.getElem_mem hi)] at h; cases h
theorem zany_none {α : Type} {p : α → Bool} {l : List α} (h : ∀ i (hi : i < l.length), p l[i] = false) : l.any p = false := by
  cases hb : l.any p with
  | false => rfl
  | true =>
    obtain ⟨x, hx, hp⟩ := List.any_eq_true.1 hb
    obtain ⟨i, hi, e⟩ := List.mem_iff_getElem.1 hx
    rw [← e, h i hi] at hp; cases hp
theorem zall_yes {α : Type} {p : α → Bool} {l : List α} (h : ∀ i (hi : i < l.length), p l[i] = true) : l.all p = true := List.all_eq_true.2 fun x hx => by
  obtain ⟨i, hi, e⟩ := List.mem_iff_getElem.1 hx
  rw [← e]; exact h i hi
theorem zfar {W0 W : World} (hb : Below W0.heap.size W0 W) {h i : Nat} {u : Value} (hl : h < W0.heap.size) (hc : W0.cell? ⟨h, i, none⟩ = some u) : W.cell? ⟨h, i, none⟩ = some u := (World.cell?_of_block (hb.block h hl)).trans hc
set_option maxHeartbeats 4000000 in
theorem zrmatch_any (S : Nat → Prop) (rc : Rc) (vr : Value) (hrc : RcV vr rc) : ∀ (f : Nat) (x : Sc f) (v : Value) (w : World), ZV w S f v x →
    Calls Try.prog 35 #[v, vr] w fun e w' => e = .returned (.bool (matchS rc f x)) ∧ Below w.heap.size w w' := by
  obtain ⟨id, st, rfl⟩ := hrc
  intro f
  induction f with
  | zero => intro x; exact nomatch x
  | succ f ih =>
    intro x v w hx
    obtain ⟨c0, c1, c2, c3, c4, rfl, rfl, _, rfl, _, rfl, _, rfl, _, hks⟩ := hx
    obtain ⟨A3, cap3, e3, hl3, hm3⟩ := hks.form
    obtain ⟨k, d, n, o, ks⟩ := (x : Ns (Sc f))
    simp only at e3 hks hl3
    subst e3
    have hlen : ks.length ≤ 9223372036854775807 := by unfold maxLen at hm3; omega
    have hr := match_eq rc f (⟨k, d, n, o, ks⟩ : Ns (Sc f))
    rw [hr]
    clear hr
    dsimp only
    obtain ⟨cse, sub, cls, tick⟩ := rc
    dsimp only at ih ⊢
    generalize hp : matchS (⟨cse, sub, cls, tick⟩ : Rc) f = p at *
    clear hp
    unfold strV at *
    obtain ⟨s, hs⟩ : ∃ s : ByteArray, s = ⟨d.toArray⟩ := ⟨_, rfl⟩
    obtain ⟨s1, hs1⟩ : ∃ s : ByteArray, s = ⟨cse.toArray⟩ := ⟨_, rfl⟩
    obtain ⟨s2, hs2⟩ : ∃ s : ByteArray, s = ⟨sub.toArray⟩ := ⟨_, rfl⟩
    obtain ⟨s3, hs3⟩ : ∃ s : ByteArray, s = ⟨cls.toArray⟩ := ⟨_, rfl⟩
    obtain ⟨s0, hs0⟩ : ∃ s : ByteArray, s = ⟨id.toArray⟩ := ⟨_, rfl⟩
    rw [← hs1, ← hs2, ← hs3, ← hs0] at ih
    rw [← hs, ← hs1, ← hs2, ← hs3, ← hs0]
    have q1 := zeq_txt s1 s cse d hs1 hs
    have q2 := zeq_txt s2 s sub d hs2 hs
    have q3 := zeq_txt s3 s cls d hs3 hs
    clear hs hs1 hs2 hs3 hs0
    generalize decide (cse = d) = b1 at *
    generalize decide (sub = d) = b2 at *
    generalize decide (cls = d) = b3 at *
    obtain ⟨kx, ky, B0⟩ := ztwo_boxes w #[.int .i64 k, .string s, .int .i64 n, .int .i64 o, .slice A3 ks.length cap3] #[.string s0, .string s1, .string s2, .string s3, .int .i64 tick, .int .i64 st] 25 40
    by_cases h1 : k = 1
    · subst h1
      rw [if_pos rfl]
      clear q1 q2 q3 ih
      go_enter Try.func35, Try.ntmps35
      go_wp2_with fail
      go_ret
      exact ⟨rfl, B0⟩
    have g1 : (k == 1) = false := beq_eq_false_iff_ne.2 h1
    rw [if_neg h1]
    by_cases h2 : k = 2
    · subst h2
      rw [if_pos rfl]
      clear q2 q3 ih
      go_enter Try.func35, Try.ntmps35
      go_wp2_with fail
      go_ret
      exact ⟨by first | rfl | simp [q1], B0⟩
    have g2 : (k == 2) = false := beq_eq_false_iff_ne.2 h2
    rw [if_neg h2]
    by_cases h3 : k = 3
    · subst h3
      rw [if_pos rfl]
      clear q1 q3 ih
      go_enter Try.func35, Try.ntmps35
      go_wp2_with fail
      go_ret
      exact ⟨by first | rfl | simp [q2], B0⟩
    have g3 : (k == 3) = false := beq_eq_false_iff_ne.2 h3
    rw [if_neg h3]
    by_cases h4 : k = 4
    · subst h4
      rw [if_pos rfl]
      clear q1 q2 ih
      go_enter Try.func35, Try.ntmps35
      go_wp2_with fail
      go_ret
      exact ⟨by first | rfl | simp [q3], B0⟩
    have g4 : (k == 4) = false := beq_eq_false_iff_ne.2 h4
    rw [if_neg h4]
    clear q1 q2 q3
    by_cases h5 : k = 5
    · subst h5
      rw [if_pos rfl]
      clear ih
      by_cases a1 : n ≤ tick
      · have E1 : decide (n ≤ tick) = true := decide_eq_true a1
        by_cases a2 : tick ≤ o
        · have E2 : decide (tick ≤ o) = true := decide_eq_true a2
          rw [decide_eq_true (show n ≤ tick ∧ tick ≤ o from ⟨a1, a2⟩)]
          go_enter Try.func35, Try.ntmps35
          go_wp2_with fail
          go_ret
          exact ⟨rfl, B0⟩
        · have E2 : decide (tick ≤ o) = false := decide_eq_false a2
          rw [decide_eq_false (show ¬ (n ≤ tick ∧ tick ≤ o) from fun h => a2 h.2)]
          go_enter Try.func35, Try.ntmps35
          go_wp2_with fail
          go_ret
          exact ⟨rfl, B0⟩
      · have E1 : decide (n ≤ tick) = false := decide_eq_false a1
        rw [decide_eq_false (show ¬ (n ≤ tick ∧ tick ≤ o) from fun h => a1 h.1)]
        go_enter Try.func35, Try.ntmps35
        go_wp2_with fail
        go_ret
        exact ⟨rfl, B0⟩
    have g5 : (k == 5) = false := beq_eq_false_iff_ne.2 h5
    rw [if_neg h5]
    by_cases h6 : k = 6
    · subst h6
      rw [if_pos rfl]
      have HR : Hid ((∀ (i : Nat) (hi : i < ks.length), p ks[i] = true) → ks.all p = true) := fun h => zall_yes h
      have HN : Hid (∀ (i : Nat) (hi : i < ks.length), p ks[i] = false → ks.all p = false) := fun i hi h => zall_stop hi h
      have HM := Lib.hid (fun w => zmany_any 6 w)
      generalize ks.all p = r at *
      go_enter Try.func35, Try.ntmps35
      go_wp2_with fail
      refine (HM.out _).mono ?_
      rintro e w1 ⟨rfl, rfl⟩
      rw [show manyS 6 = true from rfl]
      go_wp2_with fail
      clear HM
      go_loopw [5] (fun iv wr => ∃ j : Nat, j ≤ ks.length ∧ Hid (∀ (i : Nat) (hi : i < ks.length), i < j → p ks[i] = true) ∧ iv = .int .i64 j ∧
        KB wr w.heap.size 25 #[.int .i64 6, .string s, .int .i64 n, .int .i64 o, .slice A3 ks.length cap3] ∧ KB wr (w.heap.size + 1) 40 #[.string s0, .string s1, .string s2, .string s3, .int .i64 tick, .int .i64 st] ∧
        Below w.heap.size w wr) (fun iv _ => ks.length - (intOf iv).toNat)
      case atStart => exact ⟨0, by omega, fun i u h => absurd h (by omega), rfl, kx, ky, B0⟩
      case round =>
        clear kx ky B0
        obtain ⟨j, hj, hall, rfl, K, L, B⟩ := hrel
        have q4 : wr.cell? ⟨w.heap.size, 4, none⟩ = some (.slice A3 ks.length cap3) := K.cell 4
        have q0 : wr.cell? ⟨w.heap.size, 0, none⟩ = some (.int .i64 6) := K.cell 0
        by_cases hlt : j < ks.length
        · obtain ⟨b, q, e0, e1, e2, e3, e4, rfl, hb, k0, k1, k2, k3, k4, hv⟩ := kid_zb hks rfl B j hlt
          have tv : ZV wr.drew S f (.agg #[e0, e1, e2, e3, e4]) ks[j] := hv.below' (Below_drawn (Below.refl _ _) 1)
          have hc := ih ks[j] _ wr.drew tv
          have m0 : wr.cell? ⟨w.heap.size + 1, 0, none⟩ = some (.string s0) := L.cell 0
          have m1 : wr.cell? ⟨w.heap.size + 1, 1, none⟩ = some (.string s1) := L.cell 1
          have m2 : wr.cell? ⟨w.heap.size + 1, 2, none⟩ = some (.string s2) := L.cell 2
          have m3 : wr.cell? ⟨w.heap.size + 1, 3, none⟩ = some (.string s3) := L.cell 3
          have m4 : wr.cell? ⟨w.heap.size + 1, 4, none⟩ = some (.int .i64 tick) := L.cell 4
          have m5 : wr.cell? ⟨w.heap.size + 1, 5, none⟩ = some (.int .i64 st) := L.cell 5
          have hyes : Hid (p ks[j] = true → ∀ (i : Nat) (hi : i < ks.length), i < j + 1 → p ks[i] = true) := by
            intro hp i hi hij
            rcases Nat.lt_or_ge i j with h | h
            · exact hall.out i hi h
            · obtain rfl : i = j := by omega
              exact hp
          have hno : Hid (p ks[j] = false → r = false) := fun hp => HN.out j hlt hp
          have K' : KB wr.drew w.heap.size 25 #[.int .i64 6, .string s, .int .i64 n, .int .i64 o, .slice (some ⟨b, q, none⟩) ks.length cap3] := K
          have L' : KB wr.drew (w.heap.size + 1) 40 #[.string s0, .string s1, .string s2, .string s3, .int .i64 tick, .int .i64 st] := L
          have B' : Below w.heap.size w wr.drew := Below_drawn B 1
          clear hv tv hks HR HN K L B hall
          generalize p ks[j] = t at *
          have far : ∀ w5, Below wr.drew.heap.size wr.drew w5 → ∀ (h : Nat) (i : Nat) (u : Value), h < w.heap.size → wr.cell? ⟨h, i, none⟩ = some u → w5.cell? ⟨h, i, none⟩ = some u := fun w5 b5 h i u hg hu =>
            (World.cell?_of_block (w := wr.drew) (b5.block h (Nat.lt_of_lt_of_le hg B'.size))).trans hu
          go_wp2_with fail
          go_region_held3 (fun w' => w'.cell? ⟨w.heap.size, 4, none⟩ = some (.slice (some ⟨b, q, none⟩) ks.length cap3) ∧ w'.cell? ⟨w.heap.size, 0, none⟩ = some (.int .i64 6) ∧
              w'.cell? ⟨b, q + j * 5, none⟩ = some e0 ∧ w'.cell? ⟨b, q + j * 5 + 1, none⟩ = some e1 ∧ w'.cell? ⟨b, q + j * 5 + 2, none⟩ = some e2 ∧ w'.cell? ⟨b, q + j * 5 + 3, none⟩ = some e3 ∧ w'.cell? ⟨b, q + j * 5 + 4, none⟩ = some e4 ∧
              w'.cell? ⟨w.heap.size + 1, 0, none⟩ = some (.string s0) ∧ w'.cell? ⟨w.heap.size + 1, 1, none⟩ = some (.string s1) ∧ w'.cell? ⟨w.heap.size + 1, 2, none⟩ = some (.string s2) ∧ w'.cell? ⟨w.heap.size + 1, 3, none⟩ = some (.string s3) ∧ w'.cell? ⟨w.heap.size + 1, 4, none⟩ = some (.int .i64 tick) ∧ w'.cell? ⟨w.heap.size + 1, 5, none⟩ = some (.int .i64 st))
            (first | exact ⟨q4, q0, k0, k1, k2, k3, k4, m0, m1, m2, m3, m4, m5⟩ | exact ⟨K'.cell 4, K'.cell 0, far _ b5 _ _ _ hb k0, far _ b5 _ _ _ hb k1, far _ b5 _ _ _ hb k2, far _ b5 _ _ _ hb k3, far _ b5 _ _ _ hb k4, L'.cell 0, L'.cell 1, L'.cell 2, L'.cell 3, L'.cell 4, L'.cell 5⟩ | go_keep)
            (first
              | (go_at_call 35; refine hc.mono ?_; rintro e w5 ⟨rfl, b5⟩; replace K' := K'.below b5 K'.lt; replace L' := L'.below b5 L'.lt; replace B' := B'.trans (b5.mono B'.size)))
          have q0' := K'.cell 0
          clear far k0 k1 k2 k3 k4 m0 m1 m2 m3 m4 m5 q4 q0 hc b5
          cases t with
          | true =>
            have hy := Lib.hid (hyes.out rfl)
            clear hyes hno
            go_wp2_with fail
            go_roundw
            case rel => exact ⟨j + 1, by omega, hy.out, by go_num, K', L', B'⟩
            case measure => simp [intOf]; omega
          | false =>
            have hr := hno.out rfl
            clear hyes hno
            subst hr
            go_wp2_with fail
            go_ret
            exact ⟨rfl, B'⟩
        · have hr : r = true := HR.out fun i hi => hall.out i hi (by omega)
          clear HR HN hall ih
          subst hr
          go_wp2_with fail
          go_ret
          exact ⟨rfl, B⟩
    have g6 : (k == 6) = false := beq_eq_false_iff_ne.2 h6
    rw [if_neg h6]
    by_cases h7 : k = 7
    · subst h7
      rw [if_pos rfl]
      have HR : Hid ((∀ (i : Nat) (hi : i < ks.length), p ks[i] = false) → ks.any p = false) := fun h => zany_none h
      have HN : Hid (∀ (i : Nat) (hi : i < ks.length), p ks[i] = true → ks.any p = true) := fun i hi h => zany_stop hi h
      have HM := Lib.hid (fun w => zmany_any 7 w)
      generalize ks.any p = r at *
      go_enter Try.func35, Try.ntmps35
      go_wp2_with fail
      refine (HM.out _).mono ?_
      rintro e w1 ⟨rfl, rfl⟩
      rw [show manyS 7 = true from rfl]
      go_wp2_with fail
      clear HM
      go_loopw [5] (fun iv wr => ∃ j : Nat, j ≤ ks.length ∧ Hid (∀ (i : Nat) (hi : i < ks.length), i < j → p ks[i] = false) ∧ iv = .int .i64 j ∧
        KB wr w.heap.size 25 #[.int .i64 7, .string s, .int .i64 n, .int .i64 o, .slice A3 ks.length cap3] ∧ KB wr (w.heap.size + 1) 40 #[.string s0, .string s1, .string s2, .string s3, .int .i64 tick, .int .i64 st] ∧
        Below w.heap.size w wr) (fun iv _ => ks.length - (intOf iv).toNat)
      case atStart => exact ⟨0, by omega, fun i u h => absurd h (by omega), rfl, kx, ky, B0⟩
      case round =>
        clear kx ky B0
        obtain ⟨j, hj, hall, rfl, K, L, B⟩ := hrel
        have q4 : wr.cell? ⟨w.heap.size, 4, none⟩ = some (.slice A3 ks.length cap3) := K.cell 4
        have q0 : wr.cell? ⟨w.heap.size, 0, none⟩ = some (.int .i64 7) := K.cell 0
        by_cases hlt : j < ks.length
        · obtain ⟨b, q, e0, e1, e2, e3, e4, rfl, hb, k0, k1, k2, k3, k4, hv⟩ := kid_zb hks rfl B j hlt
          have tv : ZV wr.drew S f (.agg #[e0, e1, e2, e3, e4]) ks[j] := hv.below' (Below_drawn (Below.refl _ _) 1)
          have hc := ih ks[j] _ wr.drew tv
          have m0 : wr.cell? ⟨w.heap.size + 1, 0, none⟩ = some (.string s0) := L.cell 0
          have m1 : wr.cell? ⟨w.heap.size + 1, 1, none⟩ = some (.string s1) := L.cell 1
          have m2 : wr.cell? ⟨w.heap.size + 1, 2, none⟩ = some (.string s2) := L.cell 2
          have m3 : wr.cell? ⟨w.heap.size + 1, 3, none⟩ = some (.string s3) := L.cell 3
          have m4 : wr.cell? ⟨w.heap.size + 1, 4, none⟩ = some (.int .i64 tick) := L.cell 4
          have m5 : wr.cell? ⟨w.heap.size + 1, 5, none⟩ = some (.int .i64 st) := L.cell 5
          have hyes : Hid (p ks[j] = false → ∀ (i : Nat) (hi : i < ks.length), i < j + 1 → p ks[i] = false) := by
            intro hp i hi hij
            rcases Nat.lt_or_ge i j with h | h
            · exact hall.out i hi h
            · obtain rfl : i = j := by omega
              exact hp
          have hno : Hid (p ks[j] = true → r = true) := fun hp => HN.out j hlt hp
          have K' : KB wr.drew w.heap.size 25 #[.int .i64 7, .string s, .int .i64 n, .int .i64 o, .slice (some ⟨b, q, none⟩) ks.length cap3] := K
          have L' : KB wr.drew (w.heap.size + 1) 40 #[.string s0, .string s1, .string s2, .string s3, .int .i64 tick, .int .i64 st] := L
          have B' : Below w.heap.size w wr.drew := Below_drawn B 1
          clear hv tv hks HR HN K L B hall
          generalize p ks[j] = t at *
          have far : ∀ w5, Below wr.drew.heap.size wr.drew w5 → ∀ (h : Nat) (i : Nat) (u : Value), h < w.heap.size → wr.cell? ⟨h, i, none⟩ = some u → w5.cell? ⟨h, i, none⟩ = some u := fun w5 b5 h i u hg hu =>
            (World.cell?_of_block (w := wr.drew) (b5.block h (Nat.lt_of_lt_of_le hg B'.size))).trans hu
          go_wp2_with fail
          go_region_held3 (fun w' => w'.cell? ⟨w.heap.size, 4, none⟩ = some (.slice (some ⟨b, q, none⟩) ks.length cap3) ∧ w'.cell? ⟨w.heap.size, 0, none⟩ = some (.int .i64 7) ∧
              w'.cell? ⟨b, q + j * 5, none⟩ = some e0 ∧ w'.cell? ⟨b, q + j * 5 + 1, none⟩ = some e1 ∧ w'.cell? ⟨b, q + j * 5 + 2, none⟩ = some e2 ∧ w'.cell? ⟨b, q + j * 5 + 3, none⟩ = some e3 ∧ w'.cell? ⟨b, q + j * 5 + 4, none⟩ = some e4 ∧
              w'.cell? ⟨w.heap.size + 1, 0, none⟩ = some (.string s0) ∧ w'.cell? ⟨w.heap.size + 1, 1, none⟩ = some (.string s1) ∧ w'.cell? ⟨w.heap.size + 1, 2, none⟩ = some (.string s2) ∧ w'.cell? ⟨w.heap.size + 1, 3, none⟩ = some (.string s3) ∧ w'.cell? ⟨w.heap.size + 1, 4, none⟩ = some (.int .i64 tick) ∧ w'.cell? ⟨w.heap.size + 1, 5, none⟩ = some (.int .i64 st))
            (first | exact ⟨q4, q0, k0, k1, k2, k3, k4, m0, m1, m2, m3, m4, m5⟩ | exact ⟨K'.cell 4, K'.cell 0, far _ b5 _ _ _ hb k0, far _ b5 _ _ _ hb k1, far _ b5 _ _ _ hb k2, far _ b5 _ _ _ hb k3, far _ b5 _ _ _ hb k4, L'.cell 0, L'.cell 1, L'.cell 2, L'.cell 3, L'.cell 4, L'.cell 5⟩ | go_keep)
            (first
              | (go_at_call 35; refine hc.mono ?_; rintro e w5 ⟨rfl, b5⟩; replace K' := K'.below b5 K'.lt; replace L' := L'.below b5 L'.lt; replace B' := B'.trans (b5.mono B'.size)))
          have q0' := K'.cell 0
          clear far k0 k1 k2 k3 k4 m0 m1 m2 m3 m4 m5 q4 q0 hc b5
          cases t with
          | false =>
            have hy := Lib.hid (hyes.out rfl)
            clear hyes hno
            go_wp2_with fail
            go_roundw
            case rel => exact ⟨j + 1, by omega, hy.out, by go_num, K', L', B'⟩
            case measure => simp [intOf]; omega
          | true =>
            have hr := hno.out rfl
            clear hyes hno
            subst hr
            go_wp2_with fail
            go_ret
            exact ⟨rfl, B'⟩
        · have hr : r = false := HR.out fun i hi => hall.out i hi (by omega)
          clear HR HN hall ih
          subst hr
          go_wp2_with fail
          go_ret
          exact ⟨rfl, B⟩
    have g7 : (k == 7) = false := beq_eq_false_iff_ne.2 h7
    rw [if_neg h7]
    by_cases h8 : k = 8
    · subst h8
      rw [if_pos rfl]
      have q4 : ((w.alloc (.cells #[.int .i64 8, .string s, .int .i64 n, .int .i64 o, .slice A3 ks.length cap3] 25)).alloc (.cells #[.string s0, .string s1, .string s2, .string s3, .int .i64 tick, .int .i64 st] 40)).cell? ⟨w.heap.size, 4, none⟩ = some (.slice A3 ks.length cap3) := kx.cell 4
      have B1 := Below_drawn B0 1
      by_cases hk0 : ks.length = 0
      · have hrr : (!(Option.map p ks.head?).getD false) = true := by rw [List.eq_nil_of_length_eq_zero hk0]; rfl
        rw [hrr]
        rw [hk0] at q4 B1 ⊢
        clear ih hks hrr kx ky B0 hl3 hlen hk0
        go_enter Try.func35, Try.ntmps35
        go_wp2_with fail
        rename_i KK hKK
        have HKK := Lib.hid hKK
        clear hKK
        refine wp_region_held_drew (S := (fun W => W.cell? ⟨w.heap.size, 4, none⟩ = some (.slice A3 0 cap3))) (by kernel_rfl) q4 (fun hHeld => ?_)
        refine hyY (some 47) 0 rfl hHeld ?_; go_frame
        refine hyY (some 48) 1 rfl hHeld ?_; go_frame
        refine hyY (some 49) 2 rfl hHeld ?_; go_frame
        refine hyY (some 50) 3 rfl hHeld ?_; go_frame
        refine hyY (some 51) 4 rfl hHeld ?_; go_frame
        refine hyN (some 52) 5 rfl hHeld ?_; go_frame
        refine hyN (some 53) 6 rfl hHeld ?_; go_frame
        refine hyN (some 54) 7 rfl hHeld ?_; go_frame
        refine hyN (some 55) 8 rfl hHeld ?_; go_frame
        refine hyN (some 56) 9 rfl hHeld ?_; go_frame
        refine hyN (some 57) 10 rfl hHeld ?_; go_frame
        refine hyN (some 58) 11 rfl hHeld ?_; go_frame
        refine hyY (some 59) 12 rfl hHeld ?_; go_frame
        refine hyY (some 4) 13 rfl hHeld ?_; go_frame
        refine wpAnyH_done (by kernel_rfl) ?_ _
        have hKK := HKK.out
        go_wp2_with fail
        go_ret
        exact ⟨rfl, B1⟩
      · obtain ⟨b, q, e0, e1, e2, e3, e4, rfl, hb, k0, k1, k2, k3, k4, hv⟩ := kid_zb hks rfl B0 0 (by omega)
        have hrr : (!(Option.map p ks.head?).getD false) = !(p ks[0]) := by
          cases ks with
          | nil => exact absurd rfl hk0
          | cons a l => rfl
        rw [hrr]
        clear hrr
        have hc := ih ks[0] _ _ (hv.below' (Below_drawn (Below.refl _ _) 1))
        have g0 : ((ks.length : Int) == 0) = false := beq_eq_false_iff_ne.2 (by omega)
        have hpos : 0 < ks.length := by omega
        have hposI : (0 : Int) < (ks.length : Int) := by omega
        rw [Nat.zero_mul, Nat.add_zero] at k0 k1 k2 k3 k4
        have m0 := ky.cell 0
        have m1 := ky.cell 1
        have m2 := ky.cell 2
        have m3 := ky.cell 3
        have m4 := ky.cell 4
        have m5 := ky.cell 5
        have hbl := Nat.lt_of_lt_of_le hb B0.size
        have hl0 := kx.lt
        have hl1 := ky.lt
        generalize p ks[0] = t at *
        clear ih hks hv hk0
        generalize ks.length = kl at *
        have HC := Lib.hid (fun (W : World) (hb : Below _ _ W) => (⟨zfar hb hl0 q4, zfar hb hbl k0, zfar hb hbl k1, zfar hb hbl k2, zfar hb hbl k3, zfar hb hbl k4, zfar hb hl1 m0, zfar hb hl1 m1, zfar hb hl1 m2, zfar hb hl1 m3, zfar hb hl1 m4, zfar hb hl1 m5⟩ :
          W.cell? ⟨w.heap.size, 4, none⟩ = some (.slice (some ⟨b, q, none⟩) kl cap3) ∧ W.cell? ⟨b, q, none⟩ = some e0 ∧ W.cell? ⟨b, q + 1, none⟩ = some e1 ∧ W.cell? ⟨b, q + 2, none⟩ = some e2 ∧ W.cell? ⟨b, q + 3, none⟩ = some e3 ∧ W.cell? ⟨b, q + 4, none⟩ = some e4 ∧ W.cell? ⟨w.heap.size + 1, 0, none⟩ = some (.string s0) ∧ W.cell? ⟨w.heap.size + 1, 1, none⟩ = some (.string s1) ∧ W.cell? ⟨w.heap.size + 1, 2, none⟩ = some (.string s2) ∧ W.cell? ⟨w.heap.size + 1, 3, none⟩ = some (.string s3) ∧ W.cell? ⟨w.heap.size + 1, 4, none⟩ = some (.int .i64 tick) ∧ W.cell? ⟨w.heap.size + 1, 5, none⟩ = some (.int .i64 st)))
        clear kx ky k0 k1 k2 k3 k4 m0 m1 m2 m3 m4 m5 q4
        go_enter Try.func35, Try.ntmps35
        go_wp2_with fail
        rename_i KK hKK
        have HKK := Lib.hid hKK
        clear hKK
        refine wp_region_held_drew (S := (fun W => W.cell? ⟨w.heap.size, 4, none⟩ = some (.slice (some ⟨b, q, none⟩) kl cap3) ∧ W.cell? ⟨b, q, none⟩ = some e0 ∧ W.cell? ⟨b, q + 1, none⟩ = some e1 ∧ W.cell? ⟨b, q + 2, none⟩ = some e2 ∧ W.cell? ⟨b, q + 3, none⟩ = some e3 ∧ W.cell? ⟨b, q + 4, none⟩ = some e4 ∧ W.cell? ⟨w.heap.size + 1, 0, none⟩ = some (.string s0) ∧ W.cell? ⟨w.heap.size + 1, 1, none⟩ = some (.string s1) ∧ W.cell? ⟨w.heap.size + 1, 2, none⟩ = some (.string s2) ∧ W.cell? ⟨w.heap.size + 1, 3, none⟩ = some (.string s3) ∧ W.cell? ⟨w.heap.size + 1, 4, none⟩ = some (.int .i64 tick) ∧ W.cell? ⟨w.heap.size + 1, 5, none⟩ = some (.int .i64 st))) (by kernel_rfl) (HC.out _ (Below_drawn (Below.refl _ _) 1)) (fun hHeld => ?_)
        refine hyY (some 47) 0 rfl hHeld ?_; go_frame
        refine hyY (some 48) 1 rfl hHeld ?_; go_frame
        refine hyY (some 49) 2 rfl hHeld ?_; go_frame
        refine hyY (some 50) 3 rfl hHeld ?_; go_frame
        refine hyY (some 51) 4 rfl hHeld ?_; go_frame
        refine hyY (some 52) 5 rfl hHeld ?_; go_frame
        refine hyY (some 53) 6 rfl hHeld ?_; go_frame
        refine hyY (some 54) 7 rfl hHeld ?_; go_frame
        refine hyY (some 55) 8 rfl hHeld ?_; go_frame
        refine hyY (some 56) 9 rfl hHeld ?_; go_frame
        refine hyO (some 57) 10 rfl (fun K hK => ?_)
        go_simp
        go_at_call 35
        refine hc.mono ?_
        rintro e w5 ⟨rfl, b5⟩
        replace B1 := B1.trans (b5.mono B1.size)
        go_wp2_with fail
        refine hK.out _ _ ?_ (fun hH2 => ?_)
        · exact HC.out _ ((Below_drawn (Below.refl _ _) 1).trans b5)
        clear hHeld hK K; have hHeld := hH2; clear hH2; try go_frame
        refine hyY (some 58) 11 rfl hHeld ?_; go_frame
        refine hyY (some 59) 12 rfl hHeld ?_; go_frame
        refine hyY (some 4) 13 rfl hHeld ?_; go_frame
        refine wpAnyH_done (by kernel_rfl) ?_ _
        have hKK := HKK.out
        clear hc b5
        go_wp2_with fail
        go_ret
        exact ⟨rfl, B1⟩
    have g8 : (k == 8) = false := beq_eq_false_iff_ne.2 h8
    rw [if_neg h8]
    clear ih
    have HM := Lib.hid (fun w => zmany_any k w)
    have hmk : manyS k = false := decide_eq_false (by simp [h6, h7])
    rw [hmk] at HM
    go_enter Try.func35, Try.ntmps35
    go_wp2_with fail
    refine (HM.out _).mono ?_
    rintro e w1 ⟨rfl, rfl⟩
    clear HM
    go_wp2_with fail
    go_ret
    exact ⟨rfl, B0⟩
end
section
open Go.RowKit
theorem info_wstr : (Try.prog.info? 9).map (fun i => (i.zero, i.size, i.bytes)) = some (some (.string ⟨#[]⟩), 1, 16) := by kernel_rfl
theorem run_growW (w : World) (base : Nat) (ty : TypeId) (v : Value) (xs : List (List UInt8)) (hown : w.ownsRow base 9 1 v xs.length (xs.map strV)) (ad : Addr) (c : Nat) (x : List UInt8) (hx : w.cell? ad = some (strV x))
    (hb : xs.length ≤ 1000000000) (hbase : base ≤ w.heap.size) :
    ∃ v' w', (Builtin.append_ #[41, 41] ty #[v, .slice (some ad) 1 c]).run Try.prog w = .ok v' w' ∧ w'.ownsRow base 9 1 v' (xs ++ [x]).length ((xs ++ [x]).map strV) ∧ w.grownBy w' v.ownBlock ∧
      (v'.ownBlock = v.ownBlock ∨ v'.ownBlock = some w.heap.size) := by
  obtain ⟨i0, hi, hz0, hz1, hz2⟩ := info_parts info_wstr
  obtain ⟨v', w', h1, h2, h3, _, h5⟩ := run_append_own_at (P := Try.prog) w base 41 ty 9 i0 _ 1 16 Try.underlying41 hi hz0 hz1 hz2 rfl (by omega) v xs.length _ hown ad 1 c [strV x] (by simp) (by
      intro j u hu
      match j, hu with
      | 0, hu =>
        simp at hu
        subst hu
        rw [show ad.add 0 = ad from by cases ad; rfl]
        exact hx) (by intro u hu; simp at hu; subst hu; rfl)
    (by unfold maxLen; omega) (by omega) hbase
  exact ⟨v', w', h1, by simpa using h2, h3, h5⟩
theorem wpList_growW (w : World) {ops : Array Oper} {rest : List Oper} {o : Oper} {a : Act} {Q : Exit → Act → World → Prop} (hgd : o.guard = none) (s y : Operand)
    (ho : o.op = .call { callee := .builtin .append, args := #[s, y], argTypes := #[41, 41] })
    (base : Nat) (v : Value) (xs : List (List UInt8)) (hs : a.eval s = v) (hown : w.ownsRow base 9 1 v xs.length (xs.map strV))
    (ad : Addr) (c : Nat) (x : List UInt8) (hxe : a.eval y = .slice (some ad) 1 c) (hx : w.cell? ad = some (strV x)) (hb : xs.length ≤ 1000000000) (hbase : base ≤ w.heap.size)
    (h : ∀ v' w', w'.ownsRow base 9 1 v' (xs ++ [x]).length ((xs ++ [x]).map strV) → w.grownBy w' v.ownBlock → (v'.ownBlock = v.ownBlock ∨ v'.ownBlock = some w.heap.size) → wpList Try.prog ops Q rest (a.put o.dst v') w') :
    wpList Try.prog ops Q (o :: rest) a w := by
  refine wpList_plain hgd fun K hK => ?_
  obtain ⟨v', w', hrun, h2, h3, h4⟩ := run_growW w base o.type v xs hown ad c x hx hb hbase
  unfold Oper.wp execOp
  simp only [ho, resolve, invoke, builtin, Sem.run_bind, Sem.run_pure, Result.andThen_ok, List.map_toArray, List.map_cons, List.map_nil, hs, hxe, hrun]
  exact hK _ _ (h v' w' h2 h3 h4)
end
end Go.Proofs.Ytdkmjdcddldjgaa
