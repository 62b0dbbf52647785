/-
  SdA: The program's Same (layer 20): slices.EqualFunc at scopes, by Same itself, over the loaded program: each one's contract. No condition.
  ScE: The document's Same (layer 20), over the loaded program: its contract. No condition.
  ScopeGetsW: The law ScopeGets over the loaded program: which scope every bytes are; whether two are the same. No condition.
-/
import Derived.Test.YtcbkokhjdleoeaaSz02
import Derived.Laws.EntriesVeiled
import Derived.Deep.RegionHeld3
import Derived.Test.YtcbkokhjdleoeaaSz24
import Derived.Test.YtcbkokhjdleoeaaSz03
set_option linter.unusedVariables false
set_option maxRecDepth 100000
namespace Go.Proofs.Ytcbkokhjdleoeaa
section
open Go.RowKit
theorem zeq_both {s s' : ByteArray} {b : Bool} (h : (s.toList == s'.toList) = b) : (b = true → s.toList = s'.toList) ∧ (b = false → ¬ s.toList = s'.toList) := by
  subst h
  exact ⟨fun h => beq_iff_eq.1 h, fun h => beq_eq_false_iff_ne.1 h⟩
set_option maxHeartbeats 4000000 in
theorem zpeq_any (S S' : Nat → Prop) (f g : Nat) (hF : ∀ (a : Sc f) (b : Sc g) (x y : Value) (W : World), ZV W S f x a → ZV W S' g y b → Calls Try.prog 18 #[x, y] W fun e w' => e = .returned (.bool (sameS f g a b)) ∧ Below W.heap.size W w')
    (ks : List (Sc f)) (ks' : List (Sc g)) (v v' : Value) (w : World) (hks : ZS w S (ZX w S f) v ks) (hks' : ZS w S' (ZX w S' g) v' ks') :
    Calls Try.prog 33 #[v, v', .func (.func 18) #[] #[]] w fun e w' => e = .returned (.bool (sameSL (sameS f g) ks ks')) ∧ Below w.heap.size w w' := by
  obtain ⟨A3, cap3, rfl, hl3, hm3⟩ := hks.form
  obtain ⟨A3', cap3', rfl, hl3', _⟩ := hks'.form
  have hlen : ks.length ≤ 9223372036854775807 := by unfold maxLen at hm3; omega
  by_cases h3 : ks.length = ks'.length
  case neg =>
    rw [zsame_long h3]
    have g1 : (ks.length != ks'.length) = true := bne_iff_ne.2 h3
    have g2 : ((ks.length : Int) != (ks'.length : Int)) = true := bne_iff_ne.2 (by omega)
    go_enter Try.func33, Try.ntmps33
    go_wp2_with fail
    go_ret
    exact ⟨rfl, Below.refl _ _⟩
  rw [← h3] at hks' ⊢
  have HR : Hid ((∀ (i : Nat) (u : Sc f) (v : Sc g), ks[i]? = some u → ks'[i]? = some v → sameS f g u v = true) → sameSL (sameS f g) ks ks' = true) := fun h => zsame_yes h3 h
  have HN : Hid (∀ (i : Nat) (u : Sc f) (v : Sc g), ks[i]? = some u → ks'[i]? = some v → sameS f g u v = false → sameSL (sameS f g) ks ks' = false) := fun i u v h1 h2 h => zsame_stop h1 h2 h
  have H3 := Lib.hid h3
  clear h3
  generalize sameSL (sameS f g) ks ks' = r at *
  go_enter Try.func33, Try.ntmps33
  go_wp2_with fail
  go_loopw [17] (fun iv wr => ∃ j : Nat, j ≤ ks.length ∧ Hid (∀ (i : Nat) (u : Sc f) (v : Sc g), i < j → ks[i]? = some u → ks'[i]? = some v → sameS f g u v = true) ∧ iv = .int .i64 j ∧ Below w.heap.size w wr) (fun iv _ => ks.length - (intOf iv).toNat)
  case atStart => exact ⟨0, by omega, fun i u v h => absurd h (by omega), rfl, Below.refl _ _⟩
  case round =>
    obtain ⟨j, hj, hall, rfl, B⟩ := hrel
    by_cases hlt : j < ks.length
    · have hltI : (j : Int) < (ks.length : Int) := by omega
      have hlt' : j < ks'.length := by have := H3.out; omega
      obtain ⟨b, o, e0, e1, e2, e3, e4, rfl, hb, k0, k1, k2, k3, k4, hv⟩ := kid_zb hks rfl B j hlt
      obtain ⟨b', o', d0, d1, d2, d3, d4, rfl, hb', m0, m1, m2, m3, m4, hv'⟩ := kid_zb hks' H3.out.symm B j hlt'
      have hc := hF ks[j] ks'[j] _ _ _ ((hv.alloc (.cells #[e0, e1, e2, e3, e4] 24)).alloc (.cells #[d0, d1, d2, d3, d4] 24)) ((hv'.alloc (.cells #[e0, e1, e2, e3, e4] 24)).alloc (.cells #[d0, d1, d2, d3, d4] 24))
      have B2 : Below w.heap.size w ((wr.alloc (.cells #[e0, e1, e2, e3, e4] 24)).alloc (.cells #[d0, d1, d2, d3, d4] 24)) := (B.alloc B.size _).alloc (by have := B.size; simp; omega) _
      have hyes : Hid (sameS f g ks[j] ks'[j] = true → ∀ (i : Nat) (u : Sc f) (v : Sc g), i < j + 1 → ks[i]? = some u → ks'[i]? = some v → sameS f g u v = true) := by
        intro hp i u v hi hu hw
        rcases Nat.lt_or_ge i j with h | h
        · exact hall.out i u v h hu hw
        · obtain rfl : i = j := by omega
          rw [List.getElem?_eq_getElem hlt] at hu
          rw [List.getElem?_eq_getElem hlt'] at hw
          injection hu with hu
          injection hw with hw
          rw [← hu, ← hw]; exact hp
      have hno : Hid (sameS f g ks[j] ks'[j] = false → r = false) := fun hp => HN.out j _ _ (List.getElem?_eq_getElem hlt) (List.getElem?_eq_getElem hlt') hp
      obtain ⟨_, _, _, _, _, e, hx4⟩ := hv
      injection e with e
      simp only [Array.mk.injEq, List.cons.injEq, and_true] at e
      obtain ⟨rfl, rfl, rfl, rfl, rfl⟩ := e
      obtain ⟨_, _, _, _, _, e, hy4⟩ := hv'
      injection e with e
      simp only [Array.mk.injEq, List.cons.injEq, and_true] at e
      obtain ⟨rfl, rfl, rfl, rfl, rfl⟩ := e
      obtain ⟨i0, l1, i2, i3, X4, n4, z4, rfl, rfl, rfl, rfl, rfl⟩ := hx4.form
      obtain ⟨i0', l1', i2', i3', X4', n4', z4', rfl, rfl, rfl, rfl, rfl⟩ := hy4.form
      unfold strV at *
      generalize (⟨l1.toArray⟩ : ByteArray) = s2 at *
      generalize (⟨l1'.toArray⟩ : ByteArray) = s2' at *
      clear hx4 hy4 hks hks' HR HN hall
      generalize sameS f g ks[j] ks'[j] = p at *
      have hbr : b < wr.heap.size := Nat.lt_of_lt_of_le hb B.size
      have hbr' : b' < wr.heap.size := Nat.lt_of_lt_of_le hb' B.size
      go_wp2_with fail
      refine hc.mono ?_
      rintro e w5 ⟨rfl, b5⟩
      have B5 := B2.trans (b5.mono B2.size)
      clear hc b5 B2 k0 k1 k2 k3 k4 m0 m1 m2 m3 m4
      cases p with
      | true =>
        have hy := Lib.hid (hyes.out rfl)
        clear hyes hno
        go_wp2_with fail
        go_roundw
        case rel => exact ⟨j + 1, by omega, hy.out, by go_num, B5⟩
        case measure => simp [intOf]; omega
      | false =>
        have hr := hno.out rfl
        clear hyes hno
        subst hr
        go_wp2_with fail
        go_ret
        exact ⟨rfl, B5⟩
    · have hr : r = true := HR.out fun i u v hu hv => hall.out i u v (by have := (List.getElem?_eq_some_iff.1 hu).1; omega) hu hv
      clear HR HN hall
      subst hr
      go_wp2_with fail
      go_ret
      exact ⟨rfl, B⟩
set_option maxHeartbeats 4000000 in
theorem zpsame_any (S S' : Nat → Prop) : ∀ (f g : Nat) (a : Sc f) (b : Sc g) (x y : Value) (w : World), ZV w S f x a → ZV w S' g y b →
    Calls Try.prog 18 #[x, y] w fun e w' => e = .returned (.bool (sameS f g a b)) ∧ Below w.heap.size w w' := by
  intro f
  induction f with
  | zero => intro g a; exact nomatch a
  | succ f ih =>
    intro g a b x y w hx hy
    cases g with
    | zero => exact nomatch b
    | succ g =>
    obtain ⟨c0, c1, c2, c3, c4, rfl, rfl, _, rfl, _, rfl, _, rfl, _, hks⟩ := hx
    obtain ⟨c0', c1', c2', c3', c4', rfl, rfl, _, rfl, _, rfl, _, rfl, _, hks'⟩ := hy
    obtain ⟨A3, cap3, e3, hl3, hm3⟩ := hks.form
    obtain ⟨A3', cap3', e3', _⟩ := hks'.form
    obtain ⟨k, d, n, o, ks⟩ := (a : Ns (Sc f))
    obtain ⟨k', d', n', o', ks'⟩ := (b : Ns (Sc g))
    simp only at e3 e3' hks hks' hl3
    subst e3 e3'
    have hr : sameS (f + 1) (g + 1) (⟨k, d, n, o, ks⟩ : Ns (Sc f)) (⟨k', d', n', o', ks'⟩ : Ns (Sc g)) = (decide (k = k') && decide (d = d') && decide (n = n') && decide (o = o') && sameSL (sameS f g) ks ks') := rfl
    rw [hr]
    clear hr
    dsimp only
    unfold strV at *
    obtain ⟨s, hs⟩ : ∃ s : ByteArray, s = ⟨d.toArray⟩ := ⟨_, rfl⟩
    obtain ⟨s', hs'⟩ : ∃ s : ByteArray, s = ⟨d'.toArray⟩ := ⟨_, rfl⟩
    rw [← hs, ← hs']
    have gq := zeq_txt s s' d d' hs hs'
    clear hs hs'
    obtain ⟨kx, ky, B0⟩ := ztwo_boxes w #[.int .i64 k, .string s, .int .i64 n, .int .i64 o, .slice A3 ks.length cap3] #[.int .i64 k', .string s', .int .i64 n', .int .i64 o', .slice A3' ks'.length cap3'] 24 24
    have hc := zpeq_any S S' f g (ih g) ks ks' _ _ _ (ZS.past hks B0) (ZS.past hks' B0)
    generalize decide (d = d') = e at *
    generalize sameSL (sameS f g) ks ks' = p at *
    generalize ks.length = kl at *
    generalize ks'.length = kl' at *
    clear hks hks' hl3 ih
    by_cases h1 : k = k'
    case neg =>
      rw [decide_eq_false h1, Bool.false_and, Bool.false_and, Bool.false_and, Bool.false_and]
      have g1 : (k == k') = false := beq_eq_false_iff_ne.2 h1
      clear gq hc
      go_enter Try.func18, Try.ntmps18
      go_wp2_with fail
      go_ret
      exact ⟨rfl, B0⟩
    subst h1
    rw [decide_eq_true rfl, Bool.true_and]
    cases e with
    | false =>
      rw [Bool.false_and, Bool.false_and, Bool.false_and]
      have gp := (zeq_both gq).2 rfl
      clear hc
      go_enter Try.func18, Try.ntmps18
      go_wp2_with fail
      go_ret
      exact ⟨rfl, B0⟩
    | true =>
      rw [Bool.true_and]
      have gp := (zeq_both gq).1 rfl
      by_cases h2 : n = n'
      case neg =>
        rw [decide_eq_false h2, Bool.false_and, Bool.false_and]
        have g1 : (n == n') = false := beq_eq_false_iff_ne.2 h2
        clear hc
        go_enter Try.func18, Try.ntmps18
        go_wp2_with fail
        go_ret
        exact ⟨rfl, B0⟩
      subst h2
      rw [decide_eq_true rfl, Bool.true_and]
      by_cases h3 : o = o'
      case neg =>
        rw [decide_eq_false h3, Bool.false_and]
        have g1 : (o == o') = false := beq_eq_false_iff_ne.2 h3
        clear hc
        go_enter Try.func18, Try.ntmps18
        go_wp2_with fail
        go_ret
        exact ⟨rfl, B0⟩
      subst h3
      rw [decide_eq_true rfl, Bool.true_and]
      go_enter Try.func18, Try.ntmps18
      go_wp2_with fail
      refine hc.mono ?_
      rintro e w5 ⟨rfl, b5⟩
      have B5 := B0.trans (b5.mono B0.size)
      clear hc gq gp
      go_wp2_with fail
      go_ret
      exact ⟨rfl, B5⟩
end
section
open Go.RowKit
set_option maxHeartbeats 4000000 in
theorem zrsame_any (S S' : Nat → Prop) : ∀ (f g : Nat) (a : Sc f) (b : Sc g) (x y : Value) (w : World), ZV w S f x a → ZV w S' g y b →
    Calls Try.prog 17 #[x, y] w fun e w' => e = .returned (.bool (sameS f g a b)) ∧ Below w.heap.size w w' := by
  intro f
  induction f with
  | zero => intro g a; exact nomatch a
  | succ f ih =>
    intro g a b x y w hx hy
    cases g with
    | zero => exact nomatch b
    | succ g =>
    obtain ⟨c0, c1, c2, c3, c4, rfl, rfl, _, rfl, _, rfl, _, rfl, _, hks⟩ := hx
    obtain ⟨c0', c1', c2', c3', c4', rfl, rfl, _, rfl, _, rfl, _, rfl, _, hks'⟩ := hy
    obtain ⟨A3, cap3, e3, hl3, hm3⟩ := hks.form
    obtain ⟨A3', cap3', e3', _⟩ := hks'.form
    obtain ⟨k, d, n, o, ks⟩ := (a : Ns (Sc f))
    obtain ⟨k', d', n', o', ks'⟩ := (b : Ns (Sc g))
    simp only at e3 e3' hks hks' hl3
    subst e3 e3'
    have hlen : ks.length ≤ 9223372036854775807 := by unfold maxLen at hm3; omega
    have hr : sameS (f + 1) (g + 1) (⟨k, d, n, o, ks⟩ : Ns (Sc f)) (⟨k', d', n', o', ks'⟩ : Ns (Sc g)) = (decide (k = k') && (decide (d = d') && (decide (n = n') && (decide (o = o') && sameSL (sameS f g) ks ks')))) := by
      rw [Bool.eq_iff_iff, sameS_parts]
      simp only [Bool.and_eq_true, decide_eq_true_eq]
    rw [hr]
    clear hr
    dsimp only
    unfold strV at *
    obtain ⟨s, hs⟩ : ∃ s : ByteArray, s = ⟨d.toArray⟩ := ⟨_, rfl⟩
    obtain ⟨s', hs'⟩ : ∃ s : ByteArray, s = ⟨d'.toArray⟩ := ⟨_, rfl⟩
    rw [← hs, ← hs']
    have gs := zne_txt s s' d d' hs hs'
    clear hs hs'
    obtain ⟨kx, ky, B0⟩ := ztwo_boxes w #[.int .i64 k, .string s, .int .i64 n, .int .i64 o, .slice A3 ks.length cap3] #[.int .i64 k', .string s', .int .i64 n', .int .i64 o', .slice A3' ks'.length cap3'] 24 24
    generalize decide (d = d') = e at *
    by_cases h1 : k = k'
    case neg =>
      rw [decide_eq_false h1, Bool.false_and]
      have g1 : (k != k') = true := bne_iff_ne.2 h1
      clear gs
      go_enter Try.func17, Try.ntmps17
      go_wp2_with fail
      go_ret
      exact ⟨rfl, B0⟩
    subst h1
    rw [decide_eq_true rfl, Bool.true_and]
    cases e with
    | false =>
      rw [Bool.false_and]
      rw [Bool.not_false] at gs
      replace gs := (zeq_prop gs).1 rfl
      go_enter Try.func17, Try.ntmps17
      go_wp2_with fail
      go_ret
      exact ⟨rfl, B0⟩
    | true =>
      rw [Bool.true_and]
      rw [Bool.not_true] at gs
      replace gs := (zeq_prop gs).2 rfl
      by_cases h2 : n = n'
      case neg =>
        rw [decide_eq_false h2, Bool.false_and]
        have g1 : (n != n') = true := bne_iff_ne.2 h2
        go_enter Try.func17, Try.ntmps17
        go_wp2_with fail
        go_ret
        exact ⟨rfl, B0⟩
      subst h2
      rw [decide_eq_true rfl, Bool.true_and]
      by_cases h2 : o = o'
      case neg =>
        rw [decide_eq_false h2, Bool.false_and]
        have g1 : (o != o') = true := bne_iff_ne.2 h2
        go_enter Try.func17, Try.ntmps17
        go_wp2_with fail
        go_ret
        exact ⟨rfl, B0⟩
      subst h2
      rw [decide_eq_true rfl, Bool.true_and]
      by_cases h3 : ks.length = ks'.length
      case neg =>
        rw [zsame_long h3]
        have g1 : (ks.length != ks'.length) = true := bne_iff_ne.2 h3
        have g2 : ((ks.length : Int) != (ks'.length : Int)) = true := bne_iff_ne.2 (by omega)
        go_enter Try.func17, Try.ntmps17
        go_wp2_with fail
        go_ret
        exact ⟨rfl, B0⟩
      rw [← h3] at hks' kx ky B0 ⊢
      have HR : Hid ((∀ (i : Nat) (u : Sc f) (v : Sc g), ks[i]? = some u → ks'[i]? = some v → sameS f g u v = true) → sameSL (sameS f g) ks ks' = true) := fun h => zsame_yes h3 h
      have HN : Hid (∀ (i : Nat) (u : Sc f) (v : Sc g), ks[i]? = some u → ks'[i]? = some v → sameS f g u v = false → sameSL (sameS f g) ks ks' = false) := fun i u v h1 h2 h => zsame_stop h1 h2 h
      have H3 := Lib.hid h3
      clear h3
      generalize sameSL (sameS f g) ks ks' = r at *
      go_enter Try.func17, Try.ntmps17
      go_wp2_with fail
      clear gs
      go_loopw [5] (fun iv wr => ∃ j : Nat, j ≤ ks.length ∧ Hid (∀ (i : Nat) (u : Sc f) (v : Sc g), i < j → ks[i]? = some u → ks'[i]? = some v → sameS f g u v = true) ∧ iv = .int .i64 j ∧
        KB wr w.heap.size 24 #[.int .i64 k, .string s, .int .i64 n, .int .i64 o, .slice A3 ks.length cap3] ∧ KB wr (w.heap.size + 1) 24 #[.int .i64 k, .string s', .int .i64 n, .int .i64 o, .slice A3' ks.length cap3'] ∧
        Below w.heap.size w wr) (fun iv _ => ks.length - (intOf iv).toNat)
      case atStart => exact ⟨0, by omega, fun i u v h => absurd h (by omega), rfl, kx, ky, B0⟩
      case round =>
        obtain ⟨j, hj, hall, rfl, K, L, B⟩ := hrel
        have q3 : wr.cell? ⟨w.heap.size, 4, none⟩ = some (.slice A3 ks.length cap3) := K.cell 4
        by_cases hlt : j < ks.length
        · have hlt' : j < ks'.length := by have := H3.out; omega
          obtain ⟨b, q, e0, e1, e2, e3, e4, rfl, hb, k0, k1, k2, k3, k4, hv⟩ := kid_zb hks rfl B j hlt
          obtain ⟨b', q', d0, d1, d2, d3, d4, rfl, hb', m0, m1, m2, m3, m4, hv'⟩ := kid_zb hks' H3.out.symm B j hlt'
          have p3 : wr.cell? ⟨w.heap.size + 1, 4, none⟩ = some (.slice (some ⟨b', q', none⟩) ks.length cap3') := L.cell 4
          have tv : ZV wr.drew S f (.agg #[e0, e1, e2, e3, e4]) ks[j] := hv.below' (Below_drawn (Below.refl _ _) 1)
          have tv' : ZV wr.drew S' g (.agg #[d0, d1, d2, d3, d4]) ks'[j] := hv'.below' (Below_drawn (Below.refl _ _) 1)
          have hc := ih g ks[j] ks'[j] _ _ wr.drew tv tv'
          have hyes : Hid (sameS f g ks[j] ks'[j] = true → ∀ (i : Nat) (u : Sc f) (v : Sc g), i < j + 1 → ks[i]? = some u → ks'[i]? = some v → sameS f g u v = true) := by
            intro hp i u v hi hu hw
            rcases Nat.lt_or_ge i j with h | h
            · exact hall.out i u v h hu hw
            · obtain rfl : i = j := by omega
              rw [List.getElem?_eq_getElem hlt] at hu
              rw [List.getElem?_eq_getElem hlt'] at hw
              injection hu with hu
              injection hw with hw
              rw [← hu, ← hw]; exact hp
          have hno : Hid (sameS f g ks[j] ks'[j] = false → r = false) := fun hp => HN.out j _ _ (List.getElem?_eq_getElem hlt) (List.getElem?_eq_getElem hlt') hp
          have K' : KB wr.drew w.heap.size 24 #[.int .i64 k, .string s, .int .i64 n, .int .i64 o, .slice (some ⟨b, q, none⟩) ks.length cap3] := K
          have L' : KB wr.drew (w.heap.size + 1) 24 #[.int .i64 k, .string s', .int .i64 n, .int .i64 o, .slice (some ⟨b', q', none⟩) ks.length cap3'] := L
          have B' : Below w.heap.size w wr.drew := Below_drawn B 1
          clear hv hv' tv tv' hks hks' HR HN K L B hall
          generalize sameS f g ks[j] ks'[j] = p at *
          have far : ∀ w5, Below wr.drew.heap.size wr.drew w5 → ∀ (h : Nat) (i : Nat) (u : Value), h < w.heap.size → wr.cell? ⟨h, i, none⟩ = some u → w5.cell? ⟨h, i, none⟩ = some u := fun w5 b5 h i u hg hu =>
            (World.cell?_of_block (w := wr.drew) (b5.block h (Nat.lt_of_lt_of_le hg B'.size))).trans hu
          go_wp2_with fail
          go_region_held3 (fun w' => w'.cell? ⟨w.heap.size, 4, none⟩ = some (.slice (some ⟨b, q, none⟩) ks.length cap3) ∧ w'.cell? ⟨w.heap.size + 1, 4, none⟩ = some (.slice (some ⟨b', q', none⟩) ks.length cap3') ∧
              w'.cell? ⟨b, q + j * 5, none⟩ = some e0 ∧ w'.cell? ⟨b, q + j * 5 + 1, none⟩ = some e1 ∧ w'.cell? ⟨b, q + j * 5 + 2, none⟩ = some e2 ∧ w'.cell? ⟨b, q + j * 5 + 3, none⟩ = some e3 ∧ w'.cell? ⟨b, q + j * 5 + 4, none⟩ = some e4 ∧
              w'.cell? ⟨b', q' + j * 5, none⟩ = some d0 ∧ w'.cell? ⟨b', q' + j * 5 + 1, none⟩ = some d1 ∧ w'.cell? ⟨b', q' + j * 5 + 2, none⟩ = some d2 ∧ w'.cell? ⟨b', q' + j * 5 + 3, none⟩ = some d3 ∧ w'.cell? ⟨b', q' + j * 5 + 4, none⟩ = some d4)
            (first | exact ⟨q3, p3, k0, k1, k2, k3, k4, m0, m1, m2, m3, m4⟩ | exact ⟨K'.cell 4, L'.cell 4, far _ b5 _ _ _ hb k0, far _ b5 _ _ _ hb k1, far _ b5 _ _ _ hb k2, far _ b5 _ _ _ hb k3, far _ b5 _ _ _ hb k4, far _ b5 _ _ _ hb' m0, far _ b5 _ _ _ hb' m1, far _ b5 _ _ _ hb' m2, far _ b5 _ _ _ hb' m3, far _ b5 _ _ _ hb' m4⟩ | go_keep)
            (first
              | (go_at_call 17; refine hc.mono ?_; rintro e w5 ⟨rfl, b5⟩; replace K' := K'.below b5 K'.lt; replace L' := L'.below b5 L'.lt; replace B' := B'.trans (b5.mono B'.size)))
          clear far k0 k1 k2 k3 k4 m0 m1 m2 m3 m4 q3 p3 hc b5
          cases p with
          | true =>
            have hy := Lib.hid (hyes.out rfl)
            clear hyes hno
            go_wp2_with fail
            go_roundw
            case rel => exact ⟨j + 1, by omega, hy.out, by go_num, K', L', B'⟩
            case measure => simp [intOf]; omega
          | false =>
            have hr := hno.out rfl
            clear hyes hno
            subst hr
            go_wp2_with fail
            go_ret
            exact ⟨rfl, B'⟩
        · have hr : r = true := HR.out fun i u v hu hv => hall.out i u v (by have := (List.getElem?_eq_some_iff.1 hu).1; omega) hu hv
          clear HR HN hall
          subst hr
          go_wp2_with fail
          go_ret
          exact ⟨rfl, B⟩
end
section
open Go.RowKit Go.ChangeShapes Go.WideShapes Go.Joins
theorem zget_num (b : List UInt8) : I64 (getSc b).2 := by
  unfold getSc I64
  split <;> simp
theorem zsame_refl {f : Nat} (t : Sc f) : sameS f f t t = true := (sameS_iff f t t).2 rfl
set_option maxHeartbeats 8000000 in
theorem scopeGets_main (f : Nat) (t : Sc f) (lb : List UInt8) (v vb : Value) (w : World) (h : ZV w (fun b => b < w.heap.size) f v t) (hb : BS w (fun _ => True) vb lb) : Calls Try.prog 4 #[vb, v] w (Yes20 w) := by
  obtain ⟨i0, l1, i2, i3, X4, n4, z4, rfl⟩ := h.form
  obtain ⟨A, c, rfl, _⟩ := hb.form
  have hlm := hb.len
  have h1 := h.alloc (.cells #[.int .i64 i0, strV l1, .int .i64 i2, .int .i64 i3, .slice X4 n4 z4] 24)
  have B1 := (Below.refl w.heap.size w).alloc (Nat.le_refl _) (.cells #[.int .i64 i0, strV l1, .int .i64 i2, .int .i64 i3, .slice X4 n4 z4] 24)
  have kb := KB.new w 24 #[.int .i64 i0, strV l1, .int .i64 i2, .int .i64 i3, .slice X4 n4 z4]
  have hs := zsmall_any _ f t _ _ h1
  have h2 := hb.alloc (.cells #[.int .i64 i0, strV l1, .int .i64 i2, .int .i64 i3, .slice X4 n4 z4] 24)
  unfold strV at *
  generalize (⟨l1.toArray⟩ : ByteArray) = s at *
  by_cases h6 : (600 : Int) < (lb.length : Int)
  · have E6 := decide_eq_true h6
    clear h hb h1 h2 hs
    go_enter Try.func4, Try.ntmps4
    go_wp2_with fail
    refine (live20_any _).mono ?_
    rintro e w2 ⟨rfl, b2⟩
    have B3 := B1.trans (b2.mono B1.size)
    go_wp2_with fail
    go_ret
    exact ⟨rfl, B3⟩
  have E6 := decide_eq_false h6
  have HLB : Hid (lb.length ≤ 1000000) := by show _ ≤ _; omega
  have h := h1
  have hI := zget_num lb
  clear h1 hb hlm h6
  go_enter Try.func4, Try.ntmps4
  go_wp2_with fail
  refine hs.mono ?_
  rintro e w1 ⟨b, rfl, _, b1⟩
  have kx := kb.below b1 kb.lt
  have B := B1.trans (b1.mono B1.size)
  have hx := h.below' b1
  have hbb := h2.below' b1
  clear hs b1 kb B1 h h2
  cases b with
  | false =>
    clear hx hbb
    go_wp2_with fail
    refine (live20_any _).mono ?_
    rintro e w2 ⟨rfl, b2⟩
    have B3 := B.trans (b2.mono B.size)
    go_wp2_with fail
    go_ret
    exact ⟨rfl, B3⟩
  | true =>
    have hg1 := zpget_any _ _ lb w1 hbb HLB.out
    go_wp2_with fail
    refine hg1.mono ?_
    rintro e w2 ⟨vy, rfl, hy, b2⟩
    obtain ⟨y0, ly, y2, y3, Y4, m4, yz, rfl⟩ := hy.form
    unfold strV at *
    generalize (⟨ly.toArray⟩ : ByteArray) = sy at *
    replace kx := (kx.below b2 kx.lt).alloc (.cells #[.int .i64 y0, .string sy, .int .i64 y2, .int .i64 y3, .slice Y4 m4 yz] 24)
    replace B := (B.trans (b2.mono B.size)).alloc (Nat.le_trans B.size b2.size) (.cells #[.int .i64 y0, .string sy, .int .i64 y2, .int .i64 y3, .slice Y4 m4 yz] 24)
    replace hx := (hx.below' b2).alloc (.cells #[.int .i64 y0, .string sy, .int .i64 y2, .int .i64 y3, .slice Y4 m4 yz] 24)
    replace hbb := (hbb.below' b2).alloc (.cells #[.int .i64 y0, .string sy, .int .i64 y2, .int .i64 y3, .slice Y4 m4 yz] 24)
    replace hy := hy.alloc (.cells #[.int .i64 y0, .string sy, .int .i64 y2, .int .i64 y3, .slice Y4 m4 yz] 24)
    have ky := KB.new w2 24 #[.int .i64 y0, .string sy, .int .i64 y2, .int .i64 y3, .slice Y4 m4 yz]
    have hg2 := zrget_any _ _ lb _ hbb HLB.out
    clear hg1 b2 hbb
    go_wp2_with fail
    refine hg2.mono ?_
    rintro e w3 ⟨vz, rfl, hz, b3⟩
    obtain ⟨u0, lz, u2, u3, Z4, o4, zz, rfl⟩ := hz.form
    unfold strV at *
    generalize (⟨lz.toArray⟩ : ByteArray) = sz at *
    replace kx := (kx.below b3 kx.lt).alloc (.cells #[.int .i64 u0, .string sz, .int .i64 u2, .int .i64 u3, .slice Z4 o4 zz] 24)
    replace ky := (ky.below b3 ky.lt).alloc (.cells #[.int .i64 u0, .string sz, .int .i64 u2, .int .i64 u3, .slice Z4 o4 zz] 24)
    replace B := (B.trans (b3.mono B.size)).alloc (Nat.le_trans B.size b3.size) (.cells #[.int .i64 u0, .string sz, .int .i64 u2, .int .i64 u3, .slice Z4 o4 zz] 24)
    replace hx := (hx.below' b3).alloc (.cells #[.int .i64 u0, .string sz, .int .i64 u2, .int .i64 u3, .slice Z4 o4 zz] 24)
    replace hy := (hy.below' b3).alloc (.cells #[.int .i64 u0, .string sz, .int .i64 u2, .int .i64 u3, .slice Z4 o4 zz] 24)
    replace hz := hz.alloc (.cells #[.int .i64 u0, .string sz, .int .i64 u2, .int .i64 u3, .slice Z4 o4 zz] 24)
    have kz := KB.new w3 24 #[.int .i64 u0, .string sz, .int .i64 u2, .int .i64 u3, .slice Z4 o4 zz]
    clear hg2 b3
    generalize (getSc lb).2 = ce at *
    generalize (getSc lb).1 = gy at *
    change Sc 9 at gy
    have EC : (ce == ce) = true := by simp
    obtain ⟨m, hm⟩ : ∃ m, m = sameS f 9 t gy := ⟨_, rfl⟩
    have EM : (m == m) = true := by simp
    have HM := Lib.hid hm
    clear hm
    replace kx : KB (w3.alloc (.cells #[.int .i64 u0, .string sz, .int .i64 u2, .int .i64 u3, .slice Z4 o4 zz] 24)).drew w.heap.size 24 #[.int .i64 i0, .string s, .int .i64 i2, .int .i64 i3, .slice X4 n4 z4] := kx
    replace ky : KB (w3.alloc (.cells #[.int .i64 u0, .string sz, .int .i64 u2, .int .i64 u3, .slice Z4 o4 zz] 24)).drew w2.heap.size 24 #[.int .i64 y0, .string sy, .int .i64 y2, .int .i64 y3, .slice Y4 m4 yz] := ky
    replace kz : KB (w3.alloc (.cells #[.int .i64 u0, .string sz, .int .i64 u2, .int .i64 u3, .slice Z4 o4 zz] 24)).drew w3.heap.size 24 #[.int .i64 u0, .string sz, .int .i64 u2, .int .i64 u3, .slice Z4 o4 zz] := kz
    replace B : Below w.heap.size w (w3.alloc (.cells #[.int .i64 u0, .string sz, .int .i64 u2, .int .i64 u3, .slice Z4 o4 zz] 24)).drew := Below_drawn B 1
    replace hx : ZV (w3.alloc (.cells #[.int .i64 u0, .string sz, .int .i64 u2, .int .i64 u3, .slice Z4 o4 zz] 24)).drew _ f (.agg #[.int .i64 i0, .string s, .int .i64 i2, .int .i64 i3, .slice X4 n4 z4]) t := hx.below' (Below_drawn (Below.refl _ _) 1)
    replace hy : ZV (w3.alloc (.cells #[.int .i64 u0, .string sz, .int .i64 u2, .int .i64 u3, .slice Z4 o4 zz] 24)).drew _ 9 (.agg #[.int .i64 y0, .string sy, .int .i64 y2, .int .i64 y3, .slice Y4 m4 yz]) gy := hy.below' (Below_drawn (Below.refl _ _) 1)
    replace hz : ZV (w3.alloc (.cells #[.int .i64 u0, .string sz, .int .i64 u2, .int .i64 u3, .slice Z4 o4 zz] 24)).drew _ 9 (.agg #[.int .i64 u0, .string sz, .int .i64 u2, .int .i64 u3, .slice Z4 o4 zz]) gy := hz.below' (Below_drawn (Below.refl _ _) 1)
    go_wp2_with fail
    rename_i KK hKK
    have HKK := Lib.hid hKK
    clear hKK
    refine wp_region_held_drew (S := (fun W => W.cell? ⟨w.heap.size, 0, none⟩ = some (.int .i64 i0) ∧ W.cell? ⟨w.heap.size, 1, none⟩ = some (.string s) ∧ W.cell? ⟨w.heap.size, 2, none⟩ = some (.int .i64 i2) ∧ W.cell? ⟨w.heap.size, 3, none⟩ = some (.int .i64 i3) ∧ W.cell? ⟨w.heap.size, 4, none⟩ = some (.slice X4 n4 z4) ∧ W.cell? ⟨w2.heap.size, 0, none⟩ = some (.int .i64 y0) ∧ W.cell? ⟨w2.heap.size, 1, none⟩ = some (.string sy) ∧ W.cell? ⟨w2.heap.size, 2, none⟩ = some (.int .i64 y2) ∧ W.cell? ⟨w2.heap.size, 3, none⟩ = some (.int .i64 y3) ∧ W.cell? ⟨w2.heap.size, 4, none⟩ = some (.slice Y4 m4 yz) ∧ W.cell? ⟨w3.heap.size, 0, none⟩ = some (.int .i64 u0) ∧ W.cell? ⟨w3.heap.size, 1, none⟩ = some (.string sz) ∧ W.cell? ⟨w3.heap.size, 2, none⟩ = some (.int .i64 u2) ∧ W.cell? ⟨w3.heap.size, 3, none⟩ = some (.int .i64 u3) ∧ W.cell? ⟨w3.heap.size, 4, none⟩ = some (.slice Z4 o4 zz))) (by kernel_rfl) ⟨kx.cell 0, kx.cell 1, kx.cell 2, kx.cell 3, kx.cell 4, ky.cell 0, ky.cell 1, ky.cell 2, ky.cell 3, ky.cell 4, kz.cell 0, kz.cell 1, kz.cell 2, kz.cell 3, kz.cell 4⟩ (fun hHeld => ?_)
    generalize (w3.alloc (.cells #[.int .i64 u0, .string sz, .int .i64 u2, .int .i64 u3, .slice Z4 o4 zz] 24)).drew = wd at *
    refine hyY (some 28) 0 rfl hHeld ?_; go_frame
    refine hyY (some 29) 1 rfl hHeld ?_; go_frame
    refine hyO (some 30) 2 rfl (fun K hK => ?_)
    go_simp
    go_at_call 17
    refine (zrsame_any _ _ 9 9 gy gy _ _ _ hy hz).mono ?_
    rintro e w5 ⟨rfl, b5⟩
    rw [zsame_refl]
    replace kx := kx.below b5 kx.lt
    replace ky := ky.below b5 ky.lt
    replace kz := kz.below b5 kz.lt
    replace hx := hx.below' b5
    replace hy := hy.below' b5
    replace hz := hz.below' b5
    replace B := B.trans (b5.mono B.size)
    clear b5
    go_wp2_with fail
    refine hK.out _ _ ?_ (fun hH2 => ?_)
    · exact ⟨kx.cell 0, kx.cell 1, kx.cell 2, kx.cell 3, kx.cell 4, ky.cell 0, ky.cell 1, ky.cell 2, ky.cell 3, ky.cell 4, kz.cell 0, kz.cell 1, kz.cell 2, kz.cell 3, kz.cell 4⟩
    clear hHeld hK K; have hHeld := hH2; clear hH2; try go_frame
    refine hyY (some 31) 3 rfl hHeld ?_; go_frame
    refine hyY (some 32) 4 rfl hHeld ?_; go_frame
    refine hyY (some 34) 6 rfl hHeld ?_; go_frame
    refine hyO (some 33) 5 rfl (fun K hK => ?_)
    go_simp
    go_at_call 13
    refine (zlnum_any ce hI _).mono ?_
    rintro e w6 ⟨rfl, rfl⟩
    go_wp2_with fail
    refine hK.out _ _ ?_ (fun hH2 => ?_)
    · exact ⟨kx.cell 0, kx.cell 1, kx.cell 2, kx.cell 3, kx.cell 4, ky.cell 0, ky.cell 1, ky.cell 2, ky.cell 3, ky.cell 4, kz.cell 0, kz.cell 1, kz.cell 2, kz.cell 3, kz.cell 4⟩
    clear hHeld hK K; have hHeld := hH2; clear hH2; try go_frame
    refine hyY (some 35) 7 rfl hHeld ?_; go_frame
    refine hyY (some 36) 8 rfl hHeld ?_; go_frame
    refine hyY (some 37) 9 rfl hHeld ?_; go_frame
    refine hyY (some 38) 10 rfl hHeld ?_; go_frame
    refine hyY (some 39) 11 rfl hHeld ?_; go_frame
    refine hyY (some 41) 13 rfl hHeld ?_; go_frame
    refine hyY (some 42) 14 rfl hHeld ?_; go_frame
    refine hyO (some 40) 12 rfl (fun K hK => ?_)
    go_simp
    go_at_call 18
    refine (zpsame_any _ _ f 9 t gy _ _ _ hx hy).mono ?_
    rintro e w7 ⟨rfl, b7⟩
    rw [← HM.out]
    replace kx := kx.below b7 kx.lt
    replace ky := ky.below b7 ky.lt
    replace kz := kz.below b7 kz.lt
    replace hx := hx.below' b7
    replace hy := hy.below' b7
    replace hz := hz.below' b7
    replace B := B.trans (b7.mono B.size)
    clear b7
    go_wp2_with fail
    refine hK.out _ _ ?_ (fun hH2 => ?_)
    · exact ⟨kx.cell 0, kx.cell 1, kx.cell 2, kx.cell 3, kx.cell 4, ky.cell 0, ky.cell 1, ky.cell 2, ky.cell 3, ky.cell 4, kz.cell 0, kz.cell 1, kz.cell 2, kz.cell 3, kz.cell 4⟩
    clear hHeld hK K; have hHeld := hH2; clear hH2; try go_frame
    refine hyO (some 43) 15 rfl (fun K hK => ?_)
    go_simp
    go_at_call 17
    refine (zrsame_any _ _ f 9 t gy _ _ _ hx hy).mono ?_
    rintro e w8 ⟨rfl, b8⟩
    rw [← HM.out]
    replace kx := kx.below b8 kx.lt
    replace ky := ky.below b8 ky.lt
    replace kz := kz.below b8 kz.lt
    replace hx := hx.below' b8
    replace hy := hy.below' b8
    replace hz := hz.below' b8
    replace B := B.trans (b8.mono B.size)
    clear b8
    go_wp2_with fail
    refine hK.out _ _ ?_ (fun hH2 => ?_)
    · exact ⟨kx.cell 0, kx.cell 1, kx.cell 2, kx.cell 3, kx.cell 4, ky.cell 0, ky.cell 1, ky.cell 2, ky.cell 3, ky.cell 4, kz.cell 0, kz.cell 1, kz.cell 2, kz.cell 3, kz.cell 4⟩
    clear hHeld hK K; have hHeld := hH2; clear hH2; try go_frame
    refine hyY (some 44) 16 rfl hHeld ?_; go_frame
    refine hyY (some 45) 17 rfl hHeld ?_; go_frame
    refine hyY (some 46) 18 rfl hHeld ?_; go_frame
    refine hyY (some 47) 19 rfl hHeld ?_; go_frame
    refine hyY (some 48) 20 rfl hHeld ?_; go_frame
    refine hyO (some 49) 21 rfl (fun K hK => ?_)
    go_simp
    go_at_call 18
    refine (zpsame_any _ _ f f t t _ _ _ hx hx).mono ?_
    rintro e w9 ⟨rfl, b9⟩
    rw [zsame_refl]
    replace kx := kx.below b9 kx.lt
    replace ky := ky.below b9 ky.lt
    replace kz := kz.below b9 kz.lt
    replace hx := hx.below' b9
    replace hy := hy.below' b9
    replace hz := hz.below' b9
    replace B := B.trans (b9.mono B.size)
    clear b9
    go_wp2_with fail
    refine hK.out _ _ ?_ (fun hH2 => ?_)
    · exact ⟨kx.cell 0, kx.cell 1, kx.cell 2, kx.cell 3, kx.cell 4, ky.cell 0, ky.cell 1, ky.cell 2, ky.cell 3, ky.cell 4, kz.cell 0, kz.cell 1, kz.cell 2, kz.cell 3, kz.cell 4⟩
    clear hHeld hK K; have hHeld := hH2; clear hH2; try go_frame
    refine hyY (some 50) 22 rfl hHeld ?_; go_frame
    refine hyY (some 51) 23 rfl hHeld ?_; go_frame
    refine hyO (some 52) 24 rfl (fun K hK => ?_)
    go_simp
    go_at_call 9
    refine (live20_any _).mono ?_
    rintro e w10 ⟨rfl, b10⟩
    replace kx := kx.below b10 kx.lt
    replace ky := ky.below b10 ky.lt
    replace kz := kz.below b10 kz.lt
    replace hx := hx.below' b10
    replace hy := hy.below' b10
    replace hz := hz.below' b10
    replace B := B.trans (b10.mono B.size)
    clear b10
    go_wp2_with fail
    refine hK.out _ _ ?_ (fun hH2 => ?_)
    · exact ⟨kx.cell 0, kx.cell 1, kx.cell 2, kx.cell 3, kx.cell 4, ky.cell 0, ky.cell 1, ky.cell 2, ky.cell 3, ky.cell 4, kz.cell 0, kz.cell 1, kz.cell 2, kz.cell 3, kz.cell 4⟩
    clear hHeld hK K; have hHeld := hH2; clear hH2; try go_frame
    refine hyY (some 53) 25 rfl hHeld ?_; go_frame
    refine hyY (some 4) 26 rfl hHeld ?_; go_frame
    refine wpAnyH_done (by kernel_rfl) ?_ _
    have hKK := HKK.out
    go_wp2_with fail
    go_ret
    exact ⟨rfl, B⟩
theorem scopeGets_law {H : Type} (enc : TypeId × Value → H) (W : World) (base : Nat) (v0 : Value) (d0 : DataW H) (p0 : List MemPlace) (v1 : Value) (d1 : DataW H) (p1 : List MemPlace)
    (k0 : Value.okWide Try.prog W .any base 27 v0) (k1 : Value.okWide Try.prog W .any base 24 v1)
    (h0 : DataW.Trod enc Try.prog W 0 (fun _ => true) true 27 v0 d0 p0) (h1 : DataW.Trod enc Try.prog W 0 (fun _ => true) true 24 v1 d1 p1) :
    Calls Try.prog 4 #[v0, v1] W fun e W' => e = .returned (.bool true) ∧ Below W.heap.size W W' := by
  obtain ⟨n, hn⟩ := open_scope k1 h1
  obtain ⟨t, ht⟩ := hn n (Nat.le_refl _)
  obtain ⟨l, hl⟩ := BS_of_arg k0 h0
  exact scopeGets_main n t l v1 v0 W ht hl
end
end Go.Proofs.Ytcbkokhjdleoeaa
