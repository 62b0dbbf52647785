/-
  TpN: Whether two terms are the same, by the program: its contract over the loaded program. No condition but what it names.
-/
import Derived.Test.YthgaljgelngmaaaDoorDv06
import Derived.Test.YthgaljgelngmaaaDoorDv14
import Derived.Laws.EntriesVeiled
import Derived.Deep.RegionHeld3

section
namespace Go.Proofs.YthgaljgelngmaaaDoor
open Go.RowKit
set_option linter.unusedVariables false

theorem eqb_any (S S' : Nat → Prop) (x y : Value) (l m : List UInt8) (w : World) (hx : BS w S x l) (hy : BS w S' y m) :
    Calls Tryd.prog 48 #[x, y] w fun e w' => e = .returned (.bool (decide (l = m))) ∧ w = w' := by
  have h1 := hx.str (P := Tryd.prog) (src := 33) (e := 5) (dst := 9) Tryd.underlying33 Tryd.underlying5 Tryd.underlying9
  have h2 := hy.str (P := Tryd.prog) (src := 33) (e := 5) (dst := 9) Tryd.underlying33 Tryd.underlying5 Tryd.underlying9
  have he : (l == m) = decide (l = m) := by
    by_cases h : l = m
    · rw [decide_eq_true h]; exact beq_iff_eq.2 h
    · rw [decide_eq_false h]; exact beq_eq_false_iff_ne.2 h
  obtain ⟨A, c, rfl, _⟩ := hx.form
  obtain ⟨A', c', rfl, _⟩ := hy.form
  go_enter Tryd.func48, Tryd.ntmps48
  go_wp2
  go_ret
  exact ⟨rfl, rfl⟩

set_option maxHeartbeats 1000000 in
theorem same1_any (gw : Nat) (S S' : Nat → Prop) : ∀ (f : Nat) (a b : Tm f) (x y : Value) (w : World), KB w gw 53 #[.func (.func 47) #[] #[.pointer (some ⟨gw, 0, none⟩)]] → TV w S f x a → TV w S' f y b →
    Calls Tryd.prog 47 #[x, y, .pointer (some ⟨gw, 0, none⟩)] w fun e w' => e = .returned (.bool (sameT f a b)) ∧ Below w.heap.size w w' := by
  intro f
  induction f with
  | zero => intro a; exact nomatch a
  | succ f ih =>
    intro a b x y w kw hx hy
    have hgw := kw.lt
    obtain ⟨c0, c1, c2, c3, rfl, rfl, _, rfl, _, hdat, hks⟩ := hx
    obtain ⟨c0', c1', c2', c3', rfl, rfl, _, rfl, _, hdat', hks'⟩ := hy
    obtain ⟨A2, cap2, rfl, _⟩ := hdat.form
    obtain ⟨A2', cap2', rfl, _⟩ := hdat'.form
    obtain ⟨A3, cap3, e3, hl3, hm3, _⟩ := id hks
    obtain ⟨A3', cap3', e3', _⟩ := id hks'
    obtain ⟨k, n, d, ks⟩ := (a : Nd (Tm f))
    obtain ⟨k', n', d', ks'⟩ := (b : Nd (Tm f))
    simp only at e3 e3' hks hks' hdat hdat' hl3
    subst e3 e3'
    have hlen : ks.length ≤ 9223372036854775807 := by unfold maxLen at hm3; omega
    have hr : sameT (f + 1) (⟨k, n, d, ks⟩ : Nd (Tm f)) (⟨k', n', d', ks'⟩ : Nd (Tm f)) = (decide (k = k') && decide (n = n') && decide (d = d') && sameL (sameT f) ks ks') := rfl
    rw [hr]
    clear hr
    have hni : ((n : Int) = (n' : Int)) ↔ n = n' := by omega
    rw [show decide (n = n') = decide ((n : Int) = (n' : Int)) from decide_eq_decide.2 hni.symm]
    clear hni
    generalize (n : Int) = ni at *
    generalize (n' : Int) = ni' at *
    obtain ⟨kx, ky, B0⟩ := two_boxes w #[.int .i64 k, .int .u64 ni, .slice A2 d.length cap2, .slice A3 ks.length cap3] #[.int .i64 k', .int .u64 ni', .slice A2' d'.length cap2', .slice A3' ks'.length cap3'] 35
    have bx := (hdat.alloc (.cells #[.int .i64 k, .int .u64 ni, .slice A2 d.length cap2, .slice A3 ks.length cap3] 35)).alloc (.cells #[.int .i64 k', .int .u64 ni', .slice A2' d'.length cap2', .slice A3' ks'.length cap3'] 35)
    have bx' := (hdat'.alloc (.cells #[.int .i64 k, .int .u64 ni, .slice A2 d.length cap2, .slice A3 ks.length cap3] 35)).alloc (.cells #[.int .i64 k', .int .u64 ni', .slice A2' d'.length cap2', .slice A3' ks'.length cap3'] 35)
    have hs := eqb_any _ _ _ _ d d' _ bx bx'
    clear bx bx' hdat hdat'
    generalize d.length = dl at *
    generalize d'.length = dl' at *
    generalize decide (d = d') = e at *
    by_cases h1 : k = k'
    case neg =>
      rw [decide_eq_false h1]
      have g1 : (k != k') = true := bne_iff_ne.2 h1
      go_enter Tryd.func47, Tryd.ntmps47
      go_wp2_with fail
      go_ret
      exact ⟨rfl, B0⟩
    subst h1
    rw [decide_eq_true rfl, Bool.true_and]
    by_cases h2 : ni = ni'
    case neg =>
      rw [decide_eq_false h2]
      have g1 : (ni != ni') = true := bne_iff_ne.2 h2
      go_enter Tryd.func47, Tryd.ntmps47
      go_wp2_with fail
      go_ret
      exact ⟨rfl, B0⟩
    subst h2
    rw [decide_eq_true rfl, Bool.true_and]
    cases e with
    | false =>
      rw [Bool.false_and]
      go_enter Tryd.func47, Tryd.ntmps47
      go_wp2_with fail
      refine hs.mono ?_
      rintro e w5 ⟨rfl, rfl⟩
      go_wp2_with fail
      go_ret
      exact ⟨rfl, B0⟩
    | true =>
      rw [Bool.true_and]
      by_cases h3 : ks.length = ks'.length
      case neg =>
        rw [sameL_len h3]
        have g1 : (ks.length != ks'.length) = true := bne_iff_ne.2 h3
        have g2 : ((ks.length : Int) != (ks'.length : Int)) = true := bne_iff_ne.2 (by omega)
        go_enter Tryd.func47, Tryd.ntmps47
        go_wp2_with fail
        refine hs.mono ?_
        rintro e w5 ⟨rfl, rfl⟩
        have B5 := B0
        have K5 := kx
        have L5 := ky
        generalize (w.alloc _).alloc _ = w5 at *
        have q3 : w5.cell? ⟨w.heap.size, 3, none⟩ = some (.slice A3 ks.length cap3) := K5.cell 3
        have p3 : w5.cell? ⟨w.heap.size + 1, 3, none⟩ = some (.slice A3' ks'.length cap3') := L5.cell 3
        go_wp2_with fail
        go_ret
        exact ⟨rfl, B5⟩
      rw [← h3] at hks' kx ky hs B0 ⊢
      have HR : Hid ((∀ (i : Nat) (u v : Tm f), ks[i]? = some u → ks'[i]? = some v → sameT f u v = true) → sameL (sameT f) ks ks' = true) := fun h => sameL_all h3 h
      have HN : Hid (∀ (i : Nat) (u v : Tm f), ks[i]? = some u → ks'[i]? = some v → sameT f u v = false → sameL (sameT f) ks ks' = false) := fun i u v h1 h2 h => sameL_stop h1 h2 h
      have H3 := Lib.hid h3
      clear h3
      generalize sameL (sameT f) ks ks' = r at *
      go_enter Tryd.func47, Tryd.ntmps47
      go_wp2_with fail
      refine hs.mono ?_
      rintro e w5 ⟨rfl, rfl⟩
      have B5 := B0
      have K5 := kx
      have L5 := ky
      clear hs kx ky B0
      generalize (w.alloc _).alloc _ = w5 at *
      have q3 : w5.cell? ⟨w.heap.size, 3, none⟩ = some (.slice A3 ks.length cap3) := K5.cell 3
      have p3 : w5.cell? ⟨w.heap.size + 1, 3, none⟩ = some (.slice A3' ks.length cap3') := L5.cell 3
      go_wp2_with fail
      clear q3 p3
      go_loopw [39] (fun iv wr => ∃ j : Nat, j ≤ ks.length ∧ Hid (∀ (i : Nat) (u v : Tm f), i < j → ks[i]? = some u → ks'[i]? = some v → sameT f u v = true) ∧ iv = .int .i64 j ∧
        KB wr w.heap.size 35 #[.int .i64 k, .int .u64 ni, .slice A2 dl cap2, .slice A3 ks.length cap3] ∧ KB wr (w.heap.size + 1) 35 #[.int .i64 k, .int .u64 ni, .slice A2' dl' cap2', .slice A3' ks.length cap3'] ∧
        Below w.heap.size w wr) (fun iv _ => ks.length - (intOf iv).toNat)
      case atStart => exact ⟨0, by omega, fun i u v h => absurd h (by omega), rfl, K5, L5, B5⟩
      case round =>
        obtain ⟨j, hj, hall, rfl, K, L, B⟩ := hrel
        have q3 : wr.cell? ⟨w.heap.size, 3, none⟩ = some (.slice A3 ks.length cap3) := K.cell 3
        by_cases hlt : j < ks.length
        · have hlt' : j < ks'.length := by have := H3.out; omega
          obtain ⟨b, o, e0, e1, e2, e3, rfl, hb, k0, k1, k2, k3, hv⟩ := kid_as hks rfl B j hlt
          obtain ⟨b', o', d0, d1, d2, d3, rfl, hb', m0, m1, m2, m3, hv'⟩ := kid_as hks' H3.out.symm B j hlt'
          have p3 : wr.cell? ⟨w.heap.size + 1, 3, none⟩ = some (.slice (some ⟨b', o', none⟩) ks.length cap3') := L.cell 3
          have tv : TV wr.drew S f (.agg #[e0, e1, e2, e3]) ks[j] := hv.keep (Nat.le_refl _) fun _ _ _ => rfl
          have tv' : TV wr.drew S' f (.agg #[d0, d1, d2, d3]) ks'[j] := hv'.keep (Nat.le_refl _) fun _ _ _ => rfl
          have hc := ih ks[j] ks'[j] _ _ wr.drew (kw.below (Below_drawn B 1) hgw) tv tv'
          have qw : wr.cell? ⟨gw, 0, none⟩ = some (.func (.func 47) #[] #[.pointer (some ⟨gw, 0, none⟩)]) := (kw.below B hgw).cell 0
          have hyes : Hid (sameT f ks[j] ks'[j] = true → ∀ (i : Nat) (u v : Tm f), i < j + 1 → ks[i]? = some u → ks'[i]? = some v → sameT f u v = true) := by
            intro hp i u v hi hu hw
            rcases Nat.lt_or_ge i j with h | h
            · exact hall.out i u v h hu hw
            · obtain rfl : i = j := by omega
              rw [List.getElem?_eq_getElem hlt] at hu
              rw [List.getElem?_eq_getElem hlt'] at hw
              injection hu with hu
              injection hw with hw
              rw [← hu, ← hw]; exact hp
          have hno : Hid (sameT f ks[j] ks'[j] = false → r = false) := fun hp => HN.out j _ _ (List.getElem?_eq_getElem hlt) (List.getElem?_eq_getElem hlt') hp
          have K' : KB wr.drew w.heap.size 35 #[.int .i64 k, .int .u64 ni, .slice A2 dl cap2, .slice (some ⟨b, o, none⟩) ks.length cap3] := K
          have L' : KB wr.drew (w.heap.size + 1) 35 #[.int .i64 k, .int .u64 ni, .slice A2' dl' cap2', .slice (some ⟨b', o', none⟩) ks.length cap3'] := L
          have B' : Below w.heap.size w wr.drew := Below_drawn B 1
          clear hv hv' tv tv' hks hks' HR HN K L B hall
          generalize sameT f ks[j] ks'[j] = p at *
          have far : ∀ w5, Below wr.drew.heap.size wr.drew w5 → ∀ (g : Nat) (i : Nat) (u : Value), g < w.heap.size → wr.cell? ⟨g, i, none⟩ = some u → w5.cell? ⟨g, i, none⟩ = some u := fun w5 b5 g i u hg hu =>
            (World.cell?_of_block (w := wr.drew) (b5.block g (Nat.lt_of_lt_of_le hg B'.size))).trans hu
          go_wp2_with fail
          go_region_held3 (fun w' => w'.cell? ⟨gw, 0, none⟩ = some (.func (.func 47) #[] #[.pointer (some ⟨gw, 0, none⟩)]) ∧ w'.cell? ⟨w.heap.size, 3, none⟩ = some (.slice (some ⟨b, o, none⟩) ks.length cap3) ∧ w'.cell? ⟨w.heap.size + 1, 3, none⟩ = some (.slice (some ⟨b', o', none⟩) ks.length cap3') ∧
              w'.cell? ⟨b, o + j * 4, none⟩ = some e0 ∧ w'.cell? ⟨b, o + j * 4 + 1, none⟩ = some e1 ∧ w'.cell? ⟨b, o + j * 4 + 2, none⟩ = some e2 ∧ w'.cell? ⟨b, o + j * 4 + 3, none⟩ = some e3 ∧
              w'.cell? ⟨b', o' + j * 4, none⟩ = some d0 ∧ w'.cell? ⟨b', o' + j * 4 + 1, none⟩ = some d1 ∧ w'.cell? ⟨b', o' + j * 4 + 2, none⟩ = some d2 ∧ w'.cell? ⟨b', o' + j * 4 + 3, none⟩ = some d3)
            (first | exact ⟨qw, q3, p3, k0, k1, k2, k3, m0, m1, m2, m3⟩ | exact ⟨far _ b5 _ _ _ hgw qw, K'.cell 3, L'.cell 3, far _ b5 _ _ _ hb k0, far _ b5 _ _ _ hb k1, far _ b5 _ _ _ hb k2, far _ b5 _ _ _ hb k3, far _ b5 _ _ _ hb' m0, far _ b5 _ _ _ hb' m1, far _ b5 _ _ _ hb' m2, far _ b5 _ _ _ hb' m3⟩ | go_keep)
            (first
              | (go_at_call 47; refine hc.mono ?_; rintro e w5 ⟨rfl, b5⟩; replace K' := K'.below b5 K'.lt; replace L' := L'.below b5 L'.lt; replace B' := B'.trans (b5.mono B'.size)))
          clear far qw k0 k1 k2 k3 m0 m1 m2 m3 q3 p3 hc b5
          cases p with
          | true =>
            have hy := Lib.hid (hyes.out rfl)
            clear hyes hno
            go_wp2_with fail
            go_roundw
            case rel => exact ⟨j + 1, by omega, hy.out, by go_num, K', L', B'⟩
            case measure => simp [intOf]; omega
          | false =>
            have hr := hno.out rfl
            clear hyes hno
            subst hr
            go_wp2_with fail
            go_ret
            exact ⟨rfl, B'⟩
        · have hr : r = true := HR.out fun i u v hu hv => hall.out i u v (by have := (List.getElem?_eq_some_iff.1 hu).1; omega) hu hv
          clear HR HN hall
          subst hr
          go_wp2_with fail
          go_ret
          exact ⟨rfl, B⟩
set_option maxHeartbeats 400000 in
theorem psame_any (S S' : Nat → Prop) (f : Nat) (a b : Tm f) (x y : Value) (w : World) (hx : TV w S f x a) (hy : TV w S' f y b) :
    Calls Tryd.prog 30 #[x, y] w fun e w' => e = .returned (.bool (sameT f a b)) ∧ Below w.heap.size w w' := by
  obtain ⟨_, _, _, _, rfl, tma⟩ := id hx
  obtain ⟨a0, a1, A2, n2, c2, A3, n3, c3, rfl, rfl, rfl, rfl⟩ := tm_form tma
  obtain ⟨_, _, _, _, rfl, tmb⟩ := id hy
  obtain ⟨b0, b1, B2, m2, d2, B3, m3, d3, rfl, rfl, rfl, rfl⟩ := tm_form tmb
  clear tma tmb
  obtain ⟨W3, hW3⟩ : ∃ W3, W3 = ((w.alloc (.cells #[.int .i64 a0, .int .u64 a1, .slice A2 n2 c2, .slice A3 n3 c3] 35)).alloc (.cells #[.int .i64 b0, .int .u64 b1, .slice B2 m2 d2, .slice B3 m3 d3] 35)).alloc (.cells #[.func (.func 47) #[] #[.pointer (some ⟨w.heap.size + 1 + 1, 0, none⟩)]] 53) := ⟨_, rfl⟩
  have hc := same1_any (w.heap.size + 1 + 1) S S' f a b _ _ W3
    (by rw [hW3]; have := KB.new ((w.alloc (.cells #[.int .i64 a0, .int .u64 a1, .slice A2 n2 c2, .slice A3 n3 c3] 35)).alloc (.cells #[.int .i64 b0, .int .u64 b1, .slice B2 m2 d2, .slice B3 m3 d3] 35)) 53 #[.func (.func 47) #[] #[.pointer (some ⟨w.heap.size + 1 + 1, 0, none⟩)]]; rw [World.size_alloc, World.size_alloc] at this; exact this)
    (by rw [hW3]; exact ((hx.alloc _).alloc _).alloc _) (by rw [hW3]; exact ((hy.alloc _).alloc _).alloc _)
  have B3w : Below w.heap.size w W3 := by rw [hW3]; exact (((Below.refl w.heap.size w).alloc (Nat.le_refl _) _).alloc (by simp) _).alloc (by simp; omega) _
  generalize sameT f a b = r at *
  clear hx hy
  go_enter Tryd.func30, Tryd.ntmps30
  go_wp2_with fail
  (first | rw [← hW3] | skip)
  refine hc.mono ?_
  rintro e w5 ⟨rfl, b5⟩
  have B5 := B3w.trans (b5.mono B3w.size)
  clear hc hW3
  go_wp2_with fail
  go_ret
  exact ⟨rfl, B5⟩
end Go.Proofs.YthgaljgelngmaaaDoor
end
