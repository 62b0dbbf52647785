/-
  ScE: The document's Same (layer 20), over the loaded program: its contract. No condition.
  WritParseW: The law WritParse over the loaded program: which scope every text is, or the error. No condition but that the listed variables are as laid.
  WritParseP: THE STATEMENT WritParse of layer: proved out of the law's contract (writParse_law): for every input the call returns true, and the input reads as it did. No condition.
-/
import Derived.Test.YtjecjlhofnnnpaaGreatDoorWy05
import Derived.Deep.RegionHeld3
import Derived.Test.YtjecjlhofnnnpaaGreatDoorWy29
import Derived.Test.YtjecjlhofnnnpaaGreatDoorWy21
import Derived.Test.YtjecjlhofnnnpaaGreatDoorCards
import Derived.Test.YtjecjlhofnnnpaaGreatDoorTie
import Derived.Test.YtjecjlhofnnnpaaGreatDoorWy07
import Derived.Lay
import Derived.Stop.Joined
import Derived.SevenTiedAt
import Derived.WalkKit
import Derived.ProofKit
import Derived.OpenShut
import Derived.ShutString
import Derived.ChangeOld
import Derived.Below
set_option linter.unusedVariables false
set_option maxRecDepth 100000
namespace Go.Proofs.YtjecjlhofnnnpaaGreatDoor
section
open Go.RowKit
set_option maxHeartbeats 4000000 in
theorem zrsame_any (S S' : Nat → Prop) : ∀ (f g : Nat) (a : Sc f) (b : Sc g) (x y : Value) (w : World), ZV w S f x a → ZV w S' g y b →
    Calls Tryz.prog 12 #[x, y] w fun e w' => e = .returned (.bool (sameS f g a b)) ∧ Below w.heap.size w w' := by
  intro f
  induction f with
  | zero => intro g a; exact nomatch a
  | succ f ih =>
    intro g a b x y w hx hy
    cases g with
    | zero => exact nomatch b
    | succ g =>
    obtain ⟨c0, c1, c2, c3, c4, rfl, rfl, _, rfl, _, rfl, _, rfl, _, hks⟩ := hx
    obtain ⟨c0', c1', c2', c3', c4', rfl, rfl, _, rfl, _, rfl, _, rfl, _, hks'⟩ := hy
    obtain ⟨A3, cap3, e3, hl3, hm3⟩ := hks.form
    obtain ⟨A3', cap3', e3', _⟩ := hks'.form
    obtain ⟨k, d, n, o, ks⟩ := (a : Ns (Sc f))
    obtain ⟨k', d', n', o', ks'⟩ := (b : Ns (Sc g))
    simp only at e3 e3' hks hks' hl3
    subst e3 e3'
    have hlen : ks.length ≤ 9223372036854775807 := by unfold maxLen at hm3; omega
    have hr : sameS (f + 1) (g + 1) (⟨k, d, n, o, ks⟩ : Ns (Sc f)) (⟨k', d', n', o', ks'⟩ : Ns (Sc g)) = (decide (k = k') && (decide (d = d') && (decide (n = n') && (decide (o = o') && sameSL (sameS f g) ks ks')))) := by
      rw [Bool.eq_iff_iff, sameS_parts]
      simp only [Bool.and_eq_true, decide_eq_true_eq]
    rw [hr]
    clear hr
    dsimp only
    unfold strV at *
    obtain ⟨s, hs⟩ : ∃ s : ByteArray, s = ⟨d.toArray⟩ := ⟨_, rfl⟩
    obtain ⟨s', hs'⟩ : ∃ s : ByteArray, s = ⟨d'.toArray⟩ := ⟨_, rfl⟩
    rw [← hs, ← hs']
    have gs := zne_txt s s' d d' hs hs'
    clear hs hs'
    obtain ⟨kx, ky, B0⟩ := ztwo_boxes w #[.int .i64 k, .string s, .int .i64 n, .int .i64 o, .slice A3 ks.length cap3] #[.int .i64 k', .string s', .int .i64 n', .int .i64 o', .slice A3' ks'.length cap3'] 24 24
    generalize decide (d = d') = e at *
    by_cases h1 : k = k'
    case neg =>
      rw [decide_eq_false h1, Bool.false_and]
      have g1 : (k != k') = true := bne_iff_ne.2 h1
      clear gs
      go_enter Tryz.func12, Tryz.ntmps12
      go_wp2_with fail
      go_ret
      exact ⟨rfl, B0⟩
    subst h1
    rw [decide_eq_true rfl, Bool.true_and]
    cases e with
    | false =>
      rw [Bool.false_and]
      rw [Bool.not_false] at gs
      replace gs := (zeq_prop gs).1 rfl
      go_enter Tryz.func12, Tryz.ntmps12
      go_wp2_with fail
      go_ret
      exact ⟨rfl, B0⟩
    | true =>
      rw [Bool.true_and]
      rw [Bool.not_true] at gs
      replace gs := (zeq_prop gs).2 rfl
      by_cases h2 : n = n'
      case neg =>
        rw [decide_eq_false h2, Bool.false_and]
        have g1 : (n != n') = true := bne_iff_ne.2 h2
        go_enter Tryz.func12, Tryz.ntmps12
        go_wp2_with fail
        go_ret
        exact ⟨rfl, B0⟩
      subst h2
      rw [decide_eq_true rfl, Bool.true_and]
      by_cases h2 : o = o'
      case neg =>
        rw [decide_eq_false h2, Bool.false_and]
        have g1 : (o != o') = true := bne_iff_ne.2 h2
        go_enter Tryz.func12, Tryz.ntmps12
        go_wp2_with fail
        go_ret
        exact ⟨rfl, B0⟩
      subst h2
      rw [decide_eq_true rfl, Bool.true_and]
      by_cases h3 : ks.length = ks'.length
      case neg =>
        rw [zsame_long h3]
        have g1 : (ks.length != ks'.length) = true := bne_iff_ne.2 h3
        have g2 : ((ks.length : Int) != (ks'.length : Int)) = true := bne_iff_ne.2 (by omega)
        go_enter Tryz.func12, Tryz.ntmps12
        go_wp2_with fail
        go_ret
        exact ⟨rfl, B0⟩
      rw [← h3] at hks' kx ky B0 ⊢
      have HR : Hid ((∀ (i : Nat) (u : Sc f) (v : Sc g), ks[i]? = some u → ks'[i]? = some v → sameS f g u v = true) → sameSL (sameS f g) ks ks' = true) := fun h => zsame_yes h3 h
      have HN : Hid (∀ (i : Nat) (u : Sc f) (v : Sc g), ks[i]? = some u → ks'[i]? = some v → sameS f g u v = false → sameSL (sameS f g) ks ks' = false) := fun i u v h1 h2 h => zsame_stop h1 h2 h
      have H3 := Lib.hid h3
      clear h3
      generalize sameSL (sameS f g) ks ks' = r at *
      go_enter Tryz.func12, Tryz.ntmps12
      go_wp2_with fail
      clear gs
      go_loopw [5] (fun iv wr => ∃ j : Nat, j ≤ ks.length ∧ Hid (∀ (i : Nat) (u : Sc f) (v : Sc g), i < j → ks[i]? = some u → ks'[i]? = some v → sameS f g u v = true) ∧ iv = .int .i64 j ∧
        KB wr w.heap.size 24 #[.int .i64 k, .string s, .int .i64 n, .int .i64 o, .slice A3 ks.length cap3] ∧ KB wr (w.heap.size + 1) 24 #[.int .i64 k, .string s', .int .i64 n, .int .i64 o, .slice A3' ks.length cap3'] ∧
        Below w.heap.size w wr) (fun iv _ => ks.length - (intOf iv).toNat)
      case atStart => exact ⟨0, by omega, fun i u v h => absurd h (by omega), rfl, kx, ky, B0⟩
      case round =>
        obtain ⟨j, hj, hall, rfl, K, L, B⟩ := hrel
        have q3 : wr.cell? ⟨w.heap.size, 4, none⟩ = some (.slice A3 ks.length cap3) := K.cell 4
        by_cases hlt : j < ks.length
        · have hlt' : j < ks'.length := by have := H3.out; omega
          obtain ⟨b, q, e0, e1, e2, e3, e4, rfl, hb, k0, k1, k2, k3, k4, hv⟩ := kid_zb hks rfl B j hlt
          obtain ⟨b', q', d0, d1, d2, d3, d4, rfl, hb', m0, m1, m2, m3, m4, hv'⟩ := kid_zb hks' H3.out.symm B j hlt'
          have p3 : wr.cell? ⟨w.heap.size + 1, 4, none⟩ = some (.slice (some ⟨b', q', none⟩) ks.length cap3') := L.cell 4
          have tv : ZV wr.drew S f (.agg #[e0, e1, e2, e3, e4]) ks[j] := hv.below' (Below_drawn (Below.refl _ _) 1)
          have tv' : ZV wr.drew S' g (.agg #[d0, d1, d2, d3, d4]) ks'[j] := hv'.below' (Below_drawn (Below.refl _ _) 1)
          have hc := ih g ks[j] ks'[j] _ _ wr.drew tv tv'
          have hyes : Hid (sameS f g ks[j] ks'[j] = true → ∀ (i : Nat) (u : Sc f) (v : Sc g), i < j + 1 → ks[i]? = some u → ks'[i]? = some v → sameS f g u v = true) := by
            intro hp i u v hi hu hw
            rcases Nat.lt_or_ge i j with h | h
            · exact hall.out i u v h hu hw
            · obtain rfl : i = j := by omega
              rw [List.getElem?_eq_getElem hlt] at hu
              rw [List.getElem?_eq_getElem hlt'] at hw
              injection hu with hu
              injection hw with hw
              rw [← hu, ← hw]; exact hp
          have hno : Hid (sameS f g ks[j] ks'[j] = false → r = false) := fun hp => HN.out j _ _ (List.getElem?_eq_getElem hlt) (List.getElem?_eq_getElem hlt') hp
          have K' : KB wr.drew w.heap.size 24 #[.int .i64 k, .string s, .int .i64 n, .int .i64 o, .slice (some ⟨b, q, none⟩) ks.length cap3] := K
          have L' : KB wr.drew (w.heap.size + 1) 24 #[.int .i64 k, .string s', .int .i64 n, .int .i64 o, .slice (some ⟨b', q', none⟩) ks.length cap3'] := L
          have B' : Below w.heap.size w wr.drew := Below_drawn B 1
          clear hv hv' tv tv' hks hks' HR HN K L B hall
          generalize sameS f g ks[j] ks'[j] = p at *
          have far : ∀ w5, Below wr.drew.heap.size wr.drew w5 → ∀ (h : Nat) (i : Nat) (u : Value), h < w.heap.size → wr.cell? ⟨h, i, none⟩ = some u → w5.cell? ⟨h, i, none⟩ = some u := fun w5 b5 h i u hg hu =>
            (World.cell?_of_block (w := wr.drew) (b5.block h (Nat.lt_of_lt_of_le hg B'.size))).trans hu
          go_wp2_with fail
          go_region_held3 (fun w' => w'.cell? ⟨w.heap.size, 4, none⟩ = some (.slice (some ⟨b, q, none⟩) ks.length cap3) ∧ w'.cell? ⟨w.heap.size + 1, 4, none⟩ = some (.slice (some ⟨b', q', none⟩) ks.length cap3') ∧
              w'.cell? ⟨b, q + j * 5, none⟩ = some e0 ∧ w'.cell? ⟨b, q + j * 5 + 1, none⟩ = some e1 ∧ w'.cell? ⟨b, q + j * 5 + 2, none⟩ = some e2 ∧ w'.cell? ⟨b, q + j * 5 + 3, none⟩ = some e3 ∧ w'.cell? ⟨b, q + j * 5 + 4, none⟩ = some e4 ∧
              w'.cell? ⟨b', q' + j * 5, none⟩ = some d0 ∧ w'.cell? ⟨b', q' + j * 5 + 1, none⟩ = some d1 ∧ w'.cell? ⟨b', q' + j * 5 + 2, none⟩ = some d2 ∧ w'.cell? ⟨b', q' + j * 5 + 3, none⟩ = some d3 ∧ w'.cell? ⟨b', q' + j * 5 + 4, none⟩ = some d4)
            (first | exact ⟨q3, p3, k0, k1, k2, k3, k4, m0, m1, m2, m3, m4⟩ | exact ⟨K'.cell 4, L'.cell 4, far _ b5 _ _ _ hb k0, far _ b5 _ _ _ hb k1, far _ b5 _ _ _ hb k2, far _ b5 _ _ _ hb k3, far _ b5 _ _ _ hb k4, far _ b5 _ _ _ hb' m0, far _ b5 _ _ _ hb' m1, far _ b5 _ _ _ hb' m2, far _ b5 _ _ _ hb' m3, far _ b5 _ _ _ hb' m4⟩ | go_keep)
            (first
              | (go_at_call 12; refine hc.mono ?_; rintro e w5 ⟨rfl, b5⟩; replace K' := K'.below b5 K'.lt; replace L' := L'.below b5 L'.lt; replace B' := B'.trans (b5.mono B'.size)))
          clear far k0 k1 k2 k3 k4 m0 m1 m2 m3 m4 q3 p3 hc b5
          cases p with
          | true =>
            have hy := Lib.hid (hyes.out rfl)
            clear hyes hno
            go_wp2_with fail
            go_roundw
            case rel => exact ⟨j + 1, by omega, hy.out, by go_num, K', L', B'⟩
            case measure => simp [intOf]; omega
          | false =>
            have hr := hno.out rfl
            clear hyes hno
            subst hr
            go_wp2_with fail
            go_ret
            exact ⟨rfl, B'⟩
        · have hr : r = true := HR.out fun i u v hu hv => hall.out i u v (by have := (List.getElem?_eq_some_iff.1 hu).1; omega) hu hv
          clear HR HN hall
          subst hr
          go_wp2_with fail
          go_ret
          exact ⟨rfl, B⟩
end
section
open Go.RowKit Go.ChangeShapes Go.WideShapes Go.Joins
theorem parse_num (l : List UInt8) : I64 (parseSc l).2 := by
  rw [parse_is]
  unfold parseT I64
  repeat' split
  all_goals simp
theorem wsame_refl {f : Nat} (t : Sc f) : sameS f f t t = true := (sameS_iff f t t).2 rfl
set_option maxHeartbeats 8000000 in
theorem writParse_main (l : List UInt8) (hl : l.length ≤ maxLen) (w : World) (hT : Tabs w) : Calls Tryz.prog 4 #[strV l] w (Yes21 w) := by
  have hs : ((⟨l.toArray⟩ : ByteArray).size : Int) = (l.length : Int) := rfl
  have hml : l.length ≤ 9223372036854775807 := by unfold maxLen at hl; omega
  have hI := parse_num l
  have HP1 : Hid (∀ W, Below w.heap.size w W → Calls Tryz.prog 10 #[strV l] W (ParseZ W (parseSc l))) := fun W hb => pparse_any l hl W (hT.below hb)
  have HP2 : Hid (∀ W, Calls Tryz.prog 11 #[strV l] W (ParseZ W (parseSc l))) := fun W => wparse_any l hl W
  have HLV : Hid (∀ W, Below w.heap.size w W → Calls Tryz.prog 6 #[] W (Yes21 W)) := fun W hb => live21_any W (hT.below hb)
  have HNM := Lib.hid (wlnum_any _ hI)
  clear hT hI
  generalize parseSc l = r at *
  obtain ⟨x, c⟩ := r
  unfold ParseZ at HP1 HP2
  dsimp only at HP1 HP2 HNM
  have eqc : (c == c) = true := by simp
  unfold strV at *
  generalize (⟨l.toArray⟩ : ByteArray) = s at *
  by_cases h2 : (2000 : Int) < (l.length : Int)
  · have E2 := decide_eq_true h2
    have hlv := HLV.out w (Below.refl _ _)
    clear HP1 HP2 HLV HNM
    go_enter Tryz.func4, Tryz.ntmps4
    go_wp2_with fail
    refine hlv.mono ?_
    rintro e w2 ⟨rfl, b2⟩
    go_wp2_with fail
    go_ret
    exact ⟨rfl, b2⟩
  have E2 := decide_eq_false h2
  have hp1 := HP1.out w (Below.refl _ _)
  clear HP1
  go_enter Tryz.func4, Tryz.ntmps4
  go_wp2_with fail
  refine hp1.mono ?_
  rintro e w1 ⟨v1, rfl, z1, b1⟩
  obtain ⟨i0, l1, i2, i3, X4, n4, z4, rfl⟩ := z1.form
  replace z1 := z1.alloc (.cells #[.int .i64 i0, strV l1, .int .i64 i2, .int .i64 i3, .slice X4 n4 z4] 24)
  have k1 := KB.new w1 24 #[.int .i64 i0, strV l1, .int .i64 i2, .int .i64 i3, .slice X4 n4 z4]
  have B1 := b1.alloc b1.size (.cells #[.int .i64 i0, strV l1, .int .i64 i2, .int .i64 i3, .slice X4 n4 z4] 24)
  unfold strV at *
  generalize (⟨l1.toArray⟩ : ByteArray) = s1 at *
  have hp2 := HP2.out (w1.alloc (.cells #[.int .i64 i0, .string s1, .int .i64 i2, .int .i64 i3, .slice X4 n4 z4] 24))
  clear hp1 b1 HP2
  go_wp2_with fail
  refine hp2.mono ?_
  rintro e w2 ⟨v2, rfl, z2, b2⟩
  obtain ⟨j0, l2, j2, j3, Y4, m4, y4, rfl⟩ := z2.form
  replace z2 := z2.alloc (.cells #[.int .i64 j0, strV l2, .int .i64 j2, .int .i64 j3, .slice Y4 m4 y4] 24)
  have k2 := KB.new w2 24 #[.int .i64 j0, strV l2, .int .i64 j2, .int .i64 j3, .slice Y4 m4 y4]
  replace k1 := (k1.below b2 k1.lt).alloc (.cells #[.int .i64 j0, strV l2, .int .i64 j2, .int .i64 j3, .slice Y4 m4 y4] 24)
  replace z1 := (z1.below' b2).alloc (.cells #[.int .i64 j0, strV l2, .int .i64 j2, .int .i64 j3, .slice Y4 m4 y4] 24)
  replace B1 := (B1.trans (b2.mono B1.size)).alloc (Nat.le_trans B1.size b2.size) (.cells #[.int .i64 j0, strV l2, .int .i64 j2, .int .i64 j3, .slice Y4 m4 y4] 24)
  unfold strV at *
  generalize (⟨l2.toArray⟩ : ByteArray) = s2 at *
  have hsm := zrsame_any _ _ 85 85 x x _ _ _ z1 z2
  have es : sameS 85 85 x x = true := wsame_refl (f := 85) x
  rw [es] at hsm
  clear es
  have q0 : (w2.alloc (.cells #[.int .i64 j0, .string s2, .int .i64 j2, .int .i64 j3, .slice Y4 m4 y4] 24)).cell? ⟨w1.heap.size, 0, none⟩ = some (.int .i64 i0) := k1.cell 0
  have q1 : (w2.alloc (.cells #[.int .i64 j0, .string s2, .int .i64 j2, .int .i64 j3, .slice Y4 m4 y4] 24)).cell? ⟨w1.heap.size, 1, none⟩ = some (.string s1) := k1.cell 1
  have q2 : (w2.alloc (.cells #[.int .i64 j0, .string s2, .int .i64 j2, .int .i64 j3, .slice Y4 m4 y4] 24)).cell? ⟨w1.heap.size, 2, none⟩ = some (.int .i64 i2) := k1.cell 2
  have q3 : (w2.alloc (.cells #[.int .i64 j0, .string s2, .int .i64 j2, .int .i64 j3, .slice Y4 m4 y4] 24)).cell? ⟨w1.heap.size, 3, none⟩ = some (.int .i64 i3) := k1.cell 3
  have q4 : (w2.alloc (.cells #[.int .i64 j0, .string s2, .int .i64 j2, .int .i64 j3, .slice Y4 m4 y4] 24)).cell? ⟨w1.heap.size, 4, none⟩ = some (.slice X4 n4 z4) := k1.cell 4
  clear hp2 b2 z1 z2
  go_wp2_with fail
  refine hsm.mono ?_
  rintro e w3 ⟨rfl, b3⟩
  have B3 := B1.trans (b3.mono B1.size)
  have hn := HNM.out w3
  have hlv := HLV.out _ B3
  clear hsm b3 B1 k1 k2 HNM HLV q0 q1 q2 q3 q4
  go_wp2_with fail
  refine hn.mono ?_
  rintro e w4 ⟨rfl, rfl⟩
  clear hn
  go_wp2_with fail
  refine hlv.mono ?_
  rintro e w5 ⟨rfl, b5⟩
  have B5 := B3.trans (b5.mono B3.size)
  clear hlv
  go_wp2_with fail
  go_ret
  exact ⟨rfl, B5⟩
theorem writParse_law {H : Type} (enc : TypeId × Value → H) (W : World) (base : Nat) (hT : Tabs W) (v0 : Value) (d0 : DataW H) (p0 : List MemPlace)
    (k0 : Value.okWide Tryz.prog W .any base 9 v0) (h0 : DataW.Trod enc Tryz.prog W 0 (fun _ => true) true 9 v0 d0 p0) :
    Calls Tryz.prog 4 #[v0] W fun e W' => e = .returned (.bool true) ∧ Below W.heap.size W W' := by
  obtain ⟨l, rfl, hl⟩ := open_str k0 h0
  exact writParse_main l hl W hT
end
end Go.Proofs.YtjecjlhofnnnpaaGreatDoor
section
namespace Go.Proofs.YtjecjlhofnnnpaaGreatDoor.writParse
open Go.ChangeShapes Go.WideShapes Go.ChangeAt Go.RowKit
theorem own : ownKnob Tryz.prog.godebug = none := by kernel_rfl
theorem laidOut : laidOutB Tryz.prog = true := by kernel_rfl
set_option maxRecDepth 100000 in
theorem lifted (os : Os) (started : os.Started) (H : Type) (enc : TypeId × Value → H) :
    ReturnsInHanded {} Tryz.checked os 4 .any (fun w args => (Rows.writParseSpec.pre enc Tryz.prog Tryz.f4 [] false w args ∧ laidMetH Tryz.prog Rows.writParseRow.laid w) ∧ sizedMet enc Tryz.prog Tryz.f4 (OpenSpec.ofChange Rows.writParseSpec) false w args)
      (Rows.writParseSpec.post enc Tryz.prog Tryz.f4 false true false false) := by
  refine returnsInHanded_of_change_and (C := Tryz.checked) (X := fun w _ => laidMetH Tryz.prog Rows.writParseRow.laid w) (fun _ _ _ hh h => h.of_heap hh) own started (by kernel_rfl) Tryz.func4
    (ChangeSpec.witness_shaped (enc := enc) (C := Tryz.checked) (os := os) (X := fun w _ => laidMetH Tryz.prog Rows.writParseRow.laid w) false (World.laidAll Tryz.prog os Rows.writParseRow.laid) #[.string ByteArray.empty] 8 (World.laidAll_os _ _ _)
      (World.shaped_of_ZipB (by kernel_rfl) (by kernel_rfl)) (by kernel_rfl) (by kernel_rfl) (by kernel_rfl)
      (by rw [MakeChecks.laidMetH_plain _ _ _ (by kernel_rfl)]; exact laidMet_laidAll _ (by kernel_rfl) (by kernel_rfl))) ?_
  intro W base args ds gs before hval0 hW _ _ hL _
  have hval : ∀ (j : Nat) t v, Tryz.f4.params[j]? = some t → args[j]? = some v → Value.okWide Tryz.prog W .any base t v := hval0
  have hW' := hW
  obtain ⟨p, q, hA0, hV, rfl, hfz, hnd⟩ := hW
  have hA : DataW.TrodAll enc Tryz.prog W 0 (fun _ => true) true Tryz.f4.params.toList args.toList ds p := hA0
  rw [Tryz.params4] at hA hval
  obtain ⟨v0, vs0, d0, ds0, p0, q0, hargs, rfl, rfl, h0, r0⟩ := trodAll_cons hA
  obtain ⟨rfl, rfl, rfl⟩ := trodAll_nil r0
  obtain rfl : args = #[v0] := by cases args; simp_all
  obtain ⟨rfl, rfl⟩ := trodVars_none hV
  have lt0 : ∀ x ∈ p0, x.block < W.heap.size := by obtain ⟨m, hm⟩ := h0; exact DataW.trod_lt m _ _ _ hm
  refine (writParse_law enc W base (tabs_of_laid (by kernel_rfl) hL) v0 d0 p0 (hval 0 _ v0 rfl rfl) h0).mono fun e W' ⟨he, bel⟩ => ?_
  subst he
  exact ⟨_, rfl, _, _, _, [], _, [], hW', trodAll_mk1 (shut_bool Tryz.underlying4 _), (trodAll_cons_mk (Below.trod laidOut (by kernel_rfl) (of_decide_eq_true (by kernel_rfl)) h0 bel lt0) trodAll_mk0), rfl, bel.frame _, fun h => by cases h⟩
theorem over : Rows.writParseRow.holds Tryz.pinned (OpenSpec.ofChange Rows.writParseSpec) :=
  OpenClaim.holds_of_wide 4 Tryz.f4 rfl rfl rfl rfl rfl rfl rfl ⟨rfl, rfl, rfl, rfl, rfl⟩ rfl rfl rfl rfl rfl (by kernel_rfl) Tryz.func4 (by kernel_rfl)
    (of_decide_eq_true (by kernel_rfl)) (by unfold Func.isWrapper; first | (rw [if_pos (by decide +kernel)]; kernel_rfl) | (rw [if_neg (by decide +kernel)]; exact ⟨rfl, rfl⟩))
    (fun os started H enc _ => lifted os started H enc)
theorem proved : Rows.WritParseSaid := over
theorem row_tie : Rows.writParseRow.laidByTextAt .later Tryz.pinned [.data, .data, .data, .data, .sentinel, .sentinel, .pinned] true := writParse_row_tie
theorem card : Rows.WritParseCardSaid :=
  Claim7.holds_tied_plain_at .later [] [.data, .data, .data, .data, .sentinel, .sentinel, .pinned] true Rows.writParseCard.stood.harness true
    over (fun _ h => by cases h) (by kernel_rfl) (fun _ h => by cases h) row_tie rfl ⟨rfl, rfl⟩ (by kernel_rfl) rfl
    (fun f fn hf hfn => by
      obtain rfl : f = 4 := Option.some.inj ((show Tryz.prog.funcNamed Rows.writParseRow.func = some 4 by kernel_rfl).symm.trans hf) |>.symm
      obtain rfl : fn = Tryz.f4 := (Option.some.inj (Tryz.func4.symm.trans hfn)).symm
      exact ⟨by kernel_rfl, fun j t ht => by
        rw [Tryz.params4] at ht
        have hm : t ∈ [9] := by simpa using Array.mem_of_getElem? ht
        have hall : ([9].all fun u => !Tryz.prog.wantsStandIn u) = true := by kernel_rfl
        exact (show Tryz.prog.wantsStandIn t = false by simpa using List.all_eq_true.1 hall t hm)⟩)
    (by kernel_rfl)
end Go.Proofs.YtjecjlhofnnnpaaGreatDoor.writParse
end
