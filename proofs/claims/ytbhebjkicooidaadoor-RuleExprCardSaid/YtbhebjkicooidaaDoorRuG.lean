/-
  The document's SameExpr and Same (layer 17), over the loaded program: each one's contract. No condition but the sizes that each contract names.
-/
import Derived.Test.YtbhebjkicooidaaDoorRuA
import Derived.Test.YtbhebjkicooidaaDoorRuV
import Derived.Deep.RegionHeld3
import Derived.BigQuiet
namespace Go.Proofs.YtbhebjkicooidaaDoor
open Go.RowKit
set_option maxRecDepth 100000
set_option linter.unusedVariables false

theorem sameXL_len {α β : Type} {g : α → β → Bool} : ∀ {l : List α} {m : List β}, l.length ≠ m.length → sameXL g l m = false
  | [], [], h => absurd rfl h
  | [], b :: m, _ => rfl
  | a :: l, [], _ => rfl
  | a :: l, b :: m, h => by
    rw [sameXL, sameXL_len (l := l) (m := m) (fun e => h (by simp [e]))]; simp
theorem sameXL_all {α β : Type} {g : α → β → Bool} : ∀ {l : List α} {m : List β}, l.length = m.length → (∀ (i : Nat) (a : α) (b : β), l[i]? = some a → m[i]? = some b → g a b = true) → sameXL g l m = true
  | [], [], _, _ => rfl
  | [], b :: m, h, _ => by simp at h
  | a :: l, [], h, _ => by simp at h
  | a :: l, b :: m, h, hx => by
    rw [sameXL, hx 0 a b rfl rfl, sameXL_all (l := l) (m := m) (by simpa using h) (fun i c d h1 h2 => hx (i + 1) c d (by simpa using h1) (by simpa using h2))]; rfl
theorem sameXL_stop {α β : Type} {g : α → β → Bool} : ∀ {l : List α} {m : List β} {i : Nat} {a : α} {b : β}, l[i]? = some a → m[i]? = some b → g a b = false → sameXL g l m = false
  | [], _, i, a, b, h, _, _ => by simp at h
  | _ :: _, [], i, a, b, _, h, _ => by simp at h
  | c :: l, d :: m, 0, a, b, h1, h2, h => by
    simp at h1 h2
    subst h1 h2
    rw [sameXL, h]; rfl
  | c :: l, d :: m, i + 1, a, b, h1, h2, h => by
    rw [sameXL, sameXL_stop (l := l) (m := m) (i := i) (by simpa using h1) (by simpa using h2) h]; simp
/-- A kid of a condition, where memory stands now. -/
theorem kid_b {w wr : World} {S : Nat → Prop} {f : Nat} {A : Option Addr} {c n : Nat} {ks : List (Ex f)} (h : XS w S (EX w S f) (.slice A n c) ks) (hn : ks.length = n) (hb : Below w.heap.size w wr) (j : Nat) (hj : j < ks.length) :
    ∃ b o e0 e1 e2 e3, A = some ⟨b, o, none⟩ ∧ b < w.heap.size ∧ wr.cell? ⟨b, o + j * 4, none⟩ = some e0 ∧ wr.cell? ⟨b, o + j * 4 + 1, none⟩ = some e1 ∧ wr.cell? ⟨b, o + j * 4 + 2, none⟩ = some e2 ∧ wr.cell? ⟨b, o + j * 4 + 3, none⟩ = some e3 ∧
      EV wr S f (.agg #[e0, e1, e2, e3]) ks[j] := by
  obtain ⟨b, o, e0, e1, e2, e3, ea, hlt, k0, k1, k2, k3, h⟩ := kid_x h hn hb.size (fun b _ hl => hb.block b hl) j hj
  exact ⟨b, o, e0, e1, e2, e3, ea, hlt, k0, k1, k2, k3, e0, e1, e2, e3, rfl, h⟩
theorem two_boxes (w : World) (a b : Array Value) (t : TypeId) :
    KB ((w.alloc (.cells a t)).alloc (.cells b t)) w.heap.size t a ∧ KB ((w.alloc (.cells a t)).alloc (.cells b t)) (w.heap.size + 1) t b ∧ Below w.heap.size w ((w.alloc (.cells a t)).alloc (.cells b t)) := by
  refine ⟨(KB.new w t a).alloc _, ?_, ((Below.refl _ _).alloc (Nat.le_refl _) _).alloc (by simp) _⟩
  have h := KB.new (w.alloc (.cells a t)) t b
  rwa [World.size_alloc] at h
/-- Two texts compared, in the forms that a walk may ask. -/
theorem eq_txt (s s' : ByteArray) (l m : List UInt8) (hs : s = ⟨l.toArray⟩) (hs' : s' = ⟨m.toArray⟩) : (s.toList == s'.toList) = decide (l = m) := by subst hs hs'; exact str_eq l m
theorem ne_txt (s s' : ByteArray) (l m : List UInt8) (hs : s = ⟨l.toArray⟩) (hs' : s' = ⟨m.toArray⟩) : (s.toList != s'.toList) = !decide (l = m) := by rw [bne, eq_txt s s' l m hs hs']
theorem eq_prop {s s' : ByteArray} {b : Bool} (h : (s.toList != s'.toList) = b) : (b = true → ¬ s.toList = s'.toList) ∧ (b = false → s.toList = s'.toList) := by
  subst h
  exact ⟨fun h => bne_iff_ne.1 h, fun h => by
    have : ¬ s.toList ≠ s'.toList := fun hn => by rw [bne_iff_ne.2 hn] at h; cases h
    exact Classical.byContradiction fun hn => this hn⟩

set_option maxHeartbeats 4000000 in
/-- SameExpr. -/
theorem rsamex_any (S S' : Nat → Prop) : ∀ (f : Nat) (a b : Ex f) (x y : Value) (w : World), EV w S f x a → EV w S' f y b →
    Calls Tryd.prog 39 #[x, y] w fun e w' => e = .returned (.bool (sameX f f a b)) ∧ Below w.heap.size w w' := by
  intro f
  induction f with
  | zero => intro a; exact nomatch a
  | succ f ih =>
    intro a b x y w hx hy
    obtain ⟨c0, c1, c2, c3, rfl, rfl, _, rfl, _, rfl, _, hks⟩ := hx
    obtain ⟨c0', c1', c2', c3', rfl, rfl, _, rfl, _, rfl, _, hks'⟩ := hy
    obtain ⟨A3, cap3, e3, hl3, hm3⟩ := hks.form
    obtain ⟨A3', cap3', e3', _⟩ := hks'.form
    obtain ⟨k, n, d, ks⟩ := (a : Nx (Ex f))
    obtain ⟨k', n', d', ks'⟩ := (b : Nx (Ex f))
    simp only at e3 e3' hks hks' hl3
    subst e3 e3'
    have hlen : ks.length ≤ 9223372036854775807 := by unfold maxLen at hm3; omega
    have hr : sameX (f + 1) (f + 1) (⟨k, n, d, ks⟩ : Nx (Ex f)) (⟨k', n', d', ks'⟩ : Nx (Ex f)) = (decide (k = k') && decide (n = n') && decide (d = d') && sameXL (sameX f f) ks ks') := rfl
    rw [hr]
    clear hr
    dsimp only
    unfold strV at *
    obtain ⟨s, hs⟩ : ∃ s : ByteArray, s = ⟨d.toArray⟩ := ⟨_, rfl⟩
    obtain ⟨s', hs'⟩ : ∃ s : ByteArray, s = ⟨d'.toArray⟩ := ⟨_, rfl⟩
    rw [← hs, ← hs']
    have gs := ne_txt s s' d d' hs hs'
    clear hs hs'
    obtain ⟨kx, ky, B0⟩ := two_boxes w #[.int .i64 k, .int .i64 n, .string s, .slice A3 ks.length cap3] #[.int .i64 k', .int .i64 n', .string s', .slice A3' ks'.length cap3'] 35
    generalize decide (d = d') = e at *
    by_cases h1 : k = k'
    case neg =>
      rw [decide_eq_false h1, Bool.false_and, Bool.false_and, Bool.false_and]
      have g1 : (k != k') = true := bne_iff_ne.2 h1
      clear gs
      go_enter Tryd.func39, Tryd.ntmps39
      go_wp2_with fail
      go_ret
      exact ⟨rfl, B0⟩
    subst h1
    rw [decide_eq_true rfl, Bool.true_and]
    by_cases h2 : n = n'
    case neg =>
      rw [decide_eq_false h2, Bool.false_and, Bool.false_and]
      have g1 : (n != n') = true := bne_iff_ne.2 h2
      clear gs
      go_enter Tryd.func39, Tryd.ntmps39
      go_wp2_with fail
      go_ret
      exact ⟨rfl, B0⟩
    subst h2
    rw [decide_eq_true rfl, Bool.true_and]
    cases e with
    | false =>
      rw [Bool.false_and]
      rw [Bool.not_false] at gs
      replace gs := (eq_prop gs).1 rfl
      go_enter Tryd.func39, Tryd.ntmps39
      go_wp2_with fail
      go_ret
      exact ⟨rfl, B0⟩
    | true =>
      rw [Bool.true_and]
      rw [Bool.not_true] at gs
      replace gs := (eq_prop gs).2 rfl
      by_cases h3 : ks.length = ks'.length
      case neg =>
        rw [sameXL_len h3]
        have g1 : (ks.length != ks'.length) = true := bne_iff_ne.2 h3
        have g2 : ((ks.length : Int) != (ks'.length : Int)) = true := bne_iff_ne.2 (by omega)
        go_enter Tryd.func39, Tryd.ntmps39
        go_wp2_with fail
        go_ret
        exact ⟨rfl, B0⟩
      rw [← h3] at hks' kx ky B0 ⊢
      have HR : Hid ((∀ (i : Nat) (u v : Ex f), ks[i]? = some u → ks'[i]? = some v → sameX f f u v = true) → sameXL (sameX f f) ks ks' = true) := fun h => sameXL_all h3 h
      have HN : Hid (∀ (i : Nat) (u v : Ex f), ks[i]? = some u → ks'[i]? = some v → sameX f f u v = false → sameXL (sameX f f) ks ks' = false) := fun i u v h1 h2 h => sameXL_stop h1 h2 h
      have H3 := Lib.hid h3
      clear h3
      generalize sameXL (sameX f f) ks ks' = r at *
      go_enter Tryd.func39, Tryd.ntmps39
      go_wp2_with fail
      clear gs
      go_loopw [5] (fun iv wr => ∃ j : Nat, j ≤ ks.length ∧ Hid (∀ (i : Nat) (u v : Ex f), i < j → ks[i]? = some u → ks'[i]? = some v → sameX f f u v = true) ∧ iv = .int .i64 j ∧
        KB wr w.heap.size 35 #[.int .i64 k, .int .i64 n, .string s, .slice A3 ks.length cap3] ∧ KB wr (w.heap.size + 1) 35 #[.int .i64 k, .int .i64 n, .string s', .slice A3' ks.length cap3'] ∧
        Below w.heap.size w wr) (fun iv _ => ks.length - (intOf iv).toNat)
      case atStart => exact ⟨0, by omega, fun i u v h => absurd h (by omega), rfl, kx, ky, B0⟩
      case round =>
        obtain ⟨j, hj, hall, rfl, K, L, B⟩ := hrel
        have q3 : wr.cell? ⟨w.heap.size, 3, none⟩ = some (.slice A3 ks.length cap3) := K.cell 3
        by_cases hlt : j < ks.length
        · have hlt' : j < ks'.length := by have := H3.out; omega
          obtain ⟨b, o, e0, e1, e2, e3, rfl, hb, k0, k1, k2, k3, hv⟩ := kid_b hks rfl B j hlt
          obtain ⟨b', o', d0, d1, d2, d3, rfl, hb', m0, m1, m2, m3, hv'⟩ := kid_b hks' H3.out.symm B j hlt'
          have p3 : wr.cell? ⟨w.heap.size + 1, 3, none⟩ = some (.slice (some ⟨b', o', none⟩) ks.length cap3') := L.cell 3
          have tv : EV wr.drew S f (.agg #[e0, e1, e2, e3]) ks[j] := hv.below' (Below_drawn (Below.refl _ _) 1)
          have tv' : EV wr.drew S' f (.agg #[d0, d1, d2, d3]) ks'[j] := hv'.below' (Below_drawn (Below.refl _ _) 1)
          have hc := ih ks[j] ks'[j] _ _ wr.drew tv tv'
          have hyes : Hid (sameX f f ks[j] ks'[j] = true → ∀ (i : Nat) (u v : Ex f), i < j + 1 → ks[i]? = some u → ks'[i]? = some v → sameX f f u v = true) := by
            intro hp i u v hi hu hw
            rcases Nat.lt_or_ge i j with h | h
            · exact hall.out i u v h hu hw
            · obtain rfl : i = j := by omega
              rw [List.getElem?_eq_getElem hlt] at hu
              rw [List.getElem?_eq_getElem hlt'] at hw
              injection hu with hu
              injection hw with hw
              rw [← hu, ← hw]; exact hp
          have hno : Hid (sameX f f ks[j] ks'[j] = false → r = false) := fun hp => HN.out j _ _ (List.getElem?_eq_getElem hlt) (List.getElem?_eq_getElem hlt') hp
          have K' : KB wr.drew w.heap.size 35 #[.int .i64 k, .int .i64 n, .string s, .slice (some ⟨b, o, none⟩) ks.length cap3] := K
          have L' : KB wr.drew (w.heap.size + 1) 35 #[.int .i64 k, .int .i64 n, .string s', .slice (some ⟨b', o', none⟩) ks.length cap3'] := L
          have B' : Below w.heap.size w wr.drew := Below_drawn B 1
          clear hv hv' tv tv' hks hks' HR HN K L B hall
          generalize sameX f f ks[j] ks'[j] = p at *
          have far : ∀ w5, Below wr.drew.heap.size wr.drew w5 → ∀ (g : Nat) (i : Nat) (u : Value), g < w.heap.size → wr.cell? ⟨g, i, none⟩ = some u → w5.cell? ⟨g, i, none⟩ = some u := fun w5 b5 g i u hg hu =>
            (World.cell?_of_block (w := wr.drew) (b5.block g (Nat.lt_of_lt_of_le hg B'.size))).trans hu
          go_wp2_with fail
          go_region_held3 (fun w' => w'.cell? ⟨w.heap.size, 3, none⟩ = some (.slice (some ⟨b, o, none⟩) ks.length cap3) ∧ w'.cell? ⟨w.heap.size + 1, 3, none⟩ = some (.slice (some ⟨b', o', none⟩) ks.length cap3') ∧
              w'.cell? ⟨b, o + j * 4, none⟩ = some e0 ∧ w'.cell? ⟨b, o + j * 4 + 1, none⟩ = some e1 ∧ w'.cell? ⟨b, o + j * 4 + 2, none⟩ = some e2 ∧ w'.cell? ⟨b, o + j * 4 + 3, none⟩ = some e3 ∧
              w'.cell? ⟨b', o' + j * 4, none⟩ = some d0 ∧ w'.cell? ⟨b', o' + j * 4 + 1, none⟩ = some d1 ∧ w'.cell? ⟨b', o' + j * 4 + 2, none⟩ = some d2 ∧ w'.cell? ⟨b', o' + j * 4 + 3, none⟩ = some d3)
            (first | exact ⟨q3, p3, k0, k1, k2, k3, m0, m1, m2, m3⟩ | exact ⟨K'.cell 3, L'.cell 3, far _ b5 _ _ _ hb k0, far _ b5 _ _ _ hb k1, far _ b5 _ _ _ hb k2, far _ b5 _ _ _ hb k3, far _ b5 _ _ _ hb' m0, far _ b5 _ _ _ hb' m1, far _ b5 _ _ _ hb' m2, far _ b5 _ _ _ hb' m3⟩ | go_keep)
            (first
              | (go_at_call 39; refine hc.mono ?_; rintro e w5 ⟨rfl, b5⟩; replace K' := K'.below b5 K'.lt; replace L' := L'.below b5 L'.lt; replace B' := B'.trans (b5.mono B'.size)))
          clear far k0 k1 k2 k3 m0 m1 m2 m3 q3 p3 hc b5
          cases p with
          | true =>
            have hy := Lib.hid (hyes.out rfl)
            clear hyes hno
            go_wp2_with fail
            go_roundw
            case rel => exact ⟨j + 1, by omega, hy.out, by go_num, K', L', B'⟩
            case measure => simp [intOf]; omega
          | false =>
            have hr := hno.out rfl
            clear hyes hno
            subst hr
            go_wp2_with fail
            go_ret
            exact ⟨rfl, B'⟩
        · have hr : r = true := HR.out fun i u v hu hv => hall.out i u v (by have := (List.getElem?_eq_some_iff.1 hu).1; omega) hu hv
          clear HR HN hall
          subst hr
          go_wp2_with fail
          go_ret
          exact ⟨rfl, B⟩
/-- A rule of a list, where memory stands now. -/
theorem rule_b {w wr : World} {S : Nat → Prop} {f : Nat} {A : Option Addr} {c n : Nat} {l : List (Rl f)} (h : RS w S f (.slice A n c) l) (hn : l.length = n) (hb : Below w.heap.size w wr) (j : Nat) (hj : j < l.length) :
    ∃ b o e1 e2 e3 e4, A = some ⟨b, o, none⟩ ∧ b < w.heap.size ∧ wr.cell? ⟨b, o + j * 6, none⟩ = some (strV l[j].cls) ∧ wr.cell? ⟨b, o + j * 6 + 1, none⟩ = some e1 ∧ wr.cell? ⟨b, o + j * 6 + 2, none⟩ = some e2 ∧ wr.cell? ⟨b, o + j * 6 + 3, none⟩ = some e3 ∧
      wr.cell? ⟨b, o + j * 6 + 4, none⟩ = some e4 ∧ wr.cell? ⟨b, o + j * 6 + 5, none⟩ = some (.int .i64 l[j].act) ∧ EV wr S f (.agg #[e1, e2, e3, e4]) l[j].when_ ∧ l[j].cls.length ≤ maxLen ∧ I64 l[j].act := by
  obtain ⟨b, o, e0, e1, e2, e3, e4, e5, ea, hlt, k0, k1, k2, k3, k4, k5, rfl, hm, hx, rfl, hi⟩ := rule_at h hn hb.size (fun b _ hl => hb.block b hl) j hj
  exact ⟨b, o, e1, e2, e3, e4, ea, hlt, k0, k1, k2, k3, k4, k5, ⟨e1, e2, e3, e4, rfl, hx⟩, hm, hi⟩
end Go.Proofs.YtbhebjkicooidaaDoor
