/-
  RuG: The document's SameExpr and Same (layer 17), over the loaded program: each one's contract. No condition but the sizes that each contract names.
  RuB: Plain mathematics of layer 17 (rule): how many parts more there may be behind a condition, kid by kid. No program. No condition.
-/
import Derived.Test.YthindhlogkhclaaGreatDoorPz08
import Derived.Test.YthindhlogkhclaaGreatDoorPz09
import Derived.Deep.RegionHeld3
import Derived.BigQuiet
import Derived.Test.YthindhlogkhclaaGreatDoorPz03
set_option linter.unusedVariables false
set_option maxRecDepth 100000
namespace Go.Proofs.YthindhlogkhclaaGreatDoor
section
open Go.RowKit
theorem sameXL_len {α β : Type} {g : α → β → Bool} : ∀ {l : List α} {m : List β}, l.length ≠ m.length → sameXL g l m = false
  | [], [], h => absurd rfl h
  | [], b :: m, _ => rfl
  | a :: l, [], _ => rfl
  | a :: l, b :: m, h => by
    rw [sameXL, sameXL_len (l := l) (m := m) (fun e => h (by simp [e]))]; simp
theorem sameXL_all {α β : Type} {g : α → β → Bool} : ∀ {l : List α} {m : List β}, l.length = m.length → (∀ (i : Nat) (a : α) (b : β), l[i]? = some a → m[i]? = some b → g a b = true) → sameXL g l m = true
  | [], [], _, _ => rfl
  | [], b :: m, h, _ => by simp at h
  | a :: l, [], h, _ => by simp at h
  | a :: l, b :: m, h, hx => by
    rw [sameXL, hx 0 a b rfl rfl, sameXL_all (l := l) (m := m) (by simpa using h) (fun i c d h1 h2 => hx (i + 1) c d (by simpa using h1) (by simpa using h2))]; rfl
theorem sameXL_stop {α β : Type} {g : α → β → Bool} : ∀ {l : List α} {m : List β} {i : Nat} {a : α} {b : β}, l[i]? = some a → m[i]? = some b → g a b = false → sameXL g l m = false
  | [], _, i, a, b, h, _, _ => by simp at h
  | _ :: _, [], i, a, b, _, h, _ => by simp at h
  | c :: l, d :: m, 0, a, b, h1, h2, h => by
    simp at h1 h2
    subst h1 h2
    rw [sameXL, h]; rfl
  | c :: l, d :: m, i + 1, a, b, h1, h2, h => by
    rw [sameXL, sameXL_stop (l := l) (m := m) (i := i) (by simpa using h1) (by simpa using h2) h]; simp
theorem kid_b {w wr : World} {S : Nat → Prop} {f : Nat} {A : Option Addr} {c n : Nat} {ks : List (Ex f)} (h : XS w S (EX w S f) (.slice A n c) ks) (hn : ks.length = n) (hb : Below w.heap.size w wr) (j : Nat) (hj : j < ks.length) :
    ∃ b o e0 e1 e2 e3, A = some ⟨b, o, none⟩ ∧ b < w.heap.size ∧ wr.cell? ⟨b, o + j * 4, none⟩ = some e0 ∧ wr.cell? ⟨b, o + j * 4 + 1, none⟩ = some e1 ∧ wr.cell? ⟨b, o + j * 4 + 2, none⟩ = some e2 ∧ wr.cell? ⟨b, o + j * 4 + 3, none⟩ = some e3 ∧
      EV wr S f (.agg #[e0, e1, e2, e3]) ks[j] := by
  obtain ⟨b, o, e0, e1, e2, e3, ea, hlt, k0, k1, k2, k3, h⟩ := kid_x h hn hb.size (fun b _ hl => hb.block b hl) j hj
  exact ⟨b, o, e0, e1, e2, e3, ea, hlt, k0, k1, k2, k3, e0, e1, e2, e3, rfl, h⟩
theorem two_boxes (w : World) (a b : Array Value) (t : TypeId) :
    KB ((w.alloc (.cells a t)).alloc (.cells b t)) w.heap.size t a ∧ KB ((w.alloc (.cells a t)).alloc (.cells b t)) (w.heap.size + 1) t b ∧ Below w.heap.size w ((w.alloc (.cells a t)).alloc (.cells b t)) := by
  refine ⟨(KB.new w t a).alloc _, ?_, ((Below.refl _ _).alloc (Nat.le_refl _) _).alloc (by simp) _⟩
  have h := KB.new (w.alloc (.cells a t)) t b
  rwa [World.size_alloc] at h
theorem eq_txt (s s' : ByteArray) (l m : List UInt8) (hs : s = ⟨l.toArray⟩) (hs' : s' = ⟨m.toArray⟩) : (s.toList == s'.toList) = decide (l = m) := by subst hs hs'; exact str_eq l m
theorem ne_txt (s s' : ByteArray) (l m : List UInt8) (hs : s = ⟨l.toArray⟩) (hs' : s' = ⟨m.toArray⟩) : (s.toList != s'.toList) = !decide (l = m) := by rw [bne, eq_txt s s' l m hs hs']
theorem eq_prop {s s' : ByteArray} {b : Bool} (h : (s.toList != s'.toList) = b) : (b = true → ¬ s.toList = s'.toList) ∧ (b = false → s.toList = s'.toList) := by
  subst h
  exact ⟨fun h => bne_iff_ne.1 h, fun h => by
    have : ¬ s.toList ≠ s'.toList := fun hn => by rw [bne_iff_ne.2 hn] at h; cases h
    exact Classical.byContradiction fun hn => this hn⟩
set_option maxHeartbeats 4000000 in
theorem rsamex_any (S S' : Nat → Prop) : ∀ (f : Nat) (a b : Ex f) (x y : Value) (w : World), EV w S f x a → EV w S' f y b →
    Calls Tryz.prog 13 #[x, y] w fun e w' => e = .returned (.bool (sameX f f a b)) ∧ Below w.heap.size w w' := by
  intro f
  induction f with
  | zero => intro a; exact nomatch a
  | succ f ih =>
    intro a b x y w hx hy
    obtain ⟨c0, c1, c2, c3, rfl, rfl, _, rfl, _, rfl, _, hks⟩ := hx
    obtain ⟨c0', c1', c2', c3', rfl, rfl, _, rfl, _, rfl, _, hks'⟩ := hy
    obtain ⟨A3, cap3, e3, hl3, hm3⟩ := hks.form
    obtain ⟨A3', cap3', e3', _⟩ := hks'.form
    obtain ⟨k, n, d, ks⟩ := (a : Nx (Ex f))
    obtain ⟨k', n', d', ks'⟩ := (b : Nx (Ex f))
    simp only at e3 e3' hks hks' hl3
    subst e3 e3'
    have hlen : ks.length ≤ 9223372036854775807 := by unfold maxLen at hm3; omega
    have hr : sameX (f + 1) (f + 1) (⟨k, n, d, ks⟩ : Nx (Ex f)) (⟨k', n', d', ks'⟩ : Nx (Ex f)) = (decide (k = k') && decide (n = n') && decide (d = d') && sameXL (sameX f f) ks ks') := rfl
    rw [hr]
    clear hr
    dsimp only
    unfold strV at *
    obtain ⟨s, hs⟩ : ∃ s : ByteArray, s = ⟨d.toArray⟩ := ⟨_, rfl⟩
    obtain ⟨s', hs'⟩ : ∃ s : ByteArray, s = ⟨d'.toArray⟩ := ⟨_, rfl⟩
    rw [← hs, ← hs']
    have gs := ne_txt s s' d d' hs hs'
    clear hs hs'
    obtain ⟨kx, ky, B0⟩ := two_boxes w #[.int .i64 k, .int .i64 n, .string s, .slice A3 ks.length cap3] #[.int .i64 k', .int .i64 n', .string s', .slice A3' ks'.length cap3'] 42
    generalize decide (d = d') = e at *
    by_cases h1 : k = k'
    case neg =>
      rw [decide_eq_false h1, Bool.false_and, Bool.false_and, Bool.false_and]
      have g1 : (k != k') = true := bne_iff_ne.2 h1
      clear gs
      go_enter Tryz.func13, Tryz.ntmps13
      go_wp2_with fail
      go_ret
      exact ⟨rfl, B0⟩
    subst h1
    rw [decide_eq_true rfl, Bool.true_and]
    by_cases h2 : n = n'
    case neg =>
      rw [decide_eq_false h2, Bool.false_and, Bool.false_and]
      have g1 : (n != n') = true := bne_iff_ne.2 h2
      clear gs
      go_enter Tryz.func13, Tryz.ntmps13
      go_wp2_with fail
      go_ret
      exact ⟨rfl, B0⟩
    subst h2
    rw [decide_eq_true rfl, Bool.true_and]
    cases e with
    | false =>
      rw [Bool.false_and]
      rw [Bool.not_false] at gs
      replace gs := (eq_prop gs).1 rfl
      go_enter Tryz.func13, Tryz.ntmps13
      go_wp2_with fail
      go_ret
      exact ⟨rfl, B0⟩
    | true =>
      rw [Bool.true_and]
      rw [Bool.not_true] at gs
      replace gs := (eq_prop gs).2 rfl
      by_cases h3 : ks.length = ks'.length
      case neg =>
        rw [sameXL_len h3]
        have g1 : (ks.length != ks'.length) = true := bne_iff_ne.2 h3
        have g2 : ((ks.length : Int) != (ks'.length : Int)) = true := bne_iff_ne.2 (by omega)
        go_enter Tryz.func13, Tryz.ntmps13
        go_wp2_with fail
        go_ret
        exact ⟨rfl, B0⟩
      rw [← h3] at hks' kx ky B0 ⊢
      have HR : Hid ((∀ (i : Nat) (u v : Ex f), ks[i]? = some u → ks'[i]? = some v → sameX f f u v = true) → sameXL (sameX f f) ks ks' = true) := fun h => sameXL_all h3 h
      have HN : Hid (∀ (i : Nat) (u v : Ex f), ks[i]? = some u → ks'[i]? = some v → sameX f f u v = false → sameXL (sameX f f) ks ks' = false) := fun i u v h1 h2 h => sameXL_stop h1 h2 h
      have H3 := Lib.hid h3
      clear h3
      generalize sameXL (sameX f f) ks ks' = r at *
      go_enter Tryz.func13, Tryz.ntmps13
      go_wp2_with fail
      clear gs
      go_loopw [5] (fun iv wr => ∃ j : Nat, j ≤ ks.length ∧ Hid (∀ (i : Nat) (u v : Ex f), i < j → ks[i]? = some u → ks'[i]? = some v → sameX f f u v = true) ∧ iv = .int .i64 j ∧
        KB wr w.heap.size 42 #[.int .i64 k, .int .i64 n, .string s, .slice A3 ks.length cap3] ∧ KB wr (w.heap.size + 1) 42 #[.int .i64 k, .int .i64 n, .string s', .slice A3' ks.length cap3'] ∧
        Below w.heap.size w wr) (fun iv _ => ks.length - (intOf iv).toNat)
      case atStart => exact ⟨0, by omega, fun i u v h => absurd h (by omega), rfl, kx, ky, B0⟩
      case round =>
        obtain ⟨j, hj, hall, rfl, K, L, B⟩ := hrel
        have q3 : wr.cell? ⟨w.heap.size, 3, none⟩ = some (.slice A3 ks.length cap3) := K.cell 3
        by_cases hlt : j < ks.length
        · have hlt' : j < ks'.length := by have := H3.out; omega
          obtain ⟨b, o, e0, e1, e2, e3, rfl, hb, k0, k1, k2, k3, hv⟩ := kid_b hks rfl B j hlt
          obtain ⟨b', o', d0, d1, d2, d3, rfl, hb', m0, m1, m2, m3, hv'⟩ := kid_b hks' H3.out.symm B j hlt'
          have p3 : wr.cell? ⟨w.heap.size + 1, 3, none⟩ = some (.slice (some ⟨b', o', none⟩) ks.length cap3') := L.cell 3
          have tv : EV wr.drew S f (.agg #[e0, e1, e2, e3]) ks[j] := hv.below' (Below_drawn (Below.refl _ _) 1)
          have tv' : EV wr.drew S' f (.agg #[d0, d1, d2, d3]) ks'[j] := hv'.below' (Below_drawn (Below.refl _ _) 1)
          have hc := ih ks[j] ks'[j] _ _ wr.drew tv tv'
          have hyes : Hid (sameX f f ks[j] ks'[j] = true → ∀ (i : Nat) (u v : Ex f), i < j + 1 → ks[i]? = some u → ks'[i]? = some v → sameX f f u v = true) := by
            intro hp i u v hi hu hw
            rcases Nat.lt_or_ge i j with h | h
            · exact hall.out i u v h hu hw
            · obtain rfl : i = j := by omega
              rw [List.getElem?_eq_getElem hlt] at hu
              rw [List.getElem?_eq_getElem hlt'] at hw
              injection hu with hu
              injection hw with hw
              rw [← hu, ← hw]; exact hp
          have hno : Hid (sameX f f ks[j] ks'[j] = false → r = false) := fun hp => HN.out j _ _ (List.getElem?_eq_getElem hlt) (List.getElem?_eq_getElem hlt') hp
          have K' : KB wr.drew w.heap.size 42 #[.int .i64 k, .int .i64 n, .string s, .slice (some ⟨b, o, none⟩) ks.length cap3] := K
          have L' : KB wr.drew (w.heap.size + 1) 42 #[.int .i64 k, .int .i64 n, .string s', .slice (some ⟨b', o', none⟩) ks.length cap3'] := L
          have B' : Below w.heap.size w wr.drew := Below_drawn B 1
          clear hv hv' tv tv' hks hks' HR HN K L B hall
          generalize sameX f f ks[j] ks'[j] = p at *
          have far : ∀ w5, Below wr.drew.heap.size wr.drew w5 → ∀ (g : Nat) (i : Nat) (u : Value), g < w.heap.size → wr.cell? ⟨g, i, none⟩ = some u → w5.cell? ⟨g, i, none⟩ = some u := fun w5 b5 g i u hg hu =>
            (World.cell?_of_block (w := wr.drew) (b5.block g (Nat.lt_of_lt_of_le hg B'.size))).trans hu
          go_wp2_with fail
          go_region_held3 (fun w' => w'.cell? ⟨w.heap.size, 3, none⟩ = some (.slice (some ⟨b, o, none⟩) ks.length cap3) ∧ w'.cell? ⟨w.heap.size + 1, 3, none⟩ = some (.slice (some ⟨b', o', none⟩) ks.length cap3') ∧
              w'.cell? ⟨b, o + j * 4, none⟩ = some e0 ∧ w'.cell? ⟨b, o + j * 4 + 1, none⟩ = some e1 ∧ w'.cell? ⟨b, o + j * 4 + 2, none⟩ = some e2 ∧ w'.cell? ⟨b, o + j * 4 + 3, none⟩ = some e3 ∧
              w'.cell? ⟨b', o' + j * 4, none⟩ = some d0 ∧ w'.cell? ⟨b', o' + j * 4 + 1, none⟩ = some d1 ∧ w'.cell? ⟨b', o' + j * 4 + 2, none⟩ = some d2 ∧ w'.cell? ⟨b', o' + j * 4 + 3, none⟩ = some d3)
            (first | exact ⟨q3, p3, k0, k1, k2, k3, m0, m1, m2, m3⟩ | exact ⟨K'.cell 3, L'.cell 3, far _ b5 _ _ _ hb k0, far _ b5 _ _ _ hb k1, far _ b5 _ _ _ hb k2, far _ b5 _ _ _ hb k3, far _ b5 _ _ _ hb' m0, far _ b5 _ _ _ hb' m1, far _ b5 _ _ _ hb' m2, far _ b5 _ _ _ hb' m3⟩ | go_keep)
            (first
              | (go_at_call 13; refine hc.mono ?_; rintro e w5 ⟨rfl, b5⟩; replace K' := K'.below b5 K'.lt; replace L' := L'.below b5 L'.lt; replace B' := B'.trans (b5.mono B'.size)))
          clear far k0 k1 k2 k3 m0 m1 m2 m3 q3 p3 hc b5
          cases p with
          | true =>
            have hy := Lib.hid (hyes.out rfl)
            clear hyes hno
            go_wp2_with fail
            go_roundw
            case rel => exact ⟨j + 1, by omega, hy.out, by go_num, K', L', B'⟩
            case measure => simp [intOf]; omega
          | false =>
            have hr := hno.out rfl
            clear hyes hno
            subst hr
            go_wp2_with fail
            go_ret
            exact ⟨rfl, B'⟩
        · have hr : r = true := HR.out fun i u v hu hv => hall.out i u v (by have := (List.getElem?_eq_some_iff.1 hu).1; omega) hu hv
          clear HR HN hall
          subst hr
          go_wp2_with fail
          go_ret
          exact ⟨rfl, B⟩
theorem rule_b {w wr : World} {S : Nat → Prop} {f : Nat} {A : Option Addr} {c n : Nat} {l : List (Rl f)} (h : RS w S f (.slice A n c) l) (hn : l.length = n) (hb : Below w.heap.size w wr) (j : Nat) (hj : j < l.length) :
    ∃ b o e1 e2 e3 e4, A = some ⟨b, o, none⟩ ∧ b < w.heap.size ∧ wr.cell? ⟨b, o + j * 6, none⟩ = some (strV l[j].cls) ∧ wr.cell? ⟨b, o + j * 6 + 1, none⟩ = some e1 ∧ wr.cell? ⟨b, o + j * 6 + 2, none⟩ = some e2 ∧ wr.cell? ⟨b, o + j * 6 + 3, none⟩ = some e3 ∧
      wr.cell? ⟨b, o + j * 6 + 4, none⟩ = some e4 ∧ wr.cell? ⟨b, o + j * 6 + 5, none⟩ = some (.int .i64 l[j].act) ∧ EV wr S f (.agg #[e1, e2, e3, e4]) l[j].when_ ∧ l[j].cls.length ≤ maxLen ∧ I64 l[j].act := by
  obtain ⟨b, o, e0, e1, e2, e3, e4, e5, ea, hlt, k0, k1, k2, k3, k4, k5, rfl, hm, hx, rfl, hi⟩ := rule_at h hn hb.size (fun b _ hl => hb.block b hl) j hj
  exact ⟨b, o, e1, e2, e3, e4, ea, hlt, k0, k1, k2, k3, k4, k5, ⟨e1, e2, e3, e4, rfl, hx⟩, hm, hi⟩
end
section
def leftX (f : Nat) (x : Ex f) (n d : Int) : Int := if okX f x d = true ∧ (nodesX f x : Int) ≤ n then n - nodesX f x else -1
def sumX (f : Nat) (ks : List (Ex f)) (j : Nat) : Nat := ((ks.take j).map (nodesX f)).sum
theorem nodes_eq (f : Nat) (x : Nx (Ex f)) : nodesX (f + 1) x = 1 + (x.kids.map (nodesX f)).sum := rfl
theorem ok_eq (f : Nat) (x : Nx (Ex f)) (d : Int) : okX (f + 1) x d = (decide (1 ≤ d) && fitsX x && x.kids.all fun u => okX f u (d - 1)) := rfl
theorem nodes_pos : ∀ (f : Nat) (x : Ex f), 1 ≤ nodesX f x
  | 0, x => nomatch x
  | f + 1, x => by have := nodes_eq f x; omega
theorem sum_ge {f : Nat} : ∀ ks : List (Ex f), ks.length ≤ (ks.map (nodesX f)).sum
  | [] => by simp
  | k :: ks => by
    have h1 := nodes_pos f k
    have h2 := sum_ge ks
    rw [List.map_cons, List.sum_cons, List.length_cons]
    omega
theorem sum_split {f : Nat} (ks : List (Ex f)) (j : Nat) : (ks.map (nodesX f)).sum = sumX f ks j + ((ks.drop j).map (nodesX f)).sum := by
  unfold sumX
  rw [← List.sum_append, ← List.map_append, List.take_append_drop]
theorem sumX_step {f : Nat} (ks : List (Ex f)) (j : Nat) (hj : j < ks.length) : sumX f ks (j + 1) = sumX f ks j + nodesX f ks[j] := by
  unfold sumX
  rw [List.take_add_one, List.getElem?_eq_getElem hj, List.map_append, List.sum_append]
  simp
theorem sumX_le {f : Nat} (ks : List (Ex f)) (j : Nat) : sumX f ks j ≤ (ks.map (nodesX f)).sum := by have := sum_split ks j; omega
theorem allX_step {f : Nat} {ks : List (Ex f)} {d : Int} {j : Nat} (hj : j < ks.length) (h : ((ks.take j).all fun u => okX f u d) = true) (hk : okX f ks[j] d = true) : ((ks.take (j + 1)).all fun u => okX f u d) = true := by
  rw [List.take_add_one, List.getElem?_eq_getElem hj, List.all_append, h]
  simp [hk]
theorem allX_stop {f : Nat} {ks : List (Ex f)} {d : Int} {j : Nat} (hj : j < ks.length) (hk : okX f ks[j] d = false) : (ks.all fun u => okX f u d) = false := by
  cases hq : ks.all fun u => okX f u d with
  | false => rfl
  | true =>
    have := List.all_eq_true.1 hq ks[j] (List.getElem_mem hj)
    rw [hk] at this
    cases this
theorem left_low {f : Nat} (x : Ex f) {n d : Int} (h : n < 1) : leftX f x n d = -1 := by
  unfold leftX
  have := nodes_pos f x
  rw [if_neg (fun h => by omega)]
theorem left_flat {f : Nat} (x : Nx (Ex f)) {n d : Int} (h : d < 1) : leftX (f + 1) x n d = -1 := by
  unfold leftX
  rw [ok_eq, decide_eq_false (by omega), if_neg (by simp)]
theorem left_unfit {f : Nat} (x : Nx (Ex f)) {n d : Int} (h : fitsX x = false) : leftX (f + 1) x n d = -1 := by
  unfold leftX
  rw [ok_eq, h, if_neg (by simp)]
theorem left_one {f : Nat} (x : Nx (Ex f)) {n d : Int} (h : fitsX x = true) (hk : x.kids.length = 0) (hn : 1 ≤ n) (hd : 1 ≤ d) : leftX (f + 1) x n d = n - 1 := by
  unfold leftX
  rw [ok_eq, h, decide_eq_true hd, nodes_eq, List.eq_nil_of_length_eq_zero hk]
  rw [if_pos ⟨by simp, by simp; omega⟩]
  simp
theorem left_wide {f : Nat} (x : Nx (Ex f)) {n d : Int} (h : n - 1 < (x.kids.length : Int)) : leftX (f + 1) x n d = -1 := by
  unfold leftX
  have := sum_ge x.kids
  rw [nodes_eq, if_neg (fun h => by omega)]
theorem left_all {f : Nat} (x : Nx (Ex f)) {n d m : Int} (h : fitsX x = true) (hd : 1 ≤ d) (ha : ((x.kids.take x.kids.length).all fun u => okX f u (d - 1)) = true) (hm : m = n - 1 - (sumX f x.kids x.kids.length : Int)) (h0 : 0 ≤ m) : leftX (f + 1) x n d = m := by
  unfold leftX
  rw [List.take_length] at ha
  have hs : sumX f x.kids x.kids.length = (x.kids.map (nodesX f)).sum := by unfold sumX; rw [List.take_length]
  rw [hs] at hm
  rw [ok_eq, h, decide_eq_true hd, ha, nodes_eq, if_pos ⟨rfl, by omega⟩]
  omega
theorem left_stop {f : Nat} (x : Nx (Ex f)) {n d m : Int} {j : Nat} (hj : j < x.kids.length) (hm : m = n - 1 - (sumX f x.kids j : Int)) (h : leftX f x.kids[j] m (d - 1) < 0) : leftX (f + 1) x n d = -1 := by
  unfold leftX at h ⊢
  have h1 := sumX_step x.kids j hj
  have h2 := sumX_le x.kids (j + 1)
  by_cases hk : okX f x.kids[j] (d - 1) = true
  · by_cases hn : (nodesX f x.kids[j] : Int) ≤ m
    · rw [if_pos ⟨hk, hn⟩] at h
      omega
    · rw [nodes_eq, if_neg (fun h => by omega)]
  · rw [ok_eq, allX_stop hj (by simpa using hk), if_neg (by simp)]
theorem left_step {f : Nat} (x : Nx (Ex f)) {n d m : Int} {j : Nat} (hj : j < x.kids.length) (hm : m = n - 1 - (sumX f x.kids j : Int)) (ha : ((x.kids.take j).all fun u => okX f u (d - 1)) = true) (h : 0 ≤ leftX f x.kids[j] m (d - 1)) :
    leftX f x.kids[j] m (d - 1) = n - 1 - (sumX f x.kids (j + 1) : Int) ∧ ((x.kids.take (j + 1)).all fun u => okX f u (d - 1)) = true := by
  unfold leftX at h ⊢
  have h1 := sumX_step x.kids j hj
  by_cases hk : okX f x.kids[j] (d - 1) = true ∧ (nodesX f x.kids[j] : Int) ≤ m
  · rw [if_pos hk] at h ⊢
    exact ⟨by omega, allX_step hj ha hk.1⟩
  · rw [if_neg hk] at h
    omega
theorem left_le {f : Nat} (x : Ex f) (n d : Int) (hn : -1 ≤ n) : -1 ≤ leftX f x n d ∧ leftX f x n d ≤ n := by
  unfold leftX
  split
  · rename_i h
    exact ⟨by omega, by omega⟩
  · exact ⟨by omega, hn⟩
theorem left_may {f : Nat} (x : Ex f) : decide (0 ≤ leftX f x 24 8) = mayX f x := by
  unfold leftX mayX
  by_cases h : okX f x 8 = true ∧ (nodesX f x : Int) ≤ 24
  · rw [if_pos h, h.1, decide_eq_true (by omega), decide_eq_true (by omega)]; rfl
  · rw [if_neg h, decide_eq_false (by omega)]
    cases hk : okX f x 8 with
    | false => rfl
    | true => rw [decide_eq_false (fun hn => h ⟨hk, by omega⟩)]; rfl
/-! What does not fit. -/
theorem unfit_op {α : Type} {x : Nx α} (h1 : x.op ≠ 1) (h2 : x.op ≠ 2) (h3 : x.op ≠ 3) : fitsX x = false := by unfold fitsX; rw [if_neg h1, if_neg (by simp [h2, h3])]
theorem unfit_low {α : Type} {x : Nx α} (h1 : x.op = 1) (h : x.days < 0) : fitsX x = false := by unfold fitsX; rw [if_pos h1, decide_eq_false (by omega)]; rfl
theorem unfit_high {α : Type} {x : Nx α} (h1 : x.op = 1) (h : 1048576 < x.days) : fitsX x = false := by unfold fitsX; rw [if_pos h1, decide_eq_false (by omega : ¬ x.days ≤ 1048576)]; simp
theorem unfit_word {α : Type} {x : Nx α} (h1 : x.op = 1) (h : wordS x.mile = false) : fitsX x = false := by unfold fitsX; rw [if_pos h1, h]; simp
theorem unfit_kids {α : Type} {x : Nx α} (h1 : x.op = 1) (h : 0 < x.kids.length) : fitsX x = false := by unfold fitsX; rw [if_pos h1, decide_eq_false (by omega : ¬ x.kids.length = 0)]; simp
theorem fit_one {α : Type} {x : Nx α} (h1 : x.op = 1) (h : 0 ≤ x.days) (h2 : x.days ≤ 1048576) (hw : wordS x.mile = true) (hk : x.kids.length = 0) : fitsX x = true := by
  unfold fitsX; rw [if_pos h1, decide_eq_true h, decide_eq_true h2, hw, decide_eq_true hk]; rfl
theorem unfit_days {α : Type} {x : Nx α} (h1 : x.op ≠ 1) (h : x.days ≠ 0) : fitsX x = false := by unfold fitsX; rw [if_neg h1, decide_eq_false h]; simp
theorem unfit_mile {α : Type} {x : Nx α} (h1 : x.op ≠ 1) (h : x.mile ≠ []) : fitsX x = false := by unfold fitsX; rw [if_neg h1, decide_eq_false h]; simp
theorem unfit_few {α : Type} {x : Nx α} (h1 : x.op ≠ 1) (h : x.kids.length < 2) : fitsX x = false := by unfold fitsX; rw [if_neg h1, decide_eq_false (by omega : ¬ 2 ≤ x.kids.length)]; simp
theorem fit_many {α : Type} {x : Nx α} (h1 : x.op ≠ 1) (h2 : x.op = 2 ∨ x.op = 3) (h : x.days = 0) (hm : x.mile = []) (hk : ¬ x.kids.length < 2) : fitsX x = true := by
  unfold fitsX; rw [if_neg h1, if_pos h2, decide_eq_true h, decide_eq_true hm, decide_eq_true (by omega)]; rfl
end
end Go.Proofs.YthindhlogkhclaaGreatDoor
