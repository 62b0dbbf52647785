/-
  TermT: The document's May and Same of layer 5, over the loaded program: each one's contract. No condition but the sizes that each contract names.
  Step: append onto a row of the call's own, as one step of a region that draws its order: over any program. No condition.
-/
import Derived.Test.YthgaljgelngmaaaDoorDv04
import Derived.Test.YthgaljgelngmaaaDoorDv05
import Derived.Deep.RegionHeld3
import Derived.Test.YthgaljgelngmaaaDoorMem
import Derived.Deep.RegionLaw

section
namespace Go.Proofs.YthgaljgelngmaaaDoor
open Go.RowKit
set_option linter.unusedVariables false

theorem i64_8 : I64 8 := by unfold I64; omega

/-- Whether a term may be. -/
theorem rMay_any (S : Nat → Prop) (f : Nat) (t : Tm f) (v : Value) (w : World) (hv : TV w S f v t) :
    Calls Tryd.prog 14 #[v] w fun e w' => e = .returned (.bool (mayT f t 8)) ∧ Below w.heap.size w w' := by
  obtain ⟨c0, c1, c2, c3, rfl, ht⟩ := hv
  have hv2 : TV (w.alloc (.cells #[c0, c1, c2, c3] 35)) S f (.agg #[c0, c1, c2, c3]) t := TV.alloc ⟨c0, c1, c2, c3, rfl, ht⟩ _
  have hr := rmay_any S f t _ 8 _ i64_8 hv2
  clear hv2
  have B0 := (Below.refl w.heap.size w).alloc (Nat.le_refl _) (.cells #[c0, c1, c2, c3] 35)
  cases f with
  | zero => exact nomatch t
  | succ f =>
    obtain ⟨rfl, _, rfl, _, hb, hk⟩ := ht
    obtain ⟨A2, cap2, rfl, _⟩ := hb.form
    obtain ⟨A3, cap3, rfl, _⟩ := hk
    generalize mayT (f + 1) t 8 = r at *
    go_enter Tryd.func14, Tryd.ntmps14
    go_wp2_with fail
    refine hr.mono ?_
    rintro e w5 ⟨rfl, b5⟩
    have B5 := B0.trans (b5.mono (by simp))
    clear hr
    go_wp2_with fail
    go_ret
    exact ⟨rfl, B5⟩

theorem sameL_len {α : Type} {g : α → α → Bool} : ∀ {l m : List α}, l.length ≠ m.length → sameL g l m = false
  | [], [], h => absurd rfl h
  | [], b :: m, _ => rfl
  | a :: l, [], _ => rfl
  | a :: l, b :: m, h => by
    rw [sameL, sameL_len (l := l) (m := m) (fun e => h (by simp [e]))]; simp

theorem sameL_all {α : Type} {g : α → α → Bool} : ∀ {l m : List α}, l.length = m.length → (∀ (i : Nat) (a b : α), l[i]? = some a → m[i]? = some b → g a b = true) → sameL g l m = true
  | [], [], _, _ => rfl
  | [], b :: m, h, _ => by simp at h
  | a :: l, [], h, _ => by simp at h
  | a :: l, b :: m, h, hx => by
    rw [sameL, hx 0 a b rfl rfl, sameL_all (l := l) (m := m) (by simpa using h) (fun i c d h1 h2 => hx (i + 1) c d (by simpa using h1) (by simpa using h2))]; rfl

theorem sameL_stop {α : Type} {g : α → α → Bool} : ∀ {l m : List α} {i : Nat} {a b : α}, l[i]? = some a → m[i]? = some b → g a b = false → sameL g l m = false
  | [], _, i, a, b, h, _, _ => by simp at h
  | _ :: _, [], i, a, b, _, h, _ => by simp at h
  | c :: l, d :: m, 0, a, b, h1, h2, h => by
    simp at h1 h2
    subst h1 h2
    rw [sameL, h]; rfl
  | c :: l, d :: m, i + 1, a, b, h1, h2, h => by
    rw [sameL, sameL_stop (l := l) (m := m) (i := i) (by simpa using h1) (by simpa using h2) h]; simp

/-- A kid of a term, where memory stands now; the length under another name. -/
theorem kid_as {w wr : World} {S : Nat → Prop} {f : Nat} {A : Option Addr} {c n : Nat} {ks : List (Tm f)} (h : KS w S (TM w S f) (.slice A n c) ks) (hn : ks.length = n) (hb : Below w.heap.size w wr) (j : Nat) (hj : j < ks.length) :
    ∃ b o e0 e1 e2 e3, A = some ⟨b, o, none⟩ ∧ b < w.heap.size ∧ wr.cell? ⟨b, o + j * 4, none⟩ = some e0 ∧ wr.cell? ⟨b, o + j * 4 + 1, none⟩ = some e1 ∧ wr.cell? ⟨b, o + j * 4 + 2, none⟩ = some e2 ∧ wr.cell? ⟨b, o + j * 4 + 3, none⟩ = some e3 ∧
      TV wr S f (.agg #[e0, e1, e2, e3]) ks[j] := by
  subst hn
  obtain ⟨b, o, e0, e1, e2, e3, ea, _, hlt, r⟩ := kid_at h hb j hj
  exact ⟨b, o, e0, e1, e2, e3, ea, hlt, r⟩

theorem two_boxes (w : World) (a b : Array Value) (t : TypeId) :
    KB ((w.alloc (.cells a t)).alloc (.cells b t)) w.heap.size t a ∧ KB ((w.alloc (.cells a t)).alloc (.cells b t)) (w.heap.size + 1) t b ∧ Below w.heap.size w ((w.alloc (.cells a t)).alloc (.cells b t)) := by
  refine ⟨(KB.new w t a).alloc _, ?_, ((Below.refl _ _).alloc (Nat.le_refl _) _).alloc (by simp) _⟩
  have h := KB.new (w.alloc (.cells a t)) t b
  rwa [World.size_alloc] at h

set_option maxHeartbeats 1000000 in
theorem rsame_any (S S' : Nat → Prop) : ∀ (f : Nat) (a b : Tm f) (x y : Value) (w : World), TV w S f x a → TV w S' f y b →
    Calls Tryd.prog 25 #[x, y] w fun e w' => e = .returned (.bool (sameT f a b)) ∧ Below w.heap.size w w' := by
  intro f
  induction f with
  | zero => intro a; exact nomatch a
  | succ f ih =>
    intro a b x y w hx hy
    obtain ⟨c0, c1, c2, c3, rfl, rfl, _, rfl, _, hdat, hks⟩ := hx
    obtain ⟨c0', c1', c2', c3', rfl, rfl, _, rfl, _, hdat', hks'⟩ := hy
    obtain ⟨A2, cap2, rfl, _⟩ := hdat.form
    obtain ⟨A2', cap2', rfl, _⟩ := hdat'.form
    obtain ⟨A3, cap3, e3, hl3, hm3, _⟩ := id hks
    obtain ⟨A3', cap3', e3', _⟩ := id hks'
    obtain ⟨k, n, d, ks⟩ := (a : Nd (Tm f))
    obtain ⟨k', n', d', ks'⟩ := (b : Nd (Tm f))
    simp only at e3 e3' hks hks' hdat hdat' hl3
    subst e3 e3'
    have hlen : ks.length ≤ 9223372036854775807 := by unfold maxLen at hm3; omega
    have hr : sameT (f + 1) (⟨k, n, d, ks⟩ : Nd (Tm f)) (⟨k', n', d', ks'⟩ : Nd (Tm f)) = (decide (k = k') && decide (n = n') && decide (d = d') && sameL (sameT f) ks ks') := rfl
    rw [hr]
    clear hr
    have hni : ((n : Int) = (n' : Int)) ↔ n = n' := by omega
    rw [show decide (n = n') = decide ((n : Int) = (n' : Int)) from decide_eq_decide.2 hni.symm]
    clear hni
    generalize (n : Int) = ni at *
    generalize (n' : Int) = ni' at *
    obtain ⟨kx, ky, B0⟩ := two_boxes w #[.int .i64 k, .int .u64 ni, .slice A2 d.length cap2, .slice A3 ks.length cap3] #[.int .i64 k', .int .u64 ni', .slice A2' d'.length cap2', .slice A3' ks'.length cap3'] 35
    have bx := (hdat.alloc (.cells #[.int .i64 k, .int .u64 ni, .slice A2 d.length cap2, .slice A3 ks.length cap3] 35)).alloc (.cells #[.int .i64 k', .int .u64 ni', .slice A2' d'.length cap2', .slice A3' ks'.length cap3'] 35)
    have bx' := (hdat'.alloc (.cells #[.int .i64 k, .int .u64 ni, .slice A2 d.length cap2, .slice A3 ks.length cap3] 35)).alloc (.cells #[.int .i64 k', .int .u64 ni', .slice A2' d'.length cap2', .slice A3' ks'.length cap3'] 35)
    have hs := same_is _ _ _ _ d d' _ bx bx'
    clear bx bx' hdat hdat'
    generalize d.length = dl at *
    generalize d'.length = dl' at *
    generalize decide (d = d') = e at *
    by_cases h1 : k = k'
    case neg =>
      rw [decide_eq_false h1]
      have g1 : (k != k') = true := bne_iff_ne.2 h1
      go_enter Tryd.func25, Tryd.ntmps25
      go_wp2_with fail
      go_ret
      exact ⟨rfl, B0⟩
    subst h1
    rw [decide_eq_true rfl, Bool.true_and]
    by_cases h2 : ni = ni'
    case neg =>
      rw [decide_eq_false h2]
      have g1 : (ni != ni') = true := bne_iff_ne.2 h2
      go_enter Tryd.func25, Tryd.ntmps25
      go_wp2_with fail
      go_ret
      exact ⟨rfl, B0⟩
    subst h2
    rw [decide_eq_true rfl, Bool.true_and]
    cases e with
    | false =>
      rw [Bool.false_and]
      go_enter Tryd.func25, Tryd.ntmps25
      go_wp2_with fail
      refine hs.mono ?_
      rintro e w5 ⟨rfl, b5⟩
      have B5 := B0.trans (b5.mono B0.size)
      go_wp2_with fail
      go_ret
      exact ⟨rfl, B5⟩
    | true =>
      rw [Bool.true_and]
      by_cases h3 : ks.length = ks'.length
      case neg =>
        rw [sameL_len h3]
        have g1 : (ks.length != ks'.length) = true := bne_iff_ne.2 h3
        have g2 : ((ks.length : Int) != (ks'.length : Int)) = true := bne_iff_ne.2 (by omega)
        go_enter Tryd.func25, Tryd.ntmps25
        go_wp2_with fail
        refine hs.mono ?_
        rintro e w5 ⟨rfl, b5⟩
        have B5 := B0.trans (b5.mono B0.size)
        have K5 := kx.below b5 kx.lt
        have L5 := ky.below b5 ky.lt
        have q3 : w5.cell? ⟨w.heap.size, 3, none⟩ = some (.slice A3 ks.length cap3) := K5.cell 3
        have p3 : w5.cell? ⟨w.heap.size + 1, 3, none⟩ = some (.slice A3' ks'.length cap3') := L5.cell 3
        go_wp2_with fail
        go_ret
        exact ⟨rfl, B5⟩
      rw [← h3] at hks' kx ky hs B0 ⊢
      have HR : Hid ((∀ (i : Nat) (u v : Tm f), ks[i]? = some u → ks'[i]? = some v → sameT f u v = true) → sameL (sameT f) ks ks' = true) := fun h => sameL_all h3 h
      have HN : Hid (∀ (i : Nat) (u v : Tm f), ks[i]? = some u → ks'[i]? = some v → sameT f u v = false → sameL (sameT f) ks ks' = false) := fun i u v h1 h2 h => sameL_stop h1 h2 h
      have H3 := Lib.hid h3
      clear h3
      generalize sameL (sameT f) ks ks' = r at *
      go_enter Tryd.func25, Tryd.ntmps25
      go_wp2_with fail
      refine hs.mono ?_
      rintro e w5 ⟨rfl, b5⟩
      have B5 := B0.trans (b5.mono B0.size)
      have K5 := kx.below b5 kx.lt
      have L5 := ky.below b5 ky.lt
      clear hs kx ky B0 b5
      have q3 : w5.cell? ⟨w.heap.size, 3, none⟩ = some (.slice A3 ks.length cap3) := K5.cell 3
      have p3 : w5.cell? ⟨w.heap.size + 1, 3, none⟩ = some (.slice A3' ks.length cap3') := L5.cell 3
      go_wp2_with fail
      clear q3 p3
      go_loopw [5] (fun iv wr => ∃ j : Nat, j ≤ ks.length ∧ Hid (∀ (i : Nat) (u v : Tm f), i < j → ks[i]? = some u → ks'[i]? = some v → sameT f u v = true) ∧ iv = .int .i64 j ∧
        KB wr w.heap.size 35 #[.int .i64 k, .int .u64 ni, .slice A2 dl cap2, .slice A3 ks.length cap3] ∧ KB wr (w.heap.size + 1) 35 #[.int .i64 k, .int .u64 ni, .slice A2' dl' cap2', .slice A3' ks.length cap3'] ∧
        Below w.heap.size w wr) (fun iv _ => ks.length - (intOf iv).toNat)
      case atStart => exact ⟨0, by omega, fun i u v h => absurd h (by omega), rfl, K5, L5, B5⟩
      case round =>
        obtain ⟨j, hj, hall, rfl, K, L, B⟩ := hrel
        have q3 : wr.cell? ⟨w.heap.size, 3, none⟩ = some (.slice A3 ks.length cap3) := K.cell 3
        by_cases hlt : j < ks.length
        · have hlt' : j < ks'.length := by have := H3.out; omega
          obtain ⟨b, o, e0, e1, e2, e3, rfl, hb, k0, k1, k2, k3, hv⟩ := kid_as hks rfl B j hlt
          obtain ⟨b', o', d0, d1, d2, d3, rfl, hb', m0, m1, m2, m3, hv'⟩ := kid_as hks' H3.out.symm B j hlt'
          have p3 : wr.cell? ⟨w.heap.size + 1, 3, none⟩ = some (.slice (some ⟨b', o', none⟩) ks.length cap3') := L.cell 3
          have tv : TV wr.drew S f (.agg #[e0, e1, e2, e3]) ks[j] := hv.keep (Nat.le_refl _) fun _ _ _ => rfl
          have tv' : TV wr.drew S' f (.agg #[d0, d1, d2, d3]) ks'[j] := hv'.keep (Nat.le_refl _) fun _ _ _ => rfl
          have hc := ih ks[j] ks'[j] _ _ wr.drew tv tv'
          have hyes : Hid (sameT f ks[j] ks'[j] = true → ∀ (i : Nat) (u v : Tm f), i < j + 1 → ks[i]? = some u → ks'[i]? = some v → sameT f u v = true) := by
            intro hp i u v hi hu hw
            rcases Nat.lt_or_ge i j with h | h
            · exact hall.out i u v h hu hw
            · obtain rfl : i = j := by omega
              rw [List.getElem?_eq_getElem hlt] at hu
              rw [List.getElem?_eq_getElem hlt'] at hw
              injection hu with hu
              injection hw with hw
              rw [← hu, ← hw]; exact hp
          have hno : Hid (sameT f ks[j] ks'[j] = false → r = false) := fun hp => HN.out j _ _ (List.getElem?_eq_getElem hlt) (List.getElem?_eq_getElem hlt') hp
          have K' : KB wr.drew w.heap.size 35 #[.int .i64 k, .int .u64 ni, .slice A2 dl cap2, .slice (some ⟨b, o, none⟩) ks.length cap3] := K
          have L' : KB wr.drew (w.heap.size + 1) 35 #[.int .i64 k, .int .u64 ni, .slice A2' dl' cap2', .slice (some ⟨b', o', none⟩) ks.length cap3'] := L
          have B' : Below w.heap.size w wr.drew := Below_drawn B 1
          clear hv hv' tv tv' hks hks' HR HN K L B hall
          generalize sameT f ks[j] ks'[j] = p at *
          have far : ∀ w5, Below wr.drew.heap.size wr.drew w5 → ∀ (g : Nat) (i : Nat) (u : Value), g < w.heap.size → wr.cell? ⟨g, i, none⟩ = some u → w5.cell? ⟨g, i, none⟩ = some u := fun w5 b5 g i u hg hu =>
            (World.cell?_of_block (w := wr.drew) (b5.block g (Nat.lt_of_lt_of_le hg B'.size))).trans hu
          go_wp2_with fail
          go_region_held3 (fun w' => w'.cell? ⟨w.heap.size, 3, none⟩ = some (.slice (some ⟨b, o, none⟩) ks.length cap3) ∧ w'.cell? ⟨w.heap.size + 1, 3, none⟩ = some (.slice (some ⟨b', o', none⟩) ks.length cap3') ∧
              w'.cell? ⟨b, o + j * 4, none⟩ = some e0 ∧ w'.cell? ⟨b, o + j * 4 + 1, none⟩ = some e1 ∧ w'.cell? ⟨b, o + j * 4 + 2, none⟩ = some e2 ∧ w'.cell? ⟨b, o + j * 4 + 3, none⟩ = some e3 ∧
              w'.cell? ⟨b', o' + j * 4, none⟩ = some d0 ∧ w'.cell? ⟨b', o' + j * 4 + 1, none⟩ = some d1 ∧ w'.cell? ⟨b', o' + j * 4 + 2, none⟩ = some d2 ∧ w'.cell? ⟨b', o' + j * 4 + 3, none⟩ = some d3)
            (first | exact ⟨q3, p3, k0, k1, k2, k3, m0, m1, m2, m3⟩ | exact ⟨K'.cell 3, L'.cell 3, far _ b5 _ _ _ hb k0, far _ b5 _ _ _ hb k1, far _ b5 _ _ _ hb k2, far _ b5 _ _ _ hb k3, far _ b5 _ _ _ hb' m0, far _ b5 _ _ _ hb' m1, far _ b5 _ _ _ hb' m2, far _ b5 _ _ _ hb' m3⟩ | go_keep)
            (first
              | (go_at_call 25; refine hc.mono ?_; rintro e w5 ⟨rfl, b5⟩; replace K' := K'.below b5 K'.lt; replace L' := L'.below b5 L'.lt; replace B' := B'.trans (b5.mono B'.size)))
          clear far k0 k1 k2 k3 m0 m1 m2 m3 q3 p3 hc b5
          cases p with
          | true =>
            have hy := Lib.hid (hyes.out rfl)
            clear hyes hno
            go_wp2_with fail
            go_roundw
            case rel => exact ⟨j + 1, by omega, hy.out, by go_num, K', L', B'⟩
            case measure => simp [intOf]; omega
          | false =>
            have hr := hno.out rfl
            clear hyes hno
            subst hr
            go_wp2_with fail
            go_ret
            exact ⟨rfl, B'⟩
        · have hr : r = true := HR.out fun i u v hu hv => hall.out i u v (by have := (List.getElem?_eq_some_iff.1 hu).1; omega) hu hv
          clear HR HN hall
          subst hr
          go_wp2_with fail
          go_ret
          exact ⟨rfl, B⟩
end Go.Proofs.YthgaljgelngmaaaDoor
end

section
namespace Go.Proofs.YthgaljgelngmaaaDoor
open Go.RowKit
set_option linter.unusedVariables false

theorem step_grow {P : Program} {ops : Array Oper} {o : Oper} {a : Act} {w : World} {K : Act → World → Prop} {Q : Exit → Act → World → Prop} {E : Prop}
    (hg : o.guard = none) (s x : Operand) (t : TypeId) (hop : o.op = Op.call { callee := Callee.builtin Builtin.append, args := #[s, x], argTypes := #[t, t] })
    (base : Nat) (e : TypeId) (i : TypeInfo) (ht : P.underlying t = some (.slice e)) (hi : P.info? e = some i) (hz : i.zero = some (.int .u8 0))
    (hsize : i.size = 1) (hby : i.bytes = 1) (v : Value) (xs : List UInt8) (hs : a.eval s = v) (hown : w.ownsRow base e 1 v xs.length (xs.map bv))
    (S : Nat → Prop) (xv : Value) (ys : List UInt8) (hxe : a.eval x = xv) (hx : BS w S xv ys) (hb : xs.length + ys.length ≤ 140737488355328) (hbase : base ≤ w.heap.size)
    (hK : ∀ v' w', w'.ownsRow base e 1 v' (xs ++ ys).length ((xs ++ ys).map bv) → w.grownBy w' v.ownBlock → (v'.ownBlock = v.ownBlock ∨ v'.ownBlock = some w.heap.size) → K (a.put o.dst v') w') :
    if Region.wanted o (yielded ops a.tmps) = true then Oper.wp P o a w K Q else E := by
  have hw : Region.wanted o (yielded ops a.tmps) = true := by simp [Region.wanted, hg]
  rw [if_pos hw]
  obtain ⟨v', w', hrun, h2, h3, h4⟩ := run_grow (P := P) w base t o.type e i ht hi hz hsize hby v xs hown S xv ys hx hb hbase
  unfold Oper.wp execOp
  simp only [hop, resolve, invoke, builtin, Sem.run_bind, Sem.run_pure, Result.andThen_ok, List.map_toArray, List.map_cons, List.map_nil, hs, hxe, hrun]
  exact hK _ _ h2 h3 h4
theorem own_ne {w : World} {B e size n g : Nat} {v : Value} {xs : List Value} (h : w.ownsRow B e size v n xs) (hg : g < B) : v.ownBlock ≠ some g := by
  obtain ⟨_, h2⟩ := h
  rcases h2 with ⟨rfl, _⟩ | ⟨g', c, cur, rfl, hb, _⟩
  · simp [Value.ownBlock]
  · simp [Value.ownBlock]; omega

theorem own_ge {w : World} {B e size n : Nat} {v : Value} {xs : List Value} (h : w.ownsRow B e size v n xs) (k : Nat) (hk : v.ownBlock = some k) : B ≤ k := by
  rcases Nat.lt_or_ge k B with hlt | hge
  · exact absurd hk (own_ne h hlt)
  · exact hge

end Go.Proofs.YthgaljgelngmaaaDoor
end
