/-
  The program's Same (layer 17): slices.EqualFunc at conditions and at rules, the closure that calls itself, over the loaded program: each one's contract. No condition but the sizes that each contract names.
-/
import Derived.Test.YtbhebjkicooidaaDoorRuG
import Derived.Laws.EntriesVeiled
namespace Go.Proofs.YtbhebjkicooidaaDoor
open Go.RowKit
set_option maxRecDepth 100000
set_option linter.unusedVariables false

/-- The variable of the closure. -/
def SameAt (w : World) (gs : Nat) : Prop := KB w gs 61 #[.func (.func 35) #[] #[.pointer (some ⟨gs, 0, none⟩)]]

theorem XS.past {w w' : World} {S : Nat → Prop} {f : Nat} {v : Value} {ks : List (Ex f)} (h : XS w S (EX w S f) v ks) (hb : Below w.heap.size w w') : XS w' S (EX w' S f) v ks := by
  have := XS.map (E' := EX w' S f) (w' := w') (S' := S) id h hb.size (fun b _ hl => hb.block b hl) (fun _ h => h) (fun t c0 c1 c2 c3 h => h.below' hb)
  rwa [List.map_id] at this

set_option maxHeartbeats 4000000 in
/-- slices.EqualFunc of conditions, by the closure. -/
theorem eqx_any (S S' : Nat → Prop) (gs f : Nat) (hF : ∀ (a b : Ex f) (x y : Value) (W : World), SameAt W gs → EV W S f x a → EV W S' f y b → Calls Tryd.prog 35 #[x, y, .pointer (some ⟨gs, 0, none⟩)] W fun e w' => e = .returned (.bool (sameX f f a b)) ∧ Below W.heap.size W w')
    (ks ks' : List (Ex f)) (v v' : Value) (w : World) (hg : SameAt w gs) (hks : XS w S (EX w S f) v ks) (hks' : XS w S' (EX w S' f) v' ks') :
    Calls Tryd.prog 36 #[v, v', .func (.func 35) #[] #[.pointer (some ⟨gs, 0, none⟩)]] w fun e w' => e = .returned (.bool (sameXL (sameX f f) ks ks')) ∧ Below w.heap.size w w' := by
  obtain ⟨A3, cap3, rfl, hl3, hm3⟩ := hks.form
  obtain ⟨A3', cap3', rfl, hl3', _⟩ := hks'.form
  have hlen : ks.length ≤ 9223372036854775807 := by unfold maxLen at hm3; omega
  have hgl := hg.lt
  by_cases h3 : ks.length = ks'.length
  case neg =>
    rw [sameXL_len h3]
    have g1 : (ks.length != ks'.length) = true := bne_iff_ne.2 h3
    have g2 : ((ks.length : Int) != (ks'.length : Int)) = true := bne_iff_ne.2 (by omega)
    go_enter Tryd.func36, Tryd.ntmps36
    go_wp2_with fail
    go_ret
    exact ⟨rfl, Below.refl _ _⟩
  rw [← h3] at hks' ⊢
  have HR : Hid ((∀ (i : Nat) (u v : Ex f), ks[i]? = some u → ks'[i]? = some v → sameX f f u v = true) → sameXL (sameX f f) ks ks' = true) := fun h => sameXL_all h3 h
  have HN : Hid (∀ (i : Nat) (u v : Ex f), ks[i]? = some u → ks'[i]? = some v → sameX f f u v = false → sameXL (sameX f f) ks ks' = false) := fun i u v h1 h2 h => sameXL_stop h1 h2 h
  have H3 := Lib.hid h3
  clear h3
  generalize sameXL (sameX f f) ks ks' = r at *
  go_enter Tryd.func36, Tryd.ntmps36
  go_wp2_with fail
  go_loopw [17] (fun iv wr => ∃ j : Nat, j ≤ ks.length ∧ Hid (∀ (i : Nat) (u v : Ex f), i < j → ks[i]? = some u → ks'[i]? = some v → sameX f f u v = true) ∧ iv = .int .i64 j ∧ Below w.heap.size w wr) (fun iv _ => ks.length - (intOf iv).toNat)
  case atStart => exact ⟨0, by omega, fun i u v h => absurd h (by omega), rfl, Below.refl _ _⟩
  case round =>
    obtain ⟨j, hj, hall, rfl, B⟩ := hrel
    by_cases hlt : j < ks.length
    · have hltI : (j : Int) < (ks.length : Int) := by omega
      have hlt' : j < ks'.length := by have := H3.out; omega
      obtain ⟨b, o, e0, e1, e2, e3, rfl, hb, k0, k1, k2, k3, hv⟩ := kid_b hks rfl B j hlt
      obtain ⟨b', o', d0, d1, d2, d3, rfl, hb', m0, m1, m2, m3, hv'⟩ := kid_b hks' H3.out.symm B j hlt'
      have hgr : SameAt wr gs := KB.below hg B hgl
      have hc := hF ks[j] ks'[j] _ _ _ ((hgr.alloc (.cells #[e0, e1, e2, e3] 35)).alloc (.cells #[d0, d1, d2, d3] 35)) ((hv.alloc _).alloc _) ((hv'.alloc _).alloc _)
      have B2 : Below w.heap.size w ((wr.alloc (.cells #[e0, e1, e2, e3] 35)).alloc (.cells #[d0, d1, d2, d3] 35)) := (B.alloc B.size _).alloc (by have := B.size; simp; omega) _
      have hyes : Hid (sameX f f ks[j] ks'[j] = true → ∀ (i : Nat) (u v : Ex f), i < j + 1 → ks[i]? = some u → ks'[i]? = some v → sameX f f u v = true) := by
        intro hp i u v hi hu hw
        rcases Nat.lt_or_ge i j with h | h
        · exact hall.out i u v h hu hw
        · obtain rfl : i = j := by omega
          rw [List.getElem?_eq_getElem hlt] at hu
          rw [List.getElem?_eq_getElem hlt'] at hw
          injection hu with hu
          injection hw with hw
          rw [← hu, ← hw]; exact hp
      have hno : Hid (sameX f f ks[j] ks'[j] = false → r = false) := fun hp => HN.out j _ _ (List.getElem?_eq_getElem hlt) (List.getElem?_eq_getElem hlt') hp
      obtain ⟨_, _, _, _, e, hx4⟩ := hv
      injection e with e
      simp only [Array.mk.injEq, List.cons.injEq, and_true] at e
      obtain ⟨rfl, rfl, rfl, rfl⟩ := e
      obtain ⟨_, _, _, _, e, hy4⟩ := hv'
      injection e with e
      simp only [Array.mk.injEq, List.cons.injEq, and_true] at e
      obtain ⟨rfl, rfl, rfl, rfl⟩ := e
      obtain ⟨i0, i1, l2, X3, n3, z3, rfl, rfl, rfl, rfl⟩ := hx4.form
      obtain ⟨i0', i1', l2', X3', n3', z3', rfl, rfl, rfl, rfl⟩ := hy4.form
      unfold strV at *
      generalize (⟨l2.toArray⟩ : ByteArray) = s2 at *
      generalize (⟨l2'.toArray⟩ : ByteArray) = s2' at *
      clear hx4 hy4 hks hks' HR HN hall hgr
      generalize sameX f f ks[j] ks'[j] = p at *
      have hbr : b < wr.heap.size := Nat.lt_of_lt_of_le hb B.size
      have hbr' : b' < wr.heap.size := Nat.lt_of_lt_of_le hb' B.size
      go_wp2_with fail
      refine hc.mono ?_
      rintro e w5 ⟨rfl, b5⟩
      have B5 := B2.trans (b5.mono B2.size)
      clear hc b5 B2 k0 k1 k2 k3 m0 m1 m2 m3
      cases p with
      | true =>
        have hy := Lib.hid (hyes.out rfl)
        clear hyes hno
        go_wp2_with fail
        go_roundw
        case rel => exact ⟨j + 1, by omega, hy.out, by go_num, B5⟩
        case measure => simp [intOf]; omega
      | false =>
        have hr := hno.out rfl
        clear hyes hno
        subst hr
        go_wp2_with fail
        go_ret
        exact ⟨rfl, B5⟩
    · have hr : r = true := HR.out fun i u v hu hv => hall.out i u v (by have := (List.getElem?_eq_some_iff.1 hu).1; omega) hu hv
      clear HR HN hall
      subst hr
      go_wp2_with fail
      go_ret
      exact ⟨rfl, B⟩

set_option maxHeartbeats 4000000 in
/-- The closure. -/
theorem samex1_any (S S' : Nat → Prop) (gs : Nat) : ∀ (f : Nat) (a b : Ex f) (x y : Value) (w : World), SameAt w gs → EV w S f x a → EV w S' f y b →
    Calls Tryd.prog 35 #[x, y, .pointer (some ⟨gs, 0, none⟩)] w fun e w' => e = .returned (.bool (sameX f f a b)) ∧ Below w.heap.size w w' := by
  intro f
  induction f with
  | zero => intro a; exact nomatch a
  | succ f ih =>
    intro a b x y w hg hx hy
    have hgl := hg.lt
    obtain ⟨c0, c1, c2, c3, rfl, rfl, _, rfl, _, rfl, _, hks⟩ := hx
    obtain ⟨c0', c1', c2', c3', rfl, rfl, _, rfl, _, rfl, _, hks'⟩ := hy
    obtain ⟨A3, cap3, e3, hl3, hm3⟩ := hks.form
    obtain ⟨A3', cap3', e3', _⟩ := hks'.form
    obtain ⟨k, n, d, ks⟩ := (a : Nx (Ex f))
    obtain ⟨k', n', d', ks'⟩ := (b : Nx (Ex f))
    simp only at e3 e3' hks hks' hl3
    subst e3 e3'
    have hr : sameX (f + 1) (f + 1) (⟨k, n, d, ks⟩ : Nx (Ex f)) (⟨k', n', d', ks'⟩ : Nx (Ex f)) = (decide (k = k') && decide (n = n') && decide (d = d') && sameXL (sameX f f) ks ks') := rfl
    rw [hr]
    clear hr
    dsimp only
    unfold strV at *
    obtain ⟨s, hs⟩ : ∃ s : ByteArray, s = ⟨d.toArray⟩ := ⟨_, rfl⟩
    obtain ⟨s', hs'⟩ : ∃ s : ByteArray, s = ⟨d'.toArray⟩ := ⟨_, rfl⟩
    rw [← hs, ← hs']
    have gq := eq_txt s s' d d' hs hs'
    have gs1 := ne_txt s s' d d' hs hs'
    clear hs hs'
    obtain ⟨kx, ky, B0⟩ := two_boxes w #[.int .i64 k, .int .i64 n, .string s, .slice A3 ks.length cap3] #[.int .i64 k', .int .i64 n', .string s', .slice A3' ks'.length cap3'] 35
    have hc := eqx_any S S' gs f ih ks ks' _ _ _ (KB.below hg B0 hgl) (XS.past hks B0) (XS.past hks' B0)
    have qg : w.cell? ⟨gs, 0, none⟩ = some (.func (.func 35) #[] #[.pointer (some ⟨gs, 0, none⟩)]) := hg.cell 0
    generalize decide (d = d') = e at *
    generalize sameXL (sameX f f) ks ks' = p at *
    generalize ks.length = kl at *
    generalize ks'.length = kl' at *
    clear hks hks' hl3 ih
    by_cases h1 : k = k'
    case neg =>
      rw [decide_eq_false h1, Bool.false_and, Bool.false_and, Bool.false_and]
      have g1 : (k == k') = false := beq_eq_false_iff_ne.2 h1
      clear gq gs1 hc
      go_enter Tryd.func35, Tryd.ntmps35
      go_wp2_with fail
      go_ret
      exact ⟨rfl, B0⟩
    subst h1
    rw [decide_eq_true rfl, Bool.true_and]
    by_cases h2 : n = n'
    case neg =>
      rw [decide_eq_false h2, Bool.false_and, Bool.false_and]
      have g1 : (n == n') = false := beq_eq_false_iff_ne.2 h2
      clear gq gs1 hc
      go_enter Tryd.func35, Tryd.ntmps35
      go_wp2_with fail
      go_ret
      exact ⟨rfl, B0⟩
    subst h2
    rw [decide_eq_true rfl, Bool.true_and]
    cases e with
    | false =>
      rw [Bool.false_and]
      have gp := (eq_prop gs1).1 rfl
      clear hc
      go_enter Tryd.func35, Tryd.ntmps35
      go_wp2_with fail
      go_ret
      exact ⟨rfl, B0⟩
    | true =>
      rw [Bool.true_and]
      have gp := (eq_prop gs1).2 rfl
      go_enter Tryd.func35, Tryd.ntmps35
      go_wp2_with fail
      refine hc.mono ?_
      rintro e w5 ⟨rfl, b5⟩
      have B5 := B0.trans (b5.mono B0.size)
      clear hc gq gs1 gp
      go_wp2_with fail
      go_ret
      exact ⟨rfl, B5⟩

set_option maxHeartbeats 4000000 in
/-- The closure that compares two rules. -/
theorem samer2_any (S S' : Nat → Prop) (gs f : Nat) (a b : Rl f) (a1 a2 a3 a4 b1 b2 b3 b4 : Value) (w : World) (hg : SameAt w gs) (hx : EV w S f (.agg #[a1, a2, a3, a4]) a.when_) (hy : EV w S' f (.agg #[b1, b2, b3, b4]) b.when_) :
    Calls Tryd.prog 38 #[.agg #[strV a.cls, a1, a2, a3, a4, .int .i64 a.act], .agg #[strV b.cls, b1, b2, b3, b4, .int .i64 b.act], .pointer (some ⟨gs, 0, none⟩)] w fun e w' => e = .returned (.bool (sameR f f a b)) ∧ Below w.heap.size w w' := by
  have hgl := hg.lt
  have hr : sameR f f a b = (decide (a.cls = b.cls) && decide (a.act = b.act) && sameX f f a.when_ b.when_) := rfl
  rw [hr]
  clear hr
  unfold strV
  obtain ⟨s, hs⟩ : ∃ s : ByteArray, s = ⟨a.cls.toArray⟩ := ⟨_, rfl⟩
  obtain ⟨s', hs'⟩ : ∃ s : ByteArray, s = ⟨b.cls.toArray⟩ := ⟨_, rfl⟩
  rw [← hs, ← hs']
  have gq := eq_txt s s' _ _ hs hs'
  have gs1 := ne_txt s s' _ _ hs hs'
  clear hs hs'
  obtain ⟨kx, ky, B0⟩ := two_boxes w #[.string s, a1, a2, a3, a4, .int .i64 a.act] #[.string s', b1, b2, b3, b4, .int .i64 b.act] 37
  have hc := samex1_any S S' gs f a.when_ b.when_ _ _ _ (KB.below hg B0 hgl) (hx.below' B0) (hy.below' B0)
  have qg : w.cell? ⟨gs, 0, none⟩ = some (.func (.func 35) #[] #[.pointer (some ⟨gs, 0, none⟩)]) := hg.cell 0
  obtain ⟨_, _, _, _, e, hx4⟩ := hx
  injection e with e
  simp only [Array.mk.injEq, List.cons.injEq, and_true] at e
  obtain ⟨rfl, rfl, rfl, rfl⟩ := e
  obtain ⟨_, _, _, _, e, hy4⟩ := hy
  injection e with e
  simp only [Array.mk.injEq, List.cons.injEq, and_true] at e
  obtain ⟨rfl, rfl, rfl, rfl⟩ := e
  obtain ⟨i0, i1, l2, X3, n3, z3, rfl, rfl, rfl, rfl⟩ := hx4.form
  obtain ⟨i0', i1', l2', X3', n3', z3', rfl, rfl, rfl, rfl⟩ := hy4.form
  unfold strV at *
  clear hx4 hy4
  generalize (⟨l2.toArray⟩ : ByteArray) = s2 at *
  generalize (⟨l2'.toArray⟩ : ByteArray) = s2' at *
  generalize decide (a.cls = b.cls) = e at *
  generalize sameX f f a.when_ b.when_ = p at *
  generalize a.act = ac at *
  generalize b.act = ac' at *
  cases e with
  | false =>
    rw [Bool.false_and, Bool.false_and]
    have gp := (eq_prop gs1).1 rfl
    clear hc
    go_enter Tryd.func38, Tryd.ntmps38
    go_wp2_with fail
    go_ret
    exact ⟨rfl, B0⟩
  | true =>
    rw [Bool.true_and]
    have gp := (eq_prop gs1).2 rfl
    by_cases h1 : ac = ac'
    case neg =>
      rw [decide_eq_false h1, Bool.false_and]
      have g1 : (ac == ac') = false := beq_eq_false_iff_ne.2 h1
      clear hc
      go_enter Tryd.func38, Tryd.ntmps38
      go_wp2_with fail
      go_ret
      exact ⟨rfl, B0⟩
    subst h1
    rw [decide_eq_true rfl, Bool.true_and]
    go_enter Tryd.func38, Tryd.ntmps38
    go_wp2_with fail
    refine hc.mono ?_
    rintro e w5 ⟨rfl, b5⟩
    have B5 := B0.trans (b5.mono B0.size)
    clear hc gq gs1 gp
    go_wp2_with fail
    go_ret
    exact ⟨rfl, B5⟩

set_option maxHeartbeats 4000000 in
/-- slices.EqualFunc of rules. -/
theorem eqr_any (S S' : Nat → Prop) (gs f : Nat) (la lb : List (Rl f)) (v v' : Value) (w : World) (hg : SameAt w gs) (hks : RS w S f v la) (hks' : RS w S' f v' lb) :
    Calls Tryd.prog 37 #[v, v', .func (.func 38) #[] #[.pointer (some ⟨gs, 0, none⟩)]] w fun e w' => e = .returned (.bool (sameXL (sameR f f) la lb)) ∧ Below w.heap.size w w' := by
  obtain ⟨A3, cap3, rfl, hl3, hm3⟩ := hks.form
  obtain ⟨A3', cap3', rfl, hl3', _⟩ := hks'.form
  have hlen : la.length ≤ 9223372036854775807 := by unfold maxLen at hm3; omega
  have hgl := hg.lt
  by_cases h3 : la.length = lb.length
  case neg =>
    rw [sameXL_len h3]
    have g1 : (la.length != lb.length) = true := bne_iff_ne.2 h3
    have g2 : ((la.length : Int) != (lb.length : Int)) = true := bne_iff_ne.2 (by omega)
    go_enter Tryd.func37, Tryd.ntmps37
    go_wp2_with fail
    go_ret
    exact ⟨rfl, Below.refl _ _⟩
  rw [← h3] at hks' ⊢
  have HR : Hid ((∀ (i : Nat) (u v : Rl f), la[i]? = some u → lb[i]? = some v → sameR f f u v = true) → sameXL (sameR f f) la lb = true) := fun h => sameXL_all h3 h
  have HN : Hid (∀ (i : Nat) (u v : Rl f), la[i]? = some u → lb[i]? = some v → sameR f f u v = false → sameXL (sameR f f) la lb = false) := fun i u v h1 h2 h => sameXL_stop h1 h2 h
  have H3 := Lib.hid h3
  clear h3
  generalize sameXL (sameR f f) la lb = r at *
  go_enter Tryd.func37, Tryd.ntmps37
  go_wp2_with fail
  go_loopw [17] (fun iv wr => ∃ j : Nat, j ≤ la.length ∧ Hid (∀ (i : Nat) (u v : Rl f), i < j → la[i]? = some u → lb[i]? = some v → sameR f f u v = true) ∧ iv = .int .i64 j ∧ Below w.heap.size w wr) (fun iv _ => la.length - (intOf iv).toNat)
  case atStart => exact ⟨0, by omega, fun i u v h => absurd h (by omega), rfl, Below.refl _ _⟩
  case round =>
    obtain ⟨j, hj, hall, rfl, B⟩ := hrel
    by_cases hlt : j < la.length
    · have hltI : (j : Int) < (la.length : Int) := by omega
      have hlt' : j < lb.length := by have := H3.out; omega
      obtain ⟨b, o, e1, e2, e3, e4, rfl, hb, k0, k1, k2, k3, k4, k5, hv, _, _⟩ := rule_b hks rfl B j hlt
      obtain ⟨b', o', d1, d2, d3, d4, rfl, hb', m0, m1, m2, m3, m4, m5, hv', _, _⟩ := rule_b hks' H3.out.symm B j hlt'
      have hgr : SameAt wr gs := KB.below hg B hgl
      have hc := samer2_any S S' gs f la[j] lb[j] e1 e2 e3 e4 d1 d2 d3 d4 ((wr.alloc (.cells #[strV la[j].cls, e1, e2, e3, e4, .int .i64 la[j].act] 37)).alloc (.cells #[strV lb[j].cls, d1, d2, d3, d4, .int .i64 lb[j].act] 37)) ((hgr.alloc _).alloc _) ((hv.alloc _).alloc _) ((hv'.alloc _).alloc _)
      have B2 : Below w.heap.size w ((wr.alloc (.cells #[strV la[j].cls, e1, e2, e3, e4, .int .i64 la[j].act] 37)).alloc (.cells #[strV lb[j].cls, d1, d2, d3, d4, .int .i64 lb[j].act] 37)) := (B.alloc B.size _).alloc (by have := B.size; simp; omega) _
      have hyes : Hid (sameR f f la[j] lb[j] = true → ∀ (i : Nat) (u v : Rl f), i < j + 1 → la[i]? = some u → lb[i]? = some v → sameR f f u v = true) := by
        intro hp i u v hi hu hw
        rcases Nat.lt_or_ge i j with h | h
        · exact hall.out i u v h hu hw
        · obtain rfl : i = j := by omega
          rw [List.getElem?_eq_getElem hlt] at hu
          rw [List.getElem?_eq_getElem hlt'] at hw
          injection hu with hu
          injection hw with hw
          rw [← hu, ← hw]; exact hp
      have hno : Hid (sameR f f la[j] lb[j] = false → r = false) := fun hp => HN.out j _ _ (List.getElem?_eq_getElem hlt) (List.getElem?_eq_getElem hlt') hp
      obtain ⟨_, _, _, _, e, hx4⟩ := hv
      injection e with e
      simp only [Array.mk.injEq, List.cons.injEq, and_true] at e
      obtain ⟨rfl, rfl, rfl, rfl⟩ := e
      obtain ⟨_, _, _, _, e, hy4⟩ := hv'
      injection e with e
      simp only [Array.mk.injEq, List.cons.injEq, and_true] at e
      obtain ⟨rfl, rfl, rfl, rfl⟩ := e
      obtain ⟨i0, i1, l2, X3, n3, z3, rfl, rfl, rfl, rfl⟩ := hx4.form
      obtain ⟨i0', i1', l2', X3', n3', z3', rfl, rfl, rfl, rfl⟩ := hy4.form
      unfold strV at *
      generalize (⟨l2.toArray⟩ : ByteArray) = s2 at *
      generalize (⟨l2'.toArray⟩ : ByteArray) = s2' at *
      clear hx4 hy4 hks hks' HR HN hall hgr
      generalize sameR f f la[j] lb[j] = p at *
      generalize (⟨la[j].cls.toArray⟩ : ByteArray) = s1 at *
      generalize (⟨lb[j].cls.toArray⟩ : ByteArray) = s1' at *
      generalize la[j].act = ac at *
      generalize lb[j].act = ac' at *
      have hbr : b < wr.heap.size := Nat.lt_of_lt_of_le hb B.size
      have hbr' : b' < wr.heap.size := Nat.lt_of_lt_of_le hb' B.size
      go_wp2_with fail
      refine hc.mono ?_
      rintro e w5 ⟨rfl, b5⟩
      have B5 := B2.trans (b5.mono B2.size)
      clear hc b5 B2 k0 k1 k2 k3 k4 k5 m0 m1 m2 m3 m4 m5
      cases p with
      | true =>
        have hy := Lib.hid (hyes.out rfl)
        clear hyes hno
        go_wp2_with fail
        go_roundw
        case rel => exact ⟨j + 1, by omega, hy.out, by go_num, B5⟩
        case measure => simp [intOf]; omega
      | false =>
        have hr := hno.out rfl
        clear hyes hno
        subst hr
        go_wp2_with fail
        go_ret
        exact ⟨rfl, B5⟩
    · have hr : r = true := HR.out fun i u v hu hv => hall.out i u v (by have := (List.getElem?_eq_some_iff.1 hu).1; omega) hu hv
      clear HR HN hall
      subst hr
      go_wp2_with fail
      go_ret
      exact ⟨rfl, B⟩

/-- Same. -/
theorem same_any (S S' : Nat → Prop) (f : Nat) (la lb : List (Rl f)) (x y : Value) (w : World) (hx : RS w S f x la) (hy : RS w S' f y lb) :
    Calls Tryd.prog 16 #[x, y] w fun e w' => e = .returned (.bool (sameXL (sameR f f) la lb)) ∧ Below w.heap.size w w' := by
  have B0 := (Below.refl w.heap.size w).alloc (Nat.le_refl _) (.cells #[.func (.func 35) #[] #[.pointer (some ⟨w.heap.size, 0, none⟩)]] 61)
  have hg : SameAt (w.alloc (.cells #[.func (.func 35) #[] #[.pointer (some ⟨w.heap.size, 0, none⟩)]] 61)) w.heap.size := KB.new _ _ _
  have hc := eqr_any S S' w.heap.size f la lb x y _ hg (hx.below' B0) (hy.below' B0)
  obtain ⟨A3, cap3, rfl, hl3, hm3⟩ := hx.form
  obtain ⟨A3', cap3', rfl, hl3', _⟩ := hy.form
  clear hx hy hg
  generalize sameXL (sameR f f) la lb = p at *
  go_enter Tryd.func16, Tryd.ntmps16
  go_wp2_with fail
  refine hc.mono ?_
  rintro e w5 ⟨rfl, b5⟩
  have B5 := B0.trans (b5.mono B0.size)
  clear hc
  go_wp2_with fail
  go_ret
  exact ⟨rfl, B5⟩
end Go.Proofs.YtbhebjkicooidaaDoor
