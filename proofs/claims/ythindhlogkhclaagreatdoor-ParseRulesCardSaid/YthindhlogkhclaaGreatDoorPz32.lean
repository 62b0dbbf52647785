/-
  RuF: The program's mayBe (layer 17) and the closure that goes through a condition and counts, over the loaded program: each one's contract. No condition but what it names.
  RuP: The program's place and Check (layer 17), slices.IndexFunc at rules, over the loaded program: each one's contract. No condition but sizes.
-/
import Derived.Test.YthindhlogkhclaaGreatDoorPz14
import Derived.Test.YthindhlogkhclaaGreatDoorPz06
import Derived.Laws.EntriesVeiled
import Derived.Test.YthindhlogkhclaaGreatDoorPz31
import Derived.Test.YthindhlogkhclaaGreatDoorPz10
set_option linter.unusedVariables false
set_option maxRecDepth 100000
namespace Go.Proofs.YthindhlogkhclaaGreatDoor
section
open Go.RowKit
def countX (f : Nat) (t : Ex f) (d : Int) (n : Nat) : Bool := okX f t d && decide (n + nodesX f t ≤ 24)
theorem count_may (f : Nat) (t : Ex f) : countX f t 8 0 = mayX f t := by unfold countX mayX; rw [Nat.zero_add]
theorem count_full {f : Nat} (t : Ex f) {d : Int} {n : Nat} (h : 24 < n + 1) : countX f t d n = false := by
  unfold countX
  have := nodes_pos f t
  rw [decide_eq_false (by omega), Bool.and_false]
theorem count_flat {f : Nat} (x : Nx (Ex f)) {d : Int} {n : Nat} (h : d < 1) : countX (f + 1) x d n = false := by
  unfold countX
  rw [ok_eq, decide_eq_false (by omega : ¬ 1 ≤ d)]; simp
theorem count_unfit {f : Nat} (x : Nx (Ex f)) {d : Int} {n : Nat} (h : fitsX x = false) : countX (f + 1) x d n = false := by
  unfold countX
  rw [ok_eq, h]; simp
theorem count_stop {f : Nat} (x : Nx (Ex f)) {d : Int} {n : Nat} {j : Nat} (hj : j < x.kids.length) (h : countX f x.kids[j] (d - 1) (n + 1 + sumX f x.kids j) = false) : countX (f + 1) x d n = false := by
  unfold countX at h ⊢
  cases hk : okX f x.kids[j] (d - 1) with
  | false => rw [ok_eq, allX_stop hj hk]; simp
  | true =>
    rw [hk, Bool.true_and] at h
    have h0 := of_decide_eq_false h
    have h1 := sumX_step x.kids j hj
    have h2 := sumX_le x.kids (j + 1)
    rw [decide_eq_false (by rw [nodes_eq]; omega), Bool.and_false]
theorem count_step {f : Nat} (x : Nx (Ex f)) {d : Int} {n : Nat} {j : Nat} (hj : j < x.kids.length) (h : countX f x.kids[j] (d - 1) (n + 1 + sumX f x.kids j) = true) (ha : ((x.kids.take j).all fun u => okX f u (d - 1)) = true) :
    ((x.kids.take (j + 1)).all fun u => okX f u (d - 1)) = true ∧ n + 1 + sumX f x.kids j + nodesX f x.kids[j] = n + 1 + sumX f x.kids (j + 1) ∧ n + 1 + sumX f x.kids (j + 1) ≤ 24 := by
  unfold countX at h
  simp only [Bool.and_eq_true, decide_eq_true_eq] at h
  have h1 := sumX_step x.kids j hj
  exact ⟨allX_step hj ha h.1, by omega, by omega⟩
theorem count_all {f : Nat} (x : Nx (Ex f)) {d : Int} {n : Nat} (hd : 1 ≤ d) (hf : fitsX x = true) (ha : ((x.kids.take x.kids.length).all fun u => okX f u (d - 1)) = true) (h : n + 1 + sumX f x.kids x.kids.length ≤ 24) :
    countX (f + 1) x d n = true ∧ n + 1 + sumX f x.kids x.kids.length = n + nodesX (f + 1) x := by
  have hs : sumX f x.kids x.kids.length = (x.kids.map (nodesX f)).sum := by unfold sumX; rw [List.take_length]
  rw [List.take_length] at ha
  unfold countX
  rw [ok_eq, decide_eq_true hd, hf, ha, nodes_eq, ← hs]
  exact ⟨by rw [decide_eq_true (by omega)]; rfl, by omega⟩
theorem KB.apart {w : World} {g h i : Nat} {t : TypeId} {cs : Array Value} {v : Value} (k : KB w g t cs) (hne : h ≠ g) : KB (w.setCell ⟨h, i, none⟩ v) g t cs :=
  k.keep (Below.heap_setCell w ⟨h, i, none⟩ v g fun e => hne e.symm)
set_option maxHeartbeats 4000000 in
theorem mwalk_any (S : Nat → Prop) (gn gw : Nat) : ∀ (f : Nat) (t : Ex f) (v : Value) (dp : Int) (n : Nat) (w : World) (P : Nat → Prop), 1 ≤ dp → dp ≤ 9 → n ≤ 24 → (∀ b, P b → b < w.heap.size) → (∀ b, S b → P b) → P gw → ¬ P gn →
    KB w gn 3 #[.int .i64 (n : Int)] → KB w gw 104 #[.func (.func 69) #[] #[.pointer (some ⟨gn, 0, none⟩), .pointer (some ⟨gw, 0, none⟩)]] → EV w S f v t →
    Calls Tryz.prog 69 #[v, .int .i64 dp, .pointer (some ⟨gn, 0, none⟩), .pointer (some ⟨gw, 0, none⟩)] w fun e w' =>
      e = .returned (.bool (countX f t (9 - dp) n)) ∧ (countX f t (9 - dp) n = true → KB w' gn 3 #[.int .i64 ((n + nodesX f t : Nat) : Int)]) ∧ KeepP P w w' := by
  intro f
  induction f with
  | zero => intro t; exact nomatch t
  | succ f ih =>
    intro t v dp n w P hdp hdp2 hn hP hS hPw hNn kn kw hv
    have hvv := hv
    obtain ⟨c0, c1, c2, c3, rfl, ht⟩ := hv
    have hgn := kn.lt
    have hgw := kw.lt
    have hne : ¬ gw = gn := fun e => hNn (e ▸ hPw)
    have hks : XS w S (EX w S f) c3 (t : Nx (Ex f)).kids := ht.2.2.2.2.2.2
    obtain ⟨i0, i1, l2, A3, n3, cap3, rfl, rfl, rfl, rfl⟩ := ht.form
    obtain ⟨A3', cap3', e3, hl3, hm3⟩ := hks.form
    injection e3 with e31 e32 e33
    subst e31 e32 e33
    unfold strV at *
    generalize (⟨l2.toArray⟩ : ByteArray) = s at *
    have K0 := KB.new w 42 #[.int .i64 i0, .int .i64 i1, .string s, .slice A3 (t : Nx (Ex f)).kids.length cap3]
    have kn0 := kn.alloc (.cells #[.int .i64 i0, .int .i64 i1, .string s, .slice A3 (t : Nx (Ex f)).kids.length cap3] 42)
    have kw0 := kw.alloc (.cells #[.int .i64 i0, .int .i64 i1, .string s, .slice A3 (t : Nx (Ex f)).kids.length cap3] 42)
    have KP0 := KeepP.alloc w (.cells #[.int .i64 i0, .int .i64 i1, .string s, .slice A3 (t : Nx (Ex f)).kids.length cap3] 42) hP
    obtain ⟨r, hr⟩ : ∃ r, r = countX (f + 1) t (9 - dp) n := ⟨_, rfl⟩
    obtain ⟨nn, hnn⟩ : ∃ nn, nn = n + nodesX (f + 1) t := ⟨_, rfl⟩
    rw [← hr, ← hnn]
    have HFULL : Hid (24 < n + 1 → r = false) := fun h => hr.trans (count_full t h)
    have HFLAT : Hid (9 - dp < 1 → r = false) := fun h => hr.trans (count_flat (t : Nx (Ex f)) h)
    have HUNF : Hid (fitsX (t : Nx (Ex f)) = false → r = false) := fun h => hr.trans (count_unfit (t : Nx (Ex f)) h)
    have HSTOP : Hid (∀ (j : Nat) (hj : j < (t : Nx (Ex f)).kids.length), countX f (t : Nx (Ex f)).kids[j] (9 - dp - 1) (n + 1 + sumX f (t : Nx (Ex f)).kids j) = false → r = false) := fun j hj h => hr.trans (count_stop (t : Nx (Ex f)) hj h)
    have HSTEP : Hid (∀ (j : Nat) (hj : j < (t : Nx (Ex f)).kids.length), countX f (t : Nx (Ex f)).kids[j] (9 - dp - 1) (n + 1 + sumX f (t : Nx (Ex f)).kids j) = true → (((t : Nx (Ex f)).kids.take j).all fun u => okX f u (9 - dp - 1)) = true →
      (((t : Nx (Ex f)).kids.take (j + 1)).all fun u => okX f u (9 - dp - 1)) = true ∧ n + 1 + sumX f (t : Nx (Ex f)).kids j + nodesX f (t : Nx (Ex f)).kids[j] = n + 1 + sumX f (t : Nx (Ex f)).kids (j + 1) ∧ n + 1 + sumX f (t : Nx (Ex f)).kids (j + 1) ≤ 24) := fun j hj h ha => count_step (t : Nx (Ex f)) hj h ha
    have HALL : Hid (1 ≤ 9 - dp → fitsX (t : Nx (Ex f)) = true → (((t : Nx (Ex f)).kids.take (t : Nx (Ex f)).kids.length).all fun u => okX f u (9 - dp - 1)) = true → n + 1 + sumX f (t : Nx (Ex f)).kids (t : Nx (Ex f)).kids.length ≤ 24 → r = true ∧ n + 1 + sumX f (t : Nx (Ex f)).kids (t : Nx (Ex f)).kids.length = nn) :=
      fun h1 h2 h3 h4 => ⟨hr.trans (count_all (t : Nx (Ex f)) h1 h2 h3 h4).1, (count_all (t : Nx (Ex f)) h1 h2 h3 h4).2.trans hnn.symm⟩
    have hfit0 := fits_any S f t (.agg #[.int .i64 i0, .int .i64 i1, .string s, .slice A3 (t : Nx (Ex f)).kids.length cap3])
    clear hr hnn
    have hEVk : ∀ W, KeepP P w W → EV W S (f + 1) (.agg #[.int .i64 i0, .int .i64 i1, .string s, .slice A3 (t : Nx (Ex f)).kids.length cap3]) t := fun W h => by
      obtain ⟨d0, d1, d2, d3, e, hx⟩ := hvv
      exact ⟨d0, d1, d2, d3, e, hx.keepP h fun b sb _ => hS b sb⟩
    have HEV := Lib.hid hEVk
    clear hvv hEVk ht
    generalize fitsX (t : Nx (Ex f)) = fit at *
    generalize (t : Nx (Ex f)).kids = ks at *
    have hlen : ks.length ≤ 9223372036854775807 := by unfold maxLen at hm3; omega
    obtain ⟨kl, hkl⟩ : ∃ kl, kl = ks.length := ⟨_, rfl⟩
    rw [← hkl] at hks hl3 hlen K0 kn0 kw0 KP0 hfit0 HEV ⊢
    have HKL := Lib.hid hkl
    clear hkl
    have I1 : IntKind.i64.wrap (dp + 1) = dp + 1 := by rw [IntKind.wrap_i64]; omega
    have I1' : wrap64 (dp + 1) = dp + 1 := IntWalk.wrap64_in _ (by omega)
    have I2 : IntKind.i64.wrap ((n : Int) + 1) = ((n + 1 : Nat) : Int) := by rw [IntKind.wrap_i64]; omega
    have I2' : wrap64 ((n : Int) + 1) = ((n + 1 : Nat) : Int) := by rw [IntWalk.wrap64_in _ (by omega)]; omega
    obtain ⟨m, hm⟩ : ∃ m, m = n + 1 := ⟨_, rfl⟩
    rw [← hm] at I2 I2'
    rw [← hm] at HFULL HSTOP HSTEP HALL
    have HM := Lib.hid hm
    clear hm
    have hsz0 : (w.setCell ⟨gn, 0, none⟩ (.int .i64 (m : Int))).heap.size = w.heap.size := by simp [World.setCell]
    have kb1 : KB ((w.setCell ⟨gn, 0, none⟩ (.int .i64 (m : Int))).alloc (.cells #[.int .i64 i0, .int .i64 i1, .string s, .slice A3 kl cap3] 42)) gn 3 #[.int .i64 (m : Int)] := (kn.put 0 _).alloc _
    have kx1 := KB.new (w.setCell ⟨gn, 0, none⟩ (.int .i64 (m : Int))) 42 #[.int .i64 i0, .int .i64 i1, .string s, .slice A3 kl cap3]
    rw [hsz0] at kx1
    have kw1 := (kw.apart (h := gn) (i := 0) (v := .int .i64 (m : Int)) (fun e => hne e.symm)).alloc (.cells #[.int .i64 i0, .int .i64 i1, .string s, .slice A3 kl cap3] 42)
    have KP1 := ((KeepP.refl P w).set ⟨gn, 0, none⟩ hNn (.int .i64 (m : Int))).new (.cells #[.int .i64 i0, .int .i64 i1, .string s, .slice A3 kl cap3] 42) hP
    have hq0 : w.cell? ⟨gn, 0, none⟩ = some (.int .i64 (n : Int)) := kn.cell 0
    obtain ⟨W1, hW1⟩ : ∃ W, W = ((w.setCell ⟨gn, 0, none⟩ (.int .i64 (m : Int))).alloc (.cells #[.int .i64 i0, .int .i64 i1, .string s, .slice A3 kl cap3] 42)) := ⟨_, rfl⟩
    have hsz1 : W1.heap.size = w.heap.size + 1 := by rw [hW1]; simp [World.setCell]
    rw [← hW1] at kb1 kx1 kw1 KP1
    have hfr : w.frozen? ⟨gn, 0, none⟩ = false := kn.free 0
    have HW1 := Lib.hid hW1
    clear hW1
    have hfit := hfit0 W1 (HEV.out W1 KP1)
    clear hfit0 kn0 kw0 K0 KP0 kn kw HEV
    have HSZ := Lib.hid hsz1
    clear hsz0 hsz1
    by_cases h24 : 24 < m
    · obtain rfl := HFULL.out h24
      have E : decide ((24 : Int) < (m : Int)) = true := decide_eq_true (by omega)
      clear HFULL HFLAT HUNF HSTOP HSTEP HALL hfit h24
      go_enter Tryz.func69, Tryz.ntmps69
      go_wp2_with fail
      rw [← HW1.out]
      go_ret
      exact ⟨rfl, (fun h => by cases h), KP1⟩
    have E24 : decide ((24 : Int) < (m : Int)) = false := decide_eq_false (by omega)
    by_cases h8 : 8 < dp
    · obtain rfl := HFLAT.out (by omega)
      have E : decide ((8 : Int) < dp) = true := decide_eq_true h8
      clear HFULL HFLAT HUNF HSTOP HSTEP HALL hfit
      go_enter Tryz.func69, Tryz.ntmps69
      go_wp2_with fail
      rw [← HW1.out]
      go_ret
      exact ⟨rfl, (fun h => by cases h), KP1⟩
    have E8 : decide ((8 : Int) < dp) = false := decide_eq_false h8
    clear HFULL HFLAT
    go_enter Tryz.func69, Tryz.ntmps69
    go_wp2_with fail
    rw [← HW1.out]
    refine hfit.mono ?_
    rintro e w2 ⟨rfl, b2⟩
    have hs2 : w.heap.size < w2.heap.size := by have := b2.size; have := HSZ.out; omega
    have KP2 := KP1.below b2 (fun b hb => by have := hP b hb; have := HSZ.out; omega)
    have kn2 := kb1.below b2 kb1.lt
    have kx2 := kx1.below b2 kx1.lt
    have kw2 := kw1.below b2 kw1.lt
    clear hfit hq0 hfr E24 E8 HW1 HSZ KP1 kb1 kx1 kw1 b2
    cases fit with
    | false =>
      obtain rfl := HUNF.out rfl
      clear HUNF HSTOP HSTEP HALL
      go_wp2_with fail
      go_ret
      exact ⟨rfl, (fun h => by cases h), KP2⟩
    | true =>
      replace HALL := Lib.hid (fun h3 h4 => HALL.out (by omega) rfl h3 h4)
      clear HUNF
      have q3 : w2.cell? ⟨w.heap.size, 3, none⟩ = some (.slice A3 kl cap3) := kx2.cell 3
      go_wp2_with fail
      clear q3 kx2
      go_loopw [25] (fun iv wr => ∃ (j q : Nat), j ≤ kl ∧ iv = .int .i64 j ∧ Hid (((ks.take j).all fun u => okX f u (9 - dp - 1)) = true) ∧ Hid (q = m + sumX f ks j) ∧ q ≤ 24 ∧ KB wr gn 3 #[.int .i64 (q : Int)] ∧ KeepP P w2 wr) (fun iv _ => kl - (intOf iv).toNat)
      case atStart => exact ⟨0, m, by omega, rfl, rfl, by show _ = _; unfold sumX; simp, by omega, kn2, KeepP.refl _ _⟩
      case round =>
        obtain ⟨j, q, hj, rfl, hall, hq, hq24, knr, kr⟩ := hrel
        have KR := KP2.trans kr
        by_cases hlt : j < kl
        · have hltI : (j : Int) < (kl : Int) := by omega
          have hjk : j < ks.length := by rw [← HKL.out]; exact hlt
          obtain ⟨b, o, e0, e1, e2, e3, rfl, hb, k0, k1, k2, k3, hv⟩ := kid_x hks HKL.out.symm KR.size (fun b sb _ => KR.block b (hS b sb)) j hjk
          have hP2 : ∀ b, P b → b < wr.heap.size := fun b hb => by have := hP b hb; have := KR.size; omega
          have kwr := kw2.keepP kr hPw
          have qw : wr.cell? ⟨gw, 0, none⟩ = some (.func (.func 69) #[] #[.pointer (some ⟨gn, 0, none⟩), .pointer (some ⟨gw, 0, none⟩)]) := kwr.cell 0
          have hh := ih ks[j] (.agg #[e0, e1, e2, e3]) (dp + 1) q (wr.alloc (.cells #[e0, e1, e2, e3] 42)) P (by omega) (by omega) hq24 (fun b hb => by have := hP2 b hb; simp; omega) hS hPw hNn
            (knr.alloc _) (kwr.alloc _) (EV.alloc ⟨e0, e1, e2, e3, rfl, hv⟩ _)
          rw [show (9 : Int) - (dp + 1) = 9 - dp - 1 by omega] at hh
          have HS1 := Lib.hid (HSTOP.out j hjk)
          have HS2 := Lib.hid (fun h => HSTEP.out j hjk h hall.out)
          rw [← hq.out] at HS1 HS2
          have hf4 := hv.form
          have hsp : b < wr.heap.size := by have := KR.size; omega
          have hgw2 : gw < wr.heap.size := hP2 gw hPw
          clear hv hall
          generalize countX f ks[j] (9 - dp - 1) q = c at *
          generalize nodesX f ks[j] = nk at *
          clear hjk
          obtain ⟨j0, j1, m2, X3, n3, z3, rfl, rfl, rfl, rfl⟩ := hf4
          unfold strV at *
          generalize (⟨m2.toArray⟩ : ByteArray) = s2 at *
          go_wp2_with fail
          refine hh.mono ?_
          rintro e w5 ⟨rfl, hok5, kp5⟩
          have kr5 := kr.trans ((KeepP.alloc wr _ hP2).trans kp5)
          cases c with
          | true =>
            have hn5 := hok5 rfl
            obtain ⟨h5a, h5b, h5c⟩ := HS2.out rfl
            rw [h5b] at hn5
            have H5a := Lib.hid h5a
            clear hh hok5 HS1 HS2 h5a h5b
            go_wp2_with fail
            go_roundw
            case rel => exact ⟨j + 1, m + sumX f ks (j + 1), by omega, by go_num, H5a, by show _ = _; rfl, h5c, hn5, kr5⟩
            case measure => simp [intOf]; omega
          | false =>
            obtain rfl := HS1.out rfl
            have KR5 := KP2.trans kr5
            clear hh hok5 HS1 HS2
            go_wp2_with fail
            go_ret
            exact ⟨rfl, (fun h => by cases h), KR5⟩
        · obtain rfl : j = kl := by omega
          have ha := hall.out
          have hqq := hq.out
          have e := HKL.out
          rw [e] at ha hqq
          obtain ⟨rfl, h2⟩ := HALL.out ha (by rw [← hqq]; exact hq24)
          rw [show q = nn from hqq.trans h2] at knr
          clear HSTOP HSTEP HALL hall hq ha hqq h2 e
          go_wp2_with fail
          go_ret
          exact ⟨rfl, knr, KR⟩
set_option maxHeartbeats 1000000 in
theorem may_any (S : Nat → Prop) (f : Nat) (t : Ex f) (v : Value) (w : World) (hS : ∀ b, S b → b < w.heap.size) (hv : EV w S f v t) :
    Calls Tryz.prog 37 #[v] w fun e w' => e = .returned (.bool (mayX f t)) ∧ Below w.heap.size w w' := by
  obtain ⟨e0, e1, e2, e3, rfl, ht⟩ := hv
  have hf4 := ht.form
  -- the box, the counter, the variable of the closure
  obtain ⟨w1, hw1⟩ : ∃ w1, w1 = w.alloc (.cells #[e0, e1, e2, e3] 42) := ⟨_, rfl⟩
  obtain ⟨w2, hw2⟩ : ∃ w2, w2 = w1.alloc (.cells #[.int .i64 0] 3) := ⟨_, rfl⟩
  obtain ⟨w3, hw3⟩ : ∃ w3, w3 = w2.alloc (.cells #[.func (.func 69) #[] #[.pointer (some ⟨w.heap.size + 1, 0, none⟩), .pointer (some ⟨w.heap.size + 2, 0, none⟩)]] 104) := ⟨_, rfl⟩
  have s1 : w1.heap.size = w.heap.size + 1 := by rw [hw1]; simp
  have s2 : w2.heap.size = w.heap.size + 2 := by rw [hw2]; simp; omega
  have s3 : w3.heap.size = w.heap.size + 3 := by rw [hw3]; simp; omega
  have kn : KB w3 (w.heap.size + 1) 3 #[.int .i64 ((0 : Nat) : Int)] := by
    have := KB.new w1 3 #[.int .i64 0]
    rw [← hw2, s1] at this
    rw [hw3]
    exact this.alloc _
  have kw : KB w3 (w.heap.size + 2) 104 #[.func (.func 69) #[] #[.pointer (some ⟨w.heap.size + 1, 0, none⟩), .pointer (some ⟨w.heap.size + 2, 0, none⟩)]] := by
    have := KB.new w2 104 #[.func (.func 69) #[] #[.pointer (some ⟨w.heap.size + 1, 0, none⟩), .pointer (some ⟨w.heap.size + 2, 0, none⟩)]]
    rw [← hw3, s2] at this
    exact this
  have B3 : Below w.heap.size w w3 := by
    rw [hw3, hw2, hw1]
    exact (((Below.refl _ _).alloc (Nat.le_refl _) _).alloc (by simp) _).alloc (by simp; omega) _
  have hh := mwalk_any S (w.heap.size + 1) (w.heap.size + 2) f t (.agg #[e0, e1, e2, e3]) 1 0 w3 (fun b => b < w.heap.size ∨ b = w.heap.size + 2) (by omega) (by omega) (by omega) (fun b hb => by rw [s3]; omega) (fun b hb => .inl (hS b hb)) (.inr rfl) (by omega) kn kw
    ⟨e0, e1, e2, e3, rfl, ht.below' B3⟩
  rw [show (9 : Int) - 1 = 8 from rfl, count_may] at hh
  have HW : Hid (w3 = ((w.alloc (.cells #[e0, e1, e2, e3] 42)).alloc (.cells #[.int .i64 0] 3)).alloc (.cells #[.func (.func 69) #[] #[.pointer (some ⟨w.heap.size + 1, 0, none⟩), .pointer (some ⟨w.heap.size + 2, 0, none⟩)]] 104)) := by show _ = _; rw [hw3, hw2, hw1]
  clear ht kn kw hw1 hw2 hw3 s1 s2 s3
  generalize mayX f t = r at *
  obtain ⟨i0, i1, l2, X3, n3, z3, rfl, rfl, rfl, rfl⟩ := hf4
  unfold strV at *
  generalize (⟨l2.toArray⟩ : ByteArray) = s at *
  go_enter Tryz.func37, Tryz.ntmps37
  go_wp2_with fail
  rw [← HW.out]
  refine hh.mono ?_
  rintro e w5 ⟨rfl, _, kp⟩
  have B5 := B3.trans (kp.to_below (B := w.heap.size) fun b hb => .inl hb)
  clear hh HW
  go_wp2_with fail
  go_ret
  exact ⟨rfl, B5⟩
end
section
open Go.RowKit
theorem place1_any (cl : List UInt8) (gc : Nat) (r : List UInt8) (a1 a2 a3 a4 : Value) (ac : Int) (w : World) (hc : KB w gc 9 #[strV cl]) (h1 : ∃ i, a1 = .int .i64 i) (h2 : ∃ i, a2 = .int .i64 i) (h3 : ∃ l, a3 = .string l) (h4 : ∃ A n c, a4 = .slice A n c) :
    Calls Tryz.prog 72 #[.agg #[strV r, a1, a2, a3, a4, .int .i64 ac], .pointer (some ⟨gc, 0, none⟩)] w fun e w' => e = .returned (.bool (decide (r = cl))) ∧ Below w.heap.size w w' := by
  obtain ⟨i1, rfl⟩ := h1
  obtain ⟨i2, rfl⟩ := h2
  obtain ⟨l3, rfl⟩ := h3
  obtain ⟨A, n, c, rfl⟩ := h4
  have hgl := hc.lt
  have q0 : w.cell? ⟨gc, 0, none⟩ = some (strV cl) := hc.cell 0
  unfold strV at *
  obtain ⟨s, hs⟩ : ∃ s : ByteArray, s = ⟨r.toArray⟩ := ⟨_, rfl⟩
  obtain ⟨s', hs'⟩ : ∃ s : ByteArray, s = ⟨cl.toArray⟩ := ⟨_, rfl⟩
  have gq := eq_txt s s' _ _ hs hs'
  rw [← hs'] at q0
  rw [← hs]
  clear hs hs' hc
  have B0 := (Below.refl w.heap.size w).alloc (Nat.le_refl _) (.cells #[.string s, .int .i64 i1, .int .i64 i2, .string l3, .slice A n c, .int .i64 ac] 44)
  generalize decide (r = cl) = b at *
  go_enter Tryz.func72, Tryz.ntmps72
  go_wp2_with fail
  go_ret
  exact ⟨rfl, B0⟩
set_option maxHeartbeats 4000000 in
theorem indexr_any (S : Nat → Prop) (f : Nat) (l : List (Rl f)) (cl : List UInt8) (gc : Nat) (v : Value) (w : World) (hc : KB w gc 9 #[strV cl]) (hv : RS w S f v l) :
    Calls Tryz.prog 71 #[v, .func (.func 72) #[] #[.pointer (some ⟨gc, 0, none⟩)]] w fun e w' => e = .returned (.int .i64 (placeR f l cl)) ∧ Below w.heap.size w w' := by
  obtain ⟨A3, cap3, rfl, hl3, hm3⟩ := hv.form
  have hlen : l.length ≤ 9223372036854775807 := by unfold maxLen at hm3; omega
  have hcl := hc.lt
  have HN : Hid ((∀ (i : Nat) (hi : i < l.length), l[i].cls ≠ cl) → placeR f l cl = -1) := fun h => place_none h
  have HY : Hid (∀ (j : Nat) (hj : j < l.length), (∀ (i : Nat) (hi : i < l.length), i < j → l[i].cls ≠ cl) → l[j].cls = cl → placeR f l cl = (j : Int)) := fun j hj h1 h2 => place_some hj h1 h2
  have HCK : Hid (∀ W, Below w.heap.size w W → KB W gc 9 #[strV cl]) := fun W h => hc.below h hcl
  clear hc
  generalize placeR f l cl = r at *
  go_enter Tryz.func71, Tryz.ntmps71
  go_wp2_with fail
  go_loopw [8] (fun iv wr => ∃ j : Nat, j ≤ l.length ∧ iv = .int .i64 j ∧ Hid (∀ (i : Nat) (hi : i < l.length), i < j → l[i].cls ≠ cl) ∧ Below w.heap.size w wr) (fun iv _ => l.length - (intOf iv).toNat)
  case atStart => exact ⟨0, by omega, rfl, fun i _ h => absurd h (Nat.not_lt_zero _), Below.refl _ _⟩
  case round =>
    obtain ⟨j, hj, rfl, hall, B⟩ := hrel
    by_cases hlt : j < l.length
    · have hltI : (j : Int) < (l.length : Int) := by omega
      obtain ⟨b, o, e1, e2, e3, e4, rfl, hb, k0, k1, k2, k3, k4, k5, hx, _, _⟩ := rule_b hv rfl B j hlt
      have HY2 := Lib.hid (fun h => HY.out j hlt hall.out h)
      have HN2 : Hid (l[j].cls ≠ cl → ∀ (i : Nat) (hi : i < l.length), i < j + 1 → l[i].cls ≠ cl) := fun h i hi hij => by
        rcases Nat.lt_or_ge i j with h' | h'
        · exact hall.out i hi h'
        · obtain rfl : i = j := by omega
          exact h
      obtain ⟨_, _, _, _, e, hx4⟩ := hx
      injection e with e
      simp only [Array.mk.injEq, List.cons.injEq, and_true] at e
      obtain ⟨rfl, rfl, rfl, rfl⟩ := e
      obtain ⟨i0, i1, l2, X3, n3, z3, rfl, rfl, rfl, rfl⟩ := hx4.form
      have hc := place1_any cl gc l[j].cls (.int .i64 i0) (.int .i64 i1) (strV l2) (.slice X3 n3 z3) l[j].act wr (HCK.out wr B) ⟨_, rfl⟩ ⟨_, rfl⟩ ⟨_, rfl⟩ ⟨_, _, _, rfl⟩
      obtain ⟨eb, heb⟩ : ∃ eb, eb = decide (l[j].cls = cl) := ⟨_, rfl⟩
      rw [← heb] at hc
      have HEB := Lib.hid heb
      unfold strV at *
      clear hx4 hv HN hall heb
      generalize (⟨l2.toArray⟩ : ByteArray) = s2 at *
      generalize (⟨l[j].cls.toArray⟩ : ByteArray) = s1 at *
      generalize l[j].act = ac at *
      go_wp2_with fail
      refine hc.mono ?_
      rintro e w5 ⟨rfl, b5⟩
      have B5 := B.trans (b5.mono B.size)
      clear hc b5 B k0 k1 k2 k3 k4 k5
      cases eb with
      | false =>
        have hn := Lib.hid (HN2.out (of_decide_eq_false HEB.out.symm))
        clear HEB HN2 HY2
        go_wp2_with fail
        go_roundw
        case rel => exact ⟨j + 1, by omega, by go_num, hn, B5⟩
        case measure => simp [intOf]; omega
      | true =>
        have hr := HY2.out (of_decide_eq_true HEB.out.symm)
        clear HEB HN2 HY2 HY
        subst hr
        go_wp2_with fail
        go_ret
        exact ⟨rfl, B5⟩
    · obtain rfl : r = -1 := HN.out fun i hi => hall.out i hi (by omega)
      clear HN HY hall
      go_wp2_with fail
      go_ret
      exact ⟨rfl, B⟩
theorem place_any (S : Nat → Prop) (f : Nat) (l : List (Rl f)) (cl : List UInt8) (v : Value) (w : World) (hv : RS w S f v l) :
    Calls Tryz.prog 38 #[v, strV cl] w fun e w' => e = .returned (.int .i64 (placeR f l cl)) ∧ Below w.heap.size w w' := by
  have B0 := (Below.refl w.heap.size w).alloc (Nat.le_refl _) (.cells #[strV cl] 9)
  have hc := indexr_any S f l cl w.heap.size v (w.alloc (.cells #[strV cl] 9)) (KB.new _ _ _) (hv.below' B0)
  obtain ⟨A3, cap3, rfl, hl3, hm3⟩ := hv.form
  unfold strV at *
  clear hv
  generalize (⟨cl.toArray⟩ : ByteArray) = s at *
  generalize placeR f l cl = r at *
  go_enter Tryz.func38, Tryz.ntmps38
  go_wp2_with fail
  refine hc.mono ?_
  rintro e w5 ⟨rfl, b5⟩
  have B5 := B0.trans (b5.mono B0.size)
  clear hc
  go_wp2_with fail
  go_ret
  exact ⟨rfl, B5⟩
end
end Go.Proofs.YthindhlogkhclaaGreatDoor
