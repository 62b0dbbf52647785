/-
  HwD: The program's turned, by each of its two closures, Release and Amend (layer 22), over the loaded program: their contracts. No condition but the sizes that they name. (Printed by wip/gen/hold/mk_hwd.py.)
  HwE: The program's Release and Amend (layer 22), over the loaded program: their contracts. No condition but the sizes that they name. (Printed by wip/gen/hold/mk_hwd.py.)
  HdL: The law's num and live (layer 22), over the loaded program: their contracts. No condition.
  HdR: The document's Release and Amend (layer 22), over the loaded program: their contracts. No condition but the size that they name.
-/
import Derived.Test.YtdkmjdcddldjgaaHy18
import Derived.Test.YtdkmjdcddldjgaaHy13
set_option linter.unusedVariables false
set_option maxRecDepth 100000
namespace Go.Proofs.Ytdkmjdcddldjgaa
section
open Go.RowKit Go.ChangeShapes Go.WideShapes Go.Joins
theorem OwH.off {S : Nat → Prop} {w w5 w9 : World} {f : Nat} {ks : List (Hl f)} {qs : List SvH} {j : Nat} (r : OwH S w f ks w5 qs) (hj : j < ks.length) (hw : w9 = w5.setCell ⟨w.heap.size, j * 7 + 6, none⟩ (.bool false)) :
    ∃ qs', OwH S w f (ks.set j ⟨ks[j].id, ks[j].sc, false⟩) w9 qs' := by
  obtain ⟨c0, c1, c2, c3, c4, c5, c6, hqj, _, _, _, _, _, _, _, hx⟩ := kbH_at r.row r.rd hj
  have hk := r.row.putH (k := 6) hqj (by omega) (.bool false)
  rw [← hw] at hk
  have hg : w5.grownBy w9 (some w.heap.size) := by rw [hw]; exact grown_set _ _ _ _
  exact ⟨_, r.turn (q := (c0, c1, c2, c3, c4, c5, .bool false)) hg hk rfl ⟨hx.1, hx.2.1, hx.2.2.1, rfl⟩⟩
theorem OwH.about {S : Nat → Prop} {w w5 w9 : World} {f : Nat} {ks : List (Hl f)} {qs : List SvH} {j : Nat} {x : Sc f} {d1 d2 d3 d4 d5 : Value} (r : OwH S w f ks w5 qs) (hj : j < ks.length) (hx : ZX w5 (SHw S w.heap.size) f x d1 d2 d3 d4 d5)
    (hw : w9 = ((((w5.setCell ⟨w.heap.size, j * 7 + 1, none⟩ d1).setCell ⟨w.heap.size, j * 7 + 2, none⟩ d2).setCell ⟨w.heap.size, j * 7 + 3, none⟩ d3).setCell ⟨w.heap.size, j * 7 + 4, none⟩ d4).setCell ⟨w.heap.size, j * 7 + 5, none⟩ d5) :
    ∃ qs', OwH S w f (ks.set j ⟨ks[j].id, x, ks[j].act⟩) w9 qs' := by
  obtain ⟨c0, c1, c2, c3, c4, c5, c6, hqj, _, _, _, _, _, _, _, hh⟩ := kbH_at r.row r.rd hj
  have hk : KB w9 w.heap.size 47 (flatH (qs.set j (c0, d1, d2, d3, d4, d5, c6))).toArray := by
    have a1 := r.row.putH (k := 1) hqj (by omega) d1
    have a2 := a1.putH (k := 2) (set_at hqj) (by omega) d2
    rw [List.set_set] at a2
    have a3 := a2.putH (k := 3) (set_at hqj) (by omega) d3
    rw [List.set_set] at a3
    have a4 := a3.putH (k := 4) (set_at hqj) (by omega) d4
    rw [List.set_set] at a4
    have a5 := a4.putH (k := 5) (set_at hqj) (by omega) d5
    rw [List.set_set] at a5
    rw [hw]
    exact a5
  have hg : w5.grownBy w9 (some w.heap.size) := by
    rw [hw]
    exact grown_trans (grown_trans (grown_trans (grown_trans (grown_set _ _ _ _) (grown_set _ _ _ _)) (grown_set _ _ _ _)) (grown_set _ _ _ _)) (grown_set _ _ _ _)
  exact ⟨_, r.turn (q := (c0, d1, d2, d3, d4, d5, c6)) hg hk rfl ⟨hh.1, hh.2.1, hx, hh.2.2.2⟩⟩
set_option maxHeartbeats 2000000 in
theorem hdo1 (S : Nat → Prop) (w W : World) (f : Nat) (ks : List (Hl f)) (qs : List SvH) (r : OwH S w f ks W qs) (j : Nat) (hj : j < ks.length) :
    Calls Try.prog 30 #[.pointer (some ⟨w.heap.size, j * 7, none⟩)] W fun e w' => e = .returned (.tuple #[]) ∧ ∃ qs', OwH S w f (ks.set j ⟨ks[j].id, ks[j].sc, false⟩) w' qs' := by
  have hfin := r.off hj rfl
  obtain ⟨c0, c1, c2, c3, c4, c5, c6, _, _, _, _, _, _, _, k6, _⟩ := kbH_at r.row r.rd hj
  have f6 := r.row.free (j * 7 + 6)
  have HFIN := Lib.hid hfin
  clear r hfin
  generalize ks.set j _ = ks' at *
  go_enter Try.func30, Try.ntmps30
  go_wp2_with fail
  go_end0
  exact ⟨rfl, HFIN.out⟩
set_option maxHeartbeats 4000000 in
theorem hdo2 (S : Nat → Prop) (w W : World) (f : Nat) (ks : List (Hl f)) (qs : List SvH) (r : OwH S w f ks W qs) (j : Nat) (hj : j < ks.length) (gx : Nat) (x : Sc f) (hfx : fewZ f x) (x0 x1 x2 x3 x4 : Value) (K : KB W gx 25 #[x0, x1, x2, x3, x4]) (hx : ZX W (fun b => S b ∧ b < w.heap.size) f x x0 x1 x2 x3 x4) :
    Calls Try.prog 32 #[.pointer (some ⟨w.heap.size, j * 7, none⟩), .pointer (some ⟨gx, 0, none⟩)] W fun e w' => e = .returned (.tuple #[]) ∧ ∃ qs', OwH S w f (ks.set j ⟨ks[j].id, x, ks[j].act⟩) w' qs' := by
  have hc := twin_any f (fun b => S b ∧ b < w.heap.size) x _ W hfx ⟨_, _, _, _, _, rfl, hx⟩
  obtain ⟨i0, l1, i2, i3, X4, n4, z4, rfl, rfl, rfl, rfl, rfl⟩ := hx.form
  obtain ⟨s1, hs1⟩ : ∃ s : ByteArray, strV l1 = .string s := ⟨_, rfl⟩
  rw [hs1] at hc K
  have q0 := K.cell 0
  have q1 := K.cell 1
  have q2 := K.cell 2
  have q3 := K.cell 3
  have q4 := K.cell 4
  have hrl := r.row.lt
  have HST : Hid (∀ (w6 w9 : World) (d1 d2 d3 d4 d5 : Value), Below W.heap.size W w6 → ZX w6 (fun b => ((S b ∧ b < w.heap.size) ∧ b < W.heap.size) ∨ W.heap.size ≤ b) f x d1 d2 d3 d4 d5 →
      w9 = ((((w6.setCell ⟨w.heap.size, j * 7 + 1, none⟩ d1).setCell ⟨w.heap.size, j * 7 + 2, none⟩ d2).setCell ⟨w.heap.size, j * 7 + 3, none⟩ d3).setCell ⟨w.heap.size, j * 7 + 4, none⟩ d4).setCell ⟨w.heap.size, j * 7 + 5, none⟩ d5 →
      ∃ qs', OwH S w f (ks.set j ⟨ks[j].id, x, ks[j].act⟩) w9 qs') := fun w6 w9 d1 d2 d3 d4 d5 hb hx hw =>
    (r.past hb).about hj (ZX.keepL f _ _ _ _ _ _ hx (Nat.le_refl _) (fun _ _ _ => rfl) fun b sb _ => sb.elim (fun h => .inl h.1) fun h => .inr (by omega)) hw
  obtain ⟨c0, c1, c2, c3, c4, c5, c6, _, k0, k1, k2, k3, k4, k5, k6, _⟩ := kbH_at r.row r.rd hj
  have hfr := r.row.free
  have HCELLS : Hid (∀ w6, Below W.heap.size W w6 → (∃ u, w6.cell? ⟨w.heap.size, j * 7 + 1, none⟩ = some u) ∧ (∃ u, w6.cell? ⟨w.heap.size, j * 7 + 2, none⟩ = some u) ∧ (∃ u, w6.cell? ⟨w.heap.size, j * 7 + 3, none⟩ = some u) ∧ (∃ u, w6.cell? ⟨w.heap.size, j * 7 + 4, none⟩ = some u) ∧ (∃ u, w6.cell? ⟨w.heap.size, j * 7 + 5, none⟩ = some u) ∧ ∀ k, w6.frozen? ⟨w.heap.size, k, none⟩ = false) := fun w6 hb =>
    ⟨⟨_, (hb.cell hrl).trans k1⟩, ⟨_, (hb.cell hrl).trans k2⟩, ⟨_, (hb.cell hrl).trans k3⟩, ⟨_, (hb.cell hrl).trans k4⟩, ⟨_, (hb.cell hrl).trans k5⟩, fun k => (hb.frozen hrl).trans (hfr k)⟩
  have HC := Lib.hid hc
  clear r hx hc hs1 K k0 k1 k2 k3 k4 k5 k6 hfr hfx
  generalize ks.set j _ = ks' at *
  go_enter Try.func32, Try.ntmps32
  go_wp2_with fail
  refine HC.out.mono ?_
  rintro e w6 ⟨v6, rfl, hv6, b6⟩
  clear HC q0 q1 q2 q3 q4
  obtain ⟨d1, d2, d3, d4, d5, rfl, hx6⟩ := hv6
  obtain ⟨m1, l6, m3, m4, Y5, y5, t5, rfl, rfl, rfl, rfl, rfl⟩ := hx6.form
  obtain ⟨s6, hs6⟩ : ∃ s : ByteArray, strV l6 = .string s := ⟨_, rfl⟩
  rw [hs6] at hx6 ⊢
  obtain ⟨w9, hw9⟩ : ∃ w9, w9 = ((((w6.setCell ⟨w.heap.size, j * 7 + 1, none⟩ (.int .i64 m1)).setCell ⟨w.heap.size, j * 7 + 2, none⟩ (.string s6)).setCell ⟨w.heap.size, j * 7 + 3, none⟩ (.int .i64 m3)).setCell ⟨w.heap.size, j * 7 + 4, none⟩ (.int .i64 m4)).setCell ⟨w.heap.size, j * 7 + 5, none⟩ (.slice Y5 y5 t5) := ⟨_, rfl⟩
  have HFIN := Lib.hid (HST.out w6 w9 _ _ _ _ _ b6 hx6 hw9)
  have HW9 := Lib.hid hw9
  obtain ⟨⟨u1, g1⟩, ⟨u2, g2⟩, ⟨u3, g3⟩, ⟨u4, g4⟩, ⟨u5, g5⟩, hfz⟩ := HCELLS.out _ b6
  have f1 := hfz (j * 7 + 1)
  have f2 := hfz (j * 7 + 2)
  have f3 := hfz (j * 7 + 3)
  have f4 := hfz (j * 7 + 4)
  have f5 := hfz (j * 7 + 5)
  clear hfz hw9 hx6 hs6 HST HCELLS b6
  go_wp2_with fail
  rw [← HW9.out]
  go_end0
  exact ⟨rfl, HFIN.out⟩
set_option maxHeartbeats 8000000 in
theorem hturned1_any (f : Nat) (l : List (Hl f)) (hfew : FewH f l) (id : List UInt8) (v : Value) (w : World) (hv : HS w (fun b => b < w.heap.size) f v l) (D : Ending → World → Prop)
    (HE : ∀ (k : Int), (k = 5 ∧ findH l id < 0 ∨ k = 13 ∧ ∃ (j : Nat) (hj : j < l.length), findH l id = (j : Int) ∧ l[j].act = false) → ∀ W, Below w.heap.size w W → D (.returned (.tuple #[.slice none 0 0, .int .i64 k])) W)
    (HOK : ∀ (j : Nat) (hj : j < l.length), findH l id = (j : Int) → l[j].act = true → ∀ (W : World) (u : Value), HS W (fun b => b < W.heap.size) f u (l.set j ⟨l[j].id, l[j].sc, false⟩) → Below w.heap.size w W → D (.returned (.tuple #[u, .int .i64 0])) W) :
    Calls Try.prog 29 #[v, strV id, .func (.func 30) #[] #[]] w D := by
  obtain ⟨A, cap, rfl, hl3, hm3, _⟩ := hv.form
  have hlen : l.length ≤ 9223372036854775807 := by unfold maxLen at hm3; omega
  have hll := hfew.1
  have HFI := Lib.hid (hfirst_any _ f l id _ w hv)
  have HFI0 : Hid (findH l id = -1 ∨ ∃ j : Nat, ∃ hj : j < l.length, findH l id = (j : Int)) := by
    rcases findH_is l id with ⟨h, _⟩ | ⟨j, hj, h, h2, _⟩
    · exact .inl h
    · exact .inr ⟨j, hj, h⟩
  have HAT := Lib.hid (fun W (hb : Below w.heap.size w W) j (hj : j < l.length) => hold_atb hv rfl hb j hj)
  have HOW : Hid (∀ W, Below w.heap.size w W → Calls Try.prog 25 #[.slice A l.length cap, .slice none 0 0] W (OwnAs (fun b => b < w.heap.size) W f l)) := fun W hb => by
    have := hown_any (fun b => b < w.heap.size) f l [] hfew (FewH.nil f) _ _ W (hv.below' hb) (HS.nil _ _ _)
    rw [List.append_nil] at this
    exact this
  have HE' := Lib.hid HE
  have HOK' := Lib.hid HOK
  obtain ⟨s, hs⟩ : ∃ s : ByteArray, strV id = .string s := ⟨_, rfl⟩
  have hfi := HFI.out
  rw [hs] at hfi ⊢
  replace HFI := Lib.hid hfi
  clear hv hm3 hl3 hfew HE HOK hs hfi
  generalize findH l id = at_ at *
  go_enter Try.func29, Try.ntmps29
  go_wp2_with fail
  refine HFI.out.mono ?_
  rintro e w1 ⟨rfl, b1⟩
  clear HFI
  rcases HFI0.out with rfl | ⟨j, hj, rfl⟩
  · have hfin := HE'.out 5 (.inl ⟨rfl, by omega⟩) _ b1
    clear HE' HOK' HFI0 HAT HOW
    go_wp2_with fail
    exact hfin
  · obtain ⟨b, o, e0, e1, e2, e3, e4, e5, e6, rfl, hb, _, _, _, _, _, _, k6, hh⟩ := HAT.out _ b1 j hj
    have h6 := hh.2.2.2
    subst h6
    have hjI : (j : Int) < (l.length : Int) := by omega
    have d1 : decide ((j : Int) < 0) = false := decide_eq_false (by omega)
    have HO1 := Lib.hid (HOW.out _ b1)
    clear HAT HFI0 hh HOW
    cases hac : l[j].act with
    | false =>
      rw [hac] at k6
      have hfin := HE'.out 13 (.inr ⟨rfl, j, hj, rfl, hac⟩) _ b1
      clear HE' HOK' HO1 hac
      go_wp2_with fail
      exact hfin
    | true =>
      rw [hac] at k6
      have hok := Lib.hid (HOK'.out j hj rfl hac)
      clear HE' HOK' hac
      go_wp2_with fail
      refine HO1.out.mono ?_
      rintro e w5 ⟨qs, rfl, r5⟩
      have HD : Hid (Calls Try.prog 30 #[.pointer (some ⟨w1.heap.size, j * 7, none⟩)] w5 fun e w' => e = .returned (.tuple #[]) ∧ ∃ qs', OwH (fun b => b < w.heap.size) w1 f (l.set j ⟨l[j].id, l[j].sc, false⟩) w' qs') := hdo1 _ _ _ f l qs r5 j hj
      have B5 := b1.trans (r5.bl.mono b1.size)
      have HFIN : Hid (∀ W, (∃ qs', OwH (fun b => b < w.heap.size) w1 f (l.set j ⟨l[j].id, l[j].sc, false⟩) W qs') → D (.returned (.tuple #[.slice (some ⟨w1.heap.size, 0, none⟩) l.length l.length, .int .i64 0])) W) := fun W ⟨qs', r⟩ => by
        have h := r.HS (by rw [List.length_set]; omega)
        rw [List.length_set] at h
        exact hok.out W _ h (b1.trans (r.bl.mono b1.size))
      clear HO1 r5 k6 hok
      go_wp2_with fail
      refine HD.out.mono ?_
      rintro e w6 ⟨rfl, h6⟩
      have hfin := HFIN.out w6 h6
      clear HFIN h6 HD
      go_wp2_with fail
      exact hfin
set_option maxHeartbeats 8000000 in
theorem hturned2_any (f : Nat) (l : List (Hl f)) (hfew : FewH f l) (id : List UInt8) (x : Sc f) (hfx : fewZ f x) (gx : Nat) (x0 x1 x2 x3 x4 : Value) (v : Value) (w : World) (hv : HS w (fun b => b < w.heap.size) f v l) (K : KB w gx 25 #[x0, x1, x2, x3, x4]) (hx : ZX w (fun b => b < w.heap.size) f x x0 x1 x2 x3 x4) (D : Ending → World → Prop)
    (HE : ∀ (k : Int), (k = 5 ∧ findH l id < 0 ∨ k = 13 ∧ ∃ (j : Nat) (hj : j < l.length), findH l id = (j : Int) ∧ l[j].act = false) → ∀ W, Below w.heap.size w W → D (.returned (.tuple #[.slice none 0 0, .int .i64 k])) W)
    (HOK : ∀ (j : Nat) (hj : j < l.length), findH l id = (j : Int) → l[j].act = true → ∀ (W : World) (u : Value), HS W (fun b => b < W.heap.size) f u (l.set j ⟨l[j].id, x, l[j].act⟩) → Below w.heap.size w W → D (.returned (.tuple #[u, .int .i64 0])) W) :
    Calls Try.prog 29 #[v, strV id, .func (.func 32) #[] #[.pointer (some ⟨gx, 0, none⟩)]] w D := by
  obtain ⟨A, cap, rfl, hl3, hm3, _⟩ := hv.form
  have hlen : l.length ≤ 9223372036854775807 := by unfold maxLen at hm3; omega
  have hll := hfew.1
  have HFI := Lib.hid (hfirst_any _ f l id _ w hv)
  have HFI0 : Hid (findH l id = -1 ∨ ∃ j : Nat, ∃ hj : j < l.length, findH l id = (j : Int)) := by
    rcases findH_is l id with ⟨h, _⟩ | ⟨j, hj, h, h2, _⟩
    · exact .inl h
    · exact .inr ⟨j, hj, h⟩
  have HAT := Lib.hid (fun W (hb : Below w.heap.size w W) j (hj : j < l.length) => hold_atb hv rfl hb j hj)
  have HOW : Hid (∀ W, Below w.heap.size w W → Calls Try.prog 25 #[.slice A l.length cap, .slice none 0 0] W (OwnAs (fun b => b < w.heap.size) W f l)) := fun W hb => by
    have := hown_any (fun b => b < w.heap.size) f l [] hfew (FewH.nil f) _ _ W (hv.below' hb) (HS.nil _ _ _)
    rw [List.append_nil] at this
    exact this
  have HE' := Lib.hid HE
  have HOK' := Lib.hid HOK
  obtain ⟨s, hs⟩ : ∃ s : ByteArray, strV id = .string s := ⟨_, rfl⟩
  have hfi := HFI.out
  rw [hs] at hfi ⊢
  replace HFI := Lib.hid hfi
  have HKX : Hid (∀ W, Below w.heap.size w W → KB W gx 25 #[x0, x1, x2, x3, x4] ∧ ∀ n, w.heap.size ≤ n → ZX W (fun b => b < w.heap.size ∧ b < n) f x x0 x1 x2 x3 x4) := fun W hb => ⟨K.below hb K.lt, fun n hn => (hx.below' hb).mono fun b h => ⟨h, Nat.lt_of_lt_of_le h hn⟩⟩
  have HFX := Lib.hid hfx
  clear K hx hfx
  clear hv hm3 hl3 hfew HE HOK hs hfi
  generalize findH l id = at_ at *
  go_enter Try.func29, Try.ntmps29
  go_wp2_with fail
  refine HFI.out.mono ?_
  rintro e w1 ⟨rfl, b1⟩
  clear HFI
  rcases HFI0.out with rfl | ⟨j, hj, rfl⟩
  · have hfin := HE'.out 5 (.inl ⟨rfl, by omega⟩) _ b1
    clear HE' HOK' HFI0 HAT HOW HKX HFX
    go_wp2_with fail
    exact hfin
  · obtain ⟨b, o, e0, e1, e2, e3, e4, e5, e6, rfl, hb, _, _, _, _, _, _, k6, hh⟩ := HAT.out _ b1 j hj
    have h6 := hh.2.2.2
    subst h6
    have hjI : (j : Int) < (l.length : Int) := by omega
    have d1 : decide ((j : Int) < 0) = false := decide_eq_false (by omega)
    have HO1 := Lib.hid (HOW.out _ b1)
    clear HAT HFI0 hh HOW
    cases hac : l[j].act with
    | false =>
      rw [hac] at k6
      have hfin := HE'.out 13 (.inr ⟨rfl, j, hj, rfl, hac⟩) _ b1
      clear HE' HOK' HO1 hac HKX HFX
      go_wp2_with fail
      exact hfin
    | true =>
      rw [hac] at k6
      have hok := Lib.hid (HOK'.out j hj rfl hac)
      clear HE' HOK' hac
      go_wp2_with fail
      refine HO1.out.mono ?_
      rintro e w5 ⟨qs, rfl, r5⟩
      have HD : Hid (Calls Try.prog 32 #[.pointer (some ⟨w1.heap.size, j * 7, none⟩), .pointer (some ⟨gx, 0, none⟩)] w5 fun e w' => e = .returned (.tuple #[]) ∧ ∃ qs', OwH (fun b => b < w.heap.size) w1 f (l.set j ⟨l[j].id, x, l[j].act⟩) w' qs') := hdo2 _ _ _ f l qs r5 j hj gx x HFX.out x0 x1 x2 x3 x4 (HKX.out _ (b1.trans (r5.bl.mono b1.size))).1 ((HKX.out _ (b1.trans (r5.bl.mono b1.size))).2 _ b1.size)
      have B5 := b1.trans (r5.bl.mono b1.size)
      have HFIN : Hid (∀ W, (∃ qs', OwH (fun b => b < w.heap.size) w1 f (l.set j ⟨l[j].id, x, l[j].act⟩) W qs') → D (.returned (.tuple #[.slice (some ⟨w1.heap.size, 0, none⟩) l.length l.length, .int .i64 0])) W) := fun W ⟨qs', r⟩ => by
        have h := r.HS (by rw [List.length_set]; omega)
        rw [List.length_set] at h
        exact hok.out W _ h (b1.trans (r.bl.mono b1.size))
      clear HO1 r5 k6 hok HKX HFX
      go_wp2_with fail
      refine HD.out.mono ?_
      rintro e w6 ⟨rfl, h6⟩
      have hfin := HFIN.out w6 h6
      clear HFIN h6 HD
      go_wp2_with fail
      exact hfin
end
section
open Go.RowKit Go.ChangeShapes Go.WideShapes Go.Joins
set_option maxHeartbeats 4000000 in
theorem hrelease_any (f : Nat) (l : List (Hl f)) (hfew : FewH f l) (id : List UInt8) (v : Value) (w : World) (hv : HS w (fun b => b < w.heap.size) f v l) :
    Calls Try.prog 11 #[v, strV id] w (HoldsErr w f (releaseH f l id)) := by
  obtain ⟨A, cap, rfl, hl3, hm3, _⟩ := hv.form
  obtain ⟨D, hD⟩ : ∃ D, D = HoldsErr w f (releaseH f l id) := ⟨_, rfl⟩
  rw [← hD]
  have HE : Hid (∀ (k : Int), releaseH f l id = ([], k) → ∀ W, Below w.heap.size w W → D (.returned (.tuple #[.slice none 0 0, .int .i64 k])) W) := fun k h W hb => by
    rw [hD, h]; exact ⟨_, rfl, HS.nil _ _ _, hb⟩
  have HOK : Hid (∀ (m : List (Hl f)), releaseH f l id = (m, 0) → ∀ (W : World) (u : Value), HS W (fun b => b < W.heap.size) f u m → Below w.heap.size w W → D (.returned (.tuple #[u, .int .i64 0])) W) := fun m h W u h2 hb => by
    rw [hD, h]; exact ⟨_, rfl, h2, hb⟩
  have P1 : Hid (nameS id = false → releaseH f l id = ([], 1)) := fun h => by unfold releaseH; rw [if_pos h]
  have P2 : Hid (nameS id = true → findH l id < 0 → releaseH f l id = ([], 5)) := fun h1 h2 => release_none h1 h2
  have P3 : Hid (nameS id = true → ∀ j (hj : j < l.length), findH l id = (j : Int) → releaseH f l id = if l[j].act = false then ([], 13) else (l.set j ⟨l[j].id, l[j].sc, false⟩, 0)) := fun h1 j hj h2 => by
    have e : l[j].id = id := by
      rcases findH_is l id with ⟨h, _⟩ | ⟨i, hi, h, h3, _⟩
      · omega
      · obtain rfl : i = j := by omega
        exact h3
    rw [release_at h1 h2 hj, e]
  have HTU : Hid (nameS id = true → ∀ W, Below w.heap.size w W → Calls Try.prog 29 #[.slice A l.length cap, strV id, .func (.func 30) #[] #[]] W fun e W => ∃ u k, e = .returned (.tuple #[u, .int .i64 k]) ∧ D (.returned (.tuple #[u, .int .i64 k])) W) := fun h1 W hb =>
    hturned1_any f l hfew id _ W ((hv.below' hb).mono fun b h => Nat.lt_of_lt_of_le h hb.size) _
      (fun k h W2 hb2 => by
        refine ⟨_, _, rfl, ?_⟩
        rcases h with ⟨rfl, h⟩ | ⟨rfl, j, hj, h, h2⟩
        · exact HE.out 5 (P2.out h1 h) W2 (hb.trans (hb2.mono hb.size))
        · exact HE.out 13 (by rw [P3.out h1 j hj h, if_pos h2]) W2 (hb.trans (hb2.mono hb.size)))
      (fun j hj h h2 W2 u hu hb2 => ⟨_, _, rfl, HOK.out _ (by rw [P3.out h1 j hj h, if_neg (by rw [h2]; decide)]) W2 u hu (hb.trans (hb2.mono hb.size))⟩)
  have HF := HE.out 1
  have HNO := Lib.hid (fun h => HF (P1.out h))
  clear hD
  generalize releaseH f l id = r at *
  obtain ⟨s, hs⟩ : ∃ s : ByteArray, strV id = .string s := ⟨_, rfl⟩
  have hnm := name_any id w
  have htu := HTU.out
  rw [hs] at hnm htu ⊢
  have HNM := Lib.hid hnm
  replace HTU := Lib.hid htu
  clear hv hl3 hnm htu hs HE HOK P1 P2 P3 HF hfew
  generalize nameS id = nm at *
  go_enter Try.func11, Try.ntmps11
  go_wp2_with fail
  refine HNM.out.mono ?_
  rintro e w1 ⟨rfl, b1⟩
  clear HNM
  cases nm with
  | false =>
    have hfin := HNO.out rfl _ b1
    clear HNO HTU
    go_wp2_with fail
    exact hfin
  | true =>
    have htu := Lib.hid (HTU.out rfl _ b1)
    clear HNO HTU
    go_wp2_with fail
    refine htu.out.mono ?_
    rintro e w2 ⟨u, k, rfl, hfin⟩
    clear htu
    go_wp2_with fail
    exact hfin
set_option maxHeartbeats 8000000 in
theorem hamend_any (f : Nat) (l : List (Hl f)) (hfew : FewH f l) (id : List UInt8) (x : Sc f) (hfx : fewZ f x) (v vx : Value) (w : World) (hv : HS w (fun b => b < w.heap.size) f v l) (hx : ZV w (fun b => b < w.heap.size) f vx x) :
    Calls Try.prog 13 #[v, strV id, vx] w (HoldsErr w f (amendH f l id x)) := by
  obtain ⟨A, cap, rfl, hl3, hm3, _⟩ := hv.form
  obtain ⟨c0, c1, c2, c3, c4, rfl, hx5⟩ := hx
  obtain ⟨i0, l1, i2, i3, X4, n4, z4, rfl, rfl, rfl, rfl, rfl⟩ := hx5.form
  obtain ⟨s1, hs1⟩ : ∃ s : ByteArray, strV l1 = .string s := ⟨_, rfl⟩
  rw [hs1] at hx5 ⊢
  clear hs1
  obtain ⟨D, hD⟩ : ∃ D, D = HoldsErr w f (amendH f l id x) := ⟨_, rfl⟩
  rw [← hD]
  have HE : Hid (∀ (k : Int), amendH f l id x = ([], k) → ∀ W, Below w.heap.size w W → D (.returned (.tuple #[.slice none 0 0, .int .i64 k])) W) := fun k h W hb => by
    rw [hD, h]; exact ⟨_, rfl, HS.nil _ _ _, hb⟩
  have HOK : Hid (∀ (m : List (Hl f)), amendH f l id x = (m, 0) → ∀ (W : World) (u : Value), HS W (fun b => b < W.heap.size) f u m → Below w.heap.size w W → D (.returned (.tuple #[u, .int .i64 0])) W) := fun m h W u h2 hb => by
    rw [hD, h]; exact ⟨_, rfl, h2, hb⟩
  have P1 : Hid (nameS id = false ∨ mayS f x = false → amendH f l id x = ([], 1)) := fun h => by unfold amendH; rw [if_pos h]
  have P2 : Hid (nameS id = true → mayS f x = true → findH l id < 0 → amendH f l id x = ([], 5)) := fun h1 h3 h2 => amend_none h1 h3 h2
  have P3 : Hid (nameS id = true → mayS f x = true → ∀ j (hj : j < l.length), findH l id = (j : Int) → amendH f l id x = if l[j].act = false then ([], 13) else (l.set j ⟨l[j].id, x, l[j].act⟩, 0)) := fun h1 h3 j hj h2 => by
    have e : l[j].id = id := by
      rcases findH_is l id with ⟨h, _⟩ | ⟨i, hi, h, h3, _⟩
      · omega
      · obtain rfl : i = j := by omega
        exact h3
    rw [amend_at h1 h3 h2 hj, e]
    cases h : l[j].act with
    | false => rfl
    | true => rfl
  have K0 := KB.new w 25 #[.int .i64 i0, .string s1, .int .i64 i2, .int .i64 i3, .slice X4 n4 z4]
  have B0 := (Below.refl w.heap.size w).alloc (Nat.le_refl _) (.cells #[.int .i64 i0, .string s1, .int .i64 i2, .int .i64 i3, .slice X4 n4 z4] 25)
  have HMAY := Lib.hid (fun W (hb : Below w.heap.size w W) => zpcheck_any (fun b => b < w.heap.size) f x _ W (fun b h => Nat.lt_of_lt_of_le h hb.size) ⟨_, _, _, _, _, rfl, hx5.below' hb⟩)
  have HTU : Hid (nameS id = true → mayS f x = true → ∀ W, Below w.heap.size w W → KB W w.heap.size 25 #[.int .i64 i0, .string s1, .int .i64 i2, .int .i64 i3, .slice X4 n4 z4] → Calls Try.prog 29 #[.slice A l.length cap, strV id, .func (.func 32) #[] #[.pointer (some ⟨w.heap.size, 0, none⟩)]] W fun e W => ∃ u k, e = .returned (.tuple #[u, .int .i64 k]) ∧ D (.returned (.tuple #[u, .int .i64 k])) W) := fun h1 h3 W hb K =>
    hturned2_any f l hfew id x hfx w.heap.size _ _ _ _ _ _ W ((hv.below' hb).mono fun b h => Nat.lt_of_lt_of_le h hb.size) K ((hx5.below' hb).mono fun b h => Nat.lt_of_lt_of_le h hb.size) _
      (fun k h W2 hb2 => by
        refine ⟨_, _, rfl, ?_⟩
        rcases h with ⟨rfl, h⟩ | ⟨rfl, j, hj, h, h2⟩
        · exact HE.out 5 (P2.out h1 h3 h) W2 (hb.trans (hb2.mono hb.size))
        · exact HE.out 13 (by rw [P3.out h1 h3 j hj h, if_pos h2]) W2 (hb.trans (hb2.mono hb.size)))
      (fun j hj h h2 W2 u hu hb2 => ⟨_, _, rfl, HOK.out _ (by rw [P3.out h1 h3 j hj h, if_neg (by rw [h2]; decide)]) W2 u hu (hb.trans (hb2.mono hb.size))⟩)
  have HF := HE.out 1
  have HNO := Lib.hid (fun h => HF (P1.out h))
  clear hD
  generalize amendH f l id x = r at *
  obtain ⟨s, hs⟩ : ∃ s : ByteArray, strV id = .string s := ⟨_, rfl⟩
  have hnm := name_any id (w.alloc (.cells #[.int .i64 i0, .string s1, .int .i64 i2, .int .i64 i3, .slice X4 n4 z4] 25))
  have htu := HTU.out
  rw [hs] at hnm htu ⊢
  have HNM := Lib.hid hnm
  replace HTU := Lib.hid htu
  clear hv hl3 hnm htu hs HE HOK P1 P2 P3 HF hfew hfx hx5
  generalize nameS id = nm at *
  generalize mayS f x = my at *
  go_enter Try.func13, Try.ntmps13
  go_wp2_with fail
  refine HNM.out.mono ?_
  rintro e w1 ⟨rfl, b1⟩
  have K1 := K0.below b1 K0.lt
  have B1 := B0.trans (b1.mono B0.size)
  clear HNM K0 B0 b1
  cases nm with
  | false =>
    have hfin := HNO.out (.inl rfl) _ B1
    clear HNO HTU HMAY
    go_wp2_with fail
    exact hfin
  | true =>
  have q0 := K1.cell 0
  have q1 := K1.cell 1
  have q2 := K1.cell 2
  have q3 := K1.cell 3
  have q4 := K1.cell 4
  have HM1 := Lib.hid (HMAY.out w1 B1)
  clear HMAY
  go_wp2_with fail
  refine HM1.out.mono ?_
  rintro e w2 ⟨rfl, b2⟩
  have K2 := K1.below b2 K1.lt
  have B2 := B1.trans (b2.mono B1.size)
  clear HM1 b2 K1 B1 q0 q1 q2 q3 q4
  cases my with
  | false =>
    have hfin := HNO.out (.inr rfl) _ B2
    clear HNO HTU
    go_wp2_with fail
    exact hfin
  | true =>
  have htu := Lib.hid (HTU.out (by first | rfl | trivial) (by first | rfl | trivial) _ B2 K2)
  clear HNO HTU
  go_wp2_with fail
  refine htu.out.mono ?_
  rintro e w3 ⟨u, k, rfl, hfin⟩
  clear htu
  go_wp2_with fail
  exact hfin
end
section
open Go.RowKit Go.ChangeShapes Go.WideShapes Go.Joins
theorem hlnum_any (e : Int) (w : World) : Calls Try.prog 16 #[.int .i64 e] w fun r w' => r = .returned (.int .i64 e) ∧ w' = w := by
  go_enter Try.func16, Try.ntmps16
  go_wp2_with fail
  go_ret
  exact ⟨rfl, rfl⟩
def SA : Sc 1 := (⟨1, [], 0, 0, []⟩ : Ns (Sc 0))
theorem SA_ZV (w : World) (S : Nat → Prop) : ZV w S 1 (.agg #[.int .i64 1, .string ⟨#[]⟩, .int .i64 0, .int .i64 0, .slice none 0 0]) SA :=
  ⟨_, _, _, _, _, rfl, rfl, (by decide : -9223372036854775808 ≤ (1 : Int) ∧ (1 : Int) ≤ 9223372036854775807), rfl, Nat.zero_le _, rfl, (by decide : -9223372036854775808 ≤ (0 : Int) ∧ (0 : Int) ≤ 9223372036854775807), rfl, (by decide : -9223372036854775808 ≤ (0 : Int) ∧ (0 : Int) ≤ 9223372036854775807), ZS.nil _ _ _⟩
theorem SA_few : fewZ 1 SA := ⟨by simp [SA], by simp [SA], fun u hu => by cases hu⟩
theorem RcV0 : RcV (.agg #[.string ⟨#[]⟩, .string ⟨#[]⟩, .string ⟨#[]⟩, .string ⟨#[]⟩, .int .i64 0, .int .i64 0]) ⟨[], [], [], 0⟩ := ⟨[], 0, rfl⟩
theorem live_place : placeH 1 [] [97] SA = ([⟨[97], SA, true⟩], 0) := Prod.ext live_hold.2 live_hold.1
theorem live_release : releaseH 1 [⟨[97], SA, true⟩] [97] = ([⟨[97], SA, false⟩], 0) := by
  have h : nameS [97] = true := by decide
  have hf : findH [(⟨[97], SA, true⟩ : Hl 1)] [97] = ((0 : Nat) : Int) := findH_some (j := 0) (by decide) (fun i hi h => absurd h (Nat.not_lt_zero _)) rfl
  rw [release_at h hf (by decide)]
  rfl
theorem live_held : heldH ⟨[], [], [], 0⟩ [(⟨[97], SA, true⟩ : Hl 1)] = true ∧ heldH ⟨[], [], [], 0⟩ [(⟨[97], SA, false⟩ : Hl 1)] = false := by
  constructor
  · unfold heldH holdsH SA
    simp [match_eq]
  · rfl
set_option maxHeartbeats 4000000 in
theorem hlive_any (w : World) : Calls Try.prog 8 #[] w fun e w' => e = .returned (.bool true) ∧ Below w.heap.size w w' := by
  have HP := Lib.hid (hplace_any 1 [] (FewH.nil 1) [97] (by simp) SA SA_few (.slice none 0 0) _ w (HS.nil _ _ _) (SA_ZV w _))
  have HR := Lib.hid (fun (v : Value) (W : World) (h : HS W (fun b => b < W.heap.size) 1 v [⟨[97], SA, true⟩]) => hrelease_any 1 [⟨[97], SA, true⟩] (FewH.one (by simp) SA_few) [97] v W h)
  have HH := Lib.hid (fun (v : Value) (l : List (Hl 1)) (hl : l.length ≤ 1000) (W W' : World) (h : HS W (fun b => b < W.heap.size) 1 v l) (hb : Below W.heap.size W W') => hheld_any _ 1 l ⟨[], [], [], 0⟩ v _ RcV0 W' (h.below' hb))
  go_enter Try.func8, Try.ntmps8
  go_wp2_with fail
  refine HP.out.mono ?_
  rintro e w1 ⟨v1, rfl, hv1, b1⟩
  rw [live_place] at hv1 ⊢
  have hr := Lib.hid (HR.out v1 w1 hv1)
  go_wp2_with fail
  refine hr.out.mono ?_
  rintro e w2 ⟨v2, rfl, hv2, b2⟩
  rw [live_release] at hv2 ⊢
  obtain ⟨A2, c2, rfl, _⟩ := hv2.form
  have hh1 := HH.out v1 _ (by simp) w1 w2 hv1 b2
  rw [live_held.1] at hh1
  have Hh1 := Lib.hid hh1
  have HH2 : Hid (∀ W, Below w2.heap.size w2 W → Calls Try.prog 20 #[.slice A2 1 c2, .agg #[.string ⟨#[]⟩, .string ⟨#[]⟩, .string ⟨#[]⟩, .string ⟨#[]⟩, .int .i64 0, .int .i64 0]] W fun e w' => e = .returned (.bool false) ∧ Below W.heap.size W w') := fun W hb => by
    have := HH.out _ _ (by simp) w2 W hv2 hb
    rw [live_held.2] at this
    exact this
  have HN := Lib.hid (fun W => hlnum_any 0 W)
  have B2 := b1.trans (b2.mono b1.size)
  clear HP HR HH hr hv1 hv2 hh1 b1 b2
  go_wp2_with fail
  refine (HN.out _).mono ?_
  rintro e w3 ⟨rfl, rfl⟩
  go_wp2_with fail
  refine (HN.out _).mono ?_
  rintro e w4 ⟨rfl, rfl⟩
  go_wp2_with fail
  refine Hh1.out.mono ?_
  rintro e w5 ⟨rfl, b5⟩
  have hh2 := Lib.hid (HH2.out w5 b5)
  have B5 := B2.trans (b5.mono B2.size)
  clear Hh1 HH2 b5 B2
  go_wp2_with fail
  refine hh2.out.mono ?_
  rintro e w6 ⟨rfl, b6⟩
  have B6 := B5.trans (b6.mono B5.size)
  clear hh2 b6 B5
  go_wp2_with fail
  go_ret
  exact ⟨rfl, B6⟩
end
section
open Go.RowKit Go.ChangeShapes Go.WideShapes Go.Joins
set_option maxHeartbeats 8000000 in
theorem xhrelease_any (f : Nat) (l : List (Hl f)) (hl : l.length ≤ 1000) (id : List UInt8) (hid : id.length ≤ maxLen) (v : Value) (w : World) (hv : HS w (fun b => b < w.heap.size) f v l) :
    Calls Try.prog 12 #[v, strV id] w (HoldsErr w f (releaseH f l id)) := by
  obtain ⟨A, cap, rfl, hl3, hm3, _⟩ := hv.form
  obtain ⟨D, hD⟩ : ∃ D, D = HoldsErr w f (releaseH f l id) := ⟨_, rfl⟩
  rw [← hD]
  have HE : Hid (∀ (k : Int), releaseH f l id = ([], k) → D (.returned (.tuple #[.slice none 0 0, .int .i64 k])) w) := fun k h => by
    rw [hD, h]; exact ⟨_, rfl, HS.nil _ _ _, Below.refl _ _⟩
  have HOK : Hid (∀ (m : List (Hl f)), releaseH f l id = (m, 0) → ∀ e W, HoldsAs w f m e W → ∃ v, e = .returned v ∧ D (.returned (.tuple #[v, .int .i64 0])) W) := fun m h e W ⟨v, h1, h2, h3⟩ => by
    rw [hD, h]; exact ⟨v, h1, v, rfl, h2, h3⟩
  have P1 : Hid (nameS id = false → releaseH f l id = ([], 1)) := fun h => by unfold releaseH; rw [if_pos h]
  have P2 : Hid (nameS id = true → findH l id < 0 → releaseH f l id = ([], 5)) := fun h1 h2 => release_none h1 h2
  have P3 : Hid (nameS id = true → ∀ j (hj : j < l.length), findH l id = (j : Int) → releaseH f l id = if l[j].act = false then ([], 13) else (l.set j ⟨id, l[j].sc, false⟩, 0)) := fun h1 j hj h2 => release_at h1 h2 hj
  have HFI0 : Hid (findH l id = -1 ∨ ∃ j : Nat, ∃ hj : j < l.length, findH l id = (j : Int) ∧ l[j].id = id) := by
    rcases findH_is l id with ⟨h, _⟩ | ⟨j, hj, h, h2, _⟩
    · exact .inl h
    · exact .inr ⟨j, hj, h, h2⟩
  clear hD
  generalize releaseH f l id = r at *
  obtain ⟨s, hs⟩ : ∃ s : ByteArray, strV id = .string s := ⟨_, rfl⟩
  have hnm := rname_any id hid w
  have hfi := xhfind_any _ f l id _ w hv
  rw [hs] at hnm hfi
  have HNM := Lib.hid hnm
  have HFI := Lib.hid hfi
  have hturn : ∀ (j : Nat) (hj : j < l.length) c1 c2 c3 c4 c5, ZX w (fun b => b < w.heap.size) f l[j].sc c1 c2 c3 c4 c5 → Calls Try.prog 31 #[.slice A l.length cap, .int .i64 j, .agg #[.string s, c1, c2, c3, c4, c5, .bool false]] w (HoldsAs w f (l.set j ⟨id, l[j].sc, false⟩)) := fun j hj c1 c2 c3 c4 c5 hz =>
    xhturned_any f l ⟨id, l[j].sc, false⟩ _ _ _ _ _ _ _ _ j hj hl w hv ⟨hs.symm, hid, hz, rfl⟩
  have HTU := Lib.hid hturn
  have HAT := Lib.hid (fun j (hj : j < l.length) => hold_atb hv rfl (Below.refl _ _) j hj)
  rw [hs]
  clear hv hid hl hl3 hnm hfi hturn hs
  generalize nameS id = nm at *
  generalize findH l id = at_ at *
  go_enter Try.func12, Try.ntmps12
  go_wp2_with fail
  refine HNM.out.mono ?_
  rintro e w1 ⟨rfl, rfl⟩
  clear HNM
  cases nm with
  | false =>
    have hfin := HE.out 1 (P1.out (by first | rfl | trivial))
    clear HE HOK P1 P2 P3 HFI0 HFI HTU HAT
    go_wp2_with fail
    exact hfin
  | true =>
  go_wp2_with fail
  refine HFI.out.mono ?_
  rintro e w3 ⟨rfl, rfl⟩
  clear HFI P1
  rcases HFI0.out with rfl | ⟨j, hj, rfl, hji⟩
  · have hfin := HE.out 5 (P2.out (by first | rfl | trivial) (by omega))
    clear HE HOK P2 P3 HFI0 HTU HAT
    go_wp2_with fail
    exact hfin
  · have hp := P3.out (by first | rfl | trivial) j hj rfl
    obtain ⟨b, o, e0, e1, e2, e3, e4, e5, e6, rfl, hb, k0, k1, k2, k3, k4, k5, k6, h0, _, hz, h6⟩ := HAT.out j hj
    have htu := HTU.out j hj _ _ _ _ _ hz
    obtain ⟨i1, l2, i3, i4, X5, n5, z5, rfl, rfl, rfl, rfl, rfl⟩ := hz.form
    obtain ⟨s2, hs2⟩ : ∃ s : ByteArray, strV l2 = .string s := ⟨_, rfl⟩
    rw [hs2] at k2 htu
    subst h6
    have hjI : (j : Int) < (l.length : Int) := by omega
    have d1 : decide ((j : Int) < 0) = false := decide_eq_false (by omega)
    clear HAT HTU P2 P3 HFI0 hz hs2 k0 h0 hji
    cases hac : l[j].act with
    | false =>
      rw [hac] at k6
      rw [if_pos hac] at hp
      have hfin := HE.out 13 hp
      clear HE HOK htu hp hac
      go_wp2_with fail
      exact hfin
    | true =>
      rw [hac] at k6
      rw [if_neg (by rw [hac]; decide)] at hp
      have hok := Lib.hid (HOK.out _ hp)
      have HTU := Lib.hid htu
      clear HE HOK hp hac htu
      go_wp2_with fail
      refine HTU.out.mono ?_
      intro e w5 h5
      obtain ⟨v5, rfl, hfin⟩ := hok.out e w5 h5
      clear h5 hok HTU
      go_wp2_with fail
      exact hfin
set_option maxHeartbeats 8000000 in
theorem xhamend_any (f : Nat) (l : List (Hl f)) (hl : l.length ≤ 1000) (id : List UInt8) (hid : id.length ≤ maxLen) (x : Sc f) (v vx : Value) (w : World) (hv : HS w (fun b => b < w.heap.size) f v l) (hx : ZV w (fun b => b < w.heap.size) f vx x) :
    Calls Try.prog 14 #[v, strV id, vx] w (HoldsErr w f (amendH f l id x)) := by
  obtain ⟨A, cap, rfl, hl3, hm3, _⟩ := hv.form
  obtain ⟨c0, c1, c2, c3, c4, rfl, hx5⟩ := hx
  obtain ⟨i0, l1, i2, i3, X4, n4, z4, rfl, rfl, rfl, rfl, rfl⟩ := hx5.form
  obtain ⟨s1, hs1⟩ : ∃ s : ByteArray, strV l1 = .string s := ⟨_, rfl⟩
  rw [hs1] at hx5 ⊢
  clear hs1
  obtain ⟨D, hD⟩ : ∃ D, D = HoldsErr w f (amendH f l id x) := ⟨_, rfl⟩
  rw [← hD]
  have HE : Hid (∀ (k : Int), amendH f l id x = ([], k) → ∀ W, Below w.heap.size w W → D (.returned (.tuple #[.slice none 0 0, .int .i64 k])) W) := fun k h W hb => by
    rw [hD, h]; exact ⟨_, rfl, HS.nil _ _ _, hb⟩
  have HOK : Hid (∀ (m : List (Hl f)), amendH f l id x = (m, 0) → ∀ W0, Below w.heap.size w W0 → ∀ e W, HoldsAs W0 f m e W → ∃ v, e = .returned v ∧ D (.returned (.tuple #[v, .int .i64 0])) W) := fun m h W0 hb e W ⟨v, h1, h2, h3⟩ => by
    rw [hD, h]; exact ⟨v, h1, v, rfl, h2, hb.trans (h3.mono hb.size)⟩
  have P1 : Hid (nameS id = false ∨ mayS f x = false → amendH f l id x = ([], 1)) := fun h => by unfold amendH; rw [if_pos h]
  have P2 : Hid (nameS id = true → mayS f x = true → findH l id < 0 → amendH f l id x = ([], 5)) := fun h1 hx h2 => amend_none h1 hx h2
  have P3 : Hid (nameS id = true → mayS f x = true → ∀ j (hj : j < l.length), findH l id = (j : Int) → amendH f l id x = if l[j].act = false then ([], 13) else (l.set j ⟨id, x, true⟩, 0)) := fun h1 hx j hj h2 => amend_at h1 hx h2 hj
  have HFI0 : Hid (findH l id = -1 ∨ ∃ j : Nat, ∃ hj : j < l.length, findH l id = (j : Int)) := by
    rcases findH_is l id with ⟨h, _⟩ | ⟨j, hj, h, h2, _⟩
    · exact .inl h
    · exact .inr ⟨j, hj, h⟩
  clear hD
  generalize amendH f l id x = r at *
  have K0 := KB.new w 25 #[.int .i64 i0, .string s1, .int .i64 i2, .int .i64 i3, .slice X4 n4 z4]
  have B0 := (Below.refl w.heap.size w).alloc (Nat.le_refl _) (.cells #[.int .i64 i0, .string s1, .int .i64 i2, .int .i64 i3, .slice X4 n4 z4] 25)
  obtain ⟨s, hs⟩ : ∃ s : ByteArray, strV id = .string s := ⟨_, rfl⟩
  have HMAY := Lib.hid (zrmay_any _ f x _ _ ⟨_, _, _, _, _, rfl, hx5.below' B0⟩)
  have hnm := rname_any id hid (w.alloc (.cells #[.int .i64 i0, .string s1, .int .i64 i2, .int .i64 i3, .slice X4 n4 z4] 25))
  rw [hs] at hnm
  have HNM := Lib.hid hnm
  have hfi : ∀ W, Below w.heap.size w W → Calls Try.prog 28 #[.slice A l.length cap, .string s] W fun e w' => e = .returned (.int .i64 (findH l id)) ∧ w' = W := fun W hb => by
    rw [← hs]; exact xhfind_any _ f l id _ W (hv.below' hb)
  have HFI := Lib.hid hfi
  have hturn : ∀ W, Below w.heap.size w W → ∀ (j : Nat) (hj : j < l.length), Calls Try.prog 31 #[.slice A l.length cap, .int .i64 j, .agg #[.string s, .int .i64 i0, .string s1, .int .i64 i2, .int .i64 i3, .slice X4 n4 z4, .bool true]] W (HoldsAs W f (l.set j ⟨id, x, true⟩)) := fun W hb j hj =>
    xhturned_any f l ⟨id, x, true⟩ _ _ _ _ _ _ _ _ j hj hl W ((hv.below' hb).mono fun b h => Nat.lt_of_lt_of_le h hb.size) ⟨hs.symm, hid, (hx5.below' hb).mono fun b h => Nat.lt_of_lt_of_le h hb.size, rfl⟩
  have HTU := Lib.hid hturn
  have HAT := Lib.hid (fun W (hb : Below w.heap.size w W) j (hj : j < l.length) => hold_atb hv rfl hb j hj)
  rw [hs]
  clear hx5 hv hid hl hl3 hnm hfi hturn hs
  generalize nameS id = nm at *
  generalize mayS f x = my at *
  generalize findH l id = at_ at *
  go_enter Try.func14, Try.ntmps14
  go_wp2_with fail
  refine HNM.out.mono ?_
  rintro e w1 ⟨rfl, rfl⟩
  clear HNM
  cases nm with
  | false =>
    have hfin := HE.out 1 (P1.out (.inl rfl)) _ B0
    clear HE HOK P1 P2 P3 HFI0 HFI HTU HAT HMAY
    go_wp2_with fail
    exact hfin
  | true =>
  have q0 := K0.cell 0
  have q1 := K0.cell 1
  have q2 := K0.cell 2
  have q3 := K0.cell 3
  have q4 := K0.cell 4
  go_wp2_with fail
  refine HMAY.out.mono ?_
  rintro e w2 ⟨rfl, b2⟩
  have K2 := K0.below b2 K0.lt
  have B2 := B0.trans (b2.mono B0.size)
  clear HMAY b2 K0 B0 q0 q1 q2 q3 q4
  cases my with
  | false =>
    have hfin := HE.out 1 (P1.out (.inr rfl)) _ B2
    clear HE HOK P1 P2 P3 HFI0 HFI HTU HAT
    go_wp2_with fail
    exact hfin
  | true =>
  have hfi := HFI.out w2 B2
  clear P1 HFI
  go_wp2_with fail
  refine hfi.mono ?_
  rintro e w3 ⟨rfl, rfl⟩
  clear hfi
  rcases HFI0.out with rfl | ⟨j, hj, rfl⟩
  · have hfin := HE.out 5 (P2.out (by first | rfl | trivial) (by first | rfl | trivial) (by omega)) _ B2
    clear HE HOK P2 P3 HFI0 HTU HAT
    go_wp2_with fail
    exact hfin
  · have hp := P3.out (by first | rfl | trivial) (by first | rfl | trivial) j hj rfl
    obtain ⟨b, o, e0, e1, e2, e3, e4, e5, e6, rfl, hb, k0, k1, k2, k3, k4, k5, k6, h0, _, hz, h6⟩ := HAT.out _ B2 j hj
    have htu := HTU.out _ B2 j hj
    subst h6
    have hjI : (j : Int) < (l.length : Int) := by omega
    have d1 : decide ((j : Int) < 0) = false := decide_eq_false (by omega)
    clear HAT HTU P2 P3 HFI0 hz k0 k1 k2 k3 k4 k5 h0
    cases hac : l[j].act with
    | false =>
      rw [hac] at k6
      rw [if_pos hac] at hp
      have hfin := HE.out 13 hp _ B2
      clear HE HOK htu hp hac
      go_wp2_with fail
      exact hfin
    | true =>
      rw [hac] at k6
      rw [if_neg (by rw [hac]; decide)] at hp
      have hok := Lib.hid (HOK.out _ hp _ B2)
      have HTU := Lib.hid htu
      have q0 := K2.cell 0
      have q1 := K2.cell 1
      have q2 := K2.cell 2
      have q3 := K2.cell 3
      have q4 := K2.cell 4
      clear HE HOK hp hac htu
      go_wp2_with fail
      refine HTU.out.mono ?_
      intro e w5 h5
      obtain ⟨v5, rfl, hfin⟩ := hok.out e w5 h5
      clear h5 hok HTU
      go_wp2_with fail
      exact hfin
end
end Go.Proofs.Ytdkmjdcddldjgaa
