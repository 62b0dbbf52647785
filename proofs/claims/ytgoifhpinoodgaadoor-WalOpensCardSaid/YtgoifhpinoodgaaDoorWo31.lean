/-
  WaL: Open, over the loaded program: its contract. No condition but what it names (the table roots among it).
-/
import Derived.Test.YtgoifhpinoodgaaDoorWo30

section
namespace Go.Proofs.YtgoifhpinoodgaaDoor
open Go.RowKit
set_option maxRecDepth 100000
set_option linter.unusedVariables false

theorem openD_dead {n : Nat} {s : Dk} (h : s.fuse = 0) : openD n s = (s, 8) := if_pos h
theorem openD_one {n : Nat} {s : Dk} (h : s.fuse ≠ 0) (h1 : (doD (leftP n s) s).2 ≠ 0) : openD n s = doD (leftP n s) s := by
  unfold openD
  rw [if_neg h, seqD_one, if_neg h1]
theorem openD_two {n : Nat} {s : Dk} (h : s.fuse ≠ 0) (h1 : (doD (leftP n s) s).2 = 0) (h2 : (wipeD 0 0 (doD (leftP n s) s).1).2 ≠ 0) : openD n s = wipeD 0 0 (doD (leftP n s) s).1 := by
  unfold openD
  rw [if_neg h, seqD_one, if_pos h1, seqD_one, if_neg h2]
theorem openD_three {n : Nat} {s : Dk} (h : s.fuse ≠ 0) (h1 : (doD (leftP n s) s).2 = 0) (h2 : (wipeD 0 0 (doD (leftP n s) s).1).2 = 0) (h3 : (wipeD 1 n (wipeD 0 0 (doD (leftP n s) s).1).1).2 ≠ 0) :
    openD n s = wipeD 1 n (wipeD 0 0 (doD (leftP n s) s).1).1 := by
  unfold openD
  rw [if_neg h, seqD_one, if_pos h1, seqD_one, if_pos h2, seqD_one, if_neg h3]
theorem openD_four {n : Nat} {s : Dk} (h : s.fuse ≠ 0) (h1 : (doD (leftP n s) s).2 = 0) (h2 : (wipeD 0 0 (doD (leftP n s) s).1).2 = 0) (h3 : (wipeD 1 n (wipeD 0 0 (doD (leftP n s) s).1).1).2 = 0) :
    openD n s = ((wipeD 1 n (wipeD 0 0 (doD (leftP n s) s).1).1).1, 0) := by
  unfold openD
  rw [if_neg h, seqD_one, if_pos h1, seqD_one, if_pos h2, seqD_one, if_pos h3]
  rfl

/-- What holds behind j steps. -/
structure IO (w W : World) (p : DA) (lg n b b3 b9 b10 : Nat) (s : Dk) (j : Nat) : Prop where
  oc : OC w W p lg n b b3 b9 b10
  i0 : j = 0 → DS W p s ∧ KB W b10 25 #[.slice none 0 0]
  i1 : j = 1 → s.fuse ≠ 0 ∧ DS W p s ∧ ∃ v, KB W b10 25 #[v] ∧ PS W (Off p W) v (leftP n s)
  i2 : j = 2 → s.fuse ≠ 0 ∧ (doD (leftP n s) s).2 = 0 ∧ DS W p (doD (leftP n s) s).1 ∧ ∃ A c, KB W b10 25 #[.slice A (leftP n s).length c]
  i3 : j = 3 → s.fuse ≠ 0 ∧ (doD (leftP n s) s).2 = 0 ∧ (wipeD 0 0 (doD (leftP n s) s).1).2 = 0 ∧ DS W p (wipeD 0 0 (doD (leftP n s) s).1).1 ∧ ∃ A c, KB W b10 25 #[.slice A (leftP n s).length c]
  i4 : j = 4 → (openD n s).2 = 0 ∧ DS W p (openD n s).1 ∧ ∃ A c, KB W b10 25 #[.slice A (leftP n s).length c]
/-- What holds behind an error. -/
def EO (w : World) (p : DA) (n : Nat) (s : Dk) (x : Int) (W : World) : Prop := x = (openD n s).2 ∧ DS W p (openD n s).1 ∧ KeepP (Off p w) w W

set_option maxHeartbeats 1000000 in
theorem open_steps {w W : World} {p : DA} {lg n b b3 b9 b10 : Nat} {s : Dk} (a : OA w p lg b b3 b9 b10) (hoc : OC w W p lg n b b3 b9 b10) (hd : DS W p s) (h10 : KB W b10 25 #[.slice none 0 0]) (hn1 : 1 ≤ n) (hn : n + 1 ≤ s.safe.length) :
    Calls Tryd.prog 39 #[.slice (some ⟨b, 0, none⟩) 4 4] W fun e W' => ∃ x : Int, e = .returned (.int .i64 x) ∧ (x = 0 → IO w W' p lg n b b3 b9 b10 s 4) ∧ (x ≠ 0 → EO w p n s x W') := by
  refine inOrder_any (openFs b3 b9 b10) b W (fun j W => IO w W p lg n b b3 b9 b10 s j) (EO w p n s) (by simp [openFs]) ⟨hoc, fun _ => ⟨hd, h10⟩, fun h => (by omega), fun h => (by omega), fun h => (by omega), fun h => (by omega)⟩ (openFs_run b3 b9 b10) (fun j W h => h.oc.kf) ?_
  intro j q W hq hI
  have oc := hI.oc
  have hs := oc.kp.size
  match j, hq with
  | 0, hq =>
    obtain rfl : (40, #[.pointer (some ⟨b9, 0, none⟩), .pointer (some ⟨b10, 0, none⟩)]) = q := Option.some.inj hq
    obtain ⟨d, k10⟩ := hI.i0 rfl
    refine (open1_any oc.k9 k10 oc.lg d hn1 hn oc.tab).mono ?_
    rintro e W' ⟨v', rfl, h1, h2, h3⟩
    refine ⟨_, rfl, fun hx => ?_, fun hx => ?_⟩
    · have hf : s.fuse ≠ 0 := fun hf => by rw [if_pos hf] at hx; cases hx
      refine ⟨oc.step a (h3.mono fun x hx => ⟨hx.1.1, hx.2⟩), fun h => (by omega), fun _ => ⟨hf, d.keep fun x hx => h3.block x ⟨d.lt x hx, fun e => a.nz.1 (e ▸ hx)⟩, v', h1, (h2 hf).mono fun x hx => ⟨hx.2, fun h => by have := d.lt x h; omega⟩⟩, fun h => (by omega), fun h => (by omega), fun h => (by omega)⟩
    · have hf : s.fuse = 0 := Classical.byContradiction fun hf => hx (if_neg hf)
      rw [if_pos hf]
      refine ⟨by rw [openD_dead hf], by rw [openD_dead hf]; exact d.keep fun x hx => h3.block x ⟨d.lt x hx, fun e => a.nz.1 (e ▸ hx)⟩, oc.kp.trans (h3.mono fun x hx => ⟨by have := hx.1; omega, by have := hx.1; have := a.nz.2; omega⟩)⟩
  | 1, hq =>
    obtain rfl : (42, #[.pointer (some ⟨b9, 0, none⟩), .pointer (some ⟨b10, 0, none⟩)]) = q := Option.some.inj hq
    obtain ⟨hf, d, v, k10, ps⟩ := hI.i1 rfl
    refine (open2_any oc.k9 k10 oc.lg a.nl.1 d ps (leftP_fit n s)).mono ?_
    rintro e W' ⟨rfl, d1, k1⟩
    refine ⟨_, rfl, fun hx => ?_, fun hx => ?_⟩
    · obtain ⟨A, c, rfl, _⟩ := ps.form
      exact ⟨oc.disk a k1, fun h => (by omega), fun h => (by omega), fun _ => ⟨hf, hx, d1, A, c, k10.keepP k1 ⟨k10.lt, a.nz.1⟩⟩, fun h => (by omega), fun h => (by omega)⟩
    · exact ⟨by rw [openD_one hf hx], by rw [openD_one hf hx]; exact d1, oc.kp.trans (k1.mono fun x hx => ⟨by have := hx.1; omega, hx.2⟩)⟩
  | 2, hq =>
    obtain rfl : (44, #[.pointer (some ⟨b9, 0, none⟩)]) = q := Option.some.inj hq
    obtain ⟨hf, e1, d, A, c, k10⟩ := hI.i2 rfl
    refine (open3_any oc.k9 oc.lg a.nl.1 d).mono ?_
    rintro e W' ⟨rfl, d1, k1⟩
    refine ⟨_, rfl, fun hx => ?_, fun hx => ?_⟩
    · exact ⟨oc.disk a k1, fun h => (by omega), fun h => (by omega), fun h => (by omega), fun _ => ⟨hf, e1, hx, d1, A, c, k10.keepP k1 ⟨k10.lt, a.nz.1⟩⟩, fun h => (by omega)⟩
    · exact ⟨by rw [openD_two hf e1 hx], by rw [openD_two hf e1 hx]; exact d1, oc.kp.trans (k1.mono fun x hx => ⟨by have := hx.1; omega, hx.2⟩)⟩
  | 3, hq =>
    obtain rfl : (46, #[.pointer (some ⟨b9, 0, none⟩), .pointer (some ⟨b3, 0, none⟩)]) = q := Option.some.inj hq
    obtain ⟨hf, e1, e2, d, A, c, k10⟩ := hI.i3 rfl
    refine (open4_any oc.k9 oc.k3 oc.lg a.nl.1 d hn1 (by rw [wipeD_len, doD_len]; omega)).mono ?_
    rintro e W' ⟨rfl, d1, k1⟩
    refine ⟨_, rfl, fun hx => ?_, fun hx => ?_⟩
    · exact ⟨oc.disk a k1, fun h => (by omega), fun h => (by omega), fun h => (by omega), fun h => (by omega), fun _ => ⟨by rw [openD_four hf e1 e2 hx], by rw [openD_four hf e1 e2 hx]; exact d1, A, c, k10.keepP k1 ⟨k10.lt, a.nz.1⟩⟩⟩
    · exact ⟨by rw [openD_three hf e1 e2 hx], by rw [openD_three hf e1 e2 hx]; exact d1, oc.kp.trans (k1.mono fun x hx => ⟨by have := hx.1; omega, hx.2⟩)⟩
  | j + 4, hq => simp [openFs] at hq

/-- Read of the first sector, of a disk that is dead or not. -/
theorem read_first {w : World} {p : DA} {s : Dk} (h : DS w p s) : Calls Tryd.prog 13 #[.pointer (some ⟨p.d, 0, none⟩), .int .i64 0] w fun e w' =>
    ∃ (A : Option Addr) (k c : Nat) (x : Int), e = .returned (.tuple #[.slice A k c, .int .i64 x]) ∧ x ≠ 9 ∧ Below w.heap.size w w' := by
  by_cases hf : s.fuse = 0
  · have hr := read_chk h ((0 : Nat) : Int) (by simp [chk, hf])
    rw [show chk s ((0 : Nat) : Int) = 8 from by simp [chk, hf]] at hr
    refine hr.mono ?_
    rintro e w' ⟨rfl, rfl⟩
    exact ⟨none, 0, 0, 8, rfl, by decide, Below.refl _ _⟩
  · refine (read_ok h 0 h.ok.some_ hf).mono ?_
    rintro e w' ⟨v, rfl, how, b⟩
    obtain ⟨A, c, rfl⟩ := own_form how
    exact ⟨A, _, c, 0, rfl, by decide, b⟩

/-- Open, of a nil disk. -/
theorem open_nil (n : Int) (w : World) : Calls Tryd.prog 17 #[.pointer none, .int .i64 n] w fun e w' => e = .returned (.tuple #[.pointer none, .int .i64 0, .int .i64 9]) ∧ Below w.heap.size w w' := by
  go_enter Tryd.func17, Tryd.ntmps17
  go_wp2_with (go_at_call 13; refine (read_nil _ _).mono ?_; rintro e w' ⟨rfl, rfl⟩)
  go_ret3
  exact ⟨rfl, (Below.refl _ _).alloc (Nat.le_refl _) _⟩
/-- Open, of a log that can't be. -/
theorem open_low {w : World} {p : DA} {s : Dk} (n : Int) (h : DS w p s) (hn : n < 2) : Calls Tryd.prog 17 #[.pointer (some ⟨p.d, 0, none⟩), .int .i64 n] w fun e w' => e = .returned (.tuple #[.pointer none, .int .i64 0, .int .i64 1]) ∧ Below w.heap.size w w' := by
  have B0 := (Below.refl w.heap.size w).alloc (Nat.le_refl _) (.cells #[.int .i64 n] 3)
  have K0 := KB.new w 3 #[.int .i64 n]
  have hr := read_first (h.below B0)
  have D0 : decide (n < 2) = true := decide_eq_true hn
  go_enter Tryd.func17, Tryd.ntmps17
  go_wp2_with fail
  refine hr.mono ?_
  rintro e w1 ⟨A, k, c, x, rfl, hx, b1⟩
  have hx1 : (x == 9) = false := by simpa using hx
  have c1 : w1.cell? ⟨w.heap.size, 0, none⟩ = some (.int .i64 n) := (K0.below b1 K0.lt).cell 0
  have B1 := B0.trans (b1.mono B0.size)
  go_wp2_with fail
  go_quiet (fail)
  go_wp2_with fail
  go_ret3
  exact ⟨rfl, Below_drawn B1 _⟩
theorem open_high {w : World} {p : DA} {s : Dk} (n : Nat) (h : DS w p s) (hn : 2 ≤ n) (hN : s.safe.length < n + 2) (h63 : n ≤ 9223372036854775807) : Calls Tryd.prog 17 #[.pointer (some ⟨p.d, 0, none⟩), .int .i64 n] w fun e w' => e = .returned (.tuple #[.pointer none, .int .i64 0, .int .i64 1]) ∧ Below w.heap.size w w' := by
  have B0 := (Below.refl w.heap.size w).alloc (Nat.le_refl _) (.cells #[.int .i64 n] 3)
  have K0 := KB.new w 3 #[.int .i64 n]
  have hr := read_first (h.below B0)
  have few := h.ok.few
  have hsz := fun (W : World) (hW : DS W p s) => (size_any hW).mono (R' := fun e w' => e = .returned (.int .i64 (s.safe.length : Int)) ∧ w' = W) (fun e w' h => ⟨h.1, h.2.symm⟩)
  have HSZ := Lib.hid hsz
  generalize hNN : s.safe.length = N at *
  have D0 : decide ((n : Int) < 2) = false := decide_eq_false (by omega)
  have D0' : decide (n < 2) = false := decide_eq_false (by omega)
  have D1 : decide ((N : Int) - 2 < (n : Int)) = true := decide_eq_true (by omega)
  go_enter Tryd.func17, Tryd.ntmps17
  go_wp2_with fail
  refine hr.mono ?_
  rintro e w1 ⟨A, k, c, x, rfl, hx, b1⟩
  have hx1 : (x == 9) = false := by simpa using hx
  have c1 : w1.cell? ⟨w.heap.size, 0, none⟩ = some (.int .i64 n) := (K0.below b1 K0.lt).cell 0
  have B1 := B0.trans (b1.mono B0.size)
  have d1 := h.below B1
  go_wp2_with fail
  go_quiet (first | (go_at_call 38; exact Calls.quiet_of_same (HSZ.out _ (d1.drewN _))) | fail)
  go_wp2_with fail
  go_ret3
  exact ⟨rfl, Below_drawn B1 _⟩

/-- Where Open calls its steps. -/
def openW (w2 : World) (p : DA) (n b3 : Nat) : World :=
  (((w2.alloc (.cells (lgRow p n false) 83)).alloc (.cells #[.pointer (some ⟨w2.heap.size, 0, none⟩)] 47)).alloc (.cells #[.slice none 0 0] 25)).alloc (.cells ((openFs b3 (w2.heap.size + 1) (w2.heap.size + 1 + 1)).map fnV).toArray 43)
theorem openW_below (w2 : World) (p : DA) (n b3 : Nat) : Below w2.heap.size w2 (openW w2 p n b3) :=
  ((((Below.refl _ _).alloc (Nat.le_refl _) _).alloc (by simp) _).alloc (by simp; omega) _).alloc (by simp; omega) _
theorem openW_10 (w2 : World) (p : DA) (n b3 : Nat) : KB (openW w2 p n b3) (w2.heap.size + 1 + 1) 25 #[.slice none 0 0] := by
  have := KB.new ((w2.alloc (.cells (lgRow p n false) 83)).alloc (.cells #[.pointer (some ⟨w2.heap.size, 0, none⟩)] 47)) 25 #[.slice none 0 0]
  rw [World.size_alloc, World.size_alloc] at this
  exact this.alloc _
theorem openW_oc {w w2 : World} {p : DA} {n : Nat} (hb : Below w.heap.size w w2) (k3 : KB w2 w.heap.size 3 #[.int .i64 n]) (ht : Tab w) :
    OC w (openW w2 p n w.heap.size) p w2.heap.size n (w2.heap.size + 1 + 1 + 1) w.heap.size (w2.heap.size + 1) (w2.heap.size + 1 + 1) := by
  have B := openW_below w2 p n w.heap.size
  have BW := hb.trans (B.mono hb.size)
  refine ⟨?_, k3.below B k3.lt, ?_, ?_, ht.below BW, KeepP.of_below BW fun x hx => hx.1⟩
  · have := KB.new (((w2.alloc (.cells (lgRow p n false) 83)).alloc (.cells #[.pointer (some ⟨w2.heap.size, 0, none⟩)] 47)).alloc (.cells #[.slice none 0 0] 25)) 43 ((openFs w.heap.size (w2.heap.size + 1) (w2.heap.size + 1 + 1)).map fnV).toArray
    rw [World.size_alloc, World.size_alloc, World.size_alloc] at this
    exact this
  · have := KB.new (w2.alloc (.cells (lgRow p n false) 83)) 47 #[.pointer (some ⟨w2.heap.size, 0, none⟩)]
    rw [World.size_alloc] at this
    exact (this.alloc _).alloc _
  · exact (((KB.new w2 83 (lgRow p n false)).alloc _).alloc _).alloc _
theorem openW_oa {w w2 : World} {p : DA} {s : Dk} (h : DS w p s) (hb : Below w.heap.size w w2) (h3 : w.heap.size < w2.heap.size) (ht : Tab w) (htp : ¬ p.has 0) :
    OA w p w2.heap.size (w2.heap.size + 1 + 1 + 1) w.heap.size (w2.heap.size + 1) (w2.heap.size + 1 + 1) := by
  have hn : ∀ x, w.heap.size ≤ x → ¬ p.has x := fun x hx e => by have := h.lt x e; omega
  exact ⟨⟨hn _ (by omega), by omega, by omega⟩, ⟨hn _ (by omega), by omega, by omega⟩, ⟨hn _ (by omega), by omega, by omega⟩, ⟨hn _ (by omega), by omega, by omega⟩, ⟨hn _ (by omega), by omega⟩, ⟨htp, ht.1⟩⟩

set_option maxHeartbeats 1000000 in
/-- Open. -/
theorem open_go {w : World} {p : DA} {s : Dk} (n : Nat) (h : DS w p s) (hn : 2 ≤ n) (hN : n + 2 ≤ s.safe.length) (ht : Tab w) (htp : ¬ p.has 0) : Calls Tryd.prog 17 #[.pointer (some ⟨p.d, 0, none⟩), .int .i64 n] w fun e w' =>
    DS w' p (openD n s).1 ∧ KeepP (Off p w) w w' ∧ ((openD n s).2 = 0 → ∃ lg, e = .returned (.tuple #[.pointer (some ⟨lg, 0, none⟩), .int .i64 (leftP n s).length, .int .i64 0]) ∧ LG w' lg p n false ∧ w.heap.size ≤ lg) ∧
      ((openD n s).2 ≠ 0 → e = .returned (.tuple #[.pointer none, .int .i64 0, .int .i64 (openD n s).2])) := by
  have B0 := (Below.refl w.heap.size w).alloc (Nat.le_refl _) (.cells #[.int .i64 n] 3)
  have K0 := KB.new w 3 #[.int .i64 n]
  have hr := read_first (h.below B0)
  have few := h.ok.few
  have hsz := fun (W : World) (hW : DS W p s) => (size_any hW).mono (R' := fun e w' => e = .returned (.int .i64 (s.safe.length : Int)) ∧ w' = W) (fun e w' h => ⟨h.1, h.2.symm⟩)
  have HSZ := Lib.hid hsz
  have hlt := h.lt
  have hst := fun (W : World) (lg b b3 b9 b10 : Nat) (a : OA w p lg b b3 b9 b10) (hoc : OC w W p lg n b b3 b9 b10) (hd : DS W p s) (h10 : KB W b10 25 #[.slice none 0 0]) => open_steps a hoc hd h10 (by omega) (by omega)
  have HST := Lib.hid hst
  have hr0 : 0 < w.heap.size := ht.1
  obtain ⟨N, hNN⟩ : ∃ N, N = s.safe.length := ⟨_, rfl⟩
  rw [← hNN] at hsz HSZ
  have D0 : decide ((n : Int) < 2) = false := decide_eq_false (by omega)
  have D0' : decide (n < 2) = false := decide_eq_false (by omega)
  have D1 : decide ((N : Int) - 2 < (n : Int)) = false := decide_eq_false (by omega)
  rw [← hNN] at few hN
  have HNN := Lib.hid hNN
  clear hst hsz hNN
  go_enter Tryd.func17, Tryd.ntmps17
  go_wp2_with fail
  refine hr.mono ?_
  rintro e w1 ⟨A, k, c, x, rfl, hx, b1⟩
  have hx1 : (x == 9) = false := by simpa using hx
  have k1 := K0.below b1 K0.lt
  have c1 : w1.cell? ⟨w.heap.size, 0, none⟩ = some (.int .i64 n) := k1.cell 0
  have B1 := B0.trans (b1.mono B0.size)
  have d1 := h.below B1
  clear hr b1 B0 K0
  go_wp2_with fail
  go_quiet (first | (go_at_call 38; exact Calls.quiet_of_same (HSZ.out _ (d1.drewN _))) | fail)
  have B2 := Below_drawn B1 nq
  have d2 := d1.drewN nq
  have k2 := k1.drewN nq
  clear B1 d1 k1 c1
  generalize w1.drewN nq = w2 at *
  have c2 : w2.cell? ⟨w.heap.size, 0, none⟩ = some (.int .i64 n) := k2.cell 0
  have hoa := openW_oa h B2 k2.lt ht htp
  have hst := HST.out _ _ _ _ _ _ hoa (openW_oc (p := p) B2 k2 ht) (d2.below (openW_below w2 p n w.heap.size)) (openW_10 w2 p n w.heap.size)
  clear HST HSZ HNN k2 d2 B2 hlt
  go_wp2_with fail
  refine hst.mono ?_
  rintro e w3 ⟨y, rfl, h1, h2⟩
  have H1 := Lib.hid h1
  have H2 := Lib.hid h2
  have HO := Lib.hid hoa
  clear h1 h2 hst c2 hoa
  by_cases hy : y = 0
  · subst hy
    have I := H1.out (by trivial)
    obtain ⟨e0, d0, A3, C3, k10⟩ := I.i4 (by trivial)
    have k9 := I.oc.k9
    have klg := I.oc.lg
    have kp := I.oc.kp
    clear H1 H2 I
    have c9 : w3.cell? ⟨w2.heap.size + 1, 0, none⟩ = some (.pointer (some ⟨w2.heap.size, 0, none⟩)) := k9.cell 0
    have c10 : w3.cell? ⟨w2.heap.size + 1 + 1, 0, none⟩ = some (.slice A3 (leftP n s).length C3) := k10.cell 0
    have HNL := HO.out.nl.2.2
    have HE := Lib.hid e0
    clear e0
    go_wp2_with fail
    go_quiet (fail)
    go_wp2_with fail
    go_ret3
    exact ⟨d0.drewN _, kp.drewN _, fun _ => ⟨_, rfl, KB.drewN klg _, HNL⟩, fun h => absurd HE.out h⟩
  · have hy1 : (y != 0) = true := by simpa using hy
    have hy2 : (y == 0) = false := by simpa using hy
    obtain ⟨e0, d0, kp⟩ := H2.out hy
    have HE := Lib.hid e0
    have HY := Lib.hid hy
    clear hy H1 H2 e0
    go_wp2_with fail
    go_ret3
    exact ⟨d0, kp, fun h => absurd (HE.out.trans h) HY.out, fun _ => by rw [← HE.out]; rfl⟩
end Go.Proofs.YtgoifhpinoodgaaDoor
end
