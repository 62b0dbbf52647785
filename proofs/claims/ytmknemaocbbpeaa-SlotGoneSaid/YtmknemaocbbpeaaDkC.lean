/-
  Flush, over the loaded program. No condition but what each theorem names.
-/
import Derived.Test.YtmknemaocbbpeaaDkB
namespace Go.Proofs.Ytmknemaocbbpeaa
open Go.RowKit
set_option maxRecDepth 100000
set_option linter.unusedVariables false

/-- Sectors, but g's where it holds one. -/
def over (l : List (List UInt8)) (g : Nat → Option (List UInt8)) : List (List UInt8) := l.mapIdx fun j s => (g j).getD s
theorem over_len (l : List (List UInt8)) (g : Nat → Option (List UInt8)) : (over l g).length = l.length := List.length_mapIdx
theorem over_at (l : List (List UInt8)) (g : Nat → Option (List UInt8)) (i : Nat) : (over l g)[i]? = (l[i]?).map fun s => (g i).getD s := by
  unfold over
  rw [List.getElem?_mapIdx]
theorem over_none (l : List (List UInt8)) (g : Nat → Option (List UInt8)) (h : ∀ j, g j = none) : over l g = l := by
  apply List.ext_getElem?
  intro i
  rw [over_at, h i]
  cases l[i]? <;> rfl
theorem over_set (l : List (List UInt8)) (g : Nat → Option (List UInt8)) (i : Nat) (x : List UInt8) : (over l g).set i x = over l (upd g i x) := by
  apply List.ext_getElem?
  intro j
  rw [over_at, List.getElem?_set, over_len, over_at]
  unfold upd
  by_cases hj : i = j
  · subst hj
    rw [if_pos rfl]
    by_cases hl : i < l.length
    · simp [hl]
    · simp [hl]
  · rw [if_neg hj, if_neg (fun e => hj e.symm)]
theorem over_256 {l : List (List UInt8)} {g : Nat → Option (List UInt8)} (h1 : ∀ s ∈ l, s.length = 256) (h2 : ∀ i s, g i = some s → s.length = 256) : ∀ s ∈ over l g, s.length = 256 := by
  intro s hs
  obtain ⟨i, hi⟩ := List.mem_iff_getElem?.1 hs
  rw [over_at] at hi
  cases hl : l[i]? with
  | none => rw [hl] at hi; cases hi
  | some t =>
    rw [hl] at hi
    simp only [Option.map_some, Option.some.injEq] at hi
    subst hi
    cases hg : g i with
    | none => exact h1 t (List.mem_of_getElem? hl)
    | some y => exact h2 i y hg

/-- A disk whose sectors are those of g, where it holds one. -/
def Dk.with (s : Dk) (g : Nat → Option (List UInt8)) : Dk := { s with safe := over s.safe g }
theorem Dk.ok.with {s : Dk} (h : s.ok) {g : Nat → Option (List UInt8)} (hg : ∀ i x, g i = some x → x.length = 256) : (s.with g).ok := by
  refine { h with some_ := ?_, few := ?_, len := over_256 h.len hg, pend := fun i l hl => ?_ }
  · unfold Dk.with; rw [over_len]; exact h.some_
  · unfold Dk.with; rw [over_len]; exact h.few
  · unfold Dk.with; rw [over_len]; exact h.pend i l hl
def Dk.bare (s : Dk) : Dk := { s with pend := fun _ => none }
theorem Dk.ok.bare {s : Dk} (h : s.ok) : s.bare.ok := { h with pend := fun _ _ e => by cases e }

/-- One more sector of those of g is laid. -/
theorem DS.lay {w w' : World} {p : DA} {s : Dk} {g : Nat → Option (List UInt8)} (h : DS w p (s.with g)) {i : Nat} {x : List UInt8} (hi : i < s.safe.length) (hx : x.length = 256)
    (hk : KB w' p.b 68 (splice (secs (over s.safe g)) (i * 256) (x.map bv)).toArray) (hg : w.grownBy w' (some p.b)) (hok : (s.with (upd g i x)).ok) : DS w' p (s.with (upd g i x)) := by
  have hl : (s.with (upd g i x)).safe.length = (s.with g).safe.length := by show (over _ _).length = (over _ _).length; rw [over_len, over_len]
  refine { kb := ?_, sf := ?_, pm := ?_, db := h.db, dm := h.dm, bm := h.bm, ok := hok }
  · have := h.kb.grown hg (fun e => h.db (Option.some.inj e).symm)
    unfold dkRow at this ⊢
    rw [hl]
    exact this
  · have e := secs_set (l := over s.safe g) h.ok.len i (by rw [over_len]; exact hi) x hx
    rw [e, over_set] at hk
    exact hk
  · rw [hl]
    exact h.pm.keep (hg.block _ h.pm.lt fun e => h.bm (Option.some.inj e).symm)

/-- What is laid so far of f, where left is still to come. -/
def sofar (f : Nat → Option (List UInt8)) (left : Nat → Bool) : Nat → Option (List UInt8) := fun j => if left j then none else f j
theorem sofar_step (f : Nat → Option (List UInt8)) (left : Nat → Bool) (i : Nat) (x : List UInt8) (h : f i = some x) : sofar f (fun j => left j && !decide (j = i)) = upd (sofar f left) i x := by
  funext j
  unfold sofar upd
  by_cases hj : j = i
  · subst hj; simp [h]
  · simp [hj]
theorem sofar_256 {s : Dk} (h : s.ok) (left : Nat → Bool) : ∀ i x, sofar s.pend left i = some x → x.length = 256 := by
  intro i x hx
  unfold sofar at hx
  split at hx
  · cases hx
  · exact (h.pend i x hx).2

theorem sofar_end (f : Nat → Option (List UInt8)) {left : Nat → Bool} (h : ∀ i, left i = false) : sofar f left = f := by
  funext j
  simp [sofar, h j]
/-- The map is cleared. -/
theorem DS.clear {w w' : World} {p : DA} {s : Dk} (h : DS w p s) (hp : PM w' p.m (fun _ => none) s.safe.length) (hg : w.grownBy w' (some p.m)) : DS w' p s.bare :=
  { h with kb := h.kb.grown hg (fun e => h.dm (Option.some.inj e).symm), sf := h.sf.grown hg (fun e => h.bm (Option.some.inj e).symm), pm := hp, ok := h.ok.bare }

def Dk.flushed (s : Dk) : Dk := ((s.with s.pend).bare).acted

set_option maxRecDepth 100000 in
set_option maxHeartbeats 1000000 in
/-- Flush. -/
theorem flush_ok {w : World} {p : DA} {s : Dk} (h : DS w p s) (hf : s.fuse ≠ 0) :
    Calls Try.prog 35 #[.pointer (some ⟨p.d, 0, none⟩)] w fun e w' => e = .returned (.int .i64 0) ∧ DS w' p s.flushed ∧ KeepP (Off p w) w w' := by
  have hp := power_ok h hf
  have c1 := h.c1
  have hlt := h.lt
  obtain ⟨Z, hZ⟩ : ∃ Z, Z = (z256.map bv).toArray := ⟨_, rfl⟩
  have hz : ∀ w : World, (zeroValue 68).run Try.prog w = .ok (.agg Z) w := by rw [hZ]; exact zero_sec
  have HZ := Lib.hid hZ
  clear hf hZ
  go_enter Try.func35, Try.ntmps35
  go_wp2_with (first | (go_at_call 40; refine hp.mono ?_; rintro e w' ⟨rfl, rfl⟩) | (refine wpList_range_pm rfl (.tmp 14) rfl p.m _ _ rfl h.pm ?_; intro w0 cnt0 hr0 g0))
  go_frame
  have D0 : DS w0 p (s.with (sofar s.pend fun i => (s.pend i).isSome)) := by
    have e : s.with (sofar s.pend fun i => (s.pend i).isSome) = s := by
      unfold Dk.with
      rw [over_none _ _ fun j => by unfold sofar; cases hj : s.pend j <;> simp [hj]]
    rw [e]
    exact h.keep fun x hx => g0.block x (hlt x hx) (by simp)
  have K0 : KeepP (Off p w) w w0 := (KeepP.refl _ w).grown g0 (by simp) fun x hx => hx.1
  have S0 := g0.size
  clear hp c1 g0
  go_loopw [4] (fun _ wr => ∃ (left : Nat → Bool) (cnt : Nat), PR wr p.m w.heap.size s.pend s.safe.length left cnt ∧ DS wr p (s.with (sofar s.pend left)) ∧ KeepP (Off p w) w wr) (fun _ wr => wr.rangeLeft p.m w.heap.size)
  case atStart => exact ⟨_, _, hr0, D0, K0⟩
  case round =>
    obtain ⟨left, cnt, hr, D1, K1⟩ := hrel
    go_wp2_with (refine wpList_next_pm rfl (.tmp 15) rfl p.m w.heap.size _ _ _ _ rfl hr ?_ ?_)
    · intro hl
      rw [sofar_end _ hl] at D1
      clear hr
      have c1 := D1.c1
      go_wp2_with (first | (refine wpList_clear_pm rfl (.tmp 31) rfl p.m _ _ rfl D1.pm ?_; intro w3 pm3 g3; have D3 := D1.clear pm3 g3) | (go_at_call 33; refine (act_any D3).mono ?_; rintro e w5 ⟨rfl, h5, g5⟩))
      go_ret
      exact ⟨rfl, h5, (K1.grown g3 (fun g e ho => by injection e with e; exact ho.2 (.inr (.inr e.symm))) fun x hx => hx.1).grown g5 (fun g e ho => by injection e with e; exact ho.2 (.inl e.symm)) fun x hx => hx.1⟩
    · intro i l w1 cnt1 hi hfi hli hr1 hlt1 g1 hs1 hen
      clear hs1
      have hl256 := (h.ok.pend i l hfi).2
      have D2 : DS w1 p (s.with (sofar s.pend left)) := D1.keep fun x hx => g1.block x (D1.lt x hx) fun e => by have := hlt x hx; injection e with e; omega
      have K2 : KeepP (Off p w) w w1 := K1.grown g1 (fun g e ho => by injection e with e; have := ho.1; omega) fun x hx => hx.1
      have S2 : w.heap.size < w1.heap.size := by have := hr1.lt; omega
      have HK : KB (w1.alloc (.cells Z 68)) w1.heap.size 68 (z256.map bv).toArray := by rw [← HZ.out]; exact KB.new _ _ _
      have D3 := D2.below ((Below.refl w1.heap.size w1).alloc (Nat.le_refl _) (.cells Z 68))
      have K3 := K2.new (.cells Z 68) fun x hx => hx.1
      have R3 := hr1.kept (World.grownBy_alloc w1 (.cells Z 68) none) (by simp) (by simp)
      have HL := Lib.hid hl256
      have HF := Lib.hid hfi
      have HI := Lib.hid hi
      have HLT := Lib.hid hlt1
      have hm := D3.lt p.m (.inr (.inr rfl))
      have hrl := hr.left_eq
      have HRL := Lib.hid hrl
      clear hr1 hl256 hfi hi hli hlt1 g1 D1 K1 hr hrl D2 K2
      go_wp2_with (refine wpList_store_kb rfl 68 (.tmp 5) (.tmp 20) rfl w1.heap.size (l.map bv) rfl rfl 68 _ HK 256 cells_sec (by rw [List.length_map, z256_len]) (by rw [List.length_map, HL.out]) (bytes_one _) ?_; intro w4 k4 g4)
      have D4 : DS w4 p (s.with (sofar s.pend left)) := D3.keep fun x hx => g4.block x (D3.lt x hx) fun e => by have := hlt x hx; injection e with e; omega
      have K4 : KeepP (Off p w) w w4 := K3.grown g4 (fun g e ho => by injection e with e; have := ho.1; omega) fun x hx => hx.1
      have R4 := R3.kept g4 (fun e => by have := hlt p.m (.inr (.inr rfl)); injection e with e; omega) (fun e => by injection e with e; omega)
      clear D3 K3 R3 HK g4 hen hm
      go_frame
      refine wp_still_tail 7 (by kernel_rfl) (by kernel_rfl) (fun W => DS W p (s.with (sofar s.pend left)) ∧ KB W w1.heap.size 68 (l.map bv).toArray ∧ KeepP (Off p w) w W ∧ PR W p.m w.heap.size s.pend s.safe.length (fun j => left j && !decide (j = i)) cnt1)
        ⟨D4.drewN 1, k4.drewN 1, K4.drewN 1, R4.kept (row := none) ⟨rfl, rfl, rfl, Nat.le_refl _, fun _ _ _ => rfl⟩ (by simp) (by simp)⟩ ?_
      clear D4 k4 K4 R4
      rintro W5 ⟨D5, k5, K5, R5⟩
      have c0 := D5.c0
      rw [show (s.with (sofar s.pend left)).safe.length = s.safe.length from over_len _ _] at c0
      have hi := HI.out
      simp only [List.take_succ_cons, List.take_zero, List.drop_succ_cons, List.drop_zero]
      still_step
      still_step
      still_step
      still_step
      still_step
      refine wpStill_load rfl 68 (.tmp 5) rfl rfl (run_load_sec HL.out k5.range) ?_
      go_frame
      still_step
      refine wpStill_nil ?_
      go_wp2_with (refine wpList_store_part rfl 68 (.tmp 27) (.tmp 26) rfl p.b (i * 256) (l.map bv) rfl rfl 68 _ D5.sf 256 cells_sec (by rw [List.length_map, HL.out]) (by rw [secs_len _ D5.ok.len, show (s.with (sofar s.pend left)).safe.length = s.safe.length from over_len _ _]; omega) (bytes_one _) ?_; intro w6 k6 g6)
      go_frame
      go_roundw
      case rel =>
        have R6 := R5.kept g6 (fun e => D5.bm (Option.some.inj e).symm) (fun e => by have := hlt p.b (.inr (.inl rfl)); injection e with e; omega)
        have hok : (s.with (upd (sofar s.pend left) i l)).ok := by
          rw [← sofar_step _ _ _ _ HF.out]
          exact h.ok.with (sofar_256 h.ok _)
        have D6 := D5.lay hi HL.out k6 g6 hok
        rw [← sofar_step _ _ _ _ HF.out] at D6
        exact ⟨_, cnt1, R6, D6, K5.grown g6 (fun g e ho => by injection e with e; exact ho.2 (.inr (.inl e.symm))) fun x hx => hx.1⟩
      case measure =>
        have R6 := R5.kept g6 (fun e => D5.bm (Option.some.inj e).symm) (fun e => by have := hlt p.b (.inr (.inl rfl)); injection e with e; omega)
        rw [R6.left_eq, HRL.out]
        exact HLT.out

theorem flush_dead {w : World} {p : DA} {s : Dk} (h : DS w p s) (hf : s.fuse = 0) : Calls Try.prog 35 #[.pointer (some ⟨p.d, 0, none⟩)] w fun e w' => e = .returned (.int .i64 8) ∧ w = w' := by
  have hp := power_dead h hf
  clear hf
  go_enter Try.func35, Try.ntmps35
  go_wp2_with (go_at_call 40; refine hp.mono ?_; rintro e w' ⟨rfl, rfl⟩)
  go_ret
  exact ⟨rfl, rfl⟩
theorem flush_nil (w : World) : Calls Try.prog 35 #[.pointer none] w fun e w' => e = .returned (.int .i64 9) ∧ w = w' := by
  go_enter Try.func35, Try.ntmps35
  go_wp2_with (go_at_call 40; refine (power_nil _).mono ?_; rintro e w' ⟨rfl, rfl⟩)
  go_ret
  exact ⟨rfl, rfl⟩
end Go.Proofs.Ytmknemaocbbpeaa
