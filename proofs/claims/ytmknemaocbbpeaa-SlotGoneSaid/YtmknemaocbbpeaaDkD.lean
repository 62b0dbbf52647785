/-
  Pending and Crash, over the loaded program. No condition but what each theorem names.
-/
import Derived.Test.YtmknemaocbbpeaaDkC
import Derived.Test.YtmknemaocbbpeaaDkK
namespace Go.Proofs.Ytmknemaocbbpeaa
open Go.RowKit
set_option maxRecDepth 100000
set_option linter.unusedVariables false

def numV (i : Nat) : Value := .int .i64 (i : Int)
/-- The numbers of the sectors that are pending, rising. -/
def Dk.nums (s : Dk) : List Nat := held s.pend s.safe.length

set_option maxHeartbeats 400000 in
/-- Pending. -/
theorem pending_any {w : World} {p : DA} {s : Dk} (h : DS w p s) : Calls Try.prog 28 #[.pointer (some ⟨p.d, 0, none⟩)] w fun e w' =>
    ∃ v, e = .returned v ∧ w'.ownsRow w.heap.size 3 1 v s.nums.length (s.nums.map numV) ∧ Below w.heap.size w w' := by
  have hm := made_any h
  have c1 := h.c1
  have hs := sorted_any p.m s.safe.length s.pend w h.pm (fun i l hl => (h.ok.pend i l hl).1) (by have := h.ok.few; omega)
  have HS := Lib.hid hs
  clear hs
  go_enter Try.func28, Try.ntmps28
  go_wp2_with (first
    | (go_at_call 23; refine hm.mono ?_; rintro e w' ⟨rfl, rfl⟩)
    | (go_at_call 39; refine (dkeys_any (some p.m) w).mono ?_; rintro e w1 ⟨rfl, rfl⟩)
    | (go_at_call 38; refine HS.out.mono ?_; rintro e w2 ⟨v, rfl, how, hb⟩))
  go_ret
  exact ⟨v, rfl, how, hb⟩
theorem pending_nil (w : World) : Calls Try.prog 28 #[.pointer none] w fun e w' => e = .returned (.slice none 0 0) ∧ w = w' := by
  go_enter Try.func28, Try.ntmps28
  go_wp2_with (go_at_call 23; refine (made_nil _).mono ?_; rintro e w' ⟨rfl, rfl⟩)
  go_ret
  exact ⟨rfl, rfl⟩

/-- The same, by its cells. -/
theorem pending_cells {w : World} {p : DA} {s : Dk} (h : DS w p s) : Calls Try.prog 28 #[.pointer (some ⟨p.d, 0, none⟩)] w fun e w' =>
    ∃ A c, e = .returned (.slice A s.nums.length c) ∧ s.nums.length ≤ c ∧ c ≤ maxLen ∧ CS w' (fun b => w.heap.size ≤ b ∧ b < w'.heap.size) (.slice A s.nums.length c) (s.nums.map numV) ∧ Below w.heap.size w w' := by
  refine (pending_any h).mono ?_
  rintro e w' ⟨v, rfl, how, hb⟩
  have cs := (CS.of_own how).lt
  obtain ⟨A, c, rfl, h1, h2⟩ := cs.form
  rw [List.length_map] at cs h1 ⊢
  exact ⟨A, c, rfl, h1, h2, cs, hb⟩
theorem nums_at {s : Dk} {q i : Nat} (h : s.nums[q]? = some i) : i < s.safe.length ∧ ∃ l, s.pend i = some l := by
  have := mem_held.1 (List.mem_of_getElem? h)
  exact ⟨this.1, Option.isSome_iff_exists.1 this.2⟩

/-- Whether one of the first k of ps, which ks keeps, is j. -/
def stays (ps : List Nat) (ks : List Bool) (k : Nat) (j : Nat) : Bool := (List.range k).any fun q => decide (ps[q]? = some j) && decide (ks[q]? = some true)
theorem stays_zero (ps : List Nat) (ks : List Bool) (j : Nat) : stays ps ks 0 j = false := rfl
theorem stays_succ (ps : List Nat) (ks : List Bool) (k j : Nat) : stays ps ks (k + 1) j = (stays ps ks k j || (decide (ps[k]? = some j) && decide (ks[k]? = some true))) := by
  simp [stays, List.range_succ, List.any_append]
/-- What of f stays. -/
def keeps (f : Nat → Option (List UInt8)) (ps : List Nat) (ks : List Bool) (k : Nat) : Nat → Option (List UInt8) := fun j => if stays ps ks k j then f j else none
theorem keeps_no (f : Nat → Option (List UInt8)) (ps : List Nat) (ks : List Bool) (k : Nat) (h : ¬ ks[k]? = some true) : keeps f ps ks (k + 1) = keeps f ps ks k := by
  funext j
  unfold keeps
  rw [stays_succ, decide_eq_false h, Bool.and_false, Bool.or_false]
theorem keeps_yes (f : Nat → Option (List UInt8)) (ps : List Nat) (ks : List Bool) (k i : Nat) (x : List UInt8) (h : ks[k]? = some true) (hi : ps[k]? = some i) (hx : f i = some x) : keeps f ps ks (k + 1) = upd (keeps f ps ks k) i x := by
  funext j
  unfold keeps upd
  rw [stays_succ, hi, decide_eq_true h, Bool.and_true]
  by_cases hj : j = i
  · subst hj; simp [hx]
  · have : ¬ i = j := fun e => hj e.symm
    simp [hj, this]
theorem keeps_256 {s : Dk} (h : s.ok) (ps : List Nat) (ks : List Bool) (k : Nat) : ∀ i x, keeps s.pend ps ks k i = some x → x.length = 256 := by
  intro i x hx
  unfold keeps at hx
  split at hx
  · exact (h.pend i x hx).2
  · cases hx

def Dk.crashed (s : Dk) (ks : List Bool) : Dk := { ((s.with (keeps s.pend s.nums ks s.nums.length)).bare) with fuse := -1 }

set_option maxRecDepth 100000 in
set_option maxHeartbeats 1000000 in
/-- Crash. -/
theorem crash_any {w : World} {p : DA} {s : Dk} (h : DS w p s) (S : Nat → Prop) (kv : Value) (ks : List Bool) (hk : CS w S kv (ks.map Value.bool)) (hS : ∀ b, S b → ¬ p.has b) :
    Calls Try.prog 13 #[.pointer (some ⟨p.d, 0, none⟩), kv] w fun e w' => e = .returned (.tuple #[]) ∧ DS w' p (s.crashed ks) ∧ KeepP (Off p w) w w' := by
  have hm := made_any h
  have hp := pending_cells h
  have hlt := h.lt
  obtain ⟨A, c, rfl, hkc, hkm⟩ := hk.form
  rw [List.length_map] at hk hkc ⊢
  have hat := fun q i (hq : s.nums[q]? = some i) => nums_at hq
  obtain ⟨ps, hps⟩ : ∃ ps, ps = s.nums := ⟨_, rfl⟩
  rw [← hps] at hp hat
  have HAT := Lib.hid hat
  have HPS := Lib.hid hps
  clear hps hat
  go_enter Try.func13, Try.ntmps13
  go_wp2_with (first
    | (go_at_call 23; refine hm.mono ?_; rintro e w' ⟨rfl, rfl⟩)
    | (go_at_call 28; refine hp.mono ?_; rintro e w1 ⟨A1, c1, rfl, hpc, hpm, cs1, b1⟩))
  have hk1 := hk.lt.below' b1
  have D1 : DS w1 p (s.with (keeps s.pend ps ks 0)) := by
    have e : s.with (keeps s.pend ps ks 0) = s := by unfold Dk.with; rw [over_none s.safe (keeps s.pend ps ks 0) fun j => rfl]
    rw [e]; exact h.below b1
  have hb := b1.size
  have hlen : ps.length ≤ 9223372036854775807 := by unfold maxLen at hpm; omega
  have hlen2 : ks.length ≤ 9223372036854775807 := by unfold maxLen at hkm; omega
  clear hp hm hk hkc hkm hpc hpm
  go_loopw [12] (fun q wr => ∃ k : Nat, k ≤ ps.length ∧ q = .int .i64 k ∧ DS wr p (s.with (keeps s.pend ps ks k)) ∧ KeepP (Off p w1) w1 wr) (fun q _ => ps.length - (intOf q).toNat)
  case atStart => exact ⟨0, Nat.zero_le _, rfl, D1, KeepP.refl _ _⟩
  case round =>
    obtain ⟨k, hkl, rfl, D2, K2⟩ := hrel
    have hk2 := hk1.keepP K2 fun b sb hb => ⟨hb, hS b sb.1⟩
    have cs2 := cs1.keepP K2 fun b sb hb => ⟨hb, fun hx => by have := hlt b hx; omega⟩
    clear D1
    by_cases hlt2 : k < ps.length
    · obtain ⟨i, hi⟩ : ∃ i, ps[k]? = some i := ⟨_, List.getElem?_eq_getElem hlt2⟩
      obtain ⟨hin, l, hl⟩ := HAT.out k i hi
      obtain ⟨bp, op, rfl, _, _, hpc⟩ := cs2.at_ (by rw [List.length_map]; omega)
      have pc := hpc k (numV i) (by simp [hi])
      unfold numV at pc
      clear hpc cs2
      by_cases hb1 : k < ks.length
      · obtain ⟨bk, ok, rfl, _, _, hkc⟩ := hk2.at_ (by rw [List.length_map]; omega)
        have kc := hkc k (.bool ks[k]) (by simp [hb1])
        have HB : Hid (ks[k]? = some ks[k]) := List.getElem?_eq_getElem hb1
        clear hkc hk2
        generalize ks[k] = kb at *
        cases kb with
        | true =>
          go_wp2
          refine wp_still_tail 12 (by kernel_rfl) (by kernel_rfl) (fun W => DS W p (s.with (keeps s.pend ps ks k)) ∧ KeepP (Off p w1) w1 W) ⟨D2.drewN 1, K2.drewN 1⟩ ?_
          clear D2 K2 pc kc
          rintro W3 ⟨D3, K3⟩
          have c0 := D3.c0
          rw [show (s.with (keeps s.pend ps ks k)).safe.length = s.safe.length from over_len _ _] at c0
          have c1 := D3.c1
          have HK := Lib.hid (D3.pm.look i (by have := h.ok.few; omega))
          have HI := Lib.hid hi
          have HL := Lib.hid hl
          clear hi hl
          simp only [List.take_succ_cons, List.take_zero, List.drop_succ_cons, List.drop_zero]
          still_step
          still_step
          still_step
          still_step
          still_step
          still_step
          still_step
          still_step
          still_step
          still_step
          refine wpStill_look (v := secV l) rfl 53 (.tmp 35) (.tmp 36) false rfl rfl rfl (by
            have e := HK.out
            rw [show (s.with (keeps s.pend ps ks k)).pend i = some l from HL.out] at e
            exact e) ?_
          go_frame
          still_step
          refine wpStill_nil ?_
          clear c0 c1
          have hl256 := (h.ok.pend i l HL.out).2
          go_wp2_with (refine wpList_store_part rfl 68 (.tmp 38) (.tmp 37) rfl p.b (i * 256) (l.map bv) rfl rfl 68 _ D3.sf 256 cells_sec (by rw [List.length_map, hl256]) (by rw [secs_len _ D3.ok.len, show (s.with (keeps s.pend ps ks k)).safe.length = s.safe.length from over_len _ _]; omega) (bytes_one _) ?_; intro w6 k6 g6)
          go_roundw
          case rel =>
            have hok : (s.with (upd (keeps s.pend ps ks k) i l)).ok := by
              rw [← keeps_yes _ _ _ _ _ _ HB.out HI.out HL.out]
              exact h.ok.with (keeps_256 h.ok _ _ _)
            have D6 := D3.lay hin hl256 k6 g6 hok
            rw [← keeps_yes _ _ _ _ _ _ HB.out HI.out HL.out] at D6
            exact ⟨k + 1, by omega, by go_num, D6, K3.grown g6 (fun g e ho => by injection e with e; exact ho.2 (.inr (.inl e.symm))) fun x hx => hx.1⟩
          case measure => simp [intOf]; omega
        | false =>
          go_wp2
          go_roundw
          case rel => exact ⟨k + 1, by omega, by go_num, by rw [keeps_no _ _ _ _ (by rw [HB.out]; simp)]; exact D2, K2⟩
          case measure => simp [intOf]; omega
      · go_wp2
        go_roundw
        case rel => exact ⟨k + 1, by omega, by go_num, by rw [keeps_no _ _ _ _ (by rw [List.getElem?_eq_none (by omega)]; simp)]; exact D2, K2⟩
        case measure => simp [intOf]; omega
    · have hkl : k = ps.length := by omega
      subst hkl
      rw [HPS.out] at D2
      have c1 := D2.c1
      have f2 := D2.kb.free 2
      have c2 := D2.c2
      clear hk2 cs2 hk1 cs1 HAT
      go_wp2_with (refine wpList_clear_pm rfl (.tmp 43) rfl p.m _ _ rfl D2.pm ?_; intro w3 pm3 g3; have D3 := D2.clear pm3 g3; have c2 := D3.c2; have f2 := D3.kb.free 2)
      go_end0
      have D4 : DS (w3.setCell ⟨p.d, 2, none⟩ (.int .i64 (-1))) p (s.crashed ks) := D3.put (fu := -1) (ac := s.acts) (D3.kb.put 2 _) (grown_set _ _ _ _) (by unfold I64; omega) h.ok.acts
      have K0 : KeepP (Off p w) w w1 := KeepP.of_below b1 fun x hx => hx.1
      have K4 : KeepP (Off p w1) w1 (w3.setCell ⟨p.d, 2, none⟩ (.int .i64 (-1))) :=
        (K2.grown g3 (fun g e ho => by injection e with e; exact ho.2 (.inr (.inr e.symm))) fun x hx => hx.1).set _ (fun ho => ho.2 (.inl rfl)) _
      exact ⟨rfl, D4, K0.trans (K4.mono fun x hx => ⟨by have := hx.1; omega, hx.2⟩)⟩
theorem crash_nil (w : World) (v : Value) : Calls Try.prog 13 #[.pointer none, v] w fun e w' => e = .returned (.tuple #[]) ∧ w = w' := by
  go_enter Try.func13, Try.ntmps13
  go_wp2_with (go_at_call 23; refine (made_nil _).mono ?_; rintro e w' ⟨rfl, rfl⟩)
  refine bodyPost_ret (results_none rfl _ _ _) rfl ?_
  exact ⟨rfl, rfl⟩
end Go.Proofs.Ytmknemaocbbpeaa
