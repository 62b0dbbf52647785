/-
  The law AllocBack over the loaded program: what is told as bits is listed again; sectors are the bytes, and bytes 0. No condition.
-/
import Derived.Test.YtelcfchnaglpcaaAlC
import Derived.Test.YtelcfchnaglpcaaAlD
import Derived.Test.YtelcfchnaglpcaaAlL
import Derived.Deep.RegionHeld3
namespace Go.Proofs.Ytelcfchnaglpcaa
open Go.RowKit Go.ChangeShapes Go.WideShapes Go.Joins
set_option maxRecDepth 100000
set_option linter.unusedVariables false

theorem back_out (v0 v1 : Value) (l : List Int) (b : List UInt8) (n : Int) (hx : 300 < l.length ∨ 600 < n ∨ 3000 < b.length) (w : World) (h0 : IS w (fun b => b < w.heap.size) v0 l) (h1 : BS w (fun b => b < w.heap.size) v1 b) :
    Calls Try.prog 6 #[v0, .int .i64 n, v1] w (YesA w) := by
  obtain ⟨A, c, rfl, hc, hcm, _⟩ := h0.form
  obtain ⟨A', c', rfl, hc', hcm', _⟩ := h1.form
  clear h0 h1
  by_cases k0 : 300 < l.length
  · have D0 : decide ((300 : Int) < (l.length : Int)) = true := decide_eq_true (by omega)
    clear hx
    go_enter Try.func6, Try.ntmps6
    go_wp2_with fail
    refine (live_any _).mono ?_
    rintro e w1 ⟨rfl, b1⟩
    go_wp2
    go_ret
    exact ⟨rfl, b1⟩
  · have D0 : decide ((300 : Int) < (l.length : Int)) = false := decide_eq_false (by omega)
    by_cases k1 : 600 < n
    · have D1 : decide (600 < n) = true := decide_eq_true (by omega)
      clear hx
      go_enter Try.func6, Try.ntmps6
      go_wp2_with fail
      refine (live_any _).mono ?_
      rintro e w1 ⟨rfl, b1⟩
      go_wp2
      go_ret
      exact ⟨rfl, b1⟩
    · have D1 : decide (600 < n) = false := decide_eq_false (by omega)
      have D2 : decide ((3000 : Int) < (b.length : Int)) = true := decide_eq_true (by omega)
      clear hx
      go_enter Try.func6, Try.ntmps6
      go_wp2_with fail
      refine (live_any _).mono ?_
      rintro e w1 ⟨rfl, b1⟩
      go_wp2
      go_ret
      exact ⟨rfl, b1⟩

/-- What the bits tell: all of it again, where there are such. -/
theorem bits_list (l : List Int) (n : Int) : (bitsS l n).2 = true → listS (bitsS l n).1 n = (l, true) := by
  unfold bitsS
  by_cases h : n < 0 ∨ 4096 < n ∨ ¬ okB l n
  · rw [if_pos h]; intro h; cases h
  · rw [if_neg h]
    intro _
    exact list_bits (fun h0 => h (.inl h0)) (fun h0 => h (.inr (.inl h0))) (Classical.byContradiction fun h0 => h (.inr (.inr h0)))

set_option maxHeartbeats 4000000 in
theorem back_main (v0 v1 : Value) (l : List Int) (b : List UInt8) (n : Int) (k0 : ¬ 300 < l.length) (k1 : ¬ 600 < n) (k2 : ¬ 3000 < b.length) (w : World) (h0 : IS w (fun b => b < w.heap.size) v0 l) (h1 : BS w (fun b => b < w.heap.size) v1 b) :
    Calls Try.prog 6 #[v0, .int .i64 n, v1] w (YesA w) := by
  have hp := bits_any v0 l n (by omega) w h0
  have hbl := bits_list l n
  have hcut := fun W (h : BS W (fun b => b < W.heap.size) v1 b) => cut_any v1 b (by omega) W h
  have hpg := fun W => pages_any (b.length : Int) (pagesS_le _ (by omega)) W
  rw [pages_nat] at hpg
  obtain ⟨A, c, rfl, hc, hcm, _⟩ := h0.form
  obtain ⟨A', c', rfl, hc', hcm', _⟩ := h1.form
  have D0 : decide ((300 : Int) < (l.length : Int)) = false := decide_eq_false (by omega)
  have D1 : decide (600 < n) = false := decide_eq_false (by omega)
  have D2 : decide ((3000 : Int) < (b.length : Int)) = false := decide_eq_false (by omega)
  have HBL := Lib.hid hbl
  clear hbl
  generalize bitsS l n = r at *
  obtain ⟨X, ok⟩ := r
  go_enter Try.func6, Try.ntmps6
  go_wp2_with fail
  refine hp.mono ?_
  rintro _ w1 ⟨v2, rfl, q1, b1⟩
  replace q1 : BS w1 _ v2 X := q1
  replace h0 := (h0.below' b1).mono (S' := fun b => b < w1.heap.size) fun b h => Nat.lt_of_lt_of_le h b1.size
  replace h1 := (h1.below' b1).mono (S' := fun b => b < w1.heap.size) fun b h => Nat.lt_of_lt_of_le h b1.size
  clear hp D0 D1 D2
  obtain ⟨i0, hi, hz0, hz1, hz2⟩ := info_parts info_byte
  have hm3 : pagesN b.length ≤ 1000 := by unfold pagesN; omega
  have hm4 : b.length ≤ 256 * pagesN b.length ∧ 256 * pagesN b.length ≤ b.length + 255 := by unfold pagesN; omega
  have HF : Hid (cutK b (pagesN b.length) = cutS b) := rfl
  have HG := Lib.hid (cutS_flat b)
  obtain ⟨m, hm⟩ : ∃ m, m = pagesN b.length := ⟨_, rfl⟩
  rw [← hm] at hpg hm3 hm4 HF HG
  have hcl0 : (cutS b).length = m := by rw [hm]; exact cutK_length _ _
  clear hm
  cases ok with
  | false =>
    have BX := b1
    clear HBL q1 h0 b1
    go_wp2_with fail
    refine (hcut w1 h1).mono ?_
    rintro _ w2 ⟨v3, rfl, hrow, b2⟩
    have hls := hrow.ls
    obtain ⟨A3, c3, rfl⟩ := hrow.len
    have hcl := hcl0
    rw [hcl]
    have h2 := h1.below' b2
    have B2 := BX.trans (b2.mono BX.size)
    clear hcut hrow b2 h1 BX
    rw [hcl] at hls
    go_wp2
    go_loopw [11, 13] (fun av iw wr => ∃ (k : Nat) (T : List UInt8), k ≤ m ∧ iw = .int .i64 k ∧ Hid ((cutK b k).flatten = T) ∧ T.length ≤ 1000000 ∧ wr.ownsRow w2.heap.size 5 1 av T.length (T.map bv) ∧ Below w2.heap.size w2 wr) (fun _ iw _ => m - (intOf iw).toNat)
    case atStart => exact ⟨0, [], by omega, rfl, rfl, by simp, World.ownsRow_nil _ _ _ _, Below.refl _ _⟩
    case round =>
      obtain ⟨k, T, hk, rfl, HT, hTl, how, bl⟩ := hrel
      obtain ⟨A4, c4, rfl, hc4, hcm4, hn4⟩ := (own_BS how).form
      by_cases hlt : k < m
      · obtain ⟨bb, o, rfl, _, hbb, hx⟩ := (hls.below' bl).at_ (by rw [hcl]; omega)
        obtain ⟨X5, c5, kx, bs⟩ := hx k _ (by rw [← HF.out]; exact cutK_at b hlt)
        have HT2 : Hid ((cutK b (k + 1)).flatten = T ++ sectC b k) := by show _ = _; rw [cutK_step, HT.out]
        have hsl : (sectC b k).length = 256 := sectC_length b k
        have htl2 := cutK_len b (k + 1)
        generalize sectC b k = s at *
        obtain ⟨T2, hT2⟩ : ∃ T2, T2 = T ++ s := ⟨_, rfl⟩
        rw [← hT2] at HT2
        rw [HT2.out] at htl2
        have HL2 := Lib.hid hT2.symm
        have hl2 : T2.length ≤ 1000000 := by omega
        have HLL := Lib.hid hl2
        have hsm : T.length + s.length ≤ 140737488355328 := by omega
        have hs0 := bl.size
        clear hx hT2 htl2 hl2 hsl HT
        go_wp2_with (at_builtin; refine wpList_grow _ rfl _ _ _ rfl w2.heap.size 5 i0 Try.underlying30 hi hz0 hz1 hz2 (.slice A4 T.length c4) T rfl how _ _ s rfl bs hsm bl.size ?_; intro v6 w6 how6 g6 _; rw [HL2.out] at how6; have bl6 := bl.grown g6 bl.size (fun g e => own_ge how g e))
        go_roundw
        case rel => exact ⟨k + 1, T2, by omega, by go_num, HT2, HLL.out, how6, bl6⟩
        case measure => simp [intOf]; omega
      · obtain rfl : k = m := by omega
        have hA : (A4 = none ∧ c4 = 0 ∧ T = []) ∨ ∃ g, A4 = some ⟨g, 0, none⟩ := by
          rcases how.2 with ⟨e, h0⟩ | ⟨g, cap, cur, e, _⟩
          · injection e with e1 e2 e3
            exact .inl ⟨e1, e3, List.eq_nil_of_length_eq_zero h0⟩
          · injection e with e1 e2 e3
            exact .inr ⟨g, e1⟩
        have hTT : T = b ++ zsK (256 * k - b.length) := by rw [← HT.out, HF.out, HG.out]
        have htl : T.length = b.length + (256 * k - b.length) := by rw [hTT, List.length_append, zsK_length]
        obtain ⟨z, hzz⟩ : ∃ z, z = 256 * k - b.length := ⟨_, rfl⟩
        rw [← hzz] at hTT htl
        have hz255 : z ≤ 255 := by omega
        have ez : (T.length : Int) - (b.length : Int) = (z : Int) := by omega
        have ezn : T.length - b.length = z := by omega
        have D5 : decide ((T.length : Int) < (b.length : Int)) = false := decide_eq_false (by omega)
        have D7 : decide ((255 : Int) < (z : Int)) = false := decide_eq_false (by omega)
        have hlc : b.length ≤ c4 := by omega
        have hx1 := own_BS how
        have ht1 : T.take b.length = b := by rw [hTT, List.take_left]
        have ht2 : T.drop b.length = zsK z := by rw [hTT, List.drop_left]
        have hbs := h2.below' bl
        have HTT := Lib.hid hTT
        have HTL := Lib.hid htl
        have B3 := B2.trans (bl.mono B2.size)
        clear HT HF HG hTT htl hzz hls hcl hcl0 how bl B2 h2 hlt hk
        have hzw : IntKind.i64.wrap (z : Int) = (z : Int) := IntWalk.i64_in _ (by omega)
        have hmk := fun W => make_bytes W z (by omega)
        rcases hA with hA | ⟨g, rfl⟩
        · obtain ⟨rfl, rfl, rfl⟩ := hA
          obtain rfl : b = [] := List.eq_nil_of_length_eq_zero (by omega)
          obtain rfl : z = 0 := by have := HTL.out; simp at this; omega
          clear ez ezn D5 D7 ht1 ht2 HTT HTL hlc hz255 hTl hc4 hcm4 hn4 hm4 hx1 hzw
          have hmk0 : ∀ W, (Instr.makeSlice 30 (.int .i64 0) (.int .i64 0)).run Try.prog W = .ok (.slice (some ⟨W.heap.size, 0, none⟩) 0 0) (W.alloc (.cells #[] 5)) := fun W => make_bytes W 0 (by omega)
          have hzw0 : IntKind.i64.wrap 0 = 0 := IntWalk.i64_in _ (by omega)
          clear hmk
          go_wp2_with (go_at_call 21; refine (hpg _).mono ?_; rintro e w' ⟨rfl, rfl⟩)
          refine (same_to _ _ _ _ _ _ (BS.nil _ (fun _ => False)) hbs).mono ?_
          rintro _ w7 ⟨rfl, b7⟩
          have B7 := B3.trans (b7.mono B3.size)
          clear hbs b7 B3 hpg
          have B8a := B7.alloc B7.size (.cells #[] 5)
          have B8 : Below w.heap.size w (w7.alloc (.cells #[] 5)).drew := ⟨B8a.os, B8a.tape, B8a.output, B8a.size, B8a.block⟩
          have x4 := BS.nil (w7.alloc (.cells #[] 5)).drew (fun _ => False)
          have x5 : BS (w7.alloc (.cells #[] 5)).drew (fun _ => False) (.slice (some ⟨w7.heap.size, 0, none⟩) 0 0) [] := ⟨_, 0, rfl, by simp, by simp [maxLen], (fun h => by cases h), fun h => absurd h (by simp)⟩
          clear B8a
          go_wp2
          go_region_held3 (fun W => True) (first | exact trivial | go_keep)
            (first | (go_at_call 17; refine (same_to _ _ _ _ _ _ x4 x5).mono ?_; rintro _ w8 ⟨rfl, b8⟩) | (go_at_call 7; refine (live_any _).mono ?_; rintro _ w9 ⟨rfl, b9⟩) | fail)
          have B9 := B8.trans (b8.mono B8.size)
          go_wp2
          go_ret
          exact ⟨rfl, B9.trans (b9.mono B9.size)⟩
        · go_wp2_with (go_at_call 21; refine (hpg _).mono ?_; rintro e w' ⟨rfl, rfl⟩)
          have hx2 := hx1.take b.length (by omega)
          rw [ht1] at hx2
          refine (same_to _ _ _ _ _ _ hx2 hbs).mono ?_
          rintro _ w7 ⟨rfl, b7⟩
          have hx3 := (hx1.drop b.length (by omega)).below' b7
          rw [ht2] at hx3
          have B7 := B3.trans (b7.mono B3.size)
          clear hx1 hx2 hbs b7 B3 hpg
          go_wp2
          have k8 : KB (w7.alloc (.cells (Array.replicate z (bv 0)) 5)).drew w7.heap.size 5 ((zsK z).map bv).toArray := by
            unfold zsK; rw [List.map_replicate, List.toArray_replicate]; exact KB.new _ _ _
          have x5 := k8.bsA (zsK_length z) (by unfold maxLen; omega)
          have B8a := B7.alloc B7.size (.cells (Array.replicate z (bv 0)) 5)
          have B8 : Below w.heap.size w (w7.alloc (.cells (Array.replicate z (bv 0)) 5)).drew := ⟨B8a.os, B8a.tape, B8a.output, B8a.size, B8a.block⟩
          clear k8 B8a
          by_cases hcb : c4 = b.length
          · rw [if_pos hcb] at hx3
            subst hcb
            rw [ezn, Nat.sub_self] at hx3
            have x4 : BS (w7.alloc (.cells (Array.replicate z (bv 0)) 5)).drew _ _ _ := hx3.alloc (.cells (Array.replicate z (bv 0)) 5)
            clear hx3
            go_region_held3 (fun W => True) (first | exact trivial | go_keep)
              (first | (go_at_call 17; refine (same_to _ _ _ _ _ _ x4 x5).mono ?_; rintro _ w8 ⟨rfl, b8⟩) | (go_at_call 7; refine (live_any _).mono ?_; rintro _ w9 ⟨rfl, b9⟩) | fail)
            have B9 := B8.trans (b8.mono B8.size)
            go_wp2
            go_ret
            exact ⟨rfl, B9.trans (b9.mono B9.size)⟩
          · rw [if_neg hcb, ezn, Nat.zero_add] at hx3
            have x4 : BS (w7.alloc (.cells (Array.replicate z (bv 0)) 5)).drew _ _ _ := hx3.alloc (.cells (Array.replicate z (bv 0)) 5)
            clear hx3
            go_region_held3 (fun W => True) (first | exact trivial | go_keep)
              (first | (go_at_call 17; refine (same_to _ _ _ _ _ _ x4 x5).mono ?_; rintro _ w8 ⟨rfl, b8⟩) | (go_at_call 7; refine (live_any _).mono ?_; rintro _ w9 ⟨rfl, b9⟩) | fail)
            have B9 := B8.trans (b8.mono B8.size)
            go_wp2
            go_ret
            exact ⟨rfl, B9.trans (b9.mono B9.size)⟩
  | true =>
    have hli := list_any v2 X n w1 (q1.lt.mono fun b h => h.2)
    rw [HBL.out rfl] at hli
    clear HBL q1
    go_wp2_with fail
    refine hli.mono ?_
    rintro _ w10 ⟨v10, rfl, how10, b10⟩
    have q10 : IS w10 _ v10 l := own_IS how10
    replace h0 := h0.below' b10
    replace h1 := (h1.below' b10).mono (S' := fun b => b < w10.heap.size) fun b h => Nat.lt_of_lt_of_le h b10.size
    have B10 := b1.trans (b10.mono b1.size)
    clear hli how10 b1 b10
    go_wp2_with fail
    refine (sameInts_is _ _ _ _ _ _ _ q10 h0).mono ?_
    rintro _ w11 ⟨rfl, b11⟩
    rw [decide_eq_true rfl]
    replace h1 := (h1.below' b11).mono (S' := fun b => b < w11.heap.size) fun b h => Nat.lt_of_lt_of_le h b11.size
    have BX := B10.trans (b11.mono B10.size)
    clear q10 h0 B10 b11
    generalize w11 = w1 at *
    go_wp2_with fail
    refine (hcut w1 h1).mono ?_
    rintro _ w2 ⟨v3, rfl, hrow, b2⟩
    have hls := hrow.ls
    obtain ⟨A3, c3, rfl⟩ := hrow.len
    have hcl := hcl0
    rw [hcl]
    have h2 := h1.below' b2
    have B2 := BX.trans (b2.mono BX.size)
    clear hcut hrow b2 h1 BX
    rw [hcl] at hls
    go_wp2
    go_loopw [11, 13] (fun av iw wr => ∃ (k : Nat) (T : List UInt8), k ≤ m ∧ iw = .int .i64 k ∧ Hid ((cutK b k).flatten = T) ∧ T.length ≤ 1000000 ∧ wr.ownsRow w2.heap.size 5 1 av T.length (T.map bv) ∧ Below w2.heap.size w2 wr) (fun _ iw _ => m - (intOf iw).toNat)
    case atStart => exact ⟨0, [], by omega, rfl, rfl, by simp, World.ownsRow_nil _ _ _ _, Below.refl _ _⟩
    case round =>
      obtain ⟨k, T, hk, rfl, HT, hTl, how, bl⟩ := hrel
      obtain ⟨A4, c4, rfl, hc4, hcm4, hn4⟩ := (own_BS how).form
      by_cases hlt : k < m
      · obtain ⟨bb, o, rfl, _, hbb, hx⟩ := (hls.below' bl).at_ (by rw [hcl]; omega)
        obtain ⟨X5, c5, kx, bs⟩ := hx k _ (by rw [← HF.out]; exact cutK_at b hlt)
        have HT2 : Hid ((cutK b (k + 1)).flatten = T ++ sectC b k) := by show _ = _; rw [cutK_step, HT.out]
        have hsl : (sectC b k).length = 256 := sectC_length b k
        have htl2 := cutK_len b (k + 1)
        generalize sectC b k = s at *
        obtain ⟨T2, hT2⟩ : ∃ T2, T2 = T ++ s := ⟨_, rfl⟩
        rw [← hT2] at HT2
        rw [HT2.out] at htl2
        have HL2 := Lib.hid hT2.symm
        have hl2 : T2.length ≤ 1000000 := by omega
        have HLL := Lib.hid hl2
        have hsm : T.length + s.length ≤ 140737488355328 := by omega
        have hs0 := bl.size
        clear hx hT2 htl2 hl2 hsl HT
        go_wp2_with (at_builtin; refine wpList_grow _ rfl _ _ _ rfl w2.heap.size 5 i0 Try.underlying30 hi hz0 hz1 hz2 (.slice A4 T.length c4) T rfl how _ _ s rfl bs hsm bl.size ?_; intro v6 w6 how6 g6 _; rw [HL2.out] at how6; have bl6 := bl.grown g6 bl.size (fun g e => own_ge how g e))
        go_roundw
        case rel => exact ⟨k + 1, T2, by omega, by go_num, HT2, HLL.out, how6, bl6⟩
        case measure => simp [intOf]; omega
      · obtain rfl : k = m := by omega
        have hA : (A4 = none ∧ c4 = 0 ∧ T = []) ∨ ∃ g, A4 = some ⟨g, 0, none⟩ := by
          rcases how.2 with ⟨e, h0⟩ | ⟨g, cap, cur, e, _⟩
          · injection e with e1 e2 e3
            exact .inl ⟨e1, e3, List.eq_nil_of_length_eq_zero h0⟩
          · injection e with e1 e2 e3
            exact .inr ⟨g, e1⟩
        have hTT : T = b ++ zsK (256 * k - b.length) := by rw [← HT.out, HF.out, HG.out]
        have htl : T.length = b.length + (256 * k - b.length) := by rw [hTT, List.length_append, zsK_length]
        obtain ⟨z, hzz⟩ : ∃ z, z = 256 * k - b.length := ⟨_, rfl⟩
        rw [← hzz] at hTT htl
        have hz255 : z ≤ 255 := by omega
        have ez : (T.length : Int) - (b.length : Int) = (z : Int) := by omega
        have ezn : T.length - b.length = z := by omega
        have D5 : decide ((T.length : Int) < (b.length : Int)) = false := decide_eq_false (by omega)
        have D7 : decide ((255 : Int) < (z : Int)) = false := decide_eq_false (by omega)
        have hlc : b.length ≤ c4 := by omega
        have hx1 := own_BS how
        have ht1 : T.take b.length = b := by rw [hTT, List.take_left]
        have ht2 : T.drop b.length = zsK z := by rw [hTT, List.drop_left]
        have hbs := h2.below' bl
        have HTT := Lib.hid hTT
        have HTL := Lib.hid htl
        have B3 := B2.trans (bl.mono B2.size)
        clear HT HF HG hTT htl hzz hls hcl hcl0 how bl B2 h2 hlt hk
        have hzw : IntKind.i64.wrap (z : Int) = (z : Int) := IntWalk.i64_in _ (by omega)
        have hmk := fun W => make_bytes W z (by omega)
        rcases hA with hA | ⟨g, rfl⟩
        · obtain ⟨rfl, rfl, rfl⟩ := hA
          obtain rfl : b = [] := List.eq_nil_of_length_eq_zero (by omega)
          obtain rfl : z = 0 := by have := HTL.out; simp at this; omega
          clear ez ezn D5 D7 ht1 ht2 HTT HTL hlc hz255 hTl hc4 hcm4 hn4 hm4 hx1 hzw
          have hmk0 : ∀ W, (Instr.makeSlice 30 (.int .i64 0) (.int .i64 0)).run Try.prog W = .ok (.slice (some ⟨W.heap.size, 0, none⟩) 0 0) (W.alloc (.cells #[] 5)) := fun W => make_bytes W 0 (by omega)
          have hzw0 : IntKind.i64.wrap 0 = 0 := IntWalk.i64_in _ (by omega)
          clear hmk
          go_wp2_with (go_at_call 21; refine (hpg _).mono ?_; rintro e w' ⟨rfl, rfl⟩)
          refine (same_to _ _ _ _ _ _ (BS.nil _ (fun _ => False)) hbs).mono ?_
          rintro _ w7 ⟨rfl, b7⟩
          have B7 := B3.trans (b7.mono B3.size)
          clear hbs b7 B3 hpg
          have B8a := B7.alloc B7.size (.cells #[] 5)
          have B8 : Below w.heap.size w (w7.alloc (.cells #[] 5)).drew := ⟨B8a.os, B8a.tape, B8a.output, B8a.size, B8a.block⟩
          have x4 := BS.nil (w7.alloc (.cells #[] 5)).drew (fun _ => False)
          have x5 : BS (w7.alloc (.cells #[] 5)).drew (fun _ => False) (.slice (some ⟨w7.heap.size, 0, none⟩) 0 0) [] := ⟨_, 0, rfl, by simp, by simp [maxLen], (fun h => by cases h), fun h => absurd h (by simp)⟩
          clear B8a
          go_wp2
          go_region_held3 (fun W => True) (first | exact trivial | go_keep)
            (first | (go_at_call 17; refine (same_to _ _ _ _ _ _ x4 x5).mono ?_; rintro _ w8 ⟨rfl, b8⟩) | (go_at_call 7; refine (live_any _).mono ?_; rintro _ w9 ⟨rfl, b9⟩) | fail)
          have B9 := B8.trans (b8.mono B8.size)
          go_wp2
          go_ret
          exact ⟨rfl, B9.trans (b9.mono B9.size)⟩
        · go_wp2_with (go_at_call 21; refine (hpg _).mono ?_; rintro e w' ⟨rfl, rfl⟩)
          have hx2 := hx1.take b.length (by omega)
          rw [ht1] at hx2
          refine (same_to _ _ _ _ _ _ hx2 hbs).mono ?_
          rintro _ w7 ⟨rfl, b7⟩
          have hx3 := (hx1.drop b.length (by omega)).below' b7
          rw [ht2] at hx3
          have B7 := B3.trans (b7.mono B3.size)
          clear hx1 hx2 hbs b7 B3 hpg
          go_wp2
          have k8 : KB (w7.alloc (.cells (Array.replicate z (bv 0)) 5)).drew w7.heap.size 5 ((zsK z).map bv).toArray := by
            unfold zsK; rw [List.map_replicate, List.toArray_replicate]; exact KB.new _ _ _
          have x5 := k8.bsA (zsK_length z) (by unfold maxLen; omega)
          have B8a := B7.alloc B7.size (.cells (Array.replicate z (bv 0)) 5)
          have B8 : Below w.heap.size w (w7.alloc (.cells (Array.replicate z (bv 0)) 5)).drew := ⟨B8a.os, B8a.tape, B8a.output, B8a.size, B8a.block⟩
          clear k8 B8a
          by_cases hcb : c4 = b.length
          · rw [if_pos hcb] at hx3
            subst hcb
            rw [ezn, Nat.sub_self] at hx3
            have x4 : BS (w7.alloc (.cells (Array.replicate z (bv 0)) 5)).drew _ _ _ := hx3.alloc (.cells (Array.replicate z (bv 0)) 5)
            clear hx3
            go_region_held3 (fun W => True) (first | exact trivial | go_keep)
              (first | (go_at_call 17; refine (same_to _ _ _ _ _ _ x4 x5).mono ?_; rintro _ w8 ⟨rfl, b8⟩) | (go_at_call 7; refine (live_any _).mono ?_; rintro _ w9 ⟨rfl, b9⟩) | fail)
            have B9 := B8.trans (b8.mono B8.size)
            go_wp2
            go_ret
            exact ⟨rfl, B9.trans (b9.mono B9.size)⟩
          · rw [if_neg hcb, ezn, Nat.zero_add] at hx3
            have x4 : BS (w7.alloc (.cells (Array.replicate z (bv 0)) 5)).drew _ _ _ := hx3.alloc (.cells (Array.replicate z (bv 0)) 5)
            clear hx3
            go_region_held3 (fun W => True) (first | exact trivial | go_keep)
              (first | (go_at_call 17; refine (same_to _ _ _ _ _ _ x4 x5).mono ?_; rintro _ w8 ⟨rfl, b8⟩) | (go_at_call 7; refine (live_any _).mono ?_; rintro _ w9 ⟨rfl, b9⟩) | fail)
            have B9 := B8.trans (b8.mono B8.size)
            go_wp2
            go_ret
            exact ⟨rfl, B9.trans (b9.mono B9.size)⟩

theorem allocBack_law {H : Type} (enc : TypeId × Value → H) (W : World) (base : Nat) (v0 : Value) (d0 : DataW H) (p0 : List MemPlace) (v1 : Value) (d1 : DataW H) (p1 : List MemPlace) (v2 : Value) (d2 : DataW H) (p2 : List MemPlace)
    (ok0 : Value.okWide Try.prog W .any base 24 v0) (ok1 : Value.okWide Try.prog W .any base 3 v1) (ok2 : Value.okWide Try.prog W .any base 30 v2)
    (h0 : DataW.Trod enc Try.prog W 0 (fun _ => true) true 24 v0 d0 p0) (h1 : DataW.Trod enc Try.prog W 0 (fun _ => true) true 3 v1 d1 p1) (h2 : DataW.Trod enc Try.prog W 0 (fun _ => true) true 30 v2 d2 p2) :
    Calls Try.prog 6 #[v0, v1, v2] W fun e W' => e = .returned (.bool true) ∧ Below W.heap.size W W' := by
  obtain ⟨l, hl, _⟩ := IS_of_arg ok0 h0
  obtain ⟨n, rfl, rfl, rfl, wn⟩ := open_int Try.underlying3 ok1 h1
  obtain ⟨b, hb⟩ := BS_of_arg ok2 h2
  replace hb := (hb.lt).mono (S' := fun b => b < W.heap.size) fun b h => h.2
  by_cases hx : 300 < l.length ∨ 600 < n ∨ 3000 < b.length
  · exact back_out v0 v2 l b n hx W hl hb
  · exact back_main v0 v2 l b n (by omega) (by omega) (by omega) W hl hb
end Go.Proofs.Ytelcfchnaglpcaa
