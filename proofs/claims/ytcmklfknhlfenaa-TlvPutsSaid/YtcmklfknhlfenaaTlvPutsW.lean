/-
  The law TlvPuts over the loaded program: the bytes of every number, every text, and of several together. No condition.
-/
import Derived.Test.YtcmklfknhlfenaaLiveA
import Derived.Test.YtcmklfknhlfenaaArgs
import Derived.Deep.RegionHeld3
import Derived.Deep.Slices
namespace Go.Proofs.Ytcmklfknhlfenaa
open Go.RowKit Go.ChangeShapes Go.WideShapes Go.Joins

set_option maxRecDepth 100000 in
set_option maxHeartbeats 1000000 in
theorem tlvPuts_main (n : Nat) (hn : n < 18446744073709551616) (i : Int) (vl : Value) (ls : List (List UInt8)) (w : World) (h : LS w (fun b => b < w.heap.size) vl ls) (h1 : ls.length ≤ 50) :
    Calls Try.prog 3 #[.int .u64 n, .int .i64 i, vl] w fun e w' => e = .returned (.bool true) ∧ Below w.heap.size w w' := by
  obtain ⟨i0, hi, hz0, hz1, hz2⟩ := info_parts info_byte
  obtain ⟨A, c, rfl, _⟩ := h.form
  have HN := Lib.hid hn
  clear hn
  go_enter Try.func3, Try.ntmps3
  go_wp2
  go_loopw [7, 8] (fun v i wr => ∃ k : Nat, k ≤ ls.length ∧ i = .int .i64 k ∧ wr.ownsRow w.heap.size 5 1 v (flat (ls.take k)).length ((flat (ls.take k)).map bv) ∧ Below w.heap.size w wr ∧ (flat (ls.take k)).length ≤ 500 * k) (fun _ i _ => ls.length - (intOf i).toNat)
  case atStart => exact ⟨0, by omega, rfl, World.ownsRow_nil _ _ _ _, Below.refl _ _, by simp [flat]⟩
  case round =>
    obtain ⟨k, hk, rfl, how, hbl, hle⟩ := hrel
    by_cases hlt : k < ls.length
    · have h' := h.keep hbl.size fun b hb _ => hbl.block b hb
      obtain ⟨b, o, rfl, sb, hb, hx⟩ := h'.at_ (by omega)
      obtain ⟨A', c', kc, hy⟩ := hx k ls[k] (List.getElem?_eq_getElem hlt)
      have hs := hbl.size
      clear hx
      obtain ⟨l, hl⟩ : ∃ l, ls[k] = l := ⟨_, rfl⟩
      rw [hl] at kc hy
      have h3 := flat_take ls k hlt
      rw [hl] at h3
      have H3 := Lib.hid h3
      clear h3 hl
      by_cases h5 : 500 < l.length
      · go_wp2
        have hd : decide ((500 : Int) < l.length) = true := by simp; omega
        go_quiet (fail)
        go_wp2_with fail
        refine (live_any _).mono ?_
        rintro e w1 ⟨rfl, hb1⟩
        go_wp2
        go_ret
        exact ⟨rfl, (Below_drawn hbl _).trans (hb1.mono (by simp [World.drewN]; omega))⟩
      · have hd : decide ((500 : Int) < l.length) = false := by simp; omega
        have k0 : (0 : Int) ≤ (k : Int) := by omega
        have k1 : (k : Int) < (ls.length : Int) := by omega
        go_wp2_with fail
        go_region_held3 (fun w' => w'.cell? ⟨b, o + k, none⟩ = some (.slice A' l.length c'))
          (first
            | go_keep
            | (rw [b3.cell (p := ⟨b, o + k, none⟩) (by exact Nat.lt_of_lt_of_le hb (Nat.le_trans b1.size b2.size))]; rw [b2.cell (p := ⟨b, o + k, none⟩) (by exact Nat.lt_of_lt_of_le hb b1.size)]; rw [b1.cell (p := ⟨b, o + k, none⟩) (by exact hb)]; exact kc)
            | (rw [b2.cell (p := ⟨b, o + k, none⟩) (by exact Nat.lt_of_lt_of_le hb b1.size)]; rw [b1.cell (p := ⟨b, o + k, none⟩) (by exact hb)]; exact kc)
            | (rw [b1.cell (p := ⟨b, o + k, none⟩) (by exact hb)]; exact kc))
          (first
            | (go_at_call 9; refine (text_any _ _ l _ (by exact hy) (by omega)).mono ?_; rintro e w1 ⟨v1, rfl, ho1, b1⟩; obtain ⟨A1, c1, rfl, _⟩ := (own_BS ho1).form) | (go_at_call 10; refine (rtext_any _ _ l _ (by exact BS.past b1 hy) (by omega)).mono ?_; rintro e w2 ⟨v2, rfl, ho2, b2⟩; obtain ⟨A2, c2, rfl, _⟩ := (own_BS ho2).form) | (go_at_call 8; refine (same_to _ _ _ _ (texb l) _ (by exact BS.past b2 (own_BS ho1)) (by exact own_BS ho2)).mono ?_; rintro e w3 ⟨rfl, b3⟩))
        have b12 : Below wr.heap.size wr w3 := (Below_drawn (Below.refl _ wr) 1).trans ((b1.trans (b2.mono b1.size)).trans (b3.mono (Nat.le_trans b1.size b2.size)))
        have how3 := own_past b12 how
        have hy3 := BS.past b12 hy
        have B3 := hbl.trans (b12.mono hs)
        have z3 := B3.size
        clear b1 b2 b3 b12 ho1 ho2 hy how
        go_wp2_with (at_builtin; refine wpList_grow _ rfl _ _ _ rfl w.heap.size 5 i0 Try.underlying25 hi hz0 hz1 hz2 _ _ rfl how3 _ _ l rfl hy3 (by omega) z3 ?_; intro v4 w4 how4 hg4 _)
        go_roundw
        case rel =>
          refine ⟨k + 1, by omega, by go_num, ?_, B3.grown hg4 z3 fun g hg => (how3.lt g hg).1, ?_⟩
          · rw [H3.out]; exact how4
          · rw [H3.out, List.length_append]; omega
        case measure => simp [intOf]; omega
    · have e : ls.take k = ls := List.take_of_length_le (by omega)
      rw [e] at how hle
      clear e
      have hl := h.keep hbl.size fun b hb _ => hbl.block b hb
      have z0 := hbl.size
      obtain ⟨A0, c0, rfl, _⟩ := (BS.of_own how).form
      clear h
      go_wp2_with fail
      refine (num_any n _ HN.out).mono ?_
      rintro e w1 ⟨v1, rfl, ho1, b1⟩
      obtain ⟨A1, c1, rfl, _⟩ := (own_BS ho1).form
      have x1 := own_BS ho1
      have how1 := own_past b1 how
      have hl1 := hl.below' b1
      have B1 := hbl.trans (b1.mono z0)
      have z1 := B1.size
      clear hl how b1 ho1
      go_wp2_with fail
      refine (rnum_any n _ HN.out).mono ?_
      rintro e w2 ⟨v2, rfl, ho2, b2⟩
      obtain ⟨A2, c2, rfl, _⟩ := (own_BS ho2).form
      have x2 := own_BS ho2
      have x1' := x1.below' b2
      have how2 := own_past b2 how1
      have hl2 := hl1.below' b2
      have B2 := B1.trans (b2.mono z1)
      have z2 := B2.size
      clear hl1 how1 b2 ho2 x1
      go_wp2_with fail
      refine (same_to _ _ _ _ (numb n) _ x1' x2).mono ?_
      rintro e w3 ⟨rfl, b3⟩
      have how3 := own_past b3 how2
      have hl3 := hl2.below' b3
      have B3 := B2.trans (b3.mono z2)
      have z3 := B3.size
      clear hl2 how2 b3 x1' x2
      go_wp2_with fail
      refine (int_any i _).mono ?_
      rintro e w4 ⟨v4, rfl, ho4, b4⟩
      obtain ⟨A4, c4, rfl, _⟩ := (own_BS ho4).form
      have x4 := own_BS ho4
      have how4 := own_past b4 how3
      have hl4 := hl3.below' b4
      have B4 := B3.trans (b4.mono z3)
      have z4 := B4.size
      clear hl3 how3 b4 ho4
      go_wp2_with fail
      refine (rint_any i _).mono ?_
      rintro e w5 ⟨v5, rfl, ho5, b5⟩
      obtain ⟨A5, c5, rfl, _⟩ := (own_BS ho5).form
      have x5 := own_BS ho5
      have x4' := x4.below' b5
      have how5 := own_past b5 how4
      have hl5 := hl4.below' b5
      have B5 := B4.trans (b5.mono z4)
      have z5 := B5.size
      clear hl4 how4 b5 ho5 x4
      go_wp2_with fail
      refine (same_to _ _ _ _ (numb (u64 i)) _ x4' x5).mono ?_
      rintro e w6 ⟨rfl, b6⟩
      have how6 := own_past b6 how5
      have hl6 := hl5.below' b6
      have B6 := B5.trans (b6.mono z5)
      have z6 := B6.size
      clear hl5 how5 b6 x4' x5
      go_wp2_with fail
      refine (all_any _ _ ls _ hl6 (by omega)).mono ?_
      rintro e w7 ⟨v7, rfl, ho7, b7⟩
      obtain ⟨A7, c7, rfl, _⟩ := (own_BS ho7).form
      have x7 := own_BS ho7
      have how7 := own_past b7 how6
      have B7 := B6.trans (b7.mono z6)
      have z7 := B7.size
      clear hl6 how6 b7 ho7
      go_wp2_with fail
      refine (same_to _ _ _ _ (flat ls) _ x7 (own_BS how7)).mono ?_
      rintro e w8 ⟨rfl, b8⟩
      have B8 := B7.trans (b8.mono z7)
      have z8 := B8.size
      clear x7 how7 b8
      go_wp2_with fail
      refine (live_any _).mono ?_
      rintro e w9 ⟨rfl, b9⟩
      go_wp2
      go_ret
      exact ⟨rfl, B8.trans (b9.mono z8)⟩

theorem tlvPuts_long (n i : Int) (vl : Value) (m : Nat) (A : Option Addr) (c : Nat) (hv : vl = .slice A m c) (w : World) (h1 : 50 < m) :
    Calls Try.prog 3 #[.int .u64 n, .int .i64 i, vl] w fun e w' => e = .returned (.bool true) ∧ Below w.heap.size w w' := by
  subst hv
  go_enter Try.func3, Try.ntmps3
  go_wp2_with fail
  refine (live_any _).mono ?_
  rintro e w1 ⟨rfl, b1⟩
  go_wp2
  go_ret
  exact ⟨rfl, b1⟩

theorem tlvPuts_law {H : Type} (enc : TypeId × Value → H) (W : World) (base : Nat) (v0 : Value) (d0 : DataW H) (p0 : List MemPlace) (v1 : Value) (d1 : DataW H) (p1 : List MemPlace) (v2 : Value) (d2 : DataW H) (p2 : List MemPlace)
    (ok0 : Value.okWide Try.prog W .any base 22 v0) (ok1 : Value.okWide Try.prog W .any base 3 v1) (ok2 : Value.okWide Try.prog W .any base 23 v2)
    (h0 : DataW.Trod enc Try.prog W 0 (fun _ => true) true 22 v0 d0 p0) (h1 : DataW.Trod enc Try.prog W 0 (fun _ => true) true 3 v1 d1 p1) (h2 : DataW.Trod enc Try.prog W 0 (fun _ => true) true 23 v2 d2 p2) :
    Calls Try.prog 3 #[v0, v1, v2] W fun e W' => e = .returned (.bool true) ∧ Below W.heap.size W W' := by
  obtain ⟨n, rfl, rfl, rfl, w0⟩ := open_int Try.underlying22 ok0 h0
  obtain ⟨i, rfl, rfl, rfl, w1⟩ := open_int Try.underlying3 ok1 h1
  have hn : 0 ≤ n ∧ n ≤ 18446744073709551615 := by simpa [Lit.wf, IntKind.min, IntKind.max, IntKind.signed, IntKind.bits] using w0
  obtain ⟨a0, len, cap, rfl⟩ := okWide_slice Try.underlying23 ok2
  obtain ⟨fuel, hf⟩ := h2
  obtain ⟨ls, hls⟩ := LS_of_trod (x := _) hf
  by_cases hl : 50 < len
  · exact tlvPuts_long n i _ len a0 cap rfl W hl
  · obtain ⟨n', rfl⟩ := Int.eq_ofNat_of_zero_le hn.1
    obtain ⟨A, c, e, _⟩ := hls.form
    injection e with _ e2 _
    exact tlvPuts_main n' (by omega) i _ ls W hls (by omega)

end Go.Proofs.Ytcmklfknhlfenaa
