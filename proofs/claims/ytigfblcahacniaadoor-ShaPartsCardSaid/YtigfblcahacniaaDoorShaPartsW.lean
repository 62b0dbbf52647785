/-
  The law ShaParts over the loaded program: whatever parts a text comes in, the sum is that of all of it, at any time. No condition but the table's.
-/
import Derived.Test.YtigfblcahacniaaDoorShaSumsW
namespace Go.Proofs.YtigfblcahacniaaDoor
open Go.RowKit Go.ChangeShapes Go.WideShapes
set_option linter.unusedVariables false

theorem own_not {w : World} {B e size n g : Nat} {v : Value} {xs : List Value} (h : w.ownsRow B e size v n xs) (hg : g < B) : v.ownBlock ≠ some g := by
  intro e
  have := (h.lt g e).1
  omega

set_option maxRecDepth 100000 in
set_option maxHeartbeats 2000000 in
theorem shaParts_any (v : Value) (ls : List (List UInt8)) (w : World) (hl : LS w (fun b => b < w.heap.size) v ls) (ht : Tab w) :
    Calls Tryd.prog 4 #[v] w fun e w' => e = .returned (.bool true) ∧ Below w.heap.size w w' := by
  obtain ⟨i0, hi, hz0, hz1, hz2⟩ := info_parts info_byte
  obtain ⟨A, c, rfl, hc, hm⟩ := hl.form
  have hlw := Tab.below ht (Below.refl _ _)
  by_cases h30 : 30 < ls.length
  · have hl' : (30 : Int) < ls.length := by omega
    go_enter Tryd.func4, Tryd.ntmps4
    go_wp2_with (go_at_call 6; refine (live_any _ ht).mono ?_; rintro e w1 ⟨rfl, hb1⟩)
    go_ret
    exact ⟨rfl, hb1⟩
  · have hl' : (ls.length : Int) ≤ 30 := by omega
    go_enter Tryd.func4, Tryd.ntmps4
    go_wp2_with fail
    refine (hnew_any _).mono ?_
    rintro e W1 ⟨rfl, hs1, B1⟩
    have hl1 := hl.below' B1
    have t1 := ht.below B1
    have z1 := hs1.lt
    have own1 : W1.ownsRow (w.heap.size + 1) 5 1 (.slice none 0 0) ([] : List UInt8).length (([] : List UInt8).map bv) := World.ownsRow_nil _ _ _ _
    clear hlw hl1
    go_wp2
    go_loopw [4, 5] (fun a i wr => ∃ (k : Nat) (T : List UInt8), k ≤ ls.length ∧ i = .int .i64 k ∧ Hid (T = catB (ls.take k)) ∧ T.length ≤ 300 * k ∧ wr.ownsRow (w.heap.size + 1) 5 1 a T.length (T.map bv) ∧ HS wr w.heap.size T ∧ Below w.heap.size w wr)
      (fun _ i _ => ls.length - (intOf i).toNat)
    case atStart => exact ⟨0, [], by omega, rfl, rfl, by simp, own1, hs1, B1⟩
    case round =>
      obtain ⟨k, T, hk, rfl, HT, hTl, how, hsk, Bk⟩ := hrel
      have tk := ht.below Bk
      obtain ⟨Aa, ca, rfl, _⟩ := (own_BS how).form
      by_cases hlt : k < ls.length
      · have hlk := hl.keep Bk.size (fun b hb _ => Bk.block b hb)
        obtain ⟨b, o, rfl, sb, _, hcell⟩ := hlk.at_ (by omega)
        obtain ⟨A', c', hx, hbk⟩ := hcell k ls[k] (List.getElem?_eq_getElem hlt)
        have HC := Lib.hid (catB_take_succ ls k hlt)
        have hki : (k : Int) < ls.length := by omega
        generalize ls[k] = p at *
        clear hcell
        by_cases h300 : 300 < p.length
        · have hp : (300 : Int) < p.length := by omega
          go_wp2_with (go_at_call 6; refine (live_any _ tk).mono ?_; rintro e w1 ⟨rfl, hb1⟩)
          go_ret
          exact ⟨rfl, Bk.trans (hb1.mono Bk.size)⟩
        · have hp : (p.length : Int) ≤ 300 := by omega
          have HT2 : Hid (T ++ p = catB (ls.take (k + 1))) := by show _ = _; rw [HC.out, ← HT.out]
          have hx2 := hx
          go_wp2_with (at_builtin; refine wpList_grow _ rfl (.tmp 24) (.tmp 28) _ rfl (w.heap.size + 1) 5 i0 Tryd.underlying22 hi hz0 hz1 hz2 (.slice Aa T.length ca) T rfl how _ _ p rfl hbk (by omega) (by have := hsk.lt; omega) ?_; intro v2 W2 own2 g2 at2; have hsk2 : HS W2 w.heap.size T := hsk.keep (g2.block _ hsk.lt (fun e => own_not how (by omega) e.symm)); have B2 : Below w.heap.size w W2 := Bk.grown g2 Bk.size (fun q hq => by have := (how.lt q hq).1; omega); have hx3 : W2.cell? ⟨b, o + k, none⟩ = some (.slice A' p.length c') := (World.cell?_of_block (w := wr) ((B2.block b sb).trans (Bk.block b sb).symm)).trans hx2; clear hx)
          have hbk2 := hbk.keep (w' := W2) g2.size (fun b hb _ => (B2.block b hb).trans (Bk.block b hb).symm)
          refine (write_any _ _ p w.heap.size T _ hsk2 hbk2 (by simp) (ht.below B2) (by have := ht.1; omega) (by omega)).mono ?_
          rintro e W3 ⟨rfl, hs3, g3⟩
          have B3 := B2.trans (below_of_grown' g3 (Nat.le_refl _) B2.size)
          have own3 := own2.kept g3 (.inr (own_not own2 (by omega)))
          have hUl : (T ++ p).length ≤ 300 * (k + 1) := by rw [List.length_append]; omega
          clear own2 g2 at2 hsk2 B2 hx3 hx2 hbk hbk2 how g3 hsk Bk tk hlk HC
          generalize T ++ p = U at *
          have hsame := same32 (sumB U) (sumB_length U)
          have hsum := sum_any w.heap.size U W3 hs3 (ht.below B3) (by omega)
          have hcat : catB [U] = U := by simp [catB]
          have HOF : Hid (∀ W v, LS W (fun b => b < W.heap.size) v [U] → Tab W → Calls Tryd.prog 7 #[v] W fun e w' => e = .returned (.agg ((sumB U).map bv).toArray) ∧ Below W.heap.size W w') := by
            intro W v hls hta
            have := of_any v [U] W hls hta (by rw [hcat]; omega)
            rw [hcat] at this
            exact this
          generalize (sumB U).map bv = ss at *
          have HSUM := Lib.hid hsum
          clear hsum hcat
          go_wp2_with fail
          refine HSUM.out.mono ?_
          rintro e W4 ⟨rfl, b4⟩
          have own4 := own_past b4 own3
          have hs4 := hs3.below b4
          have B4 := B3.trans (b4.mono B3.size)
          obtain ⟨A2, c2, rfl, _⟩ := (own_BS own4).form
          have hls5 := (LS.one (t := 22) (own_BS own4)).lt
          have B5 := B4.alloc B4.size (.cells #[.slice A2 U.length c2] 22)
          have t5 := ht.below B5
          have own5 : (W4.alloc (.cells #[.slice A2 U.length c2] 22)).ownsRow (w.heap.size + 1) 5 1 (.slice A2 U.length c2) U.length (U.map bv) := own4.alloc _
          have hs5 := hs4.below ((Below.refl W4.heap.size W4).alloc (Nat.le_refl _) (.cells #[.slice A2 U.length c2] 22))
          clear own3 hs3 B3 b4 own4 hs4 HSUM
          go_wp2_with fail
          refine (HOF.out _ _ hls5 t5).mono ?_
          rintro e W6 ⟨rfl, b6⟩
          have own6 := own_past b6 own5
          have hs6 := hs5.below b6
          have B6 := B5.trans (b6.mono B5.size)
          clear own5 hs5 b6 hls5 t5 HOF B5 B4
          go_wp2
          go_roundw
          case rel => exact ⟨k + 1, U, by omega, by go_num, HT2, hUl, own6, hs6, B6⟩
          case measure => simp [intOf]; omega
      · obtain rfl : k = ls.length := by omega
        have hT : T = catB ls := by rw [HT.out, List.take_length]
        have hlk := (hl.keep Bk.size (fun b hb _ => Bk.block b hb)).lt
        have hls5 := (LS.one (t := 22) (own_BS how)).lt
        have hsame := same32 (sumB T) (sumB_length T)
        have hcat : catB [T] = T := by simp [catB]
        have HOA : Hid (∀ W v, LS W (fun b => b < W.heap.size) v ls → Tab W → Calls Tryd.prog 7 #[v] W fun e w' => e = .returned (.agg ((sumB T).map bv).toArray) ∧ Below W.heap.size W w') := by
          intro W v hls hta
          have := of_any v ls W hls hta (by rw [← hT]; omega)
          rw [← hT] at this
          exact this
        have HOF : Hid (∀ W v, LS W (fun b => b < W.heap.size) v [T] → Tab W → Calls Tryd.prog 7 #[v] W fun e w' => e = .returned (.agg ((sumB T).map bv).toArray) ∧ Below W.heap.size W w') := by
          intro W v hls hta
          have := of_any v [T] W hls hta (by rw [hcat]; omega)
          rw [hcat] at this
          exact this
        generalize (sumB T).map bv = ss at *
        clear hls5 hT hcat HT
        go_wp2_with fail
        refine (HOA.out _ _ hlk tk).mono ?_
        rintro e W2 ⟨rfl, b2⟩
        have own2 := own_past b2 how
        have B2 := Bk.trans (b2.mono Bk.size)
        have hls5 := (LS.one (t := 22) (own_BS own2)).lt
        have B5 := B2.alloc B2.size (.cells #[.slice Aa T.length ca] 22)
        have t5 := ht.below B5
        clear how Bk hlk HOA hsk tk
        go_wp2_with fail
        refine (HOF.out _ _ hls5 t5).mono ?_
        rintro e W6 ⟨rfl, b6⟩
        have B6 := B5.trans (b6.mono B5.size)
        have t6 := ht.below B6
        clear own2 hls5 t5 b6 B5 HOF
        go_wp2_with fail
        refine (live_any _ t6).mono ?_
        rintro e W7 ⟨rfl, b7⟩
        have B7 := B6.trans (b7.mono B6.size)
        go_wp2
        go_ret
        exact ⟨rfl, B7⟩

theorem shaParts_law {H : Type} (enc : TypeId × Value → H) (W : World) (base : Nat) (ht : Tab W) (v0 : Value) (d0 : DataW H) (p0 : List MemPlace)
    (ok0 : Value.okWide Tryd.prog W .any base 29 v0) (h0 : DataW.Trod enc Tryd.prog W 0 (fun _ => true) true 29 v0 d0 p0) :
    Calls Tryd.prog 4 #[v0] W fun e W' => e = .returned (.bool true) ∧ Below W.heap.size W W' := by
  obtain ⟨a0, len, cap, rfl⟩ := okWide_slice Tryd.underlying29 ok0
  obtain ⟨m, hm⟩ := h0
  obtain ⟨ls, hl⟩ := LS_of_trod (x := _) hm
  exact shaParts_any _ ls W hl ht
end Go.Proofs.YtigfblcahacniaaDoor
