/-
  The law LexOrder over the loaded program: a text's words stand in order, and what is between them is blank, or a remark. No condition.
-/
import Derived.Test.YtndmdenhmcmbcaaDoorLxL
import Derived.Test.YtndmdenhmcmbcaaDoorArgs
import Derived.BigQuiet
namespace Go.Proofs.YtndmdenhmcmbcaaDoor
open Go.RowKit Go.ChangeShapes Go.WideShapes Go.Joins
set_option maxRecDepth 100000
set_option linter.unusedVariables false

theorem ord_end {s : List UInt8} {l : List Tk} {k i : Nat} (hk : k = l.length) (h : OrdT s i (l.drop k)) : i + skipN false (s.drop i) = s.length := by
  rw [hk, List.drop_length] at h
  exact h
theorem ord_step {s : List UInt8} {l : List Tk} {k i : Nat} {t : Tk} (ht : l[k]? = some t) (h : OrdT s i (l.drop k)) :
    i + skipN false (s.drop i) = t.at_ ∧ 1 ≤ t.size ∧ t.at_ + t.size ≤ s.length ∧ OrdT s (t.at_ + t.size) (l.drop (k + 1)) := by
  obtain ⟨hk, e⟩ := List.getElem?_eq_some_iff.1 ht
  rw [List.drop_eq_getElem_cons hk, e] at h
  exact h

set_option maxHeartbeats 8000000 in
theorem lex_order (s : List UInt8) (hs : s.length ≤ maxLen) (w : World) :
    Calls Tryd.prog 4 #[strV s] w fun e w' => e = .returned (.bool true) ∧ Below w.heap.size w w' := by
  have hzs : ((⟨s.toArray⟩ : ByteArray).size : Int) = (s.length : Int) := rfl
  have ha := all16_any s hs
  have hlive := live16_any
  have hnum := num16_any
  have hord := @all_ord s
  have hsk := skip_any s hs
  unfold AllAs at ha
  obtain ⟨r, hr⟩ : ∃ r, r = allS s := ⟨_, rfl⟩
  rw [← hr] at ha hord
  obtain ⟨ts, n, er⟩ := r
  dsimp only at ha hord
  have HS := Lib.hid hsk
  unfold strV at *
  obtain ⟨z, hz⟩ : ∃ z : ByteArray, z = ⟨s.toArray⟩ := ⟨_, rfl⟩
  rw [← hz] at ha HS hzs ⊢
  clear hr hsk hz
  by_cases h0 : 2000 < s.length
  · have D : decide ((2000 : Int) < (s.length : Int)) = true := decide_eq_true (by omega)
    have D' : 2000 < s.length := h0
    clear hord
    go_enter Tryd.func4, Tryd.ntmps4
    go_wp2_with (first
      | (go_at_call 7; refine (ha _).mono ?_; rintro e w1 ⟨v1, rfl, t1, b1⟩; obtain ⟨A1, c1, rfl, _⟩ := t1.form)
      | (go_at_call 6; refine (hlive _).mono ?_; rintro e w5 ⟨rfl, b5⟩))
    go_ret
    exact ⟨rfl, b1.trans (b5.mono b1.size)⟩
  have D' : ¬ 2000 < s.length := h0
  have D : decide ((2000 : Int) < (s.length : Int)) = false := decide_eq_false (by omega)
  by_cases he : er = 0
  · have hor := Lib.hid (hord he)
    subst he
    clear hord
    go_enter Tryd.func4, Tryd.ntmps4
    go_wp2_with (first
      | (go_at_call 7; refine (ha _).mono ?_; rintro e w1 ⟨v1, rfl, t1, b1⟩; obtain ⟨A1, c1, rfl, hc1, hm1⟩ := t1.form)
      | (go_at_call 10; refine (hnum _ _).mono ?_; rintro e w4 ⟨rfl, rfl⟩))
    have hl63 : ts.length ≤ 9223372036854775807 := by unfold maxLen at hm1; omega
    go_loopw [6, 7] (fun av iv wr => ∃ k i : Nat, k ≤ ts.length ∧ i ≤ s.length ∧ iv = .int .i64 (k : Int) ∧ av = .int .i64 (i : Int) ∧ Hid (OrdT s i (ts.drop k)) ∧ Below w1.heap.size w1 wr) (fun _ iv _ => ts.length - (intOf iv).toNat)
    case atStart => exact ⟨0, 0, Nat.zero_le _, Nat.zero_le _, rfl, rfl, (by rw [List.drop_zero]; exact hor), Below.refl _ _⟩
    case round =>
      obtain ⟨k, i, hk, hi, rfl, rfl, HO, bl⟩ := hrel
      clear hor
      by_cases hlt : k < ts.length
      · have hltI : (k : Int) < (ts.length : Int) := by omega
        obtain ⟨t, ht⟩ : ∃ t, ts[k]? = some t := ⟨_, List.getElem?_eq_getElem hlt⟩
        obtain ⟨b, o, rfl, _, hb, hx⟩ := (t1.below' bl).at_ (by omega)
        obtain ⟨x0, x1, x2, x3⟩ := hx k t ht
        obtain ⟨q1, q2, q3, q4⟩ := ord_step ht HO.out
        have hski := HS.out i hi
        rw [q1] at hski
        have hski2 := fun W => (hski W).mono fun e w' h => (⟨h.1, h.2.symm⟩ : _ ∧ w' = W)
        have HQ := Lib.hid q4
        have hsz : t.size = t.text.length + (if t.kind = 2 then 2 else 0) := rfl
        obtain ⟨sz, hsz2⟩ : ∃ x, x = t.size := ⟨_, rfl⟩
        rw [← hsz2] at q2 q3 HQ hsz
        obtain ⟨kd, tx, nn, at_⟩ := t
        dsimp only at x0 x1 x2 x3 q1 q3 hsz hski HQ
        have hts : ((⟨tx.toArray⟩ : ByteArray).size : Int) = (tx.length : Int) := rfl
        unfold strV at x1
        generalize (⟨tx.toArray⟩ : ByteArray) = tt at *
        have hwk : IntKind.i64.wrap ((k : Int) + 1) = ((k + 1 : Nat) : Int) := by rw [IntKind.wrap_i64]; omega
        obtain ⟨j, hj⟩ : ∃ j, j = at_ + sz := ⟨_, rfl⟩
        have hwj : IntKind.i64.wrap ((at_ : Int) + (sz : Int)) = (j : Int) := by rw [IntKind.wrap_i64]; unfold maxLen at hs; omega
        have hwd : IntKind.i64.wrap ((s.length : Int) - (at_ : Int)) = (s.length : Int) - (at_ : Int) := by rw [IntKind.wrap_i64]; unfold maxLen at hs; omega
        have C1 : decide ((at_ : Int) < (i : Int)) = false := decide_eq_false (by omega)
        have C1' : ¬ at_ < i := by omega
        have C2 : decide ((s.length : Int) ≤ (at_ : Int)) = false := decide_eq_false (by omega)
        have C2' : ¬ s.length ≤ at_ := by omega
        have C3 : decide ((sz : Int) < 1) = false := decide_eq_false (by omega)
        have C3' : ¬ (sz : Int) < 1 := by omega
        have C4 : decide ((s.length : Int) - (at_ : Int) < (sz : Int)) = false := decide_eq_false (by omega)
        have C4' : ¬ (s.length : Int) - (at_ : Int) < (sz : Int) := by omega
        have HJ : Hid (j ≤ s.length) := by show _ ≤ _; omega
        rw [← hj] at HQ
        by_cases hkd : kd = 2
        · rw [if_pos hkd] at hsz
          have hws : IntKind.i64.wrap ((tx.length : Int) + 2) = (sz : Int) := by rw [IntKind.wrap_i64]; unfold maxLen at hs; omega
          subst hkd
          clear hx ht HO q1 q2 q3 q4 hsz2 hj hsz HS ha hb
          have B1 := bl.alloc bl.size (.cells #[.int .i64 2, .string tt, .int .i64 nn, .int .i64 (at_ : Int)] 34)
          have K1 := KB.new wr 34 #[.int .i64 2, .string tt, .int .i64 nn, .int .i64 (at_ : Int)]
          have y3 : (wr.alloc (.cells #[.int .i64 2, .string tt, .int .i64 nn, .int .i64 (at_ : Int)] 34)).cell? ⟨wr.heap.size, 3, none⟩ = some (.int .i64 (at_ : Int)) := K1.cell 3
          have HB1 := Lib.hid B1
          clear K1 B1
          go_wp2
          generalize wr.alloc (.cells #[.int .i64 2, .string tt, .int .i64 nn, .int .i64 (at_ : Int)] 34) = w2 at y3 HB1 ⊢
          go_quiet (first | (go_at_call 11; exact Calls.quiet_of_same (hski2 _)) | fail)
          have bq := Below_drawn HB1.out nq
          go_wp2
          go_roundw
          case rel => exact ⟨k + 1, j, by omega, HJ.out, by first | rfl | (rw [hwk]), by first | rfl | (rw [hwj]), HQ.out, bq⟩
          case measure => simp [intOf]; omega
        · rw [if_neg hkd, Nat.add_zero] at hsz
          have hkI : ((kd : Int) == 2) = false := by simp; omega
          subst hsz
          clear hx ht HO q1 q2 q3 q4 hsz2 hj hkd HS ha hb
          have B1 := bl.alloc bl.size (.cells #[.int .i64 (kd : Int), .string tt, .int .i64 nn, .int .i64 (at_ : Int)] 34)
          have K1 := KB.new wr 34 #[.int .i64 (kd : Int), .string tt, .int .i64 nn, .int .i64 (at_ : Int)]
          have y3 : (wr.alloc (.cells #[.int .i64 (kd : Int), .string tt, .int .i64 nn, .int .i64 (at_ : Int)] 34)).cell? ⟨wr.heap.size, 3, none⟩ = some (.int .i64 (at_ : Int)) := K1.cell 3
          have HB1 := Lib.hid B1
          clear K1 B1
          go_wp2
          generalize wr.alloc (.cells #[.int .i64 (kd : Int), .string tt, .int .i64 nn, .int .i64 (at_ : Int)] 34) = w2 at y3 HB1 ⊢
          go_quiet (first | (go_at_call 11; exact Calls.quiet_of_same (hski2 _)) | fail)
          have bq := Below_drawn HB1.out nq
          go_wp2
          go_roundw
          case rel => exact ⟨k + 1, j, by omega, HJ.out, by first | rfl | (rw [hwk]), by first | rfl | (rw [hwj]), HQ.out, bq⟩
          case measure => simp [intOf]; omega
      · obtain rfl : k = ts.length := by omega
        have hend := ord_end rfl HO.out
        have hski := HS.out i hi
        rw [hend] at hski
        clear HO hend HS ha
        go_wp2_with (first
          | (go_at_call 11; refine (hski _).mono ?_; rintro e w4 ⟨rfl, rfl⟩)
          | (go_at_call 6; refine (hlive _).mono ?_; rintro e w5 ⟨rfl, b5⟩))
        go_ret
        exact ⟨rfl, b1.trans ((bl.mono b1.size).trans (b5.mono (Nat.le_trans b1.size bl.size)))⟩
  · have hne : (er != 0) = true := by simpa using he
    clear hord
    go_enter Tryd.func4, Tryd.ntmps4
    go_wp2_with (first
      | (go_at_call 7; refine (ha _).mono ?_; rintro e w1 ⟨v1, rfl, t1, b1⟩; obtain ⟨A1, c1, rfl, _⟩ := t1.form)
      | (go_at_call 10; refine (hnum _ _).mono ?_; rintro e w4 ⟨rfl, rfl⟩)
      | (go_at_call 6; refine (hlive _).mono ?_; rintro e w5 ⟨rfl, b5⟩))
    go_ret
    exact ⟨rfl, b1.trans (b5.mono b1.size)⟩

theorem lexOrder_law {H : Type} (enc : TypeId × Value → H) (W : World) (base : Nat) (v0 : Value) (d0 : DataW H) (p0 : List MemPlace)
    (o0 : Value.okWide Tryd.prog W .any base 9 v0) (h0 : DataW.Trod enc Tryd.prog W 0 (fun _ => true) true 9 v0 d0 p0) :
    Calls Tryd.prog 4 #[v0] W fun e W' => e = .returned (.bool true) ∧ Below W.heap.size W W' := by
  obtain ⟨l, rfl, hl⟩ := open_str o0 h0
  exact lex_order l hl W
end Go.Proofs.YtndmdenhmcmbcaaDoor
