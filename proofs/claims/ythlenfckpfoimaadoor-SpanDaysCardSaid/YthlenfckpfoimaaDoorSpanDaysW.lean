/-
  The law SpanDays over the loaded program: every number of every unit; every number's text, and every text's number. No condition but that the library's table of powers of ten is as laid.
-/
import Derived.Test.YthlenfckpfoimaaDoorSpH
import Derived.Test.YthlenfckpfoimaaDoorSpL
import Derived.Test.YthlenfckpfoimaaDoorSpanAfterW
import Derived.Test.YthlenfckpfoimaaDoorTxt
namespace Go.Proofs.YthlenfckpfoimaaDoor
open Go.RowKit Go.ChangeShapes Go.WideShapes Go.Joins
set_option maxRecDepth 100000
set_option linter.unusedVariables false

set_option maxHeartbeats 2000000 in
theorem span_days (n : Int) (hn : I64 n) (c : UInt8) (l : List UInt8) (hl : l.length ≤ maxLen) (w : World) (hp : Pow w) :
    Calls Tryd.prog 3 #[.int .i64 n, .int .u8 (c.toNat : Int), strV l] w fun e w' => e = .returned (.bool true) ∧ Below w.heap.size w w' := by
  have hs : ((⟨l.toArray⟩ : ByteArray).size : Int) = (l.length : Int) := rfl
  have h1 := days15_any n hn c
  have h2 := rdays15_any n hn c
  have h3 := parse15_any l hl
  have h4 := rparse15_any l hl
  have h5 := fun w hp => text15_any n w hp
  have h6 := fun w => rtext15_any n w
  have h8 := fun w hp => live15_any w hp
  generalize daysD n c.toNat = q at *
  generalize parseD l = p at *
  generalize textD n = t at *
  generalize c.toNat = cc at *
  obtain ⟨p1, p2⟩ := p
  obtain ⟨q1, q2⟩ := q
  unfold pairV at h3 h4
  unfold strV at *
  simp only at h1 h2 h3 h4
  have hml : l.length ≤ 9223372036854775807 := by unfold maxLen at hl; omega
  generalize (⟨l.toArray⟩ : ByteArray) = s at *
  generalize (⟨t.toArray⟩ : ByteArray) = ts at *
  have H5 := Lib.hid h5
  have H6 := Lib.hid h6
  have H8 := Lib.hid h8
  clear hn hl h5 h6 h8
  by_cases h0 : 300 < l.length
  · have D : decide ((300 : Int) < (l.length : Int)) = true := decide_eq_true (by omega)
    go_enter Tryd.func3, Tryd.ntmps3
    go_wp2_with fail
    refine (H8.out _ hp).mono ?_
    rintro e w1 ⟨rfl, b1⟩
    go_wp2
    go_ret
    exact ⟨rfl, b1⟩
  · have D : decide ((300 : Int) < (l.length : Int)) = false := decide_eq_false (by omega)
    have E : (ts.toList == ts.toList) = true := by simp
    go_enter Tryd.func3, Tryd.ntmps3
    go_wp2_with (first
      | (go_at_call 7; refine (h1 _).mono ?_; rintro e w' ⟨rfl, rfl⟩)
      | (go_at_call 8; refine (h2 _).mono ?_; rintro e w' ⟨rfl, rfl⟩)
      | (go_at_call 9; refine (h3 _).mono ?_; rintro e w' ⟨rfl, rfl⟩)
      | (go_at_call 10; refine (h4 _).mono ?_; rintro e w' ⟨rfl, rfl⟩)
      | (go_at_call 11; refine (num15_any _ _).mono ?_; rintro e w' ⟨rfl, rfl⟩))
    refine (H5.out _ hp).mono ?_
    rintro e w1 ⟨rfl, b1⟩
    have hp1 := hp.below b1
    go_wp2_with fail
    refine (H6.out _).mono ?_
    rintro e w2 ⟨rfl, b2⟩
    have hp2 := hp1.below b2
    go_wp2_with fail
    refine (H8.out _ hp2).mono ?_
    rintro e w3 ⟨rfl, b3⟩
    go_wp2
    go_ret
    exact ⟨rfl, (b1.trans (b2.mono b1.size)).trans (b3.mono (Nat.le_trans b1.size b2.size))⟩

theorem spanDays_law {H : Type} (enc : TypeId × Value → H) (W : World) (base : Nat) (hp : Pow W)
    (v0 : Value) (d0 : DataW H) (p0 : List MemPlace) (v1 : Value) (d1 : DataW H) (p1 : List MemPlace) (v2 : Value) (d2 : DataW H) (p2 : List MemPlace)
    (k0 : Value.okWide Tryd.prog W .any base 3 v0) (k1 : Value.okWide Tryd.prog W .any base 5 v1) (k2 : Value.okWide Tryd.prog W .any base 9 v2)
    (h0 : DataW.Trod enc Tryd.prog W 0 (fun _ => true) true 3 v0 d0 p0) (h1 : DataW.Trod enc Tryd.prog W 0 (fun _ => true) true 5 v1 d1 p1) (h2 : DataW.Trod enc Tryd.prog W 0 (fun _ => true) true 9 v2 d2 p2) :
    Calls Tryd.prog 3 #[v0, v1, v2] W fun e W' => e = .returned (.bool true) ∧ Below W.heap.size W W' := by
  obtain ⟨n, rfl, rfl, rfl, w0⟩ := open_int Tryd.underlying3 k0 h0
  obtain ⟨c, rfl, rfl, rfl, w1⟩ := open_int Tryd.underlying5 k1 h1
  obtain ⟨l, rfl, hl⟩ := open_str k2 h2
  rw [← byteOf_nat w1]
  exact span_days n (i64_wf w0) (byteOf c) l hl W hp
end Go.Proofs.YthlenfckpfoimaaDoor
