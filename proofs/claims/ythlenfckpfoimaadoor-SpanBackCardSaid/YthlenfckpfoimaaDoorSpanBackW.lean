/-
  The law SpanBack over the loaded program: what is told as a text is read; what is read is told by no longer text. No condition but that the library's table of powers of ten is as laid.
-/
import Derived.Test.YthlenfckpfoimaaDoorSpH
import Derived.Test.YthlenfckpfoimaaDoorSpL
import Derived.Test.YthlenfckpfoimaaDoorSpanAfterW
import Derived.Test.YthlenfckpfoimaaDoorTxt
namespace Go.Proofs.YthlenfckpfoimaaDoor
open Go.RowKit Go.ChangeShapes Go.WideShapes Go.Joins
set_option maxRecDepth 100000
set_option linter.unusedVariables false

theorem str_nil (t : List UInt8) : ((⟨t.toArray⟩ : ByteArray).toList == []) = decide (t = []) := by
  rw [Lib.toList_data]
  show (t == []) = _
  cases t <;> rfl

set_option maxHeartbeats 400000 in
theorem span_back (n : Int) (l : List UInt8) (hl : l.length ≤ maxLen) (w : World) (hp : Pow w) :
    Calls Tryd.prog 5 #[.int .i64 n, strV l] w fun e w' => e = .returned (.bool true) ∧ Below w.heap.size w w' := by
  have hs : ((⟨l.toArray⟩ : ByteArray).size : Int) = (l.length : Int) := rfl
  have h3 := parse15_any l hl
  have h5 := fun w hp => text15_any n w hp
  have h8 := fun w hp => live15_any w hp
  have hml : l.length ≤ 9223372036854775807 := by unfold maxLen at hl; omega
  have hk := text_parse l
  have ht : ∀ w, (0 ≤ n ∧ n ≤ 1048576) → Calls Tryd.prog 9 #[strV (textD n)] w fun e w' => e = .returned (pairV (n, 0)) ∧ w = w' := fun w h => by
    have hlen : (textD n).length ≤ maxLen := by
      unfold textD maxLen
      rw [if_neg (by omega), List.length_append, Lib.decDigits_length]
      have := nDigits_seven (n.toNat / unitD (greatD n.toNat).toNat) (Nat.le_trans (Nat.div_le_self _ _) (by omega))
      simp only [List.length_singleton]
      omega
    have := parse15_any (textD n) hlen w
    rw [parse_text n h.1 h.2] at this
    exact this
  have h9 := fun (w : World) (k : Int) (hp : Pow w) => text15_any k w hp
  have hn := text_none n
  have hz : ∀ k : Int, ((⟨(textD k).toArray⟩ : ByteArray).size : Int) = ((textD k).length : Int) := fun k => rfl
  generalize parseD l = p at *
  obtain ⟨p1, p2⟩ := p
  unfold pairV at h3 ht
  unfold strV at *
  simp only at h3 hk ht
  obtain ⟨t, het⟩ : ∃ t, t = textD n := ⟨_, rfl⟩
  rw [← het] at h5 hn ht
  have E1 : ∀ m : List UInt8, ((⟨m.toArray⟩ : ByteArray).toList == ({ data := #[] } : ByteArray).toList) = decide (m = []) := fun m => str_eq m []
  have e1 := E1 t
  have e2 := str_nil t
  generalize (⟨l.toArray⟩ : ByteArray) = s at *
  generalize (⟨t.toArray⟩ : ByteArray) = ts at *
  have H5 := Lib.hid h5
  have H8 := Lib.hid h8
  have H9 := Lib.hid h9
  have HT := Lib.hid ht
  have HZ := Lib.hid hz
  have HK := Lib.hid hk
  clear hl h5 h8 h9 ht hz hk E1 het
  by_cases h0 : 300 < l.length
  · have D : decide ((300 : Int) < (l.length : Int)) = true := decide_eq_true (by omega)
    clear hn e1 e2
    go_enter Tryd.func5, Tryd.ntmps5
    go_wp2_with fail
    refine (H8.out _ hp).mono ?_
    rintro e w1 ⟨rfl, b1⟩
    go_wp2
    go_ret
    exact ⟨rfl, b1⟩
  have D : decide ((300 : Int) < (l.length : Int)) = false := decide_eq_false (by omega)
  obtain ⟨s4, hs4⟩ : ∃ s : ByteArray, s = ⟨(textD p1).toArray⟩ := ⟨_, rfl⟩
  have h9 := fun w => H9.out w p1
  have hz := HZ.out p1
  rw [← hs4] at h9 hz
  generalize (textD p1).length = m at *
  have H9' := Lib.hid h9
  have hm : p2 = 0 → m ≤ l.length := fun h => (HK.out h).2.2
  have hk0 : p2 = 0 → 0 ≤ p1 ∧ p1 ≤ 1048576 := fun h => ⟨(HK.out h).1, (HK.out h).2.1⟩
  clear hs4 h9 HK H9 HZ
  by_cases hc1 : n < 0
  · have C1 : decide (n < 0) = true := decide_eq_true hc1
    have hne : t = [] := hn.2 (by omega)
    rw [decide_eq_true hne] at e1 e2
    clear hn HT hne
    by_cases hp2 : p2 = 0
    · have hm1 := hm hp2
      obtain ⟨hk1, hk2⟩ := hk0 hp2
      have M1 : decide (0 ≤ p1) = true := decide_eq_true hk1
      have M2 : decide (p1 ≤ 1048576) = true := decide_eq_true hk2
      have M3 : decide ((m : Int) ≤ (l.length : Int)) = true := decide_eq_true (by omega)
      subst hp2
      clear hm hk0
      go_enter Tryd.func5, Tryd.ntmps5
      go_wp2_with fail
      refine (H5.out _ hp).mono ?_
      rintro e w1 ⟨rfl, b1⟩
      have hq1 := hp.below b1
      go_wp2_with (first
        | (go_at_call 9; refine (h3 _).mono ?_; rintro e w' ⟨rfl, rfl⟩)
        | (go_at_call 11; refine (num15_any _ _).mono ?_; rintro e w' ⟨rfl, rfl⟩))
      refine (H9'.out _ hq1).mono ?_
      rintro e w2 ⟨rfl, b2⟩
      have hq2 := hq1.below b2
      go_wp2_with fail
      refine (H8.out _ hq2).mono ?_
      rintro e w3 ⟨rfl, b3⟩
      go_wp2
      go_ret
      exact ⟨rfl, (b1.trans (b2.mono b1.size)).trans (b3.mono (Nat.le_trans b1.size b2.size))⟩
    · have P : (p2 != 0) = true := by simpa using hp2
      clear hm hk0
      go_enter Tryd.func5, Tryd.ntmps5
      go_wp2_with fail
      refine (H5.out _ hp).mono ?_
      rintro e w1 ⟨rfl, b1⟩
      have hq1 := hp.below b1
      go_wp2_with (first
        | (go_at_call 9; refine (h3 _).mono ?_; rintro e w' ⟨rfl, rfl⟩)
        | (go_at_call 11; refine (num15_any _ _).mono ?_; rintro e w' ⟨rfl, rfl⟩))
      refine (H8.out _ hq1).mono ?_
      rintro e w3 ⟨rfl, b3⟩
      go_wp2
      go_ret
      exact ⟨rfl, b1.trans (b3.mono b1.size)⟩
  by_cases hc2 : 1048576 < n
  · have C1 : decide (n < 0) = false := decide_eq_false hc1
    have C2 : decide (1048576 < n) = true := decide_eq_true hc2
    have hne : t = [] := hn.2 (by omega)
    rw [decide_eq_true hne] at e1 e2
    clear hn HT hne
    by_cases hp2 : p2 = 0
    · have hm1 := hm hp2
      obtain ⟨hk1, hk2⟩ := hk0 hp2
      have M1 : decide (0 ≤ p1) = true := decide_eq_true hk1
      have M2 : decide (p1 ≤ 1048576) = true := decide_eq_true hk2
      have M3 : decide ((m : Int) ≤ (l.length : Int)) = true := decide_eq_true (by omega)
      subst hp2
      clear hm hk0
      go_enter Tryd.func5, Tryd.ntmps5
      go_wp2_with fail
      refine (H5.out _ hp).mono ?_
      rintro e w1 ⟨rfl, b1⟩
      have hq1 := hp.below b1
      go_wp2_with (first
        | (go_at_call 9; refine (h3 _).mono ?_; rintro e w' ⟨rfl, rfl⟩)
        | (go_at_call 11; refine (num15_any _ _).mono ?_; rintro e w' ⟨rfl, rfl⟩))
      refine (H9'.out _ hq1).mono ?_
      rintro e w2 ⟨rfl, b2⟩
      have hq2 := hq1.below b2
      go_wp2_with fail
      refine (H8.out _ hq2).mono ?_
      rintro e w3 ⟨rfl, b3⟩
      go_wp2
      go_ret
      exact ⟨rfl, (b1.trans (b2.mono b1.size)).trans (b3.mono (Nat.le_trans b1.size b2.size))⟩
    · have P : (p2 != 0) = true := by simpa using hp2
      clear hm hk0
      go_enter Tryd.func5, Tryd.ntmps5
      go_wp2_with fail
      refine (H5.out _ hp).mono ?_
      rintro e w1 ⟨rfl, b1⟩
      have hq1 := hp.below b1
      go_wp2_with (first
        | (go_at_call 9; refine (h3 _).mono ?_; rintro e w' ⟨rfl, rfl⟩)
        | (go_at_call 11; refine (num15_any _ _).mono ?_; rintro e w' ⟨rfl, rfl⟩))
      refine (H8.out _ hq1).mono ?_
      rintro e w3 ⟨rfl, b3⟩
      go_wp2
      go_ret
      exact ⟨rfl, b1.trans (b3.mono b1.size)⟩
  have C1 : decide (n < 0) = false := decide_eq_false hc1
  have C2 : decide (1048576 < n) = false := decide_eq_false hc2
  have hne : ¬ t = [] := fun h => by have := hn.1 h; omega
  rw [decide_eq_false hne] at e1 e2
  have ht := fun w => HT.out w ⟨by omega, by omega⟩
  clear hn HT hne
  by_cases hp2 : p2 = 0
  · have hm1 := hm hp2
    obtain ⟨hk1, hk2⟩ := hk0 hp2
    have M1 : decide (0 ≤ p1) = true := decide_eq_true hk1
    have M2 : decide (p1 ≤ 1048576) = true := decide_eq_true hk2
    have M3 : decide ((m : Int) ≤ (l.length : Int)) = true := decide_eq_true (by omega)
    subst hp2
    clear hm hk0
    go_enter Tryd.func5, Tryd.ntmps5
    go_wp2_with fail
    refine (H5.out _ hp).mono ?_
    rintro e w1 ⟨rfl, b1⟩
    have hq1 := hp.below b1
    go_wp2_with fail
    refine (ht _).mono ?_
    rintro e w' ⟨rfl, rfl⟩
    go_wp2_with fail
    refine (num15_any _ _).mono ?_
    rintro e w' ⟨rfl, rfl⟩
    go_wp2_with (first
      | (go_at_call 9; refine (h3 _).mono ?_; rintro e w' ⟨rfl, rfl⟩)
      | (go_at_call 11; refine (num15_any _ _).mono ?_; rintro e w' ⟨rfl, rfl⟩))
    refine (H9'.out _ hq1).mono ?_
    rintro e w2 ⟨rfl, b2⟩
    have hq2 := hq1.below b2
    go_wp2_with fail
    refine (H8.out _ hq2).mono ?_
    rintro e w3 ⟨rfl, b3⟩
    go_wp2
    go_ret
    exact ⟨rfl, (b1.trans (b2.mono b1.size)).trans (b3.mono (Nat.le_trans b1.size b2.size))⟩
  · have P : (p2 != 0) = true := by simpa using hp2
    clear hm hk0
    go_enter Tryd.func5, Tryd.ntmps5
    go_wp2_with fail
    refine (H5.out _ hp).mono ?_
    rintro e w1 ⟨rfl, b1⟩
    have hq1 := hp.below b1
    go_wp2_with fail
    refine (ht _).mono ?_
    rintro e w' ⟨rfl, rfl⟩
    go_wp2_with fail
    refine (num15_any _ _).mono ?_
    rintro e w' ⟨rfl, rfl⟩
    go_wp2_with (first
      | (go_at_call 9; refine (h3 _).mono ?_; rintro e w' ⟨rfl, rfl⟩)
      | (go_at_call 11; refine (num15_any _ _).mono ?_; rintro e w' ⟨rfl, rfl⟩))
    refine (H8.out _ hq1).mono ?_
    rintro e w3 ⟨rfl, b3⟩
    go_wp2
    go_ret
    exact ⟨rfl, b1.trans (b3.mono b1.size)⟩

theorem spanBack_law {H : Type} (enc : TypeId × Value → H) (W : World) (base : Nat) (hp : Pow W)
    (v0 : Value) (d0 : DataW H) (p0 : List MemPlace) (v1 : Value) (d1 : DataW H) (p1 : List MemPlace)
    (k0 : Value.okWide Tryd.prog W .any base 3 v0) (k1 : Value.okWide Tryd.prog W .any base 9 v1)
    (h0 : DataW.Trod enc Tryd.prog W 0 (fun _ => true) true 3 v0 d0 p0) (h1 : DataW.Trod enc Tryd.prog W 0 (fun _ => true) true 9 v1 d1 p1) :
    Calls Tryd.prog 5 #[v0, v1] W fun e W' => e = .returned (.bool true) ∧ Below W.heap.size W W' := by
  obtain ⟨n, rfl, rfl, rfl, w0⟩ := open_int Tryd.underlying3 k0 h0
  obtain ⟨l, rfl, hl⟩ := open_str k1 h1
  exact span_back n l hl W hp
end Go.Proofs.YthlenfckpfoimaaDoor
