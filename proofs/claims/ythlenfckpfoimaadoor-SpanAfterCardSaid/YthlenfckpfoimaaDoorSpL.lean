/-
  The law's own functions of layer 15: num, live (the page's examples), over the loaded program: each one's contract. No condition but that the library's table of powers of ten is as laid.
-/
import Derived.Test.YthlenfckpfoimaaDoorSpF
namespace Go.Proofs.YthlenfckpfoimaaDoor
open Go.RowKit
set_option maxRecDepth 100000
set_option linter.unusedVariables false

theorem num15_any (n : Int) (w : World) : Calls Tryd.prog 11 #[.int .i64 n] w fun e w' => e = .returned (.int .i64 n) ∧ w = w' := by
  go_enter Tryd.func11, Tryd.ntmps11
  go_wp2
  go_ret
  exact ⟨rfl, rfl⟩

theorem text_730 : textD 730 = [50, 121] := by
  show Lib.decDigits 2 ++ [121] = _
  rw [Lib.decDigits_one (by omega)]; rfl
theorem text_60 : textD 60 = [50, 109] := by
  show Lib.decDigits 2 ++ [109] = _
  rw [Lib.decDigits_one (by omega)]; rfl
theorem text_8 : textD 8 = [56, 100] := by
  show Lib.decDigits 8 ++ [100] = _
  rw [Lib.decDigits_one (by omega)]; rfl
theorem parse_3w : parseD [51, 119] = (21, 0) := by decide

/-- live. -/
theorem live15_any (w : World) (hp : Pow w) : Calls Tryd.prog 6 #[] w fun e w' => e = .returned (.bool true) ∧ Below w.heap.size w w' := by
  have h1 := fun w hp => text15_any 730 w hp
  have h2 := fun w hp => text15_any 60 w hp
  have h3 := fun w hp => text15_any 8 w hp
  rw [text_730] at h1
  rw [text_60] at h2
  rw [text_8] at h3
  have h4 := parse15_any [51, 119] (by unfold maxLen; simp)
  rw [parse_3w] at h4
  have e1 := str_eq [50, 121] [50, 121]
  have e2 := str_eq [50, 109] [50, 109]
  have e3 := str_eq [56, 100] [56, 100]
  rw [decide_eq_true rfl] at e1 e2 e3
  unfold strV at h1 h2 h3 h4
  unfold pairV at h4
  obtain ⟨s1, hs1⟩ : ∃ s : ByteArray, s = ⟨([50, 121] : List UInt8).toArray⟩ := ⟨_, rfl⟩
  obtain ⟨s2, hs2⟩ : ∃ s : ByteArray, s = ⟨([50, 109] : List UInt8).toArray⟩ := ⟨_, rfl⟩
  obtain ⟨s3, hs3⟩ : ∃ s : ByteArray, s = ⟨([56, 100] : List UInt8).toArray⟩ := ⟨_, rfl⟩
  have E1 : (s1.toList == ({ data := #[50, 121] } : ByteArray).toList) = true := by rw [hs1]; exact e1
  have E2 : (s2.toList == ({ data := #[50, 109] } : ByteArray).toList) = true := by rw [hs2]; exact e2
  have E3 : (s3.toList == ({ data := #[56, 100] } : ByteArray).toList) = true := by rw [hs3]; exact e3
  have G1 : (s1.toList == [50, 121]) = true := by rw [hs1, Lib.toList_data]; rfl
  have G2 : (s2.toList == [50, 109]) = true := by rw [hs2, Lib.toList_data]; rfl
  have G3 : (s3.toList == [56, 100]) = true := by rw [hs3, Lib.toList_data]; rfl
  rw [← hs1] at h1
  rw [← hs2] at h2
  rw [← hs3] at h3
  clear hs1 hs2 hs3 e1 e2 e3
  have H1 := Lib.hid h1
  have H2 := Lib.hid h2
  have H3 := Lib.hid h3
  have H4 := Lib.hid h4
  clear h1 h2 h3 h4
  go_enter Tryd.func6, Tryd.ntmps6
  go_wp2_with fail
  refine (H4.out _).mono ?_
  rintro e w' ⟨rfl, rfl⟩
  go_wp2_with fail
  refine (H1.out _ hp).mono ?_
  rintro e w1 ⟨rfl, b1⟩
  have hp1 := hp.below b1
  go_wp2_with fail
  refine (H2.out _ hp1).mono ?_
  rintro e w2 ⟨rfl, b2⟩
  have hp2 := hp1.below b2
  go_wp2_with fail
  refine (H3.out _ hp2).mono ?_
  rintro e w3 ⟨rfl, b3⟩
  go_wp2_with (go_at_call 11; refine (num15_any _ _).mono ?_; rintro e w' ⟨rfl, rfl⟩)
  go_ret
  exact ⟨rfl, (b1.trans (b2.mono b1.size)).trans (b3.mono (Nat.le_trans b1.size b2.size))⟩
end Go.Proofs.YthlenfckpfoimaaDoor
