/-
  All from its labels on (layer 16): a quoted text; days; a word that is taken. No condition.
-/
import Derived.Test.YtndmdenhmcmbcaaDoorLxC
import Derived.Test.YtndmdenhmcmbcaaDoorInB
import Derived.Test.YtndmdenhmcmbcaaDoorSpD
namespace Go.Proofs.YtndmdenhmcmbcaaDoor
open Go.RowKit
set_option maxRecDepth 100000
set_option linter.unusedVariables false

theorem drop_next {s : List UInt8} {i : Nat} {c : UInt8} {l : List UInt8} (h : s.drop i = c :: l) : i < s.length ∧ s.drop (i + 1) = l ∧ l.length + 1 + i = s.length := by
  have hl := congrArg List.length h
  rw [List.length_drop, List.length_cons] at hl
  refine ⟨by omega, ?_, by omega⟩
  rw [← List.drop_drop, h]
  rfl

set_option maxHeartbeats 2000000 in
/-- A quoted text. -/
theorem pass_4 (s : List UInt8) (w0 : World) : ∃ rest, findLabel bodyX 4 = some (Code.skip.seq rest) ∧ ∀ m a w, KX s w0 m 4 a w → rest.wp Tryd.prog (JX s w0 m) a w := by
  refine ⟨_, rfl, ?_⟩
  rintro m a w ⟨v, x, y, e, cv, f, acc, row, rfl, H, i, c, l, rfl, rfl, hh, hc, rfl, rfl⟩
  obtain ⟨hi, hd, hlen⟩ := drop_next hh.at_
  have h6 := hh.six
  obtain ⟨j1, hj1⟩ : ∃ j, j = i + 1 := ⟨_, rfl⟩
  have hcut : ∀ W : World, (Instr.slice 9 (strV s) (some (.int .i64 (j1 : Int))) none none).run Tryd.prog W = .ok (strV l) W := by
    have := txt_from s (i + 1) hi
    rw [hd] at this
    rw [hj1]
    exact this
  have hah := ahead_any l (by unfold maxLen; omega) 34
  have hle := takeN_le noQ l
  rw [noQ_is] at hah
  have hsz : ((⟨(l.take (takeN noQ l)).toArray⟩ : ByteArray).size : Int) = (takeN noQ l : Int) := by
    rw [str_size, List.length_take]
    omega
  have hzs : ((⟨s.toArray⟩ : ByteArray).size : Int) = (s.length : Int) := rfl
  have ho : oneC c l = quoteW l := one_quote hc
  obtain ⟨k, hk⟩ : ∃ k, k = takeN noQ l := ⟨_, rfl⟩
  rw [← hk] at hah hle hsz
  obtain ⟨j2, hj2⟩ : ∃ j, j = i + k := ⟨_, rfl⟩
  obtain ⟨j3, hj3⟩ : ∃ j, j = i + k + 2 := ⟨_, rfl⟩
  obtain ⟨j4, hj4⟩ : ∃ j, j = i + k + 1 := ⟨_, rfl⟩
  have hw1 : IntKind.i64.wrap ((i : Int) + 1) = (j1 : Int) := by rw [IntKind.wrap_i64]; omega
  have hw2 : IntKind.i64.wrap ((i : Int) + (k : Int)) = (j2 : Int) := by rw [IntKind.wrap_i64]; omega
  have hw3 : IntKind.i64.wrap ((j2 : Int) + 2) = (j3 : Int) := by rw [IntKind.wrap_i64]; omega
  have hw4 : IntKind.i64.wrap ((j3 : Int) - 1) = (j4 : Int) := by rw [IntKind.wrap_i64]; omega
  have HH := Lib.hid H
  by_cases hq : k < l.length
  · have hmid : ∀ W : World, (Instr.slice 9 (strV s) (some (.int .i64 (j1 : Int))) (some (.int .i64 (j4 : Int))) none).run Tryd.prog W = .ok (strV (l.take k)) W := by
      have := txt_mid s .i64 .i64 (i + 1) (i + k + 1) (by omega) (by omega)
      rw [hd, show i + k + 1 - (i + 1) = k by omega] at this
      rw [hj1, hj4]
      exact this
    have hna := name_any (l.take k)
    have D1 : j3 ≤ s.length := by omega
    cases hn : nameS (l.take k) with
    | true =>
      have he : (oneC c l) = ⟨2, l.take k, 0, k + 2, 0⟩ := by rw [ho]; unfold quoteW; rw [← hk, if_pos ⟨hq, hn⟩]
      rw [hn] at hna
      have HGO := Lib.hid (fun a w' v e cc H => @to_6 s w0 w' (4 * (s.length - i) + 2) i acc a v e cc #[.int .i64 2, strV [], .int .i64 0, .int .i64 (i : Int)] (by omega) c l hh (by rw [he]) j3 (by rw [he]; show j3 = i + (k + 2); omega) H)
      have HR : Hid ((#[.int .i64 2, strV [], .int .i64 0, .int .i64 (i : Int)] : Array Value) = #[.int .i64 ((oneC c l).kind : Int), strV [], .int .i64 (oneC c l).n, .int .i64 (i : Int)]) := by show _ = _; rw [he]; rfl
      unfold strV at *
      generalize (⟨(l.take k).toArray⟩ : ByteArray) = u at *
      generalize (⟨l.toArray⟩ : ByteArray) = t at *
      generalize (⟨s.toArray⟩ : ByteArray) = z at *
      clear H hh hc hle h6 hi ho hk he hn hq hd hlen hj1 hj2 hj3 hj4
      unfold frX
      go_wp2_with (first
        | (go_at_call 15; refine (hah _).mono ?_; rintro e w' ⟨rfl, b⟩; have K := (HH.out.below b).kb; have c0 : w'.cell? ⟨w0.heap.size, 0, none⟩ = some (.int .i64 0) := K.cell 0; have f0 := K.free 0)
        | (go_at_call 16; refine (hna _).mono ?_; rintro e w2 ⟨rfl, b2⟩))
      go_step3
      exact HGO.out _ _ _ _ _ rfl (((HH.out.below b).put 0 _).below b2) HR.out
    | false =>
      have he : oneC c l = badW 2 := by rw [ho]; unfold quoteW; rw [← hk, if_neg (fun h => by rw [hn] at h; exact absurd h.2 (by decide))]
      have hb := all_bad h6 hh.lead hh.at_ hh.no hh.nob (by rw [he]; decide)
      rw [he] at hb
      rw [hn] at hna
      have HGO := Lib.hid (fun a w' v y cc row => @to_0 s w0 w' (4 * (s.length - i) + 2) i acc a v y cc row (by omega) 2 hb)
      unfold strV at *
      generalize (⟨(l.take k).toArray⟩ : ByteArray) = u at *
      generalize (⟨l.toArray⟩ : ByteArray) = t at *
      generalize (⟨s.toArray⟩ : ByteArray) = z at *
      clear H hh hc hle h6 hi ho hk he hn hq hd hlen hj1 hj2 hj3 hj4 hb
      unfold frX
      go_wp2_with (first
        | (go_at_call 15; refine (hah _).mono ?_; rintro e w' ⟨rfl, b⟩; have K := (HH.out.below b).kb; have c0 : w'.cell? ⟨w0.heap.size, 0, none⟩ = some (.int .i64 0) := K.cell 0; have f0 := K.free 0)
        | (go_at_call 16; refine (hna _).mono ?_; rintro e w2 ⟨rfl, b2⟩))
      go_step3
      exact HGO.out _ _ _ _ _ _ rfl (((HH.out.below b).put 0 _).below b2)
  · have he : oneC c l = badW 2 := by rw [ho]; unfold quoteW; rw [← hk, if_neg (fun h => hq h.1)]
    have hb := all_bad h6 hh.lead hh.at_ hh.no hh.nob (by rw [he]; decide)
    rw [he] at hb
    have D1 : ¬ j3 ≤ s.length := by omega
    have HGO := Lib.hid (fun a w' v y cc row => @to_0 s w0 w' (4 * (s.length - i) + 2) i acc a v y cc row (by omega) 2 hb)
    unfold strV at *
    generalize (⟨(l.take k).toArray⟩ : ByteArray) = u at *
    generalize (⟨l.toArray⟩ : ByteArray) = t at *
    generalize (⟨s.toArray⟩ : ByteArray) = z at *
    clear H hh hc hle h6 hi ho hk he hq hd hlen hj1 hj2 hj3 hj4 hb
    unfold frX
    go_wp2_with (go_at_call 15; refine (hah _).mono ?_; rintro e w' ⟨rfl, b⟩; have K := (HH.out.below b).kb; have c0 : w'.cell? ⟨w0.heap.size, 0, none⟩ = some (.int .i64 0) := K.cell 0; have f0 := K.free 0)
    go_step3
    exact HGO.out _ _ _ _ _ _ rfl ((HH.out.below b).put 0 _)
end Go.Proofs.YtndmdenhmcmbcaaDoor
