/-
  The document's own answers of layer 1: Num, Int, Text, Value and the Reader's methods: each one's contract over the loaded program.
  No condition but the worlds' shapes that each contract names.
-/
import Derived.Test.YtgahnjhibpcbaaaTlvC
import Derived.Test.YtgahnjhibpcbaaaSame
import Derived.Test.YtgahnjhibpcbaaaCopy
namespace Go.Proofs.Ytgahnjhibpcbaaa
open Go.RowKit

theorem rnum_any (n : Nat) (w : World) (h : n < 18446744073709551616) :
    Calls Try.prog 50 #[.int .u64 n] w fun e w' => Fresh w e w' (numb n) := by
  obtain ⟨i0, hi, hz0, hz1, hz2⟩ := info_parts info_byte
  have HR : Hid (numb n = UInt8.ofNat (dig 8 n).length :: dig 8 n) := rfl
  have h8 := dig_length_le 8 n
  have HD0 : Hid (dig 8 n = dig 8 n ++ []) := by show _ = _; simp
  have HV : Hid (val (dig 8 n) = n) := dig_val 8 n (by simpa using h)
  have HN := Lib.hid h
  generalize numb n = R at *
  generalize hD : dig 8 n = D at HR h8 HD0 HV
  have HE := Lib.hid hD
  clear hD h
  go_enter Try.func50, Try.ntmps50
  go_wp2
  go_loopw [0, 3] (fun nv v wr => ∃ (f m : Nat) (tl : List UInt8), Hid (D = dig f m ++ tl) ∧ Hid (val (dig f m) = m) ∧ Hid (m < 18446744073709551616) ∧ nv = .int .u64 m ∧ wr.ownsRow w.heap.size 5 1 v tl.length (tl.map bv) ∧ Below w.heap.size w wr)
    (fun nv _ _ => (intOf nv).toNat)
  case atStart => exact ⟨8, n, [], by show D = _; rw [HE.out]; simp, by show _ = _; rw [HE.out]; exact HV.out, HN, rfl, World.ownsRow_nil _ _ _ _, Below.refl _ _⟩
  case round =>
    obtain ⟨f, m, tl, hD, hv, hm, rfl, how, hbl⟩ := hrel
    by_cases h0 : m = 0
    · subst h0
      have e : dig f 0 = [] := by cases f <;> simp [dig]
      have e2 := hD.out
      rw [e, List.nil_append] at e2
      subst e2
      clear e hD hv
      have hb := hbl.size
      obtain ⟨A1, c1, rfl, _⟩ := (own_BS how).form
      have hbs := own_BS how
      have HB : Hid (UInt8.ofNat (D.length % 256) = UInt8.ofNat D.length) := by show _ = _; rw [Nat.mod_eq_of_lt (by omega)]
      have HM : Hid (Value.int .u8 (D.length : Int) = bv (UInt8.ofNat (D.length % 256))) := by show _ = _; rw [← byte_mod]; congr 1; omega
      go_wp2_with (at_builtin; simp only [HM.out]; refine wpList_grow _ rfl _ _ _ rfl w.heap.size 5 i0 Try.underlying27 hi hz0 hz1 hz2 (.slice (some ⟨wr.heap.size, 0, none⟩) 1 1) [UInt8.ofNat (D.length % 256)] rfl (lit_one wr D.length _ hb) _ _ D rfl (hbs.alloc _) (by simp; omega) (by simp; omega) ?_; intro v2 w2 how2 hg2 _)
      go_ret
      rw [HB.out] at how2
      refine ⟨_, rfl, ?_, (hbl.alloc hb _).grown hg2 (by simp; omega) (by simp [Value.ownBlock]; omega)⟩
      rw [HR.out]
      exact how2
    · have hlt : 0 < m := by omega
      obtain ⟨f', rfl⟩ : ∃ f', f = f' + 1 := by
        cases f with
        | zero => have := hv.out; simp [dig, val] at this; omega
        | succ f => exact ⟨f, rfl⟩
      have e : dig (f' + 1) m = dig f' (m / 256) ++ [UInt8.ofNat (m % 256)] := by simp only [dig, if_neg h0]
      have e1 := hD.out
      have e2 := hv.out
      rw [e] at e1 e2
      rw [val_snoc] at e2
      have hu : (UInt8.ofNat (m % 256)).toNat = m % 256 := by simp
      have E1 := Lib.hid e1
      have E2 : Hid (val (dig f' (m / 256)) = m / 256) := by show _ = _; omega
      have EW : Hid (IntKind.u64.wrap ((m : Int) / 256) = ((m / 256 : Nat) : Int)) := by
        have := hm.out
        show _ = _
        rw [IntWalk.u64_in _ (by omega)]; omega
      have EM : Hid (m / 256 < 18446744073709551616) := by
        have := hm.out
        show _ < _
        omega
      have hb := hbl.size
      have hbs := own_BS how
      have hle : tl.length ≤ 8 := by have := congrArg List.length e1; simp at this; omega
      obtain ⟨A1, c1, rfl, _⟩ := hbs.form
      clear hu e1 e2 e hD hv
      go_wp2_with (at_builtin; simp only [byte_mod]; refine wpList_grow _ rfl _ _ _ rfl w.heap.size 5 i0 Try.underlying27 hi hz0 hz1 hz2 (.slice (some ⟨wr.heap.size, 0, none⟩) 1 1) [UInt8.ofNat (m % 256)] rfl (lit_one wr m _ hb) _ _ tl rfl (hbs.alloc _) (by simp; omega) (by simp; omega) ?_; intro v2 w2 how2 hg2 _)
      go_roundw
      case rel =>
        refine ⟨f', m / 256, UInt8.ofNat (m % 256) :: tl, ?_, E2.out, EM, by rw [EW.out], ?_, (hbl.alloc hb _).grown hg2 (by simp; omega) (by simp [Value.ownBlock]; omega)⟩
        · show D = _
          rw [E1.out, List.append_assoc]; rfl
        · exact how2
      case measure => rw [EW.out]; simp [intOf]; omega

theorem rint_any (i : Int) (w : World) :
    Calls Try.prog 26 #[.int .i64 i] w fun e w' => Fresh w e w' (numb (u64 i)) := by
  go_enter Try.func26, Try.ntmps26
  go_wp2_with (go_at_call 50; rw [u64_wrap]; refine (rnum_any (u64 i) _ (u64_lt i)).mono ?_; rintro e w1 ⟨v, rfl, hown, hb⟩)
  go_ret
  exact ⟨v, rfl, hown, hb⟩

theorem rtext_any (S : Nat → Prop) (v : Value) (l : List UInt8) (w : World) (h : BS w S v l) (hl : l.length ≤ 140737488000000) :
    Calls Try.prog 25 #[v] w fun e w' => Fresh w e w' (texb l) := by
  obtain ⟨i0, hi, hz0, hz1, hz2⟩ := info_parts info_byte
  obtain ⟨A, c, rfl, _⟩ := h.form
  have h8 : (numb l.length).length ≤ 9 := by have := dig_length_le 8 l.length; simp [numb]; omega
  have HT : Hid (texb l = numb l.length ++ l) := rfl
  go_enter Try.func25, Try.ntmps25
  go_wp2_with fail
  refine (rnum_any l.length _ (by omega)).mono ?_
  rintro e w1 ⟨v1, rfl, hown, hb⟩
  have hbl := h.below' hb
  generalize numb l.length = N at *
  have hs := hb.size
  go_wp2_with (at_builtin; refine wpList_grow _ rfl _ _ _ rfl w.heap.size 5 i0 Try.underlying27 hi hz0 hz1 hz2 v1 N rfl hown S _ l rfl hbl (by omega) hs ?_; intro v2 w2 how2 hg2 _)
  go_ret
  rw [← HT.out] at how2
  exact ⟨_, rfl, how2, hb.grown hg2 hs fun g hg => (hown.lt g hg).1⟩

end Go.Proofs.Ytgahnjhibpcbaaa
