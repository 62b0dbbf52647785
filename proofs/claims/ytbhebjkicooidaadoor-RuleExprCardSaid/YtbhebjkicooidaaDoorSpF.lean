/-
  A span's text: the program's Text (layer 15), over the loaded program: its contract. No condition but that the library's table of powers of ten is as laid.
-/
import Derived.Test.YtbhebjkicooidaaDoorSpE
import Derived.Laws.Runes
namespace Go.Proofs.YtbhebjkicooidaaDoor
open Go.RowKit
set_option maxRecDepth 100000
set_option linter.unusedVariables false

/-- string(c) of a unit. -/
theorem unit_str (d : Nat) : ∀ W : World, (convert 5 9 (.int .u8 ((greatD d).toNat : Int))).run Tryd.prog W = .ok (.string ⟨[greatD d].toArray⟩) W := fun W => by
  rw [run_convert_int_string W 5 9 .u8 _ (by rw [Tryd.underlying5]; rfl) Tryd.underlying9]
  rcases great_unit d with h | h | h | h
  all_goals rw [h.1]
  · rw [show Utf8.encode (((100 : UInt8).toNat : Nat) : Int) = ⟨[(100 : UInt8)].toArray⟩ by kernel_rfl]
  · rw [show Utf8.encode (((119 : UInt8).toNat : Nat) : Int) = ⟨[(119 : UInt8)].toArray⟩ by kernel_rfl]
  · rw [show Utf8.encode (((109 : UInt8).toNat : Nat) : Int) = ⟨[(109 : UInt8)].toArray⟩ by kernel_rfl]
  · rw [show Utf8.encode (((121 : UInt8).toNat : Nat) : Int) = ⟨[(121 : UInt8)].toArray⟩ by kernel_rfl]
theorem i64_nat {q : Nat} (h : q ≤ 1048576) : I64 (q : Int) := ⟨by omega, by omega⟩

set_option maxHeartbeats 2000000 in
/-- Text. -/
theorem text15_any (n : Int) (w : World) (hp : Pow w) :
    Calls Tryd.prog 52 #[.int .i64 n] w fun e w' => e = .returned (strV (textD n)) ∧ Below w.heap.size w w' := by
  have hu := upTo_any n 1048576
  by_cases h : 0 ≤ n ∧ n ≤ 1048576
  · rw [decide_eq_true h] at hu
    obtain ⟨d, rfl⟩ : ∃ d : Nat, n = (d : Int) := ⟨n.toNat, by omega⟩
    have hd : d ≤ 1048576 := by omega
    have hg := greatest_any d hd w
    have hz := size15_any (greatD d)
    have hq : d / unitD (greatD d).toNat ≤ 1048576 := Nat.le_trans (Nat.div_le_self _ _) hd
    have hit := fun w1 hp1 => itoa_any ((d / unitD (greatD d).toNat : Nat) : Int) (i64_nat hq) w1 hp1
    rw [Lib.itoa_nonneg] at hit
    have hlen : (Lib.decDigits (d / unitD (greatD d).toNat)).length ≤ 7 := by rw [Lib.decDigits_length]; exact nDigits_seven _ hq
    have hst := unit_str d
    have hadd := txt_add (Lib.decDigits (d / unitD (greatD d).toNat)) [greatD d] (by simp; omega)
    have et : textD (d : Int) = Lib.decDigits (d / unitD (greatD d).toNat) ++ [greatD d] := by
      unfold textD
      rw [if_neg (by omega), Int.toNat_natCast]
    have htd : Int.tdiv (d : Int) (unitD (greatD d).toNat : Int) = ((d / unitD (greatD d).toNat : Nat) : Int) := rfl
    have hup := (great_pos d).1
    rw [et]
    have hd0 := hd
    clear et h
    generalize (greatD d).toNat = c at *
    generalize unitD c = u at *
    generalize d / u = q at *
    unfold strV at *
    obtain ⟨s1, hs1⟩ : ∃ s : ByteArray, s = ⟨(Lib.decDigits q).toArray⟩ := ⟨_, rfl⟩
    obtain ⟨s2, hs2⟩ : ∃ s : ByteArray, s = ⟨[greatD d].toArray⟩ := ⟨_, rfl⟩
    obtain ⟨s3, hs3⟩ : ∃ s : ByteArray, s = ⟨(Lib.decDigits q ++ [greatD d]).toArray⟩ := ⟨_, rfl⟩
    rw [← hs1] at hit hadd
    rw [← hs2] at hst hadd
    rw [← hs3] at hadd ⊢
    have DU : ((u : Int) == 0) = false := beq_eq_false_iff_ne.2 (by omega)
    have HIT := Lib.hid hit
    clear hs1 hs2 hs3 hlen hit
    go_enter Tryd.func52, Tryd.ntmps52
    go_wp2_with (first
      | (go_at_call 63; refine (hu _).mono ?_; rintro e w' ⟨rfl, rfl⟩))
    refine hg.mono ?_
    rintro e w1 ⟨rfl, b1⟩
    go_wp2_with (first
      | (go_at_call 66; refine (hz _).mono ?_; rintro e w' ⟨rfl, rfl⟩))
    refine (HIT.out w1 (hp.below b1)).mono ?_
    rintro e w2 ⟨rfl, b2⟩
    go_wp2_with fail
    go_ret
    exact ⟨rfl, b1.trans (b2.mono b1.size)⟩
  · rw [decide_eq_false h] at hu
    have et : textD n = [] := (text_none n).2 (by omega)
    rw [et]
    clear et h
    go_enter Tryd.func52, Tryd.ntmps52
    go_wp2_with (go_at_call 63; refine (hu _).mono ?_; rintro e w' ⟨rfl, rfl⟩)
    go_ret
    exact ⟨rfl, Below.refl _ _⟩
end Go.Proofs.YtbhebjkicooidaaDoor
