/-
  A span's text and the tick behind another one: the document's Text, After, Add (layer 15), over the loaded program: each one's contract. No condition but that a number is an int.
-/
import Derived.Test.YtbhebjkicooidaaDoorSpG
import Derived.BigQuiet
namespace Go.Proofs.YtbhebjkicooidaaDoor
open Go.RowKit
set_option maxRecDepth 100000
set_option linter.unusedVariables false
set_option maxHeartbeats 600000 in
/-- The document's Text. -/
theorem rtext15_any (n : Int) (w : World) :
    Calls Tryd.prog 34 #[.int .i64 n] w fun e w' => e = .returned (strV (textD n)) ∧ Below w.heap.size w w' := by
  by_cases h1 : n < 0
  · have et : textD n = [] := (text_none n).2 (by omega)
    rw [et]
    clear et
    go_enter Tryd.func34, Tryd.ntmps34
    go_wp2
    go_ret
    exact ⟨rfl, Below.refl _ _⟩
  by_cases h2 : 1048576 < n
  · have et : textD n = [] := (text_none n).2 (by omega)
    rw [et]
    clear et
    go_enter Tryd.func34, Tryd.ntmps34
    go_wp2
    go_ret
    exact ⟨rfl, Below.refl _ _⟩
  obtain ⟨d, rfl⟩ : ∃ d : Nat, n = (d : Int) := ⟨n.toNat, by omega⟩
  have hd : d ≤ 1048576 := by omega
  have et : textD (d : Int) = Lib.decDigits (d / unitD (greatD d).toNat) ++ [greatD d] := by
    unfold textD
    rw [if_neg (by omega), Int.toNat_natCast]
  obtain ⟨g, hg⟩ : ∃ g, g = greatD d := ⟨_, rfl⟩
  rw [et, ← hg]
  clear et h1 h2
  by_cases hd0 : d = 0
  · have eg : g = 100 := by rw [hg]; unfold greatD; rw [if_pos hd0]
    subst eg
    subst hd0
    have e0 : strV (Lib.decDigits (0 / unitD (100 : UInt8).toNat) ++ [100]) = .string { data := #[48, 100] } := by
      rw [show 0 / unitD (100 : UInt8).toNat = 0 from rfl, Lib.decDigits_one (by omega)]
      rfl
    rw [e0]
    clear hg hd e0
    go_enter Tryd.func34, Tryd.ntmps34
    go_wp2
    go_loop [4] (fun i => i = .int .i64 0) (fun i => 0)
    case atStart => exact rfl
    case round =>
      subst hrel
      go_wp2
      go_ret
      exact ⟨rfl, Below.refl _ _⟩
  have HG := Lib.hid hg
  have hdp : 0 < d := by omega
  obtain ⟨v, hv⟩ : ∃ v : ByteArray, v = ⟨(Lib.decDigits (d / unitD g.toNat) ++ [g]).toArray⟩ := ⟨_, rfl⟩
  unfold strV
  rw [← hv]
  have HV := Lib.hid hv
  clear hv
  have u0 : ∀ w, Calls Tryd.prog 55 #[.int .u8 121] w fun e w' => e = .returned (.int .i64 365) ∧ w' = w := fun w => (unit15_any 121 w).mono fun e w' h => ⟨h.1, h.2.symm⟩
  have i0 : ∀ W : World, (Instr.index 9 (.string { data := #[121, 109, 119, 100] }) (.int .i64 0)).run Tryd.prog W = .ok (.int .u8 121) W := txt_at [121, 109, 119, 100] 0 121 rfl
  have s0 : ∀ W : World, (Instr.slice 9 (.string { data := #[121, 109, 119, 100] }) (some (.int .i64 0)) (some (.int .i64 1)) none).run Tryd.prog W = .ok (.string ⟨[(121 : UInt8)].toArray⟩) W := txt_mid [121, 109, 119, 100] .i64 .i64 0 1 (by omega) (by simp)
  have F0 := Lib.hid (And.intro u0 (And.intro i0 s0))
  have u1 : ∀ w, Calls Tryd.prog 55 #[.int .u8 109] w fun e w' => e = .returned (.int .i64 30) ∧ w' = w := fun w => (unit15_any 109 w).mono fun e w' h => ⟨h.1, h.2.symm⟩
  have i1 : ∀ W : World, (Instr.index 9 (.string { data := #[121, 109, 119, 100] }) (.int .i64 1)).run Tryd.prog W = .ok (.int .u8 109) W := txt_at [121, 109, 119, 100] 1 109 rfl
  have s1 : ∀ W : World, (Instr.slice 9 (.string { data := #[121, 109, 119, 100] }) (some (.int .i64 1)) (some (.int .i64 2)) none).run Tryd.prog W = .ok (.string ⟨[(109 : UInt8)].toArray⟩) W := txt_mid [121, 109, 119, 100] .i64 .i64 1 2 (by omega) (by simp)
  have F1 := Lib.hid (And.intro u1 (And.intro i1 s1))
  have u2 : ∀ w, Calls Tryd.prog 55 #[.int .u8 119] w fun e w' => e = .returned (.int .i64 7) ∧ w' = w := fun w => (unit15_any 119 w).mono fun e w' h => ⟨h.1, h.2.symm⟩
  have i2 : ∀ W : World, (Instr.index 9 (.string { data := #[121, 109, 119, 100] }) (.int .i64 2)).run Tryd.prog W = .ok (.int .u8 119) W := txt_at [121, 109, 119, 100] 2 119 rfl
  have s2 : ∀ W : World, (Instr.slice 9 (.string { data := #[121, 109, 119, 100] }) (some (.int .i64 2)) (some (.int .i64 3)) none).run Tryd.prog W = .ok (.string ⟨[(119 : UInt8)].toArray⟩) W := txt_mid [121, 109, 119, 100] .i64 .i64 2 3 (by omega) (by simp)
  have F2 := Lib.hid (And.intro u2 (And.intro i2 s2))
  have u3 : ∀ w, Calls Tryd.prog 55 #[.int .u8 100] w fun e w' => e = .returned (.int .i64 1) ∧ w' = w := fun w => (unit15_any 100 w).mono fun e w' h => ⟨h.1, h.2.symm⟩
  have i3 : ∀ W : World, (Instr.index 9 (.string { data := #[121, 109, 119, 100] }) (.int .i64 3)).run Tryd.prog W = .ok (.int .u8 100) W := txt_at [121, 109, 119, 100] 3 100 rfl
  have s3 : ∀ W : World, (Instr.slice 9 (.string { data := #[121, 109, 119, 100] }) (some (.int .i64 3)) (some (.int .i64 4)) none).run Tryd.prog W = .ok (.string ⟨[(100 : UInt8)].toArray⟩) W := txt_mid [121, 109, 119, 100] .i64 .i64 3 4 (by omega) (by simp)
  have F3 := Lib.hid (And.intro u3 (And.intro i3 s3))
  clear u0 u1 u2 u3 i0 i1 i2 i3 s0 s1 s2 s3 hg hd0
  go_enter Tryd.func34, Tryd.ntmps34
  go_wp2
  go_loop [4] (fun i => ∃ k : Nat, k ≤ 3 ∧ i = .int .i64 k ∧ Hid (nofit d k)) (fun i => 3 - (intOf i).toNat)
  case atStart => exact ⟨0, by omega, rfl, ⟨fun h => by omega, fun h => by omega, fun h => by omega⟩⟩
  case round =>
    obtain ⟨k, hk, rfl, hf⟩ := hrel
    match k, hk with
    | 0, _ =>
      obtain ⟨hun, hix, hsl⟩ := F0.out
      by_cases hr : d % 365 = 0
      · have er : Int.tmod (d : Int) 365 = 0 := by rw [Int.tmod_eq_emod_of_nonneg (by omega)]; omega
        have eg : g = 121 := by rw [HG.out]; unfold greatD; rw [if_neg (by omega), if_pos hr]
        subst eg
        obtain ⟨q, hq⟩ : ∃ q, q = d / 365 := ⟨_, rfl⟩
        have eq : Int.tdiv (d : Int) 365 = (q : Int) := by rw [hq]; rfl
        have hq2 : q ≤ 1048576 := Nat.le_trans (by rw [hq]; exact Nat.div_le_self _ _) hd
        have ew : IntKind.i64.wrap (q : Int) = (q : Int) := by rw [IntKind.wrap_i64]; omega
        have htl := fun w => (rtell_any q hq2 w).mono fun e w' h => (⟨h.1, h.2.symm⟩ : e = .returned (strV (Lib.decDigits q)) ∧ w' = w)
        have hlen : (Lib.decDigits q).length ≤ 7 := by rw [Lib.decDigits_length]; exact nDigits_seven q hq2
        have hadd := txt_add (Lib.decDigits q) [(121 : UInt8)] (by simp; omega)
        unfold strV at htl
        obtain ⟨s1, hs1⟩ : ∃ s : ByteArray, s = ⟨(Lib.decDigits q).toArray⟩ := ⟨_, rfl⟩
        obtain ⟨s2, hs2⟩ : ∃ s : ByteArray, s = ⟨[(121 : UInt8)].toArray⟩ := ⟨_, rfl⟩
        have hs3 : v = ⟨(Lib.decDigits q ++ [(121 : UInt8)]).toArray⟩ := by rw [HV.out, hq, show unitD (121 : UInt8).toNat = 365 by decide]
        rw [← hs1] at htl hadd
        rw [← hs2] at hsl hadd
        rw [← hs3] at hadd
        clear hs1 hs2 hs3 hlen hf HG HV F0 F1 F2 F3 hq
        go_wp2_with (go_at_call 55; refine (hun _).mono ?_; rintro e w' ⟨rfl, rfl⟩)
        go_quiet (first | (go_at_call 55; exact Calls.quiet_of_same (hun _)) | (go_at_call 56; exact Calls.quiet_of_same (htl _)) | fail)
        go_wp2
        go_ret
        exact ⟨rfl, Below_drawn (Below.refl _ _) _⟩
      · have er : (Int.tmod (d : Int) 365 == 0) = false := beq_eq_false_iff_ne.2 (by rw [Int.tmod_eq_emod_of_nonneg (by omega)]; omega)
        have hf2 : Hid (nofit d 1) := ⟨fun _ h => hr h.2, fun h => by omega, fun h => by omega⟩
        clear hf HG HV F0 F1 F2 F3 hsl
        go_wp2_with (go_at_call 55; refine (hun _).mono ?_; rintro e w' ⟨rfl, rfl⟩)
        go_round
        case rel => exact ⟨1, by omega, by go_num, hf2⟩
        case measure => simp [intOf]
    | 1, _ =>
      obtain ⟨hun, hix, hsl⟩ := F1.out
      by_cases hr : d % 30 = 0
      · have er : Int.tmod (d : Int) 30 = 0 := by rw [Int.tmod_eq_emod_of_nonneg (by omega)]; omega
        have eg : g = 109 := by rw [HG.out]; unfold greatD; rw [if_neg (by omega), if_neg (fun h => hf.out.1 (by omega) ⟨hdp, h⟩), if_pos hr]
        subst eg
        obtain ⟨q, hq⟩ : ∃ q, q = d / 30 := ⟨_, rfl⟩
        have eq : Int.tdiv (d : Int) 30 = (q : Int) := by rw [hq]; rfl
        have hq2 : q ≤ 1048576 := Nat.le_trans (by rw [hq]; exact Nat.div_le_self _ _) hd
        have ew : IntKind.i64.wrap (q : Int) = (q : Int) := by rw [IntKind.wrap_i64]; omega
        have htl := fun w => (rtell_any q hq2 w).mono fun e w' h => (⟨h.1, h.2.symm⟩ : e = .returned (strV (Lib.decDigits q)) ∧ w' = w)
        have hlen : (Lib.decDigits q).length ≤ 7 := by rw [Lib.decDigits_length]; exact nDigits_seven q hq2
        have hadd := txt_add (Lib.decDigits q) [(109 : UInt8)] (by simp; omega)
        unfold strV at htl
        obtain ⟨s1, hs1⟩ : ∃ s : ByteArray, s = ⟨(Lib.decDigits q).toArray⟩ := ⟨_, rfl⟩
        obtain ⟨s2, hs2⟩ : ∃ s : ByteArray, s = ⟨[(109 : UInt8)].toArray⟩ := ⟨_, rfl⟩
        have hs3 : v = ⟨(Lib.decDigits q ++ [(109 : UInt8)]).toArray⟩ := by rw [HV.out, hq, show unitD (109 : UInt8).toNat = 30 by decide]
        rw [← hs1] at htl hadd
        rw [← hs2] at hsl hadd
        rw [← hs3] at hadd
        clear hs1 hs2 hs3 hlen hf HG HV F0 F1 F2 F3 hq
        go_wp2_with (go_at_call 55; refine (hun _).mono ?_; rintro e w' ⟨rfl, rfl⟩)
        go_quiet (first | (go_at_call 55; exact Calls.quiet_of_same (hun _)) | (go_at_call 56; exact Calls.quiet_of_same (htl _)) | fail)
        go_wp2
        go_ret
        exact ⟨rfl, Below_drawn (Below.refl _ _) _⟩
      · have er : (Int.tmod (d : Int) 30 == 0) = false := beq_eq_false_iff_ne.2 (by rw [Int.tmod_eq_emod_of_nonneg (by omega)]; omega)
        have hf2 : Hid (nofit d 2) := ⟨fun h => hf.out.1 (by omega), fun _ h => hr h.2, fun h => by omega⟩
        clear hf HG HV F0 F1 F2 F3 hsl
        go_wp2_with (go_at_call 55; refine (hun _).mono ?_; rintro e w' ⟨rfl, rfl⟩)
        go_round
        case rel => exact ⟨2, by omega, by go_num, hf2⟩
        case measure => simp [intOf]
    | 2, _ =>
      obtain ⟨hun, hix, hsl⟩ := F2.out
      by_cases hr : d % 7 = 0
      · have er : Int.tmod (d : Int) 7 = 0 := by rw [Int.tmod_eq_emod_of_nonneg (by omega)]; omega
        have eg : g = 119 := by rw [HG.out]; unfold greatD; rw [if_neg (by omega), if_neg (fun h => hf.out.1 (by omega) ⟨hdp, h⟩), if_neg (fun h => hf.out.2.1 (by omega) ⟨hdp, h⟩), if_pos hr]
        subst eg
        obtain ⟨q, hq⟩ : ∃ q, q = d / 7 := ⟨_, rfl⟩
        have eq : Int.tdiv (d : Int) 7 = (q : Int) := by rw [hq]; rfl
        have hq2 : q ≤ 1048576 := Nat.le_trans (by rw [hq]; exact Nat.div_le_self _ _) hd
        have ew : IntKind.i64.wrap (q : Int) = (q : Int) := by rw [IntKind.wrap_i64]; omega
        have htl := fun w => (rtell_any q hq2 w).mono fun e w' h => (⟨h.1, h.2.symm⟩ : e = .returned (strV (Lib.decDigits q)) ∧ w' = w)
        have hlen : (Lib.decDigits q).length ≤ 7 := by rw [Lib.decDigits_length]; exact nDigits_seven q hq2
        have hadd := txt_add (Lib.decDigits q) [(119 : UInt8)] (by simp; omega)
        unfold strV at htl
        obtain ⟨s1, hs1⟩ : ∃ s : ByteArray, s = ⟨(Lib.decDigits q).toArray⟩ := ⟨_, rfl⟩
        obtain ⟨s2, hs2⟩ : ∃ s : ByteArray, s = ⟨[(119 : UInt8)].toArray⟩ := ⟨_, rfl⟩
        have hs3 : v = ⟨(Lib.decDigits q ++ [(119 : UInt8)]).toArray⟩ := by rw [HV.out, hq, show unitD (119 : UInt8).toNat = 7 by decide]
        rw [← hs1] at htl hadd
        rw [← hs2] at hsl hadd
        rw [← hs3] at hadd
        clear hs1 hs2 hs3 hlen hf HG HV F0 F1 F2 F3 hq
        go_wp2_with (go_at_call 55; refine (hun _).mono ?_; rintro e w' ⟨rfl, rfl⟩)
        go_quiet (first | (go_at_call 55; exact Calls.quiet_of_same (hun _)) | (go_at_call 56; exact Calls.quiet_of_same (htl _)) | fail)
        go_wp2
        go_ret
        exact ⟨rfl, Below_drawn (Below.refl _ _) _⟩
      · have er : (Int.tmod (d : Int) 7 == 0) = false := beq_eq_false_iff_ne.2 (by rw [Int.tmod_eq_emod_of_nonneg (by omega)]; omega)
        have hf2 : Hid (nofit d 3) := ⟨fun h => hf.out.1 (by omega), fun h => hf.out.2.1 (by omega), fun _ h => hr h.2⟩
        clear hf HG HV F0 F1 F2 F3 hsl
        go_wp2_with (go_at_call 55; refine (hun _).mono ?_; rintro e w' ⟨rfl, rfl⟩)
        go_round
        case rel => exact ⟨3, by omega, by go_num, hf2⟩
        case measure => simp [intOf]
    | 3, _ =>
      obtain ⟨hun, hix, hsl⟩ := F3.out
      have er : Int.tmod (d : Int) 1 = 0 := by rw [Int.tmod_eq_emod_of_nonneg (by omega)]; omega
      have eg : g = 100 := by rw [HG.out]; unfold greatD; rw [if_neg (by omega), if_neg (fun h => hf.out.1 (by omega) ⟨hdp, h⟩), if_neg (fun h => hf.out.2.1 (by omega) ⟨hdp, h⟩), if_neg (fun h => hf.out.2.2 (by omega) ⟨hdp, h⟩)]
      subst eg
      obtain ⟨q, hq⟩ : ∃ q, q = d / 1 := ⟨_, rfl⟩
      have hqd : q = d := by rw [hq, Nat.div_one]
      have eq : (d : Int) = (q : Int) := by rw [hqd]
      have hq2 : q ≤ 1048576 := by omega
      have ew : IntKind.i64.wrap (q : Int) = (q : Int) := by rw [IntKind.wrap_i64]; omega
      have htl := fun w => (rtell_any q hq2 w).mono fun e w' h => (⟨h.1, h.2.symm⟩ : e = .returned (strV (Lib.decDigits q)) ∧ w' = w)
      have hlen : (Lib.decDigits q).length ≤ 7 := by rw [Lib.decDigits_length]; exact nDigits_seven q hq2
      have hadd := txt_add (Lib.decDigits q) [(100 : UInt8)] (by simp; omega)
      unfold strV at htl
      obtain ⟨s1, hs1⟩ : ∃ s : ByteArray, s = ⟨(Lib.decDigits q).toArray⟩ := ⟨_, rfl⟩
      obtain ⟨s2, hs2⟩ : ∃ s : ByteArray, s = ⟨[(100 : UInt8)].toArray⟩ := ⟨_, rfl⟩
      have hs3 : v = ⟨(Lib.decDigits q ++ [(100 : UInt8)]).toArray⟩ := by rw [HV.out, hq, show unitD (100 : UInt8).toNat = 1 by decide]
      rw [← hs1] at htl hadd
      rw [← hs2] at hsl hadd
      rw [← hs3] at hadd
      clear hs1 hs2 hs3 hlen hf HG HV F0 F1 F2 F3 hq
      subst hqd
      clear eq
      go_wp2_with (go_at_call 55; refine (hun _).mono ?_; rintro e w' ⟨rfl, rfl⟩)
      go_quiet (first | (go_at_call 55; exact Calls.quiet_of_same (hun _)) | (go_at_call 56; exact Calls.quiet_of_same (htl _)) | fail)
      go_wp2
      go_ret
      exact ⟨rfl, Below_drawn (Below.refl _ _) _⟩
end Go.Proofs.YtbhebjkicooidaaDoor
