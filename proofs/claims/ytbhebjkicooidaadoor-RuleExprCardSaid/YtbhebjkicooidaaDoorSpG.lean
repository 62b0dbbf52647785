/-
  A span's text: the document's tell, Tell, After, Add (layer 15), over the loaded program: each one's contract. No condition but sizes.
-/
import Derived.Test.YtbhebjkicooidaaDoorSpF
namespace Go.Proofs.YtbhebjkicooidaaDoor
open Go.RowKit
set_option maxRecDepth 100000
set_option linter.unusedVariables false

theorem digit_one_fin : ∀ r : Fin 10, (([48, 49, 50, 51, 52, 53, 54, 55, 56, 57] : List UInt8).drop r.val).take (r.val + 1 - r.val) = [UInt8.ofNat (48 + r.val)] := by decide
/-- A digit out of all. -/
theorem digit_txt (r : Nat) (hr : r < 10) : ∀ W : World, (Instr.slice 9 (.string { data := #[48, 49, 50, 51, 52, 53, 54, 55, 56, 57] }) (some (.int .u64 (r : Int))) (some (.int .u64 ((r : Int) + 1))) none).run Tryd.prog W = .ok (.string ⟨[UInt8.ofNat (48 + r)].toArray⟩) W := fun W => by
  have h := txt_mid [48, 49, 50, 51, 52, 53, 54, 55, 56, 57] .u64 .u64 r (r + 1) (by omega) (by simp; omega) W
  rw [digit_one_fin ⟨r, hr⟩] at h
  exact h

/-- The digits that are still to be told. -/
def restD (m : Nat) : List UInt8 := if m = 0 then [] else Lib.decDigits m
theorem digits_step (m : Nat) : Lib.decDigits m = restD (m / 10) ++ [UInt8.ofNat (48 + m % 10)] := by
  unfold restD
  by_cases h : m < 10
  · rw [if_pos (by omega), Lib.decDigits_one h, Nat.mod_eq_of_lt h]; rfl
  · rw [if_neg (by omega), Lib.decDigits, dif_neg h]
theorem rest_step {m : Nat} {t l : List UInt8} (h0 : 0 < m) (h : restD m ++ t = l) : restD (m / 10) ++ (UInt8.ofNat (48 + m % 10) :: t) = l := by
  rw [← h]
  have e : restD m = Lib.decDigits m := by unfold restD; rw [if_neg (by omega)]
  rw [e, digits_step m, List.append_assoc]
  rfl

set_option maxHeartbeats 2000000 in
/-- The document's tell. -/
theorem tell_any (n : Nat) (hn : n < 18446744073709551616) (w : World) :
    Calls Tryd.prog 69 #[.int .u64 (n : Int)] w fun e w' => e = .returned (strV (Lib.decDigits n)) ∧ w = w' := by
  obtain ⟨r, hr⟩ : ∃ r, r = n % 10 := ⟨_, rfl⟩
  obtain ⟨q, hq⟩ : ∃ q, q = n / 10 := ⟨_, rfl⟩
  have er : Int.tmod (n : Int) 10 = (r : Int) := by rw [hr]; rfl
  have eq : Int.tdiv (n : Int) 10 = (q : Int) := by rw [hq]; rfl
  have hr10 : r < 10 := by omega
  have hdt := digit_txt r hr10
  have hst : Hid (restD q ++ [UInt8.ofNat (48 + r)] = Lib.decDigits n) := by rw [hq, hr]; exact (digits_step n).symm
  have hlen : (Lib.decDigits n).length ≤ 20 := by rw [Lib.decDigits_length]; exact Lib.nDigits_le20 n hn
  obtain ⟨l, hl⟩ : ∃ l, l = Lib.decDigits n := ⟨_, rfl⟩
  rw [← hl] at hst hlen ⊢
  have hq2 : q ≤ n := by omega
  unfold strV
  obtain ⟨t0, ht0⟩ : ∃ t, t = [UInt8.ofNat (48 + r)] := ⟨_, rfl⟩
  rw [← ht0] at hst hdt
  obtain ⟨s0, hs0⟩ : ∃ s : ByteArray, s = ⟨t0.toArray⟩ := ⟨_, rfl⟩
  rw [← hs0] at hdt
  have HS0 := Lib.hid hs0
  obtain ⟨lv, hlv⟩ : ∃ s : ByteArray, s = ⟨l.toArray⟩ := ⟨_, rfl⟩
  rw [← hlv]
  have HLV := Lib.hid hlv
  have HLEN := Lib.hid hlen
  clear hl ht0 hs0 hlv hr hq hlen
  go_enter Tryd.func69, Tryd.ntmps69
  go_wp2
  clear er eq hr10 hdt
  go_loop [0, 3] (fun nv sv => ∃ (m : Nat) (t : List UInt8) (s : ByteArray), m ≤ n ∧ nv = .int .u64 m ∧ sv = .string s ∧ Hid (s = ⟨t.toArray⟩) ∧ Hid (restD m ++ t = l)) (fun nv _ => (intOf nv).toNat)
  case atStart => exact ⟨q, t0, s0, hq2, rfl, rfl, HS0, hst⟩
  case round =>
    obtain ⟨m, t, s, hmn, rfl, rfl, hs, ht⟩ := hrel
    by_cases h0 : 0 < m
    · obtain ⟨r2, hr⟩ : ∃ r, r = m % 10 := ⟨_, rfl⟩
      obtain ⟨q2, hq⟩ : ∃ q, q = m / 10 := ⟨_, rfl⟩
      have er : Int.tmod (m : Int) 10 = (r2 : Int) := by rw [hr]; rfl
      have eq : Int.tdiv (m : Int) 10 = (q2 : Int) := by rw [hq]; rfl
      have hr10 : r2 < 10 := by omega
      have hdt := digit_txt r2 hr10
      have ht2 := rest_step h0 ht.out
      rw [← hr, ← hq] at ht2
      have hlt : t.length ≤ 20 := by
        have := congrArg List.length ht.out
        rw [List.length_append] at this
        have := HLEN.out
        omega
      have hadd := txt_add [UInt8.ofNat (48 + r2)] t (by simp; omega)
      rw [← hs.out] at hadd
      obtain ⟨s1, hs1⟩ : ∃ s : ByteArray, s = ⟨[UInt8.ofNat (48 + r2)].toArray⟩ := ⟨_, rfl⟩
      obtain ⟨s2, hs2⟩ : ∃ s : ByteArray, s = ⟨([UInt8.ofNat (48 + r2)] ++ t).toArray⟩ := ⟨_, rfl⟩
      rw [← hs1] at hdt hadd
      rw [← hs2] at hadd
      have HS2 := Lib.hid hs2
      have HT2 := Lib.hid ht2
      have hq3 : q2 < m := by omega
      clear hs1 hs2 ht2 hs ht hlt hr hq HLEN HLV HS0 hst
      go_wp2
      go_round
      case rel => exact ⟨q2, [UInt8.ofNat (48 + r2)] ++ t, s2, by omega, by go_num, rfl, HS2, HT2⟩
      case measure => simp [intOf]; omega
    · obtain rfl : m = 0 := by omega
      have e : lv = s := by
        rw [HLV.out, hs.out, ← ht.out]
        rfl
      subst e
      clear hs ht HLEN HLV HS0 hst
      go_wp2
      go_ret
      exact ⟨rfl, rfl⟩

/-- The document's Tell, of what is not below 0. -/
theorem rtell_any (n : Nat) (hn : n ≤ 1048576) (w : World) :
    Calls Tryd.prog 56 #[.int .i64 (n : Int)] w fun e w' => e = .returned (strV (Lib.decDigits n)) ∧ w = w' := by
  have ht := tell_any n (by omega)
  generalize strV (Lib.decDigits n) = v at *
  go_enter Tryd.func56, Tryd.ntmps56
  go_wp2_with (go_at_call 69; refine (ht _).mono ?_; rintro e w' ⟨rfl, rfl⟩)
  go_ret
  exact ⟨rfl, rfl⟩
end Go.Proofs.YtbhebjkicooidaaDoor
