/-
  The document's All (layer 16), over the loaded program: its contract. No condition but a size.
-/
import Derived.Test.YtndmdenhmcmbcaaDoorLxW
import Derived.Test.YtndmdenhmcmbcaaDoorLxT
namespace Go.Proofs.YtndmdenhmcmbcaaDoor
open Go.RowKit
set_option maxRecDepth 100000
set_option linter.unusedVariables false

theorem skip_done (l : List UInt8) : skipN false (l.drop (skipN false l)) = 0 := by
  by_cases h : l.drop (skipN false l) = []
  · rw [h]; rfl
  · obtain ⟨c, m, e, h1, h2⟩ := skip_at l h
    rw [e]
    exact skip_none c m h1 h2
theorem skip_zero {c : UInt8} {l : List UInt8} (h : skipN false (c :: l) = 0) : c.toNat ≠ 35 ∧ blankC c.toNat = false := by
  rw [skipN] at h
  by_cases h1 : c.toNat = 35
  · rw [if_pos h1] at h; exact absurd h (by omega)
  · rw [if_neg h1] at h
    refine ⟨h1, ?_⟩
    cases h2 : blankC c.toNat with
    | false => rfl
    | true => rw [h2, if_pos rfl] at h; exact absurd h (by omega)
theorem lead_skip {s : List UInt8} {acc : List Tk} {i : Nat} (h : Lead s acc i) : Lead s acc (i + skipN false (s.drop i)) ∧ skipN false (s.drop (i + skipN false (s.drop i))) = 0 := by
  have hs := skip_le false (s.drop i)
  have hi := h.1
  rw [List.length_drop] at hs
  have hz : skipN false (s.drop (i + skipN false (s.drop i))) = 0 := by
    have := skip_done (s.drop i)
    rw [List.drop_drop] at this
    exact this
  exact ⟨lead_move h (by omega) (by rw [hz]; omega), hz⟩

/-- What the document's All hands back. -/
def RAllAs (s : List UInt8) (w0 : World) (e : Ending) (w : World) : Prop :=
  ∃ v, e = .returned (.tuple #[v, .int .i64 ((allS s).2.1 : Int), .int .i64 (allS s).2.2]) ∧ TS w (fun b => w0.heap.size ≤ b) v (allS s).1 ∧ Below w0.heap.size w0 w

set_option maxHeartbeats 8000000 in
/-- All. -/
theorem rall_any (s : List UInt8) (hs : s.length ≤ maxLen) (w : World) : Calls Tryd.prog 8 #[strV s] w (RAllAs s w) := by
  have hzs : ((⟨s.toArray⟩ : ByteArray).size : Int) = (s.length : Int) := rfl
  by_cases h6 : 600 < s.length
  · have hall := all_long h6
    have HD : Hid (RAllAs s w (.returned (.tuple #[.slice none 0 0, .int .i64 0, .int .i64 3])) w) := by
      refine ⟨.slice none 0 0, ?_, ?_, Below.refl _ _⟩
      · rw [hall]; rfl
      · rw [hall]; exact TS.nil _ _
    unfold strV
    generalize (⟨s.toArray⟩ : ByteArray) = z at *
    clear hs hall
    go_enter Tryd.func8, Tryd.ntmps8
    go_wp2
    go_ret3
    exact HD.out
  have h6' : s.length ≤ 600 := by omega
  have hsk := fun i hi => skip_any s hs i hi
  have h0 := (lead_skip (lead_zero s))
  rw [List.drop_zero, Nat.zero_add] at h0
  have hs0 := hsk 0 (Nat.zero_le _)
  rw [List.drop_zero, Nat.zero_add] at hs0
  have HON := Lib.hid (fun i c l hd => rone_any s (by omega) i c l hd)
  have HSK := Lib.hid hsk
  have H0 := Lib.hid h0
  obtain ⟨i0, hi0⟩ : ∃ i, i = skipN false s := ⟨_, rfl⟩
  rw [← hi0] at H0 hs0
  have HZ : Hid (∀ (acc : List Tk) (i : Nat) v w1, Lead s acc i → i = s.length → w1.ownsRow w.heap.size 43 4 v acc.length (flatK acc) → Below w.heap.size w w1 → RAllAs s w (.returned (.tuple #[v, .int .i64 (s.length : Int), .int .i64 0])) w1) := by
    intro acc i v w1 hl hi how b
    subst hi
    have hall := all_done h6' hl
    refine ⟨v, ?_, ?_, b⟩
    · rw [hall]
    · rw [hall]; exact TS_of_own how
  have HBAD : Hid (∀ (acc : List Tk) (i : Nat) (c : UInt8) (l : List UInt8) w1, Lead s acc i → s.drop i = c :: l → c.toNat ≠ 35 → blankC c.toNat = false → (oneC c l).e ≠ 0 → Below w.heap.size w w1 → RAllAs s w (.returned (.tuple #[.slice none 0 0, .int .i64 (i : Int), .int .i64 (oneC c l).e])) w1) := by
    intro acc i c l w1 hl hd h1 h2 he b
    have hall := all_bad h6' hl hd h1 h2 he
    refine ⟨.slice none 0 0, ?_, ?_, b⟩
    · rw [hall]
    · rw [hall]; exact TS.nil _ _
  obtain ⟨R, hR⟩ : ∃ R, R = RAllAs s w := ⟨_, rfl⟩
  rw [← hR] at HZ HBAD ⊢
  unfold strV at *
  obtain ⟨z, hz⟩ : ∃ z : ByteArray, z = ⟨s.toArray⟩ := ⟨_, rfl⟩
  rw [← hz] at hzs hs0 HSK HON ⊢
  have HI0 : Hid (i0 ≤ s.length) := H0.out.1.1
  clear hs hsk h0 hR hz hi0
  go_enter Tryd.func8, Tryd.ntmps8
  go_wp2_with (go_at_call 11; refine (hs0 _).mono ?_; rintro e w2 ⟨rfl, rfl⟩)
  go_loopw [5, 6] (fun v iv wr => ∃ (acc : List Tk) (i : Nat), iv = .int .i64 (i : Int) ∧ i ≤ s.length ∧ Hid (Lead s acc i ∧ skipN false (s.drop i) = 0) ∧ wr.ownsRow w.heap.size 43 4 v acc.length (flatK acc) ∧ Below w.heap.size w wr) (fun _ iv _ => s.length - (intOf iv).toNat)
  case atStart => exact ⟨[], i0, rfl, HI0.out, H0, World.ownsRow_nil _ _ _ _, Below.refl _ _⟩
  case round =>
    obtain ⟨acc, i, rfl, hi, HL, how, bl⟩ := hrel
    clear H0 HI0 hs0
    by_cases hlt : i < s.length
    · have hltI : (i : Int) < (s.length : Int) := by omega
      obtain ⟨c, l, hd⟩ : ∃ c l, s.drop i = c :: l := ⟨_, _, List.drop_eq_getElem_cons hlt⟩
      obtain ⟨n35, nb⟩ := skip_zero (by rw [← hd]; exact HL.out.2)
      have hon := HON.out i c l hd
      by_cases he : (oneC c l).e = 0
      · have hlead := lead_tok HL.out.1 hd n35 nb he
        obtain ⟨j, hj⟩ : ∃ j, j = i + (oneC c l).size := ⟨_, rfl⟩
        have hnext := lead_skip hlead
        rw [← hj] at hlead hnext
        have hjl := hlead.1
        have hsj := HSK.out j hjl
        obtain ⟨j2, hj2⟩ : ∃ k, k = j + skipN false (s.drop j) := ⟨_, rfl⟩
        rw [← hj2] at hnext hsj
        have HN := Lib.hid hnext
        have HJ : Hid (i < j2 ∧ j2 ≤ s.length) := by
          have o1 := one_size (r := c :: l) (by rw [oneW_cons]; exact he)
          rw [oneW_cons] at o1
          exact ⟨by omega, hnext.1.1⟩
        have hcnt := lead_count HL.out.1
        have HLEN : Hid (acc.length ≤ 1000000000) := by show _ ≤ _; omega
        unfold OneAs oneV at hon
        rw [if_pos he, he, ← hj] at hon
        obtain ⟨kd, hkd⟩ : ∃ x, x = (oneC c l).kind := ⟨_, rfl⟩
        obtain ⟨nn, hnn⟩ : ∃ x, x = (oneC c l).n := ⟨_, rfl⟩
        obtain ⟨tl, htl⟩ : ∃ x, x = (oneC c l).text := ⟨_, rfl⟩
        rw [← hkd, ← hnn, ← htl] at hon HN
        obtain ⟨t, ht⟩ : ∃ t : ByteArray, t = ⟨tl.toArray⟩ := ⟨_, rfl⟩
        have HT : Hid (Value.string t = strV tl) := by show _ = _; rw [ht]; rfl
        unfold strV at hon
        rw [← ht] at hon
        clear HZ HBAD HON HSK HL hd n35 nb he hlead hnext hjl hcnt hkd hnn htl ht hj hj2
        go_wp2_with (first
          | (go_at_call 20; refine (hon _).mono ?_; rintro e w2 ⟨rfl, b2⟩;
             have B5 := b2.alloc b2.size (.cells #[.int .i64 (kd : Int), .string t, .int .i64 nn, .int .i64 (i : Int)] 43);
             have B6 := B5.alloc B5.size (.cells #[.int .i64 (kd : Int), .string t, .int .i64 nn, .int .i64 (i : Int)] 43);
             have how6 := own_past B6 how; have BL6 := bl.trans (B6.mono bl.size);
             have hat : ∀ k u, (fourT ⟨kd, tl, nn, i⟩)[k]? = some u → ((w2.alloc (.cells #[.int .i64 (kd : Int), .string t, .int .i64 nn, .int .i64 (i : Int)] 43)).alloc (.cells #[.int .i64 (kd : Int), .string t, .int .i64 nn, .int .i64 (i : Int)] 43)).cell? ((⟨w2.heap.size + 1, 0, none⟩ : Addr).add k) = some u := (by rw [HT.out, ← (show (w2.alloc (.cells #[.int .i64 (kd : Int), strV tl, .int .i64 nn, .int .i64 (i : Int)] 43)).heap.size = w2.heap.size + 1 by simp)]; exact onek_at _ _ ⟨kd, tl, nn, i⟩))
          | (at_builtin; go_loud (refine wpList_growK tok_ref _ rfl _ _ rfl w.heap.size _ acc rfl how6 ⟨_, 0, none⟩ 1 ⟨kd, tl, nn, i⟩ rfl hat HLEN.out BL6.size ?_); intro v7 w7 how7 g7 ho7)
          | (go_at_call 11; refine (hsj _).mono ?_; rintro e w8 ⟨rfl, rfl⟩))
        go_roundw
        case rel => exact ⟨_, j2, rfl, HJ.out.2, HN, how7, BL6.grown g7 BL6.size fun g e => own_ge how6 g e⟩
        case measure => have := HJ.out; simp [intOf]; omega
      · have HF := Lib.hid (fun w1 => HBAD.out acc i c l w1 HL.out.1 hd n35 nb he)
        unfold OneAs oneV at hon
        rw [if_neg he] at hon
        obtain ⟨o, ho⟩ : ∃ o, o = oneC c l := ⟨_, rfl⟩
        rw [← ho] at hon HF he
        have hbad : ((o.e : Int) != 0) = true := by simpa using he
        unfold strV at hon
        obtain ⟨kd, tx, nn, sz, er⟩ := o
        dsimp only at *
        generalize (⟨tx.toArray⟩ : ByteArray) = t at *
        clear HZ HBAD HON HSK HL how hd n35 nb ho
        go_wp2_with (go_at_call 20; refine (hon _).mono ?_; rintro e w2 ⟨rfl, b2⟩)
        go_ret3
        exact HF.out _ (bl.trans (((b2.alloc b2.size _)).mono bl.size))
    · obtain rfl : i = s.length := by omega
      have HF := Lib.hid (HZ.out acc _ _ wr HL.out.1 rfl how bl)
      obtain ⟨A, cp, rfl⟩ := own_slice how
      clear HZ HBAD HON HSK HL how
      go_wp2
      go_ret3
      exact HF.out
end Go.Proofs.YtndmdenhmcmbcaaDoor
