/-
  The plain mathematics of inodes: which may be, their bytes, which inode bytes are; there and back (P12.1 to P12.3). No condition; nothing of the dump is used here.
-/
import Derived.Test.YtgahnjhibpcbaaaTlvC
import Derived.Test.YtgahnjhibpcbaaaAlM
namespace Go.Proofs.Ytgahnjhibpcbaaa
set_option maxRecDepth 100000
set_option linter.unusedVariables false

/-- A file, as an inode tells it. -/
structure Ino where
  name : List UInt8
  size : Int
  at_ : List Int

def ino0 : Ino := ⟨[], 0, []⟩

/-- A byte that a name may have. -/
def okc (c : Nat) : Bool := (decide (97 ≤ c) && decide (c ≤ 122)) || (decide (48 ≤ c) && decide (c ≤ 57)) || decide (c = 46) || decide (c = 45) || decide (c = 95)
def nameS (l : List UInt8) : Bool := decide (1 ≤ l.length) && decide (l.length ≤ 16) && l.all fun b => okc b.toNat

def fitS (x : Ino) (n : Int) : Bool := nameS x.name && decide (0 ≤ n ∧ n ≤ 1024) && decide (0 ≤ x.size ∧ x.size ≤ 24576) && decide ((x.at_.length : Int) = pagesS x.size) && (bitsS x.at_ n).2
def putB (x : Ino) (n : Int) : List UInt8 := texb x.name ++ (numb (u64 x.size) ++ (bitsS x.at_ n).1)
def putS (x : Ino) (n : Int) : List UInt8 × Int := if fitS x n = true then (putB x n, 0) else ([], 1)

/-- What is read of b: what is left of it (none: it failed), the inode, and whether its last part is sectors. -/
def readS (b : List UInt8) (n : Int) : Option (List UInt8) × Ino × Bool :=
  ((cntOf 24576 (txtOf 16 (some b)).1).1,
   ⟨(txtOf 16 (some b)).2, ((cntOf 24576 (txtOf 16 (some b)).1).2 : Int), (listS ((cntOf 24576 (txtOf 16 (some b)).1).1.getD []) n).1⟩,
   (listS ((cntOf 24576 (txtOf 16 (some b)).1).1.getD []) n).2)
def getS (b : List UInt8) (n : Int) : Ino × Int :=
  if (readS b n).1.isSome = true ∧ (readS b n).2.2 = true ∧ fitS (readS b n).2.1 n = true then ((readS b n).2.1, 0) else (ino0, 2)

theorem fit_iff (x : Ino) (n : Int) : fitS x n = true ↔ nameS x.name = true ∧ (0 ≤ n ∧ n ≤ 1024) ∧ (0 ≤ x.size ∧ x.size ≤ 24576) ∧ (x.at_.length : Int) = pagesS x.size ∧ (bitsS x.at_ n).2 = true := by
  unfold fitS
  simp only [Bool.and_eq_true, decide_eq_true_eq, and_assoc]
theorem name_iff (l : List UInt8) : nameS l = true ↔ 1 ≤ l.length ∧ l.length ≤ 16 ∧ ∀ b ∈ l, okc b.toNat = true := by
  unfold nameS
  simp only [Bool.and_eq_true, decide_eq_true_eq, and_assoc, List.all_eq_true]

theorem bitsS_yes {at_ : List Int} {n : Int} (h : (bitsS at_ n).2 = true) : (¬ n < 0 ∧ ¬ 4096 < n ∧ okB at_ n) ∧ (bitsS at_ n).1 = bitsB at_ (bytesN n) := by
  unfold bitsS at h ⊢
  by_cases hc : n < 0 ∨ 4096 < n ∨ ¬ okB at_ n
  · rw [if_pos hc] at h; cases h
  · rw [if_neg hc]
    exact ⟨⟨fun h => hc (.inl h), fun h => hc (.inr (.inl h)), Classical.byContradiction fun h => hc (.inr (.inr h))⟩, rfl⟩

theorem by8_back : ∀ x : Fin 256, cK (fun k => x.val / 2 ^ (7 - k) % 2 == 1) 8 = x.val := by decide +kernel

/-- What is listed, told as bits, is what it was. -/
theorem bits_list {b : List UInt8} {n : Int} {at_ : List Int} (h : listS b n = (at_, true)) : bitsB at_ (bytesN n) = b := by
  unfold listS at h
  by_cases hc : n < 0 ∨ 4096 < n ∨ b.length ≠ bytesN n ∨ ∃ i, i < 8 * b.length ∧ n ≤ (i : Int) ∧ bitAt b i = true
  · rw [if_pos hc] at h; cases h
  · rw [if_neg hc] at h
    injection h with h _
    have hl : b.length = bytesN n := Classical.byContradiction fun h => hc (.inr (.inr (.inl h)))
    apply List.ext_getElem?
    intro j
    by_cases hj : j < bytesN n
    · rw [bitsB_at _ hj]
      have hjb : j < b.length := by omega
      rw [List.getElem?_eq_getElem hjb]
      congr 1
      apply UInt8.toNat_inj.1
      rw [by8_nat]
      have hb := b[j].toNat_lt
      refine Eq.trans ?_ (by8_back ⟨b[j].toNat, hb⟩)
      have hin : ∀ k, k < 8 → inF at_ (8 * j + k) = (b[j].toNat / 2 ^ (7 - k) % 2 == 1) := fun k hk => by
        have e1 : inF at_ (8 * j + k) = bitAt b (8 * j + k) := by
          rw [← h]
          unfold inF
          have : ((8 * j + k : Nat) : Int) ∈ ofN (selK (bitAt b) (8 * b.length)) ↔ bitAt b (8 * j + k) = true := by
            unfold ofN
            rw [List.mem_map]
            constructor
            · rintro ⟨a, ha, e⟩
              have : a = 8 * j + k := by omega
              subst this
              exact (mem_selK.1 ha).2
            · intro hbit
              exact ⟨8 * j + k, mem_selK.2 ⟨by omega, hbit⟩, rfl⟩
          cases hq : bitAt b (8 * j + k) with
          | true => exact decide_eq_true (this.2 hq)
          | false => exact decide_eq_false fun hh => by rw [this.1 hh] at hq; cases hq
        rw [e1, bitAt_of (x := b[j]) (by rw [show (8 * j + k) / 8 = j by omega]; exact List.getElem?_eq_getElem hjb), show (8 * j + k) % 8 = k by omega]
      simp only [cK, hin 0 (by omega), hin 1 (by omega), hin 2 (by omega), hin 3 (by omega), hin 4 (by omega), hin 5 (by omega), hin 6 (by omega), hin 7 (by omega)]
    · rw [List.getElem?_eq_none (by rw [bitsB_length]; omega), List.getElem?_eq_none (by omega)]

theorem txt_of {l : List UInt8} (h : l.length ≤ 16) (r : List UInt8) : txtOf 16 (some (texb l ++ r)) = (some r, l) := by
  unfold txtOf cntOf texb
  rw [List.append_assoc, numOf_numb _ _ (by omega), if_neg (by simp; omega)]
  unfold passed
  simp only [Option.getD_some, List.length_append]
  rw [if_neg (by omega)]
  simp
theorem cnt_of {z : Nat} (h : z ≤ 24576) (r : List UInt8) : cntOf 24576 (some (numb z ++ r)) = (some r, z) := by
  unfold cntOf
  rw [numOf_numb _ _ (by omega), if_neg (by simp; omega)]
theorem u64_nat {z : Int} (h : 0 ≤ z) (h2 : z ≤ 24576) : u64 z = z.toNat := by unfold u64; omega

/-- What was put is got. -/
theorem put_got {x : Ino} {n : Int} (h : fitS x n = true) : getS (putB x n) n = (x, 0) := by
  obtain ⟨h1, h2, h3, h4, h5⟩ := (fit_iff x n).1 h
  obtain ⟨_, h1b, _⟩ := (name_iff _).1 h1
  obtain ⟨⟨b1, b2, b3⟩, b4⟩ := bitsS_yes h5
  have e1 : txtOf 16 (some (putB x n)) = (some (numb (u64 x.size) ++ (bitsS x.at_ n).1), x.name) := txt_of h1b _
  have e2 : cntOf 24576 (some (numb (u64 x.size) ++ (bitsS x.at_ n).1)) = (some (bitsS x.at_ n).1, x.size.toNat) := by
    rw [u64_nat h3.1 h3.2]
    exact cnt_of (by omega) _
  have e3 : listS (bitsS x.at_ n).1 n = (x.at_, true) := by rw [b4]; exact list_bits b1 b2 b3
  have hr : readS (putB x n) n = (some (bitsS x.at_ n).1, x, true) := by
    unfold readS
    rw [e1]
    simp only [e2, Option.getD_some, e3]
    have : ((x.size.toNat : Nat) : Int) = x.size := by omega
    rw [this]
  unfold getS
  rw [hr]
  exact if_pos ⟨rfl, rfl, h⟩

theorem txt_back {b l r : List UInt8} {m : Int} (h : txtOf m (some b) = (some r, l)) : texb l ++ r = b := by
  unfold txtOf at h
  have hc : ∃ t, (cntOf m (some b)).1 = some t := by
    cases hq : (cntOf m (some b)).1 with
    | some t => exact ⟨t, rfl⟩
    | none =>
      rw [hq] at h
      unfold passed at h
      split at h <;> cases h
  obtain ⟨t, ht⟩ := hc
  have hn : numOf (some b) = (some t, (cntOf m (some b)).2) := by
    unfold cntOf at ht ⊢
    split
    · rename_i hh; rw [if_pos hh] at ht; cases ht
    · rename_i hh; rw [if_neg hh] at ht; exact Prod.ext ht rfl
  generalize (cntOf m (some b)).2 = k at h hn
  rw [ht] at h
  have hb := numb_numOf b t k hn
  unfold passed at h
  split at h
  · cases h
  · rename_i hk
    simp only [Option.getD_some] at hk h
    injection h with ha hl
    simp only [Option.map_some, Option.some.injEq] at ha
    have hk2 : k ≤ t.length := by omega
    rw [Int.toNat_natCast] at ha hl
    have hlen : l.length = k := by rw [← hl, List.length_take]; omega
    unfold texb
    rw [hlen, ← hl, ← ha, List.append_assoc, List.take_append_drop]
    exact hb

theorem cnt_back {b r : List UInt8} {m : Int} {z : Nat} (h : cntOf m (some b) = (some r, z)) : numb z ++ r = b ∧ (z : Int) ≤ m := by
  unfold cntOf at h
  split at h
  · cases h
  · rename_i hc
    rw [h] at hc
    exact ⟨numb_numOf b r z h, by omega⟩

theorem cnt_none (m : Int) : (cntOf m none).1 = none := by
  have : numOf none = (none, 0) := rfl
  unfold cntOf
  rw [this]
  split <;> rfl

/-- What is got, put again, is what it was. -/
theorem got_put {b : List UInt8} {n : Int} (h : ¬ (getS b n).2 = 2) : fitS (getS b n).1 n = true ∧ putB (getS b n).1 n = b ∧ (getS b n).2 = 0 := by
  unfold getS at h ⊢
  by_cases hc : (readS b n).1.isSome = true ∧ (readS b n).2.2 = true ∧ fitS (readS b n).2.1 n = true
  · rw [if_pos hc]
    refine ⟨hc.2.2, ?_, rfl⟩
    obtain ⟨c1, c2, c3⟩ := hc
    obtain ⟨f1, f2, f3, f4, f5⟩ := (fit_iff _ n).1 c3
    obtain ⟨_, b4⟩ := bitsS_yes f5
    unfold putB
    rw [b4]
    show texb (txtOf 16 (some b)).2 ++ (numb (u64 ((cntOf 24576 (txtOf 16 (some b)).1).2 : Int)) ++ bitsB (listS ((cntOf 24576 (txtOf 16 (some b)).1).1.getD []) n).1 (bytesN n)) = b
    have c1' : ((cntOf 24576 (txtOf 16 (some b)).1).1).isSome = true := c1
    have c2' : (listS ((cntOf 24576 (txtOf 16 (some b)).1).1.getD []) n).2 = true := c2
    have g3 : 0 ≤ ((cntOf 24576 (txtOf 16 (some b)).1).2 : Int) ∧ ((cntOf 24576 (txtOf 16 (some b)).1).2 : Int) ≤ 24576 := f3
    clear f1 f2 f3 f4 f5 b4 c1 c2 c3 h
    obtain ⟨⟨st1, l⟩, hT⟩ : ∃ p, txtOf 16 (some b) = p := ⟨_, rfl⟩
    rw [hT] at c1' c2' g3 ⊢
    simp only at c1' c2' g3 ⊢
    cases st1 with
    | none => rw [cnt_none] at c1'; cases c1'
    | some r1 =>
      obtain ⟨⟨st2, z⟩, hC⟩ : ∃ p, cntOf 24576 (some r1) = p := ⟨_, rfl⟩
      rw [hC] at c1' c2' g3 ⊢
      simp only at c1' c2' g3 ⊢
      cases st2 with
      | none => cases c1'
      | some r2 =>
        have e1 := txt_back hT
        have e2 := (cnt_back hC).1
        have e3 := bits_list (b := r2) (n := n) (at_ := (listS r2 n).1) (Prod.ext rfl c2')
        simp only [Option.getD_some]
        rw [u64_nat g3.1 g3.2, e3, Int.toNat_natCast, e2, e1]
  · exact absurd (by rw [if_neg hc]) h

theorem numb_small (z : Nat) (h : z ≤ 65535) : (numb z).length ≤ 3 := by
  unfold numb
  have e : ∀ f z, z < 256 ^ f → f ≤ 8 → dig 8 z = dig f z := fun f => by
    intro z hz hf
    have h1 := dig_val f z hz
    have h2 := dig_head f z hz
    have h3 := dig_of_val 8 (dig f z) (by have := dig_length_le f z; omega) h2
    rw [h1] at h3
    exact h3
  rw [e 2 z (by omega) (by omega)]
  have := dig_length_le 2 z
  simp only [List.length_cons]
  omega

/-- The bytes of an inode are few. -/
theorem put_few {x : Ino} {n : Int} (h : fitS x n = true) : (putB x n).length ≤ 160 := by
  obtain ⟨h1, h2, h3, h4, h5⟩ := (fit_iff x n).1 h
  obtain ⟨_, h1b, _⟩ := (name_iff _).1 h1
  obtain ⟨_, b4⟩ := bitsS_yes h5
  unfold putB texb
  rw [b4]
  have k1 := numb_small x.name.length (by omega)
  have k2 := numb_small (u64 x.size) (by rw [u64_nat h3.1 h3.2]; omega)
  simp only [List.length_append, bitsB_length]
  unfold bytesN
  omega

theorem put_ex : putS ⟨[97], 1, [2]⟩ 8 = ([1, 1, 97, 1, 1, 32], 0) := by decide +kernel
theorem name_ex : nameS [97, 45, 49, 46, 120] = true := by decide +kernel
theorem name_ex2 : nameS [65] = false := by decide +kernel

end Go.Proofs.Ytgahnjhibpcbaaa
