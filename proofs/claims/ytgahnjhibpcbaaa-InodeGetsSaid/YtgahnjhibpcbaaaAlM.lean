/-
  Which places are free, sets of numbers as bits, bytes cut into sectors: plain mathematics. No condition; nothing of the dump is used here.
-/
import Derived.Laws.BitsAllLaws
namespace Go.Proofs.Ytgahnjhibpcbaaa
set_option linter.unusedVariables false

/-- Numbers as whole ones. -/
def ofN (l : List Nat) : List Int := l.map fun (n : Nat) => (n : Int)
theorem ofN_length (l : List Nat) : (ofN l).length = l.length := by simp [ofN]
theorem ofN_add (l m : List Nat) : ofN (l ++ m) = ofN l ++ ofN m := by simp [ofN]
theorem ofN_one (k : Nat) : ofN [k] = [(k : Int)] := rfl

/-- Of the numbers below k, those that f takes. -/
def selK (f : Nat → Bool) (k : Nat) : List Nat := (List.range k).filter f
theorem selK_zero (f : Nat → Bool) : selK f 0 = [] := rfl
theorem selK_yes {f : Nat → Bool} {k : Nat} (h : f k = true) : selK f (k + 1) = selK f k ++ [k] := by
  unfold selK
  rw [List.range_succ, List.filter_append]
  simp [h]
theorem selK_no {f : Nat → Bool} {k : Nat} (h : f k = false) : selK f (k + 1) = selK f k := by
  unfold selK
  rw [List.range_succ, List.filter_append]
  simp [h]
theorem selK_le (f : Nat → Bool) : ∀ k, (selK f k).length ≤ k
  | 0 => Nat.le_refl _
  | k + 1 => by
    have := selK_le f k
    cases h : f k
    · rw [selK_no h]; omega
    · rw [selK_yes h, List.length_append]; simp; omega
theorem selK_take (f : Nat → Bool) {k : Nat} : ∀ m, k ≤ m → (selK f m).take (selK f k).length = selK f k
  | 0, h => by obtain rfl : k = 0 := by omega
               simp
  | m + 1, h => by
    by_cases e : k = m + 1
    · subst e; simp
    · have ih := selK_take f (k := k) m (by omega)
      have hl : (selK f k).length ≤ (selK f m).length := by rw [← ih]; simp; omega
      cases h : f m
      · rw [selK_no h]; exact ih
      · rw [selK_yes h, List.take_append_of_le_length hl]; exact ih
theorem selK_same {f g : Nat → Bool} {k : Nat} (h : ∀ i, i < k → f i = g i) : selK f k = selK g k := by
  unfold selK
  exact List.filter_congr fun i hi => h i (List.mem_range.1 hi)
theorem selK_end {f : Nat → Bool} {k : Nat} : ∀ m, k ≤ m → (∀ i, k ≤ i → i < m → f i = false) → selK f m = selK f k
  | 0, h, _ => by obtain rfl : k = 0 := by omega
                  rfl
  | m + 1, h, hf => by
    by_cases e : k = m + 1
    · subst e; rfl
    · rw [selK_no (hf m (by omega) (by omega))]
      exact selK_end m (by omega) fun i h1 h2 => hf i h1 (by omega)
theorem selK_pair (f : Nat → Bool) (k : Nat) : (selK f k).Pairwise (· < ·) := List.Pairwise.filter _ List.pairwise_lt_range
theorem mem_selK {f : Nat → Bool} {k i : Nat} : i ∈ selK f k ↔ i < k ∧ f i = true := by simp [selK]

/-- The free places of used. -/
def freeF (us : List Bool) (i : Nat) : Bool := !us.getD i true
def usedF (us : List Bool) (i : Nat) : Bool := us.getD i false
def countS (us : List Bool) : Nat := (selK (usedF us) us.length).length
def pickS (us : List Bool) (n : Int) : List Int × Bool :=
  if n < 0 ∨ ((selK (freeF us) us.length).length : Int) < n then ([], false) else (ofN ((selK (freeF us) us.length).take n.toNat), true)
theorem free_used {us : List Bool} : ∀ k, k ≤ us.length → (selK (freeF us) k).length + (selK (usedF us) k).length = k
  | 0, _ => rfl
  | k + 1, h => by
    have ih := free_used (us := us) k (by omega)
    have hg : us[k]? = some us[k] := List.getElem?_eq_getElem (by omega)
    cases hk : us[k]
    · rw [hk] at hg
      rw [selK_yes (f := freeF us) (by simp [freeF, hg]), selK_no (f := usedF us) (by simp [usedF, hg]), List.length_append]
      simp; omega
    · rw [hk] at hg
      rw [selK_no (f := freeF us) (by simp [freeF, hg]), selK_yes (f := usedF us) (by simp [usedF, hg]), List.length_append]
      simp; omega
theorem take_more {l : List Nat} {n k : Nat} (h : (l.take n).length < n) : (l ++ [k]).take n = l.take n ++ [k] := by
  rw [List.length_take] at h
  have hl : l.length < n := by omega
  rw [List.take_of_length_le (by simp; omega), List.take_of_length_le (by omega)]
theorem take_full {l : List Nat} {n k : Nat} (h : ¬ (l.take n).length < n) : (l ++ [k]).take n = l.take n := by
  rw [List.length_take] at h
  rw [List.take_append_of_le_length (by omega)]

/-- The number of which f tells the bits, the highest one first. -/
def cK (f : Nat → Bool) : Nat → Nat
  | 0 => 0
  | k + 1 => 2 * cK f k + (f k).toNat
theorem cK_lt (f : Nat → Bool) : ∀ k, cK f k < 2 ^ k
  | 0 => by simp [cK]
  | k + 1 => by
    have := cK_lt f k
    have h2 := Bool.toNat_lt (f k)
    rw [cK, Nat.pow_succ]
    omega
theorem cK_eight (f : Nat → Bool) : cK f 8 < 256 := cK_lt f 8
theorem cK_le (f : Nat → Bool) {k : Nat} (h : k ≤ 8) : cK f k ≤ 255 := by
  have h1 := cK_lt f k
  have h2 : 2 ^ k ≤ 2 ^ 8 := Nat.pow_le_pow_right (by omega) h
  omega
def v8 (a b c d e f g h : Bool) : Nat := 2 * (2 * (2 * (2 * (2 * (2 * (2 * (2 * 0 + a.toNat) + b.toNat) + c.toNat) + d.toNat) + e.toNat) + f.toNat) + g.toNat) + h.toNat
theorem cK_v8 (f : Nat → Bool) : cK f 8 = v8 (f 0) (f 1) (f 2) (f 3) (f 4) (f 5) (f 6) (f 7) := rfl
theorem v8_or : ∀ a b c d e f g h : Bool, ∀ r : Fin 8, v8 a b c d e f g h ||| 2 ^ (7 - r.val) = v8 (a || (0 == r.val)) (b || (1 == r.val)) (c || (2 == r.val)) (d || (3 == r.val)) (e || (4 == r.val)) (f || (5 == r.val)) (g || (6 == r.val)) (h || (7 == r.val)) := by
  decide +kernel
theorem v8_at : ∀ a b c d e f g h : Bool, ∀ r : Fin 8, (v8 a b c d e f g h / 2 ^ (7 - r.val) % 2 == 1) = ([a, b, c, d, e, f, g, h].getD r.val false) := by
  decide +kernel
theorem and_at : ∀ x : Fin 256, ∀ r : Fin 8, (x.val &&& 2 ^ (7 - r.val) == 0) = !(x.val / 2 ^ (7 - r.val) % 2 == 1) := by
  decide +kernel
theorem cK_or (f : Nat → Bool) (r : Nat) (hr : r < 8) : cK f 8 ||| 2 ^ (7 - r) = cK (fun k => f k || (k == r)) 8 := by
  rw [cK_v8, cK_v8]
  exact v8_or _ _ _ _ _ _ _ _ ⟨r, hr⟩
theorem cK_at (f : Nat → Bool) (r : Nat) (hr : r < 8) : (cK f 8 / 2 ^ (7 - r) % 2 == 1) = f r := by
  rw [cK_v8]
  refine (v8_at _ _ _ _ _ _ _ _ ⟨r, hr⟩).trans ?_
  match r, hr with
  | 0, _ | 1, _ | 2, _ | 3, _ | 4, _ | 5, _ | 6, _ | 7, _ => rfl

/-- The numbers l as m bytes of bits. -/
def inF (l : List Int) (i : Nat) : Bool := decide ((i : Int) ∈ l)
def by8 (f : Nat → Bool) : UInt8 := UInt8.ofNat (cK f 8)
theorem by8_nat (f : Nat → Bool) : (by8 f).toNat = cK f 8 := by
  have := cK_eight f
  simp [by8]; omega
def bitsB (l : List Int) (m : Nat) : List UInt8 := (List.range m).map fun j => by8 fun k => inF l (8 * j + k)
theorem bitsB_length (l : List Int) (m : Nat) : (bitsB l m).length = m := by simp [bitsB]
theorem bitsB_at (l : List Int) {m j : Nat} (h : j < m) : (bitsB l m)[j]? = some (by8 fun k => inF l (8 * j + k)) := by simp [bitsB, h]
theorem bitsB_zero (l : List Int) : bitsB l 0 = [] := rfl
theorem bitsB_more (l : List Int) (m : Nat) : bitsB l (m + 1) = bitsB l m ++ [by8 fun k => inF l (8 * m + k)] := by simp [bitsB, List.range_succ]
theorem bitsB_nil (m : Nat) : bitsB [] m = List.replicate m 0 := by
  apply List.ext_getElem?
  intro i
  by_cases h : i < m
  · rw [bitsB_at _ h, List.getElem?_replicate, if_pos h]; rfl
  · rw [List.getElem?_eq_none (by rw [bitsB_length]; omega), List.getElem?_eq_none (by simp; omega)]
theorem bitsB_set (l : List Int) {m i : Nat} (h : i < 8 * m) : bitsB (l ++ [(i : Int)]) m = (bitsB l m).set (i / 8) (UInt8.ofNat (cK (fun k => inF l (8 * (i / 8) + k)) 8 ||| 2 ^ (7 - i % 8))) := by
  rw [cK_or _ _ (Nat.mod_lt _ (by omega))]
  apply List.ext_getElem?
  intro j
  rw [List.getElem?_set, bitsB_length]
  by_cases hj : j < m
  · rw [bitsB_at _ hj, bitsB_at _ hj]
    by_cases e : i / 8 = j
    · subst e
      rw [if_pos rfl, if_pos hj]
      have : (fun k => inF (l ++ [(i : Int)]) (8 * (i / 8) + k)) = fun k => inF l (8 * (i / 8) + k) || (k == i % 8) := by
        funext k
        simp only [inF, List.mem_append, List.mem_singleton, Bool.decide_or]
        congr 1
        by_cases hk : k = i % 8
        · subst hk
          simp only [beq_self_eq_true, decide_eq_true_eq]
          omega
        · rw [beq_false_of_ne hk]
          simp only [decide_eq_false_iff_not]
          omega
      unfold by8
      rw [this]
    · rw [if_neg e]
      have hd : ∀ k, k < 8 → inF (l ++ [(i : Int)]) (8 * j + k) = inF l (8 * j + k) := fun k hk => by
        have : ¬ (((8 * j + k : Nat) : Int) = (i : Int)) := by omega
        simp only [inF, List.mem_append, List.mem_singleton, this, or_false]
      have e8 : cK (fun k => inF (l ++ [(i : Int)]) (8 * j + k)) 8 = cK (fun k => inF l (8 * j + k)) 8 := by
        rw [cK_v8, cK_v8]
        simp only [hd 0 (by omega), hd 1 (by omega), hd 2 (by omega), hd 3 (by omega), hd 4 (by omega), hd 5 (by omega), hd 6 (by omega), hd 7 (by omega)]
      unfold by8
      rw [e8]
  · rw [List.getElem?_eq_none (by rw [bitsB_length]; omega), List.getElem?_eq_none (by rw [bitsB_length]; omega)]
    split
    · rw [if_neg (by omega)]
    · rfl

/-- The j'th number is from 0 to n - 1, and above the one ahead. -/
def okA (at_ : List Int) (n : Int) (j : Nat) : Prop := 0 ≤ at_.getD j 0 ∧ at_.getD j 0 < n ∧ (0 < j → at_.getD (j - 1) 0 < at_.getD j 0)
instance (at_ : List Int) (n : Int) (j : Nat) : Decidable (okA at_ n j) := by unfold okA; infer_instance
def okB (at_ : List Int) (n : Int) : Prop := ∀ j, j < at_.length → okA at_ n j
instance (at_ : List Int) (n : Int) : Decidable (okB at_ n) := by unfold okB; infer_instance
def bytesN (n : Int) : Nat := (n.toNat + 7) / 8
def bitsS (at_ : List Int) (n : Int) : List UInt8 × Bool := if n < 0 ∨ 4096 < n ∨ ¬ okB at_ n then ([], false) else (bitsB at_ (bytesN n), true)

theorem okB_lt {at_ : List Int} {n : Int} (h : okB at_ n) {i j : Nat} (hij : i < j) (hj : j < at_.length) : at_.getD i 0 < at_.getD j 0 := by
  induction j with
  | zero => omega
  | succ j ih =>
    have h1 := (h (j + 1) hj).2.2 (by omega)
    rw [Nat.add_sub_cancel] at h1
    by_cases e : i = j
    · subst e; exact h1
    · have := ih (by omega) (by omega)
      omega
theorem okB_pair {at_ : List Int} {n : Int} (h : okB at_ n) : at_.Pairwise (· < ·) := by
  rw [List.pairwise_iff_getElem]
  intro i j hi hj hij
  have := okB_lt h hij hj
  rwa [List.getD_eq_getElem?_getD, List.getD_eq_getElem?_getD, List.getElem?_eq_getElem hi, List.getElem?_eq_getElem hj] at this
theorem okB_mem {at_ : List Int} {n : Int} (h : okB at_ n) {z : Int} (hz : z ∈ at_) : 0 ≤ z ∧ z < n := by
  obtain ⟨j, hj, rfl⟩ := List.mem_iff_getElem.1 hz
  obtain ⟨h1, h2, _⟩ := h j hj
  rw [List.getD_eq_getElem?_getD, List.getElem?_eq_getElem hj] at h1 h2
  exact ⟨h1, h2⟩

/-- The first d numbers may be and lie below k; the others, if all may be, do not. -/
def StB (l : List Int) (n : Int) (k d : Nat) : Prop := (∀ j, j < d → okA l k j) ∧ (okB l n → ∀ j, d ≤ j → j < l.length → (k : Int) ≤ l.getD j 0)
theorem StB.zero (l : List Int) (n : Int) : StB l n 0 0 := ⟨fun j hj => absurd hj (Nat.not_lt_zero _), fun ho j _ hj => (ho j hj).1⟩
theorem getD_of {l : List Int} {d : Nat} {z : Int} (h : l[d]? = some z) : l.getD d 0 = z := by rw [List.getD_eq_getElem?_getD, h]; rfl
theorem StB.take {l : List Int} {n : Int} {k d : Nat} (h : StB l n k d) (hz : l[d]? = some (k : Int)) : StB l n (k + 1) (d + 1) := by
  have hg := getD_of hz
  have hd := (List.getElem?_eq_some_iff.1 hz).1
  refine ⟨fun j hj => ?_, fun ho j h1 h2 => ?_⟩
  · by_cases e : j = d
    · subst e
      refine ⟨by omega, by omega, fun h0 => ?_⟩
      have := (h.1 (j - 1) (by omega)).2.1
      omega
    · obtain ⟨a, b, c⟩ := h.1 j (by omega)
      exact ⟨a, by omega, c⟩
  · have := okB_lt ho (i := d) (j := j) (by omega) h2
    omega
theorem StB.pass {l : List Int} {n : Int} {k d : Nat} (h : StB l n k d) (hz : l[d]? ≠ some (k : Int)) : StB l n (k + 1) d := by
  refine ⟨fun j hj => ?_, fun ho j h1 h2 => ?_⟩
  · obtain ⟨a, b, c⟩ := h.1 j (by omega)
    exact ⟨a, by omega, c⟩
  · have hd : d < l.length := by omega
    have e1 : l[d]? = some (l.getD d 0) := by rw [List.getD_eq_getElem?_getD, List.getElem?_eq_getElem hd]; rfl
    have h3 := h.2 ho d (Nat.le_refl _) hd
    have h4 : l.getD d 0 ≠ (k : Int) := fun e => hz (by rw [e1, e])
    by_cases e : j = d
    · subst e; omega
    · have := okB_lt ho (i := d) (j := j) (by omega) h2
      omega
theorem StB.no {l : List Int} {n d : Nat} (h : StB l n n d) (hd : d < l.length) : ¬ okB l n := fun ho => by
  have h1 := h.2 ho d (Nat.le_refl _) hd
  have h2 := (ho d hd).2.1
  omega
theorem StB.yes {l : List Int} {n : Nat} (h : StB l n n l.length) : okB l n := h.1

/-- Two lists that rise and have the same numbers are one. -/
theorem rise_ext : ∀ {a b : List Int}, a.Pairwise (· < ·) → b.Pairwise (· < ·) → (∀ z, z ∈ a ↔ z ∈ b) → a = b
  | [], [], _, _, _ => rfl
  | [], y :: b, _, _, h => absurd ((h y).2 (by simp)) (by simp)
  | x :: a, [], _, _, h => absurd ((h x).1 (by simp)) (by simp)
  | x :: a, y :: b, ha, hb, h => by
    rw [List.pairwise_cons] at ha hb
    have hxy : x = y := by
      have h1 := (h x).1 (by simp)
      have h2 := (h y).2 (by simp)
      rw [List.mem_cons] at h1 h2
      rcases h1 with h1 | h1
      · exact h1
      · rcases h2 with h2 | h2
        · exact h2.symm
        · have := hb.1 x h1
          have := ha.1 y h2
          omega
    subst hxy
    rw [rise_ext ha.2 hb.2 fun z => ?_]
    constructor
    · intro hz
      have := (h z).1 (by simp [hz])
      rw [List.mem_cons] at this
      rcases this with rfl | this
      · have := ha.1 z hz; omega
      · exact this
    · intro hz
      have := (h z).2 (by simp [hz])
      rw [List.mem_cons] at this
      rcases this with rfl | this
      · have := hb.1 z hz; omega
      · exact this

/-- Whether the i'th bit is 1. -/
def bitAt (b : List UInt8) (i : Nat) : Bool := (b.getD (i / 8) 0).toNat / 2 ^ (7 - i % 8) % 2 == 1
theorem bitAt_of {b : List UInt8} {i : Nat} {x : UInt8} (h : b[i / 8]? = some x) : bitAt b i = (x.toNat / 2 ^ (7 - i % 8) % 2 == 1) := by
  unfold bitAt
  rw [List.getD_eq_getElem?_getD, h]; rfl
theorem bitAt_and {b : List UInt8} {i : Nat} {x : UInt8} (h : b[i / 8]? = some x) : (x.toNat &&& 2 ^ (7 - i % 8) == 0) = !bitAt b i := by
  rw [bitAt_of h]
  exact and_at ⟨x.toNat, x.toNat_lt⟩ ⟨i % 8, Nat.mod_lt _ (by omega)⟩
theorem bitAt_bits (l : List Int) {m i : Nat} (h : i < 8 * m) : bitAt (bitsB l m) i = inF l i := by
  rw [bitAt_of (bitsB_at l (m := m) (j := i / 8) (by omega)), by8_nat, cK_at _ _ (Nat.mod_lt _ (by omega))]
  rw [Nat.div_add_mod]

def listS (b : List UInt8) (n : Int) : List Int × Bool :=
  if n < 0 ∨ 4096 < n ∨ b.length ≠ bytesN n ∨ ∃ i, i < 8 * b.length ∧ n ≤ (i : Int) ∧ bitAt b i = true then ([], false) else (ofN (selK (bitAt b) (8 * b.length)), true)

theorem list_bits {at_ : List Int} {n : Int} (h0 : ¬ n < 0) (h1 : ¬ 4096 < n) (h : okB at_ n) : listS (bitsB at_ (bytesN n)) n = (at_, true) := by
  unfold listS
  have hl : 8 * (bitsB at_ (bytesN n)).length = 8 * bytesN n := by rw [bitsB_length]
  have hn : n.toNat ≤ 8 * bytesN n := by unfold bytesN; omega
  rw [if_neg]
  · congr 1
    rw [hl, selK_same (g := inF at_) fun i hi => bitAt_bits at_ hi]
    refine rise_ext ?_ (okB_pair h) fun z => ?_
    · unfold ofN
      rw [List.pairwise_map]
      exact (selK_pair _ _).imp fun h => by omega
    · unfold ofN
      rw [List.mem_map]
      constructor
      · rintro ⟨i, hi, rfl⟩
        have := (mem_selK.1 hi).2
        simpa [inF] using this
      · intro hz
        have hb := okB_mem h hz
        refine ⟨z.toNat, mem_selK.2 ⟨by omega, ?_⟩, by omega⟩
        have : ((z.toNat : Nat) : Int) = z := by omega
        simp only [inF, this]
        exact decide_eq_true hz
  · rintro (h2 | h2 | h2 | ⟨i, hi, hni, hb⟩)
    · exact h0 h2
    · exact h1 h2
    · exact h2 (bitsB_length _ _)
    · rw [hl] at hi
      rw [bitAt_bits at_ hi] at hb
      have := okB_mem h (of_decide_eq_true hb)
      omega

/-- How many sectors so many bytes need. -/
def pagesS (n : Int) : Int := if n < 1 then 0 else (n - 1) / 256 + 1
def pagesN (n : Nat) : Nat := (n + 255) / 256
theorem pages_nat (n : Nat) : pagesS (n : Int) = (pagesN n : Int) := by
  unfold pagesS pagesN
  split <;> omega
def zsK (n : Nat) : List UInt8 := List.replicate n 0
/-- The first k bytes of the i'th sector, and bytes 0 behind them. -/
def sectK (b : List UInt8) (i k : Nat) : List UInt8 := (b.drop (256 * i)).take k ++ zsK (256 - k)
def sectC (b : List UInt8) (i : Nat) : List UInt8 := (b.drop (256 * i)).take 256 ++ zsK (256 - (b.drop (256 * i)).length)
def cutK (b : List UInt8) (k : Nat) : List (List UInt8) := (List.range k).map (sectC b)
def cutS (b : List UInt8) : List (List UInt8) := cutK b (pagesN b.length)
theorem zsK_length (n : Nat) : (zsK n).length = n := by simp [zsK]
theorem sectC_length (b : List UInt8) (i : Nat) : (sectC b i).length = 256 := by
  unfold sectC
  rw [List.length_append, List.length_take, zsK_length]; omega
theorem sectK_zero (b : List UInt8) (i : Nat) : sectK b i 0 = zsK 256 := by simp [sectK]
theorem sectK_length (b : List UInt8) (i k : Nat) (h : k ≤ 256) (h2 : 256 * i + k ≤ b.length) : (sectK b i k).length = 256 := by
  unfold sectK
  rw [List.length_append, List.length_take, List.length_drop, zsK_length]; omega
theorem zsK_succ (n : Nat) : zsK (n + 1) = 0 :: zsK n := rfl
theorem sectK_set (b : List UInt8) (i k : Nat) (h : k < 256) {x : UInt8} (hx : b[256 * i + k]? = some x) : (sectK b i k).set k x = sectK b i (k + 1) := by
  have hlt := (List.getElem?_eq_some_iff.1 hx).1
  unfold sectK
  have h1 : (b.drop (256 * i))[k]? = some x := by rw [List.getElem?_drop]; exact hx
  have hl : ((b.drop (256 * i)).take k).length = k := by rw [List.length_take, List.length_drop]; omega
  rw [List.take_add_one, h1, List.set_append_right _ _ (by omega), hl, Nat.sub_self, show 256 - k = (256 - (k + 1)) + 1 from by omega, zsK_succ]
  simp
theorem sectK_end (b : List UInt8) (i k : Nat) (h : k ≤ 256) (h2 : 256 * i + k ≤ b.length) (h3 : k = 256 ∨ 256 * i + k = b.length) : sectK b i k = sectC b i := by
  unfold sectK sectC
  have hl : (b.drop (256 * i)).length = b.length - 256 * i := List.length_drop
  rcases h3 with rfl | h3
  · rw [show 256 - (b.drop (256 * i)).length = 256 - 256 from by omega]
  · rw [List.take_of_length_le (by omega), List.take_of_length_le (by omega), show 256 - (b.drop (256 * i)).length = 256 - k from by omega]
theorem cutK_more (b : List UInt8) (k : Nat) : cutK b (k + 1) = cutK b k ++ [sectC b k] := by simp [cutK, List.range_succ]
theorem cutK_length (b : List UInt8) (k : Nat) : (cutK b k).length = k := by simp [cutK]
theorem cutK_flat (b : List UInt8) : ∀ k, (cutK b k).flatten = b.take (256 * k) ++ zsK (256 * k - b.length)
  | 0 => by simp [cutK, zsK]
  | k + 1 => by
    rw [cutK_more, List.flatten_append, cutK_flat b k]
    simp only [List.flatten_cons, List.flatten_nil, List.append_nil, sectC]
    rcases Nat.lt_or_ge b.length (256 * k) with h | h
    · rw [List.drop_of_length_le (by omega), List.take_nil, List.nil_append, List.take_of_length_le (by omega), List.take_of_length_le (by omega), List.append_assoc]
      unfold zsK
      rw [List.replicate_append_replicate, List.length_nil]
      congr 2; omega
    · rw [show 256 * k - b.length = 0 from by omega]
      rw [show 256 * (k + 1) = 256 * k + 256 from by omega, List.take_add, List.length_drop]
      rw [show 256 - (b.length - 256 * k) = 256 * k + 256 - b.length from by omega]
      simp [zsK]
theorem cutK_at (b : List UInt8) {k m : Nat} (h : k < m) : (cutK b m)[k]? = some (sectC b k) := by simp [cutK, h]
theorem cutK_len (b : List UInt8) : ∀ k, (cutK b k).flatten.length = 256 * k
  | 0 => by simp [cutK]
  | k + 1 => by
    rw [cutK_more, List.flatten_append, List.length_append, cutK_len b k]
    simp only [List.flatten_cons, List.flatten_nil, List.append_nil, sectC_length]
    omega
theorem cutK_step (b : List UInt8) (k : Nat) : (cutK b (k + 1)).flatten = (cutK b k).flatten ++ sectC b k := by
  rw [cutK_more, List.flatten_append]; simp
theorem cutS_flat (b : List UInt8) : (cutS b).flatten = b ++ zsK (256 * pagesN b.length - b.length) := by
  unfold cutS
  rw [cutK_flat, List.take_of_length_le (by unfold pagesN; omega)]
end Go.Proofs.Ytgahnjhibpcbaaa
