/-
  Marks of bytes, plain mathematics: the mark of a list, of two one behind the other; the powers of 4 + i up to the 8191st have a second part that is not 0 (by the kernel),
  so that lists of one length that are not the same at one or two places have unlike marks. No program, no condition.
-/
import Derived.Test.YtmknemaocbbpeaaGauM
namespace Go.Proofs.Ytmknemaocbbpeaa.Gau

/-- What a mark is multiplied by. -/
def base : G := ⟨4, 1⟩
theorem base_gI : gI 4 1 = base := by decide
/-- What one byte does to a mark. -/
def mstep (z : G) (b : UInt8) : G := gadd (gmul z base) (gI ((b.toNat : Int) + 1) 0)
/-- The mark of l behind one that is z. -/
def mkF (z : G) (l : List UInt8) : G := l.foldl mstep z
def mk (l : List UInt8) : G := mkF zero l

theorem mkF_nil (z : G) : mkF z [] = z := rfl
theorem mkF_cons (z : G) (b : UInt8) (l : List UInt8) : mkF z (b :: l) = mkF (mstep z b) l := rfl
theorem mkF_append (z : G) (l m : List UInt8) : mkF z (l ++ m) = mkF (mkF z l) m := List.foldl_append
theorem mk_append (l m : List UInt8) : mk (l ++ m) = mkF (mk l) m := mkF_append _ _ _

theorem ring1 (z b c p m : G) : gadd (gmul (gadd (gmul z b) c) p) m = gadd (gmul z (gmul p b)) (gadd (gmul c p) m) := by
  cases z; cases b; cases c; cases p; cases m; simp only [gmul, gadd, G.mk.injEq]; constructor <;> grind
theorem gzero_add (z : G) : gadd zero z = z := by
  cases z; simp only [gadd, zero, G.mk.injEq]; constructor <;> grind

theorem mkF_eq : ∀ (l : List UInt8) (z : G), mkF z l = gadd (gmul z (gpow base l.length)) (mk l)
  | [], z => by
    rw [mkF_nil, List.length_nil, gpow_zero, mul_one]
    cases z; simp only [mk, mkF_nil, gadd, zero, G.mk.injEq]; constructor <;> grind
  | b :: l, z => by
    have h0 : mk (b :: l) = gadd (gmul (gI ((b.toNat : Int) + 1) 0) (gpow base l.length)) (mk l) := by
      rw [mk, mkF_cons, mkF_eq l, mstep, zero_mul, gzero_add]
    rw [mkF_cons, mkF_eq l, h0, mstep, ring1, List.length_cons, gpow_succ]
theorem mk_cons (b : UInt8) (l : List UInt8) : mk (b :: l) = gadd (gmul (gI ((b.toNat : Int) + 1) 0) (gpow base l.length)) (mk l) := by
  rw [mk, mkF_cons, mkF_eq l, mstep, zero_mul, gzero_add]
/-- The mark of two lists, one behind the other. -/
theorem mk_join (l m : List UInt8) : mk (l ++ m) = gadd (gmul (mk l) (gpow base m.length)) (mk m) := by rw [mk_append, mkF_eq]

/- The powers of base, reckoned by the kernel over Nat. -/
def mulN (z w : Nat × Nat) : Nat × Nat := ((z.1 * w.1 + (67092481 - z.2 * w.2)) % 8191, (z.1 * w.2 + z.2 * w.1) % 8191)
def cb : Nat → Nat → Nat × Nat → Bool
  | 0, e, z => z.2 != 0 || e == 8192
  | k + 1, e, z => cb k e z && cb k (e + 2 ^ k) (mulN z (sqs k (4, 1)))
theorem cb_all : cb 13 1 (4, 1) = true := by decide +kernel

theorem mul_pair (a b : G) : mulN (pair a) (pair b) = pair (gmul a b) := by
  have h1 := a.im.isLt
  have h2 := b.im.isLt
  have m2 : a.im.val * b.im.val ≤ 8191 * 8191 := Nat.mul_le_mul (by omega) (by omega)
  unfold mulN pair gmul
  apply Prod.ext
  · simp only [Fin.sub_def, Fin.val_mul]
    exact (mod_sub _ _ m2).symm
  · simp only [Fin.val_add, Fin.val_mul]
    omega

theorem cb_at : ∀ (k e : Nat), cb k e (pair (gpow base e)) = true → ∀ i, e ≤ i → i < e + 2 ^ k → i ≠ 8192 → (gpow base i).im ≠ 0
  | 0, e, h, i, h1, h2, h3 => by
    have e0 : i = e := by simp at h2; omega
    subst e0
    intro hz
    have hne : (i == 8192) = false := by simpa using h3
    have hz2 : (pair (gpow base i)).2 = 0 := by rw [pair, hz]; rfl
    simp only [cb, hne, Bool.or_false, bne_iff_ne, ne_eq] at h
    exact h hz2
  | k + 1, e, h, i, h1, h2, h3 => by
    simp only [cb, Bool.and_eq_true] at h
    rw [Nat.pow_succ] at h2
    rcases Nat.lt_or_ge i (e + 2 ^ k) with h4 | h4
    · exact cb_at k e h.1 i h1 h4 h3
    · refine cb_at k (e + 2 ^ k) ?_ i h4 (by omega) h3
      have := h.2
      rw [show ((4, 1) : Nat × Nat) = pair base from rfl, sqs_pair, mul_pair, ← gpow_add] at this
      exact this

/-- The powers of base up to the 8191st have a second part that is not 0. -/
theorem pow_im (n : Nat) (h1 : 1 ≤ n) (h2 : n ≤ 8191) : (gpow base n).im ≠ 0 :=
  cb_at 13 1 (by rw [gpow_one]; exact cb_all) n h1 (by omega) (by omega)
theorem pow_last : (gpow base 8192).im = 0 := by
  rw [gpow_8192]; rfl

theorem f_cancel {x y : F} (h : x * y = 0) (hy : y ≠ 0) : x = 0 := by
  obtain ⟨z, hz⟩ := field_inv y hy
  have e : x * (y * z) = 0 := by
    rw [show x * (y * z) = (x * y) * z by grind, h]; grind
  rw [hz] at e
  grind

theorem base_ne (k : Nat) : gpow base k ≠ zero := by
  intro h
  have h2 : ∀ n, gpow base (k + n) = zero := fun n => by rw [gpow_add, h, zero_mul]
  rcases Nat.lt_or_ge k 8191 with h3 | h3
  · have := h2 (8191 - k)
    rw [show k + (8191 - k) = 8191 by omega] at this
    exact pow_im 8191 (by omega) (by omega) (by rw [this]; rfl)
  · -- some power of two above: the number would be 0
    have hz : ∀ m : Nat, gpow base (8192 * m) = gof (gpow (gof 17) m).re := by
      intro m
      induction m with
      | zero => rw [Nat.mul_zero, gpow_zero, gpow_zero]; rfl
      | succ m ih =>
        obtain ⟨x, hx⟩ := gpow_scalar 17 m
        rw [Nat.mul_succ, gpow_add, ih, gpow_8192, show gnorm base = 17 from by decide, gof_mul, gpow_succ, hx, gof_mul]; rfl
    have h4 := h2 (8192 * k - k)
    rw [show k + (8192 * k - k) = 8192 * k by omega, hz] at h4
    obtain ⟨x, hx⟩ := gpow_scalar 17 k
    have hx0 : gof x = zero := by rw [hx] at h4; exact h4
    have h5 := fun n => gpow_add (gof 17) k n
    have h6 := h5 (8190 * k - k)
    rw [show k + (8190 * k - k) = 8190 * k by omega, hx, hx0, zero_mul, ← gpow_gpow, chy_pow 17 (by decide)] at h6
    have h7 : ∀ n, gpow one n = one := by
      intro n
      induction n with
      | zero => rfl
      | succ n ih => rw [gpow_succ, ih, mul_one]
    rw [h7] at h6
    exact absurd h6 (by decide)

/-- One byte changed. -/
theorem mk_set : ∀ (l : List UInt8) (i : Nat) (b v : UInt8), l[i]? = some b → mk (l.set i v) = gadd (mk l) (gmul (gI ((v.toNat : Int) - b.toNat) 0) (gpow base (l.length - 1 - i)))
  | [], i, b, v, h => by simp at h
  | a :: l, 0, b, v, h => by
    simp at h
    subst h
    rw [List.set_cons_zero, mk_cons, mk_cons]
    have e : gI ((v.toNat : Int) + 1) 0 = gadd (gI ((a.toNat : Int) + 1) 0) (gI ((v.toNat : Int) - a.toNat) 0) := by
      unfold gI gadd
      simp only [G.mk.injEq]
      rw [← ofI_add]
      exact ⟨ofI_eq (by congr 1; omega), by decide⟩
    rw [e, show (a :: l).length - 1 - 0 = l.length by simp]
    generalize gpow base l.length = p
    generalize gI ((a.toNat : Int) + 1) 0 = x
    generalize gI ((v.toNat : Int) - a.toNat) 0 = y
    generalize mk l = m
    cases x; cases y; cases p; cases m; simp only [gmul, gadd, G.mk.injEq]; constructor <;> grind
  | a :: l, i + 1, b, v, h => by
    have h' : l[i]? = some b := by simpa using h
    have hl : i < l.length := (List.getElem?_eq_some_iff.1 h').1
    rw [List.set_cons_succ, mk_cons, mk_cons, mk_set l i b v h', List.length_set, show (a :: l).length - 1 - (i + 1) = l.length - 1 - i by simp; omega]
    generalize gmul (gI ((v.toNat : Int) - b.toNat) 0) (gpow base (l.length - 1 - i)) = q
    generalize gmul (gI ((a.toNat : Int) + 1) 0) (gpow base l.length) = x
    generalize mk l = m
    cases x; cases q; cases m; simp only [gadd, G.mk.injEq]; constructor <;> grind

/-- A byte's change as a number. -/
def dlt (v b : UInt8) : F := ofI ((v.toNat : Int) - b.toNat)
theorem dlt_zero {v b : UInt8} (h : dlt v b = 0) : v = b := by
  have h1 := v.toNat_lt
  have h2 := b.toNat_lt
  have h3 := ofI_val ((v.toNat : Int) - b.toNat)
  have h4 : ((ofI ((v.toNat : Int) - b.toNat)).val : Int) = 0 := by
    have := congrArg Fin.val h
    simp only [dlt] at this
    rw [this]; rfl
  exact UInt8.toNat_inj.1 (by omega)
theorem gI_dlt (v b : UInt8) : gI ((v.toNat : Int) - b.toNat) 0 = gof (dlt v b) := by
  unfold gI gof dlt
  simp only [G.mk.injEq]
  exact ⟨trivial, by decide⟩

theorem add_self_zero {m q : G} (h : gadd m q = m) : q = zero := by
  cases m; cases q
  simp only [gadd, G.mk.injEq, zero] at h ⊢
  obtain ⟨h1, h2⟩ := h
  constructor <;> grind

theorem one_place {x : F} {k : Nat} (h : gmul (gof x) (gpow base k) = zero) : x = 0 := by
  have e := cancel (gpow base k) (gof x) zero (base_ne k) (by rw [gmul_comm, h, mul_zero])
  exact gof_inj (e.trans (show zero = gof 0 from rfl))

theorem two_places {x y : F} {k n : Nat} (h1 : 1 ≤ n) (h2 : n ≤ 8191) (h : gadd (gmul (gof x) (gpow base (k + n))) (gmul (gof y) (gpow base k)) = zero) : x = 0 ∧ y = 0 := by
  have e : gmul (gpow base k) (gadd (gmul (gof x) (gpow base n)) (gof y)) = gmul (gpow base k) zero := by
    rw [mul_zero, ← h, gpow_add]
    generalize gpow base k = p
    generalize gpow base n = q
    cases p; cases q; simp only [gmul, gadd, gof, G.mk.injEq]; constructor <;> grind
  have e2 := cancel _ _ _ (base_ne k) e
  have e3 : x * (gpow base n).im = 0 := by
    have := congrArg G.im e2
    simp only [gadd, gmul, gof, zero] at this
    grind
  have hx := f_cancel e3 (pow_im n h1 h2)
  refine ⟨hx, ?_⟩
  have := congrArg G.re e2
  simp only [gadd, gmul, gof, zero] at this
  rw [hx] at this
  grind

/-- Lists of one length that are not the same at one or two places have unlike marks. -/
theorem tells (l : List UInt8) (hl : l.length ≤ 8192) (i j : Nat) (b c v u : UInt8) (hi : l[i]? = some b) (hj : (l.set i v)[j]? = some c) (h : mk ((l.set i v).set j u) = mk l) : (l.set i v).set j u = l := by
  have li : i < l.length := (List.getElem?_eq_some_iff.1 hi).1
  have lj : j < l.length := by simpa using (List.getElem?_eq_some_iff.1 hj).1
  have same : ∀ (m : List UInt8) (k : Nat) (a : UInt8), m[k]? = some a → m.set k a = m := by
    intro m k a hk
    obtain ⟨hlt, e⟩ := List.getElem?_eq_some_iff.1 hk
    rw [← e, List.set_getElem_self]
  by_cases hij : i = j
  · subst hij
    rw [List.set_set] at h ⊢
    rw [mk_set l i b u hi, gI_dlt] at h
    rw [dlt_zero (one_place (add_self_zero h)), same l i b hi]
  · rw [mk_set _ j c u hj, mk_set l i b v hi, List.length_set, gI_dlt, gI_dlt] at h
    have h' : gadd (gmul (gof (dlt v b)) (gpow base (l.length - 1 - i))) (gmul (gof (dlt u c)) (gpow base (l.length - 1 - j))) = zero := by
      apply add_self_zero (m := mk l)
      refine Eq.trans ?_ h
      generalize gmul (gof (dlt v b)) (gpow base (l.length - 1 - i)) = x
      generalize gmul (gof (dlt u c)) (gpow base (l.length - 1 - j)) = y
      generalize mk l = m
      cases x; cases y; cases m; simp only [gadd, G.mk.injEq]; constructor <;> grind
    have hb : v = b ∧ u = c := by
      rcases Nat.lt_or_gt_of_ne hij with hlt | hlt
      · have e : l.length - 1 - i = (l.length - 1 - j) + (j - i) := by omega
        rw [e] at h'
        obtain ⟨h1, h2⟩ := two_places (by omega) (by omega) h'
        exact ⟨dlt_zero h1, dlt_zero h2⟩
      · have e : l.length - 1 - j = (l.length - 1 - i) + (i - j) := by omega
        rw [e] at h'
        have h'' : gadd (gmul (gof (dlt u c)) (gpow base (l.length - 1 - i + (i - j)))) (gmul (gof (dlt v b)) (gpow base (l.length - 1 - i))) = zero := by
          rw [← h']
          generalize gmul (gof (dlt u c)) (gpow base (l.length - 1 - i + (i - j))) = x
          generalize gmul (gof (dlt v b)) (gpow base (l.length - 1 - i)) = y
          cases x; cases y; simp only [gadd, G.mk.injEq]; constructor <;> grind
        obtain ⟨h1, h2⟩ := two_places (by omega) (by omega) h''
        exact ⟨dlt_zero h2, dlt_zero h1⟩
    obtain ⟨rfl, rfl⟩ := hb
    rw [same l i v hi] at hj ⊢
    exact same l j u hj

/-- A mark's four bytes. -/
def mput (z : G) : List UInt8 := [UInt8.ofNat (z.re.val / 256), UInt8.ofNat (z.re.val % 256), UInt8.ofNat (z.im.val / 256), UInt8.ofNat (z.im.val % 256)]
theorem mput_len (z : G) : (mput z).length = 4 := rfl
theorem mput_inj {a b : G} (h : mput a = mput b) : a = b := by
  have h1 := a.re.isLt
  have h2 := a.im.isLt
  have h3 := b.re.isLt
  have h4 := b.im.isLt
  simp only [mput, List.cons.injEq, and_true] at h
  obtain ⟨e1, e2, e3, e4⟩ := h
  have f : ∀ m n : Nat, m < 256 → n < 256 → UInt8.ofNat m = UInt8.ofNat n → m = n := by
    intro m n hm hn e
    have := congrArg UInt8.toNat e
    simpa [Nat.mod_eq_of_lt hm, Nat.mod_eq_of_lt hn] using this
  have g1 := f _ _ (by omega) (by omega) e1
  have g2 := f _ _ (by omega) (by omega) e2
  have g3 := f _ _ (by omega) (by omega) e3
  have g4 := f _ _ (by omega) (by omega) e4
  apply pair_inj
  apply Prod.ext
  · show a.re.val = b.re.val; omega
  · show a.im.val = b.im.val; omega
end Go.Proofs.Ytmknemaocbbpeaa.Gau
