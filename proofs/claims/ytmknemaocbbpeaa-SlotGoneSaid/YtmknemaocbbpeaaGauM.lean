/-
  The field of gauss, plain mathematics: complex numbers whose parts are whole numbers modulo 8191; their powers, inverses,
  and that the power by 8191 is the number turned about. No program, no condition.
-/
namespace Go.Proofs.Ytmknemaocbbpeaa.Gau

/-- A number modulo 8191. -/
abbrev F := Fin 8191

/-- A number of the field. -/
structure G where
  re : F
  im : F
deriving DecidableEq

def one : G := ⟨1, 0⟩
def zero : G := ⟨0, 0⟩
def gadd (a b : G) : G := ⟨a.re + b.re, a.im + b.im⟩
def gsub (a b : G) : G := ⟨a.re - b.re, a.im - b.im⟩
def gmul (a b : G) : G := ⟨a.re * b.re - a.im * b.im, a.re * b.im + a.im * b.re⟩
def gconj (a : G) : G := ⟨a.re, -a.im⟩
def gnorm (a : G) : F := a.re * a.re + a.im * a.im
/-- A number of one part. -/
def gof (x : F) : G := ⟨x, 0⟩

theorem gmul_assoc (a b c : G) : gmul (gmul a b) c = gmul a (gmul b c) := by
  cases a; cases b; cases c; simp only [gmul, G.mk.injEq]; constructor <;> grind
theorem gmul_comm (a b : G) : gmul a b = gmul b a := by
  cases a; cases b; simp only [gmul, G.mk.injEq]; constructor <;> grind
theorem gmul_add (a b c : G) : gmul a (gadd b c) = gadd (gmul a b) (gmul a c) := by
  cases a; cases b; cases c; simp only [gmul, gadd, G.mk.injEq]; constructor <;> grind
theorem gsub_add (a b : G) : gadd (gsub a b) b = a := by
  cases a; cases b; simp only [gsub, gadd, G.mk.injEq]; constructor <;> grind
theorem one_mul (a : G) : gmul one a = a := by
  cases a; simp only [gmul, one, G.mk.injEq]; constructor <;> grind
theorem mul_one (a : G) : gmul a one = a := by rw [gmul_comm, one_mul]
theorem zero_mul (a : G) : gmul zero a = zero := by
  cases a; simp only [gmul, zero, G.mk.injEq]; constructor <;> grind
theorem mul_zero (a : G) : gmul a zero = zero := by rw [gmul_comm, zero_mul]
theorem mul_conj (a : G) : gmul a (gconj a) = gof (gnorm a) := by
  cases a; simp only [gmul, gconj, gof, gnorm, G.mk.injEq]; constructor <;> grind
theorem conj_conj (a : G) : gconj (gconj a) = a := by
  cases a; simp only [gconj, G.mk.injEq]; constructor <;> grind
theorem gof_mul (x y : F) : gmul (gof x) (gof y) = gof (x * y) := by
  simp only [gmul, gof, G.mk.injEq]; constructor <;> grind
theorem swap4 (a b c d : G) : gmul (gmul a b) (gmul c d) = gmul (gmul a c) (gmul b d) := by
  rw [gmul_assoc, gmul_assoc, ← gmul_assoc b c d, gmul_comm b c, gmul_assoc c b d]

/-- The product of n of a. -/
def gpow (a : G) : Nat → G
  | 0 => one
  | n + 1 => gmul (gpow a n) a

theorem gpow_zero (a : G) : gpow a 0 = one := rfl
theorem gpow_succ (a : G) (n : Nat) : gpow a (n + 1) = gmul (gpow a n) a := rfl
theorem gpow_one (a : G) : gpow a 1 = a := by rw [gpow_succ, gpow_zero, one_mul]
theorem gpow_add (a : G) (m n : Nat) : gpow a (m + n) = gmul (gpow a m) (gpow a n) := by
  induction n with
  | zero => rw [Nat.add_zero, gpow_zero, mul_one]
  | succ n ih => rw [← Nat.add_assoc, gpow_succ, ih, gpow_succ, gmul_assoc]
theorem gpow_mul (a b : G) (n : Nat) : gpow (gmul a b) n = gmul (gpow a n) (gpow b n) := by
  induction n with
  | zero => rw [gpow_zero, gpow_zero, gpow_zero, one_mul]
  | succ n ih => rw [gpow_succ, ih, gpow_succ, gpow_succ, swap4]
theorem gpow_gpow (a : G) (m n : Nat) : gpow (gpow a m) n = gpow a (m * n) := by
  induction n with
  | zero => rw [gpow_zero, Nat.mul_zero, gpow_zero]
  | succ n ih => rw [gpow_succ, ih, Nat.mul_succ, gpow_add]
theorem gpow_double (a : G) (n : Nat) : gpow (gmul a a) n = gpow a (2 * n) := by
  have h : gmul a a = gpow a 2 := by rw [gpow_succ, gpow_one]
  rw [h, gpow_gpow]
theorem gpow_of_zero (n : Nat) (h : 0 < n) : gpow zero n = zero := by
  cases n with
  | zero => omega
  | succ n => rw [gpow_succ, mul_zero]

/-- A power, reckoned by squares: one round of the loop that both programs run. -/
theorem gpow_even (x a : G) (n : Nat) (h : n % 2 = 0) : gmul x (gpow a n) = gmul x (gpow (gmul a a) (n / 2)) := by
  rw [gpow_double, show 2 * (n / 2) = n by omega]
theorem gpow_odd (x a : G) (n : Nat) (h : n % 2 = 1) : gmul x (gpow a n) = gmul (gmul x a) (gpow (gmul a a) (n / 2)) := by
  rw [gpow_double, gmul_assoc]
  congr 1
  rw [gmul_comm a, ← gpow_succ, show 2 * (n / 2) + 1 = n by omega]

/- What the kernel reckons, over Nat: of each u the power by 8192 of u + i; of each y but 0 the power by 8190. -/
def sq (z : Nat × Nat) : Nat × Nat := ((z.1 * z.1 + (67092481 - z.2 * z.2)) % 8191, (2 * z.1 * z.2) % 8191)
def sqs : Nat → Nat × Nat → Nat × Nat
  | 0, z => z
  | k + 1, z => sqs k (sq z)
def chk (u : Nat) : Bool := (u * u + 1) % 8191 != 0 && (match sqs 13 (u, 1) with | (a, b) => a == (u * u + 1) % 8191 && b == 0)
def sy : Nat → Nat → Nat → Nat
  | 0, _, a => a
  | k + 1, y, a => sy k (y * y % 8191) (a * (y * y % 8191) % 8191)
def chy (y : Nat) : Bool := y % 8191 == 0 || sy 12 y 1 == 1
def allFrom (c : Nat → Bool) : Nat → Nat → Bool
  | 0, lo => c lo
  | k + 1, lo => allFrom c k lo && allFrom c k (lo + 2 ^ k)

theorem allFrom_at (c : Nat → Bool) : ∀ (k lo : Nat), allFrom c k lo = true → ∀ i, lo ≤ i → i < lo + 2 ^ k → c i = true
  | 0, lo, h, i, h1, h2 => by
    have e : i = lo := by simp at h2; omega
    rw [e]; exact h
  | k + 1, lo, h, i, h1, h2 => by
    simp only [allFrom, Bool.and_eq_true] at h
    rw [Nat.pow_succ] at h2
    rcases Nat.lt_or_ge i (lo + 2 ^ k) with h3 | h3
    · exact allFrom_at c k lo h.1 i h1 h3
    · exact allFrom_at c k (lo + 2 ^ k) h.2 i h3 (by omega)

theorem chk_all : allFrom chk 13 0 = true := by decide +kernel
theorem chy_all : allFrom chy 13 0 = true := by decide +kernel
theorem chk_at (u : F) : chk u.val = true := allFrom_at chk 13 0 chk_all u.val (by omega) (by have := u.isLt; omega)
theorem chy_at (u : F) : chy u.val = true := allFrom_at chy 13 0 chy_all u.val (by omega) (by have := u.isLt; omega)

/-- A number as two Nats. -/
def pair (a : G) : Nat × Nat := (a.re.val, a.im.val)

theorem mod_sub (x y : Nat) (hy : y ≤ 67092481) : (8191 - y % 8191 + x % 8191) % 8191 = (x + (67092481 - y)) % 8191 := by omega

theorem sq_pair (a : G) : sq (pair a) = pair (gmul a a) := by
  have h2 := a.im.isLt
  have m2 : a.im.val * a.im.val ≤ 8191 * 8191 := Nat.mul_le_mul (by omega) (by omega)
  unfold sq pair gmul
  apply Prod.ext
  · simp only [Fin.sub_def, Fin.val_mul]
    exact (mod_sub _ _ m2).symm
  · simp only [Fin.val_add, Fin.val_mul]
    rw [Nat.mul_assoc, Nat.mul_comm a.im.val]
    omega

theorem sqs_pair : ∀ (k : Nat) (a : G), sqs k (pair a) = pair (gpow a (2 ^ k))
  | 0, a => by rw [Nat.pow_zero, gpow_one]; rfl
  | k + 1, a => by
    show sqs k (sq (pair a)) = _
    rw [sq_pair, sqs_pair k, gpow_double, Nat.pow_succ, Nat.mul_comm]

theorem pair_inj {a b : G} (h : pair a = pair b) : a = b := by
  cases a; cases b
  simp only [pair, Prod.mk.injEq] at h
  rw [G.mk.injEq]
  exact ⟨Fin.ext h.1, Fin.ext h.2⟩

theorem chk_norm (u : F) : gnorm ⟨u, 1⟩ ≠ 0 := by
  have h := chk_at u
  simp only [chk, Bool.and_eq_true, bne_iff_ne] at h
  intro e
  apply h.1
  have := congrArg Fin.val e
  simp only [gnorm, Fin.val_add, Fin.val_mul] at this
  simpa using this

theorem chk_pow (u : F) : gpow ⟨u, 1⟩ 8192 = gof (gnorm ⟨u, 1⟩) := by
  have h := chk_at u
  simp only [chk, Bool.and_eq_true, bne_iff_ne, beq_iff_eq] at h
  have e := sqs_pair 13 ⟨u, 1⟩
  have h2 := h.2
  rw [show ((u.val, 1) : Nat × Nat) = pair ⟨u, 1⟩ from rfl, e] at h2
  apply pair_inj
  apply Prod.ext
  · rw [show (8192 : Nat) = 2 ^ 13 from rfl]
    refine h2.1.trans ?_
    simp only [gnorm, gof, pair, Fin.val_add, Fin.val_mul]
    simp
  · exact h2.2

theorem sy_gof : ∀ (k : Nat) (y a : F), (sy k y.val a.val) = (gmul (gof a) (gpow (gof y) (2 ^ (k + 1) - 2))).re.val ∧ (gpow (gof y) (2 ^ (k + 1) - 2)).im = 0
  | 0, y, a => by
    show a.val = (gmul (gof a) one).re.val ∧ _
    rw [mul_one]
    exact ⟨rfl, rfl⟩
  | k + 1, y, a => by
    have ih := sy_gof k (y * y) (a * (y * y))
    have e : 2 ^ (k + 1 + 1) - 2 = 2 + 2 * (2 ^ (k + 1) - 2) := by
      have := Nat.one_le_two_pow (n := k)
      rw [Nat.pow_succ, Nat.pow_succ]
      omega
    have e2 : gpow (gof y) (2 ^ (k + 1 + 1) - 2) = gmul (gof (y * y)) (gpow (gof (y * y)) (2 ^ (k + 1) - 2)) := by
      rw [e, gpow_add, ← gpow_double, gof_mul, gpow_succ, gpow_one, gof_mul]
    rw [e2]
    constructor
    · show sy k (y.val * y.val % 8191) (a.val * (y.val * y.val % 8191) % 8191) = _
      have := ih.1
      rw [Fin.val_mul, Fin.val_mul, Fin.val_mul] at this
      rw [this, ← gof_mul, gmul_assoc]
    · have h2 := ih.2
      generalize gpow (gof (y * y)) (2 ^ (k + 1) - 2) = z at h2
      cases z
      simp only at h2
      subst h2
      simp only [gmul, gof]
      grind

theorem sy_one (n k : Nat) (hk : k + 2 = 2 ^ (n + 1)) (y : F) (h : sy n y.val 1 = 1) : gpow (gof y) k = one := by
  have e := sy_gof n y 1
  have e0 : ((1 : F).val) = 1 := rfl
  rw [e0, show (gof 1 : G) = one from rfl, one_mul, ← hk, Nat.add_sub_cancel, h] at e
  generalize gpow (gof y) k = z at e
  obtain ⟨e1, e2⟩ := e
  apply pair_inj
  apply Prod.ext
  · exact e1.symm
  · exact congrArg Fin.val e2

theorem chy_pow (y : F) (h : y ≠ 0) : gpow (gof y) 8190 = one := by
  have hc := chy_at y
  simp only [chy, Bool.or_eq_true, beq_iff_eq] at hc
  have hl := y.isLt
  have hy : y.val ≠ 0 := fun e => h (Fin.ext e)
  rcases hc with hc | hc
  · omega
  · exact sy_one 12 8190 (by decide) y hc

/-- The inverse of a number of one part. -/
theorem scalar_inv (y : F) (h : y ≠ 0) : gmul (gof y) (gpow (gof y) 8189) = one := by
  rw [gmul_comm, ← gpow_succ, chy_pow y h]

theorem gpow_scalar (y : F) : ∀ n, ∃ x, gpow (gof y) n = gof x
  | 0 => ⟨1, rfl⟩
  | n + 1 => by
    obtain ⟨x, hx⟩ := gpow_scalar y n
    exact ⟨x * y, by rw [gpow_succ, hx, gof_mul]⟩

theorem gof_inj {x y : F} (h : gof x = gof y) : x = y := by simpa [gof] using h

theorem field_inv (y : F) (h : y ≠ 0) : ∃ x : F, y * x = 1 := by
  obtain ⟨x, hx⟩ := gpow_scalar y 8189
  refine ⟨x, gof_inj ?_⟩
  rw [← gof_mul, ← hx, scalar_inv y h]; rfl

theorem scalar_8192 (y : F) : gpow (gof y) 8192 = gof (y * y) := by
  by_cases h : y = 0
  · subst h
    rw [show (gof 0 : G) = zero from rfl, gpow_of_zero _ (by omega)]; rfl
  · rw [show (8192 : Nat) = 8190 + 2 from rfl, gpow_add, chy_pow y h, one_mul, gpow_succ, gpow_one, gof_mul]

/-- A number as a product of one of one part and u + i. -/
theorem split_im (a : G) (h : a.im ≠ 0) : ∃ u : F, a = gmul (gof a.im) ⟨u, 1⟩ := by
  obtain ⟨x, hx⟩ := field_inv a.im h
  refine ⟨a.re * x, ?_⟩
  cases a
  simp only [gmul, gof, G.mk.injEq] at *
  constructor <;> grind

theorem gpow_8192 (a : G) : gpow a 8192 = gof (gnorm a) := by
  by_cases h : a.im = 0
  · have e : a = gof a.re := by cases a; simp only [gof] at *; rw [h]
    rw [e, scalar_8192]
    simp only [gof, gnorm, G.mk.injEq]
    constructor <;> grind
  · obtain ⟨u, hu⟩ := split_im a h
    obtain ⟨y, hy⟩ : ∃ y, y = a.im := ⟨_, rfl⟩
    rw [← hy] at hu
    rw [hu, gpow_mul, scalar_8192, chk_pow, gof_mul]
    congr 1
    simp only [gof, gmul, gnorm]
    grind

theorem norm_zero (a : G) (h : gnorm a = 0) : a = zero := by
  by_cases h1 : a.im = 0
  · by_cases h2 : a.re = 0
    · cases a; simp only at *; subst h1 h2; rfl
    · obtain ⟨x, hx⟩ := field_inv a.re h2
      exfalso
      have : (1 : F) = 0 := by
        simp only [gnorm, h1] at h
        grind
      exact absurd this (by decide)
  · obtain ⟨u, hu⟩ := split_im a h1
    obtain ⟨x, hx⟩ := field_inv a.im h1
    exfalso
    apply chk_norm u
    have e1 := congrArg G.re hu
    have e2 := congrArg G.im hu
    simp only [gmul, gof, gnorm] at *
    grind

theorem norm_ne (a : G) (h : a ≠ zero) : gnorm a ≠ 0 := fun e => h (norm_zero a e)

/-- THE INVERSE, as the program reckons it. -/
def ginv (a : G) : G := gmul (gconj a) (gpow (gof (gnorm a)) 8189)

theorem mul_inv (a : G) (h : a ≠ zero) : gmul a (ginv a) = one := by
  unfold ginv
  rw [← gmul_assoc, mul_conj, scalar_inv _ (norm_ne a h)]

theorem cancel (a x y : G) (h : a ≠ zero) (e : gmul a x = gmul a y) : x = y := by
  have := congrArg (gmul (ginv a)) e
  rwa [← gmul_assoc, ← gmul_assoc, gmul_comm (ginv a), mul_inv a h, one_mul, one_mul] at this

/-- THE POWER BY 8191 IS THE NUMBER TURNED ABOUT. -/
theorem gpow_p (a : G) : gpow a 8191 = gconj a := by
  by_cases h : a = zero
  · subst h; rw [gpow_of_zero _ (by omega)]; rfl
  · apply cancel a _ _ h
    rw [mul_conj, gmul_comm, ← gpow_succ, gpow_8192]

theorem ginv_zero : ginv zero = zero := by
  unfold ginv
  rw [show gconj zero = zero from rfl, zero_mul]

/-- The inverse, as the document reckons it: the power by P * P - 2. -/
theorem ginv_pow (a : G) : gpow a 67092479 = ginv a := by
  by_cases h : a = zero
  · subst h; rw [gpow_of_zero _ (by omega), ginv_zero]
  · have h1 : gpow a 67092481 = a := by
      rw [show (67092481 : Nat) = 8191 * 8191 from rfl, ← gpow_gpow, gpow_p, gpow_p, conj_conj]
    apply cancel a _ _ h
    rw [mul_inv a h]
    apply cancel a _ _ h
    rw [mul_one, gmul_comm _ (gmul a _), gmul_comm a (gpow a _), ← gpow_succ, ← gpow_succ, h1]

/- Whole numbers as numbers modulo 8191. -/
def ofI (n : Int) : F := ⟨(n % 8191).toNat, by omega⟩
def gI (re im : Int) : G := ⟨ofI re, ofI im⟩

theorem ofI_val (n : Int) : ((ofI n).val : Int) = n % 8191 := by simp only [ofI]; omega
theorem ofI_eq {a b : Int} (h : a % 8191 = b % 8191) : ofI a = ofI b := by
  apply Fin.ext; simp only [ofI]; rw [h]
theorem ofI_of (x : F) : ofI (x.val : Int) = x := by
  apply Fin.ext
  have := x.isLt
  simp only [ofI]; omega
theorem val_add (x y : F) : ofI (x.val + y.val : Int) = x + y := by
  apply Fin.ext
  have := x.isLt
  have := y.isLt
  rw [Fin.val_add]; simp only [ofI]; omega
theorem val_sub (x y : F) : ofI (x.val - y.val : Int) = x - y := by
  apply Fin.ext
  have := x.isLt
  have := y.isLt
  simp only [Fin.sub_def]; simp only [ofI]; omega
theorem val_neg (y : F) : ofI (-(y.val : Int)) = -y := by
  have h := val_sub 0 y
  simp only [Fin.val_zero] at h
  rw [show -(y.val : Int) = ((0 : Nat) : Int) - y.val by omega, h]
  grind
theorem val_mul (x y : F) : ofI ((x.val : Int) * y.val) = x * y := by
  apply Fin.ext
  rw [Fin.val_mul]
  simp only [ofI]
  rw [← Int.natCast_mul]
  generalize x.val * y.val = z
  omega
theorem ofI_add (a b : Int) : ofI (a + b) = ofI a + ofI b := by
  rw [← val_add, ofI_val, ofI_val]; exact ofI_eq (by omega)
theorem ofI_sub (a b : Int) : ofI (a - b) = ofI a - ofI b := by
  rw [← val_sub, ofI_val, ofI_val]; exact ofI_eq (by omega)
theorem gI_add (a b : G) : gI (a.re.val + b.re.val) (a.im.val + b.im.val) = gadd a b := by
  unfold gI gadd; rw [val_add, val_add]
theorem gI_sub (a b : G) : gI (a.re.val - b.re.val) (a.im.val - b.im.val) = gsub a b := by
  unfold gI gsub; rw [val_sub, val_sub]
theorem gI_mul (a b : G) : gI ((a.re.val : Int) * b.re.val - a.im.val * b.im.val) (a.re.val * b.im.val + a.im.val * b.re.val) = gmul a b := by
  unfold gI gmul; rw [ofI_sub, ofI_add, val_mul, val_mul, val_mul, val_mul]
theorem gI_conj (a : G) : gI a.re.val (-(a.im.val : Int)) = gconj a := by
  unfold gI gconj; rw [ofI_of, val_neg]
theorem gI_self (a : G) : gI a.re.val a.im.val = a := by
  unfold gI; rw [ofI_of, ofI_of]
theorem norm_val (a : G) : ofI ((a.re.val : Int) * a.re.val + a.im.val * a.im.val) = gnorm a := by
  unfold gnorm; rw [ofI_add, val_mul, val_mul]
end Go.Proofs.Ytmknemaocbbpeaa.Gau
