/-
  MarkM: Marks of bytes, plain mathematics: the mark of a list, of two one behind the other; the powers of 4 + i up to the 8191st have a second part that is not 0 (by the kernel), so that lists of one length that are not the same at one or two places have unlike marks. No program, no condition.
  SectM: Sealed sectors, plain mathematics: a sector as a list of 256 bytes, what it is got as, put and got back; a sector of which one byte is another one, or two of the first 252 are, is not got. No program, no condition.
-/
import Derived.Test.YtgoifhpinoodgaaDoorGauM

section
namespace Go.Proofs.YtgoifhpinoodgaaDoor.Gau

/-- What a mark is multiplied by. -/
def base : G := ⟨4, 1⟩
theorem base_gI : gI 4 1 = base := by decide
/-- What one byte does to a mark. -/
def mstep (z : G) (b : UInt8) : G := gadd (gmul z base) (gI ((b.toNat : Int) + 1) 0)
/-- The mark of l behind one that is z. -/
def mkF (z : G) (l : List UInt8) : G := l.foldl mstep z
def mk (l : List UInt8) : G := mkF zero l

theorem mkF_nil (z : G) : mkF z [] = z := rfl
theorem mkF_cons (z : G) (b : UInt8) (l : List UInt8) : mkF z (b :: l) = mkF (mstep z b) l := rfl
theorem mkF_append (z : G) (l m : List UInt8) : mkF z (l ++ m) = mkF (mkF z l) m := List.foldl_append
theorem mk_append (l m : List UInt8) : mk (l ++ m) = mkF (mk l) m := mkF_append _ _ _

theorem ring1 (z b c p m : G) : gadd (gmul (gadd (gmul z b) c) p) m = gadd (gmul z (gmul p b)) (gadd (gmul c p) m) := by
  cases z; cases b; cases c; cases p; cases m; simp only [gmul, gadd, G.mk.injEq]; constructor <;> grind
theorem gzero_add (z : G) : gadd zero z = z := by
  cases z; simp only [gadd, zero, G.mk.injEq]; constructor <;> grind

theorem mkF_eq : ∀ (l : List UInt8) (z : G), mkF z l = gadd (gmul z (gpow base l.length)) (mk l)
  | [], z => by
    rw [mkF_nil, List.length_nil, gpow_zero, mul_one]
    cases z; simp only [mk, mkF_nil, gadd, zero, G.mk.injEq]; constructor <;> grind
  | b :: l, z => by
    have h0 : mk (b :: l) = gadd (gmul (gI ((b.toNat : Int) + 1) 0) (gpow base l.length)) (mk l) := by
      rw [mk, mkF_cons, mkF_eq l, mstep, zero_mul, gzero_add]
    rw [mkF_cons, mkF_eq l, h0, mstep, ring1, List.length_cons, gpow_succ]
theorem mk_cons (b : UInt8) (l : List UInt8) : mk (b :: l) = gadd (gmul (gI ((b.toNat : Int) + 1) 0) (gpow base l.length)) (mk l) := by
  rw [mk, mkF_cons, mkF_eq l, mstep, zero_mul, gzero_add]
/-- The mark of two lists, one behind the other. -/
theorem mk_join (l m : List UInt8) : mk (l ++ m) = gadd (gmul (mk l) (gpow base m.length)) (mk m) := by rw [mk_append, mkF_eq]

/- The powers of base, reckoned by the kernel over Nat. -/
def mulN (z w : Nat × Nat) : Nat × Nat := ((z.1 * w.1 + (67092481 - z.2 * w.2)) % 8191, (z.1 * w.2 + z.2 * w.1) % 8191)
def cb : Nat → Nat → Nat × Nat → Bool
  | 0, e, z => z.2 != 0 || e == 8192
  | k + 1, e, z => cb k e z && cb k (e + 2 ^ k) (mulN z (sqs k (4, 1)))
theorem cb_all : cb 13 1 (4, 1) = true := by decide +kernel

theorem mul_pair (a b : G) : mulN (pair a) (pair b) = pair (gmul a b) := by
  have h1 := a.im.isLt
  have h2 := b.im.isLt
  have m2 : a.im.val * b.im.val ≤ 8191 * 8191 := Nat.mul_le_mul (by omega) (by omega)
  unfold mulN pair gmul
  apply Prod.ext
  · simp only [Fin.sub_def, Fin.val_mul]
    exact (mod_sub _ _ m2).symm
  · simp only [Fin.val_add, Fin.val_mul]
    omega

theorem cb_at : ∀ (k e : Nat), cb k e (pair (gpow base e)) = true → ∀ i, e ≤ i → i < e + 2 ^ k → i ≠ 8192 → (gpow base i).im ≠ 0
  | 0, e, h, i, h1, h2, h3 => by
    have e0 : i = e := by simp at h2; omega
    subst e0
    intro hz
    have hne : (i == 8192) = false := by simpa using h3
    have hz2 : (pair (gpow base i)).2 = 0 := by rw [pair, hz]; rfl
    simp only [cb, hne, Bool.or_false, bne_iff_ne, ne_eq] at h
    exact h hz2
  | k + 1, e, h, i, h1, h2, h3 => by
    simp only [cb, Bool.and_eq_true] at h
    rw [Nat.pow_succ] at h2
    rcases Nat.lt_or_ge i (e + 2 ^ k) with h4 | h4
    · exact cb_at k e h.1 i h1 h4 h3
    · refine cb_at k (e + 2 ^ k) ?_ i h4 (by omega) h3
      have := h.2
      rw [show ((4, 1) : Nat × Nat) = pair base from rfl, sqs_pair, mul_pair, ← gpow_add] at this
      exact this

/-- The powers of base up to the 8191st have a second part that is not 0. -/
theorem pow_im (n : Nat) (h1 : 1 ≤ n) (h2 : n ≤ 8191) : (gpow base n).im ≠ 0 :=
  cb_at 13 1 (by rw [gpow_one]; exact cb_all) n h1 (by omega) (by omega)
theorem pow_last : (gpow base 8192).im = 0 := by
  rw [gpow_8192]; rfl

theorem f_cancel {x y : F} (h : x * y = 0) (hy : y ≠ 0) : x = 0 := by
  obtain ⟨z, hz⟩ := field_inv y hy
  have e : x * (y * z) = 0 := by
    rw [show x * (y * z) = (x * y) * z by grind, h]; grind
  rw [hz] at e
  grind

theorem base_ne (k : Nat) : gpow base k ≠ zero := by
  intro h
  have h2 : ∀ n, gpow base (k + n) = zero := fun n => by rw [gpow_add, h, zero_mul]
  rcases Nat.lt_or_ge k 8191 with h3 | h3
  · have := h2 (8191 - k)
    rw [show k + (8191 - k) = 8191 by omega] at this
    exact pow_im 8191 (by omega) (by omega) (by rw [this]; rfl)
  · -- some power of two above: the number would be 0
    have hz : ∀ m : Nat, gpow base (8192 * m) = gof (gpow (gof 17) m).re := by
      intro m
      induction m with
      | zero => rw [Nat.mul_zero, gpow_zero, gpow_zero]; rfl
      | succ m ih =>
        obtain ⟨x, hx⟩ := gpow_scalar 17 m
        rw [Nat.mul_succ, gpow_add, ih, gpow_8192, show gnorm base = 17 from by decide, gof_mul, gpow_succ, hx, gof_mul]; rfl
    have h4 := h2 (8192 * k - k)
    rw [show k + (8192 * k - k) = 8192 * k by omega, hz] at h4
    obtain ⟨x, hx⟩ := gpow_scalar 17 k
    have hx0 : gof x = zero := by rw [hx] at h4; exact h4
    have h5 := fun n => gpow_add (gof 17) k n
    have h6 := h5 (8190 * k - k)
    rw [show k + (8190 * k - k) = 8190 * k by omega, hx, hx0, zero_mul, ← gpow_gpow, chy_pow 17 (by decide)] at h6
    have h7 : ∀ n, gpow one n = one := by
      intro n
      induction n with
      | zero => rfl
      | succ n ih => rw [gpow_succ, ih, mul_one]
    rw [h7] at h6
    exact absurd h6 (by decide)

/-- One byte changed. -/
theorem mk_set : ∀ (l : List UInt8) (i : Nat) (b v : UInt8), l[i]? = some b → mk (l.set i v) = gadd (mk l) (gmul (gI ((v.toNat : Int) - b.toNat) 0) (gpow base (l.length - 1 - i)))
  | [], i, b, v, h => by simp at h
  | a :: l, 0, b, v, h => by
    simp at h
    subst h
    rw [List.set_cons_zero, mk_cons, mk_cons]
    have e : gI ((v.toNat : Int) + 1) 0 = gadd (gI ((a.toNat : Int) + 1) 0) (gI ((v.toNat : Int) - a.toNat) 0) := by
      unfold gI gadd
      simp only [G.mk.injEq]
      rw [← ofI_add]
      exact ⟨ofI_eq (by congr 1; omega), by decide⟩
    rw [e, show (a :: l).length - 1 - 0 = l.length by simp]
    generalize gpow base l.length = p
    generalize gI ((a.toNat : Int) + 1) 0 = x
    generalize gI ((v.toNat : Int) - a.toNat) 0 = y
    generalize mk l = m
    cases x; cases y; cases p; cases m; simp only [gmul, gadd, G.mk.injEq]; constructor <;> grind
  | a :: l, i + 1, b, v, h => by
    have h' : l[i]? = some b := by simpa using h
    have hl : i < l.length := (List.getElem?_eq_some_iff.1 h').1
    rw [List.set_cons_succ, mk_cons, mk_cons, mk_set l i b v h', List.length_set, show (a :: l).length - 1 - (i + 1) = l.length - 1 - i by simp; omega]
    generalize gmul (gI ((v.toNat : Int) - b.toNat) 0) (gpow base (l.length - 1 - i)) = q
    generalize gmul (gI ((a.toNat : Int) + 1) 0) (gpow base l.length) = x
    generalize mk l = m
    cases x; cases q; cases m; simp only [gadd, G.mk.injEq]; constructor <;> grind

/-- A byte's change as a number. -/
def dlt (v b : UInt8) : F := ofI ((v.toNat : Int) - b.toNat)
theorem dlt_zero {v b : UInt8} (h : dlt v b = 0) : v = b := by
  have h1 := v.toNat_lt
  have h2 := b.toNat_lt
  have h3 := ofI_val ((v.toNat : Int) - b.toNat)
  have h4 : ((ofI ((v.toNat : Int) - b.toNat)).val : Int) = 0 := by
    have := congrArg Fin.val h
    simp only [dlt] at this
    rw [this]; rfl
  exact UInt8.toNat_inj.1 (by omega)
theorem gI_dlt (v b : UInt8) : gI ((v.toNat : Int) - b.toNat) 0 = gof (dlt v b) := by
  unfold gI gof dlt
  simp only [G.mk.injEq]
  exact ⟨trivial, by decide⟩

theorem add_self_zero {m q : G} (h : gadd m q = m) : q = zero := by
  cases m; cases q
  simp only [gadd, G.mk.injEq, zero] at h ⊢
  obtain ⟨h1, h2⟩ := h
  constructor <;> grind

theorem one_place {x : F} {k : Nat} (h : gmul (gof x) (gpow base k) = zero) : x = 0 := by
  have e := cancel (gpow base k) (gof x) zero (base_ne k) (by rw [gmul_comm, h, mul_zero])
  exact gof_inj (e.trans (show zero = gof 0 from rfl))

theorem two_places {x y : F} {k n : Nat} (h1 : 1 ≤ n) (h2 : n ≤ 8191) (h : gadd (gmul (gof x) (gpow base (k + n))) (gmul (gof y) (gpow base k)) = zero) : x = 0 ∧ y = 0 := by
  have e : gmul (gpow base k) (gadd (gmul (gof x) (gpow base n)) (gof y)) = gmul (gpow base k) zero := by
    rw [mul_zero, ← h, gpow_add]
    generalize gpow base k = p
    generalize gpow base n = q
    cases p; cases q; simp only [gmul, gadd, gof, G.mk.injEq]; constructor <;> grind
  have e2 := cancel _ _ _ (base_ne k) e
  have e3 : x * (gpow base n).im = 0 := by
    have := congrArg G.im e2
    simp only [gadd, gmul, gof, zero] at this
    grind
  have hx := f_cancel e3 (pow_im n h1 h2)
  refine ⟨hx, ?_⟩
  have := congrArg G.re e2
  simp only [gadd, gmul, gof, zero] at this
  rw [hx] at this
  grind

/-- Lists of one length that are not the same at one or two places have unlike marks. -/
theorem tells (l : List UInt8) (hl : l.length ≤ 8192) (i j : Nat) (b c v u : UInt8) (hi : l[i]? = some b) (hj : (l.set i v)[j]? = some c) (h : mk ((l.set i v).set j u) = mk l) : (l.set i v).set j u = l := by
  have li : i < l.length := (List.getElem?_eq_some_iff.1 hi).1
  have lj : j < l.length := by simpa using (List.getElem?_eq_some_iff.1 hj).1
  have same : ∀ (m : List UInt8) (k : Nat) (a : UInt8), m[k]? = some a → m.set k a = m := by
    intro m k a hk
    obtain ⟨hlt, e⟩ := List.getElem?_eq_some_iff.1 hk
    rw [← e, List.set_getElem_self]
  by_cases hij : i = j
  · subst hij
    rw [List.set_set] at h ⊢
    rw [mk_set l i b u hi, gI_dlt] at h
    rw [dlt_zero (one_place (add_self_zero h)), same l i b hi]
  · rw [mk_set _ j c u hj, mk_set l i b v hi, List.length_set, gI_dlt, gI_dlt] at h
    have h' : gadd (gmul (gof (dlt v b)) (gpow base (l.length - 1 - i))) (gmul (gof (dlt u c)) (gpow base (l.length - 1 - j))) = zero := by
      apply add_self_zero (m := mk l)
      refine Eq.trans ?_ h
      generalize gmul (gof (dlt v b)) (gpow base (l.length - 1 - i)) = x
      generalize gmul (gof (dlt u c)) (gpow base (l.length - 1 - j)) = y
      generalize mk l = m
      cases x; cases y; cases m; simp only [gadd, G.mk.injEq]; constructor <;> grind
    have hb : v = b ∧ u = c := by
      rcases Nat.lt_or_gt_of_ne hij with hlt | hlt
      · have e : l.length - 1 - i = (l.length - 1 - j) + (j - i) := by omega
        rw [e] at h'
        obtain ⟨h1, h2⟩ := two_places (by omega) (by omega) h'
        exact ⟨dlt_zero h1, dlt_zero h2⟩
      · have e : l.length - 1 - j = (l.length - 1 - i) + (i - j) := by omega
        rw [e] at h'
        have h'' : gadd (gmul (gof (dlt u c)) (gpow base (l.length - 1 - i + (i - j)))) (gmul (gof (dlt v b)) (gpow base (l.length - 1 - i))) = zero := by
          rw [← h']
          generalize gmul (gof (dlt u c)) (gpow base (l.length - 1 - i + (i - j))) = x
          generalize gmul (gof (dlt v b)) (gpow base (l.length - 1 - i)) = y
          cases x; cases y; simp only [gadd, G.mk.injEq]; constructor <;> grind
        obtain ⟨h1, h2⟩ := two_places (by omega) (by omega) h''
        exact ⟨dlt_zero h2, dlt_zero h1⟩
    obtain ⟨rfl, rfl⟩ := hb
    rw [same l i v hi] at hj ⊢
    exact same l j u hj

/-- A mark's four bytes. -/
def mput (z : G) : List UInt8 := [UInt8.ofNat (z.re.val / 256), UInt8.ofNat (z.re.val % 256), UInt8.ofNat (z.im.val / 256), UInt8.ofNat (z.im.val % 256)]
theorem mput_len (z : G) : (mput z).length = 4 := rfl
theorem mput_inj {a b : G} (h : mput a = mput b) : a = b := by
  have h1 := a.re.isLt
  have h2 := a.im.isLt
  have h3 := b.re.isLt
  have h4 := b.im.isLt
  simp only [mput, List.cons.injEq, and_true] at h
  obtain ⟨e1, e2, e3, e4⟩ := h
  have f : ∀ m n : Nat, m < 256 → n < 256 → UInt8.ofNat m = UInt8.ofNat n → m = n := by
    intro m n hm hn e
    have := congrArg UInt8.toNat e
    simpa [Nat.mod_eq_of_lt hm, Nat.mod_eq_of_lt hn] using this
  have g1 := f _ _ (by omega) (by omega) e1
  have g2 := f _ _ (by omega) (by omega) e2
  have g3 := f _ _ (by omega) (by omega) e3
  have g4 := f _ _ (by omega) (by omega) e4
  apply pair_inj
  apply Prod.ext
  · show a.re.val = b.re.val; omega
  · show a.im.val = b.im.val; omega
end Go.Proofs.YtgoifhpinoodgaaDoor.Gau
end

section
namespace Go.Proofs.YtgoifhpinoodgaaDoor
open Gau
set_option linter.unusedVariables false

def zs (n : Nat) : List UInt8 := List.replicate n 0
theorem zs_len (n : Nat) : (zs n).length = n := List.length_replicate
/-- What stands ahead of a body. -/
def hd3 (k : UInt8) (n : Nat) : List UInt8 := [k, UInt8.ofNat (n / 256), UInt8.ofNat (n % 256)]
/-- What stands ahead of a mark. -/
def bareS (k : UInt8) (body : List UInt8) : List UInt8 := hd3 k body.length ++ (body ++ zs (249 - body.length))
def fullS (k : UInt8) (body : List UInt8) : List UInt8 := bareS k body ++ mput (mk (bareS k body))

theorem bareS_len {k : UInt8} {body : List UInt8} (h : body.length ≤ 249) : (bareS k body).length = 252 := by
  simp [bareS, hd3, zs]; omega
theorem fullS_len {k : UInt8} {body : List UInt8} (h : body.length ≤ 249) : (fullS k body).length = 256 := by
  rw [fullS, List.length_append, bareS_len h, mput_len]

/-- A sector, or the error. -/
def putS (kind : Int) (body : List UInt8) : List UInt8 × Int :=
  if kind < 1 ∨ 255 < kind then ([], 1) else if 249 < body.length then ([], 3) else (fullS (UInt8.ofNat kind.toNat) body, 0)
theorem putS_kind {kind : Int} (body : List UInt8) (h : kind < 1 ∨ 255 < kind) : putS kind body = ([], 1) := if_pos h
theorem putS_long {kind : Int} {body : List UInt8} (h : ¬ (kind < 1 ∨ 255 < kind)) (hl : 249 < body.length) : putS kind body = ([], 3) := by rw [putS, if_neg h, if_pos hl]
theorem putS_ok {kind : Int} {body : List UInt8} (h : ¬ (kind < 1 ∨ 255 < kind)) (hl : ¬ 249 < body.length) : putS kind body = (fullS (UInt8.ofNat kind.toNat) body, 0) := by rw [putS, if_neg h, if_neg hl]
theorem putS_zero {kind : Int} {body : List UInt8} (h : (putS kind body).2 = 0) : ¬ (kind < 1 ∨ 255 < kind) ∧ ¬ 249 < body.length := by
  unfold putS at h
  split at h
  · cases h
  · split at h
    · cases h
    · exact ⟨by assumption, by assumption⟩
theorem putS_len (kind : Int) (body : List UInt8) : (putS kind body).1.length ≤ 256 := by
  unfold putS
  split
  · simp
  · split
    · simp
    · rw [fullS_len (by omega)]; exact Nat.le_refl _

/-- How many bytes a sector says that its body has. -/
def lenS (s : List UInt8) : Nat := (s.getD 1 0).toNat * 256 + (s.getD 2 0).toNat
def bodyS (s : List UInt8) : List UInt8 := (s.drop 3).take (lenS s)
def kindS (s : List UInt8) : Nat := (s.getD 0 0).toNat
/-- What bytes are got as. -/
def getS (s : List UInt8) : Int × List UInt8 × Int :=
  if s.length = 256 then
    if s = zs 256 then (0, [], 5)
    else if 249 < lenS s then (0, [], 17)
    else if (putS (kindS s) (bodyS s)).1 = s then (kindS s, bodyS s, 0)
    else (0, [], 17)
  else (0, [], 1)

theorem fullS_kind (k : UInt8) (body : List UInt8) : kindS (fullS k body) = k.toNat := rfl
theorem fullS_lens {k : UInt8} {body : List UInt8} (h : body.length ≤ 249) : lenS (fullS k body) = body.length := by
  show (UInt8.ofNat (body.length / 256)).toNat * 256 + (UInt8.ofNat (body.length % 256)).toNat = body.length
  have e1 : (UInt8.ofNat (body.length / 256)).toNat = body.length / 256 % 256 := by simp
  have e2 : (UInt8.ofNat (body.length % 256)).toNat = body.length % 256 := by simp
  rw [e1, e2]
  omega
theorem fullS_body {k : UInt8} {body : List UInt8} (h : body.length ≤ 249) : bodyS (fullS k body) = body := by
  unfold bodyS
  rw [fullS_lens h]
  show (((body ++ zs (249 - body.length)) ++ mput (mk (bareS k body))).take body.length) = body
  rw [List.append_assoc, List.take_left]
theorem fullS_nz {k : UInt8} {body : List UInt8} (hk : k ≠ 0) : fullS k body ≠ zs 256 := by
  intro h
  apply hk
  have h1 : (fullS k body)[0]? = (zs 256)[0]? := by rw [h]
  have h2 : (fullS k body)[0]? = some k := rfl
  have h3 : (zs 256)[0]? = some 0 := by unfold zs; rw [List.getElem?_replicate, if_pos (by omega)]
  rw [h2, h3] at h1
  exact Option.some.inj h1

theorem kind_byte {kind : Int} (h : ¬ (kind < 1 ∨ 255 < kind)) : ((UInt8.ofNat kind.toNat).toNat : Int) = kind := by
  have e1 : (UInt8.ofNat kind.toNat).toNat = kind.toNat % 256 := by simp
  rw [e1]
  omega
/-- What was put is got. -/
theorem get_put {kind : Int} {body : List UInt8} (h : (putS kind body).2 = 0) : getS (putS kind body).1 = (kind, body, 0) := by
  obtain ⟨h1, h2⟩ := putS_zero h
  rw [putS_ok h1 h2]
  have hk : UInt8.ofNat kind.toNat ≠ 0 := by
    intro e
    have := kind_byte h1
    rw [e] at this
    have e0 : ((0 : UInt8).toNat : Int) = 0 := rfl
    omega
  have h3 : body.length ≤ 249 := by omega
  unfold getS
  rw [if_pos (fullS_len h3), if_neg (fullS_nz hk), fullS_lens h3, if_neg h2, fullS_kind, fullS_body h3, kind_byte h1, putS_ok h1 h2, if_pos rfl]

theorem getS_len {s : List UInt8} (h : (getS s).2.2 = 0) : s.length = 256 := by
  unfold getS at h
  split at h
  · assumption
  · cases h
theorem getS_ok {s : List UInt8} (h : (getS s).2.2 = 0) : getS s = ((kindS s : Int), bodyS s, 0) ∧ (putS (kindS s) (bodyS s)).1 = s := by
  unfold getS at h ⊢
  split at h
  · rename_i h1
    split at h
    · cases h
    · rename_i h2
      split at h
      · cases h
      · rename_i h3
        split at h
        · rename_i h4
          rw [if_pos h1, if_neg h2, if_neg h3, if_pos h4]
          exact ⟨rfl, h4⟩
        · cases h
  · cases h
/-- What is got, put again, is what it was. -/
theorem put_get {s : List UInt8} (h : (getS s).2.2 = 0) : putS (getS s).1 (getS s).2.1 = (s, 0) := by
  have hl := getS_len h
  obtain ⟨h1, h2⟩ := getS_ok h
  rw [h1]
  show putS (kindS s) (bodyS s) = (s, 0)
  unfold putS at h2 ⊢
  split at h2
  · rw [← h2] at hl; cases hl
  · rename_i h3
    split at h2
    · rw [← h2] at hl; cases hl
    · rename_i h4
      rw [if_neg h3, if_neg h4]
      exact congrArg (·, 0) h2

theorem get_shape {s : List UInt8} (h : (getS s).2.2 = 0) : ∃ p : List UInt8, p.length = 252 ∧ s = p ++ mput (mk p) := by
  have h1 := put_get h
  obtain ⟨h2, h3⟩ := putS_zero (congrArg Prod.snd h1)
  rw [putS_ok h2 h3] at h1
  exact ⟨bareS _ _, bareS_len (by omega), (congrArg Prod.fst h1).symm⟩

theorem set_same {l : List UInt8} {i : Nat} {a : UInt8} (h : l[i]? = some a) : l.set i a = l := by
  obtain ⟨hlt, e⟩ := List.getElem?_eq_some_iff.1 h
  rw [← e, List.set_getElem_self]

theorem two_ahead {p p' : List UInt8} (hp : p.length = 252) (hp' : p'.length = 252) (i j : Nat) (v u : UInt8) (hi : i ≤ 251) (hj : j ≤ 251)
    (h : p' ++ mput (mk p') = ((p ++ mput (mk p)).set i v).set j u) : p' = p := by
  rw [List.set_append_left _ _ (by omega), List.set_append_left _ _ (by rw [List.length_set]; omega)] at h
  obtain ⟨h1, h2⟩ := List.append_inj h (by simp; omega)
  have h3 := mput_inj h2
  have li : i < p.length := by omega
  have lj : j < (p.set i v).length := by rw [List.length_set]; omega
  rw [h1] at h3
  rw [h1]
  exact tells p (by omega) i j p[i] (p.set i v)[j] v u (List.getElem?_eq_getElem li) (List.getElem?_eq_getElem lj) h3
theorem one_at {p p' : List UInt8} (hp : p.length = 252) (hp' : p'.length = 252) (i : Nat) (v : UInt8) (h : p' ++ mput (mk p') = (p ++ mput (mk p)).set i v) : p' = p := by
  by_cases hi : i ≤ 251
  · refine two_ahead hp hp' i i v v hi hi ?_
    rw [List.set_set]
    exact h
  · rw [List.set_append_right _ _ (by omega)] at h
    exact (List.append_inj h (by omega)).1

/-- A sector of which just one byte is another one, or just two of the first 252 are, is not got. -/
theorem sect_tells (s t : List UInt8) (hs : (getS s).2.2 = 0) (i j : Nat) (b c p q : UInt8) (hi : s[i]? = some p) (hj : (s.set i (p ^^^ b))[j]? = some q) (ht : t = (s.set i (p ^^^ b)).set j (q ^^^ c))
    (hone : b = 0 ∨ c = 0 ∨ i = j ∨ (i ≤ 251 ∧ j ≤ 251)) : decide ((getS t).2.2 = 0) = decide (s = t) := by
  apply decide_eq_decide.2
  constructor
  · intro h
    obtain ⟨m, hm, e1⟩ := get_shape hs
    obtain ⟨m', hm', e2⟩ := get_shape h
    have key : m' = m := by
      rw [e2, e1] at ht
      rw [e1] at hi hj
      rcases hone with hb | hc | hij | ⟨h1, h2⟩
      · have e0 : p ^^^ b = p := by rw [hb]; exact UInt8.xor_zero
        rw [e0, set_same hi] at ht
        exact one_at hm hm' j _ ht
      · have e0 : q ^^^ c = q := by rw [hc]; exact UInt8.xor_zero
        rw [e0, set_same hj] at ht
        exact one_at hm hm' i _ ht
      · subst hij
        rw [List.set_set] at ht
        exact one_at hm hm' i _ ht
      · exact two_ahead hm hm' i j _ _ h1 h2 ht
    rw [e1, e2, key]
  · intro h
    rw [← h]
    exact hs
end Go.Proofs.YtgoifhpinoodgaaDoor
end
