/-
  MarkM: Marks of bytes, plain mathematics: the mark of a list, of two one behind the other; the powers of 4 + i up to the 8191st have a second part that is not 0 (by the kernel), so that lists of one length that are not the same at one or two places have unlike marks. No program, no condition.
  SectM: Sealed sectors, plain mathematics: a sector as a list of 256 bytes, what it is got as, put and got back; a sector of which one byte is another one, or two of the first 252 are, is not got. No program, no condition.
  WaM: A log, plainly: what patches do to a disk, one behind the other, till the power goes; what a row of steps does; what is allowed to stand in each sector, whatever a crash lets stay. No program, no condition.
  ShaN: SHA-256 as plain mathematics, texts: blocks one behind the other, what ends a text, the sum's bytes. No condition; nothing of the dump is used here.
-/
import Derived.Test.YteddmnoeljakpaaGreatDoorGauM
import Derived.Test.YteddmnoeljakpaaGreatDoorSw03
import Derived.Test.YteddmnoeljakpaaGreatDoorSw05
import Derived.Test.YteddmnoeljakpaaGreatDoorSw00
import Derived.Laws.CopyOwn
import Derived.KernelRfl
set_option linter.unusedVariables false
set_option maxRecDepth 100000
section
namespace Go.Proofs.YteddmnoeljakpaaGreatDoor.Gau
def base : G := ⟨4, 1⟩
theorem base_gI : gI 4 1 = base := by decide
def mstep (z : G) (b : UInt8) : G := gadd (gmul z base) (gI ((b.toNat : Int) + 1) 0)
def mkF (z : G) (l : List UInt8) : G := l.foldl mstep z
def mk (l : List UInt8) : G := mkF zero l
theorem mkF_nil (z : G) : mkF z [] = z := rfl
theorem mkF_cons (z : G) (b : UInt8) (l : List UInt8) : mkF z (b :: l) = mkF (mstep z b) l := rfl
theorem mkF_append (z : G) (l m : List UInt8) : mkF z (l ++ m) = mkF (mkF z l) m := List.foldl_append
theorem mk_append (l m : List UInt8) : mk (l ++ m) = mkF (mk l) m := mkF_append _ _ _
theorem ring1 (z b c p m : G) : gadd (gmul (gadd (gmul z b) c) p) m = gadd (gmul z (gmul p b)) (gadd (gmul c p) m) := by
  cases z; cases b; cases c; cases p; cases m; simp only [gmul, gadd, G.mk.injEq]; constructor <;> grind
theorem gzero_add (z : G) : gadd zero z = z := by
  cases z; simp only [gadd, zero, G.mk.injEq]; constructor <;> grind
theorem mkF_eq : ∀ (l : List UInt8) (z : G), mkF z l = gadd (gmul z (gpow base l.length)) (mk l)
  | [], z => by
    rw [mkF_nil, List.length_nil, gpow_zero, mul_one]
    cases z; simp only [mk, mkF_nil, gadd, zero, G.mk.injEq]; constructor <;> grind
  | b :: l, z => by
    have h0 : mk (b :: l) = gadd (gmul (gI ((b.toNat : Int) + 1) 0) (gpow base l.length)) (mk l) := by
      rw [mk, mkF_cons, mkF_eq l, mstep, zero_mul, gzero_add]
    rw [mkF_cons, mkF_eq l, h0, mstep, ring1, List.length_cons, gpow_succ]
theorem mk_cons (b : UInt8) (l : List UInt8) : mk (b :: l) = gadd (gmul (gI ((b.toNat : Int) + 1) 0) (gpow base l.length)) (mk l) := by
  rw [mk, mkF_cons, mkF_eq l, mstep, zero_mul, gzero_add]
/- The powers of base, reckoned by the kernel over Nat. -/
def mulN (z w : Nat × Nat) : Nat × Nat := ((z.1 * w.1 + (67092481 - z.2 * w.2)) % 8191, (z.1 * w.2 + z.2 * w.1) % 8191)
def cb : Nat → Nat → Nat × Nat → Bool
  | 0, e, z => z.2 != 0 || e == 8192
  | k + 1, e, z => cb k e z && cb k (e + 2 ^ k) (mulN z (sqs k (4, 1)))
theorem cb_all : cb 13 1 (4, 1) = true := by decide +kernel
theorem mul_pair (a b : G) : mulN (pair a) (pair b) = pair (gmul a b) := by
  have h1 := a.im.isLt
  have h2 := b.im.isLt
  have m2 : a.im.val * b.im.val ≤ 8191 * 8191 := Nat.mul_le_mul (by omega) (by omega)
  unfold mulN pair gmul
  apply Prod.ext
  · simp only [Fin.sub_def, Fin.val_mul]
    exact (mod_sub _ _ m2).symm
  · simp only [Fin.val_add, Fin.val_mul]
    omega
theorem cb_at : ∀ (k e : Nat), cb k e (pair (gpow base e)) = true → ∀ i, e ≤ i → i < e + 2 ^ k → i ≠ 8192 → (gpow base i).im ≠ 0
  | 0, e, h, i, h1, h2, h3 => by
    have e0 : i = e := by simp at h2; omega
    subst e0
    intro hz
    have hne : (i == 8192) = false := by simpa using h3
    have hz2 : (pair (gpow base i)).2 = 0 := by rw [pair, hz]; rfl
    simp only [cb, hne, Bool.or_false, bne_iff_ne, ne_eq] at h
    exact h hz2
  | k + 1, e, h, i, h1, h2, h3 => by
    simp only [cb, Bool.and_eq_true] at h
    rw [Nat.pow_succ] at h2
    rcases Nat.lt_or_ge i (e + 2 ^ k) with h4 | h4
    · exact cb_at k e h.1 i h1 h4 h3
    · refine cb_at k (e + 2 ^ k) ?_ i h4 (by omega) h3
      have := h.2
      rw [show ((4, 1) : Nat × Nat) = pair base from rfl, sqs_pair, mul_pair, ← gpow_add] at this
      exact this
theorem pow_im (n : Nat) (h1 : 1 ≤ n) (h2 : n ≤ 8191) : (gpow base n).im ≠ 0 :=
  cb_at 13 1 (by rw [gpow_one]; exact cb_all) n h1 (by omega) (by omega)
theorem f_cancel {x y : F} (h : x * y = 0) (hy : y ≠ 0) : x = 0 := by
  obtain ⟨z, hz⟩ := field_inv y hy
  have e : x * (y * z) = 0 := by
    rw [show x * (y * z) = (x * y) * z by grind, h]; grind
  rw [hz] at e
  grind
theorem base_ne (k : Nat) : gpow base k ≠ zero := by
  intro h
  have h2 : ∀ n, gpow base (k + n) = zero := fun n => by rw [gpow_add, h, zero_mul]
  rcases Nat.lt_or_ge k 8191 with h3 | h3
  · have := h2 (8191 - k)
    rw [show k + (8191 - k) = 8191 by omega] at this
    exact pow_im 8191 (by omega) (by omega) (by rw [this]; rfl)
  · -- some power of two above: the number would be 0
    have hz : ∀ m : Nat, gpow base (8192 * m) = gof (gpow (gof 17) m).re := by
      intro m
      induction m with
      | zero => rw [Nat.mul_zero, gpow_zero, gpow_zero]; rfl
      | succ m ih =>
        obtain ⟨x, hx⟩ := gpow_scalar 17 m
        rw [Nat.mul_succ, gpow_add, ih, gpow_8192, show gnorm base = 17 from by decide, gof_mul, gpow_succ, hx, gof_mul]; rfl
    have h4 := h2 (8192 * k - k)
    rw [show k + (8192 * k - k) = 8192 * k by omega, hz] at h4
    obtain ⟨x, hx⟩ := gpow_scalar 17 k
    have hx0 : gof x = zero := by rw [hx] at h4; exact h4
    have h5 := fun n => gpow_add (gof 17) k n
    have h6 := h5 (8190 * k - k)
    rw [show k + (8190 * k - k) = 8190 * k by omega, hx, hx0, zero_mul, ← gpow_gpow, chy_pow 17 (by decide)] at h6
    have h7 : ∀ n, gpow one n = one := by
      intro n
      induction n with
      | zero => rfl
      | succ n ih => rw [gpow_succ, ih, mul_one]
    rw [h7] at h6
    exact absurd h6 (by decide)
theorem mk_set : ∀ (l : List UInt8) (i : Nat) (b v : UInt8), l[i]? = some b → mk (l.set i v) = gadd (mk l) (gmul (gI ((v.toNat : Int) - b.toNat) 0) (gpow base (l.length - 1 - i)))
  | [], i, b, v, h => by simp at h
  | a :: l, 0, b, v, h => by
    simp at h
    subst h
    rw [List.set_cons_zero, mk_cons, mk_cons]
    have e : gI ((v.toNat : Int) + 1) 0 = gadd (gI ((a.toNat : Int) + 1) 0) (gI ((v.toNat : Int) - a.toNat) 0) := by
      unfold gI gadd
      simp only [G.mk.injEq]
      rw [← ofI_add]
      exact ⟨ofI_eq (by congr 1; omega), by decide⟩
    rw [e, show (a :: l).length - 1 - 0 = l.length by simp]
    generalize gpow base l.length = p
    generalize gI ((a.toNat : Int) + 1) 0 = x
    generalize gI ((v.toNat : Int) - a.toNat) 0 = y
    generalize mk l = m
    cases x; cases y; cases p; cases m; simp only [gmul, gadd, G.mk.injEq]; constructor <;> grind
  | a :: l, i + 1, b, v, h => by
    have h' : l[i]? = some b := by simpa using h
    have hl : i < l.length := (List.getElem?_eq_some_iff.1 h').1
    rw [List.set_cons_succ, mk_cons, mk_cons, mk_set l i b v h', List.length_set, show (a :: l).length - 1 - (i + 1) = l.length - 1 - i by simp; omega]
    generalize gmul (gI ((v.toNat : Int) - b.toNat) 0) (gpow base (l.length - 1 - i)) = q
    generalize gmul (gI ((a.toNat : Int) + 1) 0) (gpow base l.length) = x
    generalize mk l = m
    cases x; cases q; cases m; simp only [gadd, G.mk.injEq]; constructor <;> grind
def dlt (v b : UInt8) : F := ofI ((v.toNat : Int) - b.toNat)
theorem dlt_zero {v b : UInt8} (h : dlt v b = 0) : v = b := by
  have h1 := v.toNat_lt
  have h2 := b.toNat_lt
  have h3 := ofI_val ((v.toNat : Int) - b.toNat)
  have h4 : ((ofI ((v.toNat : Int) - b.toNat)).val : Int) = 0 := by
    have := congrArg Fin.val h
    simp only [dlt] at this
    rw [this]; rfl
  exact UInt8.toNat_inj.1 (by omega)
theorem gI_dlt (v b : UInt8) : gI ((v.toNat : Int) - b.toNat) 0 = gof (dlt v b) := by
  unfold gI gof dlt
  simp only [G.mk.injEq]
  exact ⟨trivial, by decide⟩
theorem add_self_zero {m q : G} (h : gadd m q = m) : q = zero := by
  cases m; cases q
  simp only [gadd, G.mk.injEq, zero] at h ⊢
  obtain ⟨h1, h2⟩ := h
  constructor <;> grind
theorem one_place {x : F} {k : Nat} (h : gmul (gof x) (gpow base k) = zero) : x = 0 := by
  have e := cancel (gpow base k) (gof x) zero (base_ne k) (by rw [gmul_comm, h, mul_zero])
  exact gof_inj (e.trans (show zero = gof 0 from rfl))
theorem two_places {x y : F} {k n : Nat} (h1 : 1 ≤ n) (h2 : n ≤ 8191) (h : gadd (gmul (gof x) (gpow base (k + n))) (gmul (gof y) (gpow base k)) = zero) : x = 0 ∧ y = 0 := by
  have e : gmul (gpow base k) (gadd (gmul (gof x) (gpow base n)) (gof y)) = gmul (gpow base k) zero := by
    rw [mul_zero, ← h, gpow_add]
    generalize gpow base k = p
    generalize gpow base n = q
    cases p; cases q; simp only [gmul, gadd, gof, G.mk.injEq]; constructor <;> grind
  have e2 := cancel _ _ _ (base_ne k) e
  have e3 : x * (gpow base n).im = 0 := by
    have := congrArg G.im e2
    simp only [gadd, gmul, gof, zero] at this
    grind
  have hx := f_cancel e3 (pow_im n h1 h2)
  refine ⟨hx, ?_⟩
  have := congrArg G.re e2
  simp only [gadd, gmul, gof, zero] at this
  rw [hx] at this
  grind
theorem tells (l : List UInt8) (hl : l.length ≤ 8192) (i j : Nat) (b c v u : UInt8) (hi : l[i]? = some b) (hj : (l.set i v)[j]? = some c) (h : mk ((l.set i v).set j u) = mk l) : (l.set i v).set j u = l := by
  have li : i < l.length := (List.getElem?_eq_some_iff.1 hi).1
  have lj : j < l.length := by simpa using (List.getElem?_eq_some_iff.1 hj).1
  have same : ∀ (m : List UInt8) (k : Nat) (a : UInt8), m[k]? = some a → m.set k a = m := by
    intro m k a hk
    obtain ⟨hlt, e⟩ := List.getElem?_eq_some_iff.1 hk
    rw [← e, List.set_getElem_self]
  by_cases hij : i = j
  · subst hij
    rw [List.set_set] at h ⊢
    rw [mk_set l i b u hi, gI_dlt] at h
    rw [dlt_zero (one_place (add_self_zero h)), same l i b hi]
  · rw [mk_set _ j c u hj, mk_set l i b v hi, List.length_set, gI_dlt, gI_dlt] at h
    have h' : gadd (gmul (gof (dlt v b)) (gpow base (l.length - 1 - i))) (gmul (gof (dlt u c)) (gpow base (l.length - 1 - j))) = zero := by
      apply add_self_zero (m := mk l)
      refine Eq.trans ?_ h
      generalize gmul (gof (dlt v b)) (gpow base (l.length - 1 - i)) = x
      generalize gmul (gof (dlt u c)) (gpow base (l.length - 1 - j)) = y
      generalize mk l = m
      cases x; cases y; cases m; simp only [gadd, G.mk.injEq]; constructor <;> grind
    have hb : v = b ∧ u = c := by
      rcases Nat.lt_or_gt_of_ne hij with hlt | hlt
      · have e : l.length - 1 - i = (l.length - 1 - j) + (j - i) := by omega
        rw [e] at h'
        obtain ⟨h1, h2⟩ := two_places (by omega) (by omega) h'
        exact ⟨dlt_zero h1, dlt_zero h2⟩
      · have e : l.length - 1 - j = (l.length - 1 - i) + (i - j) := by omega
        rw [e] at h'
        have h'' : gadd (gmul (gof (dlt u c)) (gpow base (l.length - 1 - i + (i - j)))) (gmul (gof (dlt v b)) (gpow base (l.length - 1 - i))) = zero := by
          rw [← h']
          generalize gmul (gof (dlt u c)) (gpow base (l.length - 1 - i + (i - j))) = x
          generalize gmul (gof (dlt v b)) (gpow base (l.length - 1 - i)) = y
          cases x; cases y; simp only [gadd, G.mk.injEq]; constructor <;> grind
        obtain ⟨h1, h2⟩ := two_places (by omega) (by omega) h''
        exact ⟨dlt_zero h2, dlt_zero h1⟩
    obtain ⟨rfl, rfl⟩ := hb
    rw [same l i v hi] at hj ⊢
    exact same l j u hj
def mput (z : G) : List UInt8 := [UInt8.ofNat (z.re.val / 256), UInt8.ofNat (z.re.val % 256), UInt8.ofNat (z.im.val / 256), UInt8.ofNat (z.im.val % 256)]
theorem mput_len (z : G) : (mput z).length = 4 := rfl
end Go.Proofs.YteddmnoeljakpaaGreatDoor.Gau
end
namespace Go.Proofs.YteddmnoeljakpaaGreatDoor
section
open Gau
def zs (n : Nat) : List UInt8 := List.replicate n 0
theorem zs_len (n : Nat) : (zs n).length = n := List.length_replicate
def hd3 (k : UInt8) (n : Nat) : List UInt8 := [k, UInt8.ofNat (n / 256), UInt8.ofNat (n % 256)]
def bareS (k : UInt8) (body : List UInt8) : List UInt8 := hd3 k body.length ++ (body ++ zs (249 - body.length))
def fullS (k : UInt8) (body : List UInt8) : List UInt8 := bareS k body ++ mput (mk (bareS k body))
theorem bareS_len {k : UInt8} {body : List UInt8} (h : body.length ≤ 249) : (bareS k body).length = 252 := by
  simp [bareS, hd3, zs]; omega
theorem fullS_len {k : UInt8} {body : List UInt8} (h : body.length ≤ 249) : (fullS k body).length = 256 := by
  rw [fullS, List.length_append, bareS_len h, mput_len]
def putS (kind : Int) (body : List UInt8) : List UInt8 × Int :=
  if kind < 1 ∨ 255 < kind then ([], 1) else if 249 < body.length then ([], 3) else (fullS (UInt8.ofNat kind.toNat) body, 0)
theorem putS_kind {kind : Int} (body : List UInt8) (h : kind < 1 ∨ 255 < kind) : putS kind body = ([], 1) := if_pos h
theorem putS_long {kind : Int} {body : List UInt8} (h : ¬ (kind < 1 ∨ 255 < kind)) (hl : 249 < body.length) : putS kind body = ([], 3) := by rw [putS, if_neg h, if_pos hl]
theorem putS_ok {kind : Int} {body : List UInt8} (h : ¬ (kind < 1 ∨ 255 < kind)) (hl : ¬ 249 < body.length) : putS kind body = (fullS (UInt8.ofNat kind.toNat) body, 0) := by rw [putS, if_neg h, if_neg hl]
theorem putS_zero {kind : Int} {body : List UInt8} (h : (putS kind body).2 = 0) : ¬ (kind < 1 ∨ 255 < kind) ∧ ¬ 249 < body.length := by
  unfold putS at h
  split at h
  · cases h
  · split at h
    · cases h
    · exact ⟨by assumption, by assumption⟩
theorem putS_len (kind : Int) (body : List UInt8) : (putS kind body).1.length ≤ 256 := by
  unfold putS
  split
  · simp
  · split
    · simp
    · rw [fullS_len (by omega)]; exact Nat.le_refl _
def lenS (s : List UInt8) : Nat := (s.getD 1 0).toNat * 256 + (s.getD 2 0).toNat
def bodyS (s : List UInt8) : List UInt8 := (s.drop 3).take (lenS s)
def kindS (s : List UInt8) : Nat := (s.getD 0 0).toNat
def getS (s : List UInt8) : Int × List UInt8 × Int :=
  if s.length = 256 then
    if s = zs 256 then (0, [], 5)
    else if 249 < lenS s then (0, [], 17)
    else if (putS (kindS s) (bodyS s)).1 = s then (kindS s, bodyS s, 0)
    else (0, [], 17)
  else (0, [], 1)
theorem fullS_kind (k : UInt8) (body : List UInt8) : kindS (fullS k body) = k.toNat := rfl
theorem fullS_lens {k : UInt8} {body : List UInt8} (h : body.length ≤ 249) : lenS (fullS k body) = body.length := by
  show (UInt8.ofNat (body.length / 256)).toNat * 256 + (UInt8.ofNat (body.length % 256)).toNat = body.length
  have e1 : (UInt8.ofNat (body.length / 256)).toNat = body.length / 256 % 256 := by simp
  have e2 : (UInt8.ofNat (body.length % 256)).toNat = body.length % 256 := by simp
  rw [e1, e2]
  omega
theorem fullS_body {k : UInt8} {body : List UInt8} (h : body.length ≤ 249) : bodyS (fullS k body) = body := by
  unfold bodyS
  rw [fullS_lens h]
  show (((body ++ zs (249 - body.length)) ++ mput (mk (bareS k body))).take body.length) = body
  rw [List.append_assoc, List.take_left]
theorem fullS_nz {k : UInt8} {body : List UInt8} (hk : k ≠ 0) : fullS k body ≠ zs 256 := by
  intro h
  apply hk
  have h1 : (fullS k body)[0]? = (zs 256)[0]? := by rw [h]
  have h2 : (fullS k body)[0]? = some k := rfl
  have h3 : (zs 256)[0]? = some 0 := by unfold zs; rw [List.getElem?_replicate, if_pos (by omega)]
  rw [h2, h3] at h1
  exact Option.some.inj h1
theorem kind_byte {kind : Int} (h : ¬ (kind < 1 ∨ 255 < kind)) : ((UInt8.ofNat kind.toNat).toNat : Int) = kind := by
  have e1 : (UInt8.ofNat kind.toNat).toNat = kind.toNat % 256 := by simp
  rw [e1]
  omega
theorem get_put {kind : Int} {body : List UInt8} (h : (putS kind body).2 = 0) : getS (putS kind body).1 = (kind, body, 0) := by
  obtain ⟨h1, h2⟩ := putS_zero h
  rw [putS_ok h1 h2]
  have hk : UInt8.ofNat kind.toNat ≠ 0 := by
    intro e
    have := kind_byte h1
    rw [e] at this
    have e0 : ((0 : UInt8).toNat : Int) = 0 := rfl
    omega
  have h3 : body.length ≤ 249 := by omega
  unfold getS
  rw [if_pos (fullS_len h3), if_neg (fullS_nz hk), fullS_lens h3, if_neg h2, fullS_kind, fullS_body h3, kind_byte h1, putS_ok h1 h2, if_pos rfl]
end
section
open Go.RowKit
abbrev Pt := Int × List UInt8
def wrD (s : Dk) (i : Nat) (b : List UInt8) : Dk := (s.wrote i b).acted
def wsD : Dk → List Pt → Dk × Int
  | s, [] => if s.fuse = 0 then (s, 8) else (s.flushed, 0)
  | s, p :: r => if s.fuse = 0 then (s, 8) else wsD (wrD s p.1.toNat p.2) r
def doD (ps : List Pt) (s : Dk) : Dk × Int := if ps.length = 0 then (s, 0) else wsD s ps
def seqD : List (Dk → Dk × Int) → Dk → Dk × Int
  | [], s => (s, 0)
  | f :: fs, s => if (f s).2 = 0 then seqD fs (f s).1 else f s
def Fit (N : Nat) (ps : List Pt) : Prop := ∀ p ∈ ps, 0 ≤ p.1 ∧ p.1 < (N : Int) ∧ p.2.length = 256
theorem flushed_len (s : Dk) : s.flushed.safe.length = s.safe.length := over_len _ _
theorem wsD_len : ∀ (ps : List Pt) (s : Dk), (wsD s ps).1.safe.length = s.safe.length
  | [], s => by
    unfold wsD
    split
    · rfl
    · exact flushed_len s
  | p :: r, s => by
    unfold wsD
    split
    · rfl
    · rw [wsD_len r]; rfl
theorem doD_len (ps : List Pt) (s : Dk) : (doD ps s).1.safe.length = s.safe.length := by
  unfold doD
  split
  · rfl
  · exact wsD_len ps s
theorem wsD_never : ∀ (ps : List Pt) (s : Dk), s.fuse = -1 → (wsD s ps).2 = 0 ∧ (wsD s ps).1.fuse = -1
  | [], s, h => by
    unfold wsD
    rw [if_neg (by rw [h]; decide)]
    refine ⟨rfl, ?_⟩
    show (Dk.acted _).fuse = -1
    unfold Dk.acted
    show (if 0 < s.fuse then s.fuse - 1 else s.fuse) = -1
    rw [if_neg (by omega), h]
  | p :: r, s, h => by
    unfold wsD
    rw [if_neg (by rw [h]; decide)]
    refine wsD_never r _ ?_
    show (if 0 < s.fuse then s.fuse - 1 else s.fuse) = -1
    rw [if_neg (by omega), h]
theorem doD_never (ps : List Pt) (s : Dk) (h : s.fuse = -1) : (doD ps s).2 = 0 ∧ (doD ps s).1.fuse = -1 := by
  unfold doD
  split
  · exact ⟨rfl, h⟩
  · exact wsD_never ps s h
def May (s : Dk) (i : Nat) (v : List UInt8) : Prop := s.safe[i]? = some v ∨ (i < s.safe.length ∧ s.pend i = some v)
def Allow (Al : Nat → List UInt8 → Prop) (s : Dk) : Prop := ∀ i v, May s i v → Al i v
theorem Allow.wr {Al : Nat → List UInt8 → Prop} {s : Dk} (h : Allow Al s) {i : Nat} {b : List UInt8} (hb : i < s.safe.length → Al i b) : Allow Al (wrD s i b) := by
  intro j v hv
  rcases hv with hv | ⟨hj, hv⟩
  · exact h j v (.inl hv)
  · have hv' : upd s.pend i b j = some v := hv
    unfold upd at hv'
    split at hv'
    · rename_i e
      subst e
      obtain rfl := Option.some.inj hv'
      exact hb hj
    · exact h j v (.inr ⟨hj, hv'⟩)
theorem May.of_with {s : Dk} {g : Nat → Option (List UInt8)} {i : Nat} {v : List UInt8} (h : (over s.safe g)[i]? = some v) (hg : ∀ x, g i = some x → s.pend i = some x) : May s i v := by
  rw [over_at] at h
  cases hs : s.safe[i]? with
  | none => rw [hs] at h; cases h
  | some x =>
    rw [hs] at h
    have hi := (List.getElem?_eq_some_iff.1 hs).1
    simp only [Option.map_some, Option.some.injEq] at h
    cases hgi : g i with
    | none => rw [hgi] at h; exact .inl (by rw [hs]; exact congrArg some h)
    | some y => rw [hgi] at h; exact .inr ⟨hi, by rw [hg y hgi]; exact congrArg some h⟩
theorem Allow.flushed {Al : Nat → List UInt8 → Prop} {s : Dk} (h : Allow Al s) : Allow Al s.flushed := by
  intro i v hv
  rcases hv with hv | ⟨_, hv⟩
  · exact h i v (May.of_with (s := s) (g := s.pend) hv fun x hx => hx)
  · cases hv
theorem keeps_sub (f : Nat → Option (List UInt8)) (ps : List Nat) (ks : List Bool) (k i : Nat) (x : List UInt8) (h : keeps f ps ks k i = some x) : f i = some x := by
  unfold keeps at h
  split at h
  · exact h
  · cases h
theorem crashed_may {s : Dk} {ks : List Bool} {i : Nat} {v : List UInt8} (h : May (s.crashed ks) i v) : May s i v := by
  rcases h with h | ⟨_, h⟩
  · exact May.of_with (s := s) (g := keeps s.pend s.nums ks s.nums.length) h fun x hx => keeps_sub _ _ _ _ _ _ hx
  · cases h
theorem Allow.crashed {Al : Nat → List UInt8 → Prop} {s : Dk} (h : Allow Al s) (ks : List Bool) : Allow Al (s.crashed ks) := fun i v hv => h i v (crashed_may hv)
theorem crashed_one {s : Dk} {ks : List Bool} {i : Nat} {u v : List UInt8} (h : May (s.crashed ks) i u) (k : May (s.crashed ks) i v) : u = v := by
  rcases h with h | ⟨_, h⟩
  · rcases k with k | ⟨_, k⟩
    · exact Option.some.inj (h.symm.trans k)
    · cases k
  · cases h
theorem Allow.wsD {Al : Nat → List UInt8 → Prop} : ∀ (ps : List Pt) {s : Dk}, Allow Al s → (∀ p ∈ ps, p.1.toNat < s.safe.length → Al p.1.toNat p.2) → Allow Al (wsD s ps).1
  | [], s, h, _ => by
    unfold Go.Proofs.YteddmnoeljakpaaGreatDoor.wsD
    split
    · exact h
    · exact h.flushed
  | p :: r, s, h, hp => by
    unfold Go.Proofs.YteddmnoeljakpaaGreatDoor.wsD
    split
    · exact h
    · exact Allow.wsD r (h.wr (hp p (by simp))) fun q hq => hp q (by simp [hq])
theorem Allow.doD {Al : Nat → List UInt8 → Prop} {ps : List Pt} {s : Dk} (h : Allow Al s) (hp : ∀ p ∈ ps, p.1.toNat < s.safe.length → Al p.1.toNat p.2) : Allow Al (doD ps s).1 := by
  unfold Go.Proofs.YteddmnoeljakpaaGreatDoor.doD
  split
  · exact h
  · exact Allow.wsD ps h hp
def lastP : List Pt → Nat → List UInt8 → List UInt8
  | [], _, d => d
  | p :: r, i, d => lastP r i (if p.1.toNat = i then p.2 else d)
def Dk.calm (s : Dk) : Prop := ∀ i, s.pend i = none
theorem wrD_now (s : Dk) (i : Nat) (b : List UInt8) (j : Nat) : (wrD s i b).now j = if i = j then b else s.now j := by
  show (upd s.pend i b j).getD (s.safe.getD j []) = _
  unfold upd
  by_cases h : j = i
  · rw [if_pos h, if_pos h.symm]; rfl
  · rw [if_neg h, if_neg fun e => h e.symm]; rfl
theorem flushed_now {s : Dk} (i : Nat) (hi : i < s.safe.length) : s.flushed.now i = s.now i := by
  show (none : Option (List UInt8)).getD ((over s.safe s.pend).getD i []) = (s.pend i).getD (s.safe.getD i [])
  rw [Option.getD_none, List.getD_eq_getElem?_getD, over_at, List.getD_eq_getElem?_getD, List.getElem?_eq_getElem hi]
  rfl
theorem wsD_ok : ∀ (ps : List Pt) (s : Dk), (wsD s ps).2 = 0 → (wsD s ps).1.calm ∧ ∀ i, i < s.safe.length → (wsD s ps).1.now i = lastP ps i (s.now i)
  | [], s, h => by
    unfold wsD at h ⊢
    split at h
    · cases h
    · rename_i hf
      rw [if_neg hf]
      exact ⟨fun i => rfl, fun i hi => flushed_now i hi⟩
  | p :: r, s, h => by
    unfold wsD at h ⊢
    split at h
    · cases h
    · rename_i hf
      rw [if_neg hf]
      obtain ⟨h1, h2⟩ := wsD_ok r _ h
      refine ⟨h1, fun i hi => ?_⟩
      rw [h2 i hi, wrD_now]
      rfl
theorem doD_ok {ps : List Pt} {s : Dk} (hc : s.calm) (h : (doD ps s).2 = 0) : (doD ps s).1.calm ∧ ∀ i, i < s.safe.length → (doD ps s).1.now i = lastP ps i (s.now i) := by
  unfold doD at h ⊢
  split at h
  · rename_i h0
    rw [if_pos h0]
    obtain rfl : ps = [] := List.eq_nil_of_length_eq_zero h0
    exact ⟨hc, fun _ _ => rfl⟩
  · rename_i h0
    rw [if_neg h0]
    exact wsD_ok ps s h
theorem calm_now {s : Dk} (hc : s.calm) {i : Nat} {v : List UInt8} (h : May s i v) : v = s.now i := by
  unfold Dk.now
  rw [hc i]
  rcases h with h | ⟨_, h⟩
  · rw [Option.getD_none, List.getD_eq_getElem?_getD, h]; rfl
  · rw [hc i] at h; cases h
theorem may_now {s : Dk} {i : Nat} (hi : i < s.safe.length) : May s i (s.now i) := by
  unfold Dk.now
  cases hp : s.pend i with
  | none => exact .inl (by rw [Option.getD_none, List.getD_eq_getElem?_getD, List.getElem?_eq_getElem hi]; rfl)
  | some x => exact .inr ⟨hi, hp⟩
theorem Allow.of_now {Al : Nat → List UInt8 → Prop} {s : Dk} (hc : s.calm) (h : ∀ i, i < s.safe.length → Al i (s.now i)) : Allow Al s := by
  intro i v hv
  have hi : i < s.safe.length := by
    rcases hv with hv | ⟨hi, _⟩
    · exact (List.getElem?_eq_some_iff.1 hv).1
    · exact hi
  rw [calm_now hc hv]
  exact h i hi
theorem lastP_no : ∀ (ps : List Pt) (i : Nat) (d : List UInt8), (∀ p ∈ ps, p.1.toNat ≠ i) → lastP ps i d = d
  | [], _, _, _ => rfl
  | p :: r, i, d, h => by
    unfold lastP
    rw [if_neg (h p (by simp)), lastP_no r i d fun q hq => h q (by simp [hq])]
theorem lastP_all : ∀ (ps : List Pt) (i : Nat) (d v : List UInt8), (∀ p ∈ ps, p.1.toNat = i → p.2 = v) → (∃ p ∈ ps, p.1.toNat = i) → lastP ps i d = v
  | [], _, _, _, _, h => by obtain ⟨p, hp, _⟩ := h; cases hp
  | p :: r, i, d, v, h, hx => by
    unfold lastP
    by_cases hr : ∃ q ∈ r, q.1.toNat = i
    · exact lastP_all r i _ v (fun q hq e => h q (by simp [hq]) e) hr
    · rw [lastP_no r i _ fun q hq e => hr ⟨q, hq, e⟩]
      obtain ⟨q, hq, e⟩ := hx
      rcases List.mem_cons.1 hq with rfl | hq
      · rw [if_pos e]; exact h q (by simp) e
      · exact absurd ⟨q, hq, e⟩ hr
theorem lastP_mem (ps : List Pt) (i : Nat) (d : List UInt8) : (lastP ps i d = d ∧ ∀ p ∈ ps, p.1.toNat ≠ i) ∨ ∃ p ∈ ps, p.1.toNat = i ∧ lastP ps i d = p.2 := by
  induction ps generalizing d with
  | nil => exact .inl ⟨rfl, fun p hp => by cases hp⟩
  | cons p r ih =>
    unfold lastP
    rcases ih (if p.1.toNat = i then p.2 else d) with ⟨h1, h2⟩ | ⟨q, hq, e, h⟩
    · by_cases hp : p.1.toNat = i
      · exact .inr ⟨p, by simp, hp, by rw [h1, if_pos hp]⟩
      · exact .inl ⟨by rw [h1, if_neg hp], fun q hq => by
          rcases List.mem_cons.1 hq with rfl | hq
          · exact hp
          · exact h2 q hq⟩
    · exact .inr ⟨q, by simp [hq], e, h⟩
def Lone (ps : List Pt) : Prop := ∀ p ∈ ps, ∀ q ∈ ps, p.1.toNat = q.1.toNat → p = q
theorem lastP_one {ps : List Pt} (hn : Lone ps) (d : List UInt8) {p : Pt} (hp : p ∈ ps) : lastP ps p.1.toNat d = p.2 :=
  lastP_all ps _ d _ (fun q hq e => by rw [hn q hq p hp e]) ⟨p, hp, rfl⟩
def rowP (at_ : Nat) (ls : List (List UInt8)) : List Pt := ls.mapIdx fun i b => (((at_ + i : Nat) : Int), b)
theorem rowP_at (at_ : Nat) (ls : List (List UInt8)) (j : Nat) : (rowP at_ ls)[j]? = (ls[j]?).map fun b => (((at_ + j : Nat) : Int), b) := by unfold rowP; rw [List.getElem?_mapIdx]
theorem rowP_len (at_ : Nat) (ls : List (List UInt8)) : (rowP at_ ls).length = ls.length := List.length_mapIdx
theorem rowP_mem {at_ : Nat} {ls : List (List UInt8)} {p : Pt} (h : p ∈ rowP at_ ls) : ∃ j, ls[j]? = some p.2 ∧ p.1 = ((at_ + j : Nat) : Int) := by
  obtain ⟨j, hj⟩ := List.mem_iff_getElem?.1 h
  rw [rowP_at] at hj
  cases hl : ls[j]? with
  | none => rw [hl] at hj; cases hj
  | some b =>
    rw [hl] at hj
    simp only [Option.map_some, Option.some.injEq] at hj
    subst hj
    exact ⟨j, hl, rfl⟩
theorem rowP_last {at_ : Nat} {ls : List (List UInt8)} {j : Nat} {b : List UInt8} (h : ls[j]? = some b) (d : List UInt8) : lastP (rowP at_ ls) (at_ + j) d = b := by
  refine lastP_all _ _ _ _ (fun q hq e => ?_) ⟨(((at_ + j : Nat) : Int), b), List.mem_iff_getElem?.2 ⟨j, by rw [rowP_at, h]; rfl⟩, Int.toNat_natCast _⟩
  obtain ⟨k, hk, e2⟩ := rowP_mem hq
  rw [e2, Int.toNat_natCast] at e
  obtain rfl : k = j := by omega
  exact Option.some.inj (hk.symm.trans h)
def wipeP (s : Dk) (a b : Nat) : List Pt := ((List.range' a (b + 1 - a)).filter fun i => !decide (s.now i = zs 256)).map fun (i : Nat) => ((i : Int), zs 256)
def wipeD (a b : Nat) (s : Dk) : Dk × Int := if s.fuse = 0 then (s, 8) else doD (wipeP s a b) s
theorem wipeP_mem {s : Dk} {a b : Nat} {p : Pt} (h : p ∈ wipeP s a b) : ∃ i, a ≤ i ∧ i ≤ b ∧ p = ((i : Int), zs 256) := by
  obtain ⟨i, hi, e⟩ := List.mem_map.1 h
  have := (List.mem_filter.1 hi).1
  rw [List.mem_range'_1] at this
  exact ⟨i, this.1, by omega, e.symm⟩
theorem wipeP_there {s : Dk} {a b i : Nat} (h1 : a ≤ i) (h2 : i ≤ b) (hz : s.now i ≠ zs 256) : ((i : Int), zs 256) ∈ wipeP s a b :=
  List.mem_map.2 ⟨i, List.mem_filter.2 ⟨List.mem_range'_1.2 ⟨h1, by omega⟩, by simp [hz]⟩, rfl⟩
theorem wipe_last {s : Dk} {a b i : Nat} (h1 : a ≤ i) (h2 : i ≤ b) : lastP (wipeP s a b) i (s.now i) = zs 256 := by
  by_cases hz : s.now i = zs 256
  · rcases lastP_mem (wipeP s a b) i (s.now i) with ⟨e, _⟩ | ⟨p, hp, _, e⟩
    · rw [e, hz]
    · obtain ⟨j, _, _, rfl⟩ := wipeP_mem hp
      exact e
  · refine lastP_all _ _ _ _ (fun p hp _ => ?_) ⟨_, wipeP_there h1 h2 hz, Int.toNat_natCast _⟩
    obtain ⟨j, _, _, rfl⟩ := wipeP_mem hp
    rfl
theorem wipe_far {s : Dk} {a b i : Nat} (h : i < a ∨ b < i) (d : List UInt8) : lastP (wipeP s a b) i d = d := by
  refine lastP_no _ _ _ fun p hp e => ?_
  obtain ⟨j, h1, h2, rfl⟩ := wipeP_mem hp
  rw [Int.toNat_natCast] at e
  omega
theorem wipeP_none {s : Dk} {a b : Nat} (h : ∀ i, a ≤ i → i ≤ b → s.now i = zs 256) : wipeP s a b = [] := by
  unfold wipeP
  rw [List.filter_eq_nil_iff.2, List.map_nil]
  intro i hi
  rw [List.mem_range'_1] at hi
  simp [h i hi.1 (by omega)]
theorem wipeD_len (a b : Nat) (s : Dk) : (wipeD a b s).1.safe.length = s.safe.length := by
  unfold wipeD
  split
  · rfl
  · exact doD_len _ _
theorem wipeD_never (a b : Nat) (s : Dk) (h : s.fuse = -1) : (wipeD a b s).2 = 0 ∧ (wipeD a b s).1.fuse = -1 := by
  unfold wipeD
  rw [if_neg (by rw [h]; decide)]
  exact doD_never _ _ h
theorem wipeD_none {a b : Nat} {s : Dk} (hf : s.fuse ≠ 0) (h : ∀ i, a ≤ i → i ≤ b → s.now i = zs 256) : wipeD a b s = (s, 0) := by
  unfold wipeD
  rw [if_neg hf, wipeP_none h]
  rfl
theorem Allow.wipeD {Al : Nat → List UInt8 → Prop} {a b : Nat} {s : Dk} (h : Allow Al s) (hp : ∀ i, a ≤ i → i ≤ b → Al i (zs 256)) : Allow Al (wipeD a b s).1 := by
  unfold Go.Proofs.YteddmnoeljakpaaGreatDoor.wipeD
  split
  · exact h
  · refine h.doD fun p hp' _ => ?_
    obtain ⟨i, h1, h2, rfl⟩ := wipeP_mem hp'
    exact hp i h1 h2
theorem wipeD_ok {a b : Nat} {s : Dk} (hc : s.calm) (h : (wipeD a b s).2 = 0) : (wipeD a b s).1.calm ∧ ∀ i, i < s.safe.length → (wipeD a b s).1.now i = if a ≤ i ∧ i ≤ b then zs 256 else s.now i := by
  unfold wipeD at h ⊢
  split at h
  · cases h
  · rename_i hf
    rw [if_neg hf]
    obtain ⟨h1, h2⟩ := doD_ok hc h
    refine ⟨h1, fun i hi => ?_⟩
    rw [h2 i hi]
    split
    · rename_i hab
      exact wipe_last hab.1 hab.2
    · exact wipe_far (by omega) _
end
section
open Go.RowKit
theorem getD_take (l : List UInt8) (n i : Nat) (h : i < n) : (l.take n).getD i 0 = l.getD i 0 := by
  rw [List.getD_eq_getElem?_getD, List.getD_eq_getElem?_getD, List.getElem?_take, if_pos h]
theorem nextW_congr (l m : List UInt8) (h : l.take 64 = m.take 64) (ws : List Nat) : nextW l ws = nextW m ws := by
  unfold nextW
  split
  · have e : ∀ i, i < 64 → l.getD i 0 = m.getD i 0 := fun i hi => by rw [← getD_take l 64 i hi, h, getD_take m 64 i hi]
    rw [e _ (by omega), e _ (by omega), e _ (by omega), e _ (by omega)]
  · rfl
theorem wordsTo_congr (l m : List UInt8) (h : l.take 64 = m.take 64) (t : Nat) : wordsTo l t = wordsTo m t := by
  induction t with
  | zero => rfl
  | succ t ih => simp only [wordsTo, stepW, ih, nextW_congr l m h]
theorem block8_congr (s : S8) (l m : List UInt8) (h : l.take 64 = m.take 64) : block8 s l = block8 s m := by
  unfold block8; rw [wordsTo_congr l m h]
def blocksN (s : S8) (T : List UInt8) : Nat → S8
  | 0 => s
  | p + 1 => block8 (blocksN s T p) (T.drop (64 * p))
theorem blocksN_ok {s : S8} (h : s.Ok) (T : List UInt8) (p : Nat) : (blocksN s T p).Ok := by
  cases p with
  | zero => exact h
  | succ p => exact block8_ok _ _
theorem blocksN_append (s : S8) (T b : List UInt8) (p : Nat) (h : 64 * p ≤ T.length) : blocksN s (T ++ b) p = blocksN s T p := by
  induction p with
  | zero => rfl
  | succ p ih =>
    simp only [blocksN]
    rw [ih (by omega)]
    apply block8_congr
    rw [List.drop_append_of_le_length (by omega), List.take_append_of_le_length (by simp; omega)]
def init8 : S8 := ⟨1779033703, 3144134277, 1013904242, 2773480762, 1359893119, 2600822924, 528734635, 1541459225⟩
theorem init8_ok : init8.Ok := ⟨by decide, by decide, by decide, by decide, by decide, by decide, by decide, by decide⟩
theorem splice_take {α : Type} (L : List α) (off : Nat) (cs : List α) (h : off + cs.length ≤ L.length) : (splice L off cs).take (off + cs.length) = L.take off ++ cs := by
  unfold splice
  rw [← List.append_assoc, List.take_append_of_le_length (by simp; omega), List.take_of_length_le (by simp; omega)]
def hcells (s : S8) (x : List UInt8) (n : Nat) : List Value := s.vals ++ (x.map bv ++ [.int .u64 (n : Int), .bool true])
theorem hcells_length (s : S8) (x : List UInt8) (n : Nat) (h : x.length = 64) : (hcells s x n).length = 74 := by simp [hcells, S8.vals, h]
theorem hcells_size (s : S8) (x : List UInt8) (n : Nat) (h : x.length = 64) : (hcells s x n)[72]? = some (.int .u64 (n : Int)) := by
  unfold hcells
  rw [List.getElem?_append_right (by simp [S8.vals]), List.getElem?_append_right (by simp [S8.vals, h])]
  simp [S8.vals, h]
theorem hcells_made (s : S8) (x : List UInt8) (n : Nat) (h : x.length = 64) : (hcells s x n)[73]? = some (.bool true) := by
  unfold hcells
  rw [List.getElem?_append_right (by simp [S8.vals]), List.getElem?_append_right (by simp [S8.vals, h])]
  simp [S8.vals, h]
theorem hcells_word (s : S8) (x : List UInt8) (n i : Nat) (h : i < 8) : (hcells s x n)[i]? = s.vals[i]? := by
  unfold hcells
  rw [List.getElem?_append_left (by simp [S8.vals]; omega)]
theorem hcells_set (s : S8) (x : List UInt8) (n m : Nat) (h : x.length = 64) : (hcells s x n).set 72 (.int .u64 (m : Int)) = hcells s x m := by
  unfold hcells
  rw [List.set_append_right _ _ (by simp [S8.vals]), List.set_append_right _ _ (by simp [S8.vals, h])]
  simp [S8.vals, h]
theorem splice_mid' {α : Type} (a b c vs : List α) (h : vs.length = b.length) : splice (a ++ (b ++ c)) a.length vs = a ++ (vs ++ c) := by
  unfold splice
  rw [List.take_left, List.drop_append, List.drop_of_length_le (by omega), List.nil_append, Nat.add_sub_cancel_left, h, List.drop_left]
theorem splice_words (s t : S8) (x : List UInt8) (n : Nat) : splice (hcells s x n) 0 t.vals = hcells t x n := by
  have := splice_mid' [] s.vals (x.map bv ++ [.int .u64 (n : Int), .bool true]) t.vals rfl
  simpa [hcells] using this
theorem splice_tail (s : S8) (x y : List UInt8) (n off : Nat) (h : off + y.length ≤ x.length) : splice (hcells s x n) (8 + off) (y.map bv) = hcells s (splice x off y) n := by
  unfold hcells splice
  simp only [List.length_map]
  have e8 : s.vals.length = 8 := rfl
  have t1 : List.take (8 + off) (s.vals ++ (x.map bv ++ [.int .u64 (n : Int), .bool true])) = s.vals ++ (x.take off).map bv := by
    rw [List.take_append, List.take_of_length_le (by omega), e8, Nat.add_sub_cancel_left, List.take_append_of_le_length (by simp; omega), List.map_take]
  have t2 : List.drop (8 + off + y.length) (s.vals ++ (x.map bv ++ [.int .u64 (n : Int), .bool true])) = (x.drop (off + y.length)).map bv ++ [.int .u64 (n : Int), .bool true] := by
    rw [List.drop_append, List.drop_of_length_le (by omega), e8, List.nil_append, show 8 + off + y.length - 8 = off + y.length from by omega, List.drop_append_of_le_length (by simp; omega), List.map_drop]
  rw [t1, t2]
  simp
def zerosN (n : Nat) : Nat := (119 - n % 64) % 64
def endB (n : Nat) : List UInt8 := 128 :: (List.replicate (zerosN n) 0 ++ [byteAt (n * 8) 56, byteAt (n * 8) 48, byteAt (n * 8) 40, byteAt (n * 8) 32, byteAt (n * 8) 24, byteAt (n * 8) 16, byteAt (n * 8) 8, byteAt (n * 8) 0])
theorem endB_length (n : Nat) : (endB n).length = zerosN n + 9 := by simp [endB]
theorem zerosN_lt (n : Nat) : zerosN n < 64 := Nat.mod_lt _ (by decide)
theorem putW_mid (a c : List UInt8) (x0 x1 x2 x3 : UInt8) (i v : Nat) (hi : i = a.length) : putW (a ++ x0 :: x1 :: x2 :: x3 :: c) i v = a ++ byteAt v 24 :: byteAt v 16 :: byteAt v 8 :: byteAt v 0 :: c := by
  subst hi
  unfold putW
  rw [List.set_append_right _ _ (Nat.le_refl _), List.set_append_right _ _ (by omega), List.set_append_right _ _ (by omega), List.set_append_right _ _ (by omega)]
  simp
theorem byteAt_hi (n k : Nat) : byteAt (n / 4294967296) k = byteAt n (k + 32) := by
  unfold byteAt
  rw [Nat.div_div_eq_div_mul, Nat.pow_add, Nat.mul_comm]
theorem byteAt_lo (n k : Nat) (h : k ≤ 24) : byteAt (n % 4294967296) k = byteAt n k := by
  unfold byteAt
  congr 1
  obtain ⟨j, hj⟩ : ∃ j, 24 = k + j := ⟨24 - k, by omega⟩
  have e : (4294967296 : Nat) = 2 ^ k * (2 ^ j * 256) := by
    rw [← Nat.mul_assoc, ← Nat.pow_add, ← hj]
  rw [e, Nat.mod_mul_right_div_self, Nat.mod_mul_left_mod]
theorem end_put (n z : Nat) (h : z = zerosN n) : putW (putW ((List.replicate (z + 9) (0 : UInt8)).set 0 128) (1 + z) (n * 8 / 4294967296)) (1 + z + 4) (n * 8 % 4294967296) = endB n := by
  have e : (List.replicate (z + 9) (0 : UInt8)).set 0 128 = (128 :: List.replicate z 0) ++ 0 :: 0 :: 0 :: 0 :: [0, 0, 0, 0] := by
    have e8 : List.replicate (z + 8) (0 : UInt8) = List.replicate z 0 ++ [0, 0, 0, 0, 0, 0, 0, 0] := (List.replicate_append_replicate (n := z) (m := 8) (a := (0 : UInt8))).symm
    rw [List.replicate_succ, List.set_cons_zero, e8]; rfl
  rw [e, putW_mid _ _ _ _ _ _ _ _ (by simp; omega)]
  have e2 : (128 :: List.replicate z (0 : UInt8)) ++ byteAt (n * 8 / 4294967296) 24 :: byteAt (n * 8 / 4294967296) 16 :: byteAt (n * 8 / 4294967296) 8 :: byteAt (n * 8 / 4294967296) 0 :: [0, 0, 0, 0] =
    ((128 :: List.replicate z (0 : UInt8)) ++ [byteAt (n * 8 / 4294967296) 24, byteAt (n * 8 / 4294967296) 16, byteAt (n * 8 / 4294967296) 8, byteAt (n * 8 / 4294967296) 0]) ++ 0 :: 0 :: 0 :: 0 :: [] := by simp
  rw [e2, putW_mid _ _ _ _ _ _ _ _ (by simp; omega)]
  unfold endB
  rw [← h]
  simp only [byteAt_hi, byteAt_lo _ 24 (by omega), byteAt_lo _ 16 (by omega), byteAt_lo _ 8 (by omega), byteAt_lo _ 0 (by omega)]
  simp
def padB (T : List UInt8) : List UInt8 := T ++ endB T.length
def digB (s : S8) : List UInt8 := [byteAt s.a 24, byteAt s.a 16, byteAt s.a 8, byteAt s.a 0, byteAt s.b 24, byteAt s.b 16, byteAt s.b 8, byteAt s.b 0,
  byteAt s.c 24, byteAt s.c 16, byteAt s.c 8, byteAt s.c 0, byteAt s.d 24, byteAt s.d 16, byteAt s.d 8, byteAt s.d 0,
  byteAt s.e 24, byteAt s.e 16, byteAt s.e 8, byteAt s.e 0, byteAt s.f 24, byteAt s.f 16, byteAt s.f 8, byteAt s.f 0,
  byteAt s.g 24, byteAt s.g 16, byteAt s.g 8, byteAt s.g 0, byteAt s.h 24, byteAt s.h 16, byteAt s.h 8, byteAt s.h 0]
def wordOf (s : S8) : Nat → Nat
  | 0 => s.a
  | 1 => s.b
  | 2 => s.c
  | 3 => s.d
  | 4 => s.e
  | 5 => s.f
  | 6 => s.g
  | _ => s.h
theorem vals_get (s : S8) (k : Nat) (h : k < 8) : s.vals[k]? = some (wv (wordOf s k)) := by
  match k, h with
  | 0, _ => rfl
  | 1, _ => rfl
  | 2, _ => rfl
  | 3, _ => rfl
  | 4, _ => rfl
  | 5, _ => rfl
  | 6, _ => rfl
  | 7, _ => rfl
def putTo (s : S8) : Nat → List UInt8
  | 0 => List.replicate 32 0
  | k + 1 => putW (putTo s k) (4 * k) (wordOf s k)
theorem putTo_length (s : S8) (k : Nat) : (putTo s k).length = 32 := by
  induction k with
  | zero => rfl
  | succ k ih => simp only [putTo, putW_length, ih]
theorem putTo_all (s : S8) : putTo s 8 = digB s := by kernel_rfl
def sumB (T : List UInt8) : List UInt8 := digB (blocksN init8 (padB T) ((padB T).length / 64))
theorem sumB_length (T : List UInt8) : (sumB T).length = 32 := rfl
def catB (ls : List (List UInt8)) : List UInt8 := ls.flatten
theorem catB_take_succ (ls : List (List UInt8)) (k : Nat) (h : k < ls.length) : catB (ls.take (k + 1)) = catB (ls.take k) ++ ls[k] := by
  unfold catB
  rw [List.take_succ_eq_append_getElem h, List.flatten_append]
  simp only [List.flatten_cons, List.flatten_nil, List.append_nil]
theorem catB_take_le (ls : List (List UInt8)) (k : Nat) : (catB (ls.take k)).length ≤ (catB ls).length := by
  unfold catB
  have e : ls.flatten = (ls.take k).flatten ++ (ls.drop k).flatten := by rw [← List.flatten_append, List.take_append_drop]
  rw [e, List.length_append]
  omega
theorem catB_get_le (ls : List (List UInt8)) (k : Nat) (h : k < ls.length) : (catB (ls.take k)).length + ls[k].length ≤ (catB ls).length := by
  have := catB_take_le ls (k + 1)
  rw [catB_take_succ ls k h, List.length_append] at this
  exact this
end
end Go.Proofs.YteddmnoeljakpaaGreatDoor
