/-
  Sealed sectors, plain mathematics: a sector as a list of 256 bytes, what it is got as, put and got back; a sector of which one byte is another one, or two of the first 252 are, is not got.
  No program, no condition.
-/
import Derived.Test.YtmknemaocbbpeaaMarkM
namespace Go.Proofs.Ytmknemaocbbpeaa
open Gau
set_option linter.unusedVariables false

def zs (n : Nat) : List UInt8 := List.replicate n 0
theorem zs_len (n : Nat) : (zs n).length = n := List.length_replicate
/-- What stands ahead of a body. -/
def hd3 (k : UInt8) (n : Nat) : List UInt8 := [k, UInt8.ofNat (n / 256), UInt8.ofNat (n % 256)]
/-- What stands ahead of a mark. -/
def bareS (k : UInt8) (body : List UInt8) : List UInt8 := hd3 k body.length ++ (body ++ zs (249 - body.length))
def fullS (k : UInt8) (body : List UInt8) : List UInt8 := bareS k body ++ mput (mk (bareS k body))

theorem bareS_len {k : UInt8} {body : List UInt8} (h : body.length ≤ 249) : (bareS k body).length = 252 := by
  simp [bareS, hd3, zs]; omega
theorem fullS_len {k : UInt8} {body : List UInt8} (h : body.length ≤ 249) : (fullS k body).length = 256 := by
  rw [fullS, List.length_append, bareS_len h, mput_len]

/-- A sector, or the error. -/
def putS (kind : Int) (body : List UInt8) : List UInt8 × Int :=
  if kind < 1 ∨ 255 < kind then ([], 1) else if 249 < body.length then ([], 3) else (fullS (UInt8.ofNat kind.toNat) body, 0)
theorem putS_kind {kind : Int} (body : List UInt8) (h : kind < 1 ∨ 255 < kind) : putS kind body = ([], 1) := if_pos h
theorem putS_long {kind : Int} {body : List UInt8} (h : ¬ (kind < 1 ∨ 255 < kind)) (hl : 249 < body.length) : putS kind body = ([], 3) := by rw [putS, if_neg h, if_pos hl]
theorem putS_ok {kind : Int} {body : List UInt8} (h : ¬ (kind < 1 ∨ 255 < kind)) (hl : ¬ 249 < body.length) : putS kind body = (fullS (UInt8.ofNat kind.toNat) body, 0) := by rw [putS, if_neg h, if_neg hl]
theorem putS_zero {kind : Int} {body : List UInt8} (h : (putS kind body).2 = 0) : ¬ (kind < 1 ∨ 255 < kind) ∧ ¬ 249 < body.length := by
  unfold putS at h
  split at h
  · cases h
  · split at h
    · cases h
    · exact ⟨by assumption, by assumption⟩
theorem putS_len (kind : Int) (body : List UInt8) : (putS kind body).1.length ≤ 256 := by
  unfold putS
  split
  · simp
  · split
    · simp
    · rw [fullS_len (by omega)]; exact Nat.le_refl _

/-- How many bytes a sector says that its body has. -/
def lenS (s : List UInt8) : Nat := (s.getD 1 0).toNat * 256 + (s.getD 2 0).toNat
def bodyS (s : List UInt8) : List UInt8 := (s.drop 3).take (lenS s)
def kindS (s : List UInt8) : Nat := (s.getD 0 0).toNat
/-- What bytes are got as. -/
def getS (s : List UInt8) : Int × List UInt8 × Int :=
  if s.length = 256 then
    if s = zs 256 then (0, [], 5)
    else if 249 < lenS s then (0, [], 17)
    else if (putS (kindS s) (bodyS s)).1 = s then (kindS s, bodyS s, 0)
    else (0, [], 17)
  else (0, [], 1)

theorem fullS_kind (k : UInt8) (body : List UInt8) : kindS (fullS k body) = k.toNat := rfl
theorem fullS_lens {k : UInt8} {body : List UInt8} (h : body.length ≤ 249) : lenS (fullS k body) = body.length := by
  show (UInt8.ofNat (body.length / 256)).toNat * 256 + (UInt8.ofNat (body.length % 256)).toNat = body.length
  have e1 : (UInt8.ofNat (body.length / 256)).toNat = body.length / 256 % 256 := by simp
  have e2 : (UInt8.ofNat (body.length % 256)).toNat = body.length % 256 := by simp
  rw [e1, e2]
  omega
theorem fullS_body {k : UInt8} {body : List UInt8} (h : body.length ≤ 249) : bodyS (fullS k body) = body := by
  unfold bodyS
  rw [fullS_lens h]
  show (((body ++ zs (249 - body.length)) ++ mput (mk (bareS k body))).take body.length) = body
  rw [List.append_assoc, List.take_left]
theorem fullS_nz {k : UInt8} {body : List UInt8} (hk : k ≠ 0) : fullS k body ≠ zs 256 := by
  intro h
  apply hk
  have h1 : (fullS k body)[0]? = (zs 256)[0]? := by rw [h]
  have h2 : (fullS k body)[0]? = some k := rfl
  have h3 : (zs 256)[0]? = some 0 := by unfold zs; rw [List.getElem?_replicate, if_pos (by omega)]
  rw [h2, h3] at h1
  exact Option.some.inj h1

theorem kind_byte {kind : Int} (h : ¬ (kind < 1 ∨ 255 < kind)) : ((UInt8.ofNat kind.toNat).toNat : Int) = kind := by
  have e1 : (UInt8.ofNat kind.toNat).toNat = kind.toNat % 256 := by simp
  rw [e1]
  omega
/-- What was put is got. -/
theorem get_put {kind : Int} {body : List UInt8} (h : (putS kind body).2 = 0) : getS (putS kind body).1 = (kind, body, 0) := by
  obtain ⟨h1, h2⟩ := putS_zero h
  rw [putS_ok h1 h2]
  have hk : UInt8.ofNat kind.toNat ≠ 0 := by
    intro e
    have := kind_byte h1
    rw [e] at this
    have e0 : ((0 : UInt8).toNat : Int) = 0 := rfl
    omega
  have h3 : body.length ≤ 249 := by omega
  unfold getS
  rw [if_pos (fullS_len h3), if_neg (fullS_nz hk), fullS_lens h3, if_neg h2, fullS_kind, fullS_body h3, kind_byte h1, putS_ok h1 h2, if_pos rfl]

theorem getS_len {s : List UInt8} (h : (getS s).2.2 = 0) : s.length = 256 := by
  unfold getS at h
  split at h
  · assumption
  · cases h
theorem getS_ok {s : List UInt8} (h : (getS s).2.2 = 0) : getS s = ((kindS s : Int), bodyS s, 0) ∧ (putS (kindS s) (bodyS s)).1 = s := by
  unfold getS at h ⊢
  split at h
  · rename_i h1
    split at h
    · cases h
    · rename_i h2
      split at h
      · cases h
      · rename_i h3
        split at h
        · rename_i h4
          rw [if_pos h1, if_neg h2, if_neg h3, if_pos h4]
          exact ⟨rfl, h4⟩
        · cases h
  · cases h
/-- What is got, put again, is what it was. -/
theorem put_get {s : List UInt8} (h : (getS s).2.2 = 0) : putS (getS s).1 (getS s).2.1 = (s, 0) := by
  have hl := getS_len h
  obtain ⟨h1, h2⟩ := getS_ok h
  rw [h1]
  show putS (kindS s) (bodyS s) = (s, 0)
  unfold putS at h2 ⊢
  split at h2
  · rw [← h2] at hl; cases hl
  · rename_i h3
    split at h2
    · rw [← h2] at hl; cases hl
    · rename_i h4
      rw [if_neg h3, if_neg h4]
      exact congrArg (·, 0) h2

theorem get_shape {s : List UInt8} (h : (getS s).2.2 = 0) : ∃ p : List UInt8, p.length = 252 ∧ s = p ++ mput (mk p) := by
  have h1 := put_get h
  obtain ⟨h2, h3⟩ := putS_zero (congrArg Prod.snd h1)
  rw [putS_ok h2 h3] at h1
  exact ⟨bareS _ _, bareS_len (by omega), (congrArg Prod.fst h1).symm⟩

theorem set_same {l : List UInt8} {i : Nat} {a : UInt8} (h : l[i]? = some a) : l.set i a = l := by
  obtain ⟨hlt, e⟩ := List.getElem?_eq_some_iff.1 h
  rw [← e, List.set_getElem_self]

theorem two_ahead {p p' : List UInt8} (hp : p.length = 252) (hp' : p'.length = 252) (i j : Nat) (v u : UInt8) (hi : i ≤ 251) (hj : j ≤ 251)
    (h : p' ++ mput (mk p') = ((p ++ mput (mk p)).set i v).set j u) : p' = p := by
  rw [List.set_append_left _ _ (by omega), List.set_append_left _ _ (by rw [List.length_set]; omega)] at h
  obtain ⟨h1, h2⟩ := List.append_inj h (by simp; omega)
  have h3 := mput_inj h2
  have li : i < p.length := by omega
  have lj : j < (p.set i v).length := by rw [List.length_set]; omega
  rw [h1] at h3
  rw [h1]
  exact tells p (by omega) i j p[i] (p.set i v)[j] v u (List.getElem?_eq_getElem li) (List.getElem?_eq_getElem lj) h3
theorem one_at {p p' : List UInt8} (hp : p.length = 252) (hp' : p'.length = 252) (i : Nat) (v : UInt8) (h : p' ++ mput (mk p') = (p ++ mput (mk p)).set i v) : p' = p := by
  by_cases hi : i ≤ 251
  · refine two_ahead hp hp' i i v v hi hi ?_
    rw [List.set_set]
    exact h
  · rw [List.set_append_right _ _ (by omega)] at h
    exact (List.append_inj h (by omega)).1

/-- A sector of which just one byte is another one, or just two of the first 252 are, is not got. -/
theorem sect_tells (s t : List UInt8) (hs : (getS s).2.2 = 0) (i j : Nat) (b c p q : UInt8) (hi : s[i]? = some p) (hj : (s.set i (p ^^^ b))[j]? = some q) (ht : t = (s.set i (p ^^^ b)).set j (q ^^^ c))
    (hone : b = 0 ∨ c = 0 ∨ i = j ∨ (i ≤ 251 ∧ j ≤ 251)) : decide ((getS t).2.2 = 0) = decide (s = t) := by
  apply decide_eq_decide.2
  constructor
  · intro h
    obtain ⟨m, hm, e1⟩ := get_shape hs
    obtain ⟨m', hm', e2⟩ := get_shape h
    have key : m' = m := by
      rw [e2, e1] at ht
      rw [e1] at hi hj
      rcases hone with hb | hc | hij | ⟨h1, h2⟩
      · have e0 : p ^^^ b = p := by rw [hb]; exact UInt8.xor_zero
        rw [e0, set_same hi] at ht
        exact one_at hm hm' j _ ht
      · have e0 : q ^^^ c = q := by rw [hc]; exact UInt8.xor_zero
        rw [e0, set_same hj] at ht
        exact one_at hm hm' i _ ht
      · subst hij
        rw [List.set_set] at ht
        exact one_at hm hm' i _ ht
      · exact two_ahead hm hm' i j _ _ h1 h2 ht
    rw [e1, e2, key]
  · intro h
    rw [← h]
    exact hs
end Go.Proofs.Ytmknemaocbbpeaa
