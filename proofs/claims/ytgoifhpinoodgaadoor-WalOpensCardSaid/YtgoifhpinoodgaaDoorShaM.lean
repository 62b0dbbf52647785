/-
  SHA-256 as plain mathematics over numbers: turns, the words of a block, a round, a block, a text. No condition; nothing of the dump is used here.
-/
import Derived.Laws.BitsAllLaws
import Derived.IntWalk
namespace Go.Proofs.YtgoifhpinoodgaaDoor
open Go.RowKit
set_option linter.unusedVariables false

/-- x turned right by k. -/
def rotr (x k : Nat) : Nat := (x >>> k) ||| ((x <<< (32 - k)) % 4294967296)

theorem rotr_lt (x k : Nat) (hx : x < 4294967296) : rotr x k < 4294967296 := by
  unfold rotr
  have h1 : x >>> k ≤ x := Nat.shiftRight_le x k
  exact Nat.or_lt_two_pow (n := 32) (by omega) (Nat.mod_lt _ (by decide))

/-- The sum modulo 2^32. -/
def add32 (x y : Nat) : Nat := (x + y) % 4294967296
theorem add32_lt (x y : Nat) : add32 x y < 4294967296 := Nat.mod_lt _ (by decide)
theorem wrap_add32 (x y : Nat) : IntKind.u32.wrap ((x : Int) + (y : Int)) = (add32 x y : Nat) := by
  rw [IntKind.wrap_u32']; unfold add32; omega

def turn3 (x i j k : Nat) : Nat := rotr x i ^^^ rotr x j ^^^ rotr x k
theorem xor_lt {x y : Nat} (hx : x < 4294967296) (hy : y < 4294967296) : x ^^^ y < 4294967296 := Nat.xor_lt_two_pow (n := 32) hx hy
theorem and_lt {x y : Nat} (hx : x < 4294967296) : x &&& y < 4294967296 := Nat.lt_of_le_of_lt Nat.and_le_left hx
theorem turn3_lt (x i j k : Nat) (hx : x < 4294967296) : turn3 x i j k < 4294967296 :=
  xor_lt (xor_lt (rotr_lt _ _ hx) (rotr_lt _ _ hx)) (rotr_lt _ _ hx)

/-- s0 and s1. -/
def sig0 (x : Nat) : Nat := rotr x 7 ^^^ rotr x 18 ^^^ x >>> 3
def sig1 (x : Nat) : Nat := rotr x 17 ^^^ rotr x 19 ^^^ x >>> 10
theorem shr_lt {x : Nat} (k : Nat) (hx : x < 4294967296) : x >>> k < 4294967296 := Nat.lt_of_le_of_lt (Nat.shiftRight_le x k) hx
theorem sig0_lt {x : Nat} (hx : x < 4294967296) : sig0 x < 4294967296 := xor_lt (xor_lt (rotr_lt _ _ hx) (rotr_lt _ _ hx)) (shr_lt _ hx)
theorem sig1_lt {x : Nat} (hx : x < 4294967296) : sig1 x < 4294967296 := xor_lt (xor_lt (rotr_lt _ _ hx) (rotr_lt _ _ hx)) (shr_lt _ hx)
def ch (e f g : Nat) : Nat := (e &&& f) ^^^ ((4294967295 ^^^ e) &&& g)
def maj (a b c : Nat) : Nat := (a &&& b) ^^^ (a &&& c) ^^^ (b &&& c)
theorem ch_lt {e f g : Nat} (he : e < 4294967296) : ch e f g < 4294967296 := xor_lt (and_lt he) (and_lt (xor_lt (by decide) he))
theorem maj_lt {a b c : Nat} (ha : a < 4294967296) (hb : b < 4294967296) : maj a b c < 4294967296 := xor_lt (xor_lt (and_lt ha) (and_lt ha)) (and_lt hb)

/-- Four bytes as a word, the highest first. -/
def word4 (a b c d : UInt8) : Nat := a.toNat * 16777216 + b.toNat * 65536 + c.toNat * 256 + d.toNat
theorem word4_lt (a b c d : UInt8) : word4 a b c d < 4294967296 := by
  have := a.toNat_lt; have := b.toNat_lt; have := c.toNat_lt; have := d.toNat_lt
  unfold word4; omega

theorem or_add (k : Nat) (a b : Nat) (ha : a % 2 ^ k = 0) (hb : b < 2 ^ k) : a ||| b = a + b := nat_join k a b ha hb

/-- What the walk makes of a turn by 32 - s to the left. -/
theorem rot_or (x s k : Nat) (hx : x < 4294967296) (hk : 1 ≤ k) (hk2 : k ≤ 31) (hs : s = 32 - k) :
    bits .or .u32 ((x : Int) * 2 ^ s % 4294967296) ((x : Int) / 2 ^ (32 - s)) = (rotr x k : Nat) := by
  have e1 : (x : Int) / 2 ^ (32 - s) = ((x >>> k : Nat) : Int) := by
    rw [show 32 - s = k from by omega, Nat.shiftRight_eq_div_pow]; simp
  have e2 : (x : Int) * 2 ^ s % 4294967296 = (((x <<< (32 - k)) % 4294967296 : Nat) : Int) := by
    rw [← hs, Nat.shiftLeft_eq]; simp
  rw [e1, e2, u32_or_nat _ _ (Nat.mod_lt _ (by decide)) (shr_lt _ hx), Nat.or_comm]
  rfl

/-- And of a turn by k to the right, as the document's own function has it. -/
theorem ror_or (x k : Nat) (hx : x < 4294967296) (hk : 1 ≤ k) (hk2 : k ≤ 31) :
    bits .or .u32 ((x : Int) / 2 ^ k) ((x : Int) * 2 ^ (32 - k) % 4294967296) = (rotr x k : Nat) := by
  have e1 : (x : Int) / 2 ^ k = ((x >>> k : Nat) : Int) := by
    rw [Nat.shiftRight_eq_div_pow]; simp
  have e2 : (x : Int) * 2 ^ (32 - k) % 4294967296 = (((x <<< (32 - k)) % 4294967296 : Nat) : Int) := by
    rw [Nat.shiftLeft_eq]; simp
  rw [e1, e2, u32_or_nat _ _ (shr_lt _ hx) (Nat.mod_lt _ (by decide))]
  rfl

theorem turn3_val (x i j k : Nat) (hx : x < 4294967296) :
    bits .xor .u32 (bits .xor .u32 (rotr x i : Nat) (rotr x j : Nat)) (rotr x k : Nat) = (turn3 x i j k : Nat) := by
  rw [u32_xor_nat _ _ (rotr_lt _ _ hx) (rotr_lt _ _ hx), u32_xor_nat _ _ (xor_lt (rotr_lt _ _ hx) (rotr_lt _ _ hx)) (rotr_lt _ _ hx)]
  rfl

/-- The byte of x that stands k bits from its end. -/
def byteAt (x k : Nat) : UInt8 := UInt8.ofNat (x / 2 ^ k % 256)
theorem byteAt_val (x k : Nat) : (((byteAt x k).toNat : Nat) : Int) = (x : Int) / 2 ^ k % 256 := by
  unfold byteAt
  simp
/-- The word x, laid over the four bytes of l from o on, the highest first. -/
def putW (l : List UInt8) (o x : Nat) : List UInt8 := (((l.set o (byteAt x 24)).set (o + 1) (byteAt x 16)).set (o + 2) (byteAt x 8)).set (o + 3) (byteAt x 0)
theorem putW_length (l : List UInt8) (o x : Nat) : (putW l o x).length = l.length := by simp [putW]

theorem sig0_val (x : Nat) (hx : x < 4294967296) : bits .xor .u32 (bits .xor .u32 (rotr x 7 : Nat) (rotr x 18 : Nat)) ((x : Int) / (8 : Int)) = ((sig0 x : Nat) : Int) := by
  have e : (x : Int) / (8 : Int) = ((x >>> 3 : Nat) : Int) := by rw [Nat.shiftRight_eq_div_pow]; simp
  rw [e, u32_xor_nat _ _ (rotr_lt _ _ hx) (rotr_lt _ _ hx), u32_xor_nat _ _ (xor_lt (rotr_lt _ _ hx) (rotr_lt _ _ hx)) (shr_lt _ hx)]
  rfl
theorem sig1_val (x : Nat) (hx : x < 4294967296) : bits .xor .u32 (bits .xor .u32 (rotr x 17 : Nat) (rotr x 19 : Nat)) ((x : Int) / (1024 : Int)) = ((sig1 x : Nat) : Int) := by
  have e : (x : Int) / (1024 : Int) = ((x >>> 10 : Nat) : Int) := by rw [Nat.shiftRight_eq_div_pow]; simp
  rw [e, u32_xor_nat _ _ (rotr_lt _ _ hx) (rotr_lt _ _ hx), u32_xor_nat _ _ (xor_lt (rotr_lt _ _ hx) (rotr_lt _ _ hx)) (shr_lt _ hx)]
  rfl
theorem add_val (x y : Nat) : ((x : Int) + (y : Int)) % 4294967296 = (add32 x y : Nat) := by unfold add32; omega

/-- The word that stands behind the words ws of the block b. -/
def nextW (b : List UInt8) (ws : List Nat) : Nat :=
  if ws.length < 16 then word4 (b.getD (4 * ws.length) 0) (b.getD (4 * ws.length + 1) 0) (b.getD (4 * ws.length + 2) 0) (b.getD (4 * ws.length + 3) 0)
  else add32 (add32 (add32 (sig1 (ws.getD (ws.length - 2) 0)) (ws.getD (ws.length - 7) 0)) (sig0 (ws.getD (ws.length - 15) 0))) (ws.getD (ws.length - 16) 0)
/-- One word more. -/
def stepW (b : List UInt8) (ws : List Nat) : List Nat := ws ++ [nextW b ws]
/-- The first t words of the block b. -/
def wordsTo (b : List UInt8) : Nat → List Nat
  | 0 => []
  | t + 1 => stepW b (wordsTo b t)
theorem wordsTo_length (b : List UInt8) (t : Nat) : (wordsTo b t).length = t := by
  induction t with
  | zero => rfl
  | succ t ih => simp [wordsTo, stepW, ih]
theorem nextW_lt (b : List UInt8) (ws : List Nat) : nextW b ws < 4294967296 := by
  unfold nextW
  split
  · exact word4_lt _ _ _ _
  · exact add32_lt _ _
theorem wordsTo_lt (b : List UInt8) (t : Nat) : ∀ x ∈ wordsTo b t, x < 4294967296 := by
  induction t with
  | zero => simp [wordsTo]
  | succ t ih =>
    intro x hx
    simp only [wordsTo, stepW, List.mem_append, List.mem_singleton] at hx
    rcases hx with hx | rfl
    · exact ih x hx
    · exact nextW_lt _ _
theorem wordsTo_getD_lt (b : List UInt8) (t i : Nat) : (wordsTo b t).getD i 0 < 4294967296 := by
  rw [List.getD_eq_getElem?_getD]
  rcases h : (wordsTo b t)[i]? with _ | x
  · simp
  · exact wordsTo_lt b t x (List.mem_of_getElem? h)
theorem nextW_low (b : List UInt8) (t : Nat) (h : t < 16) : nextW b (wordsTo b t) = word4 (b.getD (4 * t) 0) (b.getD (4 * t + 1) 0) (b.getD (4 * t + 2) 0) (b.getD (4 * t + 3) 0) := by
  unfold nextW; rw [wordsTo_length, if_pos h]
theorem nextW_high (b : List UInt8) (t : Nat) (h : 16 ≤ t) : nextW b (wordsTo b t) =
    add32 (add32 (add32 (sig1 ((wordsTo b t).getD (t - 2) 0)) ((wordsTo b t).getD (t - 7) 0)) (sig0 ((wordsTo b t).getD (t - 15) 0))) ((wordsTo b t).getD (t - 16) 0) := by
  unfold nextW; rw [wordsTo_length, if_neg (by omega)]

/-- A word as a value; n words' room, of which the first are ws. -/
abbrev wv (x : Nat) : Value := .int .u32 (x : Int)
def rowW (ws : List Nat) (n : Nat) : List Value := ws.map wv ++ List.replicate (n - ws.length) (wv 0)
theorem rowW_length (ws : List Nat) (n : Nat) (h : ws.length ≤ n) : (rowW ws n).length = n := by simp [rowW]; omega
theorem rowW_get (ws : List Nat) (n i : Nat) (h : i < ws.length) : (rowW ws n)[i]? = some (wv (ws.getD i 0)) := by
  unfold rowW
  rw [List.getElem?_append_left (by simpa using h)]
  simp [h]
theorem rowW_some (ws : List Nat) (n i : Nat) (h : i < n) : ∃ x, (rowW ws n)[i]? = some (wv x) := by
  by_cases h1 : i < ws.length
  · exact ⟨_, rowW_get ws n i h1⟩
  · refine ⟨0, ?_⟩
    unfold rowW
    rw [List.getElem?_append_right (by simp; omega), List.getElem?_replicate, if_pos (by simp; omega)]
theorem rowW_set (ws : List Nat) (n x : Nat) (h : ws.length < n) : (rowW ws n).set ws.length (wv x) = rowW (ws ++ [x]) n := by
  unfold rowW
  obtain ⟨m, hm⟩ : ∃ m, n - ws.length = m + 1 := ⟨n - ws.length - 1, by omega⟩
  rw [List.set_append_right _ _ (by simp), hm, show n - (ws ++ [x]).length = m from by simp; omega]
  simp [List.replicate_succ]
theorem rowW_full (ws : List Nat) (n : Nat) (h : ws.length = n) : rowW ws n = ws.map wv := by simp [rowW, h]

/-- Eight words. -/
structure S8 where
  a : Nat
  b : Nat
  c : Nat
  d : Nat
  e : Nat
  f : Nat
  g : Nat
  h : Nat
structure S8.Ok (s : S8) : Prop where
  a : s.a < 4294967296
  b : s.b < 4294967296
  c : s.c < 4294967296
  d : s.d < 4294967296
  e : s.e < 4294967296
  f : s.f < 4294967296
  g : s.g < 4294967296
  h : s.h < 4294967296
def S8.vals (s : S8) : List Value := [wv s.a, wv s.b, wv s.c, wv s.d, wv s.e, wv s.f, wv s.g, wv s.h]
def tOne (k w : Nat) (s : S8) : Nat := add32 (add32 (add32 (add32 s.h (turn3 s.e 6 11 25)) (ch s.e s.f s.g)) k) w
def tTwo (s : S8) : Nat := add32 (turn3 s.a 2 13 22) (maj s.a s.b s.c)
/-- One of the 64 rounds. -/
def round8 (k w : Nat) (s : S8) : S8 := ⟨add32 (tOne k w s) (tTwo s), s.a, s.b, s.c, add32 s.d (tOne k w s), s.e, s.f, s.g⟩
/-- K. -/
def keysL : List Nat := [1116352408, 1899447441, 3049323471, 3921009573, 961987163, 1508970993, 2453635748, 2870763221, 3624381080, 310598401, 607225278, 1426881987, 1925078388, 2162078206, 2614888103, 3248222580, 3835390401, 4022224774, 264347078, 604807628, 770255983, 1249150122, 1555081692, 1996064986, 2554220882, 2821834349, 2952996808, 3210313671, 3336571891, 3584528711, 113926993, 338241895, 666307205, 773529912, 1294757372, 1396182291, 1695183700, 1986661051, 2177026350, 2456956037, 2730485921, 2820302411, 3259730800, 3345764771, 3516065817, 3600352804, 4094571909, 275423344, 430227734, 506948616, 659060556, 883997877, 958139571, 1322822218, 1537002063, 1747873779, 1955562222, 2024104815, 2227730452, 2361852424, 2428436474, 2756734187, 3204031479, 3329325298]
theorem keysL_length : keysL.length = 64 := rfl
theorem keysL_lt (i : Nat) : keysL.getD i 0 < 4294967296 := by
  by_cases h : i < 64
  · have : ∀ j : Fin 64, keysL.getD j 0 < 4294967296 := by decide
    exact this ⟨i, h⟩
  · rw [List.getD_eq_getElem?_getD, List.getElem?_eq_none (by rw [keysL_length]; omega)]; decide
/-- The first t rounds. -/
def roundsTo (ws : List Nat) (s : S8) : Nat → S8
  | 0 => s
  | t + 1 => round8 (keysL.getD t 0) (ws.getD t 0) (roundsTo ws s t)
def S8.plus (s v : S8) : S8 := ⟨add32 s.a v.a, add32 s.b v.b, add32 s.c v.c, add32 s.d v.d, add32 s.e v.e, add32 s.f v.f, add32 s.g v.g, add32 s.h v.h⟩
/-- The eight words behind a block. -/
def block8 (s : S8) (l : List UInt8) : S8 := s.plus (roundsTo (wordsTo l 64) s 64)
theorem plus_ok (s v : S8) : (s.plus v).Ok := ⟨add32_lt _ _, add32_lt _ _, add32_lt _ _, add32_lt _ _, add32_lt _ _, add32_lt _ _, add32_lt _ _, add32_lt _ _⟩
theorem block8_ok (s : S8) (l : List UInt8) : (block8 s l).Ok := plus_ok _ _
theorem round8_ok {s : S8} (h : s.Ok) (k w : Nat) : (round8 k w s).Ok := ⟨add32_lt _ _, h.a, h.b, h.c, add32_lt _ _, h.e, h.f, h.g⟩
theorem roundsTo_ok {s : S8} (h : s.Ok) (ws : List Nat) (t : Nat) : (roundsTo ws s t).Ok := by
  induction t with
  | zero => exact h
  | succ t ih => exact round8_ok ih _ _

theorem ch_val {e f g : Nat} (he : e < 4294967296) (hf : f < 4294967296) (hg : g < 4294967296) :
    bits .xor .u32 (bits .and .u32 (e : Int) (f : Int)) (bits .and .u32 (bits .xor .u32 IntKind.u32.max (e : Int)) (g : Int)) = ((ch e f g : Nat) : Int) := by
  have em : IntKind.u32.max = ((4294967295 : Nat) : Int) := by decide
  rw [em, u32_and_nat _ _ he hf, u32_xor_nat _ _ (by decide) he, u32_and_nat _ _ (xor_lt (by decide) he) hg, u32_xor_nat _ _ (and_lt he) (and_lt (xor_lt (by decide) he))]
  rfl
theorem maj_val {a b c : Nat} (ha : a < 4294967296) (hb : b < 4294967296) (hc : c < 4294967296) :
    bits .xor .u32 (bits .xor .u32 (bits .and .u32 (a : Int) (b : Int)) (bits .and .u32 (a : Int) (c : Int))) (bits .and .u32 (b : Int) (c : Int)) = ((maj a b c : Nat) : Int) := by
  rw [u32_and_nat _ _ ha hb, u32_and_nat _ _ ha hc, u32_and_nat _ _ hb hc, u32_xor_nat _ _ (and_lt ha) (and_lt ha), u32_xor_nat _ _ (xor_lt (and_lt ha) (and_lt ha)) (and_lt hb)]
  rfl
theorem tOne_val {v : S8} (ok : v.Ok) (kk ww : Nat) :
    ((v.h : Int) + ((turn3 v.e 6 11 25 : Nat) : Int) + bits .xor .u32 (bits .and .u32 (v.e : Int) (v.f : Int)) (bits .and .u32 (bits .xor .u32 IntKind.u32.max (v.e : Int)) (v.g : Int)) + (kk : Int) + (ww : Int)) % 4294967296 = ((tOne kk ww v : Nat) : Int) := by
  rw [ch_val ok.e ok.f ok.g]
  unfold tOne add32
  omega
theorem tTwo_val {v : S8} (ok : v.Ok) :
    (((turn3 v.a 2 13 22 : Nat) : Int) + bits .xor .u32 (bits .xor .u32 (bits .and .u32 (v.a : Int) (v.b : Int)) (bits .and .u32 (v.a : Int) (v.c : Int))) (bits .and .u32 (v.b : Int) (v.c : Int))) % 4294967296 = ((tTwo v : Nat) : Int) := by
  rw [maj_val ok.a ok.b ok.c]
  unfold tTwo add32
  omega

/-- The eight words of s, the first k with those of v added. -/
def mixV (s v : S8) (k : Nat) : List Value :=
  [wv (if 0 < k then add32 s.a v.a else s.a), wv (if 1 < k then add32 s.b v.b else s.b), wv (if 2 < k then add32 s.c v.c else s.c), wv (if 3 < k then add32 s.d v.d else s.d),
   wv (if 4 < k then add32 s.e v.e else s.e), wv (if 5 < k then add32 s.f v.f else s.f), wv (if 6 < k then add32 s.g v.g else s.g), wv (if 7 < k then add32 s.h v.h else s.h)]
theorem mixV_zero (s v : S8) : mixV s v 0 = s.vals := rfl
theorem mixV_eight (s v : S8) : mixV s v 8 = (s.plus v).vals := rfl
theorem mixV_step (s v : S8) (k : Nat) (h : k < 8) : ∃ x y : Nat, (mixV s v k)[k]? = some (wv x) ∧ v.vals[k]? = some (wv y) ∧ (mixV s v k).set k (wv (add32 x y)) = mixV s v (k + 1) := by
  match k, h with
  | 0, _ => exact ⟨_, _, rfl, rfl, rfl⟩
  | 1, _ => exact ⟨_, _, rfl, rfl, rfl⟩
  | 2, _ => exact ⟨_, _, rfl, rfl, rfl⟩
  | 3, _ => exact ⟨_, _, rfl, rfl, rfl⟩
  | 4, _ => exact ⟨_, _, rfl, rfl, rfl⟩
  | 5, _ => exact ⟨_, _, rfl, rfl, rfl⟩
  | 6, _ => exact ⟨_, _, rfl, rfl, rfl⟩
  | 7, _ => exact ⟨_, _, rfl, rfl, rfl⟩
theorem mixV_length (s v : S8) (k : Nat) : (mixV s v k).length = 8 := rfl
theorem vals_length (s : S8) : s.vals.length = 8 := rfl
theorem vals_one (s : S8) : ∀ u ∈ s.vals, u.oneCell' = true := by
  intro u hu
  simp only [S8.vals, List.mem_cons, List.not_mem_nil, or_false] at hu
  rcases hu with rfl | rfl | rfl | rfl | rfl | rfl | rfl | rfl <;> rfl

theorem word4_val (a b c d : UInt8) :
    bits .or .u32 (bits .or .u32 (bits .or .u32 ((a.toNat : Int) % 4294967296 * 16777216 % 4294967296) ((b.toNat : Int) % 4294967296 * 65536 % 4294967296)) ((c.toNat : Int) % 4294967296 * 256 % 4294967296)) ((d.toNat : Int) % 4294967296) = (word4 a b c d : Nat) := by
  unfold word4
  have ha := a.toNat_lt
  have hb := b.toNat_lt
  have hc := c.toNat_lt
  have hd := d.toNat_lt
  generalize a.toNat = A at *
  generalize b.toNat = B at *
  generalize c.toNat = C at *
  generalize d.toNat = D at *
  rw [show (A : Int) % 4294967296 * 16777216 % 4294967296 = ((A * 16777216 : Nat) : Int) from by omega, show (B : Int) % 4294967296 * 65536 % 4294967296 = ((B * 65536 : Nat) : Int) from by omega,
    show (C : Int) % 4294967296 * 256 % 4294967296 = ((C * 256 : Nat) : Int) from by omega, show (D : Int) % 4294967296 = ((D : Nat) : Int) from by omega]
  rw [u32_or_nat _ _ (by omega) (by omega), nat_join 24 _ _ (by omega) (by omega), u32_or_nat _ _ (by omega) (by omega), nat_join 16 _ _ (by omega) (by omega), u32_or_nat _ _ (by omega) (by omega), nat_join 8 _ _ (by omega) (by omega)]
end Go.Proofs.YtgoifhpinoodgaaDoor
