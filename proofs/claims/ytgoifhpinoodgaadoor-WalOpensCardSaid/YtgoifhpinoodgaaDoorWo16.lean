/-
  WaN: What a log has, plainly: list sectors, bytes, head; what it tells; that it tells what was laid. What Commit and Open make of a disk; behind a crash all is as it was, or all as it was to be. No program, no condition.
-/
import Derived.Test.YtgoifhpinoodgaaDoorWo12
import Derived.Test.YtgoifhpinoodgaaDoorWo15

section
namespace Go.Proofs.YtgoifhpinoodgaaDoor
open Go.RowKit
set_option maxRecDepth 100000
set_option linter.unusedVariables false

def listsN (k : Nat) : Nat := (k + 119) / 120
def roomN (n : Nat) : Nat := if n < 2 then 0 else n / 121 * 120 + (n % 121 - 1)
theorem room_fits {k n : Nat} (h : k ≤ roomN n) : k + listsN k ≤ n := by
  unfold roomN at h
  unfold listsN
  split at h
  · obtain rfl : k = 0 := by omega
    simp
  · omega
def numB (x : Nat) : List UInt8 := [UInt8.ofNat (x / 256), UInt8.ofNat (x % 256)]
def numP (b : List UInt8) : Nat := (b.getD 0 0).toNat * 256 + (b.getD 1 0).toNat
theorem byte_nat {x : Nat} (h : x < 256) : (UInt8.ofNat x).toNat = x := by
  rw [UInt8.toNat_ofNat']
  omega
theorem numP_numB {x : Nat} (h : x < 65536) (r : List UInt8) : numP (numB x ++ r) = x := by
  show (UInt8.ofNat (x / 256)).toNat * 256 + (UInt8.ofNat (x % 256)).toNat = x
  rw [byte_nat (by omega), byte_nat (by omega)]
  omega
def pairsP : List UInt8 → List Nat
  | a :: b :: r => (a.toNat * 256 + b.toNat) :: pairsP r
  | _ => []
/-- The numbers of patches, two bytes each. -/
def bodyL (q : List Pt) : List UInt8 := q.flatMap fun v => numB v.1.toNat
theorem bodyL_len : ∀ q : List Pt, (bodyL q).length = 2 * q.length
  | [] => rfl
  | v :: q => by
    show (numB v.1.toNat ++ bodyL q).length = _
    rw [List.length_append, bodyL_len q]
    simp [numB]
    omega
theorem pairs_body : ∀ q : List Pt, (∀ v ∈ q, v.1.toNat < 65536) → pairsP (bodyL q) = q.map fun v => v.1.toNat
  | [], _ => rfl
  | v :: q, h => by
    show ((UInt8.ofNat (v.1.toNat / 256)).toNat * 256 + (UInt8.ofNat (v.1.toNat % 256)).toNat) :: pairsP (bodyL q) = _
    have := h v (by simp)
    rw [pairs_body q fun u hu => h u (by simp [hu]), byte_nat (by omega), byte_nat (by omega), List.map_cons]
    congr 1
    omega
def secL (q : List Pt) : List UInt8 := (putS 2 (bodyL q)).1
def partL (p : List Pt) (i : Nat) : List Pt := (p.drop (120 * i)).take 120
theorem partL_len (p : List Pt) (i : Nat) : (partL p i).length = min 120 (p.length - 120 * i) := by simp [partL]
theorem partL_le (p : List Pt) (i : Nat) : (partL p i).length ≤ 120 := by rw [partL_len]; omega
/-- What a log has behind its head. -/
def entriesL (p : List Pt) : List (List UInt8) := ((List.range (listsN p.length)).map fun i => secL (partL p i)) ++ p.map (·.2)
theorem entries_len (p : List Pt) : (entriesL p).length = listsN p.length + p.length := by simp [entriesL]
def headL (k : Nat) (L : List (List UInt8)) : List UInt8 := (putS 1 (numB k ++ sumB (catB L))).1

theorem put2_ok {b : List UInt8} (h : b.length ≤ 249) : (putS 2 b).2 = 0 := by rw [putS_ok (by omega) (by omega)]
theorem put1_ok {b : List UInt8} (h : b.length ≤ 249) : (putS 1 b).2 = 0 := by rw [putS_ok (by omega) (by omega)]
theorem putS_256 {k : Int} {b : List UInt8} (h : (putS k b).2 = 0) : (putS k b).1.length = 256 := by
  obtain ⟨h1, h2⟩ := putS_zero h
  rw [putS_ok h1 h2, fullS_len (by omega)]
theorem head_body (k : Nat) (L : List (List UInt8)) : (numB k ++ sumB (catB L)).length = 34 := by rw [List.length_append, sumB_length]; rfl
theorem headL_len (k : Nat) (L : List (List UInt8)) : (headL k L).length = 256 := putS_256 (put1_ok (by rw [head_body]; omega))
theorem secL_len (q : List Pt) (h : q.length ≤ 120) : (secL q).length = 256 := putS_256 (put2_ok (by rw [bodyL_len]; omega))
theorem entries_256 {p : List Pt} (h : ∀ v ∈ p, v.2.length = 256) : ∀ l ∈ entriesL p, l.length = 256 := by
  intro l hl
  rcases List.mem_append.1 hl with hl | hl
  · obtain ⟨i, _, rfl⟩ := List.mem_map.1 hl
    exact secL_len _ (partL_le p i)
  · obtain ⟨v, hv, rfl⟩ := List.mem_map.1 hl
    exact h v hv

/-- The numbers that list sectors tell, of k patches; the first one is the i'th. -/
def listL (k : Nat) : Nat → List (List UInt8) → Option (List Nat)
  | _, [] => some []
  | i, s :: r => if (getS s).1 = 2 ∧ (getS s).2.1.length = 2 * min 120 (k - 120 * i) then (listL k (i + 1) r).map (pairsP (getS s).2.1 ++ ·) else none
/-- The patches that a log tells. -/
def toldL (log : List (List UInt8)) : List Pt :=
  let b := (getS (log.getD 0 [])).2.1
  if (getS (log.getD 0 [])).1 ≠ 1 ∨ b.length ≠ 34 then [] else
  if roomN (log.length - 1) < numP b then [] else
  let logged := (log.drop 1).take (listsN (numP b) + numP b)
  if sumB (catB logged) ≠ b.drop 2 then [] else
  match listL (numP b) 0 (logged.take (listsN (numP b))) with
  | none => []
  | some ns => List.zipWith (fun (n : Nat) b => ((n : Int), b)) ns (logged.drop (listsN (numP b)))

theorem listL_of (p : List Pt) (h : ∀ v ∈ p, v.1.toNat < 65536) : ∀ (j i : Nat), i + j = listsN p.length → listL p.length i ((List.range' i j).map fun i => secL (partL p i)) = some ((p.drop (120 * i)).map fun v => v.1.toNat)
  | 0, i, e => by
    have : p.drop (120 * i) = [] := List.drop_of_length_le (by unfold listsN at e; omega)
    rw [this]
    rfl
  | j + 1, i, e => by
    have hg : getS (secL (partL p i)) = (2, bodyL (partL p i), 0) := get_put (put2_ok (by rw [bodyL_len]; have := partL_le p i; omega))
    rw [List.range'_succ, List.map_cons, listL, hg]
    dsimp only
    rw [if_pos ⟨rfl, by rw [bodyL_len, partL_len]⟩, listL_of p h j (i + 1) (by omega), pairs_body (partL p i) fun v hv => h v (List.mem_of_mem_drop (List.mem_of_mem_take hv))]
    simp only [Option.map_some, Option.some.injEq]
    rw [← List.map_append]
    congr 1
    unfold partL
    rw [show 120 * (i + 1) = 120 * i + 120 by omega, ← List.drop_drop, List.take_append_drop]

/-- What was laid is told. -/
theorem told_of {p : List Pt} {n : Nat} {log : List (List UInt8)} (hp : ∀ v ∈ p, 0 ≤ v.1 ∧ v.1 < 65536) (h2 : p.length ≤ roomN n) (hn : n ≤ 65535) (hl : log.length = n + 1) (h0 : log.getD 0 [] = headL p.length (entriesL p))
    (he : (log.drop 1).take (listsN p.length + p.length) = entriesL p) : toldL log = p := by
  have hg : getS (headL p.length (entriesL p)) = (1, numB p.length ++ sumB (catB (entriesL p)), 0) := get_put (put1_ok (by rw [head_body]; omega))
  have hk : p.length < 65536 := by have := room_fits h2; omega
  unfold toldL
  rw [h0, hg]
  dsimp only
  rw [if_neg (by rw [head_body]; simp), numP_numB hk, hl, Nat.add_sub_cancel, if_neg (by omega), he, if_neg (by simp [numB])]
  have e1 : (entriesL p).take (listsN p.length) = (List.range' 0 (listsN p.length)).map fun i => secL (partL p i) := by
    unfold entriesL
    rw [List.take_append_of_le_length (by simp), List.take_of_length_le (by simp), List.range_eq_range']
  have e2 : (entriesL p).drop (listsN p.length) = p.map (·.2) := by
    unfold entriesL
    rw [List.drop_append_of_le_length (by simp), List.drop_of_length_le (by simp), List.nil_append]
  rw [e1, e2, listL_of p (fun v hv => by have := hp v hv; omega) _ 0 (by omega)]
  dsimp only
  rw [Nat.mul_zero, List.drop_zero]
  apply List.ext_getElem
  · simp
  · intro i h1 h2
    simp only [List.getElem_zipWith, List.getElem_map]
    have := hp p[i] (List.getElem_mem h2)
    refine Prod.ext ?_ rfl
    show ((p[i].1.toNat : Nat) : Int) = p[i].1
    omega
/-- A log whose head is zero tells none. -/
theorem told_zero {log : List (List UInt8)} (h : log.getD 0 [] = zs 256) : toldL log = [] := by
  have hg : getS (zs 256) = (0, [], 5) := by decide +kernel
  unfold toldL
  rw [h, hg]
  dsimp only
  rw [if_pos (.inl (by decide))]

/-- Whether the i'th patch is one that a log of n sectors, on a disk of N, takes. -/
def okAt (n N : Int) (p : List Pt) (i : Nat) : Prop := n < (p.getD i (0, [])).1 ∧ (p.getD i (0, [])).1 < N ∧ (p.getD i (0, [])).2.length = 256 ∧ ∀ j, j < i → (p.getD j (0, [])).1 ≠ (p.getD i (0, [])).1
instance (n N : Int) (p : List Pt) (i : Nat) : Decidable (okAt n N p i) := by unfold okAt; infer_instance
def takesB (n N : Int) (p : List Pt) : Bool := decide (∀ i, i < p.length → okAt n N p i)
theorem getD_pt {p : List Pt} {i : Nat} (h : i < p.length) : p.getD i (0, []) = p[i] := by rw [List.getD_eq_getElem?_getD, List.getElem?_eq_getElem h]; rfl
theorem takes_at {n N : Int} {p : List Pt} (h : takesB n N p = true) {v : Pt} (hv : v ∈ p) : n < v.1 ∧ v.1 < N ∧ v.2.length = 256 := by
  obtain ⟨i, hi, rfl⟩ := List.mem_iff_getElem.1 hv
  obtain ⟨h1, h2, h3, _⟩ := of_decide_eq_true h i hi
  rw [getD_pt hi] at h1 h2 h3
  exact ⟨h1, h2, h3⟩
theorem takes_lone {n : Nat} {N : Int} {p : List Pt} (h : takesB n N p = true) : Lone p := by
  intro u hu v hv e
  have a1 := takes_at h hu
  have a2 := takes_at h hv
  have e' : u.1 = v.1 := by omega
  obtain ⟨i, hi, rfl⟩ := List.mem_iff_getElem.1 hu
  obtain ⟨j, hj, rfl⟩ := List.mem_iff_getElem.1 hv
  have h1 := (of_decide_eq_true h i hi).2.2.2 j
  have h2 := (of_decide_eq_true h j hj).2.2.2 i
  rw [getD_pt hi, getD_pt hj] at h1 h2
  rcases Nat.lt_trichotomy i j with hij | hij | hij
  · exact absurd e' (h2 hij)
  · subst hij; rfl
  · exact absurd e'.symm (h1 hij)
theorem takes_fit {n N : Nat} {p : List Pt} (h : takesB n N p = true) : Fit N p := fun v hv => by have := takes_at h hv; exact ⟨by omega, this.2.1, this.2.2⟩

/-- The sectors of a log. -/
def logD (n : Nat) (s : Dk) : List (List UInt8) := (List.range (n + 1)).map s.now
/-- The patches that stand whole in the log. -/
def leftP (n : Nat) (s : Dk) : List Pt := if takesB n s.safe.length (toldL (logD n s)) = true then toldL (logD n s) else []
def openD (n : Nat) (s : Dk) : Dk × Int := if s.fuse = 0 then (s, 8) else seqD [doD (leftP n s), wipeD 0 0, wipeD 1 n] s
def commitD (p : List Pt) (s : Dk) : Dk × Int :=
  seqD [doD (rowP 1 (entriesL p)), doD (rowP 0 [headL p.length (entriesL p)]), doD p, doD (rowP 0 [zs 256]), doD (rowP 1 ((entriesL p).map fun _ => zs 256))] s
theorem leftP_fit (n : Nat) (s : Dk) : Fit s.safe.length (leftP n s) := by
  unfold leftP
  split
  · exact takes_fit (by assumption)
  · intro p hp; cases hp
theorem seqD_one (f : Dk → Dk × Int) (fs : List (Dk → Dk × Int)) (s : Dk) : seqD (f :: fs) s = if (f s).2 = 0 then seqD fs (f s).1 else f s := rfl
theorem openD_len (n : Nat) (s : Dk) : (openD n s).1.safe.length = s.safe.length := by
  unfold openD
  split
  · rfl
  · simp only [seqD]
    split
    · split
      · split
        · dsimp only; rw [wipeD_len, wipeD_len, doD_len]
        · rw [wipeD_len, wipeD_len, doD_len]
      · rw [wipeD_len, doD_len]
    · rw [doD_len]
theorem commitD_len (p : List Pt) (s : Dk) : (commitD p s).1.safe.length = s.safe.length := by
  unfold commitD
  simp only [seqD]
  repeat' split
  all_goals simp only [doD_len]
theorem openD_never (n : Nat) (s : Dk) (h : s.fuse = -1) : (openD n s).2 = 0 ∧ (openD n s).1.fuse = -1 := by
  unfold openD
  rw [if_neg (by rw [h]; decide)]
  simp only [seqD]
  obtain ⟨a1, a2⟩ := doD_never (leftP n s) s h
  rw [if_pos a1]
  obtain ⟨b1, b2⟩ := wipeD_never 0 0 _ a2
  rw [if_pos b1]
  obtain ⟨c1, c2⟩ := wipeD_never 1 n _ b2
  rw [if_pos c1]
  exact ⟨rfl, c2⟩
theorem commitD_never (p : List Pt) (s : Dk) (h : s.fuse = -1) : (commitD p s).2 = 0 ∧ (commitD p s).1.fuse = -1 := by
  unfold commitD
  simp only [seqD]
  obtain ⟨a1, a2⟩ := doD_never (rowP 1 (entriesL p)) s h
  rw [if_pos a1]
  obtain ⟨b1, b2⟩ := doD_never (rowP 0 [headL p.length (entriesL p)]) _ a2
  rw [if_pos b1]
  obtain ⟨c1, c2⟩ := doD_never p _ b2
  rw [if_pos c1]
  obtain ⟨d1, d2⟩ := doD_never (rowP 0 [zs 256]) _ c2
  rw [if_pos d1]
  obtain ⟨e1, e2⟩ := doD_never (rowP 1 ((entriesL p).map fun _ => zs 256)) _ d2
  rw [if_pos e1]
  exact ⟨rfl, e2⟩

/-- The head is zero; behind the log all is W. -/
def AlZ (n : Nat) (W : Nat → List UInt8) (i : Nat) (v : List UInt8) : Prop := (i = 0 → v = zs 256) ∧ (n < i → v = W i)
/-- The log is that of p, its head zero or not; behind the log all is W. -/
def AlM (n : Nat) (p : List Pt) (W : Nat → List UInt8) (i : Nat) (v : List UInt8) : Prop :=
  (i = 0 → v = zs 256 ∨ v = headL p.length (entriesL p)) ∧ (∀ l, 1 ≤ i → (entriesL p)[i - 1]? = some l → v = l) ∧ (n < i → v = W i)
def W1 (p : List Pt) (W0 : Nat → List UInt8) (i : Nat) : List UInt8 := lastP p i (W0 i)
/-- The log is that of p; behind it each sector is as it was, or as it is to be. -/
def AlF (n : Nat) (p : List Pt) (W0 : Nat → List UInt8) (i : Nat) (v : List UInt8) : Prop :=
  (i = 0 → v = headL p.length (entriesL p)) ∧ (∀ l, 1 ≤ i → (entriesL p)[i - 1]? = some l → v = l) ∧ (n < i → v = W0 i ∨ v = W1 p W0 i)
/-- What a crash may leave. -/
def Good (n : Nat) (p : List Pt) (W0 : Nat → List UInt8) (s : Dk) : Prop := Allow (AlZ n W0) s ∨ Allow (AlF n p W0) s ∨ Allow (AlZ n (W1 p W0)) s
/-- p is what a log of n sectors, on a disk of N, takes. -/
structure Fine (n N : Nat) (p : List Pt) : Prop where
  takes : takesB n N p = true
  room : p.length ≤ roomN n
  log : n < N
  few : N ≤ 1024

section
variable {n N : Nat} {p : List Pt} {W0 : Nat → List UInt8} {s : Dk}
theorem Good.mixed {W : Nat → List UInt8} (hN : 0 < s.safe.length) (hW : W = W0 ∨ W = W1 p W0) (h : Allow (AlM n p W) s) (ks : List Bool) : Good n p W0 (s.crashed ks) := by
  have hc := h.crashed ks
  have h0 := may_now (s := s.crashed ks) (i := 0) (by show 0 < (over _ _).length; rw [over_len]; exact hN)
  rcases (hc 0 _ h0).1 rfl with e | e
  · have : Allow (AlZ n W) (s.crashed ks) := fun i v hv => ⟨fun hi => by subst hi; rw [crashed_one hv h0, e], (hc i v hv).2.2⟩
    rcases hW with rfl | rfl
    · exact .inl this
    · exact .inr (.inr this)
  · refine .inr (.inl fun i v hv => ⟨fun hi => by subst hi; rw [crashed_one hv h0, e], (hc i v hv).2.1, fun hi => ?_⟩)
    have := (hc i v hv).2.2 hi
    rcases hW with rfl | rfl
    · exact .inl this
    · exact .inr this
theorem Good.z0 (h : Allow (AlZ n W0) s) (ks : List Bool) : Good n p W0 (s.crashed ks) := .inl (h.crashed ks)
theorem Good.f (h : Allow (AlF n p W0) s) (ks : List Bool) : Good n p W0 (s.crashed ks) := .inr (.inl (h.crashed ks))
theorem Good.z1 (h : Allow (AlZ n (W1 p W0)) s) (ks : List Bool) : Good n p W0 (s.crashed ks) := .inr (.inr (h.crashed ks))

theorem Fine.len (h : Fine n N p) : (entriesL p).length ≤ n := by rw [entries_len]; have := room_fits h.room; omega
theorem Fine.behind (h : Fine n N p) {v : Pt} (hv : v ∈ p) : n < v.1.toNat := by have := takes_at h.takes hv; omega
theorem W1_at (h : Fine n N p) {v : Pt} (hv : v ∈ p) : W1 p W0 v.1.toNat = v.2 := lastP_one (takes_lone h.takes) _ hv
theorem W1_log (h : Fine n N p) {i : Nat} (hi : i ≤ n) : W1 p W0 i = W0 i := lastP_no _ _ _ fun v hv e => by have := h.behind hv; omega

/-- The list sectors and bytes are laid. -/
theorem commit_one (h : Fine n N p) (hl : s.safe.length = N) (hc : s.calm) (ha : Allow (AlZ n W0) s) :
    Allow (AlZ n W0) (doD (rowP 1 (entriesL p)) s).1 ∧ ((doD (rowP 1 (entriesL p)) s).2 = 0 → (doD (rowP 1 (entriesL p)) s).1.calm ∧ Allow (AlM n p W0) (doD (rowP 1 (entriesL p)) s).1) := by
  have A1 : Allow (AlZ n W0) (doD (rowP 1 (entriesL p)) s).1 := ha.doD fun q hq _ => by
    obtain ⟨j, hj, e⟩ := rowP_mem hq
    have := (List.getElem?_eq_some_iff.1 hj).1
    have := h.len
    rw [e, Int.toNat_natCast]
    exact ⟨fun e => by omega, fun e => by omega⟩
  refine ⟨A1, fun e => ?_⟩
  obtain ⟨c1, h1⟩ := doD_ok hc e
  refine ⟨c1, fun i v hv => ⟨fun hi => .inl ((A1 i v hv).1 hi), fun l hi hl' => ?_, (A1 i v hv).2⟩⟩
  have hlt := (List.getElem?_eq_some_iff.1 hl').1
  have := h.len
  have := h.log
  rw [calm_now c1 hv, h1 i (by omega)]
  have := rowP_last (at_ := 1) hl' (s.now i)
  rwa [show 1 + (i - 1) = i by omega] at this
/-- The head is laid. -/
theorem commit_two {W : Nat → List UInt8} {x : List UInt8} (hx : x = zs 256 ∨ x = headL p.length (entriesL p)) (hl : 0 < s.safe.length) (hc : s.calm) (ha : Allow (AlM n p W) s) :
    Allow (AlM n p W) (doD (rowP 0 [x]) s).1 ∧ ((doD (rowP 0 [x]) s).2 = 0 → (doD (rowP 0 [x]) s).1.calm ∧ ∀ v, May (doD (rowP 0 [x]) s).1 0 v → v = x) := by
  have A1 : Allow (AlM n p W) (doD (rowP 0 [x]) s).1 := ha.doD fun q hq _ => by
    obtain ⟨j, hj, e⟩ := rowP_mem hq
    match j, hj with
    | 0, hj =>
      obtain rfl : x = q.2 := by simpa using hj
      rw [e]
      exact ⟨fun _ => hx, fun l h0 => absurd h0 (by simp), fun h0 => absurd h0 (by simp)⟩
  refine ⟨A1, fun e => ?_⟩
  obtain ⟨c1, h1⟩ := doD_ok hc e
  refine ⟨c1, fun v hv => ?_⟩
  rw [calm_now c1 hv, h1 0 hl]
  exact rowP_last (at_ := 0) (j := 0) (ls := [x]) rfl _
/-- The patches are done. -/
theorem commit_three (h : Fine n N p) (hl : s.safe.length = N) (hc : s.calm) (ha : Allow (AlF n p W0) s) :
    Allow (AlF n p W0) (doD p s).1 ∧ ((doD p s).2 = 0 → (doD p s).1.calm ∧ Allow (AlM n p (W1 p W0)) (doD p s).1) := by
  have A1 : Allow (AlF n p W0) (doD p s).1 := ha.doD fun q hq _ => by
    have hb := h.behind hq
    have := h.len
    refine ⟨fun e => by omega, fun l _ hl' => ?_, fun _ => .inr (W1_at h hq).symm⟩
    have := (List.getElem?_eq_some_iff.1 hl').1
    omega
  refine ⟨A1, fun e => ?_⟩
  obtain ⟨c1, h1⟩ := doD_ok hc e
  refine ⟨c1, fun i v hv => ⟨fun hi => .inr ((A1 i v hv).1 hi), (A1 i v hv).2.1, fun hi => ?_⟩⟩
  have hiN : i < s.safe.length := by
    rcases hv with hv | ⟨hv, _⟩
    · have := (List.getElem?_eq_some_iff.1 hv).1; rwa [doD_len] at this
    · rwa [doD_len] at hv
  rw [calm_now c1 hv, h1 i hiN]
  rcases lastP_mem p i (s.now i) with ⟨e1, e2⟩ | ⟨q, hq, rfl, e1⟩
  · rw [e1]
    have hw : W1 p W0 i = W0 i := lastP_no _ _ _ e2
    rw [hw]
    rcases (ha i _ (may_now hiN)).2.2 hi with e3 | e3
    · exact e3
    · rw [e3, hw]
  · rw [e1, W1_at h hq]
theorem mixed_zero {W : Nat → List UInt8} (ha : Allow (AlM n p W) s) (h0 : ∀ v, May s 0 v → v = zs 256) : Allow (AlZ n W) s := fun i v hv => ⟨fun hi => by subst hi; exact h0 v hv, (ha i v hv).2.2⟩
theorem mixed_head (ha : Allow (AlM n p W0) s) (h0 : ∀ v, May s 0 v → v = headL p.length (entriesL p)) : Allow (AlF n p W0) s := fun i v hv => ⟨fun hi => by subst hi; exact h0 v hv, (ha i v hv).2.1, fun hi => .inl ((ha i v hv).2.2 hi)⟩

/-- Whatever a crash leaves of a Commit. -/
theorem commit_good (h : Fine n N p) (hl : s.safe.length = N) (hc : s.calm) (ha : Allow (AlZ n W0) s) :
    (∀ ks, Good n p W0 ((commitD p s).1.crashed ks)) ∧ ((commitD p s).2 = 0 → (commitD p s).1.calm ∧ Allow (AlZ n (W1 p W0)) (commitD p s).1 ∧ ∀ i, 1 ≤ i → i ≤ (entriesL p).length → (commitD p s).1.now i = zs 256) := by
  have hN : 0 < N := by have := h.log; omega
  obtain ⟨a1, b1⟩ := commit_one (W0 := W0) h hl hc ha
  unfold commitD
  rw [seqD_one]
  split
  case isFalse => rename_i e; exact ⟨Good.z0 a1, fun h => absurd h e⟩
  rename_i e1
  obtain ⟨c1, m1⟩ := b1 e1
  have l1 : (doD (rowP 1 (entriesL p)) s).1.safe.length = N := by rw [doD_len]; exact hl
  generalize (doD (rowP 1 (entriesL p)) s).1 = s1 at *
  obtain ⟨a2, b2⟩ := commit_two (x := headL p.length (entriesL p)) (.inr rfl) (by omega) c1 m1
  rw [seqD_one]
  split
  case isFalse => rename_i e; exact ⟨Good.mixed (by rw [doD_len]; omega) (.inl rfl) a2, fun h => absurd h e⟩
  rename_i e2
  obtain ⟨c2, m2⟩ := b2 e2
  have f2 := mixed_head a2 m2
  have l2 : (doD (rowP 0 [headL p.length (entriesL p)]) s1).1.safe.length = N := by rw [doD_len]; exact l1
  generalize (doD (rowP 0 [headL p.length (entriesL p)]) s1).1 = s2 at *
  obtain ⟨a3, b3⟩ := commit_three (W0 := W0) h l2 c2 f2
  rw [seqD_one]
  split
  case isFalse => rename_i e; exact ⟨Good.f a3, fun h => absurd h e⟩
  rename_i e3
  obtain ⟨c3, m3⟩ := b3 e3
  have l3 : (doD p s2).1.safe.length = N := by rw [doD_len]; exact l2
  generalize (doD p s2).1 = s3 at *
  obtain ⟨a4, b4⟩ := commit_two (x := zs 256) (.inl rfl) (by omega) c3 m3
  rw [seqD_one]
  split
  case isFalse => rename_i e; exact ⟨Good.mixed (by rw [doD_len]; omega) (.inr rfl) a4, fun h => absurd h e⟩
  rename_i e4
  obtain ⟨c4, m4⟩ := b4 e4
  have z4 := mixed_zero a4 m4
  have l4 : (doD (rowP 0 [zs 256]) s3).1.safe.length = N := by rw [doD_len]; exact l3
  generalize (doD (rowP 0 [zs 256]) s3).1 = s4 at *
  have z5 : Allow (AlZ n (W1 p W0)) (doD (rowP 1 ((entriesL p).map fun _ => zs 256)) s4).1 := z4.doD fun q hq _ => by
    obtain ⟨j, hj, e⟩ := rowP_mem hq
    have := (List.getElem?_eq_some_iff.1 hj).1
    rw [List.length_map] at this
    have := h.len
    rw [e, Int.toNat_natCast]
    exact ⟨fun e => by omega, fun e => by omega⟩
  rw [seqD_one]
  split
  case isFalse => rename_i e; exact ⟨Good.z1 z5, fun h => absurd h e⟩
  rename_i e5
  refine ⟨Good.z1 z5, fun _ => ?_⟩
  obtain ⟨c5, h5⟩ := doD_ok c4 e5
  refine ⟨c5, z5, fun i hi1 hi2 => ?_⟩
  have := h.len
  have := h.log
  show (doD _ s4).1.now i = _
  rw [h5 i (by omega)]
  have hj : ((entriesL p).map fun _ => zs 256)[i - 1]? = some (zs 256) := by rw [List.getElem?_map, List.getElem?_eq_getElem (by omega)]; rfl
  have := rowP_last (at_ := 1) hj (s4.now i)
  rwa [show 1 + (i - 1) = i by omega] at this

/-- Behind the log all is as it was, or all is as it is to be; the log is zero. -/
def Stands (n N : Nat) (W : Nat → List UInt8) (s : Dk) : Prop := s.calm ∧ (∀ i, i ≤ n → s.now i = zs 256) ∧ ∀ i, n < i → i < N → s.now i = W i

/-- Open, where the head is zero. -/
theorem open_zero {W : Nat → List UInt8} (hn : n < N) (hl : s.safe.length = N) (hc : s.calm) (ha : Allow (AlZ n W) s) :
    leftP n s = [] ∧ Allow (AlZ n W) (openD n s).1 ∧ ((openD n s).2 = 0 → Stands n N W (openD n s).1) := by
  have h0 : s.now 0 = zs 256 := (ha 0 _ (may_now (by omega))).1 rfl
  have hp : leftP n s = [] := by
    unfold leftP
    rw [told_zero (log := logD n s) (by unfold logD; rw [List.range_succ_eq_map]; simpa using h0)]
    split <;> rfl
  refine ⟨hp, ?_⟩
  unfold openD
  by_cases hf : s.fuse = 0
  · rw [if_pos hf]
    exact ⟨ha, fun e => by cases e⟩
  · rw [if_neg hf, hp]
    have e1 : doD [] s = (s, 0) := rfl
    have e2 : wipeD 0 0 s = (s, 0) := wipeD_none hf fun i _ hi => by
      obtain rfl : i = 0 := by omega
      exact h0
    rw [seqD_one, e1, if_pos rfl, seqD_one, e2, if_pos rfl, seqD_one]
    have A3 : Allow (AlZ n W) (wipeD 1 n s).1 := ha.wipeD fun i h1 h2 => ⟨fun e => by omega, fun e => by omega⟩
    split
    · rename_i e3
      refine ⟨A3, fun _ => ?_⟩
      obtain ⟨c3, h3⟩ := wipeD_ok hc e3
      refine ⟨c3, fun i hi => ?_, fun i hi hiN => ?_⟩
      · show (wipeD 1 n s).1.now i = _
        rw [h3 i (by omega)]
        split
        · rfl
        · obtain rfl : i = 0 := by omega
          exact h0
      · show (wipeD 1 n s).1.now i = _
        rw [h3 i (by omega), if_neg (by omega)]
        exact (ha i _ (may_now (by omega))).2 hi
    · rename_i e3
      exact ⟨A3, fun e => absurd e e3⟩

/-- Open, where the log is whole. -/
theorem open_full (h : Fine n N p) (hl : s.safe.length = N) (hc : s.calm) (ha : Allow (AlF n p W0) s) :
    leftP n s = p ∧ (∀ ks, Good n p W0 ((openD n s).1.crashed ks)) ∧ ((openD n s).2 = 0 → Stands n N (W1 p W0) (openD n s).1) := by
  have hn := h.log
  have hlen := h.len
  have hnow : ∀ i, i < N → AlF n p W0 i (s.now i) := fun i hi => ha i _ (may_now (by omega))
  have h0 : s.now 0 = headL p.length (entriesL p) := (hnow 0 (by omega)).1 rfl
  have ht : toldL (logD n s) = p := by
    refine told_of (n := n) (fun v hv => ?_) h.room (by have := h.few; omega) (by simp [logD]) (by unfold logD; rw [List.range_succ_eq_map]; simpa using h0) ?_
    · have := takes_at h.takes hv
      have := h.few
      omega
    · rw [← entries_len]
      apply List.ext_getElem
      · rw [List.length_take, List.length_drop]
        simp [logD]
        omega
      · intro i h1 h2
        have e1 : ((logD n s).drop 1)[i]'(by rw [List.length_drop]; simp [logD]; omega) = s.now (1 + i) := by
          rw [List.getElem_drop]
          simp [logD]
        rw [List.getElem_take, e1]
        exact (hnow (1 + i) (by omega)).2.1 _ (by omega) (by rw [show 1 + i - 1 = i by omega, List.getElem?_eq_getElem h2])
  have hp : leftP n s = p := by
    unfold leftP
    rw [ht, hl, if_pos h.takes]
  refine ⟨hp, ?_⟩
  unfold openD
  by_cases hf : s.fuse = 0
  · rw [if_pos hf]
    exact ⟨Good.f ha, fun e => by cases e⟩
  · rw [if_neg hf, hp, seqD_one]
    obtain ⟨a1, b1⟩ := commit_three (W0 := W0) h hl hc ha
    split
    case isFalse => rename_i e; exact ⟨Good.f a1, fun h => absurd h e⟩
    rename_i e1
    obtain ⟨c1, m1⟩ := b1 e1
    have l1 : (doD p s).1.safe.length = N := by rw [doD_len]; exact hl
    generalize (doD p s).1 = s1 at *
    have a2 : Allow (AlM n p (W1 p W0)) (wipeD 0 0 s1).1 := m1.wipeD fun i h1 h2 => by
      obtain rfl : i = 0 := by omega
      exact ⟨fun _ => .inl rfl, fun l h0 => absurd h0 (by omega), fun h0 => absurd h0 (by omega)⟩
    have l2 : (wipeD 0 0 s1).1.safe.length = N := by rw [wipeD_len]; exact l1
    rw [seqD_one]
    split
    case isFalse => rename_i e; exact ⟨Good.mixed (by rw [l2]; omega) (.inr rfl) a2, fun h => absurd h e⟩
    rename_i e2
    obtain ⟨c2, h2⟩ := wipeD_ok c1 e2
    have z2 : Allow (AlZ n (W1 p W0)) (wipeD 0 0 s1).1 := mixed_zero a2 fun v hv => by
      rw [calm_now c2 hv, h2 0 (by omega), if_pos ⟨Nat.le_refl _, Nat.le_refl _⟩]
    generalize (wipeD 0 0 s1).1 = s2 at *
    have z3 : Allow (AlZ n (W1 p W0)) (wipeD 1 n s2).1 := z2.wipeD fun i h1 h2 => ⟨fun e => by omega, fun e => by omega⟩
    rw [seqD_one]
    split
    case isFalse => rename_i e; exact ⟨Good.z1 z3, fun h => absurd h e⟩
    rename_i e3
    refine ⟨Good.z1 z3, fun _ => ?_⟩
    obtain ⟨c3, h3⟩ := wipeD_ok c2 e3
    refine ⟨c3, fun i hi => ?_, fun i hi hiN => ?_⟩
    · show (wipeD 1 n s2).1.now i = _
      rw [h3 i (by omega)]
      split
      · rfl
      · obtain rfl : i = 0 := by omega
        exact (z2 0 _ (may_now (by omega))).1 rfl
    · show (wipeD 1 n s2).1.now i = _
      rw [h3 i (by omega), if_neg (by omega)]
      exact (z2 i _ (may_now (by omega))).2 hi

/-- Open, behind a crash. -/
theorem open_good (h : Fine n N p) (hl : s.safe.length = N) (hc : s.calm) (ha : Good n p W0 s) :
    (∀ ks, Good n p W0 ((openD n s).1.crashed ks)) ∧ ((openD n s).2 = 0 → Stands n N W0 (openD n s).1 ∨ Stands n N (W1 p W0) (openD n s).1) := by
  rcases ha with ha | ha | ha
  · obtain ⟨_, h1, h2⟩ := open_zero h.log hl hc ha
    exact ⟨Good.z0 h1, fun e => .inl (h2 e)⟩
  · obtain ⟨_, h1, h2⟩ := open_full h hl hc ha
    exact ⟨h1, fun e => .inr (h2 e)⟩
  · obtain ⟨_, h1, h2⟩ := open_zero h.log hl hc ha
    exact ⟨Good.z1 h1, fun e => .inr (h2 e)⟩

/-- A log that is zero is opened, and nothing is done. -/
theorem open_again {W : Nat → List UInt8} (hn : n < N) (hl : s.safe.length = N) (hf : s.fuse ≠ 0) (ht : Stands n N W s) : leftP n s = [] ∧ openD n s = (s, 0) := by
  have h0 : s.now 0 = zs 256 := ht.2.1 0 (Nat.zero_le _)
  have hp : leftP n s = [] := by
    unfold leftP
    rw [told_zero (log := logD n s) (by unfold logD; rw [List.range_succ_eq_map]; simpa using h0)]
    split <;> rfl
  refine ⟨hp, ?_⟩
  unfold openD
  have e2 : wipeD 0 0 s = (s, 0) := wipeD_none hf fun i _ hi => ht.2.1 i (by omega)
  have e3 : wipeD 1 n s = (s, 0) := wipeD_none hf fun i _ hi => ht.2.1 i hi
  rw [if_neg hf, hp, seqD_one, show doD [] s = (s, 0) from rfl, if_pos rfl, seqD_one, e2, if_pos rfl, seqD_one, e3, if_pos rfl]
  rfl
end
end Go.Proofs.YtgoifhpinoodgaaDoor
end
