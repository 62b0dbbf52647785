/-
  WaM: A log, plainly: what patches do to a disk, one behind the other, till the power goes; what a row of steps does; what is allowed to stand in each sector, whatever a crash lets stay. No program, no condition.
-/
import Derived.Test.YtgoifhpinoodgaaDoorWo08
import Derived.Test.YtgoifhpinoodgaaDoorWo09
import Derived.Test.YtgoifhpinoodgaaDoorWo11

section
namespace Go.Proofs.YtgoifhpinoodgaaDoor
open Go.RowKit
set_option maxRecDepth 100000
set_option linter.unusedVariables false

/-- A patch: the number of a sector, and bytes. -/
abbrev Pt := Int × List UInt8
/-- One sector is written. -/
def wrD (s : Dk) (i : Nat) (b : List UInt8) : Dk := (s.wrote i b).acted
/-- Patches are written, and flushed. -/
def wsD : Dk → List Pt → Dk × Int
  | s, [] => if s.fuse = 0 then (s, 8) else (s.flushed, 0)
  | s, p :: r => if s.fuse = 0 then (s, 8) else wsD (wrD s p.1.toNat p.2) r
/-- The same; of none nothing is done. -/
def doD (ps : List Pt) (s : Dk) : Dk × Int := if ps.length = 0 then (s, 0) else wsD s ps
/-- Steps, up to the first one that has an error. -/
def seqD : List (Dk → Dk × Int) → Dk → Dk × Int
  | [], s => (s, 0)
  | f :: fs, s => if (f s).2 = 0 then seqD fs (f s).1 else f s
/-- The patches are of sectors that are there, a sector's bytes each. -/
def Fit (N : Nat) (ps : List Pt) : Prop := ∀ p ∈ ps, 0 ≤ p.1 ∧ p.1 < (N : Int) ∧ p.2.length = 256
theorem Fit.cons {N : Nat} {p : Pt} {r : List Pt} (h : Fit N (p :: r)) : (0 ≤ p.1 ∧ p.1 < (N : Int) ∧ p.2.length = 256) ∧ Fit N r := ⟨h p (by simp), fun q hq => h q (by simp [hq])⟩

theorem wrD_len (s : Dk) (i : Nat) (b : List UInt8) : (wrD s i b).safe.length = s.safe.length := rfl
theorem flushed_len (s : Dk) : s.flushed.safe.length = s.safe.length := over_len _ _
theorem wsD_len : ∀ (ps : List Pt) (s : Dk), (wsD s ps).1.safe.length = s.safe.length
  | [], s => by
    unfold wsD
    split
    · rfl
    · exact flushed_len s
  | p :: r, s => by
    unfold wsD
    split
    · rfl
    · rw [wsD_len r]; rfl
theorem doD_len (ps : List Pt) (s : Dk) : (doD ps s).1.safe.length = s.safe.length := by
  unfold doD
  split
  · rfl
  · exact wsD_len ps s
theorem wsD_code : ∀ (ps : List Pt) (s : Dk), (wsD s ps).2 = 0 ∨ (wsD s ps).2 = 8
  | [], s => by unfold wsD; split <;> simp
  | p :: r, s => by
    unfold wsD
    split
    · exact .inr rfl
    · exact wsD_code r _
theorem doD_code (ps : List Pt) (s : Dk) : (doD ps s).2 = 0 ∨ (doD ps s).2 = 8 := by
  unfold doD
  split
  · exact .inl rfl
  · exact wsD_code ps s

/-- A disk whose power does not go. -/
theorem wsD_never : ∀ (ps : List Pt) (s : Dk), s.fuse = -1 → (wsD s ps).2 = 0 ∧ (wsD s ps).1.fuse = -1
  | [], s, h => by
    unfold wsD
    rw [if_neg (by rw [h]; decide)]
    refine ⟨rfl, ?_⟩
    show (Dk.acted _).fuse = -1
    unfold Dk.acted
    show (if 0 < s.fuse then s.fuse - 1 else s.fuse) = -1
    rw [if_neg (by omega), h]
  | p :: r, s, h => by
    unfold wsD
    rw [if_neg (by rw [h]; decide)]
    refine wsD_never r _ ?_
    show (if 0 < s.fuse then s.fuse - 1 else s.fuse) = -1
    rw [if_neg (by omega), h]
theorem doD_never (ps : List Pt) (s : Dk) (h : s.fuse = -1) : (doD ps s).2 = 0 ∧ (doD ps s).1.fuse = -1 := by
  unfold doD
  split
  · exact ⟨rfl, h⟩
  · exact wsD_never ps s h

/-- What may stand in the sector i. -/
def May (s : Dk) (i : Nat) (v : List UInt8) : Prop := s.safe[i]? = some v ∨ (i < s.safe.length ∧ s.pend i = some v)
/-- All that may stand in a sector is allowed there. -/
def Allow (Al : Nat → List UInt8 → Prop) (s : Dk) : Prop := ∀ i v, May s i v → Al i v
theorem Allow.mono {Al Bl : Nat → List UInt8 → Prop} {s : Dk} (h : Allow Al s) (hb : ∀ i v, Al i v → Bl i v) : Allow Bl s := fun i v hv => hb i v (h i v hv)
theorem Allow.fuse {Al : Nat → List UInt8 → Prop} {s : Dk} (h : Allow Al s) (f a : Int) : Allow Al { s with fuse := f, acts := a } := h
theorem Allow.wr {Al : Nat → List UInt8 → Prop} {s : Dk} (h : Allow Al s) {i : Nat} {b : List UInt8} (hb : i < s.safe.length → Al i b) : Allow Al (wrD s i b) := by
  intro j v hv
  rcases hv with hv | ⟨hj, hv⟩
  · exact h j v (.inl hv)
  · have hv' : upd s.pend i b j = some v := hv
    unfold upd at hv'
    split at hv'
    · rename_i e
      subst e
      obtain rfl := Option.some.inj hv'
      exact hb hj
    · exact h j v (.inr ⟨hj, hv'⟩)
theorem May.of_with {s : Dk} {g : Nat → Option (List UInt8)} {i : Nat} {v : List UInt8} (h : (over s.safe g)[i]? = some v) (hg : ∀ x, g i = some x → s.pend i = some x) : May s i v := by
  rw [over_at] at h
  cases hs : s.safe[i]? with
  | none => rw [hs] at h; cases h
  | some x =>
    rw [hs] at h
    have hi := (List.getElem?_eq_some_iff.1 hs).1
    simp only [Option.map_some, Option.some.injEq] at h
    cases hgi : g i with
    | none => rw [hgi] at h; exact .inl (by rw [hs]; exact congrArg some h)
    | some y => rw [hgi] at h; exact .inr ⟨hi, by rw [hg y hgi]; exact congrArg some h⟩
theorem Allow.flushed {Al : Nat → List UInt8 → Prop} {s : Dk} (h : Allow Al s) : Allow Al s.flushed := by
  intro i v hv
  rcases hv with hv | ⟨_, hv⟩
  · exact h i v (May.of_with (s := s) (g := s.pend) hv fun x hx => hx)
  · cases hv
theorem crashed_pend (s : Dk) (ks : List Bool) (i : Nat) : (s.crashed ks).pend i = none := rfl
theorem keeps_sub (f : Nat → Option (List UInt8)) (ps : List Nat) (ks : List Bool) (k i : Nat) (x : List UInt8) (h : keeps f ps ks k i = some x) : f i = some x := by
  unfold keeps at h
  split at h
  · exact h
  · cases h
theorem crashed_may {s : Dk} {ks : List Bool} {i : Nat} {v : List UInt8} (h : May (s.crashed ks) i v) : May s i v := by
  rcases h with h | ⟨_, h⟩
  · exact May.of_with (s := s) (g := keeps s.pend s.nums ks s.nums.length) h fun x hx => keeps_sub _ _ _ _ _ _ hx
  · cases h
theorem Allow.crashed {Al : Nat → List UInt8 → Prop} {s : Dk} (h : Allow Al s) (ks : List Bool) : Allow Al (s.crashed ks) := fun i v hv => h i v (crashed_may hv)
theorem crashed_one {s : Dk} {ks : List Bool} {i : Nat} {u v : List UInt8} (h : May (s.crashed ks) i u) (k : May (s.crashed ks) i v) : u = v := by
  rcases h with h | ⟨_, h⟩
  · rcases k with k | ⟨_, k⟩
    · exact Option.some.inj (h.symm.trans k)
    · cases k
  · cases h
theorem Allow.wsD {Al : Nat → List UInt8 → Prop} : ∀ (ps : List Pt) {s : Dk}, Allow Al s → (∀ p ∈ ps, p.1.toNat < s.safe.length → Al p.1.toNat p.2) → Allow Al (wsD s ps).1
  | [], s, h, _ => by
    unfold Go.Proofs.YtgoifhpinoodgaaDoor.wsD
    split
    · exact h
    · exact h.flushed
  | p :: r, s, h, hp => by
    unfold Go.Proofs.YtgoifhpinoodgaaDoor.wsD
    split
    · exact h
    · exact Allow.wsD r (h.wr (hp p (by simp))) fun q hq => hp q (by simp [hq])
theorem Allow.doD {Al : Nat → List UInt8 → Prop} {ps : List Pt} {s : Dk} (h : Allow Al s) (hp : ∀ p ∈ ps, p.1.toNat < s.safe.length → Al p.1.toNat p.2) : Allow Al (doD ps s).1 := by
  unfold Go.Proofs.YtgoifhpinoodgaaDoor.doD
  split
  · exact h
  · exact Allow.wsD ps h hp

/-- What stands in the sector i behind patches. -/
def lastP : List Pt → Nat → List UInt8 → List UInt8
  | [], _, d => d
  | p :: r, i, d => lastP r i (if p.1.toNat = i then p.2 else d)
/-- Nothing is pending. -/
def Dk.calm (s : Dk) : Prop := ∀ i, s.pend i = none
theorem crashed_calm (s : Dk) (ks : List Bool) : (s.crashed ks).calm := fun _ => rfl
theorem wrD_now (s : Dk) (i : Nat) (b : List UInt8) (j : Nat) : (wrD s i b).now j = if i = j then b else s.now j := by
  show (upd s.pend i b j).getD (s.safe.getD j []) = _
  unfold upd
  by_cases h : j = i
  · rw [if_pos h, if_pos h.symm]; rfl
  · rw [if_neg h, if_neg fun e => h e.symm]; rfl
theorem flushed_now {s : Dk} (i : Nat) (hi : i < s.safe.length) : s.flushed.now i = s.now i := by
  show (none : Option (List UInt8)).getD ((over s.safe s.pend).getD i []) = (s.pend i).getD (s.safe.getD i [])
  rw [Option.getD_none, List.getD_eq_getElem?_getD, over_at, List.getD_eq_getElem?_getD, List.getElem?_eq_getElem hi]
  rfl
theorem wsD_ok : ∀ (ps : List Pt) (s : Dk), (wsD s ps).2 = 0 → (wsD s ps).1.calm ∧ ∀ i, i < s.safe.length → (wsD s ps).1.now i = lastP ps i (s.now i)
  | [], s, h => by
    unfold wsD at h ⊢
    split at h
    · cases h
    · rename_i hf
      rw [if_neg hf]
      exact ⟨fun i => rfl, fun i hi => flushed_now i hi⟩
  | p :: r, s, h => by
    unfold wsD at h ⊢
    split at h
    · cases h
    · rename_i hf
      rw [if_neg hf]
      obtain ⟨h1, h2⟩ := wsD_ok r _ h
      refine ⟨h1, fun i hi => ?_⟩
      rw [h2 i hi, wrD_now]
      rfl
theorem doD_ok {ps : List Pt} {s : Dk} (hc : s.calm) (h : (doD ps s).2 = 0) : (doD ps s).1.calm ∧ ∀ i, i < s.safe.length → (doD ps s).1.now i = lastP ps i (s.now i) := by
  unfold doD at h ⊢
  split at h
  · rename_i h0
    rw [if_pos h0]
    obtain rfl : ps = [] := List.eq_nil_of_length_eq_zero h0
    exact ⟨hc, fun _ _ => rfl⟩
  · rename_i h0
    rw [if_neg h0]
    exact wsD_ok ps s h
theorem calm_now {s : Dk} (hc : s.calm) {i : Nat} {v : List UInt8} (h : May s i v) : v = s.now i := by
  unfold Dk.now
  rw [hc i]
  rcases h with h | ⟨_, h⟩
  · rw [Option.getD_none, List.getD_eq_getElem?_getD, h]; rfl
  · rw [hc i] at h; cases h
theorem may_now {s : Dk} {i : Nat} (hi : i < s.safe.length) : May s i (s.now i) := by
  unfold Dk.now
  cases hp : s.pend i with
  | none => exact .inl (by rw [Option.getD_none, List.getD_eq_getElem?_getD, List.getElem?_eq_getElem hi]; rfl)
  | some x => exact .inr ⟨hi, hp⟩
theorem Allow.of_now {Al : Nat → List UInt8 → Prop} {s : Dk} (hc : s.calm) (h : ∀ i, i < s.safe.length → Al i (s.now i)) : Allow Al s := by
  intro i v hv
  have hi : i < s.safe.length := by
    rcases hv with hv | ⟨hi, _⟩
    · exact (List.getElem?_eq_some_iff.1 hv).1
    · exact hi
  rw [calm_now hc hv]
  exact h i hi
theorem calm_crashed_now {s : Dk} (hc : s.calm) (ks : List Bool) (i : Nat) (hi : i < s.safe.length) : (s.crashed ks).now i = s.now i :=
  (calm_now hc (crashed_may (may_now (s := s.crashed ks) (by show i < (over _ _).length; rw [over_len]; exact hi))))

theorem lastP_no : ∀ (ps : List Pt) (i : Nat) (d : List UInt8), (∀ p ∈ ps, p.1.toNat ≠ i) → lastP ps i d = d
  | [], _, _, _ => rfl
  | p :: r, i, d, h => by
    unfold lastP
    rw [if_neg (h p (by simp)), lastP_no r i d fun q hq => h q (by simp [hq])]
theorem lastP_all : ∀ (ps : List Pt) (i : Nat) (d v : List UInt8), (∀ p ∈ ps, p.1.toNat = i → p.2 = v) → (∃ p ∈ ps, p.1.toNat = i) → lastP ps i d = v
  | [], _, _, _, _, h => by obtain ⟨p, hp, _⟩ := h; cases hp
  | p :: r, i, d, v, h, hx => by
    unfold lastP
    by_cases hr : ∃ q ∈ r, q.1.toNat = i
    · exact lastP_all r i _ v (fun q hq e => h q (by simp [hq]) e) hr
    · rw [lastP_no r i _ fun q hq e => hr ⟨q, hq, e⟩]
      obtain ⟨q, hq, e⟩ := hx
      rcases List.mem_cons.1 hq with rfl | hq
      · rw [if_pos e]; exact h q (by simp) e
      · exact absurd ⟨q, hq, e⟩ hr
theorem lastP_mem (ps : List Pt) (i : Nat) (d : List UInt8) : (lastP ps i d = d ∧ ∀ p ∈ ps, p.1.toNat ≠ i) ∨ ∃ p ∈ ps, p.1.toNat = i ∧ lastP ps i d = p.2 := by
  induction ps generalizing d with
  | nil => exact .inl ⟨rfl, fun p hp => by cases hp⟩
  | cons p r ih =>
    unfold lastP
    rcases ih (if p.1.toNat = i then p.2 else d) with ⟨h1, h2⟩ | ⟨q, hq, e, h⟩
    · by_cases hp : p.1.toNat = i
      · exact .inr ⟨p, by simp, hp, by rw [h1, if_pos hp]⟩
      · exact .inl ⟨by rw [h1, if_neg hp], fun q hq => by
          rcases List.mem_cons.1 hq with rfl | hq
          · exact hp
          · exact h2 q hq⟩
    · exact .inr ⟨q, by simp [hq], e, h⟩
/-- No two patches are of one sector. -/
def Lone (ps : List Pt) : Prop := ∀ p ∈ ps, ∀ q ∈ ps, p.1.toNat = q.1.toNat → p = q
/-- What a patch writes stays, where no two are of one sector. -/
theorem lastP_one {ps : List Pt} (hn : Lone ps) (d : List UInt8) {p : Pt} (hp : p ∈ ps) : lastP ps p.1.toNat d = p.2 :=
  lastP_all ps _ d _ (fun q hq e => by rw [hn q hq p hp e]) ⟨p, hp, rfl⟩

/-- Sectors, one behind the other, from at on. -/
def rowP (at_ : Nat) (ls : List (List UInt8)) : List Pt := ls.mapIdx fun i b => (((at_ + i : Nat) : Int), b)
theorem rowP_at (at_ : Nat) (ls : List (List UInt8)) (j : Nat) : (rowP at_ ls)[j]? = (ls[j]?).map fun b => (((at_ + j : Nat) : Int), b) := by unfold rowP; rw [List.getElem?_mapIdx]
theorem rowP_len (at_ : Nat) (ls : List (List UInt8)) : (rowP at_ ls).length = ls.length := List.length_mapIdx
theorem rowP_mem {at_ : Nat} {ls : List (List UInt8)} {p : Pt} (h : p ∈ rowP at_ ls) : ∃ j, ls[j]? = some p.2 ∧ p.1 = ((at_ + j : Nat) : Int) := by
  obtain ⟨j, hj⟩ := List.mem_iff_getElem?.1 h
  rw [rowP_at] at hj
  cases hl : ls[j]? with
  | none => rw [hl] at hj; cases hj
  | some b =>
    rw [hl] at hj
    simp only [Option.map_some, Option.some.injEq] at hj
    subst hj
    exact ⟨j, hl, rfl⟩
theorem rowP_last {at_ : Nat} {ls : List (List UInt8)} {j : Nat} {b : List UInt8} (h : ls[j]? = some b) (d : List UInt8) : lastP (rowP at_ ls) (at_ + j) d = b := by
  refine lastP_all _ _ _ _ (fun q hq e => ?_) ⟨(((at_ + j : Nat) : Int), b), List.mem_iff_getElem?.2 ⟨j, by rw [rowP_at, h]; rfl⟩, Int.toNat_natCast _⟩
  obtain ⟨k, hk, e2⟩ := rowP_mem hq
  rw [e2, Int.toNat_natCast] at e
  obtain rfl : k = j := by omega
  exact Option.some.inj (hk.symm.trans h)
theorem rowP_far {at_ : Nat} {ls : List (List UInt8)} {i : Nat} (h : i < at_ ∨ at_ + ls.length ≤ i) (d : List UInt8) : lastP (rowP at_ ls) i d = d := by
  refine lastP_no _ _ _ fun p hp e => ?_
  obtain ⟨k, hk, e2⟩ := rowP_mem hp
  rw [e2, Int.toNat_natCast] at e
  have := (List.getElem?_eq_some_iff.1 hk).1
  omega

/-- The sectors from a to b that are not zero, as patches that make them zero. -/
def wipeP (s : Dk) (a b : Nat) : List Pt := ((List.range' a (b + 1 - a)).filter fun i => !decide (s.now i = zs 256)).map fun (i : Nat) => ((i : Int), zs 256)
def wipeD (a b : Nat) (s : Dk) : Dk × Int := if s.fuse = 0 then (s, 8) else doD (wipeP s a b) s
theorem wipeP_mem {s : Dk} {a b : Nat} {p : Pt} (h : p ∈ wipeP s a b) : ∃ i, a ≤ i ∧ i ≤ b ∧ p = ((i : Int), zs 256) := by
  obtain ⟨i, hi, e⟩ := List.mem_map.1 h
  have := (List.mem_filter.1 hi).1
  rw [List.mem_range'_1] at this
  exact ⟨i, this.1, by omega, e.symm⟩
theorem wipeP_there {s : Dk} {a b i : Nat} (h1 : a ≤ i) (h2 : i ≤ b) (hz : s.now i ≠ zs 256) : ((i : Int), zs 256) ∈ wipeP s a b :=
  List.mem_map.2 ⟨i, List.mem_filter.2 ⟨List.mem_range'_1.2 ⟨h1, by omega⟩, by simp [hz]⟩, rfl⟩
theorem wipe_last {s : Dk} {a b i : Nat} (h1 : a ≤ i) (h2 : i ≤ b) : lastP (wipeP s a b) i (s.now i) = zs 256 := by
  by_cases hz : s.now i = zs 256
  · rcases lastP_mem (wipeP s a b) i (s.now i) with ⟨e, _⟩ | ⟨p, hp, _, e⟩
    · rw [e, hz]
    · obtain ⟨j, _, _, rfl⟩ := wipeP_mem hp
      exact e
  · refine lastP_all _ _ _ _ (fun p hp _ => ?_) ⟨_, wipeP_there h1 h2 hz, Int.toNat_natCast _⟩
    obtain ⟨j, _, _, rfl⟩ := wipeP_mem hp
    rfl
theorem wipe_far {s : Dk} {a b i : Nat} (h : i < a ∨ b < i) (d : List UInt8) : lastP (wipeP s a b) i d = d := by
  refine lastP_no _ _ _ fun p hp e => ?_
  obtain ⟨j, h1, h2, rfl⟩ := wipeP_mem hp
  rw [Int.toNat_natCast] at e
  omega
theorem wipeP_none {s : Dk} {a b : Nat} (h : ∀ i, a ≤ i → i ≤ b → s.now i = zs 256) : wipeP s a b = [] := by
  unfold wipeP
  rw [List.filter_eq_nil_iff.2, List.map_nil]
  intro i hi
  rw [List.mem_range'_1] at hi
  simp [h i hi.1 (by omega)]
theorem wipeD_len (a b : Nat) (s : Dk) : (wipeD a b s).1.safe.length = s.safe.length := by
  unfold wipeD
  split
  · rfl
  · exact doD_len _ _
theorem wipeD_never (a b : Nat) (s : Dk) (h : s.fuse = -1) : (wipeD a b s).2 = 0 ∧ (wipeD a b s).1.fuse = -1 := by
  unfold wipeD
  rw [if_neg (by rw [h]; decide)]
  exact doD_never _ _ h
theorem wipeD_none {a b : Nat} {s : Dk} (hf : s.fuse ≠ 0) (h : ∀ i, a ≤ i → i ≤ b → s.now i = zs 256) : wipeD a b s = (s, 0) := by
  unfold wipeD
  rw [if_neg hf, wipeP_none h]
  rfl
theorem Allow.wipeD {Al : Nat → List UInt8 → Prop} {a b : Nat} {s : Dk} (h : Allow Al s) (hp : ∀ i, a ≤ i → i ≤ b → Al i (zs 256)) : Allow Al (wipeD a b s).1 := by
  unfold Go.Proofs.YtgoifhpinoodgaaDoor.wipeD
  split
  · exact h
  · refine h.doD fun p hp' _ => ?_
    obtain ⟨i, h1, h2, rfl⟩ := wipeP_mem hp'
    exact hp i h1 h2
theorem wipeD_ok {a b : Nat} {s : Dk} (hc : s.calm) (h : (wipeD a b s).2 = 0) : (wipeD a b s).1.calm ∧ ∀ i, i < s.safe.length → (wipeD a b s).1.now i = if a ≤ i ∧ i ≤ b then zs 256 else s.now i := by
  unfold wipeD at h ⊢
  split at h
  · cases h
  · rename_i hf
    rw [if_neg hf]
    obtain ⟨h1, h2⟩ := doD_ok hc h
    refine ⟨h1, fun i hi => ?_⟩
    rw [h2 i hi]
    split
    · rename_i hab
      exact wipe_last hab.1 hab.2
    · exact wipe_far (by omega) _
end Go.Proofs.YtgoifhpinoodgaaDoor
end
