/-
  DkR: A map of sectors gone through, and its keys in order; over the loaded program. No condition but what each theorem names.
  DkA: A disk in memory: what its blocks hold; New, and the functions that only ask. No condition but what each theorem names.
-/
import Derived.Test.YtgoifhpinoodgaaDoorWo05
import Derived.WalkKit
import Derived.OwnWalk

section
namespace Go.Proofs.YtgoifhpinoodgaaDoor
open Go.RowKit Go.Maps
set_option maxRecDepth 100000
set_option linter.unusedVariables false

/-- Block m, a map that holds f, is being gone through by r; what is left is to come. -/
def PR (w : World) (m r : Nat) (f : Nat → Option (List UInt8)) (N : Nat) (left : Nat → Bool) (cnt : Nat) : Prop :=
  ∃ (D : DataW Value) (lf : Lit → Bool), w.ranges Tryd.prog 3 secE m r N D lf cnt ∧ Told f N D ∧ ∀ i : Nat, left i = lf (.int .i64 i)

section
variable {w w' : World} {m r N cnt : Nat} {f : Nat → Option (List UInt8)} {left : Nat → Bool}
theorem PR.pm (h : PR w m r f N left cnt) : PM w m f N := by
  obtain ⟨D, lf, h1, h2, _⟩ := h
  exact ⟨D, h1.owns, h2⟩
theorem PR.left_eq (h : PR w m r f N left cnt) : w.rangeLeft m r = cnt := by
  obtain ⟨D, lf, h1, _, _⟩ := h
  exact h1.left_eq
theorem PR.ne (h : PR w m r f N left cnt) : r ≠ m := by
  obtain ⟨D, lf, h1, _, _⟩ := h
  exact h1.ne
theorem PR.lt (h : PR w m r f N left cnt) : r < w.heap.size := by
  obtain ⟨D, lf, h1, _, _⟩ := h
  exact h1.lt
theorem PR.kept (h : PR w m r f N left cnt) {row : Option Nat} (hg : w.grownBy w' row) (hm : some m ≠ row) (hr : some r ≠ row) : PR w' m r f N left cnt := by
  obtain ⟨D, lf, h1, h2, h3⟩ := h
  exact ⟨D, lf, h1.kept hg hm hr, h2, h3⟩
end

section
variable {ops : Array Oper} {rest : List Oper} {o : Oper} {a : Act} {w : World} {Q : Exit → Act → World → Prop}
/-- 'range m'. -/
theorem wpList_range_pm (hg : o.guard = none) (x : Operand) (hop : o.op = Op.range 63 x) (m N : Nat) (f : Nat → Option (List UInt8)) (hx : a.eval x = .map (some m)) (h : PM w m f N)
    (hK : ∀ w' cnt, PR w' m w.heap.size f N (fun i => (f i).isSome) cnt → w.grownBy w' none → wpList Tryd.prog ops Q rest (a.put o.dst (.pointer (some ⟨w.heap.size, 0, none⟩))) w') :
    wpList Tryd.prog ops Q (o :: rest) a w := by
  obtain ⟨D, h1, h2⟩ := h
  refine wpList_range_own w hg x 63 hop 3 75 law_int Tryd.underlying63 secE m N D hx h1 ?_
  intro w' r1 r2 _
  exact hK w' _ ⟨D, _, r1, h2, fun i => (h2.has i).symm⟩ r2
/-- The step. -/
theorem wpList_next_pm (hg : o.guard = none) (it : Operand) (hop : o.op = Op.next it false) (m r N cnt : Nat) (f : Nat → Option (List UInt8)) (left : Nat → Bool) (hit : a.eval it = .pointer (some ⟨r, 0, none⟩)) (h : PR w m r f N left cnt)
    (hDone : (∀ i, left i = false) → wpList Tryd.prog ops Q rest (a.put o.dst (.tuple #[.bool false])) w)
    (hMore : ∀ (i : Nat) (l : List UInt8) (w' : World) (cnt' : Nat), i < N → f i = some l → left i = true → PR w' m r f N (fun j => left j && !decide (j = i)) cnt' → cnt' < cnt → w.grownBy w' (some r) → w'.heap.size = w.heap.size →
      (Instr.entry (.pointer (some ⟨r, 0, none⟩))).run Tryd.prog w' = .ok (.tuple #[.int .i64 (i : Int), secV l]) w' → wpList Tryd.prog ops Q rest (a.put o.dst (.tuple #[.bool true, .int .i64 (i : Int), secV l])) w') :
    wpList Tryd.prog ops Q (o :: rest) a w := by
  obtain ⟨D, lf, h1, h2, h3⟩ := h
  refine wpList_next_ranges w hg it hop 3 law_int secE encZ id (fun key kl hk => by obtain ⟨x, hx, _⟩ := Maps.keyOf_i64 Tryd.underlying3 hk; exact ⟨x, hx⟩) (fun v _ _ => ⟨v, rfl⟩) m r N D lf cnt hit h1 ?_ ?_
  · intro _ hl
    exact hDone fun i => (h3 i).trans (hl _)
  · intro x c kl y w' cnt' hkey hlk hv hat hrg hlt hgr hsz hen
    obtain ⟨x', ex, rfl, _⟩ := Maps.keyOf_i64 Tryd.underlying3 hkey
    obtain rfl := encZ_inj ex
    obtain ⟨i, hi, rfl⟩ := h2.num x (has_true_of_atKey hat)
    have hs := h2.has i
    rw [has_true_of_atKey hat] at hs
    cases hf : f i with
    | none => rw [hf] at hs; cases hs
    | some l =>
      have hc : c = secV l := by
        have e1 := h2.at_ i l hf (.held (secV z256))
        rw [hat] at e1
        simp only [secE, id_eq, Option.some.injEq] at hv
        rw [← hv] at e1
        simpa using e1
      subst hc
      refine hMore i l w' cnt' hi hf ((h3 i).trans hlk) ⟨D, _, hrg, h2, fun j => ?_⟩ hlt hgr hsz hen
      show (left j && !decide (j = i)) = _
      rw [h3 j]
      congr 1
      by_cases hj : j = i
      · subst hj; simp [Lit.sameKey]
      · simp [Lit.sameKey, hj]; omega
end

section
variable {ops : Array Oper} {rest : List Oper} {o : Oper} {a : Act} {w : World} {Q : Exit → Act → World → Prop}
/-- 'm[i] = v'. -/
theorem wpList_put_pm (hg : o.guard = none) (x y v : Operand) (hop : o.op = Op.mapUpdate 63 x y v) (m N : Nat) (f : Nat → Option (List UInt8)) (hx : a.eval x = .map (some m)) (h : PM w m f N) (hN : N < 1000000) (i : Nat) (hi : i < N) (l : List UInt8)
    (hy : a.eval y = .int .i64 (i : Int)) (hv : a.eval v = secV l) (hK : ∀ w', PM w' m (upd f i l) N → w.grownBy w' (some m) → wpList Tryd.prog ops Q rest (a.put o.dst undef) w') : wpList Tryd.prog ops Q (o :: rest) a w := by
  refine wpList_plain hg fun K' hK' => ?_
  obtain ⟨w', hrun, r1, r2⟩ := h.put hN i hi l
  unfold Oper.wp
  simp [execOp, hop, hx, hy, hv, hrun, Result.andThen]
  exact hK' _ _ (hK w' r1 r2)
/-- 'v, there := m[i]'. -/
theorem wpList_look_pm (hg : o.guard = none) (x y : Operand) (hop : o.op = Op.lookup 63 x y true) (m N : Nat) (f : Nat → Option (List UInt8)) (hx : a.eval x = .map (some m)) (h : PM w m f N) (i : Nat) (hi : i < 1000000) (hy : a.eval y = .int .i64 (i : Int))
    (v : Value) (hv : .tuple #[secV ((f i).getD z256), .bool (f i).isSome] = v) (hK : wpList Tryd.prog ops Q rest (a.put o.dst v) w) : wpList Tryd.prog ops Q (o :: rest) a w := by
  refine wpList_plain hg fun K' hK' => ?_
  have hrun := h.look_ok i hi
  rw [hv] at hrun
  unfold Oper.wp
  simp [execOp, hop, hx, hy, hrun, Result.andThen]
  exact hK' _ _ hK
/-- 'clear(m)'. -/
theorem wpList_clear_pm (hg : o.guard = none) (x : Operand) (hop : o.op = Op.call { callee := Callee.builtin Builtin.clear, args := #[x], argTypes := #[63] }) (m N : Nat) (f : Nat → Option (List UInt8)) (hx : a.eval x = .map (some m)) (h : PM w m f N)
    (hK : ∀ w', PM w' m (fun _ => none) N → w.grownBy w' (some m) → wpList Tryd.prog ops Q rest (a.put o.dst (.tuple #[])) w') : wpList Tryd.prog ops Q (o :: rest) a w := by
  refine wpList_plain hg fun K' hK' => ?_
  obtain ⟨w', hrun, r1, r2⟩ := h.clear o.type
  unfold Oper.wp execOp
  simp only [hop, resolve, invoke, builtin, Sem.run_bind, Sem.run_pure, Result.andThen_ok, List.map_toArray, List.map_cons, List.map_nil, hx, hrun]
  exact hK' _ _ (hK w' r1 r2)
end

/-- The numbers below N at which f holds something, rising. -/
def held (f : Nat → Option (List UInt8)) (N : Nat) : List Nat := (List.range N).filter fun i => (f i).isSome
theorem mem_held {f : Nat → Option (List UInt8)} {N i : Nat} : i ∈ held f N ↔ i < N ∧ (f i).isSome = true := by simp [held]
theorem held_rising (f : Nat → Option (List UInt8)) (N : Nat) : (held f N).Pairwise (· < ·) := List.Pairwise.filter _ List.pairwise_lt_range

theorem sorted_keys {w : World} {m n N : Nat} {f : Nat → Option (List UInt8)} {D : DataW Value} (h : w.ownsMap Tryd.prog 3 secE m n D) (ht : Told f N D) (hf : ∀ i l, f i = some l → i < N) {ss : List Int} (hp : ss.Perm (intKeys D)) :
    ss.mergeSort (fun x y => decide (x ≤ y)) = (held f N).map fun i : Nat => (i : Int) := by
  obtain ⟨k1, k2⟩ := nodup_keys h
  have tr : ∀ a b c : Int, leI a b = true → leI b c = true → leI a c = true := fun a b c h1 h2 => by simp only [leI, decide_eq_true_eq] at *; exact Int.le_trans h1 h2
  have to : ∀ a b : Int, (leI a b || leI b a) = true := fun a b => by simp only [leI, Bool.or_eq_true, decide_eq_true_eq]; exact Int.le_total a b
  have hn : ((held f N).map fun i : Nat => (i : Int)).Nodup := by
    refine List.pairwise_map.2 (List.Pairwise.imp (fun {a b} hab e => ?_) (held_rising f N))
    omega
  have hperm : ss.Perm ((held f N).map fun i : Nat => (i : Int)) := hp.trans ((List.perm_ext_iff_of_nodup k1 hn).2 fun x => by
    rw [k2 x, List.mem_map]
    constructor
    · intro hx
      obtain ⟨i, hi, rfl⟩ := ht.num x hx
      exact ⟨i, mem_held.2 ⟨hi, (ht.has i).symm.trans hx⟩, rfl⟩
    · rintro ⟨i, hi, rfl⟩
      exact (ht.has i).trans (mem_held.1 hi).2)
  refine List.Perm.eq_of_pairwise (le := fun a b => leI a b = true) (fun a b _ _ h1 h2 => ?_) (List.pairwise_mergeSort tr to ss) ?_ ((List.mergeSort_perm ss leI).trans hperm)
  · simp only [leI, decide_eq_true_eq] at h1 h2
    exact Int.le_antisymm h1 h2
  · refine List.pairwise_map.2 (List.Pairwise.imp (fun {a b} hab => ?_) (held_rising f N))
    simp only [leI, decide_eq_true_eq]
    omega
end Go.Proofs.YtgoifhpinoodgaaDoor
end

section
namespace Go.Proofs.YtgoifhpinoodgaaDoor
open Go.RowKit
set_option linter.unusedVariables false

/-- What a disk is, plainly. -/
structure Dk where
  safe : List (List UInt8)
  pend : Nat → Option (List UInt8)
  fuse : Int
  acts : Int
/-- Where it lies: its struct, its sectors, its map. -/
structure DA where
  d : Nat
  b : Nat
  m : Nat
def DA.has (p : DA) (x : Nat) : Prop := x = p.d ∨ x = p.b ∨ x = p.m
structure Dk.ok (s : Dk) : Prop where
  some_ : 1 ≤ s.safe.length
  few : s.safe.length ≤ 1024
  len : ∀ l ∈ s.safe, l.length = 256
  pend : ∀ i l, s.pend i = some l → i < s.safe.length ∧ l.length = 256
  fuse : I64 s.fuse
  acts : I64 s.acts

def dkRow (p : DA) (s : Dk) : Array Value := #[.slice (some ⟨p.b, 0, none⟩) s.safe.length s.safe.length, .map (some p.m), .int .i64 s.fuse, .int .i64 s.acts]
/-- The disk s lies at p. -/
structure DS (w : World) (p : DA) (s : Dk) : Prop where
  kb : KB w p.d 65 (dkRow p s)
  sf : KB w p.b 75 (secs s.safe).toArray
  pm : PM w p.m s.pend s.safe.length
  db : p.d ≠ p.b
  dm : p.d ≠ p.m
  bm : p.b ≠ p.m
  ok : s.ok

section
variable {w w' : World} {p : DA} {s : Dk}
theorem DS.lt (h : DS w p s) : ∀ x, p.has x → x < w.heap.size := by
  rintro x (rfl | rfl | rfl)
  · exact h.kb.lt
  · exact h.sf.lt
  · exact h.pm.lt
theorem DS.keep (h : DS w p s) (hk : ∀ x, p.has x → w'.heap[x]? = w.heap[x]?) : DS w' p s :=
  { h with kb := h.kb.keep (hk _ (.inl rfl)), sf := h.sf.keep (hk _ (.inr (.inl rfl))), pm := h.pm.keep (hk _ (.inr (.inr rfl))) }
theorem DS.below (h : DS w p s) (hb : Below w.heap.size w w') : DS w' p s := h.keep fun x hx => hb.block x (h.lt x hx)
theorem DS.keepP {P : Nat → Prop} (h : DS w p s) (k : KeepP P w w') (hp : ∀ x, p.has x → P x) : DS w' p s := h.keep fun x hx => k.block x (hp x hx)
theorem DS.drewN (h : DS w p s) (n : Nat) : DS (w.drewN n) p s := h.keep fun _ _ => rfl
theorem DS.c0 (h : DS w p s) : w.cell? ⟨p.d, 0, none⟩ = some (.slice (some ⟨p.b, 0, none⟩) s.safe.length s.safe.length) := h.kb.cell 0
theorem DS.c1 (h : DS w p s) : w.cell? ⟨p.d, 1, none⟩ = some (.map (some p.m)) := h.kb.cell 1
theorem DS.c2 (h : DS w p s) : w.cell? ⟨p.d, 2, none⟩ = some (.int .i64 s.fuse) := h.kb.cell 2
theorem DS.c3 (h : DS w p s) : w.cell? ⟨p.d, 3, none⟩ = some (.int .i64 s.acts) := h.kb.cell 3
end

/-- What may turn while the disk at p is asked. -/
def Off (p : DA) (w : World) (x : Nat) : Prop := x < w.heap.size ∧ ¬ p.has x

def blank (n : Nat) : Dk := ⟨List.replicate n z256, fun _ => none, -1, 0⟩
theorem blank_ok {n : Nat} (h1 : 1 ≤ n) (h2 : n ≤ 1024) : (blank n).ok :=
  ⟨by simp [blank]; exact h1, by simp [blank]; exact h2, fun l hl => by rw [List.eq_of_mem_replicate hl]; exact z256_len, fun i l h => by (cases h), ⟨by show (-9223372036854775808 : Int) ≤ -1; omega, by show (-1 : Int) ≤ _; omega⟩, ⟨by show (-9223372036854775808 : Int) ≤ 0; omega, by show (0 : Int) ≤ _; omega⟩⟩

def newDA (n : Nat) : DA := ⟨n + 2, n, n + 1⟩
/-- What New hands back: a disk in new memory. -/
def Made (w : World) (n : Nat) (e : Ending) (w' : World) : Prop :=
  e = .returned (.tuple #[.pointer (some ⟨w.heap.size + 2, 0, none⟩), .int .i64 0]) ∧ DS w' (newDA w.heap.size) (blank n) ∧ Below w.heap.size w w'

set_option maxHeartbeats 400000 in
/-- New, of a number that is one. -/
theorem new_yes (n : Nat) (w : World) (h1 : 1 ≤ n) (h2 : n ≤ 1024) : Calls Tryd.prog 7 #[.int .i64 n] w (Made w n) := by
  obtain ⟨i0, hi, hz0, hz1, hz2⟩ := info_parts info_sec
  have hmk := fun w : World => run_make (P := Tryd.prog) w 62 75 i0 _ Tryd.underlying62 hi hz0 .i64 .i64 n n (by omega) (by omega) (by rw [hz2]; omega) (by omega)
  simp only [hz1, Int.toNat_natCast, madeCells_sec] at hmk
  have hmm := @run_makeMap Tryd.prog
  have c1 : decide ((n : Int) < 1) = false := by simp; omega
  have c2 : decide (1024 < (n : Int)) = false := by simp; omega
  have hds : DS (((w.alloc (.cells (secs (List.replicate n z256)).toArray 75)).alloc (.map #[] 0)).alloc (.cells #[.slice (some ⟨w.heap.size, 0, none⟩) n n, .map (some (w.heap.size + 1)), .int .i64 (-1), .int .i64 0] 65)) (newDA w.heap.size) (blank n) := by
    have k := KB.new ((w.alloc (.cells (secs (List.replicate n z256)).toArray 75)).alloc (.map #[] 0)) 65 #[.slice (some ⟨w.heap.size, 0, none⟩) n n, .map (some (w.heap.size + 1)), .int .i64 (-1), .int .i64 0]
    rw [World.size_alloc, World.size_alloc] at k
    have kb := ((KB.new w 75 (secs (List.replicate n z256)).toArray).alloc (.map #[] 0)).alloc (.cells #[.slice (some ⟨w.heap.size, 0, none⟩) n n, .map (some (w.heap.size + 1)), .int .i64 (-1), .int .i64 0] 65)
    have pm := PM.made (w.alloc (.cells (secs (List.replicate n z256)).toArray 75)) n
    rw [World.size_alloc] at pm
    have pm2 := pm.keep (Below.heap_alloc _ (.cells #[.slice (some ⟨w.heap.size, 0, none⟩) n n, .map (some (w.heap.size + 1)), .int .i64 (-1), .int .i64 0] 65) _ pm.lt)
    have hl : (blank n).safe.length = n := by simp [blank]
    refine ⟨?_, kb, ?_, by simp [newDA], by simp [newDA], by simp [newDA], blank_ok h1 h2⟩
    · unfold dkRow
      rw [hl]
      exact k
    · rw [hl]; exact pm2
  go_enter Tryd.func7, Tryd.ntmps7
  go_wp2
  go_ret2
  exact ⟨rfl, hds, (((Below.refl _ _).alloc (Nat.le_refl _) _).alloc (by simp) _).alloc (by simp; omega) _⟩

/-- New, of another number. -/
theorem new_no (n : Int) (w : World) (h : n < 1 ∨ 1024 < n) : Calls Tryd.prog 7 #[.int .i64 n] w fun e w' => e = .returned (.tuple #[.pointer none, .int .i64 1]) ∧ w = w' := by
  by_cases h1 : n < 1
  · go_enter Tryd.func7, Tryd.ntmps7
    go_wp2
    go_ret2
    exact ⟨rfl, rfl⟩
  · have h2 : 1024 < n := by omega
    clear h
    go_enter Tryd.func7, Tryd.ntmps7
    go_wp2
    go_ret2
    exact ⟨rfl, rfl⟩

section
variable {w : World} {p : DA} {s : Dk}
/-- Size. -/
theorem size_any (h : DS w p s) : Calls Tryd.prog 38 #[.pointer (some ⟨p.d, 0, none⟩)] w fun e w' => e = .returned (.int .i64 (s.safe.length : Int)) ∧ w = w' := by
  have c0 := h.c0
  generalize s.safe.length = n at *
  clear h
  go_enter Tryd.func38, Tryd.ntmps38
  go_wp2
  go_ret
  exact ⟨rfl, rfl⟩
theorem size_nil (w : World) : Calls Tryd.prog 38 #[.pointer none] w fun e w' => e = .returned (.int .i64 0) ∧ w = w' := by
  go_enter Tryd.func38, Tryd.ntmps38
  go_wp2
  go_ret
  exact ⟨rfl, rfl⟩
/-- made. -/
theorem made_any (h : DS w p s) : Calls Tryd.prog 34 #[.pointer (some ⟨p.d, 0, none⟩)] w fun e w' => e = .returned (.bool true) ∧ w = w' := by
  have hs := size_any h
  have h1 := h.ok.some_
  generalize s.safe.length = n at *
  have h2 : decide (0 < n) = true := by simp; omega
  go_enter Tryd.func34, Tryd.ntmps34
  go_wp2_with (go_at_call 38; refine hs.mono ?_; rintro e w' ⟨rfl, rfl⟩)
  go_ret
  exact ⟨rfl, rfl⟩
theorem made_nil (w : World) : Calls Tryd.prog 34 #[.pointer none] w fun e w' => e = .returned (.bool false) ∧ w = w' := by
  go_enter Tryd.func34, Tryd.ntmps34
  go_wp2_with (go_at_call 38; refine (size_nil _).mono ?_; rintro e w' ⟨rfl, rfl⟩)
  go_ret
  exact ⟨rfl, rfl⟩
/-- Dead. -/
theorem dead_any (h : DS w p s) : Calls Tryd.prog 62 #[.pointer (some ⟨p.d, 0, none⟩)] w fun e w' => e = .returned (.bool (decide (s.fuse = 0))) ∧ w = w' := by
  have hs := made_any h
  have c2 := h.c2
  generalize s.fuse = n at *
  go_enter Tryd.func62, Tryd.ntmps62
  go_wp2_with (go_at_call 34; refine hs.mono ?_; rintro e w' ⟨rfl, rfl⟩)
  go_ret
  exact ⟨rfl, rfl⟩
theorem dead_nil (w : World) : Calls Tryd.prog 62 #[.pointer none] w fun e w' => e = .returned (.bool false) ∧ w = w' := by
  go_enter Tryd.func62, Tryd.ntmps62
  go_wp2_with (go_at_call 34; refine (made_nil _).mono ?_; rintro e w' ⟨rfl, rfl⟩)
  go_ret
  exact ⟨rfl, rfl⟩
/-- power. -/
theorem power_ok (h : DS w p s) (hf : s.fuse ≠ 0) : Calls Tryd.prog 33 #[.pointer (some ⟨p.d, 0, none⟩)] w fun e w' => e = .returned (.int .i64 0) ∧ w = w' := by
  have hs := made_any h
  have hd := dead_any h
  rw [decide_eq_false hf] at hd
  clear hf
  go_enter Tryd.func33, Tryd.ntmps33
  go_wp2_with (first | (go_at_call 34; refine hs.mono ?_; rintro e w' ⟨rfl, rfl⟩) | (go_at_call 62; refine hd.mono ?_; rintro e w' ⟨rfl, rfl⟩))
  go_ret
  exact ⟨rfl, rfl⟩
theorem power_dead (h : DS w p s) (hf : s.fuse = 0) : Calls Tryd.prog 33 #[.pointer (some ⟨p.d, 0, none⟩)] w fun e w' => e = .returned (.int .i64 8) ∧ w = w' := by
  have hs := made_any h
  have hd := dead_any h
  rw [decide_eq_true hf] at hd
  clear hf
  go_enter Tryd.func33, Tryd.ntmps33
  go_wp2_with (first | (go_at_call 34; refine hs.mono ?_; rintro e w' ⟨rfl, rfl⟩) | (go_at_call 62; refine hd.mono ?_; rintro e w' ⟨rfl, rfl⟩))
  go_ret
  exact ⟨rfl, rfl⟩
theorem power_nil (w : World) : Calls Tryd.prog 33 #[.pointer none] w fun e w' => e = .returned (.int .i64 9) ∧ w = w' := by
  go_enter Tryd.func33, Tryd.ntmps33
  go_wp2_with (go_at_call 34; refine (made_nil _).mono ?_; rintro e w' ⟨rfl, rfl⟩)
  go_ret
  exact ⟨rfl, rfl⟩

/-- The error of a sector that is not there, or of a dead disk. -/
def chk (s : Dk) (i : Int) : Int := if s.fuse = 0 then 8 else if i < 0 ∨ (s.safe.length : Int) ≤ i then 5 else 0
/-- check. -/
theorem check_any (h : DS w p s) (i : Int) : Calls Tryd.prog 30 #[.pointer (some ⟨p.d, 0, none⟩), .int .i64 i] w fun e w' => e = .returned (.int .i64 (chk s i)) ∧ w = w' := by
  by_cases hf : s.fuse = 0
  · rw [show chk s i = 8 from by simp [chk, hf]]
    have hp := power_dead h hf
    clear hf
    go_enter Tryd.func30, Tryd.ntmps30
    go_wp2_with (go_at_call 33; refine hp.mono ?_; rintro e w' ⟨rfl, rfl⟩)
    go_ret
    exact ⟨rfl, rfl⟩
  · have hp := power_ok h hf
    have c0 := h.c0
    have hc : chk s i = if i < 0 ∨ (s.safe.length : Int) ≤ i then 5 else 0 := by simp [chk, hf]
    have few := h.ok.few
    rw [hc]
    clear hf hc h
    generalize s.safe.length = n at *
    by_cases h1 : i < 0
    · rw [if_pos (.inl h1)]
      go_enter Tryd.func30, Tryd.ntmps30
      go_wp2_with (go_at_call 33; refine hp.mono ?_; rintro e w' ⟨rfl, rfl⟩)
      go_ret
      exact ⟨rfl, rfl⟩
    · by_cases h2 : (n : Int) ≤ i
      · rw [if_pos (.inr h2)]
        go_enter Tryd.func30, Tryd.ntmps30
        go_wp2_with (go_at_call 33; refine hp.mono ?_; rintro e w' ⟨rfl, rfl⟩)
        go_ret
        exact ⟨rfl, rfl⟩
      · rw [if_neg (by omega)]
        go_enter Tryd.func30, Tryd.ntmps30
        go_wp2_with (go_at_call 33; refine hp.mono ?_; rintro e w' ⟨rfl, rfl⟩)
        go_ret
        exact ⟨rfl, rfl⟩
theorem check_nil (i : Int) (w : World) : Calls Tryd.prog 30 #[.pointer none, .int .i64 i] w fun e w' => e = .returned (.int .i64 9) ∧ w = w' := by
  go_enter Tryd.func30, Tryd.ntmps30
  go_wp2_with (go_at_call 33; refine (power_nil _).mono ?_; rintro e w' ⟨rfl, rfl⟩)
  go_ret
  exact ⟨rfl, rfl⟩
end
end Go.Proofs.YtgoifhpinoodgaaDoor
end
