/-
  A disk in memory: what its blocks hold; New, and the functions that only ask. No condition but what each theorem names.
-/
import Derived.Test.YtmknemaocbbpeaaDkR
import Derived.WalkKit
import Derived.OwnWalk
namespace Go.Proofs.Ytmknemaocbbpeaa
open Go.RowKit
set_option maxRecDepth 100000
set_option linter.unusedVariables false

/-- What a disk is, plainly. -/
structure Dk where
  safe : List (List UInt8)
  pend : Nat → Option (List UInt8)
  fuse : Int
  acts : Int
/-- Where it lies: its struct, its sectors, its map. -/
structure DA where
  d : Nat
  b : Nat
  m : Nat
def DA.has (p : DA) (x : Nat) : Prop := x = p.d ∨ x = p.b ∨ x = p.m
structure Dk.ok (s : Dk) : Prop where
  some_ : 1 ≤ s.safe.length
  few : s.safe.length ≤ 1024
  len : ∀ l ∈ s.safe, l.length = 256
  pend : ∀ i l, s.pend i = some l → i < s.safe.length ∧ l.length = 256
  fuse : I64 s.fuse
  acts : I64 s.acts

def dkRow (p : DA) (s : Dk) : Array Value := #[.slice (some ⟨p.b, 0, none⟩) s.safe.length s.safe.length, .map (some p.m), .int .i64 s.fuse, .int .i64 s.acts]
/-- The disk s lies at p. -/
structure DS (w : World) (p : DA) (s : Dk) : Prop where
  kb : KB w p.d 55 (dkRow p s)
  sf : KB w p.b 68 (secs s.safe).toArray
  pm : PM w p.m s.pend s.safe.length
  db : p.d ≠ p.b
  dm : p.d ≠ p.m
  bm : p.b ≠ p.m
  ok : s.ok

section
variable {w w' : World} {p : DA} {s : Dk}
theorem DS.lt (h : DS w p s) : ∀ x, p.has x → x < w.heap.size := by
  rintro x (rfl | rfl | rfl)
  · exact h.kb.lt
  · exact h.sf.lt
  · exact h.pm.lt
theorem DS.keep (h : DS w p s) (hk : ∀ x, p.has x → w'.heap[x]? = w.heap[x]?) : DS w' p s :=
  { h with kb := h.kb.keep (hk _ (.inl rfl)), sf := h.sf.keep (hk _ (.inr (.inl rfl))), pm := h.pm.keep (hk _ (.inr (.inr rfl))) }
theorem DS.below (h : DS w p s) (hb : Below w.heap.size w w') : DS w' p s := h.keep fun x hx => hb.block x (h.lt x hx)
theorem DS.keepP {P : Nat → Prop} (h : DS w p s) (k : KeepP P w w') (hp : ∀ x, p.has x → P x) : DS w' p s := h.keep fun x hx => k.block x (hp x hx)
theorem DS.drewN (h : DS w p s) (n : Nat) : DS (w.drewN n) p s := h.keep fun _ _ => rfl
theorem DS.c0 (h : DS w p s) : w.cell? ⟨p.d, 0, none⟩ = some (.slice (some ⟨p.b, 0, none⟩) s.safe.length s.safe.length) := h.kb.cell 0
theorem DS.c1 (h : DS w p s) : w.cell? ⟨p.d, 1, none⟩ = some (.map (some p.m)) := h.kb.cell 1
theorem DS.c2 (h : DS w p s) : w.cell? ⟨p.d, 2, none⟩ = some (.int .i64 s.fuse) := h.kb.cell 2
theorem DS.c3 (h : DS w p s) : w.cell? ⟨p.d, 3, none⟩ = some (.int .i64 s.acts) := h.kb.cell 3
end

/-- What may turn while the disk at p is asked. -/
def Off (p : DA) (w : World) (x : Nat) : Prop := x < w.heap.size ∧ ¬ p.has x

def blank (n : Nat) : Dk := ⟨List.replicate n z256, fun _ => none, -1, 0⟩
theorem blank_ok {n : Nat} (h1 : 1 ≤ n) (h2 : n ≤ 1024) : (blank n).ok :=
  ⟨by simp [blank]; exact h1, by simp [blank]; exact h2, fun l hl => by rw [List.eq_of_mem_replicate hl]; exact z256_len, fun i l h => by (cases h), ⟨by show (-9223372036854775808 : Int) ≤ -1; omega, by show (-1 : Int) ≤ _; omega⟩, ⟨by show (-9223372036854775808 : Int) ≤ 0; omega, by show (0 : Int) ≤ _; omega⟩⟩

def newDA (n : Nat) : DA := ⟨n + 2, n, n + 1⟩
/-- What New hands back: a disk in new memory. -/
def Made (w : World) (n : Nat) (e : Ending) (w' : World) : Prop :=
  e = .returned (.tuple #[.pointer (some ⟨w.heap.size + 2, 0, none⟩), .int .i64 0]) ∧ DS w' (newDA w.heap.size) (blank n) ∧ Below w.heap.size w w'

set_option maxHeartbeats 400000 in
/-- New, of a number that is one. -/
theorem new_yes (n : Nat) (w : World) (h1 : 1 ≤ n) (h2 : n ≤ 1024) : Calls Try.prog 7 #[.int .i64 n] w (Made w n) := by
  obtain ⟨i0, hi, hz0, hz1, hz2⟩ := info_parts info_sec
  have hmk := fun w : World => run_make (P := Try.prog) w 52 68 i0 _ Try.underlying52 hi hz0 .i64 .i64 n n (by omega) (by omega) (by rw [hz2]; omega) (by omega)
  simp only [hz1, Int.toNat_natCast, madeCells_sec] at hmk
  have hmm := @run_makeMap Try.prog
  have c1 : decide ((n : Int) < 1) = false := by simp; omega
  have c2 : decide (1024 < (n : Int)) = false := by simp; omega
  have hds : DS (((w.alloc (.cells (secs (List.replicate n z256)).toArray 68)).alloc (.map #[] 0)).alloc (.cells #[.slice (some ⟨w.heap.size, 0, none⟩) n n, .map (some (w.heap.size + 1)), .int .i64 (-1), .int .i64 0] 55)) (newDA w.heap.size) (blank n) := by
    have k := KB.new ((w.alloc (.cells (secs (List.replicate n z256)).toArray 68)).alloc (.map #[] 0)) 55 #[.slice (some ⟨w.heap.size, 0, none⟩) n n, .map (some (w.heap.size + 1)), .int .i64 (-1), .int .i64 0]
    rw [World.size_alloc, World.size_alloc] at k
    have kb := ((KB.new w 68 (secs (List.replicate n z256)).toArray).alloc (.map #[] 0)).alloc (.cells #[.slice (some ⟨w.heap.size, 0, none⟩) n n, .map (some (w.heap.size + 1)), .int .i64 (-1), .int .i64 0] 55)
    have pm := PM.made (w.alloc (.cells (secs (List.replicate n z256)).toArray 68)) n
    rw [World.size_alloc] at pm
    have pm2 := pm.keep (Below.heap_alloc _ (.cells #[.slice (some ⟨w.heap.size, 0, none⟩) n n, .map (some (w.heap.size + 1)), .int .i64 (-1), .int .i64 0] 55) _ pm.lt)
    have hl : (blank n).safe.length = n := by simp [blank]
    refine ⟨?_, kb, ?_, by simp [newDA], by simp [newDA], by simp [newDA], blank_ok h1 h2⟩
    · unfold dkRow
      rw [hl]
      exact k
    · rw [hl]; exact pm2
  go_enter Try.func7, Try.ntmps7
  go_wp2
  go_ret2
  exact ⟨rfl, hds, (((Below.refl _ _).alloc (Nat.le_refl _) _).alloc (by simp) _).alloc (by simp; omega) _⟩

/-- New, of another number. -/
theorem new_no (n : Int) (w : World) (h : n < 1 ∨ 1024 < n) : Calls Try.prog 7 #[.int .i64 n] w fun e w' => e = .returned (.tuple #[.pointer none, .int .i64 1]) ∧ w = w' := by
  by_cases h1 : n < 1
  · go_enter Try.func7, Try.ntmps7
    go_wp2
    go_ret2
    exact ⟨rfl, rfl⟩
  · have h2 : 1024 < n := by omega
    clear h
    go_enter Try.func7, Try.ntmps7
    go_wp2
    go_ret2
    exact ⟨rfl, rfl⟩

section
variable {w : World} {p : DA} {s : Dk}
/-- Size. -/
theorem size_any (h : DS w p s) : Calls Try.prog 19 #[.pointer (some ⟨p.d, 0, none⟩)] w fun e w' => e = .returned (.int .i64 (s.safe.length : Int)) ∧ w = w' := by
  have c0 := h.c0
  generalize s.safe.length = n at *
  clear h
  go_enter Try.func19, Try.ntmps19
  go_wp2
  go_ret
  exact ⟨rfl, rfl⟩
theorem size_nil (w : World) : Calls Try.prog 19 #[.pointer none] w fun e w' => e = .returned (.int .i64 0) ∧ w = w' := by
  go_enter Try.func19, Try.ntmps19
  go_wp2
  go_ret
  exact ⟨rfl, rfl⟩
/-- made. -/
theorem made_any (h : DS w p s) : Calls Try.prog 23 #[.pointer (some ⟨p.d, 0, none⟩)] w fun e w' => e = .returned (.bool true) ∧ w = w' := by
  have hs := size_any h
  have h1 := h.ok.some_
  generalize s.safe.length = n at *
  have h2 : decide (0 < n) = true := by simp; omega
  go_enter Try.func23, Try.ntmps23
  go_wp2_with (go_at_call 19; refine hs.mono ?_; rintro e w' ⟨rfl, rfl⟩)
  go_ret
  exact ⟨rfl, rfl⟩
theorem made_nil (w : World) : Calls Try.prog 23 #[.pointer none] w fun e w' => e = .returned (.bool false) ∧ w = w' := by
  go_enter Try.func23, Try.ntmps23
  go_wp2_with (go_at_call 19; refine (size_nil _).mono ?_; rintro e w' ⟨rfl, rfl⟩)
  go_ret
  exact ⟨rfl, rfl⟩
/-- Dead. -/
theorem dead_any (h : DS w p s) : Calls Try.prog 47 #[.pointer (some ⟨p.d, 0, none⟩)] w fun e w' => e = .returned (.bool (decide (s.fuse = 0))) ∧ w = w' := by
  have hs := made_any h
  have c2 := h.c2
  generalize s.fuse = n at *
  go_enter Try.func47, Try.ntmps47
  go_wp2_with (go_at_call 23; refine hs.mono ?_; rintro e w' ⟨rfl, rfl⟩)
  go_ret
  exact ⟨rfl, rfl⟩
theorem dead_nil (w : World) : Calls Try.prog 47 #[.pointer none] w fun e w' => e = .returned (.bool false) ∧ w = w' := by
  go_enter Try.func47, Try.ntmps47
  go_wp2_with (go_at_call 23; refine (made_nil _).mono ?_; rintro e w' ⟨rfl, rfl⟩)
  go_ret
  exact ⟨rfl, rfl⟩
/-- power. -/
theorem power_ok (h : DS w p s) (hf : s.fuse ≠ 0) : Calls Try.prog 40 #[.pointer (some ⟨p.d, 0, none⟩)] w fun e w' => e = .returned (.int .i64 0) ∧ w = w' := by
  have hs := made_any h
  have hd := dead_any h
  rw [decide_eq_false hf] at hd
  clear hf
  go_enter Try.func40, Try.ntmps40
  go_wp2_with (first | (go_at_call 23; refine hs.mono ?_; rintro e w' ⟨rfl, rfl⟩) | (go_at_call 47; refine hd.mono ?_; rintro e w' ⟨rfl, rfl⟩))
  go_ret
  exact ⟨rfl, rfl⟩
theorem power_dead (h : DS w p s) (hf : s.fuse = 0) : Calls Try.prog 40 #[.pointer (some ⟨p.d, 0, none⟩)] w fun e w' => e = .returned (.int .i64 8) ∧ w = w' := by
  have hs := made_any h
  have hd := dead_any h
  rw [decide_eq_true hf] at hd
  clear hf
  go_enter Try.func40, Try.ntmps40
  go_wp2_with (first | (go_at_call 23; refine hs.mono ?_; rintro e w' ⟨rfl, rfl⟩) | (go_at_call 47; refine hd.mono ?_; rintro e w' ⟨rfl, rfl⟩))
  go_ret
  exact ⟨rfl, rfl⟩
theorem power_nil (w : World) : Calls Try.prog 40 #[.pointer none] w fun e w' => e = .returned (.int .i64 9) ∧ w = w' := by
  go_enter Try.func40, Try.ntmps40
  go_wp2_with (go_at_call 23; refine (made_nil _).mono ?_; rintro e w' ⟨rfl, rfl⟩)
  go_ret
  exact ⟨rfl, rfl⟩

/-- The error of a sector that is not there, or of a dead disk. -/
def chk (s : Dk) (i : Int) : Int := if s.fuse = 0 then 8 else if i < 0 ∨ (s.safe.length : Int) ≤ i then 5 else 0
/-- check. -/
theorem check_any (h : DS w p s) (i : Int) : Calls Try.prog 32 #[.pointer (some ⟨p.d, 0, none⟩), .int .i64 i] w fun e w' => e = .returned (.int .i64 (chk s i)) ∧ w = w' := by
  by_cases hf : s.fuse = 0
  · rw [show chk s i = 8 from by simp [chk, hf]]
    have hp := power_dead h hf
    clear hf
    go_enter Try.func32, Try.ntmps32
    go_wp2_with (go_at_call 40; refine hp.mono ?_; rintro e w' ⟨rfl, rfl⟩)
    go_ret
    exact ⟨rfl, rfl⟩
  · have hp := power_ok h hf
    have c0 := h.c0
    have hc : chk s i = if i < 0 ∨ (s.safe.length : Int) ≤ i then 5 else 0 := by simp [chk, hf]
    have few := h.ok.few
    rw [hc]
    clear hf hc h
    generalize s.safe.length = n at *
    by_cases h1 : i < 0
    · rw [if_pos (.inl h1)]
      go_enter Try.func32, Try.ntmps32
      go_wp2_with (go_at_call 40; refine hp.mono ?_; rintro e w' ⟨rfl, rfl⟩)
      go_ret
      exact ⟨rfl, rfl⟩
    · by_cases h2 : (n : Int) ≤ i
      · rw [if_pos (.inr h2)]
        go_enter Try.func32, Try.ntmps32
        go_wp2_with (go_at_call 40; refine hp.mono ?_; rintro e w' ⟨rfl, rfl⟩)
        go_ret
        exact ⟨rfl, rfl⟩
      · rw [if_neg (by omega)]
        go_enter Try.func32, Try.ntmps32
        go_wp2_with (go_at_call 40; refine hp.mono ?_; rintro e w' ⟨rfl, rfl⟩)
        go_ret
        exact ⟨rfl, rfl⟩
theorem check_nil (i : Int) (w : World) : Calls Try.prog 32 #[.pointer none, .int .i64 i] w fun e w' => e = .returned (.int .i64 9) ∧ w = w' := by
  go_enter Try.func32, Try.ntmps32
  go_wp2_with (go_at_call 40; refine (power_nil _).mono ?_; rintro e w' ⟨rfl, rfl⟩)
  go_ret
  exact ⟨rfl, rfl⟩
end
end Go.Proofs.Ytmknemaocbbpeaa
