/-
  WaV: live: a patch that is done, and the page's examples, over the loaded program. No condition but the table roots.
  Copy: The document's Copy (layer 1), over the loaded program: its contract. No condition but the sizes that it names.
-/
import Derived.Test.YtgoifhpinoodgaaGreatDoorWz39
import Derived.Test.YtgoifhpinoodgaaGreatDoorWz00
import Derived.WalkSpells
import Derived.BigQuiet
import Derived.Deep.QuietTactic

section
namespace Go.Proofs.YtgoifhpinoodgaaGreatDoor
open Go.RowKit
set_option maxRecDepth 100000
set_option linter.unusedVariables false

/-- Open of a disk whose log is zero, and whose power does not go. -/
theorem open_zero_any {w : World} {p : DA} {s : Dk} {n : Nat} {W : Nat → List UInt8} (h : DS w p s) (hn : 2 ≤ n) (hN : n + 2 ≤ s.safe.length) (ht : Tab w) (htp : ¬ p.has 0) (hf : s.fuse ≠ 0) (hs : Stands n s.safe.length W s) :
    Calls Tryz.prog 6 #[.pointer (some ⟨p.d, 0, none⟩), .int .i64 n] w fun e w' => ∃ lg, e = .returned (.tuple #[.pointer (some ⟨lg, 0, none⟩), .int .i64 0, .int .i64 0]) ∧ DS w' p s ∧ LG w' lg p n false ∧ w.heap.size ≤ lg ∧ ¬ p.has lg ∧ KeepP (Off p w) w w' := by
  obtain ⟨e1, e2⟩ := open_again (n := n) (N := s.safe.length) (by omega) rfl hf hs
  refine (open_go n h hn hN ht htp).mono ?_
  rintro e w' ⟨d, k, h1, _⟩
  rw [e2] at d h1
  obtain ⟨lg, rfl, hg, hb⟩ := h1 rfl
  rw [e1]
  exact ⟨lg, rfl, d, hg, hb, fun hx => by have := h.lt _ hx; omega, k⟩

set_option maxHeartbeats 2000000 in
theorem live10_any (w : World) (ht : Tab w) : Calls Tryz.prog 4 #[] w (YesW w) := by
  have hr0 := ht.1
  go_enter Tryz.func4, Tryz.ntmps4
  go_wp2_with fail
  refine (new_made 6 w (by omega) (by omega)).mono ?_
  rintro e w1 ⟨p, rfl, d1, fp, B1⟩
  have htp : ¬ p.has 0 := fun h => by have := fp _ h; omega
  have ho := open_zero_any (n := 2) d1 (by omega) (by rw [blank_len]; omega) (ht.below B1) htp (by rw [blank_fuse]; decide) (by rw [blank_len]; exact blank_stands (by omega))
  go_wp2_with fail
  refine ho.mono ?_
  rintro e w2 ⟨lg, rfl, d2, hg2, hl2, hgp, k2⟩
  have B2 := B1.trans (k2.off B1.size fp)
  have hsz := B1.size
  clear ho d1 k2 B1
  go_wp2_with fail
  refine (full_any 7 w2).mono ?_
  rintro e w3 ⟨rfl, k3, b3⟩
  have B3 := B2.trans (b3.mono B2.size)
  have d3 := d2.below b3
  have hg3 := hg2.below b3
  have hs2 := B2.size
  have b4 := (Below.refl w3.heap.size w3).alloc (Nat.le_refl _) (.cells #[.int .i64 4, .slice (some ⟨w2.heap.size, 0, none⟩) 256 256] 51)
  have B4 := B3.trans (b4.mono B3.size)
  have hlt := d2.lt
  have ps := PS.single (S' := Off p (w3.alloc (.cells #[.int .i64 4, .slice (some ⟨w2.heap.size, 0, none⟩) 256 256] 51))) (a := ((4 : Nat) : Int)) (t := 51) (kb_full k3) (fun b hb hlt' => ⟨by simp; omega, fun h => by have := hlt b h; omega⟩) ⟨by simp, fun h => by have := hlt _ h; have := b3.size; omega⟩
  have hco := commit_go _ pLive (hg3.below b4) hgp (d3.below b4) ps pLive_fine (by decide) (ht.below B4) htp
  rw [pLive_ok] at hco
  go_wp2_with fail
  refine hco.mono ?_
  rintro e w5 ⟨rfl, d5, hg5, k5⟩
  have hg5' : LG w5 lg p 2 false := hg5
  have B5 : Below w.heap.size w w5 := B4.trans (k5.to_below fun x hx => ⟨⟨by have := B4.size; omega, fun h => by have := fp x h; omega⟩, by omega⟩)
  have hrd := read_ok d5 4 (by rw [pLive_len]; omega) pLive_fuse
  rw [pLive_now] at hrd
  clear hco ps k5 b4 b3 k3 d3 d2 hg3 hg2 B2 B3 B4
  go_wp2_with fail
  refine hrd.mono ?_
  rintro e w6 ⟨v6, rfl, how6, b6⟩
  have bs6 := own_BS how6
  have hg6 := hg5'.below b6
  have B6 := B5.trans (b6.mono B5.size)
  clear hrd how6 b6 d5 hg5 hg5' B5
  go_wp2_with (go_at_call 7; refine (num10_any 0 _).mono ?_; rintro e w' ⟨rfl, rfl⟩)
  refine (full_any 7 w6).mono ?_
  rintro e w7 ⟨rfl, k7, b7⟩
  have hg7 := hg6.below b7
  have B7 := B6.trans (b7.mono B6.size)
  have hsm := same_to _ _ _ _ _ w7 (bs6.below' b7) (kb_full k7)
  clear bs6 k7 b7 B6 hg6
  go_wp2_with fail
  refine hsm.mono ?_
  rintro e w8 ⟨rfl, b8⟩
  have hg8 := hg7.below b8
  have B8 := B7.trans (b8.mono B7.size)
  have hbr := broken_any hg8
  have r2 : Calls Tryz.prog 20 #[.int .i64 2] w8 fun e w' => e = .returned (.int .i64 1) ∧ w8 = w' := room_any 2 w8 (by omega)
  have r3 : Calls Tryz.prog 20 #[.int .i64 121] w8 fun e w' => e = .returned (.int .i64 120) ∧ w8 = w' := room_any 121 w8 (by omega)
  have r4 : Calls Tryz.prog 20 #[.int .i64 122] w8 fun e w' => e = .returned (.int .i64 120) ∧ w8 = w' := room_any 122 w8 (by omega)
  clear hsm hg7 hg8 b8 B7
  go_wp2_with fail
  with_reducible refine r2.mono ?_
  rintro e w' ⟨rfl, rfl⟩
  go_wp2_with fail
  with_reducible refine r3.mono ?_
  rintro e w' ⟨rfl, rfl⟩
  go_wp2_with fail
  with_reducible refine r4.mono ?_
  rintro e w' ⟨rfl, rfl⟩
  go_wp2_with fail
  with_reducible refine hbr.mono ?_
  rintro e w' ⟨rfl, rfl⟩
  go_wp2_with fail
  go_ret
  exact ⟨rfl, B8⟩
end Go.Proofs.YtgoifhpinoodgaaGreatDoor
end

section
namespace Go.Proofs.YtgoifhpinoodgaaGreatDoor
open Go.RowKit
set_option maxRecDepth 100000
set_option linter.unusedVariables false

theorem copy_any (S : Nat → Prop) (v : Value) (l : List UInt8) (w : World) (h : BS w S v l) (hl : l.length ≤ 140737488355328) :
    Calls Tryz.prog 44 #[v] w fun e w' => Fresh w e w' l := by
  obtain ⟨i0, hi, hz0, hz1, hz2⟩ := info_parts info_byte
  go_enter Tryz.func44, Tryz.ntmps44
  go_wp2_with (at_builtin; refine wpList_grow _ rfl _ _ _ rfl w.heap.size 5 i0 Tryz.underlying48 hi hz0 hz1 hz2 (.slice (some ⟨w.heap.size, 0, none⟩) 0 0) [] rfl (World.ownsRow_lit w #[] 0 (Nat.le_refl _) (by simp [maxLen]) rfl) S _ l rfl (h.alloc _) (by simp; omega) (by simp) ?_; intro v1 w1 hown hg _)
  go_ret
  exact ⟨_, rfl, hown, ((Below.refl _ _).alloc (Nat.le_refl _) _).grown hg (by simp) (by simp [Value.ownBlock])⟩
end Go.Proofs.YtgoifhpinoodgaaGreatDoor
end
