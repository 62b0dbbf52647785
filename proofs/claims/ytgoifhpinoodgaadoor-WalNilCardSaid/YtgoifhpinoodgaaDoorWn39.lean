/-
  WaU: What the statements of layer 10 rest on, plainly: a new disk; a Commit on a disk whose log is zero; a patch alone. No program, no condition.
  WaV: live: a patch that is done, and the page's examples, over the loaded program. No condition but the table roots.
  WalNilW: The law WalNil over the loaded program: what a nil Log, and a nil disk, answers; what is broken stays so. No condition but the table roots.
-/
import Derived.Test.YtgoifhpinoodgaaDoorWn38
import Derived.Test.YtgoifhpinoodgaaDoorWn22
import Derived.Test.YtgoifhpinoodgaaDoorWn21

section
namespace Go.Proofs.YtgoifhpinoodgaaDoor
open Go.RowKit
set_option maxRecDepth 100000
set_option linter.unusedVariables false

section
variable {n N : Nat} {p : List Pt} {W0 W : Nat → List UInt8} {s : Dk}
theorem Allow.seqD {Al : Nat → List UInt8 → Prop} : ∀ (fs : List (Dk → Dk × Int)) {s : Dk}, (∀ f ∈ fs, ∀ t, t.safe.length = s.safe.length → Allow Al t → Allow Al (f t).1 ∧ (f t).1.safe.length = t.safe.length) → Allow Al s → Allow Al (seqD fs s).1
  | [], s, _, h => h
  | f :: fs, s, hf, h => by
    rw [seqD_one]
    obtain ⟨h1, h2⟩ := hf f (by simp) s rfl h
    split
    · exact Allow.seqD fs (fun g hg t ht => hf g (by simp [hg]) t (ht.trans h2)) h1
    · exact h1
/-- A log that is zero is zero behind a Commit that is OK. -/
theorem commit_stands (h : Fine n N p) (hl : s.safe.length = N) (hs : Stands n N W0 s) (hc : (commitD p s).2 = 0) : Stands n N (W1 p W0) (commitD p s).1 := by
  have hlog := h.log
  have hlen := h.len
  have ha : Allow (AlZ n W0) s := Allow.of_now hs.1 fun i hi => ⟨fun e => by subst e; exact hs.2.1 0 (Nat.zero_le _), fun e => hs.2.2 i e (by omega)⟩
  obtain ⟨_, h2⟩ := commit_good h hl hs.1 ha
  obtain ⟨c, a, hz⟩ := h2 hc
  have hq : Allow (fun i v => (entriesL p).length < i ∧ i ≤ n → v = zs 256) (commitD p s).1 := by
    rw [commitD_seq]
    refine Allow.seqD _ (fun f hf t ht hat => ?_) (Allow.of_now hs.1 fun i hi e => hs.2.1 i e.2)
    simp [comD] at hf
    rcases hf with rfl | rfl | rfl | rfl | rfl
    · refine ⟨hat.doD fun q hq _ => ?_, doD_len _ _⟩
      obtain ⟨j, hj, e⟩ := rowP_mem hq
      have := (List.getElem?_eq_some_iff.1 hj).1
      rw [e, Int.toNat_natCast]
      intro hh; omega
    · refine ⟨hat.doD fun q hq _ => ?_, doD_len _ _⟩
      obtain ⟨j, hj, e⟩ := rowP_mem hq
      have := (List.getElem?_eq_some_iff.1 hj).1
      simp at this
      rw [e, Int.toNat_natCast]
      intro hh; omega
    · refine ⟨hat.doD fun q hq _ => ?_, doD_len _ _⟩
      have := h.behind hq
      intro hh; omega
    · refine ⟨hat.doD fun q hq _ => ?_, doD_len _ _⟩
      obtain ⟨j, hj, e⟩ := rowP_mem hq
      have := (List.getElem?_eq_some_iff.1 hj).1
      simp at this
      rw [e, Int.toNat_natCast]
      intro hh; omega
    · refine ⟨hat.doD fun q hq _ => ?_, doD_len _ _⟩
      obtain ⟨j, hj, e⟩ := rowP_mem hq
      have := (List.getElem?_eq_some_iff.1 hj).1
      rw [List.length_map] at this
      rw [e, Int.toNat_natCast]
      intro hh; omega
  have hL : (commitD p s).1.safe.length = N := by rw [commitD_len]; exact hl
  refine ⟨c, fun i hi => ?_, fun i h1 h2 => (a i _ (may_now (by omega))).2 h1⟩
  rcases Nat.eq_zero_or_pos i with h0 | h0
  · subst h0
    exact (a 0 _ (may_now (by omega))).1 rfl
  · by_cases he : i ≤ (entriesL p).length
    · exact hz i h0 he
    · exact hq i _ (may_now (by omega)) ⟨by omega, hi⟩
end
theorem crashed_lenW (s : Dk) (ks : List Bool) : (s.crashed ks).safe.length = s.safe.length := over_len _ _
theorem blank_len (N : Nat) : (blank N).safe.length = N := by simp [blank]
theorem blank_now {N i : Nat} (h : i < N) : (blank N).now i = zs 256 := by
  show (none : Option (List UInt8)).getD ((List.replicate N z256).getD i []) = _
  rw [Option.getD_none, List.getD_eq_getElem?_getD, List.getElem?_replicate, if_pos h]
  rfl
theorem blank_stands {n N : Nat} (h : n < N) : Stands n N (fun _ => zs 256) (blank N) := ⟨fun _ => rfl, fun i hi => blank_now (by omega), fun i h1 h2 => blank_now h2⟩
theorem blank_fuse (N : Nat) : (blank N).fuse = -1 := rfl
theorem blank_open {n N : Nat} (h : n < N) : leftP n (blank N) = [] ∧ openD n (blank N) = (blank N, 0) := open_again h (blank_len N) (by rw [blank_fuse]; decide) (blank_stands h)

theorem fine_one {n N : Nat} {a : Nat} {l : List UInt8} (h1 : n < a) (h2 : a < N) (h3 : l.length = 256) (h4 : 2 ≤ n) (h5 : N ≤ 1024) : Fine n N [((a : Int), l)] := by
  refine ⟨?_, ?_, by omega, h5⟩
  · refine takes_yes fun i hi => ?_
    obtain rfl : i = 0 := by simp at hi; omega
    exact ⟨by show (n : Int) < (a : Int); omega, by show (a : Int) < (N : Int); omega, h3, fun j hj => absurd hj (Nat.not_lt_zero _)⟩
  · show 1 ≤ roomN n
    unfold roomN
    rw [if_neg (by omega)]
    omega
/-- One patch in memory. -/
theorem PS.single {w : World} {S S' : Nat → Prop} {a : Int} {X : Option Addr} {k z : Nat} {l : List UInt8} {t : TypeId} (h : BS w S (.slice X k z) l) (hS : ∀ b, S b → b < w.heap.size → S' b) (hg : S' w.heap.size) : PS (w.alloc (.cells #[.int .i64 a, .slice X k z] t)) S' (.slice (some ⟨w.heap.size, 0, none⟩) 1 1) [(a, l)] := by
  have kb := KB.new w t #[.int .i64 a, .slice X k z]
  refine ⟨_, 1, rfl, by simp, by simp [maxLen], (fun h => by cases h), fun _ => ⟨w.heap.size, 0, rfl, hg, kb.lt, fun j q hj => ?_⟩⟩
  match j, hj with
  | 0, hj =>
    obtain rfl : (a, l) = q := by simpa using hj
    exact ⟨kb.cell 0, _, kb.cell 1, (h.lt.alloc _).mono fun b hb => hS b hb.1 hb.2⟩

/-- num. -/
theorem num10_any (x : Int) (w : World) : Calls Tryd.prog 8 #[.int .i64 x] w fun e w' => e = .returned (.int .i64 x) ∧ w = w' := by
  go_enter Tryd.func8, Tryd.ntmps8
  go_wp2
  go_ret
  exact ⟨rfl, rfl⟩

/-- live's patch. -/
def pLive : List Pt := [((4 : Nat), full 7)]
theorem pLive_fine : Fine 2 6 pLive := fine_one (by omega) (by omega) (full_len 7) (by omega) (by omega)
theorem pLive_ok : (commitD pLive (blank 6)).2 = 0 := (commitD_never _ _ (blank_fuse 6)).1
theorem pLive_fuse : (commitD pLive (blank 6)).1.fuse ≠ 0 := by rw [(commitD_never pLive _ (blank_fuse 6)).2]; decide
theorem pLive_len : (commitD pLive (blank 6)).1.safe.length = 6 := by rw [commitD_len, blank_len]
theorem pLive_now : (commitD pLive (blank 6)).1.now 4 = full 7 := by
  rw [(commit_stands pLive_fine (blank_len 6) (blank_stands (by omega)) pLive_ok).2.2 4 (by omega) (by omega)]
  exact W1_at pLive_fine (v := ((4 : Nat), full 7)) (by simp [pLive])
def YesW (w : World) (e : Ending) (w' : World) : Prop := e = .returned (.bool true) ∧ Below w.heap.size w w'
end Go.Proofs.YtgoifhpinoodgaaDoor
end

section
namespace Go.Proofs.YtgoifhpinoodgaaDoor
open Go.RowKit
set_option maxRecDepth 100000
set_option linter.unusedVariables false

/-- Open of a disk whose log is zero, and whose power does not go. -/
theorem open_zero_any {w : World} {p : DA} {s : Dk} {n : Nat} {W : Nat → List UInt8} (h : DS w p s) (hn : 2 ≤ n) (hN : n + 2 ≤ s.safe.length) (ht : Tab w) (htp : ¬ p.has 0) (hf : s.fuse ≠ 0) (hs : Stands n s.safe.length W s) :
    Calls Tryd.prog 17 #[.pointer (some ⟨p.d, 0, none⟩), .int .i64 n] w fun e w' => ∃ lg, e = .returned (.tuple #[.pointer (some ⟨lg, 0, none⟩), .int .i64 0, .int .i64 0]) ∧ DS w' p s ∧ LG w' lg p n false ∧ w.heap.size ≤ lg ∧ ¬ p.has lg ∧ KeepP (Off p w) w w' := by
  obtain ⟨e1, e2⟩ := open_again (n := n) (N := s.safe.length) (by omega) rfl hf hs
  refine (open_go n h hn hN ht htp).mono ?_
  rintro e w' ⟨d, k, h1, _⟩
  rw [e2] at d h1
  obtain ⟨lg, rfl, hg, hb⟩ := h1 rfl
  rw [e1]
  exact ⟨lg, rfl, d, hg, hb, fun hx => by have := h.lt _ hx; omega, k⟩

set_option maxHeartbeats 2000000 in
theorem live10_any (w : World) (ht : Tab w) : Calls Tryd.prog 5 #[] w (YesW w) := by
  have hr0 := ht.1
  go_enter Tryd.func5, Tryd.ntmps5
  go_wp2_with fail
  refine (new_made 6 w (by omega) (by omega)).mono ?_
  rintro e w1 ⟨p, rfl, d1, fp, B1⟩
  have htp : ¬ p.has 0 := fun h => by have := fp _ h; omega
  have ho := open_zero_any (n := 2) d1 (by omega) (by rw [blank_len]; omega) (ht.below B1) htp (by rw [blank_fuse]; decide) (by rw [blank_len]; exact blank_stands (by omega))
  go_wp2_with fail
  refine ho.mono ?_
  rintro e w2 ⟨lg, rfl, d2, hg2, hl2, hgp, k2⟩
  have B2 := B1.trans (k2.off B1.size fp)
  have hsz := B1.size
  clear ho d1 k2 B1
  go_wp2_with fail
  refine (full_any 7 w2).mono ?_
  rintro e w3 ⟨rfl, k3, b3⟩
  have B3 := B2.trans (b3.mono B2.size)
  have d3 := d2.below b3
  have hg3 := hg2.below b3
  have hs2 := B2.size
  have b4 := (Below.refl w3.heap.size w3).alloc (Nat.le_refl _) (.cells #[.int .i64 4, .slice (some ⟨w2.heap.size, 0, none⟩) 256 256] 55)
  have B4 := B3.trans (b4.mono B3.size)
  have hlt := d2.lt
  have ps := PS.single (S' := Off p (w3.alloc (.cells #[.int .i64 4, .slice (some ⟨w2.heap.size, 0, none⟩) 256 256] 55))) (a := ((4 : Nat) : Int)) (t := 55) (kb_full k3) (fun b hb hlt' => ⟨by simp; omega, fun h => by have := hlt b h; omega⟩) ⟨by simp, fun h => by have := hlt _ h; have := b3.size; omega⟩
  have hco := commit_go _ pLive (hg3.below b4) hgp (d3.below b4) ps pLive_fine (by decide) (ht.below B4) htp
  rw [pLive_ok] at hco
  go_wp2_with fail
  refine hco.mono ?_
  rintro e w5 ⟨rfl, d5, hg5, k5⟩
  have hg5' : LG w5 lg p 2 false := hg5
  have B5 : Below w.heap.size w w5 := B4.trans (k5.to_below fun x hx => ⟨⟨by have := B4.size; omega, fun h => by have := fp x h; omega⟩, by omega⟩)
  have hrd := read_ok d5 4 (by rw [pLive_len]; omega) pLive_fuse
  rw [pLive_now] at hrd
  clear hco ps k5 b4 b3 k3 d3 d2 hg3 hg2 B2 B3 B4
  go_wp2_with fail
  refine hrd.mono ?_
  rintro e w6 ⟨v6, rfl, how6, b6⟩
  have bs6 := own_BS how6
  have hg6 := hg5'.below b6
  have B6 := B5.trans (b6.mono B5.size)
  clear hrd how6 b6 d5 hg5 hg5' B5
  go_wp2_with (go_at_call 8; refine (num10_any 0 _).mono ?_; rintro e w' ⟨rfl, rfl⟩)
  refine (full_any 7 w6).mono ?_
  rintro e w7 ⟨rfl, k7, b7⟩
  have hg7 := hg6.below b7
  have B7 := B6.trans (b7.mono B6.size)
  have hsm := same_to _ _ _ _ _ w7 (bs6.below' b7) (kb_full k7)
  clear bs6 k7 b7 B6 hg6
  go_wp2_with fail
  refine hsm.mono ?_
  rintro e w8 ⟨rfl, b8⟩
  have hg8 := hg7.below b8
  have B8 := B7.trans (b8.mono B7.size)
  have hbr := broken_any hg8
  have r2 : Calls Tryd.prog 24 #[.int .i64 2] w8 fun e w' => e = .returned (.int .i64 1) ∧ w8 = w' := room_any 2 w8 (by omega)
  have r3 : Calls Tryd.prog 24 #[.int .i64 121] w8 fun e w' => e = .returned (.int .i64 120) ∧ w8 = w' := room_any 121 w8 (by omega)
  have r4 : Calls Tryd.prog 24 #[.int .i64 122] w8 fun e w' => e = .returned (.int .i64 120) ∧ w8 = w' := room_any 122 w8 (by omega)
  clear hsm hg7 hg8 b8 B7
  go_wp2_with fail
  with_reducible refine r2.mono ?_
  rintro e w' ⟨rfl, rfl⟩
  go_wp2_with fail
  with_reducible refine r3.mono ?_
  rintro e w' ⟨rfl, rfl⟩
  go_wp2_with fail
  with_reducible refine r4.mono ?_
  rintro e w' ⟨rfl, rfl⟩
  go_wp2_with fail
  with_reducible refine hbr.mono ?_
  rintro e w' ⟨rfl, rfl⟩
  go_wp2_with fail
  go_ret
  exact ⟨rfl, B8⟩
end Go.Proofs.YtgoifhpinoodgaaDoor
end

section
namespace Go.Proofs.YtgoifhpinoodgaaDoor
open Go.RowKit Go.ChangeShapes Go.WideShapes Go.Joins
set_option maxRecDepth 100000
set_option linter.unusedVariables false

def pN : List Pt := [((5 : Nat), full 1)]
def sN : Dk := { blank 9 with fuse := 1 }
theorem pN_fine : Fine 3 9 pN := fine_one (by omega) (by omega) (full_len 1) (by omega) (by omega)
theorem sN_len : sN.safe.length = 9 := blank_len 9
theorem pN_code : (commitD pN sN).2 = 8 := by
  obtain ⟨l1, l2, e⟩ : ∃ l1 l2, entriesL pN = [l1, l2] := by
    have h := entries_len pN
    match entriesL pN, h with
    | [a, b], _ => exact ⟨a, b, rfl⟩
  have h : (doD (rowP 1 [l1, l2]) sN).2 = 8 := rfl
  rw [commitD_seq]
  unfold comD
  rw [seqD_one, e, if_neg (by rw [h]; decide)]
  exact h

set_option maxHeartbeats 4000000 in
theorem nil10_walk (a n : Int) (w : World) (ht : Tab w) : Calls Tryd.prog 4 #[.int .i64 a, .int .i64 n] w (YesW w) := by
  have hr0 := ht.1
  go_enter Tryd.func4, Tryd.ntmps4
  go_wp2_with fail
  refine (open_nil n w).mono ?_
  rintro e w0 ⟨rfl, B0⟩
  go_wp2_with fail
  refine (new_made 9 w0 (by omega) (by omega)).mono ?_
  rintro e w1 ⟨p, rfl, d1, fp, b1⟩
  have B1 := B0.trans (b1.mono B0.size)
  have hsz0 := B0.size
  have htp : ¬ p.has 0 := fun h => by have := fp _ h; omega
  have ho := open_zero_any (n := 3) d1 (by omega) (by rw [blank_len]; omega) (ht.below B1) htp (by rw [blank_fuse]; decide) (by rw [blank_len]; exact blank_stands (by omega))
  have ho' : Calls Tryd.prog 17 #[.pointer (some ⟨p.d, 0, none⟩), .int .i64 3] w1 _ := ho
  clear ho b1
  go_wp2_with fail
  refine ho'.mono ?_
  rintro e w2 ⟨lg, rfl, d2, hg2, hl2, hgp, k2⟩
  have B2 := B1.trans (k2.off B1.size fun x hx => by have := fp x hx; omega)
  have hsz1 := B1.size
  clear ho' d1 k2 B1
  have hfu := fuse_any d2 1 (by unfold I64; omega)
  go_wp2_with fail
  refine hfu.mono ?_
  rintro e w3 ⟨rfl, d3, g3⟩
  have d3' : DS w3 p sN := d3
  have hg3 : LG w3 lg p 3 false := KB.grown hg2 g3 fun e => hgp (by injection e with e; rw [← e]; exact .inl rfl)
  have B3 := B2.grown g3 B2.size fun g e => by injection e with e; have := fp p.d (.inl rfl); omega
  clear hfu d3 g3 d2 hg2 B2
  have hs3 := B3.size
  go_wp2_with fail
  refine (full_any 1 w3).mono ?_
  rintro e w4 ⟨rfl, k4, b4⟩
  have b5 := (Below.refl w4.heap.size w4).alloc (Nat.le_refl _) (.cells #[.int .i64 5, .slice (some ⟨w3.heap.size, 0, none⟩) 256 256] 55)
  have b45 := b4.trans (b5.mono b4.size)
  have B5 := B3.trans (b45.mono hs3)
  have hlt := d3'.lt
  have ps := PS.single (S' := Off p (w4.alloc (.cells #[.int .i64 5, .slice (some ⟨w3.heap.size, 0, none⟩) 256 256] 55))) (a := ((5 : Nat) : Int)) (t := 55) (kb_full k4) (fun b hb hlt' => ⟨by simp; omega, fun h => by have := hlt b h; omega⟩) ⟨by simp, fun h => by have := hlt _ h; have := b4.size; omega⟩
  have hco := commit_go _ pN (hg3.below b45) hgp (d3'.below b45) ps pN_fine (by decide) (ht.below B5) htp
  rw [pN_code] at hco
  clear ps k4 b4 b5 b45 hg3 d3'
  go_wp2_with fail
  refine hco.mono ?_
  rintro e w6 ⟨rfl, d6, hg6, k6⟩
  have hg6' : LG w6 lg p 3 true := hg6
  have B6 : Below w.heap.size w w6 := B5.trans (k6.to_below fun x hx => ⟨⟨by have := B5.size; omega, fun h => by have := fp x h; omega⟩, by omega⟩)
  clear hco k6 hg6 B5
  have hcr := crash_any d6 (fun _ => False) (.slice none 0 0) [] (CS.nil _ _) fun b hb => absurd hb id
  go_wp2_with fail
  refine hcr.mono ?_
  rintro e w7 ⟨rfl, d7, k7⟩
  have hg7 := hg6'.keepP k7 ⟨KB.lt hg6', hgp⟩
  have B7 := B6.trans (k7.off B6.size fun x hx => by have := fp x hx; omega)
  have hl7 : ((commitD pN sN).1.crashed []).safe.length = 9 := by rw [crashed_lenW, commitD_len, sN_len]
  generalize (commitD pN sN).1.crashed [] = s7 at *
  clear hcr d6 hg6' k7 B6
  have hs7 := B7.size
  go_wp2_with fail
  refine (full_any 1 w7).mono ?_
  rintro e w8 ⟨rfl, k8, b8⟩
  have b9 := (Below.refl w8.heap.size w8).alloc (Nat.le_refl _) (.cells #[.int .i64 5, .slice (some ⟨w7.heap.size, 0, none⟩) 256 256] 55)
  have b89 := b8.trans (b9.mono b8.size)
  have B9 := B7.trans (b89.mono hs7)
  have hlt7 := d7.lt
  have ps := PS.single (S' := Off p (w8.alloc (.cells #[.int .i64 5, .slice (some ⟨w7.heap.size, 0, none⟩) 256 256] 55))) (a := ((5 : Nat) : Int)) (t := 55) (kb_full k8) (fun b hb hlt' => ⟨by simp; omega, fun h => by have := hlt7 b h; omega⟩) ⟨by simp, fun h => by have := hlt7 _ h; have := b8.size; omega⟩
  have hc8 : chkP true 3 s7.safe.length pN = 8 := rfl
  have hco := commit_no _ pN (by omega) (hg7.below b89) (d7.below b89) ps (.inl (by rw [hc8]; decide))
  rw [hc8] at hco
  have hg9 := hg7.below b89
  clear ps k8 b8 b9 b89 hg7 d7
  go_wp2_with fail
  refine hco.mono ?_
  rintro e wa ⟨rfl, ba⟩
  have hga := hg9.below ba
  have Ba := B9.trans (ba.mono B9.size)
  clear hco hg9 ba B9 B7
  have bb := (Below.refl wa.heap.size wa).alloc (Nat.le_refl _) (.cells #[.int .i64 a, .slice none 0 0] 55)
  have hgb := hga.below bb
  have Bb := Ba.trans (bb.mono Ba.size)
  go_wp2_with fail
  refine (commit_nil _ 1 1 _).mono ?_
  rintro e wc ⟨rfl, bc⟩
  have hgc := hgb.below bc
  have Bc := Bb.trans (bc.mono Bb.size)
  have hbr := broken_any hgc
  have hlv := live10_any wc (ht.below Bc)
  clear hga bb hgb Bb Ba bc hgc
  go_wp2_with fail
  with_reducible refine (num10_any 9 _).mono ?_
  rintro e w' ⟨rfl, rfl⟩
  go_wp2_with fail
  with_reducible refine (broken_nil _).mono ?_
  rintro e w' ⟨rfl, rfl⟩
  go_wp2_with fail
  with_reducible refine (num10_any 9 _).mono ?_
  rintro e w' ⟨rfl, rfl⟩
  go_wp2_with fail
  with_reducible refine (num10_any 0 _).mono ?_
  rintro e w' ⟨rfl, rfl⟩
  go_wp2_with fail
  with_reducible refine (num10_any 8 _).mono ?_
  rintro e w' ⟨rfl, rfl⟩
  go_wp2_with fail
  with_reducible refine (num10_any 8 _).mono ?_
  rintro e w' ⟨rfl, rfl⟩
  go_wp2_with fail
  with_reducible refine hbr.mono ?_
  rintro e w' ⟨rfl, rfl⟩
  go_wp2_with fail
  refine hlv.mono ?_
  rintro e wd ⟨rfl, bd⟩
  go_wp2_with fail
  go_ret
  exact ⟨rfl, Bc.trans (bd.mono Bc.size)⟩

theorem walNil_law {H : Type} (enc : TypeId × Value → H) (W : World) (base : Nat) (ht : Tab W) (v0 : Value) (d0 : DataW H) (p0 : List MemPlace) (v1 : Value) (d1 : DataW H) (p1 : List MemPlace)
    (ok0 : Value.okWide Tryd.prog W .any base 3 v0) (ok1 : Value.okWide Tryd.prog W .any base 3 v1)
    (h0 : DataW.Trod enc Tryd.prog W 0 (fun _ => true) true 3 v0 d0 p0) (h1 : DataW.Trod enc Tryd.prog W 0 (fun _ => true) true 3 v1 d1 p1) :
    Calls Tryd.prog 4 #[v0, v1] W fun e W' => e = .returned (.bool true) ∧ Below W.heap.size W W' := by
  obtain ⟨a, rfl, rfl, rfl, w0⟩ := open_int Tryd.underlying3 ok0 h0
  obtain ⟨n, rfl, rfl, rfl, w1⟩ := open_int Tryd.underlying3 ok1 h1
  exact nil10_walk a n W ht
end Go.Proofs.YtgoifhpinoodgaaDoor
end
