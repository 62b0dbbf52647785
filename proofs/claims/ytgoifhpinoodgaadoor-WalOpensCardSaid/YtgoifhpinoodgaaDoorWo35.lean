/-
  WaU: What the statements of layer 10 rest on, plainly: a new disk; a Commit on a disk whose log is zero; a patch alone. No program, no condition.
  WaV: live: a patch that is done, and the page's examples, over the loaded program. No condition but the table roots.
  WbA: The document's own lists, Room and Right (layer 10), over the loaded program: each one's contract. No condition but what each theorem names.
-/
import Derived.Test.YtgoifhpinoodgaaDoorWo34
import Derived.Test.YtgoifhpinoodgaaDoorWo18

section
namespace Go.Proofs.YtgoifhpinoodgaaDoor
open Go.RowKit
set_option maxRecDepth 100000
set_option linter.unusedVariables false

section
variable {n N : Nat} {p : List Pt} {W0 W : Nat → List UInt8} {s : Dk}
theorem Allow.seqD {Al : Nat → List UInt8 → Prop} : ∀ (fs : List (Dk → Dk × Int)) {s : Dk}, (∀ f ∈ fs, ∀ t, t.safe.length = s.safe.length → Allow Al t → Allow Al (f t).1 ∧ (f t).1.safe.length = t.safe.length) → Allow Al s → Allow Al (seqD fs s).1
  | [], s, _, h => h
  | f :: fs, s, hf, h => by
    rw [seqD_one]
    obtain ⟨h1, h2⟩ := hf f (by simp) s rfl h
    split
    · exact Allow.seqD fs (fun g hg t ht => hf g (by simp [hg]) t (ht.trans h2)) h1
    · exact h1
/-- A log that is zero is zero behind a Commit that is OK. -/
theorem commit_stands (h : Fine n N p) (hl : s.safe.length = N) (hs : Stands n N W0 s) (hc : (commitD p s).2 = 0) : Stands n N (W1 p W0) (commitD p s).1 := by
  have hlog := h.log
  have hlen := h.len
  have ha : Allow (AlZ n W0) s := Allow.of_now hs.1 fun i hi => ⟨fun e => by subst e; exact hs.2.1 0 (Nat.zero_le _), fun e => hs.2.2 i e (by omega)⟩
  obtain ⟨_, h2⟩ := commit_good h hl hs.1 ha
  obtain ⟨c, a, hz⟩ := h2 hc
  have hq : Allow (fun i v => (entriesL p).length < i ∧ i ≤ n → v = zs 256) (commitD p s).1 := by
    rw [commitD_seq]
    refine Allow.seqD _ (fun f hf t ht hat => ?_) (Allow.of_now hs.1 fun i hi e => hs.2.1 i e.2)
    simp [comD] at hf
    rcases hf with rfl | rfl | rfl | rfl | rfl
    · refine ⟨hat.doD fun q hq _ => ?_, doD_len _ _⟩
      obtain ⟨j, hj, e⟩ := rowP_mem hq
      have := (List.getElem?_eq_some_iff.1 hj).1
      rw [e, Int.toNat_natCast]
      intro hh; omega
    · refine ⟨hat.doD fun q hq _ => ?_, doD_len _ _⟩
      obtain ⟨j, hj, e⟩ := rowP_mem hq
      have := (List.getElem?_eq_some_iff.1 hj).1
      simp at this
      rw [e, Int.toNat_natCast]
      intro hh; omega
    · refine ⟨hat.doD fun q hq _ => ?_, doD_len _ _⟩
      have := h.behind hq
      intro hh; omega
    · refine ⟨hat.doD fun q hq _ => ?_, doD_len _ _⟩
      obtain ⟨j, hj, e⟩ := rowP_mem hq
      have := (List.getElem?_eq_some_iff.1 hj).1
      simp at this
      rw [e, Int.toNat_natCast]
      intro hh; omega
    · refine ⟨hat.doD fun q hq _ => ?_, doD_len _ _⟩
      obtain ⟨j, hj, e⟩ := rowP_mem hq
      have := (List.getElem?_eq_some_iff.1 hj).1
      rw [List.length_map] at this
      rw [e, Int.toNat_natCast]
      intro hh; omega
  have hL : (commitD p s).1.safe.length = N := by rw [commitD_len]; exact hl
  refine ⟨c, fun i hi => ?_, fun i h1 h2 => (a i _ (may_now (by omega))).2 h1⟩
  rcases Nat.eq_zero_or_pos i with h0 | h0
  · subst h0
    exact (a 0 _ (may_now (by omega))).1 rfl
  · by_cases he : i ≤ (entriesL p).length
    · exact hz i h0 he
    · exact hq i _ (may_now (by omega)) ⟨by omega, hi⟩
end
theorem crashed_lenW (s : Dk) (ks : List Bool) : (s.crashed ks).safe.length = s.safe.length := over_len _ _
theorem blank_len (N : Nat) : (blank N).safe.length = N := by simp [blank]
theorem blank_now {N i : Nat} (h : i < N) : (blank N).now i = zs 256 := by
  show (none : Option (List UInt8)).getD ((List.replicate N z256).getD i []) = _
  rw [Option.getD_none, List.getD_eq_getElem?_getD, List.getElem?_replicate, if_pos h]
  rfl
theorem blank_stands {n N : Nat} (h : n < N) : Stands n N (fun _ => zs 256) (blank N) := ⟨fun _ => rfl, fun i hi => blank_now (by omega), fun i h1 h2 => blank_now h2⟩
theorem blank_fuse (N : Nat) : (blank N).fuse = -1 := rfl
theorem blank_open {n N : Nat} (h : n < N) : leftP n (blank N) = [] ∧ openD n (blank N) = (blank N, 0) := open_again h (blank_len N) (by rw [blank_fuse]; decide) (blank_stands h)

theorem fine_one {n N : Nat} {a : Nat} {l : List UInt8} (h1 : n < a) (h2 : a < N) (h3 : l.length = 256) (h4 : 2 ≤ n) (h5 : N ≤ 1024) : Fine n N [((a : Int), l)] := by
  refine ⟨?_, ?_, by omega, h5⟩
  · refine takes_yes fun i hi => ?_
    obtain rfl : i = 0 := by simp at hi; omega
    exact ⟨by show (n : Int) < (a : Int); omega, by show (a : Int) < (N : Int); omega, h3, fun j hj => absurd hj (Nat.not_lt_zero _)⟩
  · show 1 ≤ roomN n
    unfold roomN
    rw [if_neg (by omega)]
    omega
/-- One patch in memory. -/
theorem PS.single {w : World} {S S' : Nat → Prop} {a : Int} {X : Option Addr} {k z : Nat} {l : List UInt8} {t : TypeId} (h : BS w S (.slice X k z) l) (hS : ∀ b, S b → b < w.heap.size → S' b) (hg : S' w.heap.size) : PS (w.alloc (.cells #[.int .i64 a, .slice X k z] t)) S' (.slice (some ⟨w.heap.size, 0, none⟩) 1 1) [(a, l)] := by
  have kb := KB.new w t #[.int .i64 a, .slice X k z]
  refine ⟨_, 1, rfl, by simp, by simp [maxLen], (fun h => by cases h), fun _ => ⟨w.heap.size, 0, rfl, hg, kb.lt, fun j q hj => ?_⟩⟩
  match j, hj with
  | 0, hj =>
    obtain rfl : (a, l) = q := by simpa using hj
    exact ⟨kb.cell 0, _, kb.cell 1, (h.lt.alloc _).mono fun b hb => hS b hb.1 hb.2⟩

/-- num. -/
theorem num10_any (x : Int) (w : World) : Calls Tryd.prog 8 #[.int .i64 x] w fun e w' => e = .returned (.int .i64 x) ∧ w = w' := by
  go_enter Tryd.func8, Tryd.ntmps8
  go_wp2
  go_ret
  exact ⟨rfl, rfl⟩

/-- live's patch. -/
def pLive : List Pt := [((4 : Nat), full 7)]
theorem pLive_fine : Fine 2 6 pLive := fine_one (by omega) (by omega) (full_len 7) (by omega) (by omega)
theorem pLive_ok : (commitD pLive (blank 6)).2 = 0 := (commitD_never _ _ (blank_fuse 6)).1
theorem pLive_fuse : (commitD pLive (blank 6)).1.fuse ≠ 0 := by rw [(commitD_never pLive _ (blank_fuse 6)).2]; decide
theorem pLive_len : (commitD pLive (blank 6)).1.safe.length = 6 := by rw [commitD_len, blank_len]
theorem pLive_now : (commitD pLive (blank 6)).1.now 4 = full 7 := by
  rw [(commit_stands pLive_fine (blank_len 6) (blank_stands (by omega)) pLive_ok).2.2 4 (by omega) (by omega)]
  exact W1_at pLive_fine (v := ((4 : Nat), full 7)) (by simp [pLive])
def YesW (w : World) (e : Ending) (w' : World) : Prop := e = .returned (.bool true) ∧ Below w.heap.size w w'
end Go.Proofs.YtgoifhpinoodgaaDoor
end

section
namespace Go.Proofs.YtgoifhpinoodgaaDoor
open Go.RowKit
set_option maxRecDepth 100000
set_option linter.unusedVariables false

/-- Open of a disk whose log is zero, and whose power does not go. -/
theorem open_zero_any {w : World} {p : DA} {s : Dk} {n : Nat} {W : Nat → List UInt8} (h : DS w p s) (hn : 2 ≤ n) (hN : n + 2 ≤ s.safe.length) (ht : Tab w) (htp : ¬ p.has 0) (hf : s.fuse ≠ 0) (hs : Stands n s.safe.length W s) :
    Calls Tryd.prog 17 #[.pointer (some ⟨p.d, 0, none⟩), .int .i64 n] w fun e w' => ∃ lg, e = .returned (.tuple #[.pointer (some ⟨lg, 0, none⟩), .int .i64 0, .int .i64 0]) ∧ DS w' p s ∧ LG w' lg p n false ∧ w.heap.size ≤ lg ∧ ¬ p.has lg ∧ KeepP (Off p w) w w' := by
  obtain ⟨e1, e2⟩ := open_again (n := n) (N := s.safe.length) (by omega) rfl hf hs
  refine (open_go n h hn hN ht htp).mono ?_
  rintro e w' ⟨d, k, h1, _⟩
  rw [e2] at d h1
  obtain ⟨lg, rfl, hg, hb⟩ := h1 rfl
  rw [e1]
  exact ⟨lg, rfl, d, hg, hb, fun hx => by have := h.lt _ hx; omega, k⟩

set_option maxHeartbeats 2000000 in
theorem live10_any (w : World) (ht : Tab w) : Calls Tryd.prog 5 #[] w (YesW w) := by
  have hr0 := ht.1
  go_enter Tryd.func5, Tryd.ntmps5
  go_wp2_with fail
  refine (new_made 6 w (by omega) (by omega)).mono ?_
  rintro e w1 ⟨p, rfl, d1, fp, B1⟩
  have htp : ¬ p.has 0 := fun h => by have := fp _ h; omega
  have ho := open_zero_any (n := 2) d1 (by omega) (by rw [blank_len]; omega) (ht.below B1) htp (by rw [blank_fuse]; decide) (by rw [blank_len]; exact blank_stands (by omega))
  go_wp2_with fail
  refine ho.mono ?_
  rintro e w2 ⟨lg, rfl, d2, hg2, hl2, hgp, k2⟩
  have B2 := B1.trans (k2.off B1.size fp)
  have hsz := B1.size
  clear ho d1 k2 B1
  go_wp2_with fail
  refine (full_any 7 w2).mono ?_
  rintro e w3 ⟨rfl, k3, b3⟩
  have B3 := B2.trans (b3.mono B2.size)
  have d3 := d2.below b3
  have hg3 := hg2.below b3
  have hs2 := B2.size
  have b4 := (Below.refl w3.heap.size w3).alloc (Nat.le_refl _) (.cells #[.int .i64 4, .slice (some ⟨w2.heap.size, 0, none⟩) 256 256] 55)
  have B4 := B3.trans (b4.mono B3.size)
  have hlt := d2.lt
  have ps := PS.single (S' := Off p (w3.alloc (.cells #[.int .i64 4, .slice (some ⟨w2.heap.size, 0, none⟩) 256 256] 55))) (a := ((4 : Nat) : Int)) (t := 55) (kb_full k3) (fun b hb hlt' => ⟨by simp; omega, fun h => by have := hlt b h; omega⟩) ⟨by simp, fun h => by have := hlt _ h; have := b3.size; omega⟩
  have hco := commit_go _ pLive (hg3.below b4) hgp (d3.below b4) ps pLive_fine (by decide) (ht.below B4) htp
  rw [pLive_ok] at hco
  go_wp2_with fail
  refine hco.mono ?_
  rintro e w5 ⟨rfl, d5, hg5, k5⟩
  have hg5' : LG w5 lg p 2 false := hg5
  have B5 : Below w.heap.size w w5 := B4.trans (k5.to_below fun x hx => ⟨⟨by have := B4.size; omega, fun h => by have := fp x h; omega⟩, by omega⟩)
  have hrd := read_ok d5 4 (by rw [pLive_len]; omega) pLive_fuse
  rw [pLive_now] at hrd
  clear hco ps k5 b4 b3 k3 d3 d2 hg3 hg2 B2 B3 B4
  go_wp2_with fail
  refine hrd.mono ?_
  rintro e w6 ⟨v6, rfl, how6, b6⟩
  have bs6 := own_BS how6
  have hg6 := hg5'.below b6
  have B6 := B5.trans (b6.mono B5.size)
  clear hrd how6 b6 d5 hg5 hg5' B5
  go_wp2_with (go_at_call 8; refine (num10_any 0 _).mono ?_; rintro e w' ⟨rfl, rfl⟩)
  refine (full_any 7 w6).mono ?_
  rintro e w7 ⟨rfl, k7, b7⟩
  have hg7 := hg6.below b7
  have B7 := B6.trans (b7.mono B6.size)
  have hsm := same_to _ _ _ _ _ w7 (bs6.below' b7) (kb_full k7)
  clear bs6 k7 b7 B6 hg6
  go_wp2_with fail
  refine hsm.mono ?_
  rintro e w8 ⟨rfl, b8⟩
  have hg8 := hg7.below b8
  have B8 := B7.trans (b8.mono B7.size)
  have hbr := broken_any hg8
  have r2 : Calls Tryd.prog 24 #[.int .i64 2] w8 fun e w' => e = .returned (.int .i64 1) ∧ w8 = w' := room_any 2 w8 (by omega)
  have r3 : Calls Tryd.prog 24 #[.int .i64 121] w8 fun e w' => e = .returned (.int .i64 120) ∧ w8 = w' := room_any 121 w8 (by omega)
  have r4 : Calls Tryd.prog 24 #[.int .i64 122] w8 fun e w' => e = .returned (.int .i64 120) ∧ w8 = w' := room_any 122 w8 (by omega)
  clear hsm hg7 hg8 b8 B7
  go_wp2_with fail
  with_reducible refine r2.mono ?_
  rintro e w' ⟨rfl, rfl⟩
  go_wp2_with fail
  with_reducible refine r3.mono ?_
  rintro e w' ⟨rfl, rfl⟩
  go_wp2_with fail
  with_reducible refine r4.mono ?_
  rintro e w' ⟨rfl, rfl⟩
  go_wp2_with fail
  with_reducible refine hbr.mono ?_
  rintro e w' ⟨rfl, rfl⟩
  go_wp2_with fail
  go_ret
  exact ⟨rfl, B8⟩
end Go.Proofs.YtgoifhpinoodgaaDoor
end

section
namespace Go.Proofs.YtgoifhpinoodgaaDoor
open Go.RowKit
set_option maxRecDepth 100000
set_option linter.unusedVariables false

theorem rlists_any (k : Nat) (w : World) (hk : k ≤ 100000) : Calls Tryd.prog 59 #[.int .i64 k] w fun e w' => e = .returned (.int .i64 (listsN k : Nat)) ∧ w = w' := by
  unfold listsN
  go_enter Tryd.func59, Tryd.ntmps59
  go_wp2
  go_ret
  refine ⟨ret_int ?_, rfl⟩
  omega
theorem room_is {k n : Nat} (h1 : k + listsN k ≤ n ∨ k = 0) (h2 : ¬ k + 1 + listsN (k + 1) ≤ n) : k = roomN n := by
  unfold listsN at h1 h2
  unfold roomN
  split
  · omega
  · omega

theorem rroom_any (n : Nat) (w : World) (hn : n ≤ 1000) : Calls Tryd.prog 25 #[.int .i64 n] w fun e w' => e = .returned (.int .i64 (roomN n : Nat)) ∧ w = w' := by
  obtain ⟨R, hR⟩ : ∃ R, R = roomN n := ⟨_, rfl⟩
  have HR := Lib.hid hR
  rw [← hR]
  clear hR
  go_enter Tryd.func25, Tryd.ntmps25
  go_wp2
  go_loopw [3] (fun kv wr => ∃ k : Nat, kv = .int .i64 k ∧ k ≤ 1000 ∧ Hid (k + listsN k ≤ n ∨ k = 0) ∧ wr = w) (fun kv _ => 1000 - (intOf kv).toNat)
  case atStart => exact ⟨0, rfl, by omega, .inr rfl, rfl⟩
  case round =>
    obtain ⟨k, rfl, hk, HK, rfl⟩ := hrel
    have hl := rlists_any (k + 1) wr (by omega)
    obtain ⟨m, hm⟩ : ∃ m, m = listsN (k + 1) := ⟨_, rfl⟩
    rw [← hm] at hl
    have hm2 : m ≤ 100 := by rw [hm]; unfold listsN; omega
    rw [show ((k + 1 : Nat) : Int) = (k : Int) + 1 by omega] at hl
    have HM := Lib.hid hm
    clear hm
    by_cases h : k + 1 + m ≤ n
    · have D0 : decide ((k : Int) + 1 + (m : Int) ≤ (n : Int)) = true := decide_eq_true (by omega)
      have D1 : decide ((k : Int) < 1024) = true := decide_eq_true (by omega)
      have HK2 : Hid (k + 1 + listsN (k + 1) ≤ n ∨ k + 1 = 0) := .inl (by rw [← HM.out]; exact h)
      have hkn : k + 1 ≤ 1000 := by omega
      go_wp2_with (go_at_call 59; refine hl.mono ?_; rintro e w' ⟨rfl, rfl⟩)
      go_roundw
      case rel => exact ⟨k + 1, by go_num, hkn, HK2, by trivial⟩
      case measure => simp [intOf]; omega
    · have D0 : decide ((k : Int) + 1 + (m : Int) ≤ (n : Int)) = false := decide_eq_false (by omega)
      have hr : R = k := by rw [HR.out]; exact (room_is HK.out (by rw [← HM.out]; exact h)).symm
      subst hr
      go_wp2_with (go_at_call 59; refine hl.mono ?_; rintro e w' ⟨rfl, rfl⟩)
      go_ret
      exact ⟨rfl, rfl⟩

/-- The error of patches, on a disk of N sectors with a log of n. -/
def rightP (n : Nat) (N : Int) (ps : List Pt) : Int := if takesB n N ps = true then (if roomN n < ps.length then 4 else 0) else 1
theorem chk_right (n : Nat) (N : Int) (ps : List Pt) : chkP false n N ps = rightP n N ps := by
  unfold chkP rightP
  rw [if_neg (by simp)]

set_option maxHeartbeats 2000000 in
theorem rright_any (S : Nat → Prop) (v : Value) (ps : List Pt) (n N : Nat) (w : World) (h : PS w S v ps) (hn : n ≤ 1000) : Calls Tryd.prog 9 #[v, .int .i64 N, .int .i64 n] w fun e w' => e = .returned (.int .i64 (rightP n N ps)) ∧ Below w.heap.size w w' := by
  obtain ⟨A, c, rfl, hc, hcm, hn0⟩ := h.form
  obtain ⟨R, hR⟩ : ∃ R, R = rightP n N ps := ⟨_, rfl⟩
  have HN : Hid (∀ k, k < ps.length → ¬ okAt n N ps k → R = 1) := fun k hk h => by rw [hR]; unfold rightP; rw [takes_no hk h, if_neg (by simp)]
  have HY : Hid ((∀ i, i < ps.length → okAt n N ps i) → R = if roomN n < ps.length then 4 else 0) := fun h => by rw [hR]; unfold rightP; rw [takes_yes h, if_pos rfl]
  have hrm := fun w => rroom_any n w hn
  rw [← hR]
  clear hR
  have hlen : ps.length ≤ 9223372036854775807 := by unfold maxLen at hcm; omega
  go_enter Tryd.func9, Tryd.ntmps9
  go_wp2
  go_loopw [7] (fun iv wr => ∃ k : Nat, k ≤ ps.length ∧ iv = .int .i64 k ∧ Hid (∀ i, i < k → okAt n N ps i) ∧ Below w.heap.size w wr) (fun iv _ => ps.length - (intOf iv).toNat)
  case atStart => exact ⟨0, by omega, rfl, fun i h => absurd h (Nat.not_lt_zero _), Below.refl _ _⟩
  case round =>
    obtain ⟨k, hk, rfl, HS, bl⟩ := hrel
    by_cases hlt : k < ps.length
    · obtain ⟨b, o, rfl, _, _, hx⟩ := (h.below' bl).at_ (by omega)
      obtain ⟨⟨a, l⟩, hv⟩ : ∃ q, ps[k]? = some q := ⟨_, List.getElem?_eq_getElem hlt⟩
      obtain ⟨k0, X, z, k1, hbs⟩ := hx k _ hv
      dsimp only at k0 k1 hbs
      have hgk : ps.getD k (0, []) = (a, l) := by rw [List.getD_eq_getElem?_getD, hv]; rfl
      have hok : okAt n N ps k ↔ (n : Int) < a ∧ a < (N : Int) ∧ l.length = 256 ∧ ∀ j, j < k → (ps.getD j (0, [])).1 ≠ a := by unfold okAt; rw [hgk]
      have hll : l.length ≤ 9223372036854775807 := by obtain ⟨_, _, _, h1, h2, _⟩ := hbs.form; unfold maxLen at h2; omega
      clear hv hgk hbs
      by_cases d1 : a ≤ n
      · have D1 := decide_eq_true d1
        have hr := HN.out k hlt fun h => by have := hok.1 h; omega
        subst hr
        clear hok d1 hx
        go_wp2_with fail
        go_ret
        exact ⟨rfl, bl⟩
      · have D1 := decide_eq_false d1
        by_cases d2 : (N : Int) ≤ a
        · have D2 := decide_eq_true d2
          have hr := HN.out k hlt fun h => by have := hok.1 h; omega
          subst hr
          clear hok d1 d2 hx
          go_wp2_with fail
          go_ret
          exact ⟨rfl, bl⟩
        · have D2 := decide_eq_false d2
          by_cases d4 : l.length = 256
          · have hok2 : (∀ j, j < k → (ps.getD j (0, [])).1 ≠ a) → okAt n N ps k := fun hj => hok.2 ⟨by omega, by omega, d4, hj⟩
            have HOK2 := Lib.hid hok2
            have HOK := Lib.hid hok
            clear hll
            generalize l.length = m at *
            subst d4
            have HX := Lib.hid hx
            clear hok hok2 d1 d2 hx
            go_wp2_with fail
            obtain ⟨w0, hw0⟩ : ∃ w0 : World, w0 = wr := ⟨_, rfl⟩
            rw [← hw0] at bl k0 k1 HX ⊢
            clear hw0
            go_loopw [8] (fun jv wr => ∃ j : Nat, j ≤ k ∧ jv = .int .i64 j ∧ Hid (∀ i, i < j → (ps.getD i (0, [])).1 ≠ a) ∧ Below w0.heap.size w0 wr) (fun jv _ => k - (intOf jv).toNat)
            case atStart => exact ⟨0, by omega, rfl, fun i h => absurd h (Nat.not_lt_zero _), Below.refl _ _⟩
            case round =>
              obtain ⟨j, hj, rfl, HJ, bj⟩ := hrel
              by_cases hjk : j < k
              · obtain ⟨⟨a', l'⟩, hv'⟩ : ∃ q, ps[j]? = some q := ⟨_, List.getElem?_eq_getElem (by omega)⟩
                obtain ⟨q0, _⟩ := HX.out j _ hv'
                dsimp only at q0
                have hgj : ps.getD j (0, []) = (a', l') := by rw [List.getD_eq_getElem?_getD, hv']; rfl
                have hbl := bj.block b (World.block_lt_of_cell? _ _ k0)
                have r0 : wr.cell? ⟨b, o + j * 2, none⟩ = some (.int .i64 a') := (World.cell?_of_block (w := w0) hbl).trans q0
                have r1 : wr.cell? ⟨b, o + k * 2, none⟩ = some (.int .i64 a) := (World.cell?_of_block (w := w0) hbl).trans k0
                have hjl : j < ps.length := by omega
                have HGJ := Lib.hid hgj
                clear q0 hv' hgj hbl
                by_cases e : a' = a
                · subst e
                  have hr := HN.out k hlt fun h => (HOK.out.1 h).2.2.2 j hjk (by rw [HGJ.out])
                  subst hr
                  go_wp2_with fail
                  go_region
                  go_wp2_with fail
                  go_ret
                  exact ⟨rfl, Below_drawn (bl.trans (bj.mono bl.size)) 1⟩
                · have D5 : decide (a' = a) = false := decide_eq_false e
                  have D6 : (a' == a) = false := by simp [e]
                  have HJ2 : Hid (∀ i, i < j + 1 → (ps.getD i (0, [])).1 ≠ a) := fun i hi => by
                    rcases Nat.lt_succ_iff_lt_or_eq.1 hi with h | rfl
                    · exact HJ.out i h
                    · rw [HGJ.out]; exact e
                  clear e
                  go_wp2_with fail
                  go_region
                  go_wp2_with fail
                  go_roundw
                  case rel => exact ⟨j + 1, by omega, by go_num, HJ2, Below_drawn bj 1⟩
                  case measure => simp [intOf]; omega
              · obtain rfl : j = k := by omega
                have HS2 : Hid (∀ i, i < j + 1 → okAt n N ps i) := fun i hi => by
                  rcases Nat.lt_succ_iff_lt_or_eq.1 hi with h | rfl
                  · exact HS.out i h
                  · exact HOK2.out HJ.out
                clear HOK HOK2 HJ HX k0 k1
                go_wp2_with fail
                go_roundw
                case rel => exact ⟨j + 1, by omega, by go_num, HS2, bl.trans (bj.mono bl.size)⟩
                case measure => simp [intOf]; omega
          · have hr := HN.out k hlt fun h => d4 (hok.1 h).2.2.1
            have D4 : ((l.length : Int) != 256) = true := by simp; omega
            have d5 : ¬ (l.length : Int) = 256 := by omega
            subst hr
            clear hok d1 d2 d4 hx
            go_wp2_with fail
            go_ret
            exact ⟨rfl, bl⟩
    · obtain rfl : k = ps.length := by omega
      have hr := HY.out HS.out
      clear HN HY HS
      obtain ⟨rm, hrm2⟩ : ∃ rm, rm = roomN n := ⟨_, rfl⟩
      rw [← hrm2] at hr hrm
      clear hrm2
      by_cases d : rm < ps.length
      · rw [if_pos d] at hr
        subst hr
        have D1 : decide ((rm : Int) < (ps.length : Int)) = true := decide_eq_true (by omega)
        have D2 := decide_eq_true d
        clear d
        go_wp2_with (go_at_call 25; refine (hrm _).mono ?_; rintro e w' ⟨rfl, rfl⟩)
        go_ret
        exact ⟨rfl, bl⟩
      · rw [if_neg d] at hr
        subst hr
        have D1 : decide ((rm : Int) < (ps.length : Int)) = false := decide_eq_false (by omega)
        have D2 := decide_eq_false d
        clear d
        go_wp2_with (go_at_call 25; refine (hrm _).mono ?_; rintro e w' ⟨rfl, rfl⟩)
        go_ret
        exact ⟨rfl, bl⟩
end Go.Proofs.YtgoifhpinoodgaaDoor
end
