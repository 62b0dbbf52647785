/-
  A disk's acts: act, Fuse, Write. No condition but what each theorem names.
-/
import Derived.Test.YtmknemaocbbpeaaDkA
import Derived.Outline
namespace Go.Proofs.Ytmknemaocbbpeaa
open Go.RowKit
set_option maxRecDepth 100000
set_option linter.unusedVariables false

def Dk.acted (s : Dk) : Dk := { s with fuse := if 0 < s.fuse then s.fuse - 1 else s.fuse, acts := wrap64 (s.acts + 1) }
theorem Dk.ok.acted {s : Dk} (h : s.ok) : s.acted.ok := by
  refine { h with fuse := ?_, acts := ?_ }
  · have := h.fuse
    unfold I64 at this
    unfold Dk.acted I64
    dsimp only
    split <;> omega
  · unfold Dk.acted I64
    dsimp only
    unfold wrap64
    omega
theorem DS.put {w w' : World} {p : DA} {s : Dk} (h : DS w p s) {fu ac : Int} (hk : KB w' p.d 55 (dkRow p { s with fuse := fu, acts := ac })) (hg : w.grownBy w' (some p.d)) (h1 : I64 fu) (h2 : I64 ac) : DS w' p { s with fuse := fu, acts := ac } :=
  { h with kb := hk, sf := h.sf.grown hg (fun e => h.db (Option.some.inj e)), pm := h.pm.keep (hg.block _ h.pm.lt fun e => h.dm (Option.some.inj e).symm), ok := { h.ok with fuse := h1, acts := h2 } }

set_option maxHeartbeats 400000 in
/-- act. -/
theorem act_any {w : World} {p : DA} {s : Dk} (h : DS w p s) : Calls Try.prog 33 #[.pointer (some ⟨p.d, 0, none⟩)] w fun e w' => e = .returned (.tuple #[]) ∧ DS w' p s.acted ∧ w.grownBy w' (some p.d) := by
  have c2 := h.c2
  have c3 := h.c3
  have f2 := h.kb.free 2
  have f3 := h.kb.free 3
  have hk := h.kb
  have hok := h.ok.acted
  have hput := fun (fu ac : Int) (w' : World) => h.put (w' := w') (fu := fu) (ac := ac)
  unfold Dk.acted at hok ⊢
  obtain ⟨n, b, m⟩ := p
  obtain ⟨sa, pe, fu, ac⟩ := s
  dsimp only at *
  have H := Lib.hid hput
  have HK := Lib.hid hk
  have o1 := Lib.hid hok.fuse
  have o2 := Lib.hid hok.acts
  have hf1 := h.ok.fuse
  dsimp only at o1 o2 hf1
  unfold I64 at hf1
  clear h hput hk hok
  by_cases hf : 0 < fu
  · rw [if_pos hf] at o1 ⊢
    go_enter Try.func33, Try.ntmps33
    go_wp2
    go_end0
    exact ⟨rfl, H.out _ _ _ ((HK.out.put 3 _).put 2 _) (grown_trans (grown_set _ _ _ _) (grown_set _ _ _ _)) o1.out o2.out, grown_trans (grown_set _ _ _ _) (grown_set _ _ _ _)⟩
  · rw [if_neg hf] at o1 ⊢
    go_enter Try.func33, Try.ntmps33
    go_wp2
    go_end0
    exact ⟨rfl, H.out _ _ _ (HK.out.put 3 _) (grown_set _ _ _ _) o1.out o2.out, grown_set _ _ _ _⟩

/-- Fuse. -/
theorem fuse_any {w : World} {p : DA} {s : Dk} (h : DS w p s) (x : Int) (hx : I64 x) : Calls Try.prog 11 #[.pointer (some ⟨p.d, 0, none⟩), .int .i64 x] w fun e w' => e = .returned (.tuple #[]) ∧ DS w' p { s with fuse := x } ∧ w.grownBy w' (some p.d) := by
  have hm := made_any h
  have c2 := h.c2
  have f2 := h.kb.free 2
  have HD := Lib.hid (h.put (w' := w.setCell ⟨p.d, 2, none⟩ (.int .i64 x)) (fu := x) (ac := s.acts) (h.kb.put 2 _) (grown_set _ _ _ _) hx h.ok.acts)
  generalize s.fuse = fu at c2
  clear h hx
  go_enter Try.func11, Try.ntmps11
  go_wp2_with (go_at_call 23; refine hm.mono ?_; rintro e w' ⟨rfl, rfl⟩)
  go_end0
  exact ⟨rfl, HD.out, grown_set _ _ _ _⟩
theorem fuse_nil (w : World) (x : Int) : Calls Try.prog 11 #[.pointer none, .int .i64 x] w fun e w' => e = .returned (.tuple #[]) ∧ w = w' := by
  go_enter Try.func11, Try.ntmps11
  go_wp2_with (go_at_call 23; refine (made_nil _).mono ?_; rintro e w' ⟨rfl, rfl⟩)
  go_end0
  exact ⟨rfl, rfl⟩

/-- The sector that a row is read as. -/
theorem run_load_sec {w : World} {g off : Nat} {l : List UInt8} (hl : l.length = 256) (h : w.rangeAt g off (l.map bv)) : (Instr.loadAt 68 (.pointer (some ⟨g, off, none⟩))).run Try.prog w = .ok (secV l) w :=
  run_loadAt_mid (P := Try.prog) w g off 68 (l.map bv) _ h Try.underlying68 rfl (by rw [List.length_map, hl]; exact cells_sec)

/-- A disk with i written. -/
def Dk.wrote (s : Dk) (i : Nat) (l : List UInt8) : Dk := { s with pend := upd s.pend i l }
theorem Dk.ok.wrote {s : Dk} (h : s.ok) {i : Nat} (hi : i < s.safe.length) {l : List UInt8} (hl : l.length = 256) : (s.wrote i l).ok := by
  refine { h with pend := fun j k hk => ?_ }
  unfold Dk.wrote upd at hk
  dsimp only at hk
  by_cases hj : j = i
  · rw [if_pos hj] at hk
    obtain rfl := Option.some.inj hk
    exact ⟨hj ▸ hi, hl⟩
  · rw [if_neg hj] at hk
    exact h.pend j k hk
theorem DS.pmput {w w' : World} {p : DA} {s : Dk} (h : DS w p s) {i : Nat} (hi : i < s.safe.length) {l : List UInt8} (hl : l.length = 256) (hp : PM w' p.m (upd s.pend i l) s.safe.length) (hg : w.grownBy w' (some p.m)) : DS w' p (s.wrote i l) :=
  { h with kb := h.kb.grown hg (fun e => h.dm (Option.some.inj e).symm), sf := h.sf.grown hg (fun e => h.bm (Option.some.inj e).symm), pm := hp, ok := h.ok.wrote hi hl }

set_option maxRecDepth 100000 in
set_option maxHeartbeats 1000000 in
/-- Write, of a sector that is there. -/
theorem write_ok {w : World} {p : DA} {s : Dk} (h : DS w p s) (i : Nat) (hi : i < s.safe.length) (hf : s.fuse ≠ 0) (S : Nat → Prop) (v : Value) (l : List UInt8) (hv : BS w S v l) (hl : l.length = 256) :
    Calls Try.prog 18 #[.pointer (some ⟨p.d, 0, none⟩), .int .i64 (i : Int), v] w fun e w' => e = .returned (.int .i64 0) ∧ DS w' p (s.wrote i l).acted ∧ KeepP (Off p w) w w' := by
  have hc := check_any h i
  rw [show chk s i = 0 from by simp [chk, hf]; omega] at hc
  obtain ⟨A, c, rfl, hlc, hcm, _⟩ := hv.form
  have HL := Lib.hid hl
  rw [hl] at hv hlc ⊢
  obtain ⟨Z, hZ⟩ : ∃ Z, Z = (z256.map bv).toArray := ⟨_, rfl⟩
  have hz : ∀ w : World, (zeroValue 68).run Try.prog w = .ok (.agg Z) w := by rw [hZ]; exact zero_sec
  have hK : KB (w.alloc (.cells Z 68)) w.heap.size 68 (z256.map bv).toArray := by rw [hZ]; exact KB.new _ _ _
  have hv1 := hv.lt.alloc (.cells Z 68)
  have h1 := h.below ((Below.refl w.heap.size w).alloc (Nat.le_refl _) (.cells Z 68))
  have B1 := KeepP.alloc (P := Off p w) w (.cells Z 68) fun x hx => hx.1
  have HI := Lib.hid hi
  clear hf hZ hl hi
  go_enter Try.func18, Try.ntmps18
  go_wp2_with (first | (go_at_call 32; refine hc.mono ?_; rintro e w' ⟨rfl, rfl⟩) | (refine wpList_copy_kb rfl (.tmp 18) (.tmp 19) 36 36 rfl 5 Try.underlying36 (by kernel_rfl) w.heap.size 0 256 256 rfl 68 _ hK (by simp [z256_len]) _ _ l rfl hv1 ?_; intro w2 k2 g2))
  have k2' : KB w2 w.heap.size 68 (l.map bv).toArray := by
    rw [List.take_of_length_le (by rw [HL.out]; exact Nat.le_refl _), splice_all _ _ (by rw [List.length_map, List.length_map, HL.out, z256_len])] at k2
    exact k2
  have h2 : DS w2 p s := h1.keep fun x hx => g2.block x (h1.lt x hx) fun e => by have := h.lt x hx; injection e with e; omega
  have B2 : KeepP (Off p w) w w2 := B1.grown g2 (fun g e ho => by injection e with e; have := ho.1; omega) fun x hx => hx.1
  clear k2 hK hz hv hv1 h1 B1 hc g2
  go_frame
  refine wp_still_tail 6 (by kernel_rfl) (by kernel_rfl) (fun W => DS W p s ∧ KB W w.heap.size 68 (l.map bv).toArray ∧ KeepP (Off p w) w W) ⟨h2.drewN 1, k2'.drewN 1, B2.drewN 1⟩ ?_
  clear h2 k2' B2
  rintro W3 ⟨h3, k3, B3⟩
  have c1 := h3.c1
  simp only [List.take_succ_cons, List.take_zero, List.drop_succ_cons, List.drop_zero]
  still_step
  still_step
  still_step
  still_step
  still_step
  refine wpStill_load rfl 68 (.tmp 8) rfl rfl (run_load_sec HL.out k3.range) ?_
  go_frame
  refine wpStill_nil ?_
  clear c1 k3
  have hN := h3.ok.few
  go_wp2_with (first | (refine wpList_put_pm rfl (.tmp 24) (.tmp 25) (.tmp 26) rfl p.m _ _ rfl h3.pm (by omega) i HI.out l rfl rfl ?_; intro w4 pm4 g4; have h4 := h3.pmput HI.out HL.out pm4 g4) | (go_at_call 33; refine (act_any h4).mono ?_; rintro e w5 ⟨rfl, h5, g5⟩))
  go_ret
  exact ⟨rfl, h5, (B3.grown g4 (fun g e ho => by injection e with e; exact ho.2 (.inr (.inr e.symm))) fun x hx => hx.1).grown g5 (fun g e ho => by injection e with e; exact ho.2 (.inl e.symm)) fun x hx => hx.1⟩

/-- Write, of a sector that is not there, or to a dead disk. -/
theorem write_chk {w : World} {p : DA} {s : Dk} (h : DS w p s) (i : Int) (hne : chk s i ≠ 0) (v : Value) :
    Calls Try.prog 18 #[.pointer (some ⟨p.d, 0, none⟩), .int .i64 i, v] w fun e w' => e = .returned (.int .i64 (chk s i)) ∧ w = w' := by
  have hc := check_any h i
  generalize chk s i = c at *
  have hne2 : (c == 0) = false := by simpa using hne
  have hne3 : (c != 0) = true := by simpa using hne
  go_enter Try.func18, Try.ntmps18
  go_wp2_with (go_at_call 32; refine hc.mono ?_; rintro e w' ⟨rfl, rfl⟩)
  go_ret
  exact ⟨rfl, rfl⟩
/-- Write, of another number of bytes. -/
theorem write_len {w : World} {p : DA} {s : Dk} (h : DS w p s) (i : Int) (he : chk s i = 0) (S : Nat → Prop) (v : Value) (l : List UInt8) (hv : BS w S v l) (hl : l.length ≠ 256) :
    Calls Try.prog 18 #[.pointer (some ⟨p.d, 0, none⟩), .int .i64 i, v] w fun e w' => e = .returned (.int .i64 1) ∧ w = w' := by
  have hc := check_any h i
  rw [he] at hc
  obtain ⟨A, c, rfl, hlc, hcm, _⟩ := hv.form
  generalize l.length = n at *
  have hne : ¬ (n : Int) = 256 := by omega
  clear he hv
  go_enter Try.func18, Try.ntmps18
  go_wp2_with (go_at_call 32; refine hc.mono ?_; rintro e w' ⟨rfl, rfl⟩)
  go_ret
  exact ⟨rfl, rfl⟩
theorem dwrite_nil (w : World) (i : Int) (v : Value) : Calls Try.prog 18 #[.pointer none, .int .i64 i, v] w fun e w' => e = .returned (.int .i64 9) ∧ w = w' := by
  go_enter Try.func18, Try.ntmps18
  go_wp2_with (go_at_call 32; refine (check_nil _ _).mono ?_; rintro e w' ⟨rfl, rfl⟩)
  go_ret
  exact ⟨rfl, rfl⟩
end Go.Proofs.Ytmknemaocbbpeaa
