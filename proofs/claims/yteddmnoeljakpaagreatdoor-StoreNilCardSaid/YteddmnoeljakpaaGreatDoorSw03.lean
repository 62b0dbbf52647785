/-
  DkA: A disk in memory: what its blocks hold; New, and the functions that only ask. No condition but what each theorem names.
  DkB: A disk's acts: act, Fuse, Write. No condition but what each theorem names.
  DkC: Flush, over the loaded program. No condition but what each theorem names.
  Clone: bytes.Clone, over the loaded program: its contract. No condition but the sizes that it names.
  DkE: Read and Image, over the loaded program. No condition but what each theorem names.
-/
import Derived.Test.YteddmnoeljakpaaGreatDoorSw02
import Derived.WalkKit
import Derived.OwnWalk
import Derived.Outline
import Derived.Test.YteddmnoeljakpaaGreatDoorSw00
import Derived.WalkSpells
set_option linter.unusedVariables false
set_option maxRecDepth 100000
namespace Go.Proofs.YteddmnoeljakpaaGreatDoor
section
open Go.RowKit
structure Dk where
  safe : List (List UInt8)
  pend : Nat → Option (List UInt8)
  fuse : Int
  acts : Int
structure DA where
  d : Nat
  b : Nat
  m : Nat
def DA.has (p : DA) (x : Nat) : Prop := x = p.d ∨ x = p.b ∨ x = p.m
structure Dk.ok (s : Dk) : Prop where
  some_ : 1 ≤ s.safe.length
  few : s.safe.length ≤ 1024
  len : ∀ l ∈ s.safe, l.length = 256
  pend : ∀ i l, s.pend i = some l → i < s.safe.length ∧ l.length = 256
  fuse : I64 s.fuse
  acts : I64 s.acts
def dkRow (p : DA) (s : Dk) : Array Value := #[.slice (some ⟨p.b, 0, none⟩) s.safe.length s.safe.length, .map (some p.m), .int .i64 s.fuse, .int .i64 s.acts]
structure DS (w : World) (p : DA) (s : Dk) : Prop where
  kb : KB w p.d 109 (dkRow p s)
  sf : KB w p.b 112 (secs s.safe).toArray
  pm : PM w p.m s.pend s.safe.length
  db : p.d ≠ p.b
  dm : p.d ≠ p.m
  bm : p.b ≠ p.m
  ok : s.ok
section
variable {w w' : World} {p : DA} {s : Dk}
theorem DS.lt (h : DS w p s) : ∀ x, p.has x → x < w.heap.size := by
  rintro x (rfl | rfl | rfl)
  · exact h.kb.lt
  · exact h.sf.lt
  · exact h.pm.lt
theorem DS.keep (h : DS w p s) (hk : ∀ x, p.has x → w'.heap[x]? = w.heap[x]?) : DS w' p s :=
  { h with kb := h.kb.keep (hk _ (.inl rfl)), sf := h.sf.keep (hk _ (.inr (.inl rfl))), pm := h.pm.keep (hk _ (.inr (.inr rfl))) }
theorem DS.below (h : DS w p s) (hb : Below w.heap.size w w') : DS w' p s := h.keep fun x hx => hb.block x (h.lt x hx)
theorem DS.drewN (h : DS w p s) (n : Nat) : DS (w.drewN n) p s := h.keep fun _ _ => rfl
theorem DS.c0 (h : DS w p s) : w.cell? ⟨p.d, 0, none⟩ = some (.slice (some ⟨p.b, 0, none⟩) s.safe.length s.safe.length) := h.kb.cell 0
theorem DS.c1 (h : DS w p s) : w.cell? ⟨p.d, 1, none⟩ = some (.map (some p.m)) := h.kb.cell 1
theorem DS.c2 (h : DS w p s) : w.cell? ⟨p.d, 2, none⟩ = some (.int .i64 s.fuse) := h.kb.cell 2
theorem DS.c3 (h : DS w p s) : w.cell? ⟨p.d, 3, none⟩ = some (.int .i64 s.acts) := h.kb.cell 3
end
def Off (p : DA) (w : World) (x : Nat) : Prop := x < w.heap.size ∧ ¬ p.has x
def blank (n : Nat) : Dk := ⟨List.replicate n z256, fun _ => none, -1, 0⟩
theorem blank_ok {n : Nat} (h1 : 1 ≤ n) (h2 : n ≤ 1024) : (blank n).ok :=
  ⟨by simp [blank]; exact h1, by simp [blank]; exact h2, fun l hl => by rw [List.eq_of_mem_replicate hl]; exact z256_len, fun i l h => by (cases h), ⟨by show (-9223372036854775808 : Int) ≤ -1; omega, by show (-1 : Int) ≤ _; omega⟩, ⟨by show (-9223372036854775808 : Int) ≤ 0; omega, by show (0 : Int) ≤ _; omega⟩⟩
def newDA (n : Nat) : DA := ⟨n + 2, n, n + 1⟩
def Made (w : World) (n : Nat) (e : Ending) (w' : World) : Prop :=
  e = .returned (.tuple #[.pointer (some ⟨w.heap.size + 2, 0, none⟩), .int .i64 0]) ∧ DS w' (newDA w.heap.size) (blank n) ∧ Below w.heap.size w w'
set_option maxHeartbeats 400000 in
theorem new_yes (n : Nat) (w : World) (h1 : 1 ≤ n) (h2 : n ≤ 1024) : Calls Tryz.prog 32 #[.int .i64 n] w (Made w n) := by
  obtain ⟨i0, hi, hz0, hz1, hz2⟩ := info_parts info_sec
  have hmk := fun w : World => run_make (P := Tryz.prog) w 106 112 i0 _ Tryz.underlying106 hi hz0 .i64 .i64 n n (by omega) (by omega) (by rw [hz2]; omega) (by omega)
  simp only [hz1, Int.toNat_natCast, madeCells_sec] at hmk
  have hmm := @run_makeMap Tryz.prog
  have c1 : decide ((n : Int) < 1) = false := by simp; omega
  have c2 : decide (1024 < (n : Int)) = false := by simp; omega
  have hds : DS (((w.alloc (.cells (secs (List.replicate n z256)).toArray 112)).alloc (.map #[] 0)).alloc (.cells #[.slice (some ⟨w.heap.size, 0, none⟩) n n, .map (some (w.heap.size + 1)), .int .i64 (-1), .int .i64 0] 109)) (newDA w.heap.size) (blank n) := by
    have k := KB.new ((w.alloc (.cells (secs (List.replicate n z256)).toArray 112)).alloc (.map #[] 0)) 109 #[.slice (some ⟨w.heap.size, 0, none⟩) n n, .map (some (w.heap.size + 1)), .int .i64 (-1), .int .i64 0]
    rw [World.size_alloc, World.size_alloc] at k
    have kb := ((KB.new w 112 (secs (List.replicate n z256)).toArray).alloc (.map #[] 0)).alloc (.cells #[.slice (some ⟨w.heap.size, 0, none⟩) n n, .map (some (w.heap.size + 1)), .int .i64 (-1), .int .i64 0] 109)
    have pm := PM.made (w.alloc (.cells (secs (List.replicate n z256)).toArray 112)) n
    rw [World.size_alloc] at pm
    have pm2 := pm.keep (Below.heap_alloc _ (.cells #[.slice (some ⟨w.heap.size, 0, none⟩) n n, .map (some (w.heap.size + 1)), .int .i64 (-1), .int .i64 0] 109) _ pm.lt)
    have hl : (blank n).safe.length = n := by simp [blank]
    refine ⟨?_, kb, ?_, by simp [newDA], by simp [newDA], by simp [newDA], blank_ok h1 h2⟩
    · unfold dkRow
      rw [hl]
      exact k
    · rw [hl]; exact pm2
  go_enter Tryz.func32, Tryz.ntmps32
  go_wp2
  go_ret2
  exact ⟨rfl, hds, (((Below.refl _ _).alloc (Nat.le_refl _) _).alloc (by simp) _).alloc (by simp; omega) _⟩
theorem new_no (n : Int) (w : World) (h : n < 1 ∨ 1024 < n) : Calls Tryz.prog 32 #[.int .i64 n] w fun e w' => e = .returned (.tuple #[.pointer none, .int .i64 1]) ∧ w = w' := by
  by_cases h1 : n < 1
  · go_enter Tryz.func32, Tryz.ntmps32
    go_wp2
    go_ret2
    exact ⟨rfl, rfl⟩
  · have h2 : 1024 < n := by omega
    clear h
    go_enter Tryz.func32, Tryz.ntmps32
    go_wp2
    go_ret2
    exact ⟨rfl, rfl⟩
section
variable {w : World} {p : DA} {s : Dk}
theorem size_any (h : DS w p s) : Calls Tryz.prog 58 #[.pointer (some ⟨p.d, 0, none⟩)] w fun e w' => e = .returned (.int .i64 (s.safe.length : Int)) ∧ w = w' := by
  have c0 := h.c0
  generalize s.safe.length = n at *
  clear h
  go_enter Tryz.func58, Tryz.ntmps58
  go_wp2
  go_ret
  exact ⟨rfl, rfl⟩
theorem size_nil (w : World) : Calls Tryz.prog 58 #[.pointer none] w fun e w' => e = .returned (.int .i64 0) ∧ w = w' := by
  go_enter Tryz.func58, Tryz.ntmps58
  go_wp2
  go_ret
  exact ⟨rfl, rfl⟩
theorem made_any (h : DS w p s) : Calls Tryz.prog 61 #[.pointer (some ⟨p.d, 0, none⟩)] w fun e w' => e = .returned (.bool true) ∧ w = w' := by
  have hs := size_any h
  have h1 := h.ok.some_
  generalize s.safe.length = n at *
  have h2 : decide (0 < n) = true := by simp; omega
  go_enter Tryz.func61, Tryz.ntmps61
  go_wp2_with (go_at_call 58; refine hs.mono ?_; rintro e w' ⟨rfl, rfl⟩)
  go_ret
  exact ⟨rfl, rfl⟩
theorem made_nil (w : World) : Calls Tryz.prog 61 #[.pointer none] w fun e w' => e = .returned (.bool false) ∧ w = w' := by
  go_enter Tryz.func61, Tryz.ntmps61
  go_wp2_with (go_at_call 58; refine (size_nil _).mono ?_; rintro e w' ⟨rfl, rfl⟩)
  go_ret
  exact ⟨rfl, rfl⟩
theorem dead_any (h : DS w p s) : Calls Tryz.prog 138 #[.pointer (some ⟨p.d, 0, none⟩)] w fun e w' => e = .returned (.bool (decide (s.fuse = 0))) ∧ w = w' := by
  have hs := made_any h
  have c2 := h.c2
  generalize s.fuse = n at *
  go_enter Tryz.func138, Tryz.ntmps138
  go_wp2_with (go_at_call 61; refine hs.mono ?_; rintro e w' ⟨rfl, rfl⟩)
  go_ret
  exact ⟨rfl, rfl⟩
theorem power_ok (h : DS w p s) (hf : s.fuse ≠ 0) : Calls Tryz.prog 105 #[.pointer (some ⟨p.d, 0, none⟩)] w fun e w' => e = .returned (.int .i64 0) ∧ w = w' := by
  have hs := made_any h
  have hd := dead_any h
  rw [decide_eq_false hf] at hd
  clear hf
  go_enter Tryz.func105, Tryz.ntmps105
  go_wp2_with (first | (go_at_call 61; refine hs.mono ?_; rintro e w' ⟨rfl, rfl⟩) | (go_at_call 138; refine hd.mono ?_; rintro e w' ⟨rfl, rfl⟩))
  go_ret
  exact ⟨rfl, rfl⟩
theorem power_dead (h : DS w p s) (hf : s.fuse = 0) : Calls Tryz.prog 105 #[.pointer (some ⟨p.d, 0, none⟩)] w fun e w' => e = .returned (.int .i64 8) ∧ w = w' := by
  have hs := made_any h
  have hd := dead_any h
  rw [decide_eq_true hf] at hd
  clear hf
  go_enter Tryz.func105, Tryz.ntmps105
  go_wp2_with (first | (go_at_call 61; refine hs.mono ?_; rintro e w' ⟨rfl, rfl⟩) | (go_at_call 138; refine hd.mono ?_; rintro e w' ⟨rfl, rfl⟩))
  go_ret
  exact ⟨rfl, rfl⟩
theorem power_nil (w : World) : Calls Tryz.prog 105 #[.pointer none] w fun e w' => e = .returned (.int .i64 9) ∧ w = w' := by
  go_enter Tryz.func105, Tryz.ntmps105
  go_wp2_with (go_at_call 61; refine (made_nil _).mono ?_; rintro e w' ⟨rfl, rfl⟩)
  go_ret
  exact ⟨rfl, rfl⟩
def chk (s : Dk) (i : Int) : Int := if s.fuse = 0 then 8 else if i < 0 ∨ (s.safe.length : Int) ≤ i then 5 else 0
theorem check_any (h : DS w p s) (i : Int) : Calls Tryz.prog 63 #[.pointer (some ⟨p.d, 0, none⟩), .int .i64 i] w fun e w' => e = .returned (.int .i64 (chk s i)) ∧ w = w' := by
  by_cases hf : s.fuse = 0
  · rw [show chk s i = 8 from by simp [chk, hf]]
    have hp := power_dead h hf
    clear hf
    go_enter Tryz.func63, Tryz.ntmps63
    go_wp2_with (go_at_call 105; refine hp.mono ?_; rintro e w' ⟨rfl, rfl⟩)
    go_ret
    exact ⟨rfl, rfl⟩
  · have hp := power_ok h hf
    have c0 := h.c0
    have hc : chk s i = if i < 0 ∨ (s.safe.length : Int) ≤ i then 5 else 0 := by simp [chk, hf]
    have few := h.ok.few
    rw [hc]
    clear hf hc h
    generalize s.safe.length = n at *
    by_cases h1 : i < 0
    · rw [if_pos (.inl h1)]
      go_enter Tryz.func63, Tryz.ntmps63
      go_wp2_with (go_at_call 105; refine hp.mono ?_; rintro e w' ⟨rfl, rfl⟩)
      go_ret
      exact ⟨rfl, rfl⟩
    · by_cases h2 : (n : Int) ≤ i
      · rw [if_pos (.inr h2)]
        go_enter Tryz.func63, Tryz.ntmps63
        go_wp2_with (go_at_call 105; refine hp.mono ?_; rintro e w' ⟨rfl, rfl⟩)
        go_ret
        exact ⟨rfl, rfl⟩
      · rw [if_neg (by omega)]
        go_enter Tryz.func63, Tryz.ntmps63
        go_wp2_with (go_at_call 105; refine hp.mono ?_; rintro e w' ⟨rfl, rfl⟩)
        go_ret
        exact ⟨rfl, rfl⟩
theorem check_nil (i : Int) (w : World) : Calls Tryz.prog 63 #[.pointer none, .int .i64 i] w fun e w' => e = .returned (.int .i64 9) ∧ w = w' := by
  go_enter Tryz.func63, Tryz.ntmps63
  go_wp2_with (go_at_call 105; refine (power_nil _).mono ?_; rintro e w' ⟨rfl, rfl⟩)
  go_ret
  exact ⟨rfl, rfl⟩
end
end
section
open Go.RowKit
def Dk.acted (s : Dk) : Dk := { s with fuse := if 0 < s.fuse then s.fuse - 1 else s.fuse, acts := wrap64 (s.acts + 1) }
theorem Dk.ok.acted {s : Dk} (h : s.ok) : s.acted.ok := by
  refine { h with fuse := ?_, acts := ?_ }
  · have := h.fuse
    unfold I64 at this
    unfold Dk.acted I64
    dsimp only
    split <;> omega
  · unfold Dk.acted I64
    dsimp only
    unfold wrap64
    omega
theorem DS.put {w w' : World} {p : DA} {s : Dk} (h : DS w p s) {fu ac : Int} (hk : KB w' p.d 109 (dkRow p { s with fuse := fu, acts := ac })) (hg : w.grownBy w' (some p.d)) (h1 : I64 fu) (h2 : I64 ac) : DS w' p { s with fuse := fu, acts := ac } :=
  { h with kb := hk, sf := h.sf.grown hg (fun e => h.db (Option.some.inj e)), pm := h.pm.keep (hg.block _ h.pm.lt fun e => h.dm (Option.some.inj e).symm), ok := { h.ok with fuse := h1, acts := h2 } }
set_option maxHeartbeats 400000 in
theorem act_any {w : World} {p : DA} {s : Dk} (h : DS w p s) : Calls Tryz.prog 65 #[.pointer (some ⟨p.d, 0, none⟩)] w fun e w' => e = .returned (.tuple #[]) ∧ DS w' p s.acted ∧ w.grownBy w' (some p.d) := by
  have c2 := h.c2
  have c3 := h.c3
  have f2 := h.kb.free 2
  have f3 := h.kb.free 3
  have hk := h.kb
  have hok := h.ok.acted
  have hput := fun (fu ac : Int) (w' : World) => h.put (w' := w') (fu := fu) (ac := ac)
  unfold Dk.acted at hok ⊢
  obtain ⟨n, b, m⟩ := p
  obtain ⟨sa, pe, fu, ac⟩ := s
  dsimp only at *
  have H := Lib.hid hput
  have HK := Lib.hid hk
  have o1 := Lib.hid hok.fuse
  have o2 := Lib.hid hok.acts
  have hf1 := h.ok.fuse
  dsimp only at o1 o2 hf1
  unfold I64 at hf1
  clear h hput hk hok
  by_cases hf : 0 < fu
  · rw [if_pos hf] at o1 ⊢
    go_enter Tryz.func65, Tryz.ntmps65
    go_wp2
    go_end0
    exact ⟨rfl, H.out _ _ _ ((HK.out.put 3 _).put 2 _) (grown_trans (grown_set _ _ _ _) (grown_set _ _ _ _)) o1.out o2.out, grown_trans (grown_set _ _ _ _) (grown_set _ _ _ _)⟩
  · rw [if_neg hf] at o1 ⊢
    go_enter Tryz.func65, Tryz.ntmps65
    go_wp2
    go_end0
    exact ⟨rfl, H.out _ _ _ (HK.out.put 3 _) (grown_set _ _ _ _) o1.out o2.out, grown_set _ _ _ _⟩
theorem fuse_any {w : World} {p : DA} {s : Dk} (h : DS w p s) (x : Int) (hx : I64 x) : Calls Tryz.prog 23 #[.pointer (some ⟨p.d, 0, none⟩), .int .i64 x] w fun e w' => e = .returned (.tuple #[]) ∧ DS w' p { s with fuse := x } ∧ w.grownBy w' (some p.d) := by
  have hm := made_any h
  have c2 := h.c2
  have f2 := h.kb.free 2
  have HD := Lib.hid (h.put (w' := w.setCell ⟨p.d, 2, none⟩ (.int .i64 x)) (fu := x) (ac := s.acts) (h.kb.put 2 _) (grown_set _ _ _ _) hx h.ok.acts)
  generalize s.fuse = fu at c2
  clear h hx
  go_enter Tryz.func23, Tryz.ntmps23
  go_wp2_with (go_at_call 61; refine hm.mono ?_; rintro e w' ⟨rfl, rfl⟩)
  go_end0
  exact ⟨rfl, HD.out, grown_set _ _ _ _⟩
theorem run_load_sec {w : World} {g off : Nat} {l : List UInt8} (hl : l.length = 256) (h : w.rangeAt g off (l.map bv)) : (Instr.loadAt 112 (.pointer (some ⟨g, off, none⟩))).run Tryz.prog w = .ok (secV l) w :=
  run_loadAt_mid (P := Tryz.prog) w g off 112 (l.map bv) _ h Tryz.underlying112 rfl (by rw [List.length_map, hl]; exact cells_sec)
def Dk.wrote (s : Dk) (i : Nat) (l : List UInt8) : Dk := { s with pend := upd s.pend i l }
theorem Dk.ok.wrote {s : Dk} (h : s.ok) {i : Nat} (hi : i < s.safe.length) {l : List UInt8} (hl : l.length = 256) : (s.wrote i l).ok := by
  refine { h with pend := fun j k hk => ?_ }
  unfold Dk.wrote upd at hk
  dsimp only at hk
  by_cases hj : j = i
  · rw [if_pos hj] at hk
    obtain rfl := Option.some.inj hk
    exact ⟨hj ▸ hi, hl⟩
  · rw [if_neg hj] at hk
    exact h.pend j k hk
theorem DS.pmput {w w' : World} {p : DA} {s : Dk} (h : DS w p s) {i : Nat} (hi : i < s.safe.length) {l : List UInt8} (hl : l.length = 256) (hp : PM w' p.m (upd s.pend i l) s.safe.length) (hg : w.grownBy w' (some p.m)) : DS w' p (s.wrote i l) :=
  { h with kb := h.kb.grown hg (fun e => h.dm (Option.some.inj e).symm), sf := h.sf.grown hg (fun e => h.bm (Option.some.inj e).symm), pm := hp, ok := h.ok.wrote hi hl }
set_option maxRecDepth 100000 in
set_option maxHeartbeats 1000000 in
theorem write_ok {w : World} {p : DA} {s : Dk} (h : DS w p s) (i : Nat) (hi : i < s.safe.length) (hf : s.fuse ≠ 0) (S : Nat → Prop) (v : Value) (l : List UInt8) (hv : BS w S v l) (hl : l.length = 256) :
    Calls Tryz.prog 26 #[.pointer (some ⟨p.d, 0, none⟩), .int .i64 (i : Int), v] w fun e w' => e = .returned (.int .i64 0) ∧ DS w' p (s.wrote i l).acted ∧ KeepP (Off p w) w w' := by
  have hc := check_any h i
  rw [show chk s i = 0 from by simp [chk, hf]; omega] at hc
  obtain ⟨A, c, rfl, hlc, hcm, _⟩ := hv.form
  have HL := Lib.hid hl
  rw [hl] at hv hlc ⊢
  obtain ⟨Z, hZ⟩ : ∃ Z, Z = (z256.map bv).toArray := ⟨_, rfl⟩
  have hz : ∀ w : World, (zeroValue 112).run Tryz.prog w = .ok (.agg Z) w := by rw [hZ]; exact zero_sec
  have hK : KB (w.alloc (.cells Z 112)) w.heap.size 112 (z256.map bv).toArray := by rw [hZ]; exact KB.new _ _ _
  have hv1 := hv.lt.alloc (.cells Z 112)
  have h1 := h.below ((Below.refl w.heap.size w).alloc (Nat.le_refl _) (.cells Z 112))
  have B1 := KeepP.alloc (P := Off p w) w (.cells Z 112) fun x hx => hx.1
  have HI := Lib.hid hi
  clear hf hZ hl hi
  go_enter Tryz.func26, Tryz.ntmps26
  go_wp2_with (first | (go_at_call 63; refine hc.mono ?_; rintro e w' ⟨rfl, rfl⟩) | (refine wpList_copy_kb rfl (.tmp 18) (.tmp 19) 55 55 rfl 5 Tryz.underlying55 (by kernel_rfl) w.heap.size 0 256 256 rfl 112 _ hK (by simp [z256_len]) _ _ l rfl hv1 ?_; intro w2 k2 g2))
  have k2' : KB w2 w.heap.size 112 (l.map bv).toArray := by
    rw [List.take_of_length_le (by rw [HL.out]; exact Nat.le_refl _), splice_all _ _ (by rw [List.length_map, List.length_map, HL.out, z256_len])] at k2
    exact k2
  have h2 : DS w2 p s := h1.keep fun x hx => g2.block x (h1.lt x hx) fun e => by have := h.lt x hx; injection e with e; omega
  have B2 : KeepP (Off p w) w w2 := B1.grown g2 (fun g e ho => by injection e with e; have := ho.1; omega) fun x hx => hx.1
  clear k2 hK hz hv hv1 h1 B1 hc g2
  go_frame
  refine wp_still_tail 6 (by kernel_rfl) (by kernel_rfl) (fun W => DS W p s ∧ KB W w.heap.size 112 (l.map bv).toArray ∧ KeepP (Off p w) w W) ⟨h2.drewN 1, k2'.drewN 1, B2.drewN 1⟩ ?_
  clear h2 k2' B2
  rintro W3 ⟨h3, k3, B3⟩
  have c1 := h3.c1
  simp only [List.take_succ_cons, List.take_zero, List.drop_succ_cons, List.drop_zero]
  still_step
  still_step
  still_step
  still_step
  still_step
  refine wpStill_load rfl 112 (.tmp 8) rfl rfl (run_load_sec HL.out k3.range) ?_
  go_frame
  refine wpStill_nil ?_
  clear c1 k3
  have hN := h3.ok.few
  go_wp2_with (first | (refine wpList_put_pm rfl (.tmp 24) (.tmp 25) (.tmp 26) rfl p.m _ _ rfl h3.pm (by omega) i HI.out l rfl rfl ?_; intro w4 pm4 g4; have h4 := h3.pmput HI.out HL.out pm4 g4) | (go_at_call 65; refine (act_any h4).mono ?_; rintro e w5 ⟨rfl, h5, g5⟩))
  go_ret
  exact ⟨rfl, h5, (B3.grown g4 (fun g e ho => by injection e with e; exact ho.2 (.inr (.inr e.symm))) fun x hx => hx.1).grown g5 (fun g e ho => by injection e with e; exact ho.2 (.inl e.symm)) fun x hx => hx.1⟩
theorem write_chk {w : World} {p : DA} {s : Dk} (h : DS w p s) (i : Int) (hne : chk s i ≠ 0) (v : Value) :
    Calls Tryz.prog 26 #[.pointer (some ⟨p.d, 0, none⟩), .int .i64 i, v] w fun e w' => e = .returned (.int .i64 (chk s i)) ∧ w = w' := by
  have hc := check_any h i
  generalize chk s i = c at *
  have hne2 : (c == 0) = false := by simpa using hne
  have hne3 : (c != 0) = true := by simpa using hne
  go_enter Tryz.func26, Tryz.ntmps26
  go_wp2_with (go_at_call 63; refine hc.mono ?_; rintro e w' ⟨rfl, rfl⟩)
  go_ret
  exact ⟨rfl, rfl⟩
end
section
open Go.RowKit
def over (l : List (List UInt8)) (g : Nat → Option (List UInt8)) : List (List UInt8) := l.mapIdx fun j s => (g j).getD s
theorem over_len (l : List (List UInt8)) (g : Nat → Option (List UInt8)) : (over l g).length = l.length := List.length_mapIdx
theorem over_at (l : List (List UInt8)) (g : Nat → Option (List UInt8)) (i : Nat) : (over l g)[i]? = (l[i]?).map fun s => (g i).getD s := by
  unfold over
  rw [List.getElem?_mapIdx]
theorem over_none (l : List (List UInt8)) (g : Nat → Option (List UInt8)) (h : ∀ j, g j = none) : over l g = l := by
  apply List.ext_getElem?
  intro i
  rw [over_at, h i]
  cases l[i]? <;> rfl
theorem over_set (l : List (List UInt8)) (g : Nat → Option (List UInt8)) (i : Nat) (x : List UInt8) : (over l g).set i x = over l (upd g i x) := by
  apply List.ext_getElem?
  intro j
  rw [over_at, List.getElem?_set, over_len, over_at]
  unfold upd
  by_cases hj : i = j
  · subst hj
    rw [if_pos rfl]
    by_cases hl : i < l.length
    · simp [hl]
    · simp [hl]
  · rw [if_neg hj, if_neg (fun e => hj e.symm)]
theorem over_256 {l : List (List UInt8)} {g : Nat → Option (List UInt8)} (h1 : ∀ s ∈ l, s.length = 256) (h2 : ∀ i s, g i = some s → s.length = 256) : ∀ s ∈ over l g, s.length = 256 := by
  intro s hs
  obtain ⟨i, hi⟩ := List.mem_iff_getElem?.1 hs
  rw [over_at] at hi
  cases hl : l[i]? with
  | none => rw [hl] at hi; cases hi
  | some t =>
    rw [hl] at hi
    simp only [Option.map_some, Option.some.injEq] at hi
    subst hi
    cases hg : g i with
    | none => exact h1 t (List.mem_of_getElem? hl)
    | some y => exact h2 i y hg
def Dk.with (s : Dk) (g : Nat → Option (List UInt8)) : Dk := { s with safe := over s.safe g }
theorem Dk.ok.with {s : Dk} (h : s.ok) {g : Nat → Option (List UInt8)} (hg : ∀ i x, g i = some x → x.length = 256) : (s.with g).ok := by
  refine { h with some_ := ?_, few := ?_, len := over_256 h.len hg, pend := fun i l hl => ?_ }
  · unfold Dk.with; rw [over_len]; exact h.some_
  · unfold Dk.with; rw [over_len]; exact h.few
  · unfold Dk.with; rw [over_len]; exact h.pend i l hl
def Dk.bare (s : Dk) : Dk := { s with pend := fun _ => none }
theorem Dk.ok.bare {s : Dk} (h : s.ok) : s.bare.ok := { h with pend := fun _ _ e => by cases e }
theorem DS.lay {w w' : World} {p : DA} {s : Dk} {g : Nat → Option (List UInt8)} (h : DS w p (s.with g)) {i : Nat} {x : List UInt8} (hi : i < s.safe.length) (hx : x.length = 256)
    (hk : KB w' p.b 112 (splice (secs (over s.safe g)) (i * 256) (x.map bv)).toArray) (hg : w.grownBy w' (some p.b)) (hok : (s.with (upd g i x)).ok) : DS w' p (s.with (upd g i x)) := by
  have hl : (s.with (upd g i x)).safe.length = (s.with g).safe.length := by show (over _ _).length = (over _ _).length; rw [over_len, over_len]
  refine { kb := ?_, sf := ?_, pm := ?_, db := h.db, dm := h.dm, bm := h.bm, ok := hok }
  · have := h.kb.grown hg (fun e => h.db (Option.some.inj e).symm)
    unfold dkRow at this ⊢
    rw [hl]
    exact this
  · have e := secs_set (l := over s.safe g) h.ok.len i (by rw [over_len]; exact hi) x hx
    rw [e, over_set] at hk
    exact hk
  · rw [hl]
    exact h.pm.keep (hg.block _ h.pm.lt fun e => h.bm (Option.some.inj e).symm)
def sofar (f : Nat → Option (List UInt8)) (left : Nat → Bool) : Nat → Option (List UInt8) := fun j => if left j then none else f j
theorem sofar_step (f : Nat → Option (List UInt8)) (left : Nat → Bool) (i : Nat) (x : List UInt8) (h : f i = some x) : sofar f (fun j => left j && !decide (j = i)) = upd (sofar f left) i x := by
  funext j
  unfold sofar upd
  by_cases hj : j = i
  · subst hj; simp [h]
  · simp [hj]
theorem sofar_256 {s : Dk} (h : s.ok) (left : Nat → Bool) : ∀ i x, sofar s.pend left i = some x → x.length = 256 := by
  intro i x hx
  unfold sofar at hx
  split at hx
  · cases hx
  · exact (h.pend i x hx).2
theorem sofar_end (f : Nat → Option (List UInt8)) {left : Nat → Bool} (h : ∀ i, left i = false) : sofar f left = f := by
  funext j
  simp [sofar, h j]
theorem DS.clear {w w' : World} {p : DA} {s : Dk} (h : DS w p s) (hp : PM w' p.m (fun _ => none) s.safe.length) (hg : w.grownBy w' (some p.m)) : DS w' p s.bare :=
  { h with kb := h.kb.grown hg (fun e => h.dm (Option.some.inj e).symm), sf := h.sf.grown hg (fun e => h.bm (Option.some.inj e).symm), pm := hp, ok := h.ok.bare }
def Dk.flushed (s : Dk) : Dk := ((s.with s.pend).bare).acted
set_option maxRecDepth 100000 in
set_option maxHeartbeats 1000000 in
theorem flush_ok {w : World} {p : DA} {s : Dk} (h : DS w p s) (hf : s.fuse ≠ 0) :
    Calls Tryz.prog 122 #[.pointer (some ⟨p.d, 0, none⟩)] w fun e w' => e = .returned (.int .i64 0) ∧ DS w' p s.flushed ∧ KeepP (Off p w) w w' := by
  have hp := power_ok h hf
  have c1 := h.c1
  have hlt := h.lt
  obtain ⟨Z, hZ⟩ : ∃ Z, Z = (z256.map bv).toArray := ⟨_, rfl⟩
  have hz : ∀ w : World, (zeroValue 112).run Tryz.prog w = .ok (.agg Z) w := by rw [hZ]; exact zero_sec
  have HZ := Lib.hid hZ
  clear hf hZ
  go_enter Tryz.func122, Tryz.ntmps122
  go_wp2_with (first | (go_at_call 105; refine hp.mono ?_; rintro e w' ⟨rfl, rfl⟩) | (refine wpList_range_pm rfl (.tmp 14) rfl p.m _ _ rfl h.pm ?_; intro w0 cnt0 hr0 g0))
  go_frame
  have D0 : DS w0 p (s.with (sofar s.pend fun i => (s.pend i).isSome)) := by
    have e : s.with (sofar s.pend fun i => (s.pend i).isSome) = s := by
      unfold Dk.with
      rw [over_none _ _ fun j => by unfold sofar; cases hj : s.pend j <;> simp [hj]]
    rw [e]
    exact h.keep fun x hx => g0.block x (hlt x hx) (by simp)
  have K0 : KeepP (Off p w) w w0 := (KeepP.refl _ w).grown g0 (by simp) fun x hx => hx.1
  have S0 := g0.size
  clear hp c1 g0
  go_loopw [4] (fun _ wr => ∃ (left : Nat → Bool) (cnt : Nat), PR wr p.m w.heap.size s.pend s.safe.length left cnt ∧ DS wr p (s.with (sofar s.pend left)) ∧ KeepP (Off p w) w wr) (fun _ wr => wr.rangeLeft p.m w.heap.size)
  case atStart => exact ⟨_, _, hr0, D0, K0⟩
  case round =>
    obtain ⟨left, cnt, hr, D1, K1⟩ := hrel
    go_wp2_with (refine wpList_next_pm rfl (.tmp 15) rfl p.m w.heap.size _ _ _ _ rfl hr ?_ ?_)
    · intro hl
      rw [sofar_end _ hl] at D1
      clear hr
      have c1 := D1.c1
      go_wp2_with (first | (refine wpList_clear_pm rfl (.tmp 31) rfl p.m _ _ rfl D1.pm ?_; intro w3 pm3 g3; have D3 := D1.clear pm3 g3) | (go_at_call 65; refine (act_any D3).mono ?_; rintro e w5 ⟨rfl, h5, g5⟩))
      go_ret
      exact ⟨rfl, h5, (K1.grown g3 (fun g e ho => by injection e with e; exact ho.2 (.inr (.inr e.symm))) fun x hx => hx.1).grown g5 (fun g e ho => by injection e with e; exact ho.2 (.inl e.symm)) fun x hx => hx.1⟩
    · intro i l w1 cnt1 hi hfi hli hr1 hlt1 g1 hs1 hen
      clear hs1
      have hl256 := (h.ok.pend i l hfi).2
      have D2 : DS w1 p (s.with (sofar s.pend left)) := D1.keep fun x hx => g1.block x (D1.lt x hx) fun e => by have := hlt x hx; injection e with e; omega
      have K2 : KeepP (Off p w) w w1 := K1.grown g1 (fun g e ho => by injection e with e; have := ho.1; omega) fun x hx => hx.1
      have S2 : w.heap.size < w1.heap.size := by have := hr1.lt; omega
      have HK : KB (w1.alloc (.cells Z 112)) w1.heap.size 112 (z256.map bv).toArray := by rw [← HZ.out]; exact KB.new _ _ _
      have D3 := D2.below ((Below.refl w1.heap.size w1).alloc (Nat.le_refl _) (.cells Z 112))
      have K3 := K2.new (.cells Z 112) fun x hx => hx.1
      have R3 := hr1.kept (World.grownBy_alloc w1 (.cells Z 112) none) (by simp) (by simp)
      have HL := Lib.hid hl256
      have HF := Lib.hid hfi
      have HI := Lib.hid hi
      have HLT := Lib.hid hlt1
      have hm := D3.lt p.m (.inr (.inr rfl))
      have hrl := hr.left_eq
      have HRL := Lib.hid hrl
      clear hr1 hl256 hfi hi hli hlt1 g1 D1 K1 hr hrl D2 K2
      go_wp2_with (refine wpList_store_kb rfl 112 (.tmp 5) (.tmp 20) rfl w1.heap.size (l.map bv) rfl rfl 112 _ HK 256 cells_sec (by rw [List.length_map, z256_len]) (by rw [List.length_map, HL.out]) (bytes_one _) ?_; intro w4 k4 g4)
      have D4 : DS w4 p (s.with (sofar s.pend left)) := D3.keep fun x hx => g4.block x (D3.lt x hx) fun e => by have := hlt x hx; injection e with e; omega
      have K4 : KeepP (Off p w) w w4 := K3.grown g4 (fun g e ho => by injection e with e; have := ho.1; omega) fun x hx => hx.1
      have R4 := R3.kept g4 (fun e => by have := hlt p.m (.inr (.inr rfl)); injection e with e; omega) (fun e => by injection e with e; omega)
      clear D3 K3 R3 HK g4 hen hm
      go_frame
      refine wp_still_tail 7 (by kernel_rfl) (by kernel_rfl) (fun W => DS W p (s.with (sofar s.pend left)) ∧ KB W w1.heap.size 112 (l.map bv).toArray ∧ KeepP (Off p w) w W ∧ PR W p.m w.heap.size s.pend s.safe.length (fun j => left j && !decide (j = i)) cnt1)
        ⟨D4.drewN 1, k4.drewN 1, K4.drewN 1, R4.kept (row := none) ⟨rfl, rfl, rfl, Nat.le_refl _, fun _ _ _ => rfl⟩ (by simp) (by simp)⟩ ?_
      clear D4 k4 K4 R4
      rintro W5 ⟨D5, k5, K5, R5⟩
      have c0 := D5.c0
      rw [show (s.with (sofar s.pend left)).safe.length = s.safe.length from over_len _ _] at c0
      have hi := HI.out
      simp only [List.take_succ_cons, List.take_zero, List.drop_succ_cons, List.drop_zero]
      still_step
      still_step
      still_step
      still_step
      still_step
      refine wpStill_load rfl 112 (.tmp 5) rfl rfl (run_load_sec HL.out k5.range) ?_
      go_frame
      still_step
      refine wpStill_nil ?_
      go_wp2_with (refine wpList_store_part rfl 112 (.tmp 27) (.tmp 26) rfl p.b (i * 256) (l.map bv) rfl rfl 112 _ D5.sf 256 cells_sec (by rw [List.length_map, HL.out]) (by rw [secs_len _ D5.ok.len, show (s.with (sofar s.pend left)).safe.length = s.safe.length from over_len _ _]; omega) (bytes_one _) ?_; intro w6 k6 g6)
      go_frame
      go_roundw
      case rel =>
        have R6 := R5.kept g6 (fun e => D5.bm (Option.some.inj e).symm) (fun e => by have := hlt p.b (.inr (.inl rfl)); injection e with e; omega)
        have hok : (s.with (upd (sofar s.pend left) i l)).ok := by
          rw [← sofar_step _ _ _ _ HF.out]
          exact h.ok.with (sofar_256 h.ok _)
        have D6 := D5.lay hi HL.out k6 g6 hok
        rw [← sofar_step _ _ _ _ HF.out] at D6
        exact ⟨_, cnt1, R6, D6, K5.grown g6 (fun g e ho => by injection e with e; exact ho.2 (.inr (.inl e.symm))) fun x hx => hx.1⟩
      case measure =>
        have R6 := R5.kept g6 (fun e => D5.bm (Option.some.inj e).symm) (fun e => by have := hlt p.b (.inr (.inl rfl)); injection e with e; omega)
        rw [R6.left_eq, HRL.out]
        exact HLT.out
theorem flush_dead {w : World} {p : DA} {s : Dk} (h : DS w p s) (hf : s.fuse = 0) : Calls Tryz.prog 122 #[.pointer (some ⟨p.d, 0, none⟩)] w fun e w' => e = .returned (.int .i64 8) ∧ w = w' := by
  have hp := power_dead h hf
  clear hf
  go_enter Tryz.func122, Tryz.ntmps122
  go_wp2_with (go_at_call 105; refine hp.mono ?_; rintro e w' ⟨rfl, rfl⟩)
  go_ret
  exact ⟨rfl, rfl⟩
end
section
open Go.RowKit
theorem clone2_any (S : Nat → Prop) (v : Value) (l : List UInt8) (w : World) (h : BS w S v l) (hl : l.length ≤ 140737488355328) :
    Calls Tryz.prog 64 #[v] w fun e w' => Fresh w e w' l := by
  obtain ⟨i0, hi, hz0, hz1, hz2⟩ := info_parts info_byte
  obtain ⟨A, c, rfl, _, _, hn⟩ := h.form
  have heq := fun (a : Option Addr) (l c : Nat) (w : World) => Lib.run_eql_slice_nil (P := Tryz.prog) w 55 5 a l c 0 0 Tryz.underlying55
  cases A with
  | none =>
    obtain rfl := hn rfl
    have h0 : l = [] := by
      apply List.eq_nil_of_length_eq_zero
      obtain ⟨_, _, e, hl', _⟩ := h
      injection e with _ _ e3
      omega
    subst h0
    go_enter Tryz.func64, Tryz.ntmps64
    go_wp2_with fail
    go_ret
    exact ⟨_, rfl, World.ownsRow_nil _ _ _ _, Below.refl _ _⟩
  | some ad =>
    have hx := h.alloc (.cells #[] 5)
    go_enter Tryz.func64, Tryz.ntmps64
    go_wp2_with (at_builtin; refine wpList_grow _ rfl _ _ _ rfl w.heap.size 5 i0 Tryz.underlying55 hi hz0 hz1 hz2 (.slice (some ⟨w.heap.size, 0, none⟩) 0 0) [] rfl (World.ownsRow_lit w #[] 0 (Nat.le_refl _) (by simp [maxLen]) rfl) S _ l rfl hx (by simp; omega) (by simp) ?_; intro v1 w1 hown hg _)
    go_ret
    exact ⟨_, rfl, hown, ((Below.refl _ _).alloc (Nat.le_refl _) _).grown hg (by simp) (by simp [Value.ownBlock])⟩
end
section
open Go.RowKit
def Dk.now (s : Dk) (i : Nat) : List UInt8 := (s.pend i).getD (s.safe.getD i [])
theorem Dk.ok.now_len {s : Dk} (h : s.ok) (i : Nat) (hi : i < s.safe.length) : (s.now i).length = 256 := by
  unfold Dk.now
  cases hp : s.pend i with
  | some l => exact (h.pend i l hp).2
  | none =>
    rw [Option.getD_none, List.getD_eq_getElem?_getD, List.getElem?_eq_getElem hi]
    exact h.len _ (List.getElem_mem hi)
theorem KB.sl {w : World} {g : Nat} {t : TypeId} {l : List UInt8} (h : KB w g t (l.map bv).toArray) (hn : l.length = 256) : BS w (fun b => b = g) (.slice (some ⟨g, 0, none⟩) 256 256) l := by
  rw [← hn]
  refine ⟨_, _, rfl, Nat.le_refl _, by rw [hn]; unfold maxLen; omega, (fun h => by cases h), fun _ => ⟨g, 0, rfl, rfl, h.lt, fun j u hu => ?_⟩⟩
  rw [Nat.zero_add, h.cell]
  simp [hu]
def ReadAs (w : World) (l : List UInt8) (e : Ending) (w' : World) : Prop :=
  ∃ v, e = .returned (.tuple #[v, .int .i64 0]) ∧ w'.ownsRow w.heap.size 5 1 v l.length (l.map bv) ∧ Below w.heap.size w w'
set_option maxRecDepth 100000 in
set_option maxHeartbeats 1000000 in
theorem read_ok {w : World} {p : DA} {s : Dk} (h : DS w p s) (i : Nat) (hi : i < s.safe.length) (hf : s.fuse ≠ 0) :
    Calls Tryz.prog 25 #[.pointer (some ⟨p.d, 0, none⟩), .int .i64 (i : Int)] w (ReadAs w (s.now i)) := by
  have hc := check_any h i
  rw [show chk s i = 0 from by simp [chk, hf]; omega] at hc
  have hlen := h.ok.now_len i hi
  obtain ⟨Z, hZ⟩ : ∃ Z, Z = (z256.map bv).toArray := ⟨_, rfl⟩
  have hz : ∀ w : World, (zeroValue 112).run Tryz.prog w = .ok (.agg Z) w := by rw [hZ]; exact zero_sec
  have HK : KB (w.alloc (.cells Z 112)) w.heap.size 112 (z256.map bv).toArray := by rw [hZ]; exact KB.new _ _ _
  have D1 := h.below ((Below.refl w.heap.size w).alloc (Nat.le_refl _) (.cells Z 112))
  have B1 := (Below.refl w.heap.size w).alloc (Nat.le_refl _) (.cells Z 112)
  have hlt := h.lt
  have hN := h.ok.few
  have hcl := fun (l : List UInt8) (W : World) (hk : KB W w.heap.size 112 (l.map bv).toArray) (hl : l.length = 256) => clone2_any _ _ l W (hk.sl hl) (by omega)
  have c1 := h.c1
  have HCL := Lib.hid hcl
  clear hf hZ hcl
  cases hp : s.pend i with
  | some l =>
    have hnow : s.now i = l := by simp [Dk.now, hp]
    rw [hnow] at hlen ⊢
    have HL := Lib.hid hlen
    have HP := Lib.hid hp
    clear hlen hnow hp
    go_enter Tryz.func25, Tryz.ntmps25
    go_wp2_with (first
      | (go_at_call 63; refine hc.mono ?_; rintro e w' ⟨rfl, rfl⟩)
      | (refine wpList_look_pm rfl (.tmp 19) (.tmp 20) rfl p.m _ _ rfl h.pm i (by omega) rfl (.tuple #[secV l, .bool true]) (by rw [HP.out]; rfl) ?_)
      | (refine wpList_store_kb rfl 112 (.tmp 7) (.tmp 22) rfl w.heap.size (l.map bv) rfl rfl 112 _ HK 256 cells_sec (by rw [List.length_map, z256_len]) (by rw [List.length_map, HL.out]) (bytes_one _) ?_; intro w4 k4 g4)
      | (go_at_call 64; refine (HCL.out l _ k4 HL.out).mono ?_; rintro e w5 ⟨v5, rfl, how5, b5⟩))
    go_ret2
    have B4 : Below w.heap.size w w4 := B1.grown g4 B1.size fun g e => by injection e with e; omega
    exact ⟨v5, rfl, own_base how5 B4.size, B4.trans (b5.mono B4.size)⟩
  | none =>
    have hnow : s.now i = s.safe[i] := by simp [Dk.now, hp, List.getD_eq_getElem?_getD, List.getElem?_eq_getElem hi]
    rw [hnow] at hlen ⊢
    have hr := fun (W : World) (hd : DS W p s) => hd.sf.sec h.ok.len i hi
    generalize s.safe[i] = l at *
    have HL := Lib.hid hlen
    have HP := Lib.hid hp
    have HR := Lib.hid hr
    have hd4 : ∀ w4, (w.alloc (.cells Z 112)).grownBy w4 (some w.heap.size) → DS w4 p s := fun w4 g4 => D1.keep fun x hx => g4.block x (D1.lt x hx) fun e => by
      have := hlt x hx
      injection e with e
      omega
    have HD := Lib.hid hd4
    clear hlen hnow hp hr hd4
    go_enter Tryz.func25, Tryz.ntmps25
    go_wp2_with (first
      | (go_at_call 63; refine hc.mono ?_; rintro e w' ⟨rfl, rfl⟩)
      | (refine wpList_look_pm rfl (.tmp 19) (.tmp 20) rfl p.m _ _ rfl h.pm i (by omega) rfl (.tuple #[secV z256, .bool false]) (by rw [HP.out]; rfl) ?_)
      | (refine wpList_store_kb rfl 112 (.tmp 7) (.tmp 22) rfl w.heap.size (z256.map bv) rfl rfl 112 _ HK 256 cells_sec (by rw [List.length_map, z256_len]) (by rw [List.length_map, z256_len]) (bytes_one _) ?_; intro w4 k4 g4; have D4 := HD.out w4 g4; have c0 := D4.c0)
      | (refine wpList_load_part rfl 112 (.tmp 31) rfl p.b (i * 256) rfl (l.map bv) (HR.out _ D4) _ Tryz.underlying112 rfl 256 cells_sec (by rw [List.length_map, HL.out]) ?_)
      | (refine wpList_store_kb rfl 112 (.tmp 7) (.tmp 32) rfl w.heap.size (l.map bv) rfl rfl 112 _ k4 256 cells_sec (by rw [List.length_map, z256_len]) (by rw [List.length_map, HL.out]) (bytes_one _) ?_; intro w6 k6 g6)
      | (go_at_call 64; refine (HCL.out l _ k6 HL.out).mono ?_; rintro e w5 ⟨v5, rfl, how5, b5⟩))
    go_ret2
    have B4 : Below w.heap.size w w6 := (B1.grown g4 B1.size fun g e => by injection e with e; omega).grown g6 (by have := g4.size; have := B1.size; omega) fun g e => by injection e with e; omega
    exact ⟨v5, rfl, own_base how5 B4.size, B4.trans (b5.mono B4.size)⟩
theorem read_chk {w : World} {p : DA} {s : Dk} (h : DS w p s) (i : Int) (hne : chk s i ≠ 0) :
    Calls Tryz.prog 25 #[.pointer (some ⟨p.d, 0, none⟩), .int .i64 i] w fun e w' => e = .returned (.tuple #[.slice none 0 0, .int .i64 (chk s i)]) ∧ w = w' := by
  have hc := check_any h i
  generalize chk s i = c at *
  have hne2 : (c == 0) = false := by simpa using hne
  have hne3 : (c != 0) = true := by simpa using hne
  go_enter Tryz.func25, Tryz.ntmps25
  go_wp2_with (go_at_call 63; refine hc.mono ?_; rintro e w' ⟨rfl, rfl⟩)
  go_ret2
  exact ⟨rfl, rfl⟩
theorem read_nil (w : World) (i : Int) : Calls Tryz.prog 25 #[.pointer none, .int .i64 i] w fun e w' => e = .returned (.tuple #[.slice none 0 0, .int .i64 9]) ∧ w = w' := by
  go_enter Tryz.func25, Tryz.ntmps25
  go_wp2_with (go_at_call 63; refine (check_nil _ _).mono ?_; rintro e w' ⟨rfl, rfl⟩)
  go_ret2
  exact ⟨rfl, rfl⟩
end
end Go.Proofs.YteddmnoeljakpaaGreatDoor
