/-
  SuB: Open, over the loaded program: its contract. No condition but what each theorem names.
  WaV: live: a patch that is done, and the page's examples, over the loaded program. No condition but the table roots.
  SuC: Disks that hold files: what Open takes up of them; a store and its disk together, through Do, crashes and Open. No condition but what each theorem names.
  SuD: What the document tells of files, over the loaded program: May, Size, Find, Used, fresh. No condition but what each theorem names.
-/
import Derived.Test.YteddmnoeljakpaaGreatDoorSw40
import Derived.Test.YteddmnoeljakpaaGreatDoorSw17
import Derived.Test.YteddmnoeljakpaaGreatDoorSw18
import Derived.Test.YteddmnoeljakpaaGreatDoorSw21
import Derived.Test.YteddmnoeljakpaaGreatDoorSw22
set_option linter.unusedVariables false
set_option maxRecDepth 100000
namespace Go.Proofs.YteddmnoeljakpaaGreatDoor
section
open Go.RowKit
def ldA (c : CI) (s : Dk) : Nat → Option (List Nd)
  | 0 => some []
  | k + 1 => (ldA c s k).bind fun nl => ldN c nl k (s.now (c.cn.nodes + k))
theorem ld_len {c : CI} {nl nl' : List Nd} {i : Nat} {x : List UInt8} (h : ldN c nl i x = some nl') : nl'.length ≤ nl.length + 1 := by
  unfold ldN at h
  split at h
  · obtain rfl := Option.some.inj h; omega
  split at h
  · cases h
  split at h
  · cases h
  split at h
  · cases h
  obtain rfl := Option.some.inj h
  unfold putN
  rw [List.length_append]
  have := List.length_filter_le (fun r : Nd => decide (r.2.name ≠ (i, (igetS (getS x).2.1 c.data).1).2.name)) nl
  exact Nat.add_le_add_right this 1
theorem ldA_len {c : CI} {s : Dk} : ∀ {k : Nat} {nl : List Nd}, ldA c s k = some nl → nl.length ≤ k
  | 0, nl, h => by
    obtain rfl := Option.some.inj h
    exact Nat.le_refl _
  | k + 1, nl, h => by
    obtain ⟨m, h1, h2⟩ := Option.bind_eq_some_iff.1 h
    have := ldA_len h1
    have := ld_len h2
    omega
theorem ldA_none {c : CI} {s : Dk} {k : Nat} (h : ldA c s k = none) : ∀ {j : Nat}, k ≤ j → ldA c s j = none
  | 0, hj => by
    obtain rfl : k = 0 := by omega
    exact h
  | j + 1, hj => by
    by_cases hk : k = j + 1
    · rw [← hk]; exact h
    · show (ldA c s j).bind _ = none
      rw [ldA_none h (j := j) (by omega)]
      rfl
section
variable {w : World} {a : SA} {c : CI} {nl : List Nd} {s : Dk} {br : Bool}
theorem load_dead (h : ST w a c nl s br) (i : Nat) (hi : i < c.cn.files) (hf : s.fuse = 0) :
    Calls Tryz.prog 60 #[.pointer (some ⟨a.sg, 0, none⟩), .int .i64 (i : Int)] w fun e w' => e = .returned (.int .i64 8) ∧ Below w.heap.size w w' := by
  have hnd := fun W => nodes_st h.may W
  have hbase : c.cn.files ≤ 64 ∧ c.cn.nodes ≤ 1024 := by
    have := h.may.ok.all
    have := h.may.ok.files2
    unfold Cn.nodes
    omega
  have hrd := fun W (b : Below w.heap.size w W) => read_chk (h.below b).ds ((c.cn.nodes : Int) + (i : Int)) (by simp [chk, hf])
  rw [show chk s ((c.cn.nodes : Int) + (i : Int)) = 8 from by simp [chk, hf]] at hrd
  have hpI : IntKind.i64.wrap ((c.cn.nodes : Int) + (i : Int)) = (c.cn.nodes : Int) + (i : Int) := by rw [IntKind.wrap_i64]; omega
  have HC : Hid (∀ W, Below w.heap.size w W → W.cell? ⟨a.sg, 0, none⟩ = some (.pointer (some ⟨a.p.d, 0, none⟩)) ∧ W.cell? ⟨a.sg, 2, none⟩ = some (.int .i64 c.log) ∧ W.cell? ⟨a.sg, 3, none⟩ = some (.int .i64 c.files) ∧ W.cell? ⟨a.sg, 4, none⟩ = some (.int .i64 c.slots) ∧ W.cell? ⟨a.sg, 5, none⟩ = some (.int .i64 c.data)) :=
    fun W b => ⟨(h.below b).c0, (h.below b).c2, (h.below b).c3, (h.below b).c4, (h.below b).c5⟩
  have HND := Lib.hid hnd
  have HRD := Lib.hid hrd
  have BD := Below_drawn (Below.refl w.heap.size w) 1
  clear h hnd hrd hf
  go_enter Tryz.func60, Tryz.ntmps60
  go_wp2_with fail
  rename_i KK hKK
  have HKK := Lib.hid hKK
  clear hKK
  refine wp_region_held_drew (S := (fun W => W.cell? ⟨a.sg, 0, none⟩ = some (.pointer (some ⟨a.p.d, 0, none⟩)) ∧ W.cell? ⟨a.sg, 2, none⟩ = some (.int .i64 c.log) ∧ W.cell? ⟨a.sg, 3, none⟩ = some (.int .i64 c.files) ∧ W.cell? ⟨a.sg, 4, none⟩ = some (.int .i64 c.slots) ∧ W.cell? ⟨a.sg, 5, none⟩ = some (.int .i64 c.data))) (by kernel_rfl) (HC.out _ BD) (fun hHeld => ?_)
  refine hyY (some 13) 0 rfl hHeld ?_; go_frame
  refine hyY (some 14) 1 rfl hHeld ?_; go_frame
  refine hyY (some 15) 2 rfl hHeld ?_; go_frame
  refine hyY (some 16) 3 rfl hHeld ?_; go_frame
  refine hyY (some 17) 4 rfl hHeld ?_; go_frame
  refine hyY (some 18) 5 rfl hHeld ?_; go_frame
  refine hyY (some 19) 6 rfl hHeld ?_; go_frame
  refine hyY (some 20) 7 rfl hHeld ?_; go_frame
  refine hyY (some 22) 9 rfl hHeld ?_; go_frame
  refine hyO (some 21) 8 rfl (fun K hK => ?_)
  go_simp
  go_at_call 33
  refine (HND.out _).mono ?_
  rintro e w2 ⟨rfl, b2⟩
  have BD2 := BD.trans (b2.mono BD.size)
  go_wp2_with fail
  refine hK.out _ _ ?_ (fun hH2 => ?_)
  · first | exact HC.out _ BD | exact HC.out _ BD2
  clear hHeld hK K; have hHeld := hH2; clear hH2; try go_frame
  refine hyY (some 23) 10 rfl hHeld ?_; go_frame
  refine hyO (some 24) 11 rfl (fun K hK => ?_)
  go_simp
  go_at_call 25
  refine (HRD.out _ BD2).mono ?_
  rintro e w3 ⟨rfl, rfl⟩
  go_wp2_with fail
  refine hK.out _ _ ?_ (fun hH2 => ?_)
  · first | exact HC.out _ BD | exact HC.out _ BD2
  clear hHeld hK K; have hHeld := hH2; clear hH2; try go_frame
  refine hyY (some 12) 12 rfl hHeld ?_; go_frame
  refine hyY (some 25) 13 rfl hHeld ?_; go_frame
  refine hyY (some 26) 14 rfl hHeld ?_; go_frame
  refine hyY (some 5) 15 rfl hHeld ?_; go_frame
  refine hyY (some 6) 16 rfl hHeld ?_; go_frame
  refine wpAnyH_done (by kernel_rfl) ?_ _
  have hKK := HKK.out
  go_wp2_with fail
  go_ret
  exact ⟨rfl, BD2⟩
end
theorem sopen_nil (w : World) (c : CI) : Calls Tryz.prog 22 #[.pointer none, cfgV c] w fun e w' => e = .returned (.tuple #[.pointer none, .int .i64 9]) ∧ Below w.heap.size w w' := by
  have hr := fun W => read_nil W 0
  have B0 := (Below.refl w.heap.size w).alloc (Nat.le_refl _) (.cells #[.int .i64 c.log, .int .i64 c.files, .int .i64 c.slots, .int .i64 c.data] 23)
  unfold cfgV
  go_enter Tryz.func22, Tryz.ntmps22
  go_wp2_with fail
  refine (hr _).mono ?_
  rintro e w1 ⟨rfl, rfl⟩
  go_wp2_with fail
  go_ret2
  exact ⟨rfl, B0⟩
theorem sopen_size {w : World} {p : DA} {s : Dk} (h : DS w p s) (c : CI) (hne : (s.safe.length : Int) ≠ c.size) : Calls Tryz.prog 22 #[.pointer (some ⟨p.d, 0, none⟩), cfgV c] w fun e w' => e = .returned (.tuple #[.pointer none, .int .i64 1]) ∧ Below w.heap.size w w' := by
  have B0 := (Below.refl w.heap.size w).alloc (Nat.le_refl _) (.cells #[.int .i64 c.log, .int .i64 c.files, .int .i64 c.slots, .int .i64 c.data] 23)
  have K0 := KB.new w 23 #[.int .i64 c.log, .int .i64 c.files, .int .i64 c.slots, .int .i64 c.data]
  have hr := read_first (h.below B0)
  have HSZ := Lib.hid (fun W (b : Below w.heap.size w W) => size_any (h.below b))
  have HSC := Lib.hid (fun W => ssize_any c W)
  have HD := Lib.hid (show ((s.safe.length : Int) != c.size) = true from by simpa using hne)
  generalize c.size = cz at *
  generalize (s.safe.length : Int) = N at *
  clear h hne
  unfold cfgV at *
  go_enter Tryz.func22, Tryz.ntmps22
  go_wp2_with fail
  refine hr.mono ?_
  rintro e w1 ⟨A, k, cc, x, rfl, hx, b1⟩
  have hx1 : (x == 9) = false := by simpa using hx
  have K1 := K0.below b1 K0.lt
  have B1 := B0.trans (b1.mono B0.size)
  have hsz := K1.lt
  have BD := Below_drawn B1 1
  have KD : KB w1.drew w.heap.size 23 #[.int .i64 c.log, .int .i64 c.files, .int .i64 c.slots, .int .i64 c.data] := K1.drewN 1
  clear hr b1 B0 K0
  go_wp2_with fail
  rename_i KK hKK
  have HKK := Lib.hid hKK
  clear hKK
  refine wp_region_held_drew (S := (fun W => W.cell? ⟨w.heap.size, 0, none⟩ = some (.int .i64 c.log) ∧ W.cell? ⟨w.heap.size, 1, none⟩ = some (.int .i64 c.files) ∧ W.cell? ⟨w.heap.size, 2, none⟩ = some (.int .i64 c.slots) ∧ W.cell? ⟨w.heap.size, 3, none⟩ = some (.int .i64 c.data))) (by kernel_rfl) ⟨KD.cell 0, KD.cell 1, KD.cell 2, KD.cell 3⟩ (fun hHeld => ?_)
  refine hyY (some 22) 0 rfl hHeld ?_; go_frame
  refine hyY (some 24) 2 rfl hHeld ?_; go_frame
  refine hyO (some 23) 1 rfl (fun K hK => ?_)
  go_simp
  go_at_call 58
  refine (HSZ.out _ BD).mono ?_
  rintro e w2 ⟨rfl, rfl⟩
  go_wp2_with fail
  refine hK.out _ _ ?_ (fun hH2 => ?_)
  · first | exact hHeld | exact ⟨(KD.below b3 KD.lt).cell 0, (KD.below b3 KD.lt).cell 1, (KD.below b3 KD.lt).cell 2, (KD.below b3 KD.lt).cell 3⟩
  clear hHeld hK K; have hHeld := hH2; clear hH2; try go_frame
  refine hyO (some 25) 3 rfl (fun K hK => ?_)
  go_simp
  go_at_call 11
  refine (HSC.out _).mono ?_
  rintro e w3 ⟨rfl, b3⟩
  go_wp2_with fail
  refine hK.out _ _ ?_ (fun hH2 => ?_)
  · first | exact hHeld | exact ⟨(KD.below b3 KD.lt).cell 0, (KD.below b3 KD.lt).cell 1, (KD.below b3 KD.lt).cell 2, (KD.below b3 KD.lt).cell 3⟩
  clear hHeld hK K; have hHeld := hH2; clear hH2; try go_frame
  refine hyY (some 26) 4 rfl hHeld ?_; go_frame
  refine wpAnyH_done (by kernel_rfl) ?_ _
  have hKK := HKK.out
  have hd := HD.out
  go_wp2_with fail
  go_ret2
  exact ⟨rfl, BD.trans (b3.mono BD.size)⟩
structure OpAs (w : World) (p : DA) (c : CI) (s : Dk) (e : Ending) (w' : World) : Prop where
  ds : DS w' p (openD c.cn.log s).1
  keep : KeepP (Off p w) w w'
  log : (openD c.cn.log s).2 ≠ 0 → e = .returned (.tuple #[.pointer none, .int .i64 (openD c.cn.log s).2])
  dead : (openD c.cn.log s).2 = 0 → (openD c.cn.log s).1.fuse = 0 → e = .returned (.tuple #[.pointer none, .int .i64 8])
  bad : (openD c.cn.log s).2 = 0 → (openD c.cn.log s).1.fuse ≠ 0 → ldA c (openD c.cn.log s).1 c.cn.files = none → e = .returned (.tuple #[.pointer none, .int .i64 17])
  good : (openD c.cn.log s).2 = 0 → (openD c.cn.log s).1.fuse ≠ 0 → ∀ nl, ldA c (openD c.cn.log s).1 c.cn.files = some nl →
    ∃ a : SA, a.p = p ∧ e = .returned (.tuple #[.pointer (some ⟨a.sg, 0, none⟩), .int .i64 0]) ∧ ST w' a c nl (openD c.cn.log s).1 false ∧ ∀ x, a.has x → p.has x ∨ w.heap.size ≤ x
set_option maxHeartbeats 8000000 in
theorem sopen_any {w : World} {p : DA} {s : Dk} (h : DS w p s) (c : CI) (hm : c.may) (hl : (s.safe.length : Int) = c.sum) (ht : Tab w) (htp : ¬ p.has 1) :
    Calls Tryz.prog 22 #[.pointer (some ⟨p.d, 0, none⟩), cfgV c] w (OpAs w p c s) := by
  have hsz : (s.safe.length : Int) = c.size := by unfold CI.size; rw [if_pos hm]; exact hl
  have hlog : c.log = (c.cn.log : Int) := by
    have := hm.1.1.1
    unfold CI.cn
    simp only
    omega
  have hfl : c.files = (c.cn.files : Int) := by
    have := hm.1.2.1.1
    unfold CI.cn
    simp only
    omega
  have hN : c.cn.log + 2 ≤ s.safe.length := by
    have := hm.1
    have := hm.1.2.1.1
    have := hm.1.2.2.1.1
    have := hm.1.2.2.2.1
    unfold CI.sum at hl
    omega
  have hn2 : 2 ≤ c.cn.log := hm.ok.log1
  obtain ⟨D, hD⟩ : ∃ D, D = OpAs w p c s := ⟨_, rfl⟩
  rw [← hD]
  have HD : Hid (∀ e w', OpAs w p c s e w' → D e w') := fun e w' hh => by rw [hD]; exact hh
  have B0 := (Below.refl w.heap.size w).alloc (Nat.le_refl _) (.cells #[.int .i64 c.log, .int .i64 c.files, .int .i64 c.slots, .int .i64 c.data] 23)
  have K0 := KB.new w 23 #[.int .i64 c.log, .int .i64 c.files, .int .i64 c.slots, .int .i64 c.data]
  have hr := read_first (h.below B0)
  have HSZ := Lib.hid (fun W (b : Below w.heap.size w W) => size_any (h.below b))
  have HSC := Lib.hid (fun W => ssize_any c W)
  have HWO := Lib.hid (fun W (b : Below w.heap.size w W) => open_go c.cn.log (h.below b) hn2 hN (ht.below b) htp)
  have HB := Lib.hid (show ((s.safe.length : Int) != c.size) = false from by rw [← hsz]; simp)
  have HT := Lib.hid ht
  have HTP := Lib.hid htp
  have HLG := Lib.hid hlog
  have HFL := Lib.hid hfl
  have HM := Lib.hid hm
  have HLN := Lib.hid hl
  have HPL : Hid (∀ x, p.has x → x < w.heap.size) := h.lt
  generalize c.size = cz at *
  obtain ⟨N, hNN⟩ : ∃ N, N = (s.safe.length : Int) := ⟨_, rfl⟩
  rw [← hNN] at HSZ HB
  clear h hD hsz hN hl ht htp hm hNN hlog hfl hn2
  unfold cfgV at *
  go_enter Tryz.func22, Tryz.ntmps22
  go_wp2_with fail
  refine hr.mono ?_
  rintro e w1 ⟨A, k, cc, x, rfl, hx, b1⟩
  have hx1 : (x == 9) = false := by simpa using hx
  have K1 := K0.below b1 K0.lt
  have B1 := B0.trans (b1.mono B0.size)
  have hsz := K1.lt
  have BD := Below_drawn B1 1
  have KD : KB w1.drew w.heap.size 23 #[.int .i64 c.log, .int .i64 c.files, .int .i64 c.slots, .int .i64 c.data] := K1.drewN 1
  clear hr b1 B0 K0
  go_wp2_with fail
  rename_i KK hKK
  have HKK := Lib.hid hKK
  clear hKK
  refine wp_region_held_drew (S := (fun W => W.cell? ⟨w.heap.size, 0, none⟩ = some (.int .i64 c.log) ∧ W.cell? ⟨w.heap.size, 1, none⟩ = some (.int .i64 c.files) ∧ W.cell? ⟨w.heap.size, 2, none⟩ = some (.int .i64 c.slots) ∧ W.cell? ⟨w.heap.size, 3, none⟩ = some (.int .i64 c.data))) (by kernel_rfl) ⟨KD.cell 0, KD.cell 1, KD.cell 2, KD.cell 3⟩ (fun hHeld => ?_)
  refine hyY (some 22) 0 rfl hHeld ?_; go_frame
  refine hyY (some 24) 2 rfl hHeld ?_; go_frame
  refine hyO (some 23) 1 rfl (fun K hK => ?_)
  go_simp
  go_at_call 58
  refine (HSZ.out _ BD).mono ?_
  rintro e w2 ⟨rfl, rfl⟩
  go_wp2_with fail
  refine hK.out _ _ ?_ (fun hH2 => ?_)
  · first | exact hHeld | exact ⟨(KD.below b3 KD.lt).cell 0, (KD.below b3 KD.lt).cell 1, (KD.below b3 KD.lt).cell 2, (KD.below b3 KD.lt).cell 3⟩
  clear hHeld hK K; have hHeld := hH2; clear hH2; try go_frame
  refine hyO (some 25) 3 rfl (fun K hK => ?_)
  go_simp
  go_at_call 11
  refine (HSC.out _).mono ?_
  rintro e w3 ⟨rfl, b3⟩
  go_wp2_with fail
  refine hK.out _ _ ?_ (fun hH2 => ?_)
  · first | exact hHeld | exact ⟨(KD.below b3 KD.lt).cell 0, (KD.below b3 KD.lt).cell 1, (KD.below b3 KD.lt).cell 2, (KD.below b3 KD.lt).cell 3⟩
  clear hHeld hK K; have hHeld := hH2; clear hH2; try go_frame
  refine hyY (some 26) 4 rfl hHeld ?_; go_frame
  refine wpAnyH_done (by kernel_rfl) ?_ _
  have hKK := HKK.out
  have hd := HB.out
  have B3 := BD.trans (b3.mono BD.size)
  have K3 := KD.below b3 KD.lt
  have hwo := HWO.out w3 B3
  rw [← HLG.out] at hwo
  have k0 := K3.cell 0
  have hsz3 := K3.lt
  clear K1 B1 BD KD hHeld b3 HSC HSZ HWO
  go_wp2_with fail
  refine hwo.mono ?_
  rintro e w4 ⟨d4, k4, h1, h2⟩
  have k4w : KeepP (Off p w) w w4 := (KeepP.of_below B3 fun x hx => hx.1).trans (k4.mono fun x hx => ⟨Nat.lt_of_lt_of_le hx.1 B3.size, hx.2⟩)
  by_cases ho : (openD c.cn.log s).2 = 0
  · obtain ⟨lg, rfl, hlg, hlw⟩ := h1 ho
    have K4 := K3.keepP k4 ⟨K3.lt, fun e => by have := HPL.out _ e; omega⟩
    have r0 : w4.cell? ⟨w.heap.size, 0, none⟩ = some (.int .i64 c.log) := K4.cell 0
    have r1 : w4.cell? ⟨w.heap.size, 1, none⟩ = some (.int .i64 c.files) := K4.cell 1
    have r2 : w4.cell? ⟨w.heap.size, 2, none⟩ = some (.int .i64 c.slots) := K4.cell 2
    have r3 : w4.cell? ⟨w.heap.size, 3, none⟩ = some (.int .i64 c.data) := K4.cell 3
    have hsz4 := K4.lt
    have hs34 := k4.size
    have hs3 := B3.size
    obtain ⟨a, ha⟩ : ∃ a : SA, a = ⟨w4.heap.size + 1, lg, w4.heap.size, p⟩ := ⟨_, rfl⟩
    have hlgl := KB.lt hlg
    have hst : ST ((w4.alloc (.map #[] 0)).alloc (.cells #[.pointer (some ⟨p.d, 0, none⟩), .pointer (some ⟨lg, 0, none⟩), .int .i64 c.log, .int .i64 c.files, .int .i64 c.slots, .int .i64 c.data, .map (some w4.heap.size)] 82)) a c [] (openD c.cn.log s).1 false := by
      subst ha
      have hb := (Below.refl w4.heap.size w4).alloc (Nat.le_refl _) (.map #[] 0)
      have hb2 := hb.alloc hb.size (.cells #[.pointer (some ⟨p.d, 0, none⟩), .pointer (some ⟨lg, 0, none⟩), .int .i64 c.log, .int .i64 c.files, .int .i64 c.slots, .int .i64 c.data, .map (some w4.heap.size)] 82)
      refine ⟨?_, KB.below hlg hb2 hlgl, d4.below hb2, ?_, ((HT.out.keep k4w.size (k4w.block _ ⟨HT.out.1, HTP.out⟩)).below hb2), ?_, HM.out, ?_, fun q hq => (by cases hq), Nat.zero_le _⟩
      · have := KB.new (w4.alloc (.map #[] 0)) 82 #[.pointer (some ⟨p.d, 0, none⟩), .pointer (some ⟨lg, 0, none⟩), .int .i64 c.log, .int .i64 c.files, .int .i64 c.slots, .int .i64 c.data, .map (some w4.heap.size)]
        rw [World.size_alloc] at this
        exact this
      · have := MF.empty w4 (fun _ => False)
        exact this.keep (by simp) (Below.heap_alloc _ _ _ (by simp)) (fun b hb _ => absurd hb (by simp)) fun b hb => absurd hb (by simp)
      · have hp : ∀ x, w3.heap.size ≤ x → ¬ p.has x := fun x hx e => by have := HPL.out x e; omega
        refine ⟨hp _ (show w3.heap.size ≤ w4.heap.size + 1 by omega), hp _ hlw, hp _ (show w3.heap.size ≤ w4.heap.size by omega), (show w4.heap.size + 1 ≠ lg by omega), (show w4.heap.size + 1 ≠ w4.heap.size by omega), (show lg ≠ w4.heap.size by omega), ?_⟩
        have hr := HT.out.1
        rintro (e | e | e | e)
        · exact HTP.out e
        · have : 1 = w4.heap.size + 1 := e
          omega
        · have : 1 = lg := e
          omega
        · have : 1 = w4.heap.size := e
          omega
      · rw [openD_len]
        exact HLN.out
    have hha : ∀ x, a.has x → p.has x ∨ w.heap.size ≤ x := by
      subst ha
      rintro x (e | e | e | e)
      · exact .inl e
      · exact .inr (by have : x = w4.heap.size + 1 := e; omega)
      · exact .inr (by have : x = lg := e; omega)
      · exact .inr (by have : x = w4.heap.size := e; omega)
    have hap : a.p = p := by rw [ha]
    have hasg : a.sg = w4.heap.size + 1 := by rw [ha]
    have k5w : KeepP (Off p w) w ((w4.alloc (.map #[] 0)).alloc (.cells #[.pointer (some ⟨p.d, 0, none⟩), .pointer (some ⟨lg, 0, none⟩), .int .i64 c.log, .int .i64 c.files, .int .i64 c.slots, .int .i64 c.data, .map (some w4.heap.size)] 82)) := (k4w.new _ fun x hx => hx.1).new _ fun x hx => hx.1
    have K5 := (K4.alloc (.map #[] 0)).alloc (.cells #[.pointer (some ⟨p.d, 0, none⟩), .pointer (some ⟨lg, 0, none⟩), .int .i64 c.log, .int .i64 c.files, .int .i64 c.slots, .int .i64 c.data, .map (some w4.heap.size)] 82)
    have f1 : ((w4.alloc (.map #[] 0)).alloc (.cells #[.pointer (some ⟨p.d, 0, none⟩), .pointer (some ⟨lg, 0, none⟩), .int .i64 c.log, .int .i64 c.files, .int .i64 c.slots, .int .i64 c.data, .map (some w4.heap.size)] 82)).cell? ⟨w.heap.size, 1, none⟩ = some (.int .i64 c.files) := K5.cell 1
    have hmm := @run_makeMap Tryz.prog
    have HO := Lib.hid ho
    have hfl := HFL.out
    rw [hfl] at hst k5w f1 r1
    have HST := Lib.hid hst
    have HHA := Lib.hid hha
    have HAP := Lib.hid hap
    have HK5 := Lib.hid k5w
    obtain ⟨s1, hs1⟩ : ∃ s1, s1 = (openD c.cn.log s).1 := ⟨_, rfl⟩
    rw [← hs1] at HST
    have HS1 := Lib.hid hs1
    have hfc : c.cn.files ≤ 64 := HM.out.ok.files2
    clear ho hst hha hap hs1 h1 h2 hwo d4 k4 k4w K3 K4 K5 hlg k5w ha k0
    go_wp2_with fail
    rw [← hasg]
    clear hasg hfl hmm
    generalize (w4.alloc (.map #[] 0)).alloc (.cells #[.pointer (some ⟨p.d, 0, none⟩), .pointer (some ⟨lg, 0, none⟩), .int .i64 c.log, .int .i64 (c.cn.files : Int), .int .i64 c.slots, .int .i64 c.data, .map (some w4.heap.size)] 82) = w5 at *
    have HFC : Hid (1 ≤ c.cn.files) := HM.out.ok.files1
    by_cases hf : s1.fuse = 0
    · go_loopw [46] (fun iv wr => iv = .int .i64 ((0 : Nat) : Int) ∧ wr = w5) (fun _ _ => 0)
      case atStart => exact ⟨rfl, rfl⟩
      case round =>
        obtain ⟨rfl, rfl⟩ := hrel
        have hlt : ((0 : Nat) : Int) < (c.cn.files : Int) := by have := HFC.out; omega
        have hld := load_dead HST.out 0 HFC.out hf
        have HF := Lib.hid hf
        clear hf
        go_wp2_with fail
        refine hld.mono ?_
        rintro e w6 ⟨rfl, b6⟩
        clear hld
        have HFI : Hid (D (.returned (.tuple #[.pointer none, .int .i64 8])) w6) := by
          have hds := (HST.out.below b6).ds
          rw [HAP.out, HS1.out] at hds
          exact HD.out _ _ ⟨hds, HK5.out.trans ((KeepP.of_below b6 fun x hx => hx).mono fun x hx => Nat.lt_of_lt_of_le hx.1 HK5.out.size), fun e => absurd HO.out e, fun _ _ => rfl, fun _ e => absurd (by rw [← HS1.out]; exact HF.out) e, fun _ e => absurd (by rw [← HS1.out]; exact HF.out) e⟩
        go_wp2_with fail
        exact HFI.out
    · have HF := Lib.hid hf
      clear hf
      go_loopw [46] (fun iv wr => ∃ (k : Nat) (nl : List Nd), k ≤ c.cn.files ∧ iv = .int .i64 (k : Int) ∧ Hid (ldA c s1 k = some nl) ∧ ST wr a c nl s1 false ∧ KeepP (Off p w) w wr) (fun iv _ => c.cn.files - (intOf iv).toNat)
      case atStart => exact ⟨0, [], by omega, rfl, rfl, HST.out, HK5.out⟩
      case round =>
        obtain ⟨k, nl, hk, rfl, HL, hst, hkp⟩ := hrel
        by_cases hlt : k < c.cn.files
        · have hltI : (k : Int) < (c.cn.files : Int) := by omega
          have hln := ldA_len HL.out
          have hld := load_any hst k hlt HF.out (by omega)
          have hnx : ldA c s1 (k + 1) = ldN c nl k (s1.now (c.cn.nodes + k)) := by
            show (ldA c s1 k).bind _ = _
            rw [HL.out]
            rfl
          have HNX := Lib.hid hnx
          have HKP := Lib.hid hkp
          have hsl := hst.lt
          have HSL := Lib.hid hsl
          clear hst hnx hkp hsl
          go_wp2_with fail
          refine hld.mono ?_
          rintro e w6 ⟨q1, q2, q3, q4⟩
          have HK6 : Hid (KeepP (Off p w) w w6) := HKP.out.trans (q3.mono fun x hx => ⟨Nat.lt_of_lt_of_le hx.1 HKP.out.size, fun e => by rcases HHA.out x e with e | e; exact hx.2 e; have := hx.1; omega⟩)
          have Q3 := Lib.hid q3
          cases hr : ldN c nl k (s1.now (c.cn.nodes + k)) with
          | none =>
            obtain rfl := q1 hr
            have HFI : Hid (D (.returned (.tuple #[.pointer none, .int .i64 17])) w6) := by
              have hds := q4
              rw [HAP.out, HS1.out] at hds
              have hn := ldA_none (HNX.out.trans hr) (j := c.cn.files) hlt
              rw [HS1.out] at hn
              exact HD.out _ _ ⟨hds, HK6.out, fun e => absurd HO.out e, fun _ e => absurd e (by rw [← HS1.out]; exact HF.out), fun _ _ _ => rfl, fun _ _ nl h => (by rw [hn] at h; cases h)⟩
            clear q1 q2 q3 q4 hld hr
            go_wp2_with fail
            exact HFI.out
          | some nl2 =>
            obtain ⟨rfl, hst2⟩ := q2 nl2 hr
            have HST2 := Lib.hid hst2
            have HR := Lib.hid hr
            clear q1 q2 q3 q4 hld hr hst2
            go_wp2_with fail
            go_roundw
            case rel => exact ⟨k + 1, nl2, by omega, by go_num, HNX.out.trans HR.out, HST2.out, HK6.out⟩
            case measure => simp [intOf]; omega
        · obtain rfl : k = c.cn.files := by omega
          have HFI : Hid (D (.returned (.tuple #[.pointer (some ⟨a.sg, 0, none⟩), .int .i64 0])) wr) := by
            have hds := hst.ds
            rw [HAP.out, HS1.out] at hds
            have hl2 := HL.out
            rw [HS1.out] at hl2
            refine HD.out _ _ ⟨hds, hkp, fun e => absurd HO.out e, fun _ e => absurd e (by rw [← HS1.out]; exact HF.out), fun _ _ h => (by rw [hl2] at h; cases h), fun _ _ nl' h => ?_⟩
            rw [hl2] at h
            obtain rfl := Option.some.inj h
            exact ⟨a, HAP.out, rfl, by rw [← HS1.out]; exact hst, HHA.out⟩
          clear hst hkp
          go_wp2_with fail
          exact HFI.out
  · obtain rfl := h2 ho
    have hno : ((openD c.cn.log s).2 != 0) = true := by simpa using ho
    have HF : Hid (D (.returned (.tuple #[.pointer none, .int .i64 (openD c.cn.log s).2])) w4) := HD.out _ _ ⟨d4, k4w, fun _ => rfl, fun e => absurd e ho, fun e => absurd e ho, fun e => absurd e ho⟩
    have hdo : decide ((openD c.cn.log s).2 = 0) = false := decide_eq_false ho
    generalize (openD c.cn.log s).2 = er at *
    clear hwo h1 h2
    go_wp2_with fail
    exact HF.out
end
section
open Go.RowKit
end
section
open Go.RowKit
section
variable {c : CI} {fl : List Fe}
theorem ld_img (hm : c.may) (gf : Fine13 c.cn fl) {nl : List Nd} {k : Nat} (hk : k < c.cn.files) (hn : (nl.map (·.2.name)).Nodup) (hq : ∀ q, q ∈ nl ↔ ∃ x ∈ fl, x.place < k ∧ q = ndF x) :
    ∃ nl', ldN c nl k (imgF c.cn fl (c.cn.nodes + k)) = some nl' ∧ (nl'.map (·.2.name)).Nodup ∧ ∀ q, q ∈ nl' ↔ ∃ x ∈ fl, x.place < k + 1 ∧ q = ndF x := by
  have hcd := data_cn hm
  by_cases hx : ∃ x ∈ fl, x.place = k
  · obtain ⟨x, hx, rfl⟩ := hx
    have ox := gf.each x hx
    obtain ⟨g1, g2⟩ := node_get hm.ok ox
    rw [hcd] at g1 g2
    have hno : ∀ q ∈ nl, q.2.name ≠ x.name := fun q hm2 e => by
      obtain ⟨y, hy, hlt, rfl⟩ := (hq q).1 hm2
      have := gf.name y hy x hx e
      rw [this] at hlt
      omega
    have h1 : lookN nl x.ino.name = none := by
      cases hl : lookN nl x.ino.name with
      | none => rfl
      | some q => exact absurd (lookN_some hl).2 (hno q (lookN_some hl).1)
    have h2 : (x.ino.at_.any fun z => usN nl z.toNat) = false := by
      rw [List.any_eq_false]
      intro z hz hu
      unfold usN at hu
      obtain ⟨q, hm2, hu⟩ := List.any_eq_true.1 hu
      obtain ⟨y, hy, hlt, rfl⟩ := (hq q).1 hm2
      have hz0 := okB_mem ox.at_ hz
      have hu2 : ((z.toNat : Nat) : Int) ∈ y.at_ := of_decide_eq_true hu
      rw [show ((z.toNat : Nat) : Int) = z by omega] at hu2
      have := gf.at_ y hy x hx z hu2 hz
      rw [this] at hlt
      omega
    have hld : ldN c nl x.place (imgF c.cn fl (c.cn.nodes + x.place)) = some (putN nl (x.place, x.ino)) := by
      rw [img_node gf hx]
      unfold ldN
      rw [if_neg (node_nz hm.ok ox), g1]
      simp only
      rw [if_neg (by simp), g2]
      simp only
      rw [if_neg (by simp), h1, h2, if_neg (by simp)]
    refine ⟨_, hld, put_nodup hn _, fun q => ?_⟩
    unfold putN
    rw [List.mem_append, List.mem_filter, List.mem_singleton, hq]
    constructor
    · rintro (⟨⟨y, hy, hlt, e⟩, _⟩ | rfl)
      · exact ⟨y, hy, by omega, e⟩
      · exact ⟨x, hx, by omega, rfl⟩
    · rintro ⟨y, hy, hlt, rfl⟩
      by_cases e : y.place = x.place
      · have := gf.place y hy x hx e
        subst this
        exact .inr rfl
      · refine .inl ⟨⟨y, hy, by omega, rfl⟩, ?_⟩
        exact decide_eq_true (hno (ndF y) ((hq _).2 ⟨y, hy, by omega, rfl⟩))
  · have hf : ∀ x ∈ fl, x.place ≠ k := fun x h e => hx ⟨x, h, e⟩
    refine ⟨nl, ?_, hn, fun q => ?_⟩
    · rw [img_free gf hk hf]
      exact if_pos rfl
    · rw [hq]
      constructor
      · rintro ⟨y, hy, hlt, e⟩
        exact ⟨y, hy, by omega, e⟩
      · rintro ⟨y, hy, hlt, e⟩
        exact ⟨y, hy, by have := hf y hy; omega, e⟩
theorem ldA_img (hm : c.may) (gf : Fine13 c.cn fl) {s : Dk} (hs : ∀ i, c.cn.log < i → i < c.cn.size → s.now i = imgF c.cn fl i) : ∀ k, k ≤ c.cn.files →
    ∃ nl, ldA c s k = some nl ∧ (nl.map (·.2.name)).Nodup ∧ ∀ q, q ∈ nl ↔ ∃ x ∈ fl, x.place < k ∧ q = ndF x
  | 0, _ => ⟨[], rfl, List.nodup_nil, fun q => ⟨fun h => (by cases h), fun ⟨x, _, h, _⟩ => absurd h (Nat.not_lt_zero _)⟩⟩
  | k + 1, hk => by
    obtain ⟨nl, h1, h2, h3⟩ := ldA_img hm gf hs k (by omega)
    obtain ⟨nl', h4, h5, h6⟩ := ld_img hm gf (by omega) h2 h3
    refine ⟨nl', ?_, h5, h6⟩
    show (ldA c s k).bind _ = _
    rw [h1, Option.bind_some, hs _ (by unfold Cn.nodes; omega) (by unfold Cn.nodes Cn.size; omega)]
    exact h4
theorem look_same {a b : List Nd} (ha : (a.map (·.2.name)).Nodup) (hb : (b.map (·.2.name)).Nodup) (h : ∀ q, q ∈ a ↔ q ∈ b) (n : List UInt8) : lookN a n = lookN b n := by
  cases hl : lookN a n with
  | some q =>
    obtain ⟨h1, h2⟩ := lookN_some hl
    rw [← h2]
    exact (lookN_mem hb ((h q).1 h1)).symm
  | none =>
    cases hl2 : lookN b n with
    | none => rfl
    | some q =>
      obtain ⟨h1, h2⟩ := lookN_some hl2
      exact absurd h2 (lookN_none hl q ((h q).2 h1))
theorem ldA_files (hm : c.may) (gf : Fine13 c.cn fl) {s : Dk} (hs : ∀ i, c.cn.log < i → i < c.cn.size → s.now i = imgF c.cn fl i) :
    ∃ nl, ldA c s c.cn.files = some nl ∧ ∀ n, lookN nl n = lookN (nodesF fl) n := by
  obtain ⟨nl, h1, h2, h3⟩ := ldA_img hm gf hs c.cn.files (Nat.le_refl _)
  refine ⟨nl, h1, look_same h2 (by rw [nodes_names]; exact gf.names) fun q => ?_⟩
  rw [h3]
  constructor
  · rintro ⟨x, hx, _, rfl⟩
    exact List.mem_map.2 ⟨x, hx, rfl⟩
  · intro hq
    obtain ⟨x, hx, rfl⟩ := List.mem_map.1 hq
    exact ⟨x, hx, (gf.each x hx).place, rfl⟩
end
structure Rest (c : CI) (fl : List Fe) (s : Dk) : Prop where
  fine : Fine13 c.cn fl
  len : s.safe.length = c.cn.size
  stands : Stands c.cn.log c.cn.size (imgF c.cn fl) s
theorem cn_log (c : Cn) (h : c.ok) : c.log < c.size ∧ c.size ≤ 1024 := by
  have := h.all
  unfold Cn.size
  omega
section
variable {w : World} {p : DA} {c : CI} {fl : List Fe} {s : Dk}
theorem sum_cn (hm : c.may) : (c.cn.size : Int) = c.sum := by
  obtain ⟨⟨⟨a1, a2⟩, ⟨b1, b2⟩, ⟨c1, c2⟩, d1, d2⟩, e⟩ := hm
  unfold CI.sum Cn.size CI.cn
  simp only
  omega
theorem sopen_rest (h : DS w p s) (hm : c.may) (hr : Rest c fl s) (hf : s.fuse ≠ 0) (ht : Tab w) (htp : ¬ p.has 1) :
    Calls Tryz.prog 22 #[.pointer (some ⟨p.d, 0, none⟩), cfgV c] w fun e w' =>
      ∃ a : SA, a.p = p ∧ e = .returned (.tuple #[.pointer (some ⟨a.sg, 0, none⟩), .int .i64 0]) ∧ ST w' a c (nodesF fl) s false ∧ (∀ x, a.has x → p.has x ∨ w.heap.size ≤ x) ∧ KeepP (Off p w) w w' := by
  obtain ⟨_, e2⟩ := open_again (n := c.cn.log) (cn_log _ hm.ok).1 hr.len hf hr.stands
  refine (sopen_any h c hm (by rw [hr.len]; exact sum_cn hm) ht htp).mono ?_
  intro e w' ho
  have hg := ho.good
  rw [e2] at hg
  obtain ⟨nl, h1, h2⟩ := ldA_files hm hr.fine (s := s) fun i hi hlt => hr.stands.2.2 i hi hlt
  obtain ⟨a, ha, he, hst, hh⟩ := hg rfl hf nl h1
  refine ⟨a, ha, he, ?_, hh, ho.keep⟩
  exact hst.remap (KeepP.refl _ _) (hst.mf.like (by rw [nodes_names]; exact hr.fine.names) h2) (fit_nodes hm hr.fine) (few_nodes hr.fine)
end
theorem do_rest {c : CI} {fl : List Fe} {s : Dk} (hm : c.may) (hr : Rest c fl s) (hf : s.fuse = -1) (l : List Fi) :
    (doF c fl false l s).2.1 = tryN c (nodesF fl) false l ∧ (doF c fl false l s).1.fuse = -1 ∧ Rest c (doF c fl false l s).2.2 (doF c fl false l s).1 ∧ (doF c fl false l s).2.2 = if tryN c (nodesF fl) false l = 0 then nextF c.cn fl l else fl := by
  by_cases h0 : tryN c (nodesF fl) false l = 0
  · obtain ⟨_, hcan, hcost⟩ := can_of_try hr.fine h0
    obtain ⟨hn, hN⟩ := cn_log _ hm.ok
    have htk := pats_takes hm.ok hr.fine hcan
    have hpl := patsH_len hcan
    have e1 : doF c fl false l s = ((comA c.cn.log s.safe.length (patsH c.cn (chsM (mapF fl) (tkF c.cn fl) (usF c.cn fl) l)) s).1, (comA c.cn.log s.safe.length (patsH c.cn (chsM (mapF fl) (tkF c.cn fl) (usF c.cn fl) l)) s).2,
        if (comA c.cn.log s.safe.length (patsH c.cn (chsM (mapF fl) (tkF c.cn fl) (usF c.cn fl) l)) s).2 = 0 then nextF c.cn fl l else fl) := if_neg (by simp [h0])
    have hrp : rightP c.cn.log c.cn.size (patsH c.cn (chsM (mapF fl) (tkF c.cn fl) (usF c.cn fl) l)) = 0 := by
      unfold rightP
      rw [if_pos htk, if_neg (by omega)]
    obtain ⟨c1, c2, c3⟩ := comA_stands (ps := patsH c.cn (chsM (mapF fl) (tkF c.cn fl) (usF c.cn fl) l)) hn hN hr.len hf hr.stands
    have hgp : goodP c.cn.log c.cn.size (patsH c.cn (chsM (mapF fl) (tkF c.cn fl) (usF c.cn fl) l)) = patsH c.cn (chsM (mapF fl) (tkF c.cn fl) (usF c.cn fl) l) := if_pos hrp
    rw [hrp] at c1
    rw [hgp] at c3
    rw [e1, hr.len]
    simp only
    rw [c1, if_pos rfl, h0, if_pos rfl]
    refine ⟨rfl, c2, ⟨next_fine hr.fine hcan, by rw [comA_len]; exact hr.len, c3.1, c3.2.1, fun i hi hlt => ?_⟩, rfl⟩
    rw [c3.2.2 i hi hlt]
    exact pats_make hm.ok hr.fine hcan hi hlt
  · have e1 : doF c fl false l s = (s, tryN c (nodesF fl) false l, fl) := if_pos h0
    rw [e1, if_neg h0]
    exact ⟨rfl, hf, hr, rfl⟩
end
section
open Go.RowKit
theorem rmay_any (c : CI) (w : World) : Calls Tryz.prog 8 #[cfgV c] w fun e w' => e = .returned (.bool (decide c.may)) ∧ Below w.heap.size w w' := by
  have B0 := (Below.refl w.heap.size w).alloc (Nat.le_refl _) (.cells #[.int .i64 c.log, .int .i64 c.files, .int .i64 c.slots, .int .i64 c.data] 23)
  unfold cfgV
  have key : decide c.may = (decide c.bound && decide (c.sum ≤ 1024)) := by
    by_cases h1 : c.bound
    · by_cases h2 : c.sum ≤ 1024
      · rw [decide_eq_true (show c.may from ⟨h1, h2⟩), decide_eq_true h1, decide_eq_true h2]; rfl
      · rw [decide_eq_false (show ¬ c.may from fun h => h2 h.2), decide_eq_false h2, Bool.and_false]
    · rw [decide_eq_false (show ¬ c.may from fun h => h1 h.1), decide_eq_false h1, Bool.false_and]
  by_cases hb : c.bound
  · obtain ⟨⟨a1, a2⟩, ⟨b1, b2⟩, ⟨c1, c2⟩, d1, d2⟩ := id hb
    have e1 : IntKind.i64.wrap (1 + c.log) = 1 + c.log := by rw [IntKind.wrap_i64]; omega
    have e2 : IntKind.i64.wrap (1 + c.log + c.files) = 1 + c.log + c.files := by rw [IntKind.wrap_i64]; omega
    have e3 : IntKind.i64.wrap (1 + c.log + c.files + c.slots) = 1 + c.log + c.files + c.slots := by rw [IntKind.wrap_i64]; omega
    have e4 : IntKind.i64.wrap (1 + c.log + c.files + c.slots + c.data) = 1 + c.log + c.files + c.slots + c.data := by rw [IntKind.wrap_i64]; omega
    have D1 : decide (c.log < 2) = false := decide_eq_false (by omega)
    have D2 : decide (400 < c.log) = false := decide_eq_false (by omega)
    have D3 : decide (c.files < 1) = false := decide_eq_false (by omega)
    have D4 : decide (64 < c.files) = false := decide_eq_false (by omega)
    have D5 : decide (c.slots < 0) = false := decide_eq_false (by omega)
    have D6 : decide (16 < c.slots) = false := decide_eq_false (by omega)
    have D7 : decide (c.data < 1) = false := decide_eq_false (by omega)
    have D8 : decide (800 < c.data) = false := decide_eq_false (by omega)
    have hk : decide c.may = decide (1 + c.log + c.files + c.slots + c.data ≤ 1024) := by rw [key, decide_eq_true hb, Bool.true_and]; rfl
    rw [hk]
    obtain ⟨cl, cf, cs, cd⟩ := c
    simp only at *
    clear hb key hk a1 a2 b1 b2 c1 c2 d1 d2
    go_enter Tryz.func8, Tryz.ntmps8
    go_wp2
    go_ret
    exact ⟨rfl, B0⟩
  · have hk : decide c.may = false := decide_eq_false fun h => hb h.1
    rw [hk]
    have hb2 : c.log < 2 ∨ 400 < c.log ∨ c.files < 1 ∨ 64 < c.files ∨ c.slots < 0 ∨ 16 < c.slots ∨ c.data < 1 ∨ 800 < c.data := by
      unfold CI.bound at hb
      omega
    obtain ⟨cl, cf, cs, cd⟩ := c
    simp only at *
    clear hb key hk
    by_cases h0 : cl < 2
    · have D0 : decide (cl < 2) = true := decide_eq_true h0
      clear hb2 h0
      go_enter Tryz.func8, Tryz.ntmps8
      go_wp2
      go_ret
      exact ⟨rfl, B0⟩
    · have D0 : decide (cl < 2) = false := decide_eq_false h0
      by_cases h1 : 400 < cl
      · have D1 : decide (400 < cl) = true := decide_eq_true h1
        clear hb2 h1
        go_enter Tryz.func8, Tryz.ntmps8
        go_wp2
        go_ret
        exact ⟨rfl, B0⟩
      · have D1 : decide (400 < cl) = false := decide_eq_false h1
        by_cases h2 : cf < 1
        · have D2 : decide (cf < 1) = true := decide_eq_true h2
          clear hb2 h2
          go_enter Tryz.func8, Tryz.ntmps8
          go_wp2
          go_ret
          exact ⟨rfl, B0⟩
        · have D2 : decide (cf < 1) = false := decide_eq_false h2
          by_cases h3 : 64 < cf
          · have D3 : decide (64 < cf) = true := decide_eq_true h3
            clear hb2 h3
            go_enter Tryz.func8, Tryz.ntmps8
            go_wp2
            go_ret
            exact ⟨rfl, B0⟩
          · have D3 : decide (64 < cf) = false := decide_eq_false h3
            by_cases h4 : cs < 0
            · have D4 : decide (cs < 0) = true := decide_eq_true h4
              clear hb2 h4
              go_enter Tryz.func8, Tryz.ntmps8
              go_wp2
              go_ret
              exact ⟨rfl, B0⟩
            · have D4 : decide (cs < 0) = false := decide_eq_false h4
              by_cases h5 : 16 < cs
              · have D5 : decide (16 < cs) = true := decide_eq_true h5
                clear hb2 h5
                go_enter Tryz.func8, Tryz.ntmps8
                go_wp2
                go_ret
                exact ⟨rfl, B0⟩
              · have D5 : decide (16 < cs) = false := decide_eq_false h5
                by_cases h6 : cd < 1
                · have D6 : decide (cd < 1) = true := decide_eq_true h6
                  clear hb2 h6
                  go_enter Tryz.func8, Tryz.ntmps8
                  go_wp2
                  go_ret
                  exact ⟨rfl, B0⟩
                · have D6 : decide (cd < 1) = false := decide_eq_false h6
                  have D7 : decide (800 < cd) = true := decide_eq_true (by omega)
                  clear hb2 h0 h1 h2 h3 h4 h5 h6
                  go_enter Tryz.func8, Tryz.ntmps8
                  go_wp2
                  go_ret
                  exact ⟨rfl, B0⟩
end
end Go.Proofs.YteddmnoeljakpaaGreatDoor
