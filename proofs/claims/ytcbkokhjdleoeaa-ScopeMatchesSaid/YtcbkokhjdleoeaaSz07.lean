/-
  ScIA: The document's bytes (layer 20), over the loaded program: of all. No condition but the sizes that each contract names.
  ScIN: The document's bytes (layer 20), over the loaded program: of a case, a subject, a class. No condition but the sizes that each contract names.
  ScIT: The document's bytes (layer 20), over the loaded program: of a time. No condition but the sizes that each contract names.
-/
import Derived.Test.YtcbkokhjdleoeaaSz06
import Derived.Test.YtcbkokhjdleoeaaSz03
import Derived.Deep.RegionHeld3
set_option linter.unusedVariables false
set_option maxRecDepth 100000
namespace Go.Proofs.Ytcbkokhjdleoeaa
section
open Go.RowKit
set_option maxHeartbeats 4000000 in
theorem zbytes_1 (S : Nat → Prop) (f : Nat) (ih : BytesIh S f) (t : Ns (Sc f)) (v : Value) (d : Int) (w : World) (hok : okS (f + 1) t d = true) (hno : nodesS (f + 1) t ≤ 24) (hop : t.op = 1) (hv : ZV w S (f + 1) v t) :
    Calls Try.prog 25 #[v] w fun e w' => Fresh w e w' (bytesS (f + 1) t) := by
  obtain ⟨c0, c1, c2, c3, c4, rfl, rfl, hk, rfl, hml, rfl, hfr, rfl, hto, hks⟩ := hv
  obtain ⟨A3, cap3, e3, hl3, hm3⟩ := hks.form
  subst e3
  obtain ⟨i0, hi, hz0, hz1, hz2⟩ := info_parts info_byte
  rw [okS_eq] at hok
  simp only [Bool.and_eq_true, decide_eq_true_eq, List.all_eq_true] at hok
  obtain ⟨⟨_, hfit⟩, hall⟩ := hok
  have ff := (zfit_all (x := t) hop).1 hfit
  have hB := zbytes_all hop ff.2.2.2
  obtain ⟨PB, hPB⟩ : ∃ PB, PB = bytesS (f + 1) t := ⟨_, rfl⟩
  rw [← hPB]
  have HC := Lib.hid (hPB.trans hB)
  clear hPB
  have HNM : Hid (∀ W : World, Calls Try.prog 42 #[.int .i64 1] W fun e w' => e = .returned (.bool false) ∧ w' = W) := fun W => znamed_any 1 W
  have HMM : Hid (∀ W : World, Calls Try.prog 37 #[.int .i64 1] W fun e w' => e = .returned (.bool false) ∧ w' = W) := fun W => zmany_any 1 W
  rw [nodesS_eq] at hno
  clear hB
  rw [hop]
  generalize t.from_ = fr at *
  generalize t.to_ = to_ at *
  generalize hnm : t.name = l at *
  generalize hkk : t.kids = ks at *
  have hlen : ks.length ≤ 9223372036854775807 := by unfold maxLen at hm3; omega
  have hk0 : ks.length = 0 := ff.2.2.2
  rw [hk0]
  clear hks hl3 hlen ih hall hno hk0
  obtain ⟨ff1, rfl, rfl, ff4⟩ := ff
  clear ff1 ff4
  unfold strV at *
  obtain ⟨s, hs⟩ : ∃ s : ByteArray, s = ⟨l.toArray⟩ := ⟨_, rfl⟩
  rw [← hs]
  clear hs hml
  have kb := (KB.new w 24 #[.int .i64 1, .string s, .int .i64 0, .int .i64 0, .slice A3 0 cap3]).alloc (.cells #[.int .u8 1] 5)
  have own0 : ((w.alloc (.cells #[.int .i64 1, .string s, .int .i64 0, .int .i64 0, .slice A3 0 cap3] 24)).alloc (.cells #[.int .u8 1] 5)).ownsRow (w.heap.size + 1) 5 1 (.slice (some ⟨w.heap.size + 1, 0, none⟩) 1 1) ([1] : List UInt8).length (([1] : List UInt8).map bv) := by
    have := zlit (w.alloc (.cells #[.int .i64 1, .string s, .int .i64 0, .int .i64 0, .slice A3 0 cap3] 24)) 1 (w.heap.size + 1) (by simp)
    simp only [World.size_alloc] at this
    exact this
  have B0 : Below w.heap.size w ((w.alloc (.cells #[.int .i64 1, .string s, .int .i64 0, .int .i64 0, .slice A3 0 cap3] 24)).alloc (.cells #[.int .u8 1] 5)) := ((Below.refl _ _).alloc (Nat.le_refl _) _).alloc (by simp) _
  have S0 : w.heap.size + 1 ≤ ((w.alloc (.cells #[.int .i64 1, .string s, .int .i64 0, .int .i64 0, .slice A3 0 cap3] 24)).alloc (.cells #[.int .u8 1] 5)).heap.size := by simp
  go_enter Try.func25, Try.ntmps25
  go_wp2_with fail
  generalize (w.alloc (.cells #[.int .i64 1, .string s, .int .i64 0, .int .i64 0, .slice A3 0 cap3] 24)).alloc (.cells #[.int .u8 1] 5) = W1 at *
  have q0 : W1.cell? ⟨w.heap.size, 0, none⟩ = some (.int .i64 1) := kb.cell 0
  have q1 : W1.cell? ⟨w.heap.size, 1, none⟩ = some (.string s) := kb.cell 1
  have q4 : W1.cell? ⟨w.heap.size, 4, none⟩ = some (.slice A3 0 cap3) := kb.cell 4
  refine (HNM.out _).mono ?_
  rintro e W0 ⟨rfl, rfl⟩
  go_wp2_with fail
  refine (HMM.out _).mono ?_
  rintro e wq ⟨rfl, rfl⟩
  clear HNM HMM
  go_wp2_with fail
  go_loopw [3, 4] (fun bb iv wr => bb = (.slice (some ⟨w.heap.size + 1, 0, none⟩) 1 1) ∧ iv = .int .i64 0 ∧ wr.ownsRow (w.heap.size + 1) 5 1 (.slice (some ⟨w.heap.size + 1, 0, none⟩) 1 1) ([1]).length (([1]).map bv) ∧ KB wr w.heap.size 24 #[.int .i64 1, .string s, .int .i64 0, .int .i64 0, .slice A3 0 cap3] ∧ Below w.heap.size w wr) (fun _ iv _ => 0)
  case atStart => exact ⟨rfl, rfl, own0, kb, B0⟩
  case round =>
    clear own0 kb B0
    obtain ⟨rfl, rfl, own, K, B⟩ := hrel
    have q4 : wr.cell? ⟨w.heap.size, 4, none⟩ = some (.slice A3 0 cap3) := K.cell 4
    go_wp2_with fail
    go_ret
    exact ⟨_, rfl, by rw [HC.out]; exact own_base own (by omega), B⟩
end
section
open Go.RowKit
set_option maxHeartbeats 4000000 in
theorem zbytes_2 (S : Nat → Prop) (f : Nat) (ih : BytesIh S f) (t : Ns (Sc f)) (v : Value) (d : Int) (w : World) (hok : okS (f + 1) t d = true) (hno : nodesS (f + 1) t ≤ 24) (hop : t.op = 2) (hv : ZV w S (f + 1) v t) :
    Calls Try.prog 25 #[v] w fun e w' => Fresh w e w' (bytesS (f + 1) t) := by
  obtain ⟨c0, c1, c2, c3, c4, rfl, rfl, hk, rfl, hml, rfl, hfr, rfl, hto, hks⟩ := hv
  obtain ⟨A3, cap3, e3, hl3, hm3⟩ := hks.form
  subst e3
  obtain ⟨i0, hi, hz0, hz1, hz2⟩ := info_parts info_byte
  rw [okS_eq] at hok
  simp only [Bool.and_eq_true, decide_eq_true_eq, List.all_eq_true] at hok
  obtain ⟨⟨_, hfit⟩, hall⟩ := hok
  have ff := (zfit_named (x := t) (by omega)).1 hfit
  have hB := (show bytesS (f + 1) t = ([2] : List UInt8) ++ texb t.name from (zbytes_named (t := t) (by omega) ff.2.2.2).trans (by rw [hop]; rfl))
  obtain ⟨PB, hPB⟩ : ∃ PB, PB = bytesS (f + 1) t := ⟨_, rfl⟩
  rw [← hPB]
  have HC := Lib.hid (hPB.trans hB)
  clear hPB
  have HNM : Hid (∀ W : World, Calls Try.prog 42 #[.int .i64 2] W fun e w' => e = .returned (.bool true) ∧ w' = W) := fun W => znamed_any 2 W
  have HMM : Hid (∀ W : World, Calls Try.prog 37 #[.int .i64 2] W fun e w' => e = .returned (.bool false) ∧ w' = W) := fun W => zmany_any 2 W
  rw [nodesS_eq] at hno
  clear hB
  rw [hop]
  generalize t.from_ = fr at *
  generalize t.to_ = to_ at *
  generalize hnm : t.name = l at *
  generalize hkk : t.kids = ks at *
  have hlen : ks.length ≤ 9223372036854775807 := by unfold maxLen at hm3; omega
  have hk0 : ks.length = 0 := ff.2.2.2
  rw [hk0]
  clear hks hl3 hlen ih hall hno hk0
  have hl16 : l.length ≤ 16 := ((name_iff l).1 ff.1).2.1
  have HT : Hid ((texb l).length ≤ 25) := by show _ ≤ _; unfold texb; rw [List.length_append]; have := numb_len l.length; omega
  have HCV : Hid (∀ W : World, ∃ c w', (convert 9 27 (strV l)).run Try.prog W = .ok (.slice (some ⟨W.heap.size, 0, none⟩) l.length c) w' ∧ BS w' (fun b => W.heap.size ≤ b ∧ b < w'.heap.size) (.slice (some ⟨W.heap.size, 0, none⟩) l.length c) l ∧ Below W.heap.size W w') := fun W => conv_str W l hml
  have HTX := Lib.hid (fun (S : Nat → Prop) (v : Value) (W : World) (h : BS W S v l) => rtext_any S v l W h (by omega))
  obtain ⟨ff1, rfl, rfl, ff4⟩ := ff
  clear ff1 ff4
  unfold strV at *
  obtain ⟨s, hs⟩ : ∃ s : ByteArray, s = ⟨l.toArray⟩ := ⟨_, rfl⟩
  rw [← hs] at HCV ⊢
  clear hs hml
  have kb := (KB.new w 24 #[.int .i64 2, .string s, .int .i64 0, .int .i64 0, .slice A3 0 cap3]).alloc (.cells #[.int .u8 2] 5)
  have own0 : ((w.alloc (.cells #[.int .i64 2, .string s, .int .i64 0, .int .i64 0, .slice A3 0 cap3] 24)).alloc (.cells #[.int .u8 2] 5)).ownsRow (w.heap.size + 1) 5 1 (.slice (some ⟨w.heap.size + 1, 0, none⟩) 1 1) ([2] : List UInt8).length (([2] : List UInt8).map bv) := by
    have := zlit (w.alloc (.cells #[.int .i64 2, .string s, .int .i64 0, .int .i64 0, .slice A3 0 cap3] 24)) 2 (w.heap.size + 1) (by simp)
    simp only [World.size_alloc] at this
    exact this
  have B0 : Below w.heap.size w ((w.alloc (.cells #[.int .i64 2, .string s, .int .i64 0, .int .i64 0, .slice A3 0 cap3] 24)).alloc (.cells #[.int .u8 2] 5)) := ((Below.refl _ _).alloc (Nat.le_refl _) _).alloc (by simp) _
  have S0 : w.heap.size + 1 ≤ ((w.alloc (.cells #[.int .i64 2, .string s, .int .i64 0, .int .i64 0, .slice A3 0 cap3] 24)).alloc (.cells #[.int .u8 2] 5)).heap.size := by simp
  go_enter Try.func25, Try.ntmps25
  go_wp2_with fail
  generalize (w.alloc (.cells #[.int .i64 2, .string s, .int .i64 0, .int .i64 0, .slice A3 0 cap3] 24)).alloc (.cells #[.int .u8 2] 5) = W1 at *
  have q0 : W1.cell? ⟨w.heap.size, 0, none⟩ = some (.int .i64 2) := kb.cell 0
  have q1 : W1.cell? ⟨w.heap.size, 1, none⟩ = some (.string s) := kb.cell 1
  have q4 : W1.cell? ⟨w.heap.size, 4, none⟩ = some (.slice A3 0 cap3) := kb.cell 4
  refine (HNM.out _).mono ?_
  rintro e W0 ⟨rfl, rfl⟩
  obtain ⟨c5, w5, hcv, x5, b5⟩ := HCV.out W0
  have own5 := own_past b5 own0
  have kb5 := kb.below b5 kb.lt
  have B5 := B0.trans (b5.mono B0.size)
  have S5 := Nat.le_trans S0 b5.size
  clear HCV own0 kb B0 S0
  go_wp2_with fail
  clear q0 q1 q4
  refine (HTX.out _ _ _ x5).mono ?_
  rintro e w6 ⟨v6, rfl, how6, b6⟩
  have own6 := own_past b6 own5
  have kb6 := kb5.below b6 kb5.lt
  have B6 := B5.trans (b6.mono B5.size)
  have S6 := Nat.le_trans S5 b6.size
  have bs6 := own_BS how6
  clear HTX how6 own5 kb5 B5 x5 b5 b6 S5
  generalize texb l = T at *
  go_wp2_with (at_builtin; refine wpList_grow _ rfl (.tmp 12) (.tmp 16) _ rfl (w.heap.size + 1) 5 i0 Try.underlying27 hi hz0 hz1 hz2 _ [2] rfl own6 _ _ T rfl bs6 (by have := HT.out; simp; omega) S6 ?_; intro v7 w7 own7 g7 _; have kb7 := kb6.grown g7 (own_ne own6 (by omega)); have q0 : w7.cell? ⟨w.heap.size, 0, none⟩ = some (.int .i64 2) := kb7.cell 0)
  have B7 := B6.grown g7 B6.size (fun g hg => by have := (own6.lt g hg).1; omega)
  clear own6 kb6 B6 bs6 g7 S6
  refine (HMM.out _).mono ?_
  rintro e wq ⟨rfl, rfl⟩
  clear HNM HMM
  go_wp2_with fail
  go_loopw [3, 4] (fun bb iv wr => bb = v7 ∧ iv = .int .i64 0 ∧ wr.ownsRow (w.heap.size + 1) 5 1 v7 ([2] ++ T).length (([2] ++ T).map bv) ∧ KB wr w.heap.size 24 #[.int .i64 2, .string s, .int .i64 0, .int .i64 0, .slice A3 0 cap3] ∧ Below w.heap.size w wr) (fun _ iv _ => 0)
  case atStart => exact ⟨rfl, rfl, own7, kb7, B7⟩
  case round =>
    clear own7 kb7 B7
    obtain ⟨rfl, rfl, own, K, B⟩ := hrel
    have q4 : wr.cell? ⟨w.heap.size, 4, none⟩ = some (.slice A3 0 cap3) := K.cell 4
    go_wp2_with fail
    go_ret
    exact ⟨_, rfl, by rw [HC.out]; exact own_base own (by omega), B⟩
set_option maxHeartbeats 4000000 in
theorem zbytes_3 (S : Nat → Prop) (f : Nat) (ih : BytesIh S f) (t : Ns (Sc f)) (v : Value) (d : Int) (w : World) (hok : okS (f + 1) t d = true) (hno : nodesS (f + 1) t ≤ 24) (hop : t.op = 3) (hv : ZV w S (f + 1) v t) :
    Calls Try.prog 25 #[v] w fun e w' => Fresh w e w' (bytesS (f + 1) t) := by
  obtain ⟨c0, c1, c2, c3, c4, rfl, rfl, hk, rfl, hml, rfl, hfr, rfl, hto, hks⟩ := hv
  obtain ⟨A3, cap3, e3, hl3, hm3⟩ := hks.form
  subst e3
  obtain ⟨i0, hi, hz0, hz1, hz2⟩ := info_parts info_byte
  rw [okS_eq] at hok
  simp only [Bool.and_eq_true, decide_eq_true_eq, List.all_eq_true] at hok
  obtain ⟨⟨_, hfit⟩, hall⟩ := hok
  have ff := (zfit_named (x := t) (by omega)).1 hfit
  have hB := (show bytesS (f + 1) t = ([3] : List UInt8) ++ texb t.name from (zbytes_named (t := t) (by omega) ff.2.2.2).trans (by rw [hop]; rfl))
  obtain ⟨PB, hPB⟩ : ∃ PB, PB = bytesS (f + 1) t := ⟨_, rfl⟩
  rw [← hPB]
  have HC := Lib.hid (hPB.trans hB)
  clear hPB
  have HNM : Hid (∀ W : World, Calls Try.prog 42 #[.int .i64 3] W fun e w' => e = .returned (.bool true) ∧ w' = W) := fun W => znamed_any 3 W
  have HMM : Hid (∀ W : World, Calls Try.prog 37 #[.int .i64 3] W fun e w' => e = .returned (.bool false) ∧ w' = W) := fun W => zmany_any 3 W
  rw [nodesS_eq] at hno
  clear hB
  rw [hop]
  generalize t.from_ = fr at *
  generalize t.to_ = to_ at *
  generalize hnm : t.name = l at *
  generalize hkk : t.kids = ks at *
  have hlen : ks.length ≤ 9223372036854775807 := by unfold maxLen at hm3; omega
  have hk0 : ks.length = 0 := ff.2.2.2
  rw [hk0]
  clear hks hl3 hlen ih hall hno hk0
  have hl16 : l.length ≤ 16 := ((name_iff l).1 ff.1).2.1
  have HT : Hid ((texb l).length ≤ 25) := by show _ ≤ _; unfold texb; rw [List.length_append]; have := numb_len l.length; omega
  have HCV : Hid (∀ W : World, ∃ c w', (convert 9 27 (strV l)).run Try.prog W = .ok (.slice (some ⟨W.heap.size, 0, none⟩) l.length c) w' ∧ BS w' (fun b => W.heap.size ≤ b ∧ b < w'.heap.size) (.slice (some ⟨W.heap.size, 0, none⟩) l.length c) l ∧ Below W.heap.size W w') := fun W => conv_str W l hml
  have HTX := Lib.hid (fun (S : Nat → Prop) (v : Value) (W : World) (h : BS W S v l) => rtext_any S v l W h (by omega))
  obtain ⟨ff1, rfl, rfl, ff4⟩ := ff
  clear ff1 ff4
  unfold strV at *
  obtain ⟨s, hs⟩ : ∃ s : ByteArray, s = ⟨l.toArray⟩ := ⟨_, rfl⟩
  rw [← hs] at HCV ⊢
  clear hs hml
  have kb := (KB.new w 24 #[.int .i64 3, .string s, .int .i64 0, .int .i64 0, .slice A3 0 cap3]).alloc (.cells #[.int .u8 3] 5)
  have own0 : ((w.alloc (.cells #[.int .i64 3, .string s, .int .i64 0, .int .i64 0, .slice A3 0 cap3] 24)).alloc (.cells #[.int .u8 3] 5)).ownsRow (w.heap.size + 1) 5 1 (.slice (some ⟨w.heap.size + 1, 0, none⟩) 1 1) ([3] : List UInt8).length (([3] : List UInt8).map bv) := by
    have := zlit (w.alloc (.cells #[.int .i64 3, .string s, .int .i64 0, .int .i64 0, .slice A3 0 cap3] 24)) 3 (w.heap.size + 1) (by simp)
    simp only [World.size_alloc] at this
    exact this
  have B0 : Below w.heap.size w ((w.alloc (.cells #[.int .i64 3, .string s, .int .i64 0, .int .i64 0, .slice A3 0 cap3] 24)).alloc (.cells #[.int .u8 3] 5)) := ((Below.refl _ _).alloc (Nat.le_refl _) _).alloc (by simp) _
  have S0 : w.heap.size + 1 ≤ ((w.alloc (.cells #[.int .i64 3, .string s, .int .i64 0, .int .i64 0, .slice A3 0 cap3] 24)).alloc (.cells #[.int .u8 3] 5)).heap.size := by simp
  go_enter Try.func25, Try.ntmps25
  go_wp2_with fail
  generalize (w.alloc (.cells #[.int .i64 3, .string s, .int .i64 0, .int .i64 0, .slice A3 0 cap3] 24)).alloc (.cells #[.int .u8 3] 5) = W1 at *
  have q0 : W1.cell? ⟨w.heap.size, 0, none⟩ = some (.int .i64 3) := kb.cell 0
  have q1 : W1.cell? ⟨w.heap.size, 1, none⟩ = some (.string s) := kb.cell 1
  have q4 : W1.cell? ⟨w.heap.size, 4, none⟩ = some (.slice A3 0 cap3) := kb.cell 4
  refine (HNM.out _).mono ?_
  rintro e W0 ⟨rfl, rfl⟩
  obtain ⟨c5, w5, hcv, x5, b5⟩ := HCV.out W0
  have own5 := own_past b5 own0
  have kb5 := kb.below b5 kb.lt
  have B5 := B0.trans (b5.mono B0.size)
  have S5 := Nat.le_trans S0 b5.size
  clear HCV own0 kb B0 S0
  go_wp2_with fail
  clear q0 q1 q4
  refine (HTX.out _ _ _ x5).mono ?_
  rintro e w6 ⟨v6, rfl, how6, b6⟩
  have own6 := own_past b6 own5
  have kb6 := kb5.below b6 kb5.lt
  have B6 := B5.trans (b6.mono B5.size)
  have S6 := Nat.le_trans S5 b6.size
  have bs6 := own_BS how6
  clear HTX how6 own5 kb5 B5 x5 b5 b6 S5
  generalize texb l = T at *
  go_wp2_with (at_builtin; refine wpList_grow _ rfl (.tmp 12) (.tmp 16) _ rfl (w.heap.size + 1) 5 i0 Try.underlying27 hi hz0 hz1 hz2 _ [3] rfl own6 _ _ T rfl bs6 (by have := HT.out; simp; omega) S6 ?_; intro v7 w7 own7 g7 _; have kb7 := kb6.grown g7 (own_ne own6 (by omega)); have q0 : w7.cell? ⟨w.heap.size, 0, none⟩ = some (.int .i64 3) := kb7.cell 0)
  have B7 := B6.grown g7 B6.size (fun g hg => by have := (own6.lt g hg).1; omega)
  clear own6 kb6 B6 bs6 g7 S6
  refine (HMM.out _).mono ?_
  rintro e wq ⟨rfl, rfl⟩
  clear HNM HMM
  go_wp2_with fail
  go_loopw [3, 4] (fun bb iv wr => bb = v7 ∧ iv = .int .i64 0 ∧ wr.ownsRow (w.heap.size + 1) 5 1 v7 ([3] ++ T).length (([3] ++ T).map bv) ∧ KB wr w.heap.size 24 #[.int .i64 3, .string s, .int .i64 0, .int .i64 0, .slice A3 0 cap3] ∧ Below w.heap.size w wr) (fun _ iv _ => 0)
  case atStart => exact ⟨rfl, rfl, own7, kb7, B7⟩
  case round =>
    clear own7 kb7 B7
    obtain ⟨rfl, rfl, own, K, B⟩ := hrel
    have q4 : wr.cell? ⟨w.heap.size, 4, none⟩ = some (.slice A3 0 cap3) := K.cell 4
    go_wp2_with fail
    go_ret
    exact ⟨_, rfl, by rw [HC.out]; exact own_base own (by omega), B⟩
set_option maxHeartbeats 4000000 in
theorem zbytes_4 (S : Nat → Prop) (f : Nat) (ih : BytesIh S f) (t : Ns (Sc f)) (v : Value) (d : Int) (w : World) (hok : okS (f + 1) t d = true) (hno : nodesS (f + 1) t ≤ 24) (hop : t.op = 4) (hv : ZV w S (f + 1) v t) :
    Calls Try.prog 25 #[v] w fun e w' => Fresh w e w' (bytesS (f + 1) t) := by
  obtain ⟨c0, c1, c2, c3, c4, rfl, rfl, hk, rfl, hml, rfl, hfr, rfl, hto, hks⟩ := hv
  obtain ⟨A3, cap3, e3, hl3, hm3⟩ := hks.form
  subst e3
  obtain ⟨i0, hi, hz0, hz1, hz2⟩ := info_parts info_byte
  rw [okS_eq] at hok
  simp only [Bool.and_eq_true, decide_eq_true_eq, List.all_eq_true] at hok
  obtain ⟨⟨_, hfit⟩, hall⟩ := hok
  have ff := (zfit_named (x := t) (by omega)).1 hfit
  have hB := (show bytesS (f + 1) t = ([4] : List UInt8) ++ texb t.name from (zbytes_named (t := t) (by omega) ff.2.2.2).trans (by rw [hop]; rfl))
  obtain ⟨PB, hPB⟩ : ∃ PB, PB = bytesS (f + 1) t := ⟨_, rfl⟩
  rw [← hPB]
  have HC := Lib.hid (hPB.trans hB)
  clear hPB
  have HNM : Hid (∀ W : World, Calls Try.prog 42 #[.int .i64 4] W fun e w' => e = .returned (.bool true) ∧ w' = W) := fun W => znamed_any 4 W
  have HMM : Hid (∀ W : World, Calls Try.prog 37 #[.int .i64 4] W fun e w' => e = .returned (.bool false) ∧ w' = W) := fun W => zmany_any 4 W
  rw [nodesS_eq] at hno
  clear hB
  rw [hop]
  generalize t.from_ = fr at *
  generalize t.to_ = to_ at *
  generalize hnm : t.name = l at *
  generalize hkk : t.kids = ks at *
  have hlen : ks.length ≤ 9223372036854775807 := by unfold maxLen at hm3; omega
  have hk0 : ks.length = 0 := ff.2.2.2
  rw [hk0]
  clear hks hl3 hlen ih hall hno hk0
  have hl16 : l.length ≤ 16 := ((name_iff l).1 ff.1).2.1
  have HT : Hid ((texb l).length ≤ 25) := by show _ ≤ _; unfold texb; rw [List.length_append]; have := numb_len l.length; omega
  have HCV : Hid (∀ W : World, ∃ c w', (convert 9 27 (strV l)).run Try.prog W = .ok (.slice (some ⟨W.heap.size, 0, none⟩) l.length c) w' ∧ BS w' (fun b => W.heap.size ≤ b ∧ b < w'.heap.size) (.slice (some ⟨W.heap.size, 0, none⟩) l.length c) l ∧ Below W.heap.size W w') := fun W => conv_str W l hml
  have HTX := Lib.hid (fun (S : Nat → Prop) (v : Value) (W : World) (h : BS W S v l) => rtext_any S v l W h (by omega))
  obtain ⟨ff1, rfl, rfl, ff4⟩ := ff
  clear ff1 ff4
  unfold strV at *
  obtain ⟨s, hs⟩ : ∃ s : ByteArray, s = ⟨l.toArray⟩ := ⟨_, rfl⟩
  rw [← hs] at HCV ⊢
  clear hs hml
  have kb := (KB.new w 24 #[.int .i64 4, .string s, .int .i64 0, .int .i64 0, .slice A3 0 cap3]).alloc (.cells #[.int .u8 4] 5)
  have own0 : ((w.alloc (.cells #[.int .i64 4, .string s, .int .i64 0, .int .i64 0, .slice A3 0 cap3] 24)).alloc (.cells #[.int .u8 4] 5)).ownsRow (w.heap.size + 1) 5 1 (.slice (some ⟨w.heap.size + 1, 0, none⟩) 1 1) ([4] : List UInt8).length (([4] : List UInt8).map bv) := by
    have := zlit (w.alloc (.cells #[.int .i64 4, .string s, .int .i64 0, .int .i64 0, .slice A3 0 cap3] 24)) 4 (w.heap.size + 1) (by simp)
    simp only [World.size_alloc] at this
    exact this
  have B0 : Below w.heap.size w ((w.alloc (.cells #[.int .i64 4, .string s, .int .i64 0, .int .i64 0, .slice A3 0 cap3] 24)).alloc (.cells #[.int .u8 4] 5)) := ((Below.refl _ _).alloc (Nat.le_refl _) _).alloc (by simp) _
  have S0 : w.heap.size + 1 ≤ ((w.alloc (.cells #[.int .i64 4, .string s, .int .i64 0, .int .i64 0, .slice A3 0 cap3] 24)).alloc (.cells #[.int .u8 4] 5)).heap.size := by simp
  go_enter Try.func25, Try.ntmps25
  go_wp2_with fail
  generalize (w.alloc (.cells #[.int .i64 4, .string s, .int .i64 0, .int .i64 0, .slice A3 0 cap3] 24)).alloc (.cells #[.int .u8 4] 5) = W1 at *
  have q0 : W1.cell? ⟨w.heap.size, 0, none⟩ = some (.int .i64 4) := kb.cell 0
  have q1 : W1.cell? ⟨w.heap.size, 1, none⟩ = some (.string s) := kb.cell 1
  have q4 : W1.cell? ⟨w.heap.size, 4, none⟩ = some (.slice A3 0 cap3) := kb.cell 4
  refine (HNM.out _).mono ?_
  rintro e W0 ⟨rfl, rfl⟩
  obtain ⟨c5, w5, hcv, x5, b5⟩ := HCV.out W0
  have own5 := own_past b5 own0
  have kb5 := kb.below b5 kb.lt
  have B5 := B0.trans (b5.mono B0.size)
  have S5 := Nat.le_trans S0 b5.size
  clear HCV own0 kb B0 S0
  go_wp2_with fail
  clear q0 q1 q4
  refine (HTX.out _ _ _ x5).mono ?_
  rintro e w6 ⟨v6, rfl, how6, b6⟩
  have own6 := own_past b6 own5
  have kb6 := kb5.below b6 kb5.lt
  have B6 := B5.trans (b6.mono B5.size)
  have S6 := Nat.le_trans S5 b6.size
  have bs6 := own_BS how6
  clear HTX how6 own5 kb5 B5 x5 b5 b6 S5
  generalize texb l = T at *
  go_wp2_with (at_builtin; refine wpList_grow _ rfl (.tmp 12) (.tmp 16) _ rfl (w.heap.size + 1) 5 i0 Try.underlying27 hi hz0 hz1 hz2 _ [4] rfl own6 _ _ T rfl bs6 (by have := HT.out; simp; omega) S6 ?_; intro v7 w7 own7 g7 _; have kb7 := kb6.grown g7 (own_ne own6 (by omega)); have q0 : w7.cell? ⟨w.heap.size, 0, none⟩ = some (.int .i64 4) := kb7.cell 0)
  have B7 := B6.grown g7 B6.size (fun g hg => by have := (own6.lt g hg).1; omega)
  clear own6 kb6 B6 bs6 g7 S6
  refine (HMM.out _).mono ?_
  rintro e wq ⟨rfl, rfl⟩
  clear HNM HMM
  go_wp2_with fail
  go_loopw [3, 4] (fun bb iv wr => bb = v7 ∧ iv = .int .i64 0 ∧ wr.ownsRow (w.heap.size + 1) 5 1 v7 ([4] ++ T).length (([4] ++ T).map bv) ∧ KB wr w.heap.size 24 #[.int .i64 4, .string s, .int .i64 0, .int .i64 0, .slice A3 0 cap3] ∧ Below w.heap.size w wr) (fun _ iv _ => 0)
  case atStart => exact ⟨rfl, rfl, own7, kb7, B7⟩
  case round =>
    clear own7 kb7 B7
    obtain ⟨rfl, rfl, own, K, B⟩ := hrel
    have q4 : wr.cell? ⟨w.heap.size, 4, none⟩ = some (.slice A3 0 cap3) := K.cell 4
    go_wp2_with fail
    go_ret
    exact ⟨_, rfl, by rw [HC.out]; exact own_base own (by omega), B⟩
end
section
open Go.RowKit
set_option maxHeartbeats 4000000 in
theorem zbytes_5 (S : Nat → Prop) (f : Nat) (ih : BytesIh S f) (t : Ns (Sc f)) (v : Value) (d : Int) (w : World) (hok : okS (f + 1) t d = true) (hno : nodesS (f + 1) t ≤ 24) (hop : t.op = 5) (hv : ZV w S (f + 1) v t) :
    Calls Try.prog 25 #[v] w fun e w' => Fresh w e w' (bytesS (f + 1) t) := by
  obtain ⟨c0, c1, c2, c3, c4, rfl, rfl, hk, rfl, hml, rfl, hfr, rfl, hto, hks⟩ := hv
  obtain ⟨A3, cap3, e3, hl3, hm3⟩ := hks.form
  subst e3
  obtain ⟨i0, hi, hz0, hz1, hz2⟩ := info_parts info_byte
  rw [okS_eq] at hok
  simp only [Bool.and_eq_true, decide_eq_true_eq, List.all_eq_true] at hok
  obtain ⟨⟨_, hfit⟩, hall⟩ := hok
  have ff := (zfit_time (x := t) hop).1 hfit
  have hB := zbytes_time hop ff.2.2
  obtain ⟨PB, hPB⟩ : ∃ PB, PB = bytesS (f + 1) t := ⟨_, rfl⟩
  rw [← hPB]
  have HC := Lib.hid (hPB.trans hB)
  clear hPB
  have HNM : Hid (∀ W : World, Calls Try.prog 42 #[.int .i64 5] W fun e w' => e = .returned (.bool false) ∧ w' = W) := fun W => znamed_any 5 W
  have HMM : Hid (∀ W : World, Calls Try.prog 37 #[.int .i64 5] W fun e w' => e = .returned (.bool false) ∧ w' = W) := fun W => zmany_any 5 W
  rw [nodesS_eq] at hno
  clear hB
  rw [hop]
  generalize t.from_ = fr at *
  generalize t.to_ = to_ at *
  generalize hnm : t.name = l at *
  generalize hkk : t.kids = ks at *
  have hlen : ks.length ≤ 9223372036854775807 := by unfold maxLen at hm3; omega
  have hk0 : ks.length = 0 := ff.2.2
  rw [hk0]
  clear hks hl3 hlen ih hall hno hk0
  have U1 : u64 fr = fr.toNat := by have := ff.2.1; unfold u64; omega
  have U2 : u64 to_ = to_.toNat := by have := ff.2.1; unfold u64; omega
  have NF : Hid (∀ W : World, Calls Try.prog 44 #[.int .i64 fr] W fun e w' => Fresh W e w' (numb fr.toNat)) := fun W => by
    have := rint_any fr W
    rwa [U1] at this
  have NT : Hid (∀ W : World, Calls Try.prog 44 #[.int .i64 to_] W fun e w' => Fresh W e w' (numb to_.toNat)) := fun W => by
    have := rint_any to_ W
    rwa [U2] at this
  have H1 := Lib.hid (numb_len fr.toNat)
  have H2 := Lib.hid (numb_len to_.toNat)
  generalize numb fr.toNat = N1 at *
  generalize numb to_.toNat = N2 at *
  clear U1 U2
  unfold strV at *
  obtain ⟨s, hs⟩ : ∃ s : ByteArray, s = ⟨l.toArray⟩ := ⟨_, rfl⟩
  rw [← hs]
  clear hs hml
  have kb := (KB.new w 24 #[.int .i64 5, .string s, .int .i64 fr, .int .i64 to_, .slice A3 0 cap3]).alloc (.cells #[.int .u8 5] 5)
  have own0 : ((w.alloc (.cells #[.int .i64 5, .string s, .int .i64 fr, .int .i64 to_, .slice A3 0 cap3] 24)).alloc (.cells #[.int .u8 5] 5)).ownsRow (w.heap.size + 1) 5 1 (.slice (some ⟨w.heap.size + 1, 0, none⟩) 1 1) ([5] : List UInt8).length (([5] : List UInt8).map bv) := by
    have := zlit (w.alloc (.cells #[.int .i64 5, .string s, .int .i64 fr, .int .i64 to_, .slice A3 0 cap3] 24)) 5 (w.heap.size + 1) (by simp)
    simp only [World.size_alloc] at this
    exact this
  have B0 : Below w.heap.size w ((w.alloc (.cells #[.int .i64 5, .string s, .int .i64 fr, .int .i64 to_, .slice A3 0 cap3] 24)).alloc (.cells #[.int .u8 5] 5)) := ((Below.refl _ _).alloc (Nat.le_refl _) _).alloc (by simp) _
  have S0 : w.heap.size + 1 ≤ ((w.alloc (.cells #[.int .i64 5, .string s, .int .i64 fr, .int .i64 to_, .slice A3 0 cap3] 24)).alloc (.cells #[.int .u8 5] 5)).heap.size := by simp
  go_enter Try.func25, Try.ntmps25
  go_wp2_with fail
  generalize (w.alloc (.cells #[.int .i64 5, .string s, .int .i64 fr, .int .i64 to_, .slice A3 0 cap3] 24)).alloc (.cells #[.int .u8 5] 5) = W1 at *
  have q0 : W1.cell? ⟨w.heap.size, 0, none⟩ = some (.int .i64 5) := kb.cell 0
  have q1 : W1.cell? ⟨w.heap.size, 1, none⟩ = some (.string s) := kb.cell 1
  have q4 : W1.cell? ⟨w.heap.size, 4, none⟩ = some (.slice A3 0 cap3) := kb.cell 4
  refine (HNM.out _).mono ?_
  rintro e W0 ⟨rfl, rfl⟩
  go_wp2_with fail
  have kd : KB W0.drew w.heap.size 24 #[.int .i64 5, .string s, .int .i64 fr, .int .i64 to_, .slice A3 0 cap3] := kb
  have ownd : W0.drew.ownsRow (w.heap.size + 1) 5 1 (.slice (some ⟨w.heap.size + 1, 0, none⟩) 1 1) ([5] : List UInt8).length (([5] : List UInt8).map bv) := own0
  have Bd : Below w.heap.size w W0.drew := Below_drawn B0 1
  have Sd : w.heap.size + 1 ≤ W0.drew.heap.size := S0
  clear kb own0 B0 S0 q0 q1 q4
  rename_i KK hKK
  have HKK := Lib.hid hKK
  clear hKK
  refine wp_region_held_drew (S := (fun W => W.cell? ⟨w.heap.size, 2, none⟩ = some (.int .i64 fr) ∧ W.cell? ⟨w.heap.size, 3, none⟩ = some (.int .i64 to_))) (by kernel_rfl) ⟨kd.cell 2, kd.cell 3⟩ (fun hHeld => ?_)
  generalize W0.drew = wd at *
  refine hyY (some 21) 0 rfl hHeld ?_; go_frame
  refine hyY (some 22) 1 rfl hHeld ?_; go_frame
  refine hyY (some 23) 2 rfl hHeld ?_; go_frame
  refine hyY (some 26) 5 rfl hHeld ?_; go_frame
  refine hyY (some 27) 6 rfl hHeld ?_; go_frame
  refine hyO (some 24) 3 rfl (fun K hK => ?_)
  go_simp
  go_at_call 44
  refine (NF.out _).mono ?_
  rintro e w6 ⟨v6, rfl, how6, b6⟩
  replace ownd := own_past b6 ownd
  replace kd := kd.below b6 kd.lt
  replace Bd := Bd.trans (b6.mono Bd.size)
  replace Sd := Nat.le_trans Sd b6.size
  have bs6 := own_BS how6
  clear how6 b6
  go_wp2_with fail
  refine hK.out _ _ ?_ (fun hH2 => ?_)
  · exact ⟨kd.cell 2, kd.cell 3⟩
  clear hHeld hK K; have hHeld := hH2; clear hH2; try go_frame
  refine hyO (some 25) 4 rfl (fun K hK => ?_)
  refine wp_grow _ _ _ rfl (w.heap.size + 1) 5 i0 Try.underlying27 hi hz0 hz1 hz2 _ [5] rfl ownd _ _ N1 rfl bs6 (by have := H1.out; simp; omega) Sd ?_
  intro v7 w7 own7 g7 _
  replace kd := kd.grown g7 (own_ne ownd (by omega))
  replace Bd := Bd.grown g7 Bd.size (fun g hg => by have := (ownd.lt g hg).1; omega)
  replace Sd := Nat.le_trans Sd g7.size
  replace ownd := own7
  clear own7 g7 bs6
  refine hK.out _ _ ?_ (fun hH2 => ?_)
  · exact ⟨kd.cell 2, kd.cell 3⟩
  clear hHeld hK K; have hHeld := hH2; clear hH2; try go_frame
  refine hyO (some 28) 7 rfl (fun K hK => ?_)
  go_simp
  go_at_call 44
  refine (NT.out _).mono ?_
  rintro e w8 ⟨v8, rfl, how8, b8⟩
  replace ownd := own_past b8 ownd
  replace kd := kd.below b8 kd.lt
  replace Bd := Bd.trans (b8.mono Bd.size)
  replace Sd := Nat.le_trans Sd b8.size
  have bs8 := own_BS how8
  clear how8 b8
  go_wp2_with fail
  refine hK.out _ _ ?_ (fun hH2 => ?_)
  · exact ⟨kd.cell 2, kd.cell 3⟩
  clear hHeld hK K; have hHeld := hH2; clear hH2; try go_frame
  refine hyO (some 29) 8 rfl (fun K hK => ?_)
  refine wp_grow _ _ _ rfl (w.heap.size + 1) 5 i0 Try.underlying27 hi hz0 hz1 hz2 _ ([5] ++ N1) rfl ownd _ _ N2 rfl bs8 (by have := H1.out; have := H2.out; simp; omega) Sd ?_
  intro v9 w9 own9 g9 _
  replace kd := kd.grown g9 (own_ne ownd (by omega))
  replace Bd := Bd.grown g9 Bd.size (fun g hg => by have := (ownd.lt g hg).1; omega)
  replace Sd := Nat.le_trans Sd g9.size
  replace ownd := own9
  clear own9 g9 bs8
  refine hK.out _ _ ?_ (fun hH2 => ?_)
  · exact ⟨kd.cell 2, kd.cell 3⟩
  clear hHeld hK K; have hHeld := hH2; clear hH2; try go_frame
  refine hyY (some 3) 9 rfl hHeld ?_; go_frame
  refine wpAnyH_done (by kernel_rfl) ?_ _
  have hKK := HKK.out
  have q0 : w9.cell? ⟨w.heap.size, 0, none⟩ = some (.int .i64 5) := kd.cell 0
  clear hHeld
  go_wp2_with fail
  refine (HMM.out _).mono ?_
  rintro e wq ⟨rfl, rfl⟩
  clear HNM HMM
  go_wp2_with fail
  go_loopw [3, 4] (fun bb iv wr => bb = v9 ∧ iv = .int .i64 0 ∧ wr.ownsRow (w.heap.size + 1) 5 1 v9 ([5] ++ N1 ++ N2).length (([5] ++ N1 ++ N2).map bv) ∧ KB wr w.heap.size 24 #[.int .i64 5, .string s, .int .i64 fr, .int .i64 to_, .slice A3 0 cap3] ∧ Below w.heap.size w wr) (fun _ iv _ => 0)
  case atStart => exact ⟨rfl, rfl, ownd, kd, Bd⟩
  case round =>
    clear ownd kd Bd
    obtain ⟨rfl, rfl, own, K, B⟩ := hrel
    have q4 : wr.cell? ⟨w.heap.size, 4, none⟩ = some (.slice A3 0 cap3) := K.cell 4
    go_wp2_with fail
    go_ret
    exact ⟨_, rfl, by rw [HC.out]; exact own_base own (by omega), B⟩
end
end Go.Proofs.Ytcbkokhjdleoeaa
