/-
  SdI: The program's written (layer 20), over the loaded program: of all, of a case, a subject, a class, a time: its contract. No condition but the sizes that each contract names.
-/
import Derived.Test.YtcbkokhjdleoeaaSz06
import Derived.Test.YtcbkokhjdleoeaaSz03
import Derived.Deep.RegionHeld3
set_option linter.unusedVariables false
set_option maxRecDepth 100000
namespace Go.Proofs.Ytcbkokhjdleoeaa
section
open Go.RowKit
set_option maxHeartbeats 8000000 in
theorem zwritten_1 (S : Nat → Prop) (f : Nat) (t : Ns (Sc f)) (v : Value) (d : Int) (w : World) (hok : okS (f + 1) t d = true) (hno : nodesS (f + 1) t ≤ 24) (hop : t.op = 1) (hv : ZV w S (f + 1) v t) :
    Calls Try.prog 23 #[v] w fun e w' => Fresh w e w' (bytesS (f + 1) t) := by
  obtain ⟨c0, c1, c2, c3, c4, rfl, rfl, hk, rfl, hml, rfl, hfr, rfl, hto, hks⟩ := hv
  obtain ⟨A3, cap3, e3, hl3, hm3⟩ := hks.form
  subst e3
  obtain ⟨i0, hi, hz0, hz1, hz2⟩ := info_parts info_byte
  rw [okS_eq] at hok
  simp only [Bool.and_eq_true, decide_eq_true_eq, List.all_eq_true] at hok
  obtain ⟨⟨_, hfit⟩, hall⟩ := hok
  have ff := (zfit_all (x := t) hop).1 hfit
  have hB := zbytes_all (t := t) hop ff.2.2.2
  obtain ⟨PB, hPB⟩ : ∃ PB, PB = bytesS (f + 1) t := ⟨_, rfl⟩
  rw [← hPB]
  have HC := Lib.hid (hPB.trans hB)
  clear hPB hB
  rw [nodesS_eq] at hno
  rw [hop]
  generalize t.from_ = fr at *
  generalize t.to_ = to_ at *
  generalize hnm : t.name = l at *
  generalize hkk : t.kids = ks at *
  have hlen : ks.length ≤ 9223372036854775807 := by unfold maxLen at hm3; omega
  have hk0 : ks.length = 0 := ff.2.2.2
  rw [hk0]
  clear hks hl3 hlen hall hk0
  obtain ⟨ff1, rfl, rfl, ff4⟩ := ff
  clear ff1 ff4
  unfold strV at *
  obtain ⟨s, hs⟩ : ∃ s : ByteArray, s = ⟨l.toArray⟩ := ⟨_, rfl⟩
  rw [← hs]
  clear hs hml
  have kb := (KB.new w 24 #[.int .i64 1, .string s, .int .i64 0, .int .i64 0, .slice A3 0 cap3]).alloc (.cells #[.int .u8 1] 5)
  have own0 : ((w.alloc (.cells #[.int .i64 1, .string s, .int .i64 0, .int .i64 0, .slice A3 0 cap3] 24)).alloc (.cells #[.int .u8 1] 5)).ownsRow (w.heap.size + 1) 5 1 (.slice (some ⟨w.heap.size + 1, 0, none⟩) 1 1) ([1] : List UInt8).length (([1] : List UInt8).map bv) := by
    have := zlit (w.alloc (.cells #[.int .i64 1, .string s, .int .i64 0, .int .i64 0, .slice A3 0 cap3] 24)) 1 (w.heap.size + 1) (by simp)
    simp only [World.size_alloc] at this
    exact this
  have B0 : Below w.heap.size w ((w.alloc (.cells #[.int .i64 1, .string s, .int .i64 0, .int .i64 0, .slice A3 0 cap3] 24)).alloc (.cells #[.int .u8 1] 5)) := ((Below.refl _ _).alloc (Nat.le_refl _) _).alloc (by simp) _
  have S0 : w.heap.size + 1 ≤ ((w.alloc (.cells #[.int .i64 1, .string s, .int .i64 0, .int .i64 0, .slice A3 0 cap3] 24)).alloc (.cells #[.int .u8 1] 5)).heap.size := by simp
  go_enter Try.func23, Try.ntmps23
  go_wp2_with fail
  go_ret
  exact ⟨_, rfl, by rw [HC.out]; exact own_base own0 (by omega), B0⟩
set_option maxHeartbeats 8000000 in
theorem zwritten_2 (S : Nat → Prop) (f : Nat) (t : Ns (Sc f)) (v : Value) (d : Int) (w : World) (hok : okS (f + 1) t d = true) (hno : nodesS (f + 1) t ≤ 24) (hop : t.op = 2) (hv : ZV w S (f + 1) v t) :
    Calls Try.prog 23 #[v] w fun e w' => Fresh w e w' (bytesS (f + 1) t) := by
  obtain ⟨c0, c1, c2, c3, c4, rfl, rfl, hk, rfl, hml, rfl, hfr, rfl, hto, hks⟩ := hv
  obtain ⟨A3, cap3, e3, hl3, hm3⟩ := hks.form
  subst e3
  obtain ⟨i0, hi, hz0, hz1, hz2⟩ := info_parts info_byte
  rw [okS_eq] at hok
  simp only [Bool.and_eq_true, decide_eq_true_eq, List.all_eq_true] at hok
  obtain ⟨⟨_, hfit⟩, hall⟩ := hok
  have ff := (zfit_named (x := t) (by omega)).1 hfit
  have hB := (show bytesS (f + 1) t = ([2] : List UInt8) ++ texb t.name from (zbytes_named (t := t) (by omega) ff.2.2.2).trans (by rw [hop]; rfl))
  obtain ⟨PB, hPB⟩ : ∃ PB, PB = bytesS (f + 1) t := ⟨_, rfl⟩
  rw [← hPB]
  have HC := Lib.hid (hPB.trans hB)
  clear hPB hB
  rw [nodesS_eq] at hno
  rw [hop]
  generalize t.from_ = fr at *
  generalize t.to_ = to_ at *
  generalize hnm : t.name = l at *
  generalize hkk : t.kids = ks at *
  have hlen : ks.length ≤ 9223372036854775807 := by unfold maxLen at hm3; omega
  have hk0 : ks.length = 0 := ff.2.2.2
  rw [hk0]
  clear hks hl3 hlen hall hk0
  have hl16 : l.length ≤ 16 := ((name_iff l).1 ff.1).2.1
  have HT : Hid ((texb l).length ≤ 25) := by show _ ≤ _; unfold texb; rw [List.length_append]; have := numb_len l.length; omega
  have HCV : Hid (∀ W : World, ∃ c w', (convert 9 27 (strV l)).run Try.prog W = .ok (.slice (some ⟨W.heap.size, 0, none⟩) l.length c) w' ∧ BS w' (fun b => W.heap.size ≤ b ∧ b < w'.heap.size) (.slice (some ⟨W.heap.size, 0, none⟩) l.length c) l ∧ Below W.heap.size W w') := fun W => conv_str W l hml
  have HTX := Lib.hid (fun (S : Nat → Prop) (v : Value) (W : World) (h : BS W S v l) => text_any S v l W h (by omega))
  obtain ⟨ff1, rfl, rfl, ff4⟩ := ff
  clear ff1 ff4
  unfold strV at *
  obtain ⟨s, hs⟩ : ∃ s : ByteArray, s = ⟨l.toArray⟩ := ⟨_, rfl⟩
  rw [← hs] at HCV ⊢
  clear hs hml
  have kb := (KB.new w 24 #[.int .i64 2, .string s, .int .i64 0, .int .i64 0, .slice A3 0 cap3]).alloc (.cells #[.int .u8 2] 5)
  have own0 : ((w.alloc (.cells #[.int .i64 2, .string s, .int .i64 0, .int .i64 0, .slice A3 0 cap3] 24)).alloc (.cells #[.int .u8 2] 5)).ownsRow (w.heap.size + 1) 5 1 (.slice (some ⟨w.heap.size + 1, 0, none⟩) 1 1) ([2] : List UInt8).length (([2] : List UInt8).map bv) := by
    have := zlit (w.alloc (.cells #[.int .i64 2, .string s, .int .i64 0, .int .i64 0, .slice A3 0 cap3] 24)) 2 (w.heap.size + 1) (by simp)
    simp only [World.size_alloc] at this
    exact this
  have B0 : Below w.heap.size w ((w.alloc (.cells #[.int .i64 2, .string s, .int .i64 0, .int .i64 0, .slice A3 0 cap3] 24)).alloc (.cells #[.int .u8 2] 5)) := ((Below.refl _ _).alloc (Nat.le_refl _) _).alloc (by simp) _
  have S0 : w.heap.size + 1 ≤ ((w.alloc (.cells #[.int .i64 2, .string s, .int .i64 0, .int .i64 0, .slice A3 0 cap3] 24)).alloc (.cells #[.int .u8 2] 5)).heap.size := by simp
  obtain ⟨c5, w5, hcv, x5, b5⟩ := HCV.out ((w.alloc (.cells #[.int .i64 2, .string s, .int .i64 0, .int .i64 0, .slice A3 0 cap3] 24)).alloc (.cells #[.int .u8 2] 5))
  simp only [World.size_alloc] at hcv x5
  have own5 := own_past b5 own0
  have B5 := B0.trans (b5.mono B0.size)
  have S5 := Nat.le_trans S0 b5.size
  have bs5 := (own_BS own5).mono (S' := fun _ => True) fun _ _ => trivial
  clear HCV own0 S0 own5
  go_enter Try.func23, Try.ntmps23
  go_wp2_with fail
  refine (HTX.out _ _ _ x5).mono ?_
  rintro e w6 ⟨v6, rfl, how6, b6⟩
  have B6 := B5.trans (b6.mono B5.size)
  have S6 := Nat.le_trans S5 b6.size
  have x6 := (own_BS how6).mono (S' := fun _ => True) fun _ _ => trivial
  have y6 := bs5.below' b6
  obtain ⟨A6, c6, rfl, _⟩ := x6.form
  clear HTX how6 B5 x5 b5 b6 S5 bs5 hcv
  generalize texb l = T at *
  have hls := LS.two (t := 27) y6 x6
  have hn : (flat [[2], T]).length ≤ 140737488355328 := by have := HT.out; simp [flat]; omega
  have hfl : flat [[2], T] = [2] ++ T := by simp [flat]
  have hc := all_any _ _ _ _ hls hn
  rw [hfl] at hc
  have B7 := B6.alloc B6.size (.cells #[.slice (some ⟨w.heap.size + 1, 0, none⟩) 1 1, .slice A6 T.length c6] 27)
  clear hls hn hfl y6 x6 kb
  go_wp2_with fail
  refine hc.mono ?_
  rintro e w8 ⟨v8, rfl, how8, b8⟩
  have B8 := B7.trans (b8.mono B7.size)
  clear hc b8
  go_wp2_with fail
  go_ret
  exact ⟨_, rfl, by rw [HC.out]; exact own_base how8 (by simp; omega), B8⟩
set_option maxHeartbeats 8000000 in
theorem zwritten_3 (S : Nat → Prop) (f : Nat) (t : Ns (Sc f)) (v : Value) (d : Int) (w : World) (hok : okS (f + 1) t d = true) (hno : nodesS (f + 1) t ≤ 24) (hop : t.op = 3) (hv : ZV w S (f + 1) v t) :
    Calls Try.prog 23 #[v] w fun e w' => Fresh w e w' (bytesS (f + 1) t) := by
  obtain ⟨c0, c1, c2, c3, c4, rfl, rfl, hk, rfl, hml, rfl, hfr, rfl, hto, hks⟩ := hv
  obtain ⟨A3, cap3, e3, hl3, hm3⟩ := hks.form
  subst e3
  obtain ⟨i0, hi, hz0, hz1, hz2⟩ := info_parts info_byte
  rw [okS_eq] at hok
  simp only [Bool.and_eq_true, decide_eq_true_eq, List.all_eq_true] at hok
  obtain ⟨⟨_, hfit⟩, hall⟩ := hok
  have ff := (zfit_named (x := t) (by omega)).1 hfit
  have hB := (show bytesS (f + 1) t = ([3] : List UInt8) ++ texb t.name from (zbytes_named (t := t) (by omega) ff.2.2.2).trans (by rw [hop]; rfl))
  obtain ⟨PB, hPB⟩ : ∃ PB, PB = bytesS (f + 1) t := ⟨_, rfl⟩
  rw [← hPB]
  have HC := Lib.hid (hPB.trans hB)
  clear hPB hB
  rw [nodesS_eq] at hno
  rw [hop]
  generalize t.from_ = fr at *
  generalize t.to_ = to_ at *
  generalize hnm : t.name = l at *
  generalize hkk : t.kids = ks at *
  have hlen : ks.length ≤ 9223372036854775807 := by unfold maxLen at hm3; omega
  have hk0 : ks.length = 0 := ff.2.2.2
  rw [hk0]
  clear hks hl3 hlen hall hk0
  have hl16 : l.length ≤ 16 := ((name_iff l).1 ff.1).2.1
  have HT : Hid ((texb l).length ≤ 25) := by show _ ≤ _; unfold texb; rw [List.length_append]; have := numb_len l.length; omega
  have HCV : Hid (∀ W : World, ∃ c w', (convert 9 27 (strV l)).run Try.prog W = .ok (.slice (some ⟨W.heap.size, 0, none⟩) l.length c) w' ∧ BS w' (fun b => W.heap.size ≤ b ∧ b < w'.heap.size) (.slice (some ⟨W.heap.size, 0, none⟩) l.length c) l ∧ Below W.heap.size W w') := fun W => conv_str W l hml
  have HTX := Lib.hid (fun (S : Nat → Prop) (v : Value) (W : World) (h : BS W S v l) => text_any S v l W h (by omega))
  obtain ⟨ff1, rfl, rfl, ff4⟩ := ff
  clear ff1 ff4
  unfold strV at *
  obtain ⟨s, hs⟩ : ∃ s : ByteArray, s = ⟨l.toArray⟩ := ⟨_, rfl⟩
  rw [← hs] at HCV ⊢
  clear hs hml
  have kb := (KB.new w 24 #[.int .i64 3, .string s, .int .i64 0, .int .i64 0, .slice A3 0 cap3]).alloc (.cells #[.int .u8 3] 5)
  have own0 : ((w.alloc (.cells #[.int .i64 3, .string s, .int .i64 0, .int .i64 0, .slice A3 0 cap3] 24)).alloc (.cells #[.int .u8 3] 5)).ownsRow (w.heap.size + 1) 5 1 (.slice (some ⟨w.heap.size + 1, 0, none⟩) 1 1) ([3] : List UInt8).length (([3] : List UInt8).map bv) := by
    have := zlit (w.alloc (.cells #[.int .i64 3, .string s, .int .i64 0, .int .i64 0, .slice A3 0 cap3] 24)) 3 (w.heap.size + 1) (by simp)
    simp only [World.size_alloc] at this
    exact this
  have B0 : Below w.heap.size w ((w.alloc (.cells #[.int .i64 3, .string s, .int .i64 0, .int .i64 0, .slice A3 0 cap3] 24)).alloc (.cells #[.int .u8 3] 5)) := ((Below.refl _ _).alloc (Nat.le_refl _) _).alloc (by simp) _
  have S0 : w.heap.size + 1 ≤ ((w.alloc (.cells #[.int .i64 3, .string s, .int .i64 0, .int .i64 0, .slice A3 0 cap3] 24)).alloc (.cells #[.int .u8 3] 5)).heap.size := by simp
  obtain ⟨c5, w5, hcv, x5, b5⟩ := HCV.out ((w.alloc (.cells #[.int .i64 3, .string s, .int .i64 0, .int .i64 0, .slice A3 0 cap3] 24)).alloc (.cells #[.int .u8 3] 5))
  simp only [World.size_alloc] at hcv x5
  have own5 := own_past b5 own0
  have B5 := B0.trans (b5.mono B0.size)
  have S5 := Nat.le_trans S0 b5.size
  have bs5 := (own_BS own5).mono (S' := fun _ => True) fun _ _ => trivial
  clear HCV own0 S0 own5
  go_enter Try.func23, Try.ntmps23
  go_wp2_with fail
  refine (HTX.out _ _ _ x5).mono ?_
  rintro e w6 ⟨v6, rfl, how6, b6⟩
  have B6 := B5.trans (b6.mono B5.size)
  have S6 := Nat.le_trans S5 b6.size
  have x6 := (own_BS how6).mono (S' := fun _ => True) fun _ _ => trivial
  have y6 := bs5.below' b6
  obtain ⟨A6, c6, rfl, _⟩ := x6.form
  clear HTX how6 B5 x5 b5 b6 S5 bs5 hcv
  generalize texb l = T at *
  have hls := LS.two (t := 27) y6 x6
  have hn : (flat [[3], T]).length ≤ 140737488355328 := by have := HT.out; simp [flat]; omega
  have hfl : flat [[3], T] = [3] ++ T := by simp [flat]
  have hc := all_any _ _ _ _ hls hn
  rw [hfl] at hc
  have B7 := B6.alloc B6.size (.cells #[.slice (some ⟨w.heap.size + 1, 0, none⟩) 1 1, .slice A6 T.length c6] 27)
  clear hls hn hfl y6 x6 kb
  go_wp2_with fail
  refine hc.mono ?_
  rintro e w8 ⟨v8, rfl, how8, b8⟩
  have B8 := B7.trans (b8.mono B7.size)
  clear hc b8
  go_wp2_with fail
  go_ret
  exact ⟨_, rfl, by rw [HC.out]; exact own_base how8 (by simp; omega), B8⟩
set_option maxHeartbeats 8000000 in
theorem zwritten_4 (S : Nat → Prop) (f : Nat) (t : Ns (Sc f)) (v : Value) (d : Int) (w : World) (hok : okS (f + 1) t d = true) (hno : nodesS (f + 1) t ≤ 24) (hop : t.op = 4) (hv : ZV w S (f + 1) v t) :
    Calls Try.prog 23 #[v] w fun e w' => Fresh w e w' (bytesS (f + 1) t) := by
  obtain ⟨c0, c1, c2, c3, c4, rfl, rfl, hk, rfl, hml, rfl, hfr, rfl, hto, hks⟩ := hv
  obtain ⟨A3, cap3, e3, hl3, hm3⟩ := hks.form
  subst e3
  obtain ⟨i0, hi, hz0, hz1, hz2⟩ := info_parts info_byte
  rw [okS_eq] at hok
  simp only [Bool.and_eq_true, decide_eq_true_eq, List.all_eq_true] at hok
  obtain ⟨⟨_, hfit⟩, hall⟩ := hok
  have ff := (zfit_named (x := t) (by omega)).1 hfit
  have hB := (show bytesS (f + 1) t = ([4] : List UInt8) ++ texb t.name from (zbytes_named (t := t) (by omega) ff.2.2.2).trans (by rw [hop]; rfl))
  obtain ⟨PB, hPB⟩ : ∃ PB, PB = bytesS (f + 1) t := ⟨_, rfl⟩
  rw [← hPB]
  have HC := Lib.hid (hPB.trans hB)
  clear hPB hB
  rw [nodesS_eq] at hno
  rw [hop]
  generalize t.from_ = fr at *
  generalize t.to_ = to_ at *
  generalize hnm : t.name = l at *
  generalize hkk : t.kids = ks at *
  have hlen : ks.length ≤ 9223372036854775807 := by unfold maxLen at hm3; omega
  have hk0 : ks.length = 0 := ff.2.2.2
  rw [hk0]
  clear hks hl3 hlen hall hk0
  have hl16 : l.length ≤ 16 := ((name_iff l).1 ff.1).2.1
  have HT : Hid ((texb l).length ≤ 25) := by show _ ≤ _; unfold texb; rw [List.length_append]; have := numb_len l.length; omega
  have HCV : Hid (∀ W : World, ∃ c w', (convert 9 27 (strV l)).run Try.prog W = .ok (.slice (some ⟨W.heap.size, 0, none⟩) l.length c) w' ∧ BS w' (fun b => W.heap.size ≤ b ∧ b < w'.heap.size) (.slice (some ⟨W.heap.size, 0, none⟩) l.length c) l ∧ Below W.heap.size W w') := fun W => conv_str W l hml
  have HTX := Lib.hid (fun (S : Nat → Prop) (v : Value) (W : World) (h : BS W S v l) => text_any S v l W h (by omega))
  obtain ⟨ff1, rfl, rfl, ff4⟩ := ff
  clear ff1 ff4
  unfold strV at *
  obtain ⟨s, hs⟩ : ∃ s : ByteArray, s = ⟨l.toArray⟩ := ⟨_, rfl⟩
  rw [← hs] at HCV ⊢
  clear hs hml
  have kb := (KB.new w 24 #[.int .i64 4, .string s, .int .i64 0, .int .i64 0, .slice A3 0 cap3]).alloc (.cells #[.int .u8 4] 5)
  have own0 : ((w.alloc (.cells #[.int .i64 4, .string s, .int .i64 0, .int .i64 0, .slice A3 0 cap3] 24)).alloc (.cells #[.int .u8 4] 5)).ownsRow (w.heap.size + 1) 5 1 (.slice (some ⟨w.heap.size + 1, 0, none⟩) 1 1) ([4] : List UInt8).length (([4] : List UInt8).map bv) := by
    have := zlit (w.alloc (.cells #[.int .i64 4, .string s, .int .i64 0, .int .i64 0, .slice A3 0 cap3] 24)) 4 (w.heap.size + 1) (by simp)
    simp only [World.size_alloc] at this
    exact this
  have B0 : Below w.heap.size w ((w.alloc (.cells #[.int .i64 4, .string s, .int .i64 0, .int .i64 0, .slice A3 0 cap3] 24)).alloc (.cells #[.int .u8 4] 5)) := ((Below.refl _ _).alloc (Nat.le_refl _) _).alloc (by simp) _
  have S0 : w.heap.size + 1 ≤ ((w.alloc (.cells #[.int .i64 4, .string s, .int .i64 0, .int .i64 0, .slice A3 0 cap3] 24)).alloc (.cells #[.int .u8 4] 5)).heap.size := by simp
  obtain ⟨c5, w5, hcv, x5, b5⟩ := HCV.out ((w.alloc (.cells #[.int .i64 4, .string s, .int .i64 0, .int .i64 0, .slice A3 0 cap3] 24)).alloc (.cells #[.int .u8 4] 5))
  simp only [World.size_alloc] at hcv x5
  have own5 := own_past b5 own0
  have B5 := B0.trans (b5.mono B0.size)
  have S5 := Nat.le_trans S0 b5.size
  have bs5 := (own_BS own5).mono (S' := fun _ => True) fun _ _ => trivial
  clear HCV own0 S0 own5
  go_enter Try.func23, Try.ntmps23
  go_wp2_with fail
  refine (HTX.out _ _ _ x5).mono ?_
  rintro e w6 ⟨v6, rfl, how6, b6⟩
  have B6 := B5.trans (b6.mono B5.size)
  have S6 := Nat.le_trans S5 b6.size
  have x6 := (own_BS how6).mono (S' := fun _ => True) fun _ _ => trivial
  have y6 := bs5.below' b6
  obtain ⟨A6, c6, rfl, _⟩ := x6.form
  clear HTX how6 B5 x5 b5 b6 S5 bs5 hcv
  generalize texb l = T at *
  have hls := LS.two (t := 27) y6 x6
  have hn : (flat [[4], T]).length ≤ 140737488355328 := by have := HT.out; simp [flat]; omega
  have hfl : flat [[4], T] = [4] ++ T := by simp [flat]
  have hc := all_any _ _ _ _ hls hn
  rw [hfl] at hc
  have B7 := B6.alloc B6.size (.cells #[.slice (some ⟨w.heap.size + 1, 0, none⟩) 1 1, .slice A6 T.length c6] 27)
  clear hls hn hfl y6 x6 kb
  go_wp2_with fail
  refine hc.mono ?_
  rintro e w8 ⟨v8, rfl, how8, b8⟩
  have B8 := B7.trans (b8.mono B7.size)
  clear hc b8
  go_wp2_with fail
  go_ret
  exact ⟨_, rfl, by rw [HC.out]; exact own_base how8 (by simp; omega), B8⟩
set_option maxHeartbeats 8000000 in
theorem zwritten_5 (S : Nat → Prop) (f : Nat) (t : Ns (Sc f)) (v : Value) (d : Int) (w : World) (hok : okS (f + 1) t d = true) (hno : nodesS (f + 1) t ≤ 24) (hop : t.op = 5) (hv : ZV w S (f + 1) v t) :
    Calls Try.prog 23 #[v] w fun e w' => Fresh w e w' (bytesS (f + 1) t) := by
  obtain ⟨c0, c1, c2, c3, c4, rfl, rfl, hk, rfl, hml, rfl, hfr, rfl, hto, hks⟩ := hv
  obtain ⟨A3, cap3, e3, hl3, hm3⟩ := hks.form
  subst e3
  obtain ⟨i0, hi, hz0, hz1, hz2⟩ := info_parts info_byte
  rw [okS_eq] at hok
  simp only [Bool.and_eq_true, decide_eq_true_eq, List.all_eq_true] at hok
  obtain ⟨⟨_, hfit⟩, hall⟩ := hok
  have ff := (zfit_time (x := t) hop).1 hfit
  have hB := zbytes_time hop ff.2.2
  obtain ⟨PB, hPB⟩ : ∃ PB, PB = bytesS (f + 1) t := ⟨_, rfl⟩
  rw [← hPB]
  have HC := Lib.hid (hPB.trans hB)
  clear hPB hB
  rw [nodesS_eq] at hno
  rw [hop]
  generalize t.from_ = fr at *
  generalize t.to_ = to_ at *
  generalize hnm : t.name = l at *
  generalize hkk : t.kids = ks at *
  have hlen : ks.length ≤ 9223372036854775807 := by unfold maxLen at hm3; omega
  have hk0 : ks.length = 0 := ff.2.2
  rw [hk0]
  clear hks hl3 hlen hall hk0
  have U1 : u64 fr = fr.toNat := by have := ff.2.1; unfold u64; omega
  have U2 : u64 to_ = to_.toNat := by have := ff.2.1; unfold u64; omega
  have NF : Hid (∀ W : World, Calls Try.prog 40 #[.int .i64 fr] W fun e w' => Fresh W e w' (numb fr.toNat)) := fun W => by
    have := int_any fr W
    rwa [U1] at this
  have NT : Hid (∀ W : World, Calls Try.prog 40 #[.int .i64 to_] W fun e w' => Fresh W e w' (numb to_.toNat)) := fun W => by
    have := int_any to_ W
    rwa [U2] at this
  have H1 := Lib.hid (numb_len fr.toNat)
  have H2 := Lib.hid (numb_len to_.toNat)
  generalize numb fr.toNat = N1 at *
  generalize numb to_.toNat = N2 at *
  clear U1 U2
  unfold strV at *
  obtain ⟨s, hs⟩ : ∃ s : ByteArray, s = ⟨l.toArray⟩ := ⟨_, rfl⟩
  rw [← hs]
  clear hs hml
  have kb := (KB.new w 24 #[.int .i64 5, .string s, .int .i64 fr, .int .i64 to_, .slice A3 0 cap3]).alloc (.cells #[.int .u8 5] 5)
  have own0 : ((w.alloc (.cells #[.int .i64 5, .string s, .int .i64 fr, .int .i64 to_, .slice A3 0 cap3] 24)).alloc (.cells #[.int .u8 5] 5)).ownsRow (w.heap.size + 1) 5 1 (.slice (some ⟨w.heap.size + 1, 0, none⟩) 1 1) ([5] : List UInt8).length (([5] : List UInt8).map bv) := by
    have := zlit (w.alloc (.cells #[.int .i64 5, .string s, .int .i64 fr, .int .i64 to_, .slice A3 0 cap3] 24)) 5 (w.heap.size + 1) (by simp)
    simp only [World.size_alloc] at this
    exact this
  have B0 : Below w.heap.size w ((w.alloc (.cells #[.int .i64 5, .string s, .int .i64 fr, .int .i64 to_, .slice A3 0 cap3] 24)).alloc (.cells #[.int .u8 5] 5)) := ((Below.refl _ _).alloc (Nat.le_refl _) _).alloc (by simp) _
  have S0 : w.heap.size + 1 ≤ ((w.alloc (.cells #[.int .i64 5, .string s, .int .i64 fr, .int .i64 to_, .slice A3 0 cap3] 24)).alloc (.cells #[.int .u8 5] 5)).heap.size := by simp
  have HLEN : Hid ((flat [[5], N1, N2]).length ≤ 140737488355328 ∧ flat [[5], N1, N2] = [5] ++ N1 ++ N2) := ⟨by have := H1.out; have := H2.out; simp [flat]; omega, by simp [flat]⟩
  go_enter Try.func23, Try.ntmps23
  go_wp2_with fail
  generalize (w.alloc (.cells #[.int .i64 5, .string s, .int .i64 fr, .int .i64 to_, .slice A3 0 cap3] 24)).alloc (.cells #[.int .u8 5] 5) = W1 at *
  have kd : KB W1.drew w.heap.size 24 #[.int .i64 5, .string s, .int .i64 fr, .int .i64 to_, .slice A3 0 cap3] := kb
  have x5 := ((own_BS own0).mono (S' := fun _ => True) fun _ _ => trivial).drewN 1
  have Bd : Below w.heap.size w W1.drew := Below_drawn B0 1
  have Sd : w.heap.size + 1 ≤ W1.drew.heap.size := S0
  clear kb own0 B0 S0
  have x5 : BS W1.drew (fun _ => True) (.slice (some ⟨w.heap.size + 1, 0, none⟩) 1 1) [5] := x5
  rename_i KK hKK
  have HKK := Lib.hid hKK
  clear hKK
  refine wp_region_held_drew (S := (fun W => W.cell? ⟨w.heap.size, 2, none⟩ = some (.int .i64 fr) ∧ W.cell? ⟨w.heap.size, 3, none⟩ = some (.int .i64 to_))) (by kernel_rfl) ⟨kd.cell 2, kd.cell 3⟩ (fun hHeld => ?_)
  generalize W1.drew = wd at *
  refine hyY (some 30) 0 rfl hHeld ?_; go_frame
  refine hyY (some 31) 1 rfl hHeld ?_; go_frame
  refine hyY (some 32) 2 rfl hHeld ?_; go_frame
  refine hyY (some 34) 4 rfl hHeld ?_; go_frame
  refine hyY (some 35) 5 rfl hHeld ?_; go_frame
  refine hyO (some 33) 3 rfl (fun K hK => ?_)
  go_simp
  go_at_call 40
  refine (NF.out _).mono ?_
  rintro e w6 ⟨v6, rfl, how6, b6⟩
  replace x5 := x5.below' b6
  replace kd := kd.below b6 kd.lt
  replace Bd := Bd.trans (b6.mono Bd.size)
  replace Sd := Nat.le_trans Sd b6.size
  have x6 := (own_BS how6).mono (S' := fun _ => True) fun _ _ => trivial
  obtain ⟨A6, c6, rfl, _⟩ := x6.form
  clear how6 b6
  go_wp2_with fail
  refine hK.out _ _ ?_ (fun hH2 => ?_)
  · exact ⟨kd.cell 2, kd.cell 3⟩
  clear hHeld hK K; have hHeld := hH2; clear hH2; try go_frame
  refine hyO (some 36) 6 rfl (fun K hK => ?_)
  go_simp
  go_at_call 40
  refine (NT.out _).mono ?_
  rintro e w7 ⟨v7, rfl, how7, b7⟩
  replace x5 := x5.below' b7
  replace x6 := x6.below' b7
  replace kd := kd.below b7 kd.lt
  replace Bd := Bd.trans (b7.mono Bd.size)
  replace Sd := Nat.le_trans Sd b7.size
  have x7 := (own_BS how7).mono (S' := fun _ => True) fun _ _ => trivial
  obtain ⟨A7, c7, rfl, _⟩ := x7.form
  clear how7 b7
  go_wp2_with fail
  refine hK.out _ _ ?_ (fun hH2 => ?_)
  · exact ⟨kd.cell 2, kd.cell 3⟩
  clear hHeld hK K; have hHeld := hH2; clear hH2; try go_frame
  refine hyO (some 37) 7 rfl (fun K hK => ?_)
  go_simp
  have hls := LS.three (t := 27) x5 x6 x7
  replace kd := kd.alloc (.cells #[.slice (some ⟨w.heap.size + 1, 0, none⟩) 1 1, .slice A6 N1.length c6, .slice A7 N2.length c7] 27)
  replace Bd := Bd.alloc Bd.size (.cells #[.slice (some ⟨w.heap.size + 1, 0, none⟩) 1 1, .slice A6 N1.length c6, .slice A7 N2.length c7] 27)
  clear x5 x6 x7
  refine hK.out _ _ ?_ (fun hH2 => ?_)
  · exact ⟨kd.cell 2, kd.cell 3⟩
  clear hHeld hK K; have hHeld := hH2; clear hH2; try go_frame
  refine hyO (some 38) 8 rfl (fun K hK => ?_)
  go_simp
  go_at_call 38
  refine (all_any _ _ _ _ hls HLEN.out.1).mono ?_
  rw [HLEN.out.2]
  rintro e w8 ⟨v8, rfl, how8, b8⟩
  replace kd := kd.below b8 kd.lt
  have B8 := Bd.trans (b8.mono Bd.size)
  have own8 := own_base (B := w.heap.size) how8 (by have := Bd.size; omega)
  clear b8 hls how8
  go_wp2_with fail
  refine hK.out _ _ ?_ (fun hH2 => ?_)
  · exact ⟨kd.cell 2, kd.cell 3⟩
  clear hHeld hK K; have hHeld := hH2; clear hH2; try go_frame
  refine hyY (some 3) 9 rfl hHeld ?_; go_frame
  refine wpAnyH_done (by kernel_rfl) ?_ _
  have hKK := HKK.out
  go_wp2_with fail
  go_ret
  exact ⟨_, rfl, by rw [HC.out]; exact own8, B8⟩
end
end Go.Proofs.Ytcbkokhjdleoeaa
