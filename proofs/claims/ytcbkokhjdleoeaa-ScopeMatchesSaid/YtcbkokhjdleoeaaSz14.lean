/-
  SdJ: The program's written (layer 20), over the loaded program: of some, and of what does not; all: its contract. No condition but the sizes that each contract names.
  SdL: Plain mathematics of layer 20 (scope): how the program's read goes, with nodes counted on the way; that with room for all nodes it reads what the document's Read reads, and nothing else. No program. No condition.
-/
import Derived.Test.YtcbkokhjdleoeaaSz06
import Derived.Test.YtcbkokhjdleoeaaSz03
import Derived.Deep.RegionHeld3
import Derived.Test.YtcbkokhjdleoeaaSz13
import Derived.Test.YtcbkokhjdleoeaaSz01
set_option linter.unusedVariables false
set_option maxRecDepth 100000
namespace Go.Proofs.Ytcbkokhjdleoeaa
section
open Go.RowKit
def WrittenIh (S : Nat → Prop) (f : Nat) : Prop := ∀ (t : Sc f) (v : Value) (d : Int) (w : World), okS f t d = true → nodesS f t ≤ 24 → ZV w S f v t →
    Calls Try.prog 23 #[v] w fun e w' => Fresh w e w' (bytesS f t)
set_option maxHeartbeats 8000000 in
theorem zwritten_6 (S : Nat → Prop) (f : Nat) (ih : WrittenIh S f) (t : Ns (Sc f)) (v : Value) (d : Int) (w : World) (hok : okS (f + 1) t d = true) (hno : nodesS (f + 1) t ≤ 24) (hop : t.op = 6) (hv : ZV w S (f + 1) v t) :
    Calls Try.prog 23 #[v] w fun e w' => Fresh w e w' (bytesS (f + 1) t) := by
  obtain ⟨c0, c1, c2, c3, c4, rfl, rfl, hk, rfl, hml, rfl, hfr, rfl, hto, hks⟩ := hv
  obtain ⟨A3, cap3, e3, hl3, hm3⟩ := hks.form
  subst e3
  obtain ⟨i0, hi, hz0, hz1, hz2⟩ := info_parts info_byte
  rw [okS_eq] at hok
  simp only [Bool.and_eq_true, decide_eq_true_eq, List.all_eq_true] at hok
  obtain ⟨⟨_, hfit⟩, hall⟩ := hok
  have ff := (zfit_many (x := t) (by omega)).1 hfit
  have hB := (show bytesS (f + 1) t = (([6] : List UInt8) ++ numb t.kids.length) ++ (t.kids.map (bytesS f)).flatten from (zbytes_many (t := t) (by omega)).trans (by rw [hop]; rfl))
  obtain ⟨PB, hPB⟩ : ∃ PB, PB = bytesS (f + 1) t := ⟨_, rfl⟩
  rw [← hPB]
  have HC := Lib.hid (hPB.trans hB)
  clear hPB hB
  rw [nodesS_eq] at hno
  rw [hop]
  generalize t.from_ = fr at *
  generalize t.to_ = to_ at *
  generalize hnm : t.name = l at *
  generalize hkk : t.kids = ks at *
  have hlen : ks.length ≤ 9223372036854775807 := by unfold maxLen at hm3; omega
  have hk24 : ks.length ≤ 23 := by have := nodesS_len f ks; omega
  have U : u64 (ks.length : Int) = ks.length := by unfold u64; omega
  have NN : ∀ W : World, Calls Try.prog 40 #[.int .i64 (ks.length : Int)] W fun e w' => Fresh W e w' (numb ks.length) := fun W => by
    have := int_any (ks.length : Int) W
    rwa [U] at this
  have HNL := Lib.hid (numb_len ks.length)
  obtain ⟨ff1, rfl, rfl, ff4⟩ := ff
  clear ff1 ff4
  unfold strV at *
  obtain ⟨s, hs⟩ : ∃ s : ByteArray, s = ⟨l.toArray⟩ := ⟨_, rfl⟩
  rw [← hs]
  clear hs hml
  have kb := (KB.new w 24 #[.int .i64 6, .string s, .int .i64 0, .int .i64 0, .slice A3 ks.length cap3]).alloc (.cells #[.int .u8 6] 5)
  have own0 : ((w.alloc (.cells #[.int .i64 6, .string s, .int .i64 0, .int .i64 0, .slice A3 ks.length cap3] 24)).alloc (.cells #[.int .u8 6] 5)).ownsRow (w.heap.size + 1) 5 1 (.slice (some ⟨w.heap.size + 1, 0, none⟩) 1 1) ([6] : List UInt8).length (([6] : List UInt8).map bv) := by
    have := zlit (w.alloc (.cells #[.int .i64 6, .string s, .int .i64 0, .int .i64 0, .slice A3 ks.length cap3] 24)) 6 (w.heap.size + 1) (by simp)
    simp only [World.size_alloc] at this
    exact this
  have B0 : Below w.heap.size w ((w.alloc (.cells #[.int .i64 6, .string s, .int .i64 0, .int .i64 0, .slice A3 ks.length cap3] 24)).alloc (.cells #[.int .u8 6] 5)) := ((Below.refl _ _).alloc (Nat.le_refl _) _).alloc (by simp) _
  have S0 : w.heap.size + 1 ≤ ((w.alloc (.cells #[.int .i64 6, .string s, .int .i64 0, .int .i64 0, .slice A3 ks.length cap3] 24)).alloc (.cells #[.int .u8 6] 5)).heap.size := by simp
  go_enter Try.func23, Try.ntmps23
  go_wp2_with fail
  refine (NN _).mono ?_
  rintro e w6 ⟨v6, rfl, how6, b6⟩
  have B6 := B0.trans (b6.mono B0.size)
  have S6 := Nat.le_trans S0 b6.size
  have x6 := (own_BS how6).mono (S' := fun _ => True) fun _ _ => trivial
  have y6 := ((own_BS own0).mono (S' := fun _ => True) fun _ _ => trivial).below' b6
  have kb6 := kb.below b6 kb.lt
  obtain ⟨A6, c6, rfl, _⟩ := x6.form
  clear how6 own0 kb B0 b6 S0 NN
  generalize numb ks.length = T at *
  have hls := LS.two (t := 27) y6 x6
  have hn : (flat [[6], T]).length ≤ 140737488355328 := by have := HNL.out; simp [flat]; omega
  have hfl : flat [[6], T] = [6] ++ T := by simp [flat]
  have hc := all_any _ _ _ _ hls hn
  rw [hfl] at hc
  have B7 := B6.alloc B6.size (.cells #[.slice (some ⟨w.heap.size + 1, 0, none⟩) 1 1, .slice A6 T.length c6] 27)
  have kb7 := kb6.alloc (.cells #[.slice (some ⟨w.heap.size + 1, 0, none⟩) 1 1, .slice A6 T.length c6] 27)
  clear hls hn hfl y6 x6 kb6
  go_wp2_with fail
  refine hc.mono ?_
  rintro e w8 ⟨v8, rfl, how8, b8⟩
  have B8 := B7.trans (b8.mono B7.size)
  have kb8 := kb7.below b8 kb7.lt
  have own8 := own_base (B := w.heap.size + 1) how8 (by simp; omega)
  have S8 : w.heap.size + 1 ≤ w8.heap.size := by have := b8.size; simp at this; omega
  clear hc b8 kb7 B7 B6 how8
  have q4 : w8.cell? ⟨w.heap.size, 4, none⟩ = some (.slice A3 ks.length cap3) := kb8.cell 4
  have HH : Hid ((([6] ++ T)).length ≤ 12) := by show _ ≤ _; have := HNL.out; simp; omega
  generalize ([6] ++ T) = Hd at *
  go_wp2_with fail
  go_loopw [3, 49] (fun bb iv wr => ∃ j : Nat, j ≤ ks.length ∧ iv = .int .i64 j ∧ (∃ L : List UInt8, Hid (L = Hd ++ ((ks.take j).map (bytesS f)).flatten) ∧ L.length ≤ 12 + 1500 * j ∧ wr.ownsRow (w.heap.size + 1) 5 1 bb L.length (L.map bv)) ∧ w.heap.size + 1 ≤ wr.heap.size ∧ Below w.heap.size w wr) (fun bb iv _ => ks.length - (intOf iv).toNat)
  case atStart => exact ⟨0, by omega, rfl, ⟨Hd, (by show _ = _; simp), by have := HH.out; omega, own8⟩, S8, B8⟩
  case round =>
    clear own8 S8 kb8 B8
    obtain ⟨j, hj, rfl, ⟨L, HL, hLl, own⟩, SZ, B⟩ := hrel
    by_cases hlt : j < ks.length
    · have hltI : (j : Int) < (ks.length : Int) := by omega
      obtain ⟨b, o, e0, e1, e2, e3, e4, rfl, hb, k0, k1, k2, k3, k4, hv⟩ := kid_zb hks rfl B j hlt
      have hbr := Nat.lt_of_lt_of_le hb B.size
      have hk1 := hall ks[j] (List.getElem_mem hlt)
      have hk2 : nodesS f ks[j] ≤ 24 := by have := nodesS_kid f ks ks[j] (List.getElem_mem hlt); omega
      have hc := ih ks[j] _ (d - 1) (wr.alloc (.cells #[e0, e1, e2, e3, e4] 24)) hk1 hk2 (hv.alloc _)
      have hbl := zlen_le f ks[j] (d - 1) hk1
      have HS := Lib.hid (zkids_step hlt Hd)
      obtain ⟨_, _, _, _, _, e, hx4⟩ := hv
      injection e with e
      simp only [Array.mk.injEq, List.cons.injEq, and_true] at e
      obtain ⟨rfl, rfl, rfl, rfl, rfl⟩ := e
      obtain ⟨j0, l1, i2, i3, X4, n4, z4, rfl, rfl, rfl, rfl, rfl⟩ := hx4.form
      unfold strV at *
      generalize (⟨l1.toArray⟩ : ByteArray) = s1 at *
      have BA := B.alloc B.size (.cells #[.int .i64 j0, .string s1, .int .i64 i2, .int .i64 i3, .slice X4 n4 z4] 24)
      have ownA := own_past ((Below.refl wr.heap.size wr).alloc (Nat.le_refl _) (.cells #[.int .i64 j0, .string s1, .int .i64 i2, .int .i64 i3, .slice X4 n4 z4] 24)) own
      have SA : w.heap.size + 1 ≤ (wr.alloc (.cells #[.int .i64 j0, .string s1, .int .i64 i2, .int .i64 i3, .slice X4 n4 z4] 24)).heap.size := by simp; omega
      clear hx4
      generalize bytesS f ks[j] = P at *
      have HP : Hid (P.length ≤ 1440) := by show _ ≤ _; omega
      clear hbl hk1 hk2
      go_wp2_with fail
      refine hc.mono ?_
      rintro e w5 ⟨v5, rfl, how5, b5⟩
      have own5 := own_past b5 ownA
      have B5 := BA.trans (b5.mono BA.size)
      have S5 := Nat.le_trans SA b5.size
      have bs5 := own_BS how5
      clear hc own ownA B BA how5 b5 SZ SA k0 k1 k2 k3 k4
      go_wp2_with (at_builtin; refine wpList_grow _ rfl (.tmp 53) (.tmp 55) _ rfl (w.heap.size + 1) 5 i0 Try.underlying27 hi hz0 hz1 hz2 _ L rfl own5 _ _ P rfl bs5 (by have := HP.out; omega) S5 ?_; intro v7 w7 own7 g7 _)
      have B7 := B5.grown g7 B5.size (fun g hg => by have := (own5.lt g hg).1; omega)
      have S7 := Nat.le_trans S5 g7.size
      go_roundw
      case rel => exact ⟨j + 1, by omega, by go_num, ⟨L ++ P, (by show _ = _; rw [HL.out]; exact HS.out), by have := HP.out; rw [List.length_append]; omega, own7⟩, S7, B7⟩
      case measure => simp [intOf]; omega
    · obtain rfl : j = ks.length := by omega
      have hL : L = Hd ++ (ks.map (bytesS f)).flatten := by rw [HL.out, List.take_length]
      clear HL
      subst hL
      go_wp2_with fail
      go_ret
      exact ⟨_, rfl, by rw [HC.out]; exact own_base own (by omega), B⟩
set_option maxHeartbeats 8000000 in
theorem zwritten_7 (S : Nat → Prop) (f : Nat) (ih : WrittenIh S f) (t : Ns (Sc f)) (v : Value) (d : Int) (w : World) (hok : okS (f + 1) t d = true) (hno : nodesS (f + 1) t ≤ 24) (hop : t.op = 7) (hv : ZV w S (f + 1) v t) :
    Calls Try.prog 23 #[v] w fun e w' => Fresh w e w' (bytesS (f + 1) t) := by
  obtain ⟨c0, c1, c2, c3, c4, rfl, rfl, hk, rfl, hml, rfl, hfr, rfl, hto, hks⟩ := hv
  obtain ⟨A3, cap3, e3, hl3, hm3⟩ := hks.form
  subst e3
  obtain ⟨i0, hi, hz0, hz1, hz2⟩ := info_parts info_byte
  rw [okS_eq] at hok
  simp only [Bool.and_eq_true, decide_eq_true_eq, List.all_eq_true] at hok
  obtain ⟨⟨_, hfit⟩, hall⟩ := hok
  have ff := (zfit_many (x := t) (by omega)).1 hfit
  have hB := (show bytesS (f + 1) t = (([7] : List UInt8) ++ numb t.kids.length) ++ (t.kids.map (bytesS f)).flatten from (zbytes_many (t := t) (by omega)).trans (by rw [hop]; rfl))
  obtain ⟨PB, hPB⟩ : ∃ PB, PB = bytesS (f + 1) t := ⟨_, rfl⟩
  rw [← hPB]
  have HC := Lib.hid (hPB.trans hB)
  clear hPB hB
  rw [nodesS_eq] at hno
  rw [hop]
  generalize t.from_ = fr at *
  generalize t.to_ = to_ at *
  generalize hnm : t.name = l at *
  generalize hkk : t.kids = ks at *
  have hlen : ks.length ≤ 9223372036854775807 := by unfold maxLen at hm3; omega
  have hk24 : ks.length ≤ 23 := by have := nodesS_len f ks; omega
  have U : u64 (ks.length : Int) = ks.length := by unfold u64; omega
  have NN : ∀ W : World, Calls Try.prog 40 #[.int .i64 (ks.length : Int)] W fun e w' => Fresh W e w' (numb ks.length) := fun W => by
    have := int_any (ks.length : Int) W
    rwa [U] at this
  have HNL := Lib.hid (numb_len ks.length)
  obtain ⟨ff1, rfl, rfl, ff4⟩ := ff
  clear ff1 ff4
  unfold strV at *
  obtain ⟨s, hs⟩ : ∃ s : ByteArray, s = ⟨l.toArray⟩ := ⟨_, rfl⟩
  rw [← hs]
  clear hs hml
  have kb := (KB.new w 24 #[.int .i64 7, .string s, .int .i64 0, .int .i64 0, .slice A3 ks.length cap3]).alloc (.cells #[.int .u8 7] 5)
  have own0 : ((w.alloc (.cells #[.int .i64 7, .string s, .int .i64 0, .int .i64 0, .slice A3 ks.length cap3] 24)).alloc (.cells #[.int .u8 7] 5)).ownsRow (w.heap.size + 1) 5 1 (.slice (some ⟨w.heap.size + 1, 0, none⟩) 1 1) ([7] : List UInt8).length (([7] : List UInt8).map bv) := by
    have := zlit (w.alloc (.cells #[.int .i64 7, .string s, .int .i64 0, .int .i64 0, .slice A3 ks.length cap3] 24)) 7 (w.heap.size + 1) (by simp)
    simp only [World.size_alloc] at this
    exact this
  have B0 : Below w.heap.size w ((w.alloc (.cells #[.int .i64 7, .string s, .int .i64 0, .int .i64 0, .slice A3 ks.length cap3] 24)).alloc (.cells #[.int .u8 7] 5)) := ((Below.refl _ _).alloc (Nat.le_refl _) _).alloc (by simp) _
  have S0 : w.heap.size + 1 ≤ ((w.alloc (.cells #[.int .i64 7, .string s, .int .i64 0, .int .i64 0, .slice A3 ks.length cap3] 24)).alloc (.cells #[.int .u8 7] 5)).heap.size := by simp
  go_enter Try.func23, Try.ntmps23
  go_wp2_with fail
  refine (NN _).mono ?_
  rintro e w6 ⟨v6, rfl, how6, b6⟩
  have B6 := B0.trans (b6.mono B0.size)
  have S6 := Nat.le_trans S0 b6.size
  have x6 := (own_BS how6).mono (S' := fun _ => True) fun _ _ => trivial
  have y6 := ((own_BS own0).mono (S' := fun _ => True) fun _ _ => trivial).below' b6
  have kb6 := kb.below b6 kb.lt
  obtain ⟨A6, c6, rfl, _⟩ := x6.form
  clear how6 own0 kb B0 b6 S0 NN
  generalize numb ks.length = T at *
  have hls := LS.two (t := 27) y6 x6
  have hn : (flat [[7], T]).length ≤ 140737488355328 := by have := HNL.out; simp [flat]; omega
  have hfl : flat [[7], T] = [7] ++ T := by simp [flat]
  have hc := all_any _ _ _ _ hls hn
  rw [hfl] at hc
  have B7 := B6.alloc B6.size (.cells #[.slice (some ⟨w.heap.size + 1, 0, none⟩) 1 1, .slice A6 T.length c6] 27)
  have kb7 := kb6.alloc (.cells #[.slice (some ⟨w.heap.size + 1, 0, none⟩) 1 1, .slice A6 T.length c6] 27)
  clear hls hn hfl y6 x6 kb6
  go_wp2_with fail
  refine hc.mono ?_
  rintro e w8 ⟨v8, rfl, how8, b8⟩
  have B8 := B7.trans (b8.mono B7.size)
  have kb8 := kb7.below b8 kb7.lt
  have own8 := own_base (B := w.heap.size + 1) how8 (by simp; omega)
  have S8 : w.heap.size + 1 ≤ w8.heap.size := by have := b8.size; simp at this; omega
  clear hc b8 kb7 B7 B6 how8
  have q4 : w8.cell? ⟨w.heap.size, 4, none⟩ = some (.slice A3 ks.length cap3) := kb8.cell 4
  have HH : Hid ((([7] ++ T)).length ≤ 12) := by show _ ≤ _; have := HNL.out; simp; omega
  generalize ([7] ++ T) = Hd at *
  go_wp2_with fail
  go_loopw [3, 49] (fun bb iv wr => ∃ j : Nat, j ≤ ks.length ∧ iv = .int .i64 j ∧ (∃ L : List UInt8, Hid (L = Hd ++ ((ks.take j).map (bytesS f)).flatten) ∧ L.length ≤ 12 + 1500 * j ∧ wr.ownsRow (w.heap.size + 1) 5 1 bb L.length (L.map bv)) ∧ w.heap.size + 1 ≤ wr.heap.size ∧ Below w.heap.size w wr) (fun bb iv _ => ks.length - (intOf iv).toNat)
  case atStart => exact ⟨0, by omega, rfl, ⟨Hd, (by show _ = _; simp), by have := HH.out; omega, own8⟩, S8, B8⟩
  case round =>
    clear own8 S8 kb8 B8
    obtain ⟨j, hj, rfl, ⟨L, HL, hLl, own⟩, SZ, B⟩ := hrel
    by_cases hlt : j < ks.length
    · have hltI : (j : Int) < (ks.length : Int) := by omega
      obtain ⟨b, o, e0, e1, e2, e3, e4, rfl, hb, k0, k1, k2, k3, k4, hv⟩ := kid_zb hks rfl B j hlt
      have hbr := Nat.lt_of_lt_of_le hb B.size
      have hk1 := hall ks[j] (List.getElem_mem hlt)
      have hk2 : nodesS f ks[j] ≤ 24 := by have := nodesS_kid f ks ks[j] (List.getElem_mem hlt); omega
      have hc := ih ks[j] _ (d - 1) (wr.alloc (.cells #[e0, e1, e2, e3, e4] 24)) hk1 hk2 (hv.alloc _)
      have hbl := zlen_le f ks[j] (d - 1) hk1
      have HS := Lib.hid (zkids_step hlt Hd)
      obtain ⟨_, _, _, _, _, e, hx4⟩ := hv
      injection e with e
      simp only [Array.mk.injEq, List.cons.injEq, and_true] at e
      obtain ⟨rfl, rfl, rfl, rfl, rfl⟩ := e
      obtain ⟨j0, l1, i2, i3, X4, n4, z4, rfl, rfl, rfl, rfl, rfl⟩ := hx4.form
      unfold strV at *
      generalize (⟨l1.toArray⟩ : ByteArray) = s1 at *
      have BA := B.alloc B.size (.cells #[.int .i64 j0, .string s1, .int .i64 i2, .int .i64 i3, .slice X4 n4 z4] 24)
      have ownA := own_past ((Below.refl wr.heap.size wr).alloc (Nat.le_refl _) (.cells #[.int .i64 j0, .string s1, .int .i64 i2, .int .i64 i3, .slice X4 n4 z4] 24)) own
      have SA : w.heap.size + 1 ≤ (wr.alloc (.cells #[.int .i64 j0, .string s1, .int .i64 i2, .int .i64 i3, .slice X4 n4 z4] 24)).heap.size := by simp; omega
      clear hx4
      generalize bytesS f ks[j] = P at *
      have HP : Hid (P.length ≤ 1440) := by show _ ≤ _; omega
      clear hbl hk1 hk2
      go_wp2_with fail
      refine hc.mono ?_
      rintro e w5 ⟨v5, rfl, how5, b5⟩
      have own5 := own_past b5 ownA
      have B5 := BA.trans (b5.mono BA.size)
      have S5 := Nat.le_trans SA b5.size
      have bs5 := own_BS how5
      clear hc own ownA B BA how5 b5 SZ SA k0 k1 k2 k3 k4
      go_wp2_with (at_builtin; refine wpList_grow _ rfl (.tmp 53) (.tmp 55) _ rfl (w.heap.size + 1) 5 i0 Try.underlying27 hi hz0 hz1 hz2 _ L rfl own5 _ _ P rfl bs5 (by have := HP.out; omega) S5 ?_; intro v7 w7 own7 g7 _)
      have B7 := B5.grown g7 B5.size (fun g hg => by have := (own5.lt g hg).1; omega)
      have S7 := Nat.le_trans S5 g7.size
      go_roundw
      case rel => exact ⟨j + 1, by omega, by go_num, ⟨L ++ P, (by show _ = _; rw [HL.out]; exact HS.out), by have := HP.out; rw [List.length_append]; omega, own7⟩, S7, B7⟩
      case measure => simp [intOf]; omega
    · obtain rfl : j = ks.length := by omega
      have hL : L = Hd ++ (ks.map (bytesS f)).flatten := by rw [HL.out, List.take_length]
      clear HL
      subst hL
      go_wp2_with fail
      go_ret
      exact ⟨_, rfl, by rw [HC.out]; exact own_base own (by omega), B⟩
set_option maxHeartbeats 8000000 in
theorem zwritten_8 (S : Nat → Prop) (f : Nat) (ih : WrittenIh S f) (t : Ns (Sc f)) (v : Value) (d : Int) (w : World) (hok : okS (f + 1) t d = true) (hno : nodesS (f + 1) t ≤ 24) (hop : t.op = 8) (hv : ZV w S (f + 1) v t) :
    Calls Try.prog 23 #[v] w fun e w' => Fresh w e w' (bytesS (f + 1) t) := by
  obtain ⟨c0, c1, c2, c3, c4, rfl, rfl, hk, rfl, hml, rfl, hfr, rfl, hto, hks⟩ := hv
  obtain ⟨A3, cap3, e3, hl3, hm3⟩ := hks.form
  subst e3
  obtain ⟨i0, hi, hz0, hz1, hz2⟩ := info_parts info_byte
  rw [okS_eq] at hok
  simp only [Bool.and_eq_true, decide_eq_true_eq, List.all_eq_true] at hok
  obtain ⟨⟨_, hfit⟩, hall⟩ := hok
  have ff := (zfit_not (x := t) hop).1 hfit
  have hB := (show bytesS (f + 1) t = ([8] : List UInt8) ++ (t.kids.map (bytesS f)).flatten from zbytes_not (t := t) hop)
  obtain ⟨PB, hPB⟩ : ∃ PB, PB = bytesS (f + 1) t := ⟨_, rfl⟩
  rw [← hPB]
  have HC := Lib.hid (hPB.trans hB)
  clear hPB hB
  rw [nodesS_eq] at hno
  rw [hop]
  generalize t.from_ = fr at *
  generalize t.to_ = to_ at *
  generalize hnm : t.name = l at *
  generalize hkk : t.kids = ks at *
  have hlen : ks.length ≤ 9223372036854775807 := by unfold maxLen at hm3; omega
  have hk24 : ks.length ≤ 23 := by have := nodesS_len f ks; omega
  obtain ⟨ff1, rfl, rfl, ff4⟩ := ff
  clear ff1 ff4
  unfold strV at *
  obtain ⟨s, hs⟩ : ∃ s : ByteArray, s = ⟨l.toArray⟩ := ⟨_, rfl⟩
  rw [← hs]
  clear hs hml
  have kb := (KB.new w 24 #[.int .i64 8, .string s, .int .i64 0, .int .i64 0, .slice A3 ks.length cap3]).alloc (.cells #[.int .u8 8] 5)
  have own0 : ((w.alloc (.cells #[.int .i64 8, .string s, .int .i64 0, .int .i64 0, .slice A3 ks.length cap3] 24)).alloc (.cells #[.int .u8 8] 5)).ownsRow (w.heap.size + 1) 5 1 (.slice (some ⟨w.heap.size + 1, 0, none⟩) 1 1) ([8] : List UInt8).length (([8] : List UInt8).map bv) := by
    have := zlit (w.alloc (.cells #[.int .i64 8, .string s, .int .i64 0, .int .i64 0, .slice A3 ks.length cap3] 24)) 8 (w.heap.size + 1) (by simp)
    simp only [World.size_alloc] at this
    exact this
  have B0 : Below w.heap.size w ((w.alloc (.cells #[.int .i64 8, .string s, .int .i64 0, .int .i64 0, .slice A3 ks.length cap3] 24)).alloc (.cells #[.int .u8 8] 5)) := ((Below.refl _ _).alloc (Nat.le_refl _) _).alloc (by simp) _
  have S0 : w.heap.size + 1 ≤ ((w.alloc (.cells #[.int .i64 8, .string s, .int .i64 0, .int .i64 0, .slice A3 ks.length cap3] 24)).alloc (.cells #[.int .u8 8] 5)).heap.size := by simp
  obtain ⟨Hd, hHd⟩ : ∃ Hd : List UInt8, Hd = [8] := ⟨_, rfl⟩
  rw [← hHd] at HC
  have HH : Hid (Hd.length ≤ 12) := by show _ ≤ _; rw [hHd]; simp
  rw [← hHd] at own0
  clear hHd
  go_enter Try.func23, Try.ntmps23
  go_wp2_with fail
  go_loopw [3, 49] (fun bb iv wr => ∃ j : Nat, j ≤ ks.length ∧ iv = .int .i64 j ∧ (∃ L : List UInt8, Hid (L = Hd ++ ((ks.take j).map (bytesS f)).flatten) ∧ L.length ≤ 12 + 1500 * j ∧ wr.ownsRow (w.heap.size + 1) 5 1 bb L.length (L.map bv)) ∧ w.heap.size + 1 ≤ wr.heap.size ∧ Below w.heap.size w wr) (fun bb iv _ => ks.length - (intOf iv).toNat)
  case atStart => exact ⟨0, by omega, rfl, ⟨Hd, (by show _ = _; simp), by have := HH.out; omega, own0⟩, S0, B0⟩
  case round =>
    clear own0 S0 kb B0
    obtain ⟨j, hj, rfl, ⟨L, HL, hLl, own⟩, SZ, B⟩ := hrel
    by_cases hlt : j < ks.length
    · have hltI : (j : Int) < (ks.length : Int) := by omega
      obtain ⟨b, o, e0, e1, e2, e3, e4, rfl, hb, k0, k1, k2, k3, k4, hv⟩ := kid_zb hks rfl B j hlt
      have hbr := Nat.lt_of_lt_of_le hb B.size
      have hk1 := hall ks[j] (List.getElem_mem hlt)
      have hk2 : nodesS f ks[j] ≤ 24 := by have := nodesS_kid f ks ks[j] (List.getElem_mem hlt); omega
      have hc := ih ks[j] _ (d - 1) (wr.alloc (.cells #[e0, e1, e2, e3, e4] 24)) hk1 hk2 (hv.alloc _)
      have hbl := zlen_le f ks[j] (d - 1) hk1
      have HS := Lib.hid (zkids_step hlt Hd)
      obtain ⟨_, _, _, _, _, e, hx4⟩ := hv
      injection e with e
      simp only [Array.mk.injEq, List.cons.injEq, and_true] at e
      obtain ⟨rfl, rfl, rfl, rfl, rfl⟩ := e
      obtain ⟨j0, l1, i2, i3, X4, n4, z4, rfl, rfl, rfl, rfl, rfl⟩ := hx4.form
      unfold strV at *
      generalize (⟨l1.toArray⟩ : ByteArray) = s1 at *
      have BA := B.alloc B.size (.cells #[.int .i64 j0, .string s1, .int .i64 i2, .int .i64 i3, .slice X4 n4 z4] 24)
      have ownA := own_past ((Below.refl wr.heap.size wr).alloc (Nat.le_refl _) (.cells #[.int .i64 j0, .string s1, .int .i64 i2, .int .i64 i3, .slice X4 n4 z4] 24)) own
      have SA : w.heap.size + 1 ≤ (wr.alloc (.cells #[.int .i64 j0, .string s1, .int .i64 i2, .int .i64 i3, .slice X4 n4 z4] 24)).heap.size := by simp; omega
      clear hx4
      generalize bytesS f ks[j] = P at *
      have HP : Hid (P.length ≤ 1440) := by show _ ≤ _; omega
      clear hbl hk1 hk2
      go_wp2_with fail
      refine hc.mono ?_
      rintro e w5 ⟨v5, rfl, how5, b5⟩
      have own5 := own_past b5 ownA
      have B5 := BA.trans (b5.mono BA.size)
      have S5 := Nat.le_trans SA b5.size
      have bs5 := own_BS how5
      clear hc own ownA B BA how5 b5 SZ SA k0 k1 k2 k3 k4
      go_wp2_with (at_builtin; refine wpList_grow _ rfl (.tmp 53) (.tmp 55) _ rfl (w.heap.size + 1) 5 i0 Try.underlying27 hi hz0 hz1 hz2 _ L rfl own5 _ _ P rfl bs5 (by have := HP.out; omega) S5 ?_; intro v7 w7 own7 g7 _)
      have B7 := B5.grown g7 B5.size (fun g hg => by have := (own5.lt g hg).1; omega)
      have S7 := Nat.le_trans S5 g7.size
      go_roundw
      case rel => exact ⟨j + 1, by omega, by go_num, ⟨L ++ P, (by show _ = _; rw [HL.out]; exact HS.out), by have := HP.out; rw [List.length_append]; omega, own7⟩, S7, B7⟩
      case measure => simp [intOf]; omega
    · obtain rfl : j = ks.length := by omega
      have hL : L = Hd ++ (ks.map (bytesS f)).flatten := by rw [HL.out, List.take_length]
      clear HL
      subst hL
      go_wp2_with fail
      go_ret
      exact ⟨_, rfl, by rw [HC.out]; exact own_base own (by omega), B⟩
theorem zwritten_any (S : Nat → Prop) : ∀ f : Nat, WrittenIh S f
  | 0 => fun t => nomatch t
  | f + 1 => fun (t : Ns (Sc f)) v d w hok hn hv => by
    have ih := zwritten_any S f
    have hr : 1 ≤ t.op ∧ t.op ≤ 8 := by
      have h := hok
      rw [okS_eq] at h
      simp only [Bool.and_eq_true, decide_eq_true_eq] at h
      exact ((fits_iff t).1 h.1.2).1
    by_cases h1 : t.op = 1
    · exact zwritten_1 S f t v d w hok hn h1 hv
    by_cases h2 : t.op = 2
    · exact zwritten_2 S f t v d w hok hn h2 hv
    by_cases h3 : t.op = 3
    · exact zwritten_3 S f t v d w hok hn h3 hv
    by_cases h4 : t.op = 4
    · exact zwritten_4 S f t v d w hok hn h4 hv
    by_cases h5 : t.op = 5
    · exact zwritten_5 S f t v d w hok hn h5 hv
    by_cases h6 : t.op = 6
    · exact zwritten_6 S f ih t v d w hok hn h6 hv
    by_cases h7 : t.op = 7
    · exact zwritten_7 S f ih t v d w hok hn h7 hv
    · exact zwritten_8 S f ih t v d w hok hn (by omega) hv
end
section
def kidsB {α : Type} (g : Option (List UInt8) → Nat → Option (Option (List UInt8) × Nat × α)) : Nat → Option (List UInt8) → Nat → Option (Option (List UInt8) × Nat × List α)
  | 0, st, n => some (st, n, [])
  | m + 1, st, n => (g st n).bind fun X => (kidsB g m X.1 X.2.1).bind fun Y => some (Y.1, Y.2.1, X.2.2 :: Y.2.2)
def readB : (k : Nat) → Option (List UInt8) → Nat → Option (Option (List UInt8) × Nat × Ns (Sc k))
  | 0, _, _ => none
  | _ + 1, none, _ => none
  | _ + 1, some [], _ => none
  | k + 1, some (b :: l), n => if 24 ≤ n then none else
    (kidsB (readB k) (manyR (b.toNat : Int) (tickR (b.toNat : Int) (tickR (b.toNat : Int) (nameR (b.toNat : Int) (some l)).1).1).1).2 (manyR (b.toNat : Int) (tickR (b.toNat : Int) (tickR (b.toNat : Int) (nameR (b.toNat : Int) (some l)).1).1).1).1 (n + 1)).bind fun Y =>
      some (Y.1, Y.2.1, ⟨(b.toNat : Int), (nameR (b.toNat : Int) (some l)).2, ((tickR (b.toNat : Int) (nameR (b.toNat : Int) (some l)).1).2 : Int), ((tickR (b.toNat : Int) (tickR (b.toNat : Int) (nameR (b.toNat : Int) (some l)).1).1).2 : Int), Y.2.2⟩)
theorem rb_zero (st : Option (List UInt8)) (n : Nat) : readB 0 st n = none := by cases st <;> rfl
theorem rb_none (k n : Nat) : readB k none n = none := by cases k <;> rfl
theorem rb_nil (k n : Nat) : readB k (some []) n = none := by cases k <;> rfl
theorem rb_full (k n : Nat) (b : UInt8) (l : List UInt8) (h : 24 ≤ n) : readB k (some (b :: l)) n = none := by
  cases k with
  | zero => rfl
  | succ k => show (if 24 ≤ n then none else _) = none; rw [if_pos h]
theorem rb_cons (k n : Nat) (b : UInt8) (l : List UInt8) (h : ¬ 24 ≤ n) : readB (k + 1) (some (b :: l)) n =
    (kidsB (readB k) (manyR (b.toNat : Int) (tickR (b.toNat : Int) (tickR (b.toNat : Int) (nameR (b.toNat : Int) (some l)).1).1).1).2 (manyR (b.toNat : Int) (tickR (b.toNat : Int) (tickR (b.toNat : Int) (nameR (b.toNat : Int) (some l)).1).1).1).1 (n + 1)).bind fun Y =>
      some (Y.1, Y.2.1, ⟨(b.toNat : Int), (nameR (b.toNat : Int) (some l)).2, ((tickR (b.toNat : Int) (nameR (b.toNat : Int) (some l)).1).2 : Int), ((tickR (b.toNat : Int) (tickR (b.toNat : Int) (nameR (b.toNat : Int) (some l)).1).1).2 : Int), Y.2.2⟩) := by
  show (if 24 ≤ n then none else _) = _
  rw [if_neg h]
section
variable {α : Type} {g : Option (List UInt8) → Nat → Option (Option (List UInt8) × Nat × α)}
theorem kidsB_add : ∀ (j : Nat) (st : Option (List UInt8)) (n : Nat), kidsB g (j + 1) st n = (kidsB g j st n).bind fun Y => (g Y.1 Y.2.1).bind fun X => some (X.1, X.2.1, Y.2.2 ++ [X.2.2])
  | 0, st, n => by
    show ((g st n).bind fun X => some (X.1, X.2.1, [X.2.2])) = ((g st n).bind fun X => some (X.1, X.2.1, [] ++ [X.2.2]))
    rfl
  | j + 1, st, n => by
    show ((g st n).bind fun X => (kidsB g (j + 1) X.1 X.2.1).bind fun Y => some (Y.1, Y.2.1, X.2.2 :: Y.2.2)) = ((g st n).bind fun X => (kidsB g j X.1 X.2.1).bind fun Y => some (Y.1, Y.2.1, X.2.2 :: Y.2.2)).bind _
    cases g st n with
    | none => rfl
    | some X =>
      simp only [Option.bind_some]
      rw [kidsB_add j X.1 X.2.1]
      cases kidsB g j X.1 X.2.1 with
      | none => rfl
      | some Y =>
        simp only [Option.bind_some]
        cases g Y.1 Y.2.1 with
        | none => rfl
        | some Z => simp
theorem kidsB_none : ∀ (i j : Nat) (st : Option (List UInt8)) (n : Nat), kidsB g j st n = none → kidsB g (j + i) st n = none
  | 0, _, _, _, h => h
  | i + 1, j, st, n, h => by
    rw [← Nat.add_assoc, kidsB_add, kidsB_none i j st n h]
    rfl
theorem kidsB_stop {j m n : Nat} {st : Option (List UInt8)} {Y : Option (List UInt8) × Nat × List α} (h : kidsB g j st n = some Y) (hg : g Y.1 Y.2.1 = none) (hj : j < m) : kidsB g m st n = none := by
  obtain ⟨i, rfl⟩ := Nat.le.dest (show j + 1 ≤ m from hj)
  refine kidsB_none i (j + 1) st n ?_
  rw [kidsB_add, h, Option.bind_some, hg]
  rfl
theorem kidsB_more {j n : Nat} {st : Option (List UInt8)} {Y : Option (List UInt8) × Nat × List α} {X : Option (List UInt8) × Nat × α} (h : kidsB g j st n = some Y) (hg : g Y.1 Y.2.1 = some X) : kidsB g (j + 1) st n = some (X.1, X.2.1, Y.2.2 ++ [X.2.2]) := by
  rw [kidsB_add, h, Option.bind_some, hg]
  rfl
end
theorem kidsB_reads {k : Nat} (hA : ∀ (st : Option (List UInt8)) (n : Nat) (l : List UInt8) (m : Nat) (x : Ns (Sc k)), readB k st n = some (some l, m, x) → readSc k st = (some l, x)) :
    ∀ (j : Nat) (st : Option (List UInt8)) (n : Nat) (l : List UInt8) (m : Nat) (xs : List (Ns (Sc k))), kidsB (readB k) j st n = some (some l, m, xs) → kidsR (readSc k) j st = (some l, xs)
  | 0, st, n, l, m, xs, h => by
    simp only [kidsB, Option.some.injEq, Prod.mk.injEq] at h
    obtain ⟨rfl, _, rfl⟩ := h
    rfl
  | j + 1, st, n, l, m, xs, h => by
    simp only [kidsB] at h
    obtain ⟨⟨st1, n1, x⟩, hx, h⟩ := Option.bind_eq_some_iff.1 h
    obtain ⟨⟨st2, n2, ys⟩, hy, h⟩ := Option.bind_eq_some_iff.1 h
    simp only [Option.some.injEq, Prod.mk.injEq] at h hy
    obtain ⟨rfl, rfl, rfl⟩ := h
    cases st with
    | none => rw [rb_none] at hx; cases hx
    | some l0 =>
      cases st1 with
      | none =>
        cases j with
        | zero => simp [kidsB] at hy
        | succ j => simp only [kidsB, rb_none] at hy; cases hy
      | some l1 =>
        have e := hA _ _ _ _ _ hx
        have e2 := kidsB_reads hA j _ _ _ _ _ hy
        show ((kidsR (readSc k) j (readSc k (some l0)).1).1, (readSc k (some l0)).2 :: (kidsR (readSc k) j (readSc k (some l0)).1).2) = _
        rw [e, e2]
theorem readB_reads : ∀ (k : Nat) (st : Option (List UInt8)) (n : Nat) (l : List UInt8) (m : Nat) (x : Ns (Sc k)), readB k st n = some (some l, m, x) → readSc k st = (some l, x)
  | 0, st, n, l, m, x, h => by rw [rb_zero] at h; cases h
  | k + 1, none, n, l, m, x, h => by rw [rb_none] at h; cases h
  | k + 1, some [], n, l, m, x, h => by rw [rb_nil] at h; cases h
  | k + 1, some (b :: l0), n, l, m, x, h => by
    by_cases hn : 24 ≤ n
    · rw [rb_full _ _ _ _ hn] at h; cases h
    rw [rb_cons _ _ _ _ hn] at h
    obtain ⟨⟨s5, n5, xs⟩, h5, h⟩ := Option.bind_eq_some_iff.1 h
    simp only [Option.some.injEq, Prod.mk.injEq] at h
    obtain ⟨rfl, rfl, rfl⟩ := h
    have e := kidsB_reads (readB_reads k) _ _ _ _ _ _ h5
    rw [rs_cons]
    rw [e]
def sumN (k : Nat) : List (Ns (Sc k)) → Nat
  | [] => 0
  | x :: xs => nodesS (k + 1) x + sumN k xs
theorem sumN_is (k : Nat) : ∀ (xs : List (Sc (k + 1))), (xs.map (nodesS (k + 1))).sum = sumN k xs
  | [] => rfl
  | x :: xs => by rw [List.map_cons, List.sum_cons, sumN_is k xs]; rfl
theorem kidsR_cons {α : Type} (g : Option (List UInt8) → Option (List UInt8) × α) (j : Nat) (l : List UInt8) : kidsR g (j + 1) (some l) = ((kidsR g j (g (some l)).1).1, (g (some l)).2 :: (kidsR g j (g (some l)).1).2) := rfl
theorem kidsB_room {k : Nat} (hB : ∀ (st : Option (List UInt8)) (n : Nat) (l : List UInt8) (x : Ns (Sc k)), readSc k st = (some l, x) → n + nodesS (k + 1) x ≤ 24 → readB k st n = some (some l, n + nodesS (k + 1) x, x)) :
    ∀ (j : Nat) (st : Option (List UInt8)) (n : Nat) (l : List UInt8) (xs : List (Ns (Sc k))), kidsR (readSc k) j st = (some l, xs) → n + sumN k xs ≤ 24 → kidsB (readB k) j st n = some (some l, n + sumN k xs, xs)
  | 0, st, n, l, xs, h, hn => by
    simp only [kidsR, Prod.mk.injEq] at h
    obtain ⟨rfl, rfl⟩ := h
    rfl
  | j + 1, none, n, l, xs, h, hn => by simp [kidsR] at h
  | j + 1, some l0, n, l, xs, h, hn => by
    rw [kidsR_cons] at h
    obtain ⟨⟨st1, x⟩, hr⟩ : ∃ R, R = readSc k (some l0) := ⟨_, rfl⟩
    rw [← hr] at h
    obtain ⟨⟨st2, ys⟩, hy⟩ : ∃ R, R = kidsR (readSc k) j st1 := ⟨_, rfl⟩
    dsimp only at h
    rw [← hy] at h
    simp only [Prod.mk.injEq] at h
    obtain ⟨rfl, rfl⟩ := h
    have hn' : n + (nodesS (k + 1) x + sumN k ys) ≤ 24 := hn
    cases st1 with
    | none => cases j <;> simp [kidsR] at hy
    | some l1 =>
      have e1 := hB _ n _ _ hr.symm (by omega)
      have e2 := kidsB_room hB j (some l1) (n + nodesS (k + 1) x) l _ hy.symm (by omega)
      show ((readB k (some l0) n).bind fun X => (kidsB (readB k) j X.1 X.2.1).bind fun Y => some (Y.1, Y.2.1, X.2.2 :: Y.2.2)) = some (some l, n + (nodesS (k + 1) x + sumN k ys), x :: ys)
      rw [e1, Option.bind_some, e2, Option.bind_some, Nat.add_assoc]
theorem readB_room : ∀ (k : Nat) (st : Option (List UInt8)) (n : Nat) (l : List UInt8) (x : Ns (Sc k)), readSc k st = (some l, x) → n + nodesS (k + 1) x ≤ 24 → readB k st n = some (some l, n + nodesS (k + 1) x, x)
  | 0, st, n, l, x, h, hn => by rw [rs_zero] at h; cases h
  | k + 1, none, n, l, x, h, hn => by rw [rs_none] at h; cases h
  | k + 1, some [], n, l, x, h, hn => by rw [rs_nil] at h; cases h
  | k + 1, some (b :: l0), n, l, x, h, hn => by
    have hp := nodesS_pos (k + 1 + 1) x
    have hq : nodesS (k + 1 + 1) x = 1 + sumN k x.kids := by rw [nodesS_eq, sumN_is]
    rw [rs_cons] at h
    rw [rb_cons _ _ _ _ (by omega)]
    obtain ⟨⟨s5, ks⟩, h5⟩ : ∃ R, R = kidsR (readSc k) (manyR (b.toNat : Int) (tickR (b.toNat : Int) (tickR (b.toNat : Int) (nameR (b.toNat : Int) (some l0)).1).1).1).2 (manyR (b.toNat : Int) (tickR (b.toNat : Int) (tickR (b.toNat : Int) (nameR (b.toNat : Int) (some l0)).1).1).1).1 := ⟨_, rfl⟩
    rw [← h5] at h
    simp only [Prod.mk.injEq] at h
    obtain ⟨rfl, rfl⟩ := h
    dsimp only at hq hn ⊢
    rw [kidsB_room (readB_room k) _ _ (n + 1) l _ h5.symm (by omega), Option.bind_some, hq, Nat.add_assoc]
theorem kidsB_few {k : Nat} (hF : ∀ (st : Option (List UInt8)) (n : Nat) X, n ≤ 24 → readB k st n = some X → X.2.1 ≤ 24) : ∀ (j : Nat) (st : Option (List UInt8)) (n : Nat) Y, n ≤ 24 → kidsB (readB k) j st n = some Y → Y.2.1 ≤ 24
  | 0, st, n, Y, hn, h => by simp only [kidsB, Option.some.injEq] at h; subst h; exact hn
  | j + 1, st, n, Y, hn, h => by
    simp only [kidsB] at h
    obtain ⟨X, hx, h⟩ := Option.bind_eq_some_iff.1 h
    obtain ⟨Z, hz, h⟩ := Option.bind_eq_some_iff.1 h
    simp only [Option.some.injEq] at h
    subst h
    exact kidsB_few hF j _ _ Z (hF _ _ X hn hx) hz
theorem readB_few : ∀ (k : Nat) (st : Option (List UInt8)) (n : Nat) X, n ≤ 24 → readB k st n = some X → X.2.1 ≤ 24
  | 0, st, n, X, _, h => by rw [rb_zero] at h; cases h
  | k + 1, none, n, X, _, h => by rw [rb_none] at h; cases h
  | k + 1, some [], n, X, _, h => by rw [rb_nil] at h; cases h
  | k + 1, some (b :: l0), n, X, hn, h => by
    by_cases hn2 : 24 ≤ n
    · rw [rb_full _ _ _ _ hn2] at h; cases h
    rw [rb_cons _ _ _ _ hn2] at h
    obtain ⟨Y, hy, h⟩ := Option.bind_eq_some_iff.1 h
    simp only [Option.some.injEq] at h
    subst h
    exact kidsB_few (readB_few k) _ _ _ Y (by omega) hy
def getB (b : List UInt8) : Ns (Sc 8) × Int :=
  match readB 8 (some b) 0 with
  | none => (zeroNs, 2)
  | some X => if X.1 = some [] ∧ mayS 9 X.2.2 = true then (X.2.2, 0) else (zeroNs, 2)
theorem getB_is (b : List UInt8) : getB b = getSc b := by
  unfold getB getSc
  by_cases h : (readSc 8 (some b)).1 = some [] ∧ mayS 9 (readSc 8 (some b)).2 = true
  · rw [if_pos h]
    have hn : nodesS 9 (readSc 8 (some b)).2 ≤ 24 := by
      have := h.2
      unfold mayS at this
      rw [Bool.and_eq_true, decide_eq_true_eq] at this
      exact this.2
    have e := readB_room 8 (some b) 0 [] (readSc 8 (some b)).2 (Prod.ext h.1 rfl) (by show 0 + nodesS 9 (readSc 8 (some b)).2 ≤ 24; omega)
    rw [e]
    dsimp only
    rw [if_pos ⟨rfl, h.2⟩]
  · rw [if_neg h]
    cases hr : readB 8 (some b) 0 with
    | none => rfl
    | some X =>
      dsimp only
      refine if_neg fun hx => h ?_
      obtain ⟨s, m, x⟩ := X
      obtain ⟨h1, h2⟩ := hx
      dsimp only at h1 h2
      subst h1
      have := readB_reads 8 (some b) 0 [] m x hr
      rw [this]
      exact ⟨rfl, h2⟩
end
end Go.Proofs.Ytcbkokhjdleoeaa
