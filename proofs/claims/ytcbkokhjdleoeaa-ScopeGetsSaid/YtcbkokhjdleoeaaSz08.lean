/-
  ScIM: The document's bytes (layer 20), over the loaded program: of all of some, of one of some. No condition but the sizes that each contract names.
  ScIO: The document's bytes (layer 20), over the loaded program: of what is not. No condition but the sizes that each contract names.
  ScJ: The document's bytes and Put (layer 20), over the loaded program: each one's contract. No condition.
  ScY: Scopes that came in; append of one scope onto a row of the call's own; over the loaded program. No condition. (WRITTEN IN ROUND 19, NEVER COMPILED: no seat had api.Scope yet.)
-/
import Derived.Test.YtcbkokhjdleoeaaSz06
import Derived.Test.YtcbkokhjdleoeaaSz05
import Derived.Test.YtcbkokhjdleoeaaSz07
import Derived.Test.YtcbkokhjdleoeaaSz02
import Derived.Test.YtcbkokhjdleoeaaSz01
set_option linter.unusedVariables false
set_option maxRecDepth 100000
namespace Go.Proofs.Ytcbkokhjdleoeaa
section
open Go.RowKit
set_option maxHeartbeats 4000000 in
theorem zbytes_6 (S : Nat → Prop) (f : Nat) (ih : BytesIh S f) (t : Ns (Sc f)) (v : Value) (d : Int) (w : World) (hok : okS (f + 1) t d = true) (hno : nodesS (f + 1) t ≤ 24) (hop : t.op = 6) (hv : ZV w S (f + 1) v t) :
    Calls Try.prog 25 #[v] w fun e w' => Fresh w e w' (bytesS (f + 1) t) := by
  obtain ⟨c0, c1, c2, c3, c4, rfl, rfl, hk, rfl, hml, rfl, hfr, rfl, hto, hks⟩ := hv
  obtain ⟨A3, cap3, e3, hl3, hm3⟩ := hks.form
  subst e3
  obtain ⟨i0, hi, hz0, hz1, hz2⟩ := info_parts info_byte
  rw [okS_eq] at hok
  simp only [Bool.and_eq_true, decide_eq_true_eq, List.all_eq_true] at hok
  obtain ⟨⟨_, hfit⟩, hall⟩ := hok
  have ff := (zfit_many (x := t) (by omega)).1 hfit
  have hB := (show bytesS (f + 1) t = (([6] : List UInt8) ++ numb t.kids.length) ++ (t.kids.map (bytesS f)).flatten from (zbytes_many (t := t) (by omega)).trans (by rw [hop]; rfl))
  obtain ⟨PB, hPB⟩ : ∃ PB, PB = bytesS (f + 1) t := ⟨_, rfl⟩
  rw [← hPB]
  have HC := Lib.hid (hPB.trans hB)
  clear hPB
  have HNM : Hid (∀ W : World, Calls Try.prog 42 #[.int .i64 6] W fun e w' => e = .returned (.bool false) ∧ w' = W) := fun W => znamed_any 6 W
  have HMM : Hid (∀ W : World, Calls Try.prog 37 #[.int .i64 6] W fun e w' => e = .returned (.bool true) ∧ w' = W) := fun W => zmany_any 6 W
  rw [nodesS_eq] at hno
  clear hB
  rw [hop]
  generalize t.from_ = fr at *
  generalize t.to_ = to_ at *
  generalize hnm : t.name = l at *
  generalize hkk : t.kids = ks at *
  have hlen : ks.length ≤ 9223372036854775807 := by unfold maxLen at hm3; omega
  have hk24 : ks.length ≤ 23 := by have := nodesS_len f ks; omega
  have U : u64 (ks.length : Int) = ks.length := by unfold u64; omega
  have NN : ∀ W : World, Calls Try.prog 44 #[.int .i64 (ks.length : Int)] W fun e w' => Fresh W e w' (numb ks.length) := fun W => by
    have := rint_any (ks.length : Int) W
    rwa [U] at this
  have HNL := Lib.hid (numb_len ks.length)
  obtain ⟨ff1, rfl, rfl, ff4⟩ := ff
  clear ff1 ff4
  unfold strV at *
  obtain ⟨s, hs⟩ : ∃ s : ByteArray, s = ⟨l.toArray⟩ := ⟨_, rfl⟩
  rw [← hs]
  clear hs hml
  have kb := (KB.new w 24 #[.int .i64 6, .string s, .int .i64 0, .int .i64 0, .slice A3 ks.length cap3]).alloc (.cells #[.int .u8 6] 5)
  have own0 : ((w.alloc (.cells #[.int .i64 6, .string s, .int .i64 0, .int .i64 0, .slice A3 ks.length cap3] 24)).alloc (.cells #[.int .u8 6] 5)).ownsRow (w.heap.size + 1) 5 1 (.slice (some ⟨w.heap.size + 1, 0, none⟩) 1 1) ([6] : List UInt8).length (([6] : List UInt8).map bv) := by
    have := zlit (w.alloc (.cells #[.int .i64 6, .string s, .int .i64 0, .int .i64 0, .slice A3 ks.length cap3] 24)) 6 (w.heap.size + 1) (by simp)
    simp only [World.size_alloc] at this
    exact this
  have B0 : Below w.heap.size w ((w.alloc (.cells #[.int .i64 6, .string s, .int .i64 0, .int .i64 0, .slice A3 ks.length cap3] 24)).alloc (.cells #[.int .u8 6] 5)) := ((Below.refl _ _).alloc (Nat.le_refl _) _).alloc (by simp) _
  have S0 : w.heap.size + 1 ≤ ((w.alloc (.cells #[.int .i64 6, .string s, .int .i64 0, .int .i64 0, .slice A3 ks.length cap3] 24)).alloc (.cells #[.int .u8 6] 5)).heap.size := by simp
  go_enter Try.func25, Try.ntmps25
  go_wp2_with fail
  generalize (w.alloc (.cells #[.int .i64 6, .string s, .int .i64 0, .int .i64 0, .slice A3 ks.length cap3] 24)).alloc (.cells #[.int .u8 6] 5) = W1 at *
  have q0 : W1.cell? ⟨w.heap.size, 0, none⟩ = some (.int .i64 6) := kb.cell 0
  have q1 : W1.cell? ⟨w.heap.size, 1, none⟩ = some (.string s) := kb.cell 1
  have q4 : W1.cell? ⟨w.heap.size, 4, none⟩ = some (.slice A3 ks.length cap3) := kb.cell 4
  refine (HNM.out _).mono ?_
  rintro e W0 ⟨rfl, rfl⟩
  go_wp2_with fail
  refine (HMM.out _).mono ?_
  rintro e wq ⟨rfl, rfl⟩
  go_wp2_with fail
  refine (NN _).mono ?_
  rintro e w6 ⟨v6, rfl, how6, b6⟩
  have own6 := own_past b6 own0
  have kb6 := kb.below b6 kb.lt
  have B6 := B0.trans (b6.mono B0.size)
  have S6 := Nat.le_trans S0 b6.size
  have bs6 := own_BS how6
  clear how6 own0 kb B0 b6 S0 NN
  clear q0 q1 q4
  generalize numb ks.length = T at *
  go_wp2_with (at_builtin; refine wpList_grow _ rfl (.tmp 33) (.tmp 37) _ rfl (w.heap.size + 1) 5 i0 Try.underlying27 hi hz0 hz1 hz2 _ [6] rfl own6 _ _ T rfl bs6 (by have := HNL.out; simp; omega) S6 ?_; intro v7 w7 own7 g7 _)
  have kb7 := kb6.grown g7 (own_ne own6 (by omega))
  have B7 := B6.grown g7 B6.size (fun g hg => by have := (own6.lt g hg).1; omega)
  have S7 := Nat.le_trans S6 g7.size
  clear own6 kb6 B6 bs6 g7 S6
  clear HNM HMM
  go_wp2_with fail
  have HH : Hid ((([6] ++ T)).length ≤ 12) := by show _ ≤ _; have := HNL.out; simp; omega
  generalize ([6] ++ T) = Hd at *
  go_loopw [3, 4] (fun bb iv wr => ∃ j : Nat, j ≤ ks.length ∧ iv = .int .i64 j ∧ (∃ L : List UInt8, Hid (L = Hd ++ ((ks.take j).map (bytesS f)).flatten) ∧ L.length ≤ 12 + 1500 * j ∧ wr.ownsRow (w.heap.size + 1) 5 1 bb L.length (L.map bv)) ∧ w.heap.size + 1 ≤ wr.heap.size ∧ KB wr w.heap.size 24 #[.int .i64 6, .string s, .int .i64 0, .int .i64 0, .slice A3 ks.length cap3] ∧ Below w.heap.size w wr) (fun _ iv _ => ks.length - (intOf iv).toNat)
  case atStart => exact ⟨0, by omega, rfl, ⟨Hd, (by show _ = _; simp), by have := HH.out; omega, own7⟩, S7, kb7, B7⟩
  case round =>
    clear own7 S7 kb7 B7
    obtain ⟨j, hj, rfl, ⟨L, HL, hLl, own⟩, SZ, K, B⟩ := hrel
    have q4 : wr.cell? ⟨w.heap.size, 4, none⟩ = some (.slice A3 ks.length cap3) := K.cell 4
    by_cases hlt : j < ks.length
    · have hltI : (j : Int) < (ks.length : Int) := by omega
      have hjk : j < ks.length := hlt
      obtain ⟨b, o, e0, e1, e2, e3, e4, rfl, _, k0, k1, k2, k3, k4, hv⟩ := kid_zb hks rfl B j hjk
      have hk1 := hall ks[j] (List.getElem_mem hjk)
      have hk2 : nodesS f ks[j] ≤ 24 := by have := nodesS_kid f ks ks[j] (List.getElem_mem hjk); omega
      have hc := ih ks[j] _ (d - 1) wr hk1 hk2 hv
      have hbl := zlen_le f ks[j] (d - 1) hk1
      have HS := Lib.hid (zkids_step hjk Hd)
      clear hv
      generalize bytesS f ks[j] = P at *
      have HP : Hid (P.length ≤ 1440) := by show _ ≤ _; omega
      clear hbl hk1 hk2
      go_wp2_with fail
      refine hc.mono ?_
      rintro e w5 ⟨v5, rfl, how5, b5⟩
      have own5 := own_past b5 own
      have K5 := K.below b5 K.lt
      have B5 := B.trans (b5.mono B.size)
      have S5 := Nat.le_trans SZ b5.size
      have bs5 := own_BS how5
      clear hc own K B how5 b5 SZ
      go_wp2_with (at_builtin; refine wpList_grow _ rfl (.tmp 46) (.tmp 52) _ rfl (w.heap.size + 1) 5 i0 Try.underlying27 hi hz0 hz1 hz2 _ L rfl own5 _ _ P rfl bs5 (by have := HP.out; omega) S5 ?_; intro v7 w7 own7 g7 _)
      have K7 := K5.grown g7 (own_ne own5 (by omega))
      have B7 := B5.grown g7 B5.size (fun g hg => by have := (own5.lt g hg).1; omega)
      have S7 := Nat.le_trans S5 g7.size
      go_roundw
      case rel => exact ⟨j + 1, by omega, by go_num, ⟨L ++ P, (by show _ = _; rw [HL.out]; exact HS.out), by have := HP.out; rw [List.length_append]; omega, own7⟩, S7, K7, B7⟩
      case measure => simp [intOf]; omega
    · obtain rfl : j = ks.length := by omega
      have hL : L = Hd ++ (ks.map (bytesS f)).flatten := by rw [HL.out, List.take_length]
      clear HL
      subst hL
      go_wp2_with fail
      go_ret
      exact ⟨_, rfl, by rw [HC.out]; exact own_base own (by omega), B⟩
set_option maxHeartbeats 4000000 in
theorem zbytes_7 (S : Nat → Prop) (f : Nat) (ih : BytesIh S f) (t : Ns (Sc f)) (v : Value) (d : Int) (w : World) (hok : okS (f + 1) t d = true) (hno : nodesS (f + 1) t ≤ 24) (hop : t.op = 7) (hv : ZV w S (f + 1) v t) :
    Calls Try.prog 25 #[v] w fun e w' => Fresh w e w' (bytesS (f + 1) t) := by
  obtain ⟨c0, c1, c2, c3, c4, rfl, rfl, hk, rfl, hml, rfl, hfr, rfl, hto, hks⟩ := hv
  obtain ⟨A3, cap3, e3, hl3, hm3⟩ := hks.form
  subst e3
  obtain ⟨i0, hi, hz0, hz1, hz2⟩ := info_parts info_byte
  rw [okS_eq] at hok
  simp only [Bool.and_eq_true, decide_eq_true_eq, List.all_eq_true] at hok
  obtain ⟨⟨_, hfit⟩, hall⟩ := hok
  have ff := (zfit_many (x := t) (by omega)).1 hfit
  have hB := (show bytesS (f + 1) t = (([7] : List UInt8) ++ numb t.kids.length) ++ (t.kids.map (bytesS f)).flatten from (zbytes_many (t := t) (by omega)).trans (by rw [hop]; rfl))
  obtain ⟨PB, hPB⟩ : ∃ PB, PB = bytesS (f + 1) t := ⟨_, rfl⟩
  rw [← hPB]
  have HC := Lib.hid (hPB.trans hB)
  clear hPB
  have HNM : Hid (∀ W : World, Calls Try.prog 42 #[.int .i64 7] W fun e w' => e = .returned (.bool false) ∧ w' = W) := fun W => znamed_any 7 W
  have HMM : Hid (∀ W : World, Calls Try.prog 37 #[.int .i64 7] W fun e w' => e = .returned (.bool true) ∧ w' = W) := fun W => zmany_any 7 W
  rw [nodesS_eq] at hno
  clear hB
  rw [hop]
  generalize t.from_ = fr at *
  generalize t.to_ = to_ at *
  generalize hnm : t.name = l at *
  generalize hkk : t.kids = ks at *
  have hlen : ks.length ≤ 9223372036854775807 := by unfold maxLen at hm3; omega
  have hk24 : ks.length ≤ 23 := by have := nodesS_len f ks; omega
  have U : u64 (ks.length : Int) = ks.length := by unfold u64; omega
  have NN : ∀ W : World, Calls Try.prog 44 #[.int .i64 (ks.length : Int)] W fun e w' => Fresh W e w' (numb ks.length) := fun W => by
    have := rint_any (ks.length : Int) W
    rwa [U] at this
  have HNL := Lib.hid (numb_len ks.length)
  obtain ⟨ff1, rfl, rfl, ff4⟩ := ff
  clear ff1 ff4
  unfold strV at *
  obtain ⟨s, hs⟩ : ∃ s : ByteArray, s = ⟨l.toArray⟩ := ⟨_, rfl⟩
  rw [← hs]
  clear hs hml
  have kb := (KB.new w 24 #[.int .i64 7, .string s, .int .i64 0, .int .i64 0, .slice A3 ks.length cap3]).alloc (.cells #[.int .u8 7] 5)
  have own0 : ((w.alloc (.cells #[.int .i64 7, .string s, .int .i64 0, .int .i64 0, .slice A3 ks.length cap3] 24)).alloc (.cells #[.int .u8 7] 5)).ownsRow (w.heap.size + 1) 5 1 (.slice (some ⟨w.heap.size + 1, 0, none⟩) 1 1) ([7] : List UInt8).length (([7] : List UInt8).map bv) := by
    have := zlit (w.alloc (.cells #[.int .i64 7, .string s, .int .i64 0, .int .i64 0, .slice A3 ks.length cap3] 24)) 7 (w.heap.size + 1) (by simp)
    simp only [World.size_alloc] at this
    exact this
  have B0 : Below w.heap.size w ((w.alloc (.cells #[.int .i64 7, .string s, .int .i64 0, .int .i64 0, .slice A3 ks.length cap3] 24)).alloc (.cells #[.int .u8 7] 5)) := ((Below.refl _ _).alloc (Nat.le_refl _) _).alloc (by simp) _
  have S0 : w.heap.size + 1 ≤ ((w.alloc (.cells #[.int .i64 7, .string s, .int .i64 0, .int .i64 0, .slice A3 ks.length cap3] 24)).alloc (.cells #[.int .u8 7] 5)).heap.size := by simp
  go_enter Try.func25, Try.ntmps25
  go_wp2_with fail
  generalize (w.alloc (.cells #[.int .i64 7, .string s, .int .i64 0, .int .i64 0, .slice A3 ks.length cap3] 24)).alloc (.cells #[.int .u8 7] 5) = W1 at *
  have q0 : W1.cell? ⟨w.heap.size, 0, none⟩ = some (.int .i64 7) := kb.cell 0
  have q1 : W1.cell? ⟨w.heap.size, 1, none⟩ = some (.string s) := kb.cell 1
  have q4 : W1.cell? ⟨w.heap.size, 4, none⟩ = some (.slice A3 ks.length cap3) := kb.cell 4
  refine (HNM.out _).mono ?_
  rintro e W0 ⟨rfl, rfl⟩
  go_wp2_with fail
  refine (HMM.out _).mono ?_
  rintro e wq ⟨rfl, rfl⟩
  go_wp2_with fail
  refine (NN _).mono ?_
  rintro e w6 ⟨v6, rfl, how6, b6⟩
  have own6 := own_past b6 own0
  have kb6 := kb.below b6 kb.lt
  have B6 := B0.trans (b6.mono B0.size)
  have S6 := Nat.le_trans S0 b6.size
  have bs6 := own_BS how6
  clear how6 own0 kb B0 b6 S0 NN
  clear q0 q1 q4
  generalize numb ks.length = T at *
  go_wp2_with (at_builtin; refine wpList_grow _ rfl (.tmp 33) (.tmp 37) _ rfl (w.heap.size + 1) 5 i0 Try.underlying27 hi hz0 hz1 hz2 _ [7] rfl own6 _ _ T rfl bs6 (by have := HNL.out; simp; omega) S6 ?_; intro v7 w7 own7 g7 _)
  have kb7 := kb6.grown g7 (own_ne own6 (by omega))
  have B7 := B6.grown g7 B6.size (fun g hg => by have := (own6.lt g hg).1; omega)
  have S7 := Nat.le_trans S6 g7.size
  clear own6 kb6 B6 bs6 g7 S6
  clear HNM HMM
  go_wp2_with fail
  have HH : Hid ((([7] ++ T)).length ≤ 12) := by show _ ≤ _; have := HNL.out; simp; omega
  generalize ([7] ++ T) = Hd at *
  go_loopw [3, 4] (fun bb iv wr => ∃ j : Nat, j ≤ ks.length ∧ iv = .int .i64 j ∧ (∃ L : List UInt8, Hid (L = Hd ++ ((ks.take j).map (bytesS f)).flatten) ∧ L.length ≤ 12 + 1500 * j ∧ wr.ownsRow (w.heap.size + 1) 5 1 bb L.length (L.map bv)) ∧ w.heap.size + 1 ≤ wr.heap.size ∧ KB wr w.heap.size 24 #[.int .i64 7, .string s, .int .i64 0, .int .i64 0, .slice A3 ks.length cap3] ∧ Below w.heap.size w wr) (fun _ iv _ => ks.length - (intOf iv).toNat)
  case atStart => exact ⟨0, by omega, rfl, ⟨Hd, (by show _ = _; simp), by have := HH.out; omega, own7⟩, S7, kb7, B7⟩
  case round =>
    clear own7 S7 kb7 B7
    obtain ⟨j, hj, rfl, ⟨L, HL, hLl, own⟩, SZ, K, B⟩ := hrel
    have q4 : wr.cell? ⟨w.heap.size, 4, none⟩ = some (.slice A3 ks.length cap3) := K.cell 4
    by_cases hlt : j < ks.length
    · have hltI : (j : Int) < (ks.length : Int) := by omega
      have hjk : j < ks.length := hlt
      obtain ⟨b, o, e0, e1, e2, e3, e4, rfl, _, k0, k1, k2, k3, k4, hv⟩ := kid_zb hks rfl B j hjk
      have hk1 := hall ks[j] (List.getElem_mem hjk)
      have hk2 : nodesS f ks[j] ≤ 24 := by have := nodesS_kid f ks ks[j] (List.getElem_mem hjk); omega
      have hc := ih ks[j] _ (d - 1) wr hk1 hk2 hv
      have hbl := zlen_le f ks[j] (d - 1) hk1
      have HS := Lib.hid (zkids_step hjk Hd)
      clear hv
      generalize bytesS f ks[j] = P at *
      have HP : Hid (P.length ≤ 1440) := by show _ ≤ _; omega
      clear hbl hk1 hk2
      go_wp2_with fail
      refine hc.mono ?_
      rintro e w5 ⟨v5, rfl, how5, b5⟩
      have own5 := own_past b5 own
      have K5 := K.below b5 K.lt
      have B5 := B.trans (b5.mono B.size)
      have S5 := Nat.le_trans SZ b5.size
      have bs5 := own_BS how5
      clear hc own K B how5 b5 SZ
      go_wp2_with (at_builtin; refine wpList_grow _ rfl (.tmp 46) (.tmp 52) _ rfl (w.heap.size + 1) 5 i0 Try.underlying27 hi hz0 hz1 hz2 _ L rfl own5 _ _ P rfl bs5 (by have := HP.out; omega) S5 ?_; intro v7 w7 own7 g7 _)
      have K7 := K5.grown g7 (own_ne own5 (by omega))
      have B7 := B5.grown g7 B5.size (fun g hg => by have := (own5.lt g hg).1; omega)
      have S7 := Nat.le_trans S5 g7.size
      go_roundw
      case rel => exact ⟨j + 1, by omega, by go_num, ⟨L ++ P, (by show _ = _; rw [HL.out]; exact HS.out), by have := HP.out; rw [List.length_append]; omega, own7⟩, S7, K7, B7⟩
      case measure => simp [intOf]; omega
    · obtain rfl : j = ks.length := by omega
      have hL : L = Hd ++ (ks.map (bytesS f)).flatten := by rw [HL.out, List.take_length]
      clear HL
      subst hL
      go_wp2_with fail
      go_ret
      exact ⟨_, rfl, by rw [HC.out]; exact own_base own (by omega), B⟩
end
section
open Go.RowKit
set_option maxHeartbeats 4000000 in
theorem zbytes_8 (S : Nat → Prop) (f : Nat) (ih : BytesIh S f) (t : Ns (Sc f)) (v : Value) (d : Int) (w : World) (hok : okS (f + 1) t d = true) (hno : nodesS (f + 1) t ≤ 24) (hop : t.op = 8) (hv : ZV w S (f + 1) v t) :
    Calls Try.prog 25 #[v] w fun e w' => Fresh w e w' (bytesS (f + 1) t) := by
  obtain ⟨c0, c1, c2, c3, c4, rfl, rfl, hk, rfl, hml, rfl, hfr, rfl, hto, hks⟩ := hv
  obtain ⟨A3, cap3, e3, hl3, hm3⟩ := hks.form
  subst e3
  obtain ⟨i0, hi, hz0, hz1, hz2⟩ := info_parts info_byte
  rw [okS_eq] at hok
  simp only [Bool.and_eq_true, decide_eq_true_eq, List.all_eq_true] at hok
  obtain ⟨⟨_, hfit⟩, hall⟩ := hok
  have ff := (zfit_not (x := t) hop).1 hfit
  have hB := zbytes_not hop
  obtain ⟨PB, hPB⟩ : ∃ PB, PB = bytesS (f + 1) t := ⟨_, rfl⟩
  rw [← hPB]
  have HC := Lib.hid (hPB.trans hB)
  clear hPB
  have HNM : Hid (∀ W : World, Calls Try.prog 42 #[.int .i64 8] W fun e w' => e = .returned (.bool false) ∧ w' = W) := fun W => znamed_any 8 W
  have HMM : Hid (∀ W : World, Calls Try.prog 37 #[.int .i64 8] W fun e w' => e = .returned (.bool false) ∧ w' = W) := fun W => zmany_any 8 W
  rw [nodesS_eq] at hno
  clear hB
  rw [hop]
  generalize t.from_ = fr at *
  generalize t.to_ = to_ at *
  generalize hnm : t.name = l at *
  generalize hkk : t.kids = ks at *
  have hlen : ks.length ≤ 9223372036854775807 := by unfold maxLen at hm3; omega
  have hk24 : ks.length ≤ 23 := by have := nodesS_len f ks; omega
  obtain ⟨ff1, rfl, rfl, ff4⟩ := ff
  clear ff1 ff4
  unfold strV at *
  obtain ⟨s, hs⟩ : ∃ s : ByteArray, s = ⟨l.toArray⟩ := ⟨_, rfl⟩
  rw [← hs]
  clear hs hml
  have kb := (KB.new w 24 #[.int .i64 8, .string s, .int .i64 0, .int .i64 0, .slice A3 ks.length cap3]).alloc (.cells #[.int .u8 8] 5)
  have own0 : ((w.alloc (.cells #[.int .i64 8, .string s, .int .i64 0, .int .i64 0, .slice A3 ks.length cap3] 24)).alloc (.cells #[.int .u8 8] 5)).ownsRow (w.heap.size + 1) 5 1 (.slice (some ⟨w.heap.size + 1, 0, none⟩) 1 1) ([8] : List UInt8).length (([8] : List UInt8).map bv) := by
    have := zlit (w.alloc (.cells #[.int .i64 8, .string s, .int .i64 0, .int .i64 0, .slice A3 ks.length cap3] 24)) 8 (w.heap.size + 1) (by simp)
    simp only [World.size_alloc] at this
    exact this
  have B0 : Below w.heap.size w ((w.alloc (.cells #[.int .i64 8, .string s, .int .i64 0, .int .i64 0, .slice A3 ks.length cap3] 24)).alloc (.cells #[.int .u8 8] 5)) := ((Below.refl _ _).alloc (Nat.le_refl _) _).alloc (by simp) _
  have S0 : w.heap.size + 1 ≤ ((w.alloc (.cells #[.int .i64 8, .string s, .int .i64 0, .int .i64 0, .slice A3 ks.length cap3] 24)).alloc (.cells #[.int .u8 8] 5)).heap.size := by simp
  go_enter Try.func25, Try.ntmps25
  go_wp2_with fail
  generalize (w.alloc (.cells #[.int .i64 8, .string s, .int .i64 0, .int .i64 0, .slice A3 ks.length cap3] 24)).alloc (.cells #[.int .u8 8] 5) = W1 at *
  have q0 : W1.cell? ⟨w.heap.size, 0, none⟩ = some (.int .i64 8) := kb.cell 0
  have q1 : W1.cell? ⟨w.heap.size, 1, none⟩ = some (.string s) := kb.cell 1
  have q4 : W1.cell? ⟨w.heap.size, 4, none⟩ = some (.slice A3 ks.length cap3) := kb.cell 4
  refine (HNM.out _).mono ?_
  rintro e W0 ⟨rfl, rfl⟩
  go_wp2_with fail
  refine (HMM.out _).mono ?_
  rintro e wq ⟨rfl, rfl⟩
  clear HNM HMM
  go_wp2_with fail
  have HH : Hid ((([8] : List UInt8)).length ≤ 12) := by show _ ≤ _; simp
  generalize ([8] : List UInt8) = Hd at *
  go_loopw [3, 4] (fun bb iv wr => ∃ j : Nat, j ≤ ks.length ∧ iv = .int .i64 j ∧ (∃ L : List UInt8, Hid (L = Hd ++ ((ks.take j).map (bytesS f)).flatten) ∧ L.length ≤ 12 + 1500 * j ∧ wr.ownsRow (w.heap.size + 1) 5 1 bb L.length (L.map bv)) ∧ w.heap.size + 1 ≤ wr.heap.size ∧ KB wr w.heap.size 24 #[.int .i64 8, .string s, .int .i64 0, .int .i64 0, .slice A3 ks.length cap3] ∧ Below w.heap.size w wr) (fun _ iv _ => ks.length - (intOf iv).toNat)
  case atStart => exact ⟨0, by omega, rfl, ⟨Hd, (by show _ = _; simp), by have := HH.out; omega, own0⟩, S0, kb, B0⟩
  case round =>
    clear own0 S0 kb B0
    obtain ⟨j, hj, rfl, ⟨L, HL, hLl, own⟩, SZ, K, B⟩ := hrel
    have q4 : wr.cell? ⟨w.heap.size, 4, none⟩ = some (.slice A3 ks.length cap3) := K.cell 4
    by_cases hlt : j < ks.length
    · have hltI : (j : Int) < (ks.length : Int) := by omega
      have hjk : j < ks.length := hlt
      obtain ⟨b, o, e0, e1, e2, e3, e4, rfl, _, k0, k1, k2, k3, k4, hv⟩ := kid_zb hks rfl B j hjk
      have hk1 := hall ks[j] (List.getElem_mem hjk)
      have hk2 : nodesS f ks[j] ≤ 24 := by have := nodesS_kid f ks ks[j] (List.getElem_mem hjk); omega
      have hc := ih ks[j] _ (d - 1) wr hk1 hk2 hv
      have hbl := zlen_le f ks[j] (d - 1) hk1
      have HS := Lib.hid (zkids_step hjk Hd)
      clear hv
      generalize bytesS f ks[j] = P at *
      have HP : Hid (P.length ≤ 1440) := by show _ ≤ _; omega
      clear hbl hk1 hk2
      go_wp2_with fail
      refine hc.mono ?_
      rintro e w5 ⟨v5, rfl, how5, b5⟩
      have own5 := own_past b5 own
      have K5 := K.below b5 K.lt
      have B5 := B.trans (b5.mono B.size)
      have S5 := Nat.le_trans SZ b5.size
      have bs5 := own_BS how5
      clear hc own K B how5 b5 SZ
      go_wp2_with (at_builtin; refine wpList_grow _ rfl (.tmp 46) (.tmp 52) _ rfl (w.heap.size + 1) 5 i0 Try.underlying27 hi hz0 hz1 hz2 _ L rfl own5 _ _ P rfl bs5 (by have := HP.out; omega) S5 ?_; intro v7 w7 own7 g7 _)
      have K7 := K5.grown g7 (own_ne own5 (by omega))
      have B7 := B5.grown g7 B5.size (fun g hg => by have := (own5.lt g hg).1; omega)
      have S7 := Nat.le_trans S5 g7.size
      go_roundw
      case rel => exact ⟨j + 1, by omega, by go_num, ⟨L ++ P, (by show _ = _; rw [HL.out]; exact HS.out), by have := HP.out; rw [List.length_append]; omega, own7⟩, S7, K7, B7⟩
      case measure => simp [intOf]; omega
    · obtain rfl : j = ks.length := by omega
      have hL : L = Hd ++ (ks.map (bytesS f)).flatten := by rw [HL.out, List.take_length]
      clear HL
      subst hL
      go_wp2_with fail
      go_ret
      exact ⟨_, rfl, by rw [HC.out]; exact own_base own (by omega), B⟩
end
section
open Go.RowKit
theorem zbytes_any (S : Nat → Prop) : ∀ f : Nat, BytesIh S f
  | 0 => fun t => nomatch t
  | f + 1 => fun (t : Ns (Sc f)) v d w hok hn hv => by
    have ih := zbytes_any S f
    have hr : 1 ≤ t.op ∧ t.op ≤ 8 := by
      have h := hok
      rw [okS_eq] at h
      simp only [Bool.and_eq_true, decide_eq_true_eq] at h
      exact ((fits_iff t).1 h.1.2).1
    by_cases h1 : t.op = 1
    · exact zbytes_1 S f ih t v d w hok hn h1 hv
    by_cases h2 : t.op = 2
    · exact zbytes_2 S f ih t v d w hok hn h2 hv
    by_cases h3 : t.op = 3
    · exact zbytes_3 S f ih t v d w hok hn h3 hv
    by_cases h4 : t.op = 4
    · exact zbytes_4 S f ih t v d w hok hn h4 hv
    by_cases h5 : t.op = 5
    · exact zbytes_5 S f ih t v d w hok hn h5 hv
    by_cases h6 : t.op = 6
    · exact zbytes_6 S f ih t v d w hok hn h6 hv
    by_cases h7 : t.op = 7
    · exact zbytes_7 S f ih t v d w hok hn h7 hv
    · exact zbytes_8 S f ih t v d w hok hn (by omega) hv
def PutZ (w : World) (r : List UInt8 × Int) (e : Ending) (w' : World) : Prop := ∃ v, e = .returned (.tuple #[v, .int .i64 r.2]) ∧ w'.ownsRow w.heap.size 5 1 v r.1.length (r.1.map bv) ∧ Below w.heap.size w w'
set_option maxHeartbeats 2000000 in
theorem zrput_any (S : Nat → Prop) (f : Nat) (t : Sc f) (v : Value) (w : World) (hv : ZV w S f v t) :
    Calls Try.prog 11 #[v] w (PutZ w (putSc f t)) := by
  obtain ⟨c0, c1, c2, c3, c4, rfl, ht⟩ := hv
  have hv2 : ZV (w.alloc (.cells #[c0, c1, c2, c3, c4] 24)) S f (.agg #[c0, c1, c2, c3, c4]) t := ZV.alloc ⟨c0, c1, c2, c3, c4, rfl, ht⟩ _
  have hm := zrmay_any S f t _ _ hv2
  have B0 := (Below.refl w.heap.size w).alloc (Nat.le_refl _) (.cells #[c0, c1, c2, c3, c4] 24)
  have kb := KB.new w 24 #[c0, c1, c2, c3, c4]
  have hby : ∀ W, mayS f t = true → Below (w.alloc (.cells #[c0, c1, c2, c3, c4] 24)).heap.size (w.alloc (.cells #[c0, c1, c2, c3, c4] 24)) W → Calls Try.prog 25 #[.agg #[c0, c1, c2, c3, c4]] W fun e w' => Fresh W e w' (bytesS f t) := fun W h hb => by
    unfold mayS at h
    rw [Bool.and_eq_true, decide_eq_true_eq] at h
    exact zbytes_any S f t _ 8 W h.1 h.2 (hv2.below' hb)
  have HBY := Lib.hid hby
  obtain ⟨D, hD⟩ : ∃ D, D = PutZ w (putSc f t) := ⟨_, rfl⟩
  rw [← hD]
  have HN : Hid (mayS f t = false → ∀ W, Below w.heap.size w W → D (.returned (.tuple #[.slice none 0 0, .int .i64 1])) W) := fun h W hb => by
    rw [hD]; unfold putSc; rw [h]
    exact ⟨_, rfl, World.ownsRow_nil _ _ _ _, hb⟩
  have HY : Hid (mayS f t = true → ∀ W v, W.ownsRow w.heap.size 5 1 v (bytesS f t).length ((bytesS f t).map bv) → Below w.heap.size w W → D (.returned (.tuple #[v, .int .i64 0])) W) := fun h W v ho hb => by
    rw [hD]; unfold putSc; rw [if_pos h]
    exact ⟨_, rfl, ho, hb⟩
  clear hD hby hv2
  obtain ⟨i0, l1, i2, i3, X4, n4, z4, rfl, rfl, rfl, rfl, rfl⟩ := ht.form
  unfold strV at *
  clear ht
  generalize bytesS f t = P at *
  generalize mayS f t = r at *
  go_enter Try.func11, Try.ntmps11
  go_wp2_with fail
  refine hm.mono ?_
  rintro e w5 ⟨rfl, b5⟩
  have k5 := kb.below b5 kb.lt
  have B5 := B0.trans (b5.mono (by simp))
  have q0 := k5.cell 0
  have q1 := k5.cell 1
  have q2 := k5.cell 2
  have q3 := k5.cell 3
  have q4 := k5.cell 4
  clear hm
  cases r with
  | false =>
    have hf := Lib.hid (HN.out (by simp) w5 B5)
    clear HN HY HBY
    go_wp2_with fail
    exact hf.out
  | true =>
    have hb := HBY.out w5 (by simp) b5
    clear HN HBY
    go_wp2_with fail
    refine hb.mono ?_
    rintro e w6 ⟨v6, rfl, o6, b6⟩
    have hf := Lib.hid (HY.out (by simp) w6 v6 (own_base o6 B5.size) (B5.trans (b6.mono B5.size)))
    clear HY hb
    go_wp2_with fail
    exact hf.out
end
section
open Go.RowKit Go.ChangeShapes Go.WideShapes Go.Joins
theorem cells_scope : Try.prog.cellsOf 24 = 5 := by kernel_rfl
theorem cells_znum : Try.prog.cellsOf 3 = 1 := by kernel_rfl
theorem cells_zstr : Try.prog.cellsOf 9 = 1 := by kernel_rfl
theorem cells_scopes : Try.prog.cellsOf 22 = 1 := by kernel_rfl
theorem five_of {cs : List Value} (h : cs.length = 5) : ∃ c0 c1 c2 c3 c4, cs = [c0, c1, c2, c3, c4] := by
  match cs, h with
  | [a, b, c, d, e], _ => exact ⟨a, b, c, d, e, rfl⟩
theorem ZX_of_trod {H : Type} {enc : TypeId × Value → H} {W : World} : ∀ (n : Nat) (cs : List Value) (x : DataW H × List MemPlace), DataW.trod enc Try.prog W 0 (fun _ => true) true n 24 cs = some x →
    ∃ (t : Sc n) (c0 c1 c2 c3 c4 : Value), cs = [c0, c1, c2, c3, c4] ∧ ZX W (fun b => b < W.heap.size) n t c0 c1 c2 c3 c4 := by
  intro n
  induction n using Nat.strongRecOn with
  | _ n ih =>
    intro cs x h
    obtain ⟨xs, m, rfl, _, hl, hxl, hf⟩ := DataW.trod_struct Try.underlying24 h
    rw [cells_scope] at hl
    obtain ⟨c0, c1, c2, c3, c4, rfl⟩ := five_of hl
    obtain ⟨x0, x1, x2, x3, x4, rfl⟩ : ∃ x0 x1 x2 x3 x4, xs = [x0, x1, x2, x3, x4] := by
      match xs, hxl with
      | [a, b, c, d, e], _ => exact ⟨a, b, c, d, e, rfl⟩
    have g0 : DataW.trod enc Try.prog W 0 (fun _ => true) true m 3 (List.take (Try.prog.cellsOf 3) [c0, c1, c2, c3, c4]) = some x0 := hf 0 _ rfl
    have g1 : DataW.trod enc Try.prog W 0 (fun _ => true) true m 9 (List.take (Try.prog.cellsOf 9) [c1, c2, c3, c4]) = some x1 := hf 1 _ rfl
    have g2 : DataW.trod enc Try.prog W 0 (fun _ => true) true m 3 (List.take (Try.prog.cellsOf 3) [c2, c3, c4]) = some x2 := hf 2 _ rfl
    have g3 : DataW.trod enc Try.prog W 0 (fun _ => true) true m 3 (List.take (Try.prog.cellsOf 3) [c3, c4]) = some x3 := hf 3 _ rfl
    have g4 : DataW.trod enc Try.prog W 0 (fun _ => true) true m 22 (List.take (Try.prog.cellsOf 22) [c4]) = some x4 := hf 4 _ rfl
    rw [cells_znum] at g0 g2 g3
    rw [cells_zstr] at g1
    rw [cells_scopes] at g4
    obtain ⟨k, e0, _, wk⟩ := DataW.trod_int Try.underlying3 g0
    obtain ⟨s, e1, _, ws⟩ := DataW.trod_string Try.underlying9 g1
    obtain ⟨u, e2, _, wu⟩ := DataW.trod_int Try.underlying3 g2
    obtain ⟨y, e3, _, wy⟩ := DataW.trod_int Try.underlying3 g3
    simp at e0 e1 e2 e3
    subst e0 e1 e2 e3
    have hk : I64 k := by simpa [I64, Lit.wf, IntKind.min, IntKind.max, IntKind.signed, IntKind.bits] using wk
    have hu : I64 u := by simpa [I64, Lit.wf, IntKind.min, IntKind.max, IntKind.signed, IntKind.bits] using wu
    have hy : I64 y := by simpa [I64, Lit.wf, IntKind.min, IntKind.max, IntKind.signed, IntKind.bits] using wy
    have hsz : s.data.toList.length = s.size := by rw [Array.length_toList]; rfl
    have main : ∃ ks : List (Sc m), ZS W (fun b => b < W.heap.size) (ZX W (fun b => b < W.heap.size) m) c4 ks := by
      rcases DataW.trod_slice Try.underlying22 g4 with ⟨hcs, _⟩ | ⟨a, len, cap, elems, rest, n, rfl, hcs, _, _, hlc, hm, hel, hi, _, _⟩
      · simp at hcs
        subst hcs
        exact ⟨[], ZS.nil _ _ _⟩
      · simp at hcs
        subst hcs
        rw [cells_scope] at hi
        have hi2 : ∀ i, i < len → ∃ t : Sc (n + 1), ∃ c0 c1 c2 c3 c4, W.cell? (a.add (i * 5)) = some c0 ∧ W.cell? ((a.add (i * 5)).add 1) = some c1 ∧ W.cell? ((a.add (i * 5)).add 2) = some c2 ∧ W.cell? ((a.add (i * 5)).add 3) = some c3 ∧ W.cell? ((a.add (i * 5)).add 4) = some c4 ∧
            ZX W (fun b => b < W.heap.size) (n + 1) t c0 c1 c2 c3 c4 := by
          intro i hil
          have := hi i hil
          rw [List.getElem?_eq_getElem (by omega)] at this
          obtain ⟨cs, hcs, htr⟩ := Option.bind_eq_some_iff.1 this
          obtain ⟨t, d0, d1, d2, d3, d4, rfl, ht⟩ := ih n (by omega) cs _ htr
          obtain ⟨_, _, hcell⟩ := World.cells?_some hcs
          have k0 := hcell 0 (by omega)
          have k1 := hcell 1 (by omega)
          have k2 := hcell 2 (by omega)
          have k3 := hcell 3 (by omega)
          have k4 := hcell 4 (by omega)
          refine ⟨liftS n t, d0, d1, d2, d3, d4, ?_, k1, k2, k3, k4, ZX.lifted n t d0 d1 d2 d3 d4 ht⟩
          have : (a.add (i * 5)).add 0 = a.add (i * 5) := rfl
          rw [← this]; exact k0
        haveI : Inhabited (Sc (n + 1)) := ⟨(⟨0, [], 0, 0, []⟩ : Ns (Sc n))⟩
        obtain ⟨f, hf⟩ := Deep.choose_lt (α := Sc (n + 1)) hi2
        have hlen : ((List.range len).map f).length = len := by simp
        refine ⟨(List.range len).map f, some a, cap, by rw [hlen], by omega, hm, (fun h => by cases h), fun h0 => ?_⟩
        rw [hlen] at h0
        obtain ⟨b, o, spot⟩ := a
        have hspot : spot = none := by
          obtain ⟨_, _, _, _, _, k0, _⟩ := hf 0 h0
          simpa [Addr.add] using World.cell?_spot k0
        subst hspot
        have hb : b < W.heap.size := by
          obtain ⟨_, _, _, _, _, k0, _⟩ := hf 0 h0
          rw [add_plain] at k0
          exact World.block_lt_of_cell? _ _ k0
        refine ⟨b, o, rfl, hb, hb, fun i t hit => ?_⟩
        have hil : i < len := by
          have := (List.getElem?_eq_some_iff.1 hit).1
          omega
        simp [hil] at hit
        subst hit
        obtain ⟨d0, d1, d2, d3, d4, k0, k1, k2, k3, k4, kt⟩ := hf i hil
        rw [add_plain] at k0 k1 k2 k3 k4
        rw [add_plain] at k1 k2 k3 k4
        exact ⟨d0, d1, d2, d3, d4, k0, k1, k2, k3, k4, kt⟩
    obtain ⟨ks, hks⟩ := main
    exact ⟨(⟨k, s.data.toList, u, y, ks⟩ : Ns (Sc m)), _, _, _, _, _, rfl, rfl, hk, rfl, by show s.data.toList.length ≤ _; omega, rfl, hu, rfl, hy, hks⟩
theorem open_scope {H : Type} {enc : TypeId × Value → H} {W : World} {base : Nat} {v : Value} {d : DataW H} {p : List MemPlace}
    (ok : Value.okWide Try.prog W .any base 24 v) (h : DataW.Trod enc Try.prog W 0 (fun _ => true) true 24 v d p) :
    ∃ (n : Nat), ∀ m, n ≤ m → ∃ t : Sc m, ZV W (fun b => b < W.heap.size) m v t := by
  obtain ⟨cs, rfl, hsz⟩ := okWide_struct Try.underlying24 ok
  obtain ⟨n, hn⟩ := h
  refine ⟨n, fun m hm => ?_⟩
  obtain ⟨k, rfl⟩ := Nat.le.dest hm
  clear hm
  induction k with
  | zero =>
    obtain ⟨t, c0, c1, c2, c3, c4, e, ht⟩ := ZX_of_trod n _ _ hn
    refine ⟨t, c0, c1, c2, c3, c4, ?_, ht⟩
    have : cs = #[c0, c1, c2, c3, c4] := by
      apply Array.toList_inj.1
      simpa [Value.cells] using e
    rw [this]
  | succ k ih =>
    obtain ⟨t, ht⟩ := ih
    exact ⟨liftS (n + k) t, ht.lifted⟩
theorem info_scope : (Try.prog.info? 24).map (fun i => (i.zero, i.size, i.bytes)) = some (some (.agg #[.int .i64 0, .string ⟨#[]⟩, .int .i64 0, .int .i64 0, .slice none 0 0]), 5, 64) := by kernel_rfl
theorem run_growZ (w : World) (base : Nat) (v : Value) (qs : List QuZ) (hown : w.ownsRow base 24 5 v qs.length (flatZ qs)) (ad : Addr) (c : Nat) (p : QuZ) (hx : ∀ j u, (fiveZ p)[j]? = some u → w.cell? (ad.add j) = some u) (h1 : ∀ u ∈ fiveZ p, u.oneCell' = true)
    (hb : qs.length ≤ 1000000000) (hbase : base ≤ w.heap.size) (ty : TypeId) :
    ∃ v' w', (Builtin.append_ #[22, 22] ty #[v, .slice (some ad) 1 c]).run Try.prog w = .ok v' w' ∧ w'.ownsRow base 24 5 v' (qs ++ [p]).length (flatZ (qs ++ [p])) ∧ w.grownBy w' v.ownBlock ∧
      (v'.ownBlock = v.ownBlock ∨ v'.ownBlock = some w.heap.size) := by
  obtain ⟨i0, hi, hz0, hz1, hz2⟩ := info_parts info_scope
  have e : flatZ [p] = fiveZ p := by simp [flatZ]
  obtain ⟨v', w', a1, a2, a3, _, a5⟩ := run_append_own_at (P := Try.prog) (w := w) base 22 ty 24 i0 _ 5 64 Try.underlying22 hi hz0 hz1 hz2 rfl (by omega) v qs.length _ hown ad 1 c (flatZ [p]) (flatZ_length [p]) (by rw [e]; exact hx) (by rw [e]; exact h1)
    (by unfold maxLen; omega) (by omega) hbase
  exact ⟨v', w', a1, by rw [List.length_append, flatZ_append]; exact a2, a3, a5⟩
theorem wpList_growZ (w : World) {ops : Array Oper} {rest : List Oper} {o : Oper} {a : Act} {Q : Exit → Act → World → Prop} (hgd : o.guard = none) (s y : Operand)
    (ho : o.op = .call { callee := .builtin .append, args := #[s, y], argTypes := #[22, 22] })
    (base : Nat) (v : Value) (qs : List QuZ) (hs : a.eval s = v) (hown : w.ownsRow base 24 5 v qs.length (flatZ qs))
    (ad : Addr) (c : Nat) (p : QuZ) (hye : a.eval y = .slice (some ad) 1 c) (hx : ∀ j u, (fiveZ p)[j]? = some u → w.cell? (ad.add j) = some u) (h1 : ∀ u ∈ fiveZ p, u.oneCell' = true)
    (hb : qs.length ≤ 1000000000) (hbase : base ≤ w.heap.size)
    (h : ∀ v' w', w'.ownsRow base 24 5 v' (qs ++ [p]).length (flatZ (qs ++ [p])) → w.grownBy w' v.ownBlock → (v'.ownBlock = v.ownBlock ∨ v'.ownBlock = some w.heap.size) → wpList Try.prog ops Q rest (a.put o.dst v') w') :
    wpList Try.prog ops Q (o :: rest) a w := by
  refine wpList_plain hgd fun K hK => ?_
  obtain ⟨v', w', hrun, h2, h3, h4⟩ := run_growZ w base v qs hown ad c p hx h1 hb hbase o.type
  unfold Oper.wp execOp
  simp only [ho, resolve, invoke, builtin, Sem.run_bind, Sem.run_pure, Result.andThen_ok, List.map_toArray, List.map_cons, List.map_nil, hs, hye, hrun]
  exact hK _ _ (h v' w' h2 h3 h4)
end
end Go.Proofs.Ytcbkokhjdleoeaa
