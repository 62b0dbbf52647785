/-
  ShaG: The sum of a Hash: Sum: its contract over the loaded program. No condition but the worlds' shapes that each contract names (the table roots among them).
  ShaH: Of: its contract over the loaded program. No condition but the worlds' shapes that it names (the table roots among them).
  WaN: What a log has, plainly: list sectors, bytes, head; what it tells; that it tells what was laid. What Commit and Open make of a disk; behind a crash all is as it was, or all as it was to be. No program, no condition.
  Step: append onto a row of the call's own, as one step of a region that draws its order: over any program. No condition.
-/
import Derived.Test.YteddmnoeljakpaaGreatDoorSw09
import Derived.Test.YteddmnoeljakpaaGreatDoorSw07
import Derived.Test.YteddmnoeljakpaaGreatDoorSw00
import Derived.Deep.RegionLaw
set_option linter.unusedVariables false
set_option maxRecDepth 100000
namespace Go.Proofs.YteddmnoeljakpaaGreatDoor
section
open Go.RowKit
def z32 : List UInt8 := List.replicate 32 0
theorem row32 : (#[Value.int .u8 0, Value.int .u8 0, Value.int .u8 0, Value.int .u8 0, Value.int .u8 0, Value.int .u8 0, Value.int .u8 0, Value.int .u8 0, Value.int .u8 0, Value.int .u8 0, Value.int .u8 0, Value.int .u8 0, Value.int .u8 0, Value.int .u8 0, Value.int .u8 0, Value.int .u8 0, Value.int .u8 0, Value.int .u8 0, Value.int .u8 0, Value.int .u8 0, Value.int .u8 0, Value.int .u8 0, Value.int .u8 0, Value.int .u8 0, Value.int .u8 0, Value.int .u8 0, Value.int .u8 0, Value.int .u8 0, Value.int .u8 0, Value.int .u8 0, Value.int .u8 0, Value.int .u8 0] : Array Value) = (z32.map bv).toArray := rfl
theorem z32_length : (z32.map bv).length = 32 := rfl
theorem bytes_one' (l : List UInt8) : ∀ u ∈ l.map bv, u.oneCell' = true := bytes_one l
set_option maxRecDepth 100000 in
theorem sum_raw (g : Nat) (w : World) (h : w.cell? ⟨g, 73, none⟩ = some (.bool false)) :
    Calls Tryz.prog 161 #[.pointer (some ⟨g, 0, none⟩)] w fun e w' => e = .returned (.agg (z32.map bv).toArray) ∧ Below w.heap.size w w' := by
  have hb := World.block_lt_of_cell? w _ h
  have h2 : ((w.alloc (.cells (z32.map bv).toArray 171)).alloc (.cells (z32.map bv).toArray 171)).cell? ⟨g, 73, none⟩ = some (.bool false) := by
    rw [World.cell?_alloc_lt _ _ _ (by simp; simp at hb; omega), World.cell?_alloc_lt _ _ _ hb]; exact h
  rw [← row32] at h2
  go_enter Tryz.func161, Tryz.ntmps161
  go_wp2_with (first
    | (refine wpList_load_kb rfl 171 (.tmp 3) rfl (w.heap.size + 1) rfl _ (z32.map bv) (by rw [row32]; simpa using KB.new (w.alloc (.cells (z32.map bv).toArray 171)) 171 (z32.map bv).toArray) _ Tryz.underlying171 rfl 32 (by kernel_rfl) rfl ?_)
    | (refine wpList_store_kb rfl 171 (.tmp 2) (.tmp 16) rfl w.heap.size (z32.map bv) rfl rfl 171 (z32.map bv) (by rw [row32]; exact (KB.new _ _ _).alloc _) 32 (by kernel_rfl) rfl rfl (bytes_one' _) ?_; intro W2 k2 g2))
  refine bodyPost_ret (results_cell_row (P := Tryz.prog) rfl _ W2 w.heap.size _ (z32.map bv).toArray (0, 0) _ rfl k2 Tryz.underlying171 rfl (by rw [show (z32.map bv).toArray.size = 32 from rfl]; kernel_rfl)) rfl ⟨rfl, (((Below.refl _ _).alloc (Nat.le_refl _) _).alloc (by simp) _).grown g2 (by simp; omega) (by simp)⟩
theorem slice32 (g m : Nat) (h1 : (m : Int) ≤ 32) (h2 : ¬ 32 = m) (W : World) : (Instr.sliceAt 171 (.pointer (some ⟨g, 0, none⟩)) (some (.int .i64 (m : Int))) none none).run Tryz.prog W = .ok (.slice (some ⟨g, m, none⟩) (32 - m) (32 - m)) W := by
  go_simp
theorem zero74_length : zero74.toList.length = 74 := rfl
set_option maxRecDepth 100000 in
set_option maxHeartbeats 1000000 in
theorem sum_any (g : Nat) (T : List UInt8) (w : World) (hs : HS w g T) (ht : Tab w) (hlen : T.length < 1000000000000000000) :
    Calls Tryz.prog 161 #[.pointer (some ⟨g, 0, none⟩)] w fun e w' => e = .returned (.agg ((sumB T).map bv).toArray) ∧ Below w.heap.size w w' := by
  have hz := zero_hash
  unfold zero74 at hz
  have k32 : KB ((w.alloc (.cells (z32.map bv).toArray 171)).alloc (.cells (z32.map bv).toArray 171)) w.heap.size 171 (z32.map bv).toArray := (KB.new _ _ _).alloc _
  have k33 : KB ((w.alloc (.cells (z32.map bv).toArray 171)).alloc (.cells (z32.map bv).toArray 171)) (w.heap.size + 1) 171 (z32.map bv).toArray := by
    simpa using KB.new (w.alloc (.cells (z32.map bv).toArray 171)) 171 (z32.map bv).toArray
  have B0 : Below w.heap.size w ((w.alloc (.cells (z32.map bv).toArray 171)).alloc (.cells (z32.map bv).toArray 171)) := ((Below.refl _ _).alloc (Nat.le_refl _) _).alloc (by simp) _
  obtain ⟨x, hx, hxt, hk⟩ := hs
  have hk0 := hk.below B0 hk.lt
  have t0 := ht.below B0
  have cs : ((w.alloc (.cells (z32.map bv).toArray 171)).alloc (.cells (z32.map bv).toArray 171)).cell? ⟨g, 72, none⟩ = some (.int .u64 (T.length : Int)) := by rw [hk0.cell, List.getElem?_toArray, hcells_size _ _ _ hx]
  have cm : ((w.alloc (.cells (z32.map bv).toArray 171)).alloc (.cells (z32.map bv).toArray 171)).cell? ⟨g, 73, none⟩ = some (.bool true) := by rw [hk0.cell, List.getElem?_toArray, hcells_made _ _ _ hx]
  have hgl := hk.lt
  have hok := hcells_length (blocksN init8 T (T.length / 64)) x T.length hx
  have Hok := Lib.hid hok
  have Hx := Lib.hid hx
  have Hxt := Lib.hid hxt
  have h1s : ∀ u ∈ hcells (blocksN init8 T (T.length / 64)) x T.length, u.oneCell' = true := by
    intro u hu
    unfold hcells at hu
    simp only [List.mem_append] at hu
    rcases hu with hu | hu | hu
    · exact vals_one _ u hu
    · exact bytes_one _ u hu
    · simp at hu; rcases hu with rfl | rfl <;> rfl
  generalize hcc : hcells (blocksN init8 T (T.length / 64)) x T.length = cc at *
  have HCC := Lib.hid hcc
  clear hok hx hxt hcc
  rw [← row32] at k32 k33 B0 hk0 t0 cs cm
  go_enter Tryz.func161, Tryz.ntmps161
  go_wp2_with (first
    | (refine wpList_load_kb rfl 232 (.tmp 18) rfl g rfl _ cc hk0 _ Tryz.underlying232 rfl 74 (by kernel_rfl) Hok.out ?_)
    | (refine wpList_store_kb rfl 232 (.tmp 4) (.tmp 19) rfl (w.heap.size + 1 + 1) cc rfl rfl 232 zero74.toList (by rw [show zero74.toList.toArray = zero74 from rfl]; simpa [zero74] using KB.new ((w.alloc _).alloc _) _ _) 74 (by kernel_rfl) zero74_length Hok.out h1s ?_
       intro W2 k2 g2
       have B2 : Below w.heap.size w W2 := (B0.alloc B0.size _).grown g2 (by simp; omega) (by simp; omega)
       have hk2 := hk.below B2 hk.lt
       have t2 := ht.below B2
       have k322 := (k32.alloc _).grown g2 (by simp; omega)
       have k332 := (k33.alloc _).grown g2 (by simp)
       have cs2 : W2.cell? ⟨g, 72, none⟩ = some (.int .u64 (T.length : Int)) := by rw [hk2.cell, List.getElem?_toArray, ← HCC.out, hcells_size _ _ _ Hx.out]
       clear g2 k32 k33 B0 hk0 t0 cs cm hz))
  rw [row32] at k322 k332
  refine (ending_any T.length (by omega) _).mono ?_
  rintro e W3 ⟨ge, rfl, hge, ke, b3⟩
  have hge0 : ge ≠ w.heap.size + 1 + 1 := by have := k2.lt; omega
  have z3 := k2.lt
  have k23 := k2.below b3 k2.lt
  have t3 := t2.below b3
  have k323 := k322.below b3 k322.lt
  have k333 := k332.below b3 k332.lt
  have B3 := B2.trans (b3.mono B2.size)
  have hs3 : HS W3 (w.heap.size + 1 + 1) T := ⟨x, Hx.out, Hxt.out, by rw [HCC.out]; exact k23⟩
  have hbe : BS W3 (fun b => b = ge) (.slice (some ⟨ge, 0, none⟩) (endB T.length).length (endB T.length).length) (endB T.length) :=
    ⟨_, _, rfl, Nat.le_refl _, by rw [endB_length]; have := zerosN_lt T.length; simp [maxLen]; omega, (fun h => by cases h), fun _ => ⟨ge, 0, rfl, rfl, ke.lt, fun j u hu => by
      rw [Nat.zero_add, ke.cell, List.getElem?_toArray, List.getElem?_map, hu]; rfl⟩⟩
  clear k2 t2 k322 k332 b3 B2 k23 ke cs2 hk2
  go_wp2_with fail
  refine (write_any _ _ (endB T.length) (w.heap.size + 1 + 1) T _ hs3 hbe (fun h => hge0 h.symm) t3 (by have := ht.1; omega) (by rw [endB_length]; have := zerosN_lt T.length; omega)).mono ?_
  rintro e W4 ⟨rfl, hs4, g4⟩
  have k324 := k323.grown g4 (by simp; omega)
  have k334 := k333.grown g4 (by simp)
  have B4 := B3.trans (below_of_grown' g4 (by omega) B3.size)
  clear hs3 hbe t3 k323 k333 B3 g4
  obtain ⟨x4, hx4, _, hk4⟩ := hs4
  have HS4 : Hid (digB (blocksN init8 (T ++ endB T.length) ((T ++ endB T.length).length / 64)) = sumB T) := rfl
  obtain ⟨R, hR⟩ : ∃ R, R = blocksN init8 (T ++ endB T.length) ((T ++ endB T.length).length / 64) := ⟨_, rfl⟩
  rw [← hR] at HS4 hk4
  clear hR
  have rg4 := KB.part (a := []) (b := R.vals) (c := x4.map bv ++ [.int .u64 ((T ++ endB T.length).length : Int), .bool true]) hk4
  go_wp2_with (refine wpList_load_part rfl 229 (.tmp 26) rfl (w.heap.size + 1 + 1) 0 rfl _ rg4 _ Tryz.underlying229 rfl 8 (by kernel_rfl) (vals_length R) ?_)
  clear rg4 hk4 hx4
  go_loopw [28] (fun i wr => ∃ k : Nat, k ≤ 8 ∧ i = .int .i64 k ∧ KB wr (w.heap.size + 1) 171 ((putTo R k).map bv).toArray ∧ W4.grownBy wr (some (w.heap.size + 1))) (fun i _ => 8 - (intOf i).toNat)
  case atStart => exact ⟨0, by omega, rfl, k334, World.grownBy.refl _ _⟩
  case round =>
    obtain ⟨k, hk8, rfl, kk, gk⟩ := hrel
    by_cases h8 : k < 8
    · have hix : ∀ W : World, (Instr.index 229 (.agg R.vals.toArray) (.int .i64 (k : Int))).run Tryz.prog W = .ok (.int .u32 ((wordOf R k : Nat) : Int)) W :=
        fun W => run_index_row W _ 194 8 _ _ k _ Tryz.underlying229 (by kernel_rfl) .u32 Tryz.underlying194 h8 (by rw [List.getElem?_toArray]; exact vals_get R k h8)
      have HP : Hid (putTo R (k + 1) = putW (putTo R k) (4 * k) (wordOf R k)) := rfl
      have hl := putTo_length R k
      obtain ⟨m, hm⟩ : ∃ m, m = 4 * k := ⟨_, rfl⟩
      have hm1 : m + 4 ≤ 32 := by omega
      have h4a : (m : Int) ≤ 32 := by omega
      have h4b : ¬ 32 = m := by omega
      rw [← hm] at HP
      have hsl := slice32 (w.heap.size + 1) m h4a h4b
      have HM := Lib.hid hm
      clear hm
      generalize wordOf R k = wk at *
      have HL := Lib.hid hl
      clear hl
      go_wp2_with fail
      rw [show (4 : Int) * (k : Int) = (m : Int) from by have := HM.out; omega, hsl]
      go_wp2_with fail
      refine (putWord_any (w.heap.size + 1) 171 (putTo R k) m (32 - m) (32 - m) wk (by omega) (by rw [HL.out]; omega) _ kk).mono ?_
      rintro e W5 ⟨rfl, k5, g5⟩
      go_wp2
      go_roundw
      case rel => exact ⟨k + 1, by omega, by go_num, by rw [HP.out]; exact k5, grown_trans gk g5⟩
      case measure => simp [intOf]; omega
    · obtain rfl : k = 8 := by omega
      rw [putTo_all, HS4.out] at kk
      have k9 := k324.grown gk (by simp)
      have B9 := B4.trans (below_of_grown' gk (by omega) B4.size)
      have HU : Hid (((sumB T).map bv).length = 32) := by show _ = _; rw [List.length_map, sumB_length]
      have hu1 := bytes_one' (sumB T)
      generalize hss : (sumB T).map bv = ss at *
      have HSS := Lib.hid hss
      clear hss gk
      go_wp2_with (first
        | (refine wpList_load_kb rfl 171 (.tmp 3) rfl (w.heap.size + 1) rfl _ ss kk _ Tryz.underlying171 rfl 32 (by kernel_rfl) HU.out ?_)
        | (refine wpList_store_kb rfl 171 (.tmp 2) (.tmp 38) rfl w.heap.size ss rfl rfl _ (z32.map bv) k9 32 (by kernel_rfl) rfl HU.out hu1 ?_; intro Wz kz gz))
      refine bodyPost_ret (results_cell_row (P := Tryz.prog) rfl _ Wz w.heap.size _ ss.toArray (0, 0) _ rfl kz Tryz.underlying171 rfl (by rw [show ss.toArray.size = 32 from by simpa using HU.out]; kernel_rfl)) rfl ⟨by rw [HSS.out], B9.trans (below_of_grown' gz (Nat.le_refl _) B9.size)⟩
end
section
open Go.RowKit
set_option maxRecDepth 100000 in
set_option maxHeartbeats 1000000 in
theorem of_any (v : Value) (ls : List (List UInt8)) (w : World) (h : LS w (fun b => b < w.heap.size) v ls) (ht : Tab w) (hlen : (catB ls).length < 100000000000000000) :
    Calls Tryz.prog 123 #[v] w fun e w' => e = .returned (.agg ((sumB (catB ls)).map bv).toArray) ∧ Below w.heap.size w w' := by
  obtain ⟨A, c, rfl, hc, hm⟩ := h.form
  have hl63 : ls.length ≤ 9223372036854775807 := by unfold maxLen at hm; omega
  go_enter Tryz.func123, Tryz.ntmps123
  go_wp2_with fail
  rw [row32]
  have B0 : Below w.heap.size w (w.alloc (.cells (z32.map bv).toArray 171)) := (Below.refl _ _).alloc (Nat.le_refl _) _
  have k0 : KB (w.alloc (.cells (z32.map bv).toArray 171)) w.heap.size 171 (z32.map bv).toArray := KB.new _ _ _
  generalize w.alloc (.cells (z32.map bv).toArray 171) = W0 at *
  refine (hnew_any _).mono ?_
  rintro e W1 ⟨rfl, hs1, b1⟩
  have k1 := k0.below b1 k0.lt
  have B1 := B0.trans (b1.mono B0.size)
  have h1 := h.below' B1
  have t1 := ht.below B1
  have z0 := k0.lt
  have z1 := k1.lt
  have hr0 : 1 < w.heap.size := ht.1
  generalize W0.heap.size = g at *
  clear k0 B0 b1 h ht
  go_wp2
  go_loopw [9] (fun i wr => ∃ k : Nat, k ≤ ls.length ∧ i = .int .i64 k ∧ HS wr g (catB (ls.take k)) ∧ W1.grownBy wr (some g)) (fun i _ => ls.length - (intOf i).toNat)
  case atStart => exact ⟨0, by omega, rfl, hs1, World.grownBy.refl _ _⟩
  case round =>
    obtain ⟨k, hk, rfl, hsk, gk⟩ := hrel
    have tk := t1.grown gk (by omega)
    by_cases hlt : k < ls.length
    · have hl := h1.keep gk.size (fun b hb hlt => gk.block b hlt (by simp; omega))
      obtain ⟨b, o, rfl, _, _, hcell⟩ := hl.at_ (by omega)
      obtain ⟨A', c', hx, hbk⟩ := hcell k ls[k] (List.getElem?_eq_getElem hlt)
      have hcat := catB_get_le ls k hlt
      have HC := Lib.hid (catB_take_succ ls k hlt)
      have hki : (k : Int) < ls.length := by omega
      generalize ls[k] = p at *
      clear hcell hl
      go_wp2_with fail
      refine (write_any _ _ p g (catB (ls.take k)) _ hsk hbk (by omega) tk (by omega) (by omega)).mono ?_
      rintro e W2 ⟨rfl, hs2, g2⟩
      go_wp2
      go_roundw
      case rel => exact ⟨k + 1, by omega, by go_num, by rw [HC.out]; exact hs2, grown_trans gk g2⟩
      case measure => simp [intOf]; omega
    · obtain rfl : k = ls.length := by omega
      rw [List.take_length] at hsk
      have k9 := k1.grown gk (by simp; omega)
      have B9 := B1.trans (below_of_grown' gk (by omega) B1.size)
      have HU : Hid (((sumB (catB ls)).map bv).length = 32) := by show _ = _; rw [List.length_map, sumB_length]
      have hu1 := bytes_one' (sumB (catB ls))
      have hsum := sum_any g (catB ls) wr hsk tk (by omega)
      generalize hss : (sumB (catB ls)).map bv = ss at *
      have HSS := Lib.hid hss
      have HSUM := Lib.hid hsum
      clear hss gk hsum
      go_wp2_with fail
      refine HSUM.out.mono ?_
      rintro e W3 ⟨rfl, b3⟩
      have k10 := k9.below b3 k9.lt
      have B10 := B9.trans (b3.mono B9.size)
      go_wp2_with (refine wpList_store_kb rfl 171 (.tmp 2) (.tmp 18) rfl w.heap.size ss rfl rfl _ (z32.map bv) k10 32 (by kernel_rfl) rfl HU.out hu1 ?_; intro Wz kz gz)
      refine bodyPost_ret (results_cell_row (P := Tryz.prog) rfl _ Wz w.heap.size _ ss.toArray (0, 0) _ rfl kz Tryz.underlying171 rfl (by rw [show ss.toArray.size = 32 from by simpa using HU.out]; kernel_rfl)) rfl ⟨by rw [HSS.out], B10.trans (below_of_grown' gz (Nat.le_refl _) B10.size)⟩
end
section
open Go.RowKit
def listsN (k : Nat) : Nat := (k + 119) / 120
def roomN (n : Nat) : Nat := if n < 2 then 0 else n / 121 * 120 + (n % 121 - 1)
theorem room_fits {k n : Nat} (h : k ≤ roomN n) : k + listsN k ≤ n := by
  unfold roomN at h
  unfold listsN
  split at h
  · obtain rfl : k = 0 := by omega
    simp
  · omega
def numB (x : Nat) : List UInt8 := [UInt8.ofNat (x / 256), UInt8.ofNat (x % 256)]
def numP (b : List UInt8) : Nat := (b.getD 0 0).toNat * 256 + (b.getD 1 0).toNat
theorem byte_nat {x : Nat} (h : x < 256) : (UInt8.ofNat x).toNat = x := by
  rw [UInt8.toNat_ofNat']
  omega
theorem numP_numB {x : Nat} (h : x < 65536) (r : List UInt8) : numP (numB x ++ r) = x := by
  show (UInt8.ofNat (x / 256)).toNat * 256 + (UInt8.ofNat (x % 256)).toNat = x
  rw [byte_nat (by omega), byte_nat (by omega)]
  omega
def pairsP : List UInt8 → List Nat
  | a :: b :: r => (a.toNat * 256 + b.toNat) :: pairsP r
  | _ => []
def bodyL (q : List Pt) : List UInt8 := q.flatMap fun v => numB v.1.toNat
theorem bodyL_len : ∀ q : List Pt, (bodyL q).length = 2 * q.length
  | [] => rfl
  | v :: q => by
    show (numB v.1.toNat ++ bodyL q).length = _
    rw [List.length_append, bodyL_len q]
    simp [numB]
    omega
theorem pairs_body : ∀ q : List Pt, (∀ v ∈ q, v.1.toNat < 65536) → pairsP (bodyL q) = q.map fun v => v.1.toNat
  | [], _ => rfl
  | v :: q, h => by
    show ((UInt8.ofNat (v.1.toNat / 256)).toNat * 256 + (UInt8.ofNat (v.1.toNat % 256)).toNat) :: pairsP (bodyL q) = _
    have := h v (by simp)
    rw [pairs_body q fun u hu => h u (by simp [hu]), byte_nat (by omega), byte_nat (by omega), List.map_cons]
    congr 1
    omega
def secL (q : List Pt) : List UInt8 := (putS 2 (bodyL q)).1
def partL (p : List Pt) (i : Nat) : List Pt := (p.drop (120 * i)).take 120
theorem partL_len (p : List Pt) (i : Nat) : (partL p i).length = min 120 (p.length - 120 * i) := by simp [partL]
theorem partL_le (p : List Pt) (i : Nat) : (partL p i).length ≤ 120 := by rw [partL_len]; omega
def entriesL (p : List Pt) : List (List UInt8) := ((List.range (listsN p.length)).map fun i => secL (partL p i)) ++ p.map (·.2)
theorem entries_len (p : List Pt) : (entriesL p).length = listsN p.length + p.length := by simp [entriesL]
def headL (k : Nat) (L : List (List UInt8)) : List UInt8 := (putS 1 (numB k ++ sumB (catB L))).1
theorem put2_ok {b : List UInt8} (h : b.length ≤ 249) : (putS 2 b).2 = 0 := by rw [putS_ok (by omega) (by omega)]
theorem put1_ok {b : List UInt8} (h : b.length ≤ 249) : (putS 1 b).2 = 0 := by rw [putS_ok (by omega) (by omega)]
theorem putS_256 {k : Int} {b : List UInt8} (h : (putS k b).2 = 0) : (putS k b).1.length = 256 := by
  obtain ⟨h1, h2⟩ := putS_zero h
  rw [putS_ok h1 h2, fullS_len (by omega)]
theorem head_body (k : Nat) (L : List (List UInt8)) : (numB k ++ sumB (catB L)).length = 34 := by rw [List.length_append, sumB_length]; rfl
theorem headL_len (k : Nat) (L : List (List UInt8)) : (headL k L).length = 256 := putS_256 (put1_ok (by rw [head_body]; omega))
theorem secL_len (q : List Pt) (h : q.length ≤ 120) : (secL q).length = 256 := putS_256 (put2_ok (by rw [bodyL_len]; omega))
theorem entries_256 {p : List Pt} (h : ∀ v ∈ p, v.2.length = 256) : ∀ l ∈ entriesL p, l.length = 256 := by
  intro l hl
  rcases List.mem_append.1 hl with hl | hl
  · obtain ⟨i, _, rfl⟩ := List.mem_map.1 hl
    exact secL_len _ (partL_le p i)
  · obtain ⟨v, hv, rfl⟩ := List.mem_map.1 hl
    exact h v hv
def listL (k : Nat) : Nat → List (List UInt8) → Option (List Nat)
  | _, [] => some []
  | i, s :: r => if (getS s).1 = 2 ∧ (getS s).2.1.length = 2 * min 120 (k - 120 * i) then (listL k (i + 1) r).map (pairsP (getS s).2.1 ++ ·) else none
def toldL (log : List (List UInt8)) : List Pt :=
  let b := (getS (log.getD 0 [])).2.1
  if (getS (log.getD 0 [])).1 ≠ 1 ∨ b.length ≠ 34 then [] else
  if roomN (log.length - 1) < numP b then [] else
  let logged := (log.drop 1).take (listsN (numP b) + numP b)
  if sumB (catB logged) ≠ b.drop 2 then [] else
  match listL (numP b) 0 (logged.take (listsN (numP b))) with
  | none => []
  | some ns => List.zipWith (fun (n : Nat) b => ((n : Int), b)) ns (logged.drop (listsN (numP b)))
theorem listL_of (p : List Pt) (h : ∀ v ∈ p, v.1.toNat < 65536) : ∀ (j i : Nat), i + j = listsN p.length → listL p.length i ((List.range' i j).map fun i => secL (partL p i)) = some ((p.drop (120 * i)).map fun v => v.1.toNat)
  | 0, i, e => by
    have : p.drop (120 * i) = [] := List.drop_of_length_le (by unfold listsN at e; omega)
    rw [this]
    rfl
  | j + 1, i, e => by
    have hg : getS (secL (partL p i)) = (2, bodyL (partL p i), 0) := get_put (put2_ok (by rw [bodyL_len]; have := partL_le p i; omega))
    rw [List.range'_succ, List.map_cons, listL, hg]
    dsimp only
    rw [if_pos ⟨rfl, by rw [bodyL_len, partL_len]⟩, listL_of p h j (i + 1) (by omega), pairs_body (partL p i) fun v hv => h v (List.mem_of_mem_drop (List.mem_of_mem_take hv))]
    simp only [Option.map_some, Option.some.injEq]
    rw [← List.map_append]
    congr 1
    unfold partL
    rw [show 120 * (i + 1) = 120 * i + 120 by omega, ← List.drop_drop, List.take_append_drop]
theorem told_of {p : List Pt} {n : Nat} {log : List (List UInt8)} (hp : ∀ v ∈ p, 0 ≤ v.1 ∧ v.1 < 65536) (h2 : p.length ≤ roomN n) (hn : n ≤ 65535) (hl : log.length = n + 1) (h0 : log.getD 0 [] = headL p.length (entriesL p))
    (he : (log.drop 1).take (listsN p.length + p.length) = entriesL p) : toldL log = p := by
  have hg : getS (headL p.length (entriesL p)) = (1, numB p.length ++ sumB (catB (entriesL p)), 0) := get_put (put1_ok (by rw [head_body]; omega))
  have hk : p.length < 65536 := by have := room_fits h2; omega
  unfold toldL
  rw [h0, hg]
  dsimp only
  rw [if_neg (by rw [head_body]; simp), numP_numB hk, hl, Nat.add_sub_cancel, if_neg (by omega), he, if_neg (by simp [numB])]
  have e1 : (entriesL p).take (listsN p.length) = (List.range' 0 (listsN p.length)).map fun i => secL (partL p i) := by
    unfold entriesL
    rw [List.take_append_of_le_length (by simp), List.take_of_length_le (by simp), List.range_eq_range']
  have e2 : (entriesL p).drop (listsN p.length) = p.map (·.2) := by
    unfold entriesL
    rw [List.drop_append_of_le_length (by simp), List.drop_of_length_le (by simp), List.nil_append]
  rw [e1, e2, listL_of p (fun v hv => by have := hp v hv; omega) _ 0 (by omega)]
  dsimp only
  rw [Nat.mul_zero, List.drop_zero]
  apply List.ext_getElem
  · simp
  · intro i h1 h2
    simp only [List.getElem_zipWith, List.getElem_map]
    have := hp p[i] (List.getElem_mem h2)
    refine Prod.ext ?_ rfl
    show ((p[i].1.toNat : Nat) : Int) = p[i].1
    omega
theorem told_zero {log : List (List UInt8)} (h : log.getD 0 [] = zs 256) : toldL log = [] := by
  have hg : getS (zs 256) = (0, [], 5) := by decide +kernel
  unfold toldL
  rw [h, hg]
  dsimp only
  rw [if_pos (.inl (by decide))]
def okAt (n N : Int) (p : List Pt) (i : Nat) : Prop := n < (p.getD i (0, [])).1 ∧ (p.getD i (0, [])).1 < N ∧ (p.getD i (0, [])).2.length = 256 ∧ ∀ j, j < i → (p.getD j (0, [])).1 ≠ (p.getD i (0, [])).1
instance (n N : Int) (p : List Pt) (i : Nat) : Decidable (okAt n N p i) := by unfold okAt; infer_instance
def takesB (n N : Int) (p : List Pt) : Bool := decide (∀ i, i < p.length → okAt n N p i)
theorem getD_pt {p : List Pt} {i : Nat} (h : i < p.length) : p.getD i (0, []) = p[i] := by rw [List.getD_eq_getElem?_getD, List.getElem?_eq_getElem h]; rfl
theorem takes_at {n N : Int} {p : List Pt} (h : takesB n N p = true) {v : Pt} (hv : v ∈ p) : n < v.1 ∧ v.1 < N ∧ v.2.length = 256 := by
  obtain ⟨i, hi, rfl⟩ := List.mem_iff_getElem.1 hv
  obtain ⟨h1, h2, h3, _⟩ := of_decide_eq_true h i hi
  rw [getD_pt hi] at h1 h2 h3
  exact ⟨h1, h2, h3⟩
theorem takes_lone {n : Nat} {N : Int} {p : List Pt} (h : takesB n N p = true) : Lone p := by
  intro u hu v hv e
  have a1 := takes_at h hu
  have a2 := takes_at h hv
  have e' : u.1 = v.1 := by omega
  obtain ⟨i, hi, rfl⟩ := List.mem_iff_getElem.1 hu
  obtain ⟨j, hj, rfl⟩ := List.mem_iff_getElem.1 hv
  have h1 := (of_decide_eq_true h i hi).2.2.2 j
  have h2 := (of_decide_eq_true h j hj).2.2.2 i
  rw [getD_pt hi, getD_pt hj] at h1 h2
  rcases Nat.lt_trichotomy i j with hij | hij | hij
  · exact absurd e' (h2 hij)
  · subst hij; rfl
  · exact absurd e'.symm (h1 hij)
theorem takes_fit {n N : Nat} {p : List Pt} (h : takesB n N p = true) : Fit N p := fun v hv => by have := takes_at h hv; exact ⟨by omega, this.2.1, this.2.2⟩
def logD (n : Nat) (s : Dk) : List (List UInt8) := (List.range (n + 1)).map s.now
def leftP (n : Nat) (s : Dk) : List Pt := if takesB n s.safe.length (toldL (logD n s)) = true then toldL (logD n s) else []
def openD (n : Nat) (s : Dk) : Dk × Int := if s.fuse = 0 then (s, 8) else seqD [doD (leftP n s), wipeD 0 0, wipeD 1 n] s
def commitD (p : List Pt) (s : Dk) : Dk × Int :=
  seqD [doD (rowP 1 (entriesL p)), doD (rowP 0 [headL p.length (entriesL p)]), doD p, doD (rowP 0 [zs 256]), doD (rowP 1 ((entriesL p).map fun _ => zs 256))] s
theorem leftP_fit (n : Nat) (s : Dk) : Fit s.safe.length (leftP n s) := by
  unfold leftP
  split
  · exact takes_fit (by assumption)
  · intro p hp; cases hp
theorem seqD_one (f : Dk → Dk × Int) (fs : List (Dk → Dk × Int)) (s : Dk) : seqD (f :: fs) s = if (f s).2 = 0 then seqD fs (f s).1 else f s := rfl
theorem openD_len (n : Nat) (s : Dk) : (openD n s).1.safe.length = s.safe.length := by
  unfold openD
  split
  · rfl
  · simp only [seqD]
    split
    · split
      · split
        · dsimp only; rw [wipeD_len, wipeD_len, doD_len]
        · rw [wipeD_len, wipeD_len, doD_len]
      · rw [wipeD_len, doD_len]
    · rw [doD_len]
theorem commitD_len (p : List Pt) (s : Dk) : (commitD p s).1.safe.length = s.safe.length := by
  unfold commitD
  simp only [seqD]
  repeat' split
  all_goals simp only [doD_len]
theorem openD_never (n : Nat) (s : Dk) (h : s.fuse = -1) : (openD n s).2 = 0 ∧ (openD n s).1.fuse = -1 := by
  unfold openD
  rw [if_neg (by rw [h]; decide)]
  simp only [seqD]
  obtain ⟨a1, a2⟩ := doD_never (leftP n s) s h
  rw [if_pos a1]
  obtain ⟨b1, b2⟩ := wipeD_never 0 0 _ a2
  rw [if_pos b1]
  obtain ⟨c1, c2⟩ := wipeD_never 1 n _ b2
  rw [if_pos c1]
  exact ⟨rfl, c2⟩
theorem commitD_never (p : List Pt) (s : Dk) (h : s.fuse = -1) : (commitD p s).2 = 0 ∧ (commitD p s).1.fuse = -1 := by
  unfold commitD
  simp only [seqD]
  obtain ⟨a1, a2⟩ := doD_never (rowP 1 (entriesL p)) s h
  rw [if_pos a1]
  obtain ⟨b1, b2⟩ := doD_never (rowP 0 [headL p.length (entriesL p)]) _ a2
  rw [if_pos b1]
  obtain ⟨c1, c2⟩ := doD_never p _ b2
  rw [if_pos c1]
  obtain ⟨d1, d2⟩ := doD_never (rowP 0 [zs 256]) _ c2
  rw [if_pos d1]
  obtain ⟨e1, e2⟩ := doD_never (rowP 1 ((entriesL p).map fun _ => zs 256)) _ d2
  rw [if_pos e1]
  exact ⟨rfl, e2⟩
def AlZ (n : Nat) (W : Nat → List UInt8) (i : Nat) (v : List UInt8) : Prop := (i = 0 → v = zs 256) ∧ (n < i → v = W i)
def AlM (n : Nat) (p : List Pt) (W : Nat → List UInt8) (i : Nat) (v : List UInt8) : Prop :=
  (i = 0 → v = zs 256 ∨ v = headL p.length (entriesL p)) ∧ (∀ l, 1 ≤ i → (entriesL p)[i - 1]? = some l → v = l) ∧ (n < i → v = W i)
def W1 (p : List Pt) (W0 : Nat → List UInt8) (i : Nat) : List UInt8 := lastP p i (W0 i)
def AlF (n : Nat) (p : List Pt) (W0 : Nat → List UInt8) (i : Nat) (v : List UInt8) : Prop :=
  (i = 0 → v = headL p.length (entriesL p)) ∧ (∀ l, 1 ≤ i → (entriesL p)[i - 1]? = some l → v = l) ∧ (n < i → v = W0 i ∨ v = W1 p W0 i)
def Good (n : Nat) (p : List Pt) (W0 : Nat → List UInt8) (s : Dk) : Prop := Allow (AlZ n W0) s ∨ Allow (AlF n p W0) s ∨ Allow (AlZ n (W1 p W0)) s
structure Fine (n N : Nat) (p : List Pt) : Prop where
  takes : takesB n N p = true
  room : p.length ≤ roomN n
  log : n < N
  few : N ≤ 1024
section
variable {n N : Nat} {p : List Pt} {W0 : Nat → List UInt8} {s : Dk}
theorem Good.mixed {W : Nat → List UInt8} (hN : 0 < s.safe.length) (hW : W = W0 ∨ W = W1 p W0) (h : Allow (AlM n p W) s) (ks : List Bool) : Good n p W0 (s.crashed ks) := by
  have hc := h.crashed ks
  have h0 := may_now (s := s.crashed ks) (i := 0) (by show 0 < (over _ _).length; rw [over_len]; exact hN)
  rcases (hc 0 _ h0).1 rfl with e | e
  · have : Allow (AlZ n W) (s.crashed ks) := fun i v hv => ⟨fun hi => by subst hi; rw [crashed_one hv h0, e], (hc i v hv).2.2⟩
    rcases hW with rfl | rfl
    · exact .inl this
    · exact .inr (.inr this)
  · refine .inr (.inl fun i v hv => ⟨fun hi => by subst hi; rw [crashed_one hv h0, e], (hc i v hv).2.1, fun hi => ?_⟩)
    have := (hc i v hv).2.2 hi
    rcases hW with rfl | rfl
    · exact .inl this
    · exact .inr this
theorem Good.z0 (h : Allow (AlZ n W0) s) (ks : List Bool) : Good n p W0 (s.crashed ks) := .inl (h.crashed ks)
theorem Good.f (h : Allow (AlF n p W0) s) (ks : List Bool) : Good n p W0 (s.crashed ks) := .inr (.inl (h.crashed ks))
theorem Good.z1 (h : Allow (AlZ n (W1 p W0)) s) (ks : List Bool) : Good n p W0 (s.crashed ks) := .inr (.inr (h.crashed ks))
theorem Fine.len (h : Fine n N p) : (entriesL p).length ≤ n := by rw [entries_len]; have := room_fits h.room; omega
theorem Fine.behind (h : Fine n N p) {v : Pt} (hv : v ∈ p) : n < v.1.toNat := by have := takes_at h.takes hv; omega
theorem W1_at (h : Fine n N p) {v : Pt} (hv : v ∈ p) : W1 p W0 v.1.toNat = v.2 := lastP_one (takes_lone h.takes) _ hv
theorem commit_one (h : Fine n N p) (hl : s.safe.length = N) (hc : s.calm) (ha : Allow (AlZ n W0) s) :
    Allow (AlZ n W0) (doD (rowP 1 (entriesL p)) s).1 ∧ ((doD (rowP 1 (entriesL p)) s).2 = 0 → (doD (rowP 1 (entriesL p)) s).1.calm ∧ Allow (AlM n p W0) (doD (rowP 1 (entriesL p)) s).1) := by
  have A1 : Allow (AlZ n W0) (doD (rowP 1 (entriesL p)) s).1 := ha.doD fun q hq _ => by
    obtain ⟨j, hj, e⟩ := rowP_mem hq
    have := (List.getElem?_eq_some_iff.1 hj).1
    have := h.len
    rw [e, Int.toNat_natCast]
    exact ⟨fun e => by omega, fun e => by omega⟩
  refine ⟨A1, fun e => ?_⟩
  obtain ⟨c1, h1⟩ := doD_ok hc e
  refine ⟨c1, fun i v hv => ⟨fun hi => .inl ((A1 i v hv).1 hi), fun l hi hl' => ?_, (A1 i v hv).2⟩⟩
  have hlt := (List.getElem?_eq_some_iff.1 hl').1
  have := h.len
  have := h.log
  rw [calm_now c1 hv, h1 i (by omega)]
  have := rowP_last (at_ := 1) hl' (s.now i)
  rwa [show 1 + (i - 1) = i by omega] at this
theorem commit_two {W : Nat → List UInt8} {x : List UInt8} (hx : x = zs 256 ∨ x = headL p.length (entriesL p)) (hl : 0 < s.safe.length) (hc : s.calm) (ha : Allow (AlM n p W) s) :
    Allow (AlM n p W) (doD (rowP 0 [x]) s).1 ∧ ((doD (rowP 0 [x]) s).2 = 0 → (doD (rowP 0 [x]) s).1.calm ∧ ∀ v, May (doD (rowP 0 [x]) s).1 0 v → v = x) := by
  have A1 : Allow (AlM n p W) (doD (rowP 0 [x]) s).1 := ha.doD fun q hq _ => by
    obtain ⟨j, hj, e⟩ := rowP_mem hq
    match j, hj with
    | 0, hj =>
      obtain rfl : x = q.2 := by simpa using hj
      rw [e]
      exact ⟨fun _ => hx, fun l h0 => absurd h0 (by simp), fun h0 => absurd h0 (by simp)⟩
  refine ⟨A1, fun e => ?_⟩
  obtain ⟨c1, h1⟩ := doD_ok hc e
  refine ⟨c1, fun v hv => ?_⟩
  rw [calm_now c1 hv, h1 0 hl]
  exact rowP_last (at_ := 0) (j := 0) (ls := [x]) rfl _
theorem commit_three (h : Fine n N p) (hl : s.safe.length = N) (hc : s.calm) (ha : Allow (AlF n p W0) s) :
    Allow (AlF n p W0) (doD p s).1 ∧ ((doD p s).2 = 0 → (doD p s).1.calm ∧ Allow (AlM n p (W1 p W0)) (doD p s).1) := by
  have A1 : Allow (AlF n p W0) (doD p s).1 := ha.doD fun q hq _ => by
    have hb := h.behind hq
    have := h.len
    refine ⟨fun e => by omega, fun l _ hl' => ?_, fun _ => .inr (W1_at h hq).symm⟩
    have := (List.getElem?_eq_some_iff.1 hl').1
    omega
  refine ⟨A1, fun e => ?_⟩
  obtain ⟨c1, h1⟩ := doD_ok hc e
  refine ⟨c1, fun i v hv => ⟨fun hi => .inr ((A1 i v hv).1 hi), (A1 i v hv).2.1, fun hi => ?_⟩⟩
  have hiN : i < s.safe.length := by
    rcases hv with hv | ⟨hv, _⟩
    · have := (List.getElem?_eq_some_iff.1 hv).1; rwa [doD_len] at this
    · rwa [doD_len] at hv
  rw [calm_now c1 hv, h1 i hiN]
  rcases lastP_mem p i (s.now i) with ⟨e1, e2⟩ | ⟨q, hq, rfl, e1⟩
  · rw [e1]
    have hw : W1 p W0 i = W0 i := lastP_no _ _ _ e2
    rw [hw]
    rcases (ha i _ (may_now hiN)).2.2 hi with e3 | e3
    · exact e3
    · rw [e3, hw]
  · rw [e1, W1_at h hq]
theorem mixed_zero {W : Nat → List UInt8} (ha : Allow (AlM n p W) s) (h0 : ∀ v, May s 0 v → v = zs 256) : Allow (AlZ n W) s := fun i v hv => ⟨fun hi => by subst hi; exact h0 v hv, (ha i v hv).2.2⟩
theorem mixed_head (ha : Allow (AlM n p W0) s) (h0 : ∀ v, May s 0 v → v = headL p.length (entriesL p)) : Allow (AlF n p W0) s := fun i v hv => ⟨fun hi => by subst hi; exact h0 v hv, (ha i v hv).2.1, fun hi => .inl ((ha i v hv).2.2 hi)⟩
theorem commit_good (h : Fine n N p) (hl : s.safe.length = N) (hc : s.calm) (ha : Allow (AlZ n W0) s) :
    (∀ ks, Good n p W0 ((commitD p s).1.crashed ks)) ∧ ((commitD p s).2 = 0 → (commitD p s).1.calm ∧ Allow (AlZ n (W1 p W0)) (commitD p s).1 ∧ ∀ i, 1 ≤ i → i ≤ (entriesL p).length → (commitD p s).1.now i = zs 256) := by
  have hN : 0 < N := by have := h.log; omega
  obtain ⟨a1, b1⟩ := commit_one (W0 := W0) h hl hc ha
  unfold commitD
  rw [seqD_one]
  split
  case isFalse => rename_i e; exact ⟨Good.z0 a1, fun h => absurd h e⟩
  rename_i e1
  obtain ⟨c1, m1⟩ := b1 e1
  have l1 : (doD (rowP 1 (entriesL p)) s).1.safe.length = N := by rw [doD_len]; exact hl
  generalize (doD (rowP 1 (entriesL p)) s).1 = s1 at *
  obtain ⟨a2, b2⟩ := commit_two (x := headL p.length (entriesL p)) (.inr rfl) (by omega) c1 m1
  rw [seqD_one]
  split
  case isFalse => rename_i e; exact ⟨Good.mixed (by rw [doD_len]; omega) (.inl rfl) a2, fun h => absurd h e⟩
  rename_i e2
  obtain ⟨c2, m2⟩ := b2 e2
  have f2 := mixed_head a2 m2
  have l2 : (doD (rowP 0 [headL p.length (entriesL p)]) s1).1.safe.length = N := by rw [doD_len]; exact l1
  generalize (doD (rowP 0 [headL p.length (entriesL p)]) s1).1 = s2 at *
  obtain ⟨a3, b3⟩ := commit_three (W0 := W0) h l2 c2 f2
  rw [seqD_one]
  split
  case isFalse => rename_i e; exact ⟨Good.f a3, fun h => absurd h e⟩
  rename_i e3
  obtain ⟨c3, m3⟩ := b3 e3
  have l3 : (doD p s2).1.safe.length = N := by rw [doD_len]; exact l2
  generalize (doD p s2).1 = s3 at *
  obtain ⟨a4, b4⟩ := commit_two (x := zs 256) (.inl rfl) (by omega) c3 m3
  rw [seqD_one]
  split
  case isFalse => rename_i e; exact ⟨Good.mixed (by rw [doD_len]; omega) (.inr rfl) a4, fun h => absurd h e⟩
  rename_i e4
  obtain ⟨c4, m4⟩ := b4 e4
  have z4 := mixed_zero a4 m4
  have l4 : (doD (rowP 0 [zs 256]) s3).1.safe.length = N := by rw [doD_len]; exact l3
  generalize (doD (rowP 0 [zs 256]) s3).1 = s4 at *
  have z5 : Allow (AlZ n (W1 p W0)) (doD (rowP 1 ((entriesL p).map fun _ => zs 256)) s4).1 := z4.doD fun q hq _ => by
    obtain ⟨j, hj, e⟩ := rowP_mem hq
    have := (List.getElem?_eq_some_iff.1 hj).1
    rw [List.length_map] at this
    have := h.len
    rw [e, Int.toNat_natCast]
    exact ⟨fun e => by omega, fun e => by omega⟩
  rw [seqD_one]
  split
  case isFalse => rename_i e; exact ⟨Good.z1 z5, fun h => absurd h e⟩
  rename_i e5
  refine ⟨Good.z1 z5, fun _ => ?_⟩
  obtain ⟨c5, h5⟩ := doD_ok c4 e5
  refine ⟨c5, z5, fun i hi1 hi2 => ?_⟩
  have := h.len
  have := h.log
  show (doD _ s4).1.now i = _
  rw [h5 i (by omega)]
  have hj : ((entriesL p).map fun _ => zs 256)[i - 1]? = some (zs 256) := by rw [List.getElem?_map, List.getElem?_eq_getElem (by omega)]; rfl
  have := rowP_last (at_ := 1) hj (s4.now i)
  rwa [show 1 + (i - 1) = i by omega] at this
def Stands (n N : Nat) (W : Nat → List UInt8) (s : Dk) : Prop := s.calm ∧ (∀ i, i ≤ n → s.now i = zs 256) ∧ ∀ i, n < i → i < N → s.now i = W i
theorem open_zero {W : Nat → List UInt8} (hn : n < N) (hl : s.safe.length = N) (hc : s.calm) (ha : Allow (AlZ n W) s) :
    leftP n s = [] ∧ Allow (AlZ n W) (openD n s).1 ∧ ((openD n s).2 = 0 → Stands n N W (openD n s).1) := by
  have h0 : s.now 0 = zs 256 := (ha 0 _ (may_now (by omega))).1 rfl
  have hp : leftP n s = [] := by
    unfold leftP
    rw [told_zero (log := logD n s) (by unfold logD; rw [List.range_succ_eq_map]; simpa using h0)]
    split <;> rfl
  refine ⟨hp, ?_⟩
  unfold openD
  by_cases hf : s.fuse = 0
  · rw [if_pos hf]
    exact ⟨ha, fun e => by cases e⟩
  · rw [if_neg hf, hp]
    have e1 : doD [] s = (s, 0) := rfl
    have e2 : wipeD 0 0 s = (s, 0) := wipeD_none hf fun i _ hi => by
      obtain rfl : i = 0 := by omega
      exact h0
    rw [seqD_one, e1, if_pos rfl, seqD_one, e2, if_pos rfl, seqD_one]
    have A3 : Allow (AlZ n W) (wipeD 1 n s).1 := ha.wipeD fun i h1 h2 => ⟨fun e => by omega, fun e => by omega⟩
    split
    · rename_i e3
      refine ⟨A3, fun _ => ?_⟩
      obtain ⟨c3, h3⟩ := wipeD_ok hc e3
      refine ⟨c3, fun i hi => ?_, fun i hi hiN => ?_⟩
      · show (wipeD 1 n s).1.now i = _
        rw [h3 i (by omega)]
        split
        · rfl
        · obtain rfl : i = 0 := by omega
          exact h0
      · show (wipeD 1 n s).1.now i = _
        rw [h3 i (by omega), if_neg (by omega)]
        exact (ha i _ (may_now (by omega))).2 hi
    · rename_i e3
      exact ⟨A3, fun e => absurd e e3⟩
theorem open_full (h : Fine n N p) (hl : s.safe.length = N) (hc : s.calm) (ha : Allow (AlF n p W0) s) :
    leftP n s = p ∧ (∀ ks, Good n p W0 ((openD n s).1.crashed ks)) ∧ ((openD n s).2 = 0 → Stands n N (W1 p W0) (openD n s).1) := by
  have hn := h.log
  have hlen := h.len
  have hnow : ∀ i, i < N → AlF n p W0 i (s.now i) := fun i hi => ha i _ (may_now (by omega))
  have h0 : s.now 0 = headL p.length (entriesL p) := (hnow 0 (by omega)).1 rfl
  have ht : toldL (logD n s) = p := by
    refine told_of (n := n) (fun v hv => ?_) h.room (by have := h.few; omega) (by simp [logD]) (by unfold logD; rw [List.range_succ_eq_map]; simpa using h0) ?_
    · have := takes_at h.takes hv
      have := h.few
      omega
    · rw [← entries_len]
      apply List.ext_getElem
      · rw [List.length_take, List.length_drop]
        simp [logD]
        omega
      · intro i h1 h2
        have e1 : ((logD n s).drop 1)[i]'(by rw [List.length_drop]; simp [logD]; omega) = s.now (1 + i) := by
          rw [List.getElem_drop]
          simp [logD]
        rw [List.getElem_take, e1]
        exact (hnow (1 + i) (by omega)).2.1 _ (by omega) (by rw [show 1 + i - 1 = i by omega, List.getElem?_eq_getElem h2])
  have hp : leftP n s = p := by
    unfold leftP
    rw [ht, hl, if_pos h.takes]
  refine ⟨hp, ?_⟩
  unfold openD
  by_cases hf : s.fuse = 0
  · rw [if_pos hf]
    exact ⟨Good.f ha, fun e => by cases e⟩
  · rw [if_neg hf, hp, seqD_one]
    obtain ⟨a1, b1⟩ := commit_three (W0 := W0) h hl hc ha
    split
    case isFalse => rename_i e; exact ⟨Good.f a1, fun h => absurd h e⟩
    rename_i e1
    obtain ⟨c1, m1⟩ := b1 e1
    have l1 : (doD p s).1.safe.length = N := by rw [doD_len]; exact hl
    generalize (doD p s).1 = s1 at *
    have a2 : Allow (AlM n p (W1 p W0)) (wipeD 0 0 s1).1 := m1.wipeD fun i h1 h2 => by
      obtain rfl : i = 0 := by omega
      exact ⟨fun _ => .inl rfl, fun l h0 => absurd h0 (by omega), fun h0 => absurd h0 (by omega)⟩
    have l2 : (wipeD 0 0 s1).1.safe.length = N := by rw [wipeD_len]; exact l1
    rw [seqD_one]
    split
    case isFalse => rename_i e; exact ⟨Good.mixed (by rw [l2]; omega) (.inr rfl) a2, fun h => absurd h e⟩
    rename_i e2
    obtain ⟨c2, h2⟩ := wipeD_ok c1 e2
    have z2 : Allow (AlZ n (W1 p W0)) (wipeD 0 0 s1).1 := mixed_zero a2 fun v hv => by
      rw [calm_now c2 hv, h2 0 (by omega), if_pos ⟨Nat.le_refl _, Nat.le_refl _⟩]
    generalize (wipeD 0 0 s1).1 = s2 at *
    have z3 : Allow (AlZ n (W1 p W0)) (wipeD 1 n s2).1 := z2.wipeD fun i h1 h2 => ⟨fun e => by omega, fun e => by omega⟩
    rw [seqD_one]
    split
    case isFalse => rename_i e; exact ⟨Good.z1 z3, fun h => absurd h e⟩
    rename_i e3
    refine ⟨Good.z1 z3, fun _ => ?_⟩
    obtain ⟨c3, h3⟩ := wipeD_ok c2 e3
    refine ⟨c3, fun i hi => ?_, fun i hi hiN => ?_⟩
    · show (wipeD 1 n s2).1.now i = _
      rw [h3 i (by omega)]
      split
      · rfl
      · obtain rfl : i = 0 := by omega
        exact (z2 0 _ (may_now (by omega))).1 rfl
    · show (wipeD 1 n s2).1.now i = _
      rw [h3 i (by omega), if_neg (by omega)]
      exact (z2 i _ (may_now (by omega))).2 hi
theorem open_good (h : Fine n N p) (hl : s.safe.length = N) (hc : s.calm) (ha : Good n p W0 s) :
    (∀ ks, Good n p W0 ((openD n s).1.crashed ks)) ∧ ((openD n s).2 = 0 → Stands n N W0 (openD n s).1 ∨ Stands n N (W1 p W0) (openD n s).1) := by
  rcases ha with ha | ha | ha
  · obtain ⟨_, h1, h2⟩ := open_zero h.log hl hc ha
    exact ⟨Good.z0 h1, fun e => .inl (h2 e)⟩
  · obtain ⟨_, h1, h2⟩ := open_full h hl hc ha
    exact ⟨h1, fun e => .inr (h2 e)⟩
  · obtain ⟨_, h1, h2⟩ := open_zero h.log hl hc ha
    exact ⟨Good.z1 h1, fun e => .inr (h2 e)⟩
theorem open_again {W : Nat → List UInt8} (hn : n < N) (hl : s.safe.length = N) (hf : s.fuse ≠ 0) (ht : Stands n N W s) : leftP n s = [] ∧ openD n s = (s, 0) := by
  have h0 : s.now 0 = zs 256 := ht.2.1 0 (Nat.zero_le _)
  have hp : leftP n s = [] := by
    unfold leftP
    rw [told_zero (log := logD n s) (by unfold logD; rw [List.range_succ_eq_map]; simpa using h0)]
    split <;> rfl
  refine ⟨hp, ?_⟩
  unfold openD
  have e2 : wipeD 0 0 s = (s, 0) := wipeD_none hf fun i _ hi => ht.2.1 i (by omega)
  have e3 : wipeD 1 n s = (s, 0) := wipeD_none hf fun i _ hi => ht.2.1 i hi
  rw [if_neg hf, hp, seqD_one, show doD [] s = (s, 0) from rfl, if_pos rfl, seqD_one, e2, if_pos rfl, seqD_one, e3, if_pos rfl]
  rfl
end
end
section
open Go.RowKit
theorem wp_grow {P : Program} {o : Oper} {a : Act} {w : World} {K : Act → World → Prop} {Q : Exit → Act → World → Prop}
    (s x : Operand) (t : TypeId) (hop : o.op = Op.call { callee := Callee.builtin Builtin.append, args := #[s, x], argTypes := #[t, t] })
    (base : Nat) (e : TypeId) (i : TypeInfo) (ht : P.underlying t = some (.slice e)) (hi : P.info? e = some i) (hz : i.zero = some (.int .u8 0))
    (hsize : i.size = 1) (hby : i.bytes = 1) (v : Value) (xs : List UInt8) (hs : a.eval s = v) (hown : w.ownsRow base e 1 v xs.length (xs.map bv))
    (S : Nat → Prop) (xv : Value) (ys : List UInt8) (hxe : a.eval x = xv) (hx : BS w S xv ys) (hb : xs.length + ys.length ≤ 140737488355328) (hbase : base ≤ w.heap.size)
    (hK : ∀ v' w', w'.ownsRow base e 1 v' (xs ++ ys).length ((xs ++ ys).map bv) → w.grownBy w' v.ownBlock → (v'.ownBlock = v.ownBlock ∨ v'.ownBlock = some w.heap.size) → K (a.put o.dst v') w') :
    Oper.wp P o a w K Q := by
  obtain ⟨v', w', hrun, h2, h3, h4⟩ := run_grow (P := P) w base t o.type e i ht hi hz hsize hby v xs hown S xv ys hx hb hbase
  unfold Oper.wp execOp
  simp only [hop, resolve, invoke, builtin, Sem.run_bind, Sem.run_pure, Result.andThen_ok, List.map_toArray, List.map_cons, List.map_nil, hs, hxe, hrun]
  exact hK _ _ h2 h3 h4
theorem own_ne {w : World} {B e size n g : Nat} {v : Value} {xs : List Value} (h : w.ownsRow B e size v n xs) (hg : g < B) : v.ownBlock ≠ some g := by
  obtain ⟨_, h2⟩ := h
  rcases h2 with ⟨rfl, _⟩ | ⟨g', c, cur, rfl, hb, _⟩
  · simp [Value.ownBlock]
  · simp [Value.ownBlock]; omega
theorem own_ge {w : World} {B e size n : Nat} {v : Value} {xs : List Value} (h : w.ownsRow B e size v n xs) (k : Nat) (hk : v.ownBlock = some k) : B ≤ k := by
  rcases Nat.lt_or_ge k B with hlt | hge
  · exact absurd hk (own_ne h hlt)
  · exact hge
end
end Go.Proofs.YteddmnoeljakpaaGreatDoor
