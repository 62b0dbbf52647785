/-
  DkF: Image, over the loaded program. No condition but what each theorem names.
  WaI: left, over the loaded program: the patches that stand whole in the log on the disk. No condition but what each theorem names (the table roots among it).
  WaJ: inOrder, over the loaded program, for every functions whose contracts are known: steps, up to the first one that has an error. No condition but what it names.
  WaK: What Open does, step by step, over the loaded program: its four functions; what stands in memory between them. No condition but what each theorem names (the table roots among it).
  WaL: Open, over the loaded program: its contract. No condition but what it names (the table roots among it).
-/
import Derived.Test.YteddmnoeljakpaaGreatDoorSw03
import Derived.Test.YteddmnoeljakpaaGreatDoorSw11
import Derived.Test.YteddmnoeljakpaaGreatDoorSw16
import Derived.Shelf.Abstract
set_option linter.unusedVariables false
set_option maxRecDepth 100000
namespace Go.Proofs.YteddmnoeljakpaaGreatDoor
section
open Go.RowKit
abbrev nilB : Value := .slice none 0 0
def OW (w : World) (B : Nat) (vs : List Value) (ls : List (List UInt8)) : Prop :=
  vs.length = ls.length ∧ ∀ (i : Nat) (v : Value) (l : List UInt8), vs[i]? = some v → ls[i]? = some l → w.ownsRow B 5 1 v l.length (l.map bv)
section
variable {w w' : World} {B : Nat} {vs us : List Value} {ls ms : List (List UInt8)}
theorem OW.nil (w : World) (B : Nat) : OW w B [] [] := ⟨rfl, fun i v l hv _ => by simp at hv⟩
theorem OW.keep (h : OW w B vs ls) (hk : ∀ b, B ≤ b → b < w.heap.size → w'.heap[b]? = w.heap[b]?) : OW w' B vs ls :=
  ⟨h.1, fun i v l hv hl => own_keep (h.2 i v l hv hl) fun b hb => hk b (own_ge (h.2 i v l hv hl) b hb) (by
    obtain ⟨_, h2⟩ := h.2 i v l hv hl
    rcases h2 with ⟨rfl, _⟩ | ⟨g, c, cur, rfl, _, hg, _⟩
    · simp [Value.ownBlock] at hb
    · simp [Value.ownBlock] at hb; subst hb; exact (Array.getElem?_eq_some_iff.1 hg).1)⟩
theorem OW.append (h : OW w B vs ls) (g : OW w B us ms) : OW w B (vs ++ us) (ls ++ ms) := by
  refine ⟨by rw [List.length_append, List.length_append, h.1, g.1], fun i v l hv hl => ?_⟩
  rcases Nat.lt_or_ge i vs.length with hi | hi
  · rw [List.getElem?_append_left hi] at hv
    rw [List.getElem?_append_left (by rw [← h.1]; exact hi)] at hl
    exact h.2 i v l hv hl
  · rw [List.getElem?_append_right hi] at hv
    rw [List.getElem?_append_right (by rw [← h.1]; exact hi), ← h.1] at hl
    exact g.2 _ v l hv hl
theorem OW.one {v : Value} {l : List UInt8} (h : w.ownsRow B 5 1 v l.length (l.map bv)) : OW w B [v] [l] := by
  refine ⟨rfl, fun i u m hu hm => ?_⟩
  match i, hu, hm with
  | 0, hu, hm => simp at hu hm; subst hu hm; exact h
theorem OW.reads (h : OW w B vs ls) : VS w (fun b => B ≤ b ∧ b < w.heap.size) vs ls := ⟨h.1, fun i v l hv hl => own_BS (h.2 i v l hv hl)⟩
theorem LS_of_kb {g : Nat} {t : TypeId} {S S' : Nat → Prop} (h : KB w g t vs.toArray) (hv : VS w S vs ls) (hS : ∀ b, S b → S' b) (hg : S' g) (hm : vs.length ≤ maxLen) : LS w S' (.slice (some ⟨g, 0, none⟩) ls.length ls.length) ls := by
  refine ⟨_, _, rfl, Nat.le_refl _, by rw [← hv.1]; exact hm, fun h0 => ⟨g, 0, rfl, hg, h.lt, fun j l hj => ?_⟩⟩
  have hjl := (List.getElem?_eq_some_iff.1 hj).1
  have hjv : j < vs.length := by rw [hv.1]; exact hjl
  refine ⟨vs[j], ?_, (hv.2 j vs[j] l (List.getElem?_eq_getElem hjv) hj).mono hS⟩
  rw [Nat.zero_add, h.cell]
  simp [hjv]
end
theorem row_at {vs : List Value} {n k : Nat} (hv : vs.length = k) (h : k < n) : (vs ++ List.replicate (n - k) nilB).toArray[k]? = some nilB := by
  subst hv
  rw [List.getElem?_toArray, List.getElem?_append_right (Nat.le_refl _), Nat.sub_self, List.getElem?_replicate, if_pos (by omega)]
theorem row_set {vs : List Value} {n k : Nat} (hv : vs.length = k) (h : k < n) (x : Value) : (vs ++ List.replicate (n - k) nilB).toArray.setIfInBounds k x = ((vs ++ [x]) ++ List.replicate (n - (k + 1)) nilB).toArray := by
  subst hv
  rw [List.setIfInBounds_toArray, List.set_append_right _ _ (Nat.le_refl _), Nat.sub_self]
  obtain ⟨m, hm⟩ : ∃ m, n - vs.length = m + 1 := ⟨n - vs.length - 1, by omega⟩
  rw [hm, List.replicate_succ, List.set_cons_zero, show n - (vs.length + 1) = m from by omega]
  simp
def Told44 (w : World) (ls : List (List UInt8)) (e : Ending) (w' : World) : Prop :=
  ∃ vs, e = .returned (.slice (some ⟨w.heap.size, 0, none⟩) ls.length ls.length) ∧ KB w' w.heap.size 55 vs.toArray ∧ OW w' (w.heap.size + 1) vs ls ∧ Below w.heap.size w w'
theorem Told44.ls {w w' : World} {vs : List Value} {ls : List (List UInt8)} (h : KB w' w.heap.size 55 vs.toArray) (ho : OW w' (w.heap.size + 1) vs ls) (hm : ls.length ≤ maxLen) :
    LS w' (fun b => w.heap.size ≤ b ∧ b < w'.heap.size) (.slice (some ⟨w.heap.size, 0, none⟩) ls.length ls.length) ls :=
  LS_of_kb h ho.reads (fun b hb => ⟨by omega, hb.2⟩) ⟨Nat.le_refl _, h.lt⟩ (by rw [ho.1]; exact hm)
set_option maxRecDepth 100000 in
set_option maxHeartbeats 1000000 in
theorem image_any {w : World} {p : DA} {s : Dk} (h : DS w p s) : Calls Tryz.prog 56 #[.pointer (some ⟨p.d, 0, none⟩)] w (Told44 w s.safe) := by
  have hm := made_any h
  obtain ⟨i0, hi, hz0, hz1, hz2⟩ := info_parts info_slice
  have few := h.ok.few
  have hmk := fun w : World => run_make (P := Tryz.prog) w 100 55 i0 _ Tryz.underlying100 hi hz0 .i64 .i64 s.safe.length s.safe.length (by omega) (by omega) (by rw [hz2]; omega) (by omega)
  rw [hz1] at hmk
  simp only [Int.toNat_natCast] at hmk
  rw [madeCells_of nilB nilB 1 s.safe.length (by omega) rfl, Nat.mul_one] at hmk
  obtain ⟨C, hC⟩ : ∃ C, C = Array.replicate s.safe.length nilB := ⟨_, rfl⟩
  rw [← hC] at hmk
  have D1 := h.below ((Below.refl w.heap.size w).alloc (Nat.le_refl _) (.cells C 55))
  have B1 := (Below.refl w.heap.size w).alloc (Nat.le_refl _) (.cells C 55)
  have k1 : KB (w.alloc (.cells C 55)) w.heap.size 55 (([] : List Value) ++ List.replicate (s.safe.length - 0) nilB).toArray := by
    rw [List.nil_append, Nat.sub_zero, List.toArray_replicate, ← hC]; exact KB.new _ _ _
  obtain ⟨Z, hZ⟩ : ∃ Z, Z = (z256.map bv).toArray := ⟨_, rfl⟩
  have hz : ∀ w : World, (zeroValue 112).run Tryz.prog w = .ok (.agg Z) w := by rw [hZ]; exact zero_sec
  have HZ := Lib.hid hZ
  have hlt := h.lt
  have c0 := h.c0
  have d0 := D1.c0
  have hlen := h.ok.len
  have HLEN := Lib.hid hlen
  have hcl := fun (l : List UInt8) (g : Nat) (W : World) (hk : KB W g 112 (l.map bv).toArray) (hl : l.length = 256) => clone2_any _ _ l W (hk.sl hl) (by omega)
  have HCL := Lib.hid hcl
  have HPD : Hid (p.d ≠ w.heap.size) := by show _ ≠ _; have := hlt p.d (.inl rfl); omega
  clear hC hZ hlen hcl
  go_enter Tryz.func56, Tryz.ntmps56
  go_wp2_with (go_at_call 61; refine hm.mono ?_; rintro e w' ⟨rfl, rfl⟩)
  clear hmk hm c0 d0 hi hz0 hz1 hz2
  go_loopw [20] (fun q wr => ∃ (k : Nat) (vs : List Value), k ≤ s.safe.length ∧ q = .int .i64 k ∧ vs.length = k ∧ KB wr w.heap.size 55 (vs ++ List.replicate (s.safe.length - k) nilB).toArray ∧ OW wr (w.heap.size + 1) vs (s.safe.take k) ∧ DS wr p s ∧ Below w.heap.size w wr) (fun q _ => s.safe.length - (Go.RowKit.intOf q).toNat)
  case atStart => exact ⟨0, [], Nat.zero_le _, rfl, rfl, k1, OW.nil _ _, D1, B1⟩
  case round =>
    obtain ⟨k, vs, hkl, rfl, hvl, kk, vv, D2, B2⟩ := hrel
    clear k1 D1 B1
    by_cases hlt2 : k < s.safe.length
    · have hr := D2.sf.sec h.ok.len k hlt2
      have hl : Hid (s.safe[k].length = 256) := HLEN.out _ (List.getElem_mem hlt2)
      have HTK : Hid (s.safe.take (k + 1) = s.safe.take k ++ [s.safe[k]]) := by show _ = _; rw [List.take_add_one, List.getElem?_eq_getElem hlt2]; rfl
      generalize s.safe[k] = l at *
      have HVL := Lib.hid hvl
      have hg2 := kk.lt
      have HK : KB (wr.alloc (.cells Z 112)) wr.heap.size 112 (z256.map bv).toArray := by rw [← HZ.out]; exact KB.new _ _ _
      clear hvl
      have KA := kk.alloc (.cells Z 112)
      have VA := vv.keep (w' := wr.alloc (.cells Z 112)) fun b _ hb => Below.heap_alloc _ _ b hb
      have DA2 := D2.below ((Below.refl wr.heap.size wr).alloc (Nat.le_refl _) (.cells Z 112))
      have BA := B2.alloc B2.size (.cells Z 112)
      have hS := B2.size
      have HROW := Lib.hid (row_at (n := s.safe.length) HVL.out hlt2)
      go_wp2_with (first
        | (refine wpList_load_part rfl 112 (.tmp 23) rfl p.b (k * 256) rfl (l.map bv) hr _ Tryz.underlying112 rfl 256 cells_sec (by rw [List.length_map, hl.out]) ?_)
        | (refine wpList_store_kb rfl 112 (.tmp 5) (.tmp 24) rfl wr.heap.size (l.map bv) rfl rfl 112 _ HK 256 cells_sec (by rw [List.length_map, z256_len]) (by rw [List.length_map, hl.out]) (bytes_one _) ?_; intro w4 k4 g4)
        | (go_at_call 64; refine (HCL.out l _ _ k4 hl.out).mono ?_; rintro e w5 ⟨v5, rfl, how5, b5⟩; have n5 := own_BS how5; obtain ⟨A5, c5, rfl, _, _⟩ := n5.form
           have kk5 := (KA.grown g4 (by simp; omega)).below b5 (by have := g4.size; have := KA.lt; omega); have cc5 := kk5.cell k; have ff5 := kk5.free k; rw [HROW.out] at cc5))
      have hs4 := g4.size
      have hsa : (wr.alloc (.cells Z 112)).heap.size = wr.heap.size + 1 := by simp
      have hs5 := b5.size
      have hs6 : (w5.setCell ⟨w.heap.size, k, none⟩ (.slice A5 l.length c5)).heap.size = w5.heap.size := by simp [World.setCell]
      have kk6 := kk5.put k (.slice A5 l.length c5)
      rw [row_set HVL.out hlt2] at kk6
      have hk6 : ∀ b, b < wr.heap.size → b ≠ w.heap.size → (w5.setCell ⟨w.heap.size, k, none⟩ (.slice A5 l.length c5)).heap[b]? = (wr.alloc (.cells Z 112)).heap[b]? := fun b h1 h2 =>
        (Below.heap_setCell _ ⟨w.heap.size, k, none⟩ _ b h2).trans ((b5.block b (by omega)).trans (g4.block b (by omega) fun e => by injection e with e; omega))
      have V6 : OW (w5.setCell ⟨w.heap.size, k, none⟩ (.slice A5 l.length c5)) (w.heap.size + 1) (vs ++ [.slice A5 l.length c5]) (s.safe.take (k + 1)) := by
        rw [HTK.out]
        have h4 : OW w5 (w.heap.size + 1) vs (s.safe.take k) := vv.keep fun b h1 h2 => (b5.block b (by omega)).trans ((g4.block b (by omega) fun e => by injection e with e; omega).trans (Below.heap_alloc _ _ b h2))
        exact (h4.append (OW.one (own_base how5 (by omega)))).keep fun b h1 h2 => Below.heap_setCell _ ⟨w.heap.size, k, none⟩ _ b (by show b ≠ w.heap.size; omega)
      have D6 : DS (w5.setCell ⟨w.heap.size, k, none⟩ (.slice A5 l.length c5)) p s := DA2.keep fun x hx => by have := hlt x hx; exact hk6 x (by omega) (by omega)
      have B6 : Below w.heap.size w (w5.setCell ⟨w.heap.size, k, none⟩ (.slice A5 l.length c5)) := ((BA.grown g4 (by omega) fun g e => by injection e with e; omega).trans (b5.mono (by omega))).setCell (p := ⟨w.heap.size, k, none⟩) (Nat.le_refl _) _
      go_roundw
      case rel => exact ⟨k + 1, _, by omega, by go_num, by rw [List.length_append, HVL.out]; rfl, kk6, V6, D6, B6⟩
      case measure => simp [Go.RowKit.intOf]; omega
    · obtain rfl : k = s.safe.length := by omega
      go_wp2
      go_ret
      rw [Nat.sub_self, List.replicate_zero, List.append_nil] at kk
      rw [List.take_length] at vv
      exact ⟨vs, rfl, kk, vv, B2⟩
end
section
open Go.RowKit
theorem make_rows (w : World) (n : Nat) (hn : n ≤ 1000000) : ∃ C, C = (([] : List Value) ++ List.replicate (n - 0) nilB).toArray ∧ (Instr.makeSlice 100 (.int .i64 n) (.int .i64 n)).run Tryz.prog w = .ok (.slice (some ⟨w.heap.size, 0, none⟩) n n) (w.alloc (.cells C 55)) := by
  obtain ⟨i0, hi, hz0, hz1, hz2⟩ := info_parts info_slice
  have hmk := run_make (P := Tryz.prog) w 100 55 i0 _ Tryz.underlying100 hi hz0 .i64 .i64 n n (by omega) (by omega) (by rw [hz2]; omega) (by omega)
  rw [hz1, Int.toNat_natCast, madeCells_of nilB nilB 1 n (by omega) rfl, Nat.mul_one] at hmk
  refine ⟨_, ?_, hmk⟩
  rw [List.nil_append, Nat.sub_zero, List.toArray_replicate]
section
variable {w : World} {g n : Nat} {p : DA} {br : Bool} {s : Dk}
theorem left_dead (hg : LG w g p n br) (hd : DS w p s) (hn : n ≤ 1024) (hf : s.fuse = 0) :
    Calls Tryz.prog 94 #[.pointer (some ⟨g, 0, none⟩)] w fun e w' => e = .returned (.tuple #[.slice none 0 0, .int .i64 8]) ∧ Below w.heap.size w w' := by
  obtain ⟨C, hC, hmk⟩ := make_rows w (n + 1) (by omega)
  rw [show ((n + 1 : Nat) : Int) = (n : Int) + 1 by omega] at hmk
  have B0 := (Below.refl w.heap.size w).alloc (Nat.le_refl _) (.cells C 55)
  have hr := read_chk (hd.below B0) ((0 : Nat) : Int) (by simp [chk, hf])
  rw [show chk s ((0 : Nat) : Int) = 8 from by simp [chk, hf]] at hr
  have c0 := (LG.below hg B0).c0
  have c1 := hg.c1
  have c1' := (LG.below hg B0).c1
  have D0 : decide ((0 : Int) < (n : Int) + 1) = true := decide_eq_true (by omega)
  have D1 : (0 : Int) < (n : Int) + 1 := by omega
  clear hC
  go_enter Tryz.func94, Tryz.ntmps94
  go_wp2
  go_loopw [17] (fun iv wr => iv = .int .i64 ((0 : Nat) : Int) ∧ wr = w.alloc (.cells C 55)) (fun _ _ => 0)
  case atStart => exact ⟨rfl, rfl⟩
  case round =>
    obtain ⟨rfl, rfl⟩ := hrel
    go_wp2_with (go_at_call 25; refine hr.mono ?_; rintro e w' ⟨rfl, rfl⟩)
    go_ret2
    exact ⟨rfl, B0⟩
set_option maxHeartbeats 2000000 in
theorem left_live (hg : LG w g p n br) (hd : DS w p s) (hn1 : 1 ≤ n) (hn : n + 1 ≤ s.safe.length) (ht : Tab w) (hf : s.fuse ≠ 0) :
    Calls Tryz.prog 94 #[.pointer (some ⟨g, 0, none⟩)] w fun e w' => ∃ v', e = .returned (.tuple #[v', .int .i64 0]) ∧ PS w' (fun x => w.heap.size ≤ x ∧ x < w'.heap.size) v' (leftP n s) ∧ Below w.heap.size w w' := by
  have few := hd.ok.few
  obtain ⟨C, hC, hmk⟩ := make_rows w (n + 1) (by omega)
  rw [show ((n + 1 : Nat) : Int) = (n : Int) + 1 by omega] at hmk
  have K0 : KB (w.alloc (.cells C 55)) w.heap.size 55 (([] : List Value) ++ List.replicate (n + 1 - 0) nilB).toArray := by rw [hC]; exact KB.new _ _ _
  have B0 := (Below.refl w.heap.size w).alloc (Nat.le_refl _) (.cells C 55)
  have c1 := hg.c1
  have hrd := fun (W : World) (hdW : DS W p s) (i : Nat) (hi : i < s.safe.length) => read_ok hdW i hi hf
  have HRD := Lib.hid hrd
  have hnow := fun (i : Nat) (hi : i < s.safe.length) => hd.ok.now_len i hi
  have HNOW := Lib.hid hnow
  have hn2 : n ≤ 1023 := by omega
  obtain ⟨R, hR⟩ : ∃ R, R = leftP n s := ⟨_, rfl⟩
  have HR := Lib.hid hR
  rw [← hR]
  clear hC hrd hf hnow hR
  go_enter Tryz.func94, Tryz.ntmps94
  go_wp2
  go_loopw [17] (fun iv wr => ∃ (k : Nat) (vs : List Value), k ≤ n + 1 ∧ iv = .int .i64 k ∧ vs.length = k ∧ KB wr w.heap.size 55 (vs ++ List.replicate (n + 1 - k) nilB).toArray ∧ OW wr (w.heap.size + 1) vs ((List.range k).map s.now) ∧ Below w.heap.size w wr) (fun iv _ => n + 1 - (intOf iv).toNat)
  case atStart => exact ⟨0, [], by omega, rfl, rfl, K0, OW.nil _ _, B0⟩
  case round =>
    obtain ⟨k, vs, hk, rfl, hvl, kb, vv, bl⟩ := hrel
    clear K0 B0 hmk
    have hgr := hg.below bl
    have hdr := hd.below bl
    by_cases hlt : k < n + 1
    · have c0 := hgr.c0
      have hr := HRD.out wr hdr k (by omega)
      have hnl := HNOW.out k (by omega)
      have HTK : Hid ((List.range (k + 1)).map s.now = (List.range k).map s.now ++ [s.now k]) := by show _ = _; rw [List.range_succ, List.map_append]; rfl
      have D0 : decide ((k : Int) < (n : Int) + 1) = true := by simp; omega
      have D1 : (k : Int) < (n : Int) + 1 := by omega
      generalize s.now k = l at *
      have HROW := Lib.hid (row_at (n := n + 1) hvl hlt)
      have HSET := fun x => Lib.hid (row_set (n := n + 1) hvl hlt x)
      have HVL := Lib.hid hvl
      have hkl := kb.lt
      have hs := bl.size
      clear hnl hvl
      go_wp2_with fail
      refine hr.mono ?_
      rintro e w5 ⟨v5, rfl, how5, b5⟩
      have n5 := own_BS how5
      obtain ⟨A5, c5, rfl, _, _⟩ := n5.form
      have kk5 := kb.below b5 hkl
      have cc5 := kk5.cell k
      have ff5 := kk5.free k
      rw [HROW.out] at cc5
      have vv5 : OW w5 (w.heap.size + 1) vs ((List.range k).map s.now) := vv.keep fun b h1 h2 => b5.block b h2
      have BL5 := bl.trans (b5.mono hs)
      have kk6 := kk5.put k (.slice A5 l.length c5)
      rw [(HSET _).out] at kk6
      have V6 : OW (w5.setCell ⟨w.heap.size, k, none⟩ (.slice A5 l.length c5)) (w.heap.size + 1) (vs ++ [.slice A5 l.length c5]) ((List.range (k + 1)).map s.now) := by
        rw [HTK.out]
        exact (vv5.append (OW.one (own_base how5 (by omega)))).keep fun b h1 h2 => Below.heap_setCell _ ⟨w.heap.size, k, none⟩ _ b (by show b ≠ w.heap.size; omega)
      have B6 := BL5.setCell (p := ⟨w.heap.size, k, none⟩) (Nat.le_refl _) (.slice A5 l.length c5)
      clear hr vv5 vv how5 n5 b5 HTK c0 kk5 HSET
      go_wp2_with fail
      go_roundw
      case rel => exact ⟨k + 1, _, by omega, by go_num, by rw [List.length_append, HVL.out]; rfl, kk6, V6, B6⟩
      case measure => simp [intOf]; omega
    · obtain rfl : k = n + 1 := by omega
      have D0 : decide (((n + 1 : Nat) : Int) < (n : Int) + 1) = false := by simp
      rw [Nat.sub_self, List.replicate_zero, List.append_nil] at kb
      have hls : LS wr (fun b => w.heap.size ≤ b ∧ b < wr.heap.size) (.slice (some ⟨w.heap.size, 0, none⟩) (logD n s).length (logD n s).length) (logD n s) :=
        LS_of_kb kb vv.reads (fun b hb => ⟨by omega, hb.2⟩) ⟨Nat.le_refl _, kb.lt⟩ (by rw [vv.1]; simp [maxLen]; omega)
      have hll : (logD n s).length = n + 1 := by simp [logD]
      rw [hll] at hls
      have htd := told_any _ _ (logD n s) wr hls (ht.below bl) (by omega) (by omega) (fun l hl => by
        obtain ⟨i, hi, rfl⟩ := List.mem_map.1 hl
        exact HNOW.out i (by have := List.mem_range.1 hi; omega))
      have hlp : R = if takesB n s.safe.length (toldL (logD n s)) = true then toldL (logD n s) else [] := by rw [HR.out]; rfl
      generalize toldL (logD n s) = tp at *
      have htk := fun (v : Value) (W : World) (hgW : LG W g p n br) (hdW : DS W p s) (S : Nat → Prop) (h : PS W S v tp) => takes_any S v tp W hgW hdW h
      have HTK := Lib.hid htk
      generalize takesB n s.safe.length tp = tb at *
      have HLP := Lib.hid hlp
      clear HNOW HRD hls kb vv htk hlp hll HR
      rw [show ((n + 1 : Nat) : Int) = (n : Int) + 1 by omega] at *
      go_wp2_with fail
      refine htd.mono ?_
      rintro e w2 ⟨v2, rfl, ps2, b2⟩
      have BL2 := bl.trans (b2.mono bl.size)
      have hs := bl.size
      have hs2 := b2.size
      have hk2 := HTK.out v2 w2 (hgr.below b2) (hdr.below b2) _ ps2
      obtain ⟨A2, c2, rfl, _⟩ := ps2.form
      clear htd HTK
      cases tb with
      | true =>
        have hr : R = tp := by rw [HLP.out, if_pos rfl]
        subst hr
        generalize R.length = m at *
        go_wp2_with fail
        refine hk2.mono ?_
        rintro e w3 ⟨rfl, b3⟩
        go_wp2_with fail
        go_ret2
        exact ⟨_, rfl, ps2.keepS b3.size (fun b _ hb => b3.block b hb) fun b hb => by
          have := b3.size
          rcases hb with hb | hb <;> exact ⟨by omega, by omega⟩, BL2.trans (b3.mono BL2.size)⟩
      | false =>
        have hr : R = [] := by rw [HLP.out, if_neg (by simp)]
        subst hr
        generalize tp.length = m at *
        go_wp2_with fail
        refine hk2.mono ?_
        rintro e w3 ⟨rfl, b3⟩
        go_wp2_with fail
        go_ret2
        exact ⟨_, rfl, PS.nil _ _, BL2.trans (b3.mono BL2.size)⟩
end
end
section
open Go.RowKit
abbrev Fn2 := Nat × Array Value
def fnV (q : Fn2) : Value := .func (.func q.1) #[] q.2
def Runs (q : Fn2) : Prop := ∀ (args : Array Value) (w : World), (callFunc q.1 args).run Tryz.prog w = .ok (.enter q.1 args) w
theorem inOrder_any (fs : List Fn2) (b : Nat) (w : World) (I : Nat → World → Prop) (Er : Int → World → Prop) (hl : fs.length ≤ 1000) (hI : I 0 w)
    (hrun : ∀ q ∈ fs, Runs q) (hk : ∀ j W, I j W → KB W b 139 (fs.map fnV).toArray)
    (hstep : ∀ j q W, fs[j]? = some q → I j W → Calls Tryz.prog q.1 q.2 W fun e W' => ∃ x : Int, e = .returned (.int .i64 x) ∧ (x = 0 → I (j + 1) W') ∧ (x ≠ 0 → Er x W')) :
    Calls Tryz.prog 84 #[.slice (some ⟨b, 0, none⟩) fs.length fs.length] w fun e w' => ∃ x : Int, e = .returned (.int .i64 x) ∧ (x = 0 → I fs.length w') ∧ (x ≠ 0 → Er x w') := by
  have HK := Lib.hid hk
  have HS := Lib.hid hstep
  have HR := Lib.hid hrun
  have hlen : fs.length ≤ 9223372036854775807 := by omega
  clear hk hstep hrun
  go_enter Tryz.func84, Tryz.ntmps84
  go_wp2
  go_loopw [8] (fun iv wr => ∃ j : Nat, j ≤ fs.length ∧ iv = .int .i64 j ∧ Hid (I j wr)) (fun iv _ => fs.length - (intOf iv).toNat)
  case atStart => exact ⟨0, by omega, rfl, hI⟩
  case round =>
    obtain ⟨j, hj, rfl, HI⟩ := hrel
    by_cases hlt : j < fs.length
    · obtain ⟨⟨F, caps⟩, hq⟩ : ∃ q, fs[j]? = some q := ⟨_, List.getElem?_eq_getElem hlt⟩
      have hrun := HR.out _ (List.mem_of_getElem? hq)
      unfold Runs at hrun
      have c0 := (HK.out _ _ HI.out).cell j
      have e0 : (fs.map fnV).toArray[j]? = some (.func (.func F) #[] caps) := by rw [List.getElem?_toArray, List.getElem?_map, hq]; rfl
      rw [e0] at c0
      have hs := HS.out j _ wr hq HI.out
      dsimp only at hs hrun
      clear hq e0
      go_wp2_with fail
      refine hs.mono ?_
      rintro e w5 ⟨x, rfl, h1, h2⟩
      have H1 := Lib.hid h1
      have H2 := Lib.hid h2
      clear hs h1 h2 c0
      by_cases hx : x = 0
      · subst hx
        have HI2 : Hid (I (j + 1) w5) := H1.out (by trivial)
        clear H1 H2
        go_wp2_with fail
        go_roundw
        case rel => exact ⟨j + 1, by omega, by go_num, HI2⟩
        case measure => simp [intOf]; omega
      · have hx1 : (x == 0) = false := by simpa using hx
        have hx2 : (x != 0) = true := by simpa using hx
        have HX := Lib.hid hx
        clear hx
        go_wp2_with fail
        go_ret
        exact ⟨x, rfl, fun h => absurd h HX.out, H2.out⟩
    · obtain rfl : j = fs.length := by omega
      go_wp2_with fail
      go_ret
      exact ⟨0, rfl, fun _ => HI.out, fun h => absurd rfl h⟩
end
section
open Go.RowKit
section
variable {w : World} {lg n b3 b9 b10 : Nat} {p : DA} {br : Bool} {s : Dk} {v0 : Value}
theorem open1_any (h9 : KB w b9 79 #[.pointer (some ⟨lg, 0, none⟩)]) (h10 : KB w b10 88 #[v0]) (hg : LG w lg p n br) (hd : DS w p s) (hn1 : 1 ≤ n) (hn : n + 1 ≤ s.safe.length) (ht : Tab w) :
    Calls Tryz.prog 93 #[.pointer (some ⟨b9, 0, none⟩), .pointer (some ⟨b10, 0, none⟩)] w fun e w' =>
      ∃ v', e = .returned (.int .i64 (if s.fuse = 0 then 8 else 0)) ∧ KB w' b10 88 #[v'] ∧ (s.fuse ≠ 0 → PS w' (fun x => w.heap.size ≤ x ∧ x < w'.heap.size) v' (leftP n s)) ∧ KeepP (fun x => x < w.heap.size ∧ x ≠ b10) w w' := by
  have few := hd.ok.few
  have c9 := h9.cell 0
  have e9 : (#[Value.pointer (some ⟨lg, 0, none⟩)] : Array Value)[0]? = some (.pointer (some ⟨lg, 0, none⟩)) := rfl
  rw [e9] at c9
  have hb := h10.lt
  by_cases hf : s.fuse = 0
  · have hl := left_dead hg hd (by omega) hf
    rw [if_pos hf]
    have HF := Lib.hid hf
    clear hf hd hg ht few
    go_enter Tryz.func93, Tryz.ntmps93
    go_wp2_with fail
    refine hl.mono ?_
    rintro e w1 ⟨rfl, b1⟩
    have h1 := h10.below b1 hb
    have c1 : w1.cell? ⟨b10, 0, none⟩ = some v0 := h1.cell 0
    have f1 := h1.free 0
    have KP := (KeepP.of_below (P := fun x => x < w.heap.size ∧ x ≠ b10) b1 fun x hx => hx.1).set ⟨b10, 0, none⟩ (fun h => h.2 rfl) (.slice none 0 0)
    have K2 := h1.put 0 (.slice none 0 0)
    go_wp2_with fail
    go_ret
    exact ⟨.slice none 0 0, rfl, K2, fun h => absurd HF.out h, KP⟩
  · have hl := left_live hg hd hn1 hn ht hf
    rw [if_neg hf]
    generalize leftP n s = ps0 at *
    clear hf hd hg ht few
    go_enter Tryz.func93, Tryz.ntmps93
    go_wp2_with fail
    refine hl.mono ?_
    rintro e w1 ⟨v', rfl, ps, b1⟩
    have h1 := h10.below b1 hb
    have c1 : w1.cell? ⟨b10, 0, none⟩ = some v0 := h1.cell 0
    have f1 := h1.free 0
    obtain ⟨A, c, rfl, _⟩ := ps.form
    have hs : (w1.setCell ⟨b10, 0, none⟩ (.slice A ps0.length c)).heap.size = w1.heap.size := by simp [World.setCell]
    have KP := (KeepP.of_below (P := fun x => x < w.heap.size ∧ x ≠ b10) b1 fun x hx => hx.1).set ⟨b10, 0, none⟩ (fun h => h.2 rfl) (.slice A ps0.length c)
    have K2 := h1.put 0 (.slice A ps0.length c)
    have P2 := ps.keepS (w' := w1.setCell ⟨b10, 0, none⟩ (.slice A ps0.length c)) (S' := fun x => w.heap.size ≤ x ∧ x < (w1.setCell ⟨b10, 0, none⟩ (.slice A ps0.length c)).heap.size) (by rw [hs]; exact Nat.le_refl _)
      (fun b hb' _ => Below.heap_setCell _ ⟨b10, 0, none⟩ _ b (by have := hb'.1; show b ≠ b10; omega)) (fun b hb' => by rw [hs]; exact hb')
    go_wp2_with fail
    go_ret
    exact ⟨_, rfl, K2, fun _ => P2, KP⟩
theorem open2_any {ps : List Pt} (h9 : KB w b9 79 #[.pointer (some ⟨lg, 0, none⟩)]) (h10 : KB w b10 88 #[v0]) (hg : LG w lg p n br) (hgp : ¬ p.has lg) (hd : DS w p s) (h : PS w (Off p w) v0 ps) (hfit : Fit s.safe.length ps) :
    Calls Tryz.prog 95 #[.pointer (some ⟨b9, 0, none⟩), .pointer (some ⟨b10, 0, none⟩)] w fun e w' => e = .returned (.int .i64 (doD ps s).2) ∧ DS w' p (doD ps s).1 ∧ KeepP (Off p w) w w' := by
  have c9 : w.cell? ⟨b9, 0, none⟩ = some (.pointer (some ⟨lg, 0, none⟩)) := h9.cell 0
  have c10 : w.cell? ⟨b10, 0, none⟩ = some v0 := h10.cell 0
  have hw := lwrite_any v0 ps w hg hgp hd h hfit
  obtain ⟨A, c, rfl, _⟩ := h.form
  generalize ps.length = m at *
  go_enter Tryz.func95, Tryz.ntmps95
  go_wp2_with fail
  refine hw.mono ?_
  rintro e w1 ⟨rfl, d1, k1⟩
  go_wp2_with fail
  go_ret
  exact ⟨rfl, d1, k1⟩
theorem open3_any (h9 : KB w b9 79 #[.pointer (some ⟨lg, 0, none⟩)]) (hg : LG w lg p n br) (hgp : ¬ p.has lg) (hd : DS w p s) :
    Calls Tryz.prog 96 #[.pointer (some ⟨b9, 0, none⟩)] w fun e w' => e = .returned (.int .i64 (wipeD 0 0 s).2) ∧ DS w' p (wipeD 0 0 s).1 ∧ KeepP (Off p w) w w' := by
  have c9 : w.cell? ⟨b9, 0, none⟩ = some (.pointer (some ⟨lg, 0, none⟩)) := h9.cell 0
  have hw := wipe_any hg hgp hd 0 0 (Nat.le_refl _) hd.ok.some_
  go_enter Tryz.func96, Tryz.ntmps96
  go_wp2_with fail
  refine hw.mono ?_
  rintro e w1 ⟨rfl, d1, k1⟩
  go_wp2_with fail
  go_ret
  exact ⟨rfl, d1, k1⟩
theorem open4_any (h9 : KB w b9 79 #[.pointer (some ⟨lg, 0, none⟩)]) (h3 : KB w b3 3 #[.int .i64 n]) (hg : LG w lg p n br) (hgp : ¬ p.has lg) (hd : DS w p s) (hn1 : 1 ≤ n) (hn : n < s.safe.length) :
    Calls Tryz.prog 98 #[.pointer (some ⟨b9, 0, none⟩), .pointer (some ⟨b3, 0, none⟩)] w fun e w' => e = .returned (.int .i64 (wipeD 1 n s).2) ∧ DS w' p (wipeD 1 n s).1 ∧ KeepP (Off p w) w w' := by
  have c9 : w.cell? ⟨b9, 0, none⟩ = some (.pointer (some ⟨lg, 0, none⟩)) := h9.cell 0
  have c3 : w.cell? ⟨b3, 0, none⟩ = some (.int .i64 n) := h3.cell 0
  have hw := wipe_any hg hgp hd 1 n hn1 hn
  go_enter Tryz.func98, Tryz.ntmps98
  go_wp2_with fail
  refine hw.mono ?_
  rintro e w1 ⟨rfl, d1, k1⟩
  go_wp2_with fail
  go_ret
  exact ⟨rfl, d1, k1⟩
end
def openFs (b3 b9 b10 : Nat) : List Fn2 :=
  [(93, #[.pointer (some ⟨b9, 0, none⟩), .pointer (some ⟨b10, 0, none⟩)]), (95, #[.pointer (some ⟨b9, 0, none⟩), .pointer (some ⟨b10, 0, none⟩)]),
   (96, #[.pointer (some ⟨b9, 0, none⟩)]), (98, #[.pointer (some ⟨b9, 0, none⟩), .pointer (some ⟨b3, 0, none⟩)])]
theorem openFs_run (b3 b9 b10 : Nat) : ∀ q ∈ openFs b3 b9 b10, Runs q := by
  intro q hq args w
  simp [openFs] at hq
  rcases hq with rfl | rfl | rfl | rfl
  · exact enters_of Tryz.func93 (by kernel_rfl) rfl args w
  · exact enters_of Tryz.func95 (by kernel_rfl) rfl args w
  · exact enters_of Tryz.func96 (by kernel_rfl) rfl args w
  · exact enters_of Tryz.func98 (by kernel_rfl) rfl args w
structure OC (w W : World) (p : DA) (lg n b b3 b9 b10 : Nat) : Prop where
  kf : KB W b 139 ((openFs b3 b9 b10).map fnV).toArray
  k3 : KB W b3 3 #[.int .i64 n]
  k9 : KB W b9 79 #[.pointer (some ⟨lg, 0, none⟩)]
  lg : LG W lg p n false
  tab : Tab W
  kp : KeepP (Off p w) w W
structure OA (w : World) (p : DA) (lg b b3 b9 b10 : Nat) : Prop where
  nb : ¬ p.has b ∧ b ≠ b10 ∧ w.heap.size ≤ b
  n3 : ¬ p.has b3 ∧ b3 ≠ b10 ∧ w.heap.size ≤ b3
  n9 : ¬ p.has b9 ∧ b9 ≠ b10 ∧ w.heap.size ≤ b9
  nl : ¬ p.has lg ∧ lg ≠ b10 ∧ w.heap.size ≤ lg
  nz : ¬ p.has b10 ∧ w.heap.size ≤ b10
  nt : ¬ p.has 1 ∧ 1 < w.heap.size
section
variable {w W W' : World} {p : DA} {lg n b b3 b9 b10 : Nat}
theorem OC.step (h : OC w W p lg n b b3 b9 b10) (a : OA w p lg b b3 b9 b10) (k : KeepP (fun x => Off p W x ∧ x ≠ b10) W W') : OC w W' p lg n b b3 b9 b10 := by
  have hs := h.kp.size
  have ht : Off p W 1 ∧ 1 ≠ b10 := ⟨⟨by have := a.nt.2; omega, a.nt.1⟩, by have := a.nt.2; have := a.nz.2; omega⟩
  exact ⟨h.kf.keepP k ⟨⟨h.kf.lt, a.nb.1⟩, a.nb.2.1⟩, h.k3.keepP k ⟨⟨h.k3.lt, a.n3.1⟩, a.n3.2.1⟩, h.k9.keepP k ⟨⟨h.k9.lt, a.n9.1⟩, a.n9.2.1⟩, h.lg.keepP k ⟨⟨KB.lt h.lg, a.nl.1⟩, a.nl.2.1⟩,
    h.tab.keep k.size (k.block _ ht), h.kp.trans (k.mono fun x hx => ⟨⟨by have := hx.1; omega, hx.2⟩, by have := hx.1; have := a.nz.2; omega⟩)⟩
theorem OC.disk (h : OC w W p lg n b b3 b9 b10) (a : OA w p lg b b3 b9 b10) (k : KeepP (Off p W) W W') : OC w W' p lg n b b3 b9 b10 := h.step a (k.mono fun x hx => hx.1)
end
end
section
open Go.RowKit
theorem openD_dead {n : Nat} {s : Dk} (h : s.fuse = 0) : openD n s = (s, 8) := if_pos h
theorem openD_one {n : Nat} {s : Dk} (h : s.fuse ≠ 0) (h1 : (doD (leftP n s) s).2 ≠ 0) : openD n s = doD (leftP n s) s := by
  unfold openD
  rw [if_neg h, seqD_one, if_neg h1]
theorem openD_two {n : Nat} {s : Dk} (h : s.fuse ≠ 0) (h1 : (doD (leftP n s) s).2 = 0) (h2 : (wipeD 0 0 (doD (leftP n s) s).1).2 ≠ 0) : openD n s = wipeD 0 0 (doD (leftP n s) s).1 := by
  unfold openD
  rw [if_neg h, seqD_one, if_pos h1, seqD_one, if_neg h2]
theorem openD_three {n : Nat} {s : Dk} (h : s.fuse ≠ 0) (h1 : (doD (leftP n s) s).2 = 0) (h2 : (wipeD 0 0 (doD (leftP n s) s).1).2 = 0) (h3 : (wipeD 1 n (wipeD 0 0 (doD (leftP n s) s).1).1).2 ≠ 0) :
    openD n s = wipeD 1 n (wipeD 0 0 (doD (leftP n s) s).1).1 := by
  unfold openD
  rw [if_neg h, seqD_one, if_pos h1, seqD_one, if_pos h2, seqD_one, if_neg h3]
theorem openD_four {n : Nat} {s : Dk} (h : s.fuse ≠ 0) (h1 : (doD (leftP n s) s).2 = 0) (h2 : (wipeD 0 0 (doD (leftP n s) s).1).2 = 0) (h3 : (wipeD 1 n (wipeD 0 0 (doD (leftP n s) s).1).1).2 = 0) :
    openD n s = ((wipeD 1 n (wipeD 0 0 (doD (leftP n s) s).1).1).1, 0) := by
  unfold openD
  rw [if_neg h, seqD_one, if_pos h1, seqD_one, if_pos h2, seqD_one, if_pos h3]
  rfl
structure IO (w W : World) (p : DA) (lg n b b3 b9 b10 : Nat) (s : Dk) (j : Nat) : Prop where
  oc : OC w W p lg n b b3 b9 b10
  i0 : j = 0 → DS W p s ∧ KB W b10 88 #[.slice none 0 0]
  i1 : j = 1 → s.fuse ≠ 0 ∧ DS W p s ∧ ∃ v, KB W b10 88 #[v] ∧ PS W (Off p W) v (leftP n s)
  i2 : j = 2 → s.fuse ≠ 0 ∧ (doD (leftP n s) s).2 = 0 ∧ DS W p (doD (leftP n s) s).1 ∧ ∃ A c, KB W b10 88 #[.slice A (leftP n s).length c]
  i3 : j = 3 → s.fuse ≠ 0 ∧ (doD (leftP n s) s).2 = 0 ∧ (wipeD 0 0 (doD (leftP n s) s).1).2 = 0 ∧ DS W p (wipeD 0 0 (doD (leftP n s) s).1).1 ∧ ∃ A c, KB W b10 88 #[.slice A (leftP n s).length c]
  i4 : j = 4 → (openD n s).2 = 0 ∧ DS W p (openD n s).1 ∧ ∃ A c, KB W b10 88 #[.slice A (leftP n s).length c]
def EO (w : World) (p : DA) (n : Nat) (s : Dk) (x : Int) (W : World) : Prop := x = (openD n s).2 ∧ DS W p (openD n s).1 ∧ KeepP (Off p w) w W
set_option maxHeartbeats 1000000 in
theorem open_steps {w W : World} {p : DA} {lg n b b3 b9 b10 : Nat} {s : Dk} (a : OA w p lg b b3 b9 b10) (hoc : OC w W p lg n b b3 b9 b10) (hd : DS W p s) (h10 : KB W b10 88 #[.slice none 0 0]) (hn1 : 1 ≤ n) (hn : n + 1 ≤ s.safe.length) :
    Calls Tryz.prog 84 #[.slice (some ⟨b, 0, none⟩) 4 4] W fun e W' => ∃ x : Int, e = .returned (.int .i64 x) ∧ (x = 0 → IO w W' p lg n b b3 b9 b10 s 4) ∧ (x ≠ 0 → EO w p n s x W') := by
  refine inOrder_any (openFs b3 b9 b10) b W (fun j W => IO w W p lg n b b3 b9 b10 s j) (EO w p n s) (by simp [openFs]) ⟨hoc, fun _ => ⟨hd, h10⟩, fun h => (by omega), fun h => (by omega), fun h => (by omega), fun h => (by omega)⟩ (openFs_run b3 b9 b10) (fun j W h => h.oc.kf) ?_
  intro j q W hq hI
  have oc := hI.oc
  have hs := oc.kp.size
  match j, hq with
  | 0, hq =>
    obtain rfl : (93, #[.pointer (some ⟨b9, 0, none⟩), .pointer (some ⟨b10, 0, none⟩)]) = q := Option.some.inj hq
    obtain ⟨d, k10⟩ := hI.i0 rfl
    refine (open1_any oc.k9 k10 oc.lg d hn1 hn oc.tab).mono ?_
    rintro e W' ⟨v', rfl, h1, h2, h3⟩
    refine ⟨_, rfl, fun hx => ?_, fun hx => ?_⟩
    · have hf : s.fuse ≠ 0 := fun hf => by rw [if_pos hf] at hx; cases hx
      refine ⟨oc.step a (h3.mono fun x hx => ⟨hx.1.1, hx.2⟩), fun h => (by omega), fun _ => ⟨hf, d.keep fun x hx => h3.block x ⟨d.lt x hx, fun e => a.nz.1 (e ▸ hx)⟩, v', h1, (h2 hf).mono fun x hx => ⟨hx.2, fun h => by have := d.lt x h; omega⟩⟩, fun h => (by omega), fun h => (by omega), fun h => (by omega)⟩
    · have hf : s.fuse = 0 := Classical.byContradiction fun hf => hx (if_neg hf)
      rw [if_pos hf]
      refine ⟨by rw [openD_dead hf], by rw [openD_dead hf]; exact d.keep fun x hx => h3.block x ⟨d.lt x hx, fun e => a.nz.1 (e ▸ hx)⟩, oc.kp.trans (h3.mono fun x hx => ⟨by have := hx.1; omega, by have := hx.1; have := a.nz.2; omega⟩)⟩
  | 1, hq =>
    obtain rfl : (95, #[.pointer (some ⟨b9, 0, none⟩), .pointer (some ⟨b10, 0, none⟩)]) = q := Option.some.inj hq
    obtain ⟨hf, d, v, k10, ps⟩ := hI.i1 rfl
    refine (open2_any oc.k9 k10 oc.lg a.nl.1 d ps (leftP_fit n s)).mono ?_
    rintro e W' ⟨rfl, d1, k1⟩
    refine ⟨_, rfl, fun hx => ?_, fun hx => ?_⟩
    · obtain ⟨A, c, rfl, _⟩ := ps.form
      exact ⟨oc.disk a k1, fun h => (by omega), fun h => (by omega), fun _ => ⟨hf, hx, d1, A, c, k10.keepP k1 ⟨k10.lt, a.nz.1⟩⟩, fun h => (by omega), fun h => (by omega)⟩
    · exact ⟨by rw [openD_one hf hx], by rw [openD_one hf hx]; exact d1, oc.kp.trans (k1.mono fun x hx => ⟨by have := hx.1; omega, hx.2⟩)⟩
  | 2, hq =>
    obtain rfl : (96, #[.pointer (some ⟨b9, 0, none⟩)]) = q := Option.some.inj hq
    obtain ⟨hf, e1, d, A, c, k10⟩ := hI.i2 rfl
    refine (open3_any oc.k9 oc.lg a.nl.1 d).mono ?_
    rintro e W' ⟨rfl, d1, k1⟩
    refine ⟨_, rfl, fun hx => ?_, fun hx => ?_⟩
    · exact ⟨oc.disk a k1, fun h => (by omega), fun h => (by omega), fun h => (by omega), fun _ => ⟨hf, e1, hx, d1, A, c, k10.keepP k1 ⟨k10.lt, a.nz.1⟩⟩, fun h => (by omega)⟩
    · exact ⟨by rw [openD_two hf e1 hx], by rw [openD_two hf e1 hx]; exact d1, oc.kp.trans (k1.mono fun x hx => ⟨by have := hx.1; omega, hx.2⟩)⟩
  | 3, hq =>
    obtain rfl : (98, #[.pointer (some ⟨b9, 0, none⟩), .pointer (some ⟨b3, 0, none⟩)]) = q := Option.some.inj hq
    obtain ⟨hf, e1, e2, d, A, c, k10⟩ := hI.i3 rfl
    refine (open4_any oc.k9 oc.k3 oc.lg a.nl.1 d hn1 (by rw [wipeD_len, doD_len]; omega)).mono ?_
    rintro e W' ⟨rfl, d1, k1⟩
    refine ⟨_, rfl, fun hx => ?_, fun hx => ?_⟩
    · exact ⟨oc.disk a k1, fun h => (by omega), fun h => (by omega), fun h => (by omega), fun h => (by omega), fun _ => ⟨by rw [openD_four hf e1 e2 hx], by rw [openD_four hf e1 e2 hx]; exact d1, A, c, k10.keepP k1 ⟨k10.lt, a.nz.1⟩⟩⟩
    · exact ⟨by rw [openD_three hf e1 e2 hx], by rw [openD_three hf e1 e2 hx]; exact d1, oc.kp.trans (k1.mono fun x hx => ⟨by have := hx.1; omega, hx.2⟩)⟩
  | j + 4, hq => simp [openFs] at hq
theorem read_first {w : World} {p : DA} {s : Dk} (h : DS w p s) : Calls Tryz.prog 25 #[.pointer (some ⟨p.d, 0, none⟩), .int .i64 0] w fun e w' =>
    ∃ (A : Option Addr) (k c : Nat) (x : Int), e = .returned (.tuple #[.slice A k c, .int .i64 x]) ∧ x ≠ 9 ∧ Below w.heap.size w w' := by
  by_cases hf : s.fuse = 0
  · have hr := read_chk h ((0 : Nat) : Int) (by simp [chk, hf])
    rw [show chk s ((0 : Nat) : Int) = 8 from by simp [chk, hf]] at hr
    refine hr.mono ?_
    rintro e w' ⟨rfl, rfl⟩
    exact ⟨none, 0, 0, 8, rfl, by decide, Below.refl _ _⟩
  · refine (read_ok h 0 h.ok.some_ hf).mono ?_
    rintro e w' ⟨v, rfl, how, b⟩
    obtain ⟨A, c, rfl⟩ := own_form how
    exact ⟨A, _, c, 0, rfl, by decide, b⟩
def openW (w2 : World) (p : DA) (n b3 : Nat) : World :=
  (((w2.alloc (.cells (lgRow p n false) 122)).alloc (.cells #[.pointer (some ⟨w2.heap.size, 0, none⟩)] 79)).alloc (.cells #[.slice none 0 0] 88)).alloc (.cells ((openFs b3 (w2.heap.size + 1) (w2.heap.size + 1 + 1)).map fnV).toArray 139)
theorem openW_below (w2 : World) (p : DA) (n b3 : Nat) : Below w2.heap.size w2 (openW w2 p n b3) :=
  ((((Below.refl _ _).alloc (Nat.le_refl _) _).alloc (by simp) _).alloc (by simp; omega) _).alloc (by simp; omega) _
theorem openW_10 (w2 : World) (p : DA) (n b3 : Nat) : KB (openW w2 p n b3) (w2.heap.size + 1 + 1) 88 #[.slice none 0 0] := by
  have := KB.new ((w2.alloc (.cells (lgRow p n false) 122)).alloc (.cells #[.pointer (some ⟨w2.heap.size, 0, none⟩)] 79)) 88 #[.slice none 0 0]
  rw [World.size_alloc, World.size_alloc] at this
  exact this.alloc _
theorem openW_oc {w w2 : World} {p : DA} {n : Nat} (hb : Below w.heap.size w w2) (k3 : KB w2 w.heap.size 3 #[.int .i64 n]) (ht : Tab w) :
    OC w (openW w2 p n w.heap.size) p w2.heap.size n (w2.heap.size + 1 + 1 + 1) w.heap.size (w2.heap.size + 1) (w2.heap.size + 1 + 1) := by
  have B := openW_below w2 p n w.heap.size
  have BW := hb.trans (B.mono hb.size)
  refine ⟨?_, k3.below B k3.lt, ?_, ?_, ht.below BW, KeepP.of_below BW fun x hx => hx.1⟩
  · have := KB.new (((w2.alloc (.cells (lgRow p n false) 122)).alloc (.cells #[.pointer (some ⟨w2.heap.size, 0, none⟩)] 79)).alloc (.cells #[.slice none 0 0] 88)) 139 ((openFs w.heap.size (w2.heap.size + 1) (w2.heap.size + 1 + 1)).map fnV).toArray
    rw [World.size_alloc, World.size_alloc, World.size_alloc] at this
    exact this
  · have := KB.new (w2.alloc (.cells (lgRow p n false) 122)) 79 #[.pointer (some ⟨w2.heap.size, 0, none⟩)]
    rw [World.size_alloc] at this
    exact (this.alloc _).alloc _
  · exact (((KB.new w2 122 (lgRow p n false)).alloc _).alloc _).alloc _
theorem openW_oa {w w2 : World} {p : DA} {s : Dk} (h : DS w p s) (hb : Below w.heap.size w w2) (h3 : w.heap.size < w2.heap.size) (ht : Tab w) (htp : ¬ p.has 1) :
    OA w p w2.heap.size (w2.heap.size + 1 + 1 + 1) w.heap.size (w2.heap.size + 1) (w2.heap.size + 1 + 1) := by
  have hn : ∀ x, w.heap.size ≤ x → ¬ p.has x := fun x hx e => by have := h.lt x e; omega
  exact ⟨⟨hn _ (by omega), by omega, by omega⟩, ⟨hn _ (by omega), by omega, by omega⟩, ⟨hn _ (by omega), by omega, by omega⟩, ⟨hn _ (by omega), by omega, by omega⟩, ⟨hn _ (by omega), by omega⟩, ⟨htp, ht.1⟩⟩
set_option maxHeartbeats 1000000 in
theorem open_go {w : World} {p : DA} {s : Dk} (n : Nat) (h : DS w p s) (hn : 2 ≤ n) (hN : n + 2 ≤ s.safe.length) (ht : Tab w) (htp : ¬ p.has 1) : Calls Tryz.prog 59 #[.pointer (some ⟨p.d, 0, none⟩), .int .i64 n] w fun e w' =>
    DS w' p (openD n s).1 ∧ KeepP (Off p w) w w' ∧ ((openD n s).2 = 0 → ∃ lg, e = .returned (.tuple #[.pointer (some ⟨lg, 0, none⟩), .int .i64 (leftP n s).length, .int .i64 0]) ∧ LG w' lg p n false ∧ w.heap.size ≤ lg) ∧
      ((openD n s).2 ≠ 0 → e = .returned (.tuple #[.pointer none, .int .i64 0, .int .i64 (openD n s).2])) := by
  have B0 := (Below.refl w.heap.size w).alloc (Nat.le_refl _) (.cells #[.int .i64 n] 3)
  have K0 := KB.new w 3 #[.int .i64 n]
  have hr := read_first (h.below B0)
  have few := h.ok.few
  have hsz := fun (W : World) (hW : DS W p s) => (size_any hW).mono (R' := fun e w' => e = .returned (.int .i64 (s.safe.length : Int)) ∧ w' = W) (fun e w' h => ⟨h.1, h.2.symm⟩)
  have HSZ := Lib.hid hsz
  have hlt := h.lt
  have hst := fun (W : World) (lg b b3 b9 b10 : Nat) (a : OA w p lg b b3 b9 b10) (hoc : OC w W p lg n b b3 b9 b10) (hd : DS W p s) (h10 : KB W b10 88 #[.slice none 0 0]) => open_steps a hoc hd h10 (by omega) (by omega)
  have HST := Lib.hid hst
  have hr0 : 1 < w.heap.size := ht.1
  obtain ⟨N, hNN⟩ : ∃ N, N = s.safe.length := ⟨_, rfl⟩
  rw [← hNN] at hsz HSZ
  have D0 : decide ((n : Int) < 2) = false := decide_eq_false (by omega)
  have D0' : decide (n < 2) = false := decide_eq_false (by omega)
  have D1 : decide ((N : Int) - 2 < (n : Int)) = false := decide_eq_false (by omega)
  rw [← hNN] at few hN
  have HNN := Lib.hid hNN
  clear hst hsz hNN
  go_enter Tryz.func59, Tryz.ntmps59
  go_wp2_with fail
  refine hr.mono ?_
  rintro e w1 ⟨A, k, c, x, rfl, hx, b1⟩
  have hx1 : (x == 9) = false := by simpa using hx
  have k1 := K0.below b1 K0.lt
  have c1 : w1.cell? ⟨w.heap.size, 0, none⟩ = some (.int .i64 n) := k1.cell 0
  have B1 := B0.trans (b1.mono B0.size)
  have d1 := h.below B1
  clear hr b1 B0 K0
  go_wp2_with fail
  go_quiet (first | (go_at_call 58; exact Calls.quiet_of_same (HSZ.out _ (d1.drewN _))) | fail)
  have B2 := Below_drawn B1 nq
  have d2 := d1.drewN nq
  have k2 := k1.drewN nq
  clear B1 d1 k1 c1
  generalize w1.drewN nq = w2 at *
  have c2 : w2.cell? ⟨w.heap.size, 0, none⟩ = some (.int .i64 n) := k2.cell 0
  have hoa := openW_oa h B2 k2.lt ht htp
  have hst := HST.out _ _ _ _ _ _ hoa (openW_oc (p := p) B2 k2 ht) (d2.below (openW_below w2 p n w.heap.size)) (openW_10 w2 p n w.heap.size)
  clear HST HSZ HNN k2 d2 B2 hlt
  go_wp2_with fail
  refine hst.mono ?_
  rintro e w3 ⟨y, rfl, h1, h2⟩
  have H1 := Lib.hid h1
  have H2 := Lib.hid h2
  have HO := Lib.hid hoa
  clear h1 h2 hst c2 hoa
  by_cases hy : y = 0
  · subst hy
    have I := H1.out (by trivial)
    obtain ⟨e0, d0, A3, C3, k10⟩ := I.i4 (by trivial)
    have k9 := I.oc.k9
    have klg := I.oc.lg
    have kp := I.oc.kp
    clear H1 H2 I
    have c9 : w3.cell? ⟨w2.heap.size + 1, 0, none⟩ = some (.pointer (some ⟨w2.heap.size, 0, none⟩)) := k9.cell 0
    have c10 : w3.cell? ⟨w2.heap.size + 1 + 1, 0, none⟩ = some (.slice A3 (leftP n s).length C3) := k10.cell 0
    have HNL := HO.out.nl.2.2
    have HE := Lib.hid e0
    clear e0
    go_wp2_with fail
    go_quiet (fail)
    go_wp2_with fail
    go_ret3
    exact ⟨d0.drewN _, kp.drewN _, fun _ => ⟨_, rfl, KB.drewN klg _, HNL⟩, fun h => absurd HE.out h⟩
  · have hy1 : (y != 0) = true := by simpa using hy
    have hy2 : (y == 0) = false := by simpa using hy
    obtain ⟨e0, d0, kp⟩ := H2.out hy
    have HE := Lib.hid e0
    have HY := Lib.hid hy
    clear hy H1 H2 e0
    go_wp2_with fail
    go_ret3
    exact ⟨d0, kp, fun h => absurd (HE.out.trans h) HY.out, fun _ => by rw [← HE.out]; rfl⟩
end
end Go.Proofs.YteddmnoeljakpaaGreatDoor
