/-
  Image, over the loaded program. No condition but what each theorem names.
-/
import Derived.Test.YtmknemaocbbpeaaDkE
import Derived.Test.YtmknemaocbbpeaaCmV
namespace Go.Proofs.Ytmknemaocbbpeaa
open Go.RowKit
set_option maxRecDepth 100000
set_option linter.unusedVariables false

abbrev nilB : Value := .slice none 0 0
/-- The values are rows of the call's own that read as the texts ls. -/
def OW (w : World) (B : Nat) (vs : List Value) (ls : List (List UInt8)) : Prop :=
  vs.length = ls.length ∧ ∀ (i : Nat) (v : Value) (l : List UInt8), vs[i]? = some v → ls[i]? = some l → w.ownsRow B 5 1 v l.length (l.map bv)
section
variable {w w' : World} {B : Nat} {vs us : List Value} {ls ms : List (List UInt8)}
theorem OW.nil (w : World) (B : Nat) : OW w B [] [] := ⟨rfl, fun i v l hv _ => by simp at hv⟩
theorem OW.keep (h : OW w B vs ls) (hk : ∀ b, B ≤ b → b < w.heap.size → w'.heap[b]? = w.heap[b]?) : OW w' B vs ls :=
  ⟨h.1, fun i v l hv hl => own_keep (h.2 i v l hv hl) fun b hb => hk b (own_ge (h.2 i v l hv hl) b hb) (by
    obtain ⟨_, h2⟩ := h.2 i v l hv hl
    rcases h2 with ⟨rfl, _⟩ | ⟨g, c, cur, rfl, _, hg, _⟩
    · simp [Value.ownBlock] at hb
    · simp [Value.ownBlock] at hb; subst hb; exact (Array.getElem?_eq_some_iff.1 hg).1)⟩
theorem OW.append (h : OW w B vs ls) (g : OW w B us ms) : OW w B (vs ++ us) (ls ++ ms) := by
  refine ⟨by rw [List.length_append, List.length_append, h.1, g.1], fun i v l hv hl => ?_⟩
  rcases Nat.lt_or_ge i vs.length with hi | hi
  · rw [List.getElem?_append_left hi] at hv
    rw [List.getElem?_append_left (by rw [← h.1]; exact hi)] at hl
    exact h.2 i v l hv hl
  · rw [List.getElem?_append_right hi] at hv
    rw [List.getElem?_append_right (by rw [← h.1]; exact hi), ← h.1] at hl
    exact g.2 _ v l hv hl
theorem OW.one {v : Value} {l : List UInt8} (h : w.ownsRow B 5 1 v l.length (l.map bv)) : OW w B [v] [l] := by
  refine ⟨rfl, fun i u m hu hm => ?_⟩
  match i, hu, hm with
  | 0, hu, hm => simp at hu hm; subst hu hm; exact h
theorem OW.reads (h : OW w B vs ls) : VS w (fun b => B ≤ b ∧ b < w.heap.size) vs ls := ⟨h.1, fun i v l hv hl => own_BS (h.2 i v l hv hl)⟩
theorem LS_of_kb {g : Nat} {t : TypeId} {S S' : Nat → Prop} (h : KB w g t vs.toArray) (hv : VS w S vs ls) (hS : ∀ b, S b → S' b) (hg : S' g) (hm : vs.length ≤ maxLen) : LS w S' (.slice (some ⟨g, 0, none⟩) ls.length ls.length) ls := by
  refine ⟨_, _, rfl, Nat.le_refl _, by rw [← hv.1]; exact hm, fun h0 => ⟨g, 0, rfl, hg, h.lt, fun j l hj => ?_⟩⟩
  have hjl := (List.getElem?_eq_some_iff.1 hj).1
  have hjv : j < vs.length := by rw [hv.1]; exact hjl
  refine ⟨vs[j], ?_, (hv.2 j vs[j] l (List.getElem?_eq_getElem hjv) hj).mono hS⟩
  rw [Nat.zero_add, h.cell]
  simp [hjv]
end

theorem row_at {vs : List Value} {n k : Nat} (hv : vs.length = k) (h : k < n) : (vs ++ List.replicate (n - k) nilB).toArray[k]? = some nilB := by
  subst hv
  rw [List.getElem?_toArray, List.getElem?_append_right (Nat.le_refl _), Nat.sub_self, List.getElem?_replicate, if_pos (by omega)]
theorem row_set {vs : List Value} {n k : Nat} (hv : vs.length = k) (h : k < n) (x : Value) : (vs ++ List.replicate (n - k) nilB).toArray.setIfInBounds k x = ((vs ++ [x]) ++ List.replicate (n - (k + 1)) nilB).toArray := by
  subst hv
  rw [List.setIfInBounds_toArray, List.set_append_right _ _ (Nat.le_refl _), Nat.sub_self]
  obtain ⟨m, hm⟩ : ∃ m, n - vs.length = m + 1 := ⟨n - vs.length - 1, by omega⟩
  rw [hm, List.replicate_succ, List.set_cons_zero, show n - (vs.length + 1) = m from by omega]
  simp

/-- What Image hands back: a list in new memory, and rows behind it. -/
def Told44 (w : World) (ls : List (List UInt8)) (e : Ending) (w' : World) : Prop :=
  ∃ vs, e = .returned (.slice (some ⟨w.heap.size, 0, none⟩) ls.length ls.length) ∧ KB w' w.heap.size 36 vs.toArray ∧ OW w' (w.heap.size + 1) vs ls ∧ Below w.heap.size w w'
theorem Told44.ls {w w' : World} {vs : List Value} {ls : List (List UInt8)} (h : KB w' w.heap.size 36 vs.toArray) (ho : OW w' (w.heap.size + 1) vs ls) (hm : ls.length ≤ maxLen) :
    LS w' (fun b => w.heap.size ≤ b ∧ b < w'.heap.size) (.slice (some ⟨w.heap.size, 0, none⟩) ls.length ls.length) ls :=
  LS_of_kb h ho.reads (fun b hb => ⟨by omega, hb.2⟩) ⟨Nat.le_refl _, h.lt⟩ (by rw [ho.1]; exact hm)

set_option maxRecDepth 100000 in
set_option maxHeartbeats 1000000 in
/-- Image. -/
theorem image_any {w : World} {p : DA} {s : Dk} (h : DS w p s) : Calls Try.prog 14 #[.pointer (some ⟨p.d, 0, none⟩)] w (Told44 w s.safe) := by
  have hm := made_any h
  obtain ⟨i0, hi, hz0, hz1, hz2⟩ := info_parts info_slice
  have few := h.ok.few
  have hmk := fun w : World => run_make (P := Try.prog) w 43 36 i0 _ Try.underlying43 hi hz0 .i64 .i64 s.safe.length s.safe.length (by omega) (by omega) (by rw [hz2]; omega) (by omega)
  rw [hz1] at hmk
  simp only [Int.toNat_natCast] at hmk
  rw [madeCells_of nilB nilB 1 s.safe.length (by omega) rfl, Nat.mul_one] at hmk
  obtain ⟨C, hC⟩ : ∃ C, C = Array.replicate s.safe.length nilB := ⟨_, rfl⟩
  rw [← hC] at hmk
  have D1 := h.below ((Below.refl w.heap.size w).alloc (Nat.le_refl _) (.cells C 36))
  have B1 := (Below.refl w.heap.size w).alloc (Nat.le_refl _) (.cells C 36)
  have k1 : KB (w.alloc (.cells C 36)) w.heap.size 36 (([] : List Value) ++ List.replicate (s.safe.length - 0) nilB).toArray := by
    rw [List.nil_append, Nat.sub_zero, List.toArray_replicate, ← hC]; exact KB.new _ _ _
  obtain ⟨Z, hZ⟩ : ∃ Z, Z = (z256.map bv).toArray := ⟨_, rfl⟩
  have hz : ∀ w : World, (zeroValue 68).run Try.prog w = .ok (.agg Z) w := by rw [hZ]; exact zero_sec
  have HZ := Lib.hid hZ
  have hlt := h.lt
  have c0 := h.c0
  have d0 := D1.c0
  have hlen := h.ok.len
  have HLEN := Lib.hid hlen
  have hcl := fun (l : List UInt8) (g : Nat) (W : World) (hk : KB W g 68 (l.map bv).toArray) (hl : l.length = 256) => clone2_any _ _ l W (hk.sl hl) (by omega)
  have HCL := Lib.hid hcl
  have HPD : Hid (p.d ≠ w.heap.size) := by show _ ≠ _; have := hlt p.d (.inl rfl); omega
  clear hC hZ hlen hcl
  go_enter Try.func14, Try.ntmps14
  go_wp2_with (go_at_call 23; refine hm.mono ?_; rintro e w' ⟨rfl, rfl⟩)
  clear hmk hm c0 d0 hi hz0 hz1 hz2
  go_loopw [20] (fun q wr => ∃ (k : Nat) (vs : List Value), k ≤ s.safe.length ∧ q = .int .i64 k ∧ vs.length = k ∧ KB wr w.heap.size 36 (vs ++ List.replicate (s.safe.length - k) nilB).toArray ∧ OW wr (w.heap.size + 1) vs (s.safe.take k) ∧ DS wr p s ∧ Below w.heap.size w wr) (fun q _ => s.safe.length - (Go.RowKit.intOf q).toNat)
  case atStart => exact ⟨0, [], Nat.zero_le _, rfl, rfl, k1, OW.nil _ _, D1, B1⟩
  case round =>
    obtain ⟨k, vs, hkl, rfl, hvl, kk, vv, D2, B2⟩ := hrel
    clear k1 D1 B1
    by_cases hlt2 : k < s.safe.length
    · have hr := D2.sf.sec h.ok.len k hlt2
      have hl : Hid (s.safe[k].length = 256) := HLEN.out _ (List.getElem_mem hlt2)
      have HTK : Hid (s.safe.take (k + 1) = s.safe.take k ++ [s.safe[k]]) := by show _ = _; rw [List.take_add_one, List.getElem?_eq_getElem hlt2]; rfl
      generalize s.safe[k] = l at *
      have HVL := Lib.hid hvl
      have hg2 := kk.lt
      have HK : KB (wr.alloc (.cells Z 68)) wr.heap.size 68 (z256.map bv).toArray := by rw [← HZ.out]; exact KB.new _ _ _
      clear hvl
      have KA := kk.alloc (.cells Z 68)
      have VA := vv.keep (w' := wr.alloc (.cells Z 68)) fun b _ hb => Below.heap_alloc _ _ b hb
      have DA2 := D2.below ((Below.refl wr.heap.size wr).alloc (Nat.le_refl _) (.cells Z 68))
      have BA := B2.alloc B2.size (.cells Z 68)
      have hS := B2.size
      have HROW := Lib.hid (row_at (n := s.safe.length) HVL.out hlt2)
      go_wp2_with (first
        | (refine wpList_load_part rfl 68 (.tmp 23) rfl p.b (k * 256) rfl (l.map bv) hr _ Try.underlying68 rfl 256 cells_sec (by rw [List.length_map, hl.out]) ?_)
        | (refine wpList_store_kb rfl 68 (.tmp 5) (.tmp 24) rfl wr.heap.size (l.map bv) rfl rfl 68 _ HK 256 cells_sec (by rw [List.length_map, z256_len]) (by rw [List.length_map, hl.out]) (bytes_one _) ?_; intro w4 k4 g4)
        | (go_at_call 29; refine (HCL.out l _ _ k4 hl.out).mono ?_; rintro e w5 ⟨v5, rfl, how5, b5⟩; have n5 := own_BS how5; obtain ⟨A5, c5, rfl, _, _⟩ := n5.form
           have kk5 := (KA.grown g4 (by simp; omega)).below b5 (by have := g4.size; have := KA.lt; omega); have cc5 := kk5.cell k; have ff5 := kk5.free k; rw [HROW.out] at cc5))
      have hs4 := g4.size
      have hsa : (wr.alloc (.cells Z 68)).heap.size = wr.heap.size + 1 := by simp
      have hs5 := b5.size
      have hs6 : (w5.setCell ⟨w.heap.size, k, none⟩ (.slice A5 l.length c5)).heap.size = w5.heap.size := by simp [World.setCell]
      have kk6 := kk5.put k (.slice A5 l.length c5)
      rw [row_set HVL.out hlt2] at kk6
      have hk6 : ∀ b, b < wr.heap.size → b ≠ w.heap.size → (w5.setCell ⟨w.heap.size, k, none⟩ (.slice A5 l.length c5)).heap[b]? = (wr.alloc (.cells Z 68)).heap[b]? := fun b h1 h2 =>
        (Below.heap_setCell _ ⟨w.heap.size, k, none⟩ _ b h2).trans ((b5.block b (by omega)).trans (g4.block b (by omega) fun e => by injection e with e; omega))
      have V6 : OW (w5.setCell ⟨w.heap.size, k, none⟩ (.slice A5 l.length c5)) (w.heap.size + 1) (vs ++ [.slice A5 l.length c5]) (s.safe.take (k + 1)) := by
        rw [HTK.out]
        have h4 : OW w5 (w.heap.size + 1) vs (s.safe.take k) := vv.keep fun b h1 h2 => (b5.block b (by omega)).trans ((g4.block b (by omega) fun e => by injection e with e; omega).trans (Below.heap_alloc _ _ b h2))
        exact (h4.append (OW.one (own_base how5 (by omega)))).keep fun b h1 h2 => Below.heap_setCell _ ⟨w.heap.size, k, none⟩ _ b (by show b ≠ w.heap.size; omega)
      have D6 : DS (w5.setCell ⟨w.heap.size, k, none⟩ (.slice A5 l.length c5)) p s := DA2.keep fun x hx => by have := hlt x hx; exact hk6 x (by omega) (by omega)
      have B6 : Below w.heap.size w (w5.setCell ⟨w.heap.size, k, none⟩ (.slice A5 l.length c5)) := ((BA.grown g4 (by omega) fun g e => by injection e with e; omega).trans (b5.mono (by omega))).setCell (p := ⟨w.heap.size, k, none⟩) (Nat.le_refl _) _
      go_roundw
      case rel => exact ⟨k + 1, _, by omega, by go_num, by rw [List.length_append, HVL.out]; rfl, kk6, V6, D6, B6⟩
      case measure => simp [Go.RowKit.intOf]; omega
    · obtain rfl : k = s.safe.length := by omega
      go_wp2
      go_ret
      rw [Nat.sub_self, List.replicate_zero, List.append_nil] at kk
      rw [List.take_length] at vv
      exact ⟨vs, rfl, kk, vv, B2⟩
theorem image_nil (w : World) : Calls Try.prog 14 #[.pointer none] w fun e w' => e = .returned (.slice none 0 0) ∧ w = w' := by
  go_enter Try.func14, Try.ntmps14
  go_wp2_with (go_at_call 23; refine (made_nil _).mono ?_; rintro e w' ⟨rfl, rfl⟩)
  go_ret
  exact ⟨rfl, rfl⟩
end Go.Proofs.Ytmknemaocbbpeaa
