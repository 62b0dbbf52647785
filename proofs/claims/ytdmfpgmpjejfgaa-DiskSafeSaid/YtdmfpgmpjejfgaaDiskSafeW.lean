/-
  The law DiskSafe over the loaded program: each sector is, behind a crash, as it was safe, or as it was written last; what is safe is there. No condition.
-/
import Derived.Test.YtdmfpgmpjejfgaaDkL
import Derived.Test.YtdmfpgmpjejfgaaDkP
import Derived.Test.YtdmfpgmpjejfgaaDkO
import Derived.Test.YtdmfpgmpjejfgaaCopy
import Derived.Test.YtdmfpgmpjejfgaaHeld
import Derived.Deep.RegionHeld3
import Derived.Deep.RegionLaw
import Derived.Deep.CutRange
namespace Go.Proofs.Ytdmfpgmpjejfgaa
open Go.RowKit Go.ChangeShapes Go.WideShapes Go.Joins
set_option linter.unusedVariables false

theorem safe_long (n : Nat) (A : Option Addr) (c : Nat) (kv : Value) (w : World) (h : 60 < n) : Calls Try.prog 3 #[.slice A n c, kv] w (Yes w) := by
  go_enter Try.func3, Try.ntmps3
  go_wp2_with (go_at_call 5; refine (live_any _).mono ?_; rintro e wb ⟨rfl, bb⟩)
  go_ret
  exact ⟨rfl, bb⟩

/-- What stands in memory while the acts are done. -/
structure SafeAt (w : World) (p : DA) (g8 : Nat) (wr : World) (v : Value) (s : Dk) (sf la : List UInt8) : Prop where
  ds : DS wr p s
  nine : Nine s sf la
  sv : BS wr (fun b => b < wr.heap.size ∧ ¬ p.has b ∧ b ≠ g8) v sf
  k8 : KB wr g8 5 (la.map bv).toArray
  bl : Below w.heap.size w wr

section
variable {w wr wn : World} {p : DA} {g8 : Nat} {v : Value} {s : Dk} {sf la : List UInt8}
/-- Where nothing but new blocks turns. -/
theorem SafeAt.below (h : SafeAt w p g8 wr v s sf la) (hb : Below wr.heap.size wr wn) : SafeAt w p g8 wn v s sf la :=
  ⟨h.ds.below hb, h.nine, (h.sv.below' hb).mono fun b sb => ⟨Nat.lt_of_lt_of_le sb.1 hb.size, sb.2⟩, h.k8.below hb h.k8.lt, h.bl.trans (hb.mono h.bl.size)⟩
/-- Where the disk alone turns. -/
theorem SafeAt.disk (h : SafeAt w p g8 wr v s sf la) (hp : From p w.heap.size) (h8 : ¬ p.has g8) {s' : Dk} {sf' la' : List UInt8} (hk : KeepP (Off p wr) wr wn) (hd : DS wn p s') (hs : Nine s' sf' la') (el : la' = la) (es : sf' = sf) : SafeAt w p g8 wn v s' sf' la' := by
  subst el es
  exact ⟨hd, hs, (h.sv.keep hk.size fun b sb _ => hk.block b ⟨sb.1, sb.2.1⟩).mono fun b sb => ⟨Nat.lt_of_lt_of_le sb.1 hk.size, sb.2⟩, h.k8.keepP hk ⟨h.k8.lt, h8⟩, h.bl.trans (hk.off h.bl.size hp)⟩
/-- What is marked, as a slice. -/
theorem SafeAt.marks (h : SafeAt w p g8 wr v s sf la) : BS wr (fun b => b = g8) (.slice (some ⟨g8, 0, none⟩) 9 9) la := by
  refine ⟨_, 9, by rw [h.nine.ll], by rw [h.nine.ll]; omega, by unfold maxLen; omega, (fun h => by cases h), fun _ => ⟨g8, 0, rfl, rfl, h.k8.lt, fun j u hu => ?_⟩⟩
  rw [Nat.zero_add, h.k8.cell, List.getElem?_toArray, List.getElem?_map, hu]
  rfl
theorem SafeAt.marks_kept (h : SafeAt w p g8 wr v s sf la) (h8 : ¬ p.has g8) (hk : KeepP (Off p wr) wr wn) : BS wn (fun b => b = g8) (.slice (some ⟨g8, 0, none⟩) 9 9) la :=
  h.marks.keep hk.size fun b sb hb => hk.block b ⟨hb, by subst sb; exact h8⟩
/-- Where all was flushed, and what is safe is copied anew. -/
theorem SafeAt.flushed (h : SafeAt w p g8 wr v s sf la) (hp : From p w.heap.size) (h8 : ¬ p.has g8) (hk : KeepP (Off p wr) wr wn) (hd : DS wn p s.flushed) {wm : World} {v' : Value} (how : wm.ownsRow wn.heap.size 5 1 v' la.length (la.map bv)) (hb : Below wn.heap.size wn wm) :
    SafeAt w p g8 wm v' s.flushed la la :=
  ⟨hd.below hb, h.nine.flush, (own_BS how).mono fun b sb => ⟨sb.2, fun hx => by have := hd.lt b hx; omega, fun e => by have := h.k8.lt; have := hk.size; omega⟩, (h.k8.keepP hk ⟨h.k8.lt, h8⟩).below hb (by have := h.k8.lt; have := hk.size; omega), (h.bl.trans (hk.off h.bl.size hp)).trans (hb.mono (by have := h.bl.size; have := hk.size; omega))⟩
/-- Where i was written, and is marked so. -/
theorem SafeAt.mark (h : SafeAt w p g8 wr v s sf la) (hp : From p w.heap.size) (h8 : ¬ p.has g8) (hw : w.heap.size ≤ g8) {i : Nat} {c : UInt8} (hi : i < 9) (hk : KeepP (Off p wr) wr wn) (hd : DS wn p (s.wrote i (full c)).acted) :
    SafeAt w p g8 (wn.setCell ⟨g8, i, none⟩ (bv c)) v (s.wrote i (full c)).acted sf (la.set i c) := by
  have hs : (wn.setCell ⟨g8, i, none⟩ (bv c)).heap.size = wn.heap.size := by simp [World.setCell]
  have ho : ∀ b, b ≠ g8 → (wn.setCell ⟨g8, i, none⟩ (bv c)).heap[b]? = wn.heap[b]? := fun b hb => Below.heap_setCell _ ⟨g8, i, none⟩ _ b hb
  refine ⟨hd.keep fun x hx => ho x fun e => h8 (e ▸ hx), h.nine.write i hi c, ?_, ?_, ?_⟩
  · exact (h.sv.keep (by rw [hs]; exact hk.size) fun b sb _ => (ho b sb.2.2).trans (hk.block b ⟨sb.1, sb.2.1⟩)).mono fun b sb => ⟨by rw [hs]; exact Nat.lt_of_lt_of_le sb.1 hk.size, sb.2⟩
  · have k := (h.k8.keepP hk ⟨h.k8.lt, h8⟩).put i (bv c)
    rw [List.setIfInBounds_toArray, ← List.map_set] at k
    exact k
  · exact (h.bl.trans (hk.off h.bl.size hp)).setCell (p := ⟨g8, i, none⟩) hw _
end

/-- What stands in memory behind the crash. -/
structure SafeEnd (w : World) (p : DA) (g8 : Nat) (wr : World) (v pv : Value) (s : Dk) (sf la : List UInt8) (ns : List Nat) : Prop where
  ds : DS wr p s
  sv : BS wr (fun b => b < wr.heap.size) v sf
  k8 : KB wr g8 5 (la.map bv).toArray
  cs : CS wr (fun b => b < wr.heap.size) pv (ns.map numV)
  bl : Below w.heap.size w wr
theorem SafeEnd.below {w wr wn : World} {p : DA} {g8 : Nat} {v pv : Value} {s : Dk} {sf la : List UInt8} {ns : List Nat} (h : SafeEnd w p g8 wr v pv s sf la ns) (hb : Below wr.heap.size wr wn) : SafeEnd w p g8 wn v pv s sf la ns :=
  ⟨h.ds.below hb, (h.sv.below' hb).mono fun b sb => Nat.lt_of_lt_of_le sb hb.size, h.k8.below hb h.k8.lt, (h.cs.below' hb).mono fun b sb => Nat.lt_of_lt_of_le sb hb.size, h.bl.trans (hb.mono h.bl.size)⟩
theorem SafeAt.crashed {w wr w3 w4 : World} {p : DA} {g8 : Nat} {v pv : Value} {s : Dk} {sf la : List UInt8} {ks : List Bool} (h : SafeAt w p g8 wr v s sf la) (hp : From p w.heap.size) (h8 : ¬ p.has g8) (b3 : Below wr.heap.size wr w3)
    (cs : CS w3 (fun b => wr.heap.size ≤ b ∧ b < w3.heap.size) pv (s.nums.map numV)) (d4 : DS w4 p (s.crashed ks)) (K4 : KeepP (Off p w3) w3 w4) : SafeEnd w p g8 w4 v pv (s.crashed ks) sf la s.nums := by
  have h3 := h.below b3
  refine ⟨d4, ?_, h3.k8.keepP K4 ⟨h3.k8.lt, h8⟩, ?_, h3.bl.trans (K4.off h3.bl.size hp)⟩
  · exact (h3.sv.keep K4.size fun b sb _ => K4.block b ⟨sb.1, sb.2.1⟩).mono fun b sb => Nat.lt_of_lt_of_le sb.1 K4.size
  · exact (cs.keepP K4 fun b sb hb => ⟨hb, fun hx => by have := h.ds.lt b hx; omega⟩).mono fun b sb => Nat.lt_of_lt_of_le sb.2 K4.size

theorem beq_nat (a b : Nat) : ((a : Int) == (b : Int)) = decide (a = b) := by
  rw [Bool.eq_iff_iff]
  simp
  omega
theorem mem_take_succ {ns : List Nat} {j k : Nat} (hj : j < ns.length) : decide (k ∈ ns.take (j + 1)) = (decide (k ∈ ns.take j) || decide (ns[j] = k)) := by
  rw [List.take_add_one, List.getElem?_eq_getElem hj]
  simp only [Option.toList_some, List.mem_append, List.mem_singleton]
  by_cases h : k ∈ ns.take j
  · simp [h]
  · by_cases e : ns[j] = k
    · subst e; simp
    · have e' : ¬ k = ns[j] := fun x => e x.symm
      simp [h, e, e']

theorem same_yesx {w W : World} {v : Value} {g : Nat} {x : UInt8} (hx : BS w (fun b => b < w.heap.size) v (full x)) (hb : Below w.heap.size w W) (hk : KB W g 5 ((full x).map bv).toArray) :
    Calls Try.prog 15 #[v, .slice (some ⟨g, 0, none⟩) 256 256] W fun e w' => e = .returned (.bool true) ∧ Below W.heap.size W w' := same_to _ _ _ _ _ W (hx.below' hb) (kb_full hk)
theorem same_nox {w W : World} {v : Value} {g : Nat} {x u : UInt8} (hn : ¬ x = u) (hx : BS w (fun b => b < w.heap.size) v (full x)) (hb : Below w.heap.size w W) (hk : KB W g 5 ((full u).map bv).toArray) :
    Calls Try.prog 15 #[v, .slice (some ⟨g, 0, none⟩) 256 256] W fun e w' => e = .returned (.bool false) ∧ Below W.heap.size W w' := by
  have h := same_is _ _ _ _ _ _ W (hx.below' hb) (kb_full hk)
  rw [decide_eq_false fun e => hn (full_inj e)] at h
  exact h

set_option maxRecDepth 100000 in
set_option maxHeartbeats 4000000 in
theorem safe_walk (l : List Ac) (v : Value) (ks : List Bool) (kv : Value) (w : World) (hv : AS w v l) (hk : CS w (fun b => b < w.heap.size) kv (ks.map Value.bool)) (hl : l.length ≤ 60) :
    Calls Try.prog 3 #[v, kv] w (Yes w) := by
  obtain ⟨A, c, rfl, hlc, hcm, _⟩ := id hv
  obtain ⟨i0, hi, hz0, hz1, hz2⟩ := info_parts info_byte
  have hmk := fun w : World => run_make (P := Try.prog) w 30 5 i0 _ Try.underlying30 hi hz0 .i64 .i64 9 9 (by omega) (by omega) (by rw [hz2]; omega) (by omega)
  rw [hz1] at hmk
  have e9 : (9 : Int).toNat = 9 := rfl
  rw [e9, madeCells_of (.int .u8 0) (bv 0) 1 9 (by omega) rfl, Nat.mul_one] at hmk
  obtain ⟨C, hC⟩ : ∃ C, C = Array.replicate 9 (bv 0) := ⟨_, rfl⟩
  rw [← hC] at hmk
  have hkb : ∀ W : World, KB (W.alloc (.cells C 5)) W.heap.size 5 (((List.replicate 9 (0 : UInt8)).map bv).toArray) := fun W => by
    rw [List.map_replicate, List.toArray_replicate, ← hC]; exact KB.new _ _ _
  have HKB := Lib.hid hkb
  clear hC hi hz0 hz1 hz2 e9 hkb hlc hcm
  have hl2 : decide ((60 : Int) < (l.length : Int)) = false := by simp; omega
  go_enter Try.func3, Try.ntmps3
  go_wp2_with fail
  refine (new_made 9 w (by omega) (by omega)).mono ?_
  rintro e w1 ⟨p, rfl, d1, fp, B1⟩
  have hlt1 := d1.lt
  go_wp2_with (go_at_call 7; refine (num8_any 0 _).mono ?_; rintro e w' ⟨rfl, rfl⟩)
  go_upto_region 6 with fail
  go_cut [7, 8] from 28 to 29 (fun u v wc => ∃ g7 g8, u = .slice (some ⟨g7, 0, none⟩) 9 9 ∧ v = .slice (some ⟨g8, 0, none⟩) 9 9 ∧ w1.heap.size ≤ g7 ∧ w1.heap.size ≤ g8 ∧ g7 ≠ g8 ∧ KB wc g7 5 ((List.replicate 9 (0 : UInt8)).map bv).toArray ∧ KB wc g8 5 ((List.replicate 9 (0 : UInt8)).map bv).toArray ∧ Below w1.heap.size w1 wc)
  case first =>
    go_region
    · go_wp2_with fail
      go_meet
      have k2 := ((HKB.out (w1.alloc (.cells C 5))).drewN 1)
      rw [World.size_alloc] at k2
      exact ⟨w1.heap.size, w1.heap.size + 1, rfl, rfl, Nat.le_refl _, by omega, by omega, ((HKB.out w1).alloc _).drewN 1, k2, Below_drawn (((Below.refl _ _).alloc (Nat.le_refl _) _).alloc (by simp) _) 1⟩
    · go_wp2_with fail
      go_meet
      have k2 := ((HKB.out (w1.alloc (.cells C 5))).drewN 1)
      rw [World.size_alloc] at k2
      exact ⟨w1.heap.size + 1, w1.heap.size, rfl, rfl, by omega, Nat.le_refl _, by omega, k2, ((HKB.out w1).alloc _).drewN 1, Below_drawn (((Below.refl _ _).alloc (Nat.le_refl _) _).alloc (by simp) _) 1⟩
  case rest =>
    obtain ⟨g7, g8, rfl, rfl, h7, h8, h78, k7, k8, b2⟩ := hcut
    obtain ⟨w2, rfl⟩ : ∃ w2, w2 = wc := ⟨_, rfl⟩
    have d2 := d1.below b2
    have B2 := B1.trans (b2.mono B1.size)
    have hg8 : ¬ p.has g8 := fun h => by have := hlt1 _ h; omega
    have hg7 : ¬ p.has g7 := fun h => by have := hlt1 _ h; omega
    have sv2 : BS w2 (fun b => b < w2.heap.size ∧ ¬ p.has b ∧ b ≠ g8) (.slice (some ⟨g7, 0, none⟩) 9 9) (List.replicate 9 0) := by
      refine ⟨_, 9, by rw [List.length_replicate], by rw [List.length_replicate]; omega, by unfold maxLen; omega, (fun h => by cases h), fun _ => ⟨g7, 0, rfl, ⟨k7.lt, hg7, h78⟩, k7.lt, fun j u hu => ?_⟩⟩
      rw [Nat.zero_add, k7.cell, List.getElem?_toArray, List.getElem?_map, hu]
      rfl
    have S2 : SafeAt w p g8 w2 (.slice (some ⟨g7, 0, none⟩) 9 9) (blank 9) (List.replicate 9 0) (List.replicate 9 0) := ⟨d2, nine_zero, sv2, k8, B2⟩
    have hwl : w.heap.size ≤ g8 := by have := B1.size; omega
    clear d1 d2 B1 B2 b2 sv2 k7 k8 h7 h8 hmk HKB hlt1
    go_wp2_with fail
    go_loopw [7, 9] (fun v q wr => ∃ (k : Nat) (s : Dk) (sf la : List UInt8), k ≤ l.length ∧ q = .int .i64 k ∧ SafeAt w p g8 wr v s sf la) (fun _ q _ => l.length - (Go.RowKit.intOf q).toNat)
    case atStart => exact ⟨0, _, _, _, Nat.zero_le _, rfl, S2⟩
    case round =>
      obtain ⟨k, s, sf, la, hkl, rfl, hS⟩ := hrel
      clear S2
      by_cases hlt : k < l.length
      · obtain ⟨A7, c7, ev, hl7, hc7, _⟩ := hS.sv.form
        subst ev
        obtain ⟨⟨kd, t, c0, sh, kp⟩, ha⟩ : ∃ a, l[k]? = some a := ⟨_, List.getElem?_eq_getElem hlt⟩
        obtain ⟨A', c', e', _, _, hx⟩ := hv.below hS.bl
        injection e' with e1 _ e3
        subst e1 e3
        obtain ⟨b, o, rfl, hbl, hx⟩ := hx (by omega)
        obtain ⟨⟨⟨Ak, nk, ck, ek⟩, hk1, hk2, ht1, ht2⟩, hr⟩ := hx k _ ha
        dsimp only at ek hk1 hk2 ht1 ht2
        subst ek
        have HA : KB (wr.alloc (.cells #[.int .i64 0, .int .i64 0, .int .u8 0, .bool false, .slice none 0 0] 32)) wr.heap.size 32 [.int .i64 0, .int .i64 0, .int .u8 0, .bool false, .slice none 0 0].toArray := KB.new _ _ _
        have hS1 := hS.below ((Below.refl wr.heap.size wr).alloc (Nat.le_refl _) (.cells #[.int .i64 0, .int .i64 0, .int .u8 0, .bool false, .slice none 0 0] 32))
        have HX := Lib.hid hx
        clear hx ha
        go_wp2_with (first
          | (refine wpList_load_part rfl 32 (.tmp 38) rfl b (o + k * 5) rfl (acRow ⟨kd, t, c0, sh, .slice Ak nk ck⟩) hr _ Try.underlying32 rfl 5 (by kernel_rfl) rfl ?_)
          | (refine wpList_store_kb rfl 32 (.tmp 10) (.tmp 39) rfl wr.heap.size (acRow ⟨kd, t, c0, sh, .slice Ak nk ck⟩) rfl rfl 32 _ HA 5 (by kernel_rfl) rfl rfl (by simp [acRow, bv, Value.oneCell']) ?_; intro w4 ka g4))
        have b4 : Below wr.heap.size wr w4 := ((Below.refl wr.heap.size wr).alloc (Nat.le_refl _) (.cells #[.int .i64 0, .int .i64 0, .int .u8 0, .bool false, .slice none 0 0] 32)).grown g4 (by simp) (fun g e => by injection e with e; omega)
        have hS4 := hS.below b4
        have hga : ¬ p.has wr.heap.size := fun h => by have := hS.ds.lt _ h; omega
        have hg8a : wr.heap.size ≠ g8 := by have := hS.k8.lt; omega
        have hwr := hS.bl.size
        have a0 : w4.cell? ⟨wr.heap.size, 0, none⟩ = some (.int .i64 kd) := ka.cell 0
        have a1 : w4.cell? ⟨wr.heap.size, 1, none⟩ = some (.int .i64 t) := ka.cell 1
        have a2 : w4.cell? ⟨wr.heap.size, 2, none⟩ = some (.int .u8 (c0.toNat : Int)) := ka.cell 2
        clear HA hS1 hS hr hbl b4 g4
        by_cases hk0 : kd = 0
        · subst hk0
          clear hk1 hk2
          by_cases hin : 0 ≤ t ∧ t < 9
          · obtain ⟨i, rfl⟩ := Int.eq_ofNat_of_zero_le hin.1
            have hi9 : i < 9 := by omega
            clear hin ht1 ht2
            go_region_held3 (fun w' => w'.cell? ⟨wr.heap.size, 0, none⟩ = some (.int .i64 0) ∧ w'.cell? ⟨wr.heap.size, 1, none⟩ = some (.int .i64 (i : Int)) ∧ w'.cell? ⟨wr.heap.size, 2, none⟩ = some (.int .u8 (c0.toNat : Int)))
              (first | go_keep | exact ⟨ka.cell 0, ka.cell 1, ka.cell 2⟩ | exact ka.cell 0 | exact ka.cell 1 | exact ka.cell 2)
              (first
                | (go_at_call 9; refine (full_any c0 _).mono ?_; rintro e w5 ⟨rfl, k5, b5⟩; replace ka := (ka.drewN 1).below b5 (ka.drewN 1).lt; have hS5 := (hS4.below (Below_drawn (Below.refl _ _) 1)).below b5)
                | (go_at_call 8; refine (write_ok hS5.ds i (by rw [hS5.nine.len]; exact hi9) hS5.nine.live _ _ _ (kb_full k5) (full_len c0)).mono ?_; rintro e w6 ⟨rfl, d6, K6⟩; replace ka := ka.keepP K6 ⟨ka.lt, hga⟩)
                | (go_at_call 7; refine (num8_any 0 _).mono ?_; rintro e w' ⟨rfl, rfl⟩))
            have hS7 := hS5.mark fp hg8 hwl hi9 K6 d6
            have k86 := hS5.k8.keepP K6 ⟨hS5.k8.lt, hg8⟩
            have c86 := k86.cell i
            have f86 := k86.free i
            rw [List.getElem?_toArray, List.getElem?_map, List.getElem?_eq_getElem (by rw [hS5.nine.ll]; exact hi9)] at c86
            have b0 : w6.cell? ⟨wr.heap.size, 0, none⟩ = some (.int .i64 0) := ka.cell 0
            have b1 : w6.cell? ⟨wr.heap.size, 1, none⟩ = some (.int .i64 (i : Int)) := ka.cell 1
            have b2 : w6.cell? ⟨wr.heap.size, 2, none⟩ = some (.int .u8 (c0.toNat : Int)) := ka.cell 2
            generalize la[i]'_ = x86 at c86
            have n9 : decide ((9 : Int) ≤ (i : Int)) = false := by simp; omega
            have n0 : (i : Int) < 9 := by omega
            clear a0 a1 a2 hS4 k5 b5 hS5 d6 K6 k86
            go_wp2
            go_roundw
            case rel => exact ⟨k + 1, _, _, _, by omega, by go_num, hS7⟩
            case measure => simp [Go.RowKit.intOf]; omega
          · have hchk : chk s t = 5 := by
              unfold chk
              rw [if_neg hS4.nine.live, if_pos (by rw [hS4.nine.len]; omega)]
            have hwc := fun (W : World) (d : DS W p s) (v : Value) => write_chk d t (by rw [hchk]; omega) v
            rw [hchk] at hwc
            have HW := Lib.hid hwc
            clear hwc hchk hin
            go_region_held3 (fun w' => w'.cell? ⟨wr.heap.size, 0, none⟩ = some (.int .i64 0) ∧ w'.cell? ⟨wr.heap.size, 1, none⟩ = some (.int .i64 t) ∧ w'.cell? ⟨wr.heap.size, 2, none⟩ = some (.int .u8 (c0.toNat : Int)))
              (first | go_keep | exact ⟨ka.cell 0, ka.cell 1, ka.cell 2⟩ | exact ka.cell 0 | exact ka.cell 1 | exact ka.cell 2)
              (first
                | (go_at_call 9; refine (full_any c0 _).mono ?_; rintro e w5 ⟨rfl, k5, b5⟩; replace ka := (ka.drewN 1).below b5 (ka.drewN 1).lt; have hS5 := (hS4.below (Below_drawn (Below.refl _ _) 1)).below b5)
                | (go_at_call 8; refine (HW.out _ hS5.ds _).mono ?_; rintro e w6 ⟨rfl, rfl⟩)
                | (go_at_call 7; refine (num8_any 5 _).mono ?_; rintro e w' ⟨rfl, rfl⟩))
            have b0 : w5.cell? ⟨wr.heap.size, 0, none⟩ = some (.int .i64 0) := ka.cell 0
            clear a0 a1 a2 hS4 k5 b5 HW
            go_wp2
            go_roundw
            case rel => exact ⟨k + 1, _, _, _, by omega, by go_num, hS5⟩
            case measure => simp [Go.RowKit.intOf]; omega
        · have hkd : decide (kd = 0) = false := decide_eq_false hk0
          go_quiet (fail)
          have hS5 := hS4.below (Below_drawn (Below.refl _ _) nq)
          have ka5 := ka.drewN nq
          have b0 : (w4.drewN nq).cell? ⟨wr.heap.size, 0, none⟩ = some (.int .i64 kd) := ka5.cell 0
          clear ka a0 a1 a2 hS4 ka5
          generalize w4.drewN nq = w5 at *
          by_cases hk1' : kd = 1
          · subst hk1'
            go_wp2_with (first
              | (go_at_call 10; refine (flush_ok hS5.ds hS5.nine.live).mono ?_; rintro e w6 ⟨rfl, d6, K6⟩)
              | (go_at_call 7; refine (num8_any 0 _).mono ?_; rintro e w' ⟨rfl, rfl⟩)
              | (go_at_call 11; refine (copy_any _ _ la w6 (hS5.marks_kept hg8 K6) (by rw [hS5.nine.ll]; omega)).mono ?_; rintro e w7 ⟨v7, rfl, how7, b7⟩))
            have hS7 := hS5.flushed fp hg8 K6 d6 how7 b7
            go_roundw
            case rel => exact ⟨k + 1, _, _, _, by omega, by go_num, hS7⟩
            case measure => simp [Go.RowKit.intOf]; omega
          · have hkd1 : decide (kd = 1) = false := decide_eq_false hk1'
            go_wp2
            go_roundw
            case rel => exact ⟨k + 1, _, _, _, by omega, by go_num, hS5⟩
            case measure => simp [Go.RowKit.intOf]; omega
      · obtain rfl : k = l.length := by omega
        clear hv hlt hkl
        have hnine := hS.nine
        have hleft : ∀ i, i < 9 → ∃ x a b, (s.crashed ks).now i = full x ∧ sf[i]? = some a ∧ la[i]? = some b ∧ (x = a ∨ (decide (i ∈ s.nums) = true ∧ x = b)) ∧ (decide (i ∈ s.nums) = false → a = b) := fun i hi => by
          obtain ⟨x, a, b, h⟩ := hnine.left ks i hi
          exact ⟨x, a, b, h.now, h.a_, h.b_, h.way, h.no⟩
        have hlen9 := hnine.len
        have hls := hnine.ls
        have hll := hnine.ll
        go_wp2_with fail
        refine (pending_cells hS.ds).mono ?_
        rintro e w3 ⟨A3, c3, rfl, hc3, hm3, cs3, b3⟩
        have hk3 := hk.below' ((hS.below b3).bl)
        go_wp2_with fail
        refine (crash_any (hS.below b3).ds _ kv ks hk3 (fun b sb hx => by have := fp b hx; omega)).mono ?_
        rintro e w4 ⟨rfl, d4, K4⟩
        have hE := hS.crashed fp hg8 b3 cs3 d4 K4
        have hsl : (s.crashed ks).safe.length = 9 := by rw [crashed_len, hlen9]
        have hsf := crashed_fuse s ks
        have hsn := crashed_nums s ks
        obtain ⟨A7, c7, ev, hl7, hc7, _⟩ := hE.sv.form
        subst ev
        rw [hls] at hE hl7 ⊢
        have HLEFT := Lib.hid hleft
        have HSN := Lib.hid hsn
        have HLS := Lib.hid hls
        have HLL := Lib.hid hll
        have HSL := Lib.hid hsl
        have HSF := Lib.hid hsf
        clear hS d4 K4 cs3 b3 hk hk3 hnine hlen9 hls hll hleft hsn hsl hsf
        generalize s.nums = ns at *
        generalize s.crashed ks = s' at *
        go_wp2_with fail
        go_loopw [12] (fun q wr => ∃ k : Nat, k ≤ 9 ∧ q = .int .i64 k ∧ SafeEnd w p g8 wr (.slice A7 9 c7) (.slice A3 ns.length c3) s' sf la ns) (fun q _ => 9 - (Go.RowKit.intOf q).toNat)
        case atStart => exact ⟨0, by omega, rfl, hE⟩
        case round =>
          obtain ⟨k, hk9, rfl, hS⟩ := hrel
          clear hE
          by_cases hlt : k < 9
          · obtain ⟨x, ba, bb, hnow, hsa, hlb, hway, hno⟩ := HLEFT.out k hlt
            have hrd := read_ok hS.ds k (by rw [HSL.out]; exact hlt) HSF.out
            rw [hnow] at hrd
            clear hnow
            have n9 : (k : Int) < 9 := by omega
            go_wp2_with fail
            refine hrd.mono ?_
            rintro e w5 ⟨v5, rfl, how5, b5⟩
            have hS5 := hS.below b5
            have x5 := (own_BS how5).mono (S' := fun b => b < w5.heap.size) fun b sb => sb.2
            obtain ⟨wt, hwt⟩ : ∃ wt, wt = decide (k ∈ ns) := ⟨_, rfl⟩
            rw [← hwt] at hway hno
            have HWAY := Lib.hid hway
            have HNO := Lib.hid hno
            have HWT := Lib.hid hwt
            have HSA := Lib.hid hsa
            have HLB := Lib.hid hlb
            have hn63 : ns.length ≤ 9223372036854775807 := by unfold maxLen at hm3; omega
            clear hS hrd b5 how5 hway hno hwt hsa hlb
            go_wp2_with fail
            go_loop [15, 16] (fun a q => ∃ j : Nat, j ≤ ns.length ∧ q = .int .i64 j ∧ a = .bool (decide (k ∈ ns.take j))) (fun _ q => ns.length - (Go.RowKit.intOf q).toNat)
            case atStart => exact ⟨0, Nat.zero_le _, rfl, rfl⟩
            case round =>
              obtain ⟨j, hj, rfl, rfl⟩ := hrel
              by_cases hjl : j < ns.length
              · obtain ⟨bp, op, rfl, _, _, hpc⟩ := hS5.cs.at_ (by rw [List.length_map]; omega)
                have pc := hpc j (numV ns[j]) (by simp [hjl])
                unfold numV at pc
                have HM := Lib.hid (mem_take_succ (k := k) hjl)
                clear hpc
                generalize ns[j] = nj at *
                generalize decide (k ∈ ns.take j) = wj at *
                cases wj with
                | true =>
                  go_wp2
                  go_round
                  case rel => exact ⟨j + 1, by omega, by go_num, by rw [HM.out]; rfl⟩
                  case measure => simp [Go.RowKit.intOf]; omega
                | false =>
                  go_wp2
                  go_round
                  case rel => exact ⟨j + 1, by omega, by go_num, by rw [HM.out, Bool.false_or, ← beq_nat]⟩
                  case measure => simp [Go.RowKit.intOf]; omega
              · obtain rfl : j = ns.length := by omega
                rw [List.take_length, ← HWT.out]
                clear hj hjl
                obtain ⟨b7, o7, rfl, _, hb7, h7c⟩ := hS5.sv.at_ (by rw [HLS.out]; omega)
                have s0 := h7c k _ HSA.out
                have g0 : w5.cell? ⟨g8, k, none⟩ = some (.int .u8 (bb.toNat : Int)) := by
                  rw [hS5.k8.cell, List.getElem?_toArray, List.getElem?_map, HLB.out]; rfl
                have hg8l := hS5.k8.lt
                have HX := Lib.hid x5
                clear h7c HSA HLB
                go_upto_region 28 with fail
                go_cut [150] from 109 to 150 (fun q wc => q = .bool false ∧ Below w5.heap.size w5 wc)
                case first =>
                  rename_i J K' hJ hK'
                  clear hl hl2 HLS HLL hc3 HSN HSL HSF HLEFT hk9 hlt x5 HWT hn63 hS5 hm3 hl7 hc7 h78 hg8 hg7 hwl fp
                  revert J K'
                  go_light
                  intro J K' hJ hK'
                  have HFULL := Lib.hid full_any
                  have B := Below_drawn (Below.refl w5.heap.size w5) 1
                  cases wt with
                  | false =>
                    obtain rfl := HNO.out rfl
                    have hxa : x = ba := HWAY.out.elim id fun e => by cases e.1
                    subst hxa
                    clear HWAY HNO
                    refine wp_region_held_drew (S := fun w' => w'.cell? ⟨b7, o7 + k, none⟩ = some (.int .u8 (x.toNat : Int)) ∧ w'.cell? ⟨g8, k, none⟩ = some (.int .u8 (x.toNat : Int))) (by kernel_rfl) ⟨s0, g0⟩ (fun hHeld => ?_)
                    refine held_yes (o := ⟨some 109, _, _, _, _, _⟩) (v := ?_) 0 rfl (by kernel_rfl) (by kernel_rfl) (by kernel_rfl) (fun _ _ _ h => h) (by rfl) hHeld (fun w hSw => ?_) ?_
                    rotate_left
                    · (try dsimp only at hSw)
                      go_simp
                      with_reducible rfl
                    go_frame
                    refine held_one (o := ⟨some 110, _, _, _, _, _⟩) 1 (by kernel_rfl) rfl (by rfl) (fun K hK => ?_)
                    go_simp
                    go_at_call 7
                    refine (num8_any 0 _).mono ?_
                    rintro e w' ⟨rfl, rfl⟩
                    go_wp2_with fail
                    refine hK.out _ _ ?_ (fun hH2 => ?_)
                    · first | exact hHeld | exact ⟨(B.cell (p := ⟨b7, o7 + k, none⟩) hb7).trans s0, (B.cell (p := ⟨g8, k, none⟩) hg8l).trans g0⟩
                    clear hHeld hK K
                    have hHeld := hH2
                    clear hH2
                    try go_frame
                    refine held_yes (o := ⟨some 111, _, _, _, _, _⟩) (v := ?_) 2 rfl (by kernel_rfl) (by kernel_rfl) (by kernel_rfl) (fun _ _ _ h => h) (by rfl) hHeld (fun w hSw => ?_) ?_
                    rotate_left
                    · (try dsimp only at hSw)
                      go_simp
                      with_reducible rfl
                    go_frame
                    refine held_yes (o := ⟨some 112, _, _, _, _, _⟩) (v := ?_) 3 rfl (by kernel_rfl) (by kernel_rfl) (by kernel_rfl) (fun _ _ _ h => h) (by rfl) hHeld (fun w hSw => ?_) ?_
                    rotate_left
                    · (try dsimp only at hSw)
                      go_simp
                      with_reducible rfl
                    go_frame
                    refine held_yes (o := ⟨some 113, _, _, _, _, _⟩) (v := ?_) 4 rfl (by kernel_rfl) (by kernel_rfl) (by kernel_rfl) (fun _ _ _ h => h) (by rfl) hHeld (fun w hSw => ?_) ?_
                    rotate_left
                    · (try dsimp only at hSw)
                      go_simp
                      with_reducible rfl
                    go_frame
                    refine held_yes (o := ⟨some 114, _, _, _, _, _⟩) (v := ?_) 5 rfl (by kernel_rfl) (by kernel_rfl) (by kernel_rfl) (fun _ _ _ h => h) (by rfl) hHeld (fun w hSw => ?_) ?_
                    rotate_left
                    · (try dsimp only at hSw)
                      go_simp
                      with_reducible rfl
                    go_frame
                    refine held_yes (o := ⟨some 115, _, _, _, _, _⟩) (v := ?_) 6 rfl (by kernel_rfl) (by kernel_rfl) (by kernel_rfl) (fun _ _ _ h => h) (by rfl) hHeld (fun w hSw => ?_) ?_
                    rotate_left
                    · (try dsimp only at hSw)
                      go_simp
                      with_reducible rfl
                    go_frame
                    refine held_yes (o := ⟨some 116, _, _, _, _, _⟩) (v := ?_) 7 rfl (by kernel_rfl) (by kernel_rfl) (by kernel_rfl) (fun _ _ _ h => h) (by rfl) hHeld (fun w hSw => ?_) ?_
                    rotate_left
                    · (try dsimp only at hSw)
                      go_simp
                      with_reducible rfl
                    go_frame
                    refine held_yes (o := ⟨some 117, _, _, _, _, _⟩) (v := ?_) 8 rfl (by kernel_rfl) (by kernel_rfl) (by kernel_rfl) (fun _ _ _ h => h) (by rfl) hHeld (fun w hSw => ?_) ?_
                    rotate_left
                    · (try dsimp only at hSw)
                      go_simp
                      with_reducible rfl
                    go_frame
                    refine held_one (o := ⟨some 118, _, _, _, _, _⟩) 9 (by kernel_rfl) rfl (by rfl) (fun K hK => ?_)
                    go_simp
                    go_at_call 9
                    refine (HFULL.out x _).mono ?_
                    rintro e wF1 ⟨rfl, kF, bF⟩
                    replace B := B.trans (bF.mono B.size)
                    clear bF
                    go_wp2_with fail
                    refine hK.out _ _ ?_ (fun hH2 => ?_)
                    · first | exact hHeld | exact ⟨(B.cell (p := ⟨b7, o7 + k, none⟩) hb7).trans s0, (B.cell (p := ⟨g8, k, none⟩) hg8l).trans g0⟩
                    clear hHeld hK K
                    have hHeld := hH2
                    clear hH2
                    try go_frame
                    refine held_one (o := ⟨some 119, _, _, _, _, _⟩) 10 (by kernel_rfl) rfl (by rfl) (fun K hK => ?_)
                    go_simp
                    go_at_call 15
                    refine (same_yesx HX.out B kF).mono ?_
                    rintro e wS1 ⟨rfl, bS⟩
                    replace B := B.trans (bS.mono B.size)
                    clear bS kF
                    go_wp2_with fail
                    refine hK.out _ _ ?_ (fun hH2 => ?_)
                    · first | exact hHeld | exact ⟨(B.cell (p := ⟨b7, o7 + k, none⟩) hb7).trans s0, (B.cell (p := ⟨g8, k, none⟩) hg8l).trans g0⟩
                    clear hHeld hK K
                    have hHeld := hH2
                    clear hH2
                    try go_frame
                    refine held_yes (o := ⟨some 120, _, _, _, _, _⟩) (v := ?_) 11 rfl (by kernel_rfl) (by kernel_rfl) (by kernel_rfl) (fun _ _ _ h => h) (by rfl) hHeld (fun w hSw => ?_) ?_
                    rotate_left
                    · (try dsimp only at hSw)
                      go_simp
                      with_reducible rfl
                    go_frame
                    refine held_yes (o := ⟨some 121, _, _, _, _, _⟩) (v := ?_) 12 rfl (by kernel_rfl) (by kernel_rfl) (by kernel_rfl) (fun _ _ _ h => h) (by rfl) hHeld (fun w hSw => ?_) ?_
                    rotate_left
                    · (try dsimp only at hSw)
                      go_simp
                      with_reducible rfl
                    go_frame
                    refine held_no (o := ⟨some 122, _, _, _, _, _⟩) 13 rfl (by kernel_rfl) (by kernel_rfl) (by kernel_rfl) (fun _ _ _ h => h) (by rfl) hHeld ?_
                    go_frame
                    refine held_no (o := ⟨some 123, _, _, _, _, _⟩) 14 rfl (by kernel_rfl) (by kernel_rfl) (by kernel_rfl) (fun _ _ _ h => h) (by rfl) hHeld ?_
                    go_frame
                    refine held_no (o := ⟨some 124, _, _, _, _, _⟩) 15 rfl (by kernel_rfl) (by kernel_rfl) (by kernel_rfl) (fun _ _ _ h => h) (by rfl) hHeld ?_
                    go_frame
                    refine held_no (o := ⟨some 125, _, _, _, _, _⟩) 16 rfl (by kernel_rfl) (by kernel_rfl) (by kernel_rfl) (fun _ _ _ h => h) (by rfl) hHeld ?_
                    go_frame
                    refine held_no (o := ⟨some 126, _, _, _, _, _⟩) 17 rfl (by kernel_rfl) (by kernel_rfl) (by kernel_rfl) (fun _ _ _ h => h) (by rfl) hHeld ?_
                    go_frame
                    refine held_no (o := ⟨some 127, _, _, _, _, _⟩) 18 rfl (by kernel_rfl) (by kernel_rfl) (by kernel_rfl) (fun _ _ _ h => h) (by rfl) hHeld ?_
                    go_frame
                    refine held_no (o := ⟨some 128, _, _, _, _, _⟩) 19 rfl (by kernel_rfl) (by kernel_rfl) (by kernel_rfl) (fun _ _ _ h => h) (by rfl) hHeld ?_
                    go_frame
                    refine held_no (o := ⟨some 129, _, _, _, _, _⟩) 20 rfl (by kernel_rfl) (by kernel_rfl) (by kernel_rfl) (fun _ _ _ h => h) (by rfl) hHeld ?_
                    go_frame
                    refine held_no (o := ⟨some 130, _, _, _, _, _⟩) 21 rfl (by kernel_rfl) (by kernel_rfl) (by kernel_rfl) (fun _ _ _ h => h) (by rfl) hHeld ?_
                    go_frame
                    refine held_no (o := ⟨some 131, _, _, _, _, _⟩) 22 rfl (by kernel_rfl) (by kernel_rfl) (by kernel_rfl) (fun _ _ _ h => h) (by rfl) hHeld ?_
                    go_frame
                    refine held_no (o := ⟨some 132, _, _, _, _, _⟩) 23 rfl (by kernel_rfl) (by kernel_rfl) (by kernel_rfl) (fun _ _ _ h => h) (by rfl) hHeld ?_
                    go_frame
                    refine held_no (o := ⟨some 133, _, _, _, _, _⟩) 24 rfl (by kernel_rfl) (by kernel_rfl) (by kernel_rfl) (fun _ _ _ h => h) (by rfl) hHeld ?_
                    go_frame
                    refine held_yes (o := ⟨some 134, _, _, _, _, _⟩) (v := ?_) 25 rfl (by kernel_rfl) (by kernel_rfl) (by kernel_rfl) (fun _ _ _ h => h) (by rfl) hHeld (fun w hSw => ?_) ?_
                    rotate_left
                    · (try dsimp only at hSw)
                      go_simp
                      with_reducible rfl
                    go_frame
                    refine held_yes (o := ⟨some 135, _, _, _, _, _⟩) (v := ?_) 26 rfl (by kernel_rfl) (by kernel_rfl) (by kernel_rfl) (fun _ _ _ h => h) (by rfl) hHeld (fun w hSw => ?_) ?_
                    rotate_left
                    · (try dsimp only at hSw)
                      go_simp
                      with_reducible rfl
                    go_frame
                    refine held_yes (o := ⟨some 136, _, _, _, _, _⟩) (v := ?_) 27 rfl (by kernel_rfl) (by kernel_rfl) (by kernel_rfl) (fun _ _ _ h => h) (by rfl) hHeld (fun w hSw => ?_) ?_
                    rotate_left
                    · (try dsimp only at hSw)
                      go_simp
                      with_reducible rfl
                    go_frame
                    refine held_yes (o := ⟨some 137, _, _, _, _, _⟩) (v := ?_) 28 rfl (by kernel_rfl) (by kernel_rfl) (by kernel_rfl) (fun _ _ _ h => h) (by rfl) hHeld (fun w hSw => ?_) ?_
                    rotate_left
                    · (try dsimp only at hSw)
                      go_simp
                      with_reducible rfl
                    go_frame
                    refine held_yes (o := ⟨some 138, _, _, _, _, _⟩) (v := ?_) 29 rfl (by kernel_rfl) (by kernel_rfl) (by kernel_rfl) (fun _ _ _ h => h) (by rfl) hHeld (fun w hSw => ?_) ?_
                    rotate_left
                    · (try dsimp only at hSw)
                      go_simp
                      with_reducible rfl
                    go_frame
                    refine held_yes (o := ⟨some 139, _, _, _, _, _⟩) (v := ?_) 30 rfl (by kernel_rfl) (by kernel_rfl) (by kernel_rfl) (fun _ _ _ h => h) (by rfl) hHeld (fun w hSw => ?_) ?_
                    rotate_left
                    · (try dsimp only at hSw)
                      go_simp
                      with_reducible rfl
                    go_frame
                    refine held_yes (o := ⟨some 140, _, _, _, _, _⟩) (v := ?_) 31 rfl (by kernel_rfl) (by kernel_rfl) (by kernel_rfl) (fun _ _ _ h => h) (by rfl) hHeld (fun w hSw => ?_) ?_
                    rotate_left
                    · (try dsimp only at hSw)
                      go_simp
                      with_reducible rfl
                    go_frame
                    refine held_yes (o := ⟨some 141, _, _, _, _, _⟩) (v := ?_) 32 rfl (by kernel_rfl) (by kernel_rfl) (by kernel_rfl) (fun _ _ _ h => h) (by rfl) hHeld (fun w hSw => ?_) ?_
                    rotate_left
                    · (try dsimp only at hSw)
                      go_simp
                      with_reducible rfl
                    go_frame
                    refine held_yes (o := ⟨some 142, _, _, _, _, _⟩) (v := ?_) 33 rfl (by kernel_rfl) (by kernel_rfl) (by kernel_rfl) (fun _ _ _ h => h) (by rfl) hHeld (fun w hSw => ?_) ?_
                    rotate_left
                    · (try dsimp only at hSw)
                      go_simp
                      with_reducible rfl
                    go_frame
                    refine held_yes (o := ⟨some 143, _, _, _, _, _⟩) (v := ?_) 34 rfl (by kernel_rfl) (by kernel_rfl) (by kernel_rfl) (fun _ _ _ h => h) (by rfl) hHeld (fun w hSw => ?_) ?_
                    rotate_left
                    · (try dsimp only at hSw)
                      go_simp
                      with_reducible rfl
                    go_frame
                    refine held_yes (o := ⟨some 144, _, _, _, _, _⟩) (v := ?_) 35 rfl (by kernel_rfl) (by kernel_rfl) (by kernel_rfl) (fun _ _ _ h => h) (by rfl) hHeld (fun w hSw => ?_) ?_
                    rotate_left
                    · (try dsimp only at hSw)
                      go_simp
                      with_reducible rfl
                    go_frame
                    refine held_yes (o := ⟨some 145, _, _, _, _, _⟩) (v := ?_) 36 rfl (by kernel_rfl) (by kernel_rfl) (by kernel_rfl) (fun _ _ _ h => h) (by rfl) hHeld (fun w hSw => ?_) ?_
                    rotate_left
                    · (try dsimp only at hSw)
                      go_simp
                      with_reducible rfl
                    go_frame
                    refine held_yes (o := ⟨some 146, _, _, _, _, _⟩) (v := ?_) 37 rfl (by kernel_rfl) (by kernel_rfl) (by kernel_rfl) (fun _ _ _ h => h) (by rfl) hHeld (fun w hSw => ?_) ?_
                    rotate_left
                    · (try dsimp only at hSw)
                      go_simp
                      with_reducible rfl
                    go_frame
                    refine held_yes (o := ⟨some 147, _, _, _, _, _⟩) (v := ?_) 38 rfl (by kernel_rfl) (by kernel_rfl) (by kernel_rfl) (fun _ _ _ h => h) (by rfl) hHeld (fun w hSw => ?_) ?_
                    rotate_left
                    · (try dsimp only at hSw)
                      go_simp
                      with_reducible rfl
                    go_frame
                    refine held_yes (o := ⟨some 148, _, _, _, _, _⟩) (v := ?_) 39 rfl (by kernel_rfl) (by kernel_rfl) (by kernel_rfl) (fun _ _ _ h => h) (by rfl) hHeld (fun w hSw => ?_) ?_
                    rotate_left
                    · (try dsimp only at hSw)
                      go_simp
                      with_reducible rfl
                    go_frame
                    refine held_yes (o := ⟨some 149, _, _, _, _, _⟩) (v := ?_) 40 rfl (by kernel_rfl) (by kernel_rfl) (by kernel_rfl) (fun _ _ _ h => h) (by rfl) hHeld (fun w hSw => ?_) ?_
                    rotate_left
                    · (try dsimp only at hSw)
                      go_simp
                      with_reducible rfl
                    go_frame
                    refine held_yes (o := ⟨some 150, _, _, _, _, _⟩) (v := ?_) 41 rfl (by kernel_rfl) (by kernel_rfl) (by kernel_rfl) (fun _ _ _ h => h) (by rfl) hHeld (fun w hSw => ?_) ?_
                    rotate_left
                    · (try dsimp only at hSw)
                      go_simp
                      with_reducible rfl
                    go_frame
                    refine wpAnyH_done (by kernel_rfl) ?_ _
                    go_wp2_with fail
                    go_meet
                    exact ⟨rfl, B⟩
                  | true =>
                    by_cases hxa : x = ba
                    · subst hxa
                      clear HWAY HNO
                      refine wp_region_held_drew (S := fun w' => w'.cell? ⟨b7, o7 + k, none⟩ = some (.int .u8 (x.toNat : Int)) ∧ w'.cell? ⟨g8, k, none⟩ = some (.int .u8 (bb.toNat : Int))) (by kernel_rfl) ⟨s0, g0⟩ (fun hHeld => ?_)
                      refine held_yes (o := ⟨some 109, _, _, _, _, _⟩) (v := ?_) 0 rfl (by kernel_rfl) (by kernel_rfl) (by kernel_rfl) (fun _ _ _ h => h) (by rfl) hHeld (fun w hSw => ?_) ?_
                      rotate_left
                      · (try dsimp only at hSw)
                        go_simp
                        with_reducible rfl
                      go_frame
                      refine held_one (o := ⟨some 110, _, _, _, _, _⟩) 1 (by kernel_rfl) rfl (by rfl) (fun K hK => ?_)
                      go_simp
                      go_at_call 7
                      refine (num8_any 0 _).mono ?_
                      rintro e w' ⟨rfl, rfl⟩
                      go_wp2_with fail
                      refine hK.out _ _ ?_ (fun hH2 => ?_)
                      · first | exact hHeld | exact ⟨(B.cell (p := ⟨b7, o7 + k, none⟩) hb7).trans s0, (B.cell (p := ⟨g8, k, none⟩) hg8l).trans g0⟩
                      clear hHeld hK K
                      have hHeld := hH2
                      clear hH2
                      try go_frame
                      refine held_yes (o := ⟨some 111, _, _, _, _, _⟩) (v := ?_) 2 rfl (by kernel_rfl) (by kernel_rfl) (by kernel_rfl) (fun _ _ _ h => h) (by rfl) hHeld (fun w hSw => ?_) ?_
                      rotate_left
                      · (try dsimp only at hSw)
                        go_simp
                        with_reducible rfl
                      go_frame
                      refine held_yes (o := ⟨some 112, _, _, _, _, _⟩) (v := ?_) 3 rfl (by kernel_rfl) (by kernel_rfl) (by kernel_rfl) (fun _ _ _ h => h) (by rfl) hHeld (fun w hSw => ?_) ?_
                      rotate_left
                      · (try dsimp only at hSw)
                        go_simp
                        with_reducible rfl
                      go_frame
                      refine held_yes (o := ⟨some 113, _, _, _, _, _⟩) (v := ?_) 4 rfl (by kernel_rfl) (by kernel_rfl) (by kernel_rfl) (fun _ _ _ h => h) (by rfl) hHeld (fun w hSw => ?_) ?_
                      rotate_left
                      · (try dsimp only at hSw)
                        go_simp
                        with_reducible rfl
                      go_frame
                      refine held_yes (o := ⟨some 114, _, _, _, _, _⟩) (v := ?_) 5 rfl (by kernel_rfl) (by kernel_rfl) (by kernel_rfl) (fun _ _ _ h => h) (by rfl) hHeld (fun w hSw => ?_) ?_
                      rotate_left
                      · (try dsimp only at hSw)
                        go_simp
                        with_reducible rfl
                      go_frame
                      refine held_yes (o := ⟨some 115, _, _, _, _, _⟩) (v := ?_) 6 rfl (by kernel_rfl) (by kernel_rfl) (by kernel_rfl) (fun _ _ _ h => h) (by rfl) hHeld (fun w hSw => ?_) ?_
                      rotate_left
                      · (try dsimp only at hSw)
                        go_simp
                        with_reducible rfl
                      go_frame
                      refine held_yes (o := ⟨some 116, _, _, _, _, _⟩) (v := ?_) 7 rfl (by kernel_rfl) (by kernel_rfl) (by kernel_rfl) (fun _ _ _ h => h) (by rfl) hHeld (fun w hSw => ?_) ?_
                      rotate_left
                      · (try dsimp only at hSw)
                        go_simp
                        with_reducible rfl
                      go_frame
                      refine held_yes (o := ⟨some 117, _, _, _, _, _⟩) (v := ?_) 8 rfl (by kernel_rfl) (by kernel_rfl) (by kernel_rfl) (fun _ _ _ h => h) (by rfl) hHeld (fun w hSw => ?_) ?_
                      rotate_left
                      · (try dsimp only at hSw)
                        go_simp
                        with_reducible rfl
                      go_frame
                      refine held_one (o := ⟨some 118, _, _, _, _, _⟩) 9 (by kernel_rfl) rfl (by rfl) (fun K hK => ?_)
                      go_simp
                      go_at_call 9
                      refine (HFULL.out x _).mono ?_
                      rintro e wF1 ⟨rfl, kF, bF⟩
                      replace B := B.trans (bF.mono B.size)
                      clear bF
                      go_wp2_with fail
                      refine hK.out _ _ ?_ (fun hH2 => ?_)
                      · first | exact hHeld | exact ⟨(B.cell (p := ⟨b7, o7 + k, none⟩) hb7).trans s0, (B.cell (p := ⟨g8, k, none⟩) hg8l).trans g0⟩
                      clear hHeld hK K
                      have hHeld := hH2
                      clear hH2
                      try go_frame
                      refine held_one (o := ⟨some 119, _, _, _, _, _⟩) 10 (by kernel_rfl) rfl (by rfl) (fun K hK => ?_)
                      go_simp
                      go_at_call 15
                      refine (same_yesx HX.out B kF).mono ?_
                      rintro e wS1 ⟨rfl, bS⟩
                      replace B := B.trans (bS.mono B.size)
                      clear bS kF
                      go_wp2_with fail
                      refine hK.out _ _ ?_ (fun hH2 => ?_)
                      · first | exact hHeld | exact ⟨(B.cell (p := ⟨b7, o7 + k, none⟩) hb7).trans s0, (B.cell (p := ⟨g8, k, none⟩) hg8l).trans g0⟩
                      clear hHeld hK K
                      have hHeld := hH2
                      clear hH2
                      try go_frame
                      refine held_yes (o := ⟨some 120, _, _, _, _, _⟩) (v := ?_) 11 rfl (by kernel_rfl) (by kernel_rfl) (by kernel_rfl) (fun _ _ _ h => h) (by rfl) hHeld (fun w hSw => ?_) ?_
                      rotate_left
                      · (try dsimp only at hSw)
                        go_simp
                        with_reducible rfl
                      go_frame
                      refine held_yes (o := ⟨some 121, _, _, _, _, _⟩) (v := ?_) 12 rfl (by kernel_rfl) (by kernel_rfl) (by kernel_rfl) (fun _ _ _ h => h) (by rfl) hHeld (fun w hSw => ?_) ?_
                      rotate_left
                      · (try dsimp only at hSw)
                        go_simp
                        with_reducible rfl
                      go_frame
                      refine held_no (o := ⟨some 122, _, _, _, _, _⟩) 13 rfl (by kernel_rfl) (by kernel_rfl) (by kernel_rfl) (fun _ _ _ h => h) (by rfl) hHeld ?_
                      go_frame
                      refine held_no (o := ⟨some 123, _, _, _, _, _⟩) 14 rfl (by kernel_rfl) (by kernel_rfl) (by kernel_rfl) (fun _ _ _ h => h) (by rfl) hHeld ?_
                      go_frame
                      refine held_no (o := ⟨some 124, _, _, _, _, _⟩) 15 rfl (by kernel_rfl) (by kernel_rfl) (by kernel_rfl) (fun _ _ _ h => h) (by rfl) hHeld ?_
                      go_frame
                      refine held_no (o := ⟨some 125, _, _, _, _, _⟩) 16 rfl (by kernel_rfl) (by kernel_rfl) (by kernel_rfl) (fun _ _ _ h => h) (by rfl) hHeld ?_
                      go_frame
                      refine held_no (o := ⟨some 126, _, _, _, _, _⟩) 17 rfl (by kernel_rfl) (by kernel_rfl) (by kernel_rfl) (fun _ _ _ h => h) (by rfl) hHeld ?_
                      go_frame
                      refine held_no (o := ⟨some 127, _, _, _, _, _⟩) 18 rfl (by kernel_rfl) (by kernel_rfl) (by kernel_rfl) (fun _ _ _ h => h) (by rfl) hHeld ?_
                      go_frame
                      refine held_no (o := ⟨some 128, _, _, _, _, _⟩) 19 rfl (by kernel_rfl) (by kernel_rfl) (by kernel_rfl) (fun _ _ _ h => h) (by rfl) hHeld ?_
                      go_frame
                      refine held_no (o := ⟨some 129, _, _, _, _, _⟩) 20 rfl (by kernel_rfl) (by kernel_rfl) (by kernel_rfl) (fun _ _ _ h => h) (by rfl) hHeld ?_
                      go_frame
                      refine held_no (o := ⟨some 130, _, _, _, _, _⟩) 21 rfl (by kernel_rfl) (by kernel_rfl) (by kernel_rfl) (fun _ _ _ h => h) (by rfl) hHeld ?_
                      go_frame
                      refine held_no (o := ⟨some 131, _, _, _, _, _⟩) 22 rfl (by kernel_rfl) (by kernel_rfl) (by kernel_rfl) (fun _ _ _ h => h) (by rfl) hHeld ?_
                      go_frame
                      refine held_no (o := ⟨some 132, _, _, _, _, _⟩) 23 rfl (by kernel_rfl) (by kernel_rfl) (by kernel_rfl) (fun _ _ _ h => h) (by rfl) hHeld ?_
                      go_frame
                      refine held_no (o := ⟨some 133, _, _, _, _, _⟩) 24 rfl (by kernel_rfl) (by kernel_rfl) (by kernel_rfl) (fun _ _ _ h => h) (by rfl) hHeld ?_
                      go_frame
                      refine held_yes (o := ⟨some 134, _, _, _, _, _⟩) (v := ?_) 25 rfl (by kernel_rfl) (by kernel_rfl) (by kernel_rfl) (fun _ _ _ h => h) (by rfl) hHeld (fun w hSw => ?_) ?_
                      rotate_left
                      · (try dsimp only at hSw)
                        go_simp
                        with_reducible rfl
                      go_frame
                      refine held_yes (o := ⟨some 135, _, _, _, _, _⟩) (v := ?_) 26 rfl (by kernel_rfl) (by kernel_rfl) (by kernel_rfl) (fun _ _ _ h => h) (by rfl) hHeld (fun w hSw => ?_) ?_
                      rotate_left
                      · (try dsimp only at hSw)
                        go_simp
                        with_reducible rfl
                      go_frame
                      refine held_yes (o := ⟨some 136, _, _, _, _, _⟩) (v := ?_) 27 rfl (by kernel_rfl) (by kernel_rfl) (by kernel_rfl) (fun _ _ _ h => h) (by rfl) hHeld (fun w hSw => ?_) ?_
                      rotate_left
                      · (try dsimp only at hSw)
                        go_simp
                        with_reducible rfl
                      go_frame
                      refine held_yes (o := ⟨some 137, _, _, _, _, _⟩) (v := ?_) 28 rfl (by kernel_rfl) (by kernel_rfl) (by kernel_rfl) (fun _ _ _ h => h) (by rfl) hHeld (fun w hSw => ?_) ?_
                      rotate_left
                      · (try dsimp only at hSw)
                        go_simp
                        with_reducible rfl
                      go_frame
                      refine held_yes (o := ⟨some 138, _, _, _, _, _⟩) (v := ?_) 29 rfl (by kernel_rfl) (by kernel_rfl) (by kernel_rfl) (fun _ _ _ h => h) (by rfl) hHeld (fun w hSw => ?_) ?_
                      rotate_left
                      · (try dsimp only at hSw)
                        go_simp
                        with_reducible rfl
                      go_frame
                      refine held_yes (o := ⟨some 139, _, _, _, _, _⟩) (v := ?_) 30 rfl (by kernel_rfl) (by kernel_rfl) (by kernel_rfl) (fun _ _ _ h => h) (by rfl) hHeld (fun w hSw => ?_) ?_
                      rotate_left
                      · (try dsimp only at hSw)
                        go_simp
                        with_reducible rfl
                      go_frame
                      refine held_no (o := ⟨some 140, _, _, _, _, _⟩) 31 rfl (by kernel_rfl) (by kernel_rfl) (by kernel_rfl) (fun _ _ _ h => h) (by rfl) hHeld ?_
                      go_frame
                      refine held_no (o := ⟨some 141, _, _, _, _, _⟩) 32 rfl (by kernel_rfl) (by kernel_rfl) (by kernel_rfl) (fun _ _ _ h => h) (by rfl) hHeld ?_
                      go_frame
                      refine held_no (o := ⟨some 142, _, _, _, _, _⟩) 33 rfl (by kernel_rfl) (by kernel_rfl) (by kernel_rfl) (fun _ _ _ h => h) (by rfl) hHeld ?_
                      go_frame
                      refine held_no (o := ⟨some 143, _, _, _, _, _⟩) 34 rfl (by kernel_rfl) (by kernel_rfl) (by kernel_rfl) (fun _ _ _ h => h) (by rfl) hHeld ?_
                      go_frame
                      refine held_no (o := ⟨some 144, _, _, _, _, _⟩) 35 rfl (by kernel_rfl) (by kernel_rfl) (by kernel_rfl) (fun _ _ _ h => h) (by rfl) hHeld ?_
                      go_frame
                      refine held_no (o := ⟨some 145, _, _, _, _, _⟩) 36 rfl (by kernel_rfl) (by kernel_rfl) (by kernel_rfl) (fun _ _ _ h => h) (by rfl) hHeld ?_
                      go_frame
                      refine held_no (o := ⟨some 146, _, _, _, _, _⟩) 37 rfl (by kernel_rfl) (by kernel_rfl) (by kernel_rfl) (fun _ _ _ h => h) (by rfl) hHeld ?_
                      go_frame
                      refine held_no (o := ⟨some 147, _, _, _, _, _⟩) 38 rfl (by kernel_rfl) (by kernel_rfl) (by kernel_rfl) (fun _ _ _ h => h) (by rfl) hHeld ?_
                      go_frame
                      refine held_no (o := ⟨some 148, _, _, _, _, _⟩) 39 rfl (by kernel_rfl) (by kernel_rfl) (by kernel_rfl) (fun _ _ _ h => h) (by rfl) hHeld ?_
                      go_frame
                      refine held_yes (o := ⟨some 149, _, _, _, _, _⟩) (v := ?_) 40 rfl (by kernel_rfl) (by kernel_rfl) (by kernel_rfl) (fun _ _ _ h => h) (by rfl) hHeld (fun w hSw => ?_) ?_
                      rotate_left
                      · (try dsimp only at hSw)
                        go_simp
                        with_reducible rfl
                      go_frame
                      refine held_yes (o := ⟨some 150, _, _, _, _, _⟩) (v := ?_) 41 rfl (by kernel_rfl) (by kernel_rfl) (by kernel_rfl) (fun _ _ _ h => h) (by rfl) hHeld (fun w hSw => ?_) ?_
                      rotate_left
                      · (try dsimp only at hSw)
                        go_simp
                        with_reducible rfl
                      go_frame
                      refine wpAnyH_done (by kernel_rfl) ?_ _
                      go_wp2_with fail
                      go_meet
                      exact ⟨rfl, B⟩
                    · have hxb : x = bb := HWAY.out.elim (fun e => (hxa e).elim) fun e => e.2
                      subst hxb
                      have HN := Lib.hid hxa
                      clear HWAY HNO hxa
                      refine wp_region_held_drew (S := fun w' => w'.cell? ⟨b7, o7 + k, none⟩ = some (.int .u8 (ba.toNat : Int)) ∧ w'.cell? ⟨g8, k, none⟩ = some (.int .u8 (x.toNat : Int))) (by kernel_rfl) ⟨s0, g0⟩ (fun hHeld => ?_)
                      refine held_yes (o := ⟨some 109, _, _, _, _, _⟩) (v := ?_) 0 rfl (by kernel_rfl) (by kernel_rfl) (by kernel_rfl) (fun _ _ _ h => h) (by rfl) hHeld (fun w hSw => ?_) ?_
                      rotate_left
                      · (try dsimp only at hSw)
                        go_simp
                        with_reducible rfl
                      go_frame
                      refine held_one (o := ⟨some 110, _, _, _, _, _⟩) 1 (by kernel_rfl) rfl (by rfl) (fun K hK => ?_)
                      go_simp
                      go_at_call 7
                      refine (num8_any 0 _).mono ?_
                      rintro e w' ⟨rfl, rfl⟩
                      go_wp2_with fail
                      refine hK.out _ _ ?_ (fun hH2 => ?_)
                      · first | exact hHeld | exact ⟨(B.cell (p := ⟨b7, o7 + k, none⟩) hb7).trans s0, (B.cell (p := ⟨g8, k, none⟩) hg8l).trans g0⟩
                      clear hHeld hK K
                      have hHeld := hH2
                      clear hH2
                      try go_frame
                      refine held_yes (o := ⟨some 111, _, _, _, _, _⟩) (v := ?_) 2 rfl (by kernel_rfl) (by kernel_rfl) (by kernel_rfl) (fun _ _ _ h => h) (by rfl) hHeld (fun w hSw => ?_) ?_
                      rotate_left
                      · (try dsimp only at hSw)
                        go_simp
                        with_reducible rfl
                      go_frame
                      refine held_yes (o := ⟨some 112, _, _, _, _, _⟩) (v := ?_) 3 rfl (by kernel_rfl) (by kernel_rfl) (by kernel_rfl) (fun _ _ _ h => h) (by rfl) hHeld (fun w hSw => ?_) ?_
                      rotate_left
                      · (try dsimp only at hSw)
                        go_simp
                        with_reducible rfl
                      go_frame
                      refine held_yes (o := ⟨some 113, _, _, _, _, _⟩) (v := ?_) 4 rfl (by kernel_rfl) (by kernel_rfl) (by kernel_rfl) (fun _ _ _ h => h) (by rfl) hHeld (fun w hSw => ?_) ?_
                      rotate_left
                      · (try dsimp only at hSw)
                        go_simp
                        with_reducible rfl
                      go_frame
                      refine held_yes (o := ⟨some 114, _, _, _, _, _⟩) (v := ?_) 5 rfl (by kernel_rfl) (by kernel_rfl) (by kernel_rfl) (fun _ _ _ h => h) (by rfl) hHeld (fun w hSw => ?_) ?_
                      rotate_left
                      · (try dsimp only at hSw)
                        go_simp
                        with_reducible rfl
                      go_frame
                      refine held_yes (o := ⟨some 115, _, _, _, _, _⟩) (v := ?_) 6 rfl (by kernel_rfl) (by kernel_rfl) (by kernel_rfl) (fun _ _ _ h => h) (by rfl) hHeld (fun w hSw => ?_) ?_
                      rotate_left
                      · (try dsimp only at hSw)
                        go_simp
                        with_reducible rfl
                      go_frame
                      refine held_yes (o := ⟨some 116, _, _, _, _, _⟩) (v := ?_) 7 rfl (by kernel_rfl) (by kernel_rfl) (by kernel_rfl) (fun _ _ _ h => h) (by rfl) hHeld (fun w hSw => ?_) ?_
                      rotate_left
                      · (try dsimp only at hSw)
                        go_simp
                        with_reducible rfl
                      go_frame
                      refine held_yes (o := ⟨some 117, _, _, _, _, _⟩) (v := ?_) 8 rfl (by kernel_rfl) (by kernel_rfl) (by kernel_rfl) (fun _ _ _ h => h) (by rfl) hHeld (fun w hSw => ?_) ?_
                      rotate_left
                      · (try dsimp only at hSw)
                        go_simp
                        with_reducible rfl
                      go_frame
                      refine held_one (o := ⟨some 118, _, _, _, _, _⟩) 9 (by kernel_rfl) rfl (by rfl) (fun K hK => ?_)
                      go_simp
                      go_at_call 9
                      refine (HFULL.out ba _).mono ?_
                      rintro e wF1 ⟨rfl, kF, bF⟩
                      replace B := B.trans (bF.mono B.size)
                      clear bF
                      go_wp2_with fail
                      refine hK.out _ _ ?_ (fun hH2 => ?_)
                      · first | exact hHeld | exact ⟨(B.cell (p := ⟨b7, o7 + k, none⟩) hb7).trans s0, (B.cell (p := ⟨g8, k, none⟩) hg8l).trans g0⟩
                      clear hHeld hK K
                      have hHeld := hH2
                      clear hH2
                      try go_frame
                      refine held_one (o := ⟨some 119, _, _, _, _, _⟩) 10 (by kernel_rfl) rfl (by rfl) (fun K hK => ?_)
                      go_simp
                      go_at_call 15
                      refine (same_nox HN.out HX.out B kF).mono ?_
                      rintro e wS1 ⟨rfl, bS⟩
                      replace B := B.trans (bS.mono B.size)
                      clear bS kF
                      go_wp2_with fail
                      refine hK.out _ _ ?_ (fun hH2 => ?_)
                      · first | exact hHeld | exact ⟨(B.cell (p := ⟨b7, o7 + k, none⟩) hb7).trans s0, (B.cell (p := ⟨g8, k, none⟩) hg8l).trans g0⟩
                      clear hHeld hK K
                      have hHeld := hH2
                      clear hH2
                      try go_frame
                      refine held_yes (o := ⟨some 120, _, _, _, _, _⟩) (v := ?_) 11 rfl (by kernel_rfl) (by kernel_rfl) (by kernel_rfl) (fun _ _ _ h => h) (by rfl) hHeld (fun w hSw => ?_) ?_
                      rotate_left
                      · (try dsimp only at hSw)
                        go_simp
                        with_reducible rfl
                      go_frame
                      refine held_yes (o := ⟨some 121, _, _, _, _, _⟩) (v := ?_) 12 rfl (by kernel_rfl) (by kernel_rfl) (by kernel_rfl) (fun _ _ _ h => h) (by rfl) hHeld (fun w hSw => ?_) ?_
                      rotate_left
                      · (try dsimp only at hSw)
                        go_simp
                        with_reducible rfl
                      go_frame
                      refine held_yes (o := ⟨some 122, _, _, _, _, _⟩) (v := ?_) 13 rfl (by kernel_rfl) (by kernel_rfl) (by kernel_rfl) (fun _ _ _ h => h) (by rfl) hHeld (fun w hSw => ?_) ?_
                      rotate_left
                      · (try dsimp only at hSw)
                        go_simp
                        with_reducible rfl
                      go_frame
                      refine held_yes (o := ⟨some 123, _, _, _, _, _⟩) (v := ?_) 14 rfl (by kernel_rfl) (by kernel_rfl) (by kernel_rfl) (fun _ _ _ h => h) (by rfl) hHeld (fun w hSw => ?_) ?_
                      rotate_left
                      · (try dsimp only at hSw)
                        go_simp
                        with_reducible rfl
                      go_frame
                      refine held_yes (o := ⟨some 124, _, _, _, _, _⟩) (v := ?_) 15 rfl (by kernel_rfl) (by kernel_rfl) (by kernel_rfl) (fun _ _ _ h => h) (by rfl) hHeld (fun w hSw => ?_) ?_
                      rotate_left
                      · (try dsimp only at hSw)
                        go_simp
                        with_reducible rfl
                      go_frame
                      refine held_yes (o := ⟨some 125, _, _, _, _, _⟩) (v := ?_) 16 rfl (by kernel_rfl) (by kernel_rfl) (by kernel_rfl) (fun _ _ _ h => h) (by rfl) hHeld (fun w hSw => ?_) ?_
                      rotate_left
                      · (try dsimp only at hSw)
                        go_simp
                        with_reducible rfl
                      go_frame
                      refine held_yes (o := ⟨some 126, _, _, _, _, _⟩) (v := ?_) 17 rfl (by kernel_rfl) (by kernel_rfl) (by kernel_rfl) (fun _ _ _ h => h) (by rfl) hHeld (fun w hSw => ?_) ?_
                      rotate_left
                      · (try dsimp only at hSw)
                        go_simp
                        with_reducible rfl
                      go_frame
                      refine held_yes (o := ⟨some 127, _, _, _, _, _⟩) (v := ?_) 18 rfl (by kernel_rfl) (by kernel_rfl) (by kernel_rfl) (fun _ _ _ h => h) (by rfl) hHeld (fun w hSw => ?_) ?_
                      rotate_left
                      · (try dsimp only at hSw)
                        go_simp
                        with_reducible rfl
                      go_frame
                      refine held_yes (o := ⟨some 128, _, _, _, _, _⟩) (v := ?_) 19 rfl (by kernel_rfl) (by kernel_rfl) (by kernel_rfl) (fun _ _ _ h => h) (by rfl) hHeld (fun w hSw => ?_) ?_
                      rotate_left
                      · (try dsimp only at hSw)
                        go_simp
                        with_reducible rfl
                      go_frame
                      refine held_yes (o := ⟨some 129, _, _, _, _, _⟩) (v := ?_) 20 rfl (by kernel_rfl) (by kernel_rfl) (by kernel_rfl) (fun _ _ _ h => h) (by rfl) hHeld (fun w hSw => ?_) ?_
                      rotate_left
                      · (try dsimp only at hSw)
                        go_simp
                        with_reducible rfl
                      go_frame
                      refine held_one (o := ⟨some 130, _, _, _, _, _⟩) 21 (by kernel_rfl) rfl (by rfl) (fun K hK => ?_)
                      go_simp
                      go_at_call 9
                      refine (HFULL.out x _).mono ?_
                      rintro e wF2 ⟨rfl, kF, bF⟩
                      replace B := B.trans (bF.mono B.size)
                      clear bF
                      go_wp2_with fail
                      refine hK.out _ _ ?_ (fun hH2 => ?_)
                      · first | exact hHeld | exact ⟨(B.cell (p := ⟨b7, o7 + k, none⟩) hb7).trans s0, (B.cell (p := ⟨g8, k, none⟩) hg8l).trans g0⟩
                      clear hHeld hK K
                      have hHeld := hH2
                      clear hH2
                      try go_frame
                      refine held_one (o := ⟨some 131, _, _, _, _, _⟩) 22 (by kernel_rfl) rfl (by rfl) (fun K hK => ?_)
                      go_simp
                      go_at_call 15
                      refine (same_yesx HX.out B kF).mono ?_
                      rintro e wS2 ⟨rfl, bS⟩
                      replace B := B.trans (bS.mono B.size)
                      clear bS kF
                      go_wp2_with fail
                      refine hK.out _ _ ?_ (fun hH2 => ?_)
                      · first | exact hHeld | exact ⟨(B.cell (p := ⟨b7, o7 + k, none⟩) hb7).trans s0, (B.cell (p := ⟨g8, k, none⟩) hg8l).trans g0⟩
                      clear hHeld hK K
                      have hHeld := hH2
                      clear hH2
                      try go_frame
                      refine held_yes (o := ⟨some 132, _, _, _, _, _⟩) (v := ?_) 23 rfl (by kernel_rfl) (by kernel_rfl) (by kernel_rfl) (fun _ _ _ h => h) (by rfl) hHeld (fun w hSw => ?_) ?_
                      rotate_left
                      · (try dsimp only at hSw)
                        go_simp
                        with_reducible rfl
                      go_frame
                      refine held_yes (o := ⟨some 133, _, _, _, _, _⟩) (v := ?_) 24 rfl (by kernel_rfl) (by kernel_rfl) (by kernel_rfl) (fun _ _ _ h => h) (by rfl) hHeld (fun w hSw => ?_) ?_
                      rotate_left
                      · (try dsimp only at hSw)
                        go_simp
                        with_reducible rfl
                      go_frame
                      refine held_yes (o := ⟨some 134, _, _, _, _, _⟩) (v := ?_) 25 rfl (by kernel_rfl) (by kernel_rfl) (by kernel_rfl) (fun _ _ _ h => h) (by rfl) hHeld (fun w hSw => ?_) ?_
                      rotate_left
                      · (try dsimp only at hSw)
                        go_simp
                        with_reducible rfl
                      go_frame
                      refine held_yes (o := ⟨some 135, _, _, _, _, _⟩) (v := ?_) 26 rfl (by kernel_rfl) (by kernel_rfl) (by kernel_rfl) (fun _ _ _ h => h) (by rfl) hHeld (fun w hSw => ?_) ?_
                      rotate_left
                      · (try dsimp only at hSw)
                        go_simp
                        with_reducible rfl
                      go_frame
                      refine held_yes (o := ⟨some 136, _, _, _, _, _⟩) (v := ?_) 27 rfl (by kernel_rfl) (by kernel_rfl) (by kernel_rfl) (fun _ _ _ h => h) (by rfl) hHeld (fun w hSw => ?_) ?_
                      rotate_left
                      · (try dsimp only at hSw)
                        go_simp
                        with_reducible rfl
                      go_frame
                      refine held_yes (o := ⟨some 137, _, _, _, _, _⟩) (v := ?_) 28 rfl (by kernel_rfl) (by kernel_rfl) (by kernel_rfl) (fun _ _ _ h => h) (by rfl) hHeld (fun w hSw => ?_) ?_
                      rotate_left
                      · (try dsimp only at hSw)
                        go_simp
                        with_reducible rfl
                      go_frame
                      refine held_yes (o := ⟨some 138, _, _, _, _, _⟩) (v := ?_) 29 rfl (by kernel_rfl) (by kernel_rfl) (by kernel_rfl) (fun _ _ _ h => h) (by rfl) hHeld (fun w hSw => ?_) ?_
                      rotate_left
                      · (try dsimp only at hSw)
                        go_simp
                        with_reducible rfl
                      go_frame
                      refine held_yes (o := ⟨some 139, _, _, _, _, _⟩) (v := ?_) 30 rfl (by kernel_rfl) (by kernel_rfl) (by kernel_rfl) (fun _ _ _ h => h) (by rfl) hHeld (fun w hSw => ?_) ?_
                      rotate_left
                      · (try dsimp only at hSw)
                        go_simp
                        with_reducible rfl
                      go_frame
                      refine held_no (o := ⟨some 140, _, _, _, _, _⟩) 31 rfl (by kernel_rfl) (by kernel_rfl) (by kernel_rfl) (fun _ _ _ h => h) (by rfl) hHeld ?_
                      go_frame
                      refine held_no (o := ⟨some 141, _, _, _, _, _⟩) 32 rfl (by kernel_rfl) (by kernel_rfl) (by kernel_rfl) (fun _ _ _ h => h) (by rfl) hHeld ?_
                      go_frame
                      refine held_no (o := ⟨some 142, _, _, _, _, _⟩) 33 rfl (by kernel_rfl) (by kernel_rfl) (by kernel_rfl) (fun _ _ _ h => h) (by rfl) hHeld ?_
                      go_frame
                      refine held_no (o := ⟨some 143, _, _, _, _, _⟩) 34 rfl (by kernel_rfl) (by kernel_rfl) (by kernel_rfl) (fun _ _ _ h => h) (by rfl) hHeld ?_
                      go_frame
                      refine held_no (o := ⟨some 144, _, _, _, _, _⟩) 35 rfl (by kernel_rfl) (by kernel_rfl) (by kernel_rfl) (fun _ _ _ h => h) (by rfl) hHeld ?_
                      go_frame
                      refine held_no (o := ⟨some 145, _, _, _, _, _⟩) 36 rfl (by kernel_rfl) (by kernel_rfl) (by kernel_rfl) (fun _ _ _ h => h) (by rfl) hHeld ?_
                      go_frame
                      refine held_no (o := ⟨some 146, _, _, _, _, _⟩) 37 rfl (by kernel_rfl) (by kernel_rfl) (by kernel_rfl) (fun _ _ _ h => h) (by rfl) hHeld ?_
                      go_frame
                      refine held_no (o := ⟨some 147, _, _, _, _, _⟩) 38 rfl (by kernel_rfl) (by kernel_rfl) (by kernel_rfl) (fun _ _ _ h => h) (by rfl) hHeld ?_
                      go_frame
                      refine held_no (o := ⟨some 148, _, _, _, _, _⟩) 39 rfl (by kernel_rfl) (by kernel_rfl) (by kernel_rfl) (fun _ _ _ h => h) (by rfl) hHeld ?_
                      go_frame
                      refine held_yes (o := ⟨some 149, _, _, _, _, _⟩) (v := ?_) 40 rfl (by kernel_rfl) (by kernel_rfl) (by kernel_rfl) (fun _ _ _ h => h) (by rfl) hHeld (fun w hSw => ?_) ?_
                      rotate_left
                      · (try dsimp only at hSw)
                        go_simp
                        with_reducible rfl
                      go_frame
                      refine held_yes (o := ⟨some 150, _, _, _, _, _⟩) (v := ?_) 41 rfl (by kernel_rfl) (by kernel_rfl) (by kernel_rfl) (fun _ _ _ h => h) (by rfl) hHeld (fun w hSw => ?_) ?_
                      rotate_left
                      · (try dsimp only at hSw)
                        go_simp
                        with_reducible rfl
                      go_frame
                      refine wpAnyH_done (by kernel_rfl) ?_ _
                      go_wp2_with fail
                      go_meet
                      exact ⟨rfl, B⟩
                case rest =>
                  obtain ⟨rfl, b⟩ := hcut
                  have hS6 := hS5.below b
                  clear s0 g0 HX
                  go_wp2
                  go_roundw
                  case rel => exact ⟨k + 1, by omega, by go_num, hS6⟩
                  case measure => simp [Go.RowKit.intOf]; omega
          · obtain rfl : k = 9 := by omega
            have hp := pending_cells hS.ds
            rw [HSN.out] at hp
            clear hlt hk9
            go_wp2_with fail
            refine hp.mono ?_
            rintro e w6 ⟨A6, c6, rfl, hc6, hm6, cs6, b6⟩
            have hD := dead_any (hS.ds.below b6)
            rw [decide_eq_false HSF.out] at hD
            have B6 := hS.bl.trans (b6.mono hS.bl.size)
            clear hp hS cs6 b6
            simp only [List.length_nil]
            go_wp2_with (first
              | (go_at_call 16; refine hD.mono ?_; rintro e w' ⟨rfl, rfl⟩)
              | (go_at_call 5; refine (live_any _).mono ?_; rintro e w7 ⟨rfl, b7⟩))
            go_ret
            exact ⟨rfl, B6.trans (b7.mono B6.size)⟩

theorem diskSafe_law {H : Type} (enc : TypeId × Value → H) (W : World) (base : Nat) (v0 : Value) (d0 : DataW H) (p0 : List MemPlace) (v1 : Value) (d1 : DataW H) (p1 : List MemPlace)
    (ok0 : Value.okWide Try.prog W .any base 22 v0) (ok1 : Value.okWide Try.prog W .any base 23 v1)
    (h0 : DataW.Trod enc Try.prog W 0 (fun _ => true) true 22 v0 d0 p0) (h1 : DataW.Trod enc Try.prog W 0 (fun _ => true) true 23 v1 d1 p1) :
    Calls Try.prog 3 #[v0, v1] W fun e W' => e = .returned (.bool true) ∧ Below W.heap.size W W' := by
  obtain ⟨l, hv⟩ := open_acts ok0 h0
  obtain ⟨ks, hk⟩ := open_keep ok1 h1
  by_cases hl : l.length ≤ 60
  · exact safe_walk l v0 ks v1 W hv hk hl
  · obtain ⟨A, c, rfl, _⟩ := hv
    exact safe_long l.length A c v1 W (by omega)
end Go.Proofs.Ytdmfpgmpjejfgaa
