/-
  ShaC: A block mixed in: mixed, and the document's own block: each one's contract over the loaded program. No condition but the worlds' shapes that each contract names (the table roots among them).
  ShaTab: What the listed table gives the walks: its 64 cells hold K; and the start-up's own heap meets the condition. No condition.
  Str: Own words for texts, over any program: a byte slice turned into a text; arrays of bytes compared. No condition; nothing of the dump is used here.
-/
import Derived.Test.YtgoifhpinoodgaaDoorWo03
import Derived.Test.YtgoifhpinoodgaaDoorRows
import Derived.ProofKit
import Derived.LaidMore
import Derived.OpenShut
import Derived.FnData
import Derived.Test.YtgoifhpinoodgaaDoorWo00
import Derived.Laws.BytesArg
import Derived.Stop.BytesEq
import Derived.Deep.MidRow

section
namespace Go.Proofs.YtgoifhpinoodgaaDoor
open Go.RowKit
set_option linter.unusedVariables false

/-- The table of the package holds K. -/
def Tab (w : World) : Prop := 0 < w.heap.size ∧ ∀ i, i < 64 → w.cell? ⟨0, i, none⟩ = some (.int .u32 ((keysL.getD i 0 : Nat) : Int))
theorem Tab.keep {w w' : World} (h : Tab w) (hs : w.heap.size ≤ w'.heap.size) (hk : w'.heap[0]? = w.heap[0]?) : Tab w' :=
  ⟨Nat.lt_of_lt_of_le h.1 hs, fun i hi => (World.cell?_of_block (w := w) hk).trans (h.2 i hi)⟩
theorem Tab.below {w w' : World} (h : Tab w) (hb : Below w.heap.size w w') : Tab w' := h.keep hb.size (hb.block _ h.1)
theorem Tab.grown {w w' : World} {g : Nat} (h : Tab w) (hb : w.grownBy w' (some g)) (hg : 0 < g) : Tab w' := h.keep hb.size (hb.block _ h.1 (by simp; omega))

def zero8 : Array Value := #[.int .u32 0, .int .u32 0, .int .u32 0, .int .u32 0, .int .u32 0, .int .u32 0, .int .u32 0, .int .u32 0]
theorem wide_word (x : Nat) : (wv x).oneCell' = true := rfl

theorem turned_e (x : Nat) (hx : x < 4294967296) (w : World) :
    Calls Tryd.prog 107 #[.int .u32 x, .int .i64 6, .int .i64 11, .int .i64 25] w fun e w' => e = .returned (.int .u32 (turn3 x 6 11 25 : Nat)) ∧ w' = w :=
  (turned_any x 6 11 25 hx (by decide) (by decide) (by decide) (by decide) (by decide) (by decide) 6 11 25 rfl rfl rfl w).mono fun e w' h => ⟨h.1, h.2.symm⟩
theorem turned_a (x : Nat) (hx : x < 4294967296) (w : World) :
    Calls Tryd.prog 107 #[.int .u32 x, .int .i64 2, .int .i64 13, .int .i64 22] w fun e w' => e = .returned (.int .u32 (turn3 x 2 13 22 : Nat)) ∧ w = w' :=
  turned_any x 2 13 22 hx (by decide) (by decide) (by decide) (by decide) (by decide) (by decide) 2 13 22 rfl rfl rfl w

set_option maxRecDepth 100000 in
set_option maxHeartbeats 1000000 in
theorem mixed_any (S : Nat → Prop) (v : Value) (l : List UInt8) (hl : 64 ≤ l.length) (s : S8) (hs : s.Ok) (w : World) (h : BS w S v l) (ht : Tab w) :
    Calls Tryd.prog 94 #[.agg s.vals.toArray, v] w fun e w' => e = .returned (.agg (block8 s l).vals.toArray) ∧ Below w.heap.size w w' := by
  obtain ⟨A, c, rfl, hc, hm, _⟩ := h.form
  go_enter Tryd.func94, Tryd.ntmps94
  go_wp2_with fail
  have h1 := (h.lt.alloc (.cells s.vals.toArray 98)).alloc (.cells zero8 98)
  have kw : KB ((w.alloc (.cells s.vals.toArray 98)).alloc (.cells zero8 98)) w.heap.size 98 s.vals.toArray := (KB.new _ _ _).alloc _
  have kr : KB ((w.alloc (.cells s.vals.toArray 98)).alloc (.cells zero8 98)) (w.heap.size + 1) 98 zero8 := by
    have := KB.new (w.alloc (.cells s.vals.toArray 98)) 98 zero8
    simpa using this
  have B0 : Below w.heap.size w ((w.alloc (.cells s.vals.toArray 98)).alloc (.cells zero8 98)) := ((Below.refl _ _).alloc (Nat.le_refl _) _).alloc (by simp) _
  have t0 := ht.below B0
  unfold zero8 at h1 kw kr B0 t0
  generalize (w.alloc (.cells s.vals.toArray 98)).alloc (.cells _ 98) = W0 at *
  refine (schedule_any _ _ l hl _ h1).mono ?_
  rintro e W1 ⟨rfl, b1⟩
  have kw1 := kw.below b1 kw.lt
  have kr1 := kr.below b1 kr.lt
  have t1 := t0.below b1
  have B1 := B0.trans (b1.mono B0.size)
  have z1 := B1.size
  have zr := kr1.lt
  clear kw kr b1 B0 t0 h1 h ht
  have hw1 : ∀ v ∈ (wordsTo l 64).map wv, v.oneCell' = true := words_one _
  have HL : Hid (((wordsTo l 64).map wv).length = 64) := by show _ = _; rw [List.length_map, wordsTo_length]
  have HW : Hid ((wordsTo l 64).length = 64) := wordsTo_length l 64
  have HB : Hid (block8 s l = s.plus (roundsTo (wordsTo l 64) s 64)) := rfl
  obtain ⟨R, hRR⟩ : ∃ R, R = block8 s l := ⟨_, rfl⟩
  rw [← hRR] at HB
  have HRR := Lib.hid hRR
  clear hRR
  generalize wordsTo l 64 = ws at *
  go_wp2_with (refine wpList_store_kb rfl 116 (.tmp 5) (.tmp 20) rfl W1.heap.size (ws.map wv) rfl rfl 116 (rowW [] 64) (by rw [row_zero]; exact KB.new _ _ _) 64 (by kernel_rfl) (by rw [rowW_length _ _ (by simp)]) HL.out hw1 ?_; intro W2 k3 g3)
  have b2 : Below W1.heap.size W1 W2 := ((Below.refl _ _).alloc (Nat.le_refl _) _).grown g3 (by simp) (by simp)
  clear g3
  have kw2 := kw1.below b2 kw1.lt
  have kr2 := kr1.below b2 kr1.lt
  have t2 := t1.below b2
  have B2 := B1.trans (b2.mono z1)
  have z2 := B2.size
  have z3 := k3.lt
  clear kw1 kr1 t1 b2 B1
  have z4 : w.heap.size + 1 < W1.heap.size := zr
  generalize W1.heap.size = g1 at *
  have HV : Hid (s.vals = [wv s.a, wv s.b, wv s.c, wv s.d, wv s.e, wv s.f, wv s.g, wv s.h]) := rfl
  have c0 : W2.cell? ⟨w.heap.size, 0, none⟩ = some (.int .u32 (s.a : Int)) := kw2.cell 0
  have c1 : W2.cell? ⟨w.heap.size, 1, none⟩ = some (.int .u32 (s.b : Int)) := kw2.cell 1
  have c2 : W2.cell? ⟨w.heap.size, 2, none⟩ = some (.int .u32 (s.c : Int)) := kw2.cell 2
  have c3 : W2.cell? ⟨w.heap.size, 3, none⟩ = some (.int .u32 (s.d : Int)) := kw2.cell 3
  have c4 : W2.cell? ⟨w.heap.size, 4, none⟩ = some (.int .u32 (s.e : Int)) := kw2.cell 4
  have c5 : W2.cell? ⟨w.heap.size, 5, none⟩ = some (.int .u32 (s.f : Int)) := kw2.cell 5
  have c6 : W2.cell? ⟨w.heap.size, 6, none⟩ = some (.int .u32 (s.g : Int)) := kw2.cell 6
  have c7 : W2.cell? ⟨w.heap.size, 7, none⟩ = some (.int .u32 (s.h : Int)) := kw2.cell 7
  go_quiet (fail)
  go_wp2
  go_quiet (fail)
  go_wp2
  clear c0 c1 c2 c3 c4 c5 c6 c7
  go_loopw [37, 6, 7, 8, 9, 10, 11, 12, 13] (fun i a b c d e f g h wr => ∃ (k n : Nat) (v : S8), k ≤ 64 ∧ i = .int .i64 k ∧ Hid (v = roundsTo ws s k) ∧ v.Ok ∧ a = .int .u32 v.a ∧ b = .int .u32 v.b ∧ c = .int .u32 v.c ∧ d = .int .u32 v.d ∧
      e = .int .u32 v.e ∧ f = .int .u32 v.f ∧ g = .int .u32 v.g ∧ h = .int .u32 v.h ∧ Hid (wr = W2.drewN n)) (fun i _ _ _ _ _ _ _ _ _ => 64 - (intOf i).toNat)
  case atStart => exact ⟨0, _, s, by omega, rfl, rfl, hs, rfl, rfl, rfl, rfl, rfl, rfl, rfl, rfl, show _ = _ by first | rfl | exact drewN_twice _ _ _⟩
  case round =>
    obtain ⟨k, n, v, hk, rfl, HVk, ok, rfl, rfl, rfl, rfl, rfl, rfl, rfl, rfl, HWr⟩ := hrel
    by_cases hlt : k < 64
    · have r1 : wr.cell? ⟨0, k, none⟩ = some (.int .u32 ((keysL.getD k 0 : Nat) : Int)) := by rw [HWr.out]; exact t2.2 k hlt
      have HR : Hid (roundsTo ws s (k + 1) = round8 (keysL.getD k 0) (ws.getD k 0) v) := by show _ = _; rw [HVk.out]; rfl
      have r2 : wr.cell? ⟨g1, k, none⟩ = some (.int .u32 ((ws.getD k 0 : Nat) : Int)) := by
        have hk' : k < ws.length := by have := HW.out; omega
        rw [HWr.out]
        show W2.cell? _ = _
        rw [k3.cell, List.getElem?_toArray, List.getElem?_map, List.getD_eq_getElem?_getD, List.getElem?_eq_getElem hk']; rfl
      generalize keysL.getD k 0 = kk at r1 HR
      generalize ws.getD k 0 = ww at r2 HR
      have hk1 : (k : Int) < 64 := by omega
      have oe := ok.e
      have oa := ok.a
      go_wp2
      go_quiet ((first | (go_at_call 107; exact Calls.quiet_of_same (turned_e v.e oe _))))
      go_wp2_with fail
      refine (turned_a v.a oa _).mono ?_
      rintro e w' ⟨rfl, rfl⟩
      go_wp2
      go_roundw
      case rel =>
        refine ⟨k + 1, n + nq, round8 kk ww v, by omega, by go_num, HR.out.symm, round8_ok ok _ _, ?_, rfl, rfl, rfl, ?_, rfl, rfl, rfl, ?_⟩
        · rw [tOne_val ok, tTwo_val ok, add_val]; rfl
        · rw [tOne_val ok, add_val]; rfl
        · show _ = _
          rw [HWr.out, drewN_twice]
      case measure => simp [intOf]; omega
    · obtain rfl : k = 64 := by omega
      have HS : Hid (R = s.plus v) := by show _ = _; rw [HB.out, HVk.out]
      have kwr : KB wr w.heap.size 98 s.vals.toArray := by rw [HWr.out]; exact kw2
      have krr : KB wr (w.heap.size + 1) 98 zero8 := by rw [HWr.out]; exact kr2
      have Br : Below w.heap.size w wr := by rw [HWr.out]; exact Below_drawn B2 n
      have zr' : w.heap.size + 1 < wr.heap.size := krr.lt
      clear kw2 kr2 B2 t2 k3 HL HW HVk
      go_wp2
      have krr' := krr
      unfold zero8 at krr'
      obtain ⟨wo, hwo⟩ : ∃ wo : World, wo = wr := ⟨_, rfl⟩
      subst hwo
      go_loopw [97] (fun i wr => ∃ k : Nat, k ≤ 8 ∧ i = .int .i64 k ∧ KB wr w.heap.size 98 (mixV s v k).toArray ∧ wo.grownBy wr (some w.heap.size)) (fun i _ => 8 - (intOf i).toNat)
      case atStart => exact ⟨0, by omega, rfl, kwr, World.grownBy.refl _ _⟩
      case round =>
        obtain ⟨k, hk8, rfl, hkb, hgr⟩ := hrel
        by_cases h8 : k < 8
        · obtain ⟨x, y, e1, e2, e3⟩ := mixV_step s v k h8
          have cx : wr.cell? ⟨w.heap.size, k, none⟩ = some (.int .u32 (x : Int)) := by rw [hkb.cell, List.getElem?_toArray, e1]
          have fx := hkb.free k
          have hix : ∀ W : World, (Instr.index 98 (.agg #[.int .u32 v.a, .int .u32 v.b, .int .u32 v.c, .int .u32 v.d, .int .u32 v.e, .int .u32 v.f, .int .u32 v.g, .int .u32 v.h]) (.int .i64 (k : Int))).run Tryd.prog W = .ok (.int .u32 (y : Int)) W :=
            fun W => run_index_row W _ 97 8 _ _ k _ Tryd.underlying98 (by kernel_rfl) .u32 Tryd.underlying97 h8 (by simpa [S8.vals] using e2)
          have E3 := Lib.hid e3
          have hk9 : (k : Int) < 8 := by omega
          clear e1 e2 e3
          go_wp2
          go_roundw
          case rel =>
            refine ⟨k + 1, by omega, by go_num, ?_, grown_trans hgr (grown_set _ _ _ _)⟩
            have := hkb.put k (wv (add32 x y))
            rw [← E3.out, add_val]
            simpa using this
          case measure => simp [intOf]; omega
        · obtain rfl : k = 8 := by omega
          have kr8 := krr'.grown hgr (by simp)
          have B8 := Br.trans (below_of_grown' hgr (Nat.le_refl _) Br.size)
          rw [mixV_eight, ← HS.out] at hkb
          clear hgr krr krr' kwr
          go_wp2_with (first
            | (refine wpList_load_kb rfl 98 (.tmp 2) rfl w.heap.size rfl _ R.vals hkb _ Tryd.underlying98 rfl 8 (by kernel_rfl) (vals_length R) ?_)
            | (refine wpList_store_kb rfl 98 (.tmp 4) (.tmp 108) rfl (w.heap.size + 1) R.vals rfl rfl _ [wv 0, wv 0, wv 0, wv 0, wv 0, wv 0, wv 0, wv 0] kr8 8 (by kernel_rfl) rfl (vals_length R) (vals_one R) ?_; intro w9 k9 g9))
          refine bodyPost_ret (results_cell_row (P := Tryd.prog) rfl _ w9 (w.heap.size + 1) _ R.vals.toArray (0, 0) _ rfl k9 Tryd.underlying98 rfl (by rw [show R.vals.toArray.size = 8 from rfl]; kernel_rfl)) rfl ⟨by rw [HRR.out], B8.trans (below_of_grown' g9 (by omega) B8.size)⟩
end Go.Proofs.YtgoifhpinoodgaaDoor
end

section
namespace Go.Proofs.YtgoifhpinoodgaaDoor
open Go.ChangeShapes Go.WideShapes Go.ChangeAt Go.RowKit
set_option linter.unusedVariables false

theorem tRoots : (Tryd.prog.globals[0]?).map (·.type) = some 116 := by kernel_rfl
theorem cells_word : Tryd.prog.cellsOf 97 = 1 := by kernel_rfl
theorem cells_table : Tryd.prog.cellsOf 116 = 64 := by kernel_rfl
theorem roots_data : (Rows.laid_hanaper_sha_roots : DataW Unit) = .agg (keysL.map fun (x : Nat) => .lit (.int .u32 (x : Int))) := by kernel_rfl

set_option maxRecDepth 100000 in
theorem tab_of_laid {W : World} {s : String} (hs : Tryd.prog.globalNamed s = some 0) (h : laidMetH Tryd.prog [(s, Rows.laid_hanaper_sha_roots)] W) : Tab W := by
  rw [MakeChecks.laidMetH_plain _ _ _ (by kernel_rfl)] at h
  obtain ⟨ps, ⟨g0, t0, cs0, f0, p0, q0, hg0, ht0, hv0, hd0, _, _⟩, _, _⟩ := h
  obtain rfl := Option.some.inj (hs.symm.trans hg0)
  obtain rfl := Option.some.inj (tRoots.symm.trans ht0)
  rw [roots_data] at hd0
  obtain ⟨xs, m1, rfl, hx1, hlen, hn, hel⟩ := DataW.trod_array Tryd.underlying116 hd0
  simp only [Prod.mk.injEq, DataW.agg.injEq] at hx1
  rw [cells_table] at hlen
  have hcell : ∀ i, i < 64 → W.cell? ⟨0, i, none⟩ = some (.int .u32 ((keysL.getD i 0 : Nat) : Int)) := by
    intro i hi
    have h0 := hel i hi
    rw [cells_word, Nat.mul_one] at h0
    have hix : xs[i]? = some (xs[i]'(by omega)) := List.getElem?_eq_getElem (by omega)
    rw [hix] at h0
    obtain ⟨n, e1, e2, _⟩ := DataW.trod_int Tryd.underlying97 h0
    have hk : i < keysL.length := by rw [keysL_length]; exact hi
    have hxi : (xs[i]'(by omega)).1 = .lit (.int .u32 ((keysL[i] : Nat) : Int)) := by
      have := congrArg (fun l => l[i]?) hx1.1
      simp only [List.getElem?_map, hix, List.getElem?_eq_getElem hk, Option.map_some] at this
      exact (Option.some.inj this).symm
    rw [e2] at hxi
    have hn' : n = ((keysL[i] : Nat) : Int) := by simpa using hxi
    rw [World.var?_cell hg0 hv0 i]
    have hd : cs0.toList[i]? = some (.int .u32 n) := by
      have := congrArg (fun l => l[0]?) e1
      simp only [List.getElem?_take, List.getElem?_drop, Nat.add_zero] at this
      simpa using this
    rw [← Array.getElem?_toList, hd, hn']
    simp [List.getD, List.getElem?_eq_getElem hk]
  exact ⟨Nat.lt_of_le_of_lt (Nat.zero_le _) (World.block_lt_of_cell? W _ (hcell 0 (by omega))), hcell⟩

end Go.Proofs.YtgoifhpinoodgaaDoor
end

section
namespace Go.Proofs.YtgoifhpinoodgaaDoor
open Go.RowKit
set_option linter.unusedVariables false

theorem nums_str (l : List UInt8) : strOfNums (l.map fun b => (b.toNat : Int)) = ⟨l.toArray⟩ := by
  unfold strOfNums
  congr 2
  rw [List.map_map]
  have : ((fun n : Int => UInt8.ofNat n.toNat) ∘ fun b : UInt8 => (b.toNat : Int)) = id := by
    funext b
    simp
  rw [this, List.map_id]

/-- string(b). -/
theorem BS.str {P : Program} {w : World} {S : Nat → Prop} {v : Value} {l : List UInt8} (h : BS w S v l) {src e dst : TypeId} (hs : P.underlying src = some (.slice e)) (he : P.underlying e = some (.int .u8)) (hd : P.underlying dst = some .string) :
    (convert src dst v).run P w = .ok (.string ⟨l.toArray⟩) w := by
  obtain ⟨A, c, rfl, hc, hm, hn⟩ := h.form
  by_cases h0 : l = []
  · subst h0
    cases A with
    | none => exact run_convert_bytes_nil w src e hs he 0 c dst hd
    | some a =>
      obtain ⟨b, o, s⟩ := a
      have hz : ∀ (a : Addr), (loadCells a 0).run P w = .ok #[] w := by
        intro a
        simp [loadCells, loadCellsFrom]
      rw [run_convert_bytes_string w src dst e _ _ _ hs he hd]
      simp [Conv.bytesToString, hz]
      rfl
  · have hp : 0 < l.length := by cases l with
    | nil => exact absurd rfl h0
    | cons a t => simp
    obtain ⟨b, o, rfl, _, _, hx⟩ := h.at_ hp
    have := run_convert_bytes_arg (P := P) w src e hs he b o l.length c (l.map fun b => (b.toNat : Int)) (by simp) (fun i hi => by
      have := hx i l[i] (List.getElem?_eq_getElem hi)
      rw [this]
      simp [List.getD, List.getElem?_eq_getElem hi]) dst hd
    rw [nums_str] at this
    exact this

theorem cell_bv : Extern.Stop.cell = bv := rfl

/-- Two arrays of bytes compared. -/
theorem eq_bytes {P : Program} (w : World) (d : Nat) (t e : TypeId) (n : Nat) (ht : P.underlying t = some (.array n e)) (he : P.underlying e = some (.int .u8)) (hsz : ∀ w, (sizeOf e).run P w = .ok 1 w)
    (xs ys : List UInt8) (hx : xs.length = n) (hy : ys.length = n) :
    (Op.equalIn (d + 2) t (.agg (xs.map bv).toArray) (.agg (ys.map bv).toArray)).run P w = .ok (xs == ys) w :=
  run_equalIn_bytes w d t e n ht he hsz xs ys hx hy

/-- One byte slice, laid into a block of the call's own. -/
theorem LS.one {w : World} {S : Nat → Prop} {x : Value} {l : List UInt8} {t : TypeId} (hx : BS w S x l) :
    LS (w.alloc (.cells #[x] t)) (fun b => S b ∨ b = w.heap.size) (.slice (some ⟨w.heap.size, 0, none⟩) 1 1) [l] := by
  refine ⟨_, 1, rfl, by simp, by simp [maxLen], fun _ => ⟨w.heap.size, 0, rfl, .inr rfl, by simp, fun j l' hj => ?_⟩⟩
  have hk := KB.new w t #[x]
  match j, hj with
  | 0, hj => simp at hj; subst hj; exact ⟨x, hk.cell 0, (hx.alloc _).mono fun b h => .inl h⟩

/-- It lies below the heap's end. -/
theorem LS.lt {w : World} {S : Nat → Prop} {v : Value} {ls : List (List UInt8)} (h : LS w S v ls) : LS w (fun b => b < w.heap.size) v ls := by
  obtain ⟨A, c, e, hl, hc, hx⟩ := h
  refine ⟨A, c, e, hl, hc, fun h0 => ?_⟩
  obtain ⟨b, o, ea, sb, hb, hx⟩ := hx h0
  refine ⟨b, o, ea, hb, hb, fun j l hj => ?_⟩
  obtain ⟨x, h1, h2⟩ := hx j l hj
  exact ⟨x, h1, h2.lt.mono fun _ h => h.2⟩

theorem LS.nil (w : World) (S : Nat → Prop) : LS w S (.slice none 0 0) [] := ⟨none, 0, rfl, by simp, by simp [maxLen], fun h => absurd h (by simp)⟩

/-- The cells of a block. -/
def rowOf (w : World) (g : Nat) : Array Value := match w.heap[g]? with
  | some (.cells cs _ _) => cs
  | _ => #[]
theorem rowOf_kb {w : World} {g : Nat} {t : TypeId} {cs : Array Value} (h : KB w g t cs) : rowOf w g = cs := by
  unfold rowOf
  unfold KB at h
  rw [h]
theorem rowOf_drew (w : World) (g : Nat) : rowOf w.drew g = rowOf w g := rfl
theorem rowOf_drewN (w : World) (g n : Nat) : rowOf (w.drewN n) g = rowOf w g := rfl

/-- A whole array is read out of the block that it fills: as the walk asks it, in whatever world. -/
theorem run_loadAt_rowOf {P : Program} {ty e : TypeId} {n : Nat} (hu : P.underlying ty = some (.array n e)) {m : Nat} (hi : (P.info? ty).map (·.size) = some m) (hm : 0 < m) (w : World) (g : Nat) (h : (rowOf w g).size = m) :
    (Instr.loadAt ty (.pointer (some ⟨g, 0, none⟩))).run P w = .ok (.agg (rowOf w g)) w := by
  have hr : w.rangeAt g 0 (rowOf w g).toList := by
    intro j v hj
    unfold rowOf at hj h
    split at hj
    · rename_i cs t fr hg
      rw [cell_of_row w g (0 + j) cs t fr hg, Nat.zero_add]
      simpa using hj
    · simp at hj
  have := run_loadAt_mid (P := P) w g 0 ty (rowOf w g).toList _ hr hu rfl (by rw [hi]; simp [h])
  simpa using this

/-- The block that a pointer to a block's head names. -/
def ptrBlock (v : Value) : Nat := match v with
  | .pointer (some ⟨g, 0, none⟩) => g
  | _ => 0
theorem ptrBlock_mk (g : Nat) : ptrBlock (.pointer (some ⟨g, 0, none⟩)) = g := rfl

/-- The same, at the level of the whole operation (for a region that draws its order). -/
theorem wp_load_rowOf {P : Program} {ty e : TypeId} {n : Nat} (hu : P.underlying ty = some (.array n e)) {m : Nat} (hi : (P.info? ty).map (·.size) = some m) (hm : 0 < m)
    {d : Option Tmp} {x : Operand} {t : TypeId} {pos : String} {after : Array Edge} {gd : Option (Nat × Bool)} {a : Act} {w : World} {K : Act → World → Prop} {Q : Exit → Act → World → Prop}
    (hx : a.eval x = .pointer (some ⟨ptrBlock (a.eval x), 0, none⟩)) (h : (rowOf w (ptrBlock (a.eval x))).size = m) :
    Oper.wp P { dst := d, op := Op.load ty x, type := t, pos := pos, after := after, guard := gd } a w K Q = K (a.put d (.agg (rowOf w (ptrBlock (a.eval x))))) w := by
  have hrun := run_loadAt_rowOf (P := P) hu hi hm w _ h
  rw [← hx] at hrun
  unfold Oper.wp execOp
  simp only [Sem.run_bind, hrun, Result.andThen_ok, Sem.run_pure]
  rfl
end Go.Proofs.YtgoifhpinoodgaaDoor
end
