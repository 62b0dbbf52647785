/-
  ShaF: A Hash: New and Write: each one's contract over the loaded program. No condition but the worlds' shapes that each contract names (the table roots among them).
-/
import Derived.Test.YteddmnoeljakpaaGreatDoorSw08
import Derived.Deep.RegionWith
set_option linter.unusedVariables false
set_option maxRecDepth 100000
namespace Go.Proofs.YteddmnoeljakpaaGreatDoor
section
open Go.RowKit
theorem hrow_new : (#[Value.int .u32 1779033703, Value.int .u32 3144134277, Value.int .u32 1013904242, Value.int .u32 2773480762, Value.int .u32 1359893119, Value.int .u32 2600822924, Value.int .u32 528734635, Value.int .u32 1541459225, Value.int .u8 0, Value.int .u8 0, Value.int .u8 0, Value.int .u8 0, Value.int .u8 0, Value.int .u8 0, Value.int .u8 0, Value.int .u8 0, Value.int .u8 0, Value.int .u8 0, Value.int .u8 0, Value.int .u8 0, Value.int .u8 0, Value.int .u8 0, Value.int .u8 0, Value.int .u8 0, Value.int .u8 0, Value.int .u8 0, Value.int .u8 0, Value.int .u8 0, Value.int .u8 0, Value.int .u8 0, Value.int .u8 0, Value.int .u8 0, Value.int .u8 0, Value.int .u8 0, Value.int .u8 0, Value.int .u8 0, Value.int .u8 0, Value.int .u8 0, Value.int .u8 0, Value.int .u8 0, Value.int .u8 0, Value.int .u8 0, Value.int .u8 0, Value.int .u8 0, Value.int .u8 0, Value.int .u8 0, Value.int .u8 0, Value.int .u8 0, Value.int .u8 0, Value.int .u8 0, Value.int .u8 0, Value.int .u8 0, Value.int .u8 0, Value.int .u8 0, Value.int .u8 0, Value.int .u8 0, Value.int .u8 0, Value.int .u8 0, Value.int .u8 0, Value.int .u8 0, Value.int .u8 0, Value.int .u8 0, Value.int .u8 0, Value.int .u8 0, Value.int .u8 0, Value.int .u8 0, Value.int .u8 0, Value.int .u8 0, Value.int .u8 0, Value.int .u8 0, Value.int .u8 0, Value.int .u8 0, Value.int .u64 0, Value.bool true] : Array Value) = (hcells init8 (List.replicate 64 0) 0).toArray := by kernel_rfl
def HS (w : World) (g : Nat) (T : List UInt8) : Prop :=
  ∃ x : List UInt8, x.length = 64 ∧ x.take (T.length % 64) = T.drop (64 * (T.length / 64)) ∧ KB w g 232 (hcells (blocksN init8 T (T.length / 64)) x T.length).toArray
def zero74 : Array Value := #[Value.int .u32 0, Value.int .u32 0, Value.int .u32 0, Value.int .u32 0, Value.int .u32 0, Value.int .u32 0, Value.int .u32 0, Value.int .u32 0, Value.int .u8 0, Value.int .u8 0, Value.int .u8 0, Value.int .u8 0, Value.int .u8 0, Value.int .u8 0, Value.int .u8 0, Value.int .u8 0, Value.int .u8 0, Value.int .u8 0, Value.int .u8 0, Value.int .u8 0, Value.int .u8 0, Value.int .u8 0, Value.int .u8 0, Value.int .u8 0, Value.int .u8 0, Value.int .u8 0, Value.int .u8 0, Value.int .u8 0, Value.int .u8 0, Value.int .u8 0, Value.int .u8 0, Value.int .u8 0, Value.int .u8 0, Value.int .u8 0, Value.int .u8 0, Value.int .u8 0, Value.int .u8 0, Value.int .u8 0, Value.int .u8 0, Value.int .u8 0, Value.int .u8 0, Value.int .u8 0, Value.int .u8 0, Value.int .u8 0, Value.int .u8 0, Value.int .u8 0, Value.int .u8 0, Value.int .u8 0, Value.int .u8 0, Value.int .u8 0, Value.int .u8 0, Value.int .u8 0, Value.int .u8 0, Value.int .u8 0, Value.int .u8 0, Value.int .u8 0, Value.int .u8 0, Value.int .u8 0, Value.int .u8 0, Value.int .u8 0, Value.int .u8 0, Value.int .u8 0, Value.int .u8 0, Value.int .u8 0, Value.int .u8 0, Value.int .u8 0, Value.int .u8 0, Value.int .u8 0, Value.int .u8 0, Value.int .u8 0, Value.int .u8 0, Value.int .u8 0, Value.int .u64 0, Value.bool false]
theorem zero_hash : ∀ w : World, (zeroValue 232).run Tryz.prog w = .ok (.agg zero74) w := fun _ => by kernel_rfl
set_option maxRecDepth 100000 in
set_option maxHeartbeats 1000000 in
theorem hnew_any (w : World) :
    Calls Tryz.prog 159 #[] w fun e w' => e = .returned (.pointer (some ⟨w.heap.size, 0, none⟩)) ∧ HS w' w.heap.size [] ∧ Below w.heap.size w w' := by
  have hz := zero_hash
  unfold zero74 at hz
  go_enter Tryz.func159, Tryz.ntmps159
  go_wp2
  rw [hrow_new]
  go_ret
  exact ⟨rfl, ⟨_, by simp, by simp, KB.new _ _ _⟩, (Below.refl _ _).alloc (Nat.le_refl _) _⟩
open Go.RowKit in
theorem put8 {W : World} {g : Nat} {t : TypeId} {s : S8} {x : List UInt8} {n : Nat} (h : KB W g t (hcells s x n).toArray) (R : S8) :
    KB ((((((((W.setCell ⟨g, 0, none⟩ (.int .u32 (R.a : Int))).setCell ⟨g, 1, none⟩ (.int .u32 (R.b : Int))).setCell ⟨g, 2, none⟩ (.int .u32 (R.c : Int))).setCell ⟨g, 3, none⟩ (.int .u32 (R.d : Int))).setCell ⟨g, 4, none⟩ (.int .u32 (R.e : Int))).setCell
      ⟨g, 5, none⟩ (.int .u32 (R.f : Int))).setCell ⟨g, 6, none⟩ (.int .u32 (R.g : Int))).setCell ⟨g, 7, none⟩ (.int .u32 (R.h : Int))) g t (hcells R x n).toArray ∧
    W.grownBy ((((((((W.setCell ⟨g, 0, none⟩ (.int .u32 (R.a : Int))).setCell ⟨g, 1, none⟩ (.int .u32 (R.b : Int))).setCell ⟨g, 2, none⟩ (.int .u32 (R.c : Int))).setCell ⟨g, 3, none⟩ (.int .u32 (R.d : Int))).setCell ⟨g, 4, none⟩ (.int .u32 (R.e : Int))).setCell
      ⟨g, 5, none⟩ (.int .u32 (R.f : Int))).setCell ⟨g, 6, none⟩ (.int .u32 (R.g : Int))).setCell ⟨g, 7, none⟩ (.int .u32 (R.h : Int))) (some g) := by
  have h8 := KB.setCells R.vals 0 W _ h (by simp [hcells, S8.vals])
  rw [splice_words] at h8
  exact ⟨h8, grown_cells W g R.vals 0 W⟩
theorem mixed_lit (S : Nat → Prop) (v : Value) (l : List UInt8) (hl : 64 ≤ l.length) (s : S8) (hs : s.Ok) (R : S8) (hR : Hid (R = block8 s l)) (w : World) (h : BS w S v l) (ht : Tab w) :
    Calls Tryz.prog 194 #[.agg #[.int .u32 (s.a : Int), .int .u32 (s.b : Int), .int .u32 (s.c : Int), .int .u32 (s.d : Int), .int .u32 (s.e : Int), .int .u32 (s.f : Int), .int .u32 (s.g : Int), .int .u32 (s.h : Int)], v] w fun e w' =>
      e = .returned (.agg #[.int .u32 (R.a : Int), .int .u32 (R.b : Int), .int .u32 (R.c : Int), .int .u32 (R.d : Int), .int .u32 (R.e : Int), .int .u32 (R.f : Int), .int .u32 (R.g : Int), .int .u32 (R.h : Int)]) ∧ Below w.heap.size w w' := by
  have := mixed_any S v l hl s hs w h ht
  rw [← hR.out] at this
  exact this
theorem tail_BS {w : World} {g : Nat} {t : TypeId} {s : S8} {x : List UInt8} {n : Nat} (h : KB w g t (hcells s x n).toArray) (hx : x.length = 64) :
    BS w (fun b => b = g) (.slice (some ⟨g, 8, none⟩) 64 64) x := by
  refine ⟨_, 64, by rw [hx], by omega, by simp [maxLen], (fun h => by cases h), fun _ => ⟨g, 8, rfl, rfl, h.lt, fun j u hu => ?_⟩⟩
  have hj := (List.getElem?_eq_some_iff.1 hu).1
  have := (KB.part (a := s.vals) (b := x.map bv) (c := [.int .u64 (n : Int), .bool true]) h) j (bv u) (by simp [hu])
  exact this
def lenV (v : Value) : Nat := match v with | .slice _ n _ => n | _ => 0
set_option maxRecDepth 100000 in
set_option maxHeartbeats 2000000 in
theorem write_any (S : Nat → Prop) (v : Value) (b : List UInt8) (g : Nat) (T : List UInt8) (w : World) (hs : HS w g T) (hb : BS w S v b) (hS : ¬ S g) (ht : Tab w) (hg : 1 < g) (hlen : T.length + b.length < 1152921504606846976) :
    Calls Tryz.prog 160 #[.pointer (some ⟨g, 0, none⟩), v] w fun e w' => e = .returned (.tuple #[]) ∧ HS w' g (T ++ b) ∧ w.grownBy w' (some g) := by
  obtain ⟨x, hx, hxt, hk⟩ := hs
  have cs : w.cell? ⟨g, 72, none⟩ = some (.int .u64 (T.length : Int)) := by rw [hk.cell, List.getElem?_toArray, hcells_size _ _ _ hx]
  have cm : w.cell? ⟨g, 73, none⟩ = some (.bool true) := by rw [hk.cell, List.getElem?_toArray, hcells_made _ _ _ hx]
  obtain ⟨A, c, rfl, hc, hm, hn⟩ := hb.form
  have hfs := hk.free 72
  by_cases h0 : T.length % 64 = 0
  · have h0' : (T.length : Int) % 64 = 0 := by omega
    go_enter Tryz.func160, Tryz.ntmps160
    go_wp2
    obtain ⟨TT, hTT⟩ : ∃ TT, TT = T ++ b := ⟨_, rfl⟩
    obtain ⟨p0, hp⟩ : ∃ p, p = T.length / 64 := ⟨_, rfl⟩
    have hTl : TT.length = T.length + b.length := by rw [hTT, List.length_append]
    have hp0 : 64 * p0 ≤ TT.length := by omega
    have hTp : T.length = 64 * p0 := by omega
    have e1 : TT.drop (64 * p0) = b := by rw [hTT, ← hTp, List.drop_left]
    have e2 : blocksN init8 TT p0 = blocksN init8 T (T.length / 64) := by rw [hTT, ← hp, blocksN_append _ _ _ _ (by omega)]
    have hn0 : b.length = TT.length - 64 * p0 := by omega
    rw [show (T.length : Int) + (b.length : Int) = ((TT.length : Nat) : Int) from by omega]
    have kW := hk.put 72 (.int .u64 (TT.length : Int))
    rw [List.setIfInBounds_toArray, hcells_set _ _ _ _ hx, ← e2] at kW
    have gW := grown_set w g 72 (.int .u64 (TT.length : Int))
    have tW := ht.grown gW hg
    have hbW : BS (w.setCell ⟨g, 72, none⟩ (.int .u64 (TT.length : Int))) S (.slice A b.length c) (TT.drop (64 * p0)) := by rw [e1]; exact hb.setCell (p := ⟨g, 72, none⟩) hS (.int .u64 (TT.length : Int))
    have HTT := Lib.hid hTT
    have HX := Lib.hid hxt
    generalize w.setCell ⟨g, 72, none⟩ (.int .u64 (TT.length : Int)) = W1 at *
    have HTl := Lib.hid hTl
    have HTp := Lib.hid hTp
    have Hn0 := Lib.hid hn0
    have Hx := Lib.hid hx
    clear hTT e1 e2 hk cs cm hb hxt hp hfs h0 h0' hTl hTp hn0 hx
    go_loopw [1] (fun u wr => ∃ (p : Nat) (x : List UInt8) (A : Option Addr) (n c : Nat), 64 * p ≤ TT.length ∧ Hid (n = TT.length - 64 * p) ∧ u = .slice A n c ∧ BS wr S (.slice A n c) (TT.drop (64 * p)) ∧ Hid (x.length = 64) ∧
        KB wr g 232 (hcells (blocksN init8 TT p) x TT.length).toArray ∧ Tab wr ∧ w.grownBy wr (some g)) (fun u _ => lenV u)
    case atStart => exact ⟨p0, x, _, _, _, hp0, Hn0, rfl, hbW, Hx, kW, tW, gW⟩
    case round =>
      clear kW tW gW hbW Hx Hn0 hp0
      obtain ⟨p, x, A, n, c, hp, HN, rfl, hbr, HX, kr, tr, gr⟩ := hrel
      have HDL : Hid ((TT.drop (64 * p)).length = n) := by show _ = _; rw [List.length_drop, HN.out]
      by_cases h64 : 64 ≤ n
      · obtain ⟨ba, bo, rfl, _, _, _⟩ := hbr.at_ (by rw [HDL.out]; omega)
        have hok := blocksN_ok init8_ok TT p
        have HR : Hid (blocksN init8 TT (p + 1) = block8 (blocksN init8 TT p) (TT.drop (64 * p))) := rfl
        have hd2 := hbr.drop 64 (by rw [HDL.out]; omega)
        have HD : Hid ((TT.drop (64 * p)).drop 64 = TT.drop (64 * (p + 1))) := by show _ = _; rw [List.drop_drop]; congr 1
        rw [HD.out] at hd2
        have hmix := mixed_any S _ (TT.drop (64 * p)) (by rw [HDL.out]; omega) (blocksN init8 TT p) hok wr hbr tr
        rw [← HR.out] at hmix
        generalize hRR : blocksN init8 TT (p + 1) = R at *
        have HRR := Lib.hid hRR
        clear hRR
        generalize blocksN init8 TT p = s0 at *
        have HM := Lib.hid hmix
        have hcc : n ≤ c := by obtain ⟨_, _, e, hl, _⟩ := hbr.form; injection e with e1 e2 e3; omega
        have h64c : (64 : Int) ≤ (c : Int) := by omega
        have h64n : (64 : Int) ≤ (n : Int) := by omega
        have hc63 : c ≤ 9223372036854775807 := by obtain ⟨_, _, e, _, hl, _⟩ := hbr.form; injection e with e1 e2 e3; unfold maxLen at hl; omega
        clear hmix
        have rg := KB.part (a := []) (b := s0.vals) (c := x.map bv ++ [.int .u64 (TT.length : Int), .bool true]) kr
        go_wp2_with (first
          | (refine wpList_load_mid rfl 229 (.tmp 74) rfl g 0 rfl s0.vals _ rg Tryz.underlying229 rfl (by rw [vals_length]; kernel_rfl) ?_)
          | (go_at_call 194; refine HM.out.mono ?_; rintro e W3 ⟨rfl, b3⟩; have k3 := kr.below b3 kr.lt; have t3 := tr.below b3; have d3 := hd2.below' b3)
          | (refine wpList_store_part rfl 229 (.tmp 79) (.tmp 77) rfl g 0 R.vals rfl rfl _ _ k3 8 (by kernel_rfl) (vals_length R) (by rw [hcells_length _ _ _ HX.out]; omega) (vals_one R) ?_
             intro W4 k4 g4
             rw [splice_words] at k4
             have gW4 := grown_trans gr (grown_trans (grown_of_below b3 (some g)) g4)
             have t4 := t3.grown g4 hg
             have d4 := d3.grown g4 (by rintro q hq; injection hq with hq; rw [← hq]; exact hS)
             clear k3 t3 d3 b3 g4 HM rg))
        rw [show (if c = 64 then some (⟨ba, bo, none⟩ : Addr) else some ⟨ba, bo + 64, none⟩) = some (if c = 64 then ⟨ba, bo, none⟩ else ⟨ba, bo + 64, none⟩) from by split <;> rfl]
        go_roundw
        case rel =>
          have hnn := HN.out
          exact ⟨p + 1, x, _, _, _, by omega, (show _ = _ by omega), rfl, d4, HX, by rw [HRR.out]; exact k4, t4, gW4⟩
        case measure => simp [lenV]; omega
      · have hn64 : n < 64 := by omega
        have h64f : ¬ 64 ≤ (n : Int) := by omega
        have HL : Hid (TT.length / 64 = p) := by show _ = _; have := HN.out; omega
        have HY : Hid ((TT.drop (64 * p)).take 64 = TT.drop (64 * p)) := by show _ = _; exact List.take_of_length_le (by rw [HDL.out]; omega)
        have hok := hcells_length (blocksN init8 TT p) x TT.length HX.out
        go_wp2_with (refine wpList_copy_kb rfl (.tmp 85) (.tmp 86) 55 55 rfl 5 Tryz.underlying55 (by kernel_rfl) g 8 64 64 rfl _ _ kr (by rw [hok]; omega) S _ _ rfl hbr ?_; intro W5 k5 g5)
        go_end0
        rw [HY.out, show 8 = 8 + 0 from rfl, splice_tail _ _ _ _ _ (by rw [HDL.out, HX.out]; omega)] at k5
        rw [← HTT.out]
        refine ⟨rfl, ⟨splice x 0 (TT.drop (64 * p)), by rw [length_splice x 0 _ (by rw [HDL.out, HX.out]; omega)]; exact HX.out, ?_, by rw [HL.out]; exact k5⟩, grown_trans gr g5⟩
        have := splice_take x 0 (TT.drop (64 * p)) (by rw [HDL.out, HX.out]; omega)
        rw [Nat.zero_add, HDL.out] at this
        rw [HL.out, show TT.length % 64 = n from by have := HN.out; omega, this]
        simp
  · obtain ⟨r, hr⟩ : ∃ r, r = T.length % 64 := ⟨_, rfl⟩
    obtain ⟨q, hq⟩ : ∃ q, q = T.length / 64 := ⟨_, rfl⟩
    have hr0 : 0 < r := by omega
    have hr1 : r < 64 := by omega
    have hqr : T.length = 64 * q + r := by omega
    have h0' : (T.length : Int) % 64 = (r : Int) := by omega
    rw [← hq] at hk hxt
    rw [← hr] at hxt
    have hok := hcells_length (blocksN init8 T q) x T.length hx
    have hri : (0 : Int) < (r : Int) := by omega
    have hrj : (r : Int) ≤ 64 := by omega
    have hne : ¬ 64 = r := by omega
    have HR0 := Lib.hid hr
    have HQ0 := Lib.hid hq
    have HQR := Lib.hid hqr
    have Hx := Lib.hid hx
    have Hxt := Lib.hid hxt
    have Hok := Lib.hid hok
    clear hr h0 hx hxt hok hq hqr
    by_cases hfull : r + b.length < 64
    · have HMin : Hid (goInt (Nat.min b.length (64 - r)) = .int .i64 (b.length : Int)) := by show _ = _; rw [show Nat.min b.length (64 - r) = b.length from Nat.min_eq_left (by omega)]; rfl
      have HTk : Hid (b.take (64 - r) = b) := by show _ = _; exact List.take_of_length_le (by omega)
      have hlt : (r : Int) + (b.length : Int) < 64 := by omega
      go_enter Tryz.func160, Tryz.ntmps160
      go_wp2_with (
         refine wpList_copy_kb rfl (.tmp 27) (.tmp 28) 55 55 rfl 5 Tryz.underlying55 (by kernel_rfl) g (8 + r) (64 - r) (64 - r) rfl _ _ hk (by rw [Hok.out]; omega) S _ _ rfl hb ?_
         intro W5 k5 g5
         rw [HMin.out]
         rw [HTk.out, splice_tail _ _ _ _ _ (by rw [Hx.out]; omega)] at k5
         have HX5 : Hid ((splice x r b).length = 64) := by show _ = _; rw [length_splice x r b (by rw [Hx.out]; omega), Hx.out]
         have cs5 : W5.cell? ⟨g, 72, none⟩ = some (.int .u64 (T.length : Int)) := by rw [k5.cell, List.getElem?_toArray, hcells_size _ _ _ HX5.out]
         have fs5 := k5.free 72
         clear cs cm hfs hb)
      have k6 := k5.put 72 (.int .u64 ((T ++ b).length : Int))
      rw [List.setIfInBounds_toArray, hcells_set _ _ _ _ HX5.out] at k6
      have g6 := grown_trans g5 (grown_set W5 g 72 (.int .u64 ((T ++ b).length : Int)))
      have e1 : (T.length : Int) + (b.length : Int) = ((T ++ b).length : Int) := by rw [List.length_append]; omega
      rw [e1]
      refine bodyPost_ret (results_none rfl _ _ _) rfl ⟨rfl, ⟨splice x r b, HX5.out, ?_, ?_⟩, g6⟩
      · have := splice_take x r b (by rw [Hx.out]; omega)
        have hq' : (T ++ b).length / 64 = q := by rw [List.length_append, HQR.out]; omega
        have hm' : (T ++ b).length % 64 = r + b.length := by rw [List.length_append, HQR.out]; omega
        rw [hq', hm', this, Hxt.out, List.drop_append_of_le_length (by rw [HQR.out]; omega)]
      · have hq' : (T ++ b).length / 64 = q := by rw [List.length_append, HQR.out]; omega
        rw [hq', blocksN_append _ _ _ _ (by rw [HQR.out]; omega)]
        exact k6
    · have HMin : Hid (goInt (Nat.min b.length (64 - r)) = .int .i64 ((64 - r : Nat) : Int)) := by show _ = _; rw [show Nat.min b.length (64 - r) = 64 - r from Nat.min_eq_right (by omega)]; rfl
      obtain ⟨m, hm1⟩ : ∃ m, m = 64 - r := ⟨_, rfl⟩
      have hm2 : m ≤ b.length := by omega
      have hm3 : r + m = 64 := by omega
      have hm4 : (r : Int) + (m : Int) = 64 := by omega
      have Hm1 := Lib.hid hm1
      have Hm3 := Lib.hid hm3
      rw [← hm1] at HMin
      obtain ⟨ba, bo, rfl, _, _, _⟩ := hb.at_ (by omega)
      have hc63 : c ≤ 9223372036854775807 := by unfold maxLen at hm; omega
      obtain ⟨y, hy⟩ : ∃ y, y = splice x r (b.take m) := ⟨_, rfl⟩
      have HTl : Hid ((b.take m).length = m) := by show _ = _; rw [List.length_take]; omega
      have HY : Hid (y.length = 64) := by show _ = _; rw [hy, length_splice x r _ (by rw [Hx.out, HTl.out]; omega), Hx.out]
      have HYT : Hid (y = T.drop (64 * q) ++ b.take m) := by
        show _ = _
        have := splice_take x r (b.take m) (by rw [Hx.out, HTl.out]; omega)
        rw [HTl.out, hm3, ← hy, List.take_of_length_le (by rw [HY.out]; omega), Hxt.out] at this
        exact this
      have Hy := Lib.hid hy
      clear hm1 hm3 hy
      have hmi : (m : Int) ≤ (b.length : Int) := by omega
      have hmc : (m : Int) ≤ (c : Int) := by omega
      obtain ⟨TT, hTT⟩ : ∃ TT, TT = T ++ b := ⟨_, rfl⟩
      have hTl : TT.length = T.length + b.length := by rw [hTT, List.length_append]
      have hR : blocksN init8 TT (q + 1) = block8 (blocksN init8 T q) y := by
        simp only [blocksN]
        rw [hTT, blocksN_append _ _ _ _ (by rw [HQR.out]; omega)]
        apply block8_congr
        rw [HYT.out, List.drop_append_of_le_length (by rw [HQR.out]; omega)]
        have e1 : (T.drop (64 * q)).length = r := by rw [List.length_drop, HQR.out]; omega
        have e3 := Hm3.out
        rw [List.take_append, List.take_append, e1, List.take_take, show min (64 - r) m = m from by omega, show 64 - r = m from by omega]
      have hD : TT.drop (64 * (q + 1)) = b.drop m := by
        have e3 := Hm3.out
        rw [hTT, List.drop_append, List.drop_of_length_le (by rw [HQR.out]; omega), List.nil_append, HQR.out]
        congr 1
        omega
      have hok := blocksN_ok init8_ok T q
      have HRR : Hid (blocksN init8 TT (q + 1) = blocksN init8 TT (q + 1)) := rfl
      obtain ⟨R, hRdef⟩ : ∃ R, R = blocksN init8 TT (q + 1) := ⟨_, rfl⟩
      have HR : Hid (R = block8 (blocksN init8 T q) y) := by show _ = _; rw [hRdef, hR]
      have HRd := Lib.hid hRdef
      have HD := Lib.hid hD
      have HTT := Lib.hid hTT
      have HTL := Lib.hid hTl
      clear hR hRdef hD hTT HRR hTl
      have hbd := hb.drop m hm2
      generalize hs0 : blocksN init8 T q = s0 at *
      have HS0 := Lib.hid hs0
      clear hs0
      go_enter Tryz.func160, Tryz.ntmps160
      go_wp2_with (
         rw [show 64 - r = m from Hm1.out.symm]
         refine wpList_copy_kb rfl (.tmp 27) (.tmp 28) 55 55 rfl 5 Tryz.underlying55 (by kernel_rfl) g (8 + r) m m rfl _ _ hk (by rw [Hok.out]; have := Hm3.out; omega) S _ _ rfl hb ?_
         intro W5 k5 g5
         rw [HMin.out]
         rw [splice_tail _ _ _ _ _ (by rw [Hx.out, HTl.out]; have := Hm3.out; omega), ← Hy.out] at k5
         have cs5 : W5.cell? ⟨g, 72, none⟩ = some (.int .u64 (T.length : Int)) := by rw [k5.cell, List.getElem?_toArray, hcells_size _ _ _ HY.out]
         have fs5 := k5.free 72
         have t5 := ht.grown g5 hg
         have bd5 := hbd.grown g5 (by rintro j hj; injection hj with hj; rw [← hj]; exact hS)
         clear cs cm hfs hb hk hbd)
      have k6 := k5.put 72 (.int .u64 ((T.length + m : Nat) : Int))
      rw [List.setIfInBounds_toArray, hcells_set _ _ _ _ HY.out] at k6
      have g6 := grown_trans g5 (grown_set W5 g 72 (.int .u64 ((T.length + m : Nat) : Int)))
      have t6 := t5.grown (grown_set W5 g 72 (.int .u64 ((T.length + m : Nat) : Int))) hg
      have bd6 := bd5.setCell (p := ⟨g, 72, none⟩) hS (.int .u64 ((T.length + m : Nat) : Int))
      rw [show (T.length : Int) + (m : Int) = ((T.length + m : Nat) : Int) from by omega]
      generalize W5.setCell ⟨g, 72, none⟩ (.int .u64 ((T.length + m : Nat) : Int)) = W6 at *
      clear k5 g5 cs5 fs5 t5 bd5
      obtain ⟨TM, hTM⟩ : ∃ TM, TM = T.length + m := ⟨_, rfl⟩
      rw [← hTM] at k6 ⊢
      have HTM := Lib.hid hTM
      clear hTM
      have c0 : W6.cell? ⟨g, 0, none⟩ = some (.int .u32 (s0.a : Int)) := by rw [k6.cell, List.getElem?_toArray, hcells_word _ _ _ _ (by omega)]; rfl
      have c1 : W6.cell? ⟨g, 1, none⟩ = some (.int .u32 (s0.b : Int)) := by rw [k6.cell, List.getElem?_toArray, hcells_word _ _ _ _ (by omega)]; rfl
      have c2 : W6.cell? ⟨g, 2, none⟩ = some (.int .u32 (s0.c : Int)) := by rw [k6.cell, List.getElem?_toArray, hcells_word _ _ _ _ (by omega)]; rfl
      have c3 : W6.cell? ⟨g, 3, none⟩ = some (.int .u32 (s0.d : Int)) := by rw [k6.cell, List.getElem?_toArray, hcells_word _ _ _ _ (by omega)]; rfl
      have c4 : W6.cell? ⟨g, 4, none⟩ = some (.int .u32 (s0.e : Int)) := by rw [k6.cell, List.getElem?_toArray, hcells_word _ _ _ _ (by omega)]; rfl
      have c5 : W6.cell? ⟨g, 5, none⟩ = some (.int .u32 (s0.f : Int)) := by rw [k6.cell, List.getElem?_toArray, hcells_word _ _ _ _ (by omega)]; rfl
      have c6 : W6.cell? ⟨g, 6, none⟩ = some (.int .u32 (s0.g : Int)) := by rw [k6.cell, List.getElem?_toArray, hcells_word _ _ _ _ (by omega)]; rfl
      have c7 : W6.cell? ⟨g, 7, none⟩ = some (.int .u32 (s0.h : Int)) := by rw [k6.cell, List.getElem?_toArray, hcells_word _ _ _ _ (by omega)]; rfl
      have tb6 := tail_BS k6 HY.out
      go_region_with ((first | (
        go_at_call 194
        refine (mixed_lit _ _ y (by rw [HY.out]; omega) s0 hok R HR _ (by exact tb6) (by exact t6)).mono ?_
        rintro e W7 ⟨rfl, b7⟩
        have k7 := KB.below (w := W6.drew) k6 b7 k6.lt
        have t7 := Tab.below (w := W6.drew) t6 b7
        have bd7 := BS.below' (w := W6.drew) bd6 b7
        have g7 : w.grownBy W7 (some g) := grown_trans g6 (grown_trans (⟨rfl, rfl, rfl, Nat.le_refl _, fun _ _ _ => rfl⟩ : W6.grownBy W6.drew (some g)) (grown_of_below b7 _))
        have k70 := (k7.there 0 8 (by rw [hcells_length _ _ _ HY.out]; omega))
        have d0 : W7.cell? ⟨g, 0, none⟩ = some (.int .u32 (s0.a : Int)) := by rw [k7.cell, List.getElem?_toArray, hcells_word _ _ _ _ (by omega)]; rfl
        have d1 : W7.cell? ⟨g, 1, none⟩ = some (.int .u32 (s0.b : Int)) := by rw [k7.cell, List.getElem?_toArray, hcells_word _ _ _ _ (by omega)]; rfl
        have d2 : W7.cell? ⟨g, 2, none⟩ = some (.int .u32 (s0.c : Int)) := by rw [k7.cell, List.getElem?_toArray, hcells_word _ _ _ _ (by omega)]; rfl
        have d3 : W7.cell? ⟨g, 3, none⟩ = some (.int .u32 (s0.d : Int)) := by rw [k7.cell, List.getElem?_toArray, hcells_word _ _ _ _ (by omega)]; rfl
        have d4 : W7.cell? ⟨g, 4, none⟩ = some (.int .u32 (s0.e : Int)) := by rw [k7.cell, List.getElem?_toArray, hcells_word _ _ _ _ (by omega)]; rfl
        have d5 : W7.cell? ⟨g, 5, none⟩ = some (.int .u32 (s0.f : Int)) := by rw [k7.cell, List.getElem?_toArray, hcells_word _ _ _ _ (by omega)]; rfl
        have d6 : W7.cell? ⟨g, 6, none⟩ = some (.int .u32 (s0.g : Int)) := by rw [k7.cell, List.getElem?_toArray, hcells_word _ _ _ _ (by omega)]; rfl
        have d7 : W7.cell? ⟨g, 7, none⟩ = some (.int .u32 (s0.h : Int)) := by rw [k7.cell, List.getElem?_toArray, hcells_word _ _ _ _ (by omega)]; rfl
        have f0 := k7.free 0
        have f1 := k7.free 1
        have f2 := k7.free 2
        have f3 := k7.free 3
        have f4 := k7.free 4
        have f5 := k7.free 5
        have f6 := k7.free 6
        have f7 := k7.free 7)))
      obtain ⟨k8, g8⟩ := put8 k7 R
      have t8 := t7.grown g8 hg
      have bd8 := bd7.grown g8 (by rintro j hj; injection hj with hj; rw [← hj]; exact hS)
      have gw8 := grown_trans g7 g8
      clear b7 k70 d0 d1 d2 d3 d4 d5 d6 d7 f0 f1 f2 f3 f4 f5 f6 f7 c0 c1 c2 c3 c4 c5 c6 c7 tb6 t6 bd6 k6 g6 t7 bd7 g7 k7 g8
      generalize ((((((((W7.setCell ⟨g, 0, none⟩ (.int .u32 (R.a : Int))).setCell ⟨g, 1, none⟩ (.int .u32 (R.b : Int))).setCell ⟨g, 2, none⟩ (.int .u32 (R.c : Int))).setCell ⟨g, 3, none⟩ (.int .u32 (R.d : Int))).setCell ⟨g, 4, none⟩ (.int .u32 (R.e : Int))).setCell
        ⟨g, 5, none⟩ (.int .u32 (R.f : Int))).setCell ⟨g, 6, none⟩ (.int .u32 (R.g : Int))).setCell ⟨g, 7, none⟩ (.int .u32 (R.h : Int))) = W8 at *
      have cs8 : W8.cell? ⟨g, 72, none⟩ = some (.int .u64 (TM : Int)) := by rw [k8.cell, List.getElem?_toArray, hcells_size _ _ _ HY.out]
      have fs8 := k8.free 72
      have hTM : TM ≤ T.length + b.length := by rw [HTM.out]; omega
      by_cases hcm : m = c
      · subst hcm
        rw [if_pos rfl, Nat.sub_self, show b.length - m = 0 from by omega] at bd8
        go_wp2
        have e8 : (TM : Int) + ((b.length - m : Nat) : Int) = ((TT.length : Nat) : Int) := by have := HTM.out; have := HTL.out; omega
        have e9 : (TM : Int) + ((b.length : Int) - (m : Int)) = ((TT.length : Nat) : Int) := by have := HTM.out; have := HTL.out; omega
        rw [show TM = TT.length from by have := HTM.out; have := HTL.out; omega]
        have kW := k8.put 72 (.int .u64 (TT.length : Int))
        rw [List.setIfInBounds_toArray, hcells_set _ _ _ _ HY.out, HRd.out] at kW
        have gW := grown_trans gw8 (grown_set W8 g 72 (.int .u64 (TT.length : Int)))
        have tW := t8.grown (grown_set W8 g 72 (.int .u64 (TT.length : Int))) hg
        have hbW := bd8.setCell (p := ⟨g, 72, none⟩) hS (.int .u64 (TT.length : Int))
        rw [← HD.out] at hbW
        clear k8 gw8 t8 bd8 cs8 fs8 e8 e9
        generalize W8.setCell ⟨g, 72, none⟩ (.int .u64 (TT.length : Int)) = W9 at *
        have hp0 : 64 * (q + 1) ≤ TT.length := by rw [HTL.out, HQR.out]; have := Hm3.out; omega
        have Hn0 : Hid (0 = TT.length - 64 * (q + 1)) := by show _ = _; rw [HTL.out, HQR.out]; have := Hm3.out; omega
        go_loopw [1] (fun u wr => ∃ (p : Nat) (x : List UInt8) (A : Option Addr) (n c : Nat), 64 * p ≤ TT.length ∧ Hid (n = TT.length - 64 * p) ∧ u = .slice A n c ∧ BS wr S (.slice A n c) (TT.drop (64 * p)) ∧ Hid (x.length = 64) ∧
            KB wr g 232 (hcells (blocksN init8 TT p) x TT.length).toArray ∧ Tab wr ∧ w.grownBy wr (some g)) (fun u _ => lenV u)
        case atStart => exact ⟨q + 1, y, _, _, _, hp0, Hn0, rfl, hbW, HY, kW, tW, gW⟩
        case round =>
          clear kW tW gW hbW HY Hy HYT HRd HR HD Hn0 hp0
          obtain ⟨p, x, A, n, c, hp, HN, rfl, hbr, HX, kr, tr, gr⟩ := hrel
          have HDL : Hid ((TT.drop (64 * p)).length = n) := by show _ = _; rw [List.length_drop, HN.out]
          by_cases h64 : 64 ≤ n
          · obtain ⟨ba, bo, rfl, _, _, _⟩ := hbr.at_ (by rw [HDL.out]; omega)
            have hok := blocksN_ok init8_ok TT p
            have HR : Hid (blocksN init8 TT (p + 1) = block8 (blocksN init8 TT p) (TT.drop (64 * p))) := rfl
            have hd2 := hbr.drop 64 (by rw [HDL.out]; omega)
            have HD : Hid ((TT.drop (64 * p)).drop 64 = TT.drop (64 * (p + 1))) := by show _ = _; rw [List.drop_drop]; congr 1
            rw [HD.out] at hd2
            have hmix := mixed_any S _ (TT.drop (64 * p)) (by rw [HDL.out]; omega) (blocksN init8 TT p) hok wr hbr tr
            rw [← HR.out] at hmix
            generalize hRR : blocksN init8 TT (p + 1) = R at *
            have HRR := Lib.hid hRR
            clear hRR
            generalize blocksN init8 TT p = s0 at *
            have HM := Lib.hid hmix
            have hcc : n ≤ c := by obtain ⟨_, _, e, hl, _⟩ := hbr.form; injection e with e1 e2 e3; omega
            have h64c : (64 : Int) ≤ (c : Int) := by omega
            have h64n : (64 : Int) ≤ (n : Int) := by omega
            have hc63 : c ≤ 9223372036854775807 := by obtain ⟨_, _, e, _, hl, _⟩ := hbr.form; injection e with e1 e2 e3; unfold maxLen at hl; omega
            clear hmix
            have rg := KB.part (a := []) (b := s0.vals) (c := x.map bv ++ [.int .u64 (TT.length : Int), .bool true]) kr
            go_wp2_with (first
              | (refine wpList_load_mid rfl 229 (.tmp 74) rfl g 0 rfl s0.vals _ rg Tryz.underlying229 rfl (by rw [vals_length]; kernel_rfl) ?_)
              | (go_at_call 194; refine HM.out.mono ?_; rintro e W3 ⟨rfl, b3⟩; have k3 := kr.below b3 kr.lt; have t3 := tr.below b3; have d3 := hd2.below' b3)
              | (refine wpList_store_part rfl 229 (.tmp 79) (.tmp 77) rfl g 0 R.vals rfl rfl _ _ k3 8 (by kernel_rfl) (vals_length R) (by rw [hcells_length _ _ _ HX.out]; omega) (vals_one R) ?_
                 intro W4 k4 g4
                 rw [splice_words] at k4
                 have gW4 := grown_trans gr (grown_trans (grown_of_below b3 (some g)) g4)
                 have t4 := t3.grown g4 hg
                 have d4 := d3.grown g4 (by rintro q hq; injection hq with hq; rw [← hq]; exact hS)
                 clear k3 t3 d3 b3 g4 HM rg))
            rw [show (if c = 64 then some (⟨ba, bo, none⟩ : Addr) else some ⟨ba, bo + 64, none⟩) = some (if c = 64 then ⟨ba, bo, none⟩ else ⟨ba, bo + 64, none⟩) from by split <;> rfl]
            go_roundw
            case rel =>
              have hnn := HN.out
              exact ⟨p + 1, x, _, _, _, by omega, (show _ = _ by omega), rfl, d4, HX, by rw [HRR.out]; exact k4, t4, gW4⟩
            case measure => simp [lenV]; omega
          · have hn64 : n < 64 := by omega
            have h64f : ¬ 64 ≤ (n : Int) := by omega
            have HL : Hid (TT.length / 64 = p) := by show _ = _; have := HN.out; omega
            have HY : Hid ((TT.drop (64 * p)).take 64 = TT.drop (64 * p)) := by show _ = _; exact List.take_of_length_le (by rw [HDL.out]; omega)
            have hok := hcells_length (blocksN init8 TT p) x TT.length HX.out
            go_wp2_with (refine wpList_copy_kb rfl (.tmp 85) (.tmp 86) 55 55 rfl 5 Tryz.underlying55 (by kernel_rfl) g 8 64 64 rfl _ _ kr (by rw [hok]; omega) S _ _ rfl hbr ?_; intro W5 k5 g5)
            go_end0
            rw [HY.out, show 8 = 8 + 0 from rfl, splice_tail _ _ _ _ _ (by rw [HDL.out, HX.out]; omega)] at k5
            rw [← HTT.out]
            refine ⟨rfl, ⟨splice x 0 (TT.drop (64 * p)), by rw [length_splice x 0 _ (by rw [HDL.out, HX.out]; omega)]; exact HX.out, ?_, by rw [HL.out]; exact k5⟩, grown_trans gr g5⟩
            have := splice_take x 0 (TT.drop (64 * p)) (by rw [HDL.out, HX.out]; omega)
            rw [Nat.zero_add, HDL.out] at this
            rw [HL.out, show TT.length % 64 = n from by have := HN.out; omega, this]
            simp
      · have hcm' : ¬ c = m := fun h => hcm h.symm
        rw [if_neg hcm'] at bd8
        go_wp2
        have e8 : (TM : Int) + ((b.length - m : Nat) : Int) = ((TT.length : Nat) : Int) := by have := HTM.out; have := HTL.out; omega
        have e9 : (TM : Int) + ((b.length : Int) - (m : Int)) = ((TT.length : Nat) : Int) := by have := HTM.out; have := HTL.out; omega
        first | rw [e8] | rw [e9]
        have kW := k8.put 72 (.int .u64 (TT.length : Int))
        rw [List.setIfInBounds_toArray, hcells_set _ _ _ _ HY.out, HRd.out] at kW
        have gW := grown_trans gw8 (grown_set W8 g 72 (.int .u64 (TT.length : Int)))
        have tW := t8.grown (grown_set W8 g 72 (.int .u64 (TT.length : Int))) hg
        have hbW := bd8.setCell (p := ⟨g, 72, none⟩) hS (.int .u64 (TT.length : Int))
        rw [← HD.out] at hbW
        clear k8 gw8 t8 bd8 cs8 fs8 e8 e9
        generalize W8.setCell ⟨g, 72, none⟩ (.int .u64 (TT.length : Int)) = W9 at *
        have hp0 : 64 * (q + 1) ≤ TT.length := by rw [HTL.out, HQR.out]; have := Hm3.out; omega
        have Hn0 : Hid (b.length - m = TT.length - 64 * (q + 1)) := by show _ = _; rw [HTL.out, HQR.out]; have := Hm3.out; omega
        go_loopw [1] (fun u wr => ∃ (p : Nat) (x : List UInt8) (A : Option Addr) (n c : Nat), 64 * p ≤ TT.length ∧ Hid (n = TT.length - 64 * p) ∧ u = .slice A n c ∧ BS wr S (.slice A n c) (TT.drop (64 * p)) ∧ Hid (x.length = 64) ∧
            KB wr g 232 (hcells (blocksN init8 TT p) x TT.length).toArray ∧ Tab wr ∧ w.grownBy wr (some g)) (fun u _ => lenV u)
        case atStart => exact ⟨q + 1, y, _, _, _, hp0, Hn0, rfl, hbW, HY, kW, tW, gW⟩
        case round =>
          clear kW tW gW hbW HY Hy HYT HRd HR HD Hn0 hp0
          obtain ⟨p, x, A, n, c, hp, HN, rfl, hbr, HX, kr, tr, gr⟩ := hrel
          have HDL : Hid ((TT.drop (64 * p)).length = n) := by show _ = _; rw [List.length_drop, HN.out]
          by_cases h64 : 64 ≤ n
          · obtain ⟨ba, bo, rfl, _, _, _⟩ := hbr.at_ (by rw [HDL.out]; omega)
            have hok := blocksN_ok init8_ok TT p
            have HR : Hid (blocksN init8 TT (p + 1) = block8 (blocksN init8 TT p) (TT.drop (64 * p))) := rfl
            have hd2 := hbr.drop 64 (by rw [HDL.out]; omega)
            have HD : Hid ((TT.drop (64 * p)).drop 64 = TT.drop (64 * (p + 1))) := by show _ = _; rw [List.drop_drop]; congr 1
            rw [HD.out] at hd2
            have hmix := mixed_any S _ (TT.drop (64 * p)) (by rw [HDL.out]; omega) (blocksN init8 TT p) hok wr hbr tr
            rw [← HR.out] at hmix
            generalize hRR : blocksN init8 TT (p + 1) = R at *
            have HRR := Lib.hid hRR
            clear hRR
            generalize blocksN init8 TT p = s0 at *
            have HM := Lib.hid hmix
            have hcc : n ≤ c := by obtain ⟨_, _, e, hl, _⟩ := hbr.form; injection e with e1 e2 e3; omega
            have h64c : (64 : Int) ≤ (c : Int) := by omega
            have h64n : (64 : Int) ≤ (n : Int) := by omega
            have hc63 : c ≤ 9223372036854775807 := by obtain ⟨_, _, e, _, hl, _⟩ := hbr.form; injection e with e1 e2 e3; unfold maxLen at hl; omega
            clear hmix
            have rg := KB.part (a := []) (b := s0.vals) (c := x.map bv ++ [.int .u64 (TT.length : Int), .bool true]) kr
            go_wp2_with (first
              | (refine wpList_load_mid rfl 229 (.tmp 74) rfl g 0 rfl s0.vals _ rg Tryz.underlying229 rfl (by rw [vals_length]; kernel_rfl) ?_)
              | (go_at_call 194; refine HM.out.mono ?_; rintro e W3 ⟨rfl, b3⟩; have k3 := kr.below b3 kr.lt; have t3 := tr.below b3; have d3 := hd2.below' b3)
              | (refine wpList_store_part rfl 229 (.tmp 79) (.tmp 77) rfl g 0 R.vals rfl rfl _ _ k3 8 (by kernel_rfl) (vals_length R) (by rw [hcells_length _ _ _ HX.out]; omega) (vals_one R) ?_
                 intro W4 k4 g4
                 rw [splice_words] at k4
                 have gW4 := grown_trans gr (grown_trans (grown_of_below b3 (some g)) g4)
                 have t4 := t3.grown g4 hg
                 have d4 := d3.grown g4 (by rintro q hq; injection hq with hq; rw [← hq]; exact hS)
                 clear k3 t3 d3 b3 g4 HM rg))
            rw [show (if c = 64 then some (⟨ba, bo, none⟩ : Addr) else some ⟨ba, bo + 64, none⟩) = some (if c = 64 then ⟨ba, bo, none⟩ else ⟨ba, bo + 64, none⟩) from by split <;> rfl]
            go_roundw
            case rel =>
              have hnn := HN.out
              exact ⟨p + 1, x, _, _, _, by omega, (show _ = _ by omega), rfl, d4, HX, by rw [HRR.out]; exact k4, t4, gW4⟩
            case measure => simp [lenV]; omega
          · have hn64 : n < 64 := by omega
            have h64f : ¬ 64 ≤ (n : Int) := by omega
            have HL : Hid (TT.length / 64 = p) := by show _ = _; have := HN.out; omega
            have HY : Hid ((TT.drop (64 * p)).take 64 = TT.drop (64 * p)) := by show _ = _; exact List.take_of_length_le (by rw [HDL.out]; omega)
            have hok := hcells_length (blocksN init8 TT p) x TT.length HX.out
            go_wp2_with (refine wpList_copy_kb rfl (.tmp 85) (.tmp 86) 55 55 rfl 5 Tryz.underlying55 (by kernel_rfl) g 8 64 64 rfl _ _ kr (by rw [hok]; omega) S _ _ rfl hbr ?_; intro W5 k5 g5)
            go_end0
            rw [HY.out, show 8 = 8 + 0 from rfl, splice_tail _ _ _ _ _ (by rw [HDL.out, HX.out]; omega)] at k5
            rw [← HTT.out]
            refine ⟨rfl, ⟨splice x 0 (TT.drop (64 * p)), by rw [length_splice x 0 _ (by rw [HDL.out, HX.out]; omega)]; exact HX.out, ?_, by rw [HL.out]; exact k5⟩, grown_trans gr g5⟩
            have := splice_take x 0 (TT.drop (64 * p)) (by rw [HDL.out, HX.out]; omega)
            rw [Nat.zero_add, HDL.out] at this
            rw [HL.out, show TT.length % 64 = n from by have := HN.out; omega, this]
            simp
end
end Go.Proofs.YteddmnoeljakpaaGreatDoor
