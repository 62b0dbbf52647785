/-
  SuG: What the document tells of what is to be done: Right, over the loaded program: its contract. No condition but what each theorem names.
-/
import Derived.Test.YteddmnoeljakpaaGreatDoorSw42
set_option linter.unusedVariables false
set_option maxRecDepth 100000
namespace Go.Proofs.YteddmnoeljakpaaGreatDoor
section
open Go.RowKit
set_option maxHeartbeats 16000000 in
theorem rright13_any (c : CI) (hm : c.may) (S T : Nat → Prop) (v u : Value) (l d : List Fi) (w : World) (h : FS w S v l) (g : FS w T u d) (hl : l.length ≤ 100000) (hd : d.length ≤ 100000) (hlb : ∀ f ∈ l, f.b.length ≤ 1000000) (hdb : ∀ f ∈ d, f.b.length ≤ 1000000) :
  Calls Tryz.prog 16 #[cfgV c, v, u] w fun e w' => e = .returned (.int .i64 (rightL c l d)) ∧ Below w.heap.size w w' := by
 obtain ⟨A, cp, rfl, hlc, hcm⟩ := h.form
 obtain ⟨B, cq, rfl, hdc, hdm⟩ := g.form
 have hd63 : d.length ≤ 9223372036854775807 := by omega
 have hl63 : l.length ≤ 9223372036854775807 := by omega
 obtain ⟨R, hR⟩ : ∃ R, R = rightL c l d := ⟨_, rfl⟩
 rw [← hR]
 unfold rightL at hR
 have HR := Lib.hid hR
 have HM := Lib.hid hm
 have HL := Lib.hid hl
 have HD := Lib.hid hd
 have HLB := Lib.hid hlb
 have HDB := Lib.hid hdb
 have HFL := Lib.hid (fun W (b : Below w.heap.size w W) n => rfind_any S _ l n W (h.below' b) (by omega))
 have HUS := Lib.hid (fun W (b : Below w.heap.size w W) => rused_any S _ l W (h.below' b) (by omega) hlb)
 have HFR := Lib.hid (fun W (b : Below w.heap.size w W) => rfresh_any S T _ _ l d W (h.below' b) (g.below' b) (by omega) (by omega))
 have HFH := Lib.hid h
 have B0 := (Below.refl w.heap.size w).alloc (Nat.le_refl _) (.cells #[.int .i64 c.log, .int .i64 c.files, .int .i64 c.slots, .int .i64 c.data] 23)
 have K0 := KB.new w 23 #[.int .i64 c.log, .int .i64 c.files, .int .i64 c.slots, .int .i64 c.data]
 have hsz0 := K0.lt
 clear hR hm hl hd hlb hdb h
 unfold cfgV
 go_enter Tryz.func16, Tryz.ntmps16
 go_wp2_with fail
 generalize w.alloc (.cells #[.int .i64 c.log, .int .i64 c.files, .int .i64 c.slots, .int .i64 c.data] 23) = w1 at *
 go_loopw [7] (fun iv wr => ∃ k : Nat, k ≤ d.length ∧ iv = .int .i64 (k : Int) ∧ Hid (∀ j, j < k → okF d j) ∧ KB wr w.heap.size 23 #[.int .i64 c.log, .int .i64 c.files, .int .i64 c.slots, .int .i64 c.data] ∧ Below w.heap.size w wr) (fun iv _ => d.length - (intOf iv).toNat)
 case atStart => exact ⟨0, by omega, rfl, fun j hj => absurd hj (Nat.not_lt_zero _), K0, B0⟩
 case round =>
  obtain ⟨k, hk, rfl, HN, kc, bl⟩ := hrel
  clear K0 B0
  by_cases hlt : k < d.length
  ·have hltI : (k : Int) < (d.length : Int) := by omega
   obtain ⟨b, o, rfl, sb, hbl, hx⟩ := g.at_ (by omega)
   obtain ⟨f, hf⟩ : ∃ f, d[k]? = some f := ⟨_, List.getElem?_eq_getElem hlt⟩
   obtain ⟨j0, hnm, ⟨X, z, j1, _⟩, j2⟩ := hx k f hf
   have BD : Below w.heap.size w wr.drew := Below_drawn bl 1
   have hkb := BD.block b hbl
   have q0 := (World.cell?_of_block (w := w) hkb).trans j0
   have q1 := (World.cell?_of_block (w := w) hkb).trans j1
   have q2 := (World.cell?_of_block (w := w) hkb).trans j2
   have HOK := Lib.hid (okF_iff hf)
   have hna := rname_any f.name hnm wr.drew
   have hfi := rfind_any T _ (d.take k) f.name wr.drew ((g.below' BD).take k hk) (by rw [List.length_take]; have := HD.out; omega)
   have hst := fun W => run_files_to W (some ⟨b, o, none⟩) d.length cq k hk hdc
   have HKD : Hid (KB wr.drew w.heap.size 23 #[.int .i64 c.log, .int .i64 c.files, .int .i64 c.slots, .int .i64 c.data]) := kc.drewN 1
   have HBD := Lib.hid BD
   unfold strV at *
   clear hx j0 j1 j2 hkb kc BD hf
   have hno1 : okF d k → False ∨ True := fun _ => .inr trivial
   generalize f.b.length = fb at *
   generalize (⟨f.name.toArray⟩ : ByteArray) = fn at *
   generalize f.gone = fg at *
   generalize findI (d.take k) f.name = fx at *
   have hS : wr.drew.cell? ⟨b, o + k * 3, none⟩ = some (.string fn) ∧ wr.drew.cell? ⟨b, o + k * 3 + 1, none⟩ = some (.slice X fb z) ∧ wr.drew.cell? ⟨b, o + k * 3 + 2, none⟩ = some (.bool fg) ∧ (Instr.slice 38 (.slice (some ⟨b, o, none⟩) d.length cq) none (some (.int .i64 (k : Int))) none).run Tryz.prog wr.drew = .ok (.slice (some ⟨b, o, none⟩) k cq) wr.drew := ⟨q0, q1, q2, hst _⟩
   clear q0 q1 q2 hst hno1
   generalize nameS f.name = ns at *
   cases ns with
   | false =>
    have HBAD : Hid (R = 1) := by show _ = _; rw [HR.out, if_pos (args_no hlt (fun hk => by have := (HOK.out.1 hk).1; cases this))]
    go_wp2_with fail
    rename_i KK hKK
    have HKK := Lib.hid hKK
    clear hKK
    refine wp_region_held_drew (S := (fun W => W.cell? ⟨b, o + k * 3, none⟩ = some (.string fn) ∧ W.cell? ⟨b, o + k * 3 + 1, none⟩ = some (.slice X fb z) ∧ W.cell? ⟨b, o + k * 3 + 2, none⟩ = some (.bool fg) ∧ (Instr.slice 38 (.slice (some ⟨b, o, none⟩) d.length cq) none (some (.int .i64 (k : Int))) none).run Tryz.prog W = .ok (.slice (some ⟨b, o, none⟩) k cq) W)) (by kernel_rfl) hS (fun hHeld => ?_)
    refine hyY (some 22) 0 rfl hHeld ?_; go_frame
    refine hyY (some 23) 1 rfl hHeld ?_; go_frame
    refine hyY (some 24) 2 rfl hHeld ?_; go_frame
    refine hyY (some 25) 3 rfl hHeld ?_; go_frame
    refine hyY (some 26) 4 rfl hHeld ?_; go_frame
    refine hyO (some 27) 5 rfl (fun K hK => ?_)
    go_simp
    go_at_call 36
    refine hna.mono ?_
    rintro e w' ⟨rfl, rfl⟩
    go_wp2_with fail
    refine hK.out _ _ ?_ (fun hH2 => ?_)
    ·exact hHeld
    clear hHeld hK K; have hHeld := hH2; clear hH2; try go_frame
    refine hyY (some 28) 6 rfl hHeld ?_; go_frame
    refine hyY (some 29) 7 rfl hHeld ?_; go_frame
    refine hyN (some 30) 8 rfl hHeld ?_; go_frame
    refine hyN (some 31) 9 rfl hHeld ?_; go_frame
    refine hyN (some 32) 10 rfl hHeld ?_; go_frame
    refine hyN (some 33) 11 rfl hHeld ?_; go_frame
    refine hyN (some 34) 12 rfl hHeld ?_; go_frame
    refine hyN (some 35) 13 rfl hHeld ?_; go_frame
    refine hyN (some 36) 14 rfl hHeld ?_; go_frame
    refine hyN (some 37) 15 rfl hHeld ?_; go_frame
    refine hyN (some 38) 16 rfl hHeld ?_; go_frame
    refine hyN (some 39) 17 rfl hHeld ?_; go_frame
    refine hyY (some 40) 18 rfl hHeld ?_; go_frame
    refine hyY (some 41) 19 rfl hHeld ?_; go_frame
    refine hyN (some 42) 20 rfl hHeld ?_; go_frame
    refine hyN (some 43) 21 rfl hHeld ?_; go_frame
    refine hyN (some 44) 22 rfl hHeld ?_; go_frame
    refine hyN (some 45) 23 rfl hHeld ?_; go_frame
    refine hyN (some 46) 24 rfl hHeld ?_; go_frame
    refine hyN (some 47) 25 rfl hHeld ?_; go_frame
    refine hyN (some 48) 26 rfl hHeld ?_; go_frame
    refine hyN (some 49) 27 rfl hHeld ?_; go_frame
    refine hyN (some 50) 28 rfl hHeld ?_; go_frame
    refine hyN (some 51) 29 rfl hHeld ?_; go_frame
    refine hyN (some 52) 30 rfl hHeld ?_; go_frame
    refine hyN (some 53) 31 rfl hHeld ?_; go_frame
    refine hyN (some 54) 32 rfl hHeld ?_; go_frame
    refine hyN (some 55) 33 rfl hHeld ?_; go_frame
    refine hyY (some 56) 34 rfl hHeld ?_; go_frame
    refine wpAnyH_done (by kernel_rfl) ?_ _
    have hKK := HKK.out
    go_wp2_with fail
    go_ret
    exact ⟨by rw [HBAD.out]; rfl, HBD.out⟩
   | true =>
    by_cases hfx : 0 ≤ fx
    ·have D : decide (0 ≤ fx) = true := decide_eq_true hfx
     have HBAD : Hid (R = 1) := by show _ = _; rw [HR.out, if_pos (args_no hlt (fun hk => by have := (HOK.out.1 hk).2.1; omega))]
     clear hfx
     go_wp2_with fail
     rename_i KK hKK
     have HKK := Lib.hid hKK
     clear hKK
     refine wp_region_held_drew (S := (fun W => W.cell? ⟨b, o + k * 3, none⟩ = some (.string fn) ∧ W.cell? ⟨b, o + k * 3 + 1, none⟩ = some (.slice X fb z) ∧ W.cell? ⟨b, o + k * 3 + 2, none⟩ = some (.bool fg) ∧ (Instr.slice 38 (.slice (some ⟨b, o, none⟩) d.length cq) none (some (.int .i64 (k : Int))) none).run Tryz.prog W = .ok (.slice (some ⟨b, o, none⟩) k cq) W)) (by kernel_rfl) hS (fun hHeld => ?_)
     refine hyY (some 22) 0 rfl hHeld ?_; go_frame
     refine hyY (some 23) 1 rfl hHeld ?_; go_frame
     refine hyY (some 24) 2 rfl hHeld ?_; go_frame
     refine hyY (some 25) 3 rfl hHeld ?_; go_frame
     refine hyY (some 26) 4 rfl hHeld ?_; go_frame
     refine hyO (some 27) 5 rfl (fun K hK => ?_)
     go_simp
     go_at_call 36
     refine hna.mono ?_
     rintro e w' ⟨rfl, rfl⟩
     go_wp2_with fail
     refine hK.out _ _ ?_ (fun hH2 => ?_)
     ·exact hHeld
     clear hHeld hK K; have hHeld := hH2; clear hH2; try go_frame
     refine hyY (some 28) 6 rfl hHeld ?_; go_frame
     refine hyY (some 29) 7 rfl hHeld ?_; go_frame
     refine hyY (some 30) 8 rfl hHeld ?_; go_frame
     refine hyY (some 31) 9 rfl hHeld ?_; go_frame
     refine hyY (some 32) 10 rfl hHeld ?_; go_frame
     refine hyY (some 33) 11 rfl hHeld ?_; go_frame
     refine hyY (some 34) 12 rfl hHeld ?_; go_frame
     refine hyY (some 35) 13 rfl hHeld ?_; go_frame
     refine hyY (some 36) 14 rfl hHeld ?_; go_frame
     refine hyY (some 37) 15 rfl hHeld ?_; go_frame
     refine hyO (some 38) 16 rfl (fun K hK => ?_)
     go_simp
     go_at_call 37
     refine hfi.mono ?_
     rintro e w' ⟨rfl, rfl⟩
     go_wp2_with fail
     refine hK.out _ _ ?_ (fun hH2 => ?_)
     ·exact hHeld
     clear hHeld hK K; have hHeld := hH2; clear hH2; try go_frame
     refine hyY (some 39) 17 rfl hHeld ?_; go_frame
     refine hyY (some 40) 18 rfl hHeld ?_; go_frame
     refine hyY (some 41) 19 rfl hHeld ?_; go_frame
     refine hyN (some 42) 20 rfl hHeld ?_; go_frame
     refine hyN (some 43) 21 rfl hHeld ?_; go_frame
     refine hyN (some 44) 22 rfl hHeld ?_; go_frame
     refine hyN (some 45) 23 rfl hHeld ?_; go_frame
     refine hyN (some 46) 24 rfl hHeld ?_; go_frame
     refine hyN (some 47) 25 rfl hHeld ?_; go_frame
     refine hyN (some 48) 26 rfl hHeld ?_; go_frame
     refine hyN (some 49) 27 rfl hHeld ?_; go_frame
     refine hyN (some 50) 28 rfl hHeld ?_; go_frame
     refine hyN (some 51) 29 rfl hHeld ?_; go_frame
     refine hyN (some 52) 30 rfl hHeld ?_; go_frame
     refine hyN (some 53) 31 rfl hHeld ?_; go_frame
     refine hyN (some 54) 32 rfl hHeld ?_; go_frame
     refine hyN (some 55) 33 rfl hHeld ?_; go_frame
     refine hyY (some 56) 34 rfl hHeld ?_; go_frame
     refine wpAnyH_done (by kernel_rfl) ?_ _
     have hKK := HKK.out
     go_wp2_with fail
     go_ret
     exact ⟨by rw [HBAD.out]; rfl, HBD.out⟩
    ·have D : decide (0 ≤ fx) = false := decide_eq_false hfx
     have HFX := Lib.hid hfx
     clear hfx
     cases fg with
     | false =>
      go_wp2_with fail
      rename_i KK hKK
      have HKK := Lib.hid hKK
      clear hKK
      refine wp_region_held_drew (S := (fun W => W.cell? ⟨b, o + k * 3, none⟩ = some (.string fn) ∧ W.cell? ⟨b, o + k * 3 + 1, none⟩ = some (.slice X fb z) ∧ W.cell? ⟨b, o + k * 3 + 2, none⟩ = some (.bool false) ∧ (Instr.slice 38 (.slice (some ⟨b, o, none⟩) d.length cq) none (some (.int .i64 (k : Int))) none).run Tryz.prog W = .ok (.slice (some ⟨b, o, none⟩) k cq) W)) (by kernel_rfl) hS (fun hHeld => ?_)
      refine hyY (some 22) 0 rfl hHeld ?_; go_frame
      refine hyY (some 23) 1 rfl hHeld ?_; go_frame
      refine hyY (some 24) 2 rfl hHeld ?_; go_frame
      refine hyY (some 25) 3 rfl hHeld ?_; go_frame
      refine hyY (some 26) 4 rfl hHeld ?_; go_frame
      refine hyO (some 27) 5 rfl (fun K hK => ?_)
      go_simp
      go_at_call 36
      refine hna.mono ?_
      rintro e w' ⟨rfl, rfl⟩
      go_wp2_with fail
      refine hK.out _ _ ?_ (fun hH2 => ?_)
      ·exact hHeld
      clear hHeld hK K; have hHeld := hH2; clear hH2; try go_frame
      refine hyY (some 28) 6 rfl hHeld ?_; go_frame
      refine hyY (some 29) 7 rfl hHeld ?_; go_frame
      refine hyY (some 30) 8 rfl hHeld ?_; go_frame
      refine hyY (some 31) 9 rfl hHeld ?_; go_frame
      refine hyY (some 32) 10 rfl hHeld ?_; go_frame
      refine hyY (some 33) 11 rfl hHeld ?_; go_frame
      refine hyY (some 34) 12 rfl hHeld ?_; go_frame
      refine hyY (some 35) 13 rfl hHeld ?_; go_frame
      refine hyY (some 36) 14 rfl hHeld ?_; go_frame
      refine hyY (some 37) 15 rfl hHeld ?_; go_frame
      refine hyO (some 38) 16 rfl (fun K hK => ?_)
      go_simp
      go_at_call 37
      refine hfi.mono ?_
      rintro e w' ⟨rfl, rfl⟩
      go_wp2_with fail
      refine hK.out _ _ ?_ (fun hH2 => ?_)
      ·exact hHeld
      clear hHeld hK K; have hHeld := hH2; clear hH2; try go_frame
      refine hyY (some 39) 17 rfl hHeld ?_; go_frame
      refine hyY (some 40) 18 rfl hHeld ?_; go_frame
      refine hyY (some 41) 19 rfl hHeld ?_; go_frame
      refine hyY (some 42) 20 rfl hHeld ?_; go_frame
      refine hyY (some 43) 21 rfl hHeld ?_; go_frame
      refine hyY (some 44) 22 rfl hHeld ?_; go_frame
      refine hyY (some 45) 23 rfl hHeld ?_; go_frame
      refine hyY (some 46) 24 rfl hHeld ?_; go_frame
      refine hyY (some 47) 25 rfl hHeld ?_; go_frame
      refine hyN (some 48) 26 rfl hHeld ?_; go_frame
      refine hyN (some 49) 27 rfl hHeld ?_; go_frame
      refine hyN (some 50) 28 rfl hHeld ?_; go_frame
      refine hyN (some 51) 29 rfl hHeld ?_; go_frame
      refine hyN (some 52) 30 rfl hHeld ?_; go_frame
      refine hyN (some 53) 31 rfl hHeld ?_; go_frame
      refine hyN (some 54) 32 rfl hHeld ?_; go_frame
      refine hyY (some 55) 33 rfl hHeld ?_; go_frame
      refine hyY (some 56) 34 rfl hHeld ?_; go_frame
      refine wpAnyH_done (by kernel_rfl) ?_ _
      have hKK := HKK.out
      go_wp2_with fail
      go_roundw
      case rel => exact ⟨k + 1, by omega, by go_num, fun j hj => by
       by_cases hjk : j < k
       ·exact HN.out j hjk
       ·obtain rfl : j = k := by omega
        exact HOK.out.2 ⟨by trivial, by have := HFX.out; omega, fun e => by cases e.1⟩, HKD.out, HBD.out⟩
      case measure => simp [intOf]; omega
     | true =>
      by_cases hb0 : 0 < fb
      ·have D2 : decide ((0 : Int) < (fb : Int)) = true := decide_eq_true (by omega)
       have D3 : decide (0 < fb) = true := decide_eq_true hb0
       have HBAD : Hid (R = 1) := by show _ = _; rw [HR.out, if_pos (args_no hlt (fun hk => (HOK.out.1 hk).2.2 ⟨rfl, hb0⟩))]
       clear hb0
       go_wp2_with fail
       rename_i KK hKK
       have HKK := Lib.hid hKK
       clear hKK
       refine wp_region_held_drew (S := (fun W => W.cell? ⟨b, o + k * 3, none⟩ = some (.string fn) ∧ W.cell? ⟨b, o + k * 3 + 1, none⟩ = some (.slice X fb z) ∧ W.cell? ⟨b, o + k * 3 + 2, none⟩ = some (.bool true) ∧ (Instr.slice 38 (.slice (some ⟨b, o, none⟩) d.length cq) none (some (.int .i64 (k : Int))) none).run Tryz.prog W = .ok (.slice (some ⟨b, o, none⟩) k cq) W)) (by kernel_rfl) hS (fun hHeld => ?_)
       refine hyY (some 22) 0 rfl hHeld ?_; go_frame
       refine hyY (some 23) 1 rfl hHeld ?_; go_frame
       refine hyY (some 24) 2 rfl hHeld ?_; go_frame
       refine hyY (some 25) 3 rfl hHeld ?_; go_frame
       refine hyY (some 26) 4 rfl hHeld ?_; go_frame
       refine hyO (some 27) 5 rfl (fun K hK => ?_)
       go_simp
       go_at_call 36
       refine hna.mono ?_
       rintro e w' ⟨rfl, rfl⟩
       go_wp2_with fail
       refine hK.out _ _ ?_ (fun hH2 => ?_)
       ·exact hHeld
       clear hHeld hK K; have hHeld := hH2; clear hH2; try go_frame
       refine hyY (some 28) 6 rfl hHeld ?_; go_frame
       refine hyY (some 29) 7 rfl hHeld ?_; go_frame
       refine hyY (some 30) 8 rfl hHeld ?_; go_frame
       refine hyY (some 31) 9 rfl hHeld ?_; go_frame
       refine hyY (some 32) 10 rfl hHeld ?_; go_frame
       refine hyY (some 33) 11 rfl hHeld ?_; go_frame
       refine hyY (some 34) 12 rfl hHeld ?_; go_frame
       refine hyY (some 35) 13 rfl hHeld ?_; go_frame
       refine hyY (some 36) 14 rfl hHeld ?_; go_frame
       refine hyY (some 37) 15 rfl hHeld ?_; go_frame
       refine hyO (some 38) 16 rfl (fun K hK => ?_)
       go_simp
       go_at_call 37
       refine hfi.mono ?_
       rintro e w' ⟨rfl, rfl⟩
       go_wp2_with fail
       refine hK.out _ _ ?_ (fun hH2 => ?_)
       ·exact hHeld
       clear hHeld hK K; have hHeld := hH2; clear hH2; try go_frame
       refine hyY (some 39) 17 rfl hHeld ?_; go_frame
       refine hyY (some 40) 18 rfl hHeld ?_; go_frame
       refine hyY (some 41) 19 rfl hHeld ?_; go_frame
       refine hyY (some 42) 20 rfl hHeld ?_; go_frame
       refine hyY (some 43) 21 rfl hHeld ?_; go_frame
       refine hyY (some 44) 22 rfl hHeld ?_; go_frame
       refine hyY (some 45) 23 rfl hHeld ?_; go_frame
       refine hyY (some 46) 24 rfl hHeld ?_; go_frame
       refine hyY (some 47) 25 rfl hHeld ?_; go_frame
       refine hyY (some 48) 26 rfl hHeld ?_; go_frame
       refine hyY (some 49) 27 rfl hHeld ?_; go_frame
       refine hyY (some 50) 28 rfl hHeld ?_; go_frame
       refine hyY (some 51) 29 rfl hHeld ?_; go_frame
       refine hyY (some 52) 30 rfl hHeld ?_; go_frame
       refine hyY (some 53) 31 rfl hHeld ?_; go_frame
       refine hyY (some 54) 32 rfl hHeld ?_; go_frame
       refine hyY (some 55) 33 rfl hHeld ?_; go_frame
       refine hyY (some 56) 34 rfl hHeld ?_; go_frame
       refine wpAnyH_done (by kernel_rfl) ?_ _
       have hKK := HKK.out
       go_wp2_with fail
       go_ret
       exact ⟨by rw [HBAD.out]; rfl, HBD.out⟩
      ·have D2 : decide ((0 : Int) < (fb : Int)) = false := decide_eq_false (by omega)
       have D3 : decide (0 < fb) = false := decide_eq_false hb0
       have HB0 := Lib.hid hb0
       clear hb0
       go_wp2_with fail
       rename_i KK hKK
       have HKK := Lib.hid hKK
       clear hKK
       refine wp_region_held_drew (S := (fun W => W.cell? ⟨b, o + k * 3, none⟩ = some (.string fn) ∧ W.cell? ⟨b, o + k * 3 + 1, none⟩ = some (.slice X fb z) ∧ W.cell? ⟨b, o + k * 3 + 2, none⟩ = some (.bool true) ∧ (Instr.slice 38 (.slice (some ⟨b, o, none⟩) d.length cq) none (some (.int .i64 (k : Int))) none).run Tryz.prog W = .ok (.slice (some ⟨b, o, none⟩) k cq) W)) (by kernel_rfl) hS (fun hHeld => ?_)
       refine hyY (some 22) 0 rfl hHeld ?_; go_frame
       refine hyY (some 23) 1 rfl hHeld ?_; go_frame
       refine hyY (some 24) 2 rfl hHeld ?_; go_frame
       refine hyY (some 25) 3 rfl hHeld ?_; go_frame
       refine hyY (some 26) 4 rfl hHeld ?_; go_frame
       refine hyO (some 27) 5 rfl (fun K hK => ?_)
       go_simp
       go_at_call 36
       refine hna.mono ?_
       rintro e w' ⟨rfl, rfl⟩
       go_wp2_with fail
       refine hK.out _ _ ?_ (fun hH2 => ?_)
       ·exact hHeld
       clear hHeld hK K; have hHeld := hH2; clear hH2; try go_frame
       refine hyY (some 28) 6 rfl hHeld ?_; go_frame
       refine hyY (some 29) 7 rfl hHeld ?_; go_frame
       refine hyY (some 30) 8 rfl hHeld ?_; go_frame
       refine hyY (some 31) 9 rfl hHeld ?_; go_frame
       refine hyY (some 32) 10 rfl hHeld ?_; go_frame
       refine hyY (some 33) 11 rfl hHeld ?_; go_frame
       refine hyY (some 34) 12 rfl hHeld ?_; go_frame
       refine hyY (some 35) 13 rfl hHeld ?_; go_frame
       refine hyY (some 36) 14 rfl hHeld ?_; go_frame
       refine hyY (some 37) 15 rfl hHeld ?_; go_frame
       refine hyO (some 38) 16 rfl (fun K hK => ?_)
       go_simp
       go_at_call 37
       refine hfi.mono ?_
       rintro e w' ⟨rfl, rfl⟩
       go_wp2_with fail
       refine hK.out _ _ ?_ (fun hH2 => ?_)
       ·exact hHeld
       clear hHeld hK K; have hHeld := hH2; clear hH2; try go_frame
       refine hyY (some 39) 17 rfl hHeld ?_; go_frame
       refine hyY (some 40) 18 rfl hHeld ?_; go_frame
       refine hyY (some 41) 19 rfl hHeld ?_; go_frame
       refine hyY (some 42) 20 rfl hHeld ?_; go_frame
       refine hyY (some 43) 21 rfl hHeld ?_; go_frame
       refine hyY (some 44) 22 rfl hHeld ?_; go_frame
       refine hyY (some 45) 23 rfl hHeld ?_; go_frame
       refine hyY (some 46) 24 rfl hHeld ?_; go_frame
       refine hyY (some 47) 25 rfl hHeld ?_; go_frame
       refine hyY (some 48) 26 rfl hHeld ?_; go_frame
       refine hyY (some 49) 27 rfl hHeld ?_; go_frame
       refine hyY (some 50) 28 rfl hHeld ?_; go_frame
       refine hyY (some 51) 29 rfl hHeld ?_; go_frame
       refine hyY (some 52) 30 rfl hHeld ?_; go_frame
       refine hyY (some 53) 31 rfl hHeld ?_; go_frame
       refine hyY (some 54) 32 rfl hHeld ?_; go_frame
       refine hyY (some 55) 33 rfl hHeld ?_; go_frame
       refine hyY (some 56) 34 rfl hHeld ?_; go_frame
       refine wpAnyH_done (by kernel_rfl) ?_ _
       have hKK := HKK.out
       go_wp2_with fail
       go_roundw
       case rel => exact ⟨k + 1, by omega, by go_num, fun j hj => by
        by_cases hjk : j < k
        ·exact HN.out j hjk
        ·obtain rfl : j = k := by omega
         exact HOK.out.2 ⟨by trivial, by have := HFX.out; omega, fun e => HB0.out e.2⟩, HKD.out, HBD.out⟩
       case measure => simp [intOf]; omega
  ·obtain rfl : k = d.length := by omega
   have HAR : Hid (argsB d = true) := args_yes HN.out
   clear HN
   go_wp2_with fail
   have HR2 : Hid (R = if (d.any fun f => longF f) = true then 3 else if (d.any fun f => missL l f) = true then 5 else if c.data - (pagesL l : Int) < (growL l d : Int) ∨ c.files - (l.length : Int) < (freshL l d : Int) then 7 else if (roomN c.cn.log : Int) < (costL l d : Int) then 4 else 0) := by
    show _ = _
    rw [HR.out, HAR.out, if_neg (by simp)]
   have BLW := bl
   obtain ⟨w2, hw2⟩ : ∃ w2, w2 = wr := ⟨_, rfl⟩
   subst hw2
   clear HR HAR
   have HBW := Lib.hid BLW
   have HKC := Lib.hid kc
   have HG2 := Lib.hid (g.below' BLW)
   clear kc bl BLW
   go_loopw [8] (fun iv wr => ∃ k : Nat, k ≤ d.length ∧ iv = .int .i64 (k : Int) ∧ Hid (∀ (j : Nat) (f : Fi), j < k → d[j]? = some f → longF f = false) ∧ w2 = wr) (fun iv _ => d.length - (intOf iv).toNat)
   case atStart => exact ⟨0, by omega, rfl, fun j f hj => absurd hj (Nat.not_lt_zero _), rfl⟩
   case round =>
    obtain ⟨k, hk, rfl, HN, rfl⟩ := hrel
    by_cases hlt : k < d.length
    ·have hltI : (k : Int) < (d.length : Int) := by omega
     obtain ⟨b, o, rfl, sb, hbl, hx⟩ := HG2.out.at_ (by omega)
     obtain ⟨f, hf⟩ : ∃ f, d[k]? = some f := ⟨_, List.getElem?_eq_getElem hlt⟩
     obtain ⟨_, _, ⟨X, z, j1, _⟩, _⟩ := hx k f hf
     have HF := Lib.hid hf
     clear hx hf
     by_cases hb : 24576 < f.b.length
     ·have D : decide ((24576 : Int) < (f.b.length : Int)) = true := decide_eq_true (by omega)
      have D2 : decide (24576 < f.b.length) = true := decide_eq_true hb
      have HBAD : Hid (R = 3) := by show _ = _; rw [HR2.out, if_pos (any_yes HF.out (decide_eq_true hb))]
      clear hb
      generalize f.b.length = fb at *
      go_wp2_with fail
      go_ret
      exact ⟨by rw [HBAD.out]; rfl, HBW.out⟩
     ·have D : decide ((24576 : Int) < (f.b.length : Int)) = false := decide_eq_false (by omega)
      have D2 : decide (24576 < f.b.length) = false := decide_eq_false hb
      have HLO : Hid (longF f = false) := decide_eq_false hb
      clear hb
      generalize f.b.length = fb at *
      go_wp2_with fail
      go_roundw
      case rel => exact ⟨k + 1, by omega, by go_num, fun j q hj hq => by
       by_cases hjk : j < k
       ·exact HN.out j q hjk hq
       ·obtain rfl : j = k := by omega
        rw [HF.out] at hq
        obtain rfl := Option.some.inj hq
        exact HLO.out, trivial⟩
      case measure => simp [intOf]; omega
    ·obtain rfl : k = d.length := by omega
     have HR3 : Hid (R = if (d.any fun f => missL l f) = true then 5 else if c.data - (pagesL l : Int) < (growL l d : Int) ∨ c.files - (l.length : Int) < (freshL l d : Int) then 7 else if (roomN c.cn.log : Int) < (costL l d : Int) then 4 else 0) := by
      show _ = _
      rw [HR2.out, any_no (fun j f hf => HN.out j f (List.getElem?_eq_some_iff.1 hf).1 hf), if_neg (by simp)]
     clear HR2 HN
     go_wp2_with fail
     go_loopw [9] (fun iv wr => ∃ k : Nat, k ≤ d.length ∧ iv = .int .i64 (k : Int) ∧ Hid (∀ (j : Nat) (f : Fi), j < k → d[j]? = some f → missL l f = false) ∧ w2 = wr) (fun iv _ => d.length - (intOf iv).toNat)
     case atStart => exact ⟨0, by omega, rfl, fun j f hj => absurd hj (Nat.not_lt_zero _), rfl⟩
     case round =>
      obtain ⟨k, hk, rfl, HN, rfl⟩ := hrel
      by_cases hlt : k < d.length
      ·have hltI : (k : Int) < (d.length : Int) := by omega
       obtain ⟨b, o, rfl, sb, hbl, hx⟩ := HG2.out.at_ (by omega)
       obtain ⟨f, hf⟩ : ∃ f, d[k]? = some f := ⟨_, List.getElem?_eq_getElem hlt⟩
       obtain ⟨j0, _, _, j2⟩ := hx k f hf
       have hfi := HFL.out w2 HBW.out f.name
       have HF := Lib.hid hf
       have HNX : Hid (missL l f = false → ∃ k' : Nat, k' ≤ d.length ∧ Value.int .i64 ((k : Int) + 1) = .int .i64 (k' : Int) ∧ (∀ (j : Nat) (f : Fi), j < k' → d[j]? = some f → missL l f = false)) := fun hm => ⟨k + 1, by omega, by simp, fun j q hj hq => by
        by_cases hjk : j < k
        ·exact HN.out j q hjk hq
        ·obtain rfl : j = k := by omega
         rw [HF.out] at hq
         obtain rfl := Option.some.inj hq
         exact hm⟩
       unfold strV at *
       clear hx hf
       generalize (⟨f.name.toArray⟩ : ByteArray) = fn at *
       obtain ⟨fg, hfg⟩ : ∃ x, x = f.gone := ⟨_, rfl⟩
       rw [← hfg] at j2
       have HFG := Lib.hid hfg
       clear hfg
       cases fg with
       | false =>
        have HMS : Hid (missL l f = false) := by show _ = _; unfold missL; rw [← HFG.out]; rfl
        clear hfi
        go_wp2_with fail
        go_roundw
        case rel =>
         obtain ⟨k', h1, h2, h3⟩ := HNX.out HMS.out
         exact ⟨k + 1, by omega, by go_num, by
          injection h2 with _ h2
          obtain rfl : k' = k + 1 := by omega
          exact h3, trivial⟩
        case measure => simp [intOf]; omega
       | true =>
        by_cases hfx : findI l f.name < 0
        ·have D : decide (findI l f.name < 0) = true := decide_eq_true hfx
         have HBAD : Hid (R = 5) := by show _ = _; rw [HR3.out, if_pos (any_yes HF.out (by unfold missL; rw [← HFG.out, decide_eq_true hfx]; rfl))]
         clear hfx
         generalize findI l f.name = fx at *
         go_wp2_with (go_at_call 37; refine hfi.mono ?_; rintro e w' ⟨rfl, rfl⟩)
         go_ret
         exact ⟨by rw [HBAD.out]; rfl, HBW.out⟩
        ·have D : decide (findI l f.name < 0) = false := decide_eq_false hfx
         have HMS : Hid (missL l f = false) := by show _ = _; unfold missL; rw [← HFG.out, decide_eq_false hfx]; rfl
         clear hfx
         generalize findI l f.name = fx at *
         go_wp2_with (go_at_call 37; refine hfi.mono ?_; rintro e w' ⟨rfl, rfl⟩)
         go_roundw
         case rel =>
          obtain ⟨k', h1, h2, h3⟩ := HNX.out HMS.out
          exact ⟨k + 1, by omega, by go_num, by
           injection h2 with _ h2
           obtain rfl : k' = k + 1 := by omega
           exact h3, trivial⟩
         case measure => simp [intOf]; omega
      ·obtain rfl : k = d.length := by omega
       have HR4 : Hid (R = if c.data - (pagesL l : Int) < (growL l d : Int) ∨ c.files - (l.length : Int) < (freshL l d : Int) then 7 else if (roomN c.cn.log : Int) < (costL l d : Int) then 4 else 0) := by
        show _ = _
        rw [HR3.out, any_no (fun j f hf => HN.out j f (List.getElem?_eq_some_iff.1 hf).1 hf), if_neg (by simp)]
       clear HR3 HN
       go_wp2_with fail
       go_loopw [10, 11, 12] (fun gv cv iv wr => ∃ k : Nat, k ≤ d.length ∧ iv = .int .i64 (k : Int) ∧ gv = .int .i64 (growL l (d.take k) : Int) ∧ cv = .int .i64 (costL l (d.take k) : Int) ∧ w2 = wr) (fun _ _ iv _ => d.length - (intOf iv).toNat)
       case atStart => exact ⟨0, by omega, rfl, rfl, rfl, rfl⟩
       case round =>
        obtain ⟨k, hk, rfl, rfl, rfl, rfl⟩ := hrel
        have hGle : growL l (d.take k) ≤ 4000000000 := by
         have := growL_le (l := l) (d := d.take k) fun f hf => HDB.out f (List.mem_of_mem_take hf)
         rw [List.length_take] at this
         have := HD.out
         omega
        have hCle : costL l (d.take k) ≤ 4000000000 := by
         have := costL_le (l := l) (d := d.take k) HLB.out fun f hf => HDB.out f (List.mem_of_mem_take hf)
         rw [List.length_take] at this
         have := HD.out
         omega
        by_cases hlt : k < d.length
        ·have hltI : (k : Int) < (d.length : Int) := by omega
         obtain ⟨b, o, rfl, sb, hbl, hx⟩ := HG2.out.at_ (by omega)
         obtain ⟨f, hf⟩ : ∃ f, d[k]? = some f := ⟨_, List.getElem?_eq_getElem hlt⟩
         obtain ⟨j0, _, ⟨X, z, j1, _⟩, _⟩ := hx k f hf
         have hfi := HFL.out w2 HBW.out f.name
         have hfb := HDB.out f (List.mem_of_getElem? hf)
         have hpg := fun W => rpages_any (f.b.length : Int) ⟨by omega, by omega⟩ W
         rw [pages_nat] at hpg
         have hG := growL_succ l hf
         have hC := costL_succ l hf
         have hws := wasL_le HLB.out f.name
         have hpp : pagesN f.b.length ≤ 4000 := by unfold pagesN; omega
         obtain ⟨pn, hpn⟩ : ∃ x, x = pagesN f.b.length := ⟨_, rfl⟩
         obtain ⟨G2, hG2⟩ : ∃ x, x = growL l (d.take (k + 1)) := ⟨_, rfl⟩
         obtain ⟨C2, hC2⟩ : ∃ x, x = costL l (d.take (k + 1)) := ⟨_, rfl⟩
         rw [← hpn] at hpg hG hC hpp
         rw [← hG2] at hG
         rw [← hC2] at hC
         have HG2' := Lib.hid hG2
         have HC2' := Lib.hid hC2
         obtain ⟨ws, hwsd⟩ : ∃ x, x = wasL l f.name := ⟨_, rfl⟩
         rw [← hwsd] at hG hC hws
         generalize growL l (d.take k) = G at *
         generalize costL l (d.take k) = C at *
         unfold strV at *
         unfold wasL at hwsd
         clear hx hf hfb hG2 hC2 hpn
         generalize (⟨f.name.toArray⟩ : ByteArray) = fn at *
         generalize f.b.length = fb at *
         have HFX : Hid (findI l f.name < 0 ∨ ∃ m : Nat, findI l f.name = (m : Int) ∧ m < l.length) := by
          unfold findI
          cases hfi2 : l.findIdx? (fun g => decide (g.name = f.name)) with
          | none => exact .inl (by simp)
          | some m => exact .inr ⟨m, rfl, (List.findIdx?_eq_some_iff_getElem.1 hfi2).1⟩
         by_cases hfx : findI l f.name < 0
         ·have D : decide (0 ≤ findI l f.name) = false := decide_eq_false (by omega)
          rw [if_neg (by omega)] at hwsd
          subst hwsd
          clear hfx HFX
          generalize findI l f.name = fx at *
          have ew3 : IntKind.i64.wrap ((C : Int) + 1) = (C : Int) + 1 := by rw [IntKind.wrap_i64]; omega
          by_cases hp : 0 < pn
          ·have D2 : decide ((0 : Int) < (pn : Int)) = true := decide_eq_true (by omega)
           have D3 : decide (0 < pn) = true := decide_eq_true hp
           have ew1 : IntKind.i64.wrap ((G : Int) + (pn : Int)) = (G2 : Int) := by rw [IntKind.wrap_i64]; omega
           have ew2 : IntKind.i64.wrap (G2 : Int) = (G2 : Int) := by rw [IntKind.wrap_i64]; omega
           have ew4 : IntKind.i64.wrap ((C : Int) + 1 + (pn : Int)) = (C2 : Int) := by rw [IntKind.wrap_i64]; omega
           clear hp hG hC
           go_wp2_with (first | (go_at_call 37; refine hfi.mono ?_; rintro e w' ⟨rfl, rfl⟩) | (go_at_call 38; refine (hpg _).mono ?_; rintro e w' ⟨rfl, rfl⟩))
           go_roundw
           case rel => exact ⟨k + 1, by omega, by go_num, by rw [← HG2'.out], by rw [← HC2'.out], trivial⟩
           case measure => simp [intOf]; omega
          ·obtain rfl : pn = 0 := by omega
           obtain rfl : G2 = G := by omega
           have D2 : decide ((0 : Int) < ((0 : Nat) : Int)) = false := decide_eq_false (by omega)
           have ew4 : IntKind.i64.wrap ((C : Int) + 1) = (C2 : Int) := by rw [IntKind.wrap_i64]; omega
           have ew5 : IntKind.i64.wrap (C2 : Int) = (C2 : Int) := by rw [IntKind.wrap_i64]; omega
           clear hp hG hC ew3
           go_wp2_with (first | (go_at_call 37; refine hfi.mono ?_; rintro e w' ⟨rfl, rfl⟩) | (go_at_call 38; refine (hpg _).mono ?_; rintro e w' ⟨rfl, rfl⟩))
           go_roundw
           case rel => exact ⟨k + 1, by omega, by go_num, by rw [← HG2'.out], by rw [← HC2'.out], trivial⟩
           case measure => simp [intOf]; omega
         ·obtain ⟨m, hm1, hm2⟩ := HFX.out.resolve_left hfx
          rw [hm1] at hwsd hfi
          rw [if_pos (by omega), Int.toNat_natCast] at hwsd
          obtain ⟨b2, o2, rfl, _, _, hy⟩ := (HFH.out.below' HBW.out).at_ (by omega)
          obtain ⟨q, hq⟩ : ∃ q, l[m]? = some q := ⟨_, List.getElem?_eq_getElem hm2⟩
          obtain ⟨_, _, ⟨X2, z2, y1, _⟩, _⟩ := hy m q hq
          rw [getD_fi hq] at hwsd
          have hqb := HLB.out q (List.mem_of_getElem? hq)
          have hpq := fun W => rpages_any (q.b.length : Int) ⟨by omega, by omega⟩ W
          rw [pages_nat, ← hwsd] at hpq
          have D : decide ((0 : Int) ≤ (m : Int)) = true := decide_eq_true (by omega)
          have hmI : (m : Int) < (l.length : Int) := by omega
          generalize q.b.length = qb at *
          clear hy hq hwsd hfx HFX hm1 hqb
          have ew3 : IntKind.i64.wrap ((C : Int) + 1) = (C : Int) + 1 := by rw [IntKind.wrap_i64]; omega
          by_cases hp : ws < pn
          ·have D2 : decide ((ws : Int) < (pn : Int)) = true := decide_eq_true (by omega)
           have D3 : decide (ws < pn) = true := decide_eq_true hp
           have ew1 : IntKind.i64.wrap ((G : Int) + (pn : Int)) = (G : Int) + (pn : Int) := by rw [IntKind.wrap_i64]; omega
           have ew2 : IntKind.i64.wrap ((G : Int) + (pn : Int) - (ws : Int)) = (G2 : Int) := by rw [IntKind.wrap_i64]; omega
           have ew4 : IntKind.i64.wrap ((C : Int) + 1 + (pn : Int)) = (C2 : Int) := by rw [IntKind.wrap_i64]; omega
           clear hp hG hC
           go_wp2_with (first | (go_at_call 37; refine hfi.mono ?_; rintro e w' ⟨rfl, rfl⟩) | (go_at_call 38; first | (refine (hpg _).mono ?_; rintro e w' ⟨rfl, rfl⟩) | (refine (hpq _).mono ?_; rintro e w' ⟨rfl, rfl⟩)))
           go_roundw
           case rel => exact ⟨k + 1, by omega, by go_num, by rw [← HG2'.out], by rw [← HC2'.out], trivial⟩
           case measure => simp [intOf]; omega
          ·have D2 : decide ((ws : Int) < (pn : Int)) = false := decide_eq_false (by omega)
           have D3 : decide (ws < pn) = false := decide_eq_false hp
           obtain rfl : G2 = G := by omega
           have ew4 : IntKind.i64.wrap ((C : Int) + 1 + (ws : Int)) = (C2 : Int) := by rw [IntKind.wrap_i64]; omega
           clear hp hG hC
           go_wp2_with (first | (go_at_call 37; refine hfi.mono ?_; rintro e w' ⟨rfl, rfl⟩) | (go_at_call 38; first | (refine (hpg _).mono ?_; rintro e w' ⟨rfl, rfl⟩) | (refine (hpq _).mono ?_; rintro e w' ⟨rfl, rfl⟩)))
           go_roundw
           case rel => exact ⟨k + 1, by omega, by go_num, by rw [← HG2'.out], by rw [← HC2'.out], trivial⟩
           case measure => simp [intOf]; omega
        ·obtain rfl : k = d.length := by omega
         rw [List.take_length] at *
         have HBD : Hid (Below w.heap.size w w2.drew) := Below_drawn HBW.out 1
         have KD : KB w2.drew w.heap.size 23 #[.int .i64 c.log, .int .i64 c.files, .int .i64 c.slots, .int .i64 c.data] := HKC.out.drewN 1
         have q0 : w2.drew.cell? ⟨w.heap.size, 0, none⟩ = some (.int .i64 c.log) := KD.cell 0
         have q1 : w2.drew.cell? ⟨w.heap.size, 1, none⟩ = some (.int .i64 c.files) := KD.cell 1
         have q3 : w2.drew.cell? ⟨w.heap.size, 3, none⟩ = some (.int .i64 c.data) := KD.cell 3
         have hus := HUS.out w2.drew HBD.out
         have hfr := HFR.out w2.drew HBD.out
         have hPL : pagesL l ≤ 4000000000 := by
          have := pagesL_le HLB.out
          have := HL.out
          omega
         have hFR : freshL l d ≤ 100000 := Nat.le_trans (freshL_le l d) HD.out
         have hl1 := HL.out
         obtain ⟨⟨⟨a1, a2⟩, ⟨b1, b2⟩, ⟨c1, c2⟩, d1, d2⟩, _⟩ := HM.out
         have hlog : c.log = (c.cn.log : Int) := by unfold CI.cn; simp only; omega
         have hrm := fun W => rroom_any c.cn.log W (by omega)
         rw [hlog] at q0
         have HHR := Lib.hid HR4.out
         generalize roomN c.cn.log = RM at *
         generalize growL l d = gr at *
         generalize costL l d = co at *
         generalize pagesL l = PL at *
         generalize freshL l d = FR at *
         obtain ⟨DP, hDP⟩ : ∃ x, x = c.data - (PL : Int) := ⟨_, rfl⟩
         obtain ⟨FP, hFP⟩ : ∃ x, x = c.files - (l.length : Int) := ⟨_, rfl⟩
         have ew1 : IntKind.i64.wrap (c.data - (PL : Int)) = DP := by rw [IntKind.wrap_i64]; omega
         have ew2 : IntKind.i64.wrap (c.files - (l.length : Int)) = FP := by rw [IntKind.wrap_i64]; omega
         rw [← hDP, ← hFP] at HHR
         clear KD HR4 hPL hFR hl1 a1 a2 b1 b2 c1 c2 d1 d2 hlog hDP hFP hGle hCle
         by_cases hA : DP < (gr : Int)
         ·have D : decide (DP < (gr : Int)) = true := decide_eq_true hA
          have HBAD : Hid (R = 7) := by show _ = _; rw [HHR.out, if_pos (.inl hA)]
          clear hA
          go_wp2_with fail
          rename_i KK hKK
          have HKK := Lib.hid hKK
          clear hKK
          refine wp_region_held_drew (S := (fun W => W.cell? ⟨w.heap.size, 1, none⟩ = some (.int .i64 c.files) ∧ W.cell? ⟨w.heap.size, 3, none⟩ = some (.int .i64 c.data))) (by kernel_rfl) ⟨q1, q3⟩ (fun hHeld => ?_)
          refine hyY (some 136) 0 rfl hHeld ?_; go_frame
          refine hyY (some 137) 1 rfl hHeld ?_; go_frame
          refine hyY (some 138) 2 rfl hHeld ?_; go_frame
          refine hyY (some 139) 3 rfl hHeld ?_; go_frame
          refine hyO (some 140) 4 rfl (fun K hK => ?_)
          go_simp
          go_at_call 39
          refine hus.mono ?_
          rintro e w' ⟨rfl, rfl⟩
          go_wp2_with fail
          refine hK.out _ _ ?_ (fun hH2 => ?_)
          ·exact hHeld
          clear hHeld hK K; have hHeld := hH2; clear hH2; try go_frame
          refine hyY (some 141) 5 rfl hHeld ?_; go_frame
          refine hyY (some 142) 6 rfl hHeld ?_; go_frame
          refine hyY (some 143) 7 rfl hHeld ?_; go_frame
          refine hyN (some 144) 8 rfl hHeld ?_; go_frame
          refine hyN (some 145) 9 rfl hHeld ?_; go_frame
          refine hyN (some 146) 10 rfl hHeld ?_; go_frame
          refine hyN (some 147) 11 rfl hHeld ?_; go_frame
          refine hyN (some 148) 12 rfl hHeld ?_; go_frame
          refine hyN (some 149) 13 rfl hHeld ?_; go_frame
          refine hyN (some 150) 14 rfl hHeld ?_; go_frame
          refine hyN (some 151) 15 rfl hHeld ?_; go_frame
          refine hyN (some 152) 16 rfl hHeld ?_; go_frame
          refine hyY (some 153) 17 rfl hHeld ?_; go_frame
          refine wpAnyH_done (by kernel_rfl) ?_ _
          have hKK := HKK.out
          go_wp2_with fail
          go_ret
          exact ⟨by rw [HBAD.out]; rfl, HBD.out⟩
         ·have D : decide (DP < (gr : Int)) = false := decide_eq_false hA
          by_cases hB : FP < (FR : Int)
          ·have D2 : decide (FP < (FR : Int)) = true := decide_eq_true hB
           have HBAD : Hid (R = 7) := by show _ = _; rw [HHR.out, if_pos (.inr hB)]
           clear hA hB
           go_wp2_with fail
           rename_i KK hKK
           have HKK := Lib.hid hKK
           clear hKK
           refine wp_region_held_drew (S := (fun W => W.cell? ⟨w.heap.size, 1, none⟩ = some (.int .i64 c.files) ∧ W.cell? ⟨w.heap.size, 3, none⟩ = some (.int .i64 c.data))) (by kernel_rfl) ⟨q1, q3⟩ (fun hHeld => ?_)
           refine hyY (some 136) 0 rfl hHeld ?_; go_frame
           refine hyY (some 137) 1 rfl hHeld ?_; go_frame
           refine hyY (some 138) 2 rfl hHeld ?_; go_frame
           refine hyY (some 139) 3 rfl hHeld ?_; go_frame
           refine hyO (some 140) 4 rfl (fun K hK => ?_)
           go_simp
           go_at_call 39
           refine hus.mono ?_
           rintro e w' ⟨rfl, rfl⟩
           go_wp2_with fail
           refine hK.out _ _ ?_ (fun hH2 => ?_)
           ·exact hHeld
           clear hHeld hK K; have hHeld := hH2; clear hH2; try go_frame
           refine hyY (some 141) 5 rfl hHeld ?_; go_frame
           refine hyY (some 142) 6 rfl hHeld ?_; go_frame
           refine hyY (some 143) 7 rfl hHeld ?_; go_frame
           refine hyY (some 144) 8 rfl hHeld ?_; go_frame
           refine hyY (some 145) 9 rfl hHeld ?_; go_frame
           refine hyY (some 147) 11 rfl hHeld ?_; go_frame
           refine hyY (some 148) 12 rfl hHeld ?_; go_frame
           refine hyY (some 149) 13 rfl hHeld ?_; go_frame
           refine hyY (some 150) 14 rfl hHeld ?_; go_frame
           refine hyY (some 151) 15 rfl hHeld ?_; go_frame
           refine hyO (some 146) 10 rfl (fun K hK => ?_)
           go_simp
           go_at_call 40
           refine hfr.mono ?_
           rintro e w' ⟨rfl, rfl⟩
           go_wp2_with fail
           refine hK.out _ _ ?_ (fun hH2 => ?_)
           ·exact hHeld
           clear hHeld hK K; have hHeld := hH2; clear hH2; try go_frame
           refine hyY (some 152) 16 rfl hHeld ?_; go_frame
           refine hyY (some 153) 17 rfl hHeld ?_; go_frame
           refine wpAnyH_done (by kernel_rfl) ?_ _
           have hKK := HKK.out
           go_wp2_with fail
           go_ret
           exact ⟨by rw [HBAD.out]; rfl, HBD.out⟩
          ·have D2 : decide (FP < (FR : Int)) = false := decide_eq_false hB
           have HR5 : Hid (R = if (RM : Int) < (co : Int) then 4 else 0) := by show _ = _; rw [HHR.out, if_neg (fun h => h.elim hA hB)]
           clear hA hB
           go_wp2_with fail
           rename_i KK hKK
           have HKK := Lib.hid hKK
           clear hKK
           refine wp_region_held_drew (S := (fun W => W.cell? ⟨w.heap.size, 1, none⟩ = some (.int .i64 c.files) ∧ W.cell? ⟨w.heap.size, 3, none⟩ = some (.int .i64 c.data))) (by kernel_rfl) ⟨q1, q3⟩ (fun hHeld => ?_)
           refine hyY (some 136) 0 rfl hHeld ?_; go_frame
           refine hyY (some 137) 1 rfl hHeld ?_; go_frame
           refine hyY (some 138) 2 rfl hHeld ?_; go_frame
           refine hyY (some 139) 3 rfl hHeld ?_; go_frame
           refine hyO (some 140) 4 rfl (fun K hK => ?_)
           go_simp
           go_at_call 39
           refine hus.mono ?_
           rintro e w' ⟨rfl, rfl⟩
           go_wp2_with fail
           refine hK.out _ _ ?_ (fun hH2 => ?_)
           ·exact hHeld
           clear hHeld hK K; have hHeld := hH2; clear hH2; try go_frame
           refine hyY (some 141) 5 rfl hHeld ?_; go_frame
           refine hyY (some 142) 6 rfl hHeld ?_; go_frame
           refine hyY (some 143) 7 rfl hHeld ?_; go_frame
           refine hyY (some 144) 8 rfl hHeld ?_; go_frame
           refine hyY (some 145) 9 rfl hHeld ?_; go_frame
           refine hyY (some 147) 11 rfl hHeld ?_; go_frame
           refine hyY (some 148) 12 rfl hHeld ?_; go_frame
           refine hyY (some 149) 13 rfl hHeld ?_; go_frame
           refine hyY (some 150) 14 rfl hHeld ?_; go_frame
           refine hyY (some 151) 15 rfl hHeld ?_; go_frame
           refine hyO (some 146) 10 rfl (fun K hK => ?_)
           go_simp
           go_at_call 40
           refine hfr.mono ?_
           rintro e w' ⟨rfl, rfl⟩
           go_wp2_with fail
           refine hK.out _ _ ?_ (fun hH2 => ?_)
           ·exact hHeld
           clear hHeld hK K; have hHeld := hH2; clear hH2; try go_frame
           refine hyY (some 152) 16 rfl hHeld ?_; go_frame
           refine hyY (some 153) 17 rfl hHeld ?_; go_frame
           refine wpAnyH_done (by kernel_rfl) ?_ _
           have hKK := HKK.out
           by_cases hC : RM < co
           ·have D3 : decide ((RM : Int) < (co : Int)) = true := decide_eq_true (by omega)
            have D4 : decide (RM < co) = true := decide_eq_true hC
            have HBAD : Hid (R = 4) := by show _ = _; rw [HR5.out, if_pos (by omega)]
            clear hC
            go_wp2_with (go_at_call 41; refine (hrm _).mono ?_; rintro e w' ⟨rfl, rfl⟩)
            go_ret
            exact ⟨by rw [HBAD.out]; rfl, HBD.out⟩
           ·have D3 : decide ((RM : Int) < (co : Int)) = false := decide_eq_false (by omega)
            have D4 : decide (RM < co) = false := decide_eq_false hC
            have HBAD : Hid (R = 0) := by show _ = _; rw [HR5.out, if_neg (by omega)]
            clear hC
            go_wp2_with (go_at_call 41; refine (hrm _).mono ?_; rintro e w' ⟨rfl, rfl⟩)
            go_ret
            exact ⟨by rw [HBAD.out]; rfl, HBD.out⟩
end
end Go.Proofs.YteddmnoeljakpaaGreatDoor
