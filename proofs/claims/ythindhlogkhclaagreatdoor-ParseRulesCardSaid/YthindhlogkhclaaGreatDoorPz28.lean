/-
  PbF: The document's fact (layer 18), over the loaded program: its contract. No condition but what it names.
-/
import Derived.Test.YthindhlogkhclaaGreatDoorPz26
import Derived.Test.YthindhlogkhclaaGreatDoorPz27
import Derived.Test.YthindhlogkhclaaGreatDoorPz08
import Derived.Test.YthindhlogkhclaaGreatDoorPz23
set_option linter.unusedVariables false
set_option maxRecDepth 100000
namespace Go.Proofs.YthindhlogkhclaaGreatDoor
section
open Go.RowKit
theorem FineL.drop {l : List Tk} (h : FineL l) (a : Nat) : FineL (l.drop a) := ⟨by have := h.1; rw [List.length_drop]; omega, fun t ht => h.2 t (List.mem_of_mem_drop ht)⟩
theorem Sd.fine {w : World} {p : Nat} {n : Int} {L : List Tk} {s : Ps} (h : Sd w p n L s) (hL : FineL L) : FineL s.rest := by
  obtain ⟨v, a, k, ht, ha, hd, _⟩ := h
  rw [hd]; exact hL.drop a
theorem nextd_some (p : Nat) (n : Int) (L : List Tk) (s : Ps) (k : Nat) (wd : List UInt8) : ∃ (kk : Int) (z : ByteArray) (i a : Int), strV (nextP k wd s).1.text = .string z ∧ i = (nextP k wd s).1.n ∧
    Hid (∀ W, Sd W p n L s → Calls Tryz.prog 42 #[.pointer (some ⟨p, 0, none⟩), .int .i64 (k : Int), strV wd] W fun e w' => e = .returned (.agg #[.int .i64 kk, .string z, .int .i64 i, .int .i64 a]) ∧ Sd w' p n L (nextP k wd s).2 ∧ W.grownBy w' (some p)) :=
  ⟨(nextP k wd s).1.kind, ⟨(nextP k wd s).1.text.toArray⟩, (nextP k wd s).1.n, (nextP k wd s).1.at_, rfl, rfl, fun W h => next18_any p n L s k wd W h⟩
set_option maxHeartbeats 32000000 in
theorem factd_any (p : Nat) (n : Int) (L : List Tk) (hL : FineL L) {k : Nat} (inner : Ps → Ex (k + 1) × Ps) (d : Int) (hd0 : 0 ≤ d) (hd8 : d ≤ 8)
    (hin : ∀ (s : Ps) (W : World), Sd W p n L s → Calls Tryz.prog 43 #[.pointer (some ⟨p, 0, none⟩), .int .i64 (d + 1)] W (GotD p n L inner s W)) (s : Ps) (w : World) (h : Sd w p n L s) :
    Calls Tryz.prog 93 #[.pointer (some ⟨p, 0, none⟩), .int .i64 d] w (GotD p n L (factP inner) s w) := by
  have hp := h.lt
  have R0 := KB.new w 42 #[.int .i64 0, .int .i64 0, .string ⟨#[]⟩, .slice none 0 0]
  have g0 : w.grownBy (w.alloc (.cells #[.int .i64 0, .int .i64 0, .string ⟨#[]⟩, .slice none 0 0] 42)) (some p) := grown_alloc (World.grownBy.refl w _) _
  have h0 := h.alloc (.cells #[.int .i64 0, .int .i64 0, .string ⟨#[]⟩, .slice none 0 0] 42)
  have hi := is18_any p n L s 4 [] _ h0
  have HIN : Hid (∀ (s : Ps) (W : World), Sd W p n L s → Calls Tryz.prog 43 #[.pointer (some ⟨p, 0, none⟩), .int .i64 (d + 1)] W (GotD p n L inner s W)) := hin
  unfold GotD at HIN
  have hnil : strV [] = .string ⟨#[]⟩ := rfl
  rw [hnil] at hi
  obtain ⟨D, hD⟩ : ∃ D, D = GotD p n L (factP inner) s w := ⟨_, rfl⟩
  rw [← hD]
  have HD : Hid (∀ W i0 i1 z2 X3 n3 z3, EX W (fun b => w.heap.size ≤ b) (k + 1) (factP inner s).1 (.int .i64 i0) (.int .i64 i1) (.string z2) (.slice X3 n3 z3) → Sd W p n L (factP inner s).2 → w.grownBy W (some p) →
      D (.returned (.agg #[.int .i64 i0, .int .i64 i1, .string z2, .slice X3 n3 z3])) W) := fun W i0 i1 z2 X3 n3 z3 h1 h2 h3 => by rw [hD]; exact ⟨i0, i1, z2, X3, n3, z3, rfl, h1, h2, h3⟩
  have HFI : Hid (FineL s.rest) := h.fine hL
  have s0 : (w.alloc (.cells #[.int .i64 0, .int .i64 0, .string ⟨#[]⟩, .slice none 0 0] 42)).heap.size = w.heap.size + 1 := by simp
  clear hD h hin
  by_cases hb : isP 4 [] s = true
  · rw [hb] at hi
    have hfa : factP inner s = ((inner (nextP 4 [] s).2).1, (nextP 5 [] (inner (nextP 4 [] s).2).2).2) := by unfold factP; rw [if_pos hb]; rfl
    rw [hfa] at HD
    obtain ⟨k4, z4, i4, a4, _, _, HN4⟩ := nextd_some p n L s 4 []
    generalize (nextP 4 [] s).2 = s1 at *
    have HI1 := Lib.hid (HIN.out s1)
    generalize inner s1 = ip at *
    obtain ⟨ix, s2⟩ := ip
    dsimp only at HI1 HD
    obtain ⟨k5, z5, i5, a5, _, _, HN5⟩ := nextd_some p n L s2 5 []
    generalize (nextP 5 [] s2).2 = s3 at *
    rw [hnil] at HN4 HN5
    clear hb hfa HIN HFI
    go_enter Tryz.func93, Tryz.ntmps93
    go_wp2_with fail
    refine hi.mono ?_
    rintro e w1 ⟨rfl, m1, rfl⟩
    have hn := HN4.out _ (h0.drewN m1)
    have R1 : KB ((w.alloc (.cells #[.int .i64 0, .int .i64 0, .string ⟨#[]⟩, .slice none 0 0] 42)).drewN m1) w.heap.size 42 #[.int .i64 0, .int .i64 0, .string ⟨#[]⟩, .slice none 0 0] := R0
    have G1 : w.grownBy ((w.alloc (.cells #[.int .i64 0, .int .i64 0, .string ⟨#[]⟩, .slice none 0 0] 42)).drewN m1) (some p) := grown_trans g0 ⟨rfl, rfl, rfl, Nat.le_refl _, fun _ _ _ => rfl⟩
    have s1' : w.heap.size + 1 ≤ ((w.alloc (.cells #[.int .i64 0, .int .i64 0, .string ⟨#[]⟩, .slice none 0 0] 42)).drewN m1).heap.size := Nat.le_of_eq s0.symm
    clear hi R0 g0 h0 s0
    generalize (w.alloc (.cells #[.int .i64 0, .int .i64 0, .string ⟨#[]⟩, .slice none 0 0] 42)).drewN m1 = w1 at *
    go_wp2_with fail
    refine hn.mono ?_
    rintro e w2 ⟨rfl, h2, g2⟩
    have R2 := R1.grown g2 (fun e => by injection e with e; omega)
    have G2 := grown_trans G1 g2
    have s2' : w.heap.size + 1 ≤ w2.heap.size := by have := g2.size; omega
    have hc := HI1.out w2 h2
    clear hn h2 g2 R1 G1
    go_wp2_with fail
    refine hc.mono ?_
    rintro e w3 ⟨i0, i1, z2, X3, n3, z3, rfl, hx3, h3, g3⟩
    have s3' : w.heap.size + 1 ≤ w3.heap.size := by have := g3.size; omega
    have R3 := (R2.grown g3 (fun e => by injection e with e; omega)).alloc (.cells #[.int .i64 i0, .int .i64 i1, .string z2, .slice X3 n3 z3] 42)
    have K3 := KB.new w3 42 #[.int .i64 i0, .int .i64 i1, .string z2, .slice X3 n3 z3]
    have G3 := grown_alloc (grown_trans G2 g3) (.cells #[.int .i64 i0, .int .i64 i1, .string z2, .slice X3 n3 z3] 42)
    have b3 := (Below.refl w3.heap.size w3).alloc (Nat.le_refl _) (.cells #[.int .i64 i0, .int .i64 i1, .string z2, .slice X3 n3 z3] 42)
    have z3' : (w3.alloc (.cells #[.int .i64 i0, .int .i64 i1, .string z2, .slice X3 n3 z3] 42)).heap.size = w3.heap.size + 1 := by simp
    have hn5 := HN5.out _ (h3.alloc (.cells #[.int .i64 i0, .int .i64 i1, .string z2, .slice X3 n3 z3] 42))
    clear hc h3 g3 R2 G2
    go_wp2_with fail
    refine hn5.mono ?_
    rintro e w4 ⟨rfl, h4, g4⟩
    have R4 := R3.grown g4 (fun e => by injection e with e; omega)
    have K4 := K3.grown g4 (fun e => by injection e with e; omega)
    have G4 := grown_trans G3 g4
    have B4 := grown_trans (grown_of_below b3 (some p)) g4
    have s4' : w3.heap.size + 1 ≤ w4.heap.size := by have := g4.size; omega
    have f0 := R4.free 0
    have r0 := R4.cell 0
    have f1 := R4.free 1
    have r1 := R4.cell 1
    have f2 := R4.free 2
    have r2 := R4.cell 2
    have f3 := R4.free 3
    have r3 := R4.cell 3
    have hg0 := R4.lt
    have k0 := K4.cell 0
    have k1 := K4.cell 1
    have k2 := K4.cell 2
    have k3 := K4.cell 3
    have hg1 := K4.lt
    have hne : ¬ w.heap.size = w3.heap.size := by omega
    have hne2 : ¬ w3.heap.size = w.heap.size := by omega
    obtain ⟨W5, hW5⟩ : ∃ W5, W5 = ((((w4.setCell ⟨w.heap.size, 0, none⟩ (.int .i64 i0)).setCell ⟨w.heap.size, 1, none⟩ (.int .i64 i1)).setCell ⟨w.heap.size, 2, none⟩ (.string z2)).setCell ⟨w.heap.size, 3, none⟩ (.slice X3 n3 z3)) := ⟨_, rfl⟩
    have kfin := R4.put4 (.int .i64 i0) (.int .i64 i1) (.string z2) (.slice X3 n3 z3)
    have st5 := h4.four hp (.int .i64 i0) (.int .i64 i1) (.string z2) (.slice X3 n3 z3)
    have gr5 := grown_four G4 (Nat.le_refl _) (.int .i64 i0) (.int .i64 i1) (.string z2) (.slice X3 n3 z3)
    have hblk : ∀ b, w.heap.size + 1 ≤ b → W5.heap[b]? = w4.heap[b]? := fun b hb => by
      rw [hW5]
      exact (Below.heap_setCell _ _ _ _ (by show b ≠ w.heap.size; omega)).trans ((Below.heap_setCell _ _ _ _ (by show b ≠ w.heap.size; omega)).trans ((Below.heap_setCell _ _ _ _ (by show b ≠ w.heap.size; omega)).trans (Below.heap_setCell _ _ _ _ (by show b ≠ w.heap.size; omega))))
    have hsz5 : W5.heap.size = w4.heap.size := by rw [hW5]; simp [World.setCell]
    rw [← hW5] at kfin st5 gr5
    have hfin := HD.out W5 i0 i1 z2 X3 n3 z3 (EX.keepL (k + 1) ix _ _ _ _ hx3 (by omega) (fun b sb' hb' => (hblk b (Nat.le_trans s2' sb')).trans (B4.block b hb' (fun e => by have h5 : w2.heap.size ≤ b := sb'; injection e with e; omega))) (fun b sb' _ => by have h5 : w2.heap.size ≤ b := sb'; show w.heap.size ≤ b; omega)) st5 gr5
    have HW5 := Lib.hid hW5
    clear hW5 hblk hn5 h4 g4 R3 R4 K3 K4 G3 G4 B4 b3 st5 gr5 HD hx3 hsz5
    go_wp2_with fail
    rw [← HW5.out]
    exact bodyPost_ret (results_cell (P := Tryz.prog) rfl _ _ w.heap.size _ _ (0, 0) _ rfl kfin Tryz.underlying42 rfl (by kernel_rfl)) rfl hfin
  have hb0 : isP 4 [] s = false := by simpa using hb
  rw [hb0] at hi
  have hfa : factP inner s = spanP k s := by unfold factP; rw [if_neg hb]
  rw [hfa] at HD
  unfold spanP at HD
  have F1 := next_fine (m := kindB 3) HFI.out
  rw [← next_kind] at F1
  obtain ⟨k3, z3, i3, a3, hz3, hi3, HN3⟩ := nextd_some p n L s 3 []
  have HI3 : Hid (I64 i3) := by show I64 _; rw [hi3]; exact F1.1.1
  rw [← hi3] at HD
  have F1' := F1.2
  generalize (nextP 3 [] s).2 = s1 at *
  have F2 := next_fine (m := saysB [afterP]) F1'
  rw [← next_says (by decide)] at F2
  obtain ⟨k4, z4, i4, a4, hz4, hi4, HN4⟩ := nextd_some p n L s1 1 afterP
  clear hz4 hi4
  have F2' := F2.2
  generalize (nextP 1 afterP s1).2 = s2 at *
  have hwa : strV afterP = .string ⟨#[97, 102, 116, 101, 114]⟩ := rfl
  rw [hnil] at HN3
  rw [hwa] at HN4
  dsimp only at HD
  have HF2 := Lib.hid F2'
  clear hb hb0 hfa HIN HFI F1 F1' F2 F2' hz3 hi3
  by_cases he : s2.e = 0
  case neg =>
    go_enter Tryz.func93, Tryz.ntmps93
    go_wp2_with fail
    refine hi.mono ?_
    rintro e w1 ⟨rfl, m1, rfl⟩
    have hn := HN3.out _ (h0.drewN m1)
    have R1 : KB ((w.alloc (.cells #[.int .i64 0, .int .i64 0, .string ⟨#[]⟩, .slice none 0 0] 42)).drewN m1) w.heap.size 42 #[.int .i64 0, .int .i64 0, .string ⟨#[]⟩, .slice none 0 0] := R0
    have G1 : w.grownBy ((w.alloc (.cells #[.int .i64 0, .int .i64 0, .string ⟨#[]⟩, .slice none 0 0] 42)).drewN m1) (some p) := grown_trans g0 ⟨rfl, rfl, rfl, Nat.le_refl _, fun _ _ _ => rfl⟩
    have s1' : w.heap.size + 1 ≤ ((w.alloc (.cells #[.int .i64 0, .int .i64 0, .string ⟨#[]⟩, .slice none 0 0] 42)).drewN m1).heap.size := Nat.le_of_eq s0.symm
    clear hi R0 g0 h0 s0
    generalize (w.alloc (.cells #[.int .i64 0, .int .i64 0, .string ⟨#[]⟩, .slice none 0 0] 42)).drewN m1 = w1 at *
    go_wp2_with fail
    refine hn.mono ?_
    rintro e w2 ⟨rfl, h2, g2⟩
    have s2' : w.heap.size + 1 ≤ w2.heap.size := by have := g2.size; omega
    have R2 := (R1.grown g2 (fun e => by injection e with e; omega)).alloc (.cells #[.int .i64 k3, .string z3, .int .i64 i3, .int .i64 a3] 79)
    have K2 := KB.new w2 79 #[.int .i64 k3, .string z3, .int .i64 i3, .int .i64 a3]
    have G2 := grown_alloc (grown_trans G1 g2) (.cells #[.int .i64 k3, .string z3, .int .i64 i3, .int .i64 a3] 79)
    have hn4 := HN4.out _ (h2.alloc (.cells #[.int .i64 k3, .string z3, .int .i64 i3, .int .i64 a3] 79))
    have z2' : (w2.alloc (.cells #[.int .i64 k3, .string z3, .int .i64 i3, .int .i64 a3] 79)).heap.size = w2.heap.size + 1 := by simp
    clear hn h2 g2 R1 G1
    go_wp2_with fail
    refine hn4.mono ?_
    rintro e w3 ⟨rfl, h3, g3⟩
    have R3 := Lib.hid (R2.grown g3 (fun e => by injection e with e; omega))
    have K3 := Lib.hid (K2.grown g3 (fun e => by injection e with e; omega))
    have G3 := Lib.hid (grown_trans G2 g3)
    have s3' : w2.heap.size + 1 ≤ w3.heap.size := by have := g3.size; omega
    have H3 := Lib.hid h3
    clear hn4 g3 R2 K2 G2 HN3 HN4 z2'
    obtain ⟨v9, a, kb, ht9, _⟩ := h3
    obtain ⟨A, c, rfl, _⟩ := ht9.form
    have hpw3 := kb.lt
    have q0 : w3.cell? ⟨p, 0, none⟩ = some (.slice A L.length c) := kb.cell 0
    have q1 : w3.cell? ⟨p, 1, none⟩ = some (.int .i64 (a : Int)) := kb.cell 1
    have q3 : w3.cell? ⟨p, 3, none⟩ = some (.int .i64 s2.fuel) := kb.cell 3
    have q4 : w3.cell? ⟨p, 4, none⟩ = some (.int .i64 s2.e) := kb.cell 4
    have g2e : (s2.e == 0) = false := beq_eq_false_iff_ne.2 he
    obtain ⟨ll, hll⟩ : ∃ ll, ll = L.length := ⟨_, rfl⟩
    rw [← hll] at q0
    obtain ⟨F, hF⟩ : ∃ F, F = s2.fuel := ⟨_, rfl⟩
    rw [← hF] at q3
    obtain ⟨ee, hee⟩ : ∃ ee, ee = s2.e := ⟨_, rfl⟩
    rw [← hee] at q4 g2e
    have hS : (fun W : World => W.cell? ⟨p, 0, none⟩ = some (.slice A ll c) ∧ W.cell? ⟨p, 1, none⟩ = some (.int .i64 (a : Int)) ∧ W.cell? ⟨p, 3, none⟩ = some (.int .i64 F) ∧ W.cell? ⟨p, 4, none⟩ = some (.int .i64 ee)) w3.drew := ⟨q0, q1, q3, q4⟩
    have HE := Lib.hid he
    clear kb ht9 hll hF hee q0 q1 q3 q4 he
    go_wp2_with fail
    rename_i KK hKK
    have HKK := Lib.hid hKK
    clear hKK
    refine wp_region_held_drew (S := (fun W => W.cell? ⟨p, 0, none⟩ = some (.slice A ll c) ∧ W.cell? ⟨p, 1, none⟩ = some (.int .i64 (a : Int)) ∧ W.cell? ⟨p, 3, none⟩ = some (.int .i64 F) ∧ W.cell? ⟨p, 4, none⟩ = some (.int .i64 ee))) (by kernel_rfl) hS (fun hHeld => ?_)
    refine hyY (some 23) 0 rfl hHeld ?_; go_frame
    refine hyY (some 24) 1 rfl hHeld ?_; go_frame
    refine hyY (some 25) 2 rfl hHeld ?_; go_frame
    refine hyY (some 26) 3 rfl hHeld ?_; go_frame
    refine hyY (some 27) 4 rfl hHeld ?_; go_frame
    refine hyY (some 28) 5 rfl hHeld ?_; go_frame
    refine hyN (some 29) 6 rfl hHeld ?_; go_frame
    refine hyN (some 30) 7 rfl hHeld ?_; go_frame
    refine hyN (some 31) 8 rfl hHeld ?_; go_frame
    refine hyN (some 32) 9 rfl hHeld ?_; go_frame
    refine hyN (some 33) 10 rfl hHeld ?_; go_frame
    refine hyY (some 34) 11 rfl hHeld ?_; go_frame
    refine hyY (some 35) 12 rfl hHeld ?_; go_frame
    refine hyN (some 36) 13 rfl hHeld ?_; go_frame
    refine hyN (some 37) 14 rfl hHeld ?_; go_frame
    refine hyY (some 38) 15 rfl hHeld ?_; go_frame
    refine hyY (some 39) 16 rfl hHeld ?_; go_frame
    refine hyN (some 40) 17 rfl hHeld ?_; go_frame
    refine hyN (some 41) 18 rfl hHeld ?_; go_frame
    refine hyN (some 42) 19 rfl hHeld ?_; go_frame
    refine hyN (some 43) 20 rfl hHeld ?_; go_frame
    refine hyN (some 44) 21 rfl hHeld ?_; go_frame
    refine hyN (some 45) 22 rfl hHeld ?_; go_frame
    refine hyN (some 46) 23 rfl hHeld ?_; go_frame
    refine hyN (some 47) 24 rfl hHeld ?_; go_frame
    refine hyN (some 48) 25 rfl hHeld ?_; go_frame
    refine hyN (some 49) 26 rfl hHeld ?_; go_frame
    refine hyN (some 50) 27 rfl hHeld ?_; go_frame
    refine hyN (some 51) 28 rfl hHeld ?_; go_frame
    refine hyN (some 52) 29 rfl hHeld ?_; go_frame
    refine hyY (some 53) 30 rfl hHeld ?_; go_frame
    refine wpAnyH_done (by kernel_rfl) ?_ _
    skip
    have hno : mileP s2 = (some (nextP 1 [] s2).1.text, (nextP 1 [] s2).2) := mile_no (fun hc => HE.out hc.1)
    rw [hno] at HD
    have F3 := next_fine (m := kindB 1) HF2.out
    rw [← next_kind] at F3
    obtain ⟨k6, z6, i6, a6, hz6, hi6, HN6⟩ := nextd_some p n L s2 1 []
    clear hi6
    rw [hnil] at HN6
    dsimp only at HD
    have HT6 : Hid (strV (nextP 1 [] s2).1.text = .string z6 ∧ (nextP 1 [] s2).1.text.length ≤ maxLen) := ⟨hz6, F3.1.2⟩
    generalize (nextP 1 [] s2).1.text = l6 at *
    generalize (nextP 1 [] s2).2 = s3 at *
    have R4 : KB w3.drew w.heap.size 42 #[.int .i64 0, .int .i64 0, .string ⟨#[]⟩, .slice none 0 0] := R3.out
    have K4 : KB w3.drew w2.heap.size 79 #[.int .i64 k3, .string z3, .int .i64 i3, .int .i64 a3] := K3.out
    have G4 : w.grownBy w3.drew (some p) := grown_trans G3.out ⟨rfl, rfl, rfl, Nat.le_refl _, fun _ _ _ => rfl⟩
    have H4 : Sd w3.drew p n L s2 := H3.out
    have s4' : w2.heap.size + 1 ≤ w3.drew.heap.size := s3'
    have hKK := HKK.out
    clear HKK hS hHeld R3 K3 G3 H3 s3' hno hz6 F3
    generalize w3.drew = v3 at *
    have hn6 := HN6.out v3 H4
    go_wp2_with fail
    refine hn6.mono ?_
    rintro e w5 ⟨rfl, h5, g5⟩
    have hgz := g5.size
    have R5 := R4.grown g5 (fun e => by injection e with e; omega)
    have K5 := K4.grown g5 (fun e => by injection e with e; omega)
    have G5 := grown_alloc (grown_trans G4 g5) (.cells #[.int .i64 k6, .string z6, .int .i64 i6, .int .i64 a6] 79)
    have H5 := h5.alloc (.cells #[.int .i64 k6, .string z6, .int .i64 i6, .int .i64 a6] 79)
    have f0 := R5.free 0
    have r0 := R5.cell 0
    have f1 := R5.free 1
    have r1 := R5.cell 1
    have f2 := R5.free 2
    have r2 := R5.cell 2
    have f3 := R5.free 3
    have r3 := R5.cell 3
    have hg0 := R5.lt
    have k0 := K5.cell 2
    have hg1 := K5.lt
    obtain ⟨W5, hW5⟩ : ∃ W5, W5 = (((((w5.setCell ⟨w.heap.size, 0, none⟩ (.int .i64 1)).setCell ⟨w.heap.size, 1, none⟩ (.int .i64 i3)).setCell ⟨w.heap.size, 2, none⟩ (.string z6)).setCell ⟨w.heap.size, 3, none⟩ (.slice none 0 0)).alloc (.cells #[.int .i64 k6, .string z6, .int .i64 i6, .int .i64 a6] 79)) := ⟨_, rfl⟩
    have kfin : KB W5 w.heap.size 42 #[.int .i64 1, .int .i64 i3, .string z6, .slice none 0 0] := by rw [hW5]; exact ((R4.grown g5 (fun e => by injection e with e; omega)).put4 (.int .i64 1) (.int .i64 i3) (.string z6) (.slice none 0 0)).alloc _
    have st5 : Sd W5 p n L s3 := by rw [hW5]; exact (h5.four hp (.int .i64 1) (.int .i64 i3) (.string z6) (.slice none 0 0)).alloc _
    have gr5 : w.grownBy W5 (some p) := by rw [hW5]; exact grown_alloc (grown_four (grown_trans G4 g5) (Nat.le_refl _) (.int .i64 1) (.int .i64 i3) (.string z6) (.slice none 0 0)) _
    have hfin := HD.out W5 1 i3 z6 none 0 0 ⟨rfl, by show I64 1; unfold I64; omega, rfl, HI3.out, HT6.out.1.symm, HT6.out.2, XS.nil _ _ _⟩ st5 gr5
    have HW5 := Lib.hid hW5
    clear hW5 hn6 h5 g5 R4 K4 G4 H4 R5 K5 G5 H5 st5 gr5 HD HT6 HI3
    go_wp2_with fail
    rw [← HW5.out]
    exact bodyPost_ret (results_cell (P := Tryz.prog) rfl _ _ w.heap.size _ _ (0, 0) _ rfl kfin Tryz.underlying42 rfl (by kernel_rfl)) rfl hfin
  by_cases hfu : 0 < s2.fuel
  case neg =>
    go_enter Tryz.func93, Tryz.ntmps93
    go_wp2_with fail
    refine hi.mono ?_
    rintro e w1 ⟨rfl, m1, rfl⟩
    have hn := HN3.out _ (h0.drewN m1)
    have R1 : KB ((w.alloc (.cells #[.int .i64 0, .int .i64 0, .string ⟨#[]⟩, .slice none 0 0] 42)).drewN m1) w.heap.size 42 #[.int .i64 0, .int .i64 0, .string ⟨#[]⟩, .slice none 0 0] := R0
    have G1 : w.grownBy ((w.alloc (.cells #[.int .i64 0, .int .i64 0, .string ⟨#[]⟩, .slice none 0 0] 42)).drewN m1) (some p) := grown_trans g0 ⟨rfl, rfl, rfl, Nat.le_refl _, fun _ _ _ => rfl⟩
    have s1' : w.heap.size + 1 ≤ ((w.alloc (.cells #[.int .i64 0, .int .i64 0, .string ⟨#[]⟩, .slice none 0 0] 42)).drewN m1).heap.size := Nat.le_of_eq s0.symm
    clear hi R0 g0 h0 s0
    generalize (w.alloc (.cells #[.int .i64 0, .int .i64 0, .string ⟨#[]⟩, .slice none 0 0] 42)).drewN m1 = w1 at *
    go_wp2_with fail
    refine hn.mono ?_
    rintro e w2 ⟨rfl, h2, g2⟩
    have s2' : w.heap.size + 1 ≤ w2.heap.size := by have := g2.size; omega
    have R2 := (R1.grown g2 (fun e => by injection e with e; omega)).alloc (.cells #[.int .i64 k3, .string z3, .int .i64 i3, .int .i64 a3] 79)
    have K2 := KB.new w2 79 #[.int .i64 k3, .string z3, .int .i64 i3, .int .i64 a3]
    have G2 := grown_alloc (grown_trans G1 g2) (.cells #[.int .i64 k3, .string z3, .int .i64 i3, .int .i64 a3] 79)
    have hn4 := HN4.out _ (h2.alloc (.cells #[.int .i64 k3, .string z3, .int .i64 i3, .int .i64 a3] 79))
    have z2' : (w2.alloc (.cells #[.int .i64 k3, .string z3, .int .i64 i3, .int .i64 a3] 79)).heap.size = w2.heap.size + 1 := by simp
    clear hn h2 g2 R1 G1
    go_wp2_with fail
    refine hn4.mono ?_
    rintro e w3 ⟨rfl, h3, g3⟩
    have R3 := Lib.hid (R2.grown g3 (fun e => by injection e with e; omega))
    have K3 := Lib.hid (K2.grown g3 (fun e => by injection e with e; omega))
    have G3 := Lib.hid (grown_trans G2 g3)
    have s3' : w2.heap.size + 1 ≤ w3.heap.size := by have := g3.size; omega
    have H3 := Lib.hid h3
    clear hn4 g3 R2 K2 G2 HN3 HN4 z2'
    obtain ⟨v9, a, kb, ht9, _⟩ := h3
    obtain ⟨A, c, rfl, _⟩ := ht9.form
    have hpw3 := kb.lt
    rw [he] at kb
    have q0 : w3.cell? ⟨p, 0, none⟩ = some (.slice A L.length c) := kb.cell 0
    have q1 : w3.cell? ⟨p, 1, none⟩ = some (.int .i64 (a : Int)) := kb.cell 1
    have q3 : w3.cell? ⟨p, 3, none⟩ = some (.int .i64 s2.fuel) := kb.cell 3
    have q4 : w3.cell? ⟨p, 4, none⟩ = some (.int .i64 0) := kb.cell 4
    obtain ⟨ll, hll⟩ : ∃ ll, ll = L.length := ⟨_, rfl⟩
    rw [← hll] at q0
    have hfu' : ¬ 0 < s2.fuel := by omega
    clear hfu
    have hfu := hfu'
    clear hfu'
    have HE : Hid (¬ 0 < s2.fuel) := hfu
    obtain ⟨F, hF⟩ : ∃ F, F = s2.fuel := ⟨_, rfl⟩
    rw [← hF] at q3 hfu
    have dF : decide (0 < F) = false := decide_eq_false hfu
    have hS : (fun W : World => W.cell? ⟨p, 0, none⟩ = some (.slice A ll c) ∧ W.cell? ⟨p, 1, none⟩ = some (.int .i64 (a : Int)) ∧ W.cell? ⟨p, 3, none⟩ = some (.int .i64 F) ∧ W.cell? ⟨p, 4, none⟩ = some (.int .i64 0)) w3.drew := ⟨q0, q1, q3, q4⟩
    clear kb ht9 hll hF q0 q1 q3 q4 he
    go_wp2_with fail
    rename_i KK hKK
    have HKK := Lib.hid hKK
    clear hKK
    refine wp_region_held_drew (S := (fun W => W.cell? ⟨p, 0, none⟩ = some (.slice A ll c) ∧ W.cell? ⟨p, 1, none⟩ = some (.int .i64 (a : Int)) ∧ W.cell? ⟨p, 3, none⟩ = some (.int .i64 F) ∧ W.cell? ⟨p, 4, none⟩ = some (.int .i64 0))) (by kernel_rfl) hS (fun hHeld => ?_)
    refine hyY (some 23) 0 rfl hHeld ?_; go_frame
    refine hyY (some 24) 1 rfl hHeld ?_; go_frame
    refine hyY (some 25) 2 rfl hHeld ?_; go_frame
    refine hyY (some 26) 3 rfl hHeld ?_; go_frame
    refine hyY (some 27) 4 rfl hHeld ?_; go_frame
    refine hyY (some 28) 5 rfl hHeld ?_; go_frame
    refine hyY (some 29) 6 rfl hHeld ?_; go_frame
    refine hyY (some 30) 7 rfl hHeld ?_; go_frame
    refine hyY (some 31) 8 rfl hHeld ?_; go_frame
    refine hyY (some 32) 9 rfl hHeld ?_; go_frame
    refine hyY (some 33) 10 rfl hHeld ?_; go_frame
    refine hyY (some 34) 11 rfl hHeld ?_; go_frame
    refine hyY (some 35) 12 rfl hHeld ?_; go_frame
    refine hyN (some 36) 13 rfl hHeld ?_; go_frame
    refine hyN (some 37) 14 rfl hHeld ?_; go_frame
    refine hyY (some 38) 15 rfl hHeld ?_; go_frame
    refine hyY (some 39) 16 rfl hHeld ?_; go_frame
    refine hyN (some 40) 17 rfl hHeld ?_; go_frame
    refine hyN (some 41) 18 rfl hHeld ?_; go_frame
    refine hyN (some 42) 19 rfl hHeld ?_; go_frame
    refine hyN (some 43) 20 rfl hHeld ?_; go_frame
    refine hyN (some 44) 21 rfl hHeld ?_; go_frame
    refine hyN (some 45) 22 rfl hHeld ?_; go_frame
    refine hyN (some 46) 23 rfl hHeld ?_; go_frame
    refine hyN (some 47) 24 rfl hHeld ?_; go_frame
    refine hyN (some 48) 25 rfl hHeld ?_; go_frame
    refine hyN (some 49) 26 rfl hHeld ?_; go_frame
    refine hyN (some 50) 27 rfl hHeld ?_; go_frame
    refine hyN (some 51) 28 rfl hHeld ?_; go_frame
    refine hyN (some 52) 29 rfl hHeld ?_; go_frame
    refine hyY (some 53) 30 rfl hHeld ?_; go_frame
    refine wpAnyH_done (by kernel_rfl) ?_ _
    skip
    have hno : mileP s2 = (some (nextP 1 [] s2).1.text, (nextP 1 [] s2).2) := mile_no (fun hc => absurd hc.2.1 (by have := HE.out; omega))
    rw [hno] at HD
    have F3 := next_fine (m := kindB 1) HF2.out
    rw [← next_kind] at F3
    obtain ⟨k6, z6, i6, a6, hz6, hi6, HN6⟩ := nextd_some p n L s2 1 []
    clear hi6
    rw [hnil] at HN6
    dsimp only at HD
    have HT6 : Hid (strV (nextP 1 [] s2).1.text = .string z6 ∧ (nextP 1 [] s2).1.text.length ≤ maxLen) := ⟨hz6, F3.1.2⟩
    generalize (nextP 1 [] s2).1.text = l6 at *
    generalize (nextP 1 [] s2).2 = s3 at *
    have R4 : KB w3.drew w.heap.size 42 #[.int .i64 0, .int .i64 0, .string ⟨#[]⟩, .slice none 0 0] := R3.out
    have K4 : KB w3.drew w2.heap.size 79 #[.int .i64 k3, .string z3, .int .i64 i3, .int .i64 a3] := K3.out
    have G4 : w.grownBy w3.drew (some p) := grown_trans G3.out ⟨rfl, rfl, rfl, Nat.le_refl _, fun _ _ _ => rfl⟩
    have H4 : Sd w3.drew p n L s2 := H3.out
    have s4' : w2.heap.size + 1 ≤ w3.drew.heap.size := s3'
    have hKK := HKK.out
    clear HKK hS hHeld R3 K3 G3 H3 s3' hno hz6 F3
    generalize w3.drew = v3 at *
    have hn6 := HN6.out v3 H4
    go_wp2_with fail
    refine hn6.mono ?_
    rintro e w5 ⟨rfl, h5, g5⟩
    have hgz := g5.size
    have R5 := R4.grown g5 (fun e => by injection e with e; omega)
    have K5 := K4.grown g5 (fun e => by injection e with e; omega)
    have G5 := grown_alloc (grown_trans G4 g5) (.cells #[.int .i64 k6, .string z6, .int .i64 i6, .int .i64 a6] 79)
    have H5 := h5.alloc (.cells #[.int .i64 k6, .string z6, .int .i64 i6, .int .i64 a6] 79)
    have f0 := R5.free 0
    have r0 := R5.cell 0
    have f1 := R5.free 1
    have r1 := R5.cell 1
    have f2 := R5.free 2
    have r2 := R5.cell 2
    have f3 := R5.free 3
    have r3 := R5.cell 3
    have hg0 := R5.lt
    have k0 := K5.cell 2
    have hg1 := K5.lt
    obtain ⟨W5, hW5⟩ : ∃ W5, W5 = (((((w5.setCell ⟨w.heap.size, 0, none⟩ (.int .i64 1)).setCell ⟨w.heap.size, 1, none⟩ (.int .i64 i3)).setCell ⟨w.heap.size, 2, none⟩ (.string z6)).setCell ⟨w.heap.size, 3, none⟩ (.slice none 0 0)).alloc (.cells #[.int .i64 k6, .string z6, .int .i64 i6, .int .i64 a6] 79)) := ⟨_, rfl⟩
    have kfin : KB W5 w.heap.size 42 #[.int .i64 1, .int .i64 i3, .string z6, .slice none 0 0] := by rw [hW5]; exact ((R4.grown g5 (fun e => by injection e with e; omega)).put4 (.int .i64 1) (.int .i64 i3) (.string z6) (.slice none 0 0)).alloc _
    have st5 : Sd W5 p n L s3 := by rw [hW5]; exact (h5.four hp (.int .i64 1) (.int .i64 i3) (.string z6) (.slice none 0 0)).alloc _
    have gr5 : w.grownBy W5 (some p) := by rw [hW5]; exact grown_alloc (grown_four (grown_trans G4 g5) (Nat.le_refl _) (.int .i64 1) (.int .i64 i3) (.string z6) (.slice none 0 0)) _
    have hfin := HD.out W5 1 i3 z6 none 0 0 ⟨rfl, by show I64 1; unfold I64; omega, rfl, HI3.out, HT6.out.1.symm, HT6.out.2, XS.nil _ _ _⟩ st5 gr5
    have HW5 := Lib.hid hW5
    clear hW5 hn6 h5 g5 R4 K4 G4 H4 R5 K5 G5 H5 st5 gr5 HD HT6 HI3
    go_wp2_with fail
    rw [← HW5.out]
    exact bodyPost_ret (results_cell (P := Tryz.prog) rfl _ _ w.heap.size _ _ (0, 0) _ rfl kfin Tryz.underlying42 rfl (by kernel_rfl)) rfl hfin
  by_cases hw1 : isP 1 [] s2 = true
  case neg =>
    have hw0 : isP 1 [] s2 = false := by simpa using hw1
    go_enter Tryz.func93, Tryz.ntmps93
    go_wp2_with fail
    refine hi.mono ?_
    rintro e w1 ⟨rfl, m1, rfl⟩
    have hn := HN3.out _ (h0.drewN m1)
    have R1 : KB ((w.alloc (.cells #[.int .i64 0, .int .i64 0, .string ⟨#[]⟩, .slice none 0 0] 42)).drewN m1) w.heap.size 42 #[.int .i64 0, .int .i64 0, .string ⟨#[]⟩, .slice none 0 0] := R0
    have G1 : w.grownBy ((w.alloc (.cells #[.int .i64 0, .int .i64 0, .string ⟨#[]⟩, .slice none 0 0] 42)).drewN m1) (some p) := grown_trans g0 ⟨rfl, rfl, rfl, Nat.le_refl _, fun _ _ _ => rfl⟩
    have s1' : w.heap.size + 1 ≤ ((w.alloc (.cells #[.int .i64 0, .int .i64 0, .string ⟨#[]⟩, .slice none 0 0] 42)).drewN m1).heap.size := Nat.le_of_eq s0.symm
    clear hi R0 g0 h0 s0
    generalize (w.alloc (.cells #[.int .i64 0, .int .i64 0, .string ⟨#[]⟩, .slice none 0 0] 42)).drewN m1 = w1 at *
    go_wp2_with fail
    refine hn.mono ?_
    rintro e w2 ⟨rfl, h2, g2⟩
    have s2' : w.heap.size + 1 ≤ w2.heap.size := by have := g2.size; omega
    have R2 := (R1.grown g2 (fun e => by injection e with e; omega)).alloc (.cells #[.int .i64 k3, .string z3, .int .i64 i3, .int .i64 a3] 79)
    have K2 := KB.new w2 79 #[.int .i64 k3, .string z3, .int .i64 i3, .int .i64 a3]
    have G2 := grown_alloc (grown_trans G1 g2) (.cells #[.int .i64 k3, .string z3, .int .i64 i3, .int .i64 a3] 79)
    have hn4 := HN4.out _ (h2.alloc (.cells #[.int .i64 k3, .string z3, .int .i64 i3, .int .i64 a3] 79))
    have z2' : (w2.alloc (.cells #[.int .i64 k3, .string z3, .int .i64 i3, .int .i64 a3] 79)).heap.size = w2.heap.size + 1 := by simp
    clear hn h2 g2 R1 G1
    go_wp2_with fail
    refine hn4.mono ?_
    rintro e w3 ⟨rfl, h3, g3⟩
    have R3 := Lib.hid (R2.grown g3 (fun e => by injection e with e; omega))
    have K3 := Lib.hid (K2.grown g3 (fun e => by injection e with e; omega))
    have G3 := Lib.hid (grown_trans G2 g3)
    have s3' : w2.heap.size + 1 ≤ w3.heap.size := by have := g3.size; omega
    have H3 := Lib.hid h3
    clear hn4 g3 R2 K2 G2 HN3 HN4 z2'
    obtain ⟨v9, a, kb, ht9, _⟩ := h3
    obtain ⟨A, c, rfl, _⟩ := ht9.form
    have hpw3 := kb.lt
    rw [he] at kb
    have q0 : w3.cell? ⟨p, 0, none⟩ = some (.slice A L.length c) := kb.cell 0
    have q1 : w3.cell? ⟨p, 1, none⟩ = some (.int .i64 (a : Int)) := kb.cell 1
    have q3 : w3.cell? ⟨p, 3, none⟩ = some (.int .i64 s2.fuel) := kb.cell 3
    have q4 : w3.cell? ⟨p, 4, none⟩ = some (.int .i64 0) := kb.cell 4
    obtain ⟨ll, hll⟩ : ∃ ll, ll = L.length := ⟨_, rfl⟩
    rw [← hll] at q0
    have HE := Lib.hid hw1
    have HIS : Hid (∀ W, Sd W p n L s2 → Calls Tryz.prog 41 #[.pointer (some ⟨p, 0, none⟩), .int .i64 1, .string ⟨#[]⟩] W fun e w' => e = .returned (.bool false) ∧ ∃ m, w' = W.drewN m) := fun W hW => by
      have := is18_any p n L s2 1 [] W hW
      rw [hw0] at this; exact this
    have H3d : Hid (Sd w3.drew p n L s2) := H3.out
    obtain ⟨F, hF⟩ : ∃ F, F = s2.fuel := ⟨_, rfl⟩
    rw [← hF] at q3 hfu
    have dF : decide (0 < F) = true := decide_eq_true hfu
    have hS : (fun W : World => W.cell? ⟨p, 0, none⟩ = some (.slice A ll c) ∧ W.cell? ⟨p, 1, none⟩ = some (.int .i64 (a : Int)) ∧ W.cell? ⟨p, 3, none⟩ = some (.int .i64 F) ∧ W.cell? ⟨p, 4, none⟩ = some (.int .i64 0)) w3.drew := ⟨q0, q1, q3, q4⟩
    clear kb ht9 hll hF q0 q1 q3 q4 he hw1 hw0
    go_wp2_with fail
    rename_i KK hKK
    have HKK := Lib.hid hKK
    clear hKK
    refine wp_region_held_drew (S := (fun W => W.cell? ⟨p, 0, none⟩ = some (.slice A ll c) ∧ W.cell? ⟨p, 1, none⟩ = some (.int .i64 (a : Int)) ∧ W.cell? ⟨p, 3, none⟩ = some (.int .i64 F) ∧ W.cell? ⟨p, 4, none⟩ = some (.int .i64 0))) (by kernel_rfl) hS (fun hHeld => ?_)
    refine hyY (some 23) 0 rfl hHeld ?_; go_frame
    refine hyY (some 24) 1 rfl hHeld ?_; go_frame
    refine hyY (some 25) 2 rfl hHeld ?_; go_frame
    refine hyY (some 26) 3 rfl hHeld ?_; go_frame
    refine hyY (some 27) 4 rfl hHeld ?_; go_frame
    refine hyY (some 28) 5 rfl hHeld ?_; go_frame
    refine hyY (some 29) 6 rfl hHeld ?_; go_frame
    refine hyY (some 30) 7 rfl hHeld ?_; go_frame
    refine hyY (some 31) 8 rfl hHeld ?_; go_frame
    refine hyY (some 32) 9 rfl hHeld ?_; go_frame
    refine hyY (some 33) 10 rfl hHeld ?_; go_frame
    refine hyY (some 34) 11 rfl hHeld ?_; go_frame
    refine hyY (some 35) 12 rfl hHeld ?_; go_frame
    refine hyY (some 36) 13 rfl hHeld ?_; go_frame
    refine hyO (some 37) 14 rfl (fun K hK => ?_)
    go_simp
    go_at_call 41
    refine (HIS.out _ H3d.out).mono ?_
    rintro e w4 ⟨rfl, m4, rfl⟩
    go_wp2_with fail
    refine hK.out _ _ ?_ (fun hH2 => ?_)
    · exact hS
    clear hHeld hK K; have hHeld := hH2; clear hH2; try go_frame
    refine hyY (some 38) 15 rfl hHeld ?_; go_frame
    refine hyY (some 39) 16 rfl hHeld ?_; go_frame
    refine hyN (some 40) 17 rfl hHeld ?_; go_frame
    refine hyN (some 41) 18 rfl hHeld ?_; go_frame
    refine hyN (some 42) 19 rfl hHeld ?_; go_frame
    refine hyN (some 43) 20 rfl hHeld ?_; go_frame
    refine hyN (some 44) 21 rfl hHeld ?_; go_frame
    refine hyN (some 45) 22 rfl hHeld ?_; go_frame
    refine hyN (some 46) 23 rfl hHeld ?_; go_frame
    refine hyN (some 47) 24 rfl hHeld ?_; go_frame
    refine hyN (some 48) 25 rfl hHeld ?_; go_frame
    refine hyN (some 49) 26 rfl hHeld ?_; go_frame
    refine hyN (some 50) 27 rfl hHeld ?_; go_frame
    refine hyN (some 51) 28 rfl hHeld ?_; go_frame
    refine hyN (some 52) 29 rfl hHeld ?_; go_frame
    refine hyY (some 53) 30 rfl hHeld ?_; go_frame
    refine wpAnyH_done (by kernel_rfl) ?_ _
    skip
    clear HIS H3d
    have hno : mileP s2 = (some (nextP 1 [] s2).1.text, (nextP 1 [] s2).2) := mile_no (fun hc => HE.out hc.2.2.1)
    rw [hno] at HD
    have F3 := next_fine (m := kindB 1) HF2.out
    rw [← next_kind] at F3
    obtain ⟨k6, z6, i6, a6, hz6, hi6, HN6⟩ := nextd_some p n L s2 1 []
    clear hi6
    rw [hnil] at HN6
    dsimp only at HD
    have HT6 : Hid (strV (nextP 1 [] s2).1.text = .string z6 ∧ (nextP 1 [] s2).1.text.length ≤ maxLen) := ⟨hz6, F3.1.2⟩
    generalize (nextP 1 [] s2).1.text = l6 at *
    generalize (nextP 1 [] s2).2 = s3 at *
    have R4 : KB (w3.drewN (1 + m4)) w.heap.size 42 #[.int .i64 0, .int .i64 0, .string ⟨#[]⟩, .slice none 0 0] := R3.out
    have K4 : KB (w3.drewN (1 + m4)) w2.heap.size 79 #[.int .i64 k3, .string z3, .int .i64 i3, .int .i64 a3] := K3.out
    have G4 : w.grownBy (w3.drewN (1 + m4)) (some p) := grown_trans G3.out ⟨rfl, rfl, rfl, Nat.le_refl _, fun _ _ _ => rfl⟩
    have H4 : Sd (w3.drewN (1 + m4)) p n L s2 := H3.out
    have s4' : w2.heap.size + 1 ≤ (w3.drewN (1 + m4)).heap.size := s3'
    have hKK := HKK.out
    clear HKK hS hHeld R3 K3 G3 H3 s3' hno hz6 F3
    generalize (w3.drewN (1 + m4)) = v3 at *
    have hn6 := HN6.out v3 H4
    go_wp2_with fail
    refine hn6.mono ?_
    rintro e w5 ⟨rfl, h5, g5⟩
    have hgz := g5.size
    have R5 := R4.grown g5 (fun e => by injection e with e; omega)
    have K5 := K4.grown g5 (fun e => by injection e with e; omega)
    have G5 := grown_alloc (grown_trans G4 g5) (.cells #[.int .i64 k6, .string z6, .int .i64 i6, .int .i64 a6] 79)
    have H5 := h5.alloc (.cells #[.int .i64 k6, .string z6, .int .i64 i6, .int .i64 a6] 79)
    have f0 := R5.free 0
    have r0 := R5.cell 0
    have f1 := R5.free 1
    have r1 := R5.cell 1
    have f2 := R5.free 2
    have r2 := R5.cell 2
    have f3 := R5.free 3
    have r3 := R5.cell 3
    have hg0 := R5.lt
    have k0 := K5.cell 2
    have hg1 := K5.lt
    obtain ⟨W5, hW5⟩ : ∃ W5, W5 = (((((w5.setCell ⟨w.heap.size, 0, none⟩ (.int .i64 1)).setCell ⟨w.heap.size, 1, none⟩ (.int .i64 i3)).setCell ⟨w.heap.size, 2, none⟩ (.string z6)).setCell ⟨w.heap.size, 3, none⟩ (.slice none 0 0)).alloc (.cells #[.int .i64 k6, .string z6, .int .i64 i6, .int .i64 a6] 79)) := ⟨_, rfl⟩
    have kfin : KB W5 w.heap.size 42 #[.int .i64 1, .int .i64 i3, .string z6, .slice none 0 0] := by rw [hW5]; exact ((R4.grown g5 (fun e => by injection e with e; omega)).put4 (.int .i64 1) (.int .i64 i3) (.string z6) (.slice none 0 0)).alloc _
    have st5 : Sd W5 p n L s3 := by rw [hW5]; exact (h5.four hp (.int .i64 1) (.int .i64 i3) (.string z6) (.slice none 0 0)).alloc _
    have gr5 : w.grownBy W5 (some p) := by rw [hW5]; exact grown_alloc (grown_four (grown_trans G4 g5) (Nat.le_refl _) (.int .i64 1) (.int .i64 i3) (.string z6) (.slice none 0 0)) _
    have hfin := HD.out W5 1 i3 z6 none 0 0 ⟨rfl, by show I64 1; unfold I64; omega, rfl, HI3.out, HT6.out.1.symm, HT6.out.2, XS.nil _ _ _⟩ st5 gr5
    have HW5 := Lib.hid hW5
    clear hW5 hn6 h5 g5 R4 K4 G4 H4 R5 K5 G5 H5 st5 gr5 HD HT6 HI3
    go_wp2_with fail
    rw [← HW5.out]
    exact bodyPost_ret (results_cell (P := Tryz.prog) rfl _ _ w.heap.size _ _ (0, 0) _ rfl kfin Tryz.underlying42 rfl (by kernel_rfl)) rfl hfin
  cases hrs : s2.rest with
  | nil => rw [is_nil hrs] at hw1; cases hw1
  | cons t r =>
  have HHD : Hid (headP s2 = t.text) := by show _ = _; unfold headP; rw [hrs]
  have HHR := Lib.hid hrs
  obtain ⟨ok, hok⟩ : ∃ ok, ok = wordS t.text := ⟨_, rfl⟩
  have HOK : Hid (ok = wordS t.text) := hok
  have HFU := Lib.hid hfu
  have HZ0 := Lib.hid he
  have HW1 := Lib.hid hw1
  clear hrs hok hfu he hw1
  cases ok with
  | true =>
    go_enter Tryz.func93, Tryz.ntmps93
    go_wp2_with fail
    refine hi.mono ?_
    rintro e w1 ⟨rfl, m1, rfl⟩
    have hn := HN3.out _ (h0.drewN m1)
    have R1 : KB ((w.alloc (.cells #[.int .i64 0, .int .i64 0, .string ⟨#[]⟩, .slice none 0 0] 42)).drewN m1) w.heap.size 42 #[.int .i64 0, .int .i64 0, .string ⟨#[]⟩, .slice none 0 0] := R0
    have G1 : w.grownBy ((w.alloc (.cells #[.int .i64 0, .int .i64 0, .string ⟨#[]⟩, .slice none 0 0] 42)).drewN m1) (some p) := grown_trans g0 ⟨rfl, rfl, rfl, Nat.le_refl _, fun _ _ _ => rfl⟩
    have s1' : w.heap.size + 1 ≤ ((w.alloc (.cells #[.int .i64 0, .int .i64 0, .string ⟨#[]⟩, .slice none 0 0] 42)).drewN m1).heap.size := Nat.le_of_eq s0.symm
    clear hi R0 g0 h0 s0
    generalize (w.alloc (.cells #[.int .i64 0, .int .i64 0, .string ⟨#[]⟩, .slice none 0 0] 42)).drewN m1 = w1 at *
    go_wp2_with fail
    refine hn.mono ?_
    rintro e w2 ⟨rfl, h2, g2⟩
    have s2' : w.heap.size + 1 ≤ w2.heap.size := by have := g2.size; omega
    have R2 := (R1.grown g2 (fun e => by injection e with e; omega)).alloc (.cells #[.int .i64 k3, .string z3, .int .i64 i3, .int .i64 a3] 79)
    have K2 := KB.new w2 79 #[.int .i64 k3, .string z3, .int .i64 i3, .int .i64 a3]
    have G2 := grown_alloc (grown_trans G1 g2) (.cells #[.int .i64 k3, .string z3, .int .i64 i3, .int .i64 a3] 79)
    have hn4 := HN4.out _ (h2.alloc (.cells #[.int .i64 k3, .string z3, .int .i64 i3, .int .i64 a3] 79))
    have z2' : (w2.alloc (.cells #[.int .i64 k3, .string z3, .int .i64 i3, .int .i64 a3] 79)).heap.size = w2.heap.size + 1 := by simp
    clear hn h2 g2 R1 G1
    go_wp2_with fail
    refine hn4.mono ?_
    rintro e w3 ⟨rfl, h3, g3⟩
    have R3 := Lib.hid (R2.grown g3 (fun e => by injection e with e; omega))
    have K3 := Lib.hid (K2.grown g3 (fun e => by injection e with e; omega))
    have G3 := Lib.hid (grown_trans G2 g3)
    have s3' : w2.heap.size + 1 ≤ w3.heap.size := by have := g3.size; omega
    have H3 := Lib.hid h3
    clear hn4 g3 R2 K2 G2 HN3 HN4 z2'
    obtain ⟨b, o, c, a, kb, hbp, hbw, hal, hlm, c0, c1, c2, c3, hrd⟩ := h3.head HHR.out
    have hpw3 := kb.lt
    rw [HZ0.out] at kb
    have q0 : w3.cell? ⟨p, 0, none⟩ = some (.slice (some ⟨b, o, none⟩) L.length c) := kb.cell 0
    have q1 : w3.cell? ⟨p, 1, none⟩ = some (.int .i64 (a : Int)) := kb.cell 1
    have q3 : w3.cell? ⟨p, 3, none⟩ = some (.int .i64 s2.fuel) := kb.cell 3
    have q4 : w3.cell? ⟨p, 4, none⟩ = some (.int .i64 0) := kb.cell 4
    obtain ⟨ll, hll⟩ : ∃ ll, ll = L.length := ⟨_, rfl⟩
    rw [← hll] at q0 hal hlm
    have hl : ((a : Int) < (ll : Int)) := by omega
    have HIS : Hid (∀ W, Sd W p n L s2 → Calls Tryz.prog 41 #[.pointer (some ⟨p, 0, none⟩), .int .i64 1, .string ⟨#[]⟩] W fun e w' => e = .returned (.bool true) ∧ ∃ m, w' = W.drewN m) := fun W hW => by
      have := is18_any p n L s2 1 [] W hW
      rw [HW1.out] at this; exact this
    have H3d : Hid (Sd w3.drew p n L s2) := H3.out
    obtain ⟨tt, htt⟩ : ∃ tt : ByteArray, strV t.text = .string tt := ⟨_, rfl⟩
    rw [htt] at c1
    have HWD : Hid (∀ W, Calls Tryz.prog 94 #[.string tt] W fun e w' => e = .returned (.bool true) ∧ W = w') := fun W => by
      have := rword_any t.text (HF2.out.2 t (by rw [HHR.out]; exact List.mem_cons_self ..)).2 W
      rw [htt, ← HOK.out] at this; exact this
    have hfu := HFU.out
    obtain ⟨F, hF⟩ : ∃ F, F = s2.fuel := ⟨_, rfl⟩
    rw [← hF] at q3 hfu
    have dF : decide (0 < F) = true := decide_eq_true hfu
    have hS : (fun W : World => W.cell? ⟨p, 0, none⟩ = some (.slice (some ⟨b, o, none⟩) ll c) ∧ W.cell? ⟨p, 1, none⟩ = some (.int .i64 (a : Int)) ∧ W.cell? ⟨p, 3, none⟩ = some (.int .i64 F) ∧ W.cell? ⟨p, 4, none⟩ = some (.int .i64 0) ∧ W.cell? ⟨b, o + a * 4 + 1, none⟩ = some (.string tt)) w3.drew := ⟨q0, q1, q3, q4, c1⟩
    clear kb hll hF q0 q1 q3 q4 c0 c1 c2 c3 hrd htt
    go_wp2_with fail
    rename_i KK hKK
    have HKK := Lib.hid hKK
    clear hKK
    refine wp_region_held_drew (S := (fun W => W.cell? ⟨p, 0, none⟩ = some (.slice (some ⟨b, o, none⟩) ll c) ∧ W.cell? ⟨p, 1, none⟩ = some (.int .i64 (a : Int)) ∧ W.cell? ⟨p, 3, none⟩ = some (.int .i64 F) ∧ W.cell? ⟨p, 4, none⟩ = some (.int .i64 0) ∧ W.cell? ⟨b, o + a * 4 + 1, none⟩ = some (.string tt))) (by kernel_rfl) hS (fun hHeld => ?_)
    refine hyY (some 23) 0 rfl hHeld ?_; go_frame
    refine hyY (some 24) 1 rfl hHeld ?_; go_frame
    refine hyY (some 25) 2 rfl hHeld ?_; go_frame
    refine hyY (some 26) 3 rfl hHeld ?_; go_frame
    refine hyY (some 27) 4 rfl hHeld ?_; go_frame
    refine hyY (some 28) 5 rfl hHeld ?_; go_frame
    refine hyY (some 29) 6 rfl hHeld ?_; go_frame
    refine hyY (some 30) 7 rfl hHeld ?_; go_frame
    refine hyY (some 31) 8 rfl hHeld ?_; go_frame
    refine hyY (some 32) 9 rfl hHeld ?_; go_frame
    refine hyY (some 33) 10 rfl hHeld ?_; go_frame
    refine hyY (some 34) 11 rfl hHeld ?_; go_frame
    refine hyY (some 35) 12 rfl hHeld ?_; go_frame
    refine hyY (some 36) 13 rfl hHeld ?_; go_frame
    refine hyO (some 37) 14 rfl (fun K hK => ?_)
    go_simp
    go_at_call 41
    refine (HIS.out _ H3d.out).mono ?_
    rintro e w4 ⟨rfl, m4, rfl⟩
    go_wp2_with fail
    refine hK.out _ _ ?_ (fun hH2 => ?_)
    · exact hS
    clear hHeld hK K; have hHeld := hH2; clear hH2; try go_frame
    refine hyY (some 38) 15 rfl hHeld ?_; go_frame
    refine hyY (some 39) 16 rfl hHeld ?_; go_frame
    refine hyY (some 40) 17 rfl hHeld ?_; go_frame
    refine hyY (some 41) 18 rfl hHeld ?_; go_frame
    refine hyY (some 42) 19 rfl hHeld ?_; go_frame
    refine hyY (some 43) 20 rfl hHeld ?_; go_frame
    refine hyY (some 44) 21 rfl hHeld ?_; go_frame
    refine hyY (some 45) 22 rfl hHeld ?_; go_frame
    refine hyY (some 46) 23 rfl hHeld ?_; go_frame
    refine hyY (some 47) 24 rfl hHeld ?_; go_frame
    refine hyY (some 48) 25 rfl hHeld ?_; go_frame
    refine hyY (some 49) 26 rfl hHeld ?_; go_frame
    refine hyY (some 50) 27 rfl hHeld ?_; go_frame
    refine hyO (some 51) 28 rfl (fun K hK => ?_)
    go_simp
    go_at_call 94
    refine (HWD.out _).mono ?_
    rintro e w5 ⟨rfl, rfl⟩
    go_wp2_with fail
    refine hK.out _ _ ?_ (fun hH2 => ?_)
    · exact hS
    clear hHeld hK K; have hHeld := hH2; clear hH2; try go_frame
    refine hyY (some 52) 29 rfl hHeld ?_; go_frame
    refine hyY (some 53) 30 rfl hHeld ?_; go_frame
    refine wpAnyH_done (by kernel_rfl) ?_ _
    skip
    clear HIS H3d HWD
    have hno : mileP s2 = (some (nextP 1 [] s2).1.text, (nextP 1 [] s2).2) := mile_no (fun hc => by have := hc.2.2.2; rw [HHD.out, ← HOK.out] at this; cases this)
    rw [hno] at HD
    have F3 := next_fine (m := kindB 1) HF2.out
    rw [← next_kind] at F3
    obtain ⟨k6, z6, i6, a6, hz6, hi6, HN6⟩ := nextd_some p n L s2 1 []
    clear hi6
    rw [hnil] at HN6
    dsimp only at HD
    have HT6 : Hid (strV (nextP 1 [] s2).1.text = .string z6 ∧ (nextP 1 [] s2).1.text.length ≤ maxLen) := ⟨hz6, F3.1.2⟩
    generalize (nextP 1 [] s2).1.text = l6 at *
    generalize (nextP 1 [] s2).2 = s3 at *
    have R4 : KB (w3.drewN (1 + m4)) w.heap.size 42 #[.int .i64 0, .int .i64 0, .string ⟨#[]⟩, .slice none 0 0] := R3.out
    have K4 : KB (w3.drewN (1 + m4)) w2.heap.size 79 #[.int .i64 k3, .string z3, .int .i64 i3, .int .i64 a3] := K3.out
    have G4 : w.grownBy (w3.drewN (1 + m4)) (some p) := grown_trans G3.out ⟨rfl, rfl, rfl, Nat.le_refl _, fun _ _ _ => rfl⟩
    have H4 : Sd (w3.drewN (1 + m4)) p n L s2 := H3.out
    have s4' : w2.heap.size + 1 ≤ (w3.drewN (1 + m4)).heap.size := s3'
    have hKK := HKK.out
    clear HKK hS hHeld R3 K3 G3 H3 s3' hno hz6 F3
    generalize (w3.drewN (1 + m4)) = v3 at *
    have hn6 := HN6.out v3 H4
    go_wp2_with fail
    refine hn6.mono ?_
    rintro e w5 ⟨rfl, h5, g5⟩
    have hgz := g5.size
    have R5 := R4.grown g5 (fun e => by injection e with e; omega)
    have K5 := K4.grown g5 (fun e => by injection e with e; omega)
    have G5 := grown_alloc (grown_trans G4 g5) (.cells #[.int .i64 k6, .string z6, .int .i64 i6, .int .i64 a6] 79)
    have H5 := h5.alloc (.cells #[.int .i64 k6, .string z6, .int .i64 i6, .int .i64 a6] 79)
    have f0 := R5.free 0
    have r0 := R5.cell 0
    have f1 := R5.free 1
    have r1 := R5.cell 1
    have f2 := R5.free 2
    have r2 := R5.cell 2
    have f3 := R5.free 3
    have r3 := R5.cell 3
    have hg0 := R5.lt
    have k0 := K5.cell 2
    have hg1 := K5.lt
    obtain ⟨W5, hW5⟩ : ∃ W5, W5 = (((((w5.setCell ⟨w.heap.size, 0, none⟩ (.int .i64 1)).setCell ⟨w.heap.size, 1, none⟩ (.int .i64 i3)).setCell ⟨w.heap.size, 2, none⟩ (.string z6)).setCell ⟨w.heap.size, 3, none⟩ (.slice none 0 0)).alloc (.cells #[.int .i64 k6, .string z6, .int .i64 i6, .int .i64 a6] 79)) := ⟨_, rfl⟩
    have kfin : KB W5 w.heap.size 42 #[.int .i64 1, .int .i64 i3, .string z6, .slice none 0 0] := by rw [hW5]; exact ((R4.grown g5 (fun e => by injection e with e; omega)).put4 (.int .i64 1) (.int .i64 i3) (.string z6) (.slice none 0 0)).alloc _
    have st5 : Sd W5 p n L s3 := by rw [hW5]; exact (h5.four hp (.int .i64 1) (.int .i64 i3) (.string z6) (.slice none 0 0)).alloc _
    have gr5 : w.grownBy W5 (some p) := by rw [hW5]; exact grown_alloc (grown_four (grown_trans G4 g5) (Nat.le_refl _) (.int .i64 1) (.int .i64 i3) (.string z6) (.slice none 0 0)) _
    have hfin := HD.out W5 1 i3 z6 none 0 0 ⟨rfl, by show I64 1; unfold I64; omega, rfl, HI3.out, HT6.out.1.symm, HT6.out.2, XS.nil _ _ _⟩ st5 gr5
    have HW5 := Lib.hid hW5
    clear hW5 hn6 h5 g5 R4 K4 G4 H4 R5 K5 G5 H5 st5 gr5 HD HT6 HI3
    go_wp2_with fail
    rw [← HW5.out]
    exact bodyPost_ret (results_cell (P := Tryz.prog) rfl _ _ w.heap.size _ _ (0, 0) _ rfl kfin Tryz.underlying42 rfl (by kernel_rfl)) rfl hfin
  | false =>
    go_enter Tryz.func93, Tryz.ntmps93
    go_wp2_with fail
    refine hi.mono ?_
    rintro e w1 ⟨rfl, m1, rfl⟩
    have hn := HN3.out _ (h0.drewN m1)
    have R1 : KB ((w.alloc (.cells #[.int .i64 0, .int .i64 0, .string ⟨#[]⟩, .slice none 0 0] 42)).drewN m1) w.heap.size 42 #[.int .i64 0, .int .i64 0, .string ⟨#[]⟩, .slice none 0 0] := R0
    have G1 : w.grownBy ((w.alloc (.cells #[.int .i64 0, .int .i64 0, .string ⟨#[]⟩, .slice none 0 0] 42)).drewN m1) (some p) := grown_trans g0 ⟨rfl, rfl, rfl, Nat.le_refl _, fun _ _ _ => rfl⟩
    have s1' : w.heap.size + 1 ≤ ((w.alloc (.cells #[.int .i64 0, .int .i64 0, .string ⟨#[]⟩, .slice none 0 0] 42)).drewN m1).heap.size := Nat.le_of_eq s0.symm
    clear hi R0 g0 h0 s0
    generalize (w.alloc (.cells #[.int .i64 0, .int .i64 0, .string ⟨#[]⟩, .slice none 0 0] 42)).drewN m1 = w1 at *
    go_wp2_with fail
    refine hn.mono ?_
    rintro e w2 ⟨rfl, h2, g2⟩
    have s2' : w.heap.size + 1 ≤ w2.heap.size := by have := g2.size; omega
    have R2 := (R1.grown g2 (fun e => by injection e with e; omega)).alloc (.cells #[.int .i64 k3, .string z3, .int .i64 i3, .int .i64 a3] 79)
    have K2 := KB.new w2 79 #[.int .i64 k3, .string z3, .int .i64 i3, .int .i64 a3]
    have G2 := grown_alloc (grown_trans G1 g2) (.cells #[.int .i64 k3, .string z3, .int .i64 i3, .int .i64 a3] 79)
    have hn4 := HN4.out _ (h2.alloc (.cells #[.int .i64 k3, .string z3, .int .i64 i3, .int .i64 a3] 79))
    have z2' : (w2.alloc (.cells #[.int .i64 k3, .string z3, .int .i64 i3, .int .i64 a3] 79)).heap.size = w2.heap.size + 1 := by simp
    clear hn h2 g2 R1 G1
    go_wp2_with fail
    refine hn4.mono ?_
    rintro e w3 ⟨rfl, h3, g3⟩
    have R3 := Lib.hid (R2.grown g3 (fun e => by injection e with e; omega))
    have K3 := Lib.hid (K2.grown g3 (fun e => by injection e with e; omega))
    have G3 := Lib.hid (grown_trans G2 g3)
    have s3' : w2.heap.size + 1 ≤ w3.heap.size := by have := g3.size; omega
    have H3 := Lib.hid h3
    clear hn4 g3 R2 K2 G2 HN3 HN4 z2'
    obtain ⟨b, o, c, a, kb, hbp, hbw, hal, hlm, c0, c1, c2, c3, hrd⟩ := h3.head HHR.out
    have hpw3 := kb.lt
    rw [HZ0.out] at kb
    have q0 : w3.cell? ⟨p, 0, none⟩ = some (.slice (some ⟨b, o, none⟩) L.length c) := kb.cell 0
    have q1 : w3.cell? ⟨p, 1, none⟩ = some (.int .i64 (a : Int)) := kb.cell 1
    have q3 : w3.cell? ⟨p, 3, none⟩ = some (.int .i64 s2.fuel) := kb.cell 3
    have q4 : w3.cell? ⟨p, 4, none⟩ = some (.int .i64 0) := kb.cell 4
    obtain ⟨ll, hll⟩ : ∃ ll, ll = L.length := ⟨_, rfl⟩
    rw [← hll] at q0 hal hlm
    have hl : ((a : Int) < (ll : Int)) := by omega
    have HIS : Hid (∀ W, Sd W p n L s2 → Calls Tryz.prog 41 #[.pointer (some ⟨p, 0, none⟩), .int .i64 1, .string ⟨#[]⟩] W fun e w' => e = .returned (.bool true) ∧ ∃ m, w' = W.drewN m) := fun W hW => by
      have := is18_any p n L s2 1 [] W hW
      rw [HW1.out] at this; exact this
    have H3d : Hid (Sd w3.drew p n L s2) := H3.out
    obtain ⟨tt, htt⟩ : ∃ tt : ByteArray, strV t.text = .string tt := ⟨_, rfl⟩
    rw [htt] at c1
    have HWD : Hid (∀ W, Calls Tryz.prog 94 #[.string tt] W fun e w' => e = .returned (.bool false) ∧ W = w') := fun W => by
      have := rword_any t.text (HF2.out.2 t (by rw [HHR.out]; exact List.mem_cons_self ..)).2 W
      rw [htt, ← HOK.out] at this; exact this
    have hfu := HFU.out
    obtain ⟨F, hF⟩ : ∃ F, F = s2.fuel := ⟨_, rfl⟩
    rw [← hF] at q3 hfu
    have dF : decide (0 < F) = true := decide_eq_true hfu
    have hS : (fun W : World => W.cell? ⟨p, 0, none⟩ = some (.slice (some ⟨b, o, none⟩) ll c) ∧ W.cell? ⟨p, 1, none⟩ = some (.int .i64 (a : Int)) ∧ W.cell? ⟨p, 3, none⟩ = some (.int .i64 F) ∧ W.cell? ⟨p, 4, none⟩ = some (.int .i64 0) ∧ W.cell? ⟨b, o + a * 4 + 1, none⟩ = some (.string tt)) w3.drew := ⟨q0, q1, q3, q4, c1⟩
    clear kb hll hF q0 q1 q3 q4 c0 c1 c2 c3 hrd htt
    go_wp2_with fail
    rename_i KK hKK
    have HKK := Lib.hid hKK
    clear hKK
    refine wp_region_held_drew (S := (fun W => W.cell? ⟨p, 0, none⟩ = some (.slice (some ⟨b, o, none⟩) ll c) ∧ W.cell? ⟨p, 1, none⟩ = some (.int .i64 (a : Int)) ∧ W.cell? ⟨p, 3, none⟩ = some (.int .i64 F) ∧ W.cell? ⟨p, 4, none⟩ = some (.int .i64 0) ∧ W.cell? ⟨b, o + a * 4 + 1, none⟩ = some (.string tt))) (by kernel_rfl) hS (fun hHeld => ?_)
    refine hyY (some 23) 0 rfl hHeld ?_; go_frame
    refine hyY (some 24) 1 rfl hHeld ?_; go_frame
    refine hyY (some 25) 2 rfl hHeld ?_; go_frame
    refine hyY (some 26) 3 rfl hHeld ?_; go_frame
    refine hyY (some 27) 4 rfl hHeld ?_; go_frame
    refine hyY (some 28) 5 rfl hHeld ?_; go_frame
    refine hyY (some 29) 6 rfl hHeld ?_; go_frame
    refine hyY (some 30) 7 rfl hHeld ?_; go_frame
    refine hyY (some 31) 8 rfl hHeld ?_; go_frame
    refine hyY (some 32) 9 rfl hHeld ?_; go_frame
    refine hyY (some 33) 10 rfl hHeld ?_; go_frame
    refine hyY (some 34) 11 rfl hHeld ?_; go_frame
    refine hyY (some 35) 12 rfl hHeld ?_; go_frame
    refine hyY (some 36) 13 rfl hHeld ?_; go_frame
    refine hyO (some 37) 14 rfl (fun K hK => ?_)
    go_simp
    go_at_call 41
    refine (HIS.out _ H3d.out).mono ?_
    rintro e w4 ⟨rfl, m4, rfl⟩
    go_wp2_with fail
    refine hK.out _ _ ?_ (fun hH2 => ?_)
    · exact hS
    clear hHeld hK K; have hHeld := hH2; clear hH2; try go_frame
    refine hyY (some 38) 15 rfl hHeld ?_; go_frame
    refine hyY (some 39) 16 rfl hHeld ?_; go_frame
    refine hyY (some 40) 17 rfl hHeld ?_; go_frame
    refine hyY (some 41) 18 rfl hHeld ?_; go_frame
    refine hyY (some 42) 19 rfl hHeld ?_; go_frame
    refine hyY (some 43) 20 rfl hHeld ?_; go_frame
    refine hyY (some 44) 21 rfl hHeld ?_; go_frame
    refine hyY (some 45) 22 rfl hHeld ?_; go_frame
    refine hyY (some 46) 23 rfl hHeld ?_; go_frame
    refine hyY (some 47) 24 rfl hHeld ?_; go_frame
    refine hyY (some 48) 25 rfl hHeld ?_; go_frame
    refine hyY (some 49) 26 rfl hHeld ?_; go_frame
    refine hyY (some 50) 27 rfl hHeld ?_; go_frame
    refine hyO (some 51) 28 rfl (fun K hK => ?_)
    go_simp
    go_at_call 94
    refine (HWD.out _).mono ?_
    rintro e w5 ⟨rfl, rfl⟩
    go_wp2_with fail
    refine hK.out _ _ ?_ (fun hH2 => ?_)
    · exact hS
    clear hHeld hK K; have hHeld := hH2; clear hH2; try go_frame
    refine hyY (some 52) 29 rfl hHeld ?_; go_frame
    refine hyY (some 53) 30 rfl hHeld ?_; go_frame
    refine wpAnyH_done (by kernel_rfl) ?_ _
    skip
    clear HIS H3d HWD
    have hyes : mileP s2 = (none, ⟨s2.rest, s2.fuel - 1, 2, s2.used + 1⟩) := mile_yes ⟨HZ0.out, HFU.out, HW1.out, by rw [HHD.out]; exact HOK.out.symm⟩
    rw [hyes] at HD
    dsimp only at HD
    have R4 : KB (w3.drewN (1 + m4)) w.heap.size 42 #[.int .i64 0, .int .i64 0, .string ⟨#[]⟩, .slice none 0 0] := R3.out
    have G4 : w.grownBy (w3.drewN (1 + m4)) (some p) := grown_trans G3.out ⟨rfl, rfl, rfl, Nat.le_refl _, fun _ _ _ => rfl⟩
    have H4 : Sd (w3.drewN (1 + m4)) p n L s2 := H3.out
    have hbu := burn18_any p n L s2 _ H4
    rw [burn_ok HZ0.out (by have := HFU.out; omega)] at hbu
    have hKK := HKK.out
    clear HKK hS hHeld R3 K3 G3 H3 H4 hyes
    generalize w3.drewN (1 + m4) = v3 at *
    go_wp2_with fail
    refine hbu.mono ?_
    rintro e w5 ⟨rfl, h5, g5⟩
    have R5 := (R4.grown g5 (fun e => by injection e with e; omega))
    have hp5 := h5.lt
    have q45 : w5.cell? ⟨p, 4, none⟩ = some (.int .i64 0) := by obtain ⟨v9, a9, k9, _⟩ := h5; exact k9.cell 4
    have p45 : w5.frozen? ⟨p, 4, none⟩ = false := by obtain ⟨v9, a9, k9, _⟩ := h5; exact k9.free 4
    have R6 : KB (w5.setCell ⟨p, 4, none⟩ (.int .i64 2)) w.heap.size 42 #[.int .i64 0, .int .i64 0, .string ⟨#[]⟩, .slice none 0 0] := R5.keep (Below.heap_setCell w5 _ _ _ (by show w.heap.size ≠ p; omega))
    have S6 : Sd (w5.setCell ⟨p, 4, none⟩ (.int .i64 2)) p n L ⟨s2.rest, s2.fuel - 1, 2, s2.used + 1⟩ := by
      obtain ⟨v9, a9, k9, t9, r9⟩ := h5
      exact ⟨v9, a9, k9.put 4 _, t9.but (grown_set _ p 4 _), r9⟩
    have G6 := grown_trans (grown_trans G4 g5) (grown_set w5 p 4 (.int .i64 2))
    have hnp : ¬ w.heap.size = p := by omega
    have hnp2 : ¬ p = w.heap.size := by omega
    have f0 := R5.free 0
    have r0 := R5.cell 0
    have f1 := R5.free 1
    have r1 := R5.cell 1
    have f2 := R5.free 2
    have r2 := R5.cell 2
    have f3 := R5.free 3
    have r3 := R5.cell 3
    have hg0 := R5.lt
    obtain ⟨W5, hW5⟩ : ∃ W5, W5 = (((((w5.setCell ⟨p, 4, none⟩ (.int .i64 2)).setCell ⟨w.heap.size, 0, none⟩ (.int .i64 0)).setCell ⟨w.heap.size, 1, none⟩ (.int .i64 0)).setCell ⟨w.heap.size, 2, none⟩ (.string ⟨#[]⟩)).setCell ⟨w.heap.size, 3, none⟩ (.slice none 0 0)) := ⟨_, rfl⟩
    have kfin := R6.put4 (.int .i64 0) (.int .i64 0) (.string ⟨#[]⟩) (.slice none 0 0)
    have st5 := S6.four hp (.int .i64 0) (.int .i64 0) (.string ⟨#[]⟩) (.slice none 0 0)
    have gr5 := grown_four G6 (Nat.le_refl _) (.int .i64 0) (.int .i64 0) (.string ⟨#[]⟩) (.slice none 0 0)
    rw [← hW5] at kfin st5 gr5
    have hfin := HD.out W5 0 0 ⟨#[]⟩ none 0 0 (zero_ex _ _ _) st5 gr5
    have HW5 := Lib.hid hW5
    clear hW5 hbu h5 g5 R4 R5 R6 S6 G4 G6 st5 gr5 HD
    go_wp2_with fail
    rw [← HW5.out]
    exact bodyPost_ret (results_cell (P := Tryz.prog) rfl _ _ w.heap.size _ _ (0, 0) _ rfl kfin Tryz.underlying42 rfl (by kernel_rfl)) rfl hfin
end
end Go.Proofs.YthindhlogkhclaaGreatDoor
