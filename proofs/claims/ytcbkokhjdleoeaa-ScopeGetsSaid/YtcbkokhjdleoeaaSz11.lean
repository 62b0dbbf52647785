/-
  ScPM: The document's Read (layer 20), over the loaded program: of many. No condition but the sizes that it names.
  ScPO: The document's Read (layer 20), over the loaded program: of not. No condition but the sizes that it names.
  ScQ: The document's Read (layer 20), over the loaded program: its contract. No condition but the sizes that it names.
  Res: What a function hands back whose results are a variable of several cells and a value, over any program. General. No condition.
-/
import Derived.Test.YtcbkokhjdleoeaaSz10
import Derived.Test.YtcbkokhjdleoeaaSz00
import Derived.Laws.Rows
set_option linter.unusedVariables false
set_option maxRecDepth 100000
namespace Go.Proofs.Ytcbkokhjdleoeaa
section
open Go.RowKit
set_option maxHeartbeats 8000000 in
theorem zread_many (S : Nat → Prop) (d : Nat) (ih : ReadIhZ S d) (g : Nat) (b : UInt8) (l : List UInt8) (w : World) (h : RR w g S (some (b :: l))) (hS : ∀ b, S b → b < w.heap.size) (hL : l.length + 1 ≤ 1000000) (hd : d + 1 ≤ 1000000) (hcls : (b.toNat : Int) = 6 ∨ (b.toNat : Int) = 7) :
    Calls Try.prog 32 #[.pointer (some ⟨g, 0, none⟩), .int .i64 ((d + 1 : Nat) : Int)] w (ReadZ w g S (d + 1) (some (b :: l))) := by
  have hg := h.lt
  unfold ReadZ
  rw [rs_many hcls]
  have hu := b.toNat_lt
  have KR := KB.new w 24 #[.int .i64 0, .string ⟨#[]⟩, .int .i64 0, .int .i64 0, .slice none 0 0]
  have G := grown_of_below ((Below.refl w.heap.size w).alloc (Nat.le_refl _) (.cells #[.int .i64 0, .string ⟨#[]⟩, .int .i64 0, .int .i64 0, .slice none 0 0] 24)) (some g)
  have ht := rtake_to 1 g S _ _ (some l) [b] (zRR_alloc h (.cells #[.int .i64 0, .string ⟨#[]⟩, .int .i64 0, .int .i64 0, .slice none 0 0] 24)) (by simp; omega) (zpassed_cons b l)
  have W2 : wrap64 (b.toNat : Int) = (b.toNat : Int) := IntWalk.wrap64_in _ (by omega)
  have g1 : decide (((d + 1 : Nat) : Int) < 1) = false := decide_eq_false (by omega)
  have hne : ¬ w.heap.size = g := by omega
  have hne2 : ¬ g = w.heap.size := by omega
  have hSg : ¬ S w.heap.size := fun h => Nat.lt_irrefl _ (hS _ h)
  have hI : I64 (b.toNat : Int) := by unfold I64; omega
  generalize hk : (b.toNat : Int) = k at *
  have HNM : Hid (∀ W : World, Calls Try.prog 42 #[.int .i64 k] W fun e w' => e = .returned (.bool false) ∧ w' = W) := fun W => by
    have := znamed_any k W
    rwa [show namedS k = false from decide_eq_false (by omega)] at this
  have HMM : Hid (∀ W : World, Calls Try.prog 37 #[.int .i64 k] W fun e w' => e = .returned (.bool true) ∧ w' = W) := fun W => by
    have := zmany_any k W
    rwa [show manyS k = true from decide_eq_true hcls] at this
  have E5 : (k == 5) = false := beq_eq_false_iff_ne.2 (by omega)
  have E8 : (k == 8) = false := beq_eq_false_iff_ne.2 (by omega)
  have hrc := fun (w2 : World) (R2 : RR w2 g S (some l)) => rcount 24 (by omega) g S (some l) w2 R2 (by simp; omega)
  have hc1 := zcnt_most 24 (some l) (by omega)
  have hcl := cntOf_len 24 (some l)
  generalize cntOf 24 (some l) = nn at *
  obtain ⟨s0, Kn⟩ := nn
  dsimp only at hrc hc1 hcl ⊢
  have hsl0 : (s0.getD []).length ≤ 1000000 := by simp at hcl; omega
  obtain ⟨RL, hRL⟩ : ∃ RL, RL = kidsR (readSc d) Kn s0 := ⟨_, rfl⟩
  have HS0 : Hid (SofarZ (readSc d) RL (Kn - 0) s0 []) := by show SofarZ _ _ _ _ _; rw [hRL]; exact SofarZ.start _ _ _
  rw [← hRL]
  clear hRL
  clear hcls
  go_enter Try.func32, Try.ntmps32
  go_wp2_with fail
  refine ht.mono ?_
  rintro e w1 ⟨A, c, rfl, hr1, hb1, hg1⟩
  have K1 := KR.grown hg1 (by simp; omega)
  have G1 := grown_trans G hg1
  obtain ⟨q1, q2⟩ := hr1.good
  have hbyte : ∃ bb oo, A = some ⟨bb, oo, none⟩ ∧ w1.cell? ⟨bb, oo, none⟩ = some (.int .u8 k) := by
    obtain ⟨bb, oo, e1, _, _, hx⟩ := hb1.at_ (by simp)
    exact ⟨bb, oo, e1, by have := hx 0 b rfl; rw [← hk]; simpa using this⟩
  obtain ⟨bb, oo, rfl, hcell⟩ := hbyte
  clear ht KR G hb1
  have hw1 : w.heap.size + 1 ≤ w1.heap.size := by have := hg1.size; simpa using this
  have K6 := KB.new w1 24 #[.int .i64 k, .string ⟨#[]⟩, .int .i64 0, .int .i64 0, .slice none 0 0]
  have K4 := K1.alloc (.cells #[.int .i64 k, .string ⟨#[]⟩, .int .i64 0, .int .i64 0, .slice none 0 0] 24)
  have R2 := zRR_alloc hr1 (.cells #[.int .i64 k, .string ⟨#[]⟩, .int .i64 0, .int .i64 0, .slice none 0 0] 24)
  have G2 := grown_trans G1 (grown_of_below ((Below.refl w1.heap.size w1).alloc (Nat.le_refl _) (.cells #[.int .i64 k, .string ⟨#[]⟩, .int .i64 0, .int .i64 0, .slice none 0 0] 24)) (some g))
  clear K1 hr1 G1
  go_wp2_with fail
  generalize hw2 : w1.alloc (.cells #[.int .i64 k, .string ⟨#[]⟩, .int .i64 0, .int .i64 0, .slice none 0 0] 24) = w2 at *
  have p0 : w2.cell? ⟨w1.heap.size, 0, none⟩ = some (.int .i64 k) := K6.cell 0
  refine (HNM.out _).mono ?_
  rintro e w2 ⟨rfl, rfl⟩
  clear hw2 q1 q2 hcell
  go_wp2_with fail
  refine (HMM.out _).mono ?_
  rintro e w9 ⟨rfl, rfl⟩
  go_wp2_with fail
  refine (hrc _ R2).mono ?_
  rintro e w3 ⟨rfl, R3, G3⟩
  have K6b := K6.grown G3 (by simp; omega)
  have K4b := K4.grown G3 (by simp; omega)
  have G4 := grown_trans G2 G3
  clear hrc K6 K4 R2 G2 G3 p0
  clear HNM HMM
  go_wp2_with fail
  go_loopw [8] (fun iv wr => ∃ (j : Nat) (sj : Option (List UInt8)) (qs : List QuZ) (ks : List (Sc (d + 1))) (kv : Value), j ≤ Kn ∧ ks.length = j ∧ Hid (SofarZ (readSc d) RL (Kn - j) sj ks) ∧ (sj.getD []).length ≤ 1000000 ∧ iv = .int .i64 j ∧ RR wr g S sj ∧
      KB wr w.heap.size 24 #[.int .i64 0, .string ⟨#[]⟩, .int .i64 0, .int .i64 0, .slice none 0 0] ∧ KB wr w1.heap.size 24 #[.int .i64 k, .string ⟨#[]⟩, .int .i64 0, .int .i64 0, kv] ∧ wr.ownsRow (w1.heap.size + 1) 24 5 kv qs.length (flatZ qs) ∧ QZ wr (SNZ w1.heap.size wr kv) (d + 1) qs ks ∧ w.grownBy wr (some g)) (fun iv _ => Kn - (intOf iv).toNat)
  case atStart => exact ⟨0, s0, [], [], .slice none 0 0, by omega, rfl, HS0, hsl0, rfl, R3, K4b, K6b, World.ownsRow_nil _ _ _ _, QZ.nil _ _ _, G4⟩
  case round =>
    obtain ⟨j, sj, qs, ks, kv, hj, hkl, hso, hsl, rfl, R, L4, L6, how, hq, G⟩ := hrel
    obtain ⟨A3, c3v, rfl⟩ := zown_form how
    have done : (Kn - j = 0 ∨ sj = none) → RL = (sj, ks) := fun he => hso.out.done he
    clear R3 K4b K6b G4 HS0 hsl0
    cases sj with
    | none =>
      have hr := done (.inr rfl)
      clear done hso
      subst hr
      obtain ⟨q1, q2⟩ := R.bad
      by_cases hlt : j < Kn
      · have hlt' : (j : Int) < (Kn : Int) := by omega
        have c60 : wr.cell? ⟨w1.heap.size, 0, none⟩ = some (.int .i64 k) := L6.cell 0
        have c61 : wr.cell? ⟨w1.heap.size, 1, none⟩ = some (.string ⟨#[]⟩) := L6.cell 1
        have c62 : wr.cell? ⟨w1.heap.size, 2, none⟩ = some (.int .i64 0) := L6.cell 2
        have c63 : wr.cell? ⟨w1.heap.size, 3, none⟩ = some (.int .i64 0) := L6.cell 3
        have c64 : wr.cell? ⟨w1.heap.size, 4, none⟩ = some (.slice A3 qs.length c3v) := L6.cell 4
        have c40 : wr.cell? ⟨w.heap.size, 0, none⟩ = some (.int .i64 0) := L4.cell 0
        have c41 : wr.cell? ⟨w.heap.size, 1, none⟩ = some (.string ⟨#[]⟩) := L4.cell 1
        have c42 : wr.cell? ⟨w.heap.size, 2, none⟩ = some (.int .i64 0) := L4.cell 2
        have c43 : wr.cell? ⟨w.heap.size, 3, none⟩ = some (.int .i64 0) := L4.cell 3
        have c44 : wr.cell? ⟨w.heap.size, 4, none⟩ = some (.slice none 0 0) := L4.cell 4
        have f40 := L4.free 0
        have f41 := L4.free 1
        have f42 := L4.free 2
        have f43 := L4.free 3
        have f44 := L4.free 4
        go_wp2_with fail
        refine bodyPost_ret (results_cell_row (P := Try.prog) rfl _ _ w.heap.size _ _ (0, 0) _ rfl (zput_five L4) Try.underlying24 rfl (by kernel_rfl)) rfl
          ⟨_, rfl, zRR_far (zRR_far (zRR_far (zRR_far (zRR_far R hne hSg) hne hSg) hne hSg) hne hSg) hne hSg, zread_ZV (nm := []) hI (by unfold maxLen; simp) (by unfold I64; omega) (by unfold I64; omega) how (hq.mono fun b h => h.1) (by omega) (zsets_size _ _ _ _ _ _ _) (fun b hb => zsets_block _ _ _ _ _ _ _ _ (by omega)), zgrown_new G (zgrown_five _ _ _ _ _ _ _) (Nat.le_refl _)⟩
      · have hlt' : ¬ (j : Int) < (Kn : Int) := by omega
        have c60 : wr.cell? ⟨w1.heap.size, 0, none⟩ = some (.int .i64 k) := L6.cell 0
        have c61 : wr.cell? ⟨w1.heap.size, 1, none⟩ = some (.string ⟨#[]⟩) := L6.cell 1
        have c62 : wr.cell? ⟨w1.heap.size, 2, none⟩ = some (.int .i64 0) := L6.cell 2
        have c63 : wr.cell? ⟨w1.heap.size, 3, none⟩ = some (.int .i64 0) := L6.cell 3
        have c64 : wr.cell? ⟨w1.heap.size, 4, none⟩ = some (.slice A3 qs.length c3v) := L6.cell 4
        have c40 : wr.cell? ⟨w.heap.size, 0, none⟩ = some (.int .i64 0) := L4.cell 0
        have c41 : wr.cell? ⟨w.heap.size, 1, none⟩ = some (.string ⟨#[]⟩) := L4.cell 1
        have c42 : wr.cell? ⟨w.heap.size, 2, none⟩ = some (.int .i64 0) := L4.cell 2
        have c43 : wr.cell? ⟨w.heap.size, 3, none⟩ = some (.int .i64 0) := L4.cell 3
        have c44 : wr.cell? ⟨w.heap.size, 4, none⟩ = some (.slice none 0 0) := L4.cell 4
        have f40 := L4.free 0
        have f41 := L4.free 1
        have f42 := L4.free 2
        have f43 := L4.free 3
        have f44 := L4.free 4
        go_wp2_with fail
        refine bodyPost_ret (results_cell_row (P := Try.prog) rfl _ _ w.heap.size _ _ (0, 0) _ rfl (zput_five L4) Try.underlying24 rfl (by kernel_rfl)) rfl
          ⟨_, rfl, zRR_far (zRR_far (zRR_far (zRR_far (zRR_far R hne hSg) hne hSg) hne hSg) hne hSg) hne hSg, zread_ZV (nm := []) hI (by unfold maxLen; simp) (by unfold I64; omega) (by unfold I64; omega) how (hq.mono fun b h => h.1) (by omega) (zsets_size _ _ _ _ _ _ _) (fun b hb => zsets_block _ _ _ _ _ _ _ _ (by omega)), zgrown_new G (zgrown_five _ _ _ _ _ _ _) (Nat.le_refl _)⟩
    | some lj =>
      obtain ⟨q1, q2⟩ := R.good
      by_cases hlt : j < Kn
      · have hlt' : (j : Int) < (Kn : Int) := by omega
        have hso2 : SofarZ (readSc d) RL (Kn - (j + 1) + 1) (some lj) ks := by
          have := hso.out
          rwa [show Kn - j = Kn - (j + 1) + 1 by omega] at this
        have HS2 := Lib.hid hso2.step
        have hls := Nat.le_trans (readSc_le d (some lj)) hsl
        have hc := ih g (some lj) wr.drew R (fun b hb => by have := hS b hb; have := G.size; exact Nat.lt_of_lt_of_le (hS b hb) G.size) hsl (by omega)
        unfold ReadZ at hc
        clear done hso hso2 hsl
        generalize readSc d (some lj) = RT at *
        have R' : RR wr.drew g S (some lj) := R
        have L4' : KB wr.drew w.heap.size 24 #[.int .i64 0, .string ⟨#[]⟩, .int .i64 0, .int .i64 0, .slice none 0 0] := L4
        have L6' : KB wr.drew w1.heap.size 24 #[.int .i64 k, .string ⟨#[]⟩, .int .i64 0, .int .i64 0, .slice A3 qs.length c3v] := L6
        have how' : wr.drew.ownsRow (w1.heap.size + 1) 24 5 (.slice A3 qs.length c3v) qs.length (flatZ qs) := how
        have hq' : QZ wr.drew (SNZ w1.heap.size wr.drew (.slice A3 qs.length c3v)) (d + 1) qs ks := hq.keepL (Nat.le_refl _) (fun _ _ _ => rfl) fun _ h _ => h
        have HLq : Hid (qs.length ≤ 1000000000) := by have := hq.1; show _ ≤ _; omega
        have hg6 : g < w1.heap.size := by omega
        have G' : w.grownBy wr.drew (some g) := ⟨G.os, G.tape, G.output, G.size, G.block⟩
        have c3 : wr.cell? ⟨w1.heap.size, 4, none⟩ = some (.slice A3 qs.length c3v) := L6.cell 4
        have f3 := L6.free 4
        have WW : IntKind.i64.wrap (((d : Int) + 1) - 1) = (d : Int) := by rw [show ((d : Int) + 1) - 1 = d by omega]; simp [IntKind.wrap, IntKind.bits, IntKind.signed]; omega
        have WV : IntKind.i64.wrap (d : Int) = (d : Int) := by simp [IntKind.wrap, IntKind.bits, IntKind.signed]; omega
        clear R L4 L6 how hq G
        go_wp2_with fail
        go_region_law
          (first
            | (go_simp; go_at_call 32; refine hc.mono ?_; rintro e w5 ⟨v5, rfl, R5, tv5, G5⟩; obtain ⟨e0, e1, e2, e3, e4, rfl, tm5⟩ := tv5; have L6a := L6'.grown G5 (by simp; omega); have how5 := zown_grown how' G5 (by omega); have how6 := own_past ((Below.refl _ _).alloc (Nat.le_refl _) (.cells #[e0, e1, e2, e3, e4] 24)) how5; have hone := tm5.cells1; have hsz : w1.heap.size + 1 ≤ (w5.alloc (.cells #[e0, e1, e2, e3, e4] 24)).heap.size := (by have := L6a.lt; simp; omega); clear c3 f3 how5; have ca : (w5.alloc (.cells #[e0, e1, e2, e3, e4] 24)).cell? ⟨w1.heap.size, 4, none⟩ = some (.slice A3 qs.length c3v) := (L6a.alloc (.cells #[e0, e1, e2, e3, e4] 24)).cell 4; have c3 : w5.cell? ⟨w1.heap.size, 4, none⟩ = some (.slice A3 qs.length c3v) := L6a.cell 4; have f3 := L6a.free 4)
            | (refine step_growZ rfl _ _ rfl (w1.heap.size + 1) _ qs rfl how6 _ 1 (e0, e1, e2, e3, e4) rfl (At_newZ w5 e0 e1 e2 e3 e4 _) hone HLq.out hsz ?_; intro v7 w7 how7 hg7 h7; obtain ⟨qq, hqq⟩ : ∃ qq, qq = qs ++ [(e0, e1, e2, e3, e4)] := ⟨_, rfl⟩; rw [← hqq] at how7; have HQQ := Lib.hid hqq; clear hqq; have L6b := (L6a.alloc (.cells #[e0, e1, e2, e3, e4] 24)).grown hg7 (own_ne how6 (Nat.lt_succ_self w1.heap.size)); obtain ⟨A7, c7, rfl⟩ := zown_form how7; clear c3 f3; have c3 : w7.cell? ⟨w1.heap.size, 4, none⟩ = some (.slice A3 qs.length c3v) := L6b.cell 4; have f3 := L6b.free 4))
        all_goals
          have h6 : w1.heap.size < wr.drew.heap.size := L6'.lt
          have L6f := L6b.put 4 (.slice A7 qq.length c7)
          have L4f := zKB_far (h := w1.heap.size) (i := 4) (v := (.slice A7 qq.length c7)) (((L4'.grown G5 (by simp; omega)).alloc (.cells #[e0, e1, e2, e3, e4] 24)).grown hg7 (own_ne how6 (by omega))) (by omega)
          have Rf := zRR_far (h := w1.heap.size) (i := 4) (u := (.slice A7 qq.length c7)) (zRR_grown (zRR_alloc R5 (.cells #[e0, e1, e2, e3, e4] 24)) hg7 (own_ne how6 (by omega)) (fun x hx hSx => by have := zown_ge how6 x hx; have := hS x hSx; omega)) (by omega) (fun hSx => by have := hS _ hSx; omega)
          have howf := zown_grown how7 (grown_set w7 w1.heap.size 4 (.slice A7 qq.length c7)) (Nat.lt_succ_self _)
          have hsz8 : w7.heap.size = (w7.setCell ⟨w1.heap.size, 4, none⟩ (.slice A7 qq.length c7)).heap.size := by simp [World.setCell]
          have hbl8 : ∀ x, x ≠ w1.heap.size → (w7.setCell ⟨w1.heap.size, 4, none⟩ (.slice A7 qq.length c7)).heap[x]? = w7.heap[x]? := fun x hx => Below.heap_setCell w7 ⟨w1.heap.size, 4, none⟩ (.slice A7 qq.length c7) x hx
          have hqf := QZ.more hq' tm5 how' G5 hg6 h6 hg7 h7 hsz8 hbl8
          rw [← HQQ.out] at hqf
          have Gf := zgrown_new (zgrown_newX (grown_trans (grown_trans G' G5) (grown_of_below ((Below.refl w5.heap.size w5).alloc (Nat.le_refl _) (.cells #[e0, e1, e2, e3, e4] 24)) (some g))) hg7 (fun x hx => by have := zown_ge how6 x hx; omega)) (grown_set w7 w1.heap.size 4 (.slice A7 qq.length c7)) (by omega)
          clear hq' how' how6 how7 hsz8 hbl8 tm5 hg7 h7 hone hsz ca c3 f3 L6a L6b L4' L6' R' R5 G5 G' hc ih
          go_wp2
          go_roundw
          case rel => exact ⟨j + 1, RT.1, qq, ks ++ ([RT.2] : List (Sc (d + 1))), (.slice A7 qq.length c7), by omega, by rw [List.length_append, hkl]; rfl, HS2, hls, by go_num, Rf, L4f, L6f, howf, hqf, Gf⟩
          case measure => simp [intOf]; omega
      · have hlt' : ¬ (j : Int) < (Kn : Int) := by omega
        have hr := done (.inl (by omega))
        clear done hso
        subst hr
        have c60 : wr.cell? ⟨w1.heap.size, 0, none⟩ = some (.int .i64 k) := L6.cell 0
        have c61 : wr.cell? ⟨w1.heap.size, 1, none⟩ = some (.string ⟨#[]⟩) := L6.cell 1
        have c62 : wr.cell? ⟨w1.heap.size, 2, none⟩ = some (.int .i64 0) := L6.cell 2
        have c63 : wr.cell? ⟨w1.heap.size, 3, none⟩ = some (.int .i64 0) := L6.cell 3
        have c64 : wr.cell? ⟨w1.heap.size, 4, none⟩ = some (.slice A3 qs.length c3v) := L6.cell 4
        have c40 : wr.cell? ⟨w.heap.size, 0, none⟩ = some (.int .i64 0) := L4.cell 0
        have c41 : wr.cell? ⟨w.heap.size, 1, none⟩ = some (.string ⟨#[]⟩) := L4.cell 1
        have c42 : wr.cell? ⟨w.heap.size, 2, none⟩ = some (.int .i64 0) := L4.cell 2
        have c43 : wr.cell? ⟨w.heap.size, 3, none⟩ = some (.int .i64 0) := L4.cell 3
        have c44 : wr.cell? ⟨w.heap.size, 4, none⟩ = some (.slice none 0 0) := L4.cell 4
        have f40 := L4.free 0
        have f41 := L4.free 1
        have f42 := L4.free 2
        have f43 := L4.free 3
        have f44 := L4.free 4
        go_wp2_with fail
        refine bodyPost_ret (results_cell_row (P := Try.prog) rfl _ _ w.heap.size _ _ (0, 0) _ rfl (zput_five L4) Try.underlying24 rfl (by kernel_rfl)) rfl
          ⟨_, rfl, zRR_far (zRR_far (zRR_far (zRR_far (zRR_far R hne hSg) hne hSg) hne hSg) hne hSg) hne hSg, zread_ZV (nm := []) hI (by unfold maxLen; simp) (by unfold I64; omega) (by unfold I64; omega) how (hq.mono fun b h => h.1) (by omega) (zsets_size _ _ _ _ _ _ _) (fun b hb => zsets_block _ _ _ _ _ _ _ _ (by omega)), zgrown_new G (zgrown_five _ _ _ _ _ _ _) (Nat.le_refl _)⟩
end
section
open Go.RowKit
set_option maxHeartbeats 8000000 in
theorem zread_not (S : Nat → Prop) (d : Nat) (ih : ReadIhZ S d) (g : Nat) (b : UInt8) (l : List UInt8) (w : World) (h : RR w g S (some (b :: l))) (hS : ∀ b, S b → b < w.heap.size) (hL : l.length + 1 ≤ 1000000) (hd : d + 1 ≤ 1000000) (hcls : (b.toNat : Int) = 8) :
    Calls Try.prog 32 #[.pointer (some ⟨g, 0, none⟩), .int .i64 ((d + 1 : Nat) : Int)] w (ReadZ w g S (d + 1) (some (b :: l))) := by
  have hg := h.lt
  unfold ReadZ
  rw [rs_not hcls]
  have hu := b.toNat_lt
  have KR := KB.new w 24 #[.int .i64 0, .string ⟨#[]⟩, .int .i64 0, .int .i64 0, .slice none 0 0]
  have G := grown_of_below ((Below.refl w.heap.size w).alloc (Nat.le_refl _) (.cells #[.int .i64 0, .string ⟨#[]⟩, .int .i64 0, .int .i64 0, .slice none 0 0] 24)) (some g)
  have ht := rtake_to 1 g S _ _ (some l) [b] (zRR_alloc h (.cells #[.int .i64 0, .string ⟨#[]⟩, .int .i64 0, .int .i64 0, .slice none 0 0] 24)) (by simp; omega) (zpassed_cons b l)
  have W2 : wrap64 (b.toNat : Int) = (b.toNat : Int) := IntWalk.wrap64_in _ (by omega)
  have g1 : decide (((d + 1 : Nat) : Int) < 1) = false := decide_eq_false (by omega)
  have hne : ¬ w.heap.size = g := by omega
  have hne2 : ¬ g = w.heap.size := by omega
  have hSg : ¬ S w.heap.size := fun h => Nat.lt_irrefl _ (hS _ h)
  have hI : I64 (b.toNat : Int) := by unfold I64; omega
  generalize hk : (b.toNat : Int) = k at *
  subst hcls
  have HNM : Hid (∀ W : World, Calls Try.prog 42 #[.int .i64 8] W fun e w' => e = .returned (.bool false) ∧ w' = W) := fun W => by
    have := znamed_any 8 W
    rwa [show namedS 8 = false from rfl] at this
  have HMM : Hid (∀ W : World, Calls Try.prog 37 #[.int .i64 8] W fun e w' => e = .returned (.bool false) ∧ w' = W) := fun W => by
    have := zmany_any 8 W
    rwa [show manyS 8 = false from rfl] at this
  have hc1 : ((1 : Nat) : Int) ≤ 24 := by omega
  have hsl0 : ((some l : Option (List UInt8)).getD []).length ≤ 1000000 := by simp; omega
  obtain ⟨RL, hRL⟩ : ∃ RL, RL = kidsR (readSc d) 1 (some l) := ⟨_, rfl⟩
  have HS0 : Hid (SofarZ (readSc d) RL (1 - 0) (some l) []) := by show SofarZ _ _ _ _ _; rw [hRL]; exact SofarZ.start _ _ _
  rw [← hRL]
  clear hRL
  go_enter Try.func32, Try.ntmps32
  go_wp2_with fail
  refine ht.mono ?_
  rintro e w1 ⟨A, c, rfl, hr1, hb1, hg1⟩
  have K1 := KR.grown hg1 (by simp; omega)
  have G1 := grown_trans G hg1
  obtain ⟨q1, q2⟩ := hr1.good
  have hbyte : ∃ bb oo, A = some ⟨bb, oo, none⟩ ∧ w1.cell? ⟨bb, oo, none⟩ = some (.int .u8 8) := by
    obtain ⟨bb, oo, e1, _, _, hx⟩ := hb1.at_ (by simp)
    exact ⟨bb, oo, e1, by have := hx 0 b rfl; rw [← hk]; simpa using this⟩
  obtain ⟨bb, oo, rfl, hcell⟩ := hbyte
  clear ht KR G hb1
  have hw1 : w.heap.size + 1 ≤ w1.heap.size := by have := hg1.size; simpa using this
  have K6 := KB.new w1 24 #[.int .i64 8, .string ⟨#[]⟩, .int .i64 0, .int .i64 0, .slice none 0 0]
  have K4 := K1.alloc (.cells #[.int .i64 8, .string ⟨#[]⟩, .int .i64 0, .int .i64 0, .slice none 0 0] 24)
  have R2 := zRR_alloc hr1 (.cells #[.int .i64 8, .string ⟨#[]⟩, .int .i64 0, .int .i64 0, .slice none 0 0] 24)
  have G2 := grown_trans G1 (grown_of_below ((Below.refl w1.heap.size w1).alloc (Nat.le_refl _) (.cells #[.int .i64 8, .string ⟨#[]⟩, .int .i64 0, .int .i64 0, .slice none 0 0] 24)) (some g))
  clear K1 hr1 G1
  go_wp2_with fail
  generalize hw2 : w1.alloc (.cells #[.int .i64 8, .string ⟨#[]⟩, .int .i64 0, .int .i64 0, .slice none 0 0] 24) = w2 at *
  have p0 : w2.cell? ⟨w1.heap.size, 0, none⟩ = some (.int .i64 8) := K6.cell 0
  refine (HNM.out _).mono ?_
  rintro e w2 ⟨rfl, rfl⟩
  clear hw2 q1 q2 hcell
  go_wp2_with fail
  refine (HMM.out _).mono ?_
  rintro e w9 ⟨rfl, rfl⟩
  clear HNM HMM
  go_wp2_with fail
  go_loopw [8] (fun iv wr => ∃ (j : Nat) (sj : Option (List UInt8)) (qs : List QuZ) (ks : List (Sc (d + 1))) (kv : Value), j ≤ 1 ∧ ks.length = j ∧ Hid (SofarZ (readSc d) RL (1 - j) sj ks) ∧ (sj.getD []).length ≤ 1000000 ∧ iv = .int .i64 j ∧ RR wr g S sj ∧
      KB wr w.heap.size 24 #[.int .i64 0, .string ⟨#[]⟩, .int .i64 0, .int .i64 0, .slice none 0 0] ∧ KB wr w1.heap.size 24 #[.int .i64 8, .string ⟨#[]⟩, .int .i64 0, .int .i64 0, kv] ∧ wr.ownsRow (w1.heap.size + 1) 24 5 kv qs.length (flatZ qs) ∧ QZ wr (SNZ w1.heap.size wr kv) (d + 1) qs ks ∧ w.grownBy wr (some g)) (fun iv _ => 1 - (intOf iv).toNat)
  case atStart => exact ⟨0, some l, [], [], .slice none 0 0, by omega, rfl, HS0, hsl0, rfl, R2, K4, K6, World.ownsRow_nil _ _ _ _, QZ.nil _ _ _, G2⟩
  case round =>
    obtain ⟨j, sj, qs, ks, kv, hj, hkl, hso, hsl, rfl, R, L4, L6, how, hq, G⟩ := hrel
    obtain ⟨A3, c3v, rfl⟩ := zown_form how
    have done : (1 - j = 0 ∨ sj = none) → RL = (sj, ks) := fun he => hso.out.done he
    clear R2 K4 K6 G2 HS0 hsl0
    cases sj with
    | none =>
      have hr := done (.inr rfl)
      clear done hso
      subst hr
      obtain ⟨q1, q2⟩ := R.bad
      by_cases hlt : j < 1
      · have hlt' : (j : Int) < 1 := by omega
        have c60 : wr.cell? ⟨w1.heap.size, 0, none⟩ = some (.int .i64 8) := L6.cell 0
        have c61 : wr.cell? ⟨w1.heap.size, 1, none⟩ = some (.string ⟨#[]⟩) := L6.cell 1
        have c62 : wr.cell? ⟨w1.heap.size, 2, none⟩ = some (.int .i64 0) := L6.cell 2
        have c63 : wr.cell? ⟨w1.heap.size, 3, none⟩ = some (.int .i64 0) := L6.cell 3
        have c64 : wr.cell? ⟨w1.heap.size, 4, none⟩ = some (.slice A3 qs.length c3v) := L6.cell 4
        have c40 : wr.cell? ⟨w.heap.size, 0, none⟩ = some (.int .i64 0) := L4.cell 0
        have c41 : wr.cell? ⟨w.heap.size, 1, none⟩ = some (.string ⟨#[]⟩) := L4.cell 1
        have c42 : wr.cell? ⟨w.heap.size, 2, none⟩ = some (.int .i64 0) := L4.cell 2
        have c43 : wr.cell? ⟨w.heap.size, 3, none⟩ = some (.int .i64 0) := L4.cell 3
        have c44 : wr.cell? ⟨w.heap.size, 4, none⟩ = some (.slice none 0 0) := L4.cell 4
        have f40 := L4.free 0
        have f41 := L4.free 1
        have f42 := L4.free 2
        have f43 := L4.free 3
        have f44 := L4.free 4
        go_wp2_with fail
        refine bodyPost_ret (results_cell_row (P := Try.prog) rfl _ _ w.heap.size _ _ (0, 0) _ rfl (zput_five L4) Try.underlying24 rfl (by kernel_rfl)) rfl
          ⟨_, rfl, zRR_far (zRR_far (zRR_far (zRR_far (zRR_far R hne hSg) hne hSg) hne hSg) hne hSg) hne hSg, zread_ZV (nm := []) hI (by unfold maxLen; simp) (by unfold I64; omega) (by unfold I64; omega) how (hq.mono fun b h => h.1) (by omega) (zsets_size _ _ _ _ _ _ _) (fun b hb => zsets_block _ _ _ _ _ _ _ _ (by omega)), zgrown_new G (zgrown_five _ _ _ _ _ _ _) (Nat.le_refl _)⟩
      · have hlt' : ¬ (j : Int) < 1 := by omega
        have c60 : wr.cell? ⟨w1.heap.size, 0, none⟩ = some (.int .i64 8) := L6.cell 0
        have c61 : wr.cell? ⟨w1.heap.size, 1, none⟩ = some (.string ⟨#[]⟩) := L6.cell 1
        have c62 : wr.cell? ⟨w1.heap.size, 2, none⟩ = some (.int .i64 0) := L6.cell 2
        have c63 : wr.cell? ⟨w1.heap.size, 3, none⟩ = some (.int .i64 0) := L6.cell 3
        have c64 : wr.cell? ⟨w1.heap.size, 4, none⟩ = some (.slice A3 qs.length c3v) := L6.cell 4
        have c40 : wr.cell? ⟨w.heap.size, 0, none⟩ = some (.int .i64 0) := L4.cell 0
        have c41 : wr.cell? ⟨w.heap.size, 1, none⟩ = some (.string ⟨#[]⟩) := L4.cell 1
        have c42 : wr.cell? ⟨w.heap.size, 2, none⟩ = some (.int .i64 0) := L4.cell 2
        have c43 : wr.cell? ⟨w.heap.size, 3, none⟩ = some (.int .i64 0) := L4.cell 3
        have c44 : wr.cell? ⟨w.heap.size, 4, none⟩ = some (.slice none 0 0) := L4.cell 4
        have f40 := L4.free 0
        have f41 := L4.free 1
        have f42 := L4.free 2
        have f43 := L4.free 3
        have f44 := L4.free 4
        go_wp2_with fail
        refine bodyPost_ret (results_cell_row (P := Try.prog) rfl _ _ w.heap.size _ _ (0, 0) _ rfl (zput_five L4) Try.underlying24 rfl (by kernel_rfl)) rfl
          ⟨_, rfl, zRR_far (zRR_far (zRR_far (zRR_far (zRR_far R hne hSg) hne hSg) hne hSg) hne hSg) hne hSg, zread_ZV (nm := []) hI (by unfold maxLen; simp) (by unfold I64; omega) (by unfold I64; omega) how (hq.mono fun b h => h.1) (by omega) (zsets_size _ _ _ _ _ _ _) (fun b hb => zsets_block _ _ _ _ _ _ _ _ (by omega)), zgrown_new G (zgrown_five _ _ _ _ _ _ _) (Nat.le_refl _)⟩
    | some lj =>
      obtain ⟨q1, q2⟩ := R.good
      by_cases hlt : j < 1
      · have hlt' : (j : Int) < 1 := by omega
        have hso2 : SofarZ (readSc d) RL (1 - (j + 1) + 1) (some lj) ks := by
          have := hso.out
          rwa [show 1 - j = 1 - (j + 1) + 1 by omega] at this
        have HS2 := Lib.hid hso2.step
        have hls := Nat.le_trans (readSc_le d (some lj)) hsl
        have hc := ih g (some lj) wr.drew R (fun b hb => by have := hS b hb; have := G.size; exact Nat.lt_of_lt_of_le (hS b hb) G.size) hsl (by omega)
        unfold ReadZ at hc
        clear done hso hso2 hsl
        generalize readSc d (some lj) = RT at *
        have R' : RR wr.drew g S (some lj) := R
        have L4' : KB wr.drew w.heap.size 24 #[.int .i64 0, .string ⟨#[]⟩, .int .i64 0, .int .i64 0, .slice none 0 0] := L4
        have L6' : KB wr.drew w1.heap.size 24 #[.int .i64 8, .string ⟨#[]⟩, .int .i64 0, .int .i64 0, .slice A3 qs.length c3v] := L6
        have how' : wr.drew.ownsRow (w1.heap.size + 1) 24 5 (.slice A3 qs.length c3v) qs.length (flatZ qs) := how
        have hq' : QZ wr.drew (SNZ w1.heap.size wr.drew (.slice A3 qs.length c3v)) (d + 1) qs ks := hq.keepL (Nat.le_refl _) (fun _ _ _ => rfl) fun _ h _ => h
        have HLq : Hid (qs.length ≤ 1000000000) := by have := hq.1; show _ ≤ _; omega
        have hg6 : g < w1.heap.size := by omega
        have G' : w.grownBy wr.drew (some g) := ⟨G.os, G.tape, G.output, G.size, G.block⟩
        have c3 : wr.cell? ⟨w1.heap.size, 4, none⟩ = some (.slice A3 qs.length c3v) := L6.cell 4
        have f3 := L6.free 4
        have WW : IntKind.i64.wrap (((d : Int) + 1) - 1) = (d : Int) := by rw [show ((d : Int) + 1) - 1 = d by omega]; simp [IntKind.wrap, IntKind.bits, IntKind.signed]; omega
        have WV : IntKind.i64.wrap (d : Int) = (d : Int) := by simp [IntKind.wrap, IntKind.bits, IntKind.signed]; omega
        clear R L4 L6 how hq G
        go_wp2_with fail
        go_region_law
          (first
            | (go_simp; go_at_call 32; refine hc.mono ?_; rintro e w5 ⟨v5, rfl, R5, tv5, G5⟩; obtain ⟨e0, e1, e2, e3, e4, rfl, tm5⟩ := tv5; have L6a := L6'.grown G5 (by simp; omega); have how5 := zown_grown how' G5 (by omega); have how6 := own_past ((Below.refl _ _).alloc (Nat.le_refl _) (.cells #[e0, e1, e2, e3, e4] 24)) how5; have hone := tm5.cells1; have hsz : w1.heap.size + 1 ≤ (w5.alloc (.cells #[e0, e1, e2, e3, e4] 24)).heap.size := (by have := L6a.lt; simp; omega); clear c3 f3 how5; have ca : (w5.alloc (.cells #[e0, e1, e2, e3, e4] 24)).cell? ⟨w1.heap.size, 4, none⟩ = some (.slice A3 qs.length c3v) := (L6a.alloc (.cells #[e0, e1, e2, e3, e4] 24)).cell 4; have c3 : w5.cell? ⟨w1.heap.size, 4, none⟩ = some (.slice A3 qs.length c3v) := L6a.cell 4; have f3 := L6a.free 4)
            | (refine step_growZ rfl _ _ rfl (w1.heap.size + 1) _ qs rfl how6 _ 1 (e0, e1, e2, e3, e4) rfl (At_newZ w5 e0 e1 e2 e3 e4 _) hone HLq.out hsz ?_; intro v7 w7 how7 hg7 h7; obtain ⟨qq, hqq⟩ : ∃ qq, qq = qs ++ [(e0, e1, e2, e3, e4)] := ⟨_, rfl⟩; rw [← hqq] at how7; have HQQ := Lib.hid hqq; clear hqq; have L6b := (L6a.alloc (.cells #[e0, e1, e2, e3, e4] 24)).grown hg7 (own_ne how6 (Nat.lt_succ_self w1.heap.size)); obtain ⟨A7, c7, rfl⟩ := zown_form how7; clear c3 f3; have c3 : w7.cell? ⟨w1.heap.size, 4, none⟩ = some (.slice A3 qs.length c3v) := L6b.cell 4; have f3 := L6b.free 4))
        all_goals
          have h6 : w1.heap.size < wr.drew.heap.size := L6'.lt
          have L6f := L6b.put 4 (.slice A7 qq.length c7)
          have L4f := zKB_far (h := w1.heap.size) (i := 4) (v := (.slice A7 qq.length c7)) (((L4'.grown G5 (by simp; omega)).alloc (.cells #[e0, e1, e2, e3, e4] 24)).grown hg7 (own_ne how6 (by omega))) (by omega)
          have Rf := zRR_far (h := w1.heap.size) (i := 4) (u := (.slice A7 qq.length c7)) (zRR_grown (zRR_alloc R5 (.cells #[e0, e1, e2, e3, e4] 24)) hg7 (own_ne how6 (by omega)) (fun x hx hSx => by have := zown_ge how6 x hx; have := hS x hSx; omega)) (by omega) (fun hSx => by have := hS _ hSx; omega)
          have howf := zown_grown how7 (grown_set w7 w1.heap.size 4 (.slice A7 qq.length c7)) (Nat.lt_succ_self _)
          have hsz8 : w7.heap.size = (w7.setCell ⟨w1.heap.size, 4, none⟩ (.slice A7 qq.length c7)).heap.size := by simp [World.setCell]
          have hbl8 : ∀ x, x ≠ w1.heap.size → (w7.setCell ⟨w1.heap.size, 4, none⟩ (.slice A7 qq.length c7)).heap[x]? = w7.heap[x]? := fun x hx => Below.heap_setCell w7 ⟨w1.heap.size, 4, none⟩ (.slice A7 qq.length c7) x hx
          have hqf := QZ.more hq' tm5 how' G5 hg6 h6 hg7 h7 hsz8 hbl8
          rw [← HQQ.out] at hqf
          have Gf := zgrown_new (zgrown_newX (grown_trans (grown_trans G' G5) (grown_of_below ((Below.refl w5.heap.size w5).alloc (Nat.le_refl _) (.cells #[e0, e1, e2, e3, e4] 24)) (some g))) hg7 (fun x hx => by have := zown_ge how6 x hx; omega)) (grown_set w7 w1.heap.size 4 (.slice A7 qq.length c7)) (by omega)
          clear hq' how' how6 how7 hsz8 hbl8 tm5 hg7 h7 hone hsz ca c3 f3 L6a L6b L4' L6' R' R5 G5 G' hc ih
          go_wp2
          go_roundw
          case rel => exact ⟨j + 1, RT.1, qq, ks ++ ([RT.2] : List (Sc (d + 1))), (.slice A7 qq.length c7), by omega, by rw [List.length_append, hkl]; rfl, HS2, hls, by go_num, Rf, L4f, L6f, howf, hqf, Gf⟩
          case measure => simp [intOf]; omega
      · have hlt' : ¬ (j : Int) < 1 := by omega
        have hr := done (.inl (by omega))
        clear done hso
        subst hr
        have c60 : wr.cell? ⟨w1.heap.size, 0, none⟩ = some (.int .i64 8) := L6.cell 0
        have c61 : wr.cell? ⟨w1.heap.size, 1, none⟩ = some (.string ⟨#[]⟩) := L6.cell 1
        have c62 : wr.cell? ⟨w1.heap.size, 2, none⟩ = some (.int .i64 0) := L6.cell 2
        have c63 : wr.cell? ⟨w1.heap.size, 3, none⟩ = some (.int .i64 0) := L6.cell 3
        have c64 : wr.cell? ⟨w1.heap.size, 4, none⟩ = some (.slice A3 qs.length c3v) := L6.cell 4
        have c40 : wr.cell? ⟨w.heap.size, 0, none⟩ = some (.int .i64 0) := L4.cell 0
        have c41 : wr.cell? ⟨w.heap.size, 1, none⟩ = some (.string ⟨#[]⟩) := L4.cell 1
        have c42 : wr.cell? ⟨w.heap.size, 2, none⟩ = some (.int .i64 0) := L4.cell 2
        have c43 : wr.cell? ⟨w.heap.size, 3, none⟩ = some (.int .i64 0) := L4.cell 3
        have c44 : wr.cell? ⟨w.heap.size, 4, none⟩ = some (.slice none 0 0) := L4.cell 4
        have f40 := L4.free 0
        have f41 := L4.free 1
        have f42 := L4.free 2
        have f43 := L4.free 3
        have f44 := L4.free 4
        go_wp2_with fail
        refine bodyPost_ret (results_cell_row (P := Try.prog) rfl _ _ w.heap.size _ _ (0, 0) _ rfl (zput_five L4) Try.underlying24 rfl (by kernel_rfl)) rfl
          ⟨_, rfl, zRR_far (zRR_far (zRR_far (zRR_far (zRR_far R hne hSg) hne hSg) hne hSg) hne hSg) hne hSg, zread_ZV (nm := []) hI (by unfold maxLen; simp) (by unfold I64; omega) (by unfold I64; omega) how (hq.mono fun b h => h.1) (by omega) (zsets_size _ _ _ _ _ _ _) (fun b hb => zsets_block _ _ _ _ _ _ _ _ (by omega)), zgrown_new G (zgrown_five _ _ _ _ _ _ _) (Nat.le_refl _)⟩
end
section
open Go.RowKit
theorem zread_any (S : Nat → Prop) : ∀ d : Nat, ReadIhZ S d
  | 0 => fun g st w h hS hl hd => by
    rcases st with _ | _ | ⟨b, l⟩
    · exact zread_fails S 0 g none none [] w h hS (by simp) hd zpassed_none (rs_zero _) (.inl rfl)
    · exact zread_fails S 0 g (some []) none [] w h hS (by simp) hd zpassed_nil (rs_zero _) (.inl rfl)
    · exact zread_fails S 0 g _ (some l) [b] w h hS (by omega) hd (zpassed_cons b l) (rs_zero _) (.inr ⟨⟨l, rfl⟩, rfl⟩)
  | d + 1 => fun g st w h hS hl hd => by
    have ih := zread_any S d
    rcases st with _ | _ | ⟨b, l⟩
    · exact zread_fails S (d + 1) g none none [] w h hS (by simp) hd zpassed_none (rs_none _) (.inl rfl)
    · exact zread_fails S (d + 1) g (some []) none [] w h hS (by simp) hd zpassed_nil (rs_nil _) (.inl rfl)
    have hL : l.length + 1 ≤ 1000000 := by simpa using hl
    by_cases h1 : (b.toNat : Int) = 2 ∨ (b.toNat : Int) = 3 ∨ (b.toNat : Int) = 4
    · exact zread_named S d ih g b l w h hS hL hd h1
    by_cases h2 : (b.toNat : Int) = 5
    · exact zread_time S d ih g b l w h hS hL hd h2
    by_cases h3 : (b.toNat : Int) = 6 ∨ (b.toNat : Int) = 7
    · exact zread_many S d ih g b l w h hS hL hd h3
    by_cases h4 : (b.toNat : Int) = 8
    · exact zread_not S d ih g b l w h hS hL hd h4
    · exact zread_other S d ih g b l w h hS hL hd (by omega)
end
section
open Go.RowKit
theorem results_cell_tmp {P : Program} {fn : Func} {p u : Tmp} {ty : TypeId} (h : fn.results = #[.cell p ty, .tmp u]) (tmps : Array Value) (w : World) (g : Nat) (t : TypeId) (cs : Array Value) (fr : Nat × Nat) (d : TypeDesc)
    (hp : tmps.getD p undef = .pointer (some ⟨g, 0, none⟩)) (hg : w.heap[g]? = some (.cells cs t fr))
    (hu : P.underlying ty = some d) (hd : (match d with | .struct _ | .array _ _ => true | _ => false) = true) (hi : (P.info? ty).map (·.size) = some cs.size) :
    (results fn tmps).run P w = .ok (.tuple #[.agg cs, tmps.getD u undef]) w := by
  have hp' : tmps[p]?.getD undef = .pointer (some ⟨g, 0, none⟩) := by simpa using hp
  simp [results, h, hp', asAddr, run_loadVar_row w g t ty cs fr d hg hu hd hi]
theorem KB.put3 {w : World} {g : Nat} {t : TypeId} {a b c : Value} (h : KB w g t #[a, b, c]) (x y z : Value) : KB (((w.setCell ⟨g, 0, none⟩ x).setCell ⟨g, 1, none⟩ y).setCell ⟨g, 2, none⟩ z) g t #[x, y, z] :=
  ((h.put 0 x).put 1 y).put 2 z
theorem res_three (w : World) (g : Nat) (x y z : Value) : w.grownBy (((w.setCell ⟨g, 0, none⟩ x).setCell ⟨g, 1, none⟩ y).setCell ⟨g, 2, none⟩ z) (some g) :=
  grown_trans (grown_trans (grown_set _ _ _ _) (grown_set _ _ _ _)) (grown_set _ _ _ _)
end
end Go.Proofs.Ytcbkokhjdleoeaa
