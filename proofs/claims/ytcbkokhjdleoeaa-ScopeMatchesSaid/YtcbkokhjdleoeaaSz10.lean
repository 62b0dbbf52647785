/-
  ScN: The document's Read (layer 20), over the loaded program: what is said of all. No condition but the sizes that it names.
  ScPN: The document's Read (layer 20), over the loaded program: of named. No condition but the sizes that it names.
  ScPT: The document's Read (layer 20), over the loaded program: of time. No condition but the sizes that it names.
  ScPZ: The document's Read (layer 20), over the loaded program: of other. No condition but the sizes that it names.
-/
import Derived.Test.YtcbkokhjdleoeaaSz09
set_option linter.unusedVariables false
set_option maxRecDepth 100000
namespace Go.Proofs.Ytcbkokhjdleoeaa
section
open Go.RowKit
def ReadIhZ (S : Nat → Prop) (d : Nat) : Prop := ∀ (g : Nat) (st : Option (List UInt8)) (w : World), RR w g S st → (∀ b, S b → b < w.heap.size) → (st.getD []).length ≤ 1000000 → d ≤ 1000000 →
    Calls Try.prog 32 #[.pointer (some ⟨g, 0, none⟩), .int .i64 d] w (ReadZ w g S d st)
theorem step_growZ {ops : Array Oper} {o : Oper} {a : Act} {w : World} {K : Act → World → Prop} {Q : Exit → Act → World → Prop} {E : Prop} (hg : o.guard = none) (s x : Operand)
    (ho : o.op = .call { callee := .builtin .append, args := #[s, x], argTypes := #[22, 22] })
    (base : Nat) (v : Value) (qs : List QuZ) (hs : a.eval s = v) (hown : w.ownsRow base 24 5 v qs.length (flatZ qs))
    (ad : Addr) (c : Nat) (p : QuZ) (hxe : a.eval x = .slice (some ad) 1 c) (hx : ∀ j u, (fiveZ p)[j]? = some u → w.cell? (ad.add j) = some u) (h1 : ∀ u ∈ fiveZ p, u.oneCell' = true) (hb : qs.length ≤ 1000000000) (hbase : base ≤ w.heap.size)
    (hK : ∀ v' w', w'.ownsRow base 24 5 v' (qs ++ [p]).length (flatZ (qs ++ [p])) → w.grownBy w' v.ownBlock → (v'.ownBlock = v.ownBlock ∨ v'.ownBlock = some w.heap.size) → K (a.put o.dst v') w') :
    if Region.wanted o (yielded ops a.tmps) = true then Oper.wp Try.prog o a w K Q else E := by
  have hw : Region.wanted o (yielded ops a.tmps) = true := by simp [Region.wanted, hg]
  rw [if_pos hw]
  obtain ⟨v', w', hrun, h2, h3, h4⟩ := run_growZ w base v qs hown ad c p hx h1 hb hbase o.type
  unfold Oper.wp execOp
  simp only [ho, resolve, invoke, builtin, Sem.run_bind, Sem.run_pure, Result.andThen_ok, List.map_toArray, List.map_cons, List.map_nil, hs, hxe, hrun]
  exact hK _ _ h2 h3 h4
theorem At_newZ (w : World) (c0 c1 c2 c3 c4 : Value) (t : TypeId) : ∀ j u, (fiveZ (c0, c1, c2, c3, c4))[j]? = some u → (w.alloc (.cells #[c0, c1, c2, c3, c4] t)).cell? ((⟨w.heap.size, 0, none⟩ : Addr).add j) = some u := fun j u h => by
  have := (KB.new w t #[c0, c1, c2, c3, c4]).cell j
  have e : ((⟨w.heap.size, 0, none⟩ : Addr).add j) = ⟨w.heap.size, j, none⟩ := by rw [Go.WideShapes.add_plain, Nat.zero_add]
  rw [e, this]
  simpa [fiveZ] using h
theorem rs_named {d : Nat} {b : UInt8} {l : List UInt8} (h : (b.toNat : Int) = 2 ∨ (b.toNat : Int) = 3 ∨ (b.toNat : Int) = 4) : readSc (d + 1) (some (b :: l)) = ((txtOf 16 (some l)).1, ⟨(b.toNat : Int), (txtOf 16 (some l)).2, 0, 0, []⟩) := by
  rw [rs_cons]
  generalize (b.toNat : Int) = k at *
  have h1 : namedS k = true := decide_eq_true h
  have h2 : manyS k = false := decide_eq_false (by omega)
  have h3 : ¬ k = 5 := by omega
  have h4 : ¬ k = 8 := by omega
  simp [nameR, tickR, manyR, h1, h2, h3, h4, kidsR]
  rfl
theorem rs_time {d : Nat} {b : UInt8} {l : List UInt8} (h : (b.toNat : Int) = 5) : readSc (d + 1) (some (b :: l)) = ((cntOf 1099511627776 (cntOf 1099511627776 (some l)).1).1, ⟨5, [], ((cntOf 1099511627776 (some l)).2 : Int), ((cntOf 1099511627776 (cntOf 1099511627776 (some l)).1).2 : Int), []⟩) := by
  rw [rs_cons, h]; rfl
theorem rs_other {d : Nat} {b : UInt8} {l : List UInt8} (h : (b.toNat : Int) < 2 ∨ 8 < (b.toNat : Int)) : readSc (d + 1) (some (b :: l)) = (some l, ⟨(b.toNat : Int), [], 0, 0, []⟩) := by
  rw [rs_cons]
  generalize (b.toNat : Int) = k at *
  have h1 : namedS k = false := decide_eq_false (by omega)
  have h2 : manyS k = false := decide_eq_false (by omega)
  have h3 : ¬ k = 5 := by omega
  have h4 : ¬ k = 8 := by omega
  simp [nameR, tickR, manyR, h1, h2, h3, h4, kidsR]
  rfl
theorem rs_many {d : Nat} {b : UInt8} {l : List UInt8} (h : (b.toNat : Int) = 6 ∨ (b.toNat : Int) = 7) : readSc (d + 1) (some (b :: l)) = ((kidsR (readSc d) (cntOf 24 (some l)).2 (cntOf 24 (some l)).1).1, ⟨(b.toNat : Int), [], 0, 0, (kidsR (readSc d) (cntOf 24 (some l)).2 (cntOf 24 (some l)).1).2⟩) := by
  rw [rs_cons]
  rcases h with h | h <;> rw [h] <;> rfl
theorem rs_not {d : Nat} {b : UInt8} {l : List UInt8} (h : (b.toNat : Int) = 8) : readSc (d + 1) (some (b :: l)) = ((kidsR (readSc d) 1 (some l)).1, ⟨8, [], 0, 0, (kidsR (readSc d) 1 (some l)).2⟩) := by
  rw [rs_cons, h]; rfl
end
section
open Go.RowKit
set_option maxHeartbeats 8000000 in
theorem zread_named (S : Nat → Prop) (d : Nat) (ih : ReadIhZ S d) (g : Nat) (b : UInt8) (l : List UInt8) (w : World) (h : RR w g S (some (b :: l))) (hS : ∀ b, S b → b < w.heap.size) (hL : l.length + 1 ≤ 1000000) (hd : d + 1 ≤ 1000000) (hcls : (b.toNat : Int) = 2 ∨ (b.toNat : Int) = 3 ∨ (b.toNat : Int) = 4) :
    Calls Try.prog 32 #[.pointer (some ⟨g, 0, none⟩), .int .i64 ((d + 1 : Nat) : Int)] w (ReadZ w g S (d + 1) (some (b :: l))) := by
  have hg := h.lt
  unfold ReadZ
  rw [rs_named hcls]
  have hu := b.toNat_lt
  have KR := KB.new w 24 #[.int .i64 0, .string ⟨#[]⟩, .int .i64 0, .int .i64 0, .slice none 0 0]
  have G := grown_of_below ((Below.refl w.heap.size w).alloc (Nat.le_refl _) (.cells #[.int .i64 0, .string ⟨#[]⟩, .int .i64 0, .int .i64 0, .slice none 0 0] 24)) (some g)
  have ht := rtake_to 1 g S _ _ (some l) [b] (zRR_alloc h (.cells #[.int .i64 0, .string ⟨#[]⟩, .int .i64 0, .int .i64 0, .slice none 0 0] 24)) (by simp; omega) (zpassed_cons b l)
  have W2 : wrap64 (b.toNat : Int) = (b.toNat : Int) := IntWalk.wrap64_in _ (by omega)
  have g1 : decide (((d + 1 : Nat) : Int) < 1) = false := decide_eq_false (by omega)
  have hne : ¬ w.heap.size = g := by omega
  have hne2 : ¬ g = w.heap.size := by omega
  have hSg : ¬ S w.heap.size := fun h => Nat.lt_irrefl _ (hS _ h)
  have hI : I64 (b.toNat : Int) := by unfold I64; omega
  generalize hk : (b.toNat : Int) = k at *
  have HNM : Hid (∀ W : World, Calls Try.prog 42 #[.int .i64 k] W fun e w' => e = .returned (.bool true) ∧ w' = W) := fun W => by
    have := znamed_any k W
    rwa [show namedS k = true from decide_eq_true hcls] at this
  have HMM : Hid (∀ W : World, Calls Try.prog 37 #[.int .i64 k] W fun e w' => e = .returned (.bool false) ∧ w' = W) := fun W => by
    have := zmany_any k W
    rwa [show manyS k = false from decide_eq_false (by omega)] at this
  have E5 : (k == 5) = false := beq_eq_false_iff_ne.2 (by omega)
  have E8 : (k == 8) = false := beq_eq_false_iff_ne.2 (by omega)
  have hrt := fun (w2 : World) (R2 : RR w2 g S (some l)) => rtext 16 (by omega) g S (some l) w2 R2 (by simp; omega)
  have hfew : (txtOf 16 (some l)).2.length ≤ 1000000 := by have := ztxt_few 16 (some l); simp at this; omega
  generalize txtOf 16 (some l) = nn at *
  obtain ⟨s0, nm⟩ := nn
  dsimp only at hrt hfew ⊢
  clear hcls
  go_enter Try.func32, Try.ntmps32
  go_wp2_with fail
  refine ht.mono ?_
  rintro e w1 ⟨A, c, rfl, hr1, hb1, hg1⟩
  have K1 := KR.grown hg1 (by simp; omega)
  have G1 := grown_trans G hg1
  obtain ⟨q1, q2⟩ := hr1.good
  have hbyte : ∃ bb oo, A = some ⟨bb, oo, none⟩ ∧ w1.cell? ⟨bb, oo, none⟩ = some (.int .u8 k) := by
    obtain ⟨bb, oo, e1, _, _, hx⟩ := hb1.at_ (by simp)
    exact ⟨bb, oo, e1, by have := hx 0 b rfl; rw [← hk]; simpa using this⟩
  obtain ⟨bb, oo, rfl, hcell⟩ := hbyte
  clear ht KR G hb1
  have hw1 : w.heap.size + 1 ≤ w1.heap.size := by have := hg1.size; simpa using this
  have K6 := KB.new w1 24 #[.int .i64 k, .string ⟨#[]⟩, .int .i64 0, .int .i64 0, .slice none 0 0]
  have K4 := K1.alloc (.cells #[.int .i64 k, .string ⟨#[]⟩, .int .i64 0, .int .i64 0, .slice none 0 0] 24)
  have R2 := zRR_alloc hr1 (.cells #[.int .i64 k, .string ⟨#[]⟩, .int .i64 0, .int .i64 0, .slice none 0 0] 24)
  have G2 := grown_trans G1 (grown_of_below ((Below.refl w1.heap.size w1).alloc (Nat.le_refl _) (.cells #[.int .i64 k, .string ⟨#[]⟩, .int .i64 0, .int .i64 0, .slice none 0 0] 24)) (some g))
  clear K1 hr1 G1
  go_wp2_with fail
  generalize hw2 : w1.alloc (.cells #[.int .i64 k, .string ⟨#[]⟩, .int .i64 0, .int .i64 0, .slice none 0 0] 24) = w2 at *
  have p0 : w2.cell? ⟨w1.heap.size, 0, none⟩ = some (.int .i64 k) := K6.cell 0
  refine (HNM.out _).mono ?_
  rintro e w2 ⟨rfl, rfl⟩
  clear hw2 q1 q2 hcell
  go_wp2_with fail
  refine (hrt _ R2).mono ?_
  rintro e w3 ⟨v3, rfl, R3, x3, G3⟩
  have hcv := x3.str (P := Try.prog) Try.underlying27 Try.underlying5 Try.underlying9
  have K6b := K6.grown G3 (by simp; omega)
  have K4b := K4.grown G3 (by simp; omega)
  have G4 := grown_trans G2 G3
  have p1 : w3.cell? ⟨w1.heap.size, 1, none⟩ = some (.string ⟨#[]⟩) := K6b.cell 1
  have f1 := K6b.free 1
  have K6c := K6b.put 1 (strV nm)
  have K4c := zKB_far (h := w1.heap.size) (i := 1) (v := strV nm) K4b (by omega)
  have R4 := zRR_far (h := w1.heap.size) (i := 1) (u := strV nm) R3 (by omega) (fun h => by have := hS _ h; omega)
  have G5 := zgrown_new G4 (grown_set w3 w1.heap.size 1 (strV nm)) (by omega)
  have p0' : (w3.setCell ⟨w1.heap.size, 1, none⟩ (strV nm)).cell? ⟨w1.heap.size, 0, none⟩ = some (.int .i64 k) := K6c.cell 0
  clear hrt K6 K4 R2 G2 G3 p0 K6b K4b R3 G4
  unfold strV at *
  go_wp2_with fail
  refine (HMM.out _).mono ?_
  rintro e w9 ⟨rfl, rfl⟩
  clear HNM HMM
  go_wp2_with fail
  go_loopw [8] (fun iv wr => iv = .int .i64 0 ∧ RR wr g S s0 ∧ KB wr w.heap.size 24 #[.int .i64 0, .string ⟨#[]⟩, .int .i64 0, .int .i64 0, .slice none 0 0] ∧ KB wr w1.heap.size 24 #[.int .i64 k, .string ⟨nm.toArray⟩, .int .i64 0, .int .i64 0, .slice none 0 0] ∧ w.grownBy wr (some g)) (fun iv _ => 0)
  case atStart => exact ⟨rfl, R4, K4c, K6c, G5⟩
  case round =>
    clear R4 K4c K6c G5
    obtain ⟨rfl, R, L4, L6, G⟩ := hrel
    have c60 : wr.cell? ⟨w1.heap.size, 0, none⟩ = some (.int .i64 k) := L6.cell 0
    have c61 : wr.cell? ⟨w1.heap.size, 1, none⟩ = some (.string ⟨nm.toArray⟩) := L6.cell 1
    have c62 : wr.cell? ⟨w1.heap.size, 2, none⟩ = some (.int .i64 0) := L6.cell 2
    have c63 : wr.cell? ⟨w1.heap.size, 3, none⟩ = some (.int .i64 0) := L6.cell 3
    have c64 : wr.cell? ⟨w1.heap.size, 4, none⟩ = some (.slice none 0 0) := L6.cell 4
    have c40 : wr.cell? ⟨w.heap.size, 0, none⟩ = some (.int .i64 0) := L4.cell 0
    have c41 : wr.cell? ⟨w.heap.size, 1, none⟩ = some (.string ⟨#[]⟩) := L4.cell 1
    have c42 : wr.cell? ⟨w.heap.size, 2, none⟩ = some (.int .i64 0) := L4.cell 2
    have c43 : wr.cell? ⟨w.heap.size, 3, none⟩ = some (.int .i64 0) := L4.cell 3
    have c44 : wr.cell? ⟨w.heap.size, 4, none⟩ = some (.slice none 0 0) := L4.cell 4
    have f40 := L4.free 0
    have f41 := L4.free 1
    have f42 := L4.free 2
    have f43 := L4.free 3
    have f44 := L4.free 4
    go_wp2_with fail
    refine bodyPost_ret (results_cell_row (P := Try.prog) rfl _ _ w.heap.size _ _ (0, 0) _ rfl (zput_five L4) Try.underlying24 rfl (by kernel_rfl)) rfl
      ⟨_, rfl, zRR_far (zRR_far (zRR_far (zRR_far (zRR_far R hne hSg) hne hSg) hne hSg) hne hSg) hne hSg, zread_ZV (nm := nm) hI (by unfold maxLen; omega) (by unfold I64; omega) (by unfold I64; omega) (World.ownsRow_nil _ _ _ _ : wr.ownsRow (w1.heap.size + 1) 24 5 (.slice none 0 0) ([] : List QuZ).length (flatZ [])) (QZ.nil _ _ _) (by omega) (zsets_size _ _ _ _ _ _ _) (fun b hb => zsets_block _ _ _ _ _ _ _ _ (by omega)), zgrown_new G (zgrown_five _ _ _ _ _ _ _) (Nat.le_refl _)⟩
end
section
open Go.RowKit
set_option maxHeartbeats 8000000 in
theorem zread_time (S : Nat → Prop) (d : Nat) (ih : ReadIhZ S d) (g : Nat) (b : UInt8) (l : List UInt8) (w : World) (h : RR w g S (some (b :: l))) (hS : ∀ b, S b → b < w.heap.size) (hL : l.length + 1 ≤ 1000000) (hd : d + 1 ≤ 1000000) (hcls : (b.toNat : Int) = 5) :
    Calls Try.prog 32 #[.pointer (some ⟨g, 0, none⟩), .int .i64 ((d + 1 : Nat) : Int)] w (ReadZ w g S (d + 1) (some (b :: l))) := by
  have hg := h.lt
  unfold ReadZ
  rw [rs_time hcls]
  have hu := b.toNat_lt
  have KR := KB.new w 24 #[.int .i64 0, .string ⟨#[]⟩, .int .i64 0, .int .i64 0, .slice none 0 0]
  have G := grown_of_below ((Below.refl w.heap.size w).alloc (Nat.le_refl _) (.cells #[.int .i64 0, .string ⟨#[]⟩, .int .i64 0, .int .i64 0, .slice none 0 0] 24)) (some g)
  have ht := rtake_to 1 g S _ _ (some l) [b] (zRR_alloc h (.cells #[.int .i64 0, .string ⟨#[]⟩, .int .i64 0, .int .i64 0, .slice none 0 0] 24)) (by simp; omega) (zpassed_cons b l)
  have W2 : wrap64 (b.toNat : Int) = (b.toNat : Int) := IntWalk.wrap64_in _ (by omega)
  have g1 : decide (((d + 1 : Nat) : Int) < 1) = false := decide_eq_false (by omega)
  have hne : ¬ w.heap.size = g := by omega
  have hne2 : ¬ g = w.heap.size := by omega
  have hSg : ¬ S w.heap.size := fun h => Nat.lt_irrefl _ (hS _ h)
  have hI : I64 (b.toNat : Int) := by unfold I64; omega
  generalize hk : (b.toNat : Int) = k at *
  subst hcls
  have HNM : Hid (∀ W : World, Calls Try.prog 42 #[.int .i64 5] W fun e w' => e = .returned (.bool false) ∧ w' = W) := fun W => by
    have := znamed_any 5 W
    rwa [show namedS 5 = false from rfl] at this
  have HMM : Hid (∀ W : World, Calls Try.prog 37 #[.int .i64 5] W fun e w' => e = .returned (.bool false) ∧ w' = W) := fun W => by
    have := zmany_any 5 W
    rwa [show manyS 5 = false from rfl] at this
  have hrc := fun (w2 : World) (R2 : RR w2 g S (some l)) => rcount 1099511627776 (by omega) g S (some l) w2 R2 (by simp; omega)
  have hc1 := zcnt_most 1099511627776 (some l) (by omega)
  have hcl := cntOf_len 1099511627776 (some l)
  generalize cntOf 1099511627776 (some l) = nn at *
  obtain ⟨s1, n1⟩ := nn
  dsimp only at hrc hc1 hcl ⊢
  have hrc2 := fun (w2 : World) (R2 : RR w2 g S s1) => rcount 1099511627776 (by omega) g S s1 w2 R2 (by simp at hcl; omega)
  have hc2 := zcnt_most 1099511627776 s1 (by omega)
  generalize cntOf 1099511627776 s1 = nn at *
  obtain ⟨s0, n2⟩ := nn
  dsimp only at hrc2 hc2 ⊢
  go_enter Try.func32, Try.ntmps32
  go_wp2_with fail
  refine ht.mono ?_
  rintro e w1 ⟨A, c, rfl, hr1, hb1, hg1⟩
  have K1 := KR.grown hg1 (by simp; omega)
  have G1 := grown_trans G hg1
  obtain ⟨q1, q2⟩ := hr1.good
  have hbyte : ∃ bb oo, A = some ⟨bb, oo, none⟩ ∧ w1.cell? ⟨bb, oo, none⟩ = some (.int .u8 5) := by
    obtain ⟨bb, oo, e1, _, _, hx⟩ := hb1.at_ (by simp)
    exact ⟨bb, oo, e1, by have := hx 0 b rfl; rw [← hk]; simpa using this⟩
  obtain ⟨bb, oo, rfl, hcell⟩ := hbyte
  clear ht KR G hb1
  have hw1 : w.heap.size + 1 ≤ w1.heap.size := by have := hg1.size; simpa using this
  have K6 := KB.new w1 24 #[.int .i64 5, .string ⟨#[]⟩, .int .i64 0, .int .i64 0, .slice none 0 0]
  have K4 := K1.alloc (.cells #[.int .i64 5, .string ⟨#[]⟩, .int .i64 0, .int .i64 0, .slice none 0 0] 24)
  have R2 := zRR_alloc hr1 (.cells #[.int .i64 5, .string ⟨#[]⟩, .int .i64 0, .int .i64 0, .slice none 0 0] 24)
  have G2 := grown_trans G1 (grown_of_below ((Below.refl w1.heap.size w1).alloc (Nat.le_refl _) (.cells #[.int .i64 5, .string ⟨#[]⟩, .int .i64 0, .int .i64 0, .slice none 0 0] 24)) (some g))
  clear K1 hr1 G1
  go_wp2_with fail
  generalize hw2 : w1.alloc (.cells #[.int .i64 5, .string ⟨#[]⟩, .int .i64 0, .int .i64 0, .slice none 0 0] 24) = w2 at *
  have p0 : w2.cell? ⟨w1.heap.size, 0, none⟩ = some (.int .i64 5) := K6.cell 0
  refine (HNM.out _).mono ?_
  rintro e w2 ⟨rfl, rfl⟩
  clear hw2 q1 q2 hcell
  go_wp2_with fail
  refine (hrc _ R2).mono ?_
  rintro e w3 ⟨rfl, R3, G3⟩
  have K6b := K6.grown G3 (by simp; omega)
  have K4b := K4.grown G3 (by simp; omega)
  have G4 := grown_trans G2 G3
  have p1 : w3.cell? ⟨w1.heap.size, 2, none⟩ = some (.int .i64 0) := K6b.cell 2
  have f1 := K6b.free 2
  have K6c := K6b.put 2 (.int .i64 n1)
  have K4c := zKB_far (h := w1.heap.size) (i := 2) (v := .int .i64 n1) K4b (by omega)
  have R4 := zRR_far (h := w1.heap.size) (i := 2) (u := .int .i64 n1) R3 (by omega) (fun h => by have := hS _ h; omega)
  have G5 := zgrown_new G4 (grown_set w3 w1.heap.size 2 (.int .i64 n1)) (by omega)
  clear hrc K6 K4 R2 G2 G3 p0 K6b K4b R3 G4
  go_wp2_with fail
  generalize w3.setCell ⟨w1.heap.size, 2, none⟩ (.int .i64 n1) = w4 at *
  clear p1 f1
  refine (hrc2 _ R4).mono ?_
  rintro e w5 ⟨rfl, R5, G6⟩
  have K6d := K6c.grown G6 (by simp; omega)
  have K4d := K4c.grown G6 (by simp; omega)
  have G7 := grown_trans G5 G6
  have p1 : w5.cell? ⟨w1.heap.size, 3, none⟩ = some (.int .i64 0) := K6d.cell 3
  have f1 := K6d.free 3
  have K6e := K6d.put 3 (.int .i64 n2)
  have K4e := zKB_far (h := w1.heap.size) (i := 3) (v := .int .i64 n2) K4d (by omega)
  have R6 := zRR_far (h := w1.heap.size) (i := 3) (u := .int .i64 n2) R5 (by omega) (fun h => by have := hS _ h; omega)
  have G8 := zgrown_new G7 (grown_set w5 w1.heap.size 3 (.int .i64 n2)) (by omega)
  have p0' : (w5.setCell ⟨w1.heap.size, 3, none⟩ (.int .i64 n2)).cell? ⟨w1.heap.size, 0, none⟩ = some (.int .i64 5) := K6e.cell 0
  clear hrc2 K6c K4c R4 G5 G6 K6d K4d R5 G7
  go_wp2_with fail
  refine (HMM.out _).mono ?_
  rintro e w9 ⟨rfl, rfl⟩
  clear HNM HMM
  go_wp2_with fail
  go_loopw [8] (fun iv wr => iv = .int .i64 0 ∧ RR wr g S s0 ∧ KB wr w.heap.size 24 #[.int .i64 0, .string ⟨#[]⟩, .int .i64 0, .int .i64 0, .slice none 0 0] ∧ KB wr w1.heap.size 24 #[.int .i64 5, .string ⟨#[]⟩, .int .i64 n1, .int .i64 n2, .slice none 0 0] ∧ w.grownBy wr (some g)) (fun iv _ => 0)
  case atStart => exact ⟨rfl, R6, K4e, K6e, G8⟩
  case round =>
    clear R6 K4e K6e G8
    obtain ⟨rfl, R, L4, L6, G⟩ := hrel
    have c60 : wr.cell? ⟨w1.heap.size, 0, none⟩ = some (.int .i64 5) := L6.cell 0
    have c61 : wr.cell? ⟨w1.heap.size, 1, none⟩ = some (.string ⟨#[]⟩) := L6.cell 1
    have c62 : wr.cell? ⟨w1.heap.size, 2, none⟩ = some (.int .i64 n1) := L6.cell 2
    have c63 : wr.cell? ⟨w1.heap.size, 3, none⟩ = some (.int .i64 n2) := L6.cell 3
    have c64 : wr.cell? ⟨w1.heap.size, 4, none⟩ = some (.slice none 0 0) := L6.cell 4
    have c40 : wr.cell? ⟨w.heap.size, 0, none⟩ = some (.int .i64 0) := L4.cell 0
    have c41 : wr.cell? ⟨w.heap.size, 1, none⟩ = some (.string ⟨#[]⟩) := L4.cell 1
    have c42 : wr.cell? ⟨w.heap.size, 2, none⟩ = some (.int .i64 0) := L4.cell 2
    have c43 : wr.cell? ⟨w.heap.size, 3, none⟩ = some (.int .i64 0) := L4.cell 3
    have c44 : wr.cell? ⟨w.heap.size, 4, none⟩ = some (.slice none 0 0) := L4.cell 4
    have f40 := L4.free 0
    have f41 := L4.free 1
    have f42 := L4.free 2
    have f43 := L4.free 3
    have f44 := L4.free 4
    go_wp2_with fail
    refine bodyPost_ret (results_cell_row (P := Try.prog) rfl _ _ w.heap.size _ _ (0, 0) _ rfl (zput_five L4) Try.underlying24 rfl (by kernel_rfl)) rfl
      ⟨_, rfl, zRR_far (zRR_far (zRR_far (zRR_far (zRR_far R hne hSg) hne hSg) hne hSg) hne hSg) hne hSg, zread_ZV (nm := []) hI (by unfold maxLen; simp) (by unfold I64; omega) (by unfold I64; omega) (World.ownsRow_nil _ _ _ _ : wr.ownsRow (w1.heap.size + 1) 24 5 (.slice none 0 0) ([] : List QuZ).length (flatZ [])) (QZ.nil _ _ _) (by omega) (zsets_size _ _ _ _ _ _ _) (fun b hb => zsets_block _ _ _ _ _ _ _ _ (by omega)), zgrown_new G (zgrown_five _ _ _ _ _ _ _) (Nat.le_refl _)⟩
end
section
open Go.RowKit
set_option maxHeartbeats 8000000 in
theorem zread_other (S : Nat → Prop) (d : Nat) (ih : ReadIhZ S d) (g : Nat) (b : UInt8) (l : List UInt8) (w : World) (h : RR w g S (some (b :: l))) (hS : ∀ b, S b → b < w.heap.size) (hL : l.length + 1 ≤ 1000000) (hd : d + 1 ≤ 1000000) (hcls : (b.toNat : Int) < 2 ∨ 8 < (b.toNat : Int)) :
    Calls Try.prog 32 #[.pointer (some ⟨g, 0, none⟩), .int .i64 ((d + 1 : Nat) : Int)] w (ReadZ w g S (d + 1) (some (b :: l))) := by
  have hg := h.lt
  unfold ReadZ
  rw [rs_other hcls]
  have hu := b.toNat_lt
  have KR := KB.new w 24 #[.int .i64 0, .string ⟨#[]⟩, .int .i64 0, .int .i64 0, .slice none 0 0]
  have G := grown_of_below ((Below.refl w.heap.size w).alloc (Nat.le_refl _) (.cells #[.int .i64 0, .string ⟨#[]⟩, .int .i64 0, .int .i64 0, .slice none 0 0] 24)) (some g)
  have ht := rtake_to 1 g S _ _ (some l) [b] (zRR_alloc h (.cells #[.int .i64 0, .string ⟨#[]⟩, .int .i64 0, .int .i64 0, .slice none 0 0] 24)) (by simp; omega) (zpassed_cons b l)
  have W2 : wrap64 (b.toNat : Int) = (b.toNat : Int) := IntWalk.wrap64_in _ (by omega)
  have g1 : decide (((d + 1 : Nat) : Int) < 1) = false := decide_eq_false (by omega)
  have hne : ¬ w.heap.size = g := by omega
  have hne2 : ¬ g = w.heap.size := by omega
  have hSg : ¬ S w.heap.size := fun h => Nat.lt_irrefl _ (hS _ h)
  have hI : I64 (b.toNat : Int) := by unfold I64; omega
  generalize hk : (b.toNat : Int) = k at *
  have HNM : Hid (∀ W : World, Calls Try.prog 42 #[.int .i64 k] W fun e w' => e = .returned (.bool false) ∧ w' = W) := fun W => by
    have := znamed_any k W
    rwa [show namedS k = false from decide_eq_false (by omega)] at this
  have HMM : Hid (∀ W : World, Calls Try.prog 37 #[.int .i64 k] W fun e w' => e = .returned (.bool false) ∧ w' = W) := fun W => by
    have := zmany_any k W
    rwa [show manyS k = false from decide_eq_false (by omega)] at this
  have E5 : (k == 5) = false := beq_eq_false_iff_ne.2 (by omega)
  have E8 : (k == 8) = false := beq_eq_false_iff_ne.2 (by omega)
  clear hcls
  go_enter Try.func32, Try.ntmps32
  go_wp2_with fail
  refine ht.mono ?_
  rintro e w1 ⟨A, c, rfl, hr1, hb1, hg1⟩
  have K1 := KR.grown hg1 (by simp; omega)
  have G1 := grown_trans G hg1
  obtain ⟨q1, q2⟩ := hr1.good
  have hbyte : ∃ bb oo, A = some ⟨bb, oo, none⟩ ∧ w1.cell? ⟨bb, oo, none⟩ = some (.int .u8 k) := by
    obtain ⟨bb, oo, e1, _, _, hx⟩ := hb1.at_ (by simp)
    exact ⟨bb, oo, e1, by have := hx 0 b rfl; rw [← hk]; simpa using this⟩
  obtain ⟨bb, oo, rfl, hcell⟩ := hbyte
  clear ht KR G hb1
  have hw1 : w.heap.size + 1 ≤ w1.heap.size := by have := hg1.size; simpa using this
  have K6 := KB.new w1 24 #[.int .i64 k, .string ⟨#[]⟩, .int .i64 0, .int .i64 0, .slice none 0 0]
  have K4 := K1.alloc (.cells #[.int .i64 k, .string ⟨#[]⟩, .int .i64 0, .int .i64 0, .slice none 0 0] 24)
  have R2 := zRR_alloc hr1 (.cells #[.int .i64 k, .string ⟨#[]⟩, .int .i64 0, .int .i64 0, .slice none 0 0] 24)
  have G2 := grown_trans G1 (grown_of_below ((Below.refl w1.heap.size w1).alloc (Nat.le_refl _) (.cells #[.int .i64 k, .string ⟨#[]⟩, .int .i64 0, .int .i64 0, .slice none 0 0] 24)) (some g))
  clear K1 hr1 G1
  go_wp2_with fail
  generalize hw2 : w1.alloc (.cells #[.int .i64 k, .string ⟨#[]⟩, .int .i64 0, .int .i64 0, .slice none 0 0] 24) = w2 at *
  have p0 : w2.cell? ⟨w1.heap.size, 0, none⟩ = some (.int .i64 k) := K6.cell 0
  refine (HNM.out _).mono ?_
  rintro e w2 ⟨rfl, rfl⟩
  clear hw2 q1 q2 hcell
  go_wp2_with fail
  refine (HMM.out _).mono ?_
  rintro e w9 ⟨rfl, rfl⟩
  clear HNM HMM
  go_wp2_with fail
  go_loopw [8] (fun iv wr => iv = .int .i64 0 ∧ RR wr g S (some l) ∧ KB wr w.heap.size 24 #[.int .i64 0, .string ⟨#[]⟩, .int .i64 0, .int .i64 0, .slice none 0 0] ∧ KB wr w1.heap.size 24 #[.int .i64 k, .string ⟨#[]⟩, .int .i64 0, .int .i64 0, .slice none 0 0] ∧ w.grownBy wr (some g)) (fun iv _ => 0)
  case atStart => exact ⟨rfl, R2, K4, K6, G2⟩
  case round =>
    clear R2 K4 K6 G2
    obtain ⟨rfl, R, L4, L6, G⟩ := hrel
    have c60 : wr.cell? ⟨w1.heap.size, 0, none⟩ = some (.int .i64 k) := L6.cell 0
    have c61 : wr.cell? ⟨w1.heap.size, 1, none⟩ = some (.string ⟨#[]⟩) := L6.cell 1
    have c62 : wr.cell? ⟨w1.heap.size, 2, none⟩ = some (.int .i64 0) := L6.cell 2
    have c63 : wr.cell? ⟨w1.heap.size, 3, none⟩ = some (.int .i64 0) := L6.cell 3
    have c64 : wr.cell? ⟨w1.heap.size, 4, none⟩ = some (.slice none 0 0) := L6.cell 4
    have c40 : wr.cell? ⟨w.heap.size, 0, none⟩ = some (.int .i64 0) := L4.cell 0
    have c41 : wr.cell? ⟨w.heap.size, 1, none⟩ = some (.string ⟨#[]⟩) := L4.cell 1
    have c42 : wr.cell? ⟨w.heap.size, 2, none⟩ = some (.int .i64 0) := L4.cell 2
    have c43 : wr.cell? ⟨w.heap.size, 3, none⟩ = some (.int .i64 0) := L4.cell 3
    have c44 : wr.cell? ⟨w.heap.size, 4, none⟩ = some (.slice none 0 0) := L4.cell 4
    have f40 := L4.free 0
    have f41 := L4.free 1
    have f42 := L4.free 2
    have f43 := L4.free 3
    have f44 := L4.free 4
    go_wp2_with fail
    refine bodyPost_ret (results_cell_row (P := Try.prog) rfl _ _ w.heap.size _ _ (0, 0) _ rfl (zput_five L4) Try.underlying24 rfl (by kernel_rfl)) rfl
      ⟨_, rfl, zRR_far (zRR_far (zRR_far (zRR_far (zRR_far R hne hSg) hne hSg) hne hSg) hne hSg) hne hSg, zread_ZV (nm := []) hI (by unfold maxLen; simp) (by unfold I64; omega) (by unfold I64; omega) (World.ownsRow_nil _ _ _ _ : wr.ownsRow (w1.heap.size + 1) 24 5 (.slice none 0 0) ([] : List QuZ).length (flatZ [])) (QZ.nil _ _ _) (by omega) (zsets_size _ _ _ _ _ _ _) (fun b hb => zsets_block _ _ _ _ _ _ _ _ (by omega)), zgrown_new G (zgrown_five _ _ _ _ _ _ _) (Nat.le_refl _)⟩
end
end Go.Proofs.Ytcbkokhjdleoeaa
