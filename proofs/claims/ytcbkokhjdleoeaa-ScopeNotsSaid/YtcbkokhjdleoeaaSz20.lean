/-
  SdOn: The program's read (layer 20), over the loaded program: of a case, a subject, a class. No condition but the sizes that it names.
  SdOt: The program's read (layer 20), over the loaded program: of a time. No condition but the sizes that it names.
-/
import Derived.Test.YtcbkokhjdleoeaaSz19
import Derived.Test.YtcbkokhjdleoeaaSz01
set_option linter.unusedVariables false
set_option maxRecDepth 100000
namespace Go.Proofs.Ytcbkokhjdleoeaa
section
open Go.RowKit
set_option maxHeartbeats 8000000 in
theorem zpread_named (S : Nat → Prop) (g p d : Nat) (hgp : g ≠ p) (hSp : ¬ S p) (b : UInt8) (l : List UInt8) (n : Nat) (w : World) (h : RD w g S (some (b :: l))) (hp : KB w p 3 #[.int .i64 (n : Int)]) (hS : ∀ b, S b → b < w.heap.size) (hn : ¬ 24 ≤ n) (hl : l.length + 1 ≤ 1000000) (hk : d + 1 ≤ 8) (hcls : (b.toNat : Int) = 2 ∨ (b.toNat : Int) = 3 ∨ (b.toNat : Int) = 4) :
    Calls Try.prog 28 #[.pointer (some ⟨g, 0, none⟩), .int .i64 (9 - ((d + 1 : Nat) : Int)), .pointer (some ⟨p, 0, none⟩)] w (ReadP w g p S (d + 1) (readB (d + 1) (some (b :: l)) n)) := by
  rw [rb_named hn hcls]
  have hgl := h.lt
  have hpl := hp.lt
  have hu := b.toNat_lt
  have KR := KB.new w 24 #[.int .i64 0, .string ⟨#[]⟩, .int .i64 0, .int .i64 0, .slice none 0 0]
  have k0 := KeepP.alloc (P := KeepRC w g p) w (.cells #[.int .i64 0, .string ⟨#[]⟩, .int .i64 0, .int .i64 0, .slice none 0 0] 24) KeepRC.lt
  have ht := take_rd 1 g S (some (b :: l)) _ (h.alloc (.cells #[.int .i64 0, .string ⟨#[]⟩, .int .i64 0, .int .i64 0, .slice none 0 0] 24)) (by simp; omega)
  rw [zpassed_cons] at ht
  have hp1 := hp.alloc (.cells #[.int .i64 0, .string ⟨#[]⟩, .int .i64 0, .int .i64 0, .slice none 0 0] 24)
  have W2 : wrap64 (b.toNat : Int) = (b.toNat : Int) := IntWalk.wrap64_in _ (by omega)
  have hI : I64 (b.toNat : Int) := by unfold I64; omega
  have hSw : ¬ S w.heap.size := fun h => Nat.lt_irrefl _ (hS _ h)
  obtain ⟨dp, hdp⟩ : ∃ dp : Int, dp = 9 - ((d + 1 : Nat) : Int) := ⟨_, rfl⟩
  rw [← hdp]
  have hd1 : 1 ≤ dp := by omega
  have hd2 : dp ≤ 8 := by omega
  have HDP := Lib.hid hdp
  clear hdp
  have hrt := fun (w2 : World) (R2 : RD w2 g S (some l)) => text_some 16 (by omega) g S (some l) w2 R2 (by simp; omega)
  have hfew : (txtOf 16 (some l)).2.length ≤ 1000000 := by have := ztxt_few 16 (some l); simp at this; omega
  generalize txtOf 16 (some l) = nn at *
  obtain ⟨s0, nm⟩ := nn
  dsimp only at hrt hfew ⊢
  obtain ⟨Q, hQ⟩ : ∃ Q, Q = ReadP w g p S (d + 1) (some (s0, n + 1, (⟨(b.toNat : Int), nm, 0, 0, []⟩ : Ns (Sc (d + 1))))) := ⟨_, rfl⟩
  rw [← hQ]
  have HQ := Lib.hid hQ
  clear hQ
  go_enter Try.func28, Try.ntmps28
  go_wp2_with fail
  refine ht.mono ?_
  rintro e w1 ⟨v1, rfl, r1, how, g1⟩
  have k1 := k0.grown g1 KeepRC.rows.1 KeepRC.lt
  have K1 := KR.grown g1 (by simp; omega)
  have p1 := hp1.grown g1 (by simp; omega)
  have s1 : w.heap.size + 1 ≤ w1.heap.size := by have := g1.size; simpa using this
  obtain ⟨A, c, rfl⟩ := zown_form how
  have hwi := zwithin_any p n dp w1 (by omega) (by omega) p1
  rw [decide_eq_true (show (n : Int) + 1 ≤ 24 ∧ dp ≤ 8 from ⟨by omega, hd2⟩)] at hwi
  clear ht KR k0 hp1 h hp g1
  go_wp2_with fail
  refine hwi.mono ?_
  rintro e w2 ⟨rfl, p2, g2⟩
  have k2 := k1.grown g2 KeepRC.rows.2 KeepRC.lt
  have K2 := K1.grown g2 (by simp; omega)
  have r2 := r1.grownP g2 hgp hSp
  have s2 : w.heap.size + 1 ≤ w2.heap.size := Nat.le_trans s1 g2.size
  have how2 := zown_grown how g2 (by simp; omega)
  have hbyte : ∃ bb oo, A = some ⟨bb, oo, none⟩ ∧ bb < w2.heap.size ∧ w2.cell? ⟨bb, oo, none⟩ = some (.int .u8 (b.toNat : Int)) := by
    obtain ⟨bb, oo, e1, _, hb, hx⟩ := (own_BS how2).at_ (by simp)
    exact ⟨bb, oo, e1, hb, by have := hx 0 b rfl; simpa using this⟩
  obtain ⟨bb, oo, rfl, hbb, hcell⟩ := hbyte
  clear hwi k1 K1 p1 r1 how how2 g2 s1
  generalize hk0 : (b.toNat : Int) = k at *
  have K6 := KB.new w2 24 #[.int .i64 k, .string ⟨#[]⟩, .int .i64 0, .int .i64 0, .slice none 0 0]
  have K4 := K2.alloc (.cells #[.int .i64 k, .string ⟨#[]⟩, .int .i64 0, .int .i64 0, .slice none 0 0] 24)
  have R2 := r2.alloc (.cells #[.int .i64 k, .string ⟨#[]⟩, .int .i64 0, .int .i64 0, .slice none 0 0] 24)
  have P2 := p2.alloc (.cells #[.int .i64 k, .string ⟨#[]⟩, .int .i64 0, .int .i64 0, .slice none 0 0] 24)
  have P2 : KB (w2.alloc (.cells #[.int .i64 k, .string ⟨#[]⟩, .int .i64 0, .int .i64 0, .slice none 0 0] 24)) p 3 #[.int .i64 ((n + 1 : Nat) : Int)] := by rw [show ((n + 1 : Nat) : Int) = (n : Int) + 1 from by omega]; exact P2
  have H2 := k2.new (.cells #[.int .i64 k, .string ⟨#[]⟩, .int .i64 0, .int .i64 0, .slice none 0 0] 24) KeepRC.lt
  clear K2 r2 p2 k2
  have E5 : (k == 5) = false := beq_eq_false_iff_ne.2 (by omega)
  rcases hcls with rfl | rfl | rfl
  · have HI := Lib.hid hI
    clear hI
    go_wp2_with fail
    refine (hrt _ R2).mono ?_
    rintro e w3 ⟨v3, rfl, R3, o3, G3⟩
    have x3 := own_BS o3
    have hcv := x3.str (P := Try.prog) Try.underlying27 Try.underlying5 Try.underlying9
    obtain ⟨A3, c3, rfl, _⟩ := x3.form
    have K6b := K6.grown G3 (by simp; omega)
    have K4b := K4.grown G3 (by simp; omega)
    have P3 := P2.grown G3 (by simp; omega)
    have H3 := H2.grown G3 KeepRC.rows.1 KeepRC.lt
    have hs3 : w2.heap.size + 1 ≤ w3.heap.size := by have := G3.size; simpa using this
    have p1 : w3.cell? ⟨w2.heap.size, 1, none⟩ = some (.string ⟨#[]⟩) := K6b.cell 1
    have f1 := K6b.free 1
    have K6c := K6b.put 1 (strV nm)
    have K4c := zKB_far (h := w2.heap.size) (i := 1) (v := strV nm) K4b (by omega)
    have R4 := R3.far (h := w2.heap.size) (i := 1) (u := strV nm) (by omega) (fun h => by have := hS _ h; omega)
    have P4 := zKB_far (h := w2.heap.size) (i := 1) (v := strV nm) P3 (by omega)
    have H4 := H3.set ⟨w2.heap.size, 1, none⟩ (KeepRC.new (by dsimp only; omega)) (strV nm)
    clear hrt K6 K4 R2 G3 K6b K4b R3 P2 P3 H2 H3 o3 x3
    have hI := HI.out
    have hf := zpread_end (d := d) (ks := []) (nm := nm) (fr := 0) (to_ := 0) hgl hpl hS H4 R4 P4 hI (by unfold maxLen; omega) (by unfold I64; omega) (by unfold I64; omega) (World.ownsRow_nil _ _ _ _ : (w3.setCell ⟨w2.heap.size, 1, none⟩ (strV nm)).ownsRow (w2.heap.size + 1) 24 5 (.slice none 0 0) ([] : List QuZ).length (flatZ [])) (QZ.nil _ _ _) (by omega) (.int .i64 2) (strV nm) (.int .i64 0) (.int .i64 0) (.slice none 0 0)
    rw [← HQ.out] at hf
    have HF := Lib.hid hf
    clear hf HQ R4 P4 H4
    unfold strV at *
    have c60 : (w3.setCell ⟨w2.heap.size, 1, none⟩ (.string ⟨nm.toArray⟩)).cell? ⟨w2.heap.size, 0, none⟩ = some (.int .i64 2) := K6c.cell 0
    have c61 : (w3.setCell ⟨w2.heap.size, 1, none⟩ (.string ⟨nm.toArray⟩)).cell? ⟨w2.heap.size, 1, none⟩ = some (.string ⟨nm.toArray⟩) := K6c.cell 1
    have c62 : (w3.setCell ⟨w2.heap.size, 1, none⟩ (.string ⟨nm.toArray⟩)).cell? ⟨w2.heap.size, 2, none⟩ = some (.int .i64 0) := K6c.cell 2
    have c63 : (w3.setCell ⟨w2.heap.size, 1, none⟩ (.string ⟨nm.toArray⟩)).cell? ⟨w2.heap.size, 3, none⟩ = some (.int .i64 0) := K6c.cell 3
    have c64 : (w3.setCell ⟨w2.heap.size, 1, none⟩ (.string ⟨nm.toArray⟩)).cell? ⟨w2.heap.size, 4, none⟩ = some (.slice none 0 0) := K6c.cell 4
    have c40 : (w3.setCell ⟨w2.heap.size, 1, none⟩ (.string ⟨nm.toArray⟩)).cell? ⟨w.heap.size, 0, none⟩ = some (.int .i64 0) := K4c.cell 0
    have c41 : (w3.setCell ⟨w2.heap.size, 1, none⟩ (.string ⟨nm.toArray⟩)).cell? ⟨w.heap.size, 1, none⟩ = some (.string ⟨#[]⟩) := K4c.cell 1
    have c42 : (w3.setCell ⟨w2.heap.size, 1, none⟩ (.string ⟨nm.toArray⟩)).cell? ⟨w.heap.size, 2, none⟩ = some (.int .i64 0) := K4c.cell 2
    have c43 : (w3.setCell ⟨w2.heap.size, 1, none⟩ (.string ⟨nm.toArray⟩)).cell? ⟨w.heap.size, 3, none⟩ = some (.int .i64 0) := K4c.cell 3
    have c44 : (w3.setCell ⟨w2.heap.size, 1, none⟩ (.string ⟨nm.toArray⟩)).cell? ⟨w.heap.size, 4, none⟩ = some (.slice none 0 0) := K4c.cell 4
    have f40 := K4c.free 0
    have f41 := K4c.free 1
    have f42 := K4c.free 2
    have f43 := K4c.free 3
    have f44 := K4c.free 4
    generalize (⟨nm.toArray⟩ : ByteArray) = s at *
    go_wp2_with fail
    exact bodyPost_ret (results_cell_tmp (P := Try.prog) (p := 6) (u := 7) rfl _ _ w.heap.size _ _ (0, 0) _ rfl (zput_five K4c) Try.underlying24 rfl (by kernel_rfl)) rfl HF.out
  · have HI := Lib.hid hI
    clear hI
    go_wp2_with fail
    refine (hrt _ R2).mono ?_
    rintro e w3 ⟨v3, rfl, R3, o3, G3⟩
    have x3 := own_BS o3
    have hcv := x3.str (P := Try.prog) Try.underlying27 Try.underlying5 Try.underlying9
    obtain ⟨A3, c3, rfl, _⟩ := x3.form
    have K6b := K6.grown G3 (by simp; omega)
    have K4b := K4.grown G3 (by simp; omega)
    have P3 := P2.grown G3 (by simp; omega)
    have H3 := H2.grown G3 KeepRC.rows.1 KeepRC.lt
    have hs3 : w2.heap.size + 1 ≤ w3.heap.size := by have := G3.size; simpa using this
    have p1 : w3.cell? ⟨w2.heap.size, 1, none⟩ = some (.string ⟨#[]⟩) := K6b.cell 1
    have f1 := K6b.free 1
    have K6c := K6b.put 1 (strV nm)
    have K4c := zKB_far (h := w2.heap.size) (i := 1) (v := strV nm) K4b (by omega)
    have R4 := R3.far (h := w2.heap.size) (i := 1) (u := strV nm) (by omega) (fun h => by have := hS _ h; omega)
    have P4 := zKB_far (h := w2.heap.size) (i := 1) (v := strV nm) P3 (by omega)
    have H4 := H3.set ⟨w2.heap.size, 1, none⟩ (KeepRC.new (by dsimp only; omega)) (strV nm)
    clear hrt K6 K4 R2 G3 K6b K4b R3 P2 P3 H2 H3 o3 x3
    have hI := HI.out
    have hf := zpread_end (d := d) (ks := []) (nm := nm) (fr := 0) (to_ := 0) hgl hpl hS H4 R4 P4 hI (by unfold maxLen; omega) (by unfold I64; omega) (by unfold I64; omega) (World.ownsRow_nil _ _ _ _ : (w3.setCell ⟨w2.heap.size, 1, none⟩ (strV nm)).ownsRow (w2.heap.size + 1) 24 5 (.slice none 0 0) ([] : List QuZ).length (flatZ [])) (QZ.nil _ _ _) (by omega) (.int .i64 3) (strV nm) (.int .i64 0) (.int .i64 0) (.slice none 0 0)
    rw [← HQ.out] at hf
    have HF := Lib.hid hf
    clear hf HQ R4 P4 H4
    unfold strV at *
    have c60 : (w3.setCell ⟨w2.heap.size, 1, none⟩ (.string ⟨nm.toArray⟩)).cell? ⟨w2.heap.size, 0, none⟩ = some (.int .i64 3) := K6c.cell 0
    have c61 : (w3.setCell ⟨w2.heap.size, 1, none⟩ (.string ⟨nm.toArray⟩)).cell? ⟨w2.heap.size, 1, none⟩ = some (.string ⟨nm.toArray⟩) := K6c.cell 1
    have c62 : (w3.setCell ⟨w2.heap.size, 1, none⟩ (.string ⟨nm.toArray⟩)).cell? ⟨w2.heap.size, 2, none⟩ = some (.int .i64 0) := K6c.cell 2
    have c63 : (w3.setCell ⟨w2.heap.size, 1, none⟩ (.string ⟨nm.toArray⟩)).cell? ⟨w2.heap.size, 3, none⟩ = some (.int .i64 0) := K6c.cell 3
    have c64 : (w3.setCell ⟨w2.heap.size, 1, none⟩ (.string ⟨nm.toArray⟩)).cell? ⟨w2.heap.size, 4, none⟩ = some (.slice none 0 0) := K6c.cell 4
    have c40 : (w3.setCell ⟨w2.heap.size, 1, none⟩ (.string ⟨nm.toArray⟩)).cell? ⟨w.heap.size, 0, none⟩ = some (.int .i64 0) := K4c.cell 0
    have c41 : (w3.setCell ⟨w2.heap.size, 1, none⟩ (.string ⟨nm.toArray⟩)).cell? ⟨w.heap.size, 1, none⟩ = some (.string ⟨#[]⟩) := K4c.cell 1
    have c42 : (w3.setCell ⟨w2.heap.size, 1, none⟩ (.string ⟨nm.toArray⟩)).cell? ⟨w.heap.size, 2, none⟩ = some (.int .i64 0) := K4c.cell 2
    have c43 : (w3.setCell ⟨w2.heap.size, 1, none⟩ (.string ⟨nm.toArray⟩)).cell? ⟨w.heap.size, 3, none⟩ = some (.int .i64 0) := K4c.cell 3
    have c44 : (w3.setCell ⟨w2.heap.size, 1, none⟩ (.string ⟨nm.toArray⟩)).cell? ⟨w.heap.size, 4, none⟩ = some (.slice none 0 0) := K4c.cell 4
    have f40 := K4c.free 0
    have f41 := K4c.free 1
    have f42 := K4c.free 2
    have f43 := K4c.free 3
    have f44 := K4c.free 4
    generalize (⟨nm.toArray⟩ : ByteArray) = s at *
    go_wp2_with fail
    exact bodyPost_ret (results_cell_tmp (P := Try.prog) (p := 6) (u := 7) rfl _ _ w.heap.size _ _ (0, 0) _ rfl (zput_five K4c) Try.underlying24 rfl (by kernel_rfl)) rfl HF.out
  · have HI := Lib.hid hI
    clear hI
    go_wp2_with fail
    refine (hrt _ R2).mono ?_
    rintro e w3 ⟨v3, rfl, R3, o3, G3⟩
    have x3 := own_BS o3
    have hcv := x3.str (P := Try.prog) Try.underlying27 Try.underlying5 Try.underlying9
    obtain ⟨A3, c3, rfl, _⟩ := x3.form
    have K6b := K6.grown G3 (by simp; omega)
    have K4b := K4.grown G3 (by simp; omega)
    have P3 := P2.grown G3 (by simp; omega)
    have H3 := H2.grown G3 KeepRC.rows.1 KeepRC.lt
    have hs3 : w2.heap.size + 1 ≤ w3.heap.size := by have := G3.size; simpa using this
    have p1 : w3.cell? ⟨w2.heap.size, 1, none⟩ = some (.string ⟨#[]⟩) := K6b.cell 1
    have f1 := K6b.free 1
    have K6c := K6b.put 1 (strV nm)
    have K4c := zKB_far (h := w2.heap.size) (i := 1) (v := strV nm) K4b (by omega)
    have R4 := R3.far (h := w2.heap.size) (i := 1) (u := strV nm) (by omega) (fun h => by have := hS _ h; omega)
    have P4 := zKB_far (h := w2.heap.size) (i := 1) (v := strV nm) P3 (by omega)
    have H4 := H3.set ⟨w2.heap.size, 1, none⟩ (KeepRC.new (by dsimp only; omega)) (strV nm)
    clear hrt K6 K4 R2 G3 K6b K4b R3 P2 P3 H2 H3 o3 x3
    have hI := HI.out
    have hf := zpread_end (d := d) (ks := []) (nm := nm) (fr := 0) (to_ := 0) hgl hpl hS H4 R4 P4 hI (by unfold maxLen; omega) (by unfold I64; omega) (by unfold I64; omega) (World.ownsRow_nil _ _ _ _ : (w3.setCell ⟨w2.heap.size, 1, none⟩ (strV nm)).ownsRow (w2.heap.size + 1) 24 5 (.slice none 0 0) ([] : List QuZ).length (flatZ [])) (QZ.nil _ _ _) (by omega) (.int .i64 4) (strV nm) (.int .i64 0) (.int .i64 0) (.slice none 0 0)
    rw [← HQ.out] at hf
    have HF := Lib.hid hf
    clear hf HQ R4 P4 H4
    unfold strV at *
    have c60 : (w3.setCell ⟨w2.heap.size, 1, none⟩ (.string ⟨nm.toArray⟩)).cell? ⟨w2.heap.size, 0, none⟩ = some (.int .i64 4) := K6c.cell 0
    have c61 : (w3.setCell ⟨w2.heap.size, 1, none⟩ (.string ⟨nm.toArray⟩)).cell? ⟨w2.heap.size, 1, none⟩ = some (.string ⟨nm.toArray⟩) := K6c.cell 1
    have c62 : (w3.setCell ⟨w2.heap.size, 1, none⟩ (.string ⟨nm.toArray⟩)).cell? ⟨w2.heap.size, 2, none⟩ = some (.int .i64 0) := K6c.cell 2
    have c63 : (w3.setCell ⟨w2.heap.size, 1, none⟩ (.string ⟨nm.toArray⟩)).cell? ⟨w2.heap.size, 3, none⟩ = some (.int .i64 0) := K6c.cell 3
    have c64 : (w3.setCell ⟨w2.heap.size, 1, none⟩ (.string ⟨nm.toArray⟩)).cell? ⟨w2.heap.size, 4, none⟩ = some (.slice none 0 0) := K6c.cell 4
    have c40 : (w3.setCell ⟨w2.heap.size, 1, none⟩ (.string ⟨nm.toArray⟩)).cell? ⟨w.heap.size, 0, none⟩ = some (.int .i64 0) := K4c.cell 0
    have c41 : (w3.setCell ⟨w2.heap.size, 1, none⟩ (.string ⟨nm.toArray⟩)).cell? ⟨w.heap.size, 1, none⟩ = some (.string ⟨#[]⟩) := K4c.cell 1
    have c42 : (w3.setCell ⟨w2.heap.size, 1, none⟩ (.string ⟨nm.toArray⟩)).cell? ⟨w.heap.size, 2, none⟩ = some (.int .i64 0) := K4c.cell 2
    have c43 : (w3.setCell ⟨w2.heap.size, 1, none⟩ (.string ⟨nm.toArray⟩)).cell? ⟨w.heap.size, 3, none⟩ = some (.int .i64 0) := K4c.cell 3
    have c44 : (w3.setCell ⟨w2.heap.size, 1, none⟩ (.string ⟨nm.toArray⟩)).cell? ⟨w.heap.size, 4, none⟩ = some (.slice none 0 0) := K4c.cell 4
    have f40 := K4c.free 0
    have f41 := K4c.free 1
    have f42 := K4c.free 2
    have f43 := K4c.free 3
    have f44 := K4c.free 4
    generalize (⟨nm.toArray⟩ : ByteArray) = s at *
    go_wp2_with fail
    exact bodyPost_ret (results_cell_tmp (P := Try.prog) (p := 6) (u := 7) rfl _ _ w.heap.size _ _ (0, 0) _ rfl (zput_five K4c) Try.underlying24 rfl (by kernel_rfl)) rfl HF.out
end
section
open Go.RowKit
set_option maxHeartbeats 8000000 in
theorem zpread_time (S : Nat → Prop) (g p d : Nat) (hgp : g ≠ p) (hSp : ¬ S p) (b : UInt8) (l : List UInt8) (n : Nat) (w : World) (h : RD w g S (some (b :: l))) (hp : KB w p 3 #[.int .i64 (n : Int)]) (hS : ∀ b, S b → b < w.heap.size) (hn : ¬ 24 ≤ n) (hl : l.length + 1 ≤ 1000000) (hk : d + 1 ≤ 8) (hcls : (b.toNat : Int) = 5) :
    Calls Try.prog 28 #[.pointer (some ⟨g, 0, none⟩), .int .i64 (9 - ((d + 1 : Nat) : Int)), .pointer (some ⟨p, 0, none⟩)] w (ReadP w g p S (d + 1) (readB (d + 1) (some (b :: l)) n)) := by
  rw [rb_time hn hcls]
  have hgl := h.lt
  have hpl := hp.lt
  have hu := b.toNat_lt
  have KR := KB.new w 24 #[.int .i64 0, .string ⟨#[]⟩, .int .i64 0, .int .i64 0, .slice none 0 0]
  have k0 := KeepP.alloc (P := KeepRC w g p) w (.cells #[.int .i64 0, .string ⟨#[]⟩, .int .i64 0, .int .i64 0, .slice none 0 0] 24) KeepRC.lt
  have ht := take_rd 1 g S (some (b :: l)) _ (h.alloc (.cells #[.int .i64 0, .string ⟨#[]⟩, .int .i64 0, .int .i64 0, .slice none 0 0] 24)) (by simp; omega)
  rw [zpassed_cons] at ht
  have hp1 := hp.alloc (.cells #[.int .i64 0, .string ⟨#[]⟩, .int .i64 0, .int .i64 0, .slice none 0 0] 24)
  have W2 : wrap64 (b.toNat : Int) = (b.toNat : Int) := IntWalk.wrap64_in _ (by omega)
  have hI : I64 (b.toNat : Int) := by unfold I64; omega
  have hSw : ¬ S w.heap.size := fun h => Nat.lt_irrefl _ (hS _ h)
  obtain ⟨dp, hdp⟩ : ∃ dp : Int, dp = 9 - ((d + 1 : Nat) : Int) := ⟨_, rfl⟩
  rw [← hdp]
  have hd1 : 1 ≤ dp := by omega
  have hd2 : dp ≤ 8 := by omega
  have HDP := Lib.hid hdp
  clear hdp
  have hr1 := fun (w2 : World) (R2 : RD w2 g S (some l)) => count_some 1099511627776 (by omega) g S (some l) w2 R2
  have m1 := zcnt_most 1099511627776 (some l) (by omega)
  generalize cntOf 1099511627776 (some l) = nn at *
  obtain ⟨s0, n1⟩ := nn
  dsimp only at hr1 m1 ⊢
  have hr2 := fun (w2 : World) (R2 : RD w2 g S s0) => count_some 1099511627776 (by omega) g S s0 w2 R2
  have m2 := zcnt_most 1099511627776 s0 (by omega)
  generalize cntOf 1099511627776 s0 = mm at *
  obtain ⟨s9, n2⟩ := mm
  dsimp only at hr2 m2 ⊢
  obtain ⟨Q, hQ⟩ : ∃ Q, Q = ReadP w g p S (d + 1) (some (s9, n + 1, (⟨5, [], (n1 : Int), (n2 : Int), []⟩ : Ns (Sc (d + 1))))) := ⟨_, rfl⟩
  rw [← hQ]
  have HQ := Lib.hid hQ
  clear hQ
  go_enter Try.func28, Try.ntmps28
  go_wp2_with fail
  refine ht.mono ?_
  rintro e w1 ⟨v1, rfl, r1, how, g1⟩
  have k1 := k0.grown g1 KeepRC.rows.1 KeepRC.lt
  have K1 := KR.grown g1 (by simp; omega)
  have p1 := hp1.grown g1 (by simp; omega)
  have s1 : w.heap.size + 1 ≤ w1.heap.size := by have := g1.size; simpa using this
  obtain ⟨A, c, rfl⟩ := zown_form how
  have hwi := zwithin_any p n dp w1 (by omega) (by omega) p1
  rw [decide_eq_true (show (n : Int) + 1 ≤ 24 ∧ dp ≤ 8 from ⟨by omega, hd2⟩)] at hwi
  clear ht KR k0 hp1 h hp g1
  go_wp2_with fail
  refine hwi.mono ?_
  rintro e w2 ⟨rfl, p2, g2⟩
  have k2 := k1.grown g2 KeepRC.rows.2 KeepRC.lt
  have K2 := K1.grown g2 (by simp; omega)
  have r2 := r1.grownP g2 hgp hSp
  have s2 : w.heap.size + 1 ≤ w2.heap.size := Nat.le_trans s1 g2.size
  have how2 := zown_grown how g2 (by simp; omega)
  have hbyte : ∃ bb oo, A = some ⟨bb, oo, none⟩ ∧ bb < w2.heap.size ∧ w2.cell? ⟨bb, oo, none⟩ = some (.int .u8 (b.toNat : Int)) := by
    obtain ⟨bb, oo, e1, _, hb, hx⟩ := (own_BS how2).at_ (by simp)
    exact ⟨bb, oo, e1, hb, by have := hx 0 b rfl; simpa using this⟩
  obtain ⟨bb, oo, rfl, hbb, hcell⟩ := hbyte
  clear hwi k1 K1 p1 r1 how how2 g2 s1
  generalize hk0 : (b.toNat : Int) = k at *
  have K6 := KB.new w2 24 #[.int .i64 k, .string ⟨#[]⟩, .int .i64 0, .int .i64 0, .slice none 0 0]
  have K4 := K2.alloc (.cells #[.int .i64 k, .string ⟨#[]⟩, .int .i64 0, .int .i64 0, .slice none 0 0] 24)
  have R2 := r2.alloc (.cells #[.int .i64 k, .string ⟨#[]⟩, .int .i64 0, .int .i64 0, .slice none 0 0] 24)
  have P2 := p2.alloc (.cells #[.int .i64 k, .string ⟨#[]⟩, .int .i64 0, .int .i64 0, .slice none 0 0] 24)
  have P2 : KB (w2.alloc (.cells #[.int .i64 k, .string ⟨#[]⟩, .int .i64 0, .int .i64 0, .slice none 0 0] 24)) p 3 #[.int .i64 ((n + 1 : Nat) : Int)] := by rw [show ((n + 1 : Nat) : Int) = (n : Int) + 1 from by omega]; exact P2
  have H2 := k2.new (.cells #[.int .i64 k, .string ⟨#[]⟩, .int .i64 0, .int .i64 0, .slice none 0 0] 24) KeepRC.lt
  clear K2 r2 p2 k2
  subst hcls
  have HI := Lib.hid hI
  clear hI
  go_wp2_with fail
  refine (hr1 _ R2).mono ?_
  rintro e w3 ⟨rfl, R3, G3⟩
  have K6b := K6.grown G3 (by simp; omega)
  have K4b := K4.grown G3 (by simp; omega)
  have P3 := P2.grown G3 (by simp; omega)
  have H3 := H2.grown G3 KeepRC.rows.1 KeepRC.lt
  have hs3 : w2.heap.size + 1 ≤ w3.heap.size := by have := G3.size; simpa using this
  clear hr1 K6 K4 P2 H2 G3 R2
  go_wp2_with fail
  refine (hr2 _ R3).mono ?_
  rintro e w4 ⟨rfl, R4, G4⟩
  have K6c := K6b.grown G4 (by simp; omega)
  have K4c := K4b.grown G4 (by simp; omega)
  have P4 := P3.grown G4 (by simp; omega)
  have H4 := H3.grown G4 KeepRC.rows.1 KeepRC.lt
  have hs4 : w2.heap.size + 1 ≤ w4.heap.size := Nat.le_trans hs3 G4.size
  clear hr2 K6b K4b P3 H3 G4 R3
  have K6d := (K6c.put 2 (.int .i64 (n1 : Int))).put 3 (.int .i64 (n2 : Int))
  have K4d := zKB_far (h := w2.heap.size) (i := 3) (v := .int .i64 (n2 : Int)) (zKB_far (h := w2.heap.size) (i := 2) (v := .int .i64 (n1 : Int)) K4c (by omega)) (by omega)
  have P5 := zKB_far (h := w2.heap.size) (i := 3) (v := .int .i64 (n2 : Int)) (zKB_far (h := w2.heap.size) (i := 2) (v := .int .i64 (n1 : Int)) P4 (by omega)) (by omega)
  have R5 := (R4.far (h := w2.heap.size) (i := 2) (u := .int .i64 (n1 : Int)) (by omega) (fun h => by have := hS _ h; omega)).far (h := w2.heap.size) (i := 3) (u := .int .i64 (n2 : Int)) (by omega) (fun h => by have := hS _ h; omega)
  have H5 := (H4.set ⟨w2.heap.size, 2, none⟩ (KeepRC.new (by dsimp only; omega)) (.int .i64 (n1 : Int))).set ⟨w2.heap.size, 3, none⟩ (KeepRC.new (by dsimp only; omega)) (.int .i64 (n2 : Int))
  have hf := zpread_end (d := d) (ks := []) (nm := []) (fr := (n1 : Int)) (to_ := (n2 : Int)) hgl hpl hS H5 R5 P5 HI.out (by unfold maxLen; simp) (by unfold I64; omega) (by unfold I64; omega) (World.ownsRow_nil _ _ _ _ : ((w4.setCell ⟨w2.heap.size, 2, none⟩ (.int .i64 (n1 : Int))).setCell ⟨w2.heap.size, 3, none⟩ (.int .i64 (n2 : Int))).ownsRow (w2.heap.size + 1) 24 5 (.slice none 0 0) ([] : List QuZ).length (flatZ [])) (QZ.nil _ _ _) (by omega) (.int .i64 5) (.string ⟨#[]⟩) (.int .i64 (n1 : Int)) (.int .i64 (n2 : Int)) (.slice none 0 0)
  rw [← HQ.out] at hf
  have HF := Lib.hid hf
  clear hf HQ R5 P5 H5 R4 P4 H4
  have p2 : w4.cell? ⟨w2.heap.size, 2, none⟩ = some (.int .i64 0) := K6c.cell 2
  have p3 : w4.cell? ⟨w2.heap.size, 3, none⟩ = some (.int .i64 0) := K6c.cell 3
  have g2 := K6c.free 2
  have g3 := K6c.free 3
  have c60 : ((w4.setCell ⟨w2.heap.size, 2, none⟩ (.int .i64 (n1 : Int))).setCell ⟨w2.heap.size, 3, none⟩ (.int .i64 (n2 : Int))).cell? ⟨w2.heap.size, 0, none⟩ = some (.int .i64 5) := K6d.cell 0
  have c61 : ((w4.setCell ⟨w2.heap.size, 2, none⟩ (.int .i64 (n1 : Int))).setCell ⟨w2.heap.size, 3, none⟩ (.int .i64 (n2 : Int))).cell? ⟨w2.heap.size, 1, none⟩ = some (.string ⟨#[]⟩) := K6d.cell 1
  have c62 : ((w4.setCell ⟨w2.heap.size, 2, none⟩ (.int .i64 (n1 : Int))).setCell ⟨w2.heap.size, 3, none⟩ (.int .i64 (n2 : Int))).cell? ⟨w2.heap.size, 2, none⟩ = some (.int .i64 (n1 : Int)) := K6d.cell 2
  have c63 : ((w4.setCell ⟨w2.heap.size, 2, none⟩ (.int .i64 (n1 : Int))).setCell ⟨w2.heap.size, 3, none⟩ (.int .i64 (n2 : Int))).cell? ⟨w2.heap.size, 3, none⟩ = some (.int .i64 (n2 : Int)) := K6d.cell 3
  have c64 : ((w4.setCell ⟨w2.heap.size, 2, none⟩ (.int .i64 (n1 : Int))).setCell ⟨w2.heap.size, 3, none⟩ (.int .i64 (n2 : Int))).cell? ⟨w2.heap.size, 4, none⟩ = some (.slice none 0 0) := K6d.cell 4
  have c40 : ((w4.setCell ⟨w2.heap.size, 2, none⟩ (.int .i64 (n1 : Int))).setCell ⟨w2.heap.size, 3, none⟩ (.int .i64 (n2 : Int))).cell? ⟨w.heap.size, 0, none⟩ = some (.int .i64 0) := K4d.cell 0
  have c41 : ((w4.setCell ⟨w2.heap.size, 2, none⟩ (.int .i64 (n1 : Int))).setCell ⟨w2.heap.size, 3, none⟩ (.int .i64 (n2 : Int))).cell? ⟨w.heap.size, 1, none⟩ = some (.string ⟨#[]⟩) := K4d.cell 1
  have c42 : ((w4.setCell ⟨w2.heap.size, 2, none⟩ (.int .i64 (n1 : Int))).setCell ⟨w2.heap.size, 3, none⟩ (.int .i64 (n2 : Int))).cell? ⟨w.heap.size, 2, none⟩ = some (.int .i64 0) := K4d.cell 2
  have c43 : ((w4.setCell ⟨w2.heap.size, 2, none⟩ (.int .i64 (n1 : Int))).setCell ⟨w2.heap.size, 3, none⟩ (.int .i64 (n2 : Int))).cell? ⟨w.heap.size, 3, none⟩ = some (.int .i64 0) := K4d.cell 3
  have c44 : ((w4.setCell ⟨w2.heap.size, 2, none⟩ (.int .i64 (n1 : Int))).setCell ⟨w2.heap.size, 3, none⟩ (.int .i64 (n2 : Int))).cell? ⟨w.heap.size, 4, none⟩ = some (.slice none 0 0) := K4d.cell 4
  have f40 := K4d.free 0
  have f41 := K4d.free 1
  have f42 := K4d.free 2
  have f43 := K4d.free 3
  have f44 := K4d.free 4
  go_wp2_with fail
  exact bodyPost_ret (results_cell_tmp (P := Try.prog) (p := 6) (u := 7) rfl _ _ w.heap.size _ _ (0, 0) _ rfl (zput_five K4d) Try.underlying24 rfl (by kernel_rfl)) rfl HF.out
end
end Go.Proofs.Ytcbkokhjdleoeaa
