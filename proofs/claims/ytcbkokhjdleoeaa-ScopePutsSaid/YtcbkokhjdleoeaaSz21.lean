/-
  SdPm: The program's read (layer 20), over the loaded program: of some, of what does not. No condition but the sizes that it names.
-/
import Derived.Test.YtcbkokhjdleoeaaSz19
import Derived.Test.YtcbkokhjdleoeaaSz01
set_option linter.unusedVariables false
set_option maxRecDepth 100000
namespace Go.Proofs.Ytcbkokhjdleoeaa
section
open Go.RowKit
theorem RD.grownX {w w' : World} {g : Nat} {S : Nat → Prop} {st : Option (List UInt8)} {row : Option Nat} (h : RD w g S st) (hg : w.grownBy w' row) (hr : ∀ x, row = some x → x ≠ g ∧ ¬ S x) : RD w' g S st :=
  h.keep hg.size (hg.block g h.lt (fun e => (hr g e.symm).1 rfl)) fun b sb hb => hg.block b hb (fun e => (hr b e.symm).2 sb)
theorem KeepP.rc {w wr w5 : World} {g p : Nat} (h : KeepP (KeepRC w g p) w wr) (k : KeepP (KeepRC wr g p) wr w5) : KeepP (KeepRC w g p) w w5 :=
  h.trans (k.mono fun x hx => ⟨Nat.lt_of_lt_of_le hx.1 h.size, hx.2.1, hx.2.2⟩)
set_option maxHeartbeats 8000000 in
theorem zpread_many (S : Nat → Prop) (g p d : Nat) (hgp : g ≠ p) (hSp : ¬ S p) (ih : ReadIhP S g p d) (b : UInt8) (l : List UInt8) (n : Nat) (w : World) (h : RD w g S (some (b :: l))) (hp : KB w p 3 #[.int .i64 (n : Int)]) (hS : ∀ b, S b → b < w.heap.size) (hn : ¬ 24 ≤ n) (hl : l.length + 1 ≤ 1000000) (hk : d + 1 ≤ 8) (hcls : (b.toNat : Int) = 6 ∨ (b.toNat : Int) = 7) :
    Calls Try.prog 28 #[.pointer (some ⟨g, 0, none⟩), .int .i64 (9 - ((d + 1 : Nat) : Int)), .pointer (some ⟨p, 0, none⟩)] w (ReadP w g p S (d + 1) (readB (d + 1) (some (b :: l)) n)) := by
  rw [rb_many hn hcls]
  have hgl := h.lt
  have hpl := hp.lt
  have hu := b.toNat_lt
  have KR := KB.new w 24 #[.int .i64 0, .string ⟨#[]⟩, .int .i64 0, .int .i64 0, .slice none 0 0]
  have k0 := KeepP.alloc (P := KeepRC w g p) w (.cells #[.int .i64 0, .string ⟨#[]⟩, .int .i64 0, .int .i64 0, .slice none 0 0] 24) KeepRC.lt
  have ht := take_rd 1 g S (some (b :: l)) _ (h.alloc (.cells #[.int .i64 0, .string ⟨#[]⟩, .int .i64 0, .int .i64 0, .slice none 0 0] 24)) (by simp; omega)
  rw [zpassed_cons] at ht
  have hp1 := hp.alloc (.cells #[.int .i64 0, .string ⟨#[]⟩, .int .i64 0, .int .i64 0, .slice none 0 0] 24)
  have W2 : wrap64 (b.toNat : Int) = (b.toNat : Int) := IntWalk.wrap64_in _ (by omega)
  have hI : I64 (b.toNat : Int) := by unfold I64; omega
  have hSw : ¬ S w.heap.size := fun h => Nat.lt_irrefl _ (hS _ h)
  obtain ⟨dp, hdp⟩ : ∃ dp : Int, dp = 9 - ((d + 1 : Nat) : Int) := ⟨_, rfl⟩
  rw [← hdp]
  have hd1 : 1 ≤ dp := by omega
  have hd2 : dp ≤ 8 := by omega
  have HDP := Lib.hid hdp
  clear hdp
  have hrc := fun (w2 : World) (R2 : RD w2 g S (some l)) => count_some 24 (by omega) g S (some l) w2 R2
  have m1 := zcnt_most 24 (some l) (by omega)
  have hcl := cntOf_len 24 (some l)
  generalize cntOf 24 (some l) = nn at *
  obtain ⟨s0, Kn⟩ := nn
  dsimp only at hrc m1 hcl ⊢
  have hsl0 : (s0.getD []).length ≤ 1000000 := by simp at hcl; omega
  obtain ⟨Q, hQ⟩ : ∃ Q, Q = ReadP w g p S (d + 1) ((kidsB (readB d) Kn s0 (n + 1)).bind fun Y => some (Y.1, Y.2.1, (⟨(b.toNat : Int), [], 0, 0, Y.2.2⟩ : Ns (Sc (d + 1))))) := ⟨_, rfl⟩
  rw [← hQ]
  have HNO : Hid (kidsB (readB d) Kn s0 (n + 1) = none → Q = ReadP w g p S (d + 1) none) := fun h => by rw [hQ, h]; rfl
  have HYES : Hid (∀ Y, kidsB (readB d) Kn s0 (n + 1) = some Y → Q = ReadP w g p S (d + 1) (some (Y.1, Y.2.1, (⟨(b.toNat : Int), [], 0, 0, Y.2.2⟩ : Ns (Sc (d + 1)))))) := fun Y h => by rw [hQ, h]; rfl
  clear hQ
  have W1 : wrap64 (dp + 1) = dp + 1 := IntWalk.wrap64_in _ (by omega)
  have I1 : IntKind.i64.wrap (dp + 1) = dp + 1 := by rw [IntKind.wrap_i64]; omega
  go_enter Try.func28, Try.ntmps28
  go_wp2_with fail
  refine ht.mono ?_
  rintro e w1 ⟨v1, rfl, r1, how, g1⟩
  have k1 := k0.grown g1 KeepRC.rows.1 KeepRC.lt
  have K1 := KR.grown g1 (by simp; omega)
  have p1 := hp1.grown g1 (by simp; omega)
  have s1 : w.heap.size + 1 ≤ w1.heap.size := by have := g1.size; simpa using this
  obtain ⟨A, c, rfl⟩ := zown_form how
  have hwi := zwithin_any p n dp w1 (by omega) (by omega) p1
  rw [decide_eq_true (show (n : Int) + 1 ≤ 24 ∧ dp ≤ 8 from ⟨by omega, hd2⟩)] at hwi
  clear ht KR k0 hp1 h hp g1
  go_wp2_with fail
  refine hwi.mono ?_
  rintro e w2 ⟨rfl, p2, g2⟩
  have k2 := k1.grown g2 KeepRC.rows.2 KeepRC.lt
  have K2 := K1.grown g2 (by simp; omega)
  have r2 := r1.grownP g2 hgp hSp
  have s2 : w.heap.size + 1 ≤ w2.heap.size := Nat.le_trans s1 g2.size
  have how2 := zown_grown how g2 (by simp; omega)
  have hbyte : ∃ bb oo, A = some ⟨bb, oo, none⟩ ∧ bb < w2.heap.size ∧ w2.cell? ⟨bb, oo, none⟩ = some (.int .u8 (b.toNat : Int)) := by
    obtain ⟨bb, oo, e1, _, hb, hx⟩ := (own_BS how2).at_ (by simp)
    exact ⟨bb, oo, e1, hb, by have := hx 0 b rfl; simpa using this⟩
  obtain ⟨bb, oo, rfl, hbb, hcell⟩ := hbyte
  clear hwi k1 K1 p1 r1 how how2 g2 s1
  generalize hk0 : (b.toNat : Int) = k at *
  have K6 := KB.new w2 24 #[.int .i64 k, .string ⟨#[]⟩, .int .i64 0, .int .i64 0, .slice none 0 0]
  have K4 := K2.alloc (.cells #[.int .i64 k, .string ⟨#[]⟩, .int .i64 0, .int .i64 0, .slice none 0 0] 24)
  have R2 := r2.alloc (.cells #[.int .i64 k, .string ⟨#[]⟩, .int .i64 0, .int .i64 0, .slice none 0 0] 24)
  have P2 := p2.alloc (.cells #[.int .i64 k, .string ⟨#[]⟩, .int .i64 0, .int .i64 0, .slice none 0 0] 24)
  have P2 : KB (w2.alloc (.cells #[.int .i64 k, .string ⟨#[]⟩, .int .i64 0, .int .i64 0, .slice none 0 0] 24)) p 3 #[.int .i64 ((n + 1 : Nat) : Int)] := by rw [show ((n + 1 : Nat) : Int) = (n : Int) + 1 from by omega]; exact P2
  have H2 := k2.new (.cells #[.int .i64 k, .string ⟨#[]⟩, .int .i64 0, .int .i64 0, .slice none 0 0] 24) KeepRC.lt
  clear K2 r2 p2 k2
  have E2 : (k == 2) = false := beq_eq_false_iff_ne.2 (by omega)
  have E3 : (k == 3) = false := beq_eq_false_iff_ne.2 (by omega)
  have E4 : (k == 4) = false := beq_eq_false_iff_ne.2 (by omega)
  have E5 : (k == 5) = false := beq_eq_false_iff_ne.2 (by omega)
  have HI := Lib.hid hI
  clear hI
  rcases hcls with hk6 | hk7
  · have E6 : (k == 6) = true := by rw [hk6]; rfl
    clear hk6
    go_wp2_with fail
    refine (hrc _ R2).mono ?_
    rintro e w3 ⟨rfl, R3, G3⟩
    have K6b := K6.grown G3 (by simp; omega)
    have K4b := K4.grown G3 (by simp; omega)
    have P3 := P2.grown G3 (by simp; omega)
    have H3 := H2.grown G3 KeepRC.rows.1 KeepRC.lt
    have hs3 : w2.heap.size + 1 ≤ w3.heap.size := by have := G3.size; simpa using this
    clear hrc K6 K4 P2 H2 G3 R2
    go_wp2_with fail
    go_loopw [56] (fun iv wr => ∃ (j : Nat) (sj : Option (List UInt8)) (nj : Nat) (qs : List QuZ) (ks : List (Sc (d + 1))) (kv : Value), j ≤ Kn ∧ ks.length = j ∧ Hid (kidsB (readB d) j s0 (n + 1) = some (sj, nj, ks)) ∧ nj ≤ 24 ∧ (sj.getD []).length ≤ 1000000 ∧ iv = .int .i64 j ∧ RD wr g S sj ∧ KB wr p 3 #[.int .i64 (nj : Int)] ∧
        KB wr w.heap.size 24 #[.int .i64 0, .string ⟨#[]⟩, .int .i64 0, .int .i64 0, .slice none 0 0] ∧ KB wr w2.heap.size 24 #[.int .i64 k, .string ⟨#[]⟩, .int .i64 0, .int .i64 0, kv] ∧ wr.ownsRow (w2.heap.size + 1) 24 5 kv qs.length (flatZ qs) ∧ QZ wr (SNZ w2.heap.size wr kv) (d + 1) qs ks ∧ KeepP (KeepRC w g p) w wr ∧ w2.heap.size + 1 ≤ wr.heap.size) (fun iv _ => Kn - (intOf iv).toNat)
    case atStart => exact ⟨0, s0, n + 1, [], [], .slice none 0 0, by omega, rfl, rfl, by omega, hsl0, rfl, R3, P3, K4b, K6b, World.ownsRow_nil _ _ _ _, QZ.nil _ _ _, H3, hs3⟩
    case round =>
      clear R3 P3 K4b K6b H3
      obtain ⟨j, sj, nj, qs, ks, kv, hj, hkl, HK, hnj, hsl, rfl, R, PP, L4, L6, how, hq, H, hs⟩ := hrel
      obtain ⟨A3, c3v, rfl⟩ := zown_form how
      have hgw : g < w2.heap.size := by omega
      have hpw : p < w2.heap.size := by omega
      by_cases hlt : j < Kn
      · have hlt' : (j : Int) < (Kn : Int) := by omega
        have hc := ih sj nj wr R PP (fun b hb => Nat.lt_of_lt_of_le (hS b hb) H.size) hnj hsl (by omega)
        rw [show 9 - (d : Int) = dp + 1 from by have := HDP.out; omega] at hc
        have HST : Hid (readB d sj nj = none → Q = ReadP w g p S (d + 1) none) := fun h => HNO.out (kidsB_stop HK.out h hlt)
        have HMO : Hid (∀ X, readB d sj nj = some X → kidsB (readB d) (j + 1) s0 (n + 1) = some (X.1, X.2.1, ks ++ ([X.2.2] : List (Sc (d + 1))))) := fun X h => kidsB_more HK.out h
        have HFE : Hid (∀ X, readB d sj nj = some X → X.2.1 ≤ 24 ∧ (X.1.getD []).length ≤ 1000000) := fun X h => ⟨readB_few d _ _ X hnj h, Nat.le_trans (readB_le d _ _ X h) hsl⟩
        clear HK hsl
        generalize readB d sj nj = RB at *
        go_wp2_with fail
        refine hc.mono ?_
        rintro e w5 ⟨k5, hno, hys⟩
        have L4c := L4.keepP k5 ⟨by omega, by omega, by omega⟩
        have H5 := H.rc k5
        have s5 := k5.size
        cases RB with
        | none =>
          obtain rfl := hno rfl
          have hqn := HST.out rfl
          have hf := zpread_no (k := d + 1) (S := S) (H5.new (.cells #[.int .i64 0, .string ⟨#[]⟩, .int .i64 0, .int .i64 0, .slice none 0 0] 24) KeepRC.lt) (.int .i64 0) (.string ⟨#[]⟩) (.int .i64 0) (.int .i64 0) (.slice none 0 0)
          rw [← hqn] at hf
          have HF := Lib.hid hf
          have K4d := L4c.alloc (.cells #[.int .i64 0, .string ⟨#[]⟩, .int .i64 0, .int .i64 0, .slice none 0 0] 24)
          clear hf hqn HST HMO HFE HNO HYES hc hno hys R PP L4 L6 how hq H k5 L4c H5
          have c40 : (w5.alloc (.cells #[.int .i64 0, .string ⟨#[]⟩, .int .i64 0, .int .i64 0, .slice none 0 0] 24)).cell? ⟨w.heap.size, 0, none⟩ = some (.int .i64 0) := K4d.cell 0
          have c41 : (w5.alloc (.cells #[.int .i64 0, .string ⟨#[]⟩, .int .i64 0, .int .i64 0, .slice none 0 0] 24)).cell? ⟨w.heap.size, 1, none⟩ = some (.string ⟨#[]⟩) := K4d.cell 1
          have c42 : (w5.alloc (.cells #[.int .i64 0, .string ⟨#[]⟩, .int .i64 0, .int .i64 0, .slice none 0 0] 24)).cell? ⟨w.heap.size, 2, none⟩ = some (.int .i64 0) := K4d.cell 2
          have c43 : (w5.alloc (.cells #[.int .i64 0, .string ⟨#[]⟩, .int .i64 0, .int .i64 0, .slice none 0 0] 24)).cell? ⟨w.heap.size, 3, none⟩ = some (.int .i64 0) := K4d.cell 3
          have c44 : (w5.alloc (.cells #[.int .i64 0, .string ⟨#[]⟩, .int .i64 0, .int .i64 0, .slice none 0 0] 24)).cell? ⟨w.heap.size, 4, none⟩ = some (.slice none 0 0) := K4d.cell 4
          have f40 := K4d.free 0
          have f41 := K4d.free 1
          have f42 := K4d.free 2
          have f43 := K4d.free 3
          have f44 := K4d.free 4
          go_wp2_with fail
          exact bodyPost_ret (results_cell_tmp (P := Try.prog) (p := 6) (u := 7) rfl _ _ w.heap.size _ _ (0, 0) _ rfl (zput_five K4d) Try.underlying24 rfl (by kernel_rfl)) rfl HF.out
        | some X =>
          obtain ⟨v5, rfl, r5, p5, z5⟩ := hys X rfl
          have hmo := Lib.hid (HMO.out X rfl)
          have hfe := HFE.out X rfl
          obtain ⟨sX, nX, x⟩ := X
          dsimp only at hmo hfe r5 p5 z5
          obtain ⟨e0, e1, e2, e3, e4, rfl, tm⟩ := z5
          have L6c := L6.keepP k5 ⟨by omega, by omega, by omega⟩
          have how5 : w5.ownsRow (w2.heap.size + 1) 24 5 (.slice A3 qs.length c3v) qs.length (flatZ qs) := own_keep how fun b hb => k5.block b ⟨zown_lt how b hb, by have := zown_ge how b hb; omega, by have := zown_ge how b hb; omega⟩
          have hk5 : ∀ b, w2.heap.size < b → b < wr.heap.size → w5.heap[b]? = wr.heap[b]? := fun b h1 h2 => k5.block b ⟨h2, by omega, by omega⟩
          have HLq : Hid (qs.length ≤ 1000000000) := by have := hq.1; show _ ≤ _; omega
          have hone := tm.cells1
          have HTM := Lib.hid (ZX.keepL (w' := w5.alloc (.cells #[e0, e1, e2, e3, e4] 24)) (S' := fun b => wr.heap.size ≤ b ∧ b < (w5.alloc (.cells #[e0, e1, e2, e3, e4] 24)).heap.size) (d + 1) x e0 e1 e2 e3 e4 tm (by simp) (fun b _ hb => Below.heap_alloc w5 _ b hb) (fun b h _ => ⟨h.1, by simp; omega⟩))
          obtain ⟨j0, l1, i2, i3, X4, n4, z4, rfl, rfl, rfl, rfl, rfl⟩ := tm.form
          unfold strV at *
          generalize (⟨l1.toArray⟩ : ByteArray) = s1 at *
          have hA := (Below.refl w5.heap.size w5).alloc (Nat.le_refl _) (.cells #[.int .i64 j0, .string s1, .int .i64 i2, .int .i64 i3, .slice X4 n4 z4] 24)
          have hB := (Below.refl (w5.alloc (.cells #[.int .i64 j0, .string s1, .int .i64 i2, .int .i64 i3, .slice X4 n4 z4] 24)).heap.size (w5.alloc (.cells #[.int .i64 j0, .string s1, .int .i64 i2, .int .i64 i3, .slice X4 n4 z4] 24))).alloc (Nat.le_refl _) (.cells #[.int .i64 j0, .string s1, .int .i64 i2, .int .i64 i3, .slice X4 n4 z4] 24)
          have howB := own_past hB (own_past hA how5)
          have hx := At_newZ (w5.alloc (.cells #[.int .i64 j0, .string s1, .int .i64 i2, .int .i64 i3, .slice X4 n4 z4] 24)) (.int .i64 j0) (.string s1) (.int .i64 i2) (.int .i64 i3) (.slice X4 n4 z4) 24
          have hsz : w2.heap.size + 1 ≤ ((w5.alloc (.cells #[.int .i64 j0, .string s1, .int .i64 i2, .int .i64 i3, .slice X4 n4 z4] 24)).alloc (.cells #[.int .i64 j0, .string s1, .int .i64 i2, .int .i64 i3, .slice X4 n4 z4] 24)).heap.size := by simp; omega
          have L6B := (L6c.alloc (.cells #[.int .i64 j0, .string s1, .int .i64 i2, .int .i64 i3, .slice X4 n4 z4] 24)).alloc (.cells #[.int .i64 j0, .string s1, .int .i64 i2, .int .i64 i3, .slice X4 n4 z4] 24)
          have L4B := (L4c.alloc (.cells #[.int .i64 j0, .string s1, .int .i64 i2, .int .i64 i3, .slice X4 n4 z4] 24)).alloc (.cells #[.int .i64 j0, .string s1, .int .i64 i2, .int .i64 i3, .slice X4 n4 z4] 24)
          have RB2 := (r5.alloc (.cells #[.int .i64 j0, .string s1, .int .i64 i2, .int .i64 i3, .slice X4 n4 z4] 24)).alloc (.cells #[.int .i64 j0, .string s1, .int .i64 i2, .int .i64 i3, .slice X4 n4 z4] 24)
          have PB := (p5.alloc (.cells #[.int .i64 j0, .string s1, .int .i64 i2, .int .i64 i3, .slice X4 n4 z4] 24)).alloc (.cells #[.int .i64 j0, .string s1, .int .i64 i2, .int .i64 i3, .slice X4 n4 z4] 24)
          have HB := (H5.new (.cells #[.int .i64 j0, .string s1, .int .i64 i2, .int .i64 i3, .slice X4 n4 z4] 24) KeepRC.lt).new (.cells #[.int .i64 j0, .string s1, .int .i64 i2, .int .i64 i3, .slice X4 n4 z4] 24) KeepRC.lt
          have c64 : (w5.alloc (.cells #[.int .i64 j0, .string s1, .int .i64 i2, .int .i64 i3, .slice X4 n4 z4] 24)).cell? ⟨w2.heap.size, 4, none⟩ = some (.slice A3 qs.length c3v) := (L6c.alloc (.cells #[.int .i64 j0, .string s1, .int .i64 i2, .int .i64 i3, .slice X4 n4 z4] 24)).cell 4
          simp only [World.size_alloc] at hx
          have h25 : w2.heap.size < w5.heap.size := by omega
          clear hc hno hys HST HMO HFE R PP L4 L6 H L4c L6c H5 r5 p5 tm hA hB how5
          go_wp2_with (at_builtin; go_loud (refine wpList_growZ _ rfl _ _ rfl (w2.heap.size + 1) _ qs rfl howB _ 1 (.int .i64 j0, .string s1, .int .i64 i2, .int .i64 i3, .slice X4 n4 z4) rfl hx hone HLq.out hsz ?_); intro v7 w7 how7 hg7 h7; obtain ⟨qq, hqq⟩ : ∃ qq, qq = qs ++ [(.int .i64 j0, .string s1, .int .i64 i2, .int .i64 i3, .slice X4 n4 z4)] := ⟨_, rfl⟩; rw [← hqq] at how7; have HQQ := Lib.hid hqq; clear hqq; have L6D := L6B.grown hg7 (own_ne howB (Nat.lt_succ_self _)); obtain ⟨A7, c7, rfl⟩ := zown_form how7; have cc4 := L6D.cell 4; have ff4 := L6D.free 4)
          have L4D := L4B.grown hg7 (own_ne howB (by omega))
          have RD7 := RB2.grownX hg7 (fun x hx => by have := zown_ge howB x hx; exact ⟨by omega, fun h => by have := hS _ h; omega⟩)
          have PD := PB.grown hg7 (own_ne howB (by omega))
          have HD := HB.grown hg7 (fun x hx => KeepRC.new (by have := zown_ge howB x hx; omega)) KeepRC.lt
          have L6f := L6D.put 4 (.slice A7 qq.length c7)
          have L4f := zKB_far (h := w2.heap.size) (i := 4) (v := .slice A7 qq.length c7) L4D (by omega)
          have Rf := RD7.far (h := w2.heap.size) (i := 4) (u := .slice A7 qq.length c7) (by omega) (fun h => by have := hS _ h; omega)
          have Pf := zKB_far (h := w2.heap.size) (i := 4) (v := .slice A7 qq.length c7) PD (by omega)
          have Hf := HD.set ⟨w2.heap.size, 4, none⟩ (KeepRC.new (by dsimp only; omega)) (.slice A7 qq.length c7)
          have howf := zown_grown how7 (grown_set w7 w2.heap.size 4 (.slice A7 qq.length c7)) (Nat.lt_succ_self _)
          have hsz8 : w7.heap.size = (w7.setCell ⟨w2.heap.size, 4, none⟩ (.slice A7 qq.length c7)).heap.size := by simp [World.setCell]
          have hbl8 : ∀ x, x ≠ w2.heap.size → (w7.setCell ⟨w2.heap.size, 4, none⟩ (.slice A7 qq.length c7)).heap[x]? = w7.heap[x]? := fun x hx => Below.heap_setCell w7 ⟨w2.heap.size, 4, none⟩ (.slice A7 qq.length c7) x hx
          have sA : wr.heap.size ≤ (w5.alloc (.cells #[.int .i64 j0, .string s1, .int .i64 i2, .int .i64 i3, .slice X4 n4 z4] 24)).heap.size := by simp; omega
          have kA : ∀ b, w2.heap.size < b → b < wr.heap.size → (w5.alloc (.cells #[.int .i64 j0, .string s1, .int .i64 i2, .int .i64 i3, .slice X4 n4 z4] 24)).heap[b]? = wr.heap[b]? := fun b h1 h2 => (Below.heap_alloc w5 _ b (by omega)).trans (hk5 b h1 h2)
          have hqf := QZ.more2 (o := (.cells #[.int .i64 j0, .string s1, .int .i64 i2, .int .i64 i3, .slice X4 n4 z4] 24)) hq HTM.out how sA kA (by omega) hg7 h7 hsz8 hbl8
          rw [← HQQ.out] at hqf
          have hs8 : w2.heap.size + 1 ≤ (w7.setCell ⟨w2.heap.size, 4, none⟩ (.slice A7 qq.length c7)).heap.size := by have := hg7.size; rw [← hsz8]; omega
          have hk1 : (ks ++ ([x] : List (Sc (d + 1)))).length = j + 1 := by rw [List.length_append, hkl]; rfl
          clear hq how howB how7 hsz8 hbl8 HTM hg7 h7 hone hsz L6B L4B L6D L4D RB2 RD7 PB PD HB HD sA kA hk5 ih
          go_wp2_with fail
          go_roundw
          case rel => exact ⟨j + 1, sX, nX, qq, ks ++ ([x] : List (Sc (d + 1))), .slice A7 qq.length c7, by omega, hk1, hmo, hfe.1, hfe.2, by go_num, Rf, Pf, L4f, L6f, howf, hqf, Hf, hs8⟩
          case measure => simp [intOf]; omega
      · have hlt' : ¬ (j : Int) < (Kn : Int) := by omega
        have hjk : j = Kn := by omega
        have hqn := HYES.out (sj, nj, ks) (by have h9 := HK.out; rw [hjk] at h9; exact h9)
        have hf := zpread_end (d := d) (ks := ks) (nm := []) (fr := 0) (to_ := 0) hgl hpl hS H R PP HI.out (by unfold maxLen; simp) (by unfold I64; omega) (by unfold I64; omega) how (hq.mono fun b h => h.1) (by omega) (.int .i64 k) (.string ⟨#[]⟩) (.int .i64 0) (.int .i64 0) (.slice A3 qs.length c3v)
        dsimp only at hqn
        rw [← hqn] at hf
        have HF := Lib.hid hf
        clear hf hqn HNO HYES hjk HK R PP H hq how
        have c60 : wr.cell? ⟨w2.heap.size, 0, none⟩ = some (.int .i64 k) := L6.cell 0
        have c61 : wr.cell? ⟨w2.heap.size, 1, none⟩ = some (.string ⟨#[]⟩) := L6.cell 1
        have c62 : wr.cell? ⟨w2.heap.size, 2, none⟩ = some (.int .i64 0) := L6.cell 2
        have c63 : wr.cell? ⟨w2.heap.size, 3, none⟩ = some (.int .i64 0) := L6.cell 3
        have c64 : wr.cell? ⟨w2.heap.size, 4, none⟩ = some (.slice A3 qs.length c3v) := L6.cell 4
        have c40 : wr.cell? ⟨w.heap.size, 0, none⟩ = some (.int .i64 0) := L4.cell 0
        have c41 : wr.cell? ⟨w.heap.size, 1, none⟩ = some (.string ⟨#[]⟩) := L4.cell 1
        have c42 : wr.cell? ⟨w.heap.size, 2, none⟩ = some (.int .i64 0) := L4.cell 2
        have c43 : wr.cell? ⟨w.heap.size, 3, none⟩ = some (.int .i64 0) := L4.cell 3
        have c44 : wr.cell? ⟨w.heap.size, 4, none⟩ = some (.slice none 0 0) := L4.cell 4
        have f40 := L4.free 0
        have f41 := L4.free 1
        have f42 := L4.free 2
        have f43 := L4.free 3
        have f44 := L4.free 4
        go_wp2_with fail
        exact bodyPost_ret (results_cell_tmp (P := Try.prog) (p := 6) (u := 7) rfl _ _ w.heap.size _ _ (0, 0) _ rfl (zput_five L4) Try.underlying24 rfl (by kernel_rfl)) rfl HF.out
  · have E6 : (k == 6) = false := by rw [hk7]; rfl
    have E7 : (k == 7) = true := by rw [hk7]; rfl
    clear hk7
    go_wp2_with fail
    refine (hrc _ R2).mono ?_
    rintro e w3 ⟨rfl, R3, G3⟩
    have K6b := K6.grown G3 (by simp; omega)
    have K4b := K4.grown G3 (by simp; omega)
    have P3 := P2.grown G3 (by simp; omega)
    have H3 := H2.grown G3 KeepRC.rows.1 KeepRC.lt
    have hs3 : w2.heap.size + 1 ≤ w3.heap.size := by have := G3.size; simpa using this
    clear hrc K6 K4 P2 H2 G3 R2
    go_wp2_with fail
    go_loopw [56] (fun iv wr => ∃ (j : Nat) (sj : Option (List UInt8)) (nj : Nat) (qs : List QuZ) (ks : List (Sc (d + 1))) (kv : Value), j ≤ Kn ∧ ks.length = j ∧ Hid (kidsB (readB d) j s0 (n + 1) = some (sj, nj, ks)) ∧ nj ≤ 24 ∧ (sj.getD []).length ≤ 1000000 ∧ iv = .int .i64 j ∧ RD wr g S sj ∧ KB wr p 3 #[.int .i64 (nj : Int)] ∧
        KB wr w.heap.size 24 #[.int .i64 0, .string ⟨#[]⟩, .int .i64 0, .int .i64 0, .slice none 0 0] ∧ KB wr w2.heap.size 24 #[.int .i64 k, .string ⟨#[]⟩, .int .i64 0, .int .i64 0, kv] ∧ wr.ownsRow (w2.heap.size + 1) 24 5 kv qs.length (flatZ qs) ∧ QZ wr (SNZ w2.heap.size wr kv) (d + 1) qs ks ∧ KeepP (KeepRC w g p) w wr ∧ w2.heap.size + 1 ≤ wr.heap.size) (fun iv _ => Kn - (intOf iv).toNat)
    case atStart => exact ⟨0, s0, n + 1, [], [], .slice none 0 0, by omega, rfl, rfl, by omega, hsl0, rfl, R3, P3, K4b, K6b, World.ownsRow_nil _ _ _ _, QZ.nil _ _ _, H3, hs3⟩
    case round =>
      clear R3 P3 K4b K6b H3
      obtain ⟨j, sj, nj, qs, ks, kv, hj, hkl, HK, hnj, hsl, rfl, R, PP, L4, L6, how, hq, H, hs⟩ := hrel
      obtain ⟨A3, c3v, rfl⟩ := zown_form how
      have hgw : g < w2.heap.size := by omega
      have hpw : p < w2.heap.size := by omega
      by_cases hlt : j < Kn
      · have hlt' : (j : Int) < (Kn : Int) := by omega
        have hc := ih sj nj wr R PP (fun b hb => Nat.lt_of_lt_of_le (hS b hb) H.size) hnj hsl (by omega)
        rw [show 9 - (d : Int) = dp + 1 from by have := HDP.out; omega] at hc
        have HST : Hid (readB d sj nj = none → Q = ReadP w g p S (d + 1) none) := fun h => HNO.out (kidsB_stop HK.out h hlt)
        have HMO : Hid (∀ X, readB d sj nj = some X → kidsB (readB d) (j + 1) s0 (n + 1) = some (X.1, X.2.1, ks ++ ([X.2.2] : List (Sc (d + 1))))) := fun X h => kidsB_more HK.out h
        have HFE : Hid (∀ X, readB d sj nj = some X → X.2.1 ≤ 24 ∧ (X.1.getD []).length ≤ 1000000) := fun X h => ⟨readB_few d _ _ X hnj h, Nat.le_trans (readB_le d _ _ X h) hsl⟩
        clear HK hsl
        generalize readB d sj nj = RB at *
        go_wp2_with fail
        refine hc.mono ?_
        rintro e w5 ⟨k5, hno, hys⟩
        have L4c := L4.keepP k5 ⟨by omega, by omega, by omega⟩
        have H5 := H.rc k5
        have s5 := k5.size
        cases RB with
        | none =>
          obtain rfl := hno rfl
          have hqn := HST.out rfl
          have hf := zpread_no (k := d + 1) (S := S) (H5.new (.cells #[.int .i64 0, .string ⟨#[]⟩, .int .i64 0, .int .i64 0, .slice none 0 0] 24) KeepRC.lt) (.int .i64 0) (.string ⟨#[]⟩) (.int .i64 0) (.int .i64 0) (.slice none 0 0)
          rw [← hqn] at hf
          have HF := Lib.hid hf
          have K4d := L4c.alloc (.cells #[.int .i64 0, .string ⟨#[]⟩, .int .i64 0, .int .i64 0, .slice none 0 0] 24)
          clear hf hqn HST HMO HFE HNO HYES hc hno hys R PP L4 L6 how hq H k5 L4c H5
          have c40 : (w5.alloc (.cells #[.int .i64 0, .string ⟨#[]⟩, .int .i64 0, .int .i64 0, .slice none 0 0] 24)).cell? ⟨w.heap.size, 0, none⟩ = some (.int .i64 0) := K4d.cell 0
          have c41 : (w5.alloc (.cells #[.int .i64 0, .string ⟨#[]⟩, .int .i64 0, .int .i64 0, .slice none 0 0] 24)).cell? ⟨w.heap.size, 1, none⟩ = some (.string ⟨#[]⟩) := K4d.cell 1
          have c42 : (w5.alloc (.cells #[.int .i64 0, .string ⟨#[]⟩, .int .i64 0, .int .i64 0, .slice none 0 0] 24)).cell? ⟨w.heap.size, 2, none⟩ = some (.int .i64 0) := K4d.cell 2
          have c43 : (w5.alloc (.cells #[.int .i64 0, .string ⟨#[]⟩, .int .i64 0, .int .i64 0, .slice none 0 0] 24)).cell? ⟨w.heap.size, 3, none⟩ = some (.int .i64 0) := K4d.cell 3
          have c44 : (w5.alloc (.cells #[.int .i64 0, .string ⟨#[]⟩, .int .i64 0, .int .i64 0, .slice none 0 0] 24)).cell? ⟨w.heap.size, 4, none⟩ = some (.slice none 0 0) := K4d.cell 4
          have f40 := K4d.free 0
          have f41 := K4d.free 1
          have f42 := K4d.free 2
          have f43 := K4d.free 3
          have f44 := K4d.free 4
          go_wp2_with fail
          exact bodyPost_ret (results_cell_tmp (P := Try.prog) (p := 6) (u := 7) rfl _ _ w.heap.size _ _ (0, 0) _ rfl (zput_five K4d) Try.underlying24 rfl (by kernel_rfl)) rfl HF.out
        | some X =>
          obtain ⟨v5, rfl, r5, p5, z5⟩ := hys X rfl
          have hmo := Lib.hid (HMO.out X rfl)
          have hfe := HFE.out X rfl
          obtain ⟨sX, nX, x⟩ := X
          dsimp only at hmo hfe r5 p5 z5
          obtain ⟨e0, e1, e2, e3, e4, rfl, tm⟩ := z5
          have L6c := L6.keepP k5 ⟨by omega, by omega, by omega⟩
          have how5 : w5.ownsRow (w2.heap.size + 1) 24 5 (.slice A3 qs.length c3v) qs.length (flatZ qs) := own_keep how fun b hb => k5.block b ⟨zown_lt how b hb, by have := zown_ge how b hb; omega, by have := zown_ge how b hb; omega⟩
          have hk5 : ∀ b, w2.heap.size < b → b < wr.heap.size → w5.heap[b]? = wr.heap[b]? := fun b h1 h2 => k5.block b ⟨h2, by omega, by omega⟩
          have HLq : Hid (qs.length ≤ 1000000000) := by have := hq.1; show _ ≤ _; omega
          have hone := tm.cells1
          have HTM := Lib.hid (ZX.keepL (w' := w5.alloc (.cells #[e0, e1, e2, e3, e4] 24)) (S' := fun b => wr.heap.size ≤ b ∧ b < (w5.alloc (.cells #[e0, e1, e2, e3, e4] 24)).heap.size) (d + 1) x e0 e1 e2 e3 e4 tm (by simp) (fun b _ hb => Below.heap_alloc w5 _ b hb) (fun b h _ => ⟨h.1, by simp; omega⟩))
          obtain ⟨j0, l1, i2, i3, X4, n4, z4, rfl, rfl, rfl, rfl, rfl⟩ := tm.form
          unfold strV at *
          generalize (⟨l1.toArray⟩ : ByteArray) = s1 at *
          have hA := (Below.refl w5.heap.size w5).alloc (Nat.le_refl _) (.cells #[.int .i64 j0, .string s1, .int .i64 i2, .int .i64 i3, .slice X4 n4 z4] 24)
          have hB := (Below.refl (w5.alloc (.cells #[.int .i64 j0, .string s1, .int .i64 i2, .int .i64 i3, .slice X4 n4 z4] 24)).heap.size (w5.alloc (.cells #[.int .i64 j0, .string s1, .int .i64 i2, .int .i64 i3, .slice X4 n4 z4] 24))).alloc (Nat.le_refl _) (.cells #[.int .i64 j0, .string s1, .int .i64 i2, .int .i64 i3, .slice X4 n4 z4] 24)
          have howB := own_past hB (own_past hA how5)
          have hx := At_newZ (w5.alloc (.cells #[.int .i64 j0, .string s1, .int .i64 i2, .int .i64 i3, .slice X4 n4 z4] 24)) (.int .i64 j0) (.string s1) (.int .i64 i2) (.int .i64 i3) (.slice X4 n4 z4) 24
          have hsz : w2.heap.size + 1 ≤ ((w5.alloc (.cells #[.int .i64 j0, .string s1, .int .i64 i2, .int .i64 i3, .slice X4 n4 z4] 24)).alloc (.cells #[.int .i64 j0, .string s1, .int .i64 i2, .int .i64 i3, .slice X4 n4 z4] 24)).heap.size := by simp; omega
          have L6B := (L6c.alloc (.cells #[.int .i64 j0, .string s1, .int .i64 i2, .int .i64 i3, .slice X4 n4 z4] 24)).alloc (.cells #[.int .i64 j0, .string s1, .int .i64 i2, .int .i64 i3, .slice X4 n4 z4] 24)
          have L4B := (L4c.alloc (.cells #[.int .i64 j0, .string s1, .int .i64 i2, .int .i64 i3, .slice X4 n4 z4] 24)).alloc (.cells #[.int .i64 j0, .string s1, .int .i64 i2, .int .i64 i3, .slice X4 n4 z4] 24)
          have RB2 := (r5.alloc (.cells #[.int .i64 j0, .string s1, .int .i64 i2, .int .i64 i3, .slice X4 n4 z4] 24)).alloc (.cells #[.int .i64 j0, .string s1, .int .i64 i2, .int .i64 i3, .slice X4 n4 z4] 24)
          have PB := (p5.alloc (.cells #[.int .i64 j0, .string s1, .int .i64 i2, .int .i64 i3, .slice X4 n4 z4] 24)).alloc (.cells #[.int .i64 j0, .string s1, .int .i64 i2, .int .i64 i3, .slice X4 n4 z4] 24)
          have HB := (H5.new (.cells #[.int .i64 j0, .string s1, .int .i64 i2, .int .i64 i3, .slice X4 n4 z4] 24) KeepRC.lt).new (.cells #[.int .i64 j0, .string s1, .int .i64 i2, .int .i64 i3, .slice X4 n4 z4] 24) KeepRC.lt
          have c64 : (w5.alloc (.cells #[.int .i64 j0, .string s1, .int .i64 i2, .int .i64 i3, .slice X4 n4 z4] 24)).cell? ⟨w2.heap.size, 4, none⟩ = some (.slice A3 qs.length c3v) := (L6c.alloc (.cells #[.int .i64 j0, .string s1, .int .i64 i2, .int .i64 i3, .slice X4 n4 z4] 24)).cell 4
          simp only [World.size_alloc] at hx
          have h25 : w2.heap.size < w5.heap.size := by omega
          clear hc hno hys HST HMO HFE R PP L4 L6 H L4c L6c H5 r5 p5 tm hA hB how5
          go_wp2_with (at_builtin; go_loud (refine wpList_growZ _ rfl _ _ rfl (w2.heap.size + 1) _ qs rfl howB _ 1 (.int .i64 j0, .string s1, .int .i64 i2, .int .i64 i3, .slice X4 n4 z4) rfl hx hone HLq.out hsz ?_); intro v7 w7 how7 hg7 h7; obtain ⟨qq, hqq⟩ : ∃ qq, qq = qs ++ [(.int .i64 j0, .string s1, .int .i64 i2, .int .i64 i3, .slice X4 n4 z4)] := ⟨_, rfl⟩; rw [← hqq] at how7; have HQQ := Lib.hid hqq; clear hqq; have L6D := L6B.grown hg7 (own_ne howB (Nat.lt_succ_self _)); obtain ⟨A7, c7, rfl⟩ := zown_form how7; have cc4 := L6D.cell 4; have ff4 := L6D.free 4)
          have L4D := L4B.grown hg7 (own_ne howB (by omega))
          have RD7 := RB2.grownX hg7 (fun x hx => by have := zown_ge howB x hx; exact ⟨by omega, fun h => by have := hS _ h; omega⟩)
          have PD := PB.grown hg7 (own_ne howB (by omega))
          have HD := HB.grown hg7 (fun x hx => KeepRC.new (by have := zown_ge howB x hx; omega)) KeepRC.lt
          have L6f := L6D.put 4 (.slice A7 qq.length c7)
          have L4f := zKB_far (h := w2.heap.size) (i := 4) (v := .slice A7 qq.length c7) L4D (by omega)
          have Rf := RD7.far (h := w2.heap.size) (i := 4) (u := .slice A7 qq.length c7) (by omega) (fun h => by have := hS _ h; omega)
          have Pf := zKB_far (h := w2.heap.size) (i := 4) (v := .slice A7 qq.length c7) PD (by omega)
          have Hf := HD.set ⟨w2.heap.size, 4, none⟩ (KeepRC.new (by dsimp only; omega)) (.slice A7 qq.length c7)
          have howf := zown_grown how7 (grown_set w7 w2.heap.size 4 (.slice A7 qq.length c7)) (Nat.lt_succ_self _)
          have hsz8 : w7.heap.size = (w7.setCell ⟨w2.heap.size, 4, none⟩ (.slice A7 qq.length c7)).heap.size := by simp [World.setCell]
          have hbl8 : ∀ x, x ≠ w2.heap.size → (w7.setCell ⟨w2.heap.size, 4, none⟩ (.slice A7 qq.length c7)).heap[x]? = w7.heap[x]? := fun x hx => Below.heap_setCell w7 ⟨w2.heap.size, 4, none⟩ (.slice A7 qq.length c7) x hx
          have sA : wr.heap.size ≤ (w5.alloc (.cells #[.int .i64 j0, .string s1, .int .i64 i2, .int .i64 i3, .slice X4 n4 z4] 24)).heap.size := by simp; omega
          have kA : ∀ b, w2.heap.size < b → b < wr.heap.size → (w5.alloc (.cells #[.int .i64 j0, .string s1, .int .i64 i2, .int .i64 i3, .slice X4 n4 z4] 24)).heap[b]? = wr.heap[b]? := fun b h1 h2 => (Below.heap_alloc w5 _ b (by omega)).trans (hk5 b h1 h2)
          have hqf := QZ.more2 (o := (.cells #[.int .i64 j0, .string s1, .int .i64 i2, .int .i64 i3, .slice X4 n4 z4] 24)) hq HTM.out how sA kA (by omega) hg7 h7 hsz8 hbl8
          rw [← HQQ.out] at hqf
          have hs8 : w2.heap.size + 1 ≤ (w7.setCell ⟨w2.heap.size, 4, none⟩ (.slice A7 qq.length c7)).heap.size := by have := hg7.size; rw [← hsz8]; omega
          have hk1 : (ks ++ ([x] : List (Sc (d + 1)))).length = j + 1 := by rw [List.length_append, hkl]; rfl
          clear hq how howB how7 hsz8 hbl8 HTM hg7 h7 hone hsz L6B L4B L6D L4D RB2 RD7 PB PD HB HD sA kA hk5 ih
          go_wp2_with fail
          go_roundw
          case rel => exact ⟨j + 1, sX, nX, qq, ks ++ ([x] : List (Sc (d + 1))), .slice A7 qq.length c7, by omega, hk1, hmo, hfe.1, hfe.2, by go_num, Rf, Pf, L4f, L6f, howf, hqf, Hf, hs8⟩
          case measure => simp [intOf]; omega
      · have hlt' : ¬ (j : Int) < (Kn : Int) := by omega
        have hjk : j = Kn := by omega
        have hqn := HYES.out (sj, nj, ks) (by have h9 := HK.out; rw [hjk] at h9; exact h9)
        have hf := zpread_end (d := d) (ks := ks) (nm := []) (fr := 0) (to_ := 0) hgl hpl hS H R PP HI.out (by unfold maxLen; simp) (by unfold I64; omega) (by unfold I64; omega) how (hq.mono fun b h => h.1) (by omega) (.int .i64 k) (.string ⟨#[]⟩) (.int .i64 0) (.int .i64 0) (.slice A3 qs.length c3v)
        dsimp only at hqn
        rw [← hqn] at hf
        have HF := Lib.hid hf
        clear hf hqn HNO HYES hjk HK R PP H hq how
        have c60 : wr.cell? ⟨w2.heap.size, 0, none⟩ = some (.int .i64 k) := L6.cell 0
        have c61 : wr.cell? ⟨w2.heap.size, 1, none⟩ = some (.string ⟨#[]⟩) := L6.cell 1
        have c62 : wr.cell? ⟨w2.heap.size, 2, none⟩ = some (.int .i64 0) := L6.cell 2
        have c63 : wr.cell? ⟨w2.heap.size, 3, none⟩ = some (.int .i64 0) := L6.cell 3
        have c64 : wr.cell? ⟨w2.heap.size, 4, none⟩ = some (.slice A3 qs.length c3v) := L6.cell 4
        have c40 : wr.cell? ⟨w.heap.size, 0, none⟩ = some (.int .i64 0) := L4.cell 0
        have c41 : wr.cell? ⟨w.heap.size, 1, none⟩ = some (.string ⟨#[]⟩) := L4.cell 1
        have c42 : wr.cell? ⟨w.heap.size, 2, none⟩ = some (.int .i64 0) := L4.cell 2
        have c43 : wr.cell? ⟨w.heap.size, 3, none⟩ = some (.int .i64 0) := L4.cell 3
        have c44 : wr.cell? ⟨w.heap.size, 4, none⟩ = some (.slice none 0 0) := L4.cell 4
        have f40 := L4.free 0
        have f41 := L4.free 1
        have f42 := L4.free 2
        have f43 := L4.free 3
        have f44 := L4.free 4
        go_wp2_with fail
        exact bodyPost_ret (results_cell_tmp (P := Try.prog) (p := 6) (u := 7) rfl _ _ w.heap.size _ _ (0, 0) _ rfl (zput_five L4) Try.underlying24 rfl (by kernel_rfl)) rfl HF.out
end
end Go.Proofs.Ytcbkokhjdleoeaa
