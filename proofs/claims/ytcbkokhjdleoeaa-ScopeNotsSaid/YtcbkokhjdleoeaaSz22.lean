/-
  SdPn: The program's read (layer 20), over the loaded program: of what does not. No condition but the sizes that it names.
  SdQ: The program's Put, read whole, and Get (layer 20), over the loaded program: each one's contract. No condition but the sizes that each contract names.
-/
import Derived.Test.YtcbkokhjdleoeaaSz19
import Derived.Test.YtcbkokhjdleoeaaSz01
import Derived.Test.YtcbkokhjdleoeaaSz21
import Derived.Test.YtcbkokhjdleoeaaSz08
import Derived.Test.YtcbkokhjdleoeaaSz12
import Derived.Test.YtcbkokhjdleoeaaSz14
import Derived.Test.YtcbkokhjdleoeaaSz20
set_option linter.unusedVariables false
set_option maxRecDepth 100000
namespace Go.Proofs.Ytcbkokhjdleoeaa
section
open Go.RowKit
set_option maxHeartbeats 8000000 in
theorem zpread_not (S : Nat → Prop) (g p d : Nat) (hgp : g ≠ p) (hSp : ¬ S p) (ih : ReadIhP S g p d) (b : UInt8) (l : List UInt8) (n : Nat) (w : World) (h : RD w g S (some (b :: l))) (hp : KB w p 3 #[.int .i64 (n : Int)]) (hS : ∀ b, S b → b < w.heap.size) (hn : ¬ 24 ≤ n) (hl : l.length + 1 ≤ 1000000) (hk : d + 1 ≤ 8) (hcls : (b.toNat : Int) = 8) :
    Calls Try.prog 28 #[.pointer (some ⟨g, 0, none⟩), .int .i64 (9 - ((d + 1 : Nat) : Int)), .pointer (some ⟨p, 0, none⟩)] w (ReadP w g p S (d + 1) (readB (d + 1) (some (b :: l)) n)) := by
  rw [rb_not hn hcls]
  have hgl := h.lt
  have hpl := hp.lt
  have hu := b.toNat_lt
  have KR := KB.new w 24 #[.int .i64 0, .string ⟨#[]⟩, .int .i64 0, .int .i64 0, .slice none 0 0]
  have k0 := KeepP.alloc (P := KeepRC w g p) w (.cells #[.int .i64 0, .string ⟨#[]⟩, .int .i64 0, .int .i64 0, .slice none 0 0] 24) KeepRC.lt
  have ht := take_rd 1 g S (some (b :: l)) _ (h.alloc (.cells #[.int .i64 0, .string ⟨#[]⟩, .int .i64 0, .int .i64 0, .slice none 0 0] 24)) (by simp; omega)
  rw [zpassed_cons] at ht
  have hp1 := hp.alloc (.cells #[.int .i64 0, .string ⟨#[]⟩, .int .i64 0, .int .i64 0, .slice none 0 0] 24)
  have W2 : wrap64 (b.toNat : Int) = (b.toNat : Int) := IntWalk.wrap64_in _ (by omega)
  have hI : I64 (b.toNat : Int) := by unfold I64; omega
  have hSw : ¬ S w.heap.size := fun h => Nat.lt_irrefl _ (hS _ h)
  obtain ⟨dp, hdp⟩ : ∃ dp : Int, dp = 9 - ((d + 1 : Nat) : Int) := ⟨_, rfl⟩
  rw [← hdp]
  have hd1 : 1 ≤ dp := by omega
  have hd2 : dp ≤ 8 := by omega
  have HDP := Lib.hid hdp
  clear hdp
  obtain ⟨Q, hQ⟩ : ∃ Q, Q = ReadP w g p S (d + 1) ((kidsB (readB d) 1 (some l) (n + 1)).bind fun Y => some (Y.1, Y.2.1, (⟨8, [], 0, 0, Y.2.2⟩ : Ns (Sc (d + 1))))) := ⟨_, rfl⟩
  rw [← hQ]
  have HNO : Hid (kidsB (readB d) 1 (some l) (n + 1) = none → Q = ReadP w g p S (d + 1) none) := fun h => by rw [hQ, h]; rfl
  have HYES : Hid (∀ Y, kidsB (readB d) 1 (some l) (n + 1) = some Y → Q = ReadP w g p S (d + 1) (some (Y.1, Y.2.1, (⟨8, [], 0, 0, Y.2.2⟩ : Ns (Sc (d + 1)))))) := fun Y h => by rw [hQ, h]; rfl
  clear hQ
  have W1 : wrap64 (dp + 1) = dp + 1 := IntWalk.wrap64_in _ (by omega)
  have I1 : IntKind.i64.wrap (dp + 1) = dp + 1 := by rw [IntKind.wrap_i64]; omega
  go_enter Try.func28, Try.ntmps28
  go_wp2_with fail
  refine ht.mono ?_
  rintro e w1 ⟨v1, rfl, r1, how, g1⟩
  have k1 := k0.grown g1 KeepRC.rows.1 KeepRC.lt
  have K1 := KR.grown g1 (by simp; omega)
  have p1 := hp1.grown g1 (by simp; omega)
  have s1 : w.heap.size + 1 ≤ w1.heap.size := by have := g1.size; simpa using this
  obtain ⟨A, c, rfl⟩ := zown_form how
  have hwi := zwithin_any p n dp w1 (by omega) (by omega) p1
  rw [decide_eq_true (show (n : Int) + 1 ≤ 24 ∧ dp ≤ 8 from ⟨by omega, hd2⟩)] at hwi
  clear ht KR k0 hp1 h hp g1
  go_wp2_with fail
  refine hwi.mono ?_
  rintro e w2 ⟨rfl, p2, g2⟩
  have k2 := k1.grown g2 KeepRC.rows.2 KeepRC.lt
  have K2 := K1.grown g2 (by simp; omega)
  have r2 := r1.grownP g2 hgp hSp
  have s2 : w.heap.size + 1 ≤ w2.heap.size := Nat.le_trans s1 g2.size
  have how2 := zown_grown how g2 (by simp; omega)
  have hbyte : ∃ bb oo, A = some ⟨bb, oo, none⟩ ∧ bb < w2.heap.size ∧ w2.cell? ⟨bb, oo, none⟩ = some (.int .u8 (b.toNat : Int)) := by
    obtain ⟨bb, oo, e1, _, hb, hx⟩ := (own_BS how2).at_ (by simp)
    exact ⟨bb, oo, e1, hb, by have := hx 0 b rfl; simpa using this⟩
  obtain ⟨bb, oo, rfl, hbb, hcell⟩ := hbyte
  clear hwi k1 K1 p1 r1 how how2 g2 s1
  generalize hk0 : (b.toNat : Int) = k at *
  have K6 := KB.new w2 24 #[.int .i64 k, .string ⟨#[]⟩, .int .i64 0, .int .i64 0, .slice none 0 0]
  have K4 := K2.alloc (.cells #[.int .i64 k, .string ⟨#[]⟩, .int .i64 0, .int .i64 0, .slice none 0 0] 24)
  have R2 := r2.alloc (.cells #[.int .i64 k, .string ⟨#[]⟩, .int .i64 0, .int .i64 0, .slice none 0 0] 24)
  have P2 := p2.alloc (.cells #[.int .i64 k, .string ⟨#[]⟩, .int .i64 0, .int .i64 0, .slice none 0 0] 24)
  have P2 : KB (w2.alloc (.cells #[.int .i64 k, .string ⟨#[]⟩, .int .i64 0, .int .i64 0, .slice none 0 0] 24)) p 3 #[.int .i64 ((n + 1 : Nat) : Int)] := by rw [show ((n + 1 : Nat) : Int) = (n : Int) + 1 from by omega]; exact P2
  have H2 := k2.new (.cells #[.int .i64 k, .string ⟨#[]⟩, .int .i64 0, .int .i64 0, .slice none 0 0] 24) KeepRC.lt
  clear K2 r2 p2 k2
  subst hcls
  have HI := Lib.hid hI
  clear hI
  have hsl0 : ((some l).getD []).length ≤ 1000000 := by simp; omega
  have hs3 : w2.heap.size + 1 ≤ (w2.alloc (.cells #[.int .i64 8, .string ⟨#[]⟩, .int .i64 0, .int .i64 0, .slice none 0 0] 24)).heap.size := by simp
  go_wp2_with fail
  go_loopw [56] (fun iv wr => ∃ (j : Nat) (sj : Option (List UInt8)) (nj : Nat) (qs : List QuZ) (ks : List (Sc (d + 1))) (kv : Value), j ≤ 1 ∧ ks.length = j ∧ Hid (kidsB (readB d) j (some l) (n + 1) = some (sj, nj, ks)) ∧ nj ≤ 24 ∧ (sj.getD []).length ≤ 1000000 ∧ iv = .int .i64 j ∧ RD wr g S sj ∧ KB wr p 3 #[.int .i64 (nj : Int)] ∧
      KB wr w.heap.size 24 #[.int .i64 0, .string ⟨#[]⟩, .int .i64 0, .int .i64 0, .slice none 0 0] ∧ KB wr w2.heap.size 24 #[.int .i64 8, .string ⟨#[]⟩, .int .i64 0, .int .i64 0, kv] ∧ wr.ownsRow (w2.heap.size + 1) 24 5 kv qs.length (flatZ qs) ∧ QZ wr (SNZ w2.heap.size wr kv) (d + 1) qs ks ∧ KeepP (KeepRC w g p) w wr ∧ w2.heap.size + 1 ≤ wr.heap.size) (fun iv _ => 1 - (intOf iv).toNat)
  case atStart => exact ⟨0, (some l), n + 1, [], [], .slice none 0 0, by omega, rfl, rfl, by omega, hsl0, rfl, R2, P2, K4, K6, World.ownsRow_nil _ _ _ _, QZ.nil _ _ _, H2, hs3⟩
  case round =>
    clear R2 P2 K4 K6 H2
    obtain ⟨j, sj, nj, qs, ks, kv, hj, hkl, HK, hnj, hsl, rfl, R, PP, L4, L6, how, hq, H, hs⟩ := hrel
    obtain ⟨A3, c3v, rfl⟩ := zown_form how
    have hgw : g < w2.heap.size := by omega
    have hpw : p < w2.heap.size := by omega
    by_cases hlt : j < 1
    · have hlt' : (j : Int) < (1 : Int) := by omega
      have hc := ih sj nj wr R PP (fun b hb => Nat.lt_of_lt_of_le (hS b hb) H.size) hnj hsl (by omega)
      rw [show 9 - (d : Int) = dp + 1 from by have := HDP.out; omega] at hc
      have HST : Hid (readB d sj nj = none → Q = ReadP w g p S (d + 1) none) := fun h => HNO.out (kidsB_stop HK.out h hlt)
      have HMO : Hid (∀ X, readB d sj nj = some X → kidsB (readB d) (j + 1) (some l) (n + 1) = some (X.1, X.2.1, ks ++ ([X.2.2] : List (Sc (d + 1))))) := fun X h => kidsB_more HK.out h
      have HFE : Hid (∀ X, readB d sj nj = some X → X.2.1 ≤ 24 ∧ (X.1.getD []).length ≤ 1000000) := fun X h => ⟨readB_few d _ _ X hnj h, Nat.le_trans (readB_le d _ _ X h) hsl⟩
      clear HK hsl
      generalize readB d sj nj = RB at *
      go_wp2_with fail
      refine hc.mono ?_
      rintro e w5 ⟨k5, hno, hys⟩
      have L4c := L4.keepP k5 ⟨by omega, by omega, by omega⟩
      have H5 := H.rc k5
      have s5 := k5.size
      cases RB with
      | none =>
        obtain rfl := hno rfl
        have hqn := HST.out rfl
        have hf := zpread_no (k := d + 1) (S := S) (H5.new (.cells #[.int .i64 0, .string ⟨#[]⟩, .int .i64 0, .int .i64 0, .slice none 0 0] 24) KeepRC.lt) (.int .i64 0) (.string ⟨#[]⟩) (.int .i64 0) (.int .i64 0) (.slice none 0 0)
        rw [← hqn] at hf
        have HF := Lib.hid hf
        have K4d := L4c.alloc (.cells #[.int .i64 0, .string ⟨#[]⟩, .int .i64 0, .int .i64 0, .slice none 0 0] 24)
        clear hf hqn HST HMO HFE HNO HYES hc hno hys R PP L4 L6 how hq H k5 L4c H5
        have c40 : (w5.alloc (.cells #[.int .i64 0, .string ⟨#[]⟩, .int .i64 0, .int .i64 0, .slice none 0 0] 24)).cell? ⟨w.heap.size, 0, none⟩ = some (.int .i64 0) := K4d.cell 0
        have c41 : (w5.alloc (.cells #[.int .i64 0, .string ⟨#[]⟩, .int .i64 0, .int .i64 0, .slice none 0 0] 24)).cell? ⟨w.heap.size, 1, none⟩ = some (.string ⟨#[]⟩) := K4d.cell 1
        have c42 : (w5.alloc (.cells #[.int .i64 0, .string ⟨#[]⟩, .int .i64 0, .int .i64 0, .slice none 0 0] 24)).cell? ⟨w.heap.size, 2, none⟩ = some (.int .i64 0) := K4d.cell 2
        have c43 : (w5.alloc (.cells #[.int .i64 0, .string ⟨#[]⟩, .int .i64 0, .int .i64 0, .slice none 0 0] 24)).cell? ⟨w.heap.size, 3, none⟩ = some (.int .i64 0) := K4d.cell 3
        have c44 : (w5.alloc (.cells #[.int .i64 0, .string ⟨#[]⟩, .int .i64 0, .int .i64 0, .slice none 0 0] 24)).cell? ⟨w.heap.size, 4, none⟩ = some (.slice none 0 0) := K4d.cell 4
        have f40 := K4d.free 0
        have f41 := K4d.free 1
        have f42 := K4d.free 2
        have f43 := K4d.free 3
        have f44 := K4d.free 4
        go_wp2_with fail
        exact bodyPost_ret (results_cell_tmp (P := Try.prog) (p := 6) (u := 7) rfl _ _ w.heap.size _ _ (0, 0) _ rfl (zput_five K4d) Try.underlying24 rfl (by kernel_rfl)) rfl HF.out
      | some X =>
        obtain ⟨v5, rfl, r5, p5, z5⟩ := hys X rfl
        have hmo := Lib.hid (HMO.out X rfl)
        have hfe := HFE.out X rfl
        obtain ⟨sX, nX, x⟩ := X
        dsimp only at hmo hfe r5 p5 z5
        obtain ⟨e0, e1, e2, e3, e4, rfl, tm⟩ := z5
        have L6c := L6.keepP k5 ⟨by omega, by omega, by omega⟩
        have how5 : w5.ownsRow (w2.heap.size + 1) 24 5 (.slice A3 qs.length c3v) qs.length (flatZ qs) := own_keep how fun b hb => k5.block b ⟨zown_lt how b hb, by have := zown_ge how b hb; omega, by have := zown_ge how b hb; omega⟩
        have hk5 : ∀ b, w2.heap.size < b → b < wr.heap.size → w5.heap[b]? = wr.heap[b]? := fun b h1 h2 => k5.block b ⟨h2, by omega, by omega⟩
        have HLq : Hid (qs.length ≤ 1000000000) := by have := hq.1; show _ ≤ _; omega
        have hone := tm.cells1
        have HTM := Lib.hid (ZX.keepL (w' := w5.alloc (.cells #[e0, e1, e2, e3, e4] 24)) (S' := fun b => wr.heap.size ≤ b ∧ b < (w5.alloc (.cells #[e0, e1, e2, e3, e4] 24)).heap.size) (d + 1) x e0 e1 e2 e3 e4 tm (by simp) (fun b _ hb => Below.heap_alloc w5 _ b hb) (fun b h _ => ⟨h.1, by simp; omega⟩))
        obtain ⟨j0, l1, i2, i3, X4, n4, z4, rfl, rfl, rfl, rfl, rfl⟩ := tm.form
        unfold strV at *
        generalize (⟨l1.toArray⟩ : ByteArray) = s1 at *
        have hA := (Below.refl w5.heap.size w5).alloc (Nat.le_refl _) (.cells #[.int .i64 j0, .string s1, .int .i64 i2, .int .i64 i3, .slice X4 n4 z4] 24)
        have hB := (Below.refl (w5.alloc (.cells #[.int .i64 j0, .string s1, .int .i64 i2, .int .i64 i3, .slice X4 n4 z4] 24)).heap.size (w5.alloc (.cells #[.int .i64 j0, .string s1, .int .i64 i2, .int .i64 i3, .slice X4 n4 z4] 24))).alloc (Nat.le_refl _) (.cells #[.int .i64 j0, .string s1, .int .i64 i2, .int .i64 i3, .slice X4 n4 z4] 24)
        have howB := own_past hB (own_past hA how5)
        have hx := At_newZ (w5.alloc (.cells #[.int .i64 j0, .string s1, .int .i64 i2, .int .i64 i3, .slice X4 n4 z4] 24)) (.int .i64 j0) (.string s1) (.int .i64 i2) (.int .i64 i3) (.slice X4 n4 z4) 24
        have hsz : w2.heap.size + 1 ≤ ((w5.alloc (.cells #[.int .i64 j0, .string s1, .int .i64 i2, .int .i64 i3, .slice X4 n4 z4] 24)).alloc (.cells #[.int .i64 j0, .string s1, .int .i64 i2, .int .i64 i3, .slice X4 n4 z4] 24)).heap.size := by simp; omega
        have L6B := (L6c.alloc (.cells #[.int .i64 j0, .string s1, .int .i64 i2, .int .i64 i3, .slice X4 n4 z4] 24)).alloc (.cells #[.int .i64 j0, .string s1, .int .i64 i2, .int .i64 i3, .slice X4 n4 z4] 24)
        have L4B := (L4c.alloc (.cells #[.int .i64 j0, .string s1, .int .i64 i2, .int .i64 i3, .slice X4 n4 z4] 24)).alloc (.cells #[.int .i64 j0, .string s1, .int .i64 i2, .int .i64 i3, .slice X4 n4 z4] 24)
        have RB2 := (r5.alloc (.cells #[.int .i64 j0, .string s1, .int .i64 i2, .int .i64 i3, .slice X4 n4 z4] 24)).alloc (.cells #[.int .i64 j0, .string s1, .int .i64 i2, .int .i64 i3, .slice X4 n4 z4] 24)
        have PB := (p5.alloc (.cells #[.int .i64 j0, .string s1, .int .i64 i2, .int .i64 i3, .slice X4 n4 z4] 24)).alloc (.cells #[.int .i64 j0, .string s1, .int .i64 i2, .int .i64 i3, .slice X4 n4 z4] 24)
        have HB := (H5.new (.cells #[.int .i64 j0, .string s1, .int .i64 i2, .int .i64 i3, .slice X4 n4 z4] 24) KeepRC.lt).new (.cells #[.int .i64 j0, .string s1, .int .i64 i2, .int .i64 i3, .slice X4 n4 z4] 24) KeepRC.lt
        have c64 : (w5.alloc (.cells #[.int .i64 j0, .string s1, .int .i64 i2, .int .i64 i3, .slice X4 n4 z4] 24)).cell? ⟨w2.heap.size, 4, none⟩ = some (.slice A3 qs.length c3v) := (L6c.alloc (.cells #[.int .i64 j0, .string s1, .int .i64 i2, .int .i64 i3, .slice X4 n4 z4] 24)).cell 4
        simp only [World.size_alloc] at hx
        have h25 : w2.heap.size < w5.heap.size := by omega
        clear hc hno hys HST HMO HFE R PP L4 L6 H L4c L6c H5 r5 p5 tm hA hB how5
        go_wp2_with (at_builtin; go_loud (refine wpList_growZ _ rfl _ _ rfl (w2.heap.size + 1) _ qs rfl howB _ 1 (.int .i64 j0, .string s1, .int .i64 i2, .int .i64 i3, .slice X4 n4 z4) rfl hx hone HLq.out hsz ?_); intro v7 w7 how7 hg7 h7; obtain ⟨qq, hqq⟩ : ∃ qq, qq = qs ++ [(.int .i64 j0, .string s1, .int .i64 i2, .int .i64 i3, .slice X4 n4 z4)] := ⟨_, rfl⟩; rw [← hqq] at how7; have HQQ := Lib.hid hqq; clear hqq; have L6D := L6B.grown hg7 (own_ne howB (Nat.lt_succ_self _)); obtain ⟨A7, c7, rfl⟩ := zown_form how7; have cc4 := L6D.cell 4; have ff4 := L6D.free 4)
        have L4D := L4B.grown hg7 (own_ne howB (by omega))
        have RD7 := RB2.grownX hg7 (fun x hx => by have := zown_ge howB x hx; exact ⟨by omega, fun h => by have := hS _ h; omega⟩)
        have PD := PB.grown hg7 (own_ne howB (by omega))
        have HD := HB.grown hg7 (fun x hx => KeepRC.new (by have := zown_ge howB x hx; omega)) KeepRC.lt
        have L6f := L6D.put 4 (.slice A7 qq.length c7)
        have L4f := zKB_far (h := w2.heap.size) (i := 4) (v := .slice A7 qq.length c7) L4D (by omega)
        have Rf := RD7.far (h := w2.heap.size) (i := 4) (u := .slice A7 qq.length c7) (by omega) (fun h => by have := hS _ h; omega)
        have Pf := zKB_far (h := w2.heap.size) (i := 4) (v := .slice A7 qq.length c7) PD (by omega)
        have Hf := HD.set ⟨w2.heap.size, 4, none⟩ (KeepRC.new (by dsimp only; omega)) (.slice A7 qq.length c7)
        have howf := zown_grown how7 (grown_set w7 w2.heap.size 4 (.slice A7 qq.length c7)) (Nat.lt_succ_self _)
        have hsz8 : w7.heap.size = (w7.setCell ⟨w2.heap.size, 4, none⟩ (.slice A7 qq.length c7)).heap.size := by simp [World.setCell]
        have hbl8 : ∀ x, x ≠ w2.heap.size → (w7.setCell ⟨w2.heap.size, 4, none⟩ (.slice A7 qq.length c7)).heap[x]? = w7.heap[x]? := fun x hx => Below.heap_setCell w7 ⟨w2.heap.size, 4, none⟩ (.slice A7 qq.length c7) x hx
        have sA : wr.heap.size ≤ (w5.alloc (.cells #[.int .i64 j0, .string s1, .int .i64 i2, .int .i64 i3, .slice X4 n4 z4] 24)).heap.size := by simp; omega
        have kA : ∀ b, w2.heap.size < b → b < wr.heap.size → (w5.alloc (.cells #[.int .i64 j0, .string s1, .int .i64 i2, .int .i64 i3, .slice X4 n4 z4] 24)).heap[b]? = wr.heap[b]? := fun b h1 h2 => (Below.heap_alloc w5 _ b (by omega)).trans (hk5 b h1 h2)
        have hqf := QZ.more2 (o := (.cells #[.int .i64 j0, .string s1, .int .i64 i2, .int .i64 i3, .slice X4 n4 z4] 24)) hq HTM.out how sA kA (by omega) hg7 h7 hsz8 hbl8
        rw [← HQQ.out] at hqf
        have hs8 : w2.heap.size + 1 ≤ (w7.setCell ⟨w2.heap.size, 4, none⟩ (.slice A7 qq.length c7)).heap.size := by have := hg7.size; rw [← hsz8]; omega
        have hk1 : (ks ++ ([x] : List (Sc (d + 1)))).length = j + 1 := by rw [List.length_append, hkl]; rfl
        clear hq how howB how7 hsz8 hbl8 HTM hg7 h7 hone hsz L6B L4B L6D L4D RB2 RD7 PB PD HB HD sA kA hk5 ih
        go_wp2_with fail
        go_roundw
        case rel => exact ⟨j + 1, sX, nX, qq, ks ++ ([x] : List (Sc (d + 1))), .slice A7 qq.length c7, by omega, hk1, hmo, hfe.1, hfe.2, by go_num, Rf, Pf, L4f, L6f, howf, hqf, Hf, hs8⟩
        case measure => simp [intOf]; omega
    · have hlt' : ¬ (j : Int) < (1 : Int) := by omega
      have hjk : j = 1 := by omega
      have hqn := HYES.out (sj, nj, ks) (by have h9 := HK.out; rw [hjk] at h9; exact h9)
      have hf := zpread_end (d := d) (ks := ks) (nm := []) (fr := 0) (to_ := 0) hgl hpl hS H R PP HI.out (by unfold maxLen; simp) (by unfold I64; omega) (by unfold I64; omega) how (hq.mono fun b h => h.1) (by omega) (.int .i64 8) (.string ⟨#[]⟩) (.int .i64 0) (.int .i64 0) (.slice A3 qs.length c3v)
      dsimp only at hqn
      rw [← hqn] at hf
      have HF := Lib.hid hf
      clear hf hqn HNO HYES hjk HK R PP H hq how
      have c60 : wr.cell? ⟨w2.heap.size, 0, none⟩ = some (.int .i64 8) := L6.cell 0
      have c61 : wr.cell? ⟨w2.heap.size, 1, none⟩ = some (.string ⟨#[]⟩) := L6.cell 1
      have c62 : wr.cell? ⟨w2.heap.size, 2, none⟩ = some (.int .i64 0) := L6.cell 2
      have c63 : wr.cell? ⟨w2.heap.size, 3, none⟩ = some (.int .i64 0) := L6.cell 3
      have c64 : wr.cell? ⟨w2.heap.size, 4, none⟩ = some (.slice A3 qs.length c3v) := L6.cell 4
      have c40 : wr.cell? ⟨w.heap.size, 0, none⟩ = some (.int .i64 0) := L4.cell 0
      have c41 : wr.cell? ⟨w.heap.size, 1, none⟩ = some (.string ⟨#[]⟩) := L4.cell 1
      have c42 : wr.cell? ⟨w.heap.size, 2, none⟩ = some (.int .i64 0) := L4.cell 2
      have c43 : wr.cell? ⟨w.heap.size, 3, none⟩ = some (.int .i64 0) := L4.cell 3
      have c44 : wr.cell? ⟨w.heap.size, 4, none⟩ = some (.slice none 0 0) := L4.cell 4
      have f40 := L4.free 0
      have f41 := L4.free 1
      have f42 := L4.free 2
      have f43 := L4.free 3
      have f44 := L4.free 4
      go_wp2_with fail
      exact bodyPost_ret (results_cell_tmp (P := Try.prog) (p := 6) (u := 7) rfl _ _ w.heap.size _ _ (0, 0) _ rfl (zput_five L4) Try.underlying24 rfl (by kernel_rfl)) rfl HF.out
end
section
open Go.RowKit
set_option maxHeartbeats 2000000 in
theorem zpput_any (S : Nat → Prop) (f : Nat) (t : Sc f) (v : Value) (w : World) (hS : ∀ b, S b → b < w.heap.size) (hv : ZV w S f v t) :
    Calls Try.prog 10 #[v] w (PutZ w (putSc f t)) := by
  obtain ⟨c0, c1, c2, c3, c4, rfl, ht⟩ := hv
  have hv2 : ZV (w.alloc (.cells #[c0, c1, c2, c3, c4] 24)) S f (.agg #[c0, c1, c2, c3, c4]) t := ZV.alloc ⟨c0, c1, c2, c3, c4, rfl, ht⟩ _
  have hm := zpcheck_any S f t _ _ (fun b hb => by have := hS b hb; simp; omega) hv2
  have B0 := (Below.refl w.heap.size w).alloc (Nat.le_refl _) (.cells #[c0, c1, c2, c3, c4] 24)
  have kb := KB.new w 24 #[c0, c1, c2, c3, c4]
  have hby : ∀ W, mayS f t = true → Below (w.alloc (.cells #[c0, c1, c2, c3, c4] 24)).heap.size (w.alloc (.cells #[c0, c1, c2, c3, c4] 24)) W → Calls Try.prog 23 #[.agg #[c0, c1, c2, c3, c4]] W fun e w' => Fresh W e w' (bytesS f t) := fun W h hb => by
    unfold mayS at h
    rw [Bool.and_eq_true, decide_eq_true_eq] at h
    exact zwritten_any S f t _ 8 W h.1 h.2 (hv2.below' hb)
  have HBY := Lib.hid hby
  obtain ⟨D, hD⟩ : ∃ D, D = PutZ w (putSc f t) := ⟨_, rfl⟩
  rw [← hD]
  have HN : Hid (mayS f t = false → ∀ W, Below w.heap.size w W → D (.returned (.tuple #[.slice none 0 0, .int .i64 1])) W) := fun h W hb => by
    rw [hD]; unfold putSc; rw [h]
    exact ⟨_, rfl, World.ownsRow_nil _ _ _ _, hb⟩
  have HY : Hid (mayS f t = true → ∀ W v, W.ownsRow w.heap.size 5 1 v (bytesS f t).length ((bytesS f t).map bv) → Below w.heap.size w W → D (.returned (.tuple #[v, .int .i64 0])) W) := fun h W v ho hb => by
    rw [hD]; unfold putSc; rw [if_pos h]
    exact ⟨_, rfl, ho, hb⟩
  clear hD hby hv2 hS
  obtain ⟨i0, l1, i2, i3, X4, n4, z4, rfl, rfl, rfl, rfl, rfl⟩ := ht.form
  unfold strV at *
  clear ht
  generalize bytesS f t = P at *
  generalize mayS f t = r at *
  cases r with
  | false =>
    rw [if_neg (by decide)] at hm
    have HF := Lib.hid (HN.out rfl)
    clear HN HY HBY
    go_enter Try.func10, Try.ntmps10
    go_wp2_with fail
    refine hm.mono ?_
    rintro e w5 ⟨rfl, b5⟩
    have hf := Lib.hid (HF.out w5 (B0.trans (b5.mono (by simp))))
    clear hm HF
    go_wp2_with fail
    first | exact hf.out | (go_ret2; exact hf.out)
  | true =>
    rw [if_pos rfl] at hm
    have HB := Lib.hid (fun W h => HBY.out W rfl h)
    have HF := Lib.hid (HY.out rfl)
    clear HN HY HBY
    go_enter Try.func10, Try.ntmps10
    go_wp2_with fail
    refine hm.mono ?_
    rintro e w5 ⟨rfl, b5⟩
    have k5 := kb.below b5 kb.lt
    have B5 := B0.trans (b5.mono (by simp))
    have q0 := k5.cell 0
    have q1 := k5.cell 1
    have q2 := k5.cell 2
    have q3 := k5.cell 3
    have q4 := k5.cell 4
    simp only [List.getElem?_toArray, List.getElem?_cons_zero, List.getElem?_cons_succ] at q0 q1 q2 q3 q4
    have hb := HB.out w5 b5
    clear hm HB
    go_wp2_with fail
    refine hb.mono ?_
    rintro e w6 ⟨v6, rfl, o6, b6⟩
    have hf := Lib.hid (HF.out w6 v6 (own_base o6 B5.size) (B5.trans (b6.mono B5.size)))
    clear HF hb
    go_wp2_with fail
    first | exact hf.out | (go_ret2; exact hf.out)
theorem zpread_any (S : Nat → Prop) (g p : Nat) (hgp : g ≠ p) (hSp : ¬ S p) : ∀ k : Nat, ReadIhP S g p k
  | 0 => fun st n w h hp hS hn hl hk => by
    refine zpread_fails S g p 0 hgp hSp st n w h hp hS hn hl hk ?_
    rcases st with _ | _ | ⟨b, l⟩
    · exact .inl rfl
    · exact .inl rfl
    · exact .inr ⟨⟨b, l, rfl⟩, .inr rfl⟩
  | d + 1 => fun st n w h hp hS hn hl hk => by
    have ih := zpread_any S g p hgp hSp d
    rcases st with _ | _ | ⟨b, l⟩
    · exact zpread_fails S g p (d + 1) hgp hSp none n w h hp hS hn hl hk (.inl rfl)
    · exact zpread_fails S g p (d + 1) hgp hSp (some []) n w h hp hS hn hl hk (.inl rfl)
    by_cases hn2 : 24 ≤ n
    · exact zpread_fails S g p (d + 1) hgp hSp (some (b :: l)) n w h hp hS hn hl hk (.inr ⟨⟨b, l, rfl⟩, .inl hn2⟩)
    have hL : l.length + 1 ≤ 1000000 := by simpa using hl
    by_cases h1 : (b.toNat : Int) = 2 ∨ (b.toNat : Int) = 3 ∨ (b.toNat : Int) = 4
    · exact zpread_named S g p d hgp hSp b l n w h hp hS hn2 hL hk h1
    by_cases h2 : (b.toNat : Int) = 5
    · exact zpread_time S g p d hgp hSp b l n w h hp hS hn2 hL hk h2
    by_cases h3 : (b.toNat : Int) = 6 ∨ (b.toNat : Int) = 7
    · exact zpread_many S g p d hgp hSp ih b l n w h hp hS hn2 hL hk h3
    by_cases h4 : (b.toNat : Int) = 8
    · exact zpread_not S g p d hgp hSp ih b l n w h hp hS hn2 hL hk h4
    · exact zpread_other S g p d hgp hSp b l n w h hp hS hn2 hL hk (by omega)
set_option maxHeartbeats 8000000 in
theorem zpget_any (S : Nat → Prop) (v : Value) (b : List UInt8) (w : World) (h : BS w S v b) (hl : b.length ≤ 1000000) :
    Calls Try.prog 15 #[v] w (GetZ w b) := by
  obtain ⟨A, c, rfl, hlc, hmc, _⟩ := h.form
  have K := KB.new w 24 #[.int .i64 0, .string ⟨#[]⟩, .int .i64 0, .int .i64 0, .slice none 0 0]
  have B := (Below.refl w.heap.size w).alloc (Nat.le_refl _) (.cells #[.int .i64 0, .string ⟨#[]⟩, .int .i64 0, .int .i64 0, .slice none 0 0] 24)
  have hw := h.alloc (.cells #[.int .i64 0, .string ⟨#[]⟩, .int .i64 0, .int .i64 0, .slice none 0 0] 24)
  have hnw := new_any S _ b _ hw (by omega)
  obtain ⟨Q, hQ⟩ : ∃ Q, Q = GetZ w b := ⟨_, rfl⟩
  rw [← hQ]
  have HNO : Hid (getSc b = (zeroNs, 2) → ∀ W, Below w.heap.size w W → Q (.returned (.tuple #[.agg #[.int .i64 0, .string ⟨#[]⟩, .int .i64 0, .int .i64 0, .slice none 0 0], .int .i64 2])) W) := fun h W hb => by
    rw [hQ]
    unfold GetZ
    rw [h]
    exact ⟨_, rfl, zero_ZV _ _ _, hb⟩
  have HYES : Hid (∀ x W u, getSc b = (x, 0) → ZV W (fun y => w.heap.size ≤ y ∧ y < W.heap.size) 9 u x → Below w.heap.size w W → Q (.returned (.tuple #[u, .int .i64 0])) W) := fun x W u h hz hb => by
    rw [hQ]
    unfold GetZ
    rw [h]
    exact ⟨_, rfl, hz, hb⟩
  clear hQ h hw
  have hgb := getB_is b
  unfold getB at hgb
  have hrd := fun (W : World) (S' : Nat → Prop) (g p : Nat) (h1 : g ≠ p) (h2 : ¬ S' p) (R : RD W g S' (some b)) (hp : KB W p 3 #[.int .i64 ((0 : Nat) : Int)]) (hS : ∀ x, S' x → x < W.heap.size) => zpread_any S' g p h1 h2 8 (some b) 0 W R hp hS (by omega) (by simpa using hl) (by omega)
  simp only [show (9 : Int) - ((8 : Nat) : Int) = 1 from rfl, show ((0 : Nat) : Int) = 0 from rfl] at hrd
  generalize readB 8 (some b) 0 = RB at *
  have HRD := Lib.hid hrd
  clear hrd
  go_enter Try.func15, Try.ntmps15
  go_wp2_with fail
  refine hnw.mono ?_
  rintro e w1 ⟨g, rfl, hg0, hg1, R1, b1⟩
  have hg0' : w.heap.size + 1 ≤ g := by simpa using hg0
  have K1 := K.below b1 K.lt
  have B1 := B.trans (b1.mono B.size)
  have PN := KB.new w1 3 #[.int .i64 0]
  have RN := R1.alloc (.cells #[.int .i64 0] 3)
  have hc := HRD.out _ _ g w1.heap.size (by omega) (fun h => by have := h.2; omega) RN PN (fun x hx => by simp; have := hx.2; omega)
  have K2 := K1.alloc (.cells #[.int .i64 0] 3)
  have B2 := B1.alloc B1.size (.cells #[.int .i64 0] 3)
  have hsw := B1.size
  clear HRD hnw K B R1 K1 B1 PN RN b1 hg0
  go_wp2_with fail
  refine hc.mono ?_
  rintro e w2 ⟨k5, hno, hys⟩
  have hgz : w.heap.size < g := by omega
  have K5 := K2.keepP k5 ⟨by simp; omega, by omega, by omega⟩
  have B5 := B2.trans (k5.to_below (B := w.heap.size) fun x hx => ⟨by simp; omega, by omega, by omega⟩)
  have s5 : w1.heap.size + 1 ≤ w2.heap.size := by have := k5.size; simpa using this
  clear hc K2 B2 k5
  cases RB with
  | none =>
    obtain rfl := hno rfl
    have K6 := K5.alloc (.cells #[.int .i64 0, .string ⟨#[]⟩, .int .i64 0, .int .i64 0, .slice none 0 0] 24)
    have B6 := B5.alloc B5.size (.cells #[.int .i64 0, .string ⟨#[]⟩, .int .i64 0, .int .i64 0, .slice none 0 0] 24)
    have hf := HNO.out hgb.symm _ (B6.trans (below_of_grown' (zgrown_five (w2.alloc (.cells #[.int .i64 0, .string ⟨#[]⟩, .int .i64 0, .int .i64 0, .slice none 0 0] 24)) w.heap.size (.int .i64 0) (.string ⟨#[]⟩) (.int .i64 0) (.int .i64 0) (.slice none 0 0)) (Nat.le_refl _) B6.size))
    have HF := Lib.hid hf
    clear hf HNO HYES hgb hno hys K5 B5
    have c0 : (w2.alloc (.cells #[.int .i64 0, .string ⟨#[]⟩, .int .i64 0, .int .i64 0, .slice none 0 0] 24)).cell? ⟨w.heap.size, 0, none⟩ = some (.int .i64 0) := K6.cell 0
    have c1 : (w2.alloc (.cells #[.int .i64 0, .string ⟨#[]⟩, .int .i64 0, .int .i64 0, .slice none 0 0] 24)).cell? ⟨w.heap.size, 1, none⟩ = some (.string ⟨#[]⟩) := K6.cell 1
    have c2 : (w2.alloc (.cells #[.int .i64 0, .string ⟨#[]⟩, .int .i64 0, .int .i64 0, .slice none 0 0] 24)).cell? ⟨w.heap.size, 2, none⟩ = some (.int .i64 0) := K6.cell 2
    have c3 : (w2.alloc (.cells #[.int .i64 0, .string ⟨#[]⟩, .int .i64 0, .int .i64 0, .slice none 0 0] 24)).cell? ⟨w.heap.size, 3, none⟩ = some (.int .i64 0) := K6.cell 3
    have c4 : (w2.alloc (.cells #[.int .i64 0, .string ⟨#[]⟩, .int .i64 0, .int .i64 0, .slice none 0 0] 24)).cell? ⟨w.heap.size, 4, none⟩ = some (.slice none 0 0) := K6.cell 4
    have f0 := K6.free 0
    have f1 := K6.free 1
    have f2 := K6.free 2
    have f3 := K6.free 3
    have f4 := K6.free 4
    go_wp2_with fail
    exact bodyPost_ret (results_cell_tmp (P := Try.prog) (p := 2) (u := 3) rfl _ _ w.heap.size _ _ (0, 0) _ rfl (zput_five K6) Try.underlying24 rfl (by kernel_rfl)) rfl HF.out
  | some X =>
    obtain ⟨v5, rfl, r5, p5, z5⟩ := hys X rfl
    obtain ⟨sX, nX, x⟩ := X
    dsimp only at r5 p5 z5 hgb
    have z6 := z5
    obtain ⟨e0, e1, e2, e3, e4, rfl, tm⟩ := z5
    obtain ⟨j0, l1, i2, i3, X4, n4, z4, rfl, rfl, rfl, rfl, rfl⟩ := tm.form
    unfold strV at *
    generalize (⟨l1.toArray⟩ : ByteArray) = s1 at *
    have K6 := K5.alloc (.cells #[.int .i64 j0, .string s1, .int .i64 i2, .int .i64 i3, .slice X4 n4 z4] 24)
    have B6 := B5.alloc B5.size (.cells #[.int .i64 j0, .string s1, .int .i64 i2, .int .i64 i3, .slice X4 n4 z4] 24)
    have R6 := r5.alloc (.cells #[.int .i64 j0, .string s1, .int .i64 i2, .int .i64 i3, .slice X4 n4 z4] 24)
    have T6 := KB.new w2 24 #[.int .i64 j0, .string s1, .int .i64 i2, .int .i64 i3, .slice X4 n4 z4]
    have Z6 := z6.alloc (.cells #[.int .i64 j0, .string s1, .int .i64 i2, .int .i64 i3, .slice X4 n4 z4] 24)
    have Z6 : ZV (w2.alloc (.cells #[.int .i64 j0, .string s1, .int .i64 i2, .int .i64 i3, .slice X4 n4 z4] 24)) (fun y => w.heap.size < y ∧ y < w2.heap.size) 9 (.agg #[.int .i64 j0, .string s1, .int .i64 i2, .int .i64 i3, .slice X4 n4 z4]) x := Z6.mono fun y hy => ⟨by have := hy.1; simp at this; omega, hy.2⟩
    have hok := ok_rd g _ sX _ R6
    have hle := left_rd g _ sX _ R6
    have hch := zpcheck_any _ 9 x _ _ (fun y hy => by simp; have := hy.2; omega) Z6
    clear r5 p5 z6 tm K5 B5 hno hys R6
    have HREJ : Hid (∀ W, getSc b = (zeroNs, 2) → Below w.heap.size w W → Q (.returned (.tuple #[.agg #[.int .i64 0, .string ⟨#[]⟩, .int .i64 0, .int .i64 0, .slice none 0 0], .int .i64 2])) (((((W.setCell ⟨w.heap.size, 0, none⟩ (.int .i64 0)).setCell ⟨w.heap.size, 1, none⟩ (.string ⟨#[]⟩)).setCell ⟨w.heap.size, 2, none⟩ (.int .i64 0)).setCell ⟨w.heap.size, 3, none⟩ (.int .i64 0)).setCell ⟨w.heap.size, 4, none⟩ (.slice none 0 0))) := fun W h hb =>
      HNO.out h _ (hb.trans (below_of_grown' (zgrown_five W w.heap.size (.int .i64 0) (.string ⟨#[]⟩) (.int .i64 0) (.int .i64 0) (.slice none 0 0)) (Nat.le_refl _) hb.size))
    clear HNO
    cases sX with
    | none =>
      rw [if_neg (by simp)] at hgb
      have HF := Lib.hid (HREJ.out _ hgb.symm B6)
      clear HREJ HYES hgb hle hch
      have c0 : (w2.alloc (.cells #[.int .i64 j0, .string s1, .int .i64 i2, .int .i64 i3, .slice X4 n4 z4] 24)).cell? ⟨w.heap.size, 0, none⟩ = some (.int .i64 0) := K6.cell 0
      have c1 : (w2.alloc (.cells #[.int .i64 j0, .string s1, .int .i64 i2, .int .i64 i3, .slice X4 n4 z4] 24)).cell? ⟨w.heap.size, 1, none⟩ = some (.string ⟨#[]⟩) := K6.cell 1
      have c2 : (w2.alloc (.cells #[.int .i64 j0, .string s1, .int .i64 i2, .int .i64 i3, .slice X4 n4 z4] 24)).cell? ⟨w.heap.size, 2, none⟩ = some (.int .i64 0) := K6.cell 2
      have c3 : (w2.alloc (.cells #[.int .i64 j0, .string s1, .int .i64 i2, .int .i64 i3, .slice X4 n4 z4] 24)).cell? ⟨w.heap.size, 3, none⟩ = some (.int .i64 0) := K6.cell 3
      have c4 : (w2.alloc (.cells #[.int .i64 j0, .string s1, .int .i64 i2, .int .i64 i3, .slice X4 n4 z4] 24)).cell? ⟨w.heap.size, 4, none⟩ = some (.slice none 0 0) := K6.cell 4
      have f0 := K6.free 0
      have f1 := K6.free 1
      have f2 := K6.free 2
      have f3 := K6.free 3
      have f4 := K6.free 4
      go_wp2_with fail
      refine hok.mono ?_
      rintro e w9 ⟨rfl, rfl⟩
      clear hok
      go_wp2_with fail
      exact bodyPost_ret (results_cell_tmp (P := Try.prog) (p := 2) (u := 3) rfl _ _ w.heap.size _ _ (0, 0) _ rfl (zput_five K6) Try.underlying24 rfl (by kernel_rfl)) rfl HF.out
    | some rest =>
      cases rest with
      | cons y ys =>
        rw [if_neg (by simp)] at hgb
        have HF := Lib.hid (HREJ.out _ hgb.symm B6)
        have hpos : (0 : Int) < (((some (y :: ys)).getD []).length : Int) := by simp
        clear HREJ HYES hgb hch
        generalize (((some (y :: ys)).getD []).length : Int) = ln at *
        have c0 : (w2.alloc (.cells #[.int .i64 j0, .string s1, .int .i64 i2, .int .i64 i3, .slice X4 n4 z4] 24)).cell? ⟨w.heap.size, 0, none⟩ = some (.int .i64 0) := K6.cell 0
        have c1 : (w2.alloc (.cells #[.int .i64 j0, .string s1, .int .i64 i2, .int .i64 i3, .slice X4 n4 z4] 24)).cell? ⟨w.heap.size, 1, none⟩ = some (.string ⟨#[]⟩) := K6.cell 1
        have c2 : (w2.alloc (.cells #[.int .i64 j0, .string s1, .int .i64 i2, .int .i64 i3, .slice X4 n4 z4] 24)).cell? ⟨w.heap.size, 2, none⟩ = some (.int .i64 0) := K6.cell 2
        have c3 : (w2.alloc (.cells #[.int .i64 j0, .string s1, .int .i64 i2, .int .i64 i3, .slice X4 n4 z4] 24)).cell? ⟨w.heap.size, 3, none⟩ = some (.int .i64 0) := K6.cell 3
        have c4 : (w2.alloc (.cells #[.int .i64 j0, .string s1, .int .i64 i2, .int .i64 i3, .slice X4 n4 z4] 24)).cell? ⟨w.heap.size, 4, none⟩ = some (.slice none 0 0) := K6.cell 4
        have f0 := K6.free 0
        have f1 := K6.free 1
        have f2 := K6.free 2
        have f3 := K6.free 3
        have f4 := K6.free 4
        go_wp2_with fail
        refine hok.mono ?_
        rintro e w9 ⟨rfl, rfl⟩
        clear hok
        go_wp2_with fail
        refine hle.mono ?_
        rintro e w9 ⟨rfl, rfl⟩
        clear hle
        go_wp2_with fail
        exact bodyPost_ret (results_cell_tmp (P := Try.prog) (p := 2) (u := 3) rfl _ _ w.heap.size _ _ (0, 0) _ rfl (zput_five K6) Try.underlying24 rfl (by kernel_rfl)) rfl HF.out
      | nil =>
        cases hmay : mayS 9 x with
        | false =>
          rw [if_neg (by rw [hmay]; simp)] at hgb
          rw [hmay, if_neg (by simp)] at hch
          have HF2 := Lib.hid (fun W hW => HREJ.out W hgb.symm hW)
          clear HREJ HYES hgb hmay
          go_wp2_with fail
          refine hok.mono ?_
          rintro e w9 ⟨rfl, rfl⟩
          clear hok
          go_wp2_with fail
          refine hle.mono ?_
          rintro e w9 ⟨rfl, rfl⟩
          clear hle
          go_wp2_with fail
          refine hch.mono ?_
          rintro e w4 ⟨rfl, b4⟩
          have K4 := K6.below b4 K6.lt
          have HF := Lib.hid (HF2.out w4 (B6.trans (b4.mono B6.size)))
          clear hch HF2 K6 B6
          have c0 : w4.cell? ⟨w.heap.size, 0, none⟩ = some (.int .i64 0) := K4.cell 0
          have c1 : w4.cell? ⟨w.heap.size, 1, none⟩ = some (.string ⟨#[]⟩) := K4.cell 1
          have c2 : w4.cell? ⟨w.heap.size, 2, none⟩ = some (.int .i64 0) := K4.cell 2
          have c3 : w4.cell? ⟨w.heap.size, 3, none⟩ = some (.int .i64 0) := K4.cell 3
          have c4 : w4.cell? ⟨w.heap.size, 4, none⟩ = some (.slice none 0 0) := K4.cell 4
          have f0 := K4.free 0
          have f1 := K4.free 1
          have f2 := K4.free 2
          have f3 := K4.free 3
          have f4 := K4.free 4
          go_wp2_with fail
          exact bodyPost_ret (results_cell_tmp (P := Try.prog) (p := 2) (u := 3) rfl _ _ w.heap.size _ _ (0, 0) _ rfl (zput_five K4) Try.underlying24 rfl (by kernel_rfl)) rfl HF.out
        | true =>
          rw [if_pos ⟨rfl, hmay⟩] at hgb
          rw [hmay, if_pos rfl] at hch
          have HF2 := Lib.hid (fun W u hz hW => HYES.out x W u hgb.symm hz hW)
          clear HREJ HYES hgb hmay
          go_wp2_with fail
          refine hok.mono ?_
          rintro e w9 ⟨rfl, rfl⟩
          clear hok
          go_wp2_with fail
          refine hle.mono ?_
          rintro e w9 ⟨rfl, rfl⟩
          clear hle
          go_wp2_with fail
          refine hch.mono ?_
          rintro e w4 ⟨rfl, b4⟩
          have K4 := K6.below b4 K6.lt
          have B4 := B6.trans (b4.mono B6.size)
          have T4 := T6.below b4 T6.lt
          have tv4 := Z6.below' b4
          have s4 : w2.heap.size + 1 ≤ w4.heap.size := by have := b4.size; simpa using this
          have hfin : ZV (((((w4.setCell ⟨w.heap.size, 0, none⟩ (.int .i64 j0)).setCell ⟨w.heap.size, 1, none⟩ (.string s1)).setCell ⟨w.heap.size, 2, none⟩ (.int .i64 i2)).setCell ⟨w.heap.size, 3, none⟩ (.int .i64 i3)).setCell ⟨w.heap.size, 4, none⟩ (.slice X4 n4 z4)) (fun y => w.heap.size ≤ y ∧ y < (((((w4.setCell ⟨w.heap.size, 0, none⟩ (.int .i64 j0)).setCell ⟨w.heap.size, 1, none⟩ (.string s1)).setCell ⟨w.heap.size, 2, none⟩ (.int .i64 i2)).setCell ⟨w.heap.size, 3, none⟩ (.int .i64 i3)).setCell ⟨w.heap.size, 4, none⟩ (.slice X4 n4 z4)).heap.size) 9 (.agg #[.int .i64 j0, .string s1, .int .i64 i2, .int .i64 i3, .slice X4 n4 z4]) x :=
            tv4.keepL (Nat.le_of_eq (zsets_size _ _ _ _ _ _ _)) (fun y hy _ => zsets_block _ _ _ _ _ _ _ _ (by have := hy.1; omega)) fun y hy hlt => ⟨by have := hy.1; omega, by rw [← zsets_size]; exact hlt⟩
          have HF := Lib.hid (HF2.out _ _ hfin (B4.trans (below_of_grown' (zgrown_five w4 w.heap.size (.int .i64 j0) (.string s1) (.int .i64 i2) (.int .i64 i3) (.slice X4 n4 z4)) (Nat.le_refl _) B4.size)))
          clear hch HF2 K6 B6 T6 Z6 tv4 hfin b4
          have c0 : w4.cell? ⟨w.heap.size, 0, none⟩ = some (.int .i64 0) := K4.cell 0
          have c1 : w4.cell? ⟨w.heap.size, 1, none⟩ = some (.string ⟨#[]⟩) := K4.cell 1
          have c2 : w4.cell? ⟨w.heap.size, 2, none⟩ = some (.int .i64 0) := K4.cell 2
          have c3 : w4.cell? ⟨w.heap.size, 3, none⟩ = some (.int .i64 0) := K4.cell 3
          have c4 : w4.cell? ⟨w.heap.size, 4, none⟩ = some (.slice none 0 0) := K4.cell 4
          have f0 := K4.free 0
          have f1 := K4.free 1
          have f2 := K4.free 2
          have f3 := K4.free 3
          have f4 := K4.free 4
          have d0 : w4.cell? ⟨w2.heap.size, 0, none⟩ = some (.int .i64 j0) := T4.cell 0
          have d1 : w4.cell? ⟨w2.heap.size, 1, none⟩ = some (.string s1) := T4.cell 1
          have d2 : w4.cell? ⟨w2.heap.size, 2, none⟩ = some (.int .i64 i2) := T4.cell 2
          have d3 : w4.cell? ⟨w2.heap.size, 3, none⟩ = some (.int .i64 i3) := T4.cell 3
          have d4 : w4.cell? ⟨w2.heap.size, 4, none⟩ = some (.slice X4 n4 z4) := T4.cell 4
          go_wp2_with fail
          exact bodyPost_ret (results_cell_tmp (P := Try.prog) (p := 2) (u := 3) rfl _ _ w.heap.size _ _ (0, 0) _ rfl (zput_five K4) Try.underlying24 rfl (by kernel_rfl)) rfl HF.out
end
end Go.Proofs.Ytcbkokhjdleoeaa
