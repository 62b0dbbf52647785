/-
  The law CommitBinds over the loaded program: two commitments that are the same are of one salt and payload, or two unlike texts of those that were summed have one sum; nor is a commitment a link. No condition but the table's.
-/
import Derived.Test.YtjcdkfnjlmofiaaDoorCmL
import Derived.Test.YtjcdkfnjlmofiaaDoorCmC
import Derived.Test.YtjcdkfnjlmofiaaDoorCmO
import Derived.Test.YtjcdkfnjlmofiaaDoorCmW
import Derived.Test.YtjcdkfnjlmofiaaDoorInv
import Derived.Deep.CutRange
namespace Go.Proofs.YtjcdkfnjlmofiaaDoor
open Go.RowKit Go.ChangeShapes Go.WideShapes Go.Joins
set_option linter.unusedVariables false

attribute [local go_sem ↓] load32
attribute [local go_sem] rowOf_drew rowOf_drewN ptrBlock_mk

set_option maxRecDepth 100000 in
set_option maxHeartbeats 16000000 in
theorem commitBinds_any (s t : Nat) (hs : s < 18446744073709551616) (ht64 : t < 18446744073709551616) (xv yv : Value) (a b : List UInt8) (i : Int) (p : List UInt8) (hp : p.length = 32) (w : World)
    (hxa : BS w (fun k => k < w.heap.size) xv a) (hyb : BS w (fun k => k < w.heap.size) yv b) (ht : Tab w) :
    Calls Tryd.prog 5 #[.agg #[.int .u64 s, .int .u64 t, xv, yv], .int .i64 i, .agg (p.map bv).toArray] w fun e w' => e = .returned (.bool true) ∧ Below w.heap.size w w' := by
  obtain ⟨A1, c1, rfl, _⟩ := hxa.form
  obtain ⟨A2, c2, rfl, _⟩ := hyb.form
  have kx1 : KB ((w.alloc (.cells #[.int .u64 s, .int .u64 t, .slice A1 a.length c1, .slice A2 b.length c2] 32)).alloc (.cells (p.map bv).toArray 24)) w.heap.size 32 #[.int .u64 s, .int .u64 t, .slice A1 a.length c1, .slice A2 b.length c2] := (KB.new _ _ _).alloc _
  have kp1 : KB ((w.alloc (.cells #[.int .u64 s, .int .u64 t, .slice A1 a.length c1, .slice A2 b.length c2] 32)).alloc (.cells (p.map bv).toArray 24)) (w.heap.size + 1) 24 (p.map bv).toArray := by
    have := KB.new (w.alloc (.cells #[.int .u64 s, .int .u64 t, .slice A1 a.length c1, .slice A2 b.length c2] 32)) 24 (p.map bv).toArray
    rw [World.size_alloc] at this
    exact this
  have B1 : Below w.heap.size w ((w.alloc (.cells #[.int .u64 s, .int .u64 t, .slice A1 a.length c1, .slice A2 b.length c2] 32)).alloc (.cells (p.map bv).toArray 24)) := ((Below.refl _ _).alloc (Nat.le_refl _) _).alloc (by simp) _
  have t1 := ht.below B1
  have ha1 := hxa.below' B1
  have hb1 := hyb.below' B1
  have hpl : (p.map bv).length = 32 := by rw [List.length_map]; exact hp
  have x2 : World.cell? ((w.alloc (.cells #[.int .u64 s, .int .u64 t, .slice A1 a.length c1, .slice A2 b.length c2] 32)).alloc (.cells (p.map bv).toArray 24)) ⟨w.heap.size, 2, none⟩ = some (.slice A1 a.length c1) := kx1.cell 2
  have x3 : World.cell? ((w.alloc (.cells #[.int .u64 s, .int .u64 t, .slice A1 a.length c1, .slice A2 b.length c2] 32)).alloc (.cells (p.map bv).toArray 24)) ⟨w.heap.size, 3, none⟩ = some (.slice A2 b.length c2) := kx1.cell 3
  have hlv := fun (W : World) (h : Tab W) => clive_any W h
  by_cases hla : 1000 < a.length
  · have hla' : (1000 : Int) < a.length := by omega
    generalize p.map bv = ps at *
    go_enter Tryd.func5, Tryd.ntmps5
    go_wp2_with fail
    refine (hlv _ t1).mono ?_
    rintro e w2 ⟨rfl, b2⟩
    go_wp2_with fail
    go_ret
    exact ⟨rfl, B1.trans (b2.mono B1.size)⟩
  by_cases hlb : 1000 < b.length
  · have hla' : (a.length : Int) ≤ 1000 := by omega
    have hlb' : (1000 : Int) < b.length := by omega
    generalize p.map bv = ps at *
    go_enter Tryd.func5, Tryd.ntmps5
    go_wp2_with fail
    refine (hlv _ t1).mono ?_
    rintro e w2 ⟨rfl, b2⟩
    go_wp2_with fail
    go_ret
    exact ⟨rfl, B1.trans (b2.mono B1.size)⟩
  · have hla' : (a.length : Int) ≤ 1000 := by omega
    have hlb' : (b.length : Int) ≤ 1000 := by omega
    have HLA : Hid (a.length ≤ 1000 ∧ b.length ≤ 1000) := ⟨by omega, by omega⟩
    have ho1 := fun (W : World) (h : BS W (fun k => k < w.heap.size) (.slice A1 a.length c1) a) (ht : Tab W) => cof_any _ _ s a W h hs (by omega) ht
    have ho2 := fun (W : World) (h : BS W (fun k => k < w.heap.size) (.slice A2 b.length c2) b) (ht : Tab W) => cof_any _ _ t b W h ht64 (by omega) ht
    unfold Sum32 at ho1 ho2
    have HU1 : Hid (((sumB (comB s a)).map bv).length = 32) := by show _ = _; rw [List.length_map, sumB_length]
    have HU2 : Hid (((sumB (comB t b)).map bv).length = 32) := by show _ = _; rw [List.length_map, sumB_length]
    have hu1 := bytes_one' (sumB (comB s a))
    have hu2 := bytes_one' (sumB (comB t b))
    obtain ⟨s1, hs1⟩ : ∃ s1, s1 = (sumB (comB s a)).map bv := ⟨_, rfl⟩
    obtain ⟨s2, hs2⟩ : ∃ s2, s2 = (sumB (comB t b)).map bv := ⟨_, rfl⟩
    rw [← hs1] at ho1 HU1 hu1
    rw [← hs2] at ho2 HU2 hu2
    obtain ⟨ps, hps⟩ : ∃ ps, ps = p.map bv := ⟨_, rfl⟩
    rw [← hps] at kx1 kp1 B1 t1 ha1 hb1 hpl x2 x3 ⊢
    have HS1 := Lib.hid hs1
    have HS2 := Lib.hid hs2
    have HPS := Lib.hid hps
    have HO1 := Lib.hid ho1
    have HO2 := Lib.hid ho2
    have HLV := Lib.hid hlv
    clear ho1 ho2 hlv hs1 hs2 hps
    go_enter Tryd.func5, Tryd.ntmps5
    go_wp2_with fail
    generalize (w.alloc (.cells #[.int .u64 s, .int .u64 t, .slice A1 a.length c1, .slice A2 b.length c2] 32)).alloc (.cells ps.toArray 24) = w1 at *
    clear x2 x3
    have HLK0 := fun (W : World) (h : Tab W) => clink_any i p (sumB (comB s a)) W hp (sumB_length _) h
    unfold Sum32 at HLK0
    have HU3 : Hid (((sumB (linkB i p (sumB (comB s a)))).map bv).length = 32) := by show _ = _; rw [List.length_map, sumB_length]
    have hu3 := bytes_one' (sumB (linkB i p (sumB (comB s a))))
    obtain ⟨s3, hs3⟩ : ∃ s3, s3 = (sumB (linkB i p (sumB (comB s a)))).map bv := ⟨_, rfl⟩
    rw [← hs3] at HLK0 HU3 hu3
    rw [← HPS.out, ← HS1.out] at HLK0
    have HS3 := Lib.hid hs3
    have HLK := Lib.hid HLK0
    clear hs3 HLK0
    go_cut [7, 8] from 25 to 34 (fun u v wc => ∃ gA gB, VA u gA w1.heap.size wc s1 ∧ VA v gB w1.heap.size wc s2 ∧ gA ≠ gB ∧ Below w1.heap.size w1 wc)
    case first =>
      refine wp_region_any (by kernel_rfl) ?_
      change wpAny _ _ _ _ _ _ _ (World.drew _)
      refine wpAny_inv (fun listed act w' => ∃ (r0 r1 r2 r3 r4 r5 r6 r7 r8 r9 r10 r11 r12 r13 : Bool) (u7 u8 u25 u26 u27 u28 u29 u30 u31 u32 u33 u34 : Value) (gA gB : Nat), listed = #[r0, r1, r2, r3, r4, r5, r6, r7, r8, r9, r10, r11, r12, r13] ∧ act = { tmps := #[.agg #[.int .u64 s, .int .u64 t, .slice A1 a.length c1, .slice A2 b.length c2], .int .i64 i, .agg ps.toArray, .pointer (some ⟨w.heap.size, 0, none⟩), undef, .pointer (some ⟨w.heap.size + 1, 0, none⟩), .bool false, u7, u8, undef, undef, undef, undef, undef, .pointer (some ⟨w.heap.size, 2, none⟩), .slice A1 a.length c1, .int .i64 a.length, .bool (decide ((1000 : Int) < (a.length : Int))), .bool (decide ((1000 : Int) < (a.length : Int))), .pointer (some ⟨w.heap.size, 3, none⟩), .slice A2 b.length c2, .int .i64 b.length, .bool (decide ((1000 : Int) < (b.length : Int))), .bool (decide ((1000 : Int) < (a.length : Int)) || decide ((1000 : Int) < (b.length : Int))), undef, u25, u26, u27, u28, u29, u30, u31, u32, u33, u34, undef, undef, undef, undef, undef, undef, undef, undef, undef, undef, undef, undef, undef, undef, undef, undef, undef, undef, undef, undef, undef, undef, undef, undef, undef, undef, undef, undef, undef, undef, undef, undef, undef, undef, undef, undef, undef, undef, undef, undef, undef, undef, undef, undef, undef, undef, undef, undef, undef, undef, undef, undef, undef, undef, undef, undef, undef, undef, undef, undef, undef, undef, undef, undef, undef, undef, undef, undef, undef, undef, undef, undef, undef, undef, undef, undef, undef, undef, undef, undef, undef, undef, undef, undef, undef, undef, undef, undef, undef, undef, undef, undef, undef], defers := [] } ∧ Below w1.heap.size w1 w' ∧ Hid (r0 = true → u25 = .pointer (some ⟨w.heap.size, 0, none⟩)) ∧ Hid (r1 = true → u26 = .int .u64 s) ∧ Hid (r2 = true → u27 = .pointer (some ⟨w.heap.size, 2, none⟩)) ∧ Hid (r3 = true → u28 = .slice A1 a.length c1) ∧ Hid (r4 = true → u29 = .agg s1.toArray) ∧ Hid (r5 = true → u30 = .pointer (some ⟨w.heap.size, 1, none⟩)) ∧ Hid (r6 = true → u31 = .int .u64 t) ∧ Hid (r7 = true → u32 = .pointer (some ⟨w.heap.size, 3, none⟩)) ∧ Hid (r8 = true → u33 = .slice A2 b.length c2) ∧ Hid (r9 = true → u34 = .agg s2.toArray) ∧ Hid (r10 = true → VA u7 gA w1.heap.size w' (bif r12 then s1 else z32.map bv)) ∧ Hid (r11 = true → VA u8 gB w1.heap.size w' (bif r13 then s2 else z32.map bv)) ∧ Hid (r10 = true → r11 = true → gA ≠ gB) ∧ Hid (r12 = true → r10 = true) ∧ Hid (r13 = true → r11 = true)) ?_ ?_ _ _ _ _
        ⟨false, false, false, false, false, false, false, false, false, false, false, false, false, false, _, _, _, _, _, _, _, _, _, _, _, _, 0, 0, rfl, rfl, Below_drawn (Below.refl _ _) 1, (fun k => by cases k), (fun k => by cases k), (fun k => by cases k), (fun k => by cases k), (fun k => by cases k), (fun k => by cases k), (fun k => by cases k), (fun k => by cases k), (fun k => by cases k), (fun k => by cases k), (fun k => by cases k), (fun k => by cases k), (fun k => by cases k), (fun k => by cases k), (fun k => by cases k)⟩ rfl
      · rintro fuel listed act w' ⟨r0, r1, r2, r3, r4, r5, r6, r7, r8, r9, r10, r11, r12, r13, u7, u8, u25, u26, u27, u28, u29, u30, u31, u32, u33, u34, gA, gB, rfl, rfl, hB, e0, e1, e2, e3, e4, e5, e6, e7, e8, e9, x10, x11, dd, y12, y13⟩ _ hr
        have hnr : ∀ i : Nat, ¬ i ∈ ([] : List Nat) := by simp
        rw [← hr] at hnr
        have t0 : r0 = true := not_ready2 (hnr 0) (by simp [Region.binds])
        subst t0
        have t1 : r1 = true := not_ready2 (hnr 1) (by simp [Region.binds])
        subst t1
        have t2 : r2 = true := not_ready2 (hnr 2) (by simp [Region.binds])
        subst t2
        have t3 : r3 = true := not_ready2 (hnr 3) (by simp [Region.binds])
        subst t3
        have t4 : r4 = true := not_ready2 (hnr 4) (by simp [Region.binds])
        subst t4
        have t5 : r5 = true := not_ready2 (hnr 5) (by simp [Region.binds])
        subst t5
        have t6 : r6 = true := not_ready2 (hnr 6) (by simp [Region.binds])
        subst t6
        have t7 : r7 = true := not_ready2 (hnr 7) (by simp [Region.binds])
        subst t7
        have t8 : r8 = true := not_ready2 (hnr 8) (by simp [Region.binds])
        subst t8
        have t9 : r9 = true := not_ready2 (hnr 9) (by simp [Region.binds])
        subst t9
        have t10 : r10 = true := not_ready2 (hnr 10) (by simp [Region.binds])
        subst t10
        have t11 : r11 = true := not_ready2 (hnr 11) (by simp [Region.binds])
        subst t11
        have t12 : r12 = true := not_ready2 (hnr 12) (by simp [Region.binds])
        subst t12
        have t13 : r13 = true := not_ready2 (hnr 13) (by simp [Region.binds])
        subst t13
        obtain rfl := e0.out rfl
        obtain rfl := e1.out rfl
        obtain rfl := e2.out rfl
        obtain rfl := e3.out rfl
        obtain rfl := e4.out rfl
        obtain rfl := e5.out rfl
        obtain rfl := e6.out rfl
        obtain rfl := e7.out rfl
        obtain rfl := e8.out rfl
        obtain rfl := e9.out rfl
        clear hnr hr
        have X10 := x10.out rfl
        have X11 := x11.out rfl
        have DD := dd.out rfl rfl
        clear x10 x11 dd y12 y13
        go_wp2_with fail
        go_meet
        exact ⟨gA, gB, X10, X11, DD, hB⟩
      · rintro fuel listed act w' ⟨r0, r1, r2, r3, r4, r5, r6, r7, r8, r9, r10, r11, r12, r13, u7, u8, u25, u26, u27, u28, u29, u30, u31, u32, u33, u34, gA, gB, rfl, rfl, hB, e0, e1, e2, e3, e4, e5, e6, e7, e8, e9, x10, x11, dd, y12, y13⟩ _
        right
        intro i hi
        obtain ⟨hlt9, hfl, ha⟩ := mem_ready hi
        have hi9 : i < 14 := hlt9
        clear hlt9 hi
        have KX := kx1.below hB kx1.lt
        have x0 : w'.cell? ⟨w.heap.size, 0, none⟩ = some (.int .u64 s) := KX.cell 0
        have x1 : w'.cell? ⟨w.heap.size, 1, none⟩ = some (.int .u64 t) := KX.cell 1
        have x2 : w'.cell? ⟨w.heap.size, 2, none⟩ = some (.slice A1 a.length c1) := KX.cell 2
        have x3 : w'.cell? ⟨w.heap.size, 3, none⟩ = some (.slice A2 b.length c2) := KX.cell 3
        have hcase : i = 0 ∨ i = 1 ∨ i = 2 ∨ i = 3 ∨ i = 4 ∨ i = 5 ∨ i = 6 ∨ i = 7 ∨ i = 8 ∨ i = 9 ∨ i = 10 ∨ i = 11 ∨ i = 12 ∨ i = 13 := by omega
        clear hi9
        rcases hcase with rfl | rfl | rfl | rfl | rfl | rfl | rfl | rfl | rfl | rfl | rfl | rfl | rfl | rfl
        · clear ha hfl
          refine wpOp_step rfl (fun K0 hK => ?_)
          go_simp
          refine hK _ _ ?_
          exact ⟨true, r1, r2, r3, r4, r5, r6, r7, r8, r9, r10, r11, r12, r13, u7, u8, _, u26, u27, u28, u29, u30, u31, u32, u33, u34, gA, gB, rfl, rfl, hB, (fun _ => rfl), e1, e2, e3, e4, e5, e6, e7, e8, e9, x10, x11, dd, y12, y13⟩
        · have g0 : r0 = true := by
            have := ha _ rfl
            simp [Region.binds] at this
            simp [this]
          clear ha hfl
          obtain rfl := e0.out g0
          refine wpOp_step rfl (fun K0 hK => ?_)
          go_simp
          refine hK _ _ ?_
          exact ⟨r0, true, r2, r3, r4, r5, r6, r7, r8, r9, r10, r11, r12, r13, u7, u8, _, _, u27, u28, u29, u30, u31, u32, u33, u34, gA, gB, rfl, rfl, hB, (fun _ => rfl), (fun _ => rfl), e2, e3, e4, e5, e6, e7, e8, e9, x10, x11, dd, y12, y13⟩
        · clear ha hfl
          refine wpOp_step rfl (fun K0 hK => ?_)
          go_simp
          refine hK _ _ ?_
          exact ⟨r0, r1, true, r3, r4, r5, r6, r7, r8, r9, r10, r11, r12, r13, u7, u8, u25, u26, _, u28, u29, u30, u31, u32, u33, u34, gA, gB, rfl, rfl, hB, e0, e1, (fun _ => rfl), e3, e4, e5, e6, e7, e8, e9, x10, x11, dd, y12, y13⟩
        · have g2 : r2 = true := by
            have := ha _ rfl
            simp [Region.binds] at this
            simp [this]
          clear ha hfl
          obtain rfl := e2.out g2
          refine wpOp_step rfl (fun K0 hK => ?_)
          go_simp
          refine hK _ _ ?_
          exact ⟨r0, r1, r2, true, r4, r5, r6, r7, r8, r9, r10, r11, r12, r13, u7, u8, u25, u26, _, _, u29, u30, u31, u32, u33, u34, gA, gB, rfl, rfl, hB, e0, e1, (fun _ => rfl), (fun _ => rfl), e4, e5, e6, e7, e8, e9, x10, x11, dd, y12, y13⟩
        · have hd : r1 = true ∧ r3 = true := by
            have := ha _ rfl
            simp [Region.binds] at this
            simp [this]
          obtain ⟨g1, g3⟩ := hd
          clear ha hfl
          obtain rfl := e1.out g1
          obtain rfl := e3.out g3
          refine wpOp_step rfl (fun K0 hK => ?_)
          go_simp
          go_at_call 7
          refine (HO1.out w' (ha1.below' hB) (t1.below hB)).mono ?_
          rintro e w5 ⟨rfl, b5⟩
          refine hK _ _ ?_
          exact ⟨r0, r1, r2, r3, true, r5, r6, r7, r8, r9, r10, r11, r12, r13, u7, u8, u25, _, u27, _, _, u30, u31, u32, u33, u34, gA, gB, rfl, rfl, hB.trans (b5.mono hB.size), e0, (fun _ => rfl), e2, (fun _ => rfl), (fun _ => rfl), e5, e6, e7, e8, e9, (fun k => (x10.out k).below b5), (fun k => (x11.out k).below b5), dd, y12, y13⟩
        · clear ha hfl
          refine wpOp_step rfl (fun K0 hK => ?_)
          go_simp
          refine hK _ _ ?_
          exact ⟨r0, r1, r2, r3, r4, true, r6, r7, r8, r9, r10, r11, r12, r13, u7, u8, u25, u26, u27, u28, u29, _, u31, u32, u33, u34, gA, gB, rfl, rfl, hB, e0, e1, e2, e3, e4, (fun _ => rfl), e6, e7, e8, e9, x10, x11, dd, y12, y13⟩
        · have g5 : r5 = true := by
            have := ha _ rfl
            simp [Region.binds] at this
            simp [this]
          clear ha hfl
          obtain rfl := e5.out g5
          refine wpOp_step rfl (fun K0 hK => ?_)
          go_simp
          refine hK _ _ ?_
          exact ⟨r0, r1, r2, r3, r4, r5, true, r7, r8, r9, r10, r11, r12, r13, u7, u8, u25, u26, u27, u28, u29, _, _, u32, u33, u34, gA, gB, rfl, rfl, hB, e0, e1, e2, e3, e4, (fun _ => rfl), (fun _ => rfl), e7, e8, e9, x10, x11, dd, y12, y13⟩
        · clear ha hfl
          refine wpOp_step rfl (fun K0 hK => ?_)
          go_simp
          refine hK _ _ ?_
          exact ⟨r0, r1, r2, r3, r4, r5, r6, true, r8, r9, r10, r11, r12, r13, u7, u8, u25, u26, u27, u28, u29, u30, u31, _, u33, u34, gA, gB, rfl, rfl, hB, e0, e1, e2, e3, e4, e5, e6, (fun _ => rfl), e8, e9, x10, x11, dd, y12, y13⟩
        · have g7 : r7 = true := by
            have := ha _ rfl
            simp [Region.binds] at this
            simp [this]
          clear ha hfl
          obtain rfl := e7.out g7
          refine wpOp_step rfl (fun K0 hK => ?_)
          go_simp
          refine hK _ _ ?_
          exact ⟨r0, r1, r2, r3, r4, r5, r6, r7, true, r9, r10, r11, r12, r13, u7, u8, u25, u26, u27, u28, u29, u30, u31, _, _, u34, gA, gB, rfl, rfl, hB, e0, e1, e2, e3, e4, e5, e6, (fun _ => rfl), (fun _ => rfl), e9, x10, x11, dd, y12, y13⟩
        · have hd : r6 = true ∧ r8 = true := by
            have := ha _ rfl
            simp [Region.binds] at this
            simp [this]
          obtain ⟨g6, g8⟩ := hd
          clear ha hfl
          obtain rfl := e6.out g6
          obtain rfl := e8.out g8
          refine wpOp_step rfl (fun K0 hK => ?_)
          go_simp
          go_at_call 7
          refine (HO2.out w' (hb1.below' hB) (t1.below hB)).mono ?_
          rintro e w5 ⟨rfl, b5⟩
          refine hK _ _ ?_
          exact ⟨r0, r1, r2, r3, r4, r5, r6, r7, r8, true, r10, r11, r12, r13, u7, u8, u25, u26, u27, u28, u29, u30, _, u32, _, _, gA, gB, rfl, rfl, hB.trans (b5.mono hB.size), e0, e1, e2, e3, e4, e5, (fun _ => rfl), e7, (fun _ => rfl), (fun _ => rfl), (fun k => (x10.out k).below b5), (fun k => (x11.out k).below b5), dd, y12, y13⟩
        · have f10 : r10 = false := hfl
          clear ha hfl
          refine wpOp_step rfl (fun K0 hK => ?_)
          go_simp
          rw [row32]
          refine hK _ _ ?_
          have n12 : r12 = false := by cases r12 with | false => rfl | true => exact absurd (y12.out rfl) (by rw [f10]; decide)
          subst n12
          exact ⟨r0, r1, r2, r3, r4, r5, r6, r7, r8, r9, true, r11, false, r13, _, u8, u25, u26, u27, u28, u29, u30, u31, u32, u33, u34, w'.heap.size, gB, rfl, rfl, hB.alloc hB.size _, e0, e1, e2, e3, e4, e5, e6, e7, e8, e9, (fun _ => VA.new hB.size), (fun k => (x11.out k).alloc _), (fun _ k e => absurd (x11.out k).lt (by rw [← e]; exact Nat.lt_irrefl _)), (fun k => by cases k), y13⟩
        · have f11 : r11 = false := hfl
          clear ha hfl
          refine wpOp_step rfl (fun K0 hK => ?_)
          go_simp
          rw [row32]
          refine hK _ _ ?_
          have n13 : r13 = false := by cases r13 with | false => rfl | true => exact absurd (y13.out rfl) (by rw [f11]; decide)
          subst n13
          exact ⟨r0, r1, r2, r3, r4, r5, r6, r7, r8, r9, r10, true, r12, false, u7, _, u25, u26, u27, u28, u29, u30, u31, u32, u33, u34, gA, w'.heap.size, rfl, rfl, hB.alloc hB.size _, e0, e1, e2, e3, e4, e5, e6, e7, e8, e9, (fun k => (x10.out k).alloc _), (fun _ => VA.new hB.size), (fun k _ e => absurd (x10.out k).lt (by rw [e]; exact Nat.lt_irrefl _)), y12, (fun k => by cases k)⟩
        · have hd : r10 = true ∧ r4 = true := by
            have := ha _ rfl
            simp [Region.binds] at this
            simp [this]
          obtain ⟨g10, g4⟩ := hd
          have f12 : r12 = false := hfl
          clear ha hfl
          obtain rfl := e4.out g4
          have X10 := x10.out g10
          rw [f12] at X10
          obtain ⟨rfl, lo10, k10⟩ := X10
          refine wpOp_step rfl (fun K0 hK => ?_)
          refine step_store_kb rfl 24 (.tmp 7) (.tmp 29) rfl gA s1 rfl rfl _ (z32.map bv) k10 32 (by kernel_rfl) rfl HU1.out hu1 ?_
          intro w5 k5 gr5
          refine hK _ _ ?_
          exact ⟨r0, r1, r2, r3, r4, r5, r6, r7, r8, r9, r10, r11, true, r13, _, u8, u25, u26, u27, u28, _, u30, u31, u32, u33, u34, gA, gB, rfl, rfl, hB.trans (below_of_grown' gr5 lo10 hB.size), e0, e1, e2, e3, (fun _ => rfl), e5, e6, e7, e8, e9, (fun _ => ⟨rfl, lo10, k5⟩), (fun k => (x11.out k).grown gr5 (fun e => dd.out g10 k e)), dd, (fun _ => g10), y13⟩
        · have hd : r11 = true ∧ r9 = true := by
            have := ha _ rfl
            simp [Region.binds] at this
            simp [this]
          obtain ⟨g11, g9⟩ := hd
          have f13 : r13 = false := hfl
          clear ha hfl
          obtain rfl := e9.out g9
          have X11 := x11.out g11
          rw [f13] at X11
          obtain ⟨rfl, lo11, k11⟩ := X11
          refine wpOp_step rfl (fun K0 hK => ?_)
          refine step_store_kb rfl 24 (.tmp 8) (.tmp 34) rfl gB s2 rfl rfl _ (z32.map bv) k11 32 (by kernel_rfl) rfl HU2.out hu2 ?_
          intro w5 k5 gr5
          refine hK _ _ ?_
          exact ⟨r0, r1, r2, r3, r4, r5, r6, r7, r8, r9, r10, r11, r12, true, u7, _, u25, u26, u27, u28, u29, u30, u31, u32, u33, _, gA, gB, rfl, rfl, hB.trans (below_of_grown' gr5 lo11 hB.size), e0, e1, e2, e3, e4, e5, e6, e7, e8, (fun _ => rfl), (fun k => (x10.out k).grown gr5 (fun e => dd.out k g11 e.symm)), (fun _ => ⟨rfl, lo11, k5⟩), dd, y12, (fun _ => g11)⟩
    case rest =>
      obtain ⟨gA, gB, ⟨rfl, loA, kA⟩, ⟨rfl, loB, kB⟩, hAB, B2⟩ := hcut
      obtain ⟨w2, rfl⟩ : ∃ w2, w2 = wc := ⟨_, rfl⟩
      have kx2 := kx1.below B2 kx1.lt
      have kp2 := kp1.below B2 kp1.lt
      have t2 := t1.below B2
      have ha2 := ha1.below' B2
      have hb2 := hb1.below' B2
      have B2' := B1.trans (B2.mono B1.size)
      have S1 := B1.size
      clear kx1 kp1 t1 ha1 hb1 B1
      go_wp2_with (first
        | (refine wpList_load_kb rfl 24 (.tmp 5) rfl (w.heap.size + 1) rfl _ ps kp2 _ Tryd.underlying24 rfl 32 (by kernel_rfl) hpl ?_)
        | (refine wpList_load_kb rfl 24 (.tmp 7) rfl gA rfl _ s1 kA _ Tryd.underlying24 rfl 32 (by kernel_rfl) HU1.out ?_))
      refine (HLK.out _ t2).mono ?_
      rintro e w3 ⟨rfl, b3⟩
      have kx3 := kx2.below b3 kx2.lt
      have kp3 := kp2.below b3 kp2.lt
      have kA3 := kA.below b3 kA.lt
      have kB3 := kB.below b3 kB.lt
      have t3 := t2.below b3
      have ha3 := ha2.below' b3
      have hb3 := hb2.below' b3
      have B3 := B2'.trans (b3.mono B2'.size)
      clear kx2 kp2 kA kB t2 ha2 hb2 B2' b3 B2
      go_upto_region 5 with (refine wpList_store_kb rfl 24 (.tmp 9) (.tmp 38) rfl w3.heap.size s3 rfl rfl 24 (z32.map bv) (by rw [row32]; exact KB.new _ _ _) 32 (by kernel_rfl) rfl HU3.out hu3 ?_; intro w4 kL g4)
      have b4 : Below w3.heap.size w3 w4 := ((Below.refl _ _).alloc (Nat.le_refl _) _).grown g4 (by simp) (by simp)
      have kx4 := kx3.below b4 kx3.lt
      have kp4 := kp3.below b4 kp3.lt
      have kA4 := kA3.below b4 kA3.lt
      have kB4 := kB3.below b4 kB3.lt
      have t4 := t3.below b4
      have ha4 := ha3.below' b4
      have hb4 := hb3.below' b4
      have B4 := B3.trans (b4.mono B3.size)
      clear kx3 kp3 kA3 kB3 t3 ha3 hb3 B3 b4 g4
      generalize w3.heap.size = gL at *
      obtain ⟨m, hm⟩ : ∃ m, m = (decide (s = t) && decide (a = b)) := ⟨_, rfl⟩
      have HM := Lib.hid hm
      clear hm
      dsimp only [Act.put]
      go_cut [10] from 39 to 50 (fun u wc => u = .bool m ∧ Below w4.heap.size w4 wc)
      case first =>
        have x0 : w4.cell? ⟨w.heap.size, 0, none⟩ = some (.int .u64 s) := kx4.cell 0
        have x1 : w4.cell? ⟨w.heap.size, 1, none⟩ = some (.int .u64 t) := kx4.cell 1
        have x2 : w4.cell? ⟨w.heap.size, 2, none⟩ = some (.slice A1 a.length c1) := kx4.cell 2
        have x3 : w4.cell? ⟨w.heap.size, 3, none⟩ = some (.slice A2 b.length c2) := kx4.cell 3
        by_cases hst : (s : Int) = (t : Int)
        · have hst1 : decide ((s : Int) = (t : Int)) = true := decide_eq_true hst
          have hst2 : ((s : Int) == (t : Int)) = true := by simpa using hst
          have hsm := same_is _ _ _ _ a b w4 ha4 hb4
          have HMM : Hid (decide (a = b) = m) := by
            show _ = _
            rw [HM.out, decide_eq_true (by omega : s = t), Bool.true_and]
          generalize decide (a = b) = m' at *
          clear hst
          go_wp2_with fail
          refine hsm.mono ?_
          rintro e w5 ⟨rfl, b5⟩
          go_wp2_with fail
          go_meet
          exact ⟨by rw [HMM.out], b5⟩
        · have hst1 : decide ((s : Int) = (t : Int)) = false := decide_eq_false hst
          have hst2 : ((s : Int) == (t : Int)) = false := by simpa using hst
          have HMM : Hid (m = false) := by
            show _ = _
            rw [HM.out, decide_eq_false (by omega : ¬ s = t), Bool.false_and]
          go_wp2_with fail
          go_meet
          exact ⟨by rw [HMM.out], Below.refl _ _⟩
      case rest =>
        obtain ⟨rfl, b5⟩ := hcut
        obtain ⟨w5, rfl⟩ : ∃ w5, w5 = wc := ⟨_, rfl⟩
        have kx5 := kx4.below b5 kx4.lt
        have kp5 := kp4.below b5 kp4.lt
        have kA5 := kA4.below b5 kA4.lt
        have kB5 := kB4.below b5 kB4.lt
        have kL5 := kL.below b5 kL.lt
        have t5 := t4.below b5
        have ha5 := ha4.below' b5
        have hb5 := hb4.below' b5
        have B5 := B4.trans (b5.mono B4.size)
        clear kx4 kp4 kA4 kB4 kL t4 ha4 hb4 B4 b5
        obtain ⟨TP, hTP⟩ : ∃ TP, TP = comB s a := ⟨_, rfl⟩
        obtain ⟨TQ, hTQ⟩ : ∃ TQ, TQ = comB t b := ⟨_, rfl⟩
        obtain ⟨TL, hTL⟩ : ∃ TL, TL = linkB i p (sumB (comB s a)) := ⟨_, rfl⟩
        have HTP := Lib.hid hTP
        have HTQ := Lib.hid hTQ
        have HTL := Lib.hid hTL
        clear hTP hTQ hTL
        go_upto_region 6 with fail
        go_cut [11, 12, 13] from 51 to 64 (fun u v x wc => BS wc (fun k => k < wc.heap.size) u TP ∧ BS wc (fun k => k < wc.heap.size) v TQ ∧ BS wc (fun k => k < wc.heap.size) x TL ∧ Below w5.heap.size w5 wc)
        case first =>
          have ht1 := fun (W : World) (h : BS W (fun k => k < w.heap.size) (.slice A1 a.length c1) a) => rtextc_any _ _ s a W h hs (by have := HLA.out.1; omega)
          have ht2 := fun (W : World) (h : BS W (fun k => k < w.heap.size) (.slice A2 b.length c2) b) => rtextc_any _ _ t b W h ht64 (by have := HLA.out.2; omega)
          have ht3 := fun (W : World) => rlinktext_any i p (sumB (comB s a)) W hp (sumB_length _)
          rw [← HPS.out, ← HS1.out, ← HTL.out] at ht3
          rw [← HTP.out] at ht1
          rw [← HTQ.out] at ht2
          unfold Fresh at ht1 ht2 ht3
          have HT1 := Lib.hid ht1
          have HT2 := Lib.hid ht2
          have HT3 := Lib.hid ht3
          clear ht1 ht2 ht3
          clear HS3 HS2 HPS HS1 HM HTP HTQ HTL
          refine wp_region_any (by kernel_rfl) ?_
          change wpAny _ _ _ _ _ _ _ (World.drew _)
          refine wpAny_inv (fun listed act w' => ∃ (r0 r1 r2 r3 r4 r5 r6 r7 r8 r9 r10 r11 r12 r13 r14 r15 r16 : Bool) (u11 u12 u13 u51 u52 u53 u54 u55 u56 u57 u58 u59 u60 u61 u62 u63 u64 : Value), listed = #[r0, r1, r2, r3, r4, r5, r6, r7, r8, r9, r10, r11, r12, r13, r14, r15, r16] ∧ act = { tmps := #[.agg #[.int .u64 s, .int .u64 t, .slice A1 a.length c1, .slice A2 b.length c2], .int .i64 i, .agg ps.toArray, .pointer (some ⟨w.heap.size, 0, none⟩), undef, .pointer (some ⟨w.heap.size + 1, 0, none⟩), .bool false, .pointer (some ⟨gA, 0, none⟩), .pointer (some ⟨gB, 0, none⟩), .pointer (some ⟨gL, 0, none⟩), .bool m, u11, u12, u13, .pointer (some ⟨w.heap.size, 2, none⟩), .slice A1 a.length c1, .int .i64 a.length, .bool (decide ((1000 : Int) < (a.length : Int))), .bool (decide ((1000 : Int) < (a.length : Int))), .pointer (some ⟨w.heap.size, 3, none⟩), .slice A2 b.length c2, .int .i64 b.length, .bool (decide ((1000 : Int) < (b.length : Int))), .bool (decide ((1000 : Int) < (a.length : Int)) || decide ((1000 : Int) < (b.length : Int))), undef, u25, u26, u27, u28, u29, u30, u31, u32, u33, u34, .int .i64 i, .agg ps.toArray, .agg s1.toArray, .agg s3.toArray, u39, u40, u41, u42, u43, u44, u45, u46, u47, u48, u49, u50, u51, u52, u53, u54, u55, u56, u57, u58, u59, u60, u61, u62, u63, u64, undef, undef, undef, undef, undef, undef, undef, undef, undef, undef, undef, undef, undef, undef, undef, undef, undef, undef, undef, undef, undef, undef, undef, undef, undef, undef, undef, undef, undef, undef, undef, undef, undef, undef, undef, undef, undef, undef, undef, undef, undef, undef, undef, undef, undef, undef, undef, undef, undef, undef, undef, undef, undef, undef, undef, undef, undef, undef, undef, undef, undef, undef, undef], defers := [] } ∧ Below w5.heap.size w5 w' ∧ Hid (r0 = true → u51 = .pointer (some ⟨w.heap.size, 0, none⟩)) ∧ Hid (r1 = true → u52 = .int .u64 s) ∧ Hid (r2 = true → u53 = .pointer (some ⟨w.heap.size, 2, none⟩)) ∧ Hid (r3 = true → u54 = .slice A1 a.length c1) ∧ Hid (r5 = true → u56 = .pointer (some ⟨w.heap.size, 1, none⟩)) ∧ Hid (r6 = true → u57 = .int .u64 t) ∧ Hid (r7 = true → u58 = .pointer (some ⟨w.heap.size, 3, none⟩)) ∧ Hid (r8 = true → u59 = .slice A2 b.length c2) ∧ Hid (r10 = true → u61 = .int .i64 i) ∧ Hid (r11 = true → u62 = .agg ps.toArray) ∧ Hid (r12 = true → u63 = .agg s1.toArray) ∧ Hid (r4 = true → BS w' (fun k => k < w'.heap.size) u55 TP) ∧ Hid (r9 = true → BS w' (fun k => k < w'.heap.size) u60 TQ) ∧ Hid (r13 = true → BS w' (fun k => k < w'.heap.size) u64 TL) ∧ Hid (r14 = true → BS w' (fun k => k < w'.heap.size) u11 TP) ∧ Hid (r15 = true → BS w' (fun k => k < w'.heap.size) u12 TQ) ∧ Hid (r16 = true → BS w' (fun k => k < w'.heap.size) u13 TL)) ?_ ?_ _ _ _ _
            ⟨false, false, false, false, false, false, false, false, false, false, false, false, false, false, false, false, false, _, _, _, _, _, _, _, _, _, _, _, _, _, _, _, _, _, rfl, rfl, Below_drawn (Below.refl _ _) 1, (fun k => by cases k), (fun k => by cases k), (fun k => by cases k), (fun k => by cases k), (fun k => by cases k), (fun k => by cases k), (fun k => by cases k), (fun k => by cases k), (fun k => by cases k), (fun k => by cases k), (fun k => by cases k), (fun k => by cases k), (fun k => by cases k), (fun k => by cases k), (fun k => by cases k), (fun k => by cases k), (fun k => by cases k)⟩ rfl
          · rintro fuel listed act w' ⟨r0, r1, r2, r3, r4, r5, r6, r7, r8, r9, r10, r11, r12, r13, r14, r15, r16, u11, u12, u13, u51, u52, u53, u54, u55, u56, u57, u58, u59, u60, u61, u62, u63, u64, rfl, rfl, hB, e0, e1, e2, e3, e5, e6, e7, e8, e10, e11, e12, x4, x9, x13, x14, x15, x16⟩ _ hr
            have hnr : ∀ i : Nat, ¬ i ∈ ([] : List Nat) := by simp
            rw [← hr] at hnr
            have t0 : r0 = true := not_ready2 (hnr 0) (by simp [Region.binds])
            subst t0
            have t1 : r1 = true := not_ready2 (hnr 1) (by simp [Region.binds])
            subst t1
            have t2 : r2 = true := not_ready2 (hnr 2) (by simp [Region.binds])
            subst t2
            have t3 : r3 = true := not_ready2 (hnr 3) (by simp [Region.binds])
            subst t3
            have t4 : r4 = true := not_ready2 (hnr 4) (by simp [Region.binds])
            subst t4
            have t5 : r5 = true := not_ready2 (hnr 5) (by simp [Region.binds])
            subst t5
            have t6 : r6 = true := not_ready2 (hnr 6) (by simp [Region.binds])
            subst t6
            have t7 : r7 = true := not_ready2 (hnr 7) (by simp [Region.binds])
            subst t7
            have t8 : r8 = true := not_ready2 (hnr 8) (by simp [Region.binds])
            subst t8
            have t9 : r9 = true := not_ready2 (hnr 9) (by simp [Region.binds])
            subst t9
            have t10 : r10 = true := not_ready2 (hnr 10) (by simp [Region.binds])
            subst t10
            have t11 : r11 = true := not_ready2 (hnr 11) (by simp [Region.binds])
            subst t11
            have t12 : r12 = true := not_ready2 (hnr 12) (by simp [Region.binds])
            subst t12
            have t13 : r13 = true := not_ready2 (hnr 13) (by simp [Region.binds])
            subst t13
            have t14 : r14 = true := not_ready2 (hnr 14) (by simp [Region.binds])
            subst t14
            have t15 : r15 = true := not_ready2 (hnr 15) (by simp [Region.binds])
            subst t15
            have t16 : r16 = true := not_ready2 (hnr 16) (by simp [Region.binds])
            subst t16
            obtain rfl := e0.out rfl
            obtain rfl := e1.out rfl
            obtain rfl := e2.out rfl
            obtain rfl := e3.out rfl
            obtain rfl := e5.out rfl
            obtain rfl := e6.out rfl
            obtain rfl := e7.out rfl
            obtain rfl := e8.out rfl
            obtain rfl := e10.out rfl
            obtain rfl := e11.out rfl
            obtain rfl := e12.out rfl
            clear hnr hr
            have X14 := x14.out rfl
            have X15 := x15.out rfl
            have X16 := x16.out rfl
            clear x4 x9 x13 x14 x15 x16
            go_wp2_with fail
            go_meet
            exact ⟨X14, X15, X16, hB⟩
          · rintro fuel listed act w' ⟨r0, r1, r2, r3, r4, r5, r6, r7, r8, r9, r10, r11, r12, r13, r14, r15, r16, u11, u12, u13, u51, u52, u53, u54, u55, u56, u57, u58, u59, u60, u61, u62, u63, u64, rfl, rfl, hB, e0, e1, e2, e3, e5, e6, e7, e8, e10, e11, e12, x4, x9, x13, x14, x15, x16⟩ _
            right
            intro i hi
            obtain ⟨hlt9, hfl, ha⟩ := mem_ready hi
            have hi9 : i < 17 := hlt9
            clear hlt9 hi
            have KX := kx5.below hB kx5.lt
            have x0 : w'.cell? ⟨w.heap.size, 0, none⟩ = some (.int .u64 s) := KX.cell 0
            have x1 : w'.cell? ⟨w.heap.size, 1, none⟩ = some (.int .u64 t) := KX.cell 1
            have x2 : w'.cell? ⟨w.heap.size, 2, none⟩ = some (.slice A1 a.length c1) := KX.cell 2
            have x3 : w'.cell? ⟨w.heap.size, 3, none⟩ = some (.slice A2 b.length c2) := KX.cell 3
            have hcase : i = 0 ∨ i = 1 ∨ i = 2 ∨ i = 3 ∨ i = 4 ∨ i = 5 ∨ i = 6 ∨ i = 7 ∨ i = 8 ∨ i = 9 ∨ i = 10 ∨ i = 11 ∨ i = 12 ∨ i = 13 ∨ i = 14 ∨ i = 15 ∨ i = 16 := by omega
            clear hi9
            rcases hcase with rfl | rfl | rfl | rfl | rfl | rfl | rfl | rfl | rfl | rfl | rfl | rfl | rfl | rfl | rfl | rfl | rfl
            · clear ha hfl
              refine wpOp_step rfl (fun K0 hK => ?_)
              go_simp
              refine hK _ _ ?_
              exact ⟨true, r1, r2, r3, r4, r5, r6, r7, r8, r9, r10, r11, r12, r13, r14, r15, r16, u11, u12, u13, _, u52, u53, u54, u55, u56, u57, u58, u59, u60, u61, u62, u63, u64, rfl, rfl, hB, (fun _ => rfl), e1, e2, e3, e5, e6, e7, e8, e10, e11, e12, x4, x9, x13, x14, x15, x16⟩
            · have g0 : r0 = true := by
                have := ha _ rfl
                simp [Region.binds] at this
                simp [this]
              clear ha hfl
              obtain rfl := e0.out g0
              refine wpOp_step rfl (fun K0 hK => ?_)
              go_simp
              refine hK _ _ ?_
              exact ⟨r0, true, r2, r3, r4, r5, r6, r7, r8, r9, r10, r11, r12, r13, r14, r15, r16, u11, u12, u13, _, _, u53, u54, u55, u56, u57, u58, u59, u60, u61, u62, u63, u64, rfl, rfl, hB, (fun _ => rfl), (fun _ => rfl), e2, e3, e5, e6, e7, e8, e10, e11, e12, x4, x9, x13, x14, x15, x16⟩
            · clear ha hfl
              refine wpOp_step rfl (fun K0 hK => ?_)
              go_simp
              refine hK _ _ ?_
              exact ⟨r0, r1, true, r3, r4, r5, r6, r7, r8, r9, r10, r11, r12, r13, r14, r15, r16, u11, u12, u13, u51, u52, _, u54, u55, u56, u57, u58, u59, u60, u61, u62, u63, u64, rfl, rfl, hB, e0, e1, (fun _ => rfl), e3, e5, e6, e7, e8, e10, e11, e12, x4, x9, x13, x14, x15, x16⟩
            · have g2 : r2 = true := by
                have := ha _ rfl
                simp [Region.binds] at this
                simp [this]
              clear ha hfl
              obtain rfl := e2.out g2
              refine wpOp_step rfl (fun K0 hK => ?_)
              go_simp
              refine hK _ _ ?_
              exact ⟨r0, r1, r2, true, r4, r5, r6, r7, r8, r9, r10, r11, r12, r13, r14, r15, r16, u11, u12, u13, u51, u52, _, _, u55, u56, u57, u58, u59, u60, u61, u62, u63, u64, rfl, rfl, hB, e0, e1, (fun _ => rfl), (fun _ => rfl), e5, e6, e7, e8, e10, e11, e12, x4, x9, x13, x14, x15, x16⟩
            · have hd : r1 = true ∧ r3 = true := by
                have := ha _ rfl
                simp [Region.binds] at this
                simp [this]
              obtain ⟨g1, g3⟩ := hd
              clear ha hfl
              obtain rfl := e1.out g1
              obtain rfl := e3.out g3
              refine wpOp_step rfl (fun K0 hK => ?_)
              go_simp
              go_at_call 13
              refine (HT1.out w' (ha5.below' hB)).mono ?_
              rintro e w5 ⟨v5, rfl, how5, b5⟩
              refine hK _ _ ?_
              exact ⟨r0, r1, r2, r3, true, r5, r6, r7, r8, r9, r10, r11, r12, r13, r14, r15, r16, u11, u12, u13, u51, _, u53, _, v5, u56, u57, u58, u59, u60, u61, u62, u63, u64, rfl, rfl, hB.trans (b5.mono hB.size), e0, (fun _ => rfl), e2, (fun _ => rfl), e5, e6, e7, e8, e10, e11, e12, (fun _ => (own_BS how5).mono fun _ h => h.2), (fun k => ((x9.out k).below' b5).lt.mono fun _ h => h.2), (fun k => ((x13.out k).below' b5).lt.mono fun _ h => h.2), (fun k => ((x14.out k).below' b5).lt.mono fun _ h => h.2), (fun k => ((x15.out k).below' b5).lt.mono fun _ h => h.2), (fun k => ((x16.out k).below' b5).lt.mono fun _ h => h.2)⟩
            · clear ha hfl
              refine wpOp_step rfl (fun K0 hK => ?_)
              go_simp
              refine hK _ _ ?_
              exact ⟨r0, r1, r2, r3, r4, true, r6, r7, r8, r9, r10, r11, r12, r13, r14, r15, r16, u11, u12, u13, u51, u52, u53, u54, u55, _, u57, u58, u59, u60, u61, u62, u63, u64, rfl, rfl, hB, e0, e1, e2, e3, (fun _ => rfl), e6, e7, e8, e10, e11, e12, x4, x9, x13, x14, x15, x16⟩
            · have g5 : r5 = true := by
                have := ha _ rfl
                simp [Region.binds] at this
                simp [this]
              clear ha hfl
              obtain rfl := e5.out g5
              refine wpOp_step rfl (fun K0 hK => ?_)
              go_simp
              refine hK _ _ ?_
              exact ⟨r0, r1, r2, r3, r4, r5, true, r7, r8, r9, r10, r11, r12, r13, r14, r15, r16, u11, u12, u13, u51, u52, u53, u54, u55, _, _, u58, u59, u60, u61, u62, u63, u64, rfl, rfl, hB, e0, e1, e2, e3, (fun _ => rfl), (fun _ => rfl), e7, e8, e10, e11, e12, x4, x9, x13, x14, x15, x16⟩
            · clear ha hfl
              refine wpOp_step rfl (fun K0 hK => ?_)
              go_simp
              refine hK _ _ ?_
              exact ⟨r0, r1, r2, r3, r4, r5, r6, true, r8, r9, r10, r11, r12, r13, r14, r15, r16, u11, u12, u13, u51, u52, u53, u54, u55, u56, u57, _, u59, u60, u61, u62, u63, u64, rfl, rfl, hB, e0, e1, e2, e3, e5, e6, (fun _ => rfl), e8, e10, e11, e12, x4, x9, x13, x14, x15, x16⟩
            · have g7 : r7 = true := by
                have := ha _ rfl
                simp [Region.binds] at this
                simp [this]
              clear ha hfl
              obtain rfl := e7.out g7
              refine wpOp_step rfl (fun K0 hK => ?_)
              go_simp
              refine hK _ _ ?_
              exact ⟨r0, r1, r2, r3, r4, r5, r6, r7, true, r9, r10, r11, r12, r13, r14, r15, r16, u11, u12, u13, u51, u52, u53, u54, u55, u56, u57, _, _, u60, u61, u62, u63, u64, rfl, rfl, hB, e0, e1, e2, e3, e5, e6, (fun _ => rfl), (fun _ => rfl), e10, e11, e12, x4, x9, x13, x14, x15, x16⟩
            · have hd : r6 = true ∧ r8 = true := by
                have := ha _ rfl
                simp [Region.binds] at this
                simp [this]
              obtain ⟨g6, g8⟩ := hd
              clear ha hfl
              obtain rfl := e6.out g6
              obtain rfl := e8.out g8
              refine wpOp_step rfl (fun K0 hK => ?_)
              go_simp
              go_at_call 13
              refine (HT2.out w' (hb5.below' hB)).mono ?_
              rintro e w5 ⟨v5, rfl, how5, b5⟩
              refine hK _ _ ?_
              exact ⟨r0, r1, r2, r3, r4, r5, r6, r7, r8, true, r10, r11, r12, r13, r14, r15, r16, u11, u12, u13, u51, u52, u53, u54, u55, u56, _, u58, _, v5, u61, u62, u63, u64, rfl, rfl, hB.trans (b5.mono hB.size), e0, e1, e2, e3, e5, (fun _ => rfl), e7, (fun _ => rfl), e10, e11, e12, (fun k => ((x4.out k).below' b5).lt.mono fun _ h => h.2), (fun _ => (own_BS how5).mono fun _ h => h.2), (fun k => ((x13.out k).below' b5).lt.mono fun _ h => h.2), (fun k => ((x14.out k).below' b5).lt.mono fun _ h => h.2), (fun k => ((x15.out k).below' b5).lt.mono fun _ h => h.2), (fun k => ((x16.out k).below' b5).lt.mono fun _ h => h.2)⟩
            · clear ha hfl
              refine wpOp_step rfl (fun K0 hK => ?_)
              go_simp
              refine hK _ _ ?_
              exact ⟨r0, r1, r2, r3, r4, r5, r6, r7, r8, r9, true, r11, r12, r13, r14, r15, r16, u11, u12, u13, u51, u52, u53, u54, u55, u56, u57, u58, u59, u60, _, u62, u63, u64, rfl, rfl, hB, e0, e1, e2, e3, e5, e6, e7, e8, (fun _ => rfl), e11, e12, x4, x9, x13, x14, x15, x16⟩
            · clear ha hfl
              refine wpOp_step rfl (fun K0 hK => ?_)
              refine step_load_kb rfl 24 (.tmp 5) rfl (w.heap.size + 1) rfl _ ps (kp5.below hB kp5.lt) _ Tryd.underlying24 rfl 32 (by kernel_rfl) hpl ?_
              refine hK _ _ ?_
              exact ⟨r0, r1, r2, r3, r4, r5, r6, r7, r8, r9, r10, true, r12, r13, r14, r15, r16, u11, u12, u13, u51, u52, u53, u54, u55, u56, u57, u58, u59, u60, u61, _, u63, u64, rfl, rfl, hB, e0, e1, e2, e3, e5, e6, e7, e8, e10, (fun _ => rfl), e12, x4, x9, x13, x14, x15, x16⟩
            · clear ha hfl
              refine wpOp_step rfl (fun K0 hK => ?_)
              refine step_load_kb rfl 24 (.tmp 7) rfl (gA) rfl _ s1 (kA5.below hB kA5.lt) _ Tryd.underlying24 rfl 32 (by kernel_rfl) HU1.out ?_
              refine hK _ _ ?_
              exact ⟨r0, r1, r2, r3, r4, r5, r6, r7, r8, r9, r10, r11, true, r13, r14, r15, r16, u11, u12, u13, u51, u52, u53, u54, u55, u56, u57, u58, u59, u60, u61, u62, _, u64, rfl, rfl, hB, e0, e1, e2, e3, e5, e6, e7, e8, e10, e11, (fun _ => rfl), x4, x9, x13, x14, x15, x16⟩
            · have hd : r10 = true ∧ r11 = true ∧ r12 = true := by
                have := ha _ rfl
                simp [Region.binds] at this
                simp [this]
              obtain ⟨g10, g11, g12⟩ := hd
              clear ha hfl
              obtain rfl := e10.out g10
              obtain rfl := e11.out g11
              obtain rfl := e12.out g12
              refine wpOp_step rfl (fun K0 hK => ?_)
              go_simp
              go_at_call 14
              refine (HT3.out w').mono ?_
              rintro e w5 ⟨v5, rfl, how5, b5⟩
              refine hK _ _ ?_
              exact ⟨r0, r1, r2, r3, r4, r5, r6, r7, r8, r9, r10, r11, r12, true, r14, r15, r16, u11, u12, u13, u51, u52, u53, u54, u55, u56, u57, u58, u59, u60, _, _, _, v5, rfl, rfl, hB.trans (b5.mono hB.size), e0, e1, e2, e3, e5, e6, e7, e8, (fun _ => rfl), (fun _ => rfl), (fun _ => rfl), (fun k => ((x4.out k).below' b5).lt.mono fun _ h => h.2), (fun k => ((x9.out k).below' b5).lt.mono fun _ h => h.2), (fun _ => (own_BS how5).mono fun _ h => h.2), (fun k => ((x14.out k).below' b5).lt.mono fun _ h => h.2), (fun k => ((x15.out k).below' b5).lt.mono fun _ h => h.2), (fun k => ((x16.out k).below' b5).lt.mono fun _ h => h.2)⟩
            · have g4 : r4 = true := by
                have := ha _ rfl
                simp [Region.binds] at this
                simp [this]
              clear ha hfl
              refine wpOp_step rfl (fun K0 hK => ?_)
              go_simp
              refine hK _ _ ?_
              exact ⟨r0, r1, r2, r3, r4, r5, r6, r7, r8, r9, r10, r11, r12, r13, true, r15, r16, u55, u12, u13, u51, u52, u53, u54, u55, u56, u57, u58, u59, u60, u61, u62, u63, u64, rfl, rfl, hB, e0, e1, e2, e3, e5, e6, e7, e8, e10, e11, e12, x4, x9, x13, (fun _ => x4.out g4), x15, x16⟩
            · have g9 : r9 = true := by
                have := ha _ rfl
                simp [Region.binds] at this
                simp [this]
              clear ha hfl
              refine wpOp_step rfl (fun K0 hK => ?_)
              go_simp
              refine hK _ _ ?_
              exact ⟨r0, r1, r2, r3, r4, r5, r6, r7, r8, r9, r10, r11, r12, r13, r14, true, r16, u11, u60, u13, u51, u52, u53, u54, u55, u56, u57, u58, u59, u60, u61, u62, u63, u64, rfl, rfl, hB, e0, e1, e2, e3, e5, e6, e7, e8, e10, e11, e12, x4, x9, x13, x14, (fun _ => x9.out g9), x16⟩
            · have g13 : r13 = true := by
                have := ha _ rfl
                simp [Region.binds] at this
                simp [this]
              clear ha hfl
              refine wpOp_step rfl (fun K0 hK => ?_)
              go_simp
              refine hK _ _ ?_
              exact ⟨r0, r1, r2, r3, r4, r5, r6, r7, r8, r9, r10, r11, r12, r13, r14, r15, true, u11, u12, u64, u51, u52, u53, u54, u55, u56, u57, u58, u59, u60, u61, u62, u63, u64, rfl, rfl, hB, e0, e1, e2, e3, e5, e6, e7, e8, e10, e11, e12, x4, x9, x13, x14, x15, (fun _ => x13.out g13)⟩
        case rest =>
          obtain ⟨hP6, hQ6, hL6, b6⟩ := hcut
          obtain ⟨w6, rfl⟩ : ∃ w6, w6 = wc := ⟨_, rfl⟩
          have kA6 := kA5.below b6 kA5.lt
          have kB6 := kB5.below b6 kB5.lt
          have kL6 := kL5.below b6 kL5.lt
          have t6 := t5.below b6
          have B6 := B5.trans (b6.mono B5.size)
          clear kA5 kB5 kL5 t5 B5 b6 kx5 kp5 ha5 hb5
          have rA := rowOf_kb kA6
          have rB := rowOf_kb kB6
          have rL := rowOf_kb kL6
          have z1 : s1.toArray.size = 32 := by simpa using HU1.out
          have z2 : s2.toArray.size = 32 := by simpa using HU2.out
          have z3 : s3.toArray.size = 32 := by simpa using HU3.out
          obtain ⟨qab, hqab⟩ : ∃ q, q = (sumB TP == sumB TQ) := ⟨_, rfl⟩
          obtain ⟨qla, hqla⟩ : ∃ q, q = (sumB TL == sumB TP) := ⟨_, rfl⟩
          obtain ⟨qlb, hqlb⟩ : ∃ q, q = (sumB TL == sumB TQ) := ⟨_, rfl⟩
          have eab := eq32 (sumB TP) (sumB TQ) (sumB_length _) (sumB_length _)
          have ela := eq32 (sumB TL) (sumB TP) (sumB_length _) (sumB_length _)
          have elb := eq32 (sumB TL) (sumB TQ) (sumB_length _) (sumB_length _)
          have eaa := same32 (sumB TP) (sumB_length _)
          have ebb := same32 (sumB TQ) (sumB_length _)
          rw [← hqab] at eab
          rw [← hqla] at ela
          rw [← hqlb] at elb
          have N1 : s1 = (sumB TP).map bv := by rw [HS1.out, HTP.out]
          have N2 : s2 = (sumB TQ).map bv := by rw [HS2.out, HTQ.out]
          have N3 : s3 = (sumB TL).map bv := by rw [HS3.out, HTL.out]
          rw [← N1, ← N2] at eab
          rw [← N3, ← N1] at ela
          rw [← N3, ← N2] at elb
          rw [← N1] at eaa
          rw [← N2] at ebb
          have HQAB := Lib.hid hqab
          have HQLA := Lib.hid hqla
          have HQLB := Lib.hid hqlb
          clear hqab hqla hqlb
          have hr1 := fun (W : World) (h : Below w6.heap.size w6 W) => rof_any _ u11 TP W (BS.below' hP6 h) (by rw [HTP.out]; have := HLA.out; have := numb_len s; have := texb_len a; simp [comB]; omega)
          have hr2 := fun (W : World) (h : Below w6.heap.size w6 W) => rof_any _ u12 TQ W (BS.below' hQ6 h) (by rw [HTQ.out]; have := HLA.out; have := numb_len t; have := texb_len b; simp [comB]; omega)
          have hr3 := fun (W : World) (h : Below w6.heap.size w6 W) => rof_any _ u13 TL W (BS.below' hL6 h) (by rw [HTL.out]; have := numb_len (Go.Proofs.YtjcdkfnjlmofiaaDoor.u64 i); have := sumB_length (comB s a); simp [linkB]; omega)
          rw [← N1] at hr1
          rw [← N2] at hr2
          rw [← N3] at hr3
          have hu1 := fun (W : World) (h : Below w6.heap.size w6 W) => same_is _ _ u13 u11 TL TP W (BS.below' hL6 h) (BS.below' hP6 h)
          have hu2 := fun (W : World) (h : Below w6.heap.size w6 W) => same_is _ _ u13 u12 TL TQ W (BS.below' hL6 h) (BS.below' hQ6 h)
          have hu3 := fun (W : World) (h : Below w6.heap.size w6 W) => same_is _ _ u11 u12 TP TQ W (BS.below' hP6 h) (BS.below' hQ6 h)
          rw [decide_eq_false (by rw [HTL.out, HTP.out]; exact link_com _ _ _ _ _)] at hu1
          rw [decide_eq_false (by rw [HTL.out, HTQ.out]; exact link_com _ _ _ _ _)] at hu2
          have HR1 := Lib.hid hr1
          have HR2 := Lib.hid hr2
          have HR3 := Lib.hid hr3
          have HU1' := Lib.hid hu1
          have HU2' := Lib.hid hu2
          have HLV' := Lib.hid (fun (W : World) (h : Below w6.heap.size w6 W) => HLV.out W (t6.below h))
          have B := Below.refl w6.heap.size w6
          have S6 := B6.size
          have HPQ : Hid (m = false → TP ≠ TQ) := by
            intro hm0 e
            have h1 := HM.out
            rw [hm0] at h1
            rw [HTP.out, HTQ.out] at e
            obtain ⟨e1, e2⟩ := comB_inj hs ht64 (by have := HLA.out; omega) (by have := HLA.out; omega) e
            rw [e1, e2] at h1
            simp at h1
          have HMT : Hid (m = true → qab = true) := by
            intro hm1
            have := HM.out
            rw [hm1] at this
            simp at this
            obtain ⟨e1, e2⟩ := this
            rw [HQAB.out, HTP.out, HTQ.out, e1, e2]
            simp
          clear hr1 hr2 hr3 hu1 hu2 N1 N2 N3 hP6 hQ6 hL6 t6 kA6 kB6 kL6
          cases m with
          | true =>
            have hab : qab = true := HMT.out rfl
            subst hab
            clear hu3
            cases qla with
            | true =>
              go_wp2_with fail
              refine (HR3.out _ B).mono ?_
              rintro e w7 ⟨rfl, b7⟩
              replace B := B.trans (b7.mono B.size)
              clear b7
              go_wp2_with fail
              refine (HR1.out _ B).mono ?_
              rintro e w7 ⟨rfl, b7⟩
              replace B := B.trans (b7.mono B.size)
              clear b7
              go_wp2_with fail
              refine (HU1'.out _ B).mono ?_
              rintro e w7 ⟨rfl, b7⟩
              replace B := B.trans (b7.mono B.size)
              clear b7
              go_wp2_with fail
              refine (HLV'.out _ B).mono ?_
              rintro e w7 ⟨rfl, b7⟩
              replace B := B.trans (b7.mono B.size)
              clear b7
              go_wp2_with fail
              go_ret
              exact ⟨rfl, B6.trans (B.mono S6)⟩
            | false =>
              cases qlb with
              | true =>
                go_wp2_with fail
                refine (HR3.out _ B).mono ?_
                rintro e w7 ⟨rfl, b7⟩
                replace B := B.trans (b7.mono B.size)
                clear b7
                go_wp2_with fail
                refine (HR1.out _ B).mono ?_
                rintro e w7 ⟨rfl, b7⟩
                replace B := B.trans (b7.mono B.size)
                clear b7
                go_wp2_with fail
                refine (HR3.out _ B).mono ?_
                rintro e w7 ⟨rfl, b7⟩
                replace B := B.trans (b7.mono B.size)
                clear b7
                go_wp2_with fail
                refine (HR2.out _ B).mono ?_
                rintro e w7 ⟨rfl, b7⟩
                replace B := B.trans (b7.mono B.size)
                clear b7
                go_wp2_with fail
                refine (HU2'.out _ B).mono ?_
                rintro e w7 ⟨rfl, b7⟩
                replace B := B.trans (b7.mono B.size)
                clear b7
                go_wp2_with fail
                refine (HLV'.out _ B).mono ?_
                rintro e w7 ⟨rfl, b7⟩
                replace B := B.trans (b7.mono B.size)
                clear b7
                go_wp2_with fail
                go_ret
                exact ⟨rfl, B6.trans (B.mono S6)⟩
              | false =>
                go_wp2_with fail
                refine (HLV'.out _ B).mono ?_
                rintro e w7 ⟨rfl, b7⟩
                replace B := B.trans (b7.mono B.size)
                clear b7
                go_wp2_with fail
                go_ret
                exact ⟨rfl, B6.trans (B.mono S6)⟩
          | false =>
            have hne := HPQ.out rfl
            rw [decide_eq_false hne] at hu3
            have HU3' := Lib.hid hu3
            clear hu3 hne
            cases qab with
            | true =>
              go_wp2_with fail
              refine (HU3'.out _ B).mono ?_
              rintro e w7 ⟨rfl, b7⟩
              replace B := B.trans (b7.mono B.size)
              clear b7
              go_wp2_with fail
              refine (HR1.out _ B).mono ?_
              rintro e w7 ⟨rfl, b7⟩
              replace B := B.trans (b7.mono B.size)
              clear b7
              go_wp2_with fail
              refine (HR2.out _ B).mono ?_
              rintro e w7 ⟨rfl, b7⟩
              replace B := B.trans (b7.mono B.size)
              clear b7
              go_wp2_with fail
              refine (HLV'.out _ B).mono ?_
              rintro e w7 ⟨rfl, b7⟩
              replace B := B.trans (b7.mono B.size)
              clear b7
              go_wp2_with fail
              go_ret
              exact ⟨rfl, B6.trans (B.mono S6)⟩
            | false =>
              cases qla with
              | true =>
                go_wp2_with fail
                refine (HR3.out _ B).mono ?_
                rintro e w7 ⟨rfl, b7⟩
                replace B := B.trans (b7.mono B.size)
                clear b7
                go_wp2_with fail
                refine (HR1.out _ B).mono ?_
                rintro e w7 ⟨rfl, b7⟩
                replace B := B.trans (b7.mono B.size)
                clear b7
                go_wp2_with fail
                refine (HU1'.out _ B).mono ?_
                rintro e w7 ⟨rfl, b7⟩
                replace B := B.trans (b7.mono B.size)
                clear b7
                go_wp2_with fail
                refine (HLV'.out _ B).mono ?_
                rintro e w7 ⟨rfl, b7⟩
                replace B := B.trans (b7.mono B.size)
                clear b7
                go_wp2_with fail
                go_ret
                exact ⟨rfl, B6.trans (B.mono S6)⟩
              | false =>
                cases qlb with
                | true =>
                  go_wp2_with fail
                  refine (HR3.out _ B).mono ?_
                  rintro e w7 ⟨rfl, b7⟩
                  replace B := B.trans (b7.mono B.size)
                  clear b7
                  go_wp2_with fail
                  refine (HR1.out _ B).mono ?_
                  rintro e w7 ⟨rfl, b7⟩
                  replace B := B.trans (b7.mono B.size)
                  clear b7
                  go_wp2_with fail
                  refine (HR3.out _ B).mono ?_
                  rintro e w7 ⟨rfl, b7⟩
                  replace B := B.trans (b7.mono B.size)
                  clear b7
                  go_wp2_with fail
                  refine (HR2.out _ B).mono ?_
                  rintro e w7 ⟨rfl, b7⟩
                  replace B := B.trans (b7.mono B.size)
                  clear b7
                  go_wp2_with fail
                  refine (HU2'.out _ B).mono ?_
                  rintro e w7 ⟨rfl, b7⟩
                  replace B := B.trans (b7.mono B.size)
                  clear b7
                  go_wp2_with fail
                  refine (HLV'.out _ B).mono ?_
                  rintro e w7 ⟨rfl, b7⟩
                  replace B := B.trans (b7.mono B.size)
                  clear b7
                  go_wp2_with fail
                  go_ret
                  exact ⟨rfl, B6.trans (B.mono S6)⟩
                | false =>
                  go_wp2_with fail
                  refine (HLV'.out _ B).mono ?_
                  rintro e w7 ⟨rfl, b7⟩
                  replace B := B.trans (b7.mono B.size)
                  clear b7
                  go_wp2_with fail
                  go_ret
                  exact ⟨rfl, B6.trans (B.mono S6)⟩

theorem commitBinds_law {H : Type} (enc : TypeId × Value → H) (W : World) (base : Nat) (ht : Tab W) (v0 : Value) (d0 : DataW H) (p0 : List MemPlace) (v1 : Value) (d1 : DataW H) (p1 : List MemPlace) (v2 : Value) (d2 : DataW H) (p2 : List MemPlace)
    (ok0 : Value.okWide Tryd.prog W .any base 32 v0) (ok1 : Value.okWide Tryd.prog W .any base 3 v1) (ok2 : Value.okWide Tryd.prog W .any base 24 v2)
    (h0 : DataW.Trod enc Tryd.prog W 0 (fun _ => true) true 32 v0 d0 p0) (h1 : DataW.Trod enc Tryd.prog W 0 (fun _ => true) true 3 v1 d1 p1) (h2 : DataW.Trod enc Tryd.prog W 0 (fun _ => true) true 24 v2 d2 p2) :
    Calls Tryd.prog 5 #[v0, v1, v2] W fun e W' => e = .returned (.bool true) ∧ Below W.heap.size W W' := by
  obtain ⟨s, t, x, y, a, b, rfl, hs, ht64, ha, hb⟩ := open_two ok0 h0
  obtain ⟨i, rfl, rfl, rfl, w0⟩ := open_int Tryd.underlying3 ok1 h1
  obtain ⟨p, hp, rfl⟩ := open_32 ok2 h2
  exact commitBinds_any s t hs ht64 x y a b i p hp W ha hb ht
end Go.Proofs.YtjcdkfnjlmofiaaDoor
