/-
  The law CommitLinks over the loaded program: every link is the document's. No condition but the table's.
-/
import Derived.Test.YtjcdkfnjlmofiaaDoorCmL
import Derived.Test.YtjcdkfnjlmofiaaDoorCmC
import Derived.Test.YtjcdkfnjlmofiaaDoorCmO
import Derived.Test.YtjcdkfnjlmofiaaDoorInv
namespace Go.Proofs.YtjcdkfnjlmofiaaDoor
open Go.RowKit Go.ChangeShapes Go.WideShapes Go.Joins
set_option linter.unusedVariables false

set_option maxRecDepth 100000 in
set_option maxHeartbeats 2000000 in
theorem commitLinks_any (i : Int) (p c : List UInt8) (hp : p.length = 32) (hc : c.length = 32) (w : World) (ht : Tab w) :
    Calls Tryd.prog 4 #[.int .i64 i, .agg (p.map bv).toArray, .agg (c.map bv).toArray] w fun e w' => e = .returned (.bool true) ∧ Below w.heap.size w w' := by
  have kp1 : KB ((w.alloc (.cells (p.map bv).toArray 24)).alloc (.cells (c.map bv).toArray 24)) w.heap.size 24 (p.map bv).toArray := (KB.new _ _ _).alloc _
  have kc1 : KB ((w.alloc (.cells (p.map bv).toArray 24)).alloc (.cells (c.map bv).toArray 24)) (w.heap.size + 1) 24 (c.map bv).toArray := by
    have := KB.new (w.alloc (.cells (p.map bv).toArray 24)) 24 (c.map bv).toArray
    rw [World.size_alloc] at this
    exact this
  have B1 : Below w.heap.size w ((w.alloc (.cells (p.map bv).toArray 24)).alloc (.cells (c.map bv).toArray 24)) := ((Below.refl _ _).alloc (Nat.le_refl _) _).alloc (by simp) _
  have t1 := ht.below B1
  have hsame := same32 (sumB (linkB i p c)) (sumB_length _)
  have hl := fun (W : World) (ht : Tab W) => clink_any i p c W hp hc ht
  have hr := fun (W : World) => rclink_any i p c W hp hc
  unfold Sum32 at hl hr
  have hpl : (p.map bv).length = 32 := by simpa using hp
  have hcl : (c.map bv).length = 32 := by simpa using hc
  generalize (sumB (linkB i p c)).map bv = ss at *
  generalize p.map bv = ps at *
  generalize c.map bv = cs at *
  have HL := Lib.hid hl
  have HR := Lib.hid hr
  clear hl hr
  go_enter Tryd.func4, Tryd.ntmps4
  go_wp2_with fail
  generalize (w.alloc (.cells ps.toArray 24)).alloc (.cells cs.toArray 24) = w1 at *
  refine wp_region_any (by kernel_rfl) ?_
  change wpAny _ _ _ _ _ _ _ (World.drew _)
  refine wpAny_inv (fun listed act w' => ∃ (r0 r1 r2 r3 r4 r5 r6 r7 r8 r9 r10 r11 r12 : Bool) (u6 u7 u8 u9 u10 u11 u12 u13 u14 u15 u16 u17 u18 : Value), listed = #[r0, r1, r2, r3, r4, r5, r6, r7, r8, r9, r10, r11, r12] ∧ act = { tmps := #[.int .i64 i, .agg ps.toArray, .agg cs.toArray, undef, .pointer (some ⟨w.heap.size, 0, none⟩), .pointer (some ⟨w.heap.size + 1, 0, none⟩), u6, u7, u8, u9, u10, u11, u12, u13, u14, u15, u16, u17, u18], defers := [] } ∧ Below w1.heap.size w1 w' ∧ Hid (r0 = true → u7 = .int .i64 i) ∧ Hid (r1 = true → u8 = .agg ps.toArray) ∧ Hid (r2 = true → u9 = .agg cs.toArray) ∧ Hid (r3 = true → u10 = .agg ss.toArray) ∧ Hid (r4 = true → u11 = .int .i64 i) ∧ Hid (r5 = true → u12 = .agg ps.toArray) ∧ Hid (r6 = true → u13 = .agg cs.toArray) ∧ Hid (r7 = true → u14 = .agg ss.toArray) ∧ Hid (r8 = true → u15 = .bool true) ∧ Hid (r9 = true → u16 = .bool true) ∧ Hid (r10 = true → u17 = .bool true) ∧ Hid (r11 = true → u18 = .bool true) ∧ Hid (r12 = true → u6 = .bool true)) ?_ ?_ _ _ _ _
    ⟨false, false, false, false, false, false, false, false, false, false, false, false, false, _, _, _, _, _, _, _, _, _, _, _, _, _, rfl, rfl, Below_drawn (Below.refl _ _) 1, (fun k => by cases k), (fun k => by cases k), (fun k => by cases k), (fun k => by cases k), (fun k => by cases k), (fun k => by cases k), (fun k => by cases k), (fun k => by cases k), (fun k => by cases k), (fun k => by cases k), (fun k => by cases k), (fun k => by cases k), (fun k => by cases k)⟩ rfl
  · rintro fuel listed act w' ⟨r0, r1, r2, r3, r4, r5, r6, r7, r8, r9, r10, r11, r12, u6, u7, u8, u9, u10, u11, u12, u13, u14, u15, u16, u17, u18, rfl, rfl, hB, e0, e1, e2, e3, e4, e5, e6, e7, e8, e9, e10, e11, e12⟩ _ hr
    have hnr : ∀ i : Nat, ¬ i ∈ ([] : List Nat) := by simp
    rw [← hr] at hnr
    have t0 : r0 = true := not_ready2 (hnr 0) (by simp [Region.binds])
    subst t0
    have t1 : r1 = true := not_ready2 (hnr 1) (by simp [Region.binds])
    subst t1
    have t2 : r2 = true := not_ready2 (hnr 2) (by simp [Region.binds])
    subst t2
    have t3 : r3 = true := not_ready2 (hnr 3) (by simp [Region.binds])
    subst t3
    have t4 : r4 = true := not_ready2 (hnr 4) (by simp [Region.binds])
    subst t4
    have t5 : r5 = true := not_ready2 (hnr 5) (by simp [Region.binds])
    subst t5
    have t6 : r6 = true := not_ready2 (hnr 6) (by simp [Region.binds])
    subst t6
    have t7 : r7 = true := not_ready2 (hnr 7) (by simp [Region.binds])
    subst t7
    have t8 : r8 = true := not_ready2 (hnr 8) (by simp [Region.binds])
    subst t8
    have t9 : r9 = true := not_ready2 (hnr 9) (by simp [Region.binds])
    subst t9
    have t10 : r10 = true := not_ready2 (hnr 10) (by simp [Region.binds])
    subst t10
    have t11 : r11 = true := not_ready2 (hnr 11) (by simp [Region.binds])
    subst t11
    have t12 : r12 = true := not_ready2 (hnr 12) (by simp [Region.binds])
    subst t12
    obtain rfl := e0.out rfl
    obtain rfl := e1.out rfl
    obtain rfl := e2.out rfl
    obtain rfl := e3.out rfl
    obtain rfl := e4.out rfl
    obtain rfl := e5.out rfl
    obtain rfl := e6.out rfl
    obtain rfl := e7.out rfl
    obtain rfl := e8.out rfl
    obtain rfl := e9.out rfl
    obtain rfl := e10.out rfl
    obtain rfl := e11.out rfl
    obtain rfl := e12.out rfl
    clear hnr hr
    go_wp2_with fail
    go_ret
    exact ⟨rfl, B1.trans (hB.mono B1.size)⟩
  · rintro fuel listed act w' ⟨r0, r1, r2, r3, r4, r5, r6, r7, r8, r9, r10, r11, r12, u6, u7, u8, u9, u10, u11, u12, u13, u14, u15, u16, u17, u18, rfl, rfl, hB, e0, e1, e2, e3, e4, e5, e6, e7, e8, e9, e10, e11, e12⟩ _
    right
    intro i hi
    obtain ⟨hlt9, hfl, ha⟩ := mem_ready hi
    have hi9 : i < 13 := hlt9
    clear hlt9 hi
    have hcase : i = 0 ∨ i = 1 ∨ i = 2 ∨ i = 3 ∨ i = 4 ∨ i = 5 ∨ i = 6 ∨ i = 7 ∨ i = 8 ∨ i = 9 ∨ i = 10 ∨ i = 11 ∨ i = 12 := by omega
    clear hi9
    rcases hcase with rfl | rfl | rfl | rfl | rfl | rfl | rfl | rfl | rfl | rfl | rfl | rfl | rfl
    · clear ha hfl
      refine wpOp_step rfl (fun K0 hK => ?_)
      go_simp
      refine hK _ _ ?_
      exact ⟨true, r1, r2, r3, r4, r5, r6, r7, r8, r9, r10, r11, r12, u6, _, u8, u9, u10, u11, u12, u13, u14, u15, u16, u17, u18, rfl, rfl, hB, (fun _ => rfl), e1, e2, e3, e4, e5, e6, e7, e8, e9, e10, e11, e12⟩
    · clear ha hfl
      refine wpOp_step rfl (fun K0 hK => ?_)
      refine step_load_kb rfl 24 (.tmp 4) rfl (w.heap.size) rfl _ ps (kp1.below hB kp1.lt) _ Tryd.underlying24 rfl 32 (by kernel_rfl) hpl ?_
      refine hK _ _ ?_
      exact ⟨r0, true, r2, r3, r4, r5, r6, r7, r8, r9, r10, r11, r12, u6, u7, _, u9, u10, u11, u12, u13, u14, u15, u16, u17, u18, rfl, rfl, hB, e0, (fun _ => rfl), e2, e3, e4, e5, e6, e7, e8, e9, e10, e11, e12⟩
    · clear ha hfl
      refine wpOp_step rfl (fun K0 hK => ?_)
      refine step_load_kb rfl 24 (.tmp 5) rfl (w.heap.size + 1) rfl _ cs (kc1.below hB kc1.lt) _ Tryd.underlying24 rfl 32 (by kernel_rfl) hcl ?_
      refine hK _ _ ?_
      exact ⟨r0, r1, true, r3, r4, r5, r6, r7, r8, r9, r10, r11, r12, u6, u7, u8, _, u10, u11, u12, u13, u14, u15, u16, u17, u18, rfl, rfl, hB, e0, e1, (fun _ => rfl), e3, e4, e5, e6, e7, e8, e9, e10, e11, e12⟩
    · have hd : r0 = true ∧ r1 = true ∧ r2 = true := by
        have := ha _ rfl
        simp [Region.binds] at this
        simp [this]
      obtain ⟨g0, g1, g2⟩ := hd
      clear ha hfl
      obtain rfl := e0.out g0
      obtain rfl := e1.out g1
      obtain rfl := e2.out g2
      refine wpOp_step rfl (fun K0 hK => ?_)
      go_simp
      go_at_call 10
      refine (HL.out w' (t1.below hB)).mono ?_
      rintro e w5 ⟨rfl, b5⟩
      refine hK _ _ ?_
      exact ⟨r0, r1, r2, true, r4, r5, r6, r7, r8, r9, r10, r11, r12, u6, _, _, _, _, u11, u12, u13, u14, u15, u16, u17, u18, rfl, rfl, hB.trans (b5.mono hB.size), (fun _ => rfl), (fun _ => rfl), (fun _ => rfl), (fun _ => rfl), e4, e5, e6, e7, e8, e9, e10, e11, e12⟩
    · clear ha hfl
      refine wpOp_step rfl (fun K0 hK => ?_)
      go_simp
      refine hK _ _ ?_
      exact ⟨r0, r1, r2, r3, true, r5, r6, r7, r8, r9, r10, r11, r12, u6, u7, u8, u9, u10, _, u12, u13, u14, u15, u16, u17, u18, rfl, rfl, hB, e0, e1, e2, e3, (fun _ => rfl), e5, e6, e7, e8, e9, e10, e11, e12⟩
    · clear ha hfl
      refine wpOp_step rfl (fun K0 hK => ?_)
      refine step_load_kb rfl 24 (.tmp 4) rfl (w.heap.size) rfl _ ps (kp1.below hB kp1.lt) _ Tryd.underlying24 rfl 32 (by kernel_rfl) hpl ?_
      refine hK _ _ ?_
      exact ⟨r0, r1, r2, r3, r4, true, r6, r7, r8, r9, r10, r11, r12, u6, u7, u8, u9, u10, u11, _, u13, u14, u15, u16, u17, u18, rfl, rfl, hB, e0, e1, e2, e3, e4, (fun _ => rfl), e6, e7, e8, e9, e10, e11, e12⟩
    · clear ha hfl
      refine wpOp_step rfl (fun K0 hK => ?_)
      refine step_load_kb rfl 24 (.tmp 5) rfl (w.heap.size + 1) rfl _ cs (kc1.below hB kc1.lt) _ Tryd.underlying24 rfl 32 (by kernel_rfl) hcl ?_
      refine hK _ _ ?_
      exact ⟨r0, r1, r2, r3, r4, r5, true, r7, r8, r9, r10, r11, r12, u6, u7, u8, u9, u10, u11, u12, _, u14, u15, u16, u17, u18, rfl, rfl, hB, e0, e1, e2, e3, e4, e5, (fun _ => rfl), e7, e8, e9, e10, e11, e12⟩
    · have hd : r4 = true ∧ r5 = true ∧ r6 = true := by
        have := ha _ rfl
        simp [Region.binds] at this
        simp [this]
      obtain ⟨g4, g5, g6⟩ := hd
      clear ha hfl
      obtain rfl := e4.out g4
      obtain rfl := e5.out g5
      obtain rfl := e6.out g6
      refine wpOp_step rfl (fun K0 hK => ?_)
      go_simp
      go_at_call 11
      refine (HR.out w').mono ?_
      rintro e w5 ⟨rfl, b5⟩
      refine hK _ _ ?_
      exact ⟨r0, r1, r2, r3, r4, r5, r6, true, r8, r9, r10, r11, r12, u6, u7, u8, u9, u10, _, _, _, _, u15, u16, u17, u18, rfl, rfl, hB.trans (b5.mono hB.size), e0, e1, e2, e3, (fun _ => rfl), (fun _ => rfl), (fun _ => rfl), (fun _ => rfl), e8, e9, e10, e11, e12⟩
    · have hd : r3 = true ∧ r7 = true := by
        have := ha _ rfl
        simp [Region.binds] at this
        simp [this]
      obtain ⟨g3, g7⟩ := hd
      clear ha hfl
      obtain rfl := e3.out g3
      obtain rfl := e7.out g7
      refine wpOp_step rfl (fun K0 hK => ?_)
      go_simp
      refine hK _ _ ?_
      exact ⟨r0, r1, r2, r3, r4, r5, r6, r7, true, r9, r10, r11, r12, u6, u7, u8, u9, _, u11, u12, u13, _, _, u16, u17, u18, rfl, rfl, hB, e0, e1, e2, (fun _ => rfl), e4, e5, e6, (fun _ => rfl), (fun _ => rfl), e9, e10, e11, e12⟩
    · have g8 : r8 = true := by
        have := ha _ rfl
        simp [Region.binds] at this
        simp [this]
      clear ha hfl
      obtain rfl := e8.out g8
      refine wpOp_step rfl (fun K0 hK => ?_)
      go_simp
      refine hK _ _ ?_
      exact ⟨r0, r1, r2, r3, r4, r5, r6, r7, r8, true, r10, r11, r12, u6, u7, u8, u9, u10, u11, u12, u13, u14, _, _, u17, u18, rfl, rfl, hB, e0, e1, e2, e3, e4, e5, e6, e7, (fun _ => rfl), (fun _ => rfl), e10, e11, e12⟩
    · have g9 : r9 = true := by
        have := ha _ rfl
        simp [Region.binds] at this
        simp [this]
      clear ha hfl
      obtain rfl := e9.out g9
      refine wpOp_step rfl (fun K0 hK => ?_)
      go_simp
      go_at_call 6
      refine (clive_any w' (t1.below hB)).mono ?_
      rintro e w5 ⟨rfl, b5⟩
      refine hK _ _ ?_
      exact ⟨r0, r1, r2, r3, r4, r5, r6, r7, r8, r9, true, r11, r12, u6, u7, u8, u9, u10, u11, u12, u13, u14, u15, _, _, u18, rfl, rfl, hB.trans (b5.mono hB.size), e0, e1, e2, e3, e4, e5, e6, e7, e8, (fun _ => rfl), (fun _ => rfl), e11, e12⟩
    · have hd : r9 = true ∧ r10 = true := by
        have := ha _ rfl
        simp [Region.binds] at this
        simp [this]
      obtain ⟨g9, g10⟩ := hd
      clear ha hfl
      obtain rfl := e9.out g9
      obtain rfl := e10.out g10
      refine wpOp_step rfl (fun K0 hK => ?_)
      go_simp
      refine hK _ _ ?_
      exact ⟨r0, r1, r2, r3, r4, r5, r6, r7, r8, r9, r10, true, r12, u6, u7, u8, u9, u10, u11, u12, u13, u14, u15, _, _, _, rfl, rfl, hB, e0, e1, e2, e3, e4, e5, e6, e7, e8, (fun _ => rfl), (fun _ => rfl), (fun _ => rfl), e12⟩
    · have g11 : r11 = true := by
        have := ha _ rfl
        simp [Region.binds] at this
        simp [this]
      clear ha hfl
      obtain rfl := e11.out g11
      refine wpOp_step rfl (fun K0 hK => ?_)
      go_simp
      refine hK _ _ ?_
      exact ⟨r0, r1, r2, r3, r4, r5, r6, r7, r8, r9, r10, r11, true, _, u7, u8, u9, u10, u11, u12, u13, u14, u15, u16, u17, _, rfl, rfl, hB, e0, e1, e2, e3, e4, e5, e6, e7, e8, e9, e10, (fun _ => rfl), (fun _ => rfl)⟩

theorem commitLinks_law {H : Type} (enc : TypeId × Value → H) (W : World) (base : Nat) (ht : Tab W) (v0 : Value) (d0 : DataW H) (p0 : List MemPlace) (v1 : Value) (d1 : DataW H) (p1 : List MemPlace) (v2 : Value) (d2 : DataW H) (p2 : List MemPlace)
    (ok0 : Value.okWide Tryd.prog W .any base 3 v0) (ok1 : Value.okWide Tryd.prog W .any base 24 v1) (ok2 : Value.okWide Tryd.prog W .any base 24 v2)
    (h0 : DataW.Trod enc Tryd.prog W 0 (fun _ => true) true 3 v0 d0 p0) (h1 : DataW.Trod enc Tryd.prog W 0 (fun _ => true) true 24 v1 d1 p1) (h2 : DataW.Trod enc Tryd.prog W 0 (fun _ => true) true 24 v2 d2 p2) :
    Calls Tryd.prog 4 #[v0, v1, v2] W fun e W' => e = .returned (.bool true) ∧ Below W.heap.size W W' := by
  obtain ⟨i, rfl, rfl, rfl, w0⟩ := open_int Tryd.underlying3 ok0 h0
  obtain ⟨p, hp, rfl⟩ := open_32 ok1 h1
  obtain ⟨c, hc, rfl⟩ := open_32 ok2 h2
  exact commitLinks_any i p c hp hc W ht
end Go.Proofs.YtjcdkfnjlmofiaaDoor
