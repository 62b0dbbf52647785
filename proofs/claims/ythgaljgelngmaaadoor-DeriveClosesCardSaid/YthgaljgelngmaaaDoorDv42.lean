/-
  DcN: Whether a secret is guarded in a term, by the program: its contract, over the loaded program. No condition but what each theorem names.
-/
import Derived.Test.YthgaljgelngmaaaDoorDv41

section
namespace Go.Proofs.YthgaljgelngmaaaDoor
open Go.RowKit
set_option linter.unusedVariables false

theorem allocB' (w : World) (o : Obj) : Below w.heap.size w (w.alloc o) := (Below.refl _ _).alloc (Nat.le_refl _) o
theorem bareT_kid {f : Nat} {keys : List Nat} {t : Tm f} : ∀ u ∈ bareT f keys t, u ∈ kidsT f t := by
  intro u hu
  unfold bareT at hu
  split at hu
  · cases hu
  · exact List.mem_of_mem_drop hu
theorem guard_bare (f : Nat) (s : Tm f) (keys : List Nat) (t : Tm f) : guardD (vwT f) s keys t = (!decide (t = s) && (bareT f keys t).all (guardD (vwT f) s keys)) := by
  rw [guardT_eq]
  unfold bareT
  by_cases h : kindT f t = 6
  · rw [if_pos h, decide_eq_true h]; simp
  · rw [if_neg h, decide_eq_false h]; simp
theorem same_dec (f : Nat) (a b : Tm f) : sameT f a b = decide (a = b) := by
  by_cases h : a = b
  · rw [(sameT_iff f a b).2 h, decide_eq_true h]
  · rw [decide_eq_false h]
    cases hs : sameT f a b with
    | false => rfl
    | true => exact absurd ((sameT_iff f a b).1 hs) h

set_option maxHeartbeats 1000000 in
theorem guarded1_any (bs bk bg : Nat) (S Ss Sk : Nat → Prop) (f : Nat) (s : Tm f) (keys : List Nat) (d0 d1 d2 d3 kv : Value) : ∀ (n : Nat) (t : Tm f) (v : Value) (w : World), sizeT f t < n → okD f t →
    KB w bs 35 #[d0, d1, d2, d3] → KB w bk 40 #[kv] → KB w bg 41 #[.func (.func 31) #[] #[.pointer (some ⟨bs, 0, none⟩), .pointer (some ⟨bk, 0, none⟩), .pointer (some ⟨bg, 0, none⟩)]] →
    TV w S f v t → TM w Ss f s d0 d1 d2 d3 → US w Sk kv keys →
    Calls Tryd.prog 31 #[v, .pointer (some ⟨bs, 0, none⟩), .pointer (some ⟨bk, 0, none⟩), .pointer (some ⟨bg, 0, none⟩)] w fun e w' => e = .returned (.bool (guardD (vwT f) s keys t)) ∧ Below w.heap.size w w' := by
  intro n
  induction n with
  | zero => intro t v w h; exact absurd h (Nat.not_lt_zero _)
  | succ n ih =>
    intro t v w hsz hok ks kk kg hv hs hkeys
    obtain ⟨e0, e1, e2, e3, rfl, tm⟩ := hv
    obtain ⟨i0, i1, X2, n2, z2, X3, n3, z3, rfl, rfl, rfl, rfl⟩ := tm_form tm
    have B0 : Below w.heap.size w (w.alloc (.cells #[.int .i64 i0, .int .u64 i1, .slice X2 n2 z2, .slice X3 n3 z3] 35)) := (Below.refl _ _).alloc (Nat.le_refl _) _
    have K0 := KB.new w 35 #[.int .i64 i0, .int .u64 i1, .slice X2 n2 z2, .slice X3 n3 z3]
    have hcS := psame_any S Ss f t s (.agg #[.int .i64 i0, .int .u64 i1, .slice X2 n2 z2, .slice X3 n3 z3]) (.agg #[d0, d1, d2, d3]) (w.alloc (.cells #[.int .i64 i0, .int .u64 i1, .slice X2 n2 z2, .slice X3 n3 z3] 35)) (TV.alloc ⟨_, _, _, _, rfl, tm⟩ _) (TV.alloc ⟨_, _, _, _, rfl, hs⟩ _)
    rw [same_dec] at hcS
    rw [guard_bare]
    have hbl := ks.lt
    have hbl2 := kk.lt
    have hbl3 := kg.lt
    have ks0 := ks.alloc (.cells #[.int .i64 i0, .int .u64 i1, .slice X2 n2 z2, .slice X3 n3 z3] 35)
    have q0 := ks0.cell 0
    have q1 := ks0.cell 1
    have q2 := ks0.cell 2
    have q3 := ks0.cell 3
    by_cases hts : t = s
    · rw [decide_eq_true hts] at hcS ⊢
      rw [Bool.not_true, Bool.false_and]
      clear hts ih hs tm hkeys ks kk kg ks0
      go_enter Tryd.func31, Tryd.ntmps31
      go_wp2_with fail
      refine hcS.mono ?_
      rintro e w5 ⟨rfl, b5⟩
      have B5 := B0.trans (b5.mono B0.size)
      clear hcS q0 q1 q2 q3
      go_wp2_with fail
      go_ret
      exact ⟨rfl, B5⟩
    · rw [decide_eq_false hts] at hcS ⊢
      rw [Bool.not_false, Bool.true_and]
      have hbare := fun (w5 : World) (b5 : Below w.heap.size w w5) => bare_any S Sk f t keys (.agg #[.int .i64 i0, .int .u64 i1, .slice X2 n2 z2, .slice X3 n3 z3]) kv w5 hok ⟨_, _, _, _, rfl, TM.keepS f _ _ _ _ _ tm b5.size (fun b _ hl => b5.block b hl) fun _ h => h⟩ (hkeys.below' b5)
      have HKid : Hid (∀ u ∈ bareT f keys t, sizeT f u < n ∧ okD f u) := fun u hu => ⟨Nat.lt_of_lt_of_le (sizeT_less f t u (bareT_kid u hu)) (by omega), okD_kid f t hok u (bareT_kid u hu)⟩
      obtain ⟨R9, hR9⟩ : ∃ R9, R9 = (bareT f keys t).all (guardD (vwT f) s keys) := ⟨_, rfl⟩
      rw [← hR9]
      have HR9 := Lib.hid hR9
      have HB := Lib.hid hbare
      generalize bareT f keys t = L at *
      clear hts hR9 hbare
      go_enter Tryd.func31, Tryd.ntmps31
      go_wp2_with fail
      refine hcS.mono ?_
      rintro e w5 ⟨rfl, b5⟩
      have B5 := B0.trans (b5.mono B0.size)
      have K5 := K0.below b5 K0.lt
      have kk5 := kk.below B5 hbl2
      clear hcS q0 q1 q2 q3
      have x0 : w5.cell? ⟨w.heap.size, 0, none⟩ = some (.int .i64 i0) := K5.cell 0
      have x1 : w5.cell? ⟨w.heap.size, 1, none⟩ = some (.int .u64 i1) := K5.cell 1
      have x2 : w5.cell? ⟨w.heap.size, 2, none⟩ = some (.slice X2 n2 z2) := K5.cell 2
      have x3 : w5.cell? ⟨w.heap.size, 3, none⟩ = some (.slice X3 n3 z3) := K5.cell 3
      have xk : w5.cell? ⟨bk, 0, none⟩ = some kv := kk5.cell 0
      obtain ⟨AK, cK, ekv, _⟩ := id hkeys
      subst ekv
      go_wp2_with fail
      refine (HB.out w5 B5).mono ?_
      rintro e w6 ⟨u, rfl, hu, b6⟩
      have B6 := B5.trans (b6.mono B5.size)
      obtain ⟨A6, c6, rfl, hl6, hm6, _⟩ := id hu
      have hle : L.length ≤ 9223372036854775807 := by unfold maxLen at hm6; omega
      clear HB x0 x1 x2 x3 xk hm6
      go_wp2_with fail
      go_loopw [15] (fun iv wr => ∃ j : Nat, j ≤ L.length ∧ iv = .int .i64 j ∧ Hid ((L.take j).all (guardD (vwT f) s keys) = true) ∧ Below w6.heap.size w6 wr) (fun iv _ => L.length - (intOf iv).toNat)
      case atStart => exact ⟨0, by omega, rfl, by show _ = _; simp, Below.refl _ _⟩
      case round =>
        obtain ⟨j, hj, rfl, HA, B⟩ := hrel
        have BW := B6.trans (B.mono B6.size)
        by_cases hlt : j < L.length
        · obtain ⟨b, o, d0', d1', d2', d3', rfl, hb, k0, k1, k2, k3, hv⟩ := el_at hu rfl B j hlt
          obtain ⟨j0, j1, Y2, m2, y2, Y3, m3, y3, rfl, rfl, rfl, rfl⟩ := tm_form hv
          obtain ⟨hsz', hok'⟩ := HKid.out L[j] (List.getElem_mem hlt)
          have bw := BW.trans ((allocB' wr (.cells #[.int .i64 j0, .int .u64 j1, .slice Y2 m2 y2, .slice Y3 m3 y3] 35)).mono BW.size)
          have hc := ih L[j] (.agg #[.int .i64 j0, .int .u64 j1, .slice Y2 m2 y2, .slice Y3 m3 y3]) (wr.alloc (.cells #[.int .i64 j0, .int .u64 j1, .slice Y2 m2 y2, .slice Y3 m3 y3] 35)) hsz' hok' (ks.below bw hbl) (kk.below bw hbl2) (kg.below bw hbl3) (TV.alloc ⟨_, _, _, _, rfl, hv⟩ _) (TM.keepS f _ _ _ _ _ hs bw.size (fun b _ hl => bw.block b hl) fun _ h => h) (hkeys.below' bw)
          have qg : (wr.alloc (.cells #[.int .i64 j0, .int .u64 j1, .slice Y2 m2 y2, .slice Y3 m3 y3] 35)).cell? ⟨bg, 0, none⟩ = some (.func (.func 31) #[] #[.pointer (some ⟨bs, 0, none⟩), .pointer (some ⟨bk, 0, none⟩), .pointer (some ⟨bg, 0, none⟩)]) := (kg.below bw hbl3).cell 0
          have HY : Hid (guardD (vwT f) s keys L[j] = true → (L.take (j + 1)).all (guardD (vwT f) s keys) = true) := fun h => all_step hlt HA.out h
          have HN : Hid (guardD (vwT f) s keys L[j] = false → L.all (guardD (vwT f) s keys) = false) := fun h => all_stop hlt h
          generalize guardD (vwT f) s keys L[j] = r at *
          have hbg : bg < wr.heap.size := Nat.lt_of_lt_of_le hbl3 BW.size
          clear hv hsz' hok' HA
          go_wp2_with fail
          refine hc.mono ?_
          rintro e w7 ⟨rfl, b7⟩
          have B7 := B.trans (((allocB' wr _).trans (b7.mono (allocB' wr _).size)).mono B.size)
          clear hc qg k0 k1 k2 k3
          cases r with
          | true =>
            have HY' := Lib.hid (HY.out rfl)
            clear HY HN bw
            go_wp2_with fail
            go_roundw
            case rel => exact ⟨j + 1, by omega, by go_num, HY', B7⟩
            case measure => simp [intOf]; omega
          | false =>
            have hr := HR9.out.trans (HN.out rfl)
            have BE := B6.trans (B7.mono B6.size)
            clear HY HN HR9 bw
            subst hr
            go_wp2_with fail
            go_ret
            exact ⟨rfl, BE⟩
        · obtain rfl : j = L.length := by omega
          have hA := HA.out
          rw [List.take_length] at hA
          have hr := HR9.out.trans hA
          clear HR9 HA hA
          subst hr
          go_wp2_with fail
          go_ret
          exact ⟨rfl, BW⟩

set_option maxHeartbeats 1000000 in
theorem guarded_any (S Ss Sk : Nat → Prop) (f : Nat) (t s : Tm f) (keys : List Nat) (v sv kv : Value) (w : World) (hSb : ∀ b, S b → b < w.heap.size) (hsh : Shp w) (hm : mayT f t 8 = true) (hv : TV w S f v t) (hs : TV w Ss f sv s) (hkeys : US w Sk kv keys) :
    Calls Tryd.prog 15 #[v, sv, kv] w fun e w' => e = .returned (.bool (guardD (vwT f) s keys t)) ∧ Below w.heap.size w w' := by
  obtain ⟨e0, e1, e2, e3, rfl, tm⟩ := hv
  obtain ⟨i0, i1, X2, n2, z2, X3, n3, z3, rfl, rfl, rfl, rfl⟩ := tm_form tm
  obtain ⟨d0, d1, d2, d3, rfl, ts⟩ := hs
  obtain ⟨j0, j1, Y2, m2, y2, Y3, m3, y3, rfl, rfl, rfl, rfl⟩ := tm_form ts
  obtain ⟨AK, cK, rfl, _⟩ := id hkeys
  generalize keys.length = kn at *
  have b1 := allocB' w (.cells #[.int .i64 i0, .int .u64 i1, .slice X2 n2 z2, .slice X3 n3 z3] 35)
  have b2 := b1.alloc b1.size (.cells #[.int .i64 j0, .int .u64 j1, .slice Y2 m2 y2, .slice Y3 m3 y3] 35)
  have b3 := b2.alloc b2.size (.cells #[.slice AK kn cK] 40)
  have kt := ((KB.new w 35 #[.int .i64 i0, .int .u64 i1, .slice X2 n2 z2, .slice X3 n3 z3]).alloc (.cells #[.int .i64 j0, .int .u64 j1, .slice Y2 m2 y2, .slice Y3 m3 y3] 35)).alloc (.cells #[.slice AK kn cK] 40)
  have ks : KB ((w.alloc (.cells #[.int .i64 i0, .int .u64 i1, .slice X2 n2 z2, .slice X3 n3 z3] 35)).alloc (.cells #[.int .i64 j0, .int .u64 j1, .slice Y2 m2 y2, .slice Y3 m3 y3] 35)) (w.heap.size + 1) 35 #[.int .i64 j0, .int .u64 j1, .slice Y2 m2 y2, .slice Y3 m3 y3] := by
    have := KB.new (w.alloc (.cells #[.int .i64 i0, .int .u64 i1, .slice X2 n2 z2, .slice X3 n3 z3] 35)) 35 #[.int .i64 j0, .int .u64 j1, .slice Y2 m2 y2, .slice Y3 m3 y3]
    simpa using this
  have ks' := ks.alloc (.cells #[.slice AK kn cK] 40)
  have kk : KB (((w.alloc (.cells #[.int .i64 i0, .int .u64 i1, .slice X2 n2 z2, .slice X3 n3 z3] 35)).alloc (.cells #[.int .i64 j0, .int .u64 j1, .slice Y2 m2 y2, .slice Y3 m3 y3] 35)).alloc (.cells #[.slice AK kn cK] 40)) (w.heap.size + 2) 40 #[.slice AK kn cK] := by
    have := KB.new ((w.alloc (.cells #[.int .i64 i0, .int .u64 i1, .slice X2 n2 z2, .slice X3 n3 z3] 35)).alloc (.cells #[.int .i64 j0, .int .u64 j1, .slice Y2 m2 y2, .slice Y3 m3 y3] 35)) 40 #[.slice AK kn cK]
    simpa using this
  have hchk := check_any S f t (.agg #[.int .i64 i0, .int .u64 i1, .slice X2 n2 z2, .slice X3 n3 z3]) _ (fun b hb => Nat.lt_of_lt_of_le (hSb b hb) b3.size) (hsh.below b3) ⟨_, _, _, _, rfl, TM.keepS f _ _ _ _ _ tm b3.size (fun b _ hl => b3.block b hl) fun _ h => h⟩
  rw [if_pos hm] at hchk
  have HG := Lib.hid (fun (w5 : World) (B5 : Below w.heap.size w w5) => guarded1_any (w.heap.size + 1) (w.heap.size + 2) w5.heap.size S Ss Sk f s keys (.int .i64 j0) (.int .u64 j1) (.slice Y2 m2 y2) (.slice Y3 m3 y3) (.slice AK kn cK) (sizeT f t + 1) t (.agg #[.int .i64 i0, .int .u64 i1, .slice X2 n2 z2, .slice X3 n3 z3]) (w5.alloc (.cells #[.func (.func 31) #[] #[.pointer (some ⟨w.heap.size + 1, 0, none⟩), .pointer (some ⟨w.heap.size + 2, 0, none⟩), .pointer (some ⟨w5.heap.size, 0, none⟩)]] 41)) (Nat.lt_succ_self _) ⟨8, hm⟩)
  generalize guardD (vwT f) s keys t = r at *
  go_enter Tryd.func15, Tryd.ntmps15
  go_wp2_with fail
  refine hchk.mono ?_
  rintro e w5 ⟨rfl, b5⟩
  have B5 := b3.trans (b5.mono b3.size)
  have kt5 := kt.below b5 kt.lt
  have ks5 := ks'.below b5 ks'.lt
  have kk5 := kk.below b5 kk.lt
  have hc := HG.out w5 B5 (ks5.alloc _) (kk5.alloc _) (KB.new w5 _ _) (TV.alloc ⟨_, _, _, _, rfl, TM.keepS f _ _ _ _ _ tm B5.size (fun b _ hl => B5.block b hl) fun _ h => h⟩ _) (TM.keepS f _ _ _ _ _ ts (Nat.le_trans B5.size (by simp)) (fun b _ hl => (Below.heap_alloc w5 _ b (Nat.lt_of_lt_of_le hl B5.size)).trans (B5.block b hl)) fun _ h => h) ((hkeys.below' B5).alloc _)
  have x0 : w5.cell? ⟨w.heap.size, 0, none⟩ = some (.int .i64 i0) := kt5.cell 0
  have x1 : w5.cell? ⟨w.heap.size, 1, none⟩ = some (.int .u64 i1) := kt5.cell 1
  have x2 : w5.cell? ⟨w.heap.size, 2, none⟩ = some (.slice X2 n2 z2) := kt5.cell 2
  have x3 : w5.cell? ⟨w.heap.size, 3, none⟩ = some (.slice X3 n3 z3) := kt5.cell 3
  have hlt5 : w.heap.size < w5.heap.size := kt5.lt
  have BA := B5.alloc B5.size (.cells #[.func (.func 31) #[] #[.pointer (some ⟨w.heap.size + 1, 0, none⟩), .pointer (some ⟨w.heap.size + 2, 0, none⟩), .pointer (some ⟨w5.heap.size, 0, none⟩)]] 41)
  clear HG hchk
  go_wp2_with fail
  refine hc.mono ?_
  rintro e w6 ⟨rfl, b6⟩
  have B6 := BA.trans (b6.mono BA.size)
  clear hc x0 x1 x2 x3
  go_wp2_with fail
  go_ret
  exact ⟨rfl, B6⟩
end Go.Proofs.YthgaljgelngmaaaDoor
end
