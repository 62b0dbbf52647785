/-
  DcO: The program's error of a list of terms: its contract, over the loaded program. No condition but what the theorem names.
  TpV: A term's parts, by the program: in memory of their own. No condition but what the theorem names.
-/
import Derived.Test.YthgaljgelngmaaaDoorDv35
import Derived.Test.YthgaljgelngmaaaDoorDv26

section
namespace Go.Proofs.YthgaljgelngmaaaDoor
open Go.RowKit
set_option linter.unusedVariables false

theorem partsOf_len {f : Nat} {t : Tm f} (h : mayT f t 8 = true) : (partsOf f t).length = (partsT f t).length := by
  unfold partsOf
  rw [if_pos h]
  exact (partsU_T f t).len
theorem allocO (w : World) (o : Obj) : Below w.heap.size w (w.alloc o) := (Below.refl _ _).alloc (Nat.le_refl _) o

set_option maxHeartbeats 2000000 in
theorem dcheck_any (S : Nat → Prop) (f : Nat) (l : List (Tm f)) (v : Value) (w : World) (hS : ∀ b, S b → b < w.heap.size) (hsh : Shp w) (hl : KS w S (TM w S f) v l) :
    Calls Tryd.prog 20 #[v] w fun e w' => e = .returned (.int .i64 (errT f l)) ∧ Below w.heap.size w w' := by
  obtain ⟨A, c, rfl, hlc, hm, _⟩ := id hl
  have hle : l.length ≤ 9223372036854775807 := by unfold maxLen at hm; omega
  obtain ⟨E, hE⟩ : ∃ E, E = errT f l := ⟨_, rfl⟩
  rw [← hE]
  have HE := Lib.hid hE
  clear hE
  go_enter Tryd.func20, Tryd.ntmps20
  go_wp2_with fail
  go_loopw [10] (fun iv wr => ∃ j : Nat, j ≤ l.length ∧ iv = .int .i64 j ∧ Hid ((l.take j).all (fun t => mayT f t 8) = true) ∧ Below w.heap.size w wr) (fun iv _ => l.length - (intOf iv).toNat)
  case atStart => exact ⟨0, by omega, rfl, by show _ = _; simp, Below.refl _ _⟩
  case round =>
    obtain ⟨j, hj, rfl, HA, B⟩ := hrel
    by_cases hlt : j < l.length
    · obtain ⟨b, o, e0, e1, e2, e3, rfl, hb, k0, k1, k2, k3, hv⟩ := el_at hl rfl B j hlt
      obtain ⟨j0, j1, Y2, m2, y2, Y3, m3, y3, rfl, rfl, rfl, rfl⟩ := tm_form hv
      have BA := B.trans ((allocO wr (.cells #[.int .i64 j0, .int .u64 j1, .slice Y2 m2 y2, .slice Y3 m3 y3] 35)).mono B.size)
      have hc := check_any S f l[j] (.agg #[.int .i64 j0, .int .u64 j1, .slice Y2 m2 y2, .slice Y3 m3 y3]) (wr.alloc (.cells #[.int .i64 j0, .int .u64 j1, .slice Y2 m2 y2, .slice Y3 m3 y3] 35)) (fun b hb => Nat.lt_of_lt_of_le (hS b hb) BA.size) (hsh.below BA) (TV.alloc ⟨_, _, _, _, rfl, hv⟩ _)
      have HY : Hid (mayT f l[j] 8 = true → (l.take (j + 1)).all (fun t => mayT f t 8) = true) := fun h => all_step hlt HA.out h
      have HN : Hid (mayT f l[j] 8 = false → errT f l = 1) := fun h => errT_one (all_stop (P := fun t => mayT f t 8) hlt h)
      generalize mayT f l[j] 8 = r at *
      clear hv HA
      cases r with
      | true =>
        rw [if_pos rfl] at hc
        have HY' := Lib.hid (HY.out rfl)
        clear HY HN
        go_wp2_with fail
        refine hc.mono ?_
        rintro e w5 ⟨rfl, b5⟩
        have B5 := BA.trans (b5.mono BA.size)
        clear hc
        go_wp2_with fail
        go_roundw
        case rel => exact ⟨j + 1, by omega, by go_num, HY', B5⟩
        case measure => simp [intOf]; omega
      | false =>
        rw [if_neg (by simp)] at hc
        have hr := HE.out.trans (HN.out rfl)
        clear HY HN HE
        subst hr
        go_wp2_with fail
        refine hc.mono ?_
        rintro e w5 ⟨rfl, b5⟩
        have B5 := BA.trans (b5.mono BA.size)
        clear hc
        go_wp2_with fail
        go_ret
        exact ⟨rfl, B5⟩
    · obtain rfl : j = l.length := by omega
      have HM : Hid (l.all (fun t => mayT f t 8) = true) := by
        have := HA.out
        rwa [List.take_length] at this
      have HMay : Hid (∀ t ∈ l, mayT f t 8 = true) := List.all_eq_true.1 HM.out
      clear HA
      by_cases h3 : 300 < l.length
      · have hr := HE.out.trans (errT_four HM.out (.inl h3))
        have g3 : (300 : Int) < (l.length : Int) := by omega
        clear HE
        subst hr
        go_wp2_with fail
        go_ret
        exact ⟨rfl, B⟩
      · have g3 : ¬ (300 : Int) < (l.length : Int) := by omega
        have HB : Hid (∀ j, (univT f (l.take j)).length ≤ 100000) := fun j => by
          have h1 := univT_le f (l.take j) fun t ht => HMay.out t (List.mem_of_mem_take ht)
          have h2 : (l.take j).length ≤ l.length := by rw [List.length_take]; omega
          have h3' : (l.take j).length * 255 ≤ 300 * 255 := Nat.mul_le_mul_right _ (by omega)
          omega
        go_wp2_with fail
        clear g3 hm
        go_loopw [5, 23] (fun nv iv wr => ∃ j n : Nat, j ≤ l.length ∧ iv = .int .i64 j ∧ nv = .int .i64 n ∧ n ≤ 100000 ∧ Hid (n = (univT f (l.take j)).length) ∧ Below w.heap.size w wr) (fun _ iv _ => l.length - (intOf iv).toNat)
        case atStart => exact ⟨0, 0, by omega, rfl, rfl, by omega, rfl, B⟩
        case round =>
          clear B
          obtain ⟨j, n, hj, rfl, rfl, hn, HU, B⟩ := hrel
          by_cases hlt : j < l.length
          · obtain ⟨b, o, e0, e1, e2, e3, rfl, hb, k0, k1, k2, k3, hv⟩ := el_at hl rfl B j hlt
            obtain ⟨j0, j1, Y2, m2, y2, Y3, m3, y3, rfl, rfl, rfl, rfl⟩ := tm_form hv
            have BA := B.trans ((allocO wr (.cells #[.int .i64 j0, .int .u64 j1, .slice Y2 m2 y2, .slice Y3 m3 y3] 35)).mono B.size)
            have hc := parts_any S f l[j] (.agg #[.int .i64 j0, .int .u64 j1, .slice Y2 m2 y2, .slice Y3 m3 y3]) (wr.alloc (.cells #[.int .i64 j0, .int .u64 j1, .slice Y2 m2 y2, .slice Y3 m3 y3] 35)) (fun b hb => Nat.lt_of_lt_of_le (hS b hb) BA.size) (hsh.below BA) (TV.alloc ⟨_, _, _, _, rfl, hv⟩ _)
            have hpo := partsOf_len (HMay.out _ (List.getElem_mem hlt))
            have HS : Hid ((univT f (l.take (j + 1))).length = n + (partsOf f l[j]).length) := by
              show _ = _
              rw [univT_take f l j hlt, ← HU.out, hpo]
            have hnb := HB.out (j + 1)
            rw [HS.out] at hnb
            generalize partsOf f l[j] = M at *
            clear hv HU hpo
            go_wp2_with fail
            refine hc.mono ?_
            rintro e w5 ⟨u, rfl, hu, b5⟩
            have B5 := BA.trans (b5.mono BA.size)
            obtain ⟨A5, c5, rfl, _⟩ := hu
            clear hc
            go_wp2_with fail
            go_roundw
            case rel => exact ⟨j + 1, n + M.length, by omega, by go_num, by go_num, hnb, HS.out.symm, B5⟩
            case measure => simp [intOf]; omega
          · obtain rfl : j = l.length := by omega
            have hu := HU.out
            rw [List.take_length] at hu
            by_cases h2 : 2000 < n
            · have hr := HE.out.trans (errT_four HM.out (.inr (by omega)))
              have g2 : (2000 : Int) < (n : Int) := by omega
              clear HE HU hu
              subst hr
              go_wp2_with fail
              go_ret
              exact ⟨rfl, B⟩
            · have hr := HE.out.trans (errT_zero HM.out (by omega) (by omega))
              have g2 : ¬ (2000 : Int) < (n : Int) := by omega
              clear HE HU hu
              subst hr
              go_wp2_with fail
              go_ret
              exact ⟨rfl, B⟩
end Go.Proofs.YthgaljgelngmaaaDoor
end

section
namespace Go.Proofs.YthgaljgelngmaaaDoor
open Go.RowKit
set_option linter.unusedVariables false

set_option maxHeartbeats 1000000 in
theorem parts_new (S : Nat → Prop) (f : Nat) (t : Tm f) (v : Value) (w : World) (hS : ∀ b, S b → b < w.heap.size) (hsh : Shp w) (hv : TV w S f v t) :
    Calls Tryd.prog 22 #[v] w fun e w' => ∃ u, e = .returned u ∧ KU w' (fun b => w.heap.size ≤ b ∧ b < w'.heap.size) u (partsOf f t) ∧ Below w.heap.size w w' := by
  obtain ⟨e0, e1, e2, e3, rfl, ht⟩ := hv
  obtain ⟨j0, j1, X2, n2, z2, X3, n3, z3, rfl, rfl, rfl, rfl⟩ := tm_form ht
  have tv : TV w S f (.agg #[.int .i64 j0, .int .u64 j1, .slice X2 n2 z2, .slice X3 n3 z3]) t := ⟨_, _, _, _, rfl, ht⟩
  have hchk := check_any S f t _ (w.alloc (.cells #[.int .i64 j0, .int .u64 j1, .slice X2 n2 z2, .slice X3 n3 z3] 35)) (fun b hb => by have := hS b hb; simp; omega) (hsh.alloc _) (tv.alloc _)
  have K0 := KB.new w 35 #[.int .i64 j0, .int .u64 j1, .slice X2 n2 z2, .slice X3 n3 z3]
  have B0 := (Below.refl w.heap.size w).alloc (Nat.le_refl _) (.cells #[.int .i64 j0, .int .u64 j1, .slice X2 n2 z2, .slice X3 n3 z3] 35)
  unfold partsOf
  cases hm : mayT f t 8 with
  | false =>
    rw [hm, if_neg (by simp)] at hchk
    rw [if_neg (by simp)]
    go_enter Tryd.func22, Tryd.ntmps22
    go_wp2_with fail
    refine hchk.mono ?_
    rintro e w5 ⟨rfl, b5⟩
    have B5 := B0.trans (b5.mono B0.size)
    clear hchk
    go_wp2_with fail
    go_ret
    exact ⟨_, rfl, ⟨none, 0, rfl, by simp, by simp [maxLen], fun _ => rfl, fun h => absurd h (by simp)⟩, B5⟩
  | true =>
    rw [hm, if_pos rfl] at hchk
    rw [if_pos rfl]
    have hle := parts_may hm
    have hfw := partsU_few f t (may_few f t 8 hm)
    have hea := fun (w5 : World) (b5 : Below (w.alloc (.cells #[.int .i64 j0, .int .u64 j1, .slice X2 n2 z2, .slice X3 n3 z3] 35)).heap.size (w.alloc (.cells #[.int .i64 j0, .int .u64 j1, .slice X2 n2 z2, .slice X3 n3 z3] 35)) w5) =>
      each_any 41 #[.pointer (some ⟨w5.heap.size, 0, none⟩)] (IQ w5.heap.size (w5.heap.size + 1)) (fun _ _ _ => true) (fun f (t : Nd (Tm f)) s => s ++ [(⟨f + 1, t⟩ : UT)]) (fun s => s.length ≤ 1000000 ∧ ∀ u ∈ s, few u.1 u.2) S (fun P w s o h => h.alloc o) (fun P Q w s h hq => h.mono hq) runs_parts1
        (fun f t s h => by rw [nxtU_parts, List.length_append] at h; exact ⟨by omega, fun u hu => h.2 u (List.mem_append_left _ hu)⟩)
        (fun f t v d s w P hd hP hS hg hsh hi hb hv => (parts1_any w5.heap.size (w5.heap.size + 1) S f t v d s w P hP hS hi (by have := hb.1; rw [List.length_append] at this; exact this) (hb.2 (⟨f + 1, t⟩ : UT) (List.mem_append_right _ (List.mem_singleton_self _))) hv).mono fun e w' hh => ⟨hh.1, fun _ => hh.2.1, hh.2.2⟩)
        f t _ [] (w5.alloc (.cells #[.slice none 0 0] 22)) (fun b => b < w5.heap.size) (fun b hb => by simp; omega) (fun b hb => by have := hS b hb; have := b5.size; simp at this; omega)
        (((hsh.alloc _).below b5).1) (((hsh.alloc _).below b5).alloc _)
        ⟨Nat.lt_irrefl _, Nat.lt_succ_self _, by simp, _, [], KB.new w5 _ _, World.ownsRow_nil _ _ _ _, (fun k hk => by simp [Value.ownBlock] at hk), QU.nil _ _⟩
        (by rw [nxtU_parts, List.nil_append]; exact ⟨by omega, hfw⟩) (((tv.alloc (.cells #[.int .i64 j0, .int .u64 j1, .slice X2 n2 z2, .slice X3 n3 z3] 35)).below' b5).alloc _)
    rw [okT_true, nxtU_parts, List.nil_append] at hea
    clear hm hle hfw tv ht hsh
    generalize partsU f t = L at *
    go_enter Tryd.func22, Tryd.ntmps22
    go_wp2_with fail
    refine hchk.mono ?_
    rintro e w5 ⟨rfl, b5⟩
    have B5 := B0.trans (b5.mono B0.size)
    have K5 := K0.below b5 K0.lt
    have hc := hea w5 b5
    have hz5 := K5.lt
    have q0 := K5.cell 0
    have q1 := K5.cell 1
    have q2 := K5.cell 2
    have q3 := K5.cell 3
    clear hea hchk
    go_wp2_with fail
    refine hc.mono ?_
    rintro e w7 ⟨rfl, hI7, hk7⟩
    obtain ⟨_, _, _, v7, qs, kg7, how7, _, hq7⟩ := hI7 (by trivial)
    have B7 := (B5.alloc (by have := B5.size; omega) (.cells #[.slice none 0 0] 22)).trans (hk7.to_below (B := w.heap.size) fun x hx => by omega)
    have hks := KU_of_own (S := fun b => w.heap.size ≤ b ∧ b < w7.heap.size) how7 (hq7.keepS (Nat.le_refl _) (fun _ _ _ => rfl) fun b hb => ⟨by have := hb.1; have := B5.size; omega, hb.2.2⟩) fun b hb h => ⟨by have := B5.size; omega, h⟩
    obtain ⟨A7, c7, rfl⟩ := own_form how7
    have qb : w7.cell? ⟨w5.heap.size, 0, none⟩ = some (.slice A7 qs.length c7) := kg7.cell 0
    clear hc q0 q1 q2 q3 hI7 hk7 b5 hq7 how7
    go_wp2_with fail
    go_ret
    exact ⟨_, rfl, hks, B7⟩

end Go.Proofs.YthgaljgelngmaaaDoor
end
