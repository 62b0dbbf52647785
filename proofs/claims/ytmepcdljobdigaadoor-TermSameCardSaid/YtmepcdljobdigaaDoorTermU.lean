/-
  The document's bytes of a term, over the loaded program: its contract. No condition but the sizes that it names.
-/
import Derived.Test.YtmepcdljobdigaaDoorTermT
import Derived.Test.YtmepcdljobdigaaDoorRefA
import Derived.Test.YtmepcdljobdigaaDoorStep
namespace Go.Proofs.YtmepcdljobdigaaDoor
open Go.RowKit
set_option linter.unusedVariables false

theorem lit_b (w : World) (b : UInt8) (base : Nat) (hb : base ≤ w.heap.size) : (w.alloc (.cells #[bv b] 5)).ownsRow base 5 1 (.slice (some ⟨w.heap.size, 0, none⟩) 1 1) [b].length ([b].map bv) :=
  World.ownsRow_lit w #[bv b] 1 hb (by simp [maxLen]) rfl

theorem byte_int (k : Int) : Value.int .u8 (k % 256) = bv (UInt8.ofNat (k % 256).toNat) := by
  unfold bv
  have : (UInt8.ofNat (k % 256).toNat).toNat = (k % 256).toNat := by simp; omega
  rw [this]
  congr 1
  omega

/-- The bytes of a term with its first j kids. -/
def partB {f : Nat} (h : List UInt8) (ks : List (Tm f)) (j : Nat) : List UInt8 := h ++ ((ks.take j).map (bytesT f)).flatten
theorem partB_zero {f : Nat} (h : List UInt8) (ks : List (Tm f)) : partB h ks 0 = h := by simp [partB]
theorem partB_succ {f : Nat} (h : List UInt8) (ks : List (Tm f)) (j : Nat) (hj : j < ks.length) : partB h ks (j + 1) = partB h ks j ++ bytesT f ks[j] := by
  unfold partB
  rw [List.take_add_one, List.getElem?_eq_getElem hj, List.map_append, List.flatten_append, List.append_assoc]
  simp
theorem partB_all {f : Nat} (h : List UInt8) (ks : List (Tm f)) : partB h ks ks.length = h ++ (ks.map (bytesT f)).flatten := by simp [partB]
theorem partB_le {f : Nat} (h : List UInt8) (ks : List (Tm f)) (j : Nat) : (partB h ks j).length ≤ (h ++ (ks.map (bytesT f)).flatten).length := by
  have e : ks.map (bytesT f) = (ks.take j).map (bytesT f) ++ (ks.drop j).map (bytesT f) := by rw [← List.map_append, List.take_append_drop]
  rw [partB, e, List.flatten_append]
  simp only [List.length_append]
  omega

set_option maxHeartbeats 1000000 in
theorem rbytes_any (S : Nat → Prop) : ∀ (f : Nat) (t : Tm f) (v : Value) (w : World), TV w S f v t → (bytesT f t).length ≤ 1000000 →
    Calls Tryd.prog 33 #[v] w fun e w' => Fresh w e w' (bytesT f t) := by
  obtain ⟨i0, hi, hz0, hz1, hz2⟩ := info_parts info_byte
  intro f
  induction f with
  | zero => intro t; exact nomatch t
  | succ f ih =>
    intro t v w hv hlen0
    obtain ⟨c0, c1, c2, c3, rfl, rfl, hk, rfl, hn, hdat, hks⟩ := hv
    obtain ⟨A2, cap2, rfl, _⟩ := hdat.form
    obtain ⟨A3, cap3, e3, hl3, hm3, _⟩ := id hks
    obtain ⟨k, n, d, ks⟩ := (t : Nd (Tm f))
    simp only at e3 hks hk hn hdat hl3
    subst e3
    have hlen : ks.length ≤ 9223372036854775807 := by unfold maxLen at hm3; omega
    have hall : bytesT (f + 1) (⟨k, n, d, ks⟩ : Nd (Tm f)) = headB (⟨k, n, d, ks⟩ : Nd (Tm f)) ++ (ks.map (bytesT f)).flatten := rfl
    rw [hall] at hlen0 ⊢
    clear hall
    have hpl := fun j => Nat.le_trans (partB_le (headB (⟨k, n, d, ks⟩ : Nd (Tm f))) ks j) hlen0
    have hhd : headB (⟨k, n, d, ks⟩ : Nd (Tm f)) = UInt8.ofNat (k % 256).toNat :: ((if numK k = true then numb n else []) ++ (if k = 3 then texb d else [])) := rfl
    have HA := Lib.hid (partB_all (headB (⟨k, n, d, ks⟩ : Nd (Tm f))) ks)
    generalize headB (⟨k, n, d, ks⟩ : Nd (Tm f)) = hd at *
    generalize hres : hd ++ (ks.map (bytesT f)).flatten = res at *
    clear hlen0
    have hhl := hpl 0
    rw [partB_zero] at hhl
    have HB := Lib.hid hpl
    clear hres hpl
    have hnum := number_any k
    have eb := byte_int k
    have h3N : k = 3 → numK k = false := fun h => by subst h; rfl
    generalize UInt8.ofNat (k % 256).toNat = h0 at *
    have K := (KB.new w 26 #[.int .i64 k, .int .u64 n, .slice A2 d.length cap2, .slice A3 ks.length cap3]).alloc (.cells #[bv h0] 5)
    have B := ((Below.refl w.heap.size w).alloc (Nat.le_refl _) (.cells #[.int .i64 k, .int .u64 n, .slice A2 d.length cap2, .slice A3 ks.length cap3] 26)).alloc (by simp) (.cells #[bv h0] 5)
    have how := lit_b (w.alloc (.cells #[.int .i64 k, .int .u64 n, .slice A2 d.length cap2, .slice A3 ks.length cap3] 26)) h0 (w.heap.size + 1) (by simp)
    rw [World.size_alloc] at how
    have hdw := (hdat.alloc (.cells #[.int .i64 k, .int .u64 n, .slice A2 d.length cap2, .slice A3 ks.length cap3] 26)).alloc (.cells #[bv h0] 5)
    generalize numK k = N at *
    cases N with
    | true =>
      have hk3 : ¬ k = 3 := fun h => by have := h3N h; cases this
      have g3 : (k == 3) = false := beq_eq_false_iff_ne.2 hk3
      rw [if_pos rfl, if_neg hk3, List.append_nil] at hhd
      have HD : Hid ([h0] ++ numb n = hd) := hhd.symm
      have hln : (numb n).length + 1 ≤ 1000000 := by rw [hhd] at hhl; simpa using hhl
      have hrn := fun w => rnum_any n w hn
      clear hhd hhl h3N hdat hdw
      generalize numb n = M1 at *
      go_enter Tryd.func33, Tryd.ntmps33
      go_wp2_with fail
      (first | rw [eb] | skip)
      refine (hnum _).mono ?_
      rintro e w' ⟨rfl, rfl⟩
      generalize (w.alloc (.cells #[.int .i64 k, .int .u64 n, .slice A2 d.length cap2, .slice A3 ks.length cap3] 26)).alloc (.cells #[bv h0] 5) = w1 at *
      have q0 : w1.cell? ⟨w.heap.size, 0, none⟩ = some (.int .i64 k) := K.cell 0
      have q1 : w1.cell? ⟨w.heap.size, 1, none⟩ = some (.int .u64 n) := K.cell 1
      have q2 : w1.cell? ⟨w.heap.size, 2, none⟩ = some (.slice A2 d.length cap2) := K.cell 2
      go_wp2_with fail
      refine (hrn _).mono ?_
      rintro e w2 ⟨v2, rfl, hf2, b2⟩
      have K2a := K.below b2 K.lt
      have B2a := B.trans (b2.mono B.size)
      have how2a := own_past b2 how
      clear q0 q1 q2
      go_wp2_with (at_builtin; refine wpList_grow _ rfl _ _ _ rfl (w.heap.size + 1) 5 i0 Tryd.underlying23 hi hz0 hz1 hz2 _ _ rfl how2a _ _ _ rfl (own_BS hf2) (by simp; omega) K2a.lt ?_; intro v2b w2b how2 hg2 _; have K2 := K2a.grown hg2 (own_ne how2a (Nat.lt_succ_self w.heap.size)); have B2 := B2a.grown hg2 B2a.size fun x hx => Nat.le_trans (Nat.le_succ _) (own_ge how2a x hx); have q0 : w2b.cell? ⟨w.heap.size, 0, none⟩ = some (.int .i64 k) := K2.cell 0)
      go_wp2_with fail
      go_loopw [3, 4] (fun vv iv wr => ∃ (j : Nat) (L : List UInt8), j ≤ ks.length ∧ Hid (L = partB hd ks j) ∧ iv = .int .i64 j ∧ wr.ownsRow (w.heap.size + 1) 5 1 vv L.length (L.map bv) ∧
        KB wr w.heap.size 26 #[.int .i64 k, .int .u64 n, .slice A2 d.length cap2, .slice A3 ks.length cap3] ∧ Below w.heap.size w wr) (fun _ iv _ => ks.length - (intOf iv).toNat)
      case atStart => exact ⟨0, [h0] ++ M1, by omega, by show _ = _; rw [partB_zero]; exact HD.out, rfl, how2, K2, B2⟩
      case round =>
        obtain ⟨j, L, hj, hL, rfl, how, K5, B5⟩ := hrel
        have q3 : wr.cell? ⟨w.heap.size, 3, none⟩ = some (.slice A3 ks.length cap3) := K5.cell 3
        by_cases hlt : j < ks.length
        · obtain ⟨b, o, e0, e1, e2, e3, rfl, hb, k0, k1, k2, k3, hv⟩ := kid_as hks rfl B5 j hlt
          have e1' := partB_succ hd ks j hlt
          have hn := HB.out (j + 1)
          have HS : Hid (L ++ bytesT f ks[j] = partB hd ks (j + 1)) := by show _ = _; rw [e1', hL.out]
          have hlen : L.length + (bytesT f ks[j]).length ≤ 1000000 := by rw [← HS.out, List.length_append] at hn; exact hn
          clear e1' hn
          have hc := ih ks[j] (.agg #[e0, e1, e2, e3]) wr hv (by omega)
          clear hv hks HB
          generalize bytesT f ks[j] = M at *
          go_wp2_with fail
          refine hc.mono ?_
          rintro e w5 ⟨v5, rfl, how5, b5⟩
          have K6 := K5.below b5 K5.lt
          have B6 := B5.trans (b5.mono B5.size)
          have how6 := own_past b5 how
          clear hc q3 k0 k1 k2 k3
          go_wp2_with (at_builtin; refine wpList_grow _ rfl _ _ _ rfl (w.heap.size + 1) 5 i0 Tryd.underlying23 hi hz0 hz1 hz2 _ _ rfl how6 _ _ _ rfl (own_BS how5) (by omega) K6.lt ?_; intro v7 w7 how7 hg7 _)
          have K7 := K6.grown hg7 (own_ne how6 (Nat.lt_succ_self w.heap.size))
          have B7 := B6.grown hg7 B6.size fun x hx => Nat.le_trans (Nat.le_succ _) (own_ge how6 x hx)
          go_roundw
          case rel => exact ⟨j + 1, L ++ M, by omega, HS, by go_num, how7, K7, B7⟩
          case measure => simp [intOf]; omega
        · have e := hL.out
          rw [show j = ks.length by omega, HA.out] at e
          subst e
          go_wp2_with fail
          go_ret
          exact ⟨_, rfl, own_base how (Nat.le_succ _), B5⟩
    | false =>
      rw [if_neg (by simp), List.nil_append] at hhd
      by_cases hk3 : k = 3
      · subst hk3
        rw [if_pos rfl] at hhd
        replace eb : Value.int .u8 3 = bv h0 := eb
        have HD : Hid ([h0] ++ texb d = hd) := hhd.symm
        have hln : (texb d).length + 1 ≤ 1000000 := by rw [hhd] at hhl; simpa using hhl
        have hdl : d.length ≤ 140737488000000 := by have : d.length ≤ (texb d).length := by simp [texb]
                                                    omega
        have hrt1 := rtext_any _ _ d _ hdw hdl
        clear hhd hhl h3N hdat hdw hdl
        generalize texb d = M1 at *
        go_enter Tryd.func33, Tryd.ntmps33
        go_wp2_with fail
        (first | rw [eb] | skip)
        refine (hnum _).mono ?_
        rintro e w' ⟨rfl, rfl⟩
        generalize (w.alloc (.cells #[.int .i64 3, .int .u64 n, .slice A2 d.length cap2, .slice A3 ks.length cap3] 26)).alloc (.cells #[bv h0] 5) = w1 at *
        have q0 : w1.cell? ⟨w.heap.size, 0, none⟩ = some (.int .i64 3) := K.cell 0
        have q1 : w1.cell? ⟨w.heap.size, 1, none⟩ = some (.int .u64 n) := K.cell 1
        have q2 : w1.cell? ⟨w.heap.size, 2, none⟩ = some (.slice A2 d.length cap2) := K.cell 2
        go_wp2_with fail
        refine (hrt1).mono ?_
        rintro e w2 ⟨v2, rfl, hf2, b2⟩
        have K2a := K.below b2 K.lt
        have B2a := B.trans (b2.mono B.size)
        have how2a := own_past b2 how
        clear q0 q1 q2
        go_wp2_with (at_builtin; refine wpList_grow _ rfl _ _ _ rfl (w.heap.size + 1) 5 i0 Tryd.underlying23 hi hz0 hz1 hz2 _ _ rfl how2a _ _ _ rfl (own_BS hf2) (by simp; omega) K2a.lt ?_; intro v2b w2b how2 hg2 _; have K2 := K2a.grown hg2 (own_ne how2a (Nat.lt_succ_self w.heap.size)); have B2 := B2a.grown hg2 B2a.size fun x hx => Nat.le_trans (Nat.le_succ _) (own_ge how2a x hx))
        go_wp2_with fail
        go_loopw [3, 4] (fun vv iv wr => ∃ (j : Nat) (L : List UInt8), j ≤ ks.length ∧ Hid (L = partB hd ks j) ∧ iv = .int .i64 j ∧ wr.ownsRow (w.heap.size + 1) 5 1 vv L.length (L.map bv) ∧
          KB wr w.heap.size 26 #[.int .i64 3, .int .u64 n, .slice A2 d.length cap2, .slice A3 ks.length cap3] ∧ Below w.heap.size w wr) (fun _ iv _ => ks.length - (intOf iv).toNat)
        case atStart => exact ⟨0, [h0] ++ M1, by omega, by show _ = _; rw [partB_zero]; exact HD.out, rfl, how2, K2, B2⟩
        case round =>
          obtain ⟨j, L, hj, hL, rfl, how, K5, B5⟩ := hrel
          have q3 : wr.cell? ⟨w.heap.size, 3, none⟩ = some (.slice A3 ks.length cap3) := K5.cell 3
          by_cases hlt : j < ks.length
          · obtain ⟨b, o, e0, e1, e2, e3, rfl, hb, k0, k1, k2, k3, hv⟩ := kid_as hks rfl B5 j hlt
            have e1' := partB_succ hd ks j hlt
            have hn := HB.out (j + 1)
            have HS : Hid (L ++ bytesT f ks[j] = partB hd ks (j + 1)) := by show _ = _; rw [e1', hL.out]
            have hlen : L.length + (bytesT f ks[j]).length ≤ 1000000 := by rw [← HS.out, List.length_append] at hn; exact hn
            clear e1' hn
            have hc := ih ks[j] (.agg #[e0, e1, e2, e3]) wr hv (by omega)
            clear hv hks HB
            generalize bytesT f ks[j] = M at *
            go_wp2_with fail
            refine hc.mono ?_
            rintro e w5 ⟨v5, rfl, how5, b5⟩
            have K6 := K5.below b5 K5.lt
            have B6 := B5.trans (b5.mono B5.size)
            have how6 := own_past b5 how
            clear hc q3 k0 k1 k2 k3
            go_wp2_with (at_builtin; refine wpList_grow _ rfl _ _ _ rfl (w.heap.size + 1) 5 i0 Tryd.underlying23 hi hz0 hz1 hz2 _ _ rfl how6 _ _ _ rfl (own_BS how5) (by omega) K6.lt ?_; intro v7 w7 how7 hg7 _)
            have K7 := K6.grown hg7 (own_ne how6 (Nat.lt_succ_self w.heap.size))
            have B7 := B6.grown hg7 B6.size fun x hx => Nat.le_trans (Nat.le_succ _) (own_ge how6 x hx)
            go_roundw
            case rel => exact ⟨j + 1, L ++ M, by omega, HS, by go_num, how7, K7, B7⟩
            case measure => simp [intOf]; omega
          · have e := hL.out
            rw [show j = ks.length by omega, HA.out] at e
            subst e
            go_wp2_with fail
            go_ret
            exact ⟨_, rfl, own_base how (Nat.le_succ _), B5⟩
      · have g3 : (k == 3) = false := beq_eq_false_iff_ne.2 hk3
        rw [if_neg hk3] at hhd
        have HD : Hid ([h0] = hd) := hhd.symm
        clear hhd hhl h3N hdat hdw
        go_enter Tryd.func33, Tryd.ntmps33
        go_wp2_with fail
        (first | rw [eb] | skip)
        refine (hnum _).mono ?_
        rintro e w' ⟨rfl, rfl⟩
        generalize (w.alloc (.cells #[.int .i64 k, .int .u64 n, .slice A2 d.length cap2, .slice A3 ks.length cap3] 26)).alloc (.cells #[bv h0] 5) = w1 at *
        have q0 : w1.cell? ⟨w.heap.size, 0, none⟩ = some (.int .i64 k) := K.cell 0
        have q1 : w1.cell? ⟨w.heap.size, 1, none⟩ = some (.int .u64 n) := K.cell 1
        have q2 : w1.cell? ⟨w.heap.size, 2, none⟩ = some (.slice A2 d.length cap2) := K.cell 2
        go_wp2_with fail
        go_loopw [3, 4] (fun vv iv wr => ∃ (j : Nat) (L : List UInt8), j ≤ ks.length ∧ Hid (L = partB hd ks j) ∧ iv = .int .i64 j ∧ wr.ownsRow (w.heap.size + 1) 5 1 vv L.length (L.map bv) ∧
          KB wr w.heap.size 26 #[.int .i64 k, .int .u64 n, .slice A2 d.length cap2, .slice A3 ks.length cap3] ∧ Below w.heap.size w wr) (fun _ iv _ => ks.length - (intOf iv).toNat)
        case atStart => exact ⟨0, [h0], by omega, by show _ = _; rw [partB_zero]; exact HD.out, rfl, how, K, B⟩
        case round =>
          obtain ⟨j, L, hj, hL, rfl, how, K5, B5⟩ := hrel
          have q3 : wr.cell? ⟨w.heap.size, 3, none⟩ = some (.slice A3 ks.length cap3) := K5.cell 3
          by_cases hlt : j < ks.length
          · obtain ⟨b, o, e0, e1, e2, e3, rfl, hb, k0, k1, k2, k3, hv⟩ := kid_as hks rfl B5 j hlt
            have e1' := partB_succ hd ks j hlt
            have hn := HB.out (j + 1)
            have HS : Hid (L ++ bytesT f ks[j] = partB hd ks (j + 1)) := by show _ = _; rw [e1', hL.out]
            have hlen : L.length + (bytesT f ks[j]).length ≤ 1000000 := by rw [← HS.out, List.length_append] at hn; exact hn
            clear e1' hn
            have hc := ih ks[j] (.agg #[e0, e1, e2, e3]) wr hv (by omega)
            clear hv hks HB
            generalize bytesT f ks[j] = M at *
            go_wp2_with fail
            refine hc.mono ?_
            rintro e w5 ⟨v5, rfl, how5, b5⟩
            have K6 := K5.below b5 K5.lt
            have B6 := B5.trans (b5.mono B5.size)
            have how6 := own_past b5 how
            clear hc q3 k0 k1 k2 k3
            go_wp2_with (at_builtin; refine wpList_grow _ rfl _ _ _ rfl (w.heap.size + 1) 5 i0 Tryd.underlying23 hi hz0 hz1 hz2 _ _ rfl how6 _ _ _ rfl (own_BS how5) (by omega) K6.lt ?_; intro v7 w7 how7 hg7 _)
            have K7 := K6.grown hg7 (own_ne how6 (Nat.lt_succ_self w.heap.size))
            have B7 := B6.grown hg7 B6.size fun x hx => Nat.le_trans (Nat.le_succ _) (own_ge how6 x hx)
            go_roundw
            case rel => exact ⟨j + 1, L ++ M, by omega, HS, by go_num, how7, K7, B7⟩
            case measure => simp [intOf]; omega
          · have e := hL.out
            rw [show j = ks.length by omega, HA.out] at e
            subst e
            go_wp2_with fail
            go_ret
            exact ⟨_, rfl, own_base how (Nat.le_succ _), B5⟩
end Go.Proofs.YtmepcdljobdigaaDoor
