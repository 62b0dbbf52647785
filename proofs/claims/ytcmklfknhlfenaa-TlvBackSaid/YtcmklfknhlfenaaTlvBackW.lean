/-
  The law TlvBack over the loaded program: what was put is read, and nothing of it is left; what is read as a number is just what is made of it. No condition.
-/
import Derived.Test.YtcmklfknhlfenaaLiveA
import Derived.Test.YtcmklfknhlfenaaArgs
namespace Go.Proofs.Ytcmklfknhlfenaa
open Go.RowKit Go.ChangeShapes Go.WideShapes Go.Joins

theorem u64_back (i : Int) (h : -9223372036854775808 ≤ i ∧ i ≤ 9223372036854775807) : wrap64 ((u64 i : Nat) : Int) = i := by
  unfold wrap64 u64
  omega

theorem txt_back (t : List UInt8) (h : t.length ≤ 2000) (st : Option (List UInt8)) (hst : st = some (texb t)) : txtOf t.length st = (some [], t) := by
  subst hst
  have e : numOf (some (texb t)) = (some t, t.length) := numOf_numb t.length t (by omega)
  unfold txtOf cntOf
  rw [e]
  rw [if_neg (by omega)]
  simp [passed]

theorem tlvBack_long (n : Int) (i : Int) (vt vb : Value) (t b : List UInt8) (w : World) (ht : BS w (fun _ => True) vt t) (hb : BS w (fun _ => True) vb b) (hl : 2000 < t.length ∨ 2000 < b.length) :
    Calls Try.prog 5 #[.agg #[.int .u64 n, .int .i64 i, vt, vb]] w fun e w' => e = .returned (.bool true) ∧ Below w.heap.size w w' := by
  obtain ⟨At, ct, rfl, _⟩ := ht.form
  obtain ⟨Ab, cb, rfl, _⟩ := hb.form
  by_cases h1 : 2000 < t.length
  · go_enter Try.func5, Try.ntmps5
    go_wp2
    go_quiet (fail)
    go_wp2_with fail
    refine (live_any _).mono ?_
    rintro e w1 ⟨rfl, hb1⟩
    go_wp2
    go_ret
    exact ⟨rfl, (Below_drawn ((Below.refl _ _).alloc (Nat.le_refl _) _) _).trans (hb1.mono (by simp [World.drewN]))⟩
  · have h2 : 2000 < b.length := by omega
    go_enter Try.func5, Try.ntmps5
    go_wp2
    go_quiet (fail)
    go_wp2_with fail
    refine (live_any _).mono ?_
    rintro e w1 ⟨rfl, hb1⟩
    go_wp2
    go_ret
    exact ⟨rfl, (Below_drawn ((Below.refl _ _).alloc (Nat.le_refl _) _) _).trans (hb1.mono (by simp [World.drewN]))⟩


/-- What a step does to a reader and to the rest: the world, the reader and its block's number. -/
theorem step_below {w0 w w' : World} {g : Nat} (h : Below w0.heap.size w0 w) (hg : w.grownBy w' (some g)) (hl : w0.heap.size ≤ g) : Below w0.heap.size w0 w' := h.trans (below_of_grown' hg hl h.size)

theorem tlvBack_main (n : Nat) (hn : n < 18446744073709551616) (i : Int) (hi : -9223372036854775808 ≤ i ∧ i ≤ 9223372036854775807) (vt vb : Value) (t b : List UInt8) (w : World) (ht : BS w (fun b => b < w.heap.size) vt t) (hb : BS w (fun b => b < w.heap.size) vb b)
    (h1 : t.length ≤ 2000) (h2 : b.length ≤ 2000) :
    Calls Try.prog 5 #[.agg #[.int .u64 n, .int .i64 i, vt, vb]] w fun e w' => e = .returned (.bool true) ∧ Below w.heap.size w w' := by
  obtain ⟨At, ct, rfl, _⟩ := ht.form
  obtain ⟨Ab, cb, rfl, _⟩ := hb.form
  have HI := Lib.hid hi
  have HN := Lib.hid hn
  clear hi hn
  have l8 := dig_length_le 8 n
  have l8' := dig_length_le 8 (u64 i)
  have l8'' := dig_length_le 8 t.length
  go_enter Try.func5, Try.ntmps5
  go_wp2
  go_quiet (fail)
  have B0 : Below w.heap.size w ((w.alloc (.cells #[.int .u64 n, .int .i64 i, .slice At t.length ct, .slice Ab b.length cb] 45)).drewN nq) := Below_drawn ((Below.refl _ _).alloc (Nat.le_refl _) _) _
  have ht0 := ht.below' B0
  have hb0 := hb.below' B0
  generalize (w.alloc (.cells #[.int .u64 n, .int .i64 i, .slice At t.length ct, .slice Ab b.length cb] 45)).drewN nq = W0 at *
  have z0 := B0.size
  clear ht hb
  go_wp2_with fail
  refine (num_any n _ HN.out).mono ?_
  rintro e w1 ⟨v1, rfl, ho1, b1⟩
  obtain ⟨A1, c1, rfl, _⟩ := (own_BS ho1).form
  have x1 := (own_BS ho1).mono (S' := fun _ => True) fun _ _ => trivial
  have ht1 := ht0.below' b1
  have hb1 := hb0.below' b1
  have B1 := B0.trans (b1.mono z0)
  have z1 := B1.size
  clear ht0 hb0 b1 ho1
  go_wp2_with fail
  refine (int_any i _).mono ?_
  rintro e w2 ⟨v2, rfl, ho2, b2⟩
  obtain ⟨A2, c2, rfl, _⟩ := (own_BS ho2).form
  have x2 := (own_BS ho2).mono (S' := fun _ => True) fun _ _ => trivial
  have x1' := x1.below' b2
  have ht2 := ht1.below' b2
  have hb2 := hb1.below' b2
  have B2 := B1.trans (b2.mono z1)
  have z2 := B2.size
  clear ht1 hb1 b2 ho2 x1
  go_wp2_with fail
  refine (text_any _ _ t _ ht2 (by omega)).mono ?_
  rintro e w3 ⟨v3, rfl, ho3, b3⟩
  obtain ⟨A3, c3, rfl, _⟩ := (own_BS ho3).form
  have x3 := (own_BS ho3).mono (S' := fun _ => True) fun _ _ => trivial
  have x1'' := x1'.below' b3
  have x2' := x2.below' b3
  have ht3 := ht2.below' b3
  have hb3 := hb2.below' b3
  have B3 := B2.trans (b3.mono z2)
  have z3 := B3.size
  clear ht2 hb2 b3 ho3 x1' x2
  have L3 := LS.three (t := 25) x1'' x2' x3
  have B3' := B3.alloc z3 (.cells #[.slice A1 (numb n).length c1, .slice A2 (numb (u64 i)).length c2, .slice A3 (texb t).length c3] 25)
  have ht3' := ht3.alloc (.cells #[.slice A1 (numb n).length c1, .slice A2 (numb (u64 i)).length c2, .slice A3 (texb t).length c3] 25)
  have hb3' := hb3.alloc (.cells #[.slice A1 (numb n).length c1, .slice A2 (numb (u64 i)).length c2, .slice A3 (texb t).length c3] 25)
  go_wp2_with fail
  refine (all_any _ _ _ _ L3 (by simp [flat, numb, texb]; omega)).mono ?_
  clear L3 x1'' x2' x3 ht3 hb3
  rintro e w4 ⟨v4, rfl, ho4, b4⟩
  have z3' := B3'.size
  obtain ⟨A4, c4, rfl, _⟩ := (own_BS ho4).form
  have x4 := own_BS ho4
  have ht4 := ht3'.below' b4
  have hb4 := hb3'.below' b4
  have B4 := B3'.trans (b4.mono z3')
  have z4 := B4.size
  clear ht3' hb3' b4 ho4 B3'
  have F4 : flat [numb n, numb (u64 i), texb t] = numb n ++ (numb (u64 i) ++ texb t) := by simp [flat]
  have hlen : (flat [numb n, numb (u64 i), texb t]).length ≤ 140737488355328 := by simp [flat, numb, texb]; omega
  generalize flat [numb n, numb (u64 i), texb t] = L at *
  have E1 : Hid (numOf (some L) = (some (numb (u64 i) ++ texb t), n)) := by show _ = _; rw [F4]; exact numOf_numb _ _ HN.out
  have E2 : Hid (numOf (some (numb (u64 i) ++ texb t)) = (some (texb t), u64 i)) := by show _ = _; exact numOf_numb _ _ (u64_lt i)
  have E3 : Hid (txtOf t.length (some (texb t)) = (some [], t)) := txt_back t h1 _ rfl
  have E4 : Hid (wrap64 ((u64 i : Nat) : Int) = i) := u64_back i HI.out
  clear F4 l8 l8' l8''
  go_wp2_with fail
  refine (new_any _ _ _ _ x4 hlen).mono ?_
  rintro e w5 ⟨g, rfl, hg5, hgl, hr5, b5⟩
  generalize (fun b => w4.heap.size ≤ b ∧ b < g) = S at hr5
  have ht5 := ht4.below' b5
  have hb5 := hb4.below' b5
  have B5 := B4.trans (b5.mono z4)
  have z5 := B5.size
  have hgw : w.heap.size ≤ g := by omega
  clear ht4 hb4 b5 x4 hlen z3'
  go_wp2_with fail
  have N6 := num_some g S _ _ hr5
  rw [E1.out] at N6
  simp only at N6
  refine N6.mono ?_
  clear N6
  rintro e w6 ⟨rfl, hr6, g6⟩
  have nr : ∀ k, some g = some k → ¬ k < w.heap.size := by rintro k hk; injection hk; omega
  have ht6 := ht5.grown g6 nr
  have hb6 := hb5.grown g6 nr
  have B6 := step_below B5 g6 hgw
  clear ht5 hb5 hr5 g6
  go_wp2_with fail
  have N7 := int_some g S _ _ hr6
  rw [E2.out] at N7
  simp only at N7
  rw [E4.out] at N7
  refine N7.mono ?_
  clear N7
  rintro e w7 ⟨rfl, hr7, g7⟩
  have ht7 := ht6.grown g7 nr
  have hb7 := hb6.grown g7 nr
  have B7 := step_below B6 g7 hgw
  clear ht6 hb6 hr6 g7
  go_wp2_with fail
  have N8 := text_some t.length (by omega) g S _ _ hr7 (by simp [texb, numb]; have := dig_length_le 8 t.length; omega)
  rw [E3.out] at N8
  simp only at N8
  refine N8.mono ?_
  clear N8
  rintro e w8 ⟨v8, rfl, hr8, ho8, g8⟩
  have x8 := own_BS ho8
  obtain ⟨A8, c8, rfl, _⟩ := x8.form
  have ht8 := ht7.grown g8 nr
  have hb8 := hb7.grown g8 nr
  have B8 := step_below B7 g8 hgw
  have z8 := B8.size
  clear ht7 hb7 hr7 g8 ho8
  go_wp2_with fail
  refine (same_to _ _ _ _ t _ x8 ht8).mono ?_
  rintro e w9 ⟨rfl, b9⟩
  have hb9 := hb8.below' b9
  have hr9 := hr8.below b9
  have B9 := B8.trans (b9.mono z8)
  have z9 := B9.size
  clear ht8 x8 hb8 hr8 b9
  go_wp2_with fail
  refine (ok_rd _ _ _ _ hr9).mono ?_
  rintro e w' ⟨rfl, rfl⟩
  go_wp2_with fail
  refine (left_rd _ _ _ _ hr9).mono ?_
  rintro e w' ⟨rfl, rfl⟩
  clear hr9 E1 E2 E3 E4
  go_wp2_with fail
  refine (new_any _ _ _ _ hb9 (by omega)).mono ?_
  rintro e w10 ⟨g2, rfl, hg10, hgl2, hr10, b10⟩
  generalize (fun b => w9.heap.size ≤ b ∧ b < g2) = S2 at hr10
  have hb10 := hb9.below' b10
  have B10 := B9.trans (b10.mono z9)
  have z10 := B10.size
  have hgw2 : w.heap.size ≤ g2 := by omega
  have nr2 : ∀ k, some g2 = some k → ¬ k < w.heap.size := by rintro k hk; injection hk; omega
  clear hb9 b10
  go_wp2_with fail
  have N11 := num_some g2 S2 _ _ hr10
  have hlt := numOf_lt (some b)
  have hback : ∀ l', (numOf (some b)).1 = some l' → numb (numOf (some b)).2 ++ l' = b := fun l' h => numb_numOf b l' _ (by rw [← h])
  generalize numOf (some b) = r at N11 hlt hback
  obtain ⟨st, m⟩ := r
  simp only at N11 hlt hback
  have HB := Lib.hid hback
  have HL := Lib.hid hlt
  refine N11.mono ?_
  clear N11 hback hlt
  rintro e w11 ⟨rfl, hr11, g11⟩
  have hb11 := hb10.grown g11 nr2
  have B11 := step_below B10 g11 hgw2
  have z11 := B11.size
  clear hb10 hr10 g11
  cases st with
  | none =>
    go_wp2_with fail
    refine (ok_rd _ _ _ _ hr11).mono ?_
    rintro e w' ⟨rfl, rfl⟩
    go_wp2_with fail
    refine (live_any _).mono ?_
    rintro e w12 ⟨rfl, b12⟩
    go_wp2
    go_ret
    exact ⟨rfl, B11.trans (b12.mono z11)⟩
  | some l' =>
    have hb' := HB.out l' rfl
    obtain ⟨y, hy⟩ : ∃ y, numb m = y := ⟨_, rfl⟩
    rw [hy] at hb'
    have hy1 : 0 < y.length := by rw [← hy]; simp [numb]
    have HY := Lib.hid hy
    have hbl : b.length = y.length + l'.length := by rw [← hb']; simp
    have htk : b.take y.length = y := by rw [← hb']; simp
    have HTK := Lib.hid htk
    have HBL : Hid (b.length = y.length + l'.length) := hbl
    have hsub : ((b.length : Int) - (l'.length : Int)) = (y.length : Int) := by omega
    clear hb' hy htk hbl HB
    go_wp2_with fail
    refine (ok_rd _ _ _ _ hr11).mono ?_
    rintro e w' ⟨rfl, rfl⟩
    go_wp2_with fail
    have N12 := num_any m w11 HL.out
    rw [HY.out] at N12
    refine N12.mono ?_
    clear N12
    rintro e w12 ⟨v12, rfl, ho12, b12⟩
    have x12 := own_BS ho12
    obtain ⟨A12, c12, rfl, _⟩ := x12.form
    have hb12 := hb11.below' b12
    have hr12 := hr11.below b12
    have B12 := B11.trans (b12.mono z11)
    have z12 := B12.size
    clear hb11 hr11 b12 ho12
    go_wp2_with fail
    refine (left_rd _ _ _ _ hr12).mono ?_
    rintro e w' ⟨rfl, rfl⟩
    have hle : y.length ≤ b.length := by have := HBL.out; omega
    obtain ⟨bb, ob, rfl, _, _, _⟩ := hb12.at_ (by omega)
    have hbt := hb12.take y.length hle
    rw [HTK.out] at hbt
    have hble : (y.length : Int) ≤ (cb : Int) := by omega
    go_wp2_with fail
    refine (same_to _ _ _ _ y _ x12 hbt).mono ?_
    rintro e w13 ⟨rfl, b13⟩
    have B13 := B12.trans (b13.mono z12)
    have z13 := B13.size
    clear hbt x12 hb12 hr12
    go_wp2_with fail
    refine (live_any _).mono ?_
    rintro e w14 ⟨rfl, b14⟩
    go_wp2
    go_ret
    exact ⟨rfl, B13.trans (b14.mono z13)⟩

theorem cells_put : Try.prog.cellsOf 45 = 4 := by kernel_rfl

theorem tlvBack_law {H : Type} (enc : TypeId × Value → H) (W : World) (base : Nat) (v0 : Value) (d0 : DataW H) (p0 : List MemPlace)
    (ok0 : Value.okWide Try.prog W .any base 45 v0) (h0 : DataW.Trod enc Try.prog W 0 (fun _ => true) true 45 v0 d0 p0) :
    Calls Try.prog 5 #[v0] W fun e W' => e = .returned (.bool true) ∧ Below W.heap.size W W' := by
  obtain ⟨c0, c1, c2, c3, y0, y1, y2, y3, m, rfl, rfl, rfl, k0, k1, k2, k3⟩ := open_agg4 Try.underlying45 (by kernel_rfl) cells_put ok0 h0
  obtain ⟨n, e0, _, wn⟩ := DataW.trod_int Try.underlying22 k0
  obtain ⟨i, e1, _, wi⟩ := DataW.trod_int Try.underlying3 k1
  simp at e0 e1
  subst e0 e1
  obtain ⟨t, ht⟩ := BS_of_trod k2
  obtain ⟨b, hb⟩ := BS_of_trod k3
  have ht' := ht.lt.mono (S' := fun b => b < W.heap.size) fun _ h => h.2
  have hb' := hb.lt.mono (S' := fun b => b < W.heap.size) fun _ h => h.2
  have hn : 0 ≤ n ∧ n ≤ 18446744073709551615 := by simpa [Lit.wf, IntKind.min, IntKind.max, IntKind.signed, IntKind.bits] using wn
  have hi : -9223372036854775808 ≤ i ∧ i ≤ 9223372036854775807 := by simpa [Lit.wf, IntKind.min, IntKind.max, IntKind.signed, IntKind.bits] using wi
  by_cases hl : 2000 < t.length ∨ 2000 < b.length
  · exact tlvBack_long n i c2 c3 t b W (ht'.mono fun _ _ => trivial) (hb'.mono fun _ _ => trivial) hl
  · obtain ⟨n', rfl⟩ := Int.eq_ofNat_of_zero_le hn.1
    exact tlvBack_main n' (by omega) i hi c2 c3 t b W ht' hb' (by omega) (by omega)

end Go.Proofs.Ytcmklfknhlfenaa
