/-
  The law DueGrows over the loaded program: with milestones more, behind the others, what was known stays known, and without ExAnd it is due as early or earlier. No condition.
-/
import Derived.Test.YtommcdgognlfcaaDuL
import Derived.Test.YtommcdgognlfcaaDuO
import Derived.Test.YtommcdgognlfcaaHeld
namespace Go.Proofs.Ytommcdgognlfcaa
open Go.RowKit Go.ChangeShapes Go.WideShapes Go.Joins
set_option maxRecDepth 100000
set_option linter.unusedVariables false

set_option maxHeartbeats 8000000 in
theorem grows_law (S Sa Sb : Nat → Prop) (f : Nat) (x : Ex f) (a b : List Ml) (v0 va vb : Value) (w : World) (hx : EV w S f v0 x) (ha : ML w Sa va a) (hb : ML w Sb vb b) :
    Calls Try.prog 6 #[v0, va, vb] w fun e w' => e = .returned (.bool true) ∧ Below w.heap.size w w' := by
  have hga := ml_good ha
  have hgb := ml_good hb
  obtain ⟨Aa, ca, rfl, hla, hca⟩ := ha.form
  obtain ⟨Ab, cb, rfl, hlb, hcb⟩ := hb.form
  have hlena : a.length ≤ 9223372036854775807 := by unfold maxLen at hca; omega
  have hlenb : b.length ≤ 9223372036854775807 := by unfold maxLen at hcb; omega
  have hxx := hx
  obtain ⟨c0, c1, c2, c3, rfl, ht⟩ := hx
  have hf4 := ht.form
  have kb := KB.new w 24 #[c0, c1, c2, c3]
  have B0 := (Below.refl w.heap.size w).alloc (Nat.le_refl _) (.cells #[c0, c1, c2, c3] 24)
  have HSM : Hid (∀ W, Below w.heap.size w W → Calls Try.prog 7 #[.agg #[c0, c1, c2, c3]] W fun e w' => ∃ b : Bool, e = .returned (.bool b) ∧ (b = true → fewX f x) ∧ Below W.heap.size W w') := fun W hb => small19_any S f x _ W (hxx.below' hb)
  have HP : Hid (fewX f x → ∀ W, Below w.heap.size w W → Calls Try.prog 9 #[.agg #[c0, c1, c2, c3], .slice Aa a.length ca] W (WhenAs W (whenX a f x))) := fun hf W hb => when19_any S Sa a _ f x _ W hf (ha.below' hb) (hxx.below' hb)
  have HQ : Hid (fewX f x → ∀ W v, Below w.heap.size w W → W.ownsRow (w.heap.size + 1) 43 2 v (a ++ b).length (flatM (a ++ b)) → Calls Try.prog 9 #[.agg #[c0, c1, c2, c3], v] W (WhenAs W (whenX (a ++ b) f x))) := fun hf W v hb ho => when19_any S _ (a ++ b) _ f x _ W hf (ML_own ho fun m hm => (List.mem_append.1 hm).elim (hga m) (hgb m)) (hxx.below' hb)
  have HPL : Hid (∀ W, Below w.heap.size w W → Calls Try.prog 19 #[.agg #[c0, c1, c2, c3]] W fun e w' => e = .returned (.bool (plainX f x)) ∧ Below W.heap.size W w') := fun W hb => plain19_any S f x _ W (hxx.below' hb)
  have HL : Hid (∀ W, Calls Try.prog 8 #[] W fun e w' => e = .returned (.bool true) ∧ Below W.heap.size W w') := fun W => live19_any W
  have HA : Hid (∀ W, Below w.heap.size w W → ML W Sa (.slice Aa a.length ca) a) := fun W h => ha.below' h
  have HB : Hid (∀ W, Below w.heap.size w W → ML W Sb (.slice Ab b.length cb) b) := fun W h => hb.below' h
  have HG := Lib.hid (when_grows a b f x)
  clear hxx ht ha hb hga hgb
  obtain ⟨i0, i1, l2, X3, n3, z3, rfl, rfl, rfl, rfl⟩ := hf4
  unfold strV at *
  generalize (⟨l2.toArray⟩ : ByteArray) = s at *
  generalize whenX a f x = r at *
  generalize whenX (a ++ b) f x = q at *
  generalize plainX f x = pl at *
  obtain ⟨t, ok⟩ := r
  obtain ⟨u, is⟩ := q
  have hs := HSM.out _ B0
  clear HSM
  have HLIVE : Hid (∀ W, Below w.heap.size w W → Calls Try.prog 8 #[] W fun e w' => e = .returned (.bool true) ∧ Below w.heap.size w w') := fun W hb => (HL.out W).mono fun e w' h => ⟨h.1, hb.trans (h.2.mono hb.size)⟩
  clear HL
  go_enter Try.func6, Try.ntmps6
  go_wp2_with fail
  refine hs.mono ?_
  rintro e w5 ⟨sm, rfl, hf, b5⟩
  have HF := Lib.hid hf
  clear hf hs
  have B5 := B0.trans (b5.mono B0.size)
  have K5 := kb.below b5 kb.lt
  clear kb B0 b5
  have r0 := K5.cell 0
  have r1 := K5.cell 1
  have r2 := K5.cell 2
  have r3 := K5.cell 3
  cases sm with
  | false =>
    have hl := HLIVE.out w5 B5
    clear HF HP HQ HPL HLIVE HA HB HG
    go_wp2_with fail
    refine hl.mono ?_
    rintro e w6 ⟨rfl, B6⟩
    go_wp2_with fail
    go_ret
    exact ⟨rfl, B6⟩
  | true =>
    by_cases h50 : 50 < a.length
    · have d : decide ((50 : Int) < (a.length : Int)) = true := decide_eq_true (by omega)
      have d' : decide (50 < a.length) = true := decide_eq_true h50
      have hl := HLIVE.out w5 B5
      clear HF HP HQ HPL HLIVE HA HB HG
      go_wp2_with fail
      refine hl.mono ?_
      rintro e w6 ⟨rfl, B6⟩
      go_wp2_with fail
      go_ret
      exact ⟨rfl, B6⟩
    have d : decide ((50 : Int) < (a.length : Int)) = false := decide_eq_false (by omega)
    have d' : decide (50 < a.length) = false := decide_eq_false h50
    by_cases h51 : 50 < b.length
    · have e : decide ((50 : Int) < (b.length : Int)) = true := decide_eq_true (by omega)
      have e' : decide (50 < b.length) = true := decide_eq_true h51
      have hl := HLIVE.out w5 B5
      clear HF HP HQ HPL HLIVE HA HB HG
      go_wp2_with fail
      refine hl.mono ?_
      rintro e w6 ⟨rfl, B6⟩
      go_wp2_with fail
      go_ret
      exact ⟨rfl, B6⟩
    have e : decide ((50 : Int) < (b.length : Int)) = false := decide_eq_false (by omega)
    have e' : decide (50 < b.length) = false := decide_eq_false h51
    have hp := HP.out (HF.out rfl) w5 B5
    have HQ' := Lib.hid (HQ.out (HF.out rfl))
    clear HF HP HQ
    go_wp2_with fail
    refine hp.mono ?_
    rintro e w6 ⟨rfl, b6⟩
    have B6 := B5.trans (b6.mono B5.size)
    have K6 := K5.below b6 K5.lt
    clear hp b6 r0 r1 r2 r3 d d' e e' B5 K5
    have hsz := K6.lt
    have BL : Below (w.heap.size + 1) w6.drew w6.drew := Below.refl _ _
    have BW : Below w.heap.size w w6.drew := Below_drawn B6 1
    have KD : KB w6.drew w.heap.size 24 #[.int .i64 i0, .int .i64 i1, .string s, .slice X3 n3 z3] := K6
    have HC : Hid (∀ W, Below (w.heap.size + 1) w6.drew W → W.cell? ⟨w.heap.size, 0, none⟩ = some (.int .i64 i0) ∧ W.cell? ⟨w.heap.size, 1, none⟩ = some (.int .i64 i1) ∧ W.cell? ⟨w.heap.size, 2, none⟩ = some (.string s) ∧ W.cell? ⟨w.heap.size, 3, none⟩ = some (.slice X3 n3 z3)) := fun W hb => by
      have K' := KD.below hb (by omega)
      exact ⟨K'.cell 0, K'.cell 1, K'.cell 2, K'.cell 3⟩
    have HA2 : Hid (∀ W, Below (w.heap.size + 1) w6.drew W → ML W Sa (.slice Aa a.length ca) a) := fun W hb => HA.out W (BW.trans (hb.mono (by omega)))
    have HB2 : Hid (∀ W, Below (w.heap.size + 1) w6.drew W → ML W Sb (.slice Ab b.length cb) b) := fun W hb => HB.out W (BW.trans (hb.mono (by omega)))
    have HQ2 : Hid (∀ W v, Below (w.heap.size + 1) w6.drew W → W.ownsRow (w.heap.size + 1) 43 2 v (a ++ b).length (flatM (a ++ b)) → Calls Try.prog 9 #[.agg #[.int .i64 i0, .int .i64 i1, .string s, .slice X3 n3 z3], v] W (WhenAs W (u, is))) := fun W v hb ho => HQ'.out W v (BW.trans (hb.mono (by omega))) ho
    have HBW : Hid (∀ W, Below (w.heap.size + 1) w6.drew W → Below w.heap.size w W ∧ KB W w.heap.size 24 #[.int .i64 i0, .int .i64 i1, .string s, .slice X3 n3 z3]) := fun W hb => ⟨BW.trans (hb.mono (by omega)), KD.below hb (by omega)⟩
    have hsD : w.heap.size + 1 ≤ w6.drew.heap.size := hsz
    clear HA HB HQ' BW KD B6 K6 hsz
    have hna : a.length ≤ 50 := by omega
    have hnb : b.length ≤ 50 := by omega
    have HNA := Lib.hid hna
    have HNB := Lib.hid hnb
    clear hna hnb h50 h51
    go_wp2_with fail
    rename_i KK hKK
    have HKK := Lib.hid hKK
    clear hKK
    refine wp_region_held_drew (S := (fun W => W.cell? ⟨w.heap.size, 0, none⟩ = some (.int .i64 i0) ∧ W.cell? ⟨w.heap.size, 1, none⟩ = some (.int .i64 i1) ∧ W.cell? ⟨w.heap.size, 2, none⟩ = some (.string s) ∧ W.cell? ⟨w.heap.size, 3, none⟩ = some (.slice X3 n3 z3))) (by kernel_rfl) (HC.out _ BL) (fun hHeld => ?_)
    generalize w6.drew = wd at *
    refine hyY (some 32) 0 rfl hHeld ?_; go_frame
    refine hyY (some 34) 2 rfl hHeld ?_; go_frame
    refine hyY (some 36) 4 rfl hHeld ?_; go_frame
    refine hyO (some 33) 1 rfl (fun K hK => ?_)
    go_simp
    have OW := own_empty wd (w.heap.size + 1) hsD
    replace BL := BL.alloc hsD (.cells #[] 43)
    refine hK.out _ _ ?_ (fun hH2 => ?_)
    · exact HC.out _ BL
    clear hHeld hK K; have hHeld := hH2; clear hH2; try go_frame
    refine hyO (some 35) 3 rfl (fun K hK => ?_)
    refine wp_growML _ _ rfl (w.heap.size + 1) _ [] rfl OW Sa _ a rfl (HA2.out _ BL) (by have := HNA.out; simp; omega) (Nat.le_trans hsD BL.size) ?_
    intro v2 w2 O2 g2 ho2
    rw [List.nil_append] at O2
    replace BL := BL.grown g2 (Nat.le_trans hsD BL.size) fun g hg => own_ge OW g hg
    replace OW := O2
    refine hK.out _ _ ?_ (fun hH2 => ?_)
    · exact HC.out _ BL
    clear hHeld hK K; have hHeld := hH2; clear hH2; try go_frame
    refine hyO (some 37) 5 rfl (fun K hK => ?_)
    refine wp_growML _ _ rfl (w.heap.size + 1) _ a rfl OW Sb _ b rfl (HB2.out _ BL) (by have := HNA.out; have := HNB.out; omega) (Nat.le_trans hsD BL.size) ?_
    intro v5 w5 O5 g5 ho5
    replace BL := BL.grown g5 (Nat.le_trans hsD BL.size) fun g hg => own_ge OW g hg
    have hq := HQ2.out w5 v5 BL O5
    refine hK.out _ _ ?_ (fun hH2 => ?_)
    · exact HC.out _ BL
    clear hHeld hK K; have hHeld := hH2; clear hH2; try go_frame
    refine hyO (some 38) 6 rfl (fun K hK => ?_)
    go_simp
    go_at_call 9
    refine hq.mono ?_
    rintro e w7 ⟨rfl, b7⟩
    replace BL := BL.trans (b7.mono (Nat.le_trans hsD BL.size))
    go_wp2_with fail
    refine hK.out _ _ ?_ (fun hH2 => ?_)
    · exact HC.out _ BL
    clear hHeld hK K; have hHeld := hH2; clear hH2; try go_frame
    refine hyY (some 31) 7 rfl hHeld ?_; go_frame
    refine hyY (some 39) 8 rfl hHeld ?_; go_frame
    refine hyY (some 40) 9 rfl hHeld ?_; go_frame
    refine hyY (some 9) 10 rfl hHeld ?_; go_frame
    refine hyY (some 10) 11 rfl hHeld ?_; go_frame
    refine wpAnyH_done (by kernel_rfl) ?_ _
    have hKK := HKK.out
    obtain ⟨B7, K7⟩ := HBW.out _ BL
    clear HQ2 HA2 HB2 HC HBW HKK OW O2 O5 g2 g5 ho2 ho5 hq b7 BL hHeld hsD
    have r0 := K7.cell 0
    have r1 := K7.cell 1
    have r2 := K7.cell 2
    have r3 := K7.cell 3
    cases ok with
    | false =>
      have hl := HLIVE.out w7 B7
      clear HLIVE HPL HG
      go_wp2_with fail
      refine hl.mono ?_
      rintro e w8 ⟨rfl, B8⟩
      go_wp2_with fail
      go_ret
      exact ⟨rfl, B8⟩
    | true =>
      obtain ⟨hi, hle⟩ := HG.out rfl
      have hi' : is = true := hi
      subst hi'
      have hpl := HPL.out w7 B7
      have HLE : Hid (pl = true → u ≤ t) := fun h => hle h
      clear HG HPL hle hi
      go_wp2_with fail
      refine hpl.mono ?_
      rintro e w8 ⟨rfl, b8⟩
      have B8 := B7.trans (b8.mono B7.size)
      have hl := HLIVE.out w8 B8
      clear hpl HLIVE b8
      cases pl with
      | false =>
        clear HLE
        go_wp2_with fail
        refine hl.mono ?_
        rintro e w9 ⟨rfl, B9⟩
        go_wp2_with fail
        go_ret
        exact ⟨rfl, B9⟩
      | true =>
        have hle := HLE.out rfl
        have d : decide (u ≤ t) = true := decide_eq_true hle
        clear HLE
        go_wp2_with fail
        refine hl.mono ?_
        rintro e w9 ⟨rfl, B9⟩
        go_wp2_with fail
        go_ret
        exact ⟨rfl, B9⟩

theorem dueGrows_law {H : Type} (enc : TypeId × Value → H) (W : World) (base : Nat)
    (v0 : Value) (d0 : DataW H) (p0 : List MemPlace) (v1 : Value) (d1 : DataW H) (p1 : List MemPlace) (v2 : Value) (d2 : DataW H) (p2 : List MemPlace)
    (k0 : Value.okWide Try.prog W .any base 24 v0) (k1 : Value.okWide Try.prog W .any base 25 v1) (k2 : Value.okWide Try.prog W .any base 25 v2)
    (h0 : DataW.Trod enc Try.prog W 0 (fun _ => true) true 24 v0 d0 p0) (h1 : DataW.Trod enc Try.prog W 0 (fun _ => true) true 25 v1 d1 p1) (h2 : DataW.Trod enc Try.prog W 0 (fun _ => true) true 25 v2 d2 p2) :
    Calls Try.prog 6 #[v0, v1, v2] W fun e W' => e = .returned (.bool true) ∧ Below W.heap.size W W' := by
  obtain ⟨n0, hn0⟩ := open_expr k0 h0
  obtain ⟨x, hx⟩ := hn0 n0 (Nat.le_refl _)
  obtain ⟨a, ha⟩ := open_miles k1 h1
  obtain ⟨b, hb⟩ := open_miles k2 h2
  exact grows_law _ _ _ n0 x a b v0 v1 v2 W hx ha hb
end Go.Proofs.Ytommcdgognlfcaa
