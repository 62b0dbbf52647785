/-
  HoldFreesW: The law HoldFrees over the loaded program: placing a hold frees no record, releasing one holds none. No condition. (Printed by wip/gen/hold/mk_frees.py.)
  HoldFreesP: THE STATEMENT HoldFrees of layer: proved out of the law's contract (holdFrees_law): for every input the call returns true, and the input reads as it did. No condition.
-/
import Derived.Test.YtdkmjdcddldjgaaHy20
import Derived.Test.YtdkmjdcddldjgaaHy21
import Derived.Test.YtdkmjdcddldjgaaRows
import Derived.WalkKit
import Derived.ProofKit
import Derived.OpenShut
import Derived.ShutString
import Derived.ChangeOld
import Derived.Below
set_option linter.unusedVariables false
set_option maxRecDepth 100000
namespace Go.Proofs.Ytdkmjdcddldjgaa
section
open Go.RowKit Go.ChangeShapes Go.WideShapes Go.Joins
theorem place_len {f : Nat} (l : List (Hl f)) (id : List UInt8) (x : Sc f) : (placeH f l id x).1.length ≤ l.length + 1 := by
  unfold placeH
  repeat' split
  all_goals simp
theorem release_len {f : Nat} (l : List (Hl f)) (id : List UInt8) : (releaseH f l id).1.length ≤ l.length := by
  unfold releaseH
  split
  · simp
  · split
    · simp
    · split
      · simp
      · split
        · simp
        · simp
theorem open_hold {H : Type} {enc : TypeId × Value → H} {W : World} {base : Nat} {v : Value} {d : DataW H} {p : List MemPlace}
    (ok : Value.okWide Try.prog W .any base 47 v) (h : DataW.Trod enc Try.prog W 0 (fun _ => true) true 47 v d p) :
    ∃ (n : Nat), ∀ m, n ≤ m → ∃ (t : Hl m) (c0 c1 c2 c3 c4 c5 c6 : Value), v = .agg #[c0, c1, c2, c3, c4, c5, c6] ∧ HX W (fun b => b < W.heap.size) m t c0 c1 c2 c3 c4 c5 c6 := by
  obtain ⟨cs, rfl, hsz⟩ := okWide_struct Try.underlying47 ok
  obtain ⟨n, hn⟩ := h
  refine ⟨n, fun m hm => ?_⟩
  obtain ⟨k, rfl⟩ := Nat.le.dest hm
  clear hm
  induction k with
  | zero =>
    obtain ⟨t, c0, c1, c2, c3, c4, c5, c6, e, ht⟩ := HX_of_trod n _ _ hn
    refine ⟨t, c0, c1, c2, c3, c4, c5, c6, ?_, ht⟩
    have : cs = #[c0, c1, c2, c3, c4, c5, c6] := by
      apply Array.toList_inj.1
      simpa [Value.cells] using e
    rw [this]
  | succ k ih =>
    obtain ⟨t, c0, c1, c2, c3, c4, c5, c6, e, ht⟩ := ih
    exact ⟨liftHl (n + k) t, c0, c1, c2, c3, c4, c5, c6, e, ht.lifted⟩
theorem FewH.place {f : Nat} {l : List (Hl f)} {id : List UInt8} {x : Sc f} (h : FewH f l) (hi : id.length ≤ 1000000) (hx : fewZ f x) : FewH f (placeH f l id x).1 := by
  unfold placeH
  split
  · exact FewH.nil f
  · split
    · exact FewH.nil f
    · split
      · exact FewH.nil f
      · rename_i h3
        refine ⟨by simp; omega, fun i hi2 => ?_⟩
        by_cases hlt : i < l.length
        · simp only [List.getElem_append_left hlt]; exact h.2 i hlt
        · simp only [List.getElem_append_right (Nat.le_of_not_lt hlt)]
          have : i - l.length = 0 := by simp at hi2; omega
          simp only [this]
          exact ⟨hi, hx⟩
set_option maxHeartbeats 8000000 in
theorem holdFrees_main (f : Nat) (l : List (Hl f)) (t : Hl f) (rc : Rc) (v vr : Value) (c0 c1 c2 c3 c4 c5 c6 : Value) (w : World) (hv : HS w (fun b => b < w.heap.size) f v l) (ht : HX w (fun b => b < w.heap.size) f t c0 c1 c2 c3 c4 c5 c6) (hr : RcV vr rc) :
    Calls Try.prog 5 #[v, .agg #[c0, c1, c2, c3, c4, c5, c6], vr] w fun e w' => e = .returned (.bool true) ∧ Below w.heap.size w w' := by
  obtain ⟨rfl, hid, hz, rfl⟩ := ht
  obtain ⟨i1, l2, i3, i4, X5, n5, z5, rfl, rfl, rfl, rfl, rfl⟩ := hz.form
  obtain ⟨rid, rst, rfl⟩ := hr
  have hrv : RcV (.agg #[strV rid, strV rc.cse, strV rc.sub, strV rc.cls, .int .i64 rc.tick, .int .i64 rst]) rc := ⟨rid, rst, rfl⟩
  obtain ⟨s, hs⟩ : ∃ s : ByteArray, s = ⟨t.id.toArray⟩ := ⟨_, rfl⟩
  have hsv : strV t.id = .string s := by rw [hs]; rfl
  have hsz : (s.size : Int) = (t.id.length : Int) := by rw [hs]; rfl
  obtain ⟨s2, hs2⟩ : ∃ s : ByteArray, strV l2 = .string s := ⟨_, rfl⟩
  obtain ⟨r0, hr0⟩ : ∃ s : ByteArray, strV rid = .string s := ⟨_, rfl⟩
  obtain ⟨r1, hr1⟩ : ∃ s : ByteArray, strV rc.cse = .string s := ⟨_, rfl⟩
  obtain ⟨r2, hr2⟩ : ∃ s : ByteArray, strV rc.sub = .string s := ⟨_, rfl⟩
  obtain ⟨r3, hr3⟩ : ∃ s : ByteArray, strV rc.cls = .string s := ⟨_, rfl⟩
  obtain ⟨tk, htk⟩ : ∃ t, rc.tick = t := ⟨_, rfl⟩
  rw [hr0, hr1, hr2, hr3, htk] at hrv ⊢
  rw [hs2] at hz ⊢
  generalize t.act = act at *
  have HL0 := Lib.hid (fun W => hlive_any W)
  have HSM := Lib.hid (fun W (hb : Below w.heap.size w W) => xhsmall_any _ f l v W (hv.below' hb))
  have HZM := Lib.hid (fun W (hb : Below w.heap.size w W) => zsmall_any _ f t.sc _ W ⟨_, _, _, _, _, rfl, hz.below' hb⟩)
  have HV : ∀ W, Below w.heap.size w W → HS W (fun b => b < W.heap.size) f v l := fun W hb => (hv.below' hb).mono fun b h => Nat.lt_of_lt_of_le h hb.size
  have HXX : ∀ W, Below w.heap.size w W → ZV W (fun b => b < W.heap.size) f (.agg #[.int .i64 i1, .string s2, .int .i64 i3, .int .i64 i4, .slice X5 n5 z5]) t.sc := fun W hb => ⟨_, _, _, _, _, rfl, (hz.below' hb).mono fun b h => Nat.lt_of_lt_of_le h hb.size⟩
  have F1 : Hid ((placeH f l t.id t.sc).2 = 0 → heldH rc l = true → heldH rc (placeH f l t.id t.sc).1 = true) := fun h1 h2 => place_frees rc h1 h2
  have F2 : Hid ((placeH f l t.id t.sc).2 = 0 → (releaseH f (placeH f l t.id t.sc).1 t.id).2 = 0 ∧ heldH rc (releaseH f (placeH f l t.id t.sc).1 t.id).1 = heldH rc l) := fun h => release_frees rc h
  have hc1 : FewH f l → ∀ W, Below w.heap.size w W → Calls Try.prog 20 #[v, .agg #[.string r0, .string r1, .string r2, .string r3, .int .i64 tk, .int .i64 rst]] W fun e w' => e = .returned (.bool (heldH rc l)) ∧ Below W.heap.size W w' := fun hl W hb => hheld_any _ f l rc v _ hrv W (HV W hb)
  have hc2 : FewH f l → t.id.length ≤ 100 → fewZ f t.sc → ∀ W, Below w.heap.size w W → Calls Try.prog 9 #[v, .string s, .agg #[.int .i64 i1, .string s2, .int .i64 i3, .int .i64 i4, .slice X5 n5 z5]] W (HoldsErr W f (placeH f l t.id t.sc)) := fun hl hi hx0 W hb => by
    rw [← hsv]; exact hplace_any f l hl t.id (by omega) t.sc hx0 v _ W (HV W hb) (HXX W hb)
  have hc3 : ∀ u W, HS W (fun b => b < W.heap.size) f u (placeH f l t.id t.sc).1 → ∀ W', Below W.heap.size W W' → Calls Try.prog 20 #[u, .agg #[.string r0, .string r1, .string r2, .string r3, .int .i64 tk, .int .i64 rst]] W' fun e w' => e = .returned (.bool (heldH rc (placeH f l t.id t.sc).1)) ∧ Below W'.heap.size W' w' := fun u W h W' hb => hheld_any _ f _ rc u _ hrv W' (h.below' hb)
  have hc4 : FewH f l → t.id.length ≤ 100 → fewZ f t.sc → ∀ u W, HS W (fun b => b < W.heap.size) f u (placeH f l t.id t.sc).1 → ∀ W', Below W.heap.size W W' → Calls Try.prog 11 #[u, .string s] W' (HoldsErr W' f (releaseH f (placeH f l t.id t.sc).1 t.id)) := fun hl hi hx0 u W h W' hb => by
    rw [← hsv]; exact hrelease_any f _ (hl.place (by omega) hx0) t.id u W' ((h.below' hb).mono fun b h => Nat.lt_of_lt_of_le h hb.size)
  have hc5 : ∀ u W, HS W (fun b => b < W.heap.size) f u (releaseH f (placeH f l t.id t.sc).1 t.id).1 → ∀ W', Below W.heap.size W W' → Calls Try.prog 20 #[u, .agg #[.string r0, .string r1, .string r2, .string r3, .int .i64 tk, .int .i64 rst]] W' fun e w' => e = .returned (.bool (heldH rc (releaseH f (placeH f l t.id t.sc).1 t.id).1)) ∧ Below W'.heap.size W' w' := fun u W h W' hb => hheld_any _ f _ rc u _ hrv W' (h.below' hb)
  have HC1 := Lib.hid hc1
  have HC2 := Lib.hid hc2
  have HC3 := Lib.hid hc3
  have HC4 := Lib.hid hc4
  have HC5 := Lib.hid hc5
  rw [hsv]
  obtain ⟨K, L, B⟩ := ztwo_boxes w #[.string s, .int .i64 i1, .string s2, .int .i64 i3, .int .i64 i4, .slice X5 n5 z5, .bool act] #[.string r0, .string r1, .string r2, .string r3, .int .i64 tk, .int .i64 rst] 47 40
  clear hv hz hid hrv HV HXX hc1 hc2 hc3 hc4 hc5 hs hsv hs2 hr0 hr1 hr2 hr3 htk
  generalize heldH rc l = wb at *
  generalize placeH f l t.id t.sc = p1 at *
  generalize releaseH f p1.1 t.id = p2 at *
  generalize heldH rc p1.1 = b2 at *
  generalize heldH rc p2.1 = b3 at *
  go_enter Try.func5, Try.ntmps5
  go_wp2_with fail
  refine (HSM.out _ B).mono ?_
  rintro e w1 ⟨sm, rfl, hsm, b1⟩
  have hM := Lib.hid hsm
  replace K := K.below b1 K.lt
  replace L := L.below b1 L.lt
  replace B := B.trans (b1.mono B.size)
  clear hsm b1 HSM
  have q0 := K.cell 0
  have q1 := K.cell 1
  have q2 := K.cell 2
  have q3 := K.cell 3
  have q4 := K.cell 4
  have q5 := K.cell 5
  have q6 := K.cell 6
  have y0 := L.cell 0
  have y1 := L.cell 1
  have y2 := L.cell 2
  have y3 := L.cell 3
  have y4 := L.cell 4
  have y5 := L.cell 5
  cases sm with
  | false =>
    clear hM HZM HC1 HC2 HC3 HC4 HC5 F1 F2
    go_wp2_with fail
    refine (HL0.out _).mono ?_
    rintro e w9 ⟨rfl, b9⟩
    replace B := B.trans (b9.mono B.size)
    clear b9 HL0
    go_wp2_with fail
    go_ret
    exact ⟨rfl, B⟩
  | true =>
  have HLF := Lib.hid (FewH.of_small (hM.out rfl))
  have hq1 := Lib.hid (HC1.out HLF.out)
  have hq3 := Lib.hid HC3.out
  have hq5 := Lib.hid HC5.out
  clear hM HC1 HC3 HC5
  by_cases h100 : 100 < t.id.length
  · have d1 : decide ((100 : Int) < (s.size : Int)) = true := decide_eq_true (by omega)
    clear HZM hq1 HC2 hq3 HC4 hq5 HLF F1 F2 hsz h100
    go_wp2_with fail
    refine (HL0.out _).mono ?_
    rintro e w9 ⟨rfl, b9⟩
    replace B := B.trans (b9.mono B.size)
    clear b9 HL0
    go_wp2_with fail
    go_ret
    exact ⟨rfl, B⟩
  have d1 : decide ((100 : Int) < (s.size : Int)) = false := decide_eq_false (by omega)
  have HI := Lib.hid (show t.id.length ≤ 100 by omega)
  clear hsz h100
  go_wp2_with fail
  refine (HZM.out _ B).mono ?_
  rintro e w2 ⟨zm, rfl, hz, b4⟩
  have HZ := Lib.hid hz
  clear hz
  replace K := K.below b4 K.lt
  replace L := L.below b4 L.lt
  replace B := B.trans (b4.mono B.size)
  clear b4 HZM q0 q1 q2 q3 q4 q5 q6 y0 y1 y2 y3 y4 y5
  have q0 := K.cell 0
  have q1 := K.cell 1
  have q2 := K.cell 2
  have q3 := K.cell 3
  have q4 := K.cell 4
  have q5 := K.cell 5
  have q6 := K.cell 6
  have y0 := L.cell 0
  have y1 := L.cell 1
  have y2 := L.cell 2
  have y3 := L.cell 3
  have y4 := L.cell 4
  have y5 := L.cell 5
  cases zm with
  | false =>
    clear hq1 HC2 hq3 HC4 hq5 HLF HI HZ F1 F2
    go_wp2_with fail
    refine (HL0.out _).mono ?_
    rintro e w9 ⟨rfl, b9⟩
    replace B := B.trans (b9.mono B.size)
    clear b9 HL0
    go_wp2_with fail
    go_ret
    exact ⟨rfl, B⟩
  | true =>
  have hq2 := Lib.hid (HC2.out HLF.out HI.out (HZ.out (by first | rfl | trivial)))
  have hq4 := Lib.hid (HC4.out HLF.out HI.out (HZ.out (by first | rfl | trivial)))
  clear HC2 HC4 HLF HI HZ
  go_wp2_with fail
  refine (hq1.out _ B).mono ?_
  rintro e w3 ⟨rfl, b4⟩
  replace K := K.below b4 K.lt
  replace L := L.below b4 L.lt
  replace B := B.trans (b4.mono B.size)
  clear b4 hq1 q0 q1 q2 q3 q4 q5 q6 y0 y1 y2 y3 y4 y5
  have q0 := K.cell 0
  have q1 := K.cell 1
  have q2 := K.cell 2
  have q3 := K.cell 3
  have q4 := K.cell 4
  have q5 := K.cell 5
  have q6 := K.cell 6
  have y0 := L.cell 0
  have y1 := L.cell 1
  have y2 := L.cell 2
  have y3 := L.cell 3
  have y4 := L.cell 4
  have y5 := L.cell 5
  go_wp2_with fail
  refine (hq2.out _ B).mono ?_
  rintro e w4 ⟨v4, rfl, hv4, b4⟩
  replace K := K.below b4 K.lt
  replace L := L.below b4 L.lt
  replace B := B.trans (b4.mono B.size)
  have E4 := Below.refl w4.heap.size w4
  have hh4 := Lib.hid (hq3.out v4 w4 hv4)
  have hr4 := Lib.hid (hq4.out v4 w4 hv4)
  have HN := Lib.hid (fun e W => hlnum_any e W)
  clear b4 hv4 hq2 hq3 hq4 q0 q1 q2 q3 q4 q5 q6 y0 y1 y2 y3 y4 y5
  have q0 := K.cell 0
  have q1 := K.cell 1
  have q2 := K.cell 2
  have q3 := K.cell 3
  have q4 := K.cell 4
  have q5 := K.cell 5
  have q6 := K.cell 6
  have y0 := L.cell 0
  have y1 := L.cell 1
  have y2 := L.cell 2
  have y3 := L.cell 3
  have y4 := L.cell 4
  have y5 := L.cell 5
  by_cases hk : p1.2 = 0
  case neg =>
    have gk : (p1.2 != 0) = true := bne_iff_ne.2 hk
    have gk2 : (p1.2 == 0) = false := beq_eq_false_iff_ne.2 hk
    clear hh4 hr4 hq5 F1 F2
    go_wp2_with fail
    refine (HN.out _ _).mono ?_
    rintro e w5 ⟨rfl, rfl⟩
    clear HN
    go_wp2_with fail
    refine (HL0.out _).mono ?_
    rintro e w9 ⟨rfl, b9⟩
    replace B := B.trans (b9.mono B.size)
    clear b9 HL0
    go_wp2_with fail
    go_ret
    exact ⟨rfl, B⟩
  have hf1 := F1.out hk
  obtain ⟨hk2, hf2⟩ := F2.out hk
  rw [hk]
  have HK2 := Lib.hid hk2
  have HF1 := Lib.hid hf1
  subst hf2
  clear F1 F2 hk hk2 hf1
  go_wp2_with fail
  refine (HN.out _ _).mono ?_
  rintro e w5 ⟨rfl, rfl⟩
  cases b3 with
  | false =>
    clear HF1 hh4
    go_wp2_with fail
    refine (hr4.out _ E4).mono ?_
    rintro e w7 ⟨v7, rfl, hv7, b7⟩
    rw [HK2.out]
    replace L := L.below b7 L.lt
    replace B := B.trans (b7.mono B.size)
    have hh7 := Lib.hid (hq5.out v7 w7 hv7 w7 (Below.refl _ _))
    clear b7 hv7 hr4 hq5 E4 K q0 q1 q2 q3 q4 q5 q6 y0 y1 y2 y3 y4 y5
    have y0 := L.cell 0
    have y1 := L.cell 1
    have y2 := L.cell 2
    have y3 := L.cell 3
    have y4 := L.cell 4
    have y5 := L.cell 5
    go_wp2_with fail
    refine (HN.out _ _).mono ?_
    rintro e w8 ⟨rfl, rfl⟩
    clear HN
    go_wp2_with fail
    refine hh7.out.mono ?_
    rintro e w8 ⟨rfl, b8⟩
    replace B := B.trans (b8.mono B.size)
    clear b8 hh7 L y0 y1 y2 y3 y4 y5
    go_wp2_with fail
    refine (HL0.out _).mono ?_
    rintro e w9 ⟨rfl, b9⟩
    replace B := B.trans (b9.mono B.size)
    clear b9 HL0
    go_wp2_with fail
    go_ret
    exact ⟨rfl, B⟩
  | true =>
    have hb2 := HF1.out rfl
    subst hb2
    clear HF1
    go_wp2_with fail
    refine (hh4.out _ E4).mono ?_
    rintro e w6 ⟨rfl, b6⟩
    replace K := K.below b6 K.lt
    replace L := L.below b6 L.lt
    replace E4 := E4.trans (b6.mono E4.size)
    replace B := B.trans (b6.mono B.size)
    clear b6 hh4 q0 q1 q2 q3 q4 q5 q6 y0 y1 y2 y3 y4 y5
    have q0 := K.cell 0
    have q1 := K.cell 1
    have q2 := K.cell 2
    have q3 := K.cell 3
    have q4 := K.cell 4
    have q5 := K.cell 5
    have q6 := K.cell 6
    have y0 := L.cell 0
    have y1 := L.cell 1
    have y2 := L.cell 2
    have y3 := L.cell 3
    have y4 := L.cell 4
    have y5 := L.cell 5
    go_wp2_with fail
    refine (hr4.out _ E4).mono ?_
    rintro e w7 ⟨v7, rfl, hv7, b7⟩
    rw [HK2.out]
    replace L := L.below b7 L.lt
    replace B := B.trans (b7.mono B.size)
    have hh7 := Lib.hid (hq5.out v7 w7 hv7 w7 (Below.refl _ _))
    clear b7 hv7 hr4 hq5 E4 K q0 q1 q2 q3 q4 q5 q6 y0 y1 y2 y3 y4 y5
    have y0 := L.cell 0
    have y1 := L.cell 1
    have y2 := L.cell 2
    have y3 := L.cell 3
    have y4 := L.cell 4
    have y5 := L.cell 5
    go_wp2_with fail
    refine (HN.out _ _).mono ?_
    rintro e w8 ⟨rfl, rfl⟩
    clear HN
    go_wp2_with fail
    refine hh7.out.mono ?_
    rintro e w8 ⟨rfl, b8⟩
    replace B := B.trans (b8.mono B.size)
    clear b8 hh7 L y0 y1 y2 y3 y4 y5
    go_wp2_with fail
    refine (HL0.out _).mono ?_
    rintro e w9 ⟨rfl, b9⟩
    replace B := B.trans (b9.mono B.size)
    clear b9 HL0
    go_wp2_with fail
    go_ret
    exact ⟨rfl, B⟩
theorem holdFrees_law {H : Type} (enc : TypeId × Value → H) (W : World) (base : Nat)
    (v0 : Value) (d0 : DataW H) (p0 : List MemPlace) (v1 : Value) (d1 : DataW H) (p1 : List MemPlace) (v2 : Value) (d2 : DataW H) (p2 : List MemPlace)
    (k0 : Value.okWide Try.prog W .any base 22 v0) (k1 : Value.okWide Try.prog W .any base 47 v1) (k2 : Value.okWide Try.prog W .any base 40 v2)
    (h0 : DataW.Trod enc Try.prog W 0 (fun _ => true) true 22 v0 d0 p0) (h1 : DataW.Trod enc Try.prog W 0 (fun _ => true) true 47 v1 d1 p1) (h2 : DataW.Trod enc Try.prog W 0 (fun _ => true) true 40 v2 d2 p2) :
    Calls Try.prog 5 #[v0, v1, v2] W fun e W' => e = .returned (.bool true) ∧ Below W.heap.size W W' := by
  obtain ⟨n0, hn0⟩ := open_holds k0 h0
  obtain ⟨n1, hn1⟩ := open_hold k1 h1
  obtain ⟨l, hl⟩ := hn0 (max n0 n1) (Nat.le_max_left _ _)
  obtain ⟨t, c0, c1, c2, c3, c4, c5, c6, rfl, ht⟩ := hn1 (max n0 n1) (Nat.le_max_right _ _)
  obtain ⟨rc, hr⟩ := open_zrec k2 h2
  exact holdFrees_main _ l t rc v0 v2 _ _ _ _ _ _ _ W hl ht hr
end
end Go.Proofs.Ytdkmjdcddldjgaa
section
namespace Go.Proofs.Ytdkmjdcddldjgaa.holdFrees
open Go.ChangeShapes Go.WideShapes Go.ChangeAt Go.RowKit
theorem own : ownKnob Try.prog.godebug = none := by kernel_rfl
theorem laidOut : laidOutB Try.prog = true := by kernel_rfl
set_option maxRecDepth 100000 in
theorem lifted (os : Os) (started : os.Started) (H : Type) (enc : TypeId × Value → H) :
    ReturnsInHanded {} Try.checked os 5 .any (Rows.holdFreesSpec.pre6 enc Try.prog Try.f5 Rows.holdFreesRow.domain false) (Rows.holdFreesSpec.post enc Try.prog Try.f5 false true false false) := by
  refine returnsInHanded_of_change (C := Try.checked) own started (by kernel_rfl) Try.func5
    (ChangeSpec.witness6 (enc := enc) (C := Try.checked) false ⟨#[], #[.slice none 0 0, .agg #[.string ByteArray.empty, .int .i64 0, .string ByteArray.empty, .int .i64 0, .int .i64 0, .slice none 0 0, .bool false], .agg #[.string ByteArray.empty, .string ByteArray.empty, .string ByteArray.empty, .string ByteArray.empty, .int .i64 0, .int .i64 0]], []⟩ 8 (by kernel_rfl) (by kernel_rfl) (by kernel_rfl) (by kernel_rfl)) ?_
  intro W base args ds gs before hval0 hW hcnd _
  have hval : ∀ (j : Nat) t v, Try.f5.params[j]? = some t → args[j]? = some v → Value.okWide Try.prog W .any base t v := hval0
  have hW' := hW
  obtain ⟨p, q, hA0, hV, rfl, hfz, hnd⟩ := hW
  have hA : DataW.TrodAll enc Try.prog W 0 (fun _ => true) true Try.f5.params.toList args.toList ds p := hA0
  rw [Try.params5] at hA hval
  obtain ⟨v0, vs0, d0, ds0, p0, q0, hargs, rfl, rfl, h0, r0⟩ := trodAll_cons hA
  obtain ⟨v1, vs1, d1, ds1, p1, q1, rfl, rfl, rfl, h1, r1⟩ := trodAll_cons r0
  obtain ⟨v2, vs2, d2, ds2, p2, q2, rfl, rfl, rfl, h2, r2⟩ := trodAll_cons r1
  obtain ⟨rfl, rfl, rfl⟩ := trodAll_nil r2
  obtain rfl : args = #[v0, v1, v2] := by cases args; simp_all
  obtain ⟨rfl, rfl⟩ := trodVars_none hV
  have lt0 : ∀ x ∈ p0, x.block < W.heap.size := by obtain ⟨m, hm⟩ := h0; exact DataW.trod_lt m _ _ _ hm
  have lt1 : ∀ x ∈ p1, x.block < W.heap.size := by obtain ⟨m, hm⟩ := h1; exact DataW.trod_lt m _ _ _ hm
  have lt2 : ∀ x ∈ p2, x.block < W.heap.size := by obtain ⟨m, hm⟩ := h2; exact DataW.trod_lt m _ _ _ hm
  refine (holdFrees_law enc W base v0 d0 p0 v1 d1 p1 v2 d2 p2 (hval 0 _ v0 rfl rfl) (hval 1 _ v1 rfl rfl) (hval 2 _ v2 rfl rfl) h0 h1 h2).mono fun e W' ⟨he, bel⟩ => ?_
  subst he
  exact ⟨_, rfl, _, _, _, [], _, [], hW', trodAll_mk1 (shut_bool Try.underlying4 _), (trodAll_cons_mk (Below.trod laidOut (by kernel_rfl) (of_decide_eq_true (by kernel_rfl)) h0 bel lt0) (trodAll_cons_mk (Below.trod laidOut (by kernel_rfl) (of_decide_eq_true (by kernel_rfl)) h1 bel lt1) (trodAll_cons_mk (Below.trod laidOut (by kernel_rfl) (of_decide_eq_true (by kernel_rfl)) h2 bel lt2) trodAll_mk0))), rfl, bel.frame _, fun h => by cases h⟩
theorem over : Rows.holdFreesRow.holds Try.pinned (OpenSpec.ofChange Rows.holdFreesSpec) :=
  OpenClaim.holds_of_wide 5 Try.f5 rfl rfl rfl rfl rfl rfl rfl ⟨rfl, rfl, rfl, rfl, rfl⟩ rfl rfl rfl rfl rfl (by kernel_rfl) Try.func5 (by kernel_rfl)
    (of_decide_eq_true (by kernel_rfl)) (by unfold Func.isWrapper; first | (rw [if_pos (by decide +kernel)]; kernel_rfl) | (rw [if_neg (by decide +kernel)]; exact ⟨rfl, rfl⟩))
    (fun os started H enc _ => lifted os started H enc)
theorem proved : Rows.HoldFreesSaid := over
end Go.Proofs.Ytdkmjdcddldjgaa.holdFrees
end
