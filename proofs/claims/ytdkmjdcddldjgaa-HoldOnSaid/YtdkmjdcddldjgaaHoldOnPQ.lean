/-
  SaN: The document's SameNames of two rows of texts, over the loaded program: its contract. (Taken out of SuK in round 21: SuK imports it; SuK was not built again.) No condition but the sizes that it names.
  HoldOnW: The law HoldOn over the loaded program: which holds hold every record; what was handed in stays. No condition.
  HoldOnP: THE STATEMENT HoldOn of layer: proved out of the law's contract (holdOn_law): for every input the call returns true, and the input reads as it did. No condition.
-/
import Derived.Test.YtdkmjdcddldjgaaHy01
import Derived.Test.YtdkmjdcddldjgaaHy02
import Derived.Test.YtdkmjdcddldjgaaHy03
import Derived.Test.YtdkmjdcddldjgaaHy05
import Derived.BigQuiet
import Derived.Test.YtdkmjdcddldjgaaHy20
import Derived.Test.YtdkmjdcddldjgaaHy21
import Derived.Test.YtdkmjdcddldjgaaRows
import Derived.WalkKit
import Derived.ProofKit
import Derived.OpenShut
import Derived.ShutString
import Derived.ChangeOld
import Derived.Below
set_option linter.unusedVariables false
set_option maxRecDepth 100000
namespace Go.Proofs.Ytdkmjdcddldjgaa
section
open Go.RowKit
theorem cs_str {w : World} {S : Nat → Prop} {A : Option Addr} {n c : Nat} {ns : List (List UInt8)} (h : CS w S (.slice A n c) (ns.map strV)) {k : Nat} {x : List UInt8} (hk : ns[k]? = some x) :
    ∃ b o, A = some ⟨b, o, none⟩ ∧ S b ∧ b < w.heap.size ∧ w.cell? ⟨b, o + k, none⟩ = some (strV x) := by
  have hl := (List.getElem?_eq_some_iff.1 hk).1
  obtain ⟨b, o, e, sb, hb, hx⟩ := h.at_ (by rw [List.length_map]; omega)
  exact ⟨b, o, e, sb, hb, hx k (strV x) (by rw [List.getElem?_map, hk]; rfl)⟩
set_option maxHeartbeats 4000000 in
theorem rsamenames_any (S T : Nat → Prop) (v u : Value) (a b : List (List UInt8)) (w : World) (h : CS w S v (a.map strV)) (g : CS w T u (b.map strV)) (ha : a.length ≤ 100000) (hb : b.length ≤ 100000) :
    Calls Try.prog 18 #[v, u] w fun e w' => e = .returned (.bool (decide (a = b))) ∧ Below w.heap.size w w' := by
  obtain ⟨A, cp, rfl, hac, hacm⟩ := h.form
  obtain ⟨B, cq, rfl, hbc, hbcm⟩ := g.form
  rw [List.length_map] at h hac g hbc ⊢
  rw [List.length_map]
  obtain ⟨R, hR⟩ : ∃ R, R = decide (a = b) := ⟨_, rfl⟩
  rw [← hR]
  have HR := Lib.hid hR
  clear hR
  have ha63 : a.length ≤ 9223372036854775807 := by omega
  by_cases hl : a.length = b.length
  · have HLE := Lib.hid hl
    have D0 : ((a.length : Int) != (b.length : Int)) = false := by rw [hl]; simp
    have D1 : decide ((a.length : Int) = (b.length : Int)) = true := decide_eq_true (by omega)
    clear hl
    go_enter Try.func18, Try.ntmps18
    go_wp2
    go_loopw [5] (fun iv wr => ∃ k : Nat, k ≤ a.length ∧ iv = .int .i64 (k : Int) ∧ Hid (∀ j, j < k → a[j]? = b[j]?) ∧ Below w.heap.size w wr) (fun iv _ => a.length - (intOf iv).toNat)
    case atStart => exact ⟨0, by omega, rfl, fun j hj => absurd hj (Nat.not_lt_zero _), Below.refl _ _⟩
    case round =>
      obtain ⟨k, hk, rfl, HN, bl⟩ := hrel
      by_cases hlt : k < a.length
      · have hltI : (k : Int) < (a.length : Int) := by omega
        have hltB : (k : Int) < (b.length : Int) := by have := HLE.out; omega
        obtain ⟨x, hx⟩ : ∃ x, a[k]? = some x := ⟨_, List.getElem?_eq_getElem hlt⟩
        obtain ⟨y, hy⟩ : ∃ y, b[k]? = some y := ⟨_, List.getElem?_eq_getElem (by have := HLE.out; omega)⟩
        have BD : Below w.heap.size w wr.drew := Below_drawn bl 1
        obtain ⟨b1, o1, rfl, _, _, q1⟩ := cs_str (h.below' BD) hx
        obtain ⟨b2, o2, rfl, _, _, q2⟩ := cs_str (g.below' BD) hy
        have hse := str_eq x y
        have HX := Lib.hid hx
        have HY := Lib.hid hy
        have HBD := Lib.hid BD
        unfold strV at *
        clear hx hy BD bl
        have HSX : Hid (∃ b : ByteArray, b = ⟨x.toArray⟩) := ⟨_, rfl⟩
        by_cases hxy : x = y
        · rw [decide_eq_true hxy] at hse
          have HXY := Lib.hid hxy
          clear hxy HSX
          generalize (⟨x.toArray⟩ : ByteArray) = sx at *
          generalize (⟨y.toArray⟩ : ByteArray) = sy at *
          go_wp2
          rename_i KK hKK
          have HKK := Lib.hid hKK
          clear hKK
          refine wp_region_held_drew (S := (fun W => W.cell? ⟨b1, o1 + k, none⟩ = some (.string sx) ∧ W.cell? ⟨b2, o2 + k, none⟩ = some (.string sy))) (by kernel_rfl) ⟨q1, q2⟩ (fun hHeld => ?_)
          refine hyY (some 17) 0 rfl hHeld ?_; go_frame
          refine hyY (some 18) 1 rfl hHeld ?_; go_frame
          refine hyY (some 19) 2 rfl hHeld ?_; go_frame
          refine hyY (some 20) 3 rfl hHeld ?_; go_frame
          refine hyY (some 21) 4 rfl hHeld ?_; go_frame
          refine hyY (some 22) 5 rfl hHeld ?_; go_frame
          refine hyY (some 23) 6 rfl hHeld ?_; go_frame
          refine hyY (some 24) 7 rfl hHeld ?_; go_frame
          refine hyY (some 25) 8 rfl hHeld ?_; go_frame
          refine wpAnyH_done (by kernel_rfl) ?_ _
          have hKK := HKK.out
          go_wp2
          go_roundw
          case rel => exact ⟨k + 1, by omega, by go_num, fun j hj => by
            by_cases hjk : j < k
            · exact HN.out j hjk
            · obtain rfl : j = k := by omega
              rw [HX.out, HY.out, HXY.out], HBD.out⟩
          case measure => simp [intOf]; omega
        · rw [decide_eq_false hxy] at hse
          have HBAD : Hid (R = false) := by
            show _ = _
            rw [HR.out]
            refine decide_eq_false fun e => hxy ?_
            have h1 := HX.out
            rw [e, HY.out] at h1
            exact (Option.some.inj h1).symm
          clear hxy HSX
          generalize (⟨x.toArray⟩ : ByteArray) = sx at *
          generalize (⟨y.toArray⟩ : ByteArray) = sy at *
          go_wp2
          rename_i KK hKK
          have HKK := Lib.hid hKK
          clear hKK
          refine wp_region_held_drew (S := (fun W => W.cell? ⟨b1, o1 + k, none⟩ = some (.string sx) ∧ W.cell? ⟨b2, o2 + k, none⟩ = some (.string sy))) (by kernel_rfl) ⟨q1, q2⟩ (fun hHeld => ?_)
          refine hyY (some 17) 0 rfl hHeld ?_; go_frame
          refine hyY (some 18) 1 rfl hHeld ?_; go_frame
          refine hyY (some 19) 2 rfl hHeld ?_; go_frame
          refine hyY (some 20) 3 rfl hHeld ?_; go_frame
          refine hyY (some 21) 4 rfl hHeld ?_; go_frame
          refine hyY (some 22) 5 rfl hHeld ?_; go_frame
          refine hyY (some 23) 6 rfl hHeld ?_; go_frame
          refine hyY (some 24) 7 rfl hHeld ?_; go_frame
          refine hyY (some 25) 8 rfl hHeld ?_; go_frame
          refine wpAnyH_done (by kernel_rfl) ?_ _
          have hKK := HKK.out
          go_wp2
          go_ret
          exact ⟨by rw [HBAD.out]; rfl, HBD.out⟩
      · obtain rfl : k = a.length := by omega
        have HY : Hid (R = true) := by
          show _ = _
          rw [HR.out]
          refine decide_eq_true (List.ext_getElem? fun j => ?_)
          by_cases hj : j < a.length
          · exact HN.out j hj
          · rw [List.getElem?_eq_none (by omega), List.getElem?_eq_none (by have := HLE.out; omega)]
        go_wp2
        go_ret
        exact ⟨by rw [HY.out]; rfl, bl⟩
  · have D0 : ((a.length : Int) != (b.length : Int)) = true := by simp; omega
    have D1 : decide ((a.length : Int) = (b.length : Int)) = false := decide_eq_false (by omega)
    have D2 : decide (a.length = b.length) = false := decide_eq_false hl
    have HBAD : Hid (R = false) := by
      show _ = _
      rw [HR.out]
      exact decide_eq_false fun e => hl (by rw [e])
    clear hl
    go_enter Try.func18, Try.ntmps18
    go_wp2
    go_ret
    exact ⟨by rw [HBAD.out]; rfl, Below.refl _ _⟩
end
section
open Go.RowKit Go.ChangeShapes Go.WideShapes Go.Joins
theorem onH_few (rc : Rc) {f : Nat} (l : List (Hl f)) : (onH rc l).length ≤ l.length := by
  unfold onH
  rw [List.length_map]
  exact List.length_filter_le _ _
theorem all_ZV (f : Nat) (w : World) (S : Nat → Prop) : ZV w S (f + 1) (.agg #[.int .i64 1, .string ⟨#[]⟩, .int .i64 0, .int .i64 0, .slice none 0 0]) (⟨1, [], 0, 0, []⟩ : Ns (Sc f)) :=
  ⟨_, _, _, _, _, rfl, rfl, (by decide : -9223372036854775808 ≤ (1 : Int) ∧ (1 : Int) ≤ 9223372036854775807), rfl, Nat.zero_le _, rfl, (by decide : -9223372036854775808 ≤ (0 : Int) ∧ (0 : Int) ≤ 9223372036854775807), rfl, (by decide : -9223372036854775808 ≤ (0 : Int) ∧ (0 : Int) ≤ 9223372036854775807), ZS.nil _ _ _⟩
set_option maxHeartbeats 8000000 in
theorem holdOn_main (f : Nat) (l : List (Hl (f + 1))) (rc : Rc) (id : List UInt8) (hid : id.length ≤ maxLen) (v vr : Value) (w : World) (hv : HS w (fun b => b < w.heap.size) (f + 1) v l) (hr : RcV vr rc) :
    Calls Try.prog 4 #[v, vr, strV id] w fun e w' => e = .returned (.bool true) ∧ Below w.heap.size w w' := by
  obtain ⟨rid, rst, rfl⟩ := hr
  have hrv : RcV (.agg #[strV rid, strV rc.cse, strV rc.sub, strV rc.cls, .int .i64 rc.tick, .int .i64 rst]) rc := ⟨rid, rst, rfl⟩
  have K := KB.new w 40 #[strV rid, strV rc.cse, strV rc.sub, strV rc.cls, .int .i64 rc.tick, .int .i64 rst]
  have B := (Below.refl w.heap.size w).alloc (Nat.le_refl _) (.cells #[strV rid, strV rc.cse, strV rc.sub, strV rc.cls, .int .i64 rc.tick, .int .i64 rst] 40)
  obtain ⟨s, hs⟩ : ∃ s : ByteArray, s = ⟨id.toArray⟩ := ⟨_, rfl⟩
  have hsv : strV id = .string s := by rw [hs]; rfl
  have hsz : (s.size : Int) = (id.length : Int) := by rw [hs]; rfl
  have HL0 := Lib.hid (fun W => hlive_any W)
  have HSM := Lib.hid (fun W (hb : Below w.heap.size w W) => xhsmall_any _ (f + 1) l v W (hv.below' hb))
  have HV : ∀ W, Below w.heap.size w W → HS W (fun b => b < W.heap.size) (f + 1) v l := fun W hb => (hv.below' hb).mono fun b h => Nat.lt_of_lt_of_le h hb.size
  have hc1 : FewH (f + 1) l → ∀ W, Below w.heap.size w W → Calls Try.prog 11 #[v, .string s] W (HoldsErr W (f + 1) (releaseH (f + 1) l id)) := fun hl W hb => by
    rw [← hsv]; exact hrelease_any (f + 1) l hl id v W (HV W hb)
  have hc2 : FewH (f + 1) l → ∀ W, Below w.heap.size w W → Calls Try.prog 13 #[v, .string s, .agg #[.int .i64 1, .string ⟨#[]⟩, .int .i64 0, .int .i64 0, .slice none 0 0]] W (HoldsErr W (f + 1) (amendH (f + 1) l id (⟨1, [], 0, 0, []⟩ : Ns (Sc f)))) := fun hl W hb => by
    rw [← hsv]; exact hamend_any (f + 1) l hl id _ ⟨by simp, by simp, fun u hu => by cases hu⟩ v _ W (HV W hb) (all_ZV f W _)
  have hc3 : FewH (f + 1) l → ∀ u W, HS W (fun b => b < W.heap.size) (f + 1) u l → ∀ W', Below W.heap.size W W' → Calls Try.prog 17 #[u, .agg #[strV rid, strV rc.cse, strV rc.sub, strV rc.cls, .int .i64 rc.tick, .int .i64 rst]] W' (IdsAs W' (onH rc l)) := fun hl u W h W' hb => xhon_any _ (f + 1) l hl.1 rc u _ hrv W' (h.below' hb)
  have hc4 : FewH (f + 1) l → ∀ W, Below w.heap.size w W → Calls Try.prog 19 #[v, .agg #[strV rid, strV rc.cse, strV rc.sub, strV rc.cls, .int .i64 rc.tick, .int .i64 rst]] W (IdsAs W (onH rc l)) := fun hl W hb => hon_any _ (f + 1) l hl rc v _ hrv W (HV W hb)
  have hc5 : FewH (f + 1) l → ∀ W, Below w.heap.size w W → Calls Try.prog 20 #[v, .agg #[strV rid, strV rc.cse, strV rc.sub, strV rc.cls, .int .i64 rc.tick, .int .i64 rst]] W fun e w' => e = .returned (.bool (decide (0 < (onH rc l).length))) ∧ Below W.heap.size W w' := fun hl W hb => by
    rw [← held_on]; exact hheld_any _ (f + 1) l rc v _ hrv W (HV W hb)
  have hc6 : ∀ u W, HS W (fun b => b < W.heap.size) (f + 1) u l → Below w.heap.size w W → ∀ W', Below W.heap.size W W' → Calls Try.prog 15 #[v, u] W' fun e w' => e = .returned (.bool true) ∧ Below W'.heap.size W' w' := fun u W h hb W' hb' => hsame_yes (HV W hb) (Below.refl _ _) h W' hb'
  have hfew := onH_few rc l
  have HC1 := Lib.hid hc1
  have HC2 := Lib.hid hc2
  have HC3 := Lib.hid hc3
  have HC4 := Lib.hid hc4
  have HC5 := Lib.hid hc5
  have HC6 := Lib.hid hc6
  have HFEW := Lib.hid hfew
  have HVW := Lib.hid (fun W (hb : Below w.heap.size w W) => hv.below' hb)
  rw [hsv]
  clear hid HV hc1 hc2 hc3 hc4 hc5 hc6 hs hsv hrv hfew hv
  generalize releaseH (f + 1) l id = p1 at *
  generalize amendH (f + 1) l id (⟨1, [], 0, 0, []⟩ : Ns (Sc f)) = p2 at *
  generalize onH rc l = ids at *
  unfold strV at K B HC3 HC4 HC5 ⊢
  generalize (⟨rid.toArray⟩ : ByteArray) = s0 at *
  generalize (⟨rc.cse.toArray⟩ : ByteArray) = s1 at *
  generalize (⟨rc.sub.toArray⟩ : ByteArray) = s2 at *
  generalize (⟨rc.cls.toArray⟩ : ByteArray) = s3 at *
  generalize rc.tick = tk at *
  go_enter Try.func4, Try.ntmps4
  go_wp2_with fail
  refine (HSM.out _ B).mono ?_
  rintro e w1 ⟨sm, rfl, hsm, b1⟩
  replace K := K.below b1 K.lt
  replace B := B.trans (b1.mono B.size)
  have HM := Lib.hid hsm
  clear hsm b1 HSM
  cases sm with
  | false =>
    clear HM HC1 HC2 HC3 HC4 HC5 HC6 HFEW HVW
    go_wp2_with fail
    refine (HL0.out _).mono ?_
    rintro e w2 ⟨rfl, b2⟩
    replace B := B.trans (b2.mono B.size)
    clear b2 HL0
    go_wp2_with fail
    go_ret
    exact ⟨rfl, B⟩
  | true =>
  have hl30 : l.length ≤ 30 := (HM.out rfl).1
  have hl : FewH (f + 1) l := FewH.of_small (HM.out rfl)
  have hq1 := Lib.hid (HC1.out hl)
  have hq2 := Lib.hid (HC2.out hl)
  have hq3 := Lib.hid (HC3.out hl)
  have hq4 := Lib.hid (HC4.out hl)
  have hq5 := Lib.hid (HC5.out hl)
  have HLE : Hid (ids.length ≤ 100000) := Nat.le_trans HFEW.out (by omega)
  have HL30 := Lib.hid hl30
  clear HM HC1 HC2 HC3 HC4 HC5 hl HFEW hl30
  by_cases h100 : 100 < id.length
  · have d1 : decide ((100 : Int) < (s.size : Int)) = true := decide_eq_true (by omega)
    clear hq1 hq2 hq3 hq4 hq5 HC6 HVW hsz HLE HL30
    go_wp2_with fail
    refine (HL0.out _).mono ?_
    rintro e w2 ⟨rfl, b2⟩
    replace B := B.trans (b2.mono B.size)
    clear b2 HL0
    go_wp2_with fail
    go_ret
    exact ⟨rfl, B⟩
  have d1 : decide ((100 : Int) < (s.size : Int)) = false := decide_eq_false (by omega)
  clear hsz h100
  have OW := ownH_empty w1 w1.heap.size (Nat.le_refl _)
  have BA := (Below.refl w1.heap.size w1).alloc (Nat.le_refl _) (.cells #[] 47)
  have hv2 := HVW.out _ (B.trans (BA.mono B.size))
  go_wp2_with (at_builtin; refine wpList_growHL _ rfl _ _ rfl w1.heap.size _ [] rfl OW _ l rfl hv2 (by have := HL30.out; simp; omega) BA.size ?_; intro ps v3 w3 hq9 how3 g3 ho3)
  have b3 := BA.grown g3 BA.size (fun x e => own_ge OW x e)
  rw [List.nil_append] at how3
  have hB1 := B.size
  have hb3 := b3.size
  have hq8 := hq9.grown g3 (fun x e => Nat.le_trans hB1 (own_ge OW x e))
  have hw3 := HS_of_own (S := fun b => b < w3.heap.size) how3 (hq8.mono fun b h => by show b < w3.heap.size; have : b < w.heap.size := h; omega) fun b _ h => h
  replace K := K.below b3 K.lt
  replace B := B.trans (b3.mono B.size)
  have hon := Lib.hid (hq3.out v3 w3 hw3)
  have hsm := Lib.hid (HC6.out v3 w3 hw3 B)
  have E3 := Below.refl w3.heap.size w3
  clear OW BA hv2 hq9 how3 g3 ho3 b3 hq8 hw3 hq3 HC6 HVW hB1 hb3
  refine (hq1.out _ B).mono ?_
  rintro e w4 ⟨v4, rfl, _, b4⟩
  replace K := K.below b4 K.lt
  replace E3 := E3.trans (b4.mono E3.size)
  replace B := B.trans (b4.mono B.size)
  clear b4 hq1
  go_wp2_with fail
  refine (hq2.out _ B).mono ?_
  rintro e w5 ⟨v5, rfl, _, b5⟩
  replace K := K.below b5 K.lt
  replace E3 := E3.trans (b5.mono E3.size)
  replace B := B.trans (b5.mono B.size)
  clear b5 hq2
  have q0 := K.cell 0
  have q1 := K.cell 1
  have q2 := K.cell 2
  have q3 := K.cell 3
  have q4 := K.cell 4
  have q5 := K.cell 5
  go_wp2_with fail
  refine (hon.out _ E3).mono ?_
  rintro e w6 ⟨v6, rfl, ow6, b6⟩
  replace K := K.below b6 K.lt
  replace E3 := E3.trans (b6.mono E3.size)
  replace B := B.trans (b6.mono B.size)
  have HO6 := Lib.hid ow6
  obtain ⟨A6, c6, rfl⟩ := zown_form ow6
  clear b6 hon ow6 q0 q1 q2 q3 q4 q5
  have q0 := K.cell 0
  have q1 := K.cell 1
  have q2 := K.cell 2
  have q3 := K.cell 3
  have q4 := K.cell 4
  have q5 := K.cell 5
  go_wp2_with fail
  refine (hq4.out _ B).mono ?_
  rintro e w7 ⟨v7, rfl, ow7, b7⟩
  have hnm0 := rsamenames_any _ _ v7 _ ids ids w7 (CS.of_own ow7) (CS.of_own (own_past b7 HO6.out)) HLE.out HLE.out
  rw [decide_eq_true rfl] at hnm0
  have hnm := Lib.hid hnm0
  clear hnm0
  replace K := K.below b7 K.lt
  replace E3 := E3.trans (b7.mono E3.size)
  replace B := B.trans (b7.mono B.size)
  clear b7 hq4 ow7 HO6 q0 q1 q2 q3 q4 q5
  go_wp2_with fail
  refine hnm.out.mono ?_
  rintro e w8 ⟨rfl, b8⟩
  replace K := K.below b8 K.lt
  replace E3 := E3.trans (b8.mono E3.size)
  replace B := B.trans (b8.mono B.size)
  clear b8 hnm
  have q0 := K.cell 0
  have q1 := K.cell 1
  have q2 := K.cell 2
  have q3 := K.cell 3
  have q4 := K.cell 4
  have q5 := K.cell 5
  go_wp2_with fail
  refine (hq5.out _ B).mono ?_
  rintro e w9 ⟨rfl, b9⟩
  replace E3 := E3.trans (b9.mono E3.size)
  replace B := B.trans (b9.mono B.size)
  clear b9 hq5 K q0 q1 q2 q3 q4 q5
  go_wp2_with fail
  refine (hsm.out _ E3).mono ?_
  rintro e w10 ⟨rfl, b10⟩
  replace B := B.trans (b10.mono B.size)
  clear b10 hsm E3
  go_wp2_with fail
  refine (HL0.out _).mono ?_
  rintro e w2 ⟨rfl, b2⟩
  replace B := B.trans (b2.mono B.size)
  clear b2 HL0
  go_wp2_with fail
  go_ret
  exact ⟨rfl, B⟩
theorem holdOn_law {H : Type} (enc : TypeId × Value → H) (W : World) (base : Nat)
    (v0 : Value) (d0 : DataW H) (p0 : List MemPlace) (v1 : Value) (d1 : DataW H) (p1 : List MemPlace) (v2 : Value) (d2 : DataW H) (p2 : List MemPlace)
    (k0 : Value.okWide Try.prog W .any base 22 v0) (k1 : Value.okWide Try.prog W .any base 40 v1) (k2 : Value.okWide Try.prog W .any base 9 v2)
    (h0 : DataW.Trod enc Try.prog W 0 (fun _ => true) true 22 v0 d0 p0) (h1 : DataW.Trod enc Try.prog W 0 (fun _ => true) true 40 v1 d1 p1) (h2 : DataW.Trod enc Try.prog W 0 (fun _ => true) true 9 v2 d2 p2) :
    Calls Try.prog 4 #[v0, v1, v2] W fun e W' => e = .returned (.bool true) ∧ Below W.heap.size W W' := by
  obtain ⟨n0, hn0⟩ := open_holds k0 h0
  obtain ⟨l, hl⟩ := hn0 (n0 + 1) (Nat.le_succ _)
  obtain ⟨rc, hr⟩ := open_zrec k1 h1
  obtain ⟨id, rfl, hid⟩ := open_str k2 h2
  exact holdOn_main n0 l rc id hid v0 v1 W hl hr
end
end Go.Proofs.Ytdkmjdcddldjgaa
section
namespace Go.Proofs.Ytdkmjdcddldjgaa.holdOn
open Go.ChangeShapes Go.WideShapes Go.ChangeAt Go.RowKit
theorem own : ownKnob Try.prog.godebug = none := by kernel_rfl
theorem laidOut : laidOutB Try.prog = true := by kernel_rfl
set_option maxRecDepth 100000 in
theorem lifted (os : Os) (started : os.Started) (H : Type) (enc : TypeId × Value → H) :
    ReturnsInHanded {} Try.checked os 4 .any (Rows.holdOnSpec.pre6 enc Try.prog Try.f4 Rows.holdOnRow.domain false) (Rows.holdOnSpec.post enc Try.prog Try.f4 false true false false) := by
  refine returnsInHanded_of_change (C := Try.checked) own started (by kernel_rfl) Try.func4
    (ChangeSpec.witness6 (enc := enc) (C := Try.checked) false ⟨#[], #[.slice none 0 0, .agg #[.string ByteArray.empty, .string ByteArray.empty, .string ByteArray.empty, .string ByteArray.empty, .int .i64 0, .int .i64 0], .string ByteArray.empty], []⟩ 8 (by kernel_rfl) (by kernel_rfl) (by kernel_rfl) (by kernel_rfl)) ?_
  intro W base args ds gs before hval0 hW hcnd _
  have hval : ∀ (j : Nat) t v, Try.f4.params[j]? = some t → args[j]? = some v → Value.okWide Try.prog W .any base t v := hval0
  have hW' := hW
  obtain ⟨p, q, hA0, hV, rfl, hfz, hnd⟩ := hW
  have hA : DataW.TrodAll enc Try.prog W 0 (fun _ => true) true Try.f4.params.toList args.toList ds p := hA0
  rw [Try.params4] at hA hval
  obtain ⟨v0, vs0, d0, ds0, p0, q0, hargs, rfl, rfl, h0, r0⟩ := trodAll_cons hA
  obtain ⟨v1, vs1, d1, ds1, p1, q1, rfl, rfl, rfl, h1, r1⟩ := trodAll_cons r0
  obtain ⟨v2, vs2, d2, ds2, p2, q2, rfl, rfl, rfl, h2, r2⟩ := trodAll_cons r1
  obtain ⟨rfl, rfl, rfl⟩ := trodAll_nil r2
  obtain rfl : args = #[v0, v1, v2] := by cases args; simp_all
  obtain ⟨rfl, rfl⟩ := trodVars_none hV
  have lt0 : ∀ x ∈ p0, x.block < W.heap.size := by obtain ⟨m, hm⟩ := h0; exact DataW.trod_lt m _ _ _ hm
  have lt1 : ∀ x ∈ p1, x.block < W.heap.size := by obtain ⟨m, hm⟩ := h1; exact DataW.trod_lt m _ _ _ hm
  have lt2 : ∀ x ∈ p2, x.block < W.heap.size := by obtain ⟨m, hm⟩ := h2; exact DataW.trod_lt m _ _ _ hm
  refine (holdOn_law enc W base v0 d0 p0 v1 d1 p1 v2 d2 p2 (hval 0 _ v0 rfl rfl) (hval 1 _ v1 rfl rfl) (hval 2 _ v2 rfl rfl) h0 h1 h2).mono fun e W' ⟨he, bel⟩ => ?_
  subst he
  exact ⟨_, rfl, _, _, _, [], _, [], hW', trodAll_mk1 (shut_bool Try.underlying4 _), (trodAll_cons_mk (Below.trod laidOut (by kernel_rfl) (of_decide_eq_true (by kernel_rfl)) h0 bel lt0) (trodAll_cons_mk (Below.trod laidOut (by kernel_rfl) (of_decide_eq_true (by kernel_rfl)) h1 bel lt1) (trodAll_cons_mk (Below.trod laidOut (by kernel_rfl) (of_decide_eq_true (by kernel_rfl)) h2 bel lt2) trodAll_mk0))), rfl, bel.frame _, fun h => by cases h⟩
theorem over : Rows.holdOnRow.holds Try.pinned (OpenSpec.ofChange Rows.holdOnSpec) :=
  OpenClaim.holds_of_wide 4 Try.f4 rfl rfl rfl rfl rfl rfl rfl ⟨rfl, rfl, rfl, rfl, rfl⟩ rfl rfl rfl rfl rfl (by kernel_rfl) Try.func4 (by kernel_rfl)
    (of_decide_eq_true (by kernel_rfl)) (by unfold Func.isWrapper; first | (rw [if_pos (by decide +kernel)]; kernel_rfl) | (rw [if_neg (by decide +kernel)]; exact ⟨rfl, rfl⟩))
    (fun os started H enc _ => lifted os started H enc)
theorem proved : Rows.HoldOnSaid := over
end Go.Proofs.Ytdkmjdcddldjgaa.holdOn
end
