/-
  The law SlotNil over the loaded program: what nil Slots, and a nil disk, answer; what is spoilt is told. No condition.
-/
import Derived.Test.YtmknemaocbbpeaaSlE
import Derived.Test.YtmknemaocbbpeaaArgs
namespace Go.Proofs.Ytmknemaocbbpeaa
open Go.RowKit Gau Go.ChangeShapes Go.WideShapes Go.Joins
set_option maxRecDepth 100000
set_option linter.unusedVariables false

/-- A sector that is spoilt. -/
def spoilt : List UInt8 := (zs 256).set 9 1
theorem spoilt_len : spoilt.length = 256 := by rw [spoilt, List.length_set, zs_len]
theorem get_spoilt : getG spoilt = ([], 17) := by
  have : getS spoilt = (0, [], 17) := by decide +kernel
  unfold getG
  rw [this]
  rfl
theorem spoilt_map : spoilt.map bv = ((zs 256).map bv).set 9 (.int .u8 1) := by unfold spoilt; rw [List.map_set]; rfl

theorem nil_out (i : Int) (S : Nat → Prop) (v : Value) (l : List UInt8) (hx : 300 < l.length) (w : World) (h : BS w S v l) :
    Calls Try.prog 4 #[.int .i64 i, v] w (Yes14 w) := by
  obtain ⟨A, c, rfl, _⟩ := h.form
  have h2 : (300 : Int) < l.length := by omega
  clear h
  go_enter Try.func4, Try.ntmps4
  go_wp2_with fail
  refine (live14_any _).mono ?_
  rintro e w1 ⟨rfl, b1⟩
  go_wp2
  go_ret
  exact ⟨rfl, b1⟩

set_option maxHeartbeats 2000000 in
theorem nil_main (i : Int) (S : Nat → Prop) (v : Value) (l : List UInt8) (hx : ¬ 300 < l.length) (w : World) (h : BS w S v l) :
    Calls Try.prog 4 #[.int .i64 i, v] w (Yes14 w) := by
  obtain ⟨A, c, rfl, _⟩ := h.form
  have h2 : ¬ (300 : Int) < l.length := by omega
  clear h hx
  have hf : ((blank 2).wrote 0 spoilt).acted.fuse ≠ 0 := by rw [wrote_fuse rfl]; decide
  have hn : ((blank 2).wrote 0 spoilt).acted.now (0 + 0) = spoilt := rfl
  have hln : 0 + 1 ≤ ((blank 2).wrote 0 spoilt).acted.safe.length := by show 1 ≤ (List.replicate 2 z256).length; rw [List.length_replicate]; decide
  have hg := fun (W : World) q p (h : DS W p ((blank 2).wrote 0 spoilt).acted) (hs : SL W q p 0 1) => lget_ok h hs hln hf 0 (by decide)
  rw [hn, get_spoilt] at hg
  have HG := Lib.hid hg
  clear hf hn hln hg
  go_enter Try.func4, Try.ntmps4
  go_wp2_with fail
  refine (lget_bad (.pointer none) i 9 w (by decide) (at_nil i w)).mono ?_
  rintro e w' ⟨rfl, rfl⟩
  go_wp2_with fail
  refine (lused_nil w).mono ?_
  rintro e w' ⟨rfl, rfl⟩
  go_wp2_with fail
  refine (lnew_nil 0 1 w).mono ?_
  rintro e w' ⟨rfl, rfl⟩
  go_wp2_with fail
  refine (new_made 2 w (by omega) (by omega)).mono ?_
  rintro e w1 ⟨p, rfl, d1, fp, B1⟩
  have hnew := lnew_ok d1 0 1 (by decide) (by decide)
  go_wp2_with fail
  refine hnew.mono ?_
  rintro e w2 ⟨rfl, q2, b2⟩
  have d2 := d1.below b2
  have B2 := B1.trans (b2.mono B1.size)
  clear d1 B1 b2 hnew
  generalize w1.heap.size = q at *
  obtain ⟨C, hC, hmk⟩ := make_256 w2
  have K3 : KB (w2.alloc (.cells C 5)) w2.heap.size 5 ((zs 256).map bv).toArray := by rw [← hC]; exact KB.new _ _ _
  have c9 : (w2.alloc (.cells C 5)).cell? ⟨w2.heap.size, 9, none⟩ = some (bv 0) := by rw [K3.cell]; exact z256_at 9 (by omega)
  have K4 : KB (w2.alloc (.cells (C.setIfInBounds 9 (.int .u8 1)) 5)) w2.heap.size 5 (spoilt.map bv).toArray := by
    have e : C.setIfInBounds 9 (.int .u8 1) = (spoilt.map bv).toArray := by rw [hC, List.setIfInBounds_toArray, spoilt_map]
    rw [e]
    exact KB.new _ _ _
  have bb := (Below.refl w2.heap.size w2).alloc (Nat.le_refl _) (.cells (C.setIfInBounds 9 (.int .u8 1)) 5)
  have d4 := d2.below bb
  have q4 := q2.below bb
  have B4 := B2.trans (bb.mono B2.size)
  clear hC d2 q2 K3 bb B2
  go_wp2_with fail
  refine (write_ok d4 0 (by decide) (by decide) _ _ _ (kb_256 K4 spoilt_len) spoilt_len).mono ?_
  rintro e w5 ⟨rfl, d5, k5⟩
  have q5 := q4.keep k5
  have B5 := B4.trans (k5.off B4.size fp)
  clear d4 q4 B4 k5 K4 hmk c9
  go_wp2_with fail
  refine (HG.out w5 q p d5 q5).mono ?_
  rintro e w6 ⟨v6, rfl, _, b6⟩
  have B6 := B5.trans (b6.mono B5.size)
  clear d5 q5 B5 b6
  go_wp2_with fail
  refine (lput_bad (.pointer none) i 9 _ w6 (by decide) (at_nil i w6)).mono ?_
  rintro e w' ⟨rfl, rfl⟩
  go_wp2_with (first | (go_at_call 9; refine (num14_any _ _).mono ?_; rintro e w' ⟨rfl, rfl⟩) | (go_at_call 12; refine (lclear_bad (.pointer none) i 9 w6 (by decide) (at_nil i w6)).mono ?_; rintro e w' ⟨rfl, rfl⟩) | (go_at_call 6; refine (live14_any _).mono ?_; rintro e w7 ⟨rfl, b7⟩))
  go_ret
  exact ⟨rfl, B6.trans (b7.mono B6.size)⟩

theorem slotNil_law {H : Type} (enc : TypeId × Value → H) (W : World) (base : Nat) (v0 : Value) (d0 : DataW H) (p0 : List MemPlace) (v1 : Value) (d1 : DataW H) (p1 : List MemPlace)
    (ok0 : Value.okWide Try.prog W .any base 3 v0) (ok1 : Value.okWide Try.prog W .any base 36 v1) (h0 : DataW.Trod enc Try.prog W 0 (fun _ => true) true 3 v0 d0 p0) (h1 : DataW.Trod enc Try.prog W 0 (fun _ => true) true 36 v1 d1 p1) :
    Calls Try.prog 4 #[v0, v1] W fun e W' => e = .returned (.bool true) ∧ Below W.heap.size W W' := by
  obtain ⟨n, rfl⟩ := okWide_int Try.underlying3 ok0
  obtain ⟨l, hl⟩ := BS_of_arg ok1 h1
  by_cases hx : 300 < l.length
  · exact nil_out n _ _ l hx W hl
  · exact nil_main n _ _ l hx W hl
end Go.Proofs.Ytmknemaocbbpeaa
