/-
  num, and live of layer 14: the page's example, over the loaded program. No condition.
-/
import Derived.Test.YtmknemaocbbpeaaSlD
import Derived.Test.YtmknemaocbbpeaaSlN
import Derived.Test.YtmknemaocbbpeaaDkL
import Derived.Lib.SlBytesConst
namespace Go.Proofs.Ytmknemaocbbpeaa
open Go.RowKit Gau
set_option maxRecDepth 100000
set_option linter.unusedVariables false

theorem num14_any (x : Int) (w : World) : Calls Try.prog 9 #[.int .i64 x] w fun e w' => e = .returned (.int .i64 x) ∧ w = w' := by
  go_enter Try.func9, Try.ntmps9
  go_wp2
  go_ret
  exact ⟨rfl, rfl⟩

/-- true, and nothing of what was there has turned. -/
def Yes14 (w : World) (e : Ending) (w' : World) : Prop := e = .returned (.bool true) ∧ Below w.heap.size w w'

theorem rests_blank (n : Nat) : Rests (blank n) n := ⟨List.length_replicate, fun _ => rfl⟩
theorem get_full {b : List UInt8} (h : ¬ 249 < b.length) : getG (fullS 4 b) = (b, 0) := by
  have hp : putS 4 b = (fullS 4 b, 0) := putS_ok (by decide) h
  have := get_put (kind := 4) (body := b) (by rw [hp])
  rw [hp] at this
  unfold getG
  rw [show getS (fullS 4 b) = (4, b, 0) from this]
  rfl
theorem get_empty : getG (zs 256) = ([], 5) := by
  have : getS (zs 256) = (0, [], 5) := by
    unfold getS
    rw [if_pos (zs_len 256), if_pos rfl]
  unfold getG
  rw [this]
  rfl

section
variable {w w' : World} {p : DA} {s : Dk} {n i : Nat} {l : List UInt8}
theorem LaidAs.ds {r : Dk × Int} {e : Ending} (h : LaidAs w p r e w') : DS w' p r.1 := h.2.1
end

set_option maxHeartbeats 2000000 in
/-- live. -/
theorem live14_any (w : World) : Calls Try.prog 6 #[] w (Yes14 w) := by
  have hcv := fun (w : World) (C : Array Value) (n c : Nat) => Lib.run_convert_bytes_const (P := Try.prog) w 36 5 C n c Try.underlying36 Try.underlying5
  have hstr := fun (W : World) (S : Nat → Prop) (v : Value) (h : BS W S v [97]) => h.str (P := Try.prog) (src := 36) (e := 5) (dst := 9) Try.underlying36 Try.underlying5 Try.underlying9
  have HSTR := Lib.hid hstr
  clear hstr
  obtain ⟨a1, a2, a3, a4⟩ := lay_live (i := 1 + 0) (l := fullS 4 [97]) (rests_blank 4) rfl
  obtain ⟨s1, hs1⟩ : ∃ s, s = layD (blank 4) (1 + 0) (fullS 4 [97]) := ⟨_, rfl⟩
  have hp1 := fun (w1 : World) q p (h : DS w1 p (blank 4)) (hs : SL w1 q p 1 2) S v (hv : BS w1 S v [97]) => lput_ok h hs (by decide) 0 (by decide) S v [97] (by decide) hv
  rw [← hs1] at a1 a2 a3 a4 hp1
  have n1 : s1.1.now 1 = fullS 4 [97] := now_at (a3.pend 1) (by rw [a2, List.getElem?_set_self (by rw [(rests_blank 4).len]; decide)])
  have hg1 := fun (w1 : World) q p (h : DS w1 p s1.1) (hs : SL w1 q p 1 2) => lget_ok h hs (by rw [a3.len]; decide) (by rw [a4]; decide) 0 (by decide)
  rw [show 1 + 0 = 1 from rfl, n1, get_full (by decide)] at hg1
  obtain ⟨s2, hs2⟩ : ∃ s, s = clearD s1.1 (1 + 0) := ⟨_, rfl⟩
  have hc2 := fun (w1 : World) q p (h : DS w1 p s1.1) (hs : SL w1 q p 1 2) => lclear_ok h hs (by rw [a3.len]; decide) a3.pend (by rw [a4]; decide) 0 (by decide)
  rw [← hs2] at hc2
  have e2 : s2 = layD s1.1 1 (zs 256) := by
    rw [hs2]
    unfold clearD
    rw [if_neg (by rw [show 1 + 0 = 1 from rfl, n1]; exact fullS_nz (by decide))]
  obtain ⟨b1, b2, b3, b4⟩ := lay_live (i := 1) (l := zs 256) a3 a4
  rw [← e2] at b1 b2 b3 b4
  have n2 : s2.1.now 1 = zs 256 := now_at (b3.pend 1) (by rw [b2, List.getElem?_set_self (by rw [a3.len]; decide)])
  have hg2 := fun (w1 : World) q p (h : DS w1 p s2.1) (hs : SL w1 q p 1 2) => lget_ok h hs (by rw [b3.len]; decide) (by rw [b4]; decide) 0 (by decide)
  rw [show 1 + 0 = 1 from rfl, n2, get_empty] at hg2
  have HP1 := Lib.hid hp1
  have HG1 := Lib.hid hg1
  have HC2 := Lib.hid hc2
  have HG2 := Lib.hid hg2
  have E1 := Lib.hid a1
  have E2 := Lib.hid b1
  clear a1 a2 a3 a4 b1 b2 b3 b4 hs1 hs2 n1 n2 e2 hp1 hg1 hc2 hg2
  obtain ⟨s1, r1⟩ := s1
  obtain ⟨s2, r2⟩ := s2
  go_enter Try.func6, Try.ntmps6
  go_wp2_with fail
  refine (new_made 4 w (by omega) (by omega)).mono ?_
  rintro e w1 ⟨p, rfl, d1, fp, B1⟩
  have hnew := lnew_ok d1 1 2 (by decide) (by decide)
  go_wp2_with fail
  refine hnew.mono ?_
  rintro e w2 ⟨rfl, q2, b2⟩
  have d2 := d1.below b2
  have B2 := B1.trans (b2.mono B1.size)
  clear d1 B1 b2 hnew
  generalize w1.heap.size = q at *
  go_wp2_with fail
  have hb3 : BS (w2.alloc (.cells #[.int .u8 97] 5 (1, 2))) (fun b => w2.heap.size ≤ b) (.slice (some ⟨w2.heap.size, 0, none⟩) 1 1) [97] := BS.lit w2 5 [97] (by simp [maxLen]) (1, 2)
  have B3 := B2.alloc B2.size (.cells #[.int .u8 97] 5 (1, 2))
  have bb := (Below.refl w2.heap.size w2).alloc (Nat.le_refl _) (.cells #[.int .u8 97] 5 (1, 2))
  have d3 := d2.below bb
  have q3 := q2.below bb
  clear d2 q2 B2 bb
  refine (HP1.out _ _ _ d3 q3 _ _ hb3).mono ?_
  rintro e w4 ⟨rfl, d4, k4⟩
  have q4 := q3.keep k4
  have B4 := B3.trans (k4.off B3.size fp)
  have E1' := E1.out
  clear d3 q3 B3 k4 hb3
  dsimp only at E1' d4
  subst E1'
  go_wp2_with fail
  refine (HG1.out w4 q p d4 q4).mono ?_
  rintro e w5 ⟨v5, rfl, how5, b5⟩
  have x5 := own_off d4 how5
  have d5 := d4.below b5
  have q5 := q4.below b5
  have B5 := B4.trans (b5.mono B4.size)
  clear d4 q4 B4 how5 b5
  go_wp2_with fail
  refine (HC2.out w5 q p d5 q5).mono ?_
  rintro e w6 ⟨rfl, d6, k6⟩
  have x6 := x5.off k6
  have q6 := q5.keep k6
  have B6 := B5.trans (k6.off B5.size fp)
  have E2' := E2.out
  clear d5 q5 B5 k6 x5
  dsimp only at E2' d6
  subst E2'
  go_wp2_with fail
  refine (HG2.out w6 q p d6 q6).mono ?_
  rintro e w7 ⟨v7, rfl, how7, b7⟩
  have x7 := x6.below' b7
  have B7 := B6.trans (b7.mono B6.size)
  have hst := HSTR.out _ _ _ x7
  clear how7 b7 x6 B6 d6 q6
  go_wp2_with (go_at_call 9; refine (num14_any _ _).mono ?_; rintro e w' ⟨rfl, rfl⟩)
  go_ret
  exact ⟨rfl, B7⟩
end Go.Proofs.Ytmknemaocbbpeaa
