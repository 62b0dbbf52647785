/-
  live: the page's examples, over the loaded program. No condition.
-/
import Derived.Test.YtdmfpgmpjejfgaaDkG
namespace Go.Proofs.Ytdmfpgmpjejfgaa
open Go.RowKit
set_option linter.unusedVariables false

/-- All of p's blocks lie from B on. -/
def From (p : DA) (B : Nat) : Prop := ∀ x, p.has x → B ≤ x
theorem new_made (n : Nat) (w : World) (h1 : 1 ≤ n) (h2 : n ≤ 1024) : Calls Try.prog 6 #[.int .i64 n] w fun e w' =>
    ∃ p : DA, e = .returned (.tuple #[.pointer (some ⟨p.d, 0, none⟩), .int .i64 0]) ∧ DS w' p (blank n) ∧ From p w.heap.size ∧ Below w.heap.size w w' := by
  refine (new_yes n w h1 h2).mono ?_
  rintro e w' ⟨rfl, hd, hb⟩
  refine ⟨newDA w.heap.size, rfl, hd, ?_, hb⟩
  rintro x (rfl | rfl | rfl) <;> simp [newDA]
section
variable {w w' : World} {p : DA} {B : Nat}
theorem KeepP.off (k : KeepP (Off p w) w w') (hB : B ≤ w.heap.size) (hp : From p B) : Below B w w' := k.to_below fun x hx => ⟨by omega, fun h => by have := hp x h; omega⟩
theorem BS.off {v : Value} {l : List UInt8} (h : BS w (Off p w) v l) (k : KeepP (Off p w) w w') : BS w' (Off p w') v l :=
  (h.keep k.size fun b sb _ => k.block b sb).mono fun b sb => ⟨by have := sb.1; have := k.size; omega, sb.2⟩
theorem BS.off_below {v : Value} {l : List UInt8} (h : BS w (Off p w) v l) (k : Below w.heap.size w w') : BS w' (Off p w') v l :=
  (h.below' k).mono fun b sb => ⟨by have := sb.1; have := k.size; omega, sb.2⟩
/-- What a call hands back in new memory is off a disk that was there. -/
theorem own_off {s : Dk} (h : DS w p s) {v : Value} {l : List UInt8} (how : w'.ownsRow w.heap.size 5 1 v l.length (l.map bv)) : BS w' (Off p w') v l :=
  (own_BS how).mono fun b sb => ⟨sb.2, fun hx => by have := h.lt b hx; omega⟩
theorem kb_full {g : Nat} {c : UInt8} (h : KB w g 5 ((full c).map bv).toArray) : BS w (fun b => b = g) (.slice (some ⟨g, 0, none⟩) 256 256) (full c) := by
  refine ⟨_, 256, by rw [full_len], by rw [full_len]; omega, by unfold maxLen; omega, (fun h => by cases h), fun _ => ⟨g, 0, rfl, rfl, h.lt, fun j u hu => ?_⟩⟩
  rw [Nat.zero_add, h.cell]
  simp [hu]
end

def l1 : Dk := ((blank 4).wrote 3 (full 7)).acted
def l2 : Dk := l1.crashed []
def l3 : Dk := (l2.wrote 3 (full 7)).acted
def l4 : Dk := l3.flushed
def l5 : Dk := l4.crashed []
theorem l2_now : l2.now 3 = full 0 := by decide +kernel
theorem l5_now : l5.now 3 = full 7 := by decide +kernel
theorem l2_len : l2.safe.length = 4 := by decide +kernel
theorem l3_len : l3.safe.length = 4 := by decide +kernel
theorem l5_len : l5.safe.length = 4 := by decide +kernel
theorem l_fuse : l2.fuse ≠ 0 ∧ l3.fuse ≠ 0 ∧ l5.fuse ≠ 0 := ⟨by decide, by decide, by decide⟩

def Yes (w : World) (e : Ending) (w' : World) : Prop := e = .returned (.bool true) ∧ Below w.heap.size w w'
set_option maxRecDepth 100000 in
set_option maxHeartbeats 2000000 in
/-- live. -/
theorem live_any (w : World) : Calls Try.prog 5 #[] w (Yes w) := by
  go_enter Try.func5, Try.ntmps5
  go_wp2_with fail
  refine (new_made 4 w (by omega) (by omega)).mono ?_
  rintro e w1 ⟨p, rfl, d1, fp, B1⟩
  go_wp2_with fail
  refine (full_any 7 w1).mono ?_
  rintro e w2 ⟨rfl, k2, b2⟩
  have d2 := d1.below b2
  have B2 := B1.trans (b2.mono B1.size)
  clear d1 B1 b2
  go_wp2_with fail
  refine (write_ok d2 3 (by decide) (by decide) _ _ _ (kb_full k2) (full_len 7)).mono ?_
  rintro e w3 ⟨rfl, d3, K3⟩
  have B3 := B2.trans (K3.off B2.size fp)
  clear d2 K3 k2 B2
  go_wp2_with fail
  refine (crash_any d3 (fun _ => False) (.slice none 0 0) [] (CS.nil _ _) (fun _ h => h.elim)).mono ?_
  rintro e w4 ⟨rfl, d4, K4⟩
  have d4 : DS w4 p l2 := d4
  have B4 := B3.trans (K4.off B3.size fp)
  clear d3 K4 B3
  go_wp2_with fail
  have hr := read_ok (s := l2) d4 3 (by rw [l2_len]; omega) l_fuse.1
  rw [l2_now] at hr
  refine hr.mono ?_
  rintro e w5 ⟨v5, rfl, how5, b5⟩
  have x5 := own_off d4 how5
  have d5 := d4.below b5
  have B5 := B4.trans (b5.mono B4.size)
  clear d4 hr how5 b5 B4
  have len2 := l2_len
  go_wp2_with fail
  refine (full_any 7 w5).mono ?_
  rintro e w6 ⟨rfl, k6, b6⟩
  have d6 := d5.below b6
  have x6 := x5.off_below b6
  have B6 := B5.trans (b6.mono B5.size)
  clear d5 B5 b6 x5
  go_wp2_with fail
  refine (write_ok d6 3 (by rw [l2_len]; omega) l_fuse.1 _ _ _ (kb_full k6) (full_len 7)).mono ?_
  rintro e w7 ⟨rfl, d7, K7⟩
  have d7 : DS w7 p l3 := d7
  have x7 := x6.off K7
  have B7 := B6.trans (K7.off B6.size fp)
  clear d6 K7 k6 B6 x6
  go_wp2_with fail
  refine (flush_ok d7 l_fuse.2.1).mono ?_
  rintro e w8 ⟨rfl, d8, K8⟩
  have d8 : DS w8 p l4 := d8
  have x8 := x7.off K8
  have B8 := B7.trans (K8.off B7.size fp)
  clear d7 K8 B7 x7
  go_wp2_with fail
  refine (crash_any d8 (fun _ => False) (.slice none 0 0) [] (CS.nil _ _) (fun _ h => h.elim)).mono ?_
  rintro e w9 ⟨rfl, d9, K9⟩
  have d9 : DS w9 p l5 := d9
  have x9 := x8.off K9
  have B9 := B8.trans (K9.off B8.size fp)
  clear d8 K9 B8 x8
  go_wp2_with fail
  have hr := read_ok d9 3 (by rw [l5_len]; omega) l_fuse.2.2
  rw [l5_now] at hr
  refine hr.mono ?_
  rintro e wa ⟨va, rfl, howa, ba⟩
  have ya := own_off d9 howa
  have xa := x9.off_below ba
  have Ba := B9.trans (ba.mono B9.size)
  have da := d9.below ba
  clear d9 hr howa ba B9 x9 len2
  go_wp2_with (go_at_call 7; refine (num8_any 0 _).mono ?_; rintro e w' ⟨rfl, rfl⟩)
  refine (full_any 0 wa).mono ?_
  rintro e wb ⟨rfl, kb, bb⟩
  have yb := ya.off_below bb
  have xb := xa.off_below bb
  have Bb := Ba.trans (bb.mono Ba.size)
  clear xa ya bb Ba da
  go_wp2_with fail
  refine (same_to _ _ _ _ _ _ xb (kb_full kb)).mono ?_
  rintro e wc ⟨rfl, bc⟩
  have yc := yb.off_below bc
  have Bc := Bb.trans (bc.mono Bb.size)
  clear xb yb kb bc Bb
  go_wp2_with fail
  refine (full_any 7 wc).mono ?_
  rintro e wd ⟨rfl, kd, bd⟩
  have yd := yc.off_below bd
  have Bd := Bc.trans (bd.mono Bc.size)
  clear yc bd Bc
  go_wp2_with fail
  refine (same_to _ _ _ _ _ _ yd (kb_full kd)).mono ?_
  rintro e we ⟨rfl, be⟩
  have Be := Bd.trans (be.mono Bd.size)
  clear yd kd be Bd
  go_wp2
  go_ret
  exact ⟨rfl, Be⟩
end Go.Proofs.Ytdmfpgmpjejfgaa
