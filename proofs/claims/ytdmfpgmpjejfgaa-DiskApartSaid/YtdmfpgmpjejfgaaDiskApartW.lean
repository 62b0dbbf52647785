/-
  The law DiskApart over the loaded program: what is handed in, and told, is no memory of the disk's. No condition.
-/
import Derived.Test.YtdmfpgmpjejfgaaDkL
import Derived.Test.YtdmfpgmpjejfgaaDkF
import Derived.Test.YtdmfpgmpjejfgaaArgs
import Derived.BigRegion
namespace Go.Proofs.Ytdmfpgmpjejfgaa
open Go.RowKit Go.ChangeShapes Go.WideShapes Go.Joins
set_option linter.unusedVariables false

def a1 (c : UInt8) : Dk := ((blank 3).wrote 1 (full c)).acted
theorem a1_len (c : UInt8) : (a1 c).safe.length = 3 := rfl
theorem a1_now (c : UInt8) : (a1 c).now 1 = full c := rfl
theorem a1_fuse (c : UInt8) : (a1 c).fuse ≠ 0 := by
  have h : (a1 c).fuse = -1 := rfl
  rw [h]; decide
theorem a1_safe (c : UInt8) : (a1 c).safe = [z256, z256, z256] := rfl

set_option maxRecDepth 100000 in
set_option maxHeartbeats 2000000 in
theorem apart_walk (c : UInt8) (i : Int) (w : World) : Calls Try.prog 4 #[.int .u8 (c.toNat : Int), .int .i64 i] w (Yes w) := by
  go_enter Try.func4, Try.ntmps4
  go_wp2_with fail
  refine (new_made 3 w (by omega) (by omega)).mono ?_
  rintro e w1 ⟨p, rfl, d1, fp, B1⟩
  go_wp2_with fail
  refine (full_any c w1).mono ?_
  rintro e w2 ⟨rfl, k2, b2⟩
  have d2 := d1.below b2
  have B2 := B1.trans (b2.mono B1.size)
  have hp := d1.lt
  have g2 := k2.lt
  have hb1 : Off p w2 w1.heap.size := ⟨g2, fun h => by have := hp _ h; omega⟩
  clear d1 B1 b2
  go_wp2_with fail
  refine (write_ok d2 1 (by decide) (by decide) _ _ _ (kb_full k2) (full_len c)).mono ?_
  rintro e w3 ⟨rfl, d3, K3⟩
  replace d3 : DS w3 p (a1 c) := d3
  have k3 := k2.keepP K3 hb1
  have B3 := B2.trans (K3.off B2.size fp)
  have hs3 := K3.size
  clear d2 K3 k2 B2
  have c3 := k3.cell 0
  have f3 := k3.free 0
  have r3 : ((full c).map bv).toArray[0]? = some (bv c) := by
    unfold full
    rw [List.map_replicate, List.getElem?_toArray, List.getElem?_replicate, if_pos (by omega)]
  rw [r3] at c3
  go_wp2_with (go_at_call 7; refine (num8_any 0 _).mono ?_; rintro e w' ⟨rfl, rfl⟩)
  have hne : ¬ p.has w1.heap.size := fun h => by have := hp _ h; omega
  have d4 : DS (w3.setCell ⟨w1.heap.size, 0, none⟩ (.int .u8 (bits BinOp.xor IntKind.u8 (c.toNat : Int) 1))) p (a1 c) := d3.keep fun x hx => Below.heap_setCell _ ⟨w1.heap.size, 0, none⟩ _ x fun e => hne (by subst e; exact hx)
  have hw1 : w.heap.size ≤ w1.heap.size := by have := fp p.d (.inl rfl); have := hp p.d (.inl rfl); omega
  have B4 : Below w.heap.size w (w3.setCell ⟨w1.heap.size, 0, none⟩ (.int .u8 (bits BinOp.xor IntKind.u8 (c.toNat : Int) 1))) := B3.setCell (p := ⟨w1.heap.size, 0, none⟩) hw1 _
  have hr := read_ok d4 1 (by rw [a1_len]; omega) (a1_fuse c)
  rw [a1_now] at hr
  clear d3 c3 f3 r3 k3 hb1 B3
  refine hr.mono ?_
  rintro e w5 ⟨vx, rfl, howx, b5⟩
  have d5 := d4.below b5
  have B5 := B4.trans (b5.mono B4.size)
  have hx1 := (own_BS howx)
  rw [full_len] at howx
  obtain ⟨gx, cx, curx, rfl, hbx, hgx, hcx, hmx, hzx, htx⟩ : ∃ gx cx curx, vx = .slice (some ⟨gx, 0, none⟩) 256 cx ∧ (w3.setCell ⟨w1.heap.size, 0, none⟩ (.int .u8 (bits BinOp.xor IntKind.u8 (c.toNat : Int) 1))).heap.size ≤ gx ∧ KB w5 gx 5 curx ∧ 256 ≤ cx ∧ cx ≤ maxLen ∧ curx.size = cx * 1 ∧ curx.toList.take (256 * 1) = (full c).map bv := by
    rcases howx.2 with ⟨_, h0⟩ | ⟨g, cap, cur, r1, r2, r3, r4, r5, r6, r7⟩
    · cases h0
    · exact ⟨g, cap, cur, r1, r2, r3, r4, r5, r6, r7⟩
  have hsx : w3.heap.size ≤ gx := by simpa [World.setCell] using hbx
  have hcx0 : curx[0]? = some (bv c) := by
    have e := congrArg (fun l => l[0]?) htx
    simp only [List.getElem?_take, Nat.mul_one, full, List.map_replicate, List.getElem?_replicate] at e
    rw [if_pos (by omega), if_pos (by omega)] at e
    simpa using e
  clear hr howx hx1 hbx hcx hmx hzx htx d4 B4 b5
  have him := image_any d5
  unfold Told44 at him
  rw [a1_safe, show ([z256, z256, z256] : List (List UInt8)).length = 3 from rfl] at him
  go_wp2_with fail
  refine him.mono ?_
  rintro e w6 ⟨vs, rfl, ky, hv, b6⟩
  have d6 := d5.below b6
  have B6 := B5.trans (b6.mono B5.size)
  obtain ⟨v0, v1, v2, rfl⟩ : ∃ v0 v1 v2, vs = [v0, v1, v2] := by
    match vs, hv.1 with
    | [a, b, c], _ => exact ⟨a, b, c, rfl⟩
  have howy := hv.2 1 v1 z256 rfl rfl
  rw [z256_len] at howy
  obtain ⟨gy, cy, cury, rfl, hby, hgy, hcy, hmy, hzy, hty⟩ : ∃ gy cy cury, v1 = .slice (some ⟨gy, 0, none⟩) 256 cy ∧ w5.heap.size + 1 ≤ gy ∧ KB w6 gy 5 cury ∧ 256 ≤ cy ∧ cy ≤ maxLen ∧ cury.size = cy * 1 ∧ cury.toList.take (256 * 1) = z256.map bv := by
    rcases howy.2 with ⟨_, h0⟩ | ⟨g, cap, cur, r1, r2, r3, r4, r5, r6, r7⟩
    · cases h0
    · exact ⟨g, cap, cur, r1, r2, r3, r4, r5, r6, r7⟩
  have hcy0 : cury[0]? = some (bv 0) := by
    have e := congrArg (fun l => l[0]?) hty
    simp only [List.getElem?_take, Nat.mul_one, z256, List.map_replicate, List.getElem?_replicate] at e
    rw [if_pos (by omega), if_pos (by omega)] at e
    simpa using e
  have hgx6 := hgx.below b6 hgx.lt
  have c1 := ky.cell 1
  have e1 : ([v0, Value.slice (some ⟨gy, 0, none⟩) 256 cy, v2].toArray)[1]? = some (.slice (some ⟨gy, 0, none⟩) 256 cy) := rfl
  rw [e1] at c1
  clear him howy hcy hmy hzy hty hv e1 ky
  have hg5 := hgx.lt
  have hgyl := hgy.lt
  have hp5 := d5.lt
  clear d5 hgx b6 B5
  go_wp2
  have cx0 := hgx6.cell 0
  have fx0 := hgx6.free 0
  have cy0 := hgy.cell 0
  have fy0 := hgy.free 0
  rw [hcx0] at cx0
  rw [hcy0] at cy0
  have n1 : gx ≠ gy := by omega
  have n2 : gy ≠ gx := by omega
  have n3 : gx ≠ w5.heap.size := by omega
  have n4 : gy ≠ w5.heap.size := by omega
  have n5 : w5.heap.size ≠ gx := by omega
  have n6 : w5.heap.size ≠ gy := by omega
  have KX := Lib.hid hgx6
  have KY := Lib.hid hgy
  clear hcx0 hcy0 hgx6 hgy
  go_region
  generalize Value.int IntKind.u8 (bits BinOp.xor IntKind.u8 (c.toNat : Int) 3) = ux at *
  have hnx : ∀ x, p.has x → x ≠ gx ∧ x ≠ gy := fun x hx => by have := hp _ hx; have := hp5 _ hx; omega
  have d7 : DS ((w6.setCell ⟨gx, 0, none⟩ ux).setCell ⟨gy, 0, none⟩ (.int .u8 (bits BinOp.xor IntKind.u8 0 3))).drew p (a1 c) :=
    (d6.keep fun x hx => (Below.heap_setCell _ ⟨gy, 0, none⟩ _ x (hnx x hx).2).trans (Below.heap_setCell _ ⟨gx, 0, none⟩ _ x (hnx x hx).1)).drewN 1
  have B7 : Below w.heap.size w ((w6.setCell ⟨gx, 0, none⟩ ux).setCell ⟨gy, 0, none⟩ (.int .u8 (bits BinOp.xor IntKind.u8 0 3))).drew :=
    Below_drawn ((B6.setCell (p := ⟨gx, 0, none⟩) (by show w.heap.size ≤ gx; omega) ux).setCell (p := ⟨gy, 0, none⟩) (by show w.heap.size ≤ gy; omega) _) 1
  clear d6 B6 cx0 fx0 cy0 fy0 KX KY c1 hnx n1 n2 n3 n4 n5 n6
  generalize ((w6.setCell ⟨gx, 0, none⟩ ux).setCell ⟨gy, 0, none⟩ (.int .u8 (bits BinOp.xor IntKind.u8 0 3))).drew = w7 at *
  have hr := read_ok d7 1 (by rw [a1_len]; omega) (a1_fuse c)
  rw [a1_now] at hr
  go_wp2_with fail
  refine hr.mono ?_
  rintro e w8 ⟨vz, rfl, howz, b8⟩
  have z8 := own_off d7 howz
  have B8 := B7.trans (b8.mono B7.size)
  clear d7 hr howz b8 B7 hp5 hp
  go_wp2_with (first
    | (go_at_call 14; refine (read_nil _ _).mono ?_; rintro e w' ⟨rfl, rfl⟩)
    | (go_at_call 18; refine (fuse_nil _ _).mono ?_; rintro e w' ⟨rfl, rfl⟩)
    | (go_at_call 13; refine (crash_nil _ _).mono ?_; rintro e w' ⟨rfl, rfl⟩)
    | (go_at_call 7; refine (num8_any 0 _).mono ?_; rintro e w' ⟨rfl, rfl⟩))
  refine (full_any c w8).mono ?_
  rintro e w9 ⟨rfl, k9, b9⟩
  have z9 := z8.off_below b9
  have B9 := B8.trans (b9.mono B8.size)
  clear z8 b9 B8
  go_wp2_with fail
  refine (same_to _ _ _ _ _ _ z9 (kb_full k9)).mono ?_
  rintro e wa ⟨rfl, ba⟩
  have Ba := B9.trans (ba.mono B9.size)
  clear z9 k9 ba B9
  go_wp2_with (first
    | (go_at_call 7; refine (num8_any 9 _).mono ?_; rintro e w' ⟨rfl, rfl⟩)
    | (go_at_call 8; refine (write_nil _ _ _).mono ?_; rintro e w' ⟨rfl, rfl⟩)
    | (go_at_call 10; refine (flush_nil _).mono ?_; rintro e w' ⟨rfl, rfl⟩)
    | (go_at_call 19; refine (size_nil _).mono ?_; rintro e w' ⟨rfl, rfl⟩)
    | (go_at_call 16; refine (dead_nil _).mono ?_; rintro e w' ⟨rfl, rfl⟩)
    | (go_at_call 17; refine (image_nil _).mono ?_; rintro e w' ⟨rfl, rfl⟩)
    | (go_at_call 12; refine (pending_nil _).mono ?_; rintro e w' ⟨rfl, rfl⟩)
    | (go_at_call 20; refine (acts_nil _).mono ?_; rintro e w' ⟨rfl, rfl⟩)
    | (go_at_call 5; refine (live_any _).mono ?_; rintro e wb ⟨rfl, bb⟩))
  go_ret
  exact ⟨rfl, Ba.trans (bb.mono Ba.size)⟩

theorem diskApart_law {H : Type} (enc : TypeId × Value → H) (W : World) (base : Nat) (v0 : Value) (d0 : DataW H) (p0 : List MemPlace) (v1 : Value) (d1 : DataW H) (p1 : List MemPlace)
    (ok0 : Value.okWide Try.prog W .any base 5 v0) (ok1 : Value.okWide Try.prog W .any base 3 v1)
    (h0 : DataW.Trod enc Try.prog W 0 (fun _ => true) true 5 v0 d0 p0) (h1 : DataW.Trod enc Try.prog W 0 (fun _ => true) true 3 v1 d1 p1) :
    Calls Try.prog 4 #[v0, v1] W fun e W' => e = .returned (.bool true) ∧ Below W.heap.size W W' := by
  obtain ⟨n, rfl, rfl, rfl, w0⟩ := open_int Try.underlying5 ok0 h0
  obtain ⟨i, rfl, rfl, rfl, w1⟩ := open_int Try.underlying3 ok1 h1
  rw [← byteOf_nat w0]
  exact apart_walk _ i W
end Go.Proofs.Ytdmfpgmpjejfgaa
