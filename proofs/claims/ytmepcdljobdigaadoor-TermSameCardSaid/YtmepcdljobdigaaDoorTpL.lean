/-
  The example of the page of layer 5 ('live' of its statements): it is as the page says. No condition but that the table lies as the row says.
-/
import Derived.Test.YtmepcdljobdigaaDoorTpK
import Derived.Test.YtmepcdljobdigaaDoorTpH
import Derived.Test.YtmepcdljobdigaaDoorTpF
import Derived.Test.YtmepcdljobdigaaDoorSame
import Derived.Lib.SlBytesConst
namespace Go.Proofs.YtmepcdljobdigaaDoor
open Go.RowKit
set_option linter.unusedVariables false

theorem errno_any (n : Int) (w : World) (hn : I64 n) : Calls Tryd.prog 12 #[.int .i64 n] w fun e w' => e = .returned (.int .i64 n) ∧ w = w' := by
  have h1 := hn.1
  have h2 := hn.2
  have W : wrap64 n = n := IntWalk.wrap64_in _ ⟨h1, h2⟩
  go_enter Tryd.func12, Tryd.ntmps12
  go_wp2
  go_ret
  exact ⟨rfl, rfl⟩

/-- The example's term, its bytes, and what they are read as. -/
def exT : Tm 2 := (⟨5, 5, [], [(⟨3, 0, [97], []⟩ : Nd (Tm 0)), (⟨2, 7, [], []⟩ : Nd (Tm 0))]⟩ : Nd (Nd (Tm 0)))
def exB : List UInt8 := [5, 1, 5, 3, 1, 1, 97, 2, 1, 7]
theorem ex_put : putOf 2 exT = (exB, 0) := by decide +kernel
theorem ex_get : (getOf exB).2 = (10, 0) ∧ (getOf exB).1.kind = 5 := by decide +kernel

set_option maxHeartbeats 1000000 in
theorem live_any (w : World) (h : Shp w) :
    Calls Tryd.prog 8 #[] w fun e w' => e = .returned (.bool true) ∧ Below w.heap.size w w' := by
  have hcv := fun (w : World) (C : Array Value) (n c : Nat) => Lib.run_convert_bytes_const (P := Tryd.prog) w 23 5 C n c Tryd.underlying23 Tryd.underlying5
  go_enter Tryd.func8, Tryd.ntmps8
  go_wp2_with fail
  refine (data_any 0 _ _ [97] _ (BS.lit w 5 [97] (by simp [maxLen]) (1, 2)) (by simp)).mono ?_
  rintro e w1 ⟨u1, rfl, T1, b1⟩
  have B1 : Below w.heap.size w w1 := ((Below.refl _ _).alloc (Nat.le_refl _) _).trans (b1.mono (by simp))
  obtain ⟨_, _, _, _, rfl, m1⟩ := id T1
  obtain ⟨i0, i1, X2, n2, z2, X3, n3, z3, rfl, rfl, rfl, rfl⟩ := tm_form m1
  clear b1 m1
  go_wp2_with fail
  refine (key_any 0 7 _ (by omega)).mono ?_
  rintro e w2 ⟨u2, rfl, T2, b2⟩
  have B2 : Below w.heap.size w w2 := B1.trans (b2.mono B1.size)
  obtain ⟨_, _, _, _, rfl, m2⟩ := id T2
  obtain ⟨j0, j1, Y2, p2, y2, Y3, p3, y3, rfl, rfl, rfl, rfl⟩ := tm_form m2
  have A1 : Ask w2 1 _ _ := ⟨⟨by simp, by simp, fun u h => by simp at h⟩, _, fun b hb => Nat.lt_of_lt_of_le hb.2 b2.size, T1.below' b2⟩
  have A2 : Ask w2 1 _ _ := ⟨⟨by simp, by simp, fun u h => by simp at h⟩, _, fun b hb => hb.2, T2⟩
  clear b2 m2 T1 T2 B1
  go_wp2_with fail
  refine (enc_any 1 _ _ _ _ w2 5 (by omega) A1 A2).mono ?_
  rintro e w3 ⟨u3, rfl, T3, b3⟩
  have B3 : Below w.heap.size w w3 := B2.trans (b3.mono B2.size)
  obtain ⟨_, _, _, _, rfl, m3⟩ := id T3
  obtain ⟨k0, k1, U2, q2, x2, U3, q3, x3, rfl, rfl, rfl, rfl⟩ := tm_form m3
  clear b3 m3 A1 A2 B2
  have hput := put_any _ 2 exT _ w3 (fun b hb => hb.2) (h.below B3) T3
  rw [ex_put] at hput
  dsimp only at hput
  go_wp2_with fail
  refine hput.mono ?_
  rintro e w4 ⟨u4, rfl, how4, b4⟩
  have B4 : Below w.heap.size w w4 := B3.trans (b4.mono B3.size)
  have x4 := own_BS how4
  obtain ⟨A4, c4, rfl, _⟩ := x4.form
  have hget := get_any _ _ exB w4 (h.below B4) x4
  have hgx := ex_get
  generalize getOf exB = R at *
  obtain ⟨R1, R2⟩ := R
  dsimp only at hget hgx
  obtain ⟨rfl, hg1⟩ := hgx
  dsimp only at hget
  clear hput b4 T3 B3 how4
  go_wp2_with fail
  refine hget.mono ?_
  rintro e w5 ⟨u5, rfl, ⟨_, _, _, _, rfl, m5⟩, b5⟩
  have e5 := m5.1
  obtain ⟨l0, l1, V2, r2, v2, V3, r3, v3, rfl, rfl, rfl, rfl⟩ := tm_form m5
  have B5 : Below w.heap.size w w5 := B4.trans (b5.mono B4.size)
  have x5 := x4.below' b5
  have hl0 : l0 = 5 := by rw [hg1] at e5; injection e5
  subst hl0
  have K5 := KB.new w5 26 #[.int .i64 5, .int .u64 l1, .slice V2 r2 v2, .slice V3 r3 v3]
  have B6 := B5.alloc B5.size (.cells #[.int .i64 5, .int .u64 l1, .slice V2 r2 v2, .slice V3 r3 v3] 26)
  have x6 := x5.alloc (.cells #[.int .i64 5, .int .u64 l1, .slice V2 r2 v2, .slice V3 r3 v3] 26)
  clear hget m5 e5 hg1 b5 x4 x5 B4 B5
  have hn0 : I64 0 := by unfold I64; omega
  go_wp2_with fail
  refine (errno_any 0 _ hn0).mono ?_
  rintro e w' ⟨rfl, rfl⟩
  go_wp2_with fail
  refine (errno_any 0 _ hn0).mono ?_
  rintro e w' ⟨rfl, rfl⟩
  go_wp2_with fail
  have hlit := BS.lit (w5.alloc (.cells #[.int .i64 5, .int .u64 l1, .slice V2 r2 v2, .slice V3 r3 v3] 26)) 5 exB (by simp [maxLen, exB])
  rw [World.size_alloc] at hlit
  replace hlit : BS ((w5.alloc (.cells #[.int .i64 5, .int .u64 l1, .slice V2 r2 v2, .slice V3 r3 v3] 26)).alloc (.cells #[.int .u8 5, .int .u8 1, .int .u8 5, .int .u8 3, .int .u8 1, .int .u8 1, .int .u8 97, .int .u8 2, .int .u8 1, .int .u8 7] 5)) (fun b => w5.heap.size + 1 ≤ b) (.slice (some ⟨w5.heap.size + 1, 0, none⟩) 10 10) exB := hlit
  have hsame := same_to _ _ _ _ exB _ (x6.alloc _) hlit
  clear hlit
  refine hsame.mono ?_
  clear hsame
  rintro e w7 ⟨rfl, b7⟩
  generalize w5.alloc (.cells #[.int .i64 5, .int .u64 l1, .slice V2 r2 v2, .slice V3 r3 v3] 26) = w6 at *
  have b7' : Below w6.heap.size w6 w7 := ((Below.refl _ _).alloc (Nat.le_refl _) _).trans (b7.mono (by simp))
  have hlen : exB.length = 10 := rfl
  have K7 := K5.below b7' K5.lt
  have B7 := B6.trans (b7'.mono B6.size)
  have k0 : w7.cell? ⟨w5.heap.size, 0, none⟩ = some (.int .i64 5) := K7.cell 0
  clear b7 b7' x6 K5 K7
  go_wp2_with fail
  go_ret
  exact ⟨rfl, B7⟩
end Go.Proofs.YtmepcdljobdigaaDoor
