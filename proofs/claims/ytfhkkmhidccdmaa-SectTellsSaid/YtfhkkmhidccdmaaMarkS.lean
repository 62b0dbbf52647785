/-
  The document's Put of layer 4, over the loaded program: its contract. No condition.
-/
import Derived.Test.YtfhkkmhidccdmaaMarkR
import Derived.Test.YtfhkkmhidccdmaaStep
import Derived.Test.YtfhkkmhidccdmaaFix
namespace Go.Proofs.Ytfhkkmhidccdmaa
open Go.RowKit Gau
set_option linter.unusedVariables false

theorem fixB_two (x : Nat) (h : x < 65536) : fixB 2 x = [UInt8.ofNat (x / 256), UInt8.ofNat (x % 256)] := by
  show ([] ++ [UInt8.ofNat (x / 256 % 256)]) ++ [UInt8.ofNat (x % 256)] = _
  rw [show x / 256 % 256 = x / 256 by omega]; rfl
theorem mput_fix (z : G) : fixB 2 z.re.val ++ fixB 2 z.im.val = mput z := by
  have h1 := z.re.isLt
  have h2 := z.im.isLt
  rw [fixB_two _ (by omega), fixB_two _ (by omega)]; rfl

/-- The two bytes of a number. -/
def TwoOf (n : Int) (l : List UInt8) : Prop := ∃ x : Nat, x < 65536 ∧ n = (x : Int) ∧ l = fixB 2 x
theorem fixed_two (n : Int) (l : List UInt8) (h : TwoOf n l) (w : World) : Calls Try.prog 19 #[.int .u64 n, .int .i64 2] w fun e w' => Fresh w e w' l := by
  obtain ⟨x, hx, rfl, rfl⟩ := h
  exact fixed_any x 2 w (by omega) (by omega)

theorem rput_any (S : Nat → Prop) (v : Value) (l : List UInt8) (w : World) (h : BS w S v l) :
    Calls Try.prog 20 #[v] w fun e w' => Fresh w e w' (mput (mk l)) := by
  obtain ⟨i0, hi, hz0, hz1, hz2⟩ := info_parts info_byte
  have ho := rmark_any S v l w h
  obtain ⟨A, c, rfl, _⟩ := h.form
  generalize mk l = z at *
  clear h
  have hx1 : z.re.val < 65536 := by have := z.re.isLt; omega
  have hx2 : z.im.val < 65536 := by have := z.im.isLt; omega
  have HP : Hid (fixB 2 z.re.val ++ fixB 2 z.im.val = mput z) := mput_fix z
  unfold rz at ho
  generalize z.re.val = x1 at *
  generalize z.im.val = x2 at *
  generalize mput z = L at *
  have T1 : TwoOf (x1 : Int) (fixB 2 x1) := ⟨x1, hx1, rfl, rfl⟩
  have T2 : TwoOf (x2 : Int) (fixB 2 x2) := ⟨x2, hx2, rfl, rfl⟩
  have W1 : IntKind.u64.wrap (x1 : Int) = x1 := by rw [IntWalk.u64_in _ (by omega)]
  have W2 : IntKind.u64.wrap (x2 : Int) = x2 := by rw [IntWalk.u64_in _ (by omega)]
  have l1 := fixB_length 2 x1
  have l2 := fixB_length 2 x2
  generalize fixB 2 x1 = L1 at *
  generalize fixB 2 x2 = L2 at *
  generalize (x1 : Int) = r at *
  generalize (x2 : Int) = i at *
  go_enter Try.func20, Try.ntmps20
  go_wp2_with fail
  refine ho.mono ?_
  rintro e w1 ⟨rfl, b1⟩
  go_wp2
  have kz := KB.new w1 50 #[.int .i64 r, .int .i64 i]
  have B1 := b1.alloc b1.size (.cells #[.int .i64 r, .int .i64 i] 50)
  have hB : w.heap.size ≤ w1.heap.size := b1.size
  clear b1 ho
  generalize w1.alloc (.cells #[.int .i64 r, .int .i64 i] 50) = w2 at *
  have K : KB w2.drew w1.heap.size 50 #[.int .i64 r, .int .i64 i] := kz
  have B : Below w.heap.size w w2.drew := Below_drawn B1 1
  have c0 : w2.cell? ⟨w1.heap.size, 0, none⟩ = some (.int .i64 r) := kz.cell 0
  have c1 : w2.cell? ⟨w1.heap.size, 1, none⟩ = some (.int .i64 i) := kz.cell 1
  clear kz B1
  go_region_held3 (fun w' => w'.cell? ⟨w1.heap.size, 0, none⟩ = some (.int .i64 r) ∧ w'.cell? ⟨w1.heap.size, 1, none⟩ = some (.int .i64 i))
    (first | exact ⟨K.cell 0, K.cell 1⟩ | go_keep)
    (first
      | (go_at_call 19; refine (fixed_two _ _ (by assumption) _).mono ?_; rintro e w5 ⟨v, rfl, how, b5⟩; (first | (replace how1 := own_past b5 how1; have how2 := own_base (B := w1.heap.size + 1) how K.lt) | have how1 := own_base (B := w1.heap.size + 1) how K.lt); clear how; replace K := K.below b5 K.lt; replace B := B.trans (b5.mono B.size); clear b5)
      | (refine step_grow rfl _ _ _ rfl (w1.heap.size + 1) 5 i0 Try.underlying22 hi hz0 hz1 hz2 _ L1 rfl how1 _ _ L2 rfl (own_BS how2) (by omega) K.lt ?_; intro v3 w6 how3 hg3 _; have hne := own_ne how1 (Nat.lt_succ_self w1.heap.size); replace K := K.grown hg3 hne))
  go_wp2
  go_ret
  rw [HP.out] at how3
  exact ⟨_, rfl, own_base how3 (by omega), B.grown hg3 B.size fun k hk => Nat.le_trans (by omega) (own_ge how1 k hk)⟩
end Go.Proofs.Ytfhkkmhidccdmaa
