/-
  The document's own marks (layer 4), over the loaded program: each one's contract. No condition but the sizes that each contract names.
-/
import Derived.Test.YtfhkkmhidccdmaaMarkM
import Derived.Test.YtfhkkmhidccdmaaGauS
import Derived.Test.YtfhkkmhidccdmaaBase
import Derived.Deep.RegionHeld3
import Derived.Deep.RegionLaw
namespace Go.Proofs.Ytfhkkmhidccdmaa
open Go.RowKit Gau
set_option linter.unusedVariables false

theorem rbase_any (w : World) : Calls Try.prog 33 #[] w fun e w' => e = .returned (rz base) ∧ Below w.heap.size w w' := by
  go_enter Try.func33, Try.ntmps33
  go_wp2
  refine bodyPost_ret (results_cell_row (P := Try.prog) rfl _ _ w.heap.size _ #[.int .i64 4, .int .i64 1] (0, 0) _ rfl (heap_alloc_new _ _) Try.underlying50 rfl (by kernel_rfl)) rfl ⟨rfl, (Below.refl _ _).alloc (Nat.le_refl _) _⟩

theorem two_new (w : World) (a b : Array Value) (t : TypeId) :
    KB ((w.alloc (.cells a t)).alloc (.cells b t)) w.heap.size t a ∧ KB ((w.alloc (.cells a t)).alloc (.cells b t)) (w.heap.size + 1) t b ∧ Below w.heap.size w ((w.alloc (.cells a t)).alloc (.cells b t)) := by
  refine ⟨(KB.new w t a).alloc _, ?_, ((Below.refl _ _).alloc (Nat.le_refl _) _).alloc (by simp) _⟩
  have h := KB.new (w.alloc (.cells a t)) t b
  rwa [alloc_size] at h

theorem far_two {w : World} {g b i : Nat} {x y v : Value} (hne : b ≠ g) (h : w.cell? ⟨b, i, none⟩ = some v) : ((w.setCell ⟨g, 0, none⟩ x).setCell ⟨g, 1, none⟩ y).cell? ⟨b, i, none⟩ = some v :=
  (World.cell?_of_block ((Below.heap_setCell _ ⟨g, 1, none⟩ y b hne).trans (Below.heap_setCell w ⟨g, 0, none⟩ x b hne))).trans h

theorem mk_step {l : List UInt8} {k : Nat} (hk : k < l.length) : mk (l.take (k + 1)) = mstep (mk (l.take k)) l[k] := by
  rw [List.take_add_one, List.getElem?_eq_getElem hk, mk_append]; rfl

set_option maxHeartbeats 1000000 in
theorem rmark_any (S : Nat → Prop) (v : Value) (l : List UInt8) (w : World) (h : BS w S v l) :
    Calls Try.prog 25 #[v] w fun e w' => e = .returned (rz (mk l)) ∧ Below w.heap.size w w' := by
  have hlen : l.length ≤ 9223372036854775807 := by have := h.len; unfold maxLen at this; omega
  obtain ⟨r, hr⟩ : ∃ r, r = mk l := ⟨_, rfl⟩
  have HR : Hid (mk (l.take l.length) = r) := by show _ = _; rw [List.take_length, hr]
  rw [← hr]
  clear hr
  have hL := h.lt
  obtain ⟨A, c, rfl, _⟩ := h.form
  clear h
  unfold rz
  go_enter Try.func25, Try.ntmps25
  go_wp2
  go_loopw [4] (fun iv wr => ∃ (k : Nat) (z : G), k ≤ l.length ∧ Hid (z = mk (l.take k)) ∧ iv = .int .i64 k ∧ KB wr w.heap.size 50 #[.int .i64 0, .int .i64 0] ∧
    KB wr (w.heap.size + 1) 50 #[.int .i64 z.re.val, .int .i64 z.im.val] ∧ Below w.heap.size w wr) (fun iv _ => l.length - (intOf iv).toNat)
  case atStart =>
    obtain ⟨h1, h2, h3⟩ := two_new w #[.int .i64 0, .int .i64 0] #[.int .i64 0, .int .i64 0] 50
    exact ⟨0, zero, by omega, rfl, rfl, h1, h2, h3⟩
  case round =>
    obtain ⟨k, z, hk, hz, rfl, k0, k1, hbl⟩ := hrel
    by_cases hlt : k < l.length
    · have hwr := hL.below hbl fun b hb => hb.2
      obtain ⟨b, o, rfl, sb, _, hc⟩ := hwr.at_ (by omega)
      have cb := hc k l[k] (List.getElem?_eq_getElem hlt)
      have HS : Hid (mstep z l[k] = mk (l.take (k + 1))) := by
        show _ = _
        rw [hz.out, mk_step hlt]
      have hbb := sb.2
      clear hc hz hwr sb
      generalize l[k] = u at *
      have hu := u.toNat_lt
      have W1 : wrap64 ((u.toNat : Int) + 1) = (u.toNat : Int) + 1 := IntWalk.wrap64_in _ (by omega)
      have W2 : wrap64 (u.toNat : Int) = (u.toNat : Int) := IntWalk.wrap64_in _ (by omega)
      have WW : IntKind.i64.wrap (IntKind.i64.wrap (u.toNat : Int) + 1) = (u.toNat : Int) + 1 := by simp [IntKind.wrap, IntKind.bits, IntKind.signed]; omega
      have hb := rbase_any
      have hm := rmul_any z base
      have ho := fun w => rof_any ((u.toNat : Int) + 1) 0 (by omega) (by omega) (by omega) (by omega) w
      have ha := radd_any (gmul z base) (gI ((u.toNat : Int) + 1) 0)
      rw [show gadd (gmul z base) (gI ((u.toNat : Int) + 1) 0) = mstep z u from rfl] at ha
      generalize rz (gmul z base) = vp at *
      generalize rz (gI ((u.toNat : Int) + 1) 0) = vq at *
      generalize rz base = vb at *
      generalize mstep z u = s at *
      unfold rz at hm ha
      have K0 : KB wr.drew w.heap.size 50 #[.int .i64 0, .int .i64 0] := k0
      have K : KB wr.drew (w.heap.size + 1) 50 #[.int .i64 z.re.val, .int .i64 z.im.val] := k1
      have B : Below w.heap.size w wr.drew := Below_drawn hbl 1
      have C : wr.drew.cell? ⟨b, o + k, none⟩ = some (.int .u8 (u.toNat : Int)) := cb
      have c0 : wr.cell? ⟨w.heap.size + 1, 0, none⟩ = some (.int .i64 z.re.val) := k1.cell 0
      have c1 : wr.cell? ⟨w.heap.size + 1, 1, none⟩ = some (.int .i64 z.im.val) := k1.cell 1
      clear k0 k1 hL
      go_wp2
      have f0 := K.free 0
      have f1 := K.free 1
      go_region_law
        (first
          | (go_simp; go_at_call 33; refine (hb _).mono ?_; rintro e w5 ⟨rfl, b5⟩; have C' := (World.cell?_of_block (b5.block b (Nat.lt_of_lt_of_le hbb B.size))).trans C; clear C c0 c1 f0 f1; have C := C'; clear C'; replace K0 := K0.below b5 K0.lt; replace K := K.below b5 K.lt; replace B := B.trans (b5.mono B.size); clear b5; have c0 : w5.cell? ⟨w.heap.size + 1, 0, none⟩ = some (.int .i64 z.re.val) := K.cell 0; have c1 : w5.cell? ⟨w.heap.size + 1, 1, none⟩ = some (.int .i64 z.im.val) := K.cell 1; have f0 := K.free 0; have f1 := K.free 1)
          | (go_simp; go_at_call 32; refine (hm _).mono ?_; rintro e w5 ⟨rfl, b5⟩; have C' := (World.cell?_of_block (b5.block b (Nat.lt_of_lt_of_le hbb B.size))).trans C; clear C c0 c1 f0 f1; have C := C'; clear C'; replace K0 := K0.below b5 K0.lt; replace K := K.below b5 K.lt; replace B := B.trans (b5.mono B.size); clear b5; have c0 : w5.cell? ⟨w.heap.size + 1, 0, none⟩ = some (.int .i64 z.re.val) := K.cell 0; have c1 : w5.cell? ⟨w.heap.size + 1, 1, none⟩ = some (.int .i64 z.im.val) := K.cell 1; have f0 := K.free 0; have f1 := K.free 1)
          | (go_simp; go_at_call 34; refine (ho _).mono ?_; rintro e w5 ⟨rfl, b5⟩; have C' := (World.cell?_of_block (b5.block b (Nat.lt_of_lt_of_le hbb B.size))).trans C; clear C c0 c1 f0 f1; have C := C'; clear C'; replace K0 := K0.below b5 K0.lt; replace K := K.below b5 K.lt; replace B := B.trans (b5.mono B.size); clear b5; have c0 : w5.cell? ⟨w.heap.size + 1, 0, none⟩ = some (.int .i64 z.re.val) := K.cell 0; have c1 : w5.cell? ⟨w.heap.size + 1, 1, none⟩ = some (.int .i64 z.im.val) := K.cell 1; have f0 := K.free 0; have f1 := K.free 1)
          | (go_simp; go_at_call 31; refine (ha _).mono ?_; rintro e w5 ⟨rfl, b5⟩; have C' := (World.cell?_of_block (b5.block b (Nat.lt_of_lt_of_le hbb B.size))).trans C; clear C c0 c1 f0 f1; have C := C'; clear C'; replace K0 := K0.below b5 K0.lt; replace K := K.below b5 K.lt; replace B := B.trans (b5.mono B.size); clear b5; have c0 : w5.cell? ⟨w.heap.size + 1, 0, none⟩ = some (.int .i64 z.re.val) := K.cell 0; have c1 : w5.cell? ⟨w.heap.size + 1, 1, none⟩ = some (.int .i64 z.im.val) := K.cell 1; have f0 := K.free 0; have f1 := K.free 1))
      all_goals
        go_wp2
        go_roundw
        case rel => exact ⟨k + 1, s, by omega, HS, by go_num, K0.other (by omega) |>.other (by omega), put_two K, B.trans (below_of_grown' (grown_two _ _ _ _) (by omega) B.size)⟩
        case measure => simp [intOf]; omega
    · have e := hz.out
      rw [show k = l.length by omega, HR.out] at e
      subst e
      have c10 : wr.cell? ⟨w.heap.size + 1, 0, none⟩ = some (.int .i64 z.re.val) := k1.cell 0
      have c11 : wr.cell? ⟨w.heap.size + 1, 1, none⟩ = some (.int .i64 z.im.val) := k1.cell 1
      have c00 : wr.cell? ⟨w.heap.size, 0, none⟩ = some (.int .i64 0) := k0.cell 0
      have c01 : wr.cell? ⟨w.heap.size, 1, none⟩ = some (.int .i64 0) := k0.cell 1
      have f0 := k0.free 0
      have f1 := k0.free 1
      go_wp2
      refine bodyPost_ret (results_cell_row (P := Try.prog) rfl _ _ w.heap.size _ _ (0, 0) _ rfl (put_two k0) Try.underlying50 rfl (by kernel_rfl)) rfl ⟨rfl, hbl.trans (below_of_grown' (grown_two _ _ _ _) (Nat.le_refl _) hbl.size)⟩
end Go.Proofs.Ytfhkkmhidccdmaa
