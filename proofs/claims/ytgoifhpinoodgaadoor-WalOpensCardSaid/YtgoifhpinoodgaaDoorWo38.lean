/-
  GauR: The document's own answers of layer 3, over the loaded program: each one's contract: what it answers; of memory only new blocks. No condition but the sizes that each contract names.
  GauS: The document's powers of layer 3, over the loaded program: power, Inv, Pow: each one's contract. No condition but the sizes that each contract names.
  MarkR: The document's own marks (layer 4), over the loaded program: each one's contract. No condition but the sizes that each contract names.
  Fix: The document's Fixed (layer 1), over the loaded program: its contract. No condition but the sizes that it names.
-/
import Derived.Test.YtgoifhpinoodgaaDoorWo21
import Derived.Test.YtgoifhpinoodgaaDoorWo00
import Derived.Test.YtgoifhpinoodgaaDoorWo11
import Derived.Deep.RegionHeld3
import Derived.Deep.RegionLaw
import Derived.WalkSpells
import Derived.BigQuiet
import Derived.Deep.QuietTactic

section
namespace Go.Proofs.YtgoifhpinoodgaaDoor
open Go.RowKit Gau
set_option linter.unusedVariables false

theorem rest_any (n : Int) (h : -9223372036854775808 ≤ n) (h2 : n ≤ 9223372036854775807) (w : World) :
    Calls Tryd.prog 100 #[.int .i64 n] w fun e w' => e = .returned (.int .i64 ((ofI n).val : Int)) ∧ w = w' := by
  have e := Int.tmod_eq_emod (a := n) (b := 8191)
  have ev := ofI_val n
  by_cases hn : n.tmod 8191 < 0
  · have e2 : wrap64 (n.tmod 8191 + 8191) = ((ofI n).val : Int) := by
      rw [ofI_val, IntWalk.wrap64_in _ (by split at e <;> omega)]
      split at e <;> omega
    clear e ev
    go_enter Tryd.func100, Tryd.ntmps100
    go_wp2
    go_ret
    exact ⟨congrArg Ending.returned (int_eq e2), rfl⟩
  · have e2 : n.tmod 8191 = ((ofI n).val : Int) := by
      rw [ofI_val]
      split at e <;> omega
    clear e ev
    go_enter Tryd.func100, Tryd.ntmps100
    go_wp2
    go_ret
    exact ⟨rfl, rfl⟩

/-- A number of the field as the document's text holds it. -/
def rz (a : G) : Value := .agg #[.int .i64 a.re.val, .int .i64 a.im.val]

theorem grof_any (a b : Int) (h : -9223372036854775808 ≤ a) (h2 : a ≤ 9223372036854775807) (h3 : -9223372036854775808 ≤ b) (h4 : b ≤ 9223372036854775807) (w : World) :
    Calls Tryd.prog 91 #[.int .i64 a, .int .i64 b] w fun e w' => e = .returned (rz (gI a b)) ∧ Below w.heap.size w w' := by
  go_enter Tryd.func91, Tryd.ntmps91
  go_wp2_with fail
  refine (rest_any a h h2 _).mono ?_
  rintro e w' ⟨rfl, rfl⟩
  go_wp2_with fail
  refine (rest_any b h3 h4 _).mono ?_
  rintro e w' ⟨rfl, rfl⟩
  go_wp2
  refine bodyPost_ret (results_cell_row (P := Tryd.prog) rfl _ _ w.heap.size _ #[.int .i64 (ofI a).val, .int .i64 (ofI b).val] (0, 0) _ rfl (heap_alloc_new _ _) Tryd.underlying114 rfl (by kernel_rfl)) rfl ⟨rfl, (Below.refl _ _).alloc (Nat.le_refl _) _⟩

theorem alloc_size (w : World) (o : Obj) : (w.alloc o).heap.size = w.heap.size + 1 := by simp

/-- The last of three new blocks behind a call. -/
theorem third {w w1 : World} {A B : Obj} {cs : Array Value} {t : TypeId} (hb : Below (((w.alloc A).alloc B).alloc (.cells cs t)).heap.size (((w.alloc A).alloc B).alloc (.cells cs t)) w1) :
    KB w1 (w.heap.size + 2) t cs ∧ Below w.heap.size w w1 := by
  have h := (KB.new ((w.alloc A).alloc B) t cs).below hb (by simp)
  rw [alloc_size, alloc_size] at h
  refine ⟨h, ((((Below.refl _ _).alloc (Nat.le_refl _) A).alloc (by simp) B).alloc (by simp only [alloc_size]; omega) _).trans (hb.mono (by simp only [alloc_size]; omega))⟩
theorem second {w w1 : World} {A : Obj} {cs : Array Value} {t : TypeId} (hb : Below ((w.alloc A).alloc (.cells cs t)).heap.size ((w.alloc A).alloc (.cells cs t)) w1) :
    KB w1 (w.heap.size + 1) t cs ∧ Below w.heap.size w w1 := by
  have h := (KB.new (w.alloc A) t cs).below hb (by simp)
  rw [alloc_size] at h
  refine ⟨h, (((Below.refl _ _).alloc (Nat.le_refl _) A).alloc (by simp) _).trans (hb.mono (by simp only [alloc_size]; omega))⟩

theorem KB.other {w : World} {g h i : Nat} {t : TypeId} {cs : Array Value} {v : Value} (k : KB w g t cs) (hne : h ≠ g) : KB (w.setCell ⟨h, i, none⟩ v) g t cs :=
  k.keep (Below.heap_setCell w ⟨h, i, none⟩ v g hne.symm)
theorem put_two {w : World} {g : Nat} {t : TypeId} {a b x y : Value} (h : KB w g t #[a, b]) : KB ((w.setCell ⟨g, 0, none⟩ x).setCell ⟨g, 1, none⟩ y) g t #[x, y] := (h.put 0 x).put 1 y
theorem grown_two (w : World) (g : Nat) (x y : Value) : w.grownBy ((w.setCell ⟨g, 0, none⟩ x).setCell ⟨g, 1, none⟩ y) (some g) := grown_trans (grown_set _ _ _ _) (grown_set _ _ _ _)

theorem radd_any (a b : G) (w : World) :
    Calls Tryd.prog 88 #[rz a, rz b] w fun e w' => e = .returned (rz (gadd a b)) ∧ Below w.heap.size w w' := by
  have h1 := a.re.isLt
  have h2 := b.re.isLt
  have h3 := a.im.isLt
  have h4 := b.im.isLt
  have W1 : wrap64 ((a.re.val : Int) + b.re.val) = a.re.val + b.re.val := IntWalk.wrap64_in _ (by omega)
  have W2 : wrap64 ((a.im.val : Int) + b.im.val) = a.im.val + b.im.val := IntWalk.wrap64_in _ (by omega)
  have hr := fun w => grof_any (a.re.val + b.re.val) (a.im.val + b.im.val) (by omega) (by omega) (by omega) (by omega) w
  rw [gI_add] at hr
  unfold rz at *
  go_enter Tryd.func88, Tryd.ntmps88
  go_wp2_with fail
  refine (hr _).mono ?_
  rintro e w1 ⟨rfl, hb⟩
  obtain ⟨hk, hbw⟩ := third hb
  clear hb hr
  have c0 : w1.cell? ⟨w.heap.size + 2, 0, none⟩ = some (.int .i64 0) := hk.cell 0
  have c1 : w1.cell? ⟨w.heap.size + 2, 1, none⟩ = some (.int .i64 0) := hk.cell 1
  have f0 := hk.free 0
  have f1 := hk.free 1
  go_wp2
  refine bodyPost_ret (results_cell_row (P := Tryd.prog) rfl _ _ (w.heap.size + 2) _ _ (0, 0) _ rfl (put_two hk) Tryd.underlying114 rfl (by kernel_rfl)) rfl ⟨rfl, hbw.trans (below_of_grown' (grown_two _ _ _ _) (by omega) hbw.size)⟩
theorem rmul_any (a b : G) (w : World) :
    Calls Tryd.prog 89 #[rz a, rz b] w fun e w' => e = .returned (rz (gmul a b)) ∧ Below w.heap.size w w' := by
  have h1 := prod_le a.re b.re
  have h2 := prod_le a.im b.im
  have h3 := prod_le a.re b.im
  have h4 := prod_le a.im b.re
  have W1 : wrap64 ((a.re.val : Int) * b.re.val) = a.re.val * b.re.val := IntWalk.wrap64_in _ (by omega)
  have W2 : wrap64 ((a.im.val : Int) * b.im.val) = a.im.val * b.im.val := IntWalk.wrap64_in _ (by omega)
  have W3 : wrap64 ((a.re.val : Int) * b.im.val) = a.re.val * b.im.val := IntWalk.wrap64_in _ (by omega)
  have W4 : wrap64 ((a.im.val : Int) * b.re.val) = a.im.val * b.re.val := IntWalk.wrap64_in _ (by omega)
  have W5 : wrap64 ((a.re.val : Int) * b.re.val - a.im.val * b.im.val) = a.re.val * b.re.val - a.im.val * b.im.val := IntWalk.wrap64_in _ (by omega)
  have W6 : wrap64 ((a.re.val : Int) * b.im.val + a.im.val * b.re.val) = a.re.val * b.im.val + a.im.val * b.re.val := IntWalk.wrap64_in _ (by omega)
  have hr := fun w => grof_any ((a.re.val : Int) * b.re.val - a.im.val * b.im.val) ((a.re.val : Int) * b.im.val + a.im.val * b.re.val) (by omega) (by omega) (by omega) (by omega) w
  rw [gI_mul] at hr
  clear h1 h2 h3 h4
  unfold rz at *
  go_enter Tryd.func89, Tryd.ntmps89
  go_wp2_with fail
  refine (hr _).mono ?_
  rintro e w1 ⟨rfl, hb⟩
  obtain ⟨hk, hbw⟩ := third hb
  clear hb hr
  have c0 : w1.cell? ⟨w.heap.size + 2, 0, none⟩ = some (.int .i64 0) := hk.cell 0
  have c1 : w1.cell? ⟨w.heap.size + 2, 1, none⟩ = some (.int .i64 0) := hk.cell 1
  have f0 := hk.free 0
  have f1 := hk.free 1
  go_wp2
  refine bodyPost_ret (results_cell_row (P := Tryd.prog) rfl _ _ (w.heap.size + 2) _ _ (0, 0) _ rfl (put_two hk) Tryd.underlying114 rfl (by kernel_rfl)) rfl ⟨rfl, hbw.trans (below_of_grown' (grown_two _ _ _ _) (by omega) hbw.size)⟩
end Go.Proofs.YtgoifhpinoodgaaDoor
end

section
namespace Go.Proofs.YtgoifhpinoodgaaDoor
open Go.RowKit Gau
set_option linter.unusedVariables false

/-- Three new blocks. -/
theorem three (w : World) (a b c : Array Value) (t : TypeId) :
    KB (((w.alloc (.cells a t)).alloc (.cells b t)).alloc (.cells c t)) w.heap.size t a ∧ KB (((w.alloc (.cells a t)).alloc (.cells b t)).alloc (.cells c t)) (w.heap.size + 1) t b ∧
    KB (((w.alloc (.cells a t)).alloc (.cells b t)).alloc (.cells c t)) (w.heap.size + 2) t c ∧ Below w.heap.size w (((w.alloc (.cells a t)).alloc (.cells b t)).alloc (.cells c t)) := by
  refine ⟨((KB.new w t a).alloc _).alloc _, ?_, ?_, (((Below.refl _ _).alloc (Nat.le_refl _) _).alloc (by simp) _).alloc (by simp only [alloc_size]; omega) _⟩
  · have h := (KB.new (w.alloc (.cells a t)) t b).alloc (.cells c t)
    rwa [alloc_size] at h
  · have h := KB.new ((w.alloc (.cells a t)).alloc (.cells b t)) t c
    rwa [alloc_size, alloc_size] at h

theorem half_less (m : Nat) (hp : 0 < m) (h : wrap64 ((m : Int) / 2) = (m : Int) / 2) : (intOf (.int .i64 (wrap64 ((m : Int) / 2)))).toNat < (intOf (.int .i64 (m : Int))).toNat := by
  rw [h]
  show ((m : Int) / 2).toNat < (m : Int).toNat
  omega

end Go.Proofs.YtgoifhpinoodgaaDoor
end

section
namespace Go.Proofs.YtgoifhpinoodgaaDoor
open Go.RowKit Gau
set_option linter.unusedVariables false

theorem rbase_any (w : World) : Calls Tryd.prog 90 #[] w fun e w' => e = .returned (rz base) ∧ Below w.heap.size w w' := by
  go_enter Tryd.func90, Tryd.ntmps90
  go_wp2
  refine bodyPost_ret (results_cell_row (P := Tryd.prog) rfl _ _ w.heap.size _ #[.int .i64 4, .int .i64 1] (0, 0) _ rfl (heap_alloc_new _ _) Tryd.underlying114 rfl (by kernel_rfl)) rfl ⟨rfl, (Below.refl _ _).alloc (Nat.le_refl _) _⟩

theorem two_new (w : World) (a b : Array Value) (t : TypeId) :
    KB ((w.alloc (.cells a t)).alloc (.cells b t)) w.heap.size t a ∧ KB ((w.alloc (.cells a t)).alloc (.cells b t)) (w.heap.size + 1) t b ∧ Below w.heap.size w ((w.alloc (.cells a t)).alloc (.cells b t)) := by
  refine ⟨(KB.new w t a).alloc _, ?_, ((Below.refl _ _).alloc (Nat.le_refl _) _).alloc (by simp) _⟩
  have h := KB.new (w.alloc (.cells a t)) t b
  rwa [alloc_size] at h

theorem far_two {w : World} {g b i : Nat} {x y v : Value} (hne : b ≠ g) (h : w.cell? ⟨b, i, none⟩ = some v) : ((w.setCell ⟨g, 0, none⟩ x).setCell ⟨g, 1, none⟩ y).cell? ⟨b, i, none⟩ = some v :=
  (World.cell?_of_block ((Below.heap_setCell _ ⟨g, 1, none⟩ y b hne).trans (Below.heap_setCell w ⟨g, 0, none⟩ x b hne))).trans h

theorem mk_step {l : List UInt8} {k : Nat} (hk : k < l.length) : mk (l.take (k + 1)) = mstep (mk (l.take k)) l[k] := by
  rw [List.take_add_one, List.getElem?_eq_getElem hk, mk_append]; rfl

set_option maxHeartbeats 1000000 in
theorem rmark_any (S : Nat → Prop) (v : Value) (l : List UInt8) (w : World) (h : BS w S v l) :
    Calls Tryd.prog 73 #[v] w fun e w' => e = .returned (rz (mk l)) ∧ Below w.heap.size w w' := by
  have hlen : l.length ≤ 9223372036854775807 := by have := h.len; unfold maxLen at this; omega
  obtain ⟨r, hr⟩ : ∃ r, r = mk l := ⟨_, rfl⟩
  have HR : Hid (mk (l.take l.length) = r) := by show _ = _; rw [List.take_length, hr]
  rw [← hr]
  clear hr
  have hL := h.lt
  obtain ⟨A, c, rfl, _⟩ := h.form
  clear h
  unfold rz
  go_enter Tryd.func73, Tryd.ntmps73
  go_wp2
  go_loopw [4] (fun iv wr => ∃ (k : Nat) (z : G), k ≤ l.length ∧ Hid (z = mk (l.take k)) ∧ iv = .int .i64 k ∧ KB wr w.heap.size 114 #[.int .i64 0, .int .i64 0] ∧
    KB wr (w.heap.size + 1) 114 #[.int .i64 z.re.val, .int .i64 z.im.val] ∧ Below w.heap.size w wr) (fun iv _ => l.length - (intOf iv).toNat)
  case atStart =>
    obtain ⟨h1, h2, h3⟩ := two_new w #[.int .i64 0, .int .i64 0] #[.int .i64 0, .int .i64 0] 114
    exact ⟨0, zero, by omega, rfl, rfl, h1, h2, h3⟩
  case round =>
    obtain ⟨k, z, hk, hz, rfl, k0, k1, hbl⟩ := hrel
    by_cases hlt : k < l.length
    · have hwr := hL.below hbl fun b hb => hb.2
      obtain ⟨b, o, rfl, sb, _, hc⟩ := hwr.at_ (by omega)
      have cb := hc k l[k] (List.getElem?_eq_getElem hlt)
      have HS : Hid (mstep z l[k] = mk (l.take (k + 1))) := by
        show _ = _
        rw [hz.out, mk_step hlt]
      have hbb := sb.2
      clear hc hz hwr sb
      generalize l[k] = u at *
      have hu := u.toNat_lt
      have W1 : wrap64 ((u.toNat : Int) + 1) = (u.toNat : Int) + 1 := IntWalk.wrap64_in _ (by omega)
      have W2 : wrap64 (u.toNat : Int) = (u.toNat : Int) := IntWalk.wrap64_in _ (by omega)
      have WW : IntKind.i64.wrap (IntKind.i64.wrap (u.toNat : Int) + 1) = (u.toNat : Int) + 1 := by simp [IntKind.wrap, IntKind.bits, IntKind.signed]; omega
      have hb := rbase_any
      have hm := rmul_any z base
      have ho := fun w => grof_any ((u.toNat : Int) + 1) 0 (by omega) (by omega) (by omega) (by omega) w
      have ha := radd_any (gmul z base) (gI ((u.toNat : Int) + 1) 0)
      rw [show gadd (gmul z base) (gI ((u.toNat : Int) + 1) 0) = mstep z u from rfl] at ha
      generalize rz (gmul z base) = vp at *
      generalize rz (gI ((u.toNat : Int) + 1) 0) = vq at *
      generalize rz base = vb at *
      generalize mstep z u = s at *
      unfold rz at hm ha
      have K0 : KB wr.drew w.heap.size 114 #[.int .i64 0, .int .i64 0] := k0
      have K : KB wr.drew (w.heap.size + 1) 114 #[.int .i64 z.re.val, .int .i64 z.im.val] := k1
      have B : Below w.heap.size w wr.drew := Below_drawn hbl 1
      have C : wr.drew.cell? ⟨b, o + k, none⟩ = some (.int .u8 (u.toNat : Int)) := cb
      have c0 : wr.cell? ⟨w.heap.size + 1, 0, none⟩ = some (.int .i64 z.re.val) := k1.cell 0
      have c1 : wr.cell? ⟨w.heap.size + 1, 1, none⟩ = some (.int .i64 z.im.val) := k1.cell 1
      clear k0 k1 hL
      go_wp2
      have f0 := K.free 0
      have f1 := K.free 1
      go_region_law
        (first
          | (go_simp; go_at_call 90; refine (hb _).mono ?_; rintro e w5 ⟨rfl, b5⟩; have C' := (World.cell?_of_block (b5.block b (Nat.lt_of_lt_of_le hbb B.size))).trans C; clear C c0 c1 f0 f1; have C := C'; clear C'; replace K0 := K0.below b5 K0.lt; replace K := K.below b5 K.lt; replace B := B.trans (b5.mono B.size); clear b5; have c0 : w5.cell? ⟨w.heap.size + 1, 0, none⟩ = some (.int .i64 z.re.val) := K.cell 0; have c1 : w5.cell? ⟨w.heap.size + 1, 1, none⟩ = some (.int .i64 z.im.val) := K.cell 1; have f0 := K.free 0; have f1 := K.free 1)
          | (go_simp; go_at_call 89; refine (hm _).mono ?_; rintro e w5 ⟨rfl, b5⟩; have C' := (World.cell?_of_block (b5.block b (Nat.lt_of_lt_of_le hbb B.size))).trans C; clear C c0 c1 f0 f1; have C := C'; clear C'; replace K0 := K0.below b5 K0.lt; replace K := K.below b5 K.lt; replace B := B.trans (b5.mono B.size); clear b5; have c0 : w5.cell? ⟨w.heap.size + 1, 0, none⟩ = some (.int .i64 z.re.val) := K.cell 0; have c1 : w5.cell? ⟨w.heap.size + 1, 1, none⟩ = some (.int .i64 z.im.val) := K.cell 1; have f0 := K.free 0; have f1 := K.free 1)
          | (go_simp; go_at_call 91; refine (ho _).mono ?_; rintro e w5 ⟨rfl, b5⟩; have C' := (World.cell?_of_block (b5.block b (Nat.lt_of_lt_of_le hbb B.size))).trans C; clear C c0 c1 f0 f1; have C := C'; clear C'; replace K0 := K0.below b5 K0.lt; replace K := K.below b5 K.lt; replace B := B.trans (b5.mono B.size); clear b5; have c0 : w5.cell? ⟨w.heap.size + 1, 0, none⟩ = some (.int .i64 z.re.val) := K.cell 0; have c1 : w5.cell? ⟨w.heap.size + 1, 1, none⟩ = some (.int .i64 z.im.val) := K.cell 1; have f0 := K.free 0; have f1 := K.free 1)
          | (go_simp; go_at_call 88; refine (ha _).mono ?_; rintro e w5 ⟨rfl, b5⟩; have C' := (World.cell?_of_block (b5.block b (Nat.lt_of_lt_of_le hbb B.size))).trans C; clear C c0 c1 f0 f1; have C := C'; clear C'; replace K0 := K0.below b5 K0.lt; replace K := K.below b5 K.lt; replace B := B.trans (b5.mono B.size); clear b5; have c0 : w5.cell? ⟨w.heap.size + 1, 0, none⟩ = some (.int .i64 z.re.val) := K.cell 0; have c1 : w5.cell? ⟨w.heap.size + 1, 1, none⟩ = some (.int .i64 z.im.val) := K.cell 1; have f0 := K.free 0; have f1 := K.free 1))
      all_goals
        go_wp2
        go_roundw
        case rel => exact ⟨k + 1, s, by omega, HS, by go_num, K0.other (by omega) |>.other (by omega), put_two K, B.trans (below_of_grown' (grown_two _ _ _ _) (by omega) B.size)⟩
        case measure => simp [intOf]; omega
    · have e := hz.out
      rw [show k = l.length by omega, HR.out] at e
      subst e
      have c10 : wr.cell? ⟨w.heap.size + 1, 0, none⟩ = some (.int .i64 z.re.val) := k1.cell 0
      have c11 : wr.cell? ⟨w.heap.size + 1, 1, none⟩ = some (.int .i64 z.im.val) := k1.cell 1
      have c00 : wr.cell? ⟨w.heap.size, 0, none⟩ = some (.int .i64 0) := k0.cell 0
      have c01 : wr.cell? ⟨w.heap.size, 1, none⟩ = some (.int .i64 0) := k0.cell 1
      have f0 := k0.free 0
      have f1 := k0.free 1
      go_wp2
      refine bodyPost_ret (results_cell_row (P := Tryd.prog) rfl _ _ w.heap.size _ _ (0, 0) _ rfl (put_two k0) Tryd.underlying114 rfl (by kernel_rfl)) rfl ⟨rfl, hbl.trans (below_of_grown' (grown_two _ _ _ _) (Nat.le_refl _) hbl.size)⟩
end Go.Proofs.YtgoifhpinoodgaaDoor
end

section
namespace Go.Proofs.YtgoifhpinoodgaaDoor
open Go.RowKit
set_option linter.unusedVariables false

/-- The last n bytes of a number, the highest first. -/
def fixB : Nat → Nat → List UInt8
  | 0, _ => []
  | n + 1, x => fixB n (x / 256) ++ [UInt8.ofNat (x % 256)]
theorem fixB_length : ∀ n x, (fixB n x).length = n
  | 0, _ => rfl
  | n + 1, x => by rw [fixB, List.length_append, fixB_length]; rfl

theorem fixed_any (x n : Nat) (w : World) (h : x < 18446744073709551616) (hn : n ≤ 1000000) :
    Calls Tryd.prog 26 #[.int .u64 x, .int .i64 n] w fun e w' => Fresh w e w' (fixB n x) := by
  obtain ⟨i0, hi, hz0, hz1, hz2⟩ := info_parts info_byte
  obtain ⟨R, hR⟩ : ∃ R, R = fixB n x := ⟨_, rfl⟩
  have H0 : Hid (R = fixB (n - 0) x ++ []) := by show _ = _; rw [hR]; simp
  rw [← hR]
  have HX := Lib.hid h
  have HN := Lib.hid hn
  clear hR h hn
  go_enter Tryd.func26, Tryd.ntmps26
  go_wp2
  go_loopw [0, 5, 6] (fun xv v iv wr => ∃ (k m : Nat) (tl : List UInt8), k ≤ n ∧ tl.length = k ∧ Hid (R = fixB (n - k) m ++ tl) ∧ Hid (m < 18446744073709551616) ∧ xv = .int .u64 m ∧ iv = .int .i64 k ∧ wr.ownsRow w.heap.size 5 1 v tl.length (tl.map bv) ∧ Below w.heap.size w wr)
    (fun _ _ iv _ => n - (intOf iv).toNat)
  case atStart => exact ⟨0, x, [], by omega, rfl, H0, HX, rfl, rfl, World.ownsRow_nil _ _ _ _, Below.refl _ _⟩
  case round =>
    obtain ⟨k, m, tl, hk, htl, hR, hm, rfl, rfl, how, hbl⟩ := hrel
    by_cases hlt : k < n
    · have EW : Hid (IntKind.u64.wrap ((m : Int) / 256) = ((m / 256 : Nat) : Int)) := by
        have := hm.out
        show _ = _
        rw [IntWalk.u64_in _ (by omega)]; omega
      have EM : Hid (m / 256 < 18446744073709551616) := by
        have := hm.out
        show _ < _
        omega
      have HR : Hid (R = fixB (n - (k + 1)) (m / 256) ++ (UInt8.ofNat (m % 256) :: tl)) := by
        have e := hR.out
        rw [show n - k = (n - (k + 1)) + 1 by omega, fixB, List.append_assoc] at e
        exact e
      have hle : tl.length + 1 ≤ 140737488355328 := by have := HN.out; omega
      have hb := hbl.size
      have hbs := own_BS how
      obtain ⟨A1, c1, rfl, _⟩ := hbs.form
      clear hR
      go_wp2_with (at_builtin; simp only [byte_mod]; refine wpList_grow _ rfl _ _ _ rfl w.heap.size 5 i0 Tryd.underlying34 hi hz0 hz1 hz2 (.slice (some ⟨wr.heap.size, 0, none⟩) 1 1) [UInt8.ofNat (m % 256)] rfl (lit_one wr m _ hb) _ _ tl rfl (hbs.alloc _) (by simp; omega) (by simp; omega) ?_; intro v2 w2 how2 hg2 _)
      go_roundw
      case rel =>
        refine ⟨k + 1, m / 256, UInt8.ofNat (m % 256) :: tl, by omega, by simp [htl], HR, EM, by rw [EW.out], by go_num, ?_, (hbl.alloc hb _).grown hg2 (by simp; omega) (by simp [Value.ownBlock]; omega)⟩
        exact how2
      case measure => simp [intOf]; omega
    · have e := hR.out
      rw [show n - k = 0 by omega] at e
      have e2 : R = tl := e
      subst e2
      go_wp2
      go_ret
      exact ⟨_, rfl, how, hbl⟩
end Go.Proofs.YtgoifhpinoodgaaDoor
end
