/-
  ShaA: The small functions of sha, over the loaded program: RotateLeft32, turned, turn, word, putWord: each one's contract. No condition but the worlds' shapes that each contract names.
  Still: A region that draws its order and only reads and calls quietly, but for its last operations: over any program. No condition.
-/
import Derived.Test.YtgoifhpinoodgaaDoorProg
import Derived.Test.YtgoifhpinoodgaaDoorWn00
import Derived.Test.YtgoifhpinoodgaaDoorShaM
import Derived.WalkKit
import Derived.WalkSpells
import Derived.BigQuiet
import Derived.Deep.QuietTactic
import Derived.Laws.BitsAll
import Derived.StillTailTactics

section
namespace Go.Proofs.YtgoifhpinoodgaaDoor
open Go.RowKit
set_option linter.unusedVariables false

theorem left_and (k : Nat) (n : Int) (hn : n = -(k : Int)) (hk : 1 ≤ k) (hk2 : k ≤ 31) : bits .and .u64 (IntKind.u64.wrap n) 31 = ((32 - k : Nat) : Int) := by
  have e : IntKind.u64.wrap n = ((18446744073709551616 - k : Nat) : Int) := by
    rw [hn]; simp [IntKind.wrap, IntKind.bits, IntKind.signed]; omega
  rw [e, show (31 : Int) = ((31 : Nat) : Int) from rfl, u64_and_nat _ _ (by omega) (by omega), nat_mask5]
  omega

theorem KB.byte {w : World} {g : Nat} {ty : TypeId} {l : List UInt8} (h : KB w g ty (l.map bv).toArray) {j : Nat} (hj : j < l.length) : w.cell? ⟨g, j, none⟩ = some (bv l[j]) := by
  rw [h.cell, List.getElem?_toArray, List.getElem?_map, List.getElem?_eq_getElem hj]; rfl

theorem KB.set {w : World} {g : Nat} {ty : TypeId} {l : List UInt8} (h : KB w g ty (l.map bv).toArray) (j : Nat) (u : UInt8) : KB (w.setCell ⟨g, j, none⟩ (bv u)) g ty ((l.set j u).map bv).toArray := by
  have := h.put j (bv u)
  simpa using this

theorem rot_any (x k : Nat) (n : Int) (hn : n = -(k : Int)) (hx : x < 4294967296) (hk : 1 ≤ k) (hk2 : k ≤ 31) (w : World) :
    Calls Tryd.prog 122 #[.int .u32 x, .int .i64 n] w fun e w' => e = .returned (.int .u32 (rotr x k : Nat)) ∧ w = w' := by
  have hb := left_and k n hn hk hk2
  obtain ⟨s, hs⟩ : ∃ s, s = 32 - k := ⟨_, rfl⟩
  rw [← hs] at hb
  have HR := Lib.hid (rot_or x s k hx hk hk2 hs)
  have s1 : 1 ≤ s := by omega
  have s2 : s ≤ 31 := by omega
  clear hn hs hk hk2
  go_enter Tryd.func122, Tryd.ntmps122
  go_wp2
  go_ret
  exact ⟨ret_int HR.out, rfl⟩


theorem turned_any (x i j k : Nat) (hx : x < 4294967296) (hi : 1 ≤ i) (hi2 : i ≤ 31) (hj : 1 ≤ j) (hj2 : j ≤ 31) (hk : 1 ≤ k) (hk2 : k ≤ 31) (a b c : Int) (ha : a = i) (hb : b = j) (hc : c = k) (w : World) :
    Calls Tryd.prog 107 #[.int .u32 x, .int .i64 a, .int .i64 b, .int .i64 c] w fun e w' => e = .returned (.int .u32 (turn3 x i j k : Nat)) ∧ w = w' := by
  subst ha hb hc
  go_enter Tryd.func107, Tryd.ntmps107
  go_wp2_with fail
  refine (rot_any x i _ rfl hx hi hi2 _).mono ?_
  rintro e w' ⟨rfl, rfl⟩
  go_wp2_with fail
  refine (rot_any x j _ rfl hx hj hj2 _).mono ?_
  rintro e w' ⟨rfl, rfl⟩
  go_wp2_with fail
  refine (rot_any x k _ rfl hx hk hk2 _).mono ?_
  rintro e w' ⟨rfl, rfl⟩
  go_wp2
  go_ret
  exact ⟨ret_int (turn3_val x i j k hx), rfl⟩

theorem turn_any (x k : Nat) (n : Int) (hn : n = k) (hx : x < 4294967296) (hk : 1 ≤ k) (hk2 : k ≤ 31) (w : World) :
    Calls Tryd.prog 76 #[.int .u32 x, .int .u64 n] w fun e w' => e = .returned (.int .u32 (rotr x k : Nat)) ∧ w = w' := by
  subst hn
  go_enter Tryd.func76, Tryd.ntmps76
  go_wp2
  go_ret
  exact ⟨ret_int (ror_or x k hx hk hk2), rfl⟩

theorem word_any (S : Nat → Prop) (v : Value) (l : List UInt8) (a b c d : UInt8) (t : List UInt8) (hl : l = a :: b :: c :: d :: t) (w : World) (h : BS w S v l) :
    Calls Tryd.prog 121 #[v] w fun e w' => e = .returned (.int .u32 (word4 a b c d : Nat)) ∧ ∃ n, w' = w.drewN n := by
  subst hl
  obtain ⟨A, cp, rfl, hc⟩ := h.form
  obtain ⟨g, o, rfl, _, _, hx⟩ := h.at_ (by simp)
  have k0 : w.cell? ⟨g, o, none⟩ = some (.int .u8 (a.toNat : Int)) := hx 0 a rfl
  have k1 : w.cell? ⟨g, o + 1, none⟩ = some (.int .u8 (b.toNat : Int)) := hx 1 b rfl
  have k2 : w.cell? ⟨g, o + 2, none⟩ = some (.int .u8 (c.toNat : Int)) := hx 2 c rfl
  have k3 : w.cell? ⟨g, o + 3, none⟩ = some (.int .u8 (d.toNat : Int)) := hx 3 d rfl
  clear hx h hc
  go_enter Tryd.func121, Tryd.ntmps121
  go_wp2
  go_quiet (fail)
  go_wp2
  go_ret
  exact ⟨ret_int (word4_val a b c d), _, rfl⟩

theorem bv24 (x : Nat) : Value.int .u8 ((x : Int) / 16777216 % 256) = bv (byteAt x 24) := by simp [bv, byteAt_val]
theorem bv16 (x : Nat) : Value.int .u8 ((x : Int) / 65536 % 256) = bv (byteAt x 16) := by simp [bv, byteAt_val]
theorem bv8 (x : Nat) : Value.int .u8 ((x : Int) / 256 % 256) = bv (byteAt x 8) := by simp [bv, byteAt_val]
theorem bv0 (x : Nat) : Value.int .u8 ((x : Int) % 256) = bv (byteAt x 0) := by simp [bv, byteAt_val]

set_option maxHeartbeats 2000000 in
theorem putWord_any (g : Nat) (ty : TypeId) (l : List UInt8) (o n c x : Nat) (hn : 4 ≤ n) (ho : o + 4 ≤ l.length) (w : World) (h : KB w g ty (l.map bv).toArray) :
    Calls Tryd.prog 96 #[.slice (some ⟨g, o, none⟩) n c, .int .u32 x] w fun e w' => e = .returned (.tuple #[]) ∧ KB w' g ty ((putW l o x).map bv).toArray ∧ w.grownBy w' (some g) := by
  have k0 : w.cell? ⟨g, o, none⟩ = some (bv (l[o]'(by omega))) := h.byte (by omega)
  have k1 : w.cell? ⟨g, o + 1, none⟩ = some (bv (l[o + 1]'(by omega))) := h.byte (by omega)
  have k2 : w.cell? ⟨g, o + 2, none⟩ = some (bv (l[o + 2]'(by omega))) := h.byte (by omega)
  have k3 : w.cell? ⟨g, o + 3, none⟩ = some (bv (l[o + 3]'(by omega))) := h.byte (by omega)
  have f0 := h.free o
  have f1 := h.free (o + 1)
  have f2 := h.free (o + 2)
  have f3 := h.free (o + 3)
  go_enter Tryd.func96, Tryd.ntmps96
  go_wp2
  go_end0
  rw [bv24, bv16, bv8, bv0]
  have h4 : KB _ g ty ((putW l o x).map bv).toArray := (((h.set o (byteAt x 24)).set (o + 1) (byteAt x 16)).set (o + 2) (byteAt x 8)).set (o + 3) (byteAt x 0)
  exact ⟨rfl, h4, grown_trans (grown_trans (grown_trans (grown_set _ _ _ _) (grown_set _ _ _ _)) (grown_set _ _ _ _)) (grown_set _ _ _ _)⟩

end Go.Proofs.YtgoifhpinoodgaaDoor
end

section
namespace Go.Proofs.YtgoifhpinoodgaaDoor
set_option linter.unusedVariables false

/-- A region that only reads and calls quietly, but for its last operations: the world behind its draw under a new name, of which R is known. -/
theorem wp_still_tail {P : Program} {id : Nat} {Q : Exit → Act → World → Prop} {a : Act} {w : World} {l : List Oper} (n : Nat) (hm : P.follows .mixedOrders = true) (hB : Region.lexTailB .any l.toArray n = true)
    (R : World → Prop) (hR : R w.drew) (h : ∀ w2, R w2 → wpStill P l.toArray w2 (fun a' => wpList P l.toArray Q (l.drop n) a' w2) (l.take n) a) : (Code.region id l.toArray true).wp P Q a w :=
  wp_region_still_tail n hm hB (h w.drew hR)

/-- An operation whose run is known. -/
theorem wpStill_op {P : Program} {ops : Array Oper} {w : World} {Q : Act → Prop} {a : Act} {o : Oper} {rest : List Oper} (hg : o.guard = none) {v : Value} (hrun : (execOp a.eval o).run P w = .ok (.value v) w) (k : wpStill P ops w Q rest (a.put o.dst v)) : wpStill P ops w Q (o :: rest) a := by
  refine wpStill_step fun K hK => ?_
  rw [if_pos (by simp [Region.wanted, hg])]
  unfold Oper.still
  rw [hrun, Oper.stillUpon_value]
  exact hK _ k
/-- A load whose run is known. -/
theorem wpStill_load {P : Program} {ops : Array Oper} {w : World} {Q : Act → Prop} {a : Act} {o : Oper} {rest : List Oper} (hg : o.guard = none) (ty : TypeId) (x : Operand) (ho : o.op = .load ty x) {v y : Value} (hx : a.eval x = y) (hrun : (Instr.loadAt ty y).run P w = .ok v w)
    (k : wpStill P ops w Q rest (a.put o.dst v)) : wpStill P ops w Q (o :: rest) a := by
  refine wpStill_op hg ?_ k
  unfold execOp
  simp only [ho, hx, Sem.run_bind, hrun, Result.andThen_ok, Sem.run_pure]
/-- A look-up whose run is known. -/
theorem wpStill_look {P : Program} {ops : Array Oper} {w : World} {Q : Act → Prop} {a : Act} {o : Oper} {rest : List Oper} (hg : o.guard = none) (ty : TypeId) (x y : Operand) (ok : Bool) (ho : o.op = .lookup ty x y ok) {v m k : Value} (hx : a.eval x = m) (hy : a.eval y = k) (hrun : (Instr.lookup ty m k ok).run P w = .ok v w)
    (h : wpStill P ops w Q rest (a.put o.dst v)) : wpStill P ops w Q (o :: rest) a := by
  refine wpStill_op hg ?_ h
  unfold execOp
  simp only [ho, hx, hy, Sem.run_bind, hrun, Result.andThen_ok, Sem.run_pure]
end Go.Proofs.YtgoifhpinoodgaaDoor
end
