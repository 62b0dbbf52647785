/-
  TermGets: which term every bytes begin with: the law's walk. No condition but that the table lies as the row says.
-/
import Derived.Test.YtmepcdljobdigaaDoorTpL
import Derived.Test.YtmepcdljobdigaaDoorArgs
namespace Go.Proofs.YtmepcdljobdigaaDoor
open Go.RowKit
set_option linter.unusedVariables false

theorem termGets_long (A : Option Addr) (n c : Nat) (w : World) (hsh : Shp w) (h : 2000 < n) :
    Calls Tryd.prog 4 #[.slice A n c] w fun e w' => e = .returned (.bool true) ∧ Below w.heap.size w w' := by
  go_enter Tryd.func4, Tryd.ntmps4
  go_wp2_with fail
  refine (live_any _ hsh).mono ?_
  rintro e w6 ⟨rfl, b6⟩
  go_wp2_with fail
  go_ret
  exact ⟨rfl, b6⟩

set_option maxHeartbeats 1000000 in
theorem termGets_any (S : Nat → Prop) (v : Value) (b : List UInt8) (w : World) (hsh : Shp w) (h : BS w S v b) :
    Calls Tryd.prog 4 #[v] w fun e w' => e = .returned (.bool true) ∧ Below w.heap.size w w' := by
  obtain ⟨A, c, rfl, hlc, _⟩ := h.form
  by_cases h2 : 2000 < b.length
  · exact termGets_long A b.length c w hsh h2
  have hg := get_any S _ b w hsh h
  have hE : I64 (getOf b).2.2 := by
    unfold getOf I64
    split
    · simp
    · split <;> simp
  have hr := fun (w1 : World) (b1 : Below w.heap.size w w1) => rGet_any S _ b w1 (h.below' b1)
  generalize getOf b = R at *
  obtain ⟨t, n, pe⟩ := R
  dsimp only at hg hr hE
  generalize b.length = bl at *
  go_enter Tryd.func4, Tryd.ntmps4
  go_wp2_with fail
  refine hg.mono ?_
  rintro e w1 ⟨u1, rfl, T1, b1⟩
  obtain ⟨_, _, _, _, rfl, m1⟩ := T1
  obtain ⟨i0, i1, X2, n2, z2, X3, n3, z3, rfl, rfl, rfl, rfl⟩ := tm_form m1
  have K1 := KB.new w1 26 #[.int .i64 i0, .int .u64 i1, .slice X2 n2 z2, .slice X3 n3 z3]
  have T1a : TV (w1.alloc (.cells #[.int .i64 i0, .int .u64 i1, .slice X2 n2 z2, .slice X3 n3 z3] 26)) _ 9 (.agg #[.int .i64 i0, .int .u64 i1, .slice X2 n2 z2, .slice X3 n3 z3]) t := TV.alloc ⟨_, _, _, _, rfl, m1⟩ _
  have B1 := b1.alloc b1.size (.cells #[.int .i64 i0, .int .u64 i1, .slice X2 n2 z2, .slice X3 n3 z3] 26)
  have hrr := hr _ B1
  clear hg hr m1 b1
  go_wp2_with fail
  refine hrr.mono ?_
  rintro e w2 ⟨u2, rfl, T2, b2⟩
  obtain ⟨_, _, _, _, rfl, m2⟩ := T2
  obtain ⟨j0, j1, Y2, p2, y2, Y3, p3, y3, rfl, rfl, rfl, rfl⟩ := tm_form m2
  have s2 := b2.size
  have s2' : w1.heap.size < w2.heap.size := by simp at s2; omega
  have K2 := K1.below b2 K1.lt
  have T2a : TV (w2.alloc (.cells #[.int .i64 j0, .int .u64 j1, .slice Y2 p2 y2, .slice Y3 p3 y3] 26)) _ 9 (.agg #[.int .i64 j0, .int .u64 j1, .slice Y2 p2 y2, .slice Y3 p3 y3]) t := TV.alloc ⟨_, _, _, _, rfl, m2⟩ _
  have T1b := (T1a.below' b2).alloc (.cells #[.int .i64 j0, .int .u64 j1, .slice Y2 p2 y2, .slice Y3 p3 y3] 26)
  have B2 := (B1.trans (b2.mono B1.size)).alloc (by have := B1.size; omega) (.cells #[.int .i64 j0, .int .u64 j1, .slice Y2 p2 y2, .slice Y3 p3 y3] 26)
  have hs := rsame_any _ _ 9 t t _ _ _ T1b T2a
  rw [(sameT_iff 9 t t).2 rfl] at hs
  have c0 : w2.cell? ⟨w1.heap.size, 0, none⟩ = some (.int .i64 i0) := K2.cell 0
  have c1 : w2.cell? ⟨w1.heap.size, 1, none⟩ = some (.int .u64 i1) := K2.cell 1
  have c2 : w2.cell? ⟨w1.heap.size, 2, none⟩ = some (.slice X2 n2 z2) := K2.cell 2
  have c3 : w2.cell? ⟨w1.heap.size, 3, none⟩ = some (.slice X3 n3 z3) := K2.cell 3
  clear hrr m2 b2 s2 K1 K2 T1a T1b T2a B1
  go_wp2_with fail
  refine hs.mono ?_
  rintro e w3 ⟨rfl, b3⟩
  have B3 := B2.trans (b3.mono B2.size)
  clear hs c0 c1 c2 c3 b3 B2 s2'
  go_wp2_with fail
  refine (errno_any _ _ hE).mono ?_
  rintro e w' ⟨rfl, rfl⟩
  go_wp2_with fail
  refine (live_any _ (hsh.below B3)).mono ?_
  rintro e w6 ⟨rfl, b6⟩
  have B6 := B3.trans (b6.mono B3.size)
  clear b6
  go_wp2_with fail
  go_ret
  exact ⟨rfl, B6⟩

theorem termGets_law {H : Type} (enc : TypeId × Value → H) (W : World) (base : Nat) (ht : Shp W) (v0 : Value) (d0 : DataW H) (p0 : List MemPlace)
    (ok0 : Value.okWide Tryd.prog W .any base 23 v0) (h0 : DataW.Trod enc Tryd.prog W 0 (fun _ => true) true 23 v0 d0 p0) :
    Calls Tryd.prog 4 #[v0] W fun e W' => e = .returned (.bool true) ∧ Below W.heap.size W W' := by
  obtain ⟨l, hl⟩ := BS_of_arg ok0 h0
  exact termGets_any _ v0 l W ht hl
end Go.Proofs.YtmepcdljobdigaaDoor
