/-
  The law ShaNil over the loaded program: what a nil Hash answers, and one that New did not make. No condition but the table's.
-/
import Derived.Test.YtigfblcahacniaaDoorShaSumsW
namespace Go.Proofs.YtigfblcahacniaaDoor
open Go.RowKit Go.ChangeShapes Go.WideShapes
set_option linter.unusedVariables false

theorem zero74_lit : (#[Value.int .u32 0, Value.int .u32 0, Value.int .u32 0, Value.int .u32 0, Value.int .u32 0, Value.int .u32 0, Value.int .u32 0, Value.int .u32 0, Value.int .u8 0, Value.int .u8 0, Value.int .u8 0, Value.int .u8 0, Value.int .u8 0, Value.int .u8 0, Value.int .u8 0, Value.int .u8 0, Value.int .u8 0, Value.int .u8 0, Value.int .u8 0, Value.int .u8 0, Value.int .u8 0, Value.int .u8 0, Value.int .u8 0, Value.int .u8 0, Value.int .u8 0, Value.int .u8 0, Value.int .u8 0, Value.int .u8 0, Value.int .u8 0, Value.int .u8 0, Value.int .u8 0, Value.int .u8 0, Value.int .u8 0, Value.int .u8 0, Value.int .u8 0, Value.int .u8 0, Value.int .u8 0, Value.int .u8 0, Value.int .u8 0, Value.int .u8 0, Value.int .u8 0, Value.int .u8 0, Value.int .u8 0, Value.int .u8 0, Value.int .u8 0, Value.int .u8 0, Value.int .u8 0, Value.int .u8 0, Value.int .u8 0, Value.int .u8 0, Value.int .u8 0, Value.int .u8 0, Value.int .u8 0, Value.int .u8 0, Value.int .u8 0, Value.int .u8 0, Value.int .u8 0, Value.int .u8 0, Value.int .u8 0, Value.int .u8 0, Value.int .u8 0, Value.int .u8 0, Value.int .u8 0, Value.int .u8 0, Value.int .u8 0, Value.int .u8 0, Value.int .u8 0, Value.int .u8 0, Value.int .u8 0, Value.int .u8 0, Value.int .u8 0, Value.int .u8 0, Value.int .u64 0, Value.bool false] : Array Value) = zero74 := rfl
theorem same_zero (W : World) : (Op.equalIn 10000 24 (.agg (z32.map bv).toArray) (.agg #[Value.int .u8 0, Value.int .u8 0, Value.int .u8 0, Value.int .u8 0, Value.int .u8 0, Value.int .u8 0, Value.int .u8 0, Value.int .u8 0, Value.int .u8 0, Value.int .u8 0, Value.int .u8 0, Value.int .u8 0, Value.int .u8 0, Value.int .u8 0, Value.int .u8 0, Value.int .u8 0, Value.int .u8 0, Value.int .u8 0, Value.int .u8 0, Value.int .u8 0, Value.int .u8 0, Value.int .u8 0, Value.int .u8 0, Value.int .u8 0, Value.int .u8 0, Value.int .u8 0, Value.int .u8 0, Value.int .u8 0, Value.int .u8 0, Value.int .u8 0, Value.int .u8 0, Value.int .u8 0])).run Tryd.prog W = .ok true W := by
  rw [row32]; exact same32 z32 rfl W

set_option maxRecDepth 100000 in
set_option maxHeartbeats 1000000 in
theorem shaNil_any (v : Value) (b : List UInt8) (w : World) (hb : BS w (fun _ => True) v b) (ht : Tab w) :
    Calls Tryd.prog 5 #[v] w fun e w' => e = .returned (.bool true) ∧ Below w.heap.size w w' := by
  obtain ⟨A, c, rfl, hc, hm, _⟩ := hb.form
  by_cases hl : 1000 < b.length
  · have hl' : (1000 : Int) < b.length := by omega
    go_enter Tryd.func5, Tryd.ntmps5
    go_wp2_with (go_at_call 6; refine (live_any _ ht).mono ?_; rintro e w1 ⟨rfl, hb1⟩)
    go_ret
    exact ⟨rfl, hb1⟩
  · have hl' : (b.length : Int) ≤ 1000 := by omega
    have hz := zero_hash
    unfold zero74 at hz
    have k1 : KB (w.alloc (.cells zero74 40)) w.heap.size 40 zero74 := KB.new _ _ _
    have c1 : (w.alloc (.cells zero74 40)).cell? ⟨w.heap.size, 73, none⟩ = some (.bool false) := by rw [k1.cell]; rfl
    have B1 := (Below.refl w.heap.size w).alloc (Nat.le_refl _) (.cells zero74 40)
    have t1 := ht.below B1
    have hsame := same_zero
    go_enter Tryd.func5, Tryd.ntmps5
    go_wp2_with fail
    refine (write_nil _ _).mono ?_
    rintro e w' ⟨rfl, rfl⟩
    go_wp2_with fail
    clear hz
    rw [zero74_lit]
    have hg1 := k1.lt
    generalize w.alloc (.cells zero74 40) = W1 at *
    refine (write_raw _ _ _ c1).mono ?_
    rintro e w' ⟨rfl, rfl⟩
    have HC1 := Lib.hid c1
    clear c1 k1
    go_wp2_with fail
    refine (sum_none _).mono ?_
    rintro e W2 ⟨rfl, b2⟩
    have t2 := t1.below b2
    have B2 := B1.trans (b2.mono B1.size)
    have HC2 : Hid (W2.cell? ⟨w.heap.size, 73, none⟩ = some (.bool false)) := by
      show _ = _
      rw [World.cell?_of_block (w := W1) (b2.block w.heap.size hg1)]
      exact HC1.out
    clear b2 t1 B1
    go_wp2_with fail
    refine (sum_raw w.heap.size _ HC2.out).mono ?_
    rintro e W3 ⟨rfl, b3⟩
    have t3 := t2.below b3
    have B3 := B2.trans (b3.mono B2.size)
    go_wp2_with fail
    refine (live_any _ t3).mono ?_
    rintro e W4 ⟨rfl, b4⟩
    have B4 := B3.trans (b4.mono B3.size)
    go_wp2
    go_ret
    exact ⟨rfl, B4⟩

theorem shaNil_law {H : Type} (enc : TypeId × Value → H) (W : World) (base : Nat) (ht : Tab W) (v0 : Value) (d0 : DataW H) (p0 : List MemPlace)
    (ok0 : Value.okWide Tryd.prog W .any base 22 v0) (h0 : DataW.Trod enc Tryd.prog W 0 (fun _ => true) true 22 v0 d0 p0) :
    Calls Tryd.prog 5 #[v0] W fun e W' => e = .returned (.bool true) ∧ Below W.heap.size W W' := by
  obtain ⟨l, hl⟩ := BS_of_arg ok0 h0
  exact shaNil_any v0 l W hl ht
end Go.Proofs.YtigfblcahacniaaDoor
