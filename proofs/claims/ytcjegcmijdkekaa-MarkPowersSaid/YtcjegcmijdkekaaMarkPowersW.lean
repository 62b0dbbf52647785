/-
  The law MarkPowers over the loaded program: the powers of Base up to the 8191st have a second part that is not 0, the 8192nd has none. No condition.
-/
import Derived.Test.YtcjegcmijdkekaaMarkL
import Derived.ProofKit
import Derived.OpenShut
import Derived.Lib.SmallJoins
namespace Go.Proofs.Ytcjegcmijdkekaa
open Go.RowKit Gau Go.ChangeShapes Go.WideShapes Go.Joins
set_option linter.unusedVariables false

theorem powers_out (n : Int) (hn : n < 1 ∨ 8191 < n) (w : World) :
    Calls Try.prog 6 #[.int .i64 n] w fun e w' => e = .returned (.bool true) ∧ Below w.heap.size w w' := by
  by_cases h1 : n < 1
  · go_enter Try.func6, Try.ntmps6
    go_wp2_with fail
    refine (live_any _).mono ?_
    rintro e w1 ⟨rfl, b1⟩
    go_wp2
    go_ret
    exact ⟨rfl, b1⟩
  · have h2 : 8191 < n := by omega
    clear hn
    go_enter Try.func6, Try.ntmps6
    go_wp2_with fail
    refine (live_any _).mono ?_
    rintro e w1 ⟨rfl, b1⟩
    go_wp2
    go_ret
    exact ⟨rfl, b1⟩

theorem powers_main (n : Nat) (h1 : 1 ≤ n) (h2 : n ≤ 8191) (w : World) :
    Calls Try.prog 6 #[.int .i64 n] w fun e w' => e = .returned (.bool true) ∧ Below w.heap.size w w' := by
  have p1 := pow_nat base n (by omega)
  have p2 := pow_nat base 8192 (by omega)
  rw [show ((8192 : Nat) : Int) = 8192 from rfl] at p2
  have q1 := parts_cz (gpow base n)
  have q2 := parts_cz (gpow base 8192)
  have i1 : ¬ ((gpow base n).im.val : Int) = 0 := by
    have := pow_im n h1 h2
    intro e
    apply this
    apply Fin.ext
    have e2 : (gpow base n).im.val = 0 := by omega
    exact e2
  have i3 : (((gpow base n).im.val : Int) != 0) = true := bne_iff_ne.2 i1
  have i2 : ((gpow base 8192).im.val : Int) = 0 := by rw [pow_last]; rfl
  generalize gpow base 8192 = z2 at *
  generalize gpow base n = z1 at *
  rw [i2] at q2
  clear i2
  generalize (z1.re.val : Int) = a1 at *
  generalize (z1.im.val : Int) = a2 at *
  generalize (z2.re.val : Int) = a3 at *
  generalize cz z1 = x1 at *
  generalize cz z2 = x2 at *
  go_enter Try.func6, Try.ntmps6
  go_wp2_with fail
  refine (base_any _).mono ?_
  rintro e w' ⟨rfl, rfl⟩
  go_wp2_with fail
  refine (p1 _).mono ?_
  rintro e w' ⟨rfl, rfl⟩
  go_wp2_with fail
  refine (q1 _).mono ?_
  rintro e w' ⟨rfl, rfl⟩
  go_wp2_with fail
  refine (base_any _).mono ?_
  rintro e w' ⟨rfl, rfl⟩
  go_wp2_with fail
  refine (p2 _).mono ?_
  rintro e w' ⟨rfl, rfl⟩
  go_wp2_with fail
  refine (q2 _).mono ?_
  rintro e w' ⟨rfl, rfl⟩
  go_wp2_with fail
  refine (live_any _).mono ?_
  rintro e w1 ⟨rfl, b1⟩
  go_wp2
  go_ret
  exact ⟨rfl, b1⟩

theorem markPowers_law {H : Type} (enc : TypeId × Value → H) (W : World) (base : Nat) (v0 : Value) (d0 : DataW H) (p0 : List MemPlace)
    (ok0 : Value.okWide Try.prog W .any base 3 v0)
    (h0 : DataW.Trod enc Try.prog W 0 (fun _ => true) true 3 v0 d0 p0) :
    Calls Try.prog 6 #[v0] W fun e W' => e = .returned (.bool true) ∧ Below W.heap.size W W' := by
  obtain ⟨n, rfl, rfl, rfl, wn⟩ := open_int Try.underlying3 ok0 h0
  by_cases hn : n < 1 ∨ 8191 < n
  · exact powers_out n hn W
  · have := powers_main n.toNat (by omega) (by omega) W
    rwa [show (n.toNat : Int) = n by omega] at this
end Go.Proofs.Ytcjegcmijdkekaa
