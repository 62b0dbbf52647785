/-
  The document's own keys: its contract over the loaded program. No condition.
-/
import Derived.Test.YtjcdkfnjlmofiaaDoorShaC
namespace Go.Proofs.YtjcdkfnjlmofiaaDoor
open Go.RowKit
set_option linter.unusedVariables false

theorem keys_row : (#[Value.int .u32 1116352408, Value.int .u32 1899447441, Value.int .u32 3049323471, Value.int .u32 3921009573, Value.int .u32 961987163, Value.int .u32 1508970993, Value.int .u32 2453635748, Value.int .u32 2870763221, Value.int .u32 3624381080, Value.int .u32 310598401, Value.int .u32 607225278, Value.int .u32 1426881987, Value.int .u32 1925078388, Value.int .u32 2162078206, Value.int .u32 2614888103, Value.int .u32 3248222580, Value.int .u32 3835390401, Value.int .u32 4022224774, Value.int .u32 264347078, Value.int .u32 604807628, Value.int .u32 770255983, Value.int .u32 1249150122, Value.int .u32 1555081692, Value.int .u32 1996064986, Value.int .u32 2554220882, Value.int .u32 2821834349, Value.int .u32 2952996808, Value.int .u32 3210313671, Value.int .u32 3336571891, Value.int .u32 3584528711, Value.int .u32 113926993, Value.int .u32 338241895, Value.int .u32 666307205, Value.int .u32 773529912, Value.int .u32 1294757372, Value.int .u32 1396182291, Value.int .u32 1695183700, Value.int .u32 1986661051, Value.int .u32 2177026350, Value.int .u32 2456956037, Value.int .u32 2730485921, Value.int .u32 2820302411, Value.int .u32 3259730800, Value.int .u32 3345764771, Value.int .u32 3516065817, Value.int .u32 3600352804, Value.int .u32 4094571909, Value.int .u32 275423344, Value.int .u32 430227734, Value.int .u32 506948616, Value.int .u32 659060556, Value.int .u32 883997877, Value.int .u32 958139571, Value.int .u32 1322822218, Value.int .u32 1537002063, Value.int .u32 1747873779, Value.int .u32 1955562222, Value.int .u32 2024104815, Value.int .u32 2227730452, Value.int .u32 2361852424, Value.int .u32 2428436474, Value.int .u32 2756734187, Value.int .u32 3204031479, Value.int .u32 3329325298] : Array Value) = (keysL.map wv).toArray := by kernel_rfl

set_option maxRecDepth 100000 in
set_option maxHeartbeats 4000000 in
theorem keys_any (w : World) :
    Calls Tryd.prog 28 #[] w fun e w' => e = .returned (.agg (keysL.map wv).toArray) ∧ Below w.heap.size w w' := by
  go_enter Tryd.func28, Tryd.ntmps28
  go_wp2_with (rw [keys_row]; have hkl : (keysL.map wv).length = 64 := rfl; have hk1 := words_one keysL; generalize hks : keysL.map wv = ks at *; have HKS := Lib.hid hks; clear hks; refine wpList_store_kb rfl 50 (.tmp 0) (.tmp 1) rfl w.heap.size ks rfl rfl 50 (rowW [] 64) (by rw [row_zero]; exact KB.new _ _ _) 64 (by kernel_rfl) (by rw [rowW_length _ _ (by simp)]) hkl hk1 ?_; intro W2 k3 g3)
  refine bodyPost_ret (results_cell_row (P := Tryd.prog) rfl _ W2 w.heap.size _ ks.toArray (0, 0) _ rfl k3 Tryd.underlying50 rfl (by rw [show ks.toArray.size = 64 from by simpa using hkl]; kernel_rfl)) rfl ⟨by rw [HKS.out], ((Below.refl _ _).alloc (Nat.le_refl _) _).grown g3 (by simp) (by simp)⟩
end Go.Proofs.YtjcdkfnjlmofiaaDoor
