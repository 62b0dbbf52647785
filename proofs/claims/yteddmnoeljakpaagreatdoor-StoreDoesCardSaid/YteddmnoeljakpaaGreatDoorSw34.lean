/-
  InC: Which inodes may be: the program's Check (layer 12), over the loaded program. No condition but sizes that each contract names.
-/
import Derived.Test.YteddmnoeljakpaaGreatDoorSw27
import Derived.Test.YteddmnoeljakpaaGreatDoorSw33
import Derived.Test.YteddmnoeljakpaaGreatDoorSw12
set_option linter.unusedVariables false
set_option maxRecDepth 100000
namespace Go.Proofs.YteddmnoeljakpaaGreatDoor
section
open Go.RowKit
def chkS (x : Ino) (n : Int) : Int := if fitS x n = true then 0 else 1
theorem chk_no {x : Ino} {n : Int} (h : ¬ fitS x n = true) : chkS x n = 1 := if_neg h
theorem chk_yes {x : Ino} {n : Int} (h : fitS x n = true) : chkS x n = 0 := if_pos h
set_option maxHeartbeats 1000000 in
theorem check_over {X : Value} {nm : List UInt8} {z n : Int} {A : Option Addr} {L : List Int} {c : Nat} (w0 : World) (hX : X = strV nm) (hz : I64 z) (hL : IS w0 (fun b => b < w0.heap.size) (.slice A L.length c) L) (hc : L.length ≤ c) (hcm : c ≤ maxLen) (hsm : L.length ≤ 1000000000) (h0 : 1024 < n) :
    Calls Tryz.prog 133 #[.agg #[X, .int .i64 z, .slice A L.length c], .int .i64 n] w0 fun e w' => e = .returned (.int .i64 1) ∧ Below w0.heap.size w0 w' := by
  have hname := name_any nm
  rw [← hX] at hname
  have hpages := pages_any z hz
  have K0 := KB.new w0 91 #[X, .int .i64 z, .slice A L.length c]
  have B0 := (Below.refl w0.heap.size w0).alloc (Nat.le_refl _) (.cells #[X, .int .i64 z, .slice A L.length c] 91)
  have E0 : decide ((1024 : Int) < n) = true := decide_eq_true (by omega)
  clear hX
  go_enter Tryz.func133, Tryz.ntmps133
  go_wp2_with fail
  rename_i KK hKK
  have HKK := Lib.hid hKK
  clear hKK
  generalize w0.alloc (.cells #[X, .int .i64 z, .slice A L.length c] 91) = w1 at K0 B0 ⊢
  have HC : Hid (∀ W, Below w1.heap.size w1 W → W.cell? ⟨w0.heap.size, 0, none⟩ = some X ∧ W.cell? ⟨w0.heap.size, 1, none⟩ = some (.int .i64 z) ∧ W.cell? ⟨w0.heap.size, 2, none⟩ = some (.slice A L.length c)) := fun W h => ⟨(K0.below h K0.lt).cell 0, (K0.below h K0.lt).cell 1, (K0.below h K0.lt).cell 2⟩
  have B := Below_drawn (Below.refl w1.heap.size w1) 1
  refine wp_region_held_drew (S := (fun W => W.cell? ⟨w0.heap.size, 0, none⟩ = some X ∧ W.cell? ⟨w0.heap.size, 1, none⟩ = some (.int .i64 z) ∧ W.cell? ⟨w0.heap.size, 2, none⟩ = some (.slice A L.length c))) (by kernel_rfl) (HC.out _ B) (fun hHeld => ?_)
  refine hyY (some 7) 0 rfl hHeld ?_; go_frame
  refine hyY (some 8) 1 rfl hHeld ?_; go_frame
  refine hyY (some 9) 2 rfl hHeld ?_; go_frame
  refine hyN (some 10) 3 rfl hHeld ?_; go_frame
  refine hyN (some 11) 4 rfl hHeld ?_; go_frame
  refine hyN (some 12) 5 rfl hHeld ?_; go_frame
  refine hyN (some 13) 6 rfl hHeld ?_; go_frame
  refine hyY (some 14) 7 rfl hHeld ?_; go_frame
  refine hyY (some 15) 8 rfl hHeld ?_; go_frame
  refine hyN (some 16) 9 rfl hHeld ?_; go_frame
  refine hyN (some 17) 10 rfl hHeld ?_; go_frame
  refine hyN (some 18) 11 rfl hHeld ?_; go_frame
  refine hyY (some 19) 12 rfl hHeld ?_; go_frame
  refine hyY (some 20) 13 rfl hHeld ?_; go_frame
  refine hyN (some 21) 14 rfl hHeld ?_; go_frame
  refine hyN (some 22) 15 rfl hHeld ?_; go_frame
  refine hyN (some 23) 16 rfl hHeld ?_; go_frame
  refine hyY (some 24) 17 rfl hHeld ?_; go_frame
  refine hyY (some 25) 18 rfl hHeld ?_; go_frame
  refine hyN (some 26) 19 rfl hHeld ?_; go_frame
  refine hyN (some 27) 20 rfl hHeld ?_; go_frame
  refine hyN (some 28) 21 rfl hHeld ?_; go_frame
  refine hyN (some 29) 22 rfl hHeld ?_; go_frame
  refine hyN (some 30) 23 rfl hHeld ?_; go_frame
  refine hyN (some 31) 24 rfl hHeld ?_; go_frame
  refine hyN (some 32) 25 rfl hHeld ?_; go_frame
  refine hyY (some 33) 26 rfl hHeld ?_; go_frame
  refine wpAnyH_done (by kernel_rfl) ?_ _
  have hKK := HKK.out
  go_wp2_with fail
  go_ret
  exact ⟨rfl, B0.trans (B.mono B0.size)⟩
set_option maxHeartbeats 1000000 in
theorem check_name {X : Value} {nm : List UInt8} {z n : Int} {A : Option Addr} {L : List Int} {c : Nat} (w0 : World) (hX : X = strV nm) (hz : I64 z) (hL : IS w0 (fun b => b < w0.heap.size) (.slice A L.length c) L) (hc : L.length ≤ c) (hcm : c ≤ maxLen) (hsm : L.length ≤ 1000000000) (h0 : ¬ 1024 < n) (h1 : nameS nm = false) :
    Calls Tryz.prog 133 #[.agg #[X, .int .i64 z, .slice A L.length c], .int .i64 n] w0 fun e w' => e = .returned (.int .i64 1) ∧ Below w0.heap.size w0 w' := by
  have hname := name_any nm
  rw [← hX] at hname
  have hpages := pages_any z hz
  have K0 := KB.new w0 91 #[X, .int .i64 z, .slice A L.length c]
  have B0 := (Below.refl w0.heap.size w0).alloc (Nat.le_refl _) (.cells #[X, .int .i64 z, .slice A L.length c] 91)
  rw [h1] at hname
  have E0 : decide ((1024 : Int) < n) = false := decide_eq_false (by omega)
  clear hX
  go_enter Tryz.func133, Tryz.ntmps133
  go_wp2_with fail
  rename_i KK hKK
  have HKK := Lib.hid hKK
  clear hKK
  generalize w0.alloc (.cells #[X, .int .i64 z, .slice A L.length c] 91) = w1 at K0 B0 ⊢
  have HC : Hid (∀ W, Below w1.heap.size w1 W → W.cell? ⟨w0.heap.size, 0, none⟩ = some X ∧ W.cell? ⟨w0.heap.size, 1, none⟩ = some (.int .i64 z) ∧ W.cell? ⟨w0.heap.size, 2, none⟩ = some (.slice A L.length c)) := fun W h => ⟨(K0.below h K0.lt).cell 0, (K0.below h K0.lt).cell 1, (K0.below h K0.lt).cell 2⟩
  have B := Below_drawn (Below.refl w1.heap.size w1) 1
  refine wp_region_held_drew (S := (fun W => W.cell? ⟨w0.heap.size, 0, none⟩ = some X ∧ W.cell? ⟨w0.heap.size, 1, none⟩ = some (.int .i64 z) ∧ W.cell? ⟨w0.heap.size, 2, none⟩ = some (.slice A L.length c))) (by kernel_rfl) (HC.out _ B) (fun hHeld => ?_)
  refine hyY (some 7) 0 rfl hHeld ?_; go_frame
  refine hyY (some 8) 1 rfl hHeld ?_; go_frame
  refine hyY (some 9) 2 rfl hHeld ?_; go_frame
  refine hyY (some 10) 3 rfl hHeld ?_; go_frame
  refine hyY (some 11) 4 rfl hHeld ?_; go_frame
  refine hyO (some 12) 5 rfl (fun K hK => ?_)
  go_simp
  go_at_call 72
  refine (hname _).mono ?_
  rintro e w2 ⟨rfl, b2⟩
  replace B := B.trans (b2.mono B.size)
  clear b2
  go_wp2_with fail
  refine hK.out _ _ ?_ (fun hH2 => ?_)
  · exact HC.out _ B
  clear hHeld hK K; have hHeld := hH2; clear hH2; try go_frame
  refine hyY (some 13) 6 rfl hHeld ?_; go_frame
  refine hyY (some 14) 7 rfl hHeld ?_; go_frame
  refine hyY (some 15) 8 rfl hHeld ?_; go_frame
  refine hyN (some 16) 9 rfl hHeld ?_; go_frame
  refine hyN (some 17) 10 rfl hHeld ?_; go_frame
  refine hyN (some 18) 11 rfl hHeld ?_; go_frame
  refine hyY (some 19) 12 rfl hHeld ?_; go_frame
  refine hyY (some 20) 13 rfl hHeld ?_; go_frame
  refine hyN (some 21) 14 rfl hHeld ?_; go_frame
  refine hyN (some 22) 15 rfl hHeld ?_; go_frame
  refine hyN (some 23) 16 rfl hHeld ?_; go_frame
  refine hyY (some 24) 17 rfl hHeld ?_; go_frame
  refine hyY (some 25) 18 rfl hHeld ?_; go_frame
  refine hyN (some 26) 19 rfl hHeld ?_; go_frame
  refine hyN (some 27) 20 rfl hHeld ?_; go_frame
  refine hyN (some 28) 21 rfl hHeld ?_; go_frame
  refine hyN (some 29) 22 rfl hHeld ?_; go_frame
  refine hyN (some 30) 23 rfl hHeld ?_; go_frame
  refine hyN (some 31) 24 rfl hHeld ?_; go_frame
  refine hyN (some 32) 25 rfl hHeld ?_; go_frame
  refine hyY (some 33) 26 rfl hHeld ?_; go_frame
  refine wpAnyH_done (by kernel_rfl) ?_ _
  have hKK := HKK.out
  go_wp2_with fail
  go_ret
  exact ⟨rfl, B0.trans (B.mono B0.size)⟩
set_option maxHeartbeats 1000000 in
theorem check_neg {X : Value} {nm : List UInt8} {z n : Int} {A : Option Addr} {L : List Int} {c : Nat} (w0 : World) (hX : X = strV nm) (hz : I64 z) (hL : IS w0 (fun b => b < w0.heap.size) (.slice A L.length c) L) (hc : L.length ≤ c) (hcm : c ≤ maxLen) (hsm : L.length ≤ 1000000000) (h0 : ¬ 1024 < n) (h1 : nameS nm = true) (h2 : z < 0) :
    Calls Tryz.prog 133 #[.agg #[X, .int .i64 z, .slice A L.length c], .int .i64 n] w0 fun e w' => e = .returned (.int .i64 1) ∧ Below w0.heap.size w0 w' := by
  have hname := name_any nm
  rw [← hX] at hname
  have hpages := pages_any z hz
  have K0 := KB.new w0 91 #[X, .int .i64 z, .slice A L.length c]
  have B0 := (Below.refl w0.heap.size w0).alloc (Nat.le_refl _) (.cells #[X, .int .i64 z, .slice A L.length c] 91)
  rw [h1] at hname
  have E0 : decide ((1024 : Int) < n) = false := decide_eq_false (by omega)
  have E1 : decide (z < 0) = true := decide_eq_true (by omega)
  clear hX
  go_enter Tryz.func133, Tryz.ntmps133
  go_wp2_with fail
  rename_i KK hKK
  have HKK := Lib.hid hKK
  clear hKK
  generalize w0.alloc (.cells #[X, .int .i64 z, .slice A L.length c] 91) = w1 at K0 B0 ⊢
  have HC : Hid (∀ W, Below w1.heap.size w1 W → W.cell? ⟨w0.heap.size, 0, none⟩ = some X ∧ W.cell? ⟨w0.heap.size, 1, none⟩ = some (.int .i64 z) ∧ W.cell? ⟨w0.heap.size, 2, none⟩ = some (.slice A L.length c)) := fun W h => ⟨(K0.below h K0.lt).cell 0, (K0.below h K0.lt).cell 1, (K0.below h K0.lt).cell 2⟩
  have B := Below_drawn (Below.refl w1.heap.size w1) 1
  refine wp_region_held_drew (S := (fun W => W.cell? ⟨w0.heap.size, 0, none⟩ = some X ∧ W.cell? ⟨w0.heap.size, 1, none⟩ = some (.int .i64 z) ∧ W.cell? ⟨w0.heap.size, 2, none⟩ = some (.slice A L.length c))) (by kernel_rfl) (HC.out _ B) (fun hHeld => ?_)
  refine hyY (some 7) 0 rfl hHeld ?_; go_frame
  refine hyY (some 8) 1 rfl hHeld ?_; go_frame
  refine hyY (some 9) 2 rfl hHeld ?_; go_frame
  refine hyY (some 10) 3 rfl hHeld ?_; go_frame
  refine hyY (some 11) 4 rfl hHeld ?_; go_frame
  refine hyO (some 12) 5 rfl (fun K hK => ?_)
  go_simp
  go_at_call 72
  refine (hname _).mono ?_
  rintro e w2 ⟨rfl, b2⟩
  replace B := B.trans (b2.mono B.size)
  clear b2
  go_wp2_with fail
  refine hK.out _ _ ?_ (fun hH2 => ?_)
  · exact HC.out _ B
  clear hHeld hK K; have hHeld := hH2; clear hH2; try go_frame
  refine hyY (some 13) 6 rfl hHeld ?_; go_frame
  refine hyY (some 14) 7 rfl hHeld ?_; go_frame
  refine hyY (some 15) 8 rfl hHeld ?_; go_frame
  refine hyY (some 16) 9 rfl hHeld ?_; go_frame
  refine hyY (some 17) 10 rfl hHeld ?_; go_frame
  refine hyY (some 18) 11 rfl hHeld ?_; go_frame
  refine hyY (some 19) 12 rfl hHeld ?_; go_frame
  refine hyY (some 20) 13 rfl hHeld ?_; go_frame
  refine hyN (some 21) 14 rfl hHeld ?_; go_frame
  refine hyN (some 22) 15 rfl hHeld ?_; go_frame
  refine hyN (some 23) 16 rfl hHeld ?_; go_frame
  refine hyY (some 24) 17 rfl hHeld ?_; go_frame
  refine hyY (some 25) 18 rfl hHeld ?_; go_frame
  refine hyN (some 26) 19 rfl hHeld ?_; go_frame
  refine hyN (some 27) 20 rfl hHeld ?_; go_frame
  refine hyN (some 28) 21 rfl hHeld ?_; go_frame
  refine hyN (some 29) 22 rfl hHeld ?_; go_frame
  refine hyN (some 30) 23 rfl hHeld ?_; go_frame
  refine hyN (some 31) 24 rfl hHeld ?_; go_frame
  refine hyN (some 32) 25 rfl hHeld ?_; go_frame
  refine hyY (some 33) 26 rfl hHeld ?_; go_frame
  refine wpAnyH_done (by kernel_rfl) ?_ _
  have hKK := HKK.out
  go_wp2_with fail
  go_ret
  exact ⟨rfl, B0.trans (B.mono B0.size)⟩
set_option maxHeartbeats 1000000 in
theorem check_great {X : Value} {nm : List UInt8} {z n : Int} {A : Option Addr} {L : List Int} {c : Nat} (w0 : World) (hX : X = strV nm) (hz : I64 z) (hL : IS w0 (fun b => b < w0.heap.size) (.slice A L.length c) L) (hc : L.length ≤ c) (hcm : c ≤ maxLen) (hsm : L.length ≤ 1000000000) (h0 : ¬ 1024 < n) (h1 : nameS nm = true) (h2 : ¬ z < 0) (h3 : 24576 < z) :
    Calls Tryz.prog 133 #[.agg #[X, .int .i64 z, .slice A L.length c], .int .i64 n] w0 fun e w' => e = .returned (.int .i64 1) ∧ Below w0.heap.size w0 w' := by
  have hname := name_any nm
  rw [← hX] at hname
  have hpages := pages_any z hz
  have K0 := KB.new w0 91 #[X, .int .i64 z, .slice A L.length c]
  have B0 := (Below.refl w0.heap.size w0).alloc (Nat.le_refl _) (.cells #[X, .int .i64 z, .slice A L.length c] 91)
  rw [h1] at hname
  have E0 : decide ((1024 : Int) < n) = false := decide_eq_false (by omega)
  have E1 : decide (z < 0) = false := decide_eq_false (by omega)
  have E2 : decide ((24576 : Int) < z) = true := decide_eq_true (by omega)
  clear hX
  go_enter Tryz.func133, Tryz.ntmps133
  go_wp2_with fail
  rename_i KK hKK
  have HKK := Lib.hid hKK
  clear hKK
  generalize w0.alloc (.cells #[X, .int .i64 z, .slice A L.length c] 91) = w1 at K0 B0 ⊢
  have HC : Hid (∀ W, Below w1.heap.size w1 W → W.cell? ⟨w0.heap.size, 0, none⟩ = some X ∧ W.cell? ⟨w0.heap.size, 1, none⟩ = some (.int .i64 z) ∧ W.cell? ⟨w0.heap.size, 2, none⟩ = some (.slice A L.length c)) := fun W h => ⟨(K0.below h K0.lt).cell 0, (K0.below h K0.lt).cell 1, (K0.below h K0.lt).cell 2⟩
  have B := Below_drawn (Below.refl w1.heap.size w1) 1
  refine wp_region_held_drew (S := (fun W => W.cell? ⟨w0.heap.size, 0, none⟩ = some X ∧ W.cell? ⟨w0.heap.size, 1, none⟩ = some (.int .i64 z) ∧ W.cell? ⟨w0.heap.size, 2, none⟩ = some (.slice A L.length c))) (by kernel_rfl) (HC.out _ B) (fun hHeld => ?_)
  refine hyY (some 7) 0 rfl hHeld ?_; go_frame
  refine hyY (some 8) 1 rfl hHeld ?_; go_frame
  refine hyY (some 9) 2 rfl hHeld ?_; go_frame
  refine hyY (some 10) 3 rfl hHeld ?_; go_frame
  refine hyY (some 11) 4 rfl hHeld ?_; go_frame
  refine hyO (some 12) 5 rfl (fun K hK => ?_)
  go_simp
  go_at_call 72
  refine (hname _).mono ?_
  rintro e w2 ⟨rfl, b2⟩
  replace B := B.trans (b2.mono B.size)
  clear b2
  go_wp2_with fail
  refine hK.out _ _ ?_ (fun hH2 => ?_)
  · exact HC.out _ B
  clear hHeld hK K; have hHeld := hH2; clear hH2; try go_frame
  refine hyY (some 13) 6 rfl hHeld ?_; go_frame
  refine hyY (some 14) 7 rfl hHeld ?_; go_frame
  refine hyY (some 15) 8 rfl hHeld ?_; go_frame
  refine hyY (some 16) 9 rfl hHeld ?_; go_frame
  refine hyY (some 17) 10 rfl hHeld ?_; go_frame
  refine hyY (some 18) 11 rfl hHeld ?_; go_frame
  refine hyY (some 19) 12 rfl hHeld ?_; go_frame
  refine hyY (some 20) 13 rfl hHeld ?_; go_frame
  refine hyY (some 21) 14 rfl hHeld ?_; go_frame
  refine hyY (some 22) 15 rfl hHeld ?_; go_frame
  refine hyY (some 23) 16 rfl hHeld ?_; go_frame
  refine hyY (some 24) 17 rfl hHeld ?_; go_frame
  refine hyY (some 25) 18 rfl hHeld ?_; go_frame
  refine hyN (some 26) 19 rfl hHeld ?_; go_frame
  refine hyN (some 27) 20 rfl hHeld ?_; go_frame
  refine hyN (some 28) 21 rfl hHeld ?_; go_frame
  refine hyN (some 29) 22 rfl hHeld ?_; go_frame
  refine hyN (some 30) 23 rfl hHeld ?_; go_frame
  refine hyN (some 31) 24 rfl hHeld ?_; go_frame
  refine hyN (some 32) 25 rfl hHeld ?_; go_frame
  refine hyY (some 33) 26 rfl hHeld ?_; go_frame
  refine wpAnyH_done (by kernel_rfl) ?_ _
  have hKK := HKK.out
  go_wp2_with fail
  go_ret
  exact ⟨rfl, B0.trans (B.mono B0.size)⟩
set_option maxHeartbeats 1000000 in
theorem check_pages {X : Value} {nm : List UInt8} {z n : Int} {A : Option Addr} {L : List Int} {c : Nat} (w0 : World) (hX : X = strV nm) (hz : I64 z) (hL : IS w0 (fun b => b < w0.heap.size) (.slice A L.length c) L) (hc : L.length ≤ c) (hcm : c ≤ maxLen) (hsm : L.length ≤ 1000000000) (h0 : ¬ 1024 < n) (h1 : nameS nm = true) (h2 : ¬ z < 0) (h3 : ¬ 24576 < z) (h4 : ¬ (L.length : Int) = pagesS z) :
    Calls Tryz.prog 133 #[.agg #[X, .int .i64 z, .slice A L.length c], .int .i64 n] w0 fun e w' => e = .returned (.int .i64 1) ∧ Below w0.heap.size w0 w' := by
  have hname := name_any nm
  rw [← hX] at hname
  have hpages := pages_any z hz
  have K0 := KB.new w0 91 #[X, .int .i64 z, .slice A L.length c]
  have B0 := (Below.refl w0.heap.size w0).alloc (Nat.le_refl _) (.cells #[X, .int .i64 z, .slice A L.length c] 91)
  rw [h1] at hname
  have E0 : decide ((1024 : Int) < n) = false := decide_eq_false (by omega)
  have E1 : decide (z < 0) = false := decide_eq_false (by omega)
  have E2 : decide ((24576 : Int) < z) = false := decide_eq_false (by omega)
  generalize pagesS z = P at hpages h4
  have E4 : ((L.length : Int) != P) = true := by simpa using h4
  clear h4
  clear hX
  go_enter Tryz.func133, Tryz.ntmps133
  go_wp2_with fail
  rename_i KK hKK
  have HKK := Lib.hid hKK
  clear hKK
  generalize w0.alloc (.cells #[X, .int .i64 z, .slice A L.length c] 91) = w1 at K0 B0 ⊢
  have HC : Hid (∀ W, Below w1.heap.size w1 W → W.cell? ⟨w0.heap.size, 0, none⟩ = some X ∧ W.cell? ⟨w0.heap.size, 1, none⟩ = some (.int .i64 z) ∧ W.cell? ⟨w0.heap.size, 2, none⟩ = some (.slice A L.length c)) := fun W h => ⟨(K0.below h K0.lt).cell 0, (K0.below h K0.lt).cell 1, (K0.below h K0.lt).cell 2⟩
  have B := Below_drawn (Below.refl w1.heap.size w1) 1
  refine wp_region_held_drew (S := (fun W => W.cell? ⟨w0.heap.size, 0, none⟩ = some X ∧ W.cell? ⟨w0.heap.size, 1, none⟩ = some (.int .i64 z) ∧ W.cell? ⟨w0.heap.size, 2, none⟩ = some (.slice A L.length c))) (by kernel_rfl) (HC.out _ B) (fun hHeld => ?_)
  refine hyY (some 7) 0 rfl hHeld ?_; go_frame
  refine hyY (some 8) 1 rfl hHeld ?_; go_frame
  refine hyY (some 9) 2 rfl hHeld ?_; go_frame
  refine hyY (some 10) 3 rfl hHeld ?_; go_frame
  refine hyY (some 11) 4 rfl hHeld ?_; go_frame
  refine hyO (some 12) 5 rfl (fun K hK => ?_)
  go_simp
  go_at_call 72
  refine (hname _).mono ?_
  rintro e w2 ⟨rfl, b2⟩
  replace B := B.trans (b2.mono B.size)
  clear b2
  go_wp2_with fail
  refine hK.out _ _ ?_ (fun hH2 => ?_)
  · exact HC.out _ B
  clear hHeld hK K; have hHeld := hH2; clear hH2; try go_frame
  refine hyY (some 13) 6 rfl hHeld ?_; go_frame
  refine hyY (some 14) 7 rfl hHeld ?_; go_frame
  refine hyY (some 15) 8 rfl hHeld ?_; go_frame
  refine hyY (some 16) 9 rfl hHeld ?_; go_frame
  refine hyY (some 17) 10 rfl hHeld ?_; go_frame
  refine hyY (some 18) 11 rfl hHeld ?_; go_frame
  refine hyY (some 19) 12 rfl hHeld ?_; go_frame
  refine hyY (some 20) 13 rfl hHeld ?_; go_frame
  refine hyY (some 21) 14 rfl hHeld ?_; go_frame
  refine hyY (some 22) 15 rfl hHeld ?_; go_frame
  refine hyY (some 23) 16 rfl hHeld ?_; go_frame
  refine hyY (some 24) 17 rfl hHeld ?_; go_frame
  refine hyY (some 25) 18 rfl hHeld ?_; go_frame
  refine hyY (some 26) 19 rfl hHeld ?_; go_frame
  refine hyY (some 27) 20 rfl hHeld ?_; go_frame
  refine hyY (some 28) 21 rfl hHeld ?_; go_frame
  refine hyY (some 29) 22 rfl hHeld ?_; go_frame
  refine hyY (some 30) 23 rfl hHeld ?_; go_frame
  refine hyO (some 31) 24 rfl (fun K hK => ?_)
  go_simp
  go_at_call 74
  refine (hpages _).mono ?_
  rintro e w' ⟨rfl, rfl⟩
  go_wp2_with fail
  refine hK.out _ _ ?_ (fun hH2 => ?_)
  · exact HC.out _ B
  clear hHeld hK K; have hHeld := hH2; clear hH2; try go_frame
  refine hyY (some 32) 25 rfl hHeld ?_; go_frame
  refine hyY (some 33) 26 rfl hHeld ?_; go_frame
  refine wpAnyH_done (by kernel_rfl) ?_ _
  have hKK := HKK.out
  go_wp2_with fail
  go_ret
  exact ⟨rfl, B0.trans (B.mono B0.size)⟩
set_option maxHeartbeats 1000000 in
theorem check_bits {X : Value} {nm : List UInt8} {z n : Int} {A : Option Addr} {L : List Int} {c : Nat} (w0 : World) (hX : X = strV nm) (hz : I64 z) (hL : IS w0 (fun b => b < w0.heap.size) (.slice A L.length c) L) (hc : L.length ≤ c) (hcm : c ≤ maxLen) (hsm : L.length ≤ 1000000000) (h0 : ¬ 1024 < n) (h1 : nameS nm = true) (h2 : ¬ z < 0) (h3 : ¬ 24576 < z) (h4 : (L.length : Int) = pagesS z) :
    Calls Tryz.prog 133 #[.agg #[X, .int .i64 z, .slice A L.length c], .int .i64 n] w0 fun e w' => e = .returned (.int .i64 (if (bitsS L n).2 then 0 else 1)) ∧ Below w0.heap.size w0 w' := by
  have hname := name_any nm
  rw [← hX] at hname
  have hpages := pages_any z hz
  have K0 := KB.new w0 91 #[X, .int .i64 z, .slice A L.length c]
  have B0 := (Below.refl w0.heap.size w0).alloc (Nat.le_refl _) (.cells #[X, .int .i64 z, .slice A L.length c] 91)
  rw [h1] at hname
  have E0 : decide ((1024 : Int) < n) = false := decide_eq_false (by omega)
  have E1 : decide (z < 0) = false := decide_eq_false (by omega)
  have E2 : decide ((24576 : Int) < z) = false := decide_eq_false (by omega)
  have hbits := fun W h => bits_any (.slice A L.length c) L n hsm W h
  have HLW : Hid (∀ w1 W, Below w0.heap.size w0 w1 → Below w1.heap.size w1 W → IS W (fun b => b < W.heap.size) (.slice A L.length c) L) := fun w1 W h k => ((hL.below' h).below' k).mono fun b hb => by have := h.size; have := k.size; omega
  generalize pagesS z = P at hpages h4
  generalize bitsS L n = r at hbits ⊢
  obtain ⟨rb, rok⟩ := r
  have E4 : ((L.length : Int) != P) = false := by simpa using h4
  clear h4 hL
  clear hX
  go_enter Tryz.func133, Tryz.ntmps133
  go_wp2_with fail
  rename_i KK hKK
  have HKK := Lib.hid hKK
  clear hKK
  generalize w0.alloc (.cells #[X, .int .i64 z, .slice A L.length c] 91) = w1 at K0 B0 ⊢
  have HC : Hid (∀ W, Below w1.heap.size w1 W → W.cell? ⟨w0.heap.size, 0, none⟩ = some X ∧ W.cell? ⟨w0.heap.size, 1, none⟩ = some (.int .i64 z) ∧ W.cell? ⟨w0.heap.size, 2, none⟩ = some (.slice A L.length c)) := fun W h => ⟨(K0.below h K0.lt).cell 0, (K0.below h K0.lt).cell 1, (K0.below h K0.lt).cell 2⟩
  have B := Below_drawn (Below.refl w1.heap.size w1) 1
  refine wp_region_held_drew (S := (fun W => W.cell? ⟨w0.heap.size, 0, none⟩ = some X ∧ W.cell? ⟨w0.heap.size, 1, none⟩ = some (.int .i64 z) ∧ W.cell? ⟨w0.heap.size, 2, none⟩ = some (.slice A L.length c))) (by kernel_rfl) (HC.out _ B) (fun hHeld => ?_)
  refine hyY (some 7) 0 rfl hHeld ?_; go_frame
  refine hyY (some 8) 1 rfl hHeld ?_; go_frame
  refine hyY (some 9) 2 rfl hHeld ?_; go_frame
  refine hyY (some 10) 3 rfl hHeld ?_; go_frame
  refine hyY (some 11) 4 rfl hHeld ?_; go_frame
  refine hyO (some 12) 5 rfl (fun K hK => ?_)
  go_simp
  go_at_call 72
  refine (hname _).mono ?_
  rintro e w2 ⟨rfl, b2⟩
  replace B := B.trans (b2.mono B.size)
  clear b2
  go_wp2_with fail
  refine hK.out _ _ ?_ (fun hH2 => ?_)
  · exact HC.out _ B
  clear hHeld hK K; have hHeld := hH2; clear hH2; try go_frame
  refine hyY (some 13) 6 rfl hHeld ?_; go_frame
  refine hyY (some 14) 7 rfl hHeld ?_; go_frame
  refine hyY (some 15) 8 rfl hHeld ?_; go_frame
  refine hyY (some 16) 9 rfl hHeld ?_; go_frame
  refine hyY (some 17) 10 rfl hHeld ?_; go_frame
  refine hyY (some 18) 11 rfl hHeld ?_; go_frame
  refine hyY (some 19) 12 rfl hHeld ?_; go_frame
  refine hyY (some 20) 13 rfl hHeld ?_; go_frame
  refine hyY (some 21) 14 rfl hHeld ?_; go_frame
  refine hyY (some 22) 15 rfl hHeld ?_; go_frame
  refine hyY (some 23) 16 rfl hHeld ?_; go_frame
  refine hyY (some 24) 17 rfl hHeld ?_; go_frame
  refine hyY (some 25) 18 rfl hHeld ?_; go_frame
  refine hyY (some 26) 19 rfl hHeld ?_; go_frame
  refine hyY (some 27) 20 rfl hHeld ?_; go_frame
  refine hyY (some 28) 21 rfl hHeld ?_; go_frame
  refine hyY (some 29) 22 rfl hHeld ?_; go_frame
  refine hyY (some 30) 23 rfl hHeld ?_; go_frame
  refine hyO (some 31) 24 rfl (fun K hK => ?_)
  go_simp
  go_at_call 74
  refine (hpages _).mono ?_
  rintro e w' ⟨rfl, rfl⟩
  go_wp2_with fail
  refine hK.out _ _ ?_ (fun hH2 => ?_)
  · exact HC.out _ B
  clear hHeld hK K; have hHeld := hH2; clear hH2; try go_frame
  refine hyY (some 32) 25 rfl hHeld ?_; go_frame
  refine hyY (some 33) 26 rfl hHeld ?_; go_frame
  refine wpAnyH_done (by kernel_rfl) ?_ _
  have hKK := HKK.out
  have hcells := HC.out _ B
  have hLW := HLW.out _ _ B0 B
  replace B := B0.trans (B.mono B0.size)
  clear HC HLW HKK
  cases rok with
  | false =>
    go_wp2_with (go_at_call 154; refine (hbits _ hLW).mono ?_; rintro e w3 ⟨v3, rfl, hb3, b3⟩)
    go_ret
    exact ⟨rfl, B.trans (b3.mono B.size)⟩
  | true =>
    go_wp2_with (go_at_call 154; refine (hbits _ hLW).mono ?_; rintro e w3 ⟨v3, rfl, hb3, b3⟩)
    go_ret
    exact ⟨rfl, B.trans (b3.mono B.size)⟩
theorem icheck_any (v : Value) (x : Ino) (n : Int) (hsm : x.at_.length ≤ 1000000000) (w : World) (h : IV w (fun b => b < w.heap.size) v x) :
    Calls Tryz.prog 133 #[v, .int .i64 n] w fun e w' => e = .returned (.int .i64 (chkS x n)) ∧ Below w.heap.size w w' := by
  obtain ⟨a, rfl, ha, hz, hl⟩ := h
  obtain ⟨A, c, rfl, hc, hcm, _⟩ := ha.form
  have hno : ¬ fitS x n = true → chkS x n = 1 := chk_no
  rw [fit_iff] at hno
  by_cases h0 : 1024 < n
  · rw [hno fun h => by omega]
    exact check_over w rfl hz ha hc hcm hsm h0
  · cases h1 : nameS x.name with
    | false =>
      rw [hno fun h => by rw [h.1] at h1; cases h1]
      exact check_name w rfl hz ha hc hcm hsm h0 h1
    | true =>
      by_cases h2 : x.size < 0
      · rw [hno fun h => by omega]
        exact check_neg w rfl hz ha hc hcm hsm h0 h1 h2
      · by_cases h3 : 24576 < x.size
        · rw [hno fun h => by omega]
          exact check_great w rfl hz ha hc hcm hsm h0 h1 h2 h3
        · by_cases h4 : (x.at_.length : Int) = pagesS x.size
          · have e : chkS x n = if (bitsS x.at_ n).2 then 0 else 1 := by
              unfold chkS
              by_cases h5 : (bitsS x.at_ n).2 = true
              · have hn : ¬ n < 0 := (bitsS_yes h5).1.1
                rw [if_pos ((fit_iff x n).2 ⟨h1, ⟨by omega, by omega⟩, ⟨by omega, by omega⟩, h4, h5⟩), if_pos h5]
              · rw [if_neg fun h => h5 ((fit_iff x n).1 h).2.2.2.2, if_neg h5]
            rw [e]
            exact check_bits w rfl hz ha hc hcm hsm h0 h1 h2 h3 h4
          · rw [hno fun h => h4 h.2.2.2.1]
            exact check_pages w rfl hz ha hc hcm hsm h0 h1 h2 h3 h4
end
end Go.Proofs.YteddmnoeljakpaaGreatDoor
