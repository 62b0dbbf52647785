/-
  The law InodeGets over the loaded program: which inode every bytes are; whether two are the same. No condition.
-/
import Derived.Test.YtgahnjhibpcbaaaInU
import Derived.Test.YtgahnjhibpcbaaaInL
namespace Go.Proofs.Ytgahnjhibpcbaaa
open Go.RowKit Go.ChangeShapes Go.WideShapes Go.Joins
set_option maxRecDepth 100000
set_option linter.unusedVariables false

theorem igets_out (v u : Value) (x : Ino) (n : Int) (l : List UInt8) (S : Nat → Prop) (hx : hugeS x n = true ∨ 400 < l.length) (w : World) (h : IV w (fun b => b < w.heap.size) v x) (hu : BS w S u l) :
    Calls Try.prog 4 #[u, .int .i64 n, v] w (Yes12 w) := by
  obtain ⟨a, rfl, ha, hz, hl⟩ := id h
  obtain ⟨A, c, rfl, hc, hcm, _⟩ := ha.form
  obtain ⟨A', c', rfl, hc', hcm', _⟩ := hu.form
  have hlen : l.length ≤ 9223372036854775807 := by unfold maxLen at hcm'; omega
  have hu := fun W (h : IV W (fun b => b < w.heap.size) (.agg #[strV x.name, .int .i64 x.size, .slice A x.at_.length c]) x) => huge_any _ _ x n W h
  have h1 := h.alloc (.cells #[strV x.name, .int .i64 x.size, .slice A x.at_.length c] 24)
  have B := (Below.refl w.heap.size w).alloc (Nat.le_refl _) (.cells #[strV x.name, .int .i64 x.size, .slice A x.at_.length c] 24)
  generalize strV x.name = X at *
  clear h ha hl hz hc' hcm'
  by_cases hll : 400 < l.length
  · have D : decide ((400 : Int) < (l.length : Int)) = true := decide_eq_true (by omega)
    clear hx hu h1
    go_enter Try.func4, Try.ntmps4
    go_wp2_with fail
    refine (live_any _).mono ?_
    rintro e w9 ⟨rfl, b9⟩
    go_wp2
    go_ret
    exact ⟨rfl, B.trans (b9.mono B.size)⟩
  · have hg : hugeS x n = true := hx.resolve_right hll
    rw [hg] at hu
    have D : decide ((400 : Int) < (l.length : Int)) = false := decide_eq_false (by omega)
    clear hx hg hll
    go_enter Try.func4, Try.ntmps4
    go_wp2_with fail
    refine (hu _ h1).mono ?_
    rintro e w1 ⟨rfl, b1⟩
    replace B := B.trans (b1.mono B.size)
    go_wp2_with fail
    refine (live_any _).mono ?_
    rintro e w9 ⟨rfl, b9⟩
    go_wp2
    go_ret
    exact ⟨rfl, B.trans (b9.mono B.size)⟩

set_option maxHeartbeats 4000000 in
theorem igets_main (v u : Value) (x : Ino) (n : Int) (l : List UInt8) (S : Nat → Prop) (hg : hugeS x n = false) (hll : ¬ 400 < l.length) (w : World) (h : IV w (fun b => b < w.heap.size) v x) (hb : BS w S u l) :
    Calls Try.prog 4 #[u, .int .i64 n, v] w (Yes12 w) := by
  have hu := fun v W S h => huge_any S v x n W h
  rw [hg] at hu
  obtain ⟨a, rfl, ha, hz, hl⟩ := id h
  obtain ⟨A, c, rfl, hc, hcm, _⟩ := ha.form
  obtain ⟨A', c', rfl, hc', hcm', _⟩ := hb.form
  have D : decide ((400 : Int) < (l.length : Int)) = false := decide_eq_false (by omega)
  have hgb := fun W (h : BS W S (.slice A' l.length c') l) => get_any S _ l n W h (by omega)
  have hrb := fun W (h : BS W S (.slice A' l.length c') l) => rget_any S _ l n W h (by omega)
  have HBS : Hid (∀ W, Below w.heap.size w W → BS W S (.slice A' l.length c') l) := fun W k => hb.below' k
  generalize getS l n = r at hgb hrb
  obtain ⟨y, ye⟩ := r
  have h1 := h.alloc (.cells #[strV x.name, .int .i64 x.size, .slice A x.at_.length c] 24)
  have B := (Below.refl w.heap.size w).alloc (Nat.le_refl _) (.cells #[strV x.name, .int .i64 x.size, .slice A x.at_.length c] 24)
  have K := KB.new w 24 #[strV x.name, .int .i64 x.size, .slice A x.at_.length c]
  have HIV : Hid (∀ W, Below w.heap.size w W → IV W (fun b => b < W.heap.size) (.agg #[strV x.name, .int .i64 x.size, .slice A x.at_.length c]) x) := fun W hb => (h.below' hb).mono fun b hlt => by have := hb.size; omega
  obtain ⟨sx, hX⟩ : ∃ s : ByteArray, Value.string s = strV x.name := ⟨_, rfl⟩
  rw [← hX] at h1 B K HIV ⊢
  obtain ⟨zx, hzx⟩ : ∃ z, z = x.size := ⟨_, rfl⟩
  obtain ⟨Lx, hLx⟩ : ∃ z, z = x.at_.length := ⟨_, rfl⟩
  rw [← hzx, ← hLx] at h1 B K HIV ⊢
  clear h ha hl hz hg hll hc' hcm' hX hb hzx hc hLx
  go_enter Try.func4, Try.ntmps4
  go_wp2_with fail
  refine (hu _ _ _ h1).mono ?_
  rintro e w1 ⟨rfl, b1⟩
  replace B := B.trans (b1.mono B.size)
  replace K := K.below b1 K.lt
  clear b1 hu h1
  go_wp2_with fail
  refine (hgb _ (HBS.out _ B)).mono ?_
  rintro e w3 ⟨v3, rfl, x3, b3⟩
  replace B := B.trans (b3.mono B.size)
  replace K := K.below b3 K.lt
  obtain ⟨a3, rfl, ia3, z3, n3⟩ := id x3
  obtain ⟨A3, q3, rfl, _⟩ := ia3.form
  simp only at x3 ⊢
  clear hgb b3 z3 n3 ia3
  obtain ⟨sy, hY⟩ : ∃ s : ByteArray, Value.string s = strV y.name := ⟨_, rfl⟩
  have HY := Lib.hid hY
  rw [← hY] at x3 ⊢
  obtain ⟨zy, hzy⟩ : ∃ z, z = y.size := ⟨_, rfl⟩
  obtain ⟨Ly, hLy⟩ : ∃ z, z = y.at_.length := ⟨_, rfl⟩
  have HZY := Lib.hid hzy
  have HLY := Lib.hid hLy
  rw [← hzy, ← hLy] at x3 ⊢
  clear hY hzy hLy
  have b4 := (Below.refl w3.heap.size w3).alloc (Nat.le_refl _) (.cells #[.string sy, .int .i64 zy, .slice A3 Ly q3] 24)
  have K7 := KB.new w3 24 #[.string sy, .int .i64 zy, .slice A3 Ly q3]
  replace x3 := x3.below' b4
  replace B := B.trans (b4.mono B.size)
  replace K := K.below b4 K.lt
  go_upto_region 4 with fail
  obtain ⟨b7, hb7⟩ : ∃ b, b = w3.heap.size := ⟨_, rfl⟩
  rw [← hb7] at K7 ⊢
  generalize w3.alloc (.cells #[.string sy, .int .i64 zy, .slice A3 Ly q3] 24) = w4 at x3 K7 B K ⊢
  clear b4 hb7
  go_wp2_with fail
  refine (hrb _ (HBS.out _ B)).mono ?_
  rintro e w5 ⟨v5, rfl, x5, b5⟩
  replace B := B.trans (b5.mono B.size)
  replace K := K.below b5 K.lt
  replace K7 := K7.below b5 K7.lt
  replace x3 := x3.below' b5
  obtain ⟨a5, rfl, ia5, z5, n5⟩ := id x5
  obtain ⟨A4, q4, rfl, _⟩ := ia5.form
  simp only at x5 ⊢
  rw [← HY.out, ← HZY.out, ← HLY.out] at x5 ⊢
  clear hrb b5 z5 n5 ia5
  have b6 := (Below.refl w5.heap.size w5).alloc (Nat.le_refl _) (.cells #[.string sy, .int .i64 zy, .slice A4 Ly q4] 24)
  have K9 := KB.new w5 24 #[.string sy, .int .i64 zy, .slice A4 Ly q4]
  replace x5 := x5.below' b6
  replace x3 := x3.below' b6
  replace B := B.trans (b6.mono B.size)
  replace K := K.below b6 K.lt
  replace K7 := K7.below b6 K7.lt
  go_upto_region 5 with fail
  obtain ⟨b9, hb9⟩ : ∃ b, b = w5.heap.size := ⟨_, rfl⟩
  rw [← hb9] at K9 ⊢
  generalize w5.alloc (.cells #[.string sy, .int .i64 zy, .slice A4 Ly q4] 24) = w6 at x3 x5 K7 K9 B K ⊢
  clear b6 hb9
  rename_i KK hKK
  have HKK := Lib.hid hKK
  clear hKK
  have B5 := B
  have xx := HIV.out _ B
  have HC : Hid (∀ W, Below w6.heap.size w6 W → (W.cell? ⟨w.heap.size, 0, none⟩ = some (.string sx) ∧ W.cell? ⟨w.heap.size, 1, none⟩ = some (.int .i64 zx) ∧ W.cell? ⟨w.heap.size, 2, none⟩ = some (.slice A Lx c)) ∧ (W.cell? ⟨b7, 0, none⟩ = some (.string sy) ∧ W.cell? ⟨b7, 1, none⟩ = some (.int .i64 zy) ∧ W.cell? ⟨b7, 2, none⟩ = some (.slice A3 Ly q3)) ∧ (W.cell? ⟨b9, 0, none⟩ = some (.string sy) ∧ W.cell? ⟨b9, 1, none⟩ = some (.int .i64 zy) ∧ W.cell? ⟨b9, 2, none⟩ = some (.slice A4 Ly q4))) := fun W h =>
    ⟨⟨(K.below h K.lt).cell 0, (K.below h K.lt).cell 1, (K.below h K.lt).cell 2⟩, ⟨(K7.below h K7.lt).cell 0, (K7.below h K7.lt).cell 1, (K7.below h K7.lt).cell 2⟩, ⟨(K9.below h K9.lt).cell 0, (K9.below h K9.lt).cell 1, (K9.below h K9.lt).cell 2⟩⟩
  have low : ∀ {T : Nat → Prop} {t : Value} {i : Ino}, IV w6 T t i → ∀ W, Below w6.heap.size w6 W → IV W (fun b => b < W.heap.size) t i := fun h W k => (h.lt.below' k).mono fun b hb => by have := k.size; have := hb.2; omega
  have HS1 : Hid (∀ W, Below w6.heap.size w6 W → Calls Try.prog 17 #[.agg #[.string sy, .int .i64 zy, .slice A3 Ly q3], .agg #[.string sy, .int .i64 zy, .slice A4 Ly q4]] W fun e w' => e = .returned (.bool true) ∧ Below W.heap.size W w') := fun W k => by
    have h := risame_any _ _ _ _ W (low x3 W k) (low x5 W k)
    rw [sameI_refl] at h
    exact h
  have HS2 : Hid (∀ W, Below w6.heap.size w6 W → Calls Try.prog 18 #[.agg #[.string sx, .int .i64 zx, .slice A Lx c], .agg #[.string sy, .int .i64 zy, .slice A3 Ly q3]] W fun e w' => e = .returned (.bool (sameI x y)) ∧ Below W.heap.size W w') := fun W k => isame_any _ _ _ _ W (low xx W k) (low x3 W k)
  have HS3 : Hid (∀ W, Below w6.heap.size w6 W → Calls Try.prog 17 #[.agg #[.string sx, .int .i64 zx, .slice A Lx c], .agg #[.string sy, .int .i64 zy, .slice A3 Ly q3]] W fun e w' => e = .returned (.bool (sameI x y)) ∧ Below W.heap.size W w') := fun W k => risame_any _ _ _ _ W (low xx W k) (low x3 W k)
  have HS4 : Hid (∀ W, Below w6.heap.size w6 W → Calls Try.prog 18 #[.agg #[.string sx, .int .i64 zx, .slice A Lx c], .agg #[.string sx, .int .i64 zx, .slice A Lx c]] W fun e w' => e = .returned (.bool true) ∧ Below W.heap.size W w') := fun W k => by
    have h := isame_any _ _ _ _ W (low xx W k) (low xx W k)
    rw [sameI_refl] at h
    exact h
  have E1 : (ye == ye) = true := by simp
  generalize sameI x y = m at HS2 HS3
  have E2 : (m == m) = true := by simp
  clear low xx x3 x5 K K7 K9 HIV HBS HY HZY HLY B
  have B : Below w6.heap.size w6 w6.drew := Below_drawn (Below.refl w6.heap.size w6) 1
  refine wp_region_held_drew (S := (fun W => (W.cell? ⟨w.heap.size, 0, none⟩ = some (.string sx) ∧ W.cell? ⟨w.heap.size, 1, none⟩ = some (.int .i64 zx) ∧ W.cell? ⟨w.heap.size, 2, none⟩ = some (.slice A Lx c)) ∧ (W.cell? ⟨b7, 0, none⟩ = some (.string sy) ∧ W.cell? ⟨b7, 1, none⟩ = some (.int .i64 zy) ∧ W.cell? ⟨b7, 2, none⟩ = some (.slice A3 Ly q3)) ∧ (W.cell? ⟨b9, 0, none⟩ = some (.string sy) ∧ W.cell? ⟨b9, 1, none⟩ = some (.int .i64 zy) ∧ W.cell? ⟨b9, 2, none⟩ = some (.slice A4 Ly q4)))) (by kernel_rfl) (HC.out _ B) (fun hHeld => ?_)
  refine held_yes (o := ⟨some 32, _, _, _, _, _⟩) (v := ?_) 0 rfl (by kernel_rfl) (by kernel_rfl) (by kernel_rfl) (fun _ _ _ h => h) (by rfl) hHeld (fun w hSw => ?_) ?_
  rotate_left
  · (try dsimp only at hSw)
    go_simp
    with_reducible rfl
  go_frame
  refine held_yes (o := ⟨some 33, _, _, _, _, _⟩) (v := ?_) 1 rfl (by kernel_rfl) (by kernel_rfl) (by kernel_rfl) (fun _ _ _ h => h) (by rfl) hHeld (fun w hSw => ?_) ?_
  rotate_left
  · (try dsimp only at hSw)
    go_simp
    with_reducible rfl
  go_frame
  refine held_one (o := ⟨some 34, _, _, _, _, _⟩) 2 (by kernel_rfl) rfl (by rfl) (fun K hK => ?_)
  go_simp
  go_at_call 17
  refine (HS1.out _ B).mono ?_
  rintro e wr ⟨rfl, bb⟩
  replace B := B.trans (bb.mono B.size)
  clear bb
  go_wp2_with fail
  refine hK.out _ _ ?_ (fun hH2 => ?_)
  · exact HC.out _ B
  clear hHeld hK K
  have hHeld := hH2
  clear hH2
  try go_frame
  refine held_yes (o := ⟨some 35, _, _, _, _, _⟩) (v := ?_) 3 rfl (by kernel_rfl) (by kernel_rfl) (by kernel_rfl) (fun _ _ _ h => h) (by rfl) hHeld (fun w hSw => ?_) ?_
  rotate_left
  · (try dsimp only at hSw)
    go_simp
    with_reducible rfl
  go_frame
  refine held_yes (o := ⟨some 36, _, _, _, _, _⟩) (v := ?_) 4 rfl (by kernel_rfl) (by kernel_rfl) (by kernel_rfl) (fun _ _ _ h => h) (by rfl) hHeld (fun w hSw => ?_) ?_
  rotate_left
  · (try dsimp only at hSw)
    go_simp
    with_reducible rfl
  go_frame
  refine held_yes (o := ⟨some 38, _, _, _, _, _⟩) (v := ?_) 6 rfl (by kernel_rfl) (by kernel_rfl) (by kernel_rfl) (fun _ _ _ h => h) (by rfl) hHeld (fun w hSw => ?_) ?_
  rotate_left
  · (try dsimp only at hSw)
    go_simp
    with_reducible rfl
  go_frame
  refine held_one (o := ⟨some 37, _, _, _, _, _⟩) 5 (by kernel_rfl) rfl (by rfl) (fun K hK => ?_)
  go_simp
  go_at_call 11
  refine (num12_any _ _).mono ?_
  rintro e w' ⟨rfl, rfl⟩
  go_wp2_with fail
  refine hK.out _ _ ?_ (fun hH2 => ?_)
  · exact HC.out _ B
  clear hHeld hK K
  have hHeld := hH2
  clear hH2
  try go_frame
  refine held_yes (o := ⟨some 39, _, _, _, _, _⟩) (v := ?_) 7 rfl (by kernel_rfl) (by kernel_rfl) (by kernel_rfl) (fun _ _ _ h => h) (by rfl) hHeld (fun w hSw => ?_) ?_
  rotate_left
  · (try dsimp only at hSw)
    go_simp
    with_reducible rfl
  go_frame
  refine held_yes (o := ⟨some 40, _, _, _, _, _⟩) (v := ?_) 8 rfl (by kernel_rfl) (by kernel_rfl) (by kernel_rfl) (fun _ _ _ h => h) (by rfl) hHeld (fun w hSw => ?_) ?_
  rotate_left
  · (try dsimp only at hSw)
    go_simp
    with_reducible rfl
  go_frame
  refine held_yes (o := ⟨some 41, _, _, _, _, _⟩) (v := ?_) 9 rfl (by kernel_rfl) (by kernel_rfl) (by kernel_rfl) (fun _ _ _ h => h) (by rfl) hHeld (fun w hSw => ?_) ?_
  rotate_left
  · (try dsimp only at hSw)
    go_simp
    with_reducible rfl
  go_frame
  refine held_yes (o := ⟨some 42, _, _, _, _, _⟩) (v := ?_) 10 rfl (by kernel_rfl) (by kernel_rfl) (by kernel_rfl) (fun _ _ _ h => h) (by rfl) hHeld (fun w hSw => ?_) ?_
  rotate_left
  · (try dsimp only at hSw)
    go_simp
    with_reducible rfl
  go_frame
  refine held_yes (o := ⟨some 43, _, _, _, _, _⟩) (v := ?_) 11 rfl (by kernel_rfl) (by kernel_rfl) (by kernel_rfl) (fun _ _ _ h => h) (by rfl) hHeld (fun w hSw => ?_) ?_
  rotate_left
  · (try dsimp only at hSw)
    go_simp
    with_reducible rfl
  go_frame
  refine held_yes (o := ⟨some 45, _, _, _, _, _⟩) (v := ?_) 13 rfl (by kernel_rfl) (by kernel_rfl) (by kernel_rfl) (fun _ _ _ h => h) (by rfl) hHeld (fun w hSw => ?_) ?_
  rotate_left
  · (try dsimp only at hSw)
    go_simp
    with_reducible rfl
  go_frame
  refine held_yes (o := ⟨some 46, _, _, _, _, _⟩) (v := ?_) 14 rfl (by kernel_rfl) (by kernel_rfl) (by kernel_rfl) (fun _ _ _ h => h) (by rfl) hHeld (fun w hSw => ?_) ?_
  rotate_left
  · (try dsimp only at hSw)
    go_simp
    with_reducible rfl
  go_frame
  refine held_one (o := ⟨some 44, _, _, _, _, _⟩) 12 (by kernel_rfl) rfl (by rfl) (fun K hK => ?_)
  go_simp
  go_at_call 18
  refine (HS2.out _ B).mono ?_
  rintro e wr ⟨rfl, bb⟩
  replace B := B.trans (bb.mono B.size)
  clear bb
  go_wp2_with fail
  refine hK.out _ _ ?_ (fun hH2 => ?_)
  · exact HC.out _ B
  clear hHeld hK K
  have hHeld := hH2
  clear hH2
  try go_frame
  refine held_one (o := ⟨some 47, _, _, _, _, _⟩) 15 (by kernel_rfl) rfl (by rfl) (fun K hK => ?_)
  go_simp
  go_at_call 17
  refine (HS3.out _ B).mono ?_
  rintro e wr ⟨rfl, bb⟩
  replace B := B.trans (bb.mono B.size)
  clear bb
  go_wp2_with fail
  refine hK.out _ _ ?_ (fun hH2 => ?_)
  · exact HC.out _ B
  clear hHeld hK K
  have hHeld := hH2
  clear hH2
  try go_frame
  refine held_yes (o := ⟨some 48, _, _, _, _, _⟩) (v := ?_) 16 rfl (by kernel_rfl) (by kernel_rfl) (by kernel_rfl) (fun _ _ _ h => h) (by rfl) hHeld (fun w hSw => ?_) ?_
  rotate_left
  · (try dsimp only at hSw)
    go_simp
    with_reducible rfl
  go_frame
  refine held_yes (o := ⟨some 49, _, _, _, _, _⟩) (v := ?_) 17 rfl (by kernel_rfl) (by kernel_rfl) (by kernel_rfl) (fun _ _ _ h => h) (by rfl) hHeld (fun w hSw => ?_) ?_
  rotate_left
  · (try dsimp only at hSw)
    go_simp
    with_reducible rfl
  go_frame
  refine held_yes (o := ⟨some 50, _, _, _, _, _⟩) (v := ?_) 18 rfl (by kernel_rfl) (by kernel_rfl) (by kernel_rfl) (fun _ _ _ h => h) (by rfl) hHeld (fun w hSw => ?_) ?_
  rotate_left
  · (try dsimp only at hSw)
    go_simp
    with_reducible rfl
  go_frame
  refine held_yes (o := ⟨some 51, _, _, _, _, _⟩) (v := ?_) 19 rfl (by kernel_rfl) (by kernel_rfl) (by kernel_rfl) (fun _ _ _ h => h) (by rfl) hHeld (fun w hSw => ?_) ?_
  rotate_left
  · (try dsimp only at hSw)
    go_simp
    with_reducible rfl
  go_frame
  refine held_yes (o := ⟨some 52, _, _, _, _, _⟩) (v := ?_) 20 rfl (by kernel_rfl) (by kernel_rfl) (by kernel_rfl) (fun _ _ _ h => h) (by rfl) hHeld (fun w hSw => ?_) ?_
  rotate_left
  · (try dsimp only at hSw)
    go_simp
    with_reducible rfl
  go_frame
  refine held_one (o := ⟨some 53, _, _, _, _, _⟩) 21 (by kernel_rfl) rfl (by rfl) (fun K hK => ?_)
  go_simp
  go_at_call 18
  refine (HS4.out _ B).mono ?_
  rintro e wr ⟨rfl, bb⟩
  replace B := B.trans (bb.mono B.size)
  clear bb
  go_wp2_with fail
  refine hK.out _ _ ?_ (fun hH2 => ?_)
  · exact HC.out _ B
  clear hHeld hK K
  have hHeld := hH2
  clear hH2
  try go_frame
  refine held_yes (o := ⟨some 54, _, _, _, _, _⟩) (v := ?_) 22 rfl (by kernel_rfl) (by kernel_rfl) (by kernel_rfl) (fun _ _ _ h => h) (by rfl) hHeld (fun w hSw => ?_) ?_
  rotate_left
  · (try dsimp only at hSw)
    go_simp
    with_reducible rfl
  go_frame
  refine held_yes (o := ⟨some 55, _, _, _, _, _⟩) (v := ?_) 23 rfl (by kernel_rfl) (by kernel_rfl) (by kernel_rfl) (fun _ _ _ h => h) (by rfl) hHeld (fun w hSw => ?_) ?_
  rotate_left
  · (try dsimp only at hSw)
    go_simp
    with_reducible rfl
  go_frame
  refine held_one (o := ⟨some 56, _, _, _, _, _⟩) 24 (by kernel_rfl) rfl (by rfl) (fun K hK => ?_)
  go_simp
  go_at_call 7
  refine (live_any _).mono ?_
  rintro e wr ⟨rfl, bb⟩
  replace B := B.trans (bb.mono B.size)
  clear bb
  go_wp2_with fail
  refine hK.out _ _ ?_ (fun hH2 => ?_)
  · exact HC.out _ B
  clear hHeld hK K
  have hHeld := hH2
  clear hH2
  try go_frame
  refine held_yes (o := ⟨some 57, _, _, _, _, _⟩) (v := ?_) 25 rfl (by kernel_rfl) (by kernel_rfl) (by kernel_rfl) (fun _ _ _ h => h) (by rfl) hHeld (fun w hSw => ?_) ?_
  rotate_left
  · (try dsimp only at hSw)
    go_simp
    with_reducible rfl
  go_frame
  refine held_yes (o := ⟨some 6, _, _, _, _, _⟩) (v := ?_) 26 rfl (by kernel_rfl) (by kernel_rfl) (by kernel_rfl) (fun _ _ _ h => h) (by rfl) hHeld (fun w hSw => ?_) ?_
  rotate_left
  · (try dsimp only at hSw)
    go_simp
    with_reducible rfl
  go_frame
  refine wpAnyH_done (by kernel_rfl) ?_ _
  have hKK := HKK.out
  clear HC HS1 HS2 HS3 HS4 HKK
  go_wp2_with fail
  go_ret
  exact ⟨rfl, B5.trans (B.mono B5.size)⟩

/-- The law InodeGets, from the arguments as they come. -/
theorem inodeGets_law {H : Type} (enc : TypeId × Value → H) (W : World) (base : Nat)
    (v0 : Value) (d0 : DataW H) (p0 : List MemPlace) (v1 : Value) (d1 : DataW H) (p1 : List MemPlace) (v2 : Value) (d2 : DataW H) (p2 : List MemPlace)
    (k0 : Value.okWide Try.prog W .any base 27 v0) (k1 : Value.okWide Try.prog W .any base 3 v1) (k2 : Value.okWide Try.prog W .any base 24 v2)
    (h0 : DataW.Trod enc Try.prog W 0 (fun _ => true) true 27 v0 d0 p0) (h1 : DataW.Trod enc Try.prog W 0 (fun _ => true) true 3 v1 d1 p1) (h2 : DataW.Trod enc Try.prog W 0 (fun _ => true) true 24 v2 d2 p2) :
    Calls Try.prog 4 #[v0, v1, v2] W fun e W' => e = .returned (.bool true) ∧ Below W.heap.size W W' := by
  obtain ⟨l, hl⟩ := BS_of_arg k0 h0
  obtain ⟨n, rfl, rfl, rfl, wn⟩ := open_int Try.underlying3 k1 h1
  obtain ⟨x, hx, _⟩ := open_ino k2 h2
  by_cases hh : hugeS x n = true ∨ 400 < l.length
  · exact igets_out v2 v0 x n l _ hh W hx hl
  · exact igets_main v2 v0 x n l _ (by cases h : hugeS x n with | false => rfl | true => exact absurd (.inl h) hh) (fun h => hh (.inr h)) W hx hl
end Go.Proofs.Ytgahnjhibpcbaaa
