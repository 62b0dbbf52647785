/-
  The law SectPuts over the loaded program: every body's sector, or the error; which sectors are empty. No condition.
-/
import Derived.Test.YtfhkkmhidccdmaaSeL
import Derived.Test.YtfhkkmhidccdmaaArgs
namespace Go.Proofs.Ytfhkkmhidccdmaa
open Go.RowKit Gau Go.ChangeShapes Go.WideShapes Go.Joins
set_option linter.unusedVariables false

/-- make([]byte, 256) as an operation of a region that draws its order. -/
theorem wp_make_256 {o : Oper} {a : Act} {w : World} {K : Act → World → Prop} {Q : Exit → Act → World → Prop} (ho : o.op = .makeSlice 22 (.const (.int .i64 256)) (.const (.int .i64 256)))
    (k : ∀ w', KB w' w.heap.size 5 ((zs 256).map bv).toArray → Below w.heap.size w w' → K (a.put o.dst (.slice (some ⟨w.heap.size, 0, none⟩) 256 256)) w') : Oper.wp Try.prog o a w K Q := by
  obtain ⟨C, hC, hmk⟩ := make_256 w
  have h1 := k (w.alloc (.cells C 5)) (by rw [← hC]; exact KB.new _ _ _) ((Below.refl _ _).alloc (Nat.le_refl _) _)
  clear k hC
  unfold Oper.wp execOp
  have e1 : a.eval (.const (.int .i64 256)) = .int .i64 256 := rfl
  simp only [ho, e1, Sem.run_bind, Sem.run_pure, hmk, Result.andThen_ok]
  exact h1

theorem puts_out (k : Int) (S S' : Nat → Prop) (v u : Value) (l s : List UInt8) (hx : 2000 < l.length ∨ 2000 < s.length) (w : World) (h : BS w S v l) (hs : BS w S' u s) :
    Calls Try.prog 3 #[.int .i64 k, v, u] w (Yes9 w) := by
  obtain ⟨A, c, rfl, _⟩ := h.form
  obtain ⟨A', c', rfl, _⟩ := hs.form
  clear h hs
  by_cases h1 : 2000 < l.length
  · have h2 : (2000 : Int) < l.length := by omega
    clear hx
    go_enter Try.func3, Try.ntmps3
    go_wp2_with fail
    refine (live_any _).mono ?_
    rintro e w1 ⟨rfl, b1⟩
    go_wp2
    go_ret
    exact ⟨rfl, b1⟩
  · have h2 : (2000 : Int) < s.length := by omega
    have h3 : ¬ (2000 : Int) < l.length := by omega
    clear hx
    go_enter Try.func3, Try.ntmps3
    go_wp2_with fail
    refine (live_any _).mono ?_
    rintro e w1 ⟨rfl, b1⟩
    go_wp2
    go_ret
    exact ⟨rfl, b1⟩

set_option maxRecDepth 100000 in
set_option maxHeartbeats 1000000 in
theorem puts_main (k : Int) (S S' : Nat → Prop) (v u : Value) (l s : List UInt8) (h1 : ¬ 2000 < l.length) (h2 : ¬ 2000 < s.length) (w : World) (h : BS w S v l) (hs : BS w S' u s) :
    Calls Try.prog 3 #[.int .i64 k, v, u] w (Yes9 w) := by
  have hp := put_sect k S v l w h
  have hr := fun W hb => rput_sect k S v l W hb
  obtain ⟨A, c, rfl, _⟩ := h.form
  obtain ⟨A', c', rfl, _⟩ := hs.form
  have h3 : ¬ (2000 : Int) < l.length := by omega
  have h4 : ¬ (2000 : Int) < s.length := by omega
  clear h1 h2
  generalize putS k l = r at *
  obtain ⟨p, e⟩ := r
  go_enter Try.func3, Try.ntmps3
  go_wp2_with fail
  refine hp.mono ?_
  rintro _ w1 ⟨v1, rfl, how1, b1⟩
  have q1 := own_BS how1
  replace h := h.below' b1
  replace hs := hs.below' b1
  clear hp how1
  go_wp2_with fail
  refine (hr w1 h).mono ?_
  rintro _ w2 ⟨v2, rfl, how2, b2⟩
  have q2 := own_BS how2
  replace q1 := q1.below' b2
  replace hs := hs.below' b2
  have B : Below w.heap.size w w2.drew := Below_drawn (b1.trans (b2.mono b1.size)) 1
  clear hr how2 b1 b2 h
  have h1 : BS w2.drew _ v1 p := q1
  have h2 : BS w2.drew _ v2 p := q2
  replace hs : BS w2.drew _ _ s := hs
  clear q1 q2
  go_wp2_with fail
  refine wp_region_held_drew (S := (fun _ => True)) (by kernel_rfl) trivial (fun hHeld => ?_)
  refine held_yes (o := ⟨some 32, _, _, _, _, _⟩) (v := ?_) 0 rfl (by kernel_rfl) (by kernel_rfl) (by kernel_rfl) (fun _ _ _ h => h) (by rfl) hHeld (fun w hSw => ?_) ?_
  rotate_left
  · (try dsimp only at hSw)
    go_simp
    with_reducible rfl
  go_frame
  refine held_yes (o := ⟨some 33, _, _, _, _, _⟩) (v := ?_) 1 rfl (by kernel_rfl) (by kernel_rfl) (by kernel_rfl) (fun _ _ _ h => h) (by rfl) hHeld (fun w hSw => ?_) ?_
  rotate_left
  · (try dsimp only at hSw)
    go_simp
    with_reducible rfl
  go_frame
  refine held_one (o := ⟨some 34, _, _, _, _, _⟩) 2 (by kernel_rfl) rfl (by rfl) (fun K hK => ?_)
  go_simp
  refine (same_to _ _ _ _ _ _ h1 h2).mono ?_
  rintro e w5 ⟨rfl, b5⟩
  replace hs := hs.below' b5
  replace B := B.trans (b5.mono B.size)
  clear b5 h1 h2
  go_wp2_with fail
  refine hK.out _ _ ?_ (fun hH2 => ?_)
  · trivial
  clear hHeld hK K
  have hHeld := hH2
  clear hH2
  try go_frame
  refine held_yes (o := ⟨some 35, _, _, _, _, _⟩) (v := ?_) 3 rfl (by kernel_rfl) (by kernel_rfl) (by kernel_rfl) (fun _ _ _ h => h) (by rfl) hHeld (fun w hSw => ?_) ?_
  rotate_left
  · (try dsimp only at hSw)
    go_simp
    with_reducible rfl
  go_frame
  refine held_yes (o := ⟨some 36, _, _, _, _, _⟩) (v := ?_) 4 rfl (by kernel_rfl) (by kernel_rfl) (by kernel_rfl) (fun _ _ _ h => h) (by rfl) hHeld (fun w hSw => ?_) ?_
  rotate_left
  · (try dsimp only at hSw)
    go_simp
    with_reducible rfl
  go_frame
  refine held_yes (o := ⟨some 38, _, _, _, _, _⟩) (v := ?_) 6 rfl (by kernel_rfl) (by kernel_rfl) (by kernel_rfl) (fun _ _ _ h => h) (by rfl) hHeld (fun w hSw => ?_) ?_
  rotate_left
  · (try dsimp only at hSw)
    go_simp
    with_reducible rfl
  go_frame
  refine held_one (o := ⟨some 37, _, _, _, _, _⟩) 5 (by kernel_rfl) rfl (by rfl) (fun K hK => ?_)
  go_simp
  go_at_call 11
  refine (num9_any _ _).mono ?_
  rintro e w' ⟨rfl, rfl⟩
  go_wp2_with fail
  refine hK.out _ _ ?_ (fun hH2 => ?_)
  · trivial
  clear hHeld hK K
  have hHeld := hH2
  clear hH2
  try go_frame
  refine held_yes (o := ⟨some 39, _, _, _, _, _⟩) (v := ?_) 7 rfl (by kernel_rfl) (by kernel_rfl) (by kernel_rfl) (fun _ _ _ h => h) (by rfl) hHeld (fun w hSw => ?_) ?_
  rotate_left
  · (try dsimp only at hSw)
    go_simp
    with_reducible rfl
  go_frame
  refine held_yes (o := ⟨some 40, _, _, _, _, _⟩) (v := ?_) 8 rfl (by kernel_rfl) (by kernel_rfl) (by kernel_rfl) (fun _ _ _ h => h) (by rfl) hHeld (fun w hSw => ?_) ?_
  rotate_left
  · (try dsimp only at hSw)
    go_simp
    with_reducible rfl
  go_frame
  refine held_yes (o := ⟨some 41, _, _, _, _, _⟩) (v := ?_) 9 rfl (by kernel_rfl) (by kernel_rfl) (by kernel_rfl) (fun _ _ _ h => h) (by rfl) hHeld (fun w hSw => ?_) ?_
  rotate_left
  · (try dsimp only at hSw)
    go_simp
    with_reducible rfl
  go_frame
  refine held_yes (o := ⟨some 42, _, _, _, _, _⟩) (v := ?_) 10 rfl (by kernel_rfl) (by kernel_rfl) (by kernel_rfl) (fun _ _ _ h => h) (by rfl) hHeld (fun w hSw => ?_) ?_
  rotate_left
  · (try dsimp only at hSw)
    go_simp
    with_reducible rfl
  go_frame
  refine held_yes (o := ⟨some 44, _, _, _, _, _⟩) (v := ?_) 12 rfl (by kernel_rfl) (by kernel_rfl) (by kernel_rfl) (fun _ _ _ h => h) (by rfl) hHeld (fun w hSw => ?_) ?_
  rotate_left
  · (try dsimp only at hSw)
    go_simp
    with_reducible rfl
  go_frame
  refine held_one (o := ⟨some 43, _, _, _, _, _⟩) 11 (by kernel_rfl) rfl (by rfl) (fun K hK => ?_)
  go_simp
  refine (empty_any _ _ _ _ hs).mono ?_
  rintro e w6 ⟨rfl, b6⟩
  replace hs := hs.below' b6
  replace B := B.trans (b6.mono B.size)
  clear b6
  go_wp2_with fail
  refine hK.out _ _ ?_ (fun hH2 => ?_)
  · trivial
  clear hHeld hK K
  have hHeld := hH2
  clear hH2
  try go_frame
  refine held_one (o := ⟨some 45, _, _, _, _, _⟩) 13 (by kernel_rfl) rfl (by rfl) (fun K hK => ?_)
  go_simp
  refine (rempty_any _ _ _ _ hs).mono ?_
  rintro e w7 ⟨rfl, b7⟩
  replace B := B.trans (b7.mono B.size)
  clear b7 hs
  go_wp2_with fail
  refine hK.out _ _ ?_ (fun hH2 => ?_)
  · trivial
  clear hHeld hK K
  have hHeld := hH2
  clear hH2
  try go_frame
  refine held_yes (o := ⟨some 46, _, _, _, _, _⟩) (v := ?_) 14 rfl (by kernel_rfl) (by kernel_rfl) (by kernel_rfl) (fun _ _ _ h => h) (by rfl) hHeld (fun w hSw => ?_) ?_
  rotate_left
  · (try dsimp only at hSw)
    go_simp
    with_reducible rfl
  go_frame
  refine held_yes (o := ⟨some 47, _, _, _, _, _⟩) (v := ?_) 15 rfl (by kernel_rfl) (by kernel_rfl) (by kernel_rfl) (fun _ _ _ h => h) (by rfl) hHeld (fun w hSw => ?_) ?_
  rotate_left
  · (try dsimp only at hSw)
    go_simp
    with_reducible rfl
  go_frame
  refine held_yes (o := ⟨some 48, _, _, _, _, _⟩) (v := ?_) 16 rfl (by kernel_rfl) (by kernel_rfl) (by kernel_rfl) (fun _ _ _ h => h) (by rfl) hHeld (fun w hSw => ?_) ?_
  rotate_left
  · (try dsimp only at hSw)
    go_simp
    with_reducible rfl
  go_frame
  refine held_two (o := ⟨some 49, _, _, _, _, _⟩) (p := ⟨some 50, _, _, _, _, _⟩) 17 18 (by kernel_rfl) rfl rfl (by rfl) (by rfl) (fun K hK => ?_) (fun K hK => ?_)
  · go_simp
    refine (zero_any _).mono ?_
    rintro e w8 ⟨rfl, kz, b8⟩
    replace B := B.trans (b8.mono B.size)
    clear b8
    go_wp2_with fail
    refine hK.out _ _ ?_ (fun hH2 => ?_)
    · trivial
    clear hHeld hK K
    have hHeld := hH2
    clear hH2
    try go_frame
    refine held_one (o := ⟨some 50, _, _, _, _, _⟩) 18 (by kernel_rfl) rfl (by rfl) (fun K hK => ?_)
    refine wp_make_256 rfl ?_
    intro w9 km b9
    replace kz := kz.below b9 kz.lt
    replace B := B.trans (b9.mono B.size)
    clear b9
    refine hK.out _ _ ?_ (fun hH2 => ?_)
    · trivial
    clear hHeld hK K
    have hHeld := hH2
    clear hH2
    try go_frame
    refine held_one (o := ⟨some 51, _, _, _, _, _⟩) 19 (by kernel_rfl) rfl (by rfl) (fun K hK => ?_)
    go_simp
    refine (same_to _ _ _ _ _ _ (kb_256 kz (zs_len 256)) (kb_256 km (zs_len 256))).mono ?_
    rintro e wa ⟨rfl, ba⟩
    replace B := B.trans (ba.mono B.size)
    clear ba kz km
    go_wp2_with fail
    refine hK.out _ _ ?_ (fun hH2 => ?_)
    · trivial
    clear hHeld hK K
    have hHeld := hH2
    clear hH2
    try go_frame
    refine held_yes (o := ⟨some 52, _, _, _, _, _⟩) (v := ?_) 20 rfl (by kernel_rfl) (by kernel_rfl) (by kernel_rfl) (fun _ _ _ h => h) (by rfl) hHeld (fun w hSw => ?_) ?_
    rotate_left
    · (try dsimp only at hSw)
      go_simp
      with_reducible rfl
    go_frame
    refine held_yes (o := ⟨some 53, _, _, _, _, _⟩) (v := ?_) 21 rfl (by kernel_rfl) (by kernel_rfl) (by kernel_rfl) (fun _ _ _ h => h) (by rfl) hHeld (fun w hSw => ?_) ?_
    rotate_left
    · (try dsimp only at hSw)
      go_simp
      with_reducible rfl
    go_frame
    refine held_one (o := ⟨some 54, _, _, _, _, _⟩) 22 (by kernel_rfl) rfl (by rfl) (fun K hK => ?_)
    go_simp
    refine (live_any _).mono ?_
    rintro e wb ⟨rfl, bb⟩
    replace B := B.trans (bb.mono B.size)
    clear bb
    go_wp2_with fail
    refine hK.out _ _ ?_ (fun hH2 => ?_)
    · trivial
    clear hHeld hK K
    have hHeld := hH2
    clear hH2
    try go_frame
    refine held_yes (o := ⟨some 55, _, _, _, _, _⟩) (v := ?_) 23 rfl (by kernel_rfl) (by kernel_rfl) (by kernel_rfl) (fun _ _ _ h => h) (by rfl) hHeld (fun w hSw => ?_) ?_
    rotate_left
    · (try dsimp only at hSw)
      go_simp
      with_reducible rfl
    go_frame
    refine held_yes (o := ⟨some 6, _, _, _, _, _⟩) (v := ?_) 24 rfl (by kernel_rfl) (by kernel_rfl) (by kernel_rfl) (fun _ _ _ h => h) (by rfl) hHeld (fun w hSw => ?_) ?_
    rotate_left
    · (try dsimp only at hSw)
      go_simp
      with_reducible rfl
    go_frame
    refine wpAnyH_done (by kernel_rfl) ?_ _
    go_wp2
    go_ret
    exact ⟨rfl, B⟩
  · refine wp_make_256 rfl ?_
    intro w9 km b9
    replace B := B.trans (b9.mono B.size)
    clear b9
    refine hK.out _ _ ?_ (fun hH2 => ?_)
    · trivial
    clear hHeld hK K
    have hHeld := hH2
    clear hH2
    try go_frame
    refine held_one (o := ⟨some 49, _, _, _, _, _⟩) 17 (by kernel_rfl) rfl (by rfl) (fun K hK => ?_)
    go_simp
    refine (zero_any _).mono ?_
    rintro e w8 ⟨rfl, kz, b8⟩
    replace km := km.below b8 km.lt
    replace B := B.trans (b8.mono B.size)
    clear b8
    go_wp2_with fail
    refine hK.out _ _ ?_ (fun hH2 => ?_)
    · trivial
    clear hHeld hK K
    have hHeld := hH2
    clear hH2
    try go_frame
    refine held_one (o := ⟨some 51, _, _, _, _, _⟩) 19 (by kernel_rfl) rfl (by rfl) (fun K hK => ?_)
    go_simp
    refine (same_to _ _ _ _ _ _ (kb_256 kz (zs_len 256)) (kb_256 km (zs_len 256))).mono ?_
    rintro e wa ⟨rfl, ba⟩
    replace B := B.trans (ba.mono B.size)
    clear ba kz km
    go_wp2_with fail
    refine hK.out _ _ ?_ (fun hH2 => ?_)
    · trivial
    clear hHeld hK K
    have hHeld := hH2
    clear hH2
    try go_frame
    refine held_yes (o := ⟨some 52, _, _, _, _, _⟩) (v := ?_) 20 rfl (by kernel_rfl) (by kernel_rfl) (by kernel_rfl) (fun _ _ _ h => h) (by rfl) hHeld (fun w hSw => ?_) ?_
    rotate_left
    · (try dsimp only at hSw)
      go_simp
      with_reducible rfl
    go_frame
    refine held_yes (o := ⟨some 53, _, _, _, _, _⟩) (v := ?_) 21 rfl (by kernel_rfl) (by kernel_rfl) (by kernel_rfl) (fun _ _ _ h => h) (by rfl) hHeld (fun w hSw => ?_) ?_
    rotate_left
    · (try dsimp only at hSw)
      go_simp
      with_reducible rfl
    go_frame
    refine held_one (o := ⟨some 54, _, _, _, _, _⟩) 22 (by kernel_rfl) rfl (by rfl) (fun K hK => ?_)
    go_simp
    refine (live_any _).mono ?_
    rintro e wb ⟨rfl, bb⟩
    replace B := B.trans (bb.mono B.size)
    clear bb
    go_wp2_with fail
    refine hK.out _ _ ?_ (fun hH2 => ?_)
    · trivial
    clear hHeld hK K
    have hHeld := hH2
    clear hH2
    try go_frame
    refine held_yes (o := ⟨some 55, _, _, _, _, _⟩) (v := ?_) 23 rfl (by kernel_rfl) (by kernel_rfl) (by kernel_rfl) (fun _ _ _ h => h) (by rfl) hHeld (fun w hSw => ?_) ?_
    rotate_left
    · (try dsimp only at hSw)
      go_simp
      with_reducible rfl
    go_frame
    refine held_yes (o := ⟨some 6, _, _, _, _, _⟩) (v := ?_) 24 rfl (by kernel_rfl) (by kernel_rfl) (by kernel_rfl) (fun _ _ _ h => h) (by rfl) hHeld (fun w hSw => ?_) ?_
    rotate_left
    · (try dsimp only at hSw)
      go_simp
      with_reducible rfl
    go_frame
    refine wpAnyH_done (by kernel_rfl) ?_ _
    go_wp2
    go_ret
    exact ⟨rfl, B⟩

theorem sectPuts_law {H : Type} (enc : TypeId × Value → H) (W : World) (base : Nat) (v0 : Value) (d0 : DataW H) (p0 : List MemPlace) (v1 : Value) (d1 : DataW H) (p1 : List MemPlace) (v2 : Value) (d2 : DataW H) (p2 : List MemPlace)
    (ok0 : Value.okWide Try.prog W .any base 3 v0) (ok1 : Value.okWide Try.prog W .any base 22 v1) (ok2 : Value.okWide Try.prog W .any base 22 v2)
    (h0 : DataW.Trod enc Try.prog W 0 (fun _ => true) true 3 v0 d0 p0) (h1 : DataW.Trod enc Try.prog W 0 (fun _ => true) true 22 v1 d1 p1)
    (h2 : DataW.Trod enc Try.prog W 0 (fun _ => true) true 22 v2 d2 p2) :
    Calls Try.prog 3 #[v0, v1, v2] W fun e W' => e = .returned (.bool true) ∧ Below W.heap.size W W' := by
  obtain ⟨n, rfl, rfl, rfl, wn⟩ := open_int Try.underlying3 ok0 h0
  obtain ⟨l, hl⟩ := BS_of_arg ok1 h1
  obtain ⟨s, hs⟩ := BS_of_arg ok2 h2
  by_cases hx : 2000 < l.length ∨ 2000 < s.length
  · exact puts_out n _ _ _ _ l s hx W hl hs
  · exact puts_main n _ _ _ _ l s (by omega) (by omega) W hl hs
end Go.Proofs.Ytfhkkmhidccdmaa
