/-
  The bytes of an inode: the document's Put (layer 12), over the loaded program. No condition.
-/
import Derived.Test.YtgahnjhibpcbaaaInD
import Derived.Test.YtgahnjhibpcbaaaInS
import Derived.Test.YtgahnjhibpcbaaaRefA
import Derived.Test.YtgahnjhibpcbaaaStep
namespace Go.Proofs.Ytgahnjhibpcbaaa
open Go.RowKit
set_option maxRecDepth 100000
set_option linter.unusedVariables false

theorem rput_no (v : Value) (x : Ino) (n : Int) (hf : ¬ fitS x n = true) (w : World) (h : IV w (fun b => b < w.heap.size) v x) :
    Calls Try.prog 9 #[v, .int .i64 n] w (PutAs w ([], 1)) := by
  have hck := fun W h => may_any v x n W h
  rw [show fitS x n = false by simpa using hf] at hck
  obtain ⟨a, e, ha, hz, hl⟩ := id h
  obtain ⟨A, c, rfl, hc, hcm, _⟩ := ha.form
  subst e
  have h1 := (h.alloc (.cells #[strV x.name, .int .i64 x.size, .slice A x.at_.length c] 24)).mono (S' := fun b => b < (w.alloc (.cells #[strV x.name, .int .i64 x.size, .slice A x.at_.length c] 24)).heap.size) fun b hb => by simp; omega
  have B0 := (Below.refl w.heap.size w).alloc (Nat.le_refl _) (.cells #[strV x.name, .int .i64 x.size, .slice A x.at_.length c] 24)
  have hpa := fun w' h => PutAs.no (w := w) (w' := w') h
  generalize strV x.name = X at *
  clear h ha
  go_enter Try.func9, Try.ntmps9
  go_wp2_with (go_at_call 23; refine (hck _ h1).mono ?_; rintro e w2 ⟨rfl, b2⟩)
  go_ret2
  exact hpa _ (B0.trans (b2.mono B0.size))

set_option maxHeartbeats 2000000 in
theorem rput_yes {X : Value} {nm : List UInt8} {z n : Int} {A : Option Addr} {L : List Int} {c : Nat} (w0 : World) (hX : X = strV nm) (hf : fitS ⟨nm, z, L⟩ n = true) (hL : IS w0 (fun b => b < w0.heap.size) (.slice A L.length c) L)
    (h : IV w0 (fun b => b < w0.heap.size) (.agg #[X, .int .i64 z, .slice A L.length c]) ⟨nm, z, L⟩) :
    Calls Try.prog 9 #[.agg #[X, .int .i64 z, .slice A L.length c], .int .i64 n] w0 (PutAs w0 (putB ⟨nm, z, L⟩ n, 0)) := by
  obtain ⟨f1, f2, f3, f4, f5⟩ := (fit_iff _ n).1 hf
  obtain ⟨_, f1b, _⟩ := (name_iff _).1 f1
  replace f1b : nm.length ≤ 16 := f1b
  have hck := fun W h => may_any (.agg #[X, .int .i64 z, .slice A L.length c]) ⟨nm, z, L⟩ n W h
  rw [hf] at hck
  have hbits := fun W h => rbits_any (.slice A L.length c) L n W h
  have hbl : (bitsS L n).1.length ≤ 512 := by
    obtain ⟨⟨_, b2, _⟩, b4⟩ := bitsS_yes f5
    rw [b4, bitsB_length]
    unfold bytesN
    omega
  have HP : Hid (putB ⟨nm, z, L⟩ n = texb nm ++ (numb (u64 z) ++ (bitsS L n).1)) := rfl
  generalize putB ⟨nm, z, L⟩ n = PB at HP ⊢
  obtain ⟨⟨rb, rok⟩, hr⟩ : ∃ p, bitsS L n = p := ⟨_, rfl⟩
  simp only [hr] at f5 hbl hbits HP
  have f5' : rok = true := f5
  subst f5'
  clear hr f5 f1 f2 f3 f4
  have h1 := (h.alloc (.cells #[X, .int .i64 z, .slice A L.length c] 24)).mono (S' := fun b => b < (w0.alloc (.cells #[X, .int .i64 z, .slice A L.length c] 24)).heap.size) fun b hb => by simp; omega
  have hL1 := hL.alloc (.cells #[X, .int .i64 z, .slice A L.length c] 24)
  have B0 := (Below.refl w0.heap.size w0).alloc (Nat.le_refl _) (.cells #[X, .int .i64 z, .slice A L.length c] 24)
  have K0 := KB.new w0 24 #[X, .int .i64 z, .slice A L.length c]
  have HCV : Hid (∀ W : World, ∃ c w', (convert 9 27 X).run Try.prog W = .ok (.slice (some ⟨W.heap.size, 0, none⟩) nm.length c) w' ∧ BS w' (fun b => W.heap.size ≤ b ∧ b < w'.heap.size) (.slice (some ⟨W.heap.size, 0, none⟩) nm.length c) nm ∧ Below W.heap.size W w') := fun W => by
    rw [hX]; exact conv_str W nm (by unfold maxLen; omega)
  have htext := fun S v W h => rtext_any S v nm W h (by omega)
  obtain ⟨i0, hi, hz0, hz1, hz2⟩ := info_parts info_byte
  have HLEN : Hid ((texb nm).length + (numb (u64 z)).length ≤ 140737488355328 ∧ (texb nm ++ numb (u64 z)).length + rb.length ≤ 140737488355328 ∧ texb nm ++ numb (u64 z) ++ rb = PB) := by
    have k1 := dig_length_le 8 nm.length
    have k2 := dig_length_le 8 (u64 z)
    refine ⟨?_, ?_, ?_⟩
    · simp [texb, numb]
      omega
    · simp [texb, numb]
      omega
    · rw [HP.out, List.append_assoc]
  clear h hL hf hX HP
  go_enter Try.func9, Try.ntmps9
  go_wp2_with fail
  generalize w0.alloc (.cells #[X, .int .i64 z, .slice A L.length c] 24) = w1 at K0 B0 h1 hL1 ⊢
  refine (hck _ h1).mono ?_
  rintro e w2 ⟨rfl, b2⟩
  have K2 := K0.below b2 K0.lt
  have B2 := B0.trans (b2.mono B0.size)
  have hL2 := (hL1.below' b2).mono (S' := fun b => b < w2.heap.size) fun b hb => by have := B2.size; omega
  have k0 := K2.cell 0
  have k1 := K2.cell 1
  have k2 := K2.cell 2
  clear K0 B0 h1 hL1 b2 hck
  go_wp2_with fail
  refine (hbits _ hL2).mono ?_
  rintro e w3 ⟨v3, rfl, x3, b3⟩
  have K3 := K2.below b3 K2.lt
  have B3 := B2.trans (b3.mono B2.size)
  replace x3 := x3.lt
  obtain ⟨A3, c3, rfl, _⟩ := x3.form
  clear K2 B2 hL2 b3 k0 k1 k2 hbits
  go_wp2_with fail
  rename_i KK hKK
  have HKK := Lib.hid hKK
  clear hKK
  have HC : Hid (∀ W, Below w3.heap.size w3 W → W.cell? ⟨w0.heap.size, 0, none⟩ = some X ∧ W.cell? ⟨w0.heap.size, 1, none⟩ = some (.int .i64 z)) := fun W h => ⟨(K3.below h K3.lt).cell 0, (K3.below h K3.lt).cell 1⟩
  have B : Below w3.heap.size w3 w3.drew := Below_drawn (Below.refl w3.heap.size w3) 1
  obtain ⟨c5, w5, hcv, x5, b5⟩ := HCV.out w3.drew
  refine wp_region_held_drew (S := (fun W => W.cell? ⟨w0.heap.size, 0, none⟩ = some X ∧ W.cell? ⟨w0.heap.size, 1, none⟩ = some (.int .i64 z))) (by kernel_rfl) (HC.out _ B) (fun hHeld => ?_)
  refine held_yes (o := ⟨some 19, _, _, _, _, _⟩) (v := ?_) 0 rfl (by kernel_rfl) (by kernel_rfl) (by kernel_rfl) (fun _ _ _ h => h) (by rfl) hHeld (fun w hSw => ?_) ?_
  rotate_left
  · (try dsimp only at hSw)
    go_simp
    with_reducible rfl
  go_frame
  refine held_yes (o := ⟨some 20, _, _, _, _, _⟩) (v := ?_) 1 rfl (by kernel_rfl) (by kernel_rfl) (by kernel_rfl) (fun _ _ _ h => h) (by rfl) hHeld (fun w hSw => ?_) ?_
  rotate_left
  · (try dsimp only at hSw)
    go_simp
    with_reducible rfl
  go_frame
  refine held_yes (o := ⟨some 23, _, _, _, _, _⟩) (v := ?_) 4 rfl (by kernel_rfl) (by kernel_rfl) (by kernel_rfl) (fun _ _ _ h => h) (by rfl) hHeld (fun w hSw => ?_) ?_
  rotate_left
  · (try dsimp only at hSw)
    go_simp
    with_reducible rfl
  go_frame
  refine held_yes (o := ⟨some 24, _, _, _, _, _⟩) (v := ?_) 5 rfl (by kernel_rfl) (by kernel_rfl) (by kernel_rfl) (fun _ _ _ h => h) (by rfl) hHeld (fun w hSw => ?_) ?_
  rotate_left
  · (try dsimp only at hSw)
    go_simp
    with_reducible rfl
  go_frame
  refine held_yes (o := ⟨some 27, _, _, _, _, _⟩) (v := ?_) 8 rfl (by kernel_rfl) (by kernel_rfl) (by kernel_rfl) (fun _ _ _ h => h) (by rfl) hHeld (fun w hSw => ?_) ?_
  rotate_left
  · (try dsimp only at hSw)
    go_simp
    with_reducible rfl
  go_frame
  refine held_one (o := ⟨some 21, _, _, _, _, _⟩) 2 (by kernel_rfl) rfl (by rfl) (fun K hK => ?_)
  go_simp
  replace B : Below w3.heap.size w3 w5 := B.trans (b5.mono B.size)
  replace x3 := (x3.drewN 1).below' b5
  clear hcv b5
  refine hK.out _ _ ?_ (fun hH2 => ?_)
  · exact HC.out _ B
  clear hHeld hK K
  have hHeld := hH2
  clear hH2
  try go_frame
  refine held_one (o := ⟨some 22, _, _, _, _, _⟩) 3 (by kernel_rfl) rfl (by rfl) (fun K hK => ?_)
  go_simp
  go_at_call 25
  refine (htext _ _ _ x5).mono ?_
  rintro e w6 ⟨v6, rfl, o6, b6⟩
  replace x3 := x3.below' b6
  have h35 := B.size
  have h03 := B3.size
  have h56b := b6.size
  replace B := B.trans (b6.mono B.size)
  clear b6 x5
  go_wp2_with fail
  refine hK.out _ _ ?_ (fun hH2 => ?_)
  · exact HC.out _ B
  clear hHeld hK K
  have hHeld := hH2
  clear hH2
  try go_frame
  refine held_one (o := ⟨some 25, _, _, _, _, _⟩) 6 (by kernel_rfl) rfl (by rfl) (fun K hK => ?_)
  go_simp
  go_at_call 26
  refine (rint_any z _).mono ?_
  rintro e w7 ⟨v7, rfl, o7, b7⟩
  have x7 := own_BS o7
  have h57 := b7.size
  replace o6 := own_past b7 o6
  replace x3 := x3.below' b7
  replace B := B.trans (b7.mono B.size)
  clear b7 o7
  have hs57 : w5.heap.size ≤ w7.heap.size := Nat.le_trans h56b h57
  go_wp2_with fail
  refine hK.out _ _ ?_ (fun hH2 => ?_)
  · exact HC.out _ B
  clear hHeld hK K
  have hHeld := hH2
  clear hH2
  try go_frame
  refine held_one (o := ⟨some 26, _, _, _, _, _⟩) 7 (by kernel_rfl) rfl (by rfl) (fun K hK => ?_)
  refine wp_grow (.tmp 22) (.tmp 25) _ rfl w5.heap.size 5 i0 Try.underlying27 hi hz0 hz1 hz2 v6 (texb nm) rfl o6 _ _ (numb (u64 z)) rfl x7 HLEN.out.1 hs57 ?_
  intro v8 w8 o8 g8 _
  have hO : ∀ g, v6.ownBlock = some g → w5.heap.size ≤ g := fun g hg => own_ge o6 g hg
  replace x3 := x3.grown g8 (fun g hg hs => by have := hO g hg; omega)
  replace B := B.grown g8 B.size (fun g hg => by have := hO g hg; omega)
  have hs58 := Nat.le_trans hs57 g8.size
  clear x7 g8 o6 hO
  refine hK.out _ _ ?_ (fun hH2 => ?_)
  · exact HC.out _ B
  clear hHeld hK K
  have hHeld := hH2
  clear hH2
  try go_frame
  refine held_one (o := ⟨some 28, _, _, _, _, _⟩) 9 (by kernel_rfl) rfl (by rfl) (fun K hK => ?_)
  refine wp_grow (.tmp 26) (.tmp 27) _ rfl w5.heap.size 5 i0 Try.underlying27 hi hz0 hz1 hz2 v8 (texb nm ++ numb (u64 z)) rfl o8 _ _ rb rfl x3 HLEN.out.2.1 hs58 ?_
  intro v9 w9 o9 g9 _
  have hO : ∀ g, v8.ownBlock = some g → w5.heap.size ≤ g := fun g hg => own_ge o8 g hg
  replace B := B.grown g9 B.size (fun g hg => by have := hO g hg; omega)
  have x9 := (own_BS o9).mono (S' := fun b => w0.heap.size ≤ b) fun b hb => by have := hb.1; omega
  rw [HLEN.out.2.2] at x9
  clear x3 g9 o8 o9 hO
  refine hK.out _ _ ?_ (fun hH2 => ?_)
  · exact HC.out _ B
  clear hHeld hK K
  have hHeld := hH2
  clear hH2
  try go_frame
  refine held_yes (o := ⟨some 4, _, _, _, _, _⟩) (v := ?_) 10 rfl (by kernel_rfl) (by kernel_rfl) (by kernel_rfl) (fun _ _ _ h => h) (by rfl) hHeld (fun w hSw => ?_) ?_
  rotate_left
  · (try dsimp only at hSw)
    go_simp
    with_reducible rfl
  go_frame
  refine held_yes (o := ⟨some 5, _, _, _, _, _⟩) (v := ?_) 11 rfl (by kernel_rfl) (by kernel_rfl) (by kernel_rfl) (fun _ _ _ h => h) (by rfl) hHeld (fun w hSw => ?_) ?_
  rotate_left
  · (try dsimp only at hSw)
    go_simp
    with_reducible rfl
  go_frame
  refine wpAnyH_done (by kernel_rfl) ?_ _
  have hPA : PutAs w0 (PB, 0) (.returned (.tuple #[v9, .int .i64 0])) _ := ⟨_, rfl, x9, B3.trans (B.mono B3.size)⟩
  have hKK := HKK.out
  clear HC HLEN HCV htext
  go_wp2_with fail
  go_ret2
  exact hPA

/-- Put. -/
theorem rput_any (v : Value) (x : Ino) (n : Int) (w : World) (h : IV w (fun b => b < w.heap.size) v x) :
    Calls Try.prog 9 #[v, .int .i64 n] w (PutAs w (putS x n)) := by
  unfold putS
  by_cases hf : fitS x n = true
  · rw [if_pos hf]
    obtain ⟨a, rfl, ha, hz, hl⟩ := id h
    obtain ⟨A, c, rfl, hc, hcm, _⟩ := ha.form
    exact rput_yes w rfl hf ha h
  · rw [if_neg hf]
    exact rput_no v x n hf w h
end Go.Proofs.Ytgahnjhibpcbaaa
