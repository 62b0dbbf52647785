/-
  The bytes of an inode: the program's Put (layer 12), over the loaded program. No condition but sizes that each contract names.
-/
import Derived.Test.YtgahnjhibpcbaaaInC
import Derived.Test.YtgahnjhibpcbaaaTlvC
namespace Go.Proofs.Ytgahnjhibpcbaaa
open Go.RowKit
set_option maxRecDepth 100000
set_option linter.unusedVariables false

/-- What Put hands back. -/
def PutAs (w : World) (r : List UInt8 × Int) (e : Ending) (w' : World) : Prop :=
  ∃ v, e = .returned (.tuple #[v, .int .i64 r.2]) ∧ BS w' (fun b => w.heap.size ≤ b) v r.1 ∧ Below w.heap.size w w'
theorem PutAs.no {w w' : World} (h : Below w.heap.size w w') : PutAs w ([], 1) (.returned (.tuple #[.slice none 0 0, .int .i64 1])) w' := ⟨_, rfl, BS.nil _ _, h⟩

theorem put_no (v : Value) (x : Ino) (n : Int) (hf : ¬ fitS x n = true) (hsm : x.at_.length ≤ 1000000000) (w : World) (h : IV w (fun b => b < w.heap.size) v x) :
    Calls Try.prog 8 #[v, .int .i64 n] w (PutAs w ([], 1)) := by
  have hck := fun W h => check_any v x n hsm W h
  rw [chk_no hf] at hck
  obtain ⟨a, e, ha, hz, hl⟩ := id h
  obtain ⟨A, c, rfl, hc, hcm, _⟩ := ha.form
  subst e
  have h1 := (h.alloc (.cells #[strV x.name, .int .i64 x.size, .slice A x.at_.length c] 24)).mono (S' := fun b => b < (w.alloc (.cells #[strV x.name, .int .i64 x.size, .slice A x.at_.length c] 24)).heap.size) fun b hb => by simp; omega
  have B0 := (Below.refl w.heap.size w).alloc (Nat.le_refl _) (.cells #[strV x.name, .int .i64 x.size, .slice A x.at_.length c] 24)
  have hpa := fun w' h => PutAs.no (w := w) (w' := w') h
  generalize strV x.name = X at *
  clear h ha
  go_enter Try.func8, Try.ntmps8
  go_wp2_with (go_at_call 12; refine (hck _ h1).mono ?_; rintro e w2 ⟨rfl, b2⟩)
  go_ret2
  exact hpa _ (B0.trans (b2.mono B0.size))

set_option maxHeartbeats 2000000 in
theorem put_yes {X : Value} {nm : List UInt8} {z n : Int} {A : Option Addr} {L : List Int} {c : Nat} (w0 : World) (hX : X = strV nm) (hf : fitS ⟨nm, z, L⟩ n = true) (hL : IS w0 (fun b => b < w0.heap.size) (.slice A L.length c) L) (hsm : L.length ≤ 1000000000)
    (h : IV w0 (fun b => b < w0.heap.size) (.agg #[X, .int .i64 z, .slice A L.length c]) ⟨nm, z, L⟩) :
    Calls Try.prog 8 #[.agg #[X, .int .i64 z, .slice A L.length c], .int .i64 n] w0 (PutAs w0 (putB ⟨nm, z, L⟩ n, 0)) := by
  obtain ⟨f1, f2, f3, f4, f5⟩ := (fit_iff _ n).1 hf
  obtain ⟨_, f1b, _⟩ := (name_iff _).1 f1
  replace f1b : nm.length ≤ 16 := f1b
  have hck := fun W h => check_any (.agg #[X, .int .i64 z, .slice A L.length c]) ⟨nm, z, L⟩ n hsm W h
  rw [chk_yes hf] at hck
  have hbits := fun W h => bits_any (.slice A L.length c) L n hsm W h
  have hbl : (bitsS L n).1.length ≤ 512 := by
    obtain ⟨⟨_, b2, _⟩, b4⟩ := bitsS_yes f5
    rw [b4, bitsB_length]
    unfold bytesN
    omega
  have HP : Hid (putB ⟨nm, z, L⟩ n = texb nm ++ (numb (u64 z) ++ (bitsS L n).1)) := rfl
  generalize putB ⟨nm, z, L⟩ n = PB at HP ⊢
  obtain ⟨⟨rb, rok⟩, hr⟩ : ∃ p, bitsS L n = p := ⟨_, rfl⟩
  simp only [hr] at f5 hbl hbits HP
  have f5' : rok = true := f5
  subst f5'
  clear hr f5 f1 f2 f3 f4
  have h1 := (h.alloc (.cells #[X, .int .i64 z, .slice A L.length c] 24)).mono (S' := fun b => b < (w0.alloc (.cells #[X, .int .i64 z, .slice A L.length c] 24)).heap.size) fun b hb => by simp; omega
  have hL1 := hL.alloc (.cells #[X, .int .i64 z, .slice A L.length c] 24)
  have B0 := (Below.refl w0.heap.size w0).alloc (Nat.le_refl _) (.cells #[X, .int .i64 z, .slice A L.length c] 24)
  have K0 := KB.new w0 24 #[X, .int .i64 z, .slice A L.length c]
  have HCV : Hid (∀ W : World, ∃ c w', (convert 9 27 X).run Try.prog W = .ok (.slice (some ⟨W.heap.size, 0, none⟩) nm.length c) w' ∧ BS w' (fun b => W.heap.size ≤ b ∧ b < w'.heap.size) (.slice (some ⟨W.heap.size, 0, none⟩) nm.length c) nm ∧ Below W.heap.size W w') := fun W => by
    rw [hX]; exact conv_str W nm (by unfold maxLen; omega)
  have htext := fun S v W h => text_any S v nm W h (by omega)
  have HLEN : Hid ((flat [texb nm, numb (u64 z), rb]).length ≤ 140737488355328 ∧ flat [texb nm, numb (u64 z), rb] = PB) := by
    constructor
    · have k1 := dig_length_le 8 nm.length
      have k2 := dig_length_le 8 (u64 z)
      simp [flat, texb, numb]
      omega
    · rw [HP.out]; simp [flat]
  clear h hL hf hX HP
  go_enter Try.func8, Try.ntmps8
  go_wp2_with fail
  generalize w0.alloc (.cells #[X, .int .i64 z, .slice A L.length c] 24) = w1 at K0 B0 h1 hL1 ⊢
  refine (hck _ h1).mono ?_
  rintro e w2 ⟨rfl, b2⟩
  have K2 := K0.below b2 K0.lt
  have B2 := B0.trans (b2.mono B0.size)
  have hL2 := (hL1.below' b2).mono (S' := fun b => b < w2.heap.size) fun b hb => by have := B2.size; omega
  have k0 := K2.cell 0
  have k1 := K2.cell 1
  have k2 := K2.cell 2
  clear K0 B0 h1 hL1 b2 hck
  go_wp2_with fail
  refine (hbits _ hL2).mono ?_
  rintro e w3 ⟨v3, rfl, x3, b3⟩
  have K3 := K2.below b3 K2.lt
  have B3 := B2.trans (b3.mono B2.size)
  replace x3 := x3.lt
  obtain ⟨A3, c3, rfl, _⟩ := x3.form
  clear K2 B2 hL2 b3 k0 k1 k2 hbits
  go_wp2_with fail
  rename_i KK hKK
  have HKK := Lib.hid hKK
  clear hKK
  have HC : Hid (∀ W, Below w3.heap.size w3 W → W.cell? ⟨w0.heap.size, 0, none⟩ = some X ∧ W.cell? ⟨w0.heap.size, 1, none⟩ = some (.int .i64 z)) := fun W h => ⟨(K3.below h K3.lt).cell 0, (K3.below h K3.lt).cell 1⟩
  have B : Below w3.heap.size w3 w3.drew := Below_drawn (Below.refl w3.heap.size w3) 1
  obtain ⟨c5, w5, hcv, x5, b5⟩ := HCV.out w3.drew
  refine wp_region_held_drew (S := (fun W => W.cell? ⟨w0.heap.size, 0, none⟩ = some X ∧ W.cell? ⟨w0.heap.size, 1, none⟩ = some (.int .i64 z))) (by kernel_rfl) (HC.out _ B) (fun hHeld => ?_)
  refine held_yes (o := ⟨some 22, _, _, _, _, _⟩) (v := ?_) 0 rfl (by kernel_rfl) (by kernel_rfl) (by kernel_rfl) (fun _ _ _ h => h) (by rfl) hHeld (fun w hSw => ?_) ?_
  rotate_left
  · (try dsimp only at hSw)
    go_simp
    with_reducible rfl
  go_frame
  refine held_yes (o := ⟨some 23, _, _, _, _, _⟩) (v := ?_) 1 rfl (by kernel_rfl) (by kernel_rfl) (by kernel_rfl) (fun _ _ _ h => h) (by rfl) hHeld (fun w hSw => ?_) ?_
  rotate_left
  · (try dsimp only at hSw)
    go_simp
    with_reducible rfl
  go_frame
  refine held_yes (o := ⟨some 26, _, _, _, _, _⟩) (v := ?_) 4 rfl (by kernel_rfl) (by kernel_rfl) (by kernel_rfl) (fun _ _ _ h => h) (by rfl) hHeld (fun w hSw => ?_) ?_
  rotate_left
  · (try dsimp only at hSw)
    go_simp
    with_reducible rfl
  go_frame
  refine held_yes (o := ⟨some 27, _, _, _, _, _⟩) (v := ?_) 5 rfl (by kernel_rfl) (by kernel_rfl) (by kernel_rfl) (fun _ _ _ h => h) (by rfl) hHeld (fun w hSw => ?_) ?_
  rotate_left
  · (try dsimp only at hSw)
    go_simp
    with_reducible rfl
  go_frame
  refine held_yes (o := ⟨some 29, _, _, _, _, _⟩) (v := ?_) 7 rfl (by kernel_rfl) (by kernel_rfl) (by kernel_rfl) (fun _ _ _ h => h) (by rfl) hHeld (fun w hSw => ?_) ?_
  rotate_left
  · (try dsimp only at hSw)
    go_simp
    with_reducible rfl
  go_frame
  refine held_one (o := ⟨some 24, _, _, _, _, _⟩) 2 (by kernel_rfl) rfl (by rfl) (fun K hK => ?_)
  go_simp
  replace B : Below w3.heap.size w3 w5 := B.trans (b5.mono B.size)
  replace x3 := (x3.drewN 1).below' b5
  clear hcv b5
  refine hK.out _ _ ?_ (fun hH2 => ?_)
  · exact HC.out _ B
  clear hHeld hK K
  have hHeld := hH2
  clear hH2
  try go_frame
  refine held_one (o := ⟨some 25, _, _, _, _, _⟩) 3 (by kernel_rfl) rfl (by rfl) (fun K hK => ?_)
  go_simp
  go_at_call 21
  refine (htext _ _ _ x5).mono ?_
  rintro e w6 ⟨v6, rfl, o6, b6⟩
  have x6 := own_BS o6
  obtain ⟨A6, c6, rfl, _⟩ := x6.form
  replace x3 := x3.below' b6
  replace B := B.trans (b6.mono B.size)
  clear b6 o6 x5
  go_wp2_with fail
  refine hK.out _ _ ?_ (fun hH2 => ?_)
  · exact HC.out _ B
  clear hHeld hK K
  have hHeld := hH2
  clear hH2
  try go_frame
  refine held_one (o := ⟨some 28, _, _, _, _, _⟩) 6 (by kernel_rfl) rfl (by rfl) (fun K hK => ?_)
  go_simp
  go_at_call 22
  refine (int_any z _).mono ?_
  rintro e w7 ⟨v7, rfl, o7, b7⟩
  have x7 := own_BS o7
  obtain ⟨A7, c7, rfl, _⟩ := x7.form
  replace x6 := x6.below' b7
  replace x3 := x3.below' b7
  replace B := B.trans (b7.mono B.size)
  clear b7 o7
  go_wp2_with fail
  refine hK.out _ _ ?_ (fun hH2 => ?_)
  · exact HC.out _ B
  clear hHeld hK K
  have hHeld := hH2
  clear hH2
  try go_frame
  refine held_one (o := ⟨some 30, _, _, _, _, _⟩) 8 (by kernel_rfl) rfl (by rfl) (fun K hK => ?_)
  go_simp
  have hls := LS.three (t := 27) (x6.mono (S' := fun _ => True) fun _ _ => trivial) (x7.mono (S' := fun _ => True) fun _ _ => trivial) (x3.mono (S' := fun _ => True) fun _ _ => trivial)
  replace B := B.alloc B.size (.cells #[.slice A6 (texb nm).length c6, .slice A7 (numb (u64 z)).length c7, .slice A3 rb.length c3] 27)
  have HB : Hid (w0.heap.size ≤ (w7.alloc (.cells #[.slice A6 (texb nm).length c6, .slice A7 (numb (u64 z)).length c7, .slice A3 rb.length c3] 27)).heap.size) := Nat.le_trans B3.size B.size
  clear x6 x7 x3
  refine hK.out _ _ ?_ (fun hH2 => ?_)
  · exact HC.out _ B
  clear hHeld hK K
  have hHeld := hH2
  clear hH2
  try go_frame
  refine held_one (o := ⟨some 31, _, _, _, _, _⟩) 9 (by kernel_rfl) rfl (by rfl) (fun K hK => ?_)
  go_simp
  go_at_call 20
  refine (all_any _ _ _ _ hls HLEN.out.1).mono ?_
  rintro e w8 ⟨v8, rfl, o8, b8⟩
  replace B := B.trans (b8.mono B.size)
  have x8 := (own_BS o8).mono (S' := fun b => w0.heap.size ≤ b) fun b hb => Nat.le_trans HB.out hb.1
  rw [HLEN.out.2] at x8
  clear b8 o8 hls
  go_wp2_with fail
  refine hK.out _ _ ?_ (fun hH2 => ?_)
  · exact HC.out _ B
  clear hHeld hK K
  have hHeld := hH2
  clear hH2
  try go_frame
  refine held_yes (o := ⟨some 4, _, _, _, _, _⟩) (v := ?_) 10 rfl (by kernel_rfl) (by kernel_rfl) (by kernel_rfl) (fun _ _ _ h => h) (by rfl) hHeld (fun w hSw => ?_) ?_
  rotate_left
  · (try dsimp only at hSw)
    go_simp
    with_reducible rfl
  go_frame
  refine held_yes (o := ⟨some 5, _, _, _, _, _⟩) (v := ?_) 11 rfl (by kernel_rfl) (by kernel_rfl) (by kernel_rfl) (fun _ _ _ h => h) (by rfl) hHeld (fun w hSw => ?_) ?_
  rotate_left
  · (try dsimp only at hSw)
    go_simp
    with_reducible rfl
  go_frame
  refine wpAnyH_done (by kernel_rfl) ?_ _
  have hPA : PutAs w0 (PB, 0) (.returned (.tuple #[v8, .int .i64 0])) _ := ⟨_, rfl, x8, B3.trans (B.mono B3.size)⟩
  have hKK := HKK.out
  clear HB HC HLEN HCV htext
  go_wp2_with fail
  go_ret2
  exact hPA

/-- Put. -/
theorem put_any (v : Value) (x : Ino) (n : Int) (hsm : x.at_.length ≤ 1000000000) (w : World) (h : IV w (fun b => b < w.heap.size) v x) :
    Calls Try.prog 8 #[v, .int .i64 n] w (PutAs w (putS x n)) := by
  unfold putS
  by_cases hf : fitS x n = true
  · rw [if_pos hf]
    obtain ⟨a, rfl, ha, hz, hl⟩ := id h
    obtain ⟨A, c, rfl, hc, hcm, _⟩ := ha.form
    exact put_yes w rfl hf ha hsm h
  · rw [if_neg hf]
    exact put_no v x n hf hsm w h
end Go.Proofs.Ytgahnjhibpcbaaa
