/-
  InD: The bytes of an inode: the program's Put (layer 12), over the loaded program. No condition but sizes that each contract names.
  StU: What a change writes, over the loaded program: nodeSector: its contract. No condition but what each theorem names.
  AlD: The program's Cut, over the loaded program: its contract. No condition but sizes that it names.
-/
import Derived.Test.YteddmnoeljakpaaGreatDoorSw34
import Derived.Test.YteddmnoeljakpaaGreatDoorSw20
import Derived.Test.YteddmnoeljakpaaGreatDoorSw31
import Derived.Test.YteddmnoeljakpaaGreatDoorSw32
import Derived.Test.YteddmnoeljakpaaGreatDoorSw33
import Derived.Test.YteddmnoeljakpaaGreatDoorSw11
set_option linter.unusedVariables false
set_option maxRecDepth 100000
namespace Go.Proofs.YteddmnoeljakpaaGreatDoor
section
open Go.RowKit
def PutAs (w : World) (r : List UInt8 × Int) (e : Ending) (w' : World) : Prop :=
  ∃ v, e = .returned (.tuple #[v, .int .i64 r.2]) ∧ BS w' (fun b => w.heap.size ≤ b) v r.1 ∧ Below w.heap.size w w'
theorem PutAs.no {w w' : World} (h : Below w.heap.size w w') : PutAs w ([], 1) (.returned (.tuple #[.slice none 0 0, .int .i64 1])) w' := ⟨_, rfl, BS.nil _ _, h⟩
theorem put_no (v : Value) (x : Ino) (n : Int) (hf : ¬ fitS x n = true) (hsm : x.at_.length ≤ 1000000000) (w : World) (h : IV w (fun b => b < w.heap.size) v x) :
    Calls Tryz.prog 117 #[v, .int .i64 n] w (PutAs w ([], 1)) := by
  have hck := fun W h => icheck_any v x n hsm W h
  rw [chk_no hf] at hck
  obtain ⟨a, e, ha, hz, hl⟩ := id h
  obtain ⟨A, c, rfl, hc, hcm, _⟩ := ha.form
  subst e
  have h1 := (h.alloc (.cells #[strV x.name, .int .i64 x.size, .slice A x.at_.length c] 91)).mono (S' := fun b => b < (w.alloc (.cells #[strV x.name, .int .i64 x.size, .slice A x.at_.length c] 91)).heap.size) fun b hb => by simp; omega
  have B0 := (Below.refl w.heap.size w).alloc (Nat.le_refl _) (.cells #[strV x.name, .int .i64 x.size, .slice A x.at_.length c] 91)
  have hpa := fun w' h => PutAs.no (w := w) (w' := w') h
  generalize strV x.name = X at *
  clear h ha
  go_enter Tryz.func117, Tryz.ntmps117
  go_wp2_with (go_at_call 133; refine (hck _ h1).mono ?_; rintro e w2 ⟨rfl, b2⟩)
  go_ret2
  exact hpa _ (B0.trans (b2.mono B0.size))
set_option maxHeartbeats 2000000 in
theorem iput_yes {X : Value} {nm : List UInt8} {z n : Int} {A : Option Addr} {L : List Int} {c : Nat} (w0 : World) (hX : X = strV nm) (hf : fitS ⟨nm, z, L⟩ n = true) (hL : IS w0 (fun b => b < w0.heap.size) (.slice A L.length c) L) (hsm : L.length ≤ 1000000000)
    (h : IV w0 (fun b => b < w0.heap.size) (.agg #[X, .int .i64 z, .slice A L.length c]) ⟨nm, z, L⟩) :
    Calls Tryz.prog 117 #[.agg #[X, .int .i64 z, .slice A L.length c], .int .i64 n] w0 (PutAs w0 (putB ⟨nm, z, L⟩ n, 0)) := by
  obtain ⟨f1, f2, f3, f4, f5⟩ := (fit_iff _ n).1 hf
  obtain ⟨_, f1b, _⟩ := (name_iff _).1 f1
  replace f1b : nm.length ≤ 16 := f1b
  have hck := fun W h => icheck_any (.agg #[X, .int .i64 z, .slice A L.length c]) ⟨nm, z, L⟩ n hsm W h
  rw [chk_yes hf] at hck
  have hbits := fun W h => bits_any (.slice A L.length c) L n hsm W h
  have hbl : (bitsS L n).1.length ≤ 512 := by
    obtain ⟨⟨_, b2, _⟩, b4⟩ := bitsS_yes f5
    rw [b4, bitsB_length]
    unfold bytesN
    omega
  have HP : Hid (putB ⟨nm, z, L⟩ n = texb nm ++ (numb (u64 z) ++ (bitsS L n).1)) := rfl
  generalize putB ⟨nm, z, L⟩ n = PB at HP ⊢
  obtain ⟨⟨rb, rok⟩, hr⟩ : ∃ p, bitsS L n = p := ⟨_, rfl⟩
  simp only [hr] at f5 hbl hbits HP
  have f5' : rok = true := f5
  subst f5'
  clear hr f5 f1 f2 f3 f4
  have h1 := (h.alloc (.cells #[X, .int .i64 z, .slice A L.length c] 91)).mono (S' := fun b => b < (w0.alloc (.cells #[X, .int .i64 z, .slice A L.length c] 91)).heap.size) fun b hb => by simp; omega
  have hL1 := hL.alloc (.cells #[X, .int .i64 z, .slice A L.length c] 91)
  have B0 := (Below.refl w0.heap.size w0).alloc (Nat.le_refl _) (.cells #[X, .int .i64 z, .slice A L.length c] 91)
  have K0 := KB.new w0 91 #[X, .int .i64 z, .slice A L.length c]
  have HCV : Hid (∀ W : World, ∃ c w', (convert 9 55 X).run Tryz.prog W = .ok (.slice (some ⟨W.heap.size, 0, none⟩) nm.length c) w' ∧ BS w' (fun b => W.heap.size ≤ b ∧ b < w'.heap.size) (.slice (some ⟨W.heap.size, 0, none⟩) nm.length c) nm ∧ Below W.heap.size W w') := fun W => by
    rw [hX]; exact conv_str W nm (by unfold maxLen; omega)
  have htext := fun S v W h => text_any S v nm W h (by omega)
  have HLEN : Hid ((flat [texb nm, numb (u64 z), rb]).length ≤ 140737488355328 ∧ flat [texb nm, numb (u64 z), rb] = PB) := by
    constructor
    · have k1 := dig_length_le 8 nm.length
      have k2 := dig_length_le 8 (u64 z)
      simp [flat, texb, numb]
      omega
    · rw [HP.out]; simp [flat]
  clear h hL hf hX HP
  go_enter Tryz.func117, Tryz.ntmps117
  go_wp2_with fail
  generalize w0.alloc (.cells #[X, .int .i64 z, .slice A L.length c] 91) = w1 at K0 B0 h1 hL1 ⊢
  refine (hck _ h1).mono ?_
  rintro e w2 ⟨rfl, b2⟩
  have K2 := K0.below b2 K0.lt
  have B2 := B0.trans (b2.mono B0.size)
  have hL2 := (hL1.below' b2).mono (S' := fun b => b < w2.heap.size) fun b hb => by have := B2.size; omega
  have k0 := K2.cell 0
  have k1 := K2.cell 1
  have k2 := K2.cell 2
  clear K0 B0 h1 hL1 b2 hck
  go_wp2_with fail
  refine (hbits _ hL2).mono ?_
  rintro e w3 ⟨v3, rfl, x3, b3⟩
  have K3 := K2.below b3 K2.lt
  have B3 := B2.trans (b3.mono B2.size)
  replace x3 := x3.lt
  obtain ⟨A3, c3, rfl, _⟩ := x3.form
  clear K2 B2 hL2 b3 k0 k1 k2 hbits
  go_wp2_with fail
  rename_i KK hKK
  have HKK := Lib.hid hKK
  clear hKK
  have HC : Hid (∀ W, Below w3.heap.size w3 W → W.cell? ⟨w0.heap.size, 0, none⟩ = some X ∧ W.cell? ⟨w0.heap.size, 1, none⟩ = some (.int .i64 z)) := fun W h => ⟨(K3.below h K3.lt).cell 0, (K3.below h K3.lt).cell 1⟩
  have B : Below w3.heap.size w3 w3.drew := Below_drawn (Below.refl w3.heap.size w3) 1
  obtain ⟨c5, w5, hcv, x5, b5⟩ := HCV.out w3.drew
  refine wp_region_held_drew (S := (fun W => W.cell? ⟨w0.heap.size, 0, none⟩ = some X ∧ W.cell? ⟨w0.heap.size, 1, none⟩ = some (.int .i64 z))) (by kernel_rfl) (HC.out _ B) (fun hHeld => ?_)
  refine hyY (some 22) 0 rfl hHeld ?_; go_frame
  refine hyY (some 23) 1 rfl hHeld ?_; go_frame
  refine hyY (some 26) 4 rfl hHeld ?_; go_frame
  refine hyY (some 27) 5 rfl hHeld ?_; go_frame
  refine hyY (some 29) 7 rfl hHeld ?_; go_frame
  refine hyO (some 24) 2 rfl (fun K hK => ?_)
  go_simp
  replace B : Below w3.heap.size w3 w5 := B.trans (b5.mono B.size)
  replace x3 := (x3.drewN 1).below' b5
  clear hcv b5
  refine hK.out _ _ ?_ (fun hH2 => ?_)
  · exact HC.out _ B
  clear hHeld hK K; have hHeld := hH2; clear hH2; try go_frame
  refine hyO (some 25) 3 rfl (fun K hK => ?_)
  go_simp
  go_at_call 156
  refine (htext _ _ _ x5).mono ?_
  rintro e w6 ⟨v6, rfl, o6, b6⟩
  have x6 := own_BS o6
  obtain ⟨A6, c6, rfl, _⟩ := x6.form
  replace x3 := x3.below' b6
  replace B := B.trans (b6.mono B.size)
  clear b6 o6 x5
  go_wp2_with fail
  refine hK.out _ _ ?_ (fun hH2 => ?_)
  · exact HC.out _ B
  clear hHeld hK K; have hHeld := hH2; clear hH2; try go_frame
  refine hyO (some 28) 6 rfl (fun K hK => ?_)
  go_simp
  go_at_call 157
  refine (int_any z _).mono ?_
  rintro e w7 ⟨v7, rfl, o7, b7⟩
  have x7 := own_BS o7
  obtain ⟨A7, c7, rfl, _⟩ := x7.form
  replace x6 := x6.below' b7
  replace x3 := x3.below' b7
  replace B := B.trans (b7.mono B.size)
  clear b7 o7
  go_wp2_with fail
  refine hK.out _ _ ?_ (fun hH2 => ?_)
  · exact HC.out _ B
  clear hHeld hK K; have hHeld := hH2; clear hH2; try go_frame
  refine hyO (some 30) 8 rfl (fun K hK => ?_)
  go_simp
  have hls := LS.three (t := 55) (x6.mono (S' := fun _ => True) fun _ _ => trivial) (x7.mono (S' := fun _ => True) fun _ _ => trivial) (x3.mono (S' := fun _ => True) fun _ _ => trivial)
  replace B := B.alloc B.size (.cells #[.slice A6 (texb nm).length c6, .slice A7 (numb (u64 z)).length c7, .slice A3 rb.length c3] 55)
  have HB : Hid (w0.heap.size ≤ (w7.alloc (.cells #[.slice A6 (texb nm).length c6, .slice A7 (numb (u64 z)).length c7, .slice A3 rb.length c3] 55)).heap.size) := Nat.le_trans B3.size B.size
  clear x6 x7 x3
  refine hK.out _ _ ?_ (fun hH2 => ?_)
  · exact HC.out _ B
  clear hHeld hK K; have hHeld := hH2; clear hH2; try go_frame
  refine hyO (some 31) 9 rfl (fun K hK => ?_)
  go_simp
  go_at_call 155
  refine (all_any _ _ _ _ hls HLEN.out.1).mono ?_
  rintro e w8 ⟨v8, rfl, o8, b8⟩
  replace B := B.trans (b8.mono B.size)
  have x8 := (own_BS o8).mono (S' := fun b => w0.heap.size ≤ b) fun b hb => Nat.le_trans HB.out hb.1
  rw [HLEN.out.2] at x8
  clear b8 o8 hls
  go_wp2_with fail
  refine hK.out _ _ ?_ (fun hH2 => ?_)
  · exact HC.out _ B
  clear hHeld hK K; have hHeld := hH2; clear hH2; try go_frame
  refine hyY (some 4) 10 rfl hHeld ?_; go_frame
  refine hyY (some 5) 11 rfl hHeld ?_; go_frame
  refine wpAnyH_done (by kernel_rfl) ?_ _
  have hPA : PutAs w0 (PB, 0) (.returned (.tuple #[v8, .int .i64 0])) _ := ⟨_, rfl, x8, B3.trans (B.mono B3.size)⟩
  have hKK := HKK.out
  clear HB HC HLEN HCV htext
  go_wp2_with fail
  go_ret2
  exact hPA
theorem iput_any (v : Value) (x : Ino) (n : Int) (hsm : x.at_.length ≤ 1000000000) (w : World) (h : IV w (fun b => b < w.heap.size) v x) :
    Calls Tryz.prog 117 #[v, .int .i64 n] w (PutAs w (iputS x n)) := by
  unfold iputS
  by_cases hf : fitS x n = true
  · rw [if_pos hf]
    obtain ⟨a, rfl, ha, hz, hl⟩ := id h
    obtain ⟨A, c, rfl, hc, hcm, _⟩ := ha.form
    exact iput_yes w rfl hf ha hsm h
  · rw [if_neg hf]
    exact put_no v x n hf hsm w h
end
section
open Go.RowKit
section
variable {w : World} {a : SA} {c : CI} {nl : List Nd} {s : Dk} {br : Bool}
def NsAs (w : World) (l : List UInt8) (e : Ending) (w' : World) : Prop := ∃ A cp, e = .returned (.slice A l.length cp) ∧ BS w' (fun b => w.heap.size ≤ b ∧ b < w'.heap.size) (.slice A l.length cp) l ∧ Below w.heap.size w w'
set_option maxHeartbeats 4000000 in
theorem sector_gone (ss : Value) (nm : ByteArray) (X Y Z : Option Addr) (n1 n2 n3 z1 z2 z3 : Nat) (pl sz : Int) (nm2 : ByteArray) :
    Calls Tryz.prog 79 #[ss, .agg #[.string nm, .slice X n1 z1, .bool true, .int .i64 pl, .string nm2, .int .i64 sz, .slice Y n2 z2, .slice Z n3 z3]] w (NsAs w (zs 256)) := by
  have K0 := KB.new w 95 #[.string nm, .slice X n1 z1, .bool true, .int .i64 pl, .string nm2, .int .i64 sz, .slice Y n2 z2, .slice Z n3 z3]
  have B0 := (Below.refl w.heap.size w).alloc (Nat.le_refl _) (.cells #[.string nm, .slice X n1 z1, .bool true, .int .i64 pl, .string nm2, .int .i64 sz, .slice Y n2 z2, .slice Z n3 z3] 95)
  have e0 := K0.cell 2
  have hsz := K0.lt
  go_enter Tryz.func79, Tryz.ntmps79
  go_wp2_with fail
  refine (zero_any _).mono ?_
  rintro e w1 ⟨rfl, k1, b1⟩
  have x1 := kb_256 k1 (zs_len 256)
  clear K0 e0
  generalize w.alloc (.cells #[.string nm, .slice X n1 z1, .bool true, .int .i64 pl, .string nm2, .int .i64 sz, .slice Y n2 z2, .slice Z n3 z3] 95) = W0 at *
  go_wp2_with fail
  go_ret
  exact ⟨_, _, by rw [zs_len]; rfl, by rw [zs_len]; exact x1.lt.mono fun b hb => ⟨by have := hb.1; omega, hb.2⟩, B0.trans (b1.mono B0.size)⟩
set_option maxHeartbeats 4000000 in
theorem sector_there (sg : Nat) (D : Int) (nm : ByteArray) (X Y Z : Option Addr) (n1 n2 n3 z1 z2 z3 : Nat) (pl sz : Int) (nm2 : ByteArray) (R : List UInt8 × Int) (W0 : World) (hsg : sg < W0.heap.size)
    (hW0 : w.alloc (.cells #[.string nm, .slice X n1 z1, .bool false, .int .i64 pl, .string nm2, .int .i64 sz, .slice Y n2 z2, .slice Z n3 z3] 95) = W0) (c5 : W0.cell? ⟨sg, 5, none⟩ = some (.int .i64 D))
    (hip : ∀ W, Below W0.heap.size W0 W → Calls Tryz.prog 117 #[.agg #[.string nm2, .int .i64 sz, .slice Y n2 z2], .int .i64 D] W (PutAs W R)) :
    Calls Tryz.prog 79 #[.pointer (some ⟨sg, 0, none⟩), .agg #[.string nm, .slice X n1 z1, .bool false, .int .i64 pl, .string nm2, .int .i64 sz, .slice Y n2 z2, .slice Z n3 z3]] w (NsAs w (putS 3 R.1).1) := by
  have K0 := KB.new w 95 #[.string nm, .slice X n1 z1, .bool false, .int .i64 pl, .string nm2, .int .i64 sz, .slice Y n2 z2, .slice Z n3 z3]
  have B0 := (Below.refl w.heap.size w).alloc (Nat.le_refl _) (.cells #[.string nm, .slice X n1 z1, .bool false, .int .i64 pl, .string nm2, .int .i64 sz, .slice Y n2 z2, .slice Z n3 z3] 95)
  have e0 := K0.cell 2
  have e1 := K0.cell 4
  have e2 := K0.cell 5
  have e3 := K0.cell 6
  have hsz := K0.lt
  have HIP := Lib.hid hip
  have HB0 := Lib.hid B0
  clear hip K0 B0
  have c5 : (w.alloc (.cells #[.string nm, .slice X n1 z1, .bool false, .int .i64 pl, .string nm2, .int .i64 sz, .slice Y n2 z2, .slice Z n3 z3] 95)).cell? ⟨sg, 5, none⟩ = some (.int .i64 D) := by rw [hW0]; exact c5
  have HW0 := Lib.hid hW0
  clear hW0
  go_enter Tryz.func79, Tryz.ntmps79
  go_wp2_with fail
  rename_i KK hKK
  have HKK := Lib.hid hKK
  clear hKK
  generalize w.alloc (.cells #[.string nm, .slice X n1 z1, .bool false, .int .i64 pl, .string nm2, .int .i64 sz, .slice Y n2 z2, .slice Z n3 z3] 95) = W1 at *
  obtain rfl : W1 = W0 := HW0.out
  clear HW0
  have HC : Hid (∀ W, Below W1.heap.size W1 W → W.cell? ⟨w.heap.size, 4, none⟩ = some (.string nm2) ∧ W.cell? ⟨w.heap.size, 5, none⟩ = some (.int .i64 sz) ∧ W.cell? ⟨w.heap.size, 6, none⟩ = some (.slice Y n2 z2) ∧ W.cell? ⟨sg, 5, none⟩ = some (.int .i64 D)) :=
    fun W b => ⟨(World.cell?_of_block (b.block _ hsz)).trans e1, (World.cell?_of_block (b.block _ hsz)).trans e2, (World.cell?_of_block (b.block _ hsz)).trans e3, (World.cell?_of_block (b.block _ hsg)).trans c5⟩
  have BD := Below_drawn (Below.refl W1.heap.size W1) 1
  refine wp_region_held_drew (S := (fun W => W.cell? ⟨w.heap.size, 4, none⟩ = some (.string nm2) ∧ W.cell? ⟨w.heap.size, 5, none⟩ = some (.int .i64 sz) ∧ W.cell? ⟨w.heap.size, 6, none⟩ = some (.slice Y n2 z2) ∧ W.cell? ⟨sg, 5, none⟩ = some (.int .i64 D))) (by kernel_rfl) (HC.out _ BD) (fun hHeld => ?_)
  refine hyY (some 14) 0 rfl hHeld ?_; go_frame
  refine hyY (some 15) 1 rfl hHeld ?_; go_frame
  refine hyY (some 16) 2 rfl hHeld ?_; go_frame
  refine hyY (some 17) 3 rfl hHeld ?_; go_frame
  refine hyY (some 18) 4 rfl hHeld ?_; go_frame
  refine hyY (some 19) 5 rfl hHeld ?_; go_frame
  refine hyY (some 20) 6 rfl hHeld ?_; go_frame
  refine hyY (some 21) 7 rfl hHeld ?_; go_frame
  refine hyO (some 22) 8 rfl (fun K hK => ?_)
  go_simp
  go_at_call 117
  refine (HIP.out _ (Below_drawn (Below.refl _ _) 1)).mono ?_
  rintro e w1 ⟨v1, rfl, x1, b1⟩
  go_wp2_with fail
  refine hK.out _ _ ?_ (fun hH2 => ?_)
  · first | exact HC.out _ BD | exact HC.out _ (BD.trans b1)
  clear hHeld hK K; have hHeld := hH2; clear hH2; try go_frame
  refine hyY (some 13) 9 rfl hHeld ?_; go_frame
  refine hyY (some 23) 10 rfl hHeld ?_; go_frame
  refine hyY (some 24) 11 rfl hHeld ?_; go_frame
  refine hyY (some 5) 12 rfl hHeld ?_; go_frame
  refine hyY (some 6) 13 rfl hHeld ?_; go_frame
  refine wpAnyH_done (by kernel_rfl) ?_ _
  have hKK := HKK.out
  have x1' := x1.lt
  obtain ⟨A1, cp1, rfl, _⟩ := x1.form
  have hps := put_sect 3 _ _ R.1 w1 x1
  have B1 := (HB0.out.trans (BD.mono (by omega))).trans (b1.mono (by show w.heap.size ≤ W1.heap.size; omega))
  go_wp2_with (go_at_call 118; refine hps.mono ?_; rintro e w2 ⟨v2, rfl, o2, b2⟩)
  have x2 := own_BS o2
  obtain ⟨A2, c2, rfl, _⟩ := x2.form
  go_ret
  have hs1 := b1.size
  have hsD := BD.size
  exact ⟨_, _, rfl, x2.mono fun b hb => ⟨by have := hb.1; have := B1.size; omega, hb.2⟩, B1.trans (b2.mono B1.size)⟩
theorem nodeSector_any (h : ST w a c nl s br) (q : H8) (H : Ch) (k : H8ok w (fun b => b < w.heap.size) q H) (hl : H.at_.length ≤ 1000000) (hb : H.to.b.length ≤ 24576) (hn : H.to.name.length ≤ maxLen) :
    Calls Tryz.prog 79 #[.pointer (some ⟨a.sg, 0, none⟩), .agg (eight q).toArray] w (NsAs w (headS c.cn H)) := by
  obtain ⟨nm, bx, gone, place, nm2, sz, ax, lx⟩ := q
  obtain ⟨k1, ⟨X, z, k2, _⟩, k3, k4, k5, k6, ⟨Y, y, k7, hat⟩, ⟨Z, u, k8, _⟩⟩ := k
  simp only at k1 k2 k3 k4 k5 k6 k7 k8
  subst k1 k2 k3 k4 k5 k6 k7 k8
  show Calls _ _ #[_, .agg #[.string ⟨H.to.name.toArray⟩, .slice X H.to.b.length z, .bool H.to.gone, .int .i64 (H.place : Int), .string ⟨H.to.name.toArray⟩, .int .i64 (H.to.b.length : Int), .slice Y H.at_.length y, .slice Z H.loses.length u]] w _
  cases hg : H.to.gone with
  | true =>
    have hhd : headS c.cn H = zs 256 := by unfold headS; rw [if_pos hg]
    rw [hhd]
    exact sector_gone _ _ _ _ _ _ _ _ _ _ _ _ _ _
  | false =>
    have hhd : headS c.cn H = (putS 3 (iputS H.fe.ino c.cn.data).1).1 := by unfold headS; rw [if_neg (by rw [hg]; simp)]; rfl
    rw [hhd]
    have hcd : (c.cn.data : Int) = c.data := by
      obtain ⟨⟨⟨a1, a2⟩, ⟨b1, b2⟩, ⟨c1, c2⟩, d1, d2⟩, e⟩ := h.may
      unfold CI.cn
      simp only
      omega
    refine sector_there a.sg c.data _ _ _ _ _ _ _ _ _ _ _ _ _ _ _ (by have := h.kb.lt; simp; omega) rfl (h.alloc _).c5 fun W b => ?_
    rw [← hcd]
    refine iput_any _ H.fe.ino (c.cn.data : Int) (by show H.at_.length ≤ 1000000000; omega) W (IV.mk H.to.name (H.to.b.length : Int) (((hat.alloc _).below' b).mono fun x hx => ?_) ⟨by omega, by omega⟩ hn)
    have := b.size
    have : x < w.heap.size := hx
    simp at *
    omega
end
end
section
open Go.RowKit
theorem cut_lt {w : World} {B e size n : Nat} {v : Value} {xs : List Value} (h : w.ownsRow B e size v n xs) (k : Nat) (hk : v.ownBlock = some k) : k < w.heap.size := by
  obtain ⟨_, h2⟩ := h
  rcases h2 with ⟨rfl, _⟩ | ⟨g, c, cur, rfl, _, hg, _⟩
  · simp [Value.ownBlock] at hk
  · simp [Value.ownBlock] at hk; subst hk; exact (Array.getElem?_eq_some_iff.1 hg).1
def RowsAt (w0 w : World) (v : Value) (ls : List (List UInt8)) : Prop :=
  ∃ vs, w.ownsRow w0.heap.size 55 1 v vs.length vs ∧ VS w (fun x => w0.heap.size ≤ x ∧ x < w.heap.size ∧ v.ownBlock ≠ some x) vs ls
theorem RowsAt.nil (w0 w : World) : RowsAt w0 w (.slice none 0 0) [] := ⟨[], World.ownsRow_nil _ _ _ _, rfl, fun i v l hv _ => by simp at hv⟩
theorem RowsAt.len {w0 w : World} {v : Value} {ls : List (List UInt8)} (h : RowsAt w0 w v ls) : ∃ A c, v = .slice A ls.length c := by
  obtain ⟨vs, how, hvs⟩ := h
  obtain ⟨A, c, rfl, _⟩ := (CS.of_own how).form
  exact ⟨A, c, by rw [hvs.1]⟩
theorem RowsAt.ls {w0 w : World} {v : Value} {ls : List (List UInt8)} (h : RowsAt w0 w v ls) : LS w (fun x => w0.heap.size ≤ x ∧ x < w.heap.size) v ls := by
  obtain ⟨vs, how, hvs⟩ := h
  exact LS_of_own how (hvs.mono fun b hb => ⟨hb.1, hb.2.1⟩) fun b h1 h2 => ⟨h1, h2⟩
set_option maxHeartbeats 1000000 in
theorem wpList_rows (w0 w : World) {ops : Array Oper} {rest : List Oper} {o : Oper} {a : Act} {Q : Exit → Act → World → Prop} (hgd : o.guard = none) (s x : Operand)
    (ho : o.op = .call { callee := .builtin .append, args := #[s, x], argTypes := #[100, 100] })
    (v : Value) (ls : List (List UInt8)) (hs : a.eval s = v) (h : RowsAt w0 w v ls) (hB : Below w0.heap.size w0 w) (c : Nat) (u : Value) (l : List UInt8) (hxe : a.eval x = .slice (some ⟨w.heap.size, 0, none⟩) 1 c)
    (hu : BS w (fun b => w0.heap.size ≤ b ∧ b < w.heap.size ∧ v.ownBlock ≠ some b) u l) (t : TypeId) (hb : ls.length ≤ 100000000)
    (k : ∀ v' w', RowsAt w0 w' v' (ls ++ [l]) → Below w0.heap.size w0 w' → wpList Tryz.prog ops Q rest (a.put o.dst v') w') : wpList Tryz.prog ops Q (o :: rest) a (w.alloc (.cells #[u] t)) := by
  obtain ⟨vs, how, hvs⟩ := h
  have how1 := own_past ((Below.refl w.heap.size w).alloc (Nat.le_refl _) (.cells #[u] t)) how
  have B1 := hB.alloc hB.size (.cells #[u] t)
  obtain ⟨A', c', rfl, _⟩ := hu.form
  have hx : ∀ j z, [Value.slice A' l.length c'][j]? = some z → (w.alloc (.cells #[Value.slice A' l.length c'] t)).cell? ((⟨w.heap.size, 0, none⟩ : Addr).add j) = some z := by
    intro j z hz
    match j, hz with
    | 0, hz => simp at hz; subst hz; rw [Addr.add_lit]; exact (KB.new w t #[Value.slice A' l.length c']).cell 0
  refine wpList_growL _ hgd s x ho w0.heap.size v vs hs how1 ⟨w.heap.size, 0, none⟩ c 1 [Value.slice A' l.length c'] hxe rfl hx (by intro z hz; simp at hz; subst hz; rfl) (by rw [hvs.1]; simp; omega) B1.size ?_
  intro v' w' how2 g2 ho2
  have hsz := g2.size
  rw [World.size_alloc] at hsz
  have hstay : ∀ b, (w0.heap.size ≤ b ∧ b < w.heap.size ∧ v.ownBlock ≠ some b) → b < w.heap.size → w'.heap[b]? = w.heap[b]? := fun b h1 h2 =>
    (g2.block b (by rw [World.size_alloc]; omega) (fun e => h1.2.2 e.symm)).trans (Below.heap_alloc w _ b h2)
  have hin : ∀ b, (w0.heap.size ≤ b ∧ b < w.heap.size ∧ v.ownBlock ≠ some b) → (w0.heap.size ≤ b ∧ b < w'.heap.size ∧ v'.ownBlock ≠ some b) := fun b h1 =>
    ⟨h1.1, by omega, fun e => by
      rcases ho2 with h | h
      · exact h1.2.2 (h ▸ e)
      · rw [h] at e; injection e with e; rw [World.size_alloc] at e; omega⟩
  refine k v' w' ⟨_, how2, ((hvs.keep (by omega) hstay).mono hin).append (VS.one ((hu.keep (by omega) hstay).mono hin))⟩ (B1.grown g2 B1.size fun g e => own_ge how1 g e)
theorem sect_cells (b : List UInt8) (i : Nat) : splice ((zsK 256).map bv) 0 (((b.drop (256 * i)).take 256).map bv) = (sectC b i).map bv := by
  unfold splice sectC zsK
  rw [List.take_zero, List.nil_append, List.map_append, List.length_map, List.length_take, List.map_replicate, List.map_replicate, List.drop_replicate]
  congr 2
  omega
theorem make_sect (w : World) : (Instr.makeSlice 55 (.int .i64 256) (.int .i64 256)).run Tryz.prog w = .ok (.slice (some ⟨w.heap.size, 0, none⟩) 256 256) (w.alloc (.cells ((zsK 256).map bv).toArray 5)) := make_bytes w 256 (by omega)
theorem pagesS_le (n : Nat) (h : n ≤ 1000000000) : I64 (n : Int) := ⟨by omega, by omega⟩
theorem rows_copy {w wr w2 : World} {v : Value} {ls : List (List UInt8)} {o : Obj} {s : List UInt8} (hrow : RowsAt w wr v ls) (bl : Below w.heap.size w wr) (g2 : (wr.alloc o).grownBy w2 (some wr.heap.size)) (k2 : KB w2 wr.heap.size 5 (s.map bv).toArray) (hs : s.length = 256) :
    RowsAt w w2 v ls ∧ Below w.heap.size w w2 ∧ BS w2 (fun x => w.heap.size ≤ x ∧ x < w2.heap.size ∧ v.ownBlock ≠ some x) (.slice (some ⟨wr.heap.size, 0, none⟩) 256 256) s := by
  have bs2 := k2.bsA hs (by simp [maxLen])
  have hs2 := g2.size
  have B1 := bl.alloc bl.size o
  have hbl := bl.size
  rw [World.size_alloc] at hs2
  refine ⟨?_, B1.grown g2 B1.size (fun g e => by injection e with e; omega), bs2.mono fun x e => ?_⟩
  · obtain ⟨vs, how, hvs⟩ := hrow
    have hkp : ∀ x, x < wr.heap.size → w2.heap[x]? = wr.heap[x]? := fun x hx => (g2.block x (by rw [World.size_alloc]; omega) (by simp; omega)).trans (Below.heap_alloc wr _ x hx)
    exact ⟨vs, own_keep how fun x hx => hkp x (cut_lt how x hx), (hvs.keep (by omega) fun x h1 h2 => hkp x h2).mono fun x h1 => ⟨h1.1, by omega, h1.2.2⟩⟩
  · subst e
    refine ⟨bl.size, by omega, fun e => ?_⟩
    obtain ⟨vs, how, _⟩ := hrow
    have := cut_lt how _ e
    omega
def CutAs (w : World) (ls : List (List UInt8)) (e : Ending) (w' : World) : Prop := ∃ v, e = .returned v ∧ RowsAt w w' v ls ∧ Below w.heap.size w w'
set_option maxHeartbeats 1000000 in
theorem cut_any (v : Value) (b : List UInt8) (hsm : b.length ≤ 1000000000) (w : World) (h : BS w (fun b => b < w.heap.size) v b) :
    Calls Tryz.prog 80 #[v] w (CutAs w (cutS b)) := by
  have hpg := pages_any (b.length : Int) (pagesS_le _ hsm) w
  rw [pages_nat] at hpg
  obtain ⟨R, hR⟩ : ∃ R, R = cutS b := ⟨_, rfl⟩
  have HR : Hid (cutK b (pagesN b.length) = R) := hR.symm
  rw [← hR]
  have hin : ∀ k, k < pagesN b.length → 256 * k < b.length := fun k hk => by unfold pagesN at hk; omega
  have hfew : pagesN b.length ≤ 10000000 := by unfold pagesN; omega
  generalize pagesN b.length = m at *
  obtain ⟨A, c, rfl, hc, hcm, _⟩ := h.form
  have HI := Lib.hid hin
  clear hR hin
  go_enter Tryz.func80, Tryz.ntmps80
  go_wp2_with (go_at_call 74; refine hpg.mono ?_; rintro e w' ⟨rfl, rfl⟩)
  go_loopw [3, 9] (fun lv iw wr => ∃ (k : Nat) (ls : List (List UInt8)), k ≤ m ∧ iw = .int .i64 k ∧ Hid (cutK b k = ls) ∧ RowsAt w wr lv ls ∧ Below w.heap.size w wr) (fun _ iw _ => m - (intOf iw).toNat)
  case atStart => exact ⟨0, [], by omega, rfl, rfl, RowsAt.nil _ _, Below.refl _ _⟩
  case round =>
    clear hpg
    obtain ⟨k, ls, hk, rfl, HS, hrow, bl⟩ := hrel
    by_cases hlt : k < m
    · have hp : 256 * k < b.length := HI.out k hlt
      have hll : ls.length ≤ 100000000 := by rw [← HS.out, cutK_length]; omega
      obtain ⟨A3, c3, rfl⟩ := hrow.len
      obtain ⟨q, hq⟩ : ∃ q, q = ls.length := ⟨_, rfl⟩
      rw [← hq] at hrow ⊢
      clear hq
      obtain ⟨bb, o, rfl, hbs, hbb, _⟩ := h.at_ (by omega)
      have hmk := make_sect wr
      have K1 : KB (wr.alloc (.cells ((zsK 256).map bv).toArray 5)) wr.heap.size 5 ((zsK 256).map bv).toArray := KB.new _ _ _
      have B1 := bl.alloc bl.size (.cells ((zsK 256).map bv).toArray 5)
      have b1 := (Below.refl wr.heap.size wr).alloc (Nat.le_refl _) (.cells ((zsK 256).map bv).toArray 5)
      have hd0 := (h.below B1 fun x hx => hx).drop (256 * k) (by omega)
      rw [if_neg (by omega)] at hd0
      have hsc := sect_cells b k
      have hsl : (sectC b k).length = 256 := sectC_length b k
      have HS2 : Hid (cutK b (k + 1) = ls ++ [sectC b k]) := by show _ = _; rw [cutK_more, HS.out]
      have hzl : ((zsK 256).map bv).length = 256 := by rw [List.length_map, zsK_length]
      have e1 : (256 : Int) * (k : Int) = ((256 * k : Nat) : Int) := by omega
      have hcp : ¬ c = 256 * k := by omega
      generalize 256 * k = p at *
      generalize sectC b k = s at *
      have HSC := Lib.hid hsc
      obtain ⟨Z, hZZ⟩ : ∃ Z, Z = (zsK 256).map bv := ⟨_, rfl⟩
      rw [← hZZ] at hmk K1 B1 b1 hd0 HSC hzl
      clear hsc hZZ
      have HSL := Lib.hid hsl
      clear hsl
      clear b1 B1
      go_wp2_with (first
        | (refine wpList_copy_kb rfl (.tmp 13) (.tmp 17) 55 55 rfl 5 Tryz.underlying55 (by kernel_rfl) wr.heap.size 0 256 256 rfl 5 Z K1 (by omega) _ _ (b.drop p) rfl hd0 ?_; intro w2 k2 g2; rw [HSC.out] at k2; obtain ⟨hrow2, B2, bs3⟩ := rows_copy hrow bl g2 k2 HSL.out; clear k2 g2)
        | (at_builtin; refine wpList_rows w w2 rfl _ _ rfl (.slice A3 q c3) ls rfl hrow2 B2 1 (.slice (some ⟨wr.heap.size, 0, none⟩) 256 256) s rfl bs3 _ hll ?_; intro v4 w4 hrow4 B4))
      go_roundw
      case rel => exact ⟨k + 1, _, by omega, by go_num, HS2, hrow4, B4⟩
      case measure => simp [intOf]; omega
    · obtain rfl : k = m := by omega
      have hr := HR.out
      rw [HS.out] at hr
      subst hr
      clear HS HR
      go_wp2
      go_ret
      exact ⟨_, rfl, hrow, bl⟩
end
end Go.Proofs.YteddmnoeljakpaaGreatDoor
