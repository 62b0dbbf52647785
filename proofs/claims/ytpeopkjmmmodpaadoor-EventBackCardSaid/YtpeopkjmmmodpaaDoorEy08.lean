/-
  EvU: The program's own Put (layer 23), over the loaded program: its contract. No condition but that the table of the kinds' words is as laid.
-/
import Derived.Test.YtpeopkjmmmodpaaDoorEy07
import Derived.Test.YtpeopkjmmmodpaaDoorEy04
import Derived.Test.YtpeopkjmmmodpaaDoorEy03
set_option linter.unusedVariables false
set_option maxRecDepth 100000
namespace Go.Proofs.YtpeopkjmmmodpaaDoor
section
open Go.RowKit Go.ChangeShapes Go.WideShapes Go.Joins
theorem LS.four {w : World} {S : Nat → Prop} {x y z u : Value} {l m n o : List UInt8} {t : TypeId} (hx : BS w S x l) (hy : BS w S y m) (hz : BS w S z n) (hu : BS w S u o) :
    LS (w.alloc (.cells #[x, y, z, u] t)) (fun b => S b ∨ b = w.heap.size) (.slice (some ⟨w.heap.size, 0, none⟩) 4 4) [l, m, n, o] := by
  refine ⟨_, 4, rfl, by simp, by simp [maxLen], fun _ => ⟨w.heap.size, 0, rfl, .inr rfl, by simp, fun j l' hj => ?_⟩⟩
  have hk := KB.new w t #[x, y, z, u]
  match j, hj with
  | 0, hj => simp at hj; subst hj; exact ⟨x, hk.cell 0, (hx.alloc _).mono fun b h => .inl h⟩
  | 1, hj => simp at hj; subst hj; exact ⟨y, hk.cell 1, (hy.alloc _).mono fun b h => .inl h⟩
  | 2, hj => simp at hj; subst hj; exact ⟨z, hk.cell 2, (hz.alloc _).mono fun b h => .inl h⟩
  | 3, hj => simp at hj; subst hj; exact ⟨u, hk.cell 3, (hu.alloc _).mono fun b h => .inl h⟩
structure PN (w : World) (g : Nat) (t : TypeId) (cs : Array Value) (n : World) (L : List (Value × List UInt8)) : Prop where
  kb : KB n g t cs
  bl : Below g w n
  bs : ∀ p ∈ L, BS n (fun _ => True) p.1 p.2
section
variable {w n n' : World} {g : Nat} {t : TypeId} {cs : Array Value} {L : List (Value × List UInt8)} {v : Value} {l : List UInt8}
theorem PN.past (h : PN w g t cs n L) (b : Below n.heap.size n n') : PN w g t cs n' L :=
  ⟨h.kb.below b h.kb.lt, h.bl.trans (b.mono (Nat.le_of_lt h.kb.lt)), fun p hp => (h.bs p hp).below' b⟩
theorem PN.step {S : Nat → Prop} (h : PN w g t cs n L) (b : Below n.heap.size n n') (x : BS n' S v l) : PN w g t cs n' ((v, l) :: L) :=
  ⟨(h.past b).kb, (h.past b).bl, fun p hp => by
    rcases List.mem_cons.1 hp with rfl | hp
    · exact x.mono fun _ _ => trivial
    · exact (h.past b).bs p hp⟩
theorem PN.lit (h : PN w g t cs n L) (k : Nat) : PN w g t cs (n.alloc (.cells #[bv (UInt8.ofNat (k % 256))] 5)) ((.slice (some ⟨n.heap.size, 0, none⟩) 1 1, [UInt8.ofNat (k % 256)]) :: L) :=
  h.step ((Below.refl _ _).alloc (Nat.le_refl _) _) (own_BS (lit_one n k n.heap.size (Nat.le_refl _)))
theorem PN.get (h : PN w g t cs n L) (hp : (v, l) ∈ L) : BS n (fun _ => True) v l := h.bs _ hp
end
set_option maxHeartbeats 16000000 in
theorem pevput_any (x : Ev) (v : Value) (w : World) (hT : Wds w) (hv : EvV v x) :
    Calls Tryd.prog 7 #[v] w (EPutAs w (putE x)) := by
  have HM := Lib.hid (fun W hw => pevcheck_any x v W hw hv)
  obtain ⟨rfl, hk, ht, hla, hlb⟩ := hv
  have K := KB.new w 23 #[.int .i64 x.kind, .int .i64 x.tick, strV x.a, strV x.b]
  have B := (Below.refl w.heap.size w).alloc (Nat.le_refl _) (.cells #[.int .i64 x.kind, .int .i64 x.tick, strV x.a, strV x.b] 23)
  obtain ⟨D, hD⟩ : ∃ D, D = EPutAs w (putE x) := ⟨_, rfl⟩
  rw [← hD]
  have HNO : Hid (mayE x = false → ∀ W, Below w.heap.size w W → D (.returned (.tuple #[.slice none 0 0, .int .i64 1])) W) := fun h W hb => by
    rw [hD]; unfold putE; rw [h]
    exact ⟨_, rfl, BS.nil _ _, hb⟩
  have HYES : Hid (mayE x = true → (1 ≤ x.kind ∧ x.kind ≤ 14) ∧ 0 ≤ x.tick ∧ x.a.length ≤ 16 ∧ x.b.length ≤ 16 ∧ ∀ W v, BS W (fun b => w.heap.size ≤ b ∧ b < W.heap.size) v (flat [[UInt8.ofNat (x.kind.toNat % 256)], numb (u64 x.tick), texb x.a, texb x.b]) → Below w.heap.size w W → D (.returned (.tuple #[v, .int .i64 0])) W) := fun h => by
    obtain ⟨h1, h2, h3, h4⟩ := (mayE_iff x).1 h
    refine ⟨h1, h2.1, nameE_len h3, nameE_len h4, fun W v hb hw => ?_⟩
    rw [hD]; unfold putE; rw [if_pos h]
    refine ⟨_, rfl, ?_, hw⟩
    have e : flat [[UInt8.ofNat (x.kind.toNat % 256)], numb (u64 x.tick), texb x.a, texb x.b] = bytesE x := by
      unfold bytesE flat
      rw [show (x.kind % 256).toNat = x.kind.toNat % 256 by omega, show u64 x.tick = x.tick.toNat by unfold u64; omega]
      simp
    rw [e] at hb
    exact hb
  clear hD
  have hcall := HM.out _ (hT.below B)
  have HCA := Lib.hid (fun W => conv_str W x.a hla)
  have HCB := Lib.hid (fun W => conv_str W x.b hlb)
  have HTA := Lib.hid (fun (h : x.a.length ≤ 16) S v W hb => text_any S v x.a W hb (by omega))
  have HTB := Lib.hid (fun (h : x.b.length ≤ 16) S v W hb => text_any S v x.b W hb (by omega))
  have HNI := Lib.hid (fun W => int_any x.tick W)
  obtain ⟨sa, hsa⟩ : ∃ s : ByteArray, strV x.a = .string s := ⟨_, rfl⟩
  obtain ⟨sb, hsb⟩ : ∃ s : ByteArray, strV x.b = .string s := ⟨_, rfl⟩
  have hca := HCA.out
  have hcb := HCB.out
  rw [hsa, hsb] at hcall K B ⊢
  rw [hsa] at hca
  rw [hsb] at hcb
  have HCK := Lib.hid hcall
  replace HCA := Lib.hid hca
  replace HCB := Lib.hid hcb
  have q0 := K.cell 0
  have q1 := K.cell 1
  have q2 := K.cell 2
  have q3 := K.cell 3
  clear hcall HM hca hcb hsa hsb hT
  generalize x.kind = k at *
  generalize x.tick = t at *
  generalize x.a = la at *
  generalize x.b = lb at *
  generalize mayE x = m at *
  go_enter Tryd.func7, Tryd.ntmps7
  go_wp2_with fail
  refine HCK.out.mono ?_
  rintro e w1 ⟨rfl, b1⟩
  have K1 := K.below b1 K.lt
  have B1 := B.trans (b1.mono B.size)
  clear HCK K B b1 q0 q1 q2 q3
  cases m with
  | false =>
    have hfin := HNO.out rfl _ B1
    clear HNO HYES HCA HCB HTA HTB HNI
    go_wp2_with fail
    exact hfin
  | true =>
  obtain ⟨⟨k1, k2⟩, t0, a16, b16, hfin⟩ := HYES.out rfl
  have HTA2 := Lib.hid (HTA.out a16)
  have HTB2 := Lib.hid (HTB.out b16)
  clear HNO HYES HTA HTB hk ht hla hlb
  obtain ⟨kn, rfl⟩ : ∃ kn : Nat, k = (kn : Int) := ⟨k.toNat, by omega⟩
  rw [Int.toNat_natCast] at hfin
  have HFIN := Lib.hid hfin
  have HALL := Lib.hid (fun S v W h => all_any S v [[UInt8.ofNat (kn % 256)], numb (u64 t), texb la, texb lb] W h (by
    have k1 := dig_length_le 8 (u64 t)
    have k2 := dig_length_le 8 la.length
    have k3 := dig_length_le 8 lb.length
    simp [flat, texb, numb]; omega))
  have h255 : (kn : Int) % 256 = (kn : Int) := by omega
  clear hfin a16 b16 t0
  have N : PN w w.heap.size 23 #[.int .i64 (kn : Int), .int .i64 t, .string sa, .string sb] w1 [] := ⟨K1, B1, fun p hp => by cases hp⟩
  clear K1 B1
  go_wp2_with fail
  rename_i KK hKK
  have HKK := Lib.hid hKK
  clear hKK
  replace N : PN w w.heap.size 23 #[.int .i64 (kn : Int), .int .i64 t, .string sa, .string sb] w1.drew [] := N.past (Below_drawn (Below.refl _ _) 1)
  have HC : Hid (∀ W L, PN w w.heap.size 23 #[.int .i64 (kn : Int), .int .i64 t, .string sa, .string sb] W L → W.cell? ⟨w.heap.size, 0, none⟩ = some (.int .i64 (kn : Int)) ∧ W.cell? ⟨w.heap.size, 1, none⟩ = some (.int .i64 t) ∧ W.cell? ⟨w.heap.size, 2, none⟩ = some (.string sa) ∧ W.cell? ⟨w.heap.size, 3, none⟩ = some (.string sb)) := fun W L K => ⟨K.kb.cell 0, K.kb.cell 1, K.kb.cell 2, K.kb.cell 3⟩
  refine wp_region_held_drew (S := (fun W => W.cell? ⟨w.heap.size, 0, none⟩ = some (.int .i64 (kn : Int)) ∧ W.cell? ⟨w.heap.size, 1, none⟩ = some (.int .i64 t) ∧ W.cell? ⟨w.heap.size, 2, none⟩ = some (.string sa) ∧ W.cell? ⟨w.heap.size, 3, none⟩ = some (.string sb))) (by kernel_rfl) (HC.out _ _ N) (fun hHeld => ?_)
  generalize w1.drew = wq at *
  refine hyY (some 10) 0 rfl hHeld ?_; go_frame
  refine hyY (some 11) 1 rfl hHeld ?_; go_frame
  refine hyY (some 12) 2 rfl hHeld ?_; go_frame
  refine hyY (some 14) 4 rfl hHeld ?_; go_frame
  refine hyY (some 15) 5 rfl hHeld ?_; go_frame
  refine hyY (some 17) 7 rfl hHeld ?_; go_frame
  refine hyY (some 18) 8 rfl hHeld ?_; go_frame
  refine hyY (some 21) 11 rfl hHeld ?_; go_frame
  refine hyY (some 22) 12 rfl hHeld ?_; go_frame
  refine held_four (o := ⟨some 13, _, _, _, _, _⟩) (p := ⟨some 16, _, _, _, _, _⟩) (q := ⟨some 19, _, _, _, _, _⟩) (s := ⟨some 23, _, _, _, _, _⟩) 3 6 9 13 (by kernel_rfl) rfl rfl rfl rfl (by rfl) (by rfl) (by rfl) (by rfl) (fun K hK => ?_) (fun K hK => ?_) (fun K hK => ?_) (fun K hK => ?_)
  · go_simp
    rw [ewrap8, byte_mod]
    replace N := N.lit kn
    obtain ⟨A3, hA3⟩ : ∃ A, A = some (⟨wq.heap.size, 0, none⟩ : Addr) := ⟨_, rfl⟩
    rw [← hA3] at N ⊢
    clear hA3
    generalize wq.alloc (.cells #[bv (UInt8.ofNat (kn % 256))] 5) = wq at N ⊢
    refine hK.out _ _ ?_ (fun hH2 => ?_)
    · exact HC.out _ _ N
    clear hHeld hK K; have hHeld := hH2; clear hH2; try go_frame
    refine held_three (o := ⟨some 16, _, _, _, _, _⟩) (p := ⟨some 19, _, _, _, _, _⟩) (q := ⟨some 23, _, _, _, _, _⟩) 6 9 13 (by kernel_rfl) rfl rfl rfl (by rfl) (by rfl) (by rfl) (fun K hK => ?_) (fun K hK => ?_) (fun K hK => ?_)
    · go_simp
      go_at_call 19
      refine (HNI.out _).mono ?_
      rintro e wq ⟨v6, rfl, ow, bn⟩
      obtain ⟨A6, c6, rfl, _⟩ := (own_BS ow).form
      replace N := N.step bn (own_BS ow)
      clear ow bn
      go_wp2_with fail
      refine hK.out _ _ ?_ (fun hH2 => ?_)
      · exact HC.out _ _ N
      clear hHeld hK K; have hHeld := hH2; clear hH2; try go_frame
      refine held_two (o := ⟨some 19, _, _, _, _, _⟩) (p := ⟨some 23, _, _, _, _, _⟩) 9 13 (by kernel_rfl) rfl rfl (by rfl) (by rfl) (fun K hK => ?_) (fun K hK => ?_)
      · obtain ⟨c9, wq, hcv, x9, bn⟩ := HCA.out wq
        go_simp
        replace N := N.step bn x9
        clear hcv x9 bn
        refine hK.out _ _ ?_ (fun hH2 => ?_)
        · exact HC.out _ _ N
        clear hHeld hK K; have hHeld := hH2; clear hH2; try go_frame
        refine held_two (o := ⟨some 20, _, _, _, _, _⟩) (p := ⟨some 23, _, _, _, _, _⟩) 10 13 (by kernel_rfl) rfl rfl (by rfl) (by rfl) (fun K hK => ?_) (fun K hK => ?_)
        · go_simp
          go_at_call 20
          refine (HTA2.out _ _ _ (N.get (by repeat (first | exact List.Mem.head _ | apply List.Mem.tail)))).mono ?_
          rintro e wq ⟨v10, rfl, ow, bn⟩
          obtain ⟨A10, c10, rfl, _⟩ := (own_BS ow).form
          replace N := N.step bn (own_BS ow)
          clear ow bn
          go_wp2_with fail
          refine hK.out _ _ ?_ (fun hH2 => ?_)
          · exact HC.out _ _ N
          clear hHeld hK K; have hHeld := hH2; clear hH2; try go_frame
          refine hyO (some 23) 13 rfl (fun K hK => ?_)
          obtain ⟨c13, wq, hcv, x13, bn⟩ := HCB.out wq
          go_simp
          replace N := N.step bn x13
          clear hcv x13 bn
          refine hK.out _ _ ?_ (fun hH2 => ?_)
          · exact HC.out _ _ N
          clear hHeld hK K; have hHeld := hH2; clear hH2; try go_frame
          refine hyO (some 24) 14 rfl (fun K hK => ?_)
          go_simp
          go_at_call 20
          refine (HTB2.out _ _ _ (N.get (by repeat (first | exact List.Mem.head _ | apply List.Mem.tail)))).mono ?_
          rintro e wq ⟨v14, rfl, ow, bn⟩
          obtain ⟨A14, c14, rfl, _⟩ := (own_BS ow).form
          replace N := N.step bn (own_BS ow)
          clear ow bn
          go_wp2_with fail
          refine hK.out _ _ ?_ (fun hH2 => ?_)
          · exact HC.out _ _ N
          clear hHeld hK K; have hHeld := hH2; clear hH2; try go_frame
          refine hyO (some 25) 15 rfl (fun K hK => ?_)
          go_simp
          have hl := LS.four (t := 25) (N.get (v := .slice A3 1 1) (l := [UInt8.ofNat (kn % 256)]) (by repeat (first | exact List.Mem.head _ | apply List.Mem.tail))) (N.get (v := .slice A6 (numb (u64 t)).length c6) (l := numb (u64 t)) (by repeat (first | exact List.Mem.head _ | apply List.Mem.tail))) (N.get (v := .slice A10 (texb la).length c10) (l := texb la) (by repeat (first | exact List.Mem.head _ | apply List.Mem.tail))) (N.get (v := .slice A14 (texb lb).length c14) (l := texb lb) (by repeat (first | exact List.Mem.head _ | apply List.Mem.tail)))
          have bn := (Below.refl wq.heap.size wq).alloc (Nat.le_refl _) (.cells #[.slice A3 1 1, .slice A6 (numb (u64 t)).length c6, .slice A10 (texb la).length c10, .slice A14 (texb lb).length c14] 25)
          replace N := N.past bn
          clear bn
          refine hK.out _ _ ?_ (fun hH2 => ?_)
          · exact HC.out _ _ N
          clear hHeld hK K; have hHeld := hH2; clear hH2; try go_frame
          refine hyO (some 26) 16 rfl (fun K hK => ?_)
          go_simp
          go_at_call 18
          refine (HALL.out _ _ _ hl).mono ?_
          rintro e wq ⟨v16, rfl, ow, bn⟩
          have hfin := HFIN.out wq v16 ((own_BS ow).mono fun b h => ⟨Nat.le_trans (Nat.le_of_lt N.kb.lt) h.1, h.2⟩) (N.past bn).bl
          replace N := N.past bn
          clear ow bn hl
          go_wp2_with fail
          refine hK.out _ _ ?_ (fun hH2 => ?_)
          · exact HC.out _ _ N
          clear hHeld hK K; have hHeld := hH2; clear hH2; try go_frame
          refine hyY (some 2) 17 rfl hHeld ?_; go_frame
          refine hyY (some 3) 18 rfl hHeld ?_; go_frame
          refine wpAnyH_done (by kernel_rfl) ?_ _
          have hKK := HKK.out
          clear hHeld HC HFIN N HCA HCB HTA2 HTB2 HALL
          go_wp2_with fail
          exact hfin
        · obtain ⟨c13, wq, hcv, x13, bn⟩ := HCB.out wq
          go_simp
          replace N := N.step bn x13
          clear hcv x13 bn
          refine hK.out _ _ ?_ (fun hH2 => ?_)
          · exact HC.out _ _ N
          clear hHeld hK K; have hHeld := hH2; clear hH2; try go_frame
          refine hyO (some 20) 10 rfl (fun K hK => ?_)
          go_simp
          go_at_call 20
          refine (HTA2.out _ _ _ (N.get (by repeat (first | exact List.Mem.head _ | apply List.Mem.tail)))).mono ?_
          rintro e wq ⟨v10, rfl, ow, bn⟩
          obtain ⟨A10, c10, rfl, _⟩ := (own_BS ow).form
          replace N := N.step bn (own_BS ow)
          clear ow bn
          go_wp2_with fail
          refine hK.out _ _ ?_ (fun hH2 => ?_)
          · exact HC.out _ _ N
          clear hHeld hK K; have hHeld := hH2; clear hH2; try go_frame
          refine hyO (some 24) 14 rfl (fun K hK => ?_)
          go_simp
          go_at_call 20
          refine (HTB2.out _ _ _ (N.get (by repeat (first | exact List.Mem.head _ | apply List.Mem.tail)))).mono ?_
          rintro e wq ⟨v14, rfl, ow, bn⟩
          obtain ⟨A14, c14, rfl, _⟩ := (own_BS ow).form
          replace N := N.step bn (own_BS ow)
          clear ow bn
          go_wp2_with fail
          refine hK.out _ _ ?_ (fun hH2 => ?_)
          · exact HC.out _ _ N
          clear hHeld hK K; have hHeld := hH2; clear hH2; try go_frame
          refine hyO (some 25) 15 rfl (fun K hK => ?_)
          go_simp
          have hl := LS.four (t := 25) (N.get (v := .slice A3 1 1) (l := [UInt8.ofNat (kn % 256)]) (by repeat (first | exact List.Mem.head _ | apply List.Mem.tail))) (N.get (v := .slice A6 (numb (u64 t)).length c6) (l := numb (u64 t)) (by repeat (first | exact List.Mem.head _ | apply List.Mem.tail))) (N.get (v := .slice A10 (texb la).length c10) (l := texb la) (by repeat (first | exact List.Mem.head _ | apply List.Mem.tail))) (N.get (v := .slice A14 (texb lb).length c14) (l := texb lb) (by repeat (first | exact List.Mem.head _ | apply List.Mem.tail)))
          have bn := (Below.refl wq.heap.size wq).alloc (Nat.le_refl _) (.cells #[.slice A3 1 1, .slice A6 (numb (u64 t)).length c6, .slice A10 (texb la).length c10, .slice A14 (texb lb).length c14] 25)
          replace N := N.past bn
          clear bn
          refine hK.out _ _ ?_ (fun hH2 => ?_)
          · exact HC.out _ _ N
          clear hHeld hK K; have hHeld := hH2; clear hH2; try go_frame
          refine hyO (some 26) 16 rfl (fun K hK => ?_)
          go_simp
          go_at_call 18
          refine (HALL.out _ _ _ hl).mono ?_
          rintro e wq ⟨v16, rfl, ow, bn⟩
          have hfin := HFIN.out wq v16 ((own_BS ow).mono fun b h => ⟨Nat.le_trans (Nat.le_of_lt N.kb.lt) h.1, h.2⟩) (N.past bn).bl
          replace N := N.past bn
          clear ow bn hl
          go_wp2_with fail
          refine hK.out _ _ ?_ (fun hH2 => ?_)
          · exact HC.out _ _ N
          clear hHeld hK K; have hHeld := hH2; clear hH2; try go_frame
          refine hyY (some 2) 17 rfl hHeld ?_; go_frame
          refine hyY (some 3) 18 rfl hHeld ?_; go_frame
          refine wpAnyH_done (by kernel_rfl) ?_ _
          have hKK := HKK.out
          clear hHeld HC HFIN N HCA HCB HTA2 HTB2 HALL
          go_wp2_with fail
          exact hfin
      · obtain ⟨c13, wq, hcv, x13, bn⟩ := HCB.out wq
        go_simp
        replace N := N.step bn x13
        clear hcv x13 bn
        refine hK.out _ _ ?_ (fun hH2 => ?_)
        · exact HC.out _ _ N
        clear hHeld hK K; have hHeld := hH2; clear hH2; try go_frame
        refine hyO (some 19) 9 rfl (fun K hK => ?_)
        obtain ⟨c9, wq, hcv, x9, bn⟩ := HCA.out wq
        go_simp
        replace N := N.step bn x9
        clear hcv x9 bn
        refine hK.out _ _ ?_ (fun hH2 => ?_)
        · exact HC.out _ _ N
        clear hHeld hK K; have hHeld := hH2; clear hH2; try go_frame
        refine hyO (some 20) 10 rfl (fun K hK => ?_)
        go_simp
        go_at_call 20
        refine (HTA2.out _ _ _ (N.get (by repeat (first | exact List.Mem.head _ | apply List.Mem.tail)))).mono ?_
        rintro e wq ⟨v10, rfl, ow, bn⟩
        obtain ⟨A10, c10, rfl, _⟩ := (own_BS ow).form
        replace N := N.step bn (own_BS ow)
        clear ow bn
        go_wp2_with fail
        refine hK.out _ _ ?_ (fun hH2 => ?_)
        · exact HC.out _ _ N
        clear hHeld hK K; have hHeld := hH2; clear hH2; try go_frame
        refine hyO (some 24) 14 rfl (fun K hK => ?_)
        go_simp
        go_at_call 20
        refine (HTB2.out _ _ _ (N.get (by repeat (first | exact List.Mem.head _ | apply List.Mem.tail)))).mono ?_
        rintro e wq ⟨v14, rfl, ow, bn⟩
        obtain ⟨A14, c14, rfl, _⟩ := (own_BS ow).form
        replace N := N.step bn (own_BS ow)
        clear ow bn
        go_wp2_with fail
        refine hK.out _ _ ?_ (fun hH2 => ?_)
        · exact HC.out _ _ N
        clear hHeld hK K; have hHeld := hH2; clear hH2; try go_frame
        refine hyO (some 25) 15 rfl (fun K hK => ?_)
        go_simp
        have hl := LS.four (t := 25) (N.get (v := .slice A3 1 1) (l := [UInt8.ofNat (kn % 256)]) (by repeat (first | exact List.Mem.head _ | apply List.Mem.tail))) (N.get (v := .slice A6 (numb (u64 t)).length c6) (l := numb (u64 t)) (by repeat (first | exact List.Mem.head _ | apply List.Mem.tail))) (N.get (v := .slice A10 (texb la).length c10) (l := texb la) (by repeat (first | exact List.Mem.head _ | apply List.Mem.tail))) (N.get (v := .slice A14 (texb lb).length c14) (l := texb lb) (by repeat (first | exact List.Mem.head _ | apply List.Mem.tail)))
        have bn := (Below.refl wq.heap.size wq).alloc (Nat.le_refl _) (.cells #[.slice A3 1 1, .slice A6 (numb (u64 t)).length c6, .slice A10 (texb la).length c10, .slice A14 (texb lb).length c14] 25)
        replace N := N.past bn
        clear bn
        refine hK.out _ _ ?_ (fun hH2 => ?_)
        · exact HC.out _ _ N
        clear hHeld hK K; have hHeld := hH2; clear hH2; try go_frame
        refine hyO (some 26) 16 rfl (fun K hK => ?_)
        go_simp
        go_at_call 18
        refine (HALL.out _ _ _ hl).mono ?_
        rintro e wq ⟨v16, rfl, ow, bn⟩
        have hfin := HFIN.out wq v16 ((own_BS ow).mono fun b h => ⟨Nat.le_trans (Nat.le_of_lt N.kb.lt) h.1, h.2⟩) (N.past bn).bl
        replace N := N.past bn
        clear ow bn hl
        go_wp2_with fail
        refine hK.out _ _ ?_ (fun hH2 => ?_)
        · exact HC.out _ _ N
        clear hHeld hK K; have hHeld := hH2; clear hH2; try go_frame
        refine hyY (some 2) 17 rfl hHeld ?_; go_frame
        refine hyY (some 3) 18 rfl hHeld ?_; go_frame
        refine wpAnyH_done (by kernel_rfl) ?_ _
        have hKK := HKK.out
        clear hHeld HC HFIN N HCA HCB HTA2 HTB2 HALL
        go_wp2_with fail
        exact hfin
    · obtain ⟨c9, wq, hcv, x9, bn⟩ := HCA.out wq
      go_simp
      replace N := N.step bn x9
      clear hcv x9 bn
      refine hK.out _ _ ?_ (fun hH2 => ?_)
      · exact HC.out _ _ N
      clear hHeld hK K; have hHeld := hH2; clear hH2; try go_frame
      refine held_two (o := ⟨some 16, _, _, _, _, _⟩) (p := ⟨some 23, _, _, _, _, _⟩) 6 13 (by kernel_rfl) rfl rfl (by rfl) (by rfl) (fun K hK => ?_) (fun K hK => ?_)
      · go_simp
        go_at_call 19
        refine (HNI.out _).mono ?_
        rintro e wq ⟨v6, rfl, ow, bn⟩
        obtain ⟨A6, c6, rfl, _⟩ := (own_BS ow).form
        replace N := N.step bn (own_BS ow)
        clear ow bn
        go_wp2_with fail
        refine hK.out _ _ ?_ (fun hH2 => ?_)
        · exact HC.out _ _ N
        clear hHeld hK K; have hHeld := hH2; clear hH2; try go_frame
        refine held_two (o := ⟨some 20, _, _, _, _, _⟩) (p := ⟨some 23, _, _, _, _, _⟩) 10 13 (by kernel_rfl) rfl rfl (by rfl) (by rfl) (fun K hK => ?_) (fun K hK => ?_)
        · go_simp
          go_at_call 20
          refine (HTA2.out _ _ _ (N.get (by repeat (first | exact List.Mem.head _ | apply List.Mem.tail)))).mono ?_
          rintro e wq ⟨v10, rfl, ow, bn⟩
          obtain ⟨A10, c10, rfl, _⟩ := (own_BS ow).form
          replace N := N.step bn (own_BS ow)
          clear ow bn
          go_wp2_with fail
          refine hK.out _ _ ?_ (fun hH2 => ?_)
          · exact HC.out _ _ N
          clear hHeld hK K; have hHeld := hH2; clear hH2; try go_frame
          refine hyO (some 23) 13 rfl (fun K hK => ?_)
          obtain ⟨c13, wq, hcv, x13, bn⟩ := HCB.out wq
          go_simp
          replace N := N.step bn x13
          clear hcv x13 bn
          refine hK.out _ _ ?_ (fun hH2 => ?_)
          · exact HC.out _ _ N
          clear hHeld hK K; have hHeld := hH2; clear hH2; try go_frame
          refine hyO (some 24) 14 rfl (fun K hK => ?_)
          go_simp
          go_at_call 20
          refine (HTB2.out _ _ _ (N.get (by repeat (first | exact List.Mem.head _ | apply List.Mem.tail)))).mono ?_
          rintro e wq ⟨v14, rfl, ow, bn⟩
          obtain ⟨A14, c14, rfl, _⟩ := (own_BS ow).form
          replace N := N.step bn (own_BS ow)
          clear ow bn
          go_wp2_with fail
          refine hK.out _ _ ?_ (fun hH2 => ?_)
          · exact HC.out _ _ N
          clear hHeld hK K; have hHeld := hH2; clear hH2; try go_frame
          refine hyO (some 25) 15 rfl (fun K hK => ?_)
          go_simp
          have hl := LS.four (t := 25) (N.get (v := .slice A3 1 1) (l := [UInt8.ofNat (kn % 256)]) (by repeat (first | exact List.Mem.head _ | apply List.Mem.tail))) (N.get (v := .slice A6 (numb (u64 t)).length c6) (l := numb (u64 t)) (by repeat (first | exact List.Mem.head _ | apply List.Mem.tail))) (N.get (v := .slice A10 (texb la).length c10) (l := texb la) (by repeat (first | exact List.Mem.head _ | apply List.Mem.tail))) (N.get (v := .slice A14 (texb lb).length c14) (l := texb lb) (by repeat (first | exact List.Mem.head _ | apply List.Mem.tail)))
          have bn := (Below.refl wq.heap.size wq).alloc (Nat.le_refl _) (.cells #[.slice A3 1 1, .slice A6 (numb (u64 t)).length c6, .slice A10 (texb la).length c10, .slice A14 (texb lb).length c14] 25)
          replace N := N.past bn
          clear bn
          refine hK.out _ _ ?_ (fun hH2 => ?_)
          · exact HC.out _ _ N
          clear hHeld hK K; have hHeld := hH2; clear hH2; try go_frame
          refine hyO (some 26) 16 rfl (fun K hK => ?_)
          go_simp
          go_at_call 18
          refine (HALL.out _ _ _ hl).mono ?_
          rintro e wq ⟨v16, rfl, ow, bn⟩
          have hfin := HFIN.out wq v16 ((own_BS ow).mono fun b h => ⟨Nat.le_trans (Nat.le_of_lt N.kb.lt) h.1, h.2⟩) (N.past bn).bl
          replace N := N.past bn
          clear ow bn hl
          go_wp2_with fail
          refine hK.out _ _ ?_ (fun hH2 => ?_)
          · exact HC.out _ _ N
          clear hHeld hK K; have hHeld := hH2; clear hH2; try go_frame
          refine hyY (some 2) 17 rfl hHeld ?_; go_frame
          refine hyY (some 3) 18 rfl hHeld ?_; go_frame
          refine wpAnyH_done (by kernel_rfl) ?_ _
          have hKK := HKK.out
          clear hHeld HC HFIN N HCA HCB HTA2 HTB2 HALL
          go_wp2_with fail
          exact hfin
        · obtain ⟨c13, wq, hcv, x13, bn⟩ := HCB.out wq
          go_simp
          replace N := N.step bn x13
          clear hcv x13 bn
          refine hK.out _ _ ?_ (fun hH2 => ?_)
          · exact HC.out _ _ N
          clear hHeld hK K; have hHeld := hH2; clear hH2; try go_frame
          refine hyO (some 20) 10 rfl (fun K hK => ?_)
          go_simp
          go_at_call 20
          refine (HTA2.out _ _ _ (N.get (by repeat (first | exact List.Mem.head _ | apply List.Mem.tail)))).mono ?_
          rintro e wq ⟨v10, rfl, ow, bn⟩
          obtain ⟨A10, c10, rfl, _⟩ := (own_BS ow).form
          replace N := N.step bn (own_BS ow)
          clear ow bn
          go_wp2_with fail
          refine hK.out _ _ ?_ (fun hH2 => ?_)
          · exact HC.out _ _ N
          clear hHeld hK K; have hHeld := hH2; clear hH2; try go_frame
          refine hyO (some 24) 14 rfl (fun K hK => ?_)
          go_simp
          go_at_call 20
          refine (HTB2.out _ _ _ (N.get (by repeat (first | exact List.Mem.head _ | apply List.Mem.tail)))).mono ?_
          rintro e wq ⟨v14, rfl, ow, bn⟩
          obtain ⟨A14, c14, rfl, _⟩ := (own_BS ow).form
          replace N := N.step bn (own_BS ow)
          clear ow bn
          go_wp2_with fail
          refine hK.out _ _ ?_ (fun hH2 => ?_)
          · exact HC.out _ _ N
          clear hHeld hK K; have hHeld := hH2; clear hH2; try go_frame
          refine hyO (some 25) 15 rfl (fun K hK => ?_)
          go_simp
          have hl := LS.four (t := 25) (N.get (v := .slice A3 1 1) (l := [UInt8.ofNat (kn % 256)]) (by repeat (first | exact List.Mem.head _ | apply List.Mem.tail))) (N.get (v := .slice A6 (numb (u64 t)).length c6) (l := numb (u64 t)) (by repeat (first | exact List.Mem.head _ | apply List.Mem.tail))) (N.get (v := .slice A10 (texb la).length c10) (l := texb la) (by repeat (first | exact List.Mem.head _ | apply List.Mem.tail))) (N.get (v := .slice A14 (texb lb).length c14) (l := texb lb) (by repeat (first | exact List.Mem.head _ | apply List.Mem.tail)))
          have bn := (Below.refl wq.heap.size wq).alloc (Nat.le_refl _) (.cells #[.slice A3 1 1, .slice A6 (numb (u64 t)).length c6, .slice A10 (texb la).length c10, .slice A14 (texb lb).length c14] 25)
          replace N := N.past bn
          clear bn
          refine hK.out _ _ ?_ (fun hH2 => ?_)
          · exact HC.out _ _ N
          clear hHeld hK K; have hHeld := hH2; clear hH2; try go_frame
          refine hyO (some 26) 16 rfl (fun K hK => ?_)
          go_simp
          go_at_call 18
          refine (HALL.out _ _ _ hl).mono ?_
          rintro e wq ⟨v16, rfl, ow, bn⟩
          have hfin := HFIN.out wq v16 ((own_BS ow).mono fun b h => ⟨Nat.le_trans (Nat.le_of_lt N.kb.lt) h.1, h.2⟩) (N.past bn).bl
          replace N := N.past bn
          clear ow bn hl
          go_wp2_with fail
          refine hK.out _ _ ?_ (fun hH2 => ?_)
          · exact HC.out _ _ N
          clear hHeld hK K; have hHeld := hH2; clear hH2; try go_frame
          refine hyY (some 2) 17 rfl hHeld ?_; go_frame
          refine hyY (some 3) 18 rfl hHeld ?_; go_frame
          refine wpAnyH_done (by kernel_rfl) ?_ _
          have hKK := HKK.out
          clear hHeld HC HFIN N HCA HCB HTA2 HTB2 HALL
          go_wp2_with fail
          exact hfin
      · obtain ⟨c13, wq, hcv, x13, bn⟩ := HCB.out wq
        go_simp
        replace N := N.step bn x13
        clear hcv x13 bn
        refine hK.out _ _ ?_ (fun hH2 => ?_)
        · exact HC.out _ _ N
        clear hHeld hK K; have hHeld := hH2; clear hH2; try go_frame
        refine hyO (some 16) 6 rfl (fun K hK => ?_)
        go_simp
        go_at_call 19
        refine (HNI.out _).mono ?_
        rintro e wq ⟨v6, rfl, ow, bn⟩
        obtain ⟨A6, c6, rfl, _⟩ := (own_BS ow).form
        replace N := N.step bn (own_BS ow)
        clear ow bn
        go_wp2_with fail
        refine hK.out _ _ ?_ (fun hH2 => ?_)
        · exact HC.out _ _ N
        clear hHeld hK K; have hHeld := hH2; clear hH2; try go_frame
        refine hyO (some 20) 10 rfl (fun K hK => ?_)
        go_simp
        go_at_call 20
        refine (HTA2.out _ _ _ (N.get (by repeat (first | exact List.Mem.head _ | apply List.Mem.tail)))).mono ?_
        rintro e wq ⟨v10, rfl, ow, bn⟩
        obtain ⟨A10, c10, rfl, _⟩ := (own_BS ow).form
        replace N := N.step bn (own_BS ow)
        clear ow bn
        go_wp2_with fail
        refine hK.out _ _ ?_ (fun hH2 => ?_)
        · exact HC.out _ _ N
        clear hHeld hK K; have hHeld := hH2; clear hH2; try go_frame
        refine hyO (some 24) 14 rfl (fun K hK => ?_)
        go_simp
        go_at_call 20
        refine (HTB2.out _ _ _ (N.get (by repeat (first | exact List.Mem.head _ | apply List.Mem.tail)))).mono ?_
        rintro e wq ⟨v14, rfl, ow, bn⟩
        obtain ⟨A14, c14, rfl, _⟩ := (own_BS ow).form
        replace N := N.step bn (own_BS ow)
        clear ow bn
        go_wp2_with fail
        refine hK.out _ _ ?_ (fun hH2 => ?_)
        · exact HC.out _ _ N
        clear hHeld hK K; have hHeld := hH2; clear hH2; try go_frame
        refine hyO (some 25) 15 rfl (fun K hK => ?_)
        go_simp
        have hl := LS.four (t := 25) (N.get (v := .slice A3 1 1) (l := [UInt8.ofNat (kn % 256)]) (by repeat (first | exact List.Mem.head _ | apply List.Mem.tail))) (N.get (v := .slice A6 (numb (u64 t)).length c6) (l := numb (u64 t)) (by repeat (first | exact List.Mem.head _ | apply List.Mem.tail))) (N.get (v := .slice A10 (texb la).length c10) (l := texb la) (by repeat (first | exact List.Mem.head _ | apply List.Mem.tail))) (N.get (v := .slice A14 (texb lb).length c14) (l := texb lb) (by repeat (first | exact List.Mem.head _ | apply List.Mem.tail)))
        have bn := (Below.refl wq.heap.size wq).alloc (Nat.le_refl _) (.cells #[.slice A3 1 1, .slice A6 (numb (u64 t)).length c6, .slice A10 (texb la).length c10, .slice A14 (texb lb).length c14] 25)
        replace N := N.past bn
        clear bn
        refine hK.out _ _ ?_ (fun hH2 => ?_)
        · exact HC.out _ _ N
        clear hHeld hK K; have hHeld := hH2; clear hH2; try go_frame
        refine hyO (some 26) 16 rfl (fun K hK => ?_)
        go_simp
        go_at_call 18
        refine (HALL.out _ _ _ hl).mono ?_
        rintro e wq ⟨v16, rfl, ow, bn⟩
        have hfin := HFIN.out wq v16 ((own_BS ow).mono fun b h => ⟨Nat.le_trans (Nat.le_of_lt N.kb.lt) h.1, h.2⟩) (N.past bn).bl
        replace N := N.past bn
        clear ow bn hl
        go_wp2_with fail
        refine hK.out _ _ ?_ (fun hH2 => ?_)
        · exact HC.out _ _ N
        clear hHeld hK K; have hHeld := hH2; clear hH2; try go_frame
        refine hyY (some 2) 17 rfl hHeld ?_; go_frame
        refine hyY (some 3) 18 rfl hHeld ?_; go_frame
        refine wpAnyH_done (by kernel_rfl) ?_ _
        have hKK := HKK.out
        clear hHeld HC HFIN N HCA HCB HTA2 HTB2 HALL
        go_wp2_with fail
        exact hfin
    · obtain ⟨c13, wq, hcv, x13, bn⟩ := HCB.out wq
      go_simp
      replace N := N.step bn x13
      clear hcv x13 bn
      refine hK.out _ _ ?_ (fun hH2 => ?_)
      · exact HC.out _ _ N
      clear hHeld hK K; have hHeld := hH2; clear hH2; try go_frame
      refine held_two (o := ⟨some 16, _, _, _, _, _⟩) (p := ⟨some 19, _, _, _, _, _⟩) 6 9 (by kernel_rfl) rfl rfl (by rfl) (by rfl) (fun K hK => ?_) (fun K hK => ?_)
      · go_simp
        go_at_call 19
        refine (HNI.out _).mono ?_
        rintro e wq ⟨v6, rfl, ow, bn⟩
        obtain ⟨A6, c6, rfl, _⟩ := (own_BS ow).form
        replace N := N.step bn (own_BS ow)
        clear ow bn
        go_wp2_with fail
        refine hK.out _ _ ?_ (fun hH2 => ?_)
        · exact HC.out _ _ N
        clear hHeld hK K; have hHeld := hH2; clear hH2; try go_frame
        refine hyO (some 19) 9 rfl (fun K hK => ?_)
        obtain ⟨c9, wq, hcv, x9, bn⟩ := HCA.out wq
        go_simp
        replace N := N.step bn x9
        clear hcv x9 bn
        refine hK.out _ _ ?_ (fun hH2 => ?_)
        · exact HC.out _ _ N
        clear hHeld hK K; have hHeld := hH2; clear hH2; try go_frame
        refine hyO (some 20) 10 rfl (fun K hK => ?_)
        go_simp
        go_at_call 20
        refine (HTA2.out _ _ _ (N.get (by repeat (first | exact List.Mem.head _ | apply List.Mem.tail)))).mono ?_
        rintro e wq ⟨v10, rfl, ow, bn⟩
        obtain ⟨A10, c10, rfl, _⟩ := (own_BS ow).form
        replace N := N.step bn (own_BS ow)
        clear ow bn
        go_wp2_with fail
        refine hK.out _ _ ?_ (fun hH2 => ?_)
        · exact HC.out _ _ N
        clear hHeld hK K; have hHeld := hH2; clear hH2; try go_frame
        refine hyO (some 24) 14 rfl (fun K hK => ?_)
        go_simp
        go_at_call 20
        refine (HTB2.out _ _ _ (N.get (by repeat (first | exact List.Mem.head _ | apply List.Mem.tail)))).mono ?_
        rintro e wq ⟨v14, rfl, ow, bn⟩
        obtain ⟨A14, c14, rfl, _⟩ := (own_BS ow).form
        replace N := N.step bn (own_BS ow)
        clear ow bn
        go_wp2_with fail
        refine hK.out _ _ ?_ (fun hH2 => ?_)
        · exact HC.out _ _ N
        clear hHeld hK K; have hHeld := hH2; clear hH2; try go_frame
        refine hyO (some 25) 15 rfl (fun K hK => ?_)
        go_simp
        have hl := LS.four (t := 25) (N.get (v := .slice A3 1 1) (l := [UInt8.ofNat (kn % 256)]) (by repeat (first | exact List.Mem.head _ | apply List.Mem.tail))) (N.get (v := .slice A6 (numb (u64 t)).length c6) (l := numb (u64 t)) (by repeat (first | exact List.Mem.head _ | apply List.Mem.tail))) (N.get (v := .slice A10 (texb la).length c10) (l := texb la) (by repeat (first | exact List.Mem.head _ | apply List.Mem.tail))) (N.get (v := .slice A14 (texb lb).length c14) (l := texb lb) (by repeat (first | exact List.Mem.head _ | apply List.Mem.tail)))
        have bn := (Below.refl wq.heap.size wq).alloc (Nat.le_refl _) (.cells #[.slice A3 1 1, .slice A6 (numb (u64 t)).length c6, .slice A10 (texb la).length c10, .slice A14 (texb lb).length c14] 25)
        replace N := N.past bn
        clear bn
        refine hK.out _ _ ?_ (fun hH2 => ?_)
        · exact HC.out _ _ N
        clear hHeld hK K; have hHeld := hH2; clear hH2; try go_frame
        refine hyO (some 26) 16 rfl (fun K hK => ?_)
        go_simp
        go_at_call 18
        refine (HALL.out _ _ _ hl).mono ?_
        rintro e wq ⟨v16, rfl, ow, bn⟩
        have hfin := HFIN.out wq v16 ((own_BS ow).mono fun b h => ⟨Nat.le_trans (Nat.le_of_lt N.kb.lt) h.1, h.2⟩) (N.past bn).bl
        replace N := N.past bn
        clear ow bn hl
        go_wp2_with fail
        refine hK.out _ _ ?_ (fun hH2 => ?_)
        · exact HC.out _ _ N
        clear hHeld hK K; have hHeld := hH2; clear hH2; try go_frame
        refine hyY (some 2) 17 rfl hHeld ?_; go_frame
        refine hyY (some 3) 18 rfl hHeld ?_; go_frame
        refine wpAnyH_done (by kernel_rfl) ?_ _
        have hKK := HKK.out
        clear hHeld HC HFIN N HCA HCB HTA2 HTB2 HALL
        go_wp2_with fail
        exact hfin
      · obtain ⟨c9, wq, hcv, x9, bn⟩ := HCA.out wq
        go_simp
        replace N := N.step bn x9
        clear hcv x9 bn
        refine hK.out _ _ ?_ (fun hH2 => ?_)
        · exact HC.out _ _ N
        clear hHeld hK K; have hHeld := hH2; clear hH2; try go_frame
        refine hyO (some 16) 6 rfl (fun K hK => ?_)
        go_simp
        go_at_call 19
        refine (HNI.out _).mono ?_
        rintro e wq ⟨v6, rfl, ow, bn⟩
        obtain ⟨A6, c6, rfl, _⟩ := (own_BS ow).form
        replace N := N.step bn (own_BS ow)
        clear ow bn
        go_wp2_with fail
        refine hK.out _ _ ?_ (fun hH2 => ?_)
        · exact HC.out _ _ N
        clear hHeld hK K; have hHeld := hH2; clear hH2; try go_frame
        refine hyO (some 20) 10 rfl (fun K hK => ?_)
        go_simp
        go_at_call 20
        refine (HTA2.out _ _ _ (N.get (by repeat (first | exact List.Mem.head _ | apply List.Mem.tail)))).mono ?_
        rintro e wq ⟨v10, rfl, ow, bn⟩
        obtain ⟨A10, c10, rfl, _⟩ := (own_BS ow).form
        replace N := N.step bn (own_BS ow)
        clear ow bn
        go_wp2_with fail
        refine hK.out _ _ ?_ (fun hH2 => ?_)
        · exact HC.out _ _ N
        clear hHeld hK K; have hHeld := hH2; clear hH2; try go_frame
        refine hyO (some 24) 14 rfl (fun K hK => ?_)
        go_simp
        go_at_call 20
        refine (HTB2.out _ _ _ (N.get (by repeat (first | exact List.Mem.head _ | apply List.Mem.tail)))).mono ?_
        rintro e wq ⟨v14, rfl, ow, bn⟩
        obtain ⟨A14, c14, rfl, _⟩ := (own_BS ow).form
        replace N := N.step bn (own_BS ow)
        clear ow bn
        go_wp2_with fail
        refine hK.out _ _ ?_ (fun hH2 => ?_)
        · exact HC.out _ _ N
        clear hHeld hK K; have hHeld := hH2; clear hH2; try go_frame
        refine hyO (some 25) 15 rfl (fun K hK => ?_)
        go_simp
        have hl := LS.four (t := 25) (N.get (v := .slice A3 1 1) (l := [UInt8.ofNat (kn % 256)]) (by repeat (first | exact List.Mem.head _ | apply List.Mem.tail))) (N.get (v := .slice A6 (numb (u64 t)).length c6) (l := numb (u64 t)) (by repeat (first | exact List.Mem.head _ | apply List.Mem.tail))) (N.get (v := .slice A10 (texb la).length c10) (l := texb la) (by repeat (first | exact List.Mem.head _ | apply List.Mem.tail))) (N.get (v := .slice A14 (texb lb).length c14) (l := texb lb) (by repeat (first | exact List.Mem.head _ | apply List.Mem.tail)))
        have bn := (Below.refl wq.heap.size wq).alloc (Nat.le_refl _) (.cells #[.slice A3 1 1, .slice A6 (numb (u64 t)).length c6, .slice A10 (texb la).length c10, .slice A14 (texb lb).length c14] 25)
        replace N := N.past bn
        clear bn
        refine hK.out _ _ ?_ (fun hH2 => ?_)
        · exact HC.out _ _ N
        clear hHeld hK K; have hHeld := hH2; clear hH2; try go_frame
        refine hyO (some 26) 16 rfl (fun K hK => ?_)
        go_simp
        go_at_call 18
        refine (HALL.out _ _ _ hl).mono ?_
        rintro e wq ⟨v16, rfl, ow, bn⟩
        have hfin := HFIN.out wq v16 ((own_BS ow).mono fun b h => ⟨Nat.le_trans (Nat.le_of_lt N.kb.lt) h.1, h.2⟩) (N.past bn).bl
        replace N := N.past bn
        clear ow bn hl
        go_wp2_with fail
        refine hK.out _ _ ?_ (fun hH2 => ?_)
        · exact HC.out _ _ N
        clear hHeld hK K; have hHeld := hH2; clear hH2; try go_frame
        refine hyY (some 2) 17 rfl hHeld ?_; go_frame
        refine hyY (some 3) 18 rfl hHeld ?_; go_frame
        refine wpAnyH_done (by kernel_rfl) ?_ _
        have hKK := HKK.out
        clear hHeld HC HFIN N HCA HCB HTA2 HTB2 HALL
        go_wp2_with fail
        exact hfin
  · go_simp
    go_at_call 19
    refine (HNI.out _).mono ?_
    rintro e wq ⟨v6, rfl, ow, bn⟩
    obtain ⟨A6, c6, rfl, _⟩ := (own_BS ow).form
    replace N := N.step bn (own_BS ow)
    clear ow bn
    go_wp2_with fail
    refine hK.out _ _ ?_ (fun hH2 => ?_)
    · exact HC.out _ _ N
    clear hHeld hK K; have hHeld := hH2; clear hH2; try go_frame
    refine held_three (o := ⟨some 13, _, _, _, _, _⟩) (p := ⟨some 19, _, _, _, _, _⟩) (q := ⟨some 23, _, _, _, _, _⟩) 3 9 13 (by kernel_rfl) rfl rfl rfl (by rfl) (by rfl) (by rfl) (fun K hK => ?_) (fun K hK => ?_) (fun K hK => ?_)
    · go_simp
      rw [ewrap8, byte_mod]
      replace N := N.lit kn
      obtain ⟨A3, hA3⟩ : ∃ A, A = some (⟨wq.heap.size, 0, none⟩ : Addr) := ⟨_, rfl⟩
      rw [← hA3] at N ⊢
      clear hA3
      generalize wq.alloc (.cells #[bv (UInt8.ofNat (kn % 256))] 5) = wq at N ⊢
      refine hK.out _ _ ?_ (fun hH2 => ?_)
      · exact HC.out _ _ N
      clear hHeld hK K; have hHeld := hH2; clear hH2; try go_frame
      refine held_two (o := ⟨some 19, _, _, _, _, _⟩) (p := ⟨some 23, _, _, _, _, _⟩) 9 13 (by kernel_rfl) rfl rfl (by rfl) (by rfl) (fun K hK => ?_) (fun K hK => ?_)
      · obtain ⟨c9, wq, hcv, x9, bn⟩ := HCA.out wq
        go_simp
        replace N := N.step bn x9
        clear hcv x9 bn
        refine hK.out _ _ ?_ (fun hH2 => ?_)
        · exact HC.out _ _ N
        clear hHeld hK K; have hHeld := hH2; clear hH2; try go_frame
        refine held_two (o := ⟨some 20, _, _, _, _, _⟩) (p := ⟨some 23, _, _, _, _, _⟩) 10 13 (by kernel_rfl) rfl rfl (by rfl) (by rfl) (fun K hK => ?_) (fun K hK => ?_)
        · go_simp
          go_at_call 20
          refine (HTA2.out _ _ _ (N.get (by repeat (first | exact List.Mem.head _ | apply List.Mem.tail)))).mono ?_
          rintro e wq ⟨v10, rfl, ow, bn⟩
          obtain ⟨A10, c10, rfl, _⟩ := (own_BS ow).form
          replace N := N.step bn (own_BS ow)
          clear ow bn
          go_wp2_with fail
          refine hK.out _ _ ?_ (fun hH2 => ?_)
          · exact HC.out _ _ N
          clear hHeld hK K; have hHeld := hH2; clear hH2; try go_frame
          refine hyO (some 23) 13 rfl (fun K hK => ?_)
          obtain ⟨c13, wq, hcv, x13, bn⟩ := HCB.out wq
          go_simp
          replace N := N.step bn x13
          clear hcv x13 bn
          refine hK.out _ _ ?_ (fun hH2 => ?_)
          · exact HC.out _ _ N
          clear hHeld hK K; have hHeld := hH2; clear hH2; try go_frame
          refine hyO (some 24) 14 rfl (fun K hK => ?_)
          go_simp
          go_at_call 20
          refine (HTB2.out _ _ _ (N.get (by repeat (first | exact List.Mem.head _ | apply List.Mem.tail)))).mono ?_
          rintro e wq ⟨v14, rfl, ow, bn⟩
          obtain ⟨A14, c14, rfl, _⟩ := (own_BS ow).form
          replace N := N.step bn (own_BS ow)
          clear ow bn
          go_wp2_with fail
          refine hK.out _ _ ?_ (fun hH2 => ?_)
          · exact HC.out _ _ N
          clear hHeld hK K; have hHeld := hH2; clear hH2; try go_frame
          refine hyO (some 25) 15 rfl (fun K hK => ?_)
          go_simp
          have hl := LS.four (t := 25) (N.get (v := .slice A3 1 1) (l := [UInt8.ofNat (kn % 256)]) (by repeat (first | exact List.Mem.head _ | apply List.Mem.tail))) (N.get (v := .slice A6 (numb (u64 t)).length c6) (l := numb (u64 t)) (by repeat (first | exact List.Mem.head _ | apply List.Mem.tail))) (N.get (v := .slice A10 (texb la).length c10) (l := texb la) (by repeat (first | exact List.Mem.head _ | apply List.Mem.tail))) (N.get (v := .slice A14 (texb lb).length c14) (l := texb lb) (by repeat (first | exact List.Mem.head _ | apply List.Mem.tail)))
          have bn := (Below.refl wq.heap.size wq).alloc (Nat.le_refl _) (.cells #[.slice A3 1 1, .slice A6 (numb (u64 t)).length c6, .slice A10 (texb la).length c10, .slice A14 (texb lb).length c14] 25)
          replace N := N.past bn
          clear bn
          refine hK.out _ _ ?_ (fun hH2 => ?_)
          · exact HC.out _ _ N
          clear hHeld hK K; have hHeld := hH2; clear hH2; try go_frame
          refine hyO (some 26) 16 rfl (fun K hK => ?_)
          go_simp
          go_at_call 18
          refine (HALL.out _ _ _ hl).mono ?_
          rintro e wq ⟨v16, rfl, ow, bn⟩
          have hfin := HFIN.out wq v16 ((own_BS ow).mono fun b h => ⟨Nat.le_trans (Nat.le_of_lt N.kb.lt) h.1, h.2⟩) (N.past bn).bl
          replace N := N.past bn
          clear ow bn hl
          go_wp2_with fail
          refine hK.out _ _ ?_ (fun hH2 => ?_)
          · exact HC.out _ _ N
          clear hHeld hK K; have hHeld := hH2; clear hH2; try go_frame
          refine hyY (some 2) 17 rfl hHeld ?_; go_frame
          refine hyY (some 3) 18 rfl hHeld ?_; go_frame
          refine wpAnyH_done (by kernel_rfl) ?_ _
          have hKK := HKK.out
          clear hHeld HC HFIN N HCA HCB HTA2 HTB2 HALL
          go_wp2_with fail
          exact hfin
        · obtain ⟨c13, wq, hcv, x13, bn⟩ := HCB.out wq
          go_simp
          replace N := N.step bn x13
          clear hcv x13 bn
          refine hK.out _ _ ?_ (fun hH2 => ?_)
          · exact HC.out _ _ N
          clear hHeld hK K; have hHeld := hH2; clear hH2; try go_frame
          refine hyO (some 20) 10 rfl (fun K hK => ?_)
          go_simp
          go_at_call 20
          refine (HTA2.out _ _ _ (N.get (by repeat (first | exact List.Mem.head _ | apply List.Mem.tail)))).mono ?_
          rintro e wq ⟨v10, rfl, ow, bn⟩
          obtain ⟨A10, c10, rfl, _⟩ := (own_BS ow).form
          replace N := N.step bn (own_BS ow)
          clear ow bn
          go_wp2_with fail
          refine hK.out _ _ ?_ (fun hH2 => ?_)
          · exact HC.out _ _ N
          clear hHeld hK K; have hHeld := hH2; clear hH2; try go_frame
          refine hyO (some 24) 14 rfl (fun K hK => ?_)
          go_simp
          go_at_call 20
          refine (HTB2.out _ _ _ (N.get (by repeat (first | exact List.Mem.head _ | apply List.Mem.tail)))).mono ?_
          rintro e wq ⟨v14, rfl, ow, bn⟩
          obtain ⟨A14, c14, rfl, _⟩ := (own_BS ow).form
          replace N := N.step bn (own_BS ow)
          clear ow bn
          go_wp2_with fail
          refine hK.out _ _ ?_ (fun hH2 => ?_)
          · exact HC.out _ _ N
          clear hHeld hK K; have hHeld := hH2; clear hH2; try go_frame
          refine hyO (some 25) 15 rfl (fun K hK => ?_)
          go_simp
          have hl := LS.four (t := 25) (N.get (v := .slice A3 1 1) (l := [UInt8.ofNat (kn % 256)]) (by repeat (first | exact List.Mem.head _ | apply List.Mem.tail))) (N.get (v := .slice A6 (numb (u64 t)).length c6) (l := numb (u64 t)) (by repeat (first | exact List.Mem.head _ | apply List.Mem.tail))) (N.get (v := .slice A10 (texb la).length c10) (l := texb la) (by repeat (first | exact List.Mem.head _ | apply List.Mem.tail))) (N.get (v := .slice A14 (texb lb).length c14) (l := texb lb) (by repeat (first | exact List.Mem.head _ | apply List.Mem.tail)))
          have bn := (Below.refl wq.heap.size wq).alloc (Nat.le_refl _) (.cells #[.slice A3 1 1, .slice A6 (numb (u64 t)).length c6, .slice A10 (texb la).length c10, .slice A14 (texb lb).length c14] 25)
          replace N := N.past bn
          clear bn
          refine hK.out _ _ ?_ (fun hH2 => ?_)
          · exact HC.out _ _ N
          clear hHeld hK K; have hHeld := hH2; clear hH2; try go_frame
          refine hyO (some 26) 16 rfl (fun K hK => ?_)
          go_simp
          go_at_call 18
          refine (HALL.out _ _ _ hl).mono ?_
          rintro e wq ⟨v16, rfl, ow, bn⟩
          have hfin := HFIN.out wq v16 ((own_BS ow).mono fun b h => ⟨Nat.le_trans (Nat.le_of_lt N.kb.lt) h.1, h.2⟩) (N.past bn).bl
          replace N := N.past bn
          clear ow bn hl
          go_wp2_with fail
          refine hK.out _ _ ?_ (fun hH2 => ?_)
          · exact HC.out _ _ N
          clear hHeld hK K; have hHeld := hH2; clear hH2; try go_frame
          refine hyY (some 2) 17 rfl hHeld ?_; go_frame
          refine hyY (some 3) 18 rfl hHeld ?_; go_frame
          refine wpAnyH_done (by kernel_rfl) ?_ _
          have hKK := HKK.out
          clear hHeld HC HFIN N HCA HCB HTA2 HTB2 HALL
          go_wp2_with fail
          exact hfin
      · obtain ⟨c13, wq, hcv, x13, bn⟩ := HCB.out wq
        go_simp
        replace N := N.step bn x13
        clear hcv x13 bn
        refine hK.out _ _ ?_ (fun hH2 => ?_)
        · exact HC.out _ _ N
        clear hHeld hK K; have hHeld := hH2; clear hH2; try go_frame
        refine hyO (some 19) 9 rfl (fun K hK => ?_)
        obtain ⟨c9, wq, hcv, x9, bn⟩ := HCA.out wq
        go_simp
        replace N := N.step bn x9
        clear hcv x9 bn
        refine hK.out _ _ ?_ (fun hH2 => ?_)
        · exact HC.out _ _ N
        clear hHeld hK K; have hHeld := hH2; clear hH2; try go_frame
        refine hyO (some 20) 10 rfl (fun K hK => ?_)
        go_simp
        go_at_call 20
        refine (HTA2.out _ _ _ (N.get (by repeat (first | exact List.Mem.head _ | apply List.Mem.tail)))).mono ?_
        rintro e wq ⟨v10, rfl, ow, bn⟩
        obtain ⟨A10, c10, rfl, _⟩ := (own_BS ow).form
        replace N := N.step bn (own_BS ow)
        clear ow bn
        go_wp2_with fail
        refine hK.out _ _ ?_ (fun hH2 => ?_)
        · exact HC.out _ _ N
        clear hHeld hK K; have hHeld := hH2; clear hH2; try go_frame
        refine hyO (some 24) 14 rfl (fun K hK => ?_)
        go_simp
        go_at_call 20
        refine (HTB2.out _ _ _ (N.get (by repeat (first | exact List.Mem.head _ | apply List.Mem.tail)))).mono ?_
        rintro e wq ⟨v14, rfl, ow, bn⟩
        obtain ⟨A14, c14, rfl, _⟩ := (own_BS ow).form
        replace N := N.step bn (own_BS ow)
        clear ow bn
        go_wp2_with fail
        refine hK.out _ _ ?_ (fun hH2 => ?_)
        · exact HC.out _ _ N
        clear hHeld hK K; have hHeld := hH2; clear hH2; try go_frame
        refine hyO (some 25) 15 rfl (fun K hK => ?_)
        go_simp
        have hl := LS.four (t := 25) (N.get (v := .slice A3 1 1) (l := [UInt8.ofNat (kn % 256)]) (by repeat (first | exact List.Mem.head _ | apply List.Mem.tail))) (N.get (v := .slice A6 (numb (u64 t)).length c6) (l := numb (u64 t)) (by repeat (first | exact List.Mem.head _ | apply List.Mem.tail))) (N.get (v := .slice A10 (texb la).length c10) (l := texb la) (by repeat (first | exact List.Mem.head _ | apply List.Mem.tail))) (N.get (v := .slice A14 (texb lb).length c14) (l := texb lb) (by repeat (first | exact List.Mem.head _ | apply List.Mem.tail)))
        have bn := (Below.refl wq.heap.size wq).alloc (Nat.le_refl _) (.cells #[.slice A3 1 1, .slice A6 (numb (u64 t)).length c6, .slice A10 (texb la).length c10, .slice A14 (texb lb).length c14] 25)
        replace N := N.past bn
        clear bn
        refine hK.out _ _ ?_ (fun hH2 => ?_)
        · exact HC.out _ _ N
        clear hHeld hK K; have hHeld := hH2; clear hH2; try go_frame
        refine hyO (some 26) 16 rfl (fun K hK => ?_)
        go_simp
        go_at_call 18
        refine (HALL.out _ _ _ hl).mono ?_
        rintro e wq ⟨v16, rfl, ow, bn⟩
        have hfin := HFIN.out wq v16 ((own_BS ow).mono fun b h => ⟨Nat.le_trans (Nat.le_of_lt N.kb.lt) h.1, h.2⟩) (N.past bn).bl
        replace N := N.past bn
        clear ow bn hl
        go_wp2_with fail
        refine hK.out _ _ ?_ (fun hH2 => ?_)
        · exact HC.out _ _ N
        clear hHeld hK K; have hHeld := hH2; clear hH2; try go_frame
        refine hyY (some 2) 17 rfl hHeld ?_; go_frame
        refine hyY (some 3) 18 rfl hHeld ?_; go_frame
        refine wpAnyH_done (by kernel_rfl) ?_ _
        have hKK := HKK.out
        clear hHeld HC HFIN N HCA HCB HTA2 HTB2 HALL
        go_wp2_with fail
        exact hfin
    · obtain ⟨c9, wq, hcv, x9, bn⟩ := HCA.out wq
      go_simp
      replace N := N.step bn x9
      clear hcv x9 bn
      refine hK.out _ _ ?_ (fun hH2 => ?_)
      · exact HC.out _ _ N
      clear hHeld hK K; have hHeld := hH2; clear hH2; try go_frame
      refine held_three (o := ⟨some 13, _, _, _, _, _⟩) (p := ⟨some 20, _, _, _, _, _⟩) (q := ⟨some 23, _, _, _, _, _⟩) 3 10 13 (by kernel_rfl) rfl rfl rfl (by rfl) (by rfl) (by rfl) (fun K hK => ?_) (fun K hK => ?_) (fun K hK => ?_)
      · go_simp
        rw [ewrap8, byte_mod]
        replace N := N.lit kn
        obtain ⟨A3, hA3⟩ : ∃ A, A = some (⟨wq.heap.size, 0, none⟩ : Addr) := ⟨_, rfl⟩
        rw [← hA3] at N ⊢
        clear hA3
        generalize wq.alloc (.cells #[bv (UInt8.ofNat (kn % 256))] 5) = wq at N ⊢
        refine hK.out _ _ ?_ (fun hH2 => ?_)
        · exact HC.out _ _ N
        clear hHeld hK K; have hHeld := hH2; clear hH2; try go_frame
        refine held_two (o := ⟨some 20, _, _, _, _, _⟩) (p := ⟨some 23, _, _, _, _, _⟩) 10 13 (by kernel_rfl) rfl rfl (by rfl) (by rfl) (fun K hK => ?_) (fun K hK => ?_)
        · go_simp
          go_at_call 20
          refine (HTA2.out _ _ _ (N.get (by repeat (first | exact List.Mem.head _ | apply List.Mem.tail)))).mono ?_
          rintro e wq ⟨v10, rfl, ow, bn⟩
          obtain ⟨A10, c10, rfl, _⟩ := (own_BS ow).form
          replace N := N.step bn (own_BS ow)
          clear ow bn
          go_wp2_with fail
          refine hK.out _ _ ?_ (fun hH2 => ?_)
          · exact HC.out _ _ N
          clear hHeld hK K; have hHeld := hH2; clear hH2; try go_frame
          refine hyO (some 23) 13 rfl (fun K hK => ?_)
          obtain ⟨c13, wq, hcv, x13, bn⟩ := HCB.out wq
          go_simp
          replace N := N.step bn x13
          clear hcv x13 bn
          refine hK.out _ _ ?_ (fun hH2 => ?_)
          · exact HC.out _ _ N
          clear hHeld hK K; have hHeld := hH2; clear hH2; try go_frame
          refine hyO (some 24) 14 rfl (fun K hK => ?_)
          go_simp
          go_at_call 20
          refine (HTB2.out _ _ _ (N.get (by repeat (first | exact List.Mem.head _ | apply List.Mem.tail)))).mono ?_
          rintro e wq ⟨v14, rfl, ow, bn⟩
          obtain ⟨A14, c14, rfl, _⟩ := (own_BS ow).form
          replace N := N.step bn (own_BS ow)
          clear ow bn
          go_wp2_with fail
          refine hK.out _ _ ?_ (fun hH2 => ?_)
          · exact HC.out _ _ N
          clear hHeld hK K; have hHeld := hH2; clear hH2; try go_frame
          refine hyO (some 25) 15 rfl (fun K hK => ?_)
          go_simp
          have hl := LS.four (t := 25) (N.get (v := .slice A3 1 1) (l := [UInt8.ofNat (kn % 256)]) (by repeat (first | exact List.Mem.head _ | apply List.Mem.tail))) (N.get (v := .slice A6 (numb (u64 t)).length c6) (l := numb (u64 t)) (by repeat (first | exact List.Mem.head _ | apply List.Mem.tail))) (N.get (v := .slice A10 (texb la).length c10) (l := texb la) (by repeat (first | exact List.Mem.head _ | apply List.Mem.tail))) (N.get (v := .slice A14 (texb lb).length c14) (l := texb lb) (by repeat (first | exact List.Mem.head _ | apply List.Mem.tail)))
          have bn := (Below.refl wq.heap.size wq).alloc (Nat.le_refl _) (.cells #[.slice A3 1 1, .slice A6 (numb (u64 t)).length c6, .slice A10 (texb la).length c10, .slice A14 (texb lb).length c14] 25)
          replace N := N.past bn
          clear bn
          refine hK.out _ _ ?_ (fun hH2 => ?_)
          · exact HC.out _ _ N
          clear hHeld hK K; have hHeld := hH2; clear hH2; try go_frame
          refine hyO (some 26) 16 rfl (fun K hK => ?_)
          go_simp
          go_at_call 18
          refine (HALL.out _ _ _ hl).mono ?_
          rintro e wq ⟨v16, rfl, ow, bn⟩
          have hfin := HFIN.out wq v16 ((own_BS ow).mono fun b h => ⟨Nat.le_trans (Nat.le_of_lt N.kb.lt) h.1, h.2⟩) (N.past bn).bl
          replace N := N.past bn
          clear ow bn hl
          go_wp2_with fail
          refine hK.out _ _ ?_ (fun hH2 => ?_)
          · exact HC.out _ _ N
          clear hHeld hK K; have hHeld := hH2; clear hH2; try go_frame
          refine hyY (some 2) 17 rfl hHeld ?_; go_frame
          refine hyY (some 3) 18 rfl hHeld ?_; go_frame
          refine wpAnyH_done (by kernel_rfl) ?_ _
          have hKK := HKK.out
          clear hHeld HC HFIN N HCA HCB HTA2 HTB2 HALL
          go_wp2_with fail
          exact hfin
        · obtain ⟨c13, wq, hcv, x13, bn⟩ := HCB.out wq
          go_simp
          replace N := N.step bn x13
          clear hcv x13 bn
          refine hK.out _ _ ?_ (fun hH2 => ?_)
          · exact HC.out _ _ N
          clear hHeld hK K; have hHeld := hH2; clear hH2; try go_frame
          refine hyO (some 20) 10 rfl (fun K hK => ?_)
          go_simp
          go_at_call 20
          refine (HTA2.out _ _ _ (N.get (by repeat (first | exact List.Mem.head _ | apply List.Mem.tail)))).mono ?_
          rintro e wq ⟨v10, rfl, ow, bn⟩
          obtain ⟨A10, c10, rfl, _⟩ := (own_BS ow).form
          replace N := N.step bn (own_BS ow)
          clear ow bn
          go_wp2_with fail
          refine hK.out _ _ ?_ (fun hH2 => ?_)
          · exact HC.out _ _ N
          clear hHeld hK K; have hHeld := hH2; clear hH2; try go_frame
          refine hyO (some 24) 14 rfl (fun K hK => ?_)
          go_simp
          go_at_call 20
          refine (HTB2.out _ _ _ (N.get (by repeat (first | exact List.Mem.head _ | apply List.Mem.tail)))).mono ?_
          rintro e wq ⟨v14, rfl, ow, bn⟩
          obtain ⟨A14, c14, rfl, _⟩ := (own_BS ow).form
          replace N := N.step bn (own_BS ow)
          clear ow bn
          go_wp2_with fail
          refine hK.out _ _ ?_ (fun hH2 => ?_)
          · exact HC.out _ _ N
          clear hHeld hK K; have hHeld := hH2; clear hH2; try go_frame
          refine hyO (some 25) 15 rfl (fun K hK => ?_)
          go_simp
          have hl := LS.four (t := 25) (N.get (v := .slice A3 1 1) (l := [UInt8.ofNat (kn % 256)]) (by repeat (first | exact List.Mem.head _ | apply List.Mem.tail))) (N.get (v := .slice A6 (numb (u64 t)).length c6) (l := numb (u64 t)) (by repeat (first | exact List.Mem.head _ | apply List.Mem.tail))) (N.get (v := .slice A10 (texb la).length c10) (l := texb la) (by repeat (first | exact List.Mem.head _ | apply List.Mem.tail))) (N.get (v := .slice A14 (texb lb).length c14) (l := texb lb) (by repeat (first | exact List.Mem.head _ | apply List.Mem.tail)))
          have bn := (Below.refl wq.heap.size wq).alloc (Nat.le_refl _) (.cells #[.slice A3 1 1, .slice A6 (numb (u64 t)).length c6, .slice A10 (texb la).length c10, .slice A14 (texb lb).length c14] 25)
          replace N := N.past bn
          clear bn
          refine hK.out _ _ ?_ (fun hH2 => ?_)
          · exact HC.out _ _ N
          clear hHeld hK K; have hHeld := hH2; clear hH2; try go_frame
          refine hyO (some 26) 16 rfl (fun K hK => ?_)
          go_simp
          go_at_call 18
          refine (HALL.out _ _ _ hl).mono ?_
          rintro e wq ⟨v16, rfl, ow, bn⟩
          have hfin := HFIN.out wq v16 ((own_BS ow).mono fun b h => ⟨Nat.le_trans (Nat.le_of_lt N.kb.lt) h.1, h.2⟩) (N.past bn).bl
          replace N := N.past bn
          clear ow bn hl
          go_wp2_with fail
          refine hK.out _ _ ?_ (fun hH2 => ?_)
          · exact HC.out _ _ N
          clear hHeld hK K; have hHeld := hH2; clear hH2; try go_frame
          refine hyY (some 2) 17 rfl hHeld ?_; go_frame
          refine hyY (some 3) 18 rfl hHeld ?_; go_frame
          refine wpAnyH_done (by kernel_rfl) ?_ _
          have hKK := HKK.out
          clear hHeld HC HFIN N HCA HCB HTA2 HTB2 HALL
          go_wp2_with fail
          exact hfin
      · go_simp
        go_at_call 20
        refine (HTA2.out _ _ _ (N.get (by repeat (first | exact List.Mem.head _ | apply List.Mem.tail)))).mono ?_
        rintro e wq ⟨v10, rfl, ow, bn⟩
        obtain ⟨A10, c10, rfl, _⟩ := (own_BS ow).form
        replace N := N.step bn (own_BS ow)
        clear ow bn
        go_wp2_with fail
        refine hK.out _ _ ?_ (fun hH2 => ?_)
        · exact HC.out _ _ N
        clear hHeld hK K; have hHeld := hH2; clear hH2; try go_frame
        refine held_two (o := ⟨some 13, _, _, _, _, _⟩) (p := ⟨some 23, _, _, _, _, _⟩) 3 13 (by kernel_rfl) rfl rfl (by rfl) (by rfl) (fun K hK => ?_) (fun K hK => ?_)
        · go_simp
          rw [ewrap8, byte_mod]
          replace N := N.lit kn
          obtain ⟨A3, hA3⟩ : ∃ A, A = some (⟨wq.heap.size, 0, none⟩ : Addr) := ⟨_, rfl⟩
          rw [← hA3] at N ⊢
          clear hA3
          generalize wq.alloc (.cells #[bv (UInt8.ofNat (kn % 256))] 5) = wq at N ⊢
          refine hK.out _ _ ?_ (fun hH2 => ?_)
          · exact HC.out _ _ N
          clear hHeld hK K; have hHeld := hH2; clear hH2; try go_frame
          refine hyO (some 23) 13 rfl (fun K hK => ?_)
          obtain ⟨c13, wq, hcv, x13, bn⟩ := HCB.out wq
          go_simp
          replace N := N.step bn x13
          clear hcv x13 bn
          refine hK.out _ _ ?_ (fun hH2 => ?_)
          · exact HC.out _ _ N
          clear hHeld hK K; have hHeld := hH2; clear hH2; try go_frame
          refine hyO (some 24) 14 rfl (fun K hK => ?_)
          go_simp
          go_at_call 20
          refine (HTB2.out _ _ _ (N.get (by repeat (first | exact List.Mem.head _ | apply List.Mem.tail)))).mono ?_
          rintro e wq ⟨v14, rfl, ow, bn⟩
          obtain ⟨A14, c14, rfl, _⟩ := (own_BS ow).form
          replace N := N.step bn (own_BS ow)
          clear ow bn
          go_wp2_with fail
          refine hK.out _ _ ?_ (fun hH2 => ?_)
          · exact HC.out _ _ N
          clear hHeld hK K; have hHeld := hH2; clear hH2; try go_frame
          refine hyO (some 25) 15 rfl (fun K hK => ?_)
          go_simp
          have hl := LS.four (t := 25) (N.get (v := .slice A3 1 1) (l := [UInt8.ofNat (kn % 256)]) (by repeat (first | exact List.Mem.head _ | apply List.Mem.tail))) (N.get (v := .slice A6 (numb (u64 t)).length c6) (l := numb (u64 t)) (by repeat (first | exact List.Mem.head _ | apply List.Mem.tail))) (N.get (v := .slice A10 (texb la).length c10) (l := texb la) (by repeat (first | exact List.Mem.head _ | apply List.Mem.tail))) (N.get (v := .slice A14 (texb lb).length c14) (l := texb lb) (by repeat (first | exact List.Mem.head _ | apply List.Mem.tail)))
          have bn := (Below.refl wq.heap.size wq).alloc (Nat.le_refl _) (.cells #[.slice A3 1 1, .slice A6 (numb (u64 t)).length c6, .slice A10 (texb la).length c10, .slice A14 (texb lb).length c14] 25)
          replace N := N.past bn
          clear bn
          refine hK.out _ _ ?_ (fun hH2 => ?_)
          · exact HC.out _ _ N
          clear hHeld hK K; have hHeld := hH2; clear hH2; try go_frame
          refine hyO (some 26) 16 rfl (fun K hK => ?_)
          go_simp
          go_at_call 18
          refine (HALL.out _ _ _ hl).mono ?_
          rintro e wq ⟨v16, rfl, ow, bn⟩
          have hfin := HFIN.out wq v16 ((own_BS ow).mono fun b h => ⟨Nat.le_trans (Nat.le_of_lt N.kb.lt) h.1, h.2⟩) (N.past bn).bl
          replace N := N.past bn
          clear ow bn hl
          go_wp2_with fail
          refine hK.out _ _ ?_ (fun hH2 => ?_)
          · exact HC.out _ _ N
          clear hHeld hK K; have hHeld := hH2; clear hH2; try go_frame
          refine hyY (some 2) 17 rfl hHeld ?_; go_frame
          refine hyY (some 3) 18 rfl hHeld ?_; go_frame
          refine wpAnyH_done (by kernel_rfl) ?_ _
          have hKK := HKK.out
          clear hHeld HC HFIN N HCA HCB HTA2 HTB2 HALL
          go_wp2_with fail
          exact hfin
        · obtain ⟨c13, wq, hcv, x13, bn⟩ := HCB.out wq
          go_simp
          replace N := N.step bn x13
          clear hcv x13 bn
          refine hK.out _ _ ?_ (fun hH2 => ?_)
          · exact HC.out _ _ N
          clear hHeld hK K; have hHeld := hH2; clear hH2; try go_frame
          refine held_two (o := ⟨some 13, _, _, _, _, _⟩) (p := ⟨some 24, _, _, _, _, _⟩) 3 14 (by kernel_rfl) rfl rfl (by rfl) (by rfl) (fun K hK => ?_) (fun K hK => ?_)
          · go_simp
            rw [ewrap8, byte_mod]
            replace N := N.lit kn
            obtain ⟨A3, hA3⟩ : ∃ A, A = some (⟨wq.heap.size, 0, none⟩ : Addr) := ⟨_, rfl⟩
            rw [← hA3] at N ⊢
            clear hA3
            generalize wq.alloc (.cells #[bv (UInt8.ofNat (kn % 256))] 5) = wq at N ⊢
            refine hK.out _ _ ?_ (fun hH2 => ?_)
            · exact HC.out _ _ N
            clear hHeld hK K; have hHeld := hH2; clear hH2; try go_frame
            refine hyO (some 24) 14 rfl (fun K hK => ?_)
            go_simp
            go_at_call 20
            refine (HTB2.out _ _ _ (N.get (by repeat (first | exact List.Mem.head _ | apply List.Mem.tail)))).mono ?_
            rintro e wq ⟨v14, rfl, ow, bn⟩
            obtain ⟨A14, c14, rfl, _⟩ := (own_BS ow).form
            replace N := N.step bn (own_BS ow)
            clear ow bn
            go_wp2_with fail
            refine hK.out _ _ ?_ (fun hH2 => ?_)
            · exact HC.out _ _ N
            clear hHeld hK K; have hHeld := hH2; clear hH2; try go_frame
            refine hyO (some 25) 15 rfl (fun K hK => ?_)
            go_simp
            have hl := LS.four (t := 25) (N.get (v := .slice A3 1 1) (l := [UInt8.ofNat (kn % 256)]) (by repeat (first | exact List.Mem.head _ | apply List.Mem.tail))) (N.get (v := .slice A6 (numb (u64 t)).length c6) (l := numb (u64 t)) (by repeat (first | exact List.Mem.head _ | apply List.Mem.tail))) (N.get (v := .slice A10 (texb la).length c10) (l := texb la) (by repeat (first | exact List.Mem.head _ | apply List.Mem.tail))) (N.get (v := .slice A14 (texb lb).length c14) (l := texb lb) (by repeat (first | exact List.Mem.head _ | apply List.Mem.tail)))
            have bn := (Below.refl wq.heap.size wq).alloc (Nat.le_refl _) (.cells #[.slice A3 1 1, .slice A6 (numb (u64 t)).length c6, .slice A10 (texb la).length c10, .slice A14 (texb lb).length c14] 25)
            replace N := N.past bn
            clear bn
            refine hK.out _ _ ?_ (fun hH2 => ?_)
            · exact HC.out _ _ N
            clear hHeld hK K; have hHeld := hH2; clear hH2; try go_frame
            refine hyO (some 26) 16 rfl (fun K hK => ?_)
            go_simp
            go_at_call 18
            refine (HALL.out _ _ _ hl).mono ?_
            rintro e wq ⟨v16, rfl, ow, bn⟩
            have hfin := HFIN.out wq v16 ((own_BS ow).mono fun b h => ⟨Nat.le_trans (Nat.le_of_lt N.kb.lt) h.1, h.2⟩) (N.past bn).bl
            replace N := N.past bn
            clear ow bn hl
            go_wp2_with fail
            refine hK.out _ _ ?_ (fun hH2 => ?_)
            · exact HC.out _ _ N
            clear hHeld hK K; have hHeld := hH2; clear hH2; try go_frame
            refine hyY (some 2) 17 rfl hHeld ?_; go_frame
            refine hyY (some 3) 18 rfl hHeld ?_; go_frame
            refine wpAnyH_done (by kernel_rfl) ?_ _
            have hKK := HKK.out
            clear hHeld HC HFIN N HCA HCB HTA2 HTB2 HALL
            go_wp2_with fail
            exact hfin
          · go_simp
            go_at_call 20
            refine (HTB2.out _ _ _ (N.get (by repeat (first | exact List.Mem.head _ | apply List.Mem.tail)))).mono ?_
            rintro e wq ⟨v14, rfl, ow, bn⟩
            obtain ⟨A14, c14, rfl, _⟩ := (own_BS ow).form
            replace N := N.step bn (own_BS ow)
            clear ow bn
            go_wp2_with fail
            refine hK.out _ _ ?_ (fun hH2 => ?_)
            · exact HC.out _ _ N
            clear hHeld hK K; have hHeld := hH2; clear hH2; try go_frame
            refine hyO (some 13) 3 rfl (fun K hK => ?_)
            go_simp
            rw [ewrap8, byte_mod]
            replace N := N.lit kn
            obtain ⟨A3, hA3⟩ : ∃ A, A = some (⟨wq.heap.size, 0, none⟩ : Addr) := ⟨_, rfl⟩
            rw [← hA3] at N ⊢
            clear hA3
            generalize wq.alloc (.cells #[bv (UInt8.ofNat (kn % 256))] 5) = wq at N ⊢
            refine hK.out _ _ ?_ (fun hH2 => ?_)
            · exact HC.out _ _ N
            clear hHeld hK K; have hHeld := hH2; clear hH2; try go_frame
            refine hyO (some 25) 15 rfl (fun K hK => ?_)
            go_simp
            have hl := LS.four (t := 25) (N.get (v := .slice A3 1 1) (l := [UInt8.ofNat (kn % 256)]) (by repeat (first | exact List.Mem.head _ | apply List.Mem.tail))) (N.get (v := .slice A6 (numb (u64 t)).length c6) (l := numb (u64 t)) (by repeat (first | exact List.Mem.head _ | apply List.Mem.tail))) (N.get (v := .slice A10 (texb la).length c10) (l := texb la) (by repeat (first | exact List.Mem.head _ | apply List.Mem.tail))) (N.get (v := .slice A14 (texb lb).length c14) (l := texb lb) (by repeat (first | exact List.Mem.head _ | apply List.Mem.tail)))
            have bn := (Below.refl wq.heap.size wq).alloc (Nat.le_refl _) (.cells #[.slice A3 1 1, .slice A6 (numb (u64 t)).length c6, .slice A10 (texb la).length c10, .slice A14 (texb lb).length c14] 25)
            replace N := N.past bn
            clear bn
            refine hK.out _ _ ?_ (fun hH2 => ?_)
            · exact HC.out _ _ N
            clear hHeld hK K; have hHeld := hH2; clear hH2; try go_frame
            refine hyO (some 26) 16 rfl (fun K hK => ?_)
            go_simp
            go_at_call 18
            refine (HALL.out _ _ _ hl).mono ?_
            rintro e wq ⟨v16, rfl, ow, bn⟩
            have hfin := HFIN.out wq v16 ((own_BS ow).mono fun b h => ⟨Nat.le_trans (Nat.le_of_lt N.kb.lt) h.1, h.2⟩) (N.past bn).bl
            replace N := N.past bn
            clear ow bn hl
            go_wp2_with fail
            refine hK.out _ _ ?_ (fun hH2 => ?_)
            · exact HC.out _ _ N
            clear hHeld hK K; have hHeld := hH2; clear hH2; try go_frame
            refine hyY (some 2) 17 rfl hHeld ?_; go_frame
            refine hyY (some 3) 18 rfl hHeld ?_; go_frame
            refine wpAnyH_done (by kernel_rfl) ?_ _
            have hKK := HKK.out
            clear hHeld HC HFIN N HCA HCB HTA2 HTB2 HALL
            go_wp2_with fail
            exact hfin
      · obtain ⟨c13, wq, hcv, x13, bn⟩ := HCB.out wq
        go_simp
        replace N := N.step bn x13
        clear hcv x13 bn
        refine hK.out _ _ ?_ (fun hH2 => ?_)
        · exact HC.out _ _ N
        clear hHeld hK K; have hHeld := hH2; clear hH2; try go_frame
        refine held_two (o := ⟨some 13, _, _, _, _, _⟩) (p := ⟨some 20, _, _, _, _, _⟩) 3 10 (by kernel_rfl) rfl rfl (by rfl) (by rfl) (fun K hK => ?_) (fun K hK => ?_)
        · go_simp
          rw [ewrap8, byte_mod]
          replace N := N.lit kn
          obtain ⟨A3, hA3⟩ : ∃ A, A = some (⟨wq.heap.size, 0, none⟩ : Addr) := ⟨_, rfl⟩
          rw [← hA3] at N ⊢
          clear hA3
          generalize wq.alloc (.cells #[bv (UInt8.ofNat (kn % 256))] 5) = wq at N ⊢
          refine hK.out _ _ ?_ (fun hH2 => ?_)
          · exact HC.out _ _ N
          clear hHeld hK K; have hHeld := hH2; clear hH2; try go_frame
          refine hyO (some 20) 10 rfl (fun K hK => ?_)
          go_simp
          go_at_call 20
          refine (HTA2.out _ _ _ (N.get (by repeat (first | exact List.Mem.head _ | apply List.Mem.tail)))).mono ?_
          rintro e wq ⟨v10, rfl, ow, bn⟩
          obtain ⟨A10, c10, rfl, _⟩ := (own_BS ow).form
          replace N := N.step bn (own_BS ow)
          clear ow bn
          go_wp2_with fail
          refine hK.out _ _ ?_ (fun hH2 => ?_)
          · exact HC.out _ _ N
          clear hHeld hK K; have hHeld := hH2; clear hH2; try go_frame
          refine hyO (some 24) 14 rfl (fun K hK => ?_)
          go_simp
          go_at_call 20
          refine (HTB2.out _ _ _ (N.get (by repeat (first | exact List.Mem.head _ | apply List.Mem.tail)))).mono ?_
          rintro e wq ⟨v14, rfl, ow, bn⟩
          obtain ⟨A14, c14, rfl, _⟩ := (own_BS ow).form
          replace N := N.step bn (own_BS ow)
          clear ow bn
          go_wp2_with fail
          refine hK.out _ _ ?_ (fun hH2 => ?_)
          · exact HC.out _ _ N
          clear hHeld hK K; have hHeld := hH2; clear hH2; try go_frame
          refine hyO (some 25) 15 rfl (fun K hK => ?_)
          go_simp
          have hl := LS.four (t := 25) (N.get (v := .slice A3 1 1) (l := [UInt8.ofNat (kn % 256)]) (by repeat (first | exact List.Mem.head _ | apply List.Mem.tail))) (N.get (v := .slice A6 (numb (u64 t)).length c6) (l := numb (u64 t)) (by repeat (first | exact List.Mem.head _ | apply List.Mem.tail))) (N.get (v := .slice A10 (texb la).length c10) (l := texb la) (by repeat (first | exact List.Mem.head _ | apply List.Mem.tail))) (N.get (v := .slice A14 (texb lb).length c14) (l := texb lb) (by repeat (first | exact List.Mem.head _ | apply List.Mem.tail)))
          have bn := (Below.refl wq.heap.size wq).alloc (Nat.le_refl _) (.cells #[.slice A3 1 1, .slice A6 (numb (u64 t)).length c6, .slice A10 (texb la).length c10, .slice A14 (texb lb).length c14] 25)
          replace N := N.past bn
          clear bn
          refine hK.out _ _ ?_ (fun hH2 => ?_)
          · exact HC.out _ _ N
          clear hHeld hK K; have hHeld := hH2; clear hH2; try go_frame
          refine hyO (some 26) 16 rfl (fun K hK => ?_)
          go_simp
          go_at_call 18
          refine (HALL.out _ _ _ hl).mono ?_
          rintro e wq ⟨v16, rfl, ow, bn⟩
          have hfin := HFIN.out wq v16 ((own_BS ow).mono fun b h => ⟨Nat.le_trans (Nat.le_of_lt N.kb.lt) h.1, h.2⟩) (N.past bn).bl
          replace N := N.past bn
          clear ow bn hl
          go_wp2_with fail
          refine hK.out _ _ ?_ (fun hH2 => ?_)
          · exact HC.out _ _ N
          clear hHeld hK K; have hHeld := hH2; clear hH2; try go_frame
          refine hyY (some 2) 17 rfl hHeld ?_; go_frame
          refine hyY (some 3) 18 rfl hHeld ?_; go_frame
          refine wpAnyH_done (by kernel_rfl) ?_ _
          have hKK := HKK.out
          clear hHeld HC HFIN N HCA HCB HTA2 HTB2 HALL
          go_wp2_with fail
          exact hfin
        · go_simp
          go_at_call 20
          refine (HTA2.out _ _ _ (N.get (by repeat (first | exact List.Mem.head _ | apply List.Mem.tail)))).mono ?_
          rintro e wq ⟨v10, rfl, ow, bn⟩
          obtain ⟨A10, c10, rfl, _⟩ := (own_BS ow).form
          replace N := N.step bn (own_BS ow)
          clear ow bn
          go_wp2_with fail
          refine hK.out _ _ ?_ (fun hH2 => ?_)
          · exact HC.out _ _ N
          clear hHeld hK K; have hHeld := hH2; clear hH2; try go_frame
          refine held_two (o := ⟨some 13, _, _, _, _, _⟩) (p := ⟨some 24, _, _, _, _, _⟩) 3 14 (by kernel_rfl) rfl rfl (by rfl) (by rfl) (fun K hK => ?_) (fun K hK => ?_)
          · go_simp
            rw [ewrap8, byte_mod]
            replace N := N.lit kn
            obtain ⟨A3, hA3⟩ : ∃ A, A = some (⟨wq.heap.size, 0, none⟩ : Addr) := ⟨_, rfl⟩
            rw [← hA3] at N ⊢
            clear hA3
            generalize wq.alloc (.cells #[bv (UInt8.ofNat (kn % 256))] 5) = wq at N ⊢
            refine hK.out _ _ ?_ (fun hH2 => ?_)
            · exact HC.out _ _ N
            clear hHeld hK K; have hHeld := hH2; clear hH2; try go_frame
            refine hyO (some 24) 14 rfl (fun K hK => ?_)
            go_simp
            go_at_call 20
            refine (HTB2.out _ _ _ (N.get (by repeat (first | exact List.Mem.head _ | apply List.Mem.tail)))).mono ?_
            rintro e wq ⟨v14, rfl, ow, bn⟩
            obtain ⟨A14, c14, rfl, _⟩ := (own_BS ow).form
            replace N := N.step bn (own_BS ow)
            clear ow bn
            go_wp2_with fail
            refine hK.out _ _ ?_ (fun hH2 => ?_)
            · exact HC.out _ _ N
            clear hHeld hK K; have hHeld := hH2; clear hH2; try go_frame
            refine hyO (some 25) 15 rfl (fun K hK => ?_)
            go_simp
            have hl := LS.four (t := 25) (N.get (v := .slice A3 1 1) (l := [UInt8.ofNat (kn % 256)]) (by repeat (first | exact List.Mem.head _ | apply List.Mem.tail))) (N.get (v := .slice A6 (numb (u64 t)).length c6) (l := numb (u64 t)) (by repeat (first | exact List.Mem.head _ | apply List.Mem.tail))) (N.get (v := .slice A10 (texb la).length c10) (l := texb la) (by repeat (first | exact List.Mem.head _ | apply List.Mem.tail))) (N.get (v := .slice A14 (texb lb).length c14) (l := texb lb) (by repeat (first | exact List.Mem.head _ | apply List.Mem.tail)))
            have bn := (Below.refl wq.heap.size wq).alloc (Nat.le_refl _) (.cells #[.slice A3 1 1, .slice A6 (numb (u64 t)).length c6, .slice A10 (texb la).length c10, .slice A14 (texb lb).length c14] 25)
            replace N := N.past bn
            clear bn
            refine hK.out _ _ ?_ (fun hH2 => ?_)
            · exact HC.out _ _ N
            clear hHeld hK K; have hHeld := hH2; clear hH2; try go_frame
            refine hyO (some 26) 16 rfl (fun K hK => ?_)
            go_simp
            go_at_call 18
            refine (HALL.out _ _ _ hl).mono ?_
            rintro e wq ⟨v16, rfl, ow, bn⟩
            have hfin := HFIN.out wq v16 ((own_BS ow).mono fun b h => ⟨Nat.le_trans (Nat.le_of_lt N.kb.lt) h.1, h.2⟩) (N.past bn).bl
            replace N := N.past bn
            clear ow bn hl
            go_wp2_with fail
            refine hK.out _ _ ?_ (fun hH2 => ?_)
            · exact HC.out _ _ N
            clear hHeld hK K; have hHeld := hH2; clear hH2; try go_frame
            refine hyY (some 2) 17 rfl hHeld ?_; go_frame
            refine hyY (some 3) 18 rfl hHeld ?_; go_frame
            refine wpAnyH_done (by kernel_rfl) ?_ _
            have hKK := HKK.out
            clear hHeld HC HFIN N HCA HCB HTA2 HTB2 HALL
            go_wp2_with fail
            exact hfin
          · go_simp
            go_at_call 20
            refine (HTB2.out _ _ _ (N.get (by repeat (first | exact List.Mem.head _ | apply List.Mem.tail)))).mono ?_
            rintro e wq ⟨v14, rfl, ow, bn⟩
            obtain ⟨A14, c14, rfl, _⟩ := (own_BS ow).form
            replace N := N.step bn (own_BS ow)
            clear ow bn
            go_wp2_with fail
            refine hK.out _ _ ?_ (fun hH2 => ?_)
            · exact HC.out _ _ N
            clear hHeld hK K; have hHeld := hH2; clear hH2; try go_frame
            refine hyO (some 13) 3 rfl (fun K hK => ?_)
            go_simp
            rw [ewrap8, byte_mod]
            replace N := N.lit kn
            obtain ⟨A3, hA3⟩ : ∃ A, A = some (⟨wq.heap.size, 0, none⟩ : Addr) := ⟨_, rfl⟩
            rw [← hA3] at N ⊢
            clear hA3
            generalize wq.alloc (.cells #[bv (UInt8.ofNat (kn % 256))] 5) = wq at N ⊢
            refine hK.out _ _ ?_ (fun hH2 => ?_)
            · exact HC.out _ _ N
            clear hHeld hK K; have hHeld := hH2; clear hH2; try go_frame
            refine hyO (some 25) 15 rfl (fun K hK => ?_)
            go_simp
            have hl := LS.four (t := 25) (N.get (v := .slice A3 1 1) (l := [UInt8.ofNat (kn % 256)]) (by repeat (first | exact List.Mem.head _ | apply List.Mem.tail))) (N.get (v := .slice A6 (numb (u64 t)).length c6) (l := numb (u64 t)) (by repeat (first | exact List.Mem.head _ | apply List.Mem.tail))) (N.get (v := .slice A10 (texb la).length c10) (l := texb la) (by repeat (first | exact List.Mem.head _ | apply List.Mem.tail))) (N.get (v := .slice A14 (texb lb).length c14) (l := texb lb) (by repeat (first | exact List.Mem.head _ | apply List.Mem.tail)))
            have bn := (Below.refl wq.heap.size wq).alloc (Nat.le_refl _) (.cells #[.slice A3 1 1, .slice A6 (numb (u64 t)).length c6, .slice A10 (texb la).length c10, .slice A14 (texb lb).length c14] 25)
            replace N := N.past bn
            clear bn
            refine hK.out _ _ ?_ (fun hH2 => ?_)
            · exact HC.out _ _ N
            clear hHeld hK K; have hHeld := hH2; clear hH2; try go_frame
            refine hyO (some 26) 16 rfl (fun K hK => ?_)
            go_simp
            go_at_call 18
            refine (HALL.out _ _ _ hl).mono ?_
            rintro e wq ⟨v16, rfl, ow, bn⟩
            have hfin := HFIN.out wq v16 ((own_BS ow).mono fun b h => ⟨Nat.le_trans (Nat.le_of_lt N.kb.lt) h.1, h.2⟩) (N.past bn).bl
            replace N := N.past bn
            clear ow bn hl
            go_wp2_with fail
            refine hK.out _ _ ?_ (fun hH2 => ?_)
            · exact HC.out _ _ N
            clear hHeld hK K; have hHeld := hH2; clear hH2; try go_frame
            refine hyY (some 2) 17 rfl hHeld ?_; go_frame
            refine hyY (some 3) 18 rfl hHeld ?_; go_frame
            refine wpAnyH_done (by kernel_rfl) ?_ _
            have hKK := HKK.out
            clear hHeld HC HFIN N HCA HCB HTA2 HTB2 HALL
            go_wp2_with fail
            exact hfin
    · obtain ⟨c13, wq, hcv, x13, bn⟩ := HCB.out wq
      go_simp
      replace N := N.step bn x13
      clear hcv x13 bn
      refine hK.out _ _ ?_ (fun hH2 => ?_)
      · exact HC.out _ _ N
      clear hHeld hK K; have hHeld := hH2; clear hH2; try go_frame
      refine held_two (o := ⟨some 13, _, _, _, _, _⟩) (p := ⟨some 19, _, _, _, _, _⟩) 3 9 (by kernel_rfl) rfl rfl (by rfl) (by rfl) (fun K hK => ?_) (fun K hK => ?_)
      · go_simp
        rw [ewrap8, byte_mod]
        replace N := N.lit kn
        obtain ⟨A3, hA3⟩ : ∃ A, A = some (⟨wq.heap.size, 0, none⟩ : Addr) := ⟨_, rfl⟩
        rw [← hA3] at N ⊢
        clear hA3
        generalize wq.alloc (.cells #[bv (UInt8.ofNat (kn % 256))] 5) = wq at N ⊢
        refine hK.out _ _ ?_ (fun hH2 => ?_)
        · exact HC.out _ _ N
        clear hHeld hK K; have hHeld := hH2; clear hH2; try go_frame
        refine hyO (some 19) 9 rfl (fun K hK => ?_)
        obtain ⟨c9, wq, hcv, x9, bn⟩ := HCA.out wq
        go_simp
        replace N := N.step bn x9
        clear hcv x9 bn
        refine hK.out _ _ ?_ (fun hH2 => ?_)
        · exact HC.out _ _ N
        clear hHeld hK K; have hHeld := hH2; clear hH2; try go_frame
        refine hyO (some 20) 10 rfl (fun K hK => ?_)
        go_simp
        go_at_call 20
        refine (HTA2.out _ _ _ (N.get (by repeat (first | exact List.Mem.head _ | apply List.Mem.tail)))).mono ?_
        rintro e wq ⟨v10, rfl, ow, bn⟩
        obtain ⟨A10, c10, rfl, _⟩ := (own_BS ow).form
        replace N := N.step bn (own_BS ow)
        clear ow bn
        go_wp2_with fail
        refine hK.out _ _ ?_ (fun hH2 => ?_)
        · exact HC.out _ _ N
        clear hHeld hK K; have hHeld := hH2; clear hH2; try go_frame
        refine hyO (some 24) 14 rfl (fun K hK => ?_)
        go_simp
        go_at_call 20
        refine (HTB2.out _ _ _ (N.get (by repeat (first | exact List.Mem.head _ | apply List.Mem.tail)))).mono ?_
        rintro e wq ⟨v14, rfl, ow, bn⟩
        obtain ⟨A14, c14, rfl, _⟩ := (own_BS ow).form
        replace N := N.step bn (own_BS ow)
        clear ow bn
        go_wp2_with fail
        refine hK.out _ _ ?_ (fun hH2 => ?_)
        · exact HC.out _ _ N
        clear hHeld hK K; have hHeld := hH2; clear hH2; try go_frame
        refine hyO (some 25) 15 rfl (fun K hK => ?_)
        go_simp
        have hl := LS.four (t := 25) (N.get (v := .slice A3 1 1) (l := [UInt8.ofNat (kn % 256)]) (by repeat (first | exact List.Mem.head _ | apply List.Mem.tail))) (N.get (v := .slice A6 (numb (u64 t)).length c6) (l := numb (u64 t)) (by repeat (first | exact List.Mem.head _ | apply List.Mem.tail))) (N.get (v := .slice A10 (texb la).length c10) (l := texb la) (by repeat (first | exact List.Mem.head _ | apply List.Mem.tail))) (N.get (v := .slice A14 (texb lb).length c14) (l := texb lb) (by repeat (first | exact List.Mem.head _ | apply List.Mem.tail)))
        have bn := (Below.refl wq.heap.size wq).alloc (Nat.le_refl _) (.cells #[.slice A3 1 1, .slice A6 (numb (u64 t)).length c6, .slice A10 (texb la).length c10, .slice A14 (texb lb).length c14] 25)
        replace N := N.past bn
        clear bn
        refine hK.out _ _ ?_ (fun hH2 => ?_)
        · exact HC.out _ _ N
        clear hHeld hK K; have hHeld := hH2; clear hH2; try go_frame
        refine hyO (some 26) 16 rfl (fun K hK => ?_)
        go_simp
        go_at_call 18
        refine (HALL.out _ _ _ hl).mono ?_
        rintro e wq ⟨v16, rfl, ow, bn⟩
        have hfin := HFIN.out wq v16 ((own_BS ow).mono fun b h => ⟨Nat.le_trans (Nat.le_of_lt N.kb.lt) h.1, h.2⟩) (N.past bn).bl
        replace N := N.past bn
        clear ow bn hl
        go_wp2_with fail
        refine hK.out _ _ ?_ (fun hH2 => ?_)
        · exact HC.out _ _ N
        clear hHeld hK K; have hHeld := hH2; clear hH2; try go_frame
        refine hyY (some 2) 17 rfl hHeld ?_; go_frame
        refine hyY (some 3) 18 rfl hHeld ?_; go_frame
        refine wpAnyH_done (by kernel_rfl) ?_ _
        have hKK := HKK.out
        clear hHeld HC HFIN N HCA HCB HTA2 HTB2 HALL
        go_wp2_with fail
        exact hfin
      · obtain ⟨c9, wq, hcv, x9, bn⟩ := HCA.out wq
        go_simp
        replace N := N.step bn x9
        clear hcv x9 bn
        refine hK.out _ _ ?_ (fun hH2 => ?_)
        · exact HC.out _ _ N
        clear hHeld hK K; have hHeld := hH2; clear hH2; try go_frame
        refine held_two (o := ⟨some 13, _, _, _, _, _⟩) (p := ⟨some 20, _, _, _, _, _⟩) 3 10 (by kernel_rfl) rfl rfl (by rfl) (by rfl) (fun K hK => ?_) (fun K hK => ?_)
        · go_simp
          rw [ewrap8, byte_mod]
          replace N := N.lit kn
          obtain ⟨A3, hA3⟩ : ∃ A, A = some (⟨wq.heap.size, 0, none⟩ : Addr) := ⟨_, rfl⟩
          rw [← hA3] at N ⊢
          clear hA3
          generalize wq.alloc (.cells #[bv (UInt8.ofNat (kn % 256))] 5) = wq at N ⊢
          refine hK.out _ _ ?_ (fun hH2 => ?_)
          · exact HC.out _ _ N
          clear hHeld hK K; have hHeld := hH2; clear hH2; try go_frame
          refine hyO (some 20) 10 rfl (fun K hK => ?_)
          go_simp
          go_at_call 20
          refine (HTA2.out _ _ _ (N.get (by repeat (first | exact List.Mem.head _ | apply List.Mem.tail)))).mono ?_
          rintro e wq ⟨v10, rfl, ow, bn⟩
          obtain ⟨A10, c10, rfl, _⟩ := (own_BS ow).form
          replace N := N.step bn (own_BS ow)
          clear ow bn
          go_wp2_with fail
          refine hK.out _ _ ?_ (fun hH2 => ?_)
          · exact HC.out _ _ N
          clear hHeld hK K; have hHeld := hH2; clear hH2; try go_frame
          refine hyO (some 24) 14 rfl (fun K hK => ?_)
          go_simp
          go_at_call 20
          refine (HTB2.out _ _ _ (N.get (by repeat (first | exact List.Mem.head _ | apply List.Mem.tail)))).mono ?_
          rintro e wq ⟨v14, rfl, ow, bn⟩
          obtain ⟨A14, c14, rfl, _⟩ := (own_BS ow).form
          replace N := N.step bn (own_BS ow)
          clear ow bn
          go_wp2_with fail
          refine hK.out _ _ ?_ (fun hH2 => ?_)
          · exact HC.out _ _ N
          clear hHeld hK K; have hHeld := hH2; clear hH2; try go_frame
          refine hyO (some 25) 15 rfl (fun K hK => ?_)
          go_simp
          have hl := LS.four (t := 25) (N.get (v := .slice A3 1 1) (l := [UInt8.ofNat (kn % 256)]) (by repeat (first | exact List.Mem.head _ | apply List.Mem.tail))) (N.get (v := .slice A6 (numb (u64 t)).length c6) (l := numb (u64 t)) (by repeat (first | exact List.Mem.head _ | apply List.Mem.tail))) (N.get (v := .slice A10 (texb la).length c10) (l := texb la) (by repeat (first | exact List.Mem.head _ | apply List.Mem.tail))) (N.get (v := .slice A14 (texb lb).length c14) (l := texb lb) (by repeat (first | exact List.Mem.head _ | apply List.Mem.tail)))
          have bn := (Below.refl wq.heap.size wq).alloc (Nat.le_refl _) (.cells #[.slice A3 1 1, .slice A6 (numb (u64 t)).length c6, .slice A10 (texb la).length c10, .slice A14 (texb lb).length c14] 25)
          replace N := N.past bn
          clear bn
          refine hK.out _ _ ?_ (fun hH2 => ?_)
          · exact HC.out _ _ N
          clear hHeld hK K; have hHeld := hH2; clear hH2; try go_frame
          refine hyO (some 26) 16 rfl (fun K hK => ?_)
          go_simp
          go_at_call 18
          refine (HALL.out _ _ _ hl).mono ?_
          rintro e wq ⟨v16, rfl, ow, bn⟩
          have hfin := HFIN.out wq v16 ((own_BS ow).mono fun b h => ⟨Nat.le_trans (Nat.le_of_lt N.kb.lt) h.1, h.2⟩) (N.past bn).bl
          replace N := N.past bn
          clear ow bn hl
          go_wp2_with fail
          refine hK.out _ _ ?_ (fun hH2 => ?_)
          · exact HC.out _ _ N
          clear hHeld hK K; have hHeld := hH2; clear hH2; try go_frame
          refine hyY (some 2) 17 rfl hHeld ?_; go_frame
          refine hyY (some 3) 18 rfl hHeld ?_; go_frame
          refine wpAnyH_done (by kernel_rfl) ?_ _
          have hKK := HKK.out
          clear hHeld HC HFIN N HCA HCB HTA2 HTB2 HALL
          go_wp2_with fail
          exact hfin
        · go_simp
          go_at_call 20
          refine (HTA2.out _ _ _ (N.get (by repeat (first | exact List.Mem.head _ | apply List.Mem.tail)))).mono ?_
          rintro e wq ⟨v10, rfl, ow, bn⟩
          obtain ⟨A10, c10, rfl, _⟩ := (own_BS ow).form
          replace N := N.step bn (own_BS ow)
          clear ow bn
          go_wp2_with fail
          refine hK.out _ _ ?_ (fun hH2 => ?_)
          · exact HC.out _ _ N
          clear hHeld hK K; have hHeld := hH2; clear hH2; try go_frame
          refine held_two (o := ⟨some 13, _, _, _, _, _⟩) (p := ⟨some 24, _, _, _, _, _⟩) 3 14 (by kernel_rfl) rfl rfl (by rfl) (by rfl) (fun K hK => ?_) (fun K hK => ?_)
          · go_simp
            rw [ewrap8, byte_mod]
            replace N := N.lit kn
            obtain ⟨A3, hA3⟩ : ∃ A, A = some (⟨wq.heap.size, 0, none⟩ : Addr) := ⟨_, rfl⟩
            rw [← hA3] at N ⊢
            clear hA3
            generalize wq.alloc (.cells #[bv (UInt8.ofNat (kn % 256))] 5) = wq at N ⊢
            refine hK.out _ _ ?_ (fun hH2 => ?_)
            · exact HC.out _ _ N
            clear hHeld hK K; have hHeld := hH2; clear hH2; try go_frame
            refine hyO (some 24) 14 rfl (fun K hK => ?_)
            go_simp
            go_at_call 20
            refine (HTB2.out _ _ _ (N.get (by repeat (first | exact List.Mem.head _ | apply List.Mem.tail)))).mono ?_
            rintro e wq ⟨v14, rfl, ow, bn⟩
            obtain ⟨A14, c14, rfl, _⟩ := (own_BS ow).form
            replace N := N.step bn (own_BS ow)
            clear ow bn
            go_wp2_with fail
            refine hK.out _ _ ?_ (fun hH2 => ?_)
            · exact HC.out _ _ N
            clear hHeld hK K; have hHeld := hH2; clear hH2; try go_frame
            refine hyO (some 25) 15 rfl (fun K hK => ?_)
            go_simp
            have hl := LS.four (t := 25) (N.get (v := .slice A3 1 1) (l := [UInt8.ofNat (kn % 256)]) (by repeat (first | exact List.Mem.head _ | apply List.Mem.tail))) (N.get (v := .slice A6 (numb (u64 t)).length c6) (l := numb (u64 t)) (by repeat (first | exact List.Mem.head _ | apply List.Mem.tail))) (N.get (v := .slice A10 (texb la).length c10) (l := texb la) (by repeat (first | exact List.Mem.head _ | apply List.Mem.tail))) (N.get (v := .slice A14 (texb lb).length c14) (l := texb lb) (by repeat (first | exact List.Mem.head _ | apply List.Mem.tail)))
            have bn := (Below.refl wq.heap.size wq).alloc (Nat.le_refl _) (.cells #[.slice A3 1 1, .slice A6 (numb (u64 t)).length c6, .slice A10 (texb la).length c10, .slice A14 (texb lb).length c14] 25)
            replace N := N.past bn
            clear bn
            refine hK.out _ _ ?_ (fun hH2 => ?_)
            · exact HC.out _ _ N
            clear hHeld hK K; have hHeld := hH2; clear hH2; try go_frame
            refine hyO (some 26) 16 rfl (fun K hK => ?_)
            go_simp
            go_at_call 18
            refine (HALL.out _ _ _ hl).mono ?_
            rintro e wq ⟨v16, rfl, ow, bn⟩
            have hfin := HFIN.out wq v16 ((own_BS ow).mono fun b h => ⟨Nat.le_trans (Nat.le_of_lt N.kb.lt) h.1, h.2⟩) (N.past bn).bl
            replace N := N.past bn
            clear ow bn hl
            go_wp2_with fail
            refine hK.out _ _ ?_ (fun hH2 => ?_)
            · exact HC.out _ _ N
            clear hHeld hK K; have hHeld := hH2; clear hH2; try go_frame
            refine hyY (some 2) 17 rfl hHeld ?_; go_frame
            refine hyY (some 3) 18 rfl hHeld ?_; go_frame
            refine wpAnyH_done (by kernel_rfl) ?_ _
            have hKK := HKK.out
            clear hHeld HC HFIN N HCA HCB HTA2 HTB2 HALL
            go_wp2_with fail
            exact hfin
          · go_simp
            go_at_call 20
            refine (HTB2.out _ _ _ (N.get (by repeat (first | exact List.Mem.head _ | apply List.Mem.tail)))).mono ?_
            rintro e wq ⟨v14, rfl, ow, bn⟩
            obtain ⟨A14, c14, rfl, _⟩ := (own_BS ow).form
            replace N := N.step bn (own_BS ow)
            clear ow bn
            go_wp2_with fail
            refine hK.out _ _ ?_ (fun hH2 => ?_)
            · exact HC.out _ _ N
            clear hHeld hK K; have hHeld := hH2; clear hH2; try go_frame
            refine hyO (some 13) 3 rfl (fun K hK => ?_)
            go_simp
            rw [ewrap8, byte_mod]
            replace N := N.lit kn
            obtain ⟨A3, hA3⟩ : ∃ A, A = some (⟨wq.heap.size, 0, none⟩ : Addr) := ⟨_, rfl⟩
            rw [← hA3] at N ⊢
            clear hA3
            generalize wq.alloc (.cells #[bv (UInt8.ofNat (kn % 256))] 5) = wq at N ⊢
            refine hK.out _ _ ?_ (fun hH2 => ?_)
            · exact HC.out _ _ N
            clear hHeld hK K; have hHeld := hH2; clear hH2; try go_frame
            refine hyO (some 25) 15 rfl (fun K hK => ?_)
            go_simp
            have hl := LS.four (t := 25) (N.get (v := .slice A3 1 1) (l := [UInt8.ofNat (kn % 256)]) (by repeat (first | exact List.Mem.head _ | apply List.Mem.tail))) (N.get (v := .slice A6 (numb (u64 t)).length c6) (l := numb (u64 t)) (by repeat (first | exact List.Mem.head _ | apply List.Mem.tail))) (N.get (v := .slice A10 (texb la).length c10) (l := texb la) (by repeat (first | exact List.Mem.head _ | apply List.Mem.tail))) (N.get (v := .slice A14 (texb lb).length c14) (l := texb lb) (by repeat (first | exact List.Mem.head _ | apply List.Mem.tail)))
            have bn := (Below.refl wq.heap.size wq).alloc (Nat.le_refl _) (.cells #[.slice A3 1 1, .slice A6 (numb (u64 t)).length c6, .slice A10 (texb la).length c10, .slice A14 (texb lb).length c14] 25)
            replace N := N.past bn
            clear bn
            refine hK.out _ _ ?_ (fun hH2 => ?_)
            · exact HC.out _ _ N
            clear hHeld hK K; have hHeld := hH2; clear hH2; try go_frame
            refine hyO (some 26) 16 rfl (fun K hK => ?_)
            go_simp
            go_at_call 18
            refine (HALL.out _ _ _ hl).mono ?_
            rintro e wq ⟨v16, rfl, ow, bn⟩
            have hfin := HFIN.out wq v16 ((own_BS ow).mono fun b h => ⟨Nat.le_trans (Nat.le_of_lt N.kb.lt) h.1, h.2⟩) (N.past bn).bl
            replace N := N.past bn
            clear ow bn hl
            go_wp2_with fail
            refine hK.out _ _ ?_ (fun hH2 => ?_)
            · exact HC.out _ _ N
            clear hHeld hK K; have hHeld := hH2; clear hH2; try go_frame
            refine hyY (some 2) 17 rfl hHeld ?_; go_frame
            refine hyY (some 3) 18 rfl hHeld ?_; go_frame
            refine wpAnyH_done (by kernel_rfl) ?_ _
            have hKK := HKK.out
            clear hHeld HC HFIN N HCA HCB HTA2 HTB2 HALL
            go_wp2_with fail
            exact hfin
  · obtain ⟨c9, wq, hcv, x9, bn⟩ := HCA.out wq
    go_simp
    replace N := N.step bn x9
    clear hcv x9 bn
    refine hK.out _ _ ?_ (fun hH2 => ?_)
    · exact HC.out _ _ N
    clear hHeld hK K; have hHeld := hH2; clear hH2; try go_frame
    refine held_three (o := ⟨some 13, _, _, _, _, _⟩) (p := ⟨some 16, _, _, _, _, _⟩) (q := ⟨some 23, _, _, _, _, _⟩) 3 6 13 (by kernel_rfl) rfl rfl rfl (by rfl) (by rfl) (by rfl) (fun K hK => ?_) (fun K hK => ?_) (fun K hK => ?_)
    · go_simp
      rw [ewrap8, byte_mod]
      replace N := N.lit kn
      obtain ⟨A3, hA3⟩ : ∃ A, A = some (⟨wq.heap.size, 0, none⟩ : Addr) := ⟨_, rfl⟩
      rw [← hA3] at N ⊢
      clear hA3
      generalize wq.alloc (.cells #[bv (UInt8.ofNat (kn % 256))] 5) = wq at N ⊢
      refine hK.out _ _ ?_ (fun hH2 => ?_)
      · exact HC.out _ _ N
      clear hHeld hK K; have hHeld := hH2; clear hH2; try go_frame
      refine held_two (o := ⟨some 16, _, _, _, _, _⟩) (p := ⟨some 23, _, _, _, _, _⟩) 6 13 (by kernel_rfl) rfl rfl (by rfl) (by rfl) (fun K hK => ?_) (fun K hK => ?_)
      · go_simp
        go_at_call 19
        refine (HNI.out _).mono ?_
        rintro e wq ⟨v6, rfl, ow, bn⟩
        obtain ⟨A6, c6, rfl, _⟩ := (own_BS ow).form
        replace N := N.step bn (own_BS ow)
        clear ow bn
        go_wp2_with fail
        refine hK.out _ _ ?_ (fun hH2 => ?_)
        · exact HC.out _ _ N
        clear hHeld hK K; have hHeld := hH2; clear hH2; try go_frame
        refine held_two (o := ⟨some 20, _, _, _, _, _⟩) (p := ⟨some 23, _, _, _, _, _⟩) 10 13 (by kernel_rfl) rfl rfl (by rfl) (by rfl) (fun K hK => ?_) (fun K hK => ?_)
        · go_simp
          go_at_call 20
          refine (HTA2.out _ _ _ (N.get (by repeat (first | exact List.Mem.head _ | apply List.Mem.tail)))).mono ?_
          rintro e wq ⟨v10, rfl, ow, bn⟩
          obtain ⟨A10, c10, rfl, _⟩ := (own_BS ow).form
          replace N := N.step bn (own_BS ow)
          clear ow bn
          go_wp2_with fail
          refine hK.out _ _ ?_ (fun hH2 => ?_)
          · exact HC.out _ _ N
          clear hHeld hK K; have hHeld := hH2; clear hH2; try go_frame
          refine hyO (some 23) 13 rfl (fun K hK => ?_)
          obtain ⟨c13, wq, hcv, x13, bn⟩ := HCB.out wq
          go_simp
          replace N := N.step bn x13
          clear hcv x13 bn
          refine hK.out _ _ ?_ (fun hH2 => ?_)
          · exact HC.out _ _ N
          clear hHeld hK K; have hHeld := hH2; clear hH2; try go_frame
          refine hyO (some 24) 14 rfl (fun K hK => ?_)
          go_simp
          go_at_call 20
          refine (HTB2.out _ _ _ (N.get (by repeat (first | exact List.Mem.head _ | apply List.Mem.tail)))).mono ?_
          rintro e wq ⟨v14, rfl, ow, bn⟩
          obtain ⟨A14, c14, rfl, _⟩ := (own_BS ow).form
          replace N := N.step bn (own_BS ow)
          clear ow bn
          go_wp2_with fail
          refine hK.out _ _ ?_ (fun hH2 => ?_)
          · exact HC.out _ _ N
          clear hHeld hK K; have hHeld := hH2; clear hH2; try go_frame
          refine hyO (some 25) 15 rfl (fun K hK => ?_)
          go_simp
          have hl := LS.four (t := 25) (N.get (v := .slice A3 1 1) (l := [UInt8.ofNat (kn % 256)]) (by repeat (first | exact List.Mem.head _ | apply List.Mem.tail))) (N.get (v := .slice A6 (numb (u64 t)).length c6) (l := numb (u64 t)) (by repeat (first | exact List.Mem.head _ | apply List.Mem.tail))) (N.get (v := .slice A10 (texb la).length c10) (l := texb la) (by repeat (first | exact List.Mem.head _ | apply List.Mem.tail))) (N.get (v := .slice A14 (texb lb).length c14) (l := texb lb) (by repeat (first | exact List.Mem.head _ | apply List.Mem.tail)))
          have bn := (Below.refl wq.heap.size wq).alloc (Nat.le_refl _) (.cells #[.slice A3 1 1, .slice A6 (numb (u64 t)).length c6, .slice A10 (texb la).length c10, .slice A14 (texb lb).length c14] 25)
          replace N := N.past bn
          clear bn
          refine hK.out _ _ ?_ (fun hH2 => ?_)
          · exact HC.out _ _ N
          clear hHeld hK K; have hHeld := hH2; clear hH2; try go_frame
          refine hyO (some 26) 16 rfl (fun K hK => ?_)
          go_simp
          go_at_call 18
          refine (HALL.out _ _ _ hl).mono ?_
          rintro e wq ⟨v16, rfl, ow, bn⟩
          have hfin := HFIN.out wq v16 ((own_BS ow).mono fun b h => ⟨Nat.le_trans (Nat.le_of_lt N.kb.lt) h.1, h.2⟩) (N.past bn).bl
          replace N := N.past bn
          clear ow bn hl
          go_wp2_with fail
          refine hK.out _ _ ?_ (fun hH2 => ?_)
          · exact HC.out _ _ N
          clear hHeld hK K; have hHeld := hH2; clear hH2; try go_frame
          refine hyY (some 2) 17 rfl hHeld ?_; go_frame
          refine hyY (some 3) 18 rfl hHeld ?_; go_frame
          refine wpAnyH_done (by kernel_rfl) ?_ _
          have hKK := HKK.out
          clear hHeld HC HFIN N HCA HCB HTA2 HTB2 HALL
          go_wp2_with fail
          exact hfin
        · obtain ⟨c13, wq, hcv, x13, bn⟩ := HCB.out wq
          go_simp
          replace N := N.step bn x13
          clear hcv x13 bn
          refine hK.out _ _ ?_ (fun hH2 => ?_)
          · exact HC.out _ _ N
          clear hHeld hK K; have hHeld := hH2; clear hH2; try go_frame
          refine hyO (some 20) 10 rfl (fun K hK => ?_)
          go_simp
          go_at_call 20
          refine (HTA2.out _ _ _ (N.get (by repeat (first | exact List.Mem.head _ | apply List.Mem.tail)))).mono ?_
          rintro e wq ⟨v10, rfl, ow, bn⟩
          obtain ⟨A10, c10, rfl, _⟩ := (own_BS ow).form
          replace N := N.step bn (own_BS ow)
          clear ow bn
          go_wp2_with fail
          refine hK.out _ _ ?_ (fun hH2 => ?_)
          · exact HC.out _ _ N
          clear hHeld hK K; have hHeld := hH2; clear hH2; try go_frame
          refine hyO (some 24) 14 rfl (fun K hK => ?_)
          go_simp
          go_at_call 20
          refine (HTB2.out _ _ _ (N.get (by repeat (first | exact List.Mem.head _ | apply List.Mem.tail)))).mono ?_
          rintro e wq ⟨v14, rfl, ow, bn⟩
          obtain ⟨A14, c14, rfl, _⟩ := (own_BS ow).form
          replace N := N.step bn (own_BS ow)
          clear ow bn
          go_wp2_with fail
          refine hK.out _ _ ?_ (fun hH2 => ?_)
          · exact HC.out _ _ N
          clear hHeld hK K; have hHeld := hH2; clear hH2; try go_frame
          refine hyO (some 25) 15 rfl (fun K hK => ?_)
          go_simp
          have hl := LS.four (t := 25) (N.get (v := .slice A3 1 1) (l := [UInt8.ofNat (kn % 256)]) (by repeat (first | exact List.Mem.head _ | apply List.Mem.tail))) (N.get (v := .slice A6 (numb (u64 t)).length c6) (l := numb (u64 t)) (by repeat (first | exact List.Mem.head _ | apply List.Mem.tail))) (N.get (v := .slice A10 (texb la).length c10) (l := texb la) (by repeat (first | exact List.Mem.head _ | apply List.Mem.tail))) (N.get (v := .slice A14 (texb lb).length c14) (l := texb lb) (by repeat (first | exact List.Mem.head _ | apply List.Mem.tail)))
          have bn := (Below.refl wq.heap.size wq).alloc (Nat.le_refl _) (.cells #[.slice A3 1 1, .slice A6 (numb (u64 t)).length c6, .slice A10 (texb la).length c10, .slice A14 (texb lb).length c14] 25)
          replace N := N.past bn
          clear bn
          refine hK.out _ _ ?_ (fun hH2 => ?_)
          · exact HC.out _ _ N
          clear hHeld hK K; have hHeld := hH2; clear hH2; try go_frame
          refine hyO (some 26) 16 rfl (fun K hK => ?_)
          go_simp
          go_at_call 18
          refine (HALL.out _ _ _ hl).mono ?_
          rintro e wq ⟨v16, rfl, ow, bn⟩
          have hfin := HFIN.out wq v16 ((own_BS ow).mono fun b h => ⟨Nat.le_trans (Nat.le_of_lt N.kb.lt) h.1, h.2⟩) (N.past bn).bl
          replace N := N.past bn
          clear ow bn hl
          go_wp2_with fail
          refine hK.out _ _ ?_ (fun hH2 => ?_)
          · exact HC.out _ _ N
          clear hHeld hK K; have hHeld := hH2; clear hH2; try go_frame
          refine hyY (some 2) 17 rfl hHeld ?_; go_frame
          refine hyY (some 3) 18 rfl hHeld ?_; go_frame
          refine wpAnyH_done (by kernel_rfl) ?_ _
          have hKK := HKK.out
          clear hHeld HC HFIN N HCA HCB HTA2 HTB2 HALL
          go_wp2_with fail
          exact hfin
      · obtain ⟨c13, wq, hcv, x13, bn⟩ := HCB.out wq
        go_simp
        replace N := N.step bn x13
        clear hcv x13 bn
        refine hK.out _ _ ?_ (fun hH2 => ?_)
        · exact HC.out _ _ N
        clear hHeld hK K; have hHeld := hH2; clear hH2; try go_frame
        refine hyO (some 16) 6 rfl (fun K hK => ?_)
        go_simp
        go_at_call 19
        refine (HNI.out _).mono ?_
        rintro e wq ⟨v6, rfl, ow, bn⟩
        obtain ⟨A6, c6, rfl, _⟩ := (own_BS ow).form
        replace N := N.step bn (own_BS ow)
        clear ow bn
        go_wp2_with fail
        refine hK.out _ _ ?_ (fun hH2 => ?_)
        · exact HC.out _ _ N
        clear hHeld hK K; have hHeld := hH2; clear hH2; try go_frame
        refine hyO (some 20) 10 rfl (fun K hK => ?_)
        go_simp
        go_at_call 20
        refine (HTA2.out _ _ _ (N.get (by repeat (first | exact List.Mem.head _ | apply List.Mem.tail)))).mono ?_
        rintro e wq ⟨v10, rfl, ow, bn⟩
        obtain ⟨A10, c10, rfl, _⟩ := (own_BS ow).form
        replace N := N.step bn (own_BS ow)
        clear ow bn
        go_wp2_with fail
        refine hK.out _ _ ?_ (fun hH2 => ?_)
        · exact HC.out _ _ N
        clear hHeld hK K; have hHeld := hH2; clear hH2; try go_frame
        refine hyO (some 24) 14 rfl (fun K hK => ?_)
        go_simp
        go_at_call 20
        refine (HTB2.out _ _ _ (N.get (by repeat (first | exact List.Mem.head _ | apply List.Mem.tail)))).mono ?_
        rintro e wq ⟨v14, rfl, ow, bn⟩
        obtain ⟨A14, c14, rfl, _⟩ := (own_BS ow).form
        replace N := N.step bn (own_BS ow)
        clear ow bn
        go_wp2_with fail
        refine hK.out _ _ ?_ (fun hH2 => ?_)
        · exact HC.out _ _ N
        clear hHeld hK K; have hHeld := hH2; clear hH2; try go_frame
        refine hyO (some 25) 15 rfl (fun K hK => ?_)
        go_simp
        have hl := LS.four (t := 25) (N.get (v := .slice A3 1 1) (l := [UInt8.ofNat (kn % 256)]) (by repeat (first | exact List.Mem.head _ | apply List.Mem.tail))) (N.get (v := .slice A6 (numb (u64 t)).length c6) (l := numb (u64 t)) (by repeat (first | exact List.Mem.head _ | apply List.Mem.tail))) (N.get (v := .slice A10 (texb la).length c10) (l := texb la) (by repeat (first | exact List.Mem.head _ | apply List.Mem.tail))) (N.get (v := .slice A14 (texb lb).length c14) (l := texb lb) (by repeat (first | exact List.Mem.head _ | apply List.Mem.tail)))
        have bn := (Below.refl wq.heap.size wq).alloc (Nat.le_refl _) (.cells #[.slice A3 1 1, .slice A6 (numb (u64 t)).length c6, .slice A10 (texb la).length c10, .slice A14 (texb lb).length c14] 25)
        replace N := N.past bn
        clear bn
        refine hK.out _ _ ?_ (fun hH2 => ?_)
        · exact HC.out _ _ N
        clear hHeld hK K; have hHeld := hH2; clear hH2; try go_frame
        refine hyO (some 26) 16 rfl (fun K hK => ?_)
        go_simp
        go_at_call 18
        refine (HALL.out _ _ _ hl).mono ?_
        rintro e wq ⟨v16, rfl, ow, bn⟩
        have hfin := HFIN.out wq v16 ((own_BS ow).mono fun b h => ⟨Nat.le_trans (Nat.le_of_lt N.kb.lt) h.1, h.2⟩) (N.past bn).bl
        replace N := N.past bn
        clear ow bn hl
        go_wp2_with fail
        refine hK.out _ _ ?_ (fun hH2 => ?_)
        · exact HC.out _ _ N
        clear hHeld hK K; have hHeld := hH2; clear hH2; try go_frame
        refine hyY (some 2) 17 rfl hHeld ?_; go_frame
        refine hyY (some 3) 18 rfl hHeld ?_; go_frame
        refine wpAnyH_done (by kernel_rfl) ?_ _
        have hKK := HKK.out
        clear hHeld HC HFIN N HCA HCB HTA2 HTB2 HALL
        go_wp2_with fail
        exact hfin
    · go_simp
      go_at_call 19
      refine (HNI.out _).mono ?_
      rintro e wq ⟨v6, rfl, ow, bn⟩
      obtain ⟨A6, c6, rfl, _⟩ := (own_BS ow).form
      replace N := N.step bn (own_BS ow)
      clear ow bn
      go_wp2_with fail
      refine hK.out _ _ ?_ (fun hH2 => ?_)
      · exact HC.out _ _ N
      clear hHeld hK K; have hHeld := hH2; clear hH2; try go_frame
      refine held_three (o := ⟨some 13, _, _, _, _, _⟩) (p := ⟨some 20, _, _, _, _, _⟩) (q := ⟨some 23, _, _, _, _, _⟩) 3 10 13 (by kernel_rfl) rfl rfl rfl (by rfl) (by rfl) (by rfl) (fun K hK => ?_) (fun K hK => ?_) (fun K hK => ?_)
      · go_simp
        rw [ewrap8, byte_mod]
        replace N := N.lit kn
        obtain ⟨A3, hA3⟩ : ∃ A, A = some (⟨wq.heap.size, 0, none⟩ : Addr) := ⟨_, rfl⟩
        rw [← hA3] at N ⊢
        clear hA3
        generalize wq.alloc (.cells #[bv (UInt8.ofNat (kn % 256))] 5) = wq at N ⊢
        refine hK.out _ _ ?_ (fun hH2 => ?_)
        · exact HC.out _ _ N
        clear hHeld hK K; have hHeld := hH2; clear hH2; try go_frame
        refine held_two (o := ⟨some 20, _, _, _, _, _⟩) (p := ⟨some 23, _, _, _, _, _⟩) 10 13 (by kernel_rfl) rfl rfl (by rfl) (by rfl) (fun K hK => ?_) (fun K hK => ?_)
        · go_simp
          go_at_call 20
          refine (HTA2.out _ _ _ (N.get (by repeat (first | exact List.Mem.head _ | apply List.Mem.tail)))).mono ?_
          rintro e wq ⟨v10, rfl, ow, bn⟩
          obtain ⟨A10, c10, rfl, _⟩ := (own_BS ow).form
          replace N := N.step bn (own_BS ow)
          clear ow bn
          go_wp2_with fail
          refine hK.out _ _ ?_ (fun hH2 => ?_)
          · exact HC.out _ _ N
          clear hHeld hK K; have hHeld := hH2; clear hH2; try go_frame
          refine hyO (some 23) 13 rfl (fun K hK => ?_)
          obtain ⟨c13, wq, hcv, x13, bn⟩ := HCB.out wq
          go_simp
          replace N := N.step bn x13
          clear hcv x13 bn
          refine hK.out _ _ ?_ (fun hH2 => ?_)
          · exact HC.out _ _ N
          clear hHeld hK K; have hHeld := hH2; clear hH2; try go_frame
          refine hyO (some 24) 14 rfl (fun K hK => ?_)
          go_simp
          go_at_call 20
          refine (HTB2.out _ _ _ (N.get (by repeat (first | exact List.Mem.head _ | apply List.Mem.tail)))).mono ?_
          rintro e wq ⟨v14, rfl, ow, bn⟩
          obtain ⟨A14, c14, rfl, _⟩ := (own_BS ow).form
          replace N := N.step bn (own_BS ow)
          clear ow bn
          go_wp2_with fail
          refine hK.out _ _ ?_ (fun hH2 => ?_)
          · exact HC.out _ _ N
          clear hHeld hK K; have hHeld := hH2; clear hH2; try go_frame
          refine hyO (some 25) 15 rfl (fun K hK => ?_)
          go_simp
          have hl := LS.four (t := 25) (N.get (v := .slice A3 1 1) (l := [UInt8.ofNat (kn % 256)]) (by repeat (first | exact List.Mem.head _ | apply List.Mem.tail))) (N.get (v := .slice A6 (numb (u64 t)).length c6) (l := numb (u64 t)) (by repeat (first | exact List.Mem.head _ | apply List.Mem.tail))) (N.get (v := .slice A10 (texb la).length c10) (l := texb la) (by repeat (first | exact List.Mem.head _ | apply List.Mem.tail))) (N.get (v := .slice A14 (texb lb).length c14) (l := texb lb) (by repeat (first | exact List.Mem.head _ | apply List.Mem.tail)))
          have bn := (Below.refl wq.heap.size wq).alloc (Nat.le_refl _) (.cells #[.slice A3 1 1, .slice A6 (numb (u64 t)).length c6, .slice A10 (texb la).length c10, .slice A14 (texb lb).length c14] 25)
          replace N := N.past bn
          clear bn
          refine hK.out _ _ ?_ (fun hH2 => ?_)
          · exact HC.out _ _ N
          clear hHeld hK K; have hHeld := hH2; clear hH2; try go_frame
          refine hyO (some 26) 16 rfl (fun K hK => ?_)
          go_simp
          go_at_call 18
          refine (HALL.out _ _ _ hl).mono ?_
          rintro e wq ⟨v16, rfl, ow, bn⟩
          have hfin := HFIN.out wq v16 ((own_BS ow).mono fun b h => ⟨Nat.le_trans (Nat.le_of_lt N.kb.lt) h.1, h.2⟩) (N.past bn).bl
          replace N := N.past bn
          clear ow bn hl
          go_wp2_with fail
          refine hK.out _ _ ?_ (fun hH2 => ?_)
          · exact HC.out _ _ N
          clear hHeld hK K; have hHeld := hH2; clear hH2; try go_frame
          refine hyY (some 2) 17 rfl hHeld ?_; go_frame
          refine hyY (some 3) 18 rfl hHeld ?_; go_frame
          refine wpAnyH_done (by kernel_rfl) ?_ _
          have hKK := HKK.out
          clear hHeld HC HFIN N HCA HCB HTA2 HTB2 HALL
          go_wp2_with fail
          exact hfin
        · obtain ⟨c13, wq, hcv, x13, bn⟩ := HCB.out wq
          go_simp
          replace N := N.step bn x13
          clear hcv x13 bn
          refine hK.out _ _ ?_ (fun hH2 => ?_)
          · exact HC.out _ _ N
          clear hHeld hK K; have hHeld := hH2; clear hH2; try go_frame
          refine hyO (some 20) 10 rfl (fun K hK => ?_)
          go_simp
          go_at_call 20
          refine (HTA2.out _ _ _ (N.get (by repeat (first | exact List.Mem.head _ | apply List.Mem.tail)))).mono ?_
          rintro e wq ⟨v10, rfl, ow, bn⟩
          obtain ⟨A10, c10, rfl, _⟩ := (own_BS ow).form
          replace N := N.step bn (own_BS ow)
          clear ow bn
          go_wp2_with fail
          refine hK.out _ _ ?_ (fun hH2 => ?_)
          · exact HC.out _ _ N
          clear hHeld hK K; have hHeld := hH2; clear hH2; try go_frame
          refine hyO (some 24) 14 rfl (fun K hK => ?_)
          go_simp
          go_at_call 20
          refine (HTB2.out _ _ _ (N.get (by repeat (first | exact List.Mem.head _ | apply List.Mem.tail)))).mono ?_
          rintro e wq ⟨v14, rfl, ow, bn⟩
          obtain ⟨A14, c14, rfl, _⟩ := (own_BS ow).form
          replace N := N.step bn (own_BS ow)
          clear ow bn
          go_wp2_with fail
          refine hK.out _ _ ?_ (fun hH2 => ?_)
          · exact HC.out _ _ N
          clear hHeld hK K; have hHeld := hH2; clear hH2; try go_frame
          refine hyO (some 25) 15 rfl (fun K hK => ?_)
          go_simp
          have hl := LS.four (t := 25) (N.get (v := .slice A3 1 1) (l := [UInt8.ofNat (kn % 256)]) (by repeat (first | exact List.Mem.head _ | apply List.Mem.tail))) (N.get (v := .slice A6 (numb (u64 t)).length c6) (l := numb (u64 t)) (by repeat (first | exact List.Mem.head _ | apply List.Mem.tail))) (N.get (v := .slice A10 (texb la).length c10) (l := texb la) (by repeat (first | exact List.Mem.head _ | apply List.Mem.tail))) (N.get (v := .slice A14 (texb lb).length c14) (l := texb lb) (by repeat (first | exact List.Mem.head _ | apply List.Mem.tail)))
          have bn := (Below.refl wq.heap.size wq).alloc (Nat.le_refl _) (.cells #[.slice A3 1 1, .slice A6 (numb (u64 t)).length c6, .slice A10 (texb la).length c10, .slice A14 (texb lb).length c14] 25)
          replace N := N.past bn
          clear bn
          refine hK.out _ _ ?_ (fun hH2 => ?_)
          · exact HC.out _ _ N
          clear hHeld hK K; have hHeld := hH2; clear hH2; try go_frame
          refine hyO (some 26) 16 rfl (fun K hK => ?_)
          go_simp
          go_at_call 18
          refine (HALL.out _ _ _ hl).mono ?_
          rintro e wq ⟨v16, rfl, ow, bn⟩
          have hfin := HFIN.out wq v16 ((own_BS ow).mono fun b h => ⟨Nat.le_trans (Nat.le_of_lt N.kb.lt) h.1, h.2⟩) (N.past bn).bl
          replace N := N.past bn
          clear ow bn hl
          go_wp2_with fail
          refine hK.out _ _ ?_ (fun hH2 => ?_)
          · exact HC.out _ _ N
          clear hHeld hK K; have hHeld := hH2; clear hH2; try go_frame
          refine hyY (some 2) 17 rfl hHeld ?_; go_frame
          refine hyY (some 3) 18 rfl hHeld ?_; go_frame
          refine wpAnyH_done (by kernel_rfl) ?_ _
          have hKK := HKK.out
          clear hHeld HC HFIN N HCA HCB HTA2 HTB2 HALL
          go_wp2_with fail
          exact hfin
      · go_simp
        go_at_call 20
        refine (HTA2.out _ _ _ (N.get (by repeat (first | exact List.Mem.head _ | apply List.Mem.tail)))).mono ?_
        rintro e wq ⟨v10, rfl, ow, bn⟩
        obtain ⟨A10, c10, rfl, _⟩ := (own_BS ow).form
        replace N := N.step bn (own_BS ow)
        clear ow bn
        go_wp2_with fail
        refine hK.out _ _ ?_ (fun hH2 => ?_)
        · exact HC.out _ _ N
        clear hHeld hK K; have hHeld := hH2; clear hH2; try go_frame
        refine held_two (o := ⟨some 13, _, _, _, _, _⟩) (p := ⟨some 23, _, _, _, _, _⟩) 3 13 (by kernel_rfl) rfl rfl (by rfl) (by rfl) (fun K hK => ?_) (fun K hK => ?_)
        · go_simp
          rw [ewrap8, byte_mod]
          replace N := N.lit kn
          obtain ⟨A3, hA3⟩ : ∃ A, A = some (⟨wq.heap.size, 0, none⟩ : Addr) := ⟨_, rfl⟩
          rw [← hA3] at N ⊢
          clear hA3
          generalize wq.alloc (.cells #[bv (UInt8.ofNat (kn % 256))] 5) = wq at N ⊢
          refine hK.out _ _ ?_ (fun hH2 => ?_)
          · exact HC.out _ _ N
          clear hHeld hK K; have hHeld := hH2; clear hH2; try go_frame
          refine hyO (some 23) 13 rfl (fun K hK => ?_)
          obtain ⟨c13, wq, hcv, x13, bn⟩ := HCB.out wq
          go_simp
          replace N := N.step bn x13
          clear hcv x13 bn
          refine hK.out _ _ ?_ (fun hH2 => ?_)
          · exact HC.out _ _ N
          clear hHeld hK K; have hHeld := hH2; clear hH2; try go_frame
          refine hyO (some 24) 14 rfl (fun K hK => ?_)
          go_simp
          go_at_call 20
          refine (HTB2.out _ _ _ (N.get (by repeat (first | exact List.Mem.head _ | apply List.Mem.tail)))).mono ?_
          rintro e wq ⟨v14, rfl, ow, bn⟩
          obtain ⟨A14, c14, rfl, _⟩ := (own_BS ow).form
          replace N := N.step bn (own_BS ow)
          clear ow bn
          go_wp2_with fail
          refine hK.out _ _ ?_ (fun hH2 => ?_)
          · exact HC.out _ _ N
          clear hHeld hK K; have hHeld := hH2; clear hH2; try go_frame
          refine hyO (some 25) 15 rfl (fun K hK => ?_)
          go_simp
          have hl := LS.four (t := 25) (N.get (v := .slice A3 1 1) (l := [UInt8.ofNat (kn % 256)]) (by repeat (first | exact List.Mem.head _ | apply List.Mem.tail))) (N.get (v := .slice A6 (numb (u64 t)).length c6) (l := numb (u64 t)) (by repeat (first | exact List.Mem.head _ | apply List.Mem.tail))) (N.get (v := .slice A10 (texb la).length c10) (l := texb la) (by repeat (first | exact List.Mem.head _ | apply List.Mem.tail))) (N.get (v := .slice A14 (texb lb).length c14) (l := texb lb) (by repeat (first | exact List.Mem.head _ | apply List.Mem.tail)))
          have bn := (Below.refl wq.heap.size wq).alloc (Nat.le_refl _) (.cells #[.slice A3 1 1, .slice A6 (numb (u64 t)).length c6, .slice A10 (texb la).length c10, .slice A14 (texb lb).length c14] 25)
          replace N := N.past bn
          clear bn
          refine hK.out _ _ ?_ (fun hH2 => ?_)
          · exact HC.out _ _ N
          clear hHeld hK K; have hHeld := hH2; clear hH2; try go_frame
          refine hyO (some 26) 16 rfl (fun K hK => ?_)
          go_simp
          go_at_call 18
          refine (HALL.out _ _ _ hl).mono ?_
          rintro e wq ⟨v16, rfl, ow, bn⟩
          have hfin := HFIN.out wq v16 ((own_BS ow).mono fun b h => ⟨Nat.le_trans (Nat.le_of_lt N.kb.lt) h.1, h.2⟩) (N.past bn).bl
          replace N := N.past bn
          clear ow bn hl
          go_wp2_with fail
          refine hK.out _ _ ?_ (fun hH2 => ?_)
          · exact HC.out _ _ N
          clear hHeld hK K; have hHeld := hH2; clear hH2; try go_frame
          refine hyY (some 2) 17 rfl hHeld ?_; go_frame
          refine hyY (some 3) 18 rfl hHeld ?_; go_frame
          refine wpAnyH_done (by kernel_rfl) ?_ _
          have hKK := HKK.out
          clear hHeld HC HFIN N HCA HCB HTA2 HTB2 HALL
          go_wp2_with fail
          exact hfin
        · obtain ⟨c13, wq, hcv, x13, bn⟩ := HCB.out wq
          go_simp
          replace N := N.step bn x13
          clear hcv x13 bn
          refine hK.out _ _ ?_ (fun hH2 => ?_)
          · exact HC.out _ _ N
          clear hHeld hK K; have hHeld := hH2; clear hH2; try go_frame
          refine held_two (o := ⟨some 13, _, _, _, _, _⟩) (p := ⟨some 24, _, _, _, _, _⟩) 3 14 (by kernel_rfl) rfl rfl (by rfl) (by rfl) (fun K hK => ?_) (fun K hK => ?_)
          · go_simp
            rw [ewrap8, byte_mod]
            replace N := N.lit kn
            obtain ⟨A3, hA3⟩ : ∃ A, A = some (⟨wq.heap.size, 0, none⟩ : Addr) := ⟨_, rfl⟩
            rw [← hA3] at N ⊢
            clear hA3
            generalize wq.alloc (.cells #[bv (UInt8.ofNat (kn % 256))] 5) = wq at N ⊢
            refine hK.out _ _ ?_ (fun hH2 => ?_)
            · exact HC.out _ _ N
            clear hHeld hK K; have hHeld := hH2; clear hH2; try go_frame
            refine hyO (some 24) 14 rfl (fun K hK => ?_)
            go_simp
            go_at_call 20
            refine (HTB2.out _ _ _ (N.get (by repeat (first | exact List.Mem.head _ | apply List.Mem.tail)))).mono ?_
            rintro e wq ⟨v14, rfl, ow, bn⟩
            obtain ⟨A14, c14, rfl, _⟩ := (own_BS ow).form
            replace N := N.step bn (own_BS ow)
            clear ow bn
            go_wp2_with fail
            refine hK.out _ _ ?_ (fun hH2 => ?_)
            · exact HC.out _ _ N
            clear hHeld hK K; have hHeld := hH2; clear hH2; try go_frame
            refine hyO (some 25) 15 rfl (fun K hK => ?_)
            go_simp
            have hl := LS.four (t := 25) (N.get (v := .slice A3 1 1) (l := [UInt8.ofNat (kn % 256)]) (by repeat (first | exact List.Mem.head _ | apply List.Mem.tail))) (N.get (v := .slice A6 (numb (u64 t)).length c6) (l := numb (u64 t)) (by repeat (first | exact List.Mem.head _ | apply List.Mem.tail))) (N.get (v := .slice A10 (texb la).length c10) (l := texb la) (by repeat (first | exact List.Mem.head _ | apply List.Mem.tail))) (N.get (v := .slice A14 (texb lb).length c14) (l := texb lb) (by repeat (first | exact List.Mem.head _ | apply List.Mem.tail)))
            have bn := (Below.refl wq.heap.size wq).alloc (Nat.le_refl _) (.cells #[.slice A3 1 1, .slice A6 (numb (u64 t)).length c6, .slice A10 (texb la).length c10, .slice A14 (texb lb).length c14] 25)
            replace N := N.past bn
            clear bn
            refine hK.out _ _ ?_ (fun hH2 => ?_)
            · exact HC.out _ _ N
            clear hHeld hK K; have hHeld := hH2; clear hH2; try go_frame
            refine hyO (some 26) 16 rfl (fun K hK => ?_)
            go_simp
            go_at_call 18
            refine (HALL.out _ _ _ hl).mono ?_
            rintro e wq ⟨v16, rfl, ow, bn⟩
            have hfin := HFIN.out wq v16 ((own_BS ow).mono fun b h => ⟨Nat.le_trans (Nat.le_of_lt N.kb.lt) h.1, h.2⟩) (N.past bn).bl
            replace N := N.past bn
            clear ow bn hl
            go_wp2_with fail
            refine hK.out _ _ ?_ (fun hH2 => ?_)
            · exact HC.out _ _ N
            clear hHeld hK K; have hHeld := hH2; clear hH2; try go_frame
            refine hyY (some 2) 17 rfl hHeld ?_; go_frame
            refine hyY (some 3) 18 rfl hHeld ?_; go_frame
            refine wpAnyH_done (by kernel_rfl) ?_ _
            have hKK := HKK.out
            clear hHeld HC HFIN N HCA HCB HTA2 HTB2 HALL
            go_wp2_with fail
            exact hfin
          · go_simp
            go_at_call 20
            refine (HTB2.out _ _ _ (N.get (by repeat (first | exact List.Mem.head _ | apply List.Mem.tail)))).mono ?_
            rintro e wq ⟨v14, rfl, ow, bn⟩
            obtain ⟨A14, c14, rfl, _⟩ := (own_BS ow).form
            replace N := N.step bn (own_BS ow)
            clear ow bn
            go_wp2_with fail
            refine hK.out _ _ ?_ (fun hH2 => ?_)
            · exact HC.out _ _ N
            clear hHeld hK K; have hHeld := hH2; clear hH2; try go_frame
            refine hyO (some 13) 3 rfl (fun K hK => ?_)
            go_simp
            rw [ewrap8, byte_mod]
            replace N := N.lit kn
            obtain ⟨A3, hA3⟩ : ∃ A, A = some (⟨wq.heap.size, 0, none⟩ : Addr) := ⟨_, rfl⟩
            rw [← hA3] at N ⊢
            clear hA3
            generalize wq.alloc (.cells #[bv (UInt8.ofNat (kn % 256))] 5) = wq at N ⊢
            refine hK.out _ _ ?_ (fun hH2 => ?_)
            · exact HC.out _ _ N
            clear hHeld hK K; have hHeld := hH2; clear hH2; try go_frame
            refine hyO (some 25) 15 rfl (fun K hK => ?_)
            go_simp
            have hl := LS.four (t := 25) (N.get (v := .slice A3 1 1) (l := [UInt8.ofNat (kn % 256)]) (by repeat (first | exact List.Mem.head _ | apply List.Mem.tail))) (N.get (v := .slice A6 (numb (u64 t)).length c6) (l := numb (u64 t)) (by repeat (first | exact List.Mem.head _ | apply List.Mem.tail))) (N.get (v := .slice A10 (texb la).length c10) (l := texb la) (by repeat (first | exact List.Mem.head _ | apply List.Mem.tail))) (N.get (v := .slice A14 (texb lb).length c14) (l := texb lb) (by repeat (first | exact List.Mem.head _ | apply List.Mem.tail)))
            have bn := (Below.refl wq.heap.size wq).alloc (Nat.le_refl _) (.cells #[.slice A3 1 1, .slice A6 (numb (u64 t)).length c6, .slice A10 (texb la).length c10, .slice A14 (texb lb).length c14] 25)
            replace N := N.past bn
            clear bn
            refine hK.out _ _ ?_ (fun hH2 => ?_)
            · exact HC.out _ _ N
            clear hHeld hK K; have hHeld := hH2; clear hH2; try go_frame
            refine hyO (some 26) 16 rfl (fun K hK => ?_)
            go_simp
            go_at_call 18
            refine (HALL.out _ _ _ hl).mono ?_
            rintro e wq ⟨v16, rfl, ow, bn⟩
            have hfin := HFIN.out wq v16 ((own_BS ow).mono fun b h => ⟨Nat.le_trans (Nat.le_of_lt N.kb.lt) h.1, h.2⟩) (N.past bn).bl
            replace N := N.past bn
            clear ow bn hl
            go_wp2_with fail
            refine hK.out _ _ ?_ (fun hH2 => ?_)
            · exact HC.out _ _ N
            clear hHeld hK K; have hHeld := hH2; clear hH2; try go_frame
            refine hyY (some 2) 17 rfl hHeld ?_; go_frame
            refine hyY (some 3) 18 rfl hHeld ?_; go_frame
            refine wpAnyH_done (by kernel_rfl) ?_ _
            have hKK := HKK.out
            clear hHeld HC HFIN N HCA HCB HTA2 HTB2 HALL
            go_wp2_with fail
            exact hfin
      · obtain ⟨c13, wq, hcv, x13, bn⟩ := HCB.out wq
        go_simp
        replace N := N.step bn x13
        clear hcv x13 bn
        refine hK.out _ _ ?_ (fun hH2 => ?_)
        · exact HC.out _ _ N
        clear hHeld hK K; have hHeld := hH2; clear hH2; try go_frame
        refine held_two (o := ⟨some 13, _, _, _, _, _⟩) (p := ⟨some 20, _, _, _, _, _⟩) 3 10 (by kernel_rfl) rfl rfl (by rfl) (by rfl) (fun K hK => ?_) (fun K hK => ?_)
        · go_simp
          rw [ewrap8, byte_mod]
          replace N := N.lit kn
          obtain ⟨A3, hA3⟩ : ∃ A, A = some (⟨wq.heap.size, 0, none⟩ : Addr) := ⟨_, rfl⟩
          rw [← hA3] at N ⊢
          clear hA3
          generalize wq.alloc (.cells #[bv (UInt8.ofNat (kn % 256))] 5) = wq at N ⊢
          refine hK.out _ _ ?_ (fun hH2 => ?_)
          · exact HC.out _ _ N
          clear hHeld hK K; have hHeld := hH2; clear hH2; try go_frame
          refine hyO (some 20) 10 rfl (fun K hK => ?_)
          go_simp
          go_at_call 20
          refine (HTA2.out _ _ _ (N.get (by repeat (first | exact List.Mem.head _ | apply List.Mem.tail)))).mono ?_
          rintro e wq ⟨v10, rfl, ow, bn⟩
          obtain ⟨A10, c10, rfl, _⟩ := (own_BS ow).form
          replace N := N.step bn (own_BS ow)
          clear ow bn
          go_wp2_with fail
          refine hK.out _ _ ?_ (fun hH2 => ?_)
          · exact HC.out _ _ N
          clear hHeld hK K; have hHeld := hH2; clear hH2; try go_frame
          refine hyO (some 24) 14 rfl (fun K hK => ?_)
          go_simp
          go_at_call 20
          refine (HTB2.out _ _ _ (N.get (by repeat (first | exact List.Mem.head _ | apply List.Mem.tail)))).mono ?_
          rintro e wq ⟨v14, rfl, ow, bn⟩
          obtain ⟨A14, c14, rfl, _⟩ := (own_BS ow).form
          replace N := N.step bn (own_BS ow)
          clear ow bn
          go_wp2_with fail
          refine hK.out _ _ ?_ (fun hH2 => ?_)
          · exact HC.out _ _ N
          clear hHeld hK K; have hHeld := hH2; clear hH2; try go_frame
          refine hyO (some 25) 15 rfl (fun K hK => ?_)
          go_simp
          have hl := LS.four (t := 25) (N.get (v := .slice A3 1 1) (l := [UInt8.ofNat (kn % 256)]) (by repeat (first | exact List.Mem.head _ | apply List.Mem.tail))) (N.get (v := .slice A6 (numb (u64 t)).length c6) (l := numb (u64 t)) (by repeat (first | exact List.Mem.head _ | apply List.Mem.tail))) (N.get (v := .slice A10 (texb la).length c10) (l := texb la) (by repeat (first | exact List.Mem.head _ | apply List.Mem.tail))) (N.get (v := .slice A14 (texb lb).length c14) (l := texb lb) (by repeat (first | exact List.Mem.head _ | apply List.Mem.tail)))
          have bn := (Below.refl wq.heap.size wq).alloc (Nat.le_refl _) (.cells #[.slice A3 1 1, .slice A6 (numb (u64 t)).length c6, .slice A10 (texb la).length c10, .slice A14 (texb lb).length c14] 25)
          replace N := N.past bn
          clear bn
          refine hK.out _ _ ?_ (fun hH2 => ?_)
          · exact HC.out _ _ N
          clear hHeld hK K; have hHeld := hH2; clear hH2; try go_frame
          refine hyO (some 26) 16 rfl (fun K hK => ?_)
          go_simp
          go_at_call 18
          refine (HALL.out _ _ _ hl).mono ?_
          rintro e wq ⟨v16, rfl, ow, bn⟩
          have hfin := HFIN.out wq v16 ((own_BS ow).mono fun b h => ⟨Nat.le_trans (Nat.le_of_lt N.kb.lt) h.1, h.2⟩) (N.past bn).bl
          replace N := N.past bn
          clear ow bn hl
          go_wp2_with fail
          refine hK.out _ _ ?_ (fun hH2 => ?_)
          · exact HC.out _ _ N
          clear hHeld hK K; have hHeld := hH2; clear hH2; try go_frame
          refine hyY (some 2) 17 rfl hHeld ?_; go_frame
          refine hyY (some 3) 18 rfl hHeld ?_; go_frame
          refine wpAnyH_done (by kernel_rfl) ?_ _
          have hKK := HKK.out
          clear hHeld HC HFIN N HCA HCB HTA2 HTB2 HALL
          go_wp2_with fail
          exact hfin
        · go_simp
          go_at_call 20
          refine (HTA2.out _ _ _ (N.get (by repeat (first | exact List.Mem.head _ | apply List.Mem.tail)))).mono ?_
          rintro e wq ⟨v10, rfl, ow, bn⟩
          obtain ⟨A10, c10, rfl, _⟩ := (own_BS ow).form
          replace N := N.step bn (own_BS ow)
          clear ow bn
          go_wp2_with fail
          refine hK.out _ _ ?_ (fun hH2 => ?_)
          · exact HC.out _ _ N
          clear hHeld hK K; have hHeld := hH2; clear hH2; try go_frame
          refine held_two (o := ⟨some 13, _, _, _, _, _⟩) (p := ⟨some 24, _, _, _, _, _⟩) 3 14 (by kernel_rfl) rfl rfl (by rfl) (by rfl) (fun K hK => ?_) (fun K hK => ?_)
          · go_simp
            rw [ewrap8, byte_mod]
            replace N := N.lit kn
            obtain ⟨A3, hA3⟩ : ∃ A, A = some (⟨wq.heap.size, 0, none⟩ : Addr) := ⟨_, rfl⟩
            rw [← hA3] at N ⊢
            clear hA3
            generalize wq.alloc (.cells #[bv (UInt8.ofNat (kn % 256))] 5) = wq at N ⊢
            refine hK.out _ _ ?_ (fun hH2 => ?_)
            · exact HC.out _ _ N
            clear hHeld hK K; have hHeld := hH2; clear hH2; try go_frame
            refine hyO (some 24) 14 rfl (fun K hK => ?_)
            go_simp
            go_at_call 20
            refine (HTB2.out _ _ _ (N.get (by repeat (first | exact List.Mem.head _ | apply List.Mem.tail)))).mono ?_
            rintro e wq ⟨v14, rfl, ow, bn⟩
            obtain ⟨A14, c14, rfl, _⟩ := (own_BS ow).form
            replace N := N.step bn (own_BS ow)
            clear ow bn
            go_wp2_with fail
            refine hK.out _ _ ?_ (fun hH2 => ?_)
            · exact HC.out _ _ N
            clear hHeld hK K; have hHeld := hH2; clear hH2; try go_frame
            refine hyO (some 25) 15 rfl (fun K hK => ?_)
            go_simp
            have hl := LS.four (t := 25) (N.get (v := .slice A3 1 1) (l := [UInt8.ofNat (kn % 256)]) (by repeat (first | exact List.Mem.head _ | apply List.Mem.tail))) (N.get (v := .slice A6 (numb (u64 t)).length c6) (l := numb (u64 t)) (by repeat (first | exact List.Mem.head _ | apply List.Mem.tail))) (N.get (v := .slice A10 (texb la).length c10) (l := texb la) (by repeat (first | exact List.Mem.head _ | apply List.Mem.tail))) (N.get (v := .slice A14 (texb lb).length c14) (l := texb lb) (by repeat (first | exact List.Mem.head _ | apply List.Mem.tail)))
            have bn := (Below.refl wq.heap.size wq).alloc (Nat.le_refl _) (.cells #[.slice A3 1 1, .slice A6 (numb (u64 t)).length c6, .slice A10 (texb la).length c10, .slice A14 (texb lb).length c14] 25)
            replace N := N.past bn
            clear bn
            refine hK.out _ _ ?_ (fun hH2 => ?_)
            · exact HC.out _ _ N
            clear hHeld hK K; have hHeld := hH2; clear hH2; try go_frame
            refine hyO (some 26) 16 rfl (fun K hK => ?_)
            go_simp
            go_at_call 18
            refine (HALL.out _ _ _ hl).mono ?_
            rintro e wq ⟨v16, rfl, ow, bn⟩
            have hfin := HFIN.out wq v16 ((own_BS ow).mono fun b h => ⟨Nat.le_trans (Nat.le_of_lt N.kb.lt) h.1, h.2⟩) (N.past bn).bl
            replace N := N.past bn
            clear ow bn hl
            go_wp2_with fail
            refine hK.out _ _ ?_ (fun hH2 => ?_)
            · exact HC.out _ _ N
            clear hHeld hK K; have hHeld := hH2; clear hH2; try go_frame
            refine hyY (some 2) 17 rfl hHeld ?_; go_frame
            refine hyY (some 3) 18 rfl hHeld ?_; go_frame
            refine wpAnyH_done (by kernel_rfl) ?_ _
            have hKK := HKK.out
            clear hHeld HC HFIN N HCA HCB HTA2 HTB2 HALL
            go_wp2_with fail
            exact hfin
          · go_simp
            go_at_call 20
            refine (HTB2.out _ _ _ (N.get (by repeat (first | exact List.Mem.head _ | apply List.Mem.tail)))).mono ?_
            rintro e wq ⟨v14, rfl, ow, bn⟩
            obtain ⟨A14, c14, rfl, _⟩ := (own_BS ow).form
            replace N := N.step bn (own_BS ow)
            clear ow bn
            go_wp2_with fail
            refine hK.out _ _ ?_ (fun hH2 => ?_)
            · exact HC.out _ _ N
            clear hHeld hK K; have hHeld := hH2; clear hH2; try go_frame
            refine hyO (some 13) 3 rfl (fun K hK => ?_)
            go_simp
            rw [ewrap8, byte_mod]
            replace N := N.lit kn
            obtain ⟨A3, hA3⟩ : ∃ A, A = some (⟨wq.heap.size, 0, none⟩ : Addr) := ⟨_, rfl⟩
            rw [← hA3] at N ⊢
            clear hA3
            generalize wq.alloc (.cells #[bv (UInt8.ofNat (kn % 256))] 5) = wq at N ⊢
            refine hK.out _ _ ?_ (fun hH2 => ?_)
            · exact HC.out _ _ N
            clear hHeld hK K; have hHeld := hH2; clear hH2; try go_frame
            refine hyO (some 25) 15 rfl (fun K hK => ?_)
            go_simp
            have hl := LS.four (t := 25) (N.get (v := .slice A3 1 1) (l := [UInt8.ofNat (kn % 256)]) (by repeat (first | exact List.Mem.head _ | apply List.Mem.tail))) (N.get (v := .slice A6 (numb (u64 t)).length c6) (l := numb (u64 t)) (by repeat (first | exact List.Mem.head _ | apply List.Mem.tail))) (N.get (v := .slice A10 (texb la).length c10) (l := texb la) (by repeat (first | exact List.Mem.head _ | apply List.Mem.tail))) (N.get (v := .slice A14 (texb lb).length c14) (l := texb lb) (by repeat (first | exact List.Mem.head _ | apply List.Mem.tail)))
            have bn := (Below.refl wq.heap.size wq).alloc (Nat.le_refl _) (.cells #[.slice A3 1 1, .slice A6 (numb (u64 t)).length c6, .slice A10 (texb la).length c10, .slice A14 (texb lb).length c14] 25)
            replace N := N.past bn
            clear bn
            refine hK.out _ _ ?_ (fun hH2 => ?_)
            · exact HC.out _ _ N
            clear hHeld hK K; have hHeld := hH2; clear hH2; try go_frame
            refine hyO (some 26) 16 rfl (fun K hK => ?_)
            go_simp
            go_at_call 18
            refine (HALL.out _ _ _ hl).mono ?_
            rintro e wq ⟨v16, rfl, ow, bn⟩
            have hfin := HFIN.out wq v16 ((own_BS ow).mono fun b h => ⟨Nat.le_trans (Nat.le_of_lt N.kb.lt) h.1, h.2⟩) (N.past bn).bl
            replace N := N.past bn
            clear ow bn hl
            go_wp2_with fail
            refine hK.out _ _ ?_ (fun hH2 => ?_)
            · exact HC.out _ _ N
            clear hHeld hK K; have hHeld := hH2; clear hH2; try go_frame
            refine hyY (some 2) 17 rfl hHeld ?_; go_frame
            refine hyY (some 3) 18 rfl hHeld ?_; go_frame
            refine wpAnyH_done (by kernel_rfl) ?_ _
            have hKK := HKK.out
            clear hHeld HC HFIN N HCA HCB HTA2 HTB2 HALL
            go_wp2_with fail
            exact hfin
    · obtain ⟨c13, wq, hcv, x13, bn⟩ := HCB.out wq
      go_simp
      replace N := N.step bn x13
      clear hcv x13 bn
      refine hK.out _ _ ?_ (fun hH2 => ?_)
      · exact HC.out _ _ N
      clear hHeld hK K; have hHeld := hH2; clear hH2; try go_frame
      refine held_two (o := ⟨some 13, _, _, _, _, _⟩) (p := ⟨some 16, _, _, _, _, _⟩) 3 6 (by kernel_rfl) rfl rfl (by rfl) (by rfl) (fun K hK => ?_) (fun K hK => ?_)
      · go_simp
        rw [ewrap8, byte_mod]
        replace N := N.lit kn
        obtain ⟨A3, hA3⟩ : ∃ A, A = some (⟨wq.heap.size, 0, none⟩ : Addr) := ⟨_, rfl⟩
        rw [← hA3] at N ⊢
        clear hA3
        generalize wq.alloc (.cells #[bv (UInt8.ofNat (kn % 256))] 5) = wq at N ⊢
        refine hK.out _ _ ?_ (fun hH2 => ?_)
        · exact HC.out _ _ N
        clear hHeld hK K; have hHeld := hH2; clear hH2; try go_frame
        refine hyO (some 16) 6 rfl (fun K hK => ?_)
        go_simp
        go_at_call 19
        refine (HNI.out _).mono ?_
        rintro e wq ⟨v6, rfl, ow, bn⟩
        obtain ⟨A6, c6, rfl, _⟩ := (own_BS ow).form
        replace N := N.step bn (own_BS ow)
        clear ow bn
        go_wp2_with fail
        refine hK.out _ _ ?_ (fun hH2 => ?_)
        · exact HC.out _ _ N
        clear hHeld hK K; have hHeld := hH2; clear hH2; try go_frame
        refine hyO (some 20) 10 rfl (fun K hK => ?_)
        go_simp
        go_at_call 20
        refine (HTA2.out _ _ _ (N.get (by repeat (first | exact List.Mem.head _ | apply List.Mem.tail)))).mono ?_
        rintro e wq ⟨v10, rfl, ow, bn⟩
        obtain ⟨A10, c10, rfl, _⟩ := (own_BS ow).form
        replace N := N.step bn (own_BS ow)
        clear ow bn
        go_wp2_with fail
        refine hK.out _ _ ?_ (fun hH2 => ?_)
        · exact HC.out _ _ N
        clear hHeld hK K; have hHeld := hH2; clear hH2; try go_frame
        refine hyO (some 24) 14 rfl (fun K hK => ?_)
        go_simp
        go_at_call 20
        refine (HTB2.out _ _ _ (N.get (by repeat (first | exact List.Mem.head _ | apply List.Mem.tail)))).mono ?_
        rintro e wq ⟨v14, rfl, ow, bn⟩
        obtain ⟨A14, c14, rfl, _⟩ := (own_BS ow).form
        replace N := N.step bn (own_BS ow)
        clear ow bn
        go_wp2_with fail
        refine hK.out _ _ ?_ (fun hH2 => ?_)
        · exact HC.out _ _ N
        clear hHeld hK K; have hHeld := hH2; clear hH2; try go_frame
        refine hyO (some 25) 15 rfl (fun K hK => ?_)
        go_simp
        have hl := LS.four (t := 25) (N.get (v := .slice A3 1 1) (l := [UInt8.ofNat (kn % 256)]) (by repeat (first | exact List.Mem.head _ | apply List.Mem.tail))) (N.get (v := .slice A6 (numb (u64 t)).length c6) (l := numb (u64 t)) (by repeat (first | exact List.Mem.head _ | apply List.Mem.tail))) (N.get (v := .slice A10 (texb la).length c10) (l := texb la) (by repeat (first | exact List.Mem.head _ | apply List.Mem.tail))) (N.get (v := .slice A14 (texb lb).length c14) (l := texb lb) (by repeat (first | exact List.Mem.head _ | apply List.Mem.tail)))
        have bn := (Below.refl wq.heap.size wq).alloc (Nat.le_refl _) (.cells #[.slice A3 1 1, .slice A6 (numb (u64 t)).length c6, .slice A10 (texb la).length c10, .slice A14 (texb lb).length c14] 25)
        replace N := N.past bn
        clear bn
        refine hK.out _ _ ?_ (fun hH2 => ?_)
        · exact HC.out _ _ N
        clear hHeld hK K; have hHeld := hH2; clear hH2; try go_frame
        refine hyO (some 26) 16 rfl (fun K hK => ?_)
        go_simp
        go_at_call 18
        refine (HALL.out _ _ _ hl).mono ?_
        rintro e wq ⟨v16, rfl, ow, bn⟩
        have hfin := HFIN.out wq v16 ((own_BS ow).mono fun b h => ⟨Nat.le_trans (Nat.le_of_lt N.kb.lt) h.1, h.2⟩) (N.past bn).bl
        replace N := N.past bn
        clear ow bn hl
        go_wp2_with fail
        refine hK.out _ _ ?_ (fun hH2 => ?_)
        · exact HC.out _ _ N
        clear hHeld hK K; have hHeld := hH2; clear hH2; try go_frame
        refine hyY (some 2) 17 rfl hHeld ?_; go_frame
        refine hyY (some 3) 18 rfl hHeld ?_; go_frame
        refine wpAnyH_done (by kernel_rfl) ?_ _
        have hKK := HKK.out
        clear hHeld HC HFIN N HCA HCB HTA2 HTB2 HALL
        go_wp2_with fail
        exact hfin
      · go_simp
        go_at_call 19
        refine (HNI.out _).mono ?_
        rintro e wq ⟨v6, rfl, ow, bn⟩
        obtain ⟨A6, c6, rfl, _⟩ := (own_BS ow).form
        replace N := N.step bn (own_BS ow)
        clear ow bn
        go_wp2_with fail
        refine hK.out _ _ ?_ (fun hH2 => ?_)
        · exact HC.out _ _ N
        clear hHeld hK K; have hHeld := hH2; clear hH2; try go_frame
        refine held_two (o := ⟨some 13, _, _, _, _, _⟩) (p := ⟨some 20, _, _, _, _, _⟩) 3 10 (by kernel_rfl) rfl rfl (by rfl) (by rfl) (fun K hK => ?_) (fun K hK => ?_)
        · go_simp
          rw [ewrap8, byte_mod]
          replace N := N.lit kn
          obtain ⟨A3, hA3⟩ : ∃ A, A = some (⟨wq.heap.size, 0, none⟩ : Addr) := ⟨_, rfl⟩
          rw [← hA3] at N ⊢
          clear hA3
          generalize wq.alloc (.cells #[bv (UInt8.ofNat (kn % 256))] 5) = wq at N ⊢
          refine hK.out _ _ ?_ (fun hH2 => ?_)
          · exact HC.out _ _ N
          clear hHeld hK K; have hHeld := hH2; clear hH2; try go_frame
          refine hyO (some 20) 10 rfl (fun K hK => ?_)
          go_simp
          go_at_call 20
          refine (HTA2.out _ _ _ (N.get (by repeat (first | exact List.Mem.head _ | apply List.Mem.tail)))).mono ?_
          rintro e wq ⟨v10, rfl, ow, bn⟩
          obtain ⟨A10, c10, rfl, _⟩ := (own_BS ow).form
          replace N := N.step bn (own_BS ow)
          clear ow bn
          go_wp2_with fail
          refine hK.out _ _ ?_ (fun hH2 => ?_)
          · exact HC.out _ _ N
          clear hHeld hK K; have hHeld := hH2; clear hH2; try go_frame
          refine hyO (some 24) 14 rfl (fun K hK => ?_)
          go_simp
          go_at_call 20
          refine (HTB2.out _ _ _ (N.get (by repeat (first | exact List.Mem.head _ | apply List.Mem.tail)))).mono ?_
          rintro e wq ⟨v14, rfl, ow, bn⟩
          obtain ⟨A14, c14, rfl, _⟩ := (own_BS ow).form
          replace N := N.step bn (own_BS ow)
          clear ow bn
          go_wp2_with fail
          refine hK.out _ _ ?_ (fun hH2 => ?_)
          · exact HC.out _ _ N
          clear hHeld hK K; have hHeld := hH2; clear hH2; try go_frame
          refine hyO (some 25) 15 rfl (fun K hK => ?_)
          go_simp
          have hl := LS.four (t := 25) (N.get (v := .slice A3 1 1) (l := [UInt8.ofNat (kn % 256)]) (by repeat (first | exact List.Mem.head _ | apply List.Mem.tail))) (N.get (v := .slice A6 (numb (u64 t)).length c6) (l := numb (u64 t)) (by repeat (first | exact List.Mem.head _ | apply List.Mem.tail))) (N.get (v := .slice A10 (texb la).length c10) (l := texb la) (by repeat (first | exact List.Mem.head _ | apply List.Mem.tail))) (N.get (v := .slice A14 (texb lb).length c14) (l := texb lb) (by repeat (first | exact List.Mem.head _ | apply List.Mem.tail)))
          have bn := (Below.refl wq.heap.size wq).alloc (Nat.le_refl _) (.cells #[.slice A3 1 1, .slice A6 (numb (u64 t)).length c6, .slice A10 (texb la).length c10, .slice A14 (texb lb).length c14] 25)
          replace N := N.past bn
          clear bn
          refine hK.out _ _ ?_ (fun hH2 => ?_)
          · exact HC.out _ _ N
          clear hHeld hK K; have hHeld := hH2; clear hH2; try go_frame
          refine hyO (some 26) 16 rfl (fun K hK => ?_)
          go_simp
          go_at_call 18
          refine (HALL.out _ _ _ hl).mono ?_
          rintro e wq ⟨v16, rfl, ow, bn⟩
          have hfin := HFIN.out wq v16 ((own_BS ow).mono fun b h => ⟨Nat.le_trans (Nat.le_of_lt N.kb.lt) h.1, h.2⟩) (N.past bn).bl
          replace N := N.past bn
          clear ow bn hl
          go_wp2_with fail
          refine hK.out _ _ ?_ (fun hH2 => ?_)
          · exact HC.out _ _ N
          clear hHeld hK K; have hHeld := hH2; clear hH2; try go_frame
          refine hyY (some 2) 17 rfl hHeld ?_; go_frame
          refine hyY (some 3) 18 rfl hHeld ?_; go_frame
          refine wpAnyH_done (by kernel_rfl) ?_ _
          have hKK := HKK.out
          clear hHeld HC HFIN N HCA HCB HTA2 HTB2 HALL
          go_wp2_with fail
          exact hfin
        · go_simp
          go_at_call 20
          refine (HTA2.out _ _ _ (N.get (by repeat (first | exact List.Mem.head _ | apply List.Mem.tail)))).mono ?_
          rintro e wq ⟨v10, rfl, ow, bn⟩
          obtain ⟨A10, c10, rfl, _⟩ := (own_BS ow).form
          replace N := N.step bn (own_BS ow)
          clear ow bn
          go_wp2_with fail
          refine hK.out _ _ ?_ (fun hH2 => ?_)
          · exact HC.out _ _ N
          clear hHeld hK K; have hHeld := hH2; clear hH2; try go_frame
          refine held_two (o := ⟨some 13, _, _, _, _, _⟩) (p := ⟨some 24, _, _, _, _, _⟩) 3 14 (by kernel_rfl) rfl rfl (by rfl) (by rfl) (fun K hK => ?_) (fun K hK => ?_)
          · go_simp
            rw [ewrap8, byte_mod]
            replace N := N.lit kn
            obtain ⟨A3, hA3⟩ : ∃ A, A = some (⟨wq.heap.size, 0, none⟩ : Addr) := ⟨_, rfl⟩
            rw [← hA3] at N ⊢
            clear hA3
            generalize wq.alloc (.cells #[bv (UInt8.ofNat (kn % 256))] 5) = wq at N ⊢
            refine hK.out _ _ ?_ (fun hH2 => ?_)
            · exact HC.out _ _ N
            clear hHeld hK K; have hHeld := hH2; clear hH2; try go_frame
            refine hyO (some 24) 14 rfl (fun K hK => ?_)
            go_simp
            go_at_call 20
            refine (HTB2.out _ _ _ (N.get (by repeat (first | exact List.Mem.head _ | apply List.Mem.tail)))).mono ?_
            rintro e wq ⟨v14, rfl, ow, bn⟩
            obtain ⟨A14, c14, rfl, _⟩ := (own_BS ow).form
            replace N := N.step bn (own_BS ow)
            clear ow bn
            go_wp2_with fail
            refine hK.out _ _ ?_ (fun hH2 => ?_)
            · exact HC.out _ _ N
            clear hHeld hK K; have hHeld := hH2; clear hH2; try go_frame
            refine hyO (some 25) 15 rfl (fun K hK => ?_)
            go_simp
            have hl := LS.four (t := 25) (N.get (v := .slice A3 1 1) (l := [UInt8.ofNat (kn % 256)]) (by repeat (first | exact List.Mem.head _ | apply List.Mem.tail))) (N.get (v := .slice A6 (numb (u64 t)).length c6) (l := numb (u64 t)) (by repeat (first | exact List.Mem.head _ | apply List.Mem.tail))) (N.get (v := .slice A10 (texb la).length c10) (l := texb la) (by repeat (first | exact List.Mem.head _ | apply List.Mem.tail))) (N.get (v := .slice A14 (texb lb).length c14) (l := texb lb) (by repeat (first | exact List.Mem.head _ | apply List.Mem.tail)))
            have bn := (Below.refl wq.heap.size wq).alloc (Nat.le_refl _) (.cells #[.slice A3 1 1, .slice A6 (numb (u64 t)).length c6, .slice A10 (texb la).length c10, .slice A14 (texb lb).length c14] 25)
            replace N := N.past bn
            clear bn
            refine hK.out _ _ ?_ (fun hH2 => ?_)
            · exact HC.out _ _ N
            clear hHeld hK K; have hHeld := hH2; clear hH2; try go_frame
            refine hyO (some 26) 16 rfl (fun K hK => ?_)
            go_simp
            go_at_call 18
            refine (HALL.out _ _ _ hl).mono ?_
            rintro e wq ⟨v16, rfl, ow, bn⟩
            have hfin := HFIN.out wq v16 ((own_BS ow).mono fun b h => ⟨Nat.le_trans (Nat.le_of_lt N.kb.lt) h.1, h.2⟩) (N.past bn).bl
            replace N := N.past bn
            clear ow bn hl
            go_wp2_with fail
            refine hK.out _ _ ?_ (fun hH2 => ?_)
            · exact HC.out _ _ N
            clear hHeld hK K; have hHeld := hH2; clear hH2; try go_frame
            refine hyY (some 2) 17 rfl hHeld ?_; go_frame
            refine hyY (some 3) 18 rfl hHeld ?_; go_frame
            refine wpAnyH_done (by kernel_rfl) ?_ _
            have hKK := HKK.out
            clear hHeld HC HFIN N HCA HCB HTA2 HTB2 HALL
            go_wp2_with fail
            exact hfin
          · go_simp
            go_at_call 20
            refine (HTB2.out _ _ _ (N.get (by repeat (first | exact List.Mem.head _ | apply List.Mem.tail)))).mono ?_
            rintro e wq ⟨v14, rfl, ow, bn⟩
            obtain ⟨A14, c14, rfl, _⟩ := (own_BS ow).form
            replace N := N.step bn (own_BS ow)
            clear ow bn
            go_wp2_with fail
            refine hK.out _ _ ?_ (fun hH2 => ?_)
            · exact HC.out _ _ N
            clear hHeld hK K; have hHeld := hH2; clear hH2; try go_frame
            refine hyO (some 13) 3 rfl (fun K hK => ?_)
            go_simp
            rw [ewrap8, byte_mod]
            replace N := N.lit kn
            obtain ⟨A3, hA3⟩ : ∃ A, A = some (⟨wq.heap.size, 0, none⟩ : Addr) := ⟨_, rfl⟩
            rw [← hA3] at N ⊢
            clear hA3
            generalize wq.alloc (.cells #[bv (UInt8.ofNat (kn % 256))] 5) = wq at N ⊢
            refine hK.out _ _ ?_ (fun hH2 => ?_)
            · exact HC.out _ _ N
            clear hHeld hK K; have hHeld := hH2; clear hH2; try go_frame
            refine hyO (some 25) 15 rfl (fun K hK => ?_)
            go_simp
            have hl := LS.four (t := 25) (N.get (v := .slice A3 1 1) (l := [UInt8.ofNat (kn % 256)]) (by repeat (first | exact List.Mem.head _ | apply List.Mem.tail))) (N.get (v := .slice A6 (numb (u64 t)).length c6) (l := numb (u64 t)) (by repeat (first | exact List.Mem.head _ | apply List.Mem.tail))) (N.get (v := .slice A10 (texb la).length c10) (l := texb la) (by repeat (first | exact List.Mem.head _ | apply List.Mem.tail))) (N.get (v := .slice A14 (texb lb).length c14) (l := texb lb) (by repeat (first | exact List.Mem.head _ | apply List.Mem.tail)))
            have bn := (Below.refl wq.heap.size wq).alloc (Nat.le_refl _) (.cells #[.slice A3 1 1, .slice A6 (numb (u64 t)).length c6, .slice A10 (texb la).length c10, .slice A14 (texb lb).length c14] 25)
            replace N := N.past bn
            clear bn
            refine hK.out _ _ ?_ (fun hH2 => ?_)
            · exact HC.out _ _ N
            clear hHeld hK K; have hHeld := hH2; clear hH2; try go_frame
            refine hyO (some 26) 16 rfl (fun K hK => ?_)
            go_simp
            go_at_call 18
            refine (HALL.out _ _ _ hl).mono ?_
            rintro e wq ⟨v16, rfl, ow, bn⟩
            have hfin := HFIN.out wq v16 ((own_BS ow).mono fun b h => ⟨Nat.le_trans (Nat.le_of_lt N.kb.lt) h.1, h.2⟩) (N.past bn).bl
            replace N := N.past bn
            clear ow bn hl
            go_wp2_with fail
            refine hK.out _ _ ?_ (fun hH2 => ?_)
            · exact HC.out _ _ N
            clear hHeld hK K; have hHeld := hH2; clear hH2; try go_frame
            refine hyY (some 2) 17 rfl hHeld ?_; go_frame
            refine hyY (some 3) 18 rfl hHeld ?_; go_frame
            refine wpAnyH_done (by kernel_rfl) ?_ _
            have hKK := HKK.out
            clear hHeld HC HFIN N HCA HCB HTA2 HTB2 HALL
            go_wp2_with fail
            exact hfin
  · obtain ⟨c13, wq, hcv, x13, bn⟩ := HCB.out wq
    go_simp
    replace N := N.step bn x13
    clear hcv x13 bn
    refine hK.out _ _ ?_ (fun hH2 => ?_)
    · exact HC.out _ _ N
    clear hHeld hK K; have hHeld := hH2; clear hH2; try go_frame
    refine held_three (o := ⟨some 13, _, _, _, _, _⟩) (p := ⟨some 16, _, _, _, _, _⟩) (q := ⟨some 19, _, _, _, _, _⟩) 3 6 9 (by kernel_rfl) rfl rfl rfl (by rfl) (by rfl) (by rfl) (fun K hK => ?_) (fun K hK => ?_) (fun K hK => ?_)
    · go_simp
      rw [ewrap8, byte_mod]
      replace N := N.lit kn
      obtain ⟨A3, hA3⟩ : ∃ A, A = some (⟨wq.heap.size, 0, none⟩ : Addr) := ⟨_, rfl⟩
      rw [← hA3] at N ⊢
      clear hA3
      generalize wq.alloc (.cells #[bv (UInt8.ofNat (kn % 256))] 5) = wq at N ⊢
      refine hK.out _ _ ?_ (fun hH2 => ?_)
      · exact HC.out _ _ N
      clear hHeld hK K; have hHeld := hH2; clear hH2; try go_frame
      refine held_two (o := ⟨some 16, _, _, _, _, _⟩) (p := ⟨some 19, _, _, _, _, _⟩) 6 9 (by kernel_rfl) rfl rfl (by rfl) (by rfl) (fun K hK => ?_) (fun K hK => ?_)
      · go_simp
        go_at_call 19
        refine (HNI.out _).mono ?_
        rintro e wq ⟨v6, rfl, ow, bn⟩
        obtain ⟨A6, c6, rfl, _⟩ := (own_BS ow).form
        replace N := N.step bn (own_BS ow)
        clear ow bn
        go_wp2_with fail
        refine hK.out _ _ ?_ (fun hH2 => ?_)
        · exact HC.out _ _ N
        clear hHeld hK K; have hHeld := hH2; clear hH2; try go_frame
        refine hyO (some 19) 9 rfl (fun K hK => ?_)
        obtain ⟨c9, wq, hcv, x9, bn⟩ := HCA.out wq
        go_simp
        replace N := N.step bn x9
        clear hcv x9 bn
        refine hK.out _ _ ?_ (fun hH2 => ?_)
        · exact HC.out _ _ N
        clear hHeld hK K; have hHeld := hH2; clear hH2; try go_frame
        refine hyO (some 20) 10 rfl (fun K hK => ?_)
        go_simp
        go_at_call 20
        refine (HTA2.out _ _ _ (N.get (by repeat (first | exact List.Mem.head _ | apply List.Mem.tail)))).mono ?_
        rintro e wq ⟨v10, rfl, ow, bn⟩
        obtain ⟨A10, c10, rfl, _⟩ := (own_BS ow).form
        replace N := N.step bn (own_BS ow)
        clear ow bn
        go_wp2_with fail
        refine hK.out _ _ ?_ (fun hH2 => ?_)
        · exact HC.out _ _ N
        clear hHeld hK K; have hHeld := hH2; clear hH2; try go_frame
        refine hyO (some 24) 14 rfl (fun K hK => ?_)
        go_simp
        go_at_call 20
        refine (HTB2.out _ _ _ (N.get (by repeat (first | exact List.Mem.head _ | apply List.Mem.tail)))).mono ?_
        rintro e wq ⟨v14, rfl, ow, bn⟩
        obtain ⟨A14, c14, rfl, _⟩ := (own_BS ow).form
        replace N := N.step bn (own_BS ow)
        clear ow bn
        go_wp2_with fail
        refine hK.out _ _ ?_ (fun hH2 => ?_)
        · exact HC.out _ _ N
        clear hHeld hK K; have hHeld := hH2; clear hH2; try go_frame
        refine hyO (some 25) 15 rfl (fun K hK => ?_)
        go_simp
        have hl := LS.four (t := 25) (N.get (v := .slice A3 1 1) (l := [UInt8.ofNat (kn % 256)]) (by repeat (first | exact List.Mem.head _ | apply List.Mem.tail))) (N.get (v := .slice A6 (numb (u64 t)).length c6) (l := numb (u64 t)) (by repeat (first | exact List.Mem.head _ | apply List.Mem.tail))) (N.get (v := .slice A10 (texb la).length c10) (l := texb la) (by repeat (first | exact List.Mem.head _ | apply List.Mem.tail))) (N.get (v := .slice A14 (texb lb).length c14) (l := texb lb) (by repeat (first | exact List.Mem.head _ | apply List.Mem.tail)))
        have bn := (Below.refl wq.heap.size wq).alloc (Nat.le_refl _) (.cells #[.slice A3 1 1, .slice A6 (numb (u64 t)).length c6, .slice A10 (texb la).length c10, .slice A14 (texb lb).length c14] 25)
        replace N := N.past bn
        clear bn
        refine hK.out _ _ ?_ (fun hH2 => ?_)
        · exact HC.out _ _ N
        clear hHeld hK K; have hHeld := hH2; clear hH2; try go_frame
        refine hyO (some 26) 16 rfl (fun K hK => ?_)
        go_simp
        go_at_call 18
        refine (HALL.out _ _ _ hl).mono ?_
        rintro e wq ⟨v16, rfl, ow, bn⟩
        have hfin := HFIN.out wq v16 ((own_BS ow).mono fun b h => ⟨Nat.le_trans (Nat.le_of_lt N.kb.lt) h.1, h.2⟩) (N.past bn).bl
        replace N := N.past bn
        clear ow bn hl
        go_wp2_with fail
        refine hK.out _ _ ?_ (fun hH2 => ?_)
        · exact HC.out _ _ N
        clear hHeld hK K; have hHeld := hH2; clear hH2; try go_frame
        refine hyY (some 2) 17 rfl hHeld ?_; go_frame
        refine hyY (some 3) 18 rfl hHeld ?_; go_frame
        refine wpAnyH_done (by kernel_rfl) ?_ _
        have hKK := HKK.out
        clear hHeld HC HFIN N HCA HCB HTA2 HTB2 HALL
        go_wp2_with fail
        exact hfin
      · obtain ⟨c9, wq, hcv, x9, bn⟩ := HCA.out wq
        go_simp
        replace N := N.step bn x9
        clear hcv x9 bn
        refine hK.out _ _ ?_ (fun hH2 => ?_)
        · exact HC.out _ _ N
        clear hHeld hK K; have hHeld := hH2; clear hH2; try go_frame
        refine hyO (some 16) 6 rfl (fun K hK => ?_)
        go_simp
        go_at_call 19
        refine (HNI.out _).mono ?_
        rintro e wq ⟨v6, rfl, ow, bn⟩
        obtain ⟨A6, c6, rfl, _⟩ := (own_BS ow).form
        replace N := N.step bn (own_BS ow)
        clear ow bn
        go_wp2_with fail
        refine hK.out _ _ ?_ (fun hH2 => ?_)
        · exact HC.out _ _ N
        clear hHeld hK K; have hHeld := hH2; clear hH2; try go_frame
        refine hyO (some 20) 10 rfl (fun K hK => ?_)
        go_simp
        go_at_call 20
        refine (HTA2.out _ _ _ (N.get (by repeat (first | exact List.Mem.head _ | apply List.Mem.tail)))).mono ?_
        rintro e wq ⟨v10, rfl, ow, bn⟩
        obtain ⟨A10, c10, rfl, _⟩ := (own_BS ow).form
        replace N := N.step bn (own_BS ow)
        clear ow bn
        go_wp2_with fail
        refine hK.out _ _ ?_ (fun hH2 => ?_)
        · exact HC.out _ _ N
        clear hHeld hK K; have hHeld := hH2; clear hH2; try go_frame
        refine hyO (some 24) 14 rfl (fun K hK => ?_)
        go_simp
        go_at_call 20
        refine (HTB2.out _ _ _ (N.get (by repeat (first | exact List.Mem.head _ | apply List.Mem.tail)))).mono ?_
        rintro e wq ⟨v14, rfl, ow, bn⟩
        obtain ⟨A14, c14, rfl, _⟩ := (own_BS ow).form
        replace N := N.step bn (own_BS ow)
        clear ow bn
        go_wp2_with fail
        refine hK.out _ _ ?_ (fun hH2 => ?_)
        · exact HC.out _ _ N
        clear hHeld hK K; have hHeld := hH2; clear hH2; try go_frame
        refine hyO (some 25) 15 rfl (fun K hK => ?_)
        go_simp
        have hl := LS.four (t := 25) (N.get (v := .slice A3 1 1) (l := [UInt8.ofNat (kn % 256)]) (by repeat (first | exact List.Mem.head _ | apply List.Mem.tail))) (N.get (v := .slice A6 (numb (u64 t)).length c6) (l := numb (u64 t)) (by repeat (first | exact List.Mem.head _ | apply List.Mem.tail))) (N.get (v := .slice A10 (texb la).length c10) (l := texb la) (by repeat (first | exact List.Mem.head _ | apply List.Mem.tail))) (N.get (v := .slice A14 (texb lb).length c14) (l := texb lb) (by repeat (first | exact List.Mem.head _ | apply List.Mem.tail)))
        have bn := (Below.refl wq.heap.size wq).alloc (Nat.le_refl _) (.cells #[.slice A3 1 1, .slice A6 (numb (u64 t)).length c6, .slice A10 (texb la).length c10, .slice A14 (texb lb).length c14] 25)
        replace N := N.past bn
        clear bn
        refine hK.out _ _ ?_ (fun hH2 => ?_)
        · exact HC.out _ _ N
        clear hHeld hK K; have hHeld := hH2; clear hH2; try go_frame
        refine hyO (some 26) 16 rfl (fun K hK => ?_)
        go_simp
        go_at_call 18
        refine (HALL.out _ _ _ hl).mono ?_
        rintro e wq ⟨v16, rfl, ow, bn⟩
        have hfin := HFIN.out wq v16 ((own_BS ow).mono fun b h => ⟨Nat.le_trans (Nat.le_of_lt N.kb.lt) h.1, h.2⟩) (N.past bn).bl
        replace N := N.past bn
        clear ow bn hl
        go_wp2_with fail
        refine hK.out _ _ ?_ (fun hH2 => ?_)
        · exact HC.out _ _ N
        clear hHeld hK K; have hHeld := hH2; clear hH2; try go_frame
        refine hyY (some 2) 17 rfl hHeld ?_; go_frame
        refine hyY (some 3) 18 rfl hHeld ?_; go_frame
        refine wpAnyH_done (by kernel_rfl) ?_ _
        have hKK := HKK.out
        clear hHeld HC HFIN N HCA HCB HTA2 HTB2 HALL
        go_wp2_with fail
        exact hfin
    · go_simp
      go_at_call 19
      refine (HNI.out _).mono ?_
      rintro e wq ⟨v6, rfl, ow, bn⟩
      obtain ⟨A6, c6, rfl, _⟩ := (own_BS ow).form
      replace N := N.step bn (own_BS ow)
      clear ow bn
      go_wp2_with fail
      refine hK.out _ _ ?_ (fun hH2 => ?_)
      · exact HC.out _ _ N
      clear hHeld hK K; have hHeld := hH2; clear hH2; try go_frame
      refine held_two (o := ⟨some 13, _, _, _, _, _⟩) (p := ⟨some 19, _, _, _, _, _⟩) 3 9 (by kernel_rfl) rfl rfl (by rfl) (by rfl) (fun K hK => ?_) (fun K hK => ?_)
      · go_simp
        rw [ewrap8, byte_mod]
        replace N := N.lit kn
        obtain ⟨A3, hA3⟩ : ∃ A, A = some (⟨wq.heap.size, 0, none⟩ : Addr) := ⟨_, rfl⟩
        rw [← hA3] at N ⊢
        clear hA3
        generalize wq.alloc (.cells #[bv (UInt8.ofNat (kn % 256))] 5) = wq at N ⊢
        refine hK.out _ _ ?_ (fun hH2 => ?_)
        · exact HC.out _ _ N
        clear hHeld hK K; have hHeld := hH2; clear hH2; try go_frame
        refine hyO (some 19) 9 rfl (fun K hK => ?_)
        obtain ⟨c9, wq, hcv, x9, bn⟩ := HCA.out wq
        go_simp
        replace N := N.step bn x9
        clear hcv x9 bn
        refine hK.out _ _ ?_ (fun hH2 => ?_)
        · exact HC.out _ _ N
        clear hHeld hK K; have hHeld := hH2; clear hH2; try go_frame
        refine hyO (some 20) 10 rfl (fun K hK => ?_)
        go_simp
        go_at_call 20
        refine (HTA2.out _ _ _ (N.get (by repeat (first | exact List.Mem.head _ | apply List.Mem.tail)))).mono ?_
        rintro e wq ⟨v10, rfl, ow, bn⟩
        obtain ⟨A10, c10, rfl, _⟩ := (own_BS ow).form
        replace N := N.step bn (own_BS ow)
        clear ow bn
        go_wp2_with fail
        refine hK.out _ _ ?_ (fun hH2 => ?_)
        · exact HC.out _ _ N
        clear hHeld hK K; have hHeld := hH2; clear hH2; try go_frame
        refine hyO (some 24) 14 rfl (fun K hK => ?_)
        go_simp
        go_at_call 20
        refine (HTB2.out _ _ _ (N.get (by repeat (first | exact List.Mem.head _ | apply List.Mem.tail)))).mono ?_
        rintro e wq ⟨v14, rfl, ow, bn⟩
        obtain ⟨A14, c14, rfl, _⟩ := (own_BS ow).form
        replace N := N.step bn (own_BS ow)
        clear ow bn
        go_wp2_with fail
        refine hK.out _ _ ?_ (fun hH2 => ?_)
        · exact HC.out _ _ N
        clear hHeld hK K; have hHeld := hH2; clear hH2; try go_frame
        refine hyO (some 25) 15 rfl (fun K hK => ?_)
        go_simp
        have hl := LS.four (t := 25) (N.get (v := .slice A3 1 1) (l := [UInt8.ofNat (kn % 256)]) (by repeat (first | exact List.Mem.head _ | apply List.Mem.tail))) (N.get (v := .slice A6 (numb (u64 t)).length c6) (l := numb (u64 t)) (by repeat (first | exact List.Mem.head _ | apply List.Mem.tail))) (N.get (v := .slice A10 (texb la).length c10) (l := texb la) (by repeat (first | exact List.Mem.head _ | apply List.Mem.tail))) (N.get (v := .slice A14 (texb lb).length c14) (l := texb lb) (by repeat (first | exact List.Mem.head _ | apply List.Mem.tail)))
        have bn := (Below.refl wq.heap.size wq).alloc (Nat.le_refl _) (.cells #[.slice A3 1 1, .slice A6 (numb (u64 t)).length c6, .slice A10 (texb la).length c10, .slice A14 (texb lb).length c14] 25)
        replace N := N.past bn
        clear bn
        refine hK.out _ _ ?_ (fun hH2 => ?_)
        · exact HC.out _ _ N
        clear hHeld hK K; have hHeld := hH2; clear hH2; try go_frame
        refine hyO (some 26) 16 rfl (fun K hK => ?_)
        go_simp
        go_at_call 18
        refine (HALL.out _ _ _ hl).mono ?_
        rintro e wq ⟨v16, rfl, ow, bn⟩
        have hfin := HFIN.out wq v16 ((own_BS ow).mono fun b h => ⟨Nat.le_trans (Nat.le_of_lt N.kb.lt) h.1, h.2⟩) (N.past bn).bl
        replace N := N.past bn
        clear ow bn hl
        go_wp2_with fail
        refine hK.out _ _ ?_ (fun hH2 => ?_)
        · exact HC.out _ _ N
        clear hHeld hK K; have hHeld := hH2; clear hH2; try go_frame
        refine hyY (some 2) 17 rfl hHeld ?_; go_frame
        refine hyY (some 3) 18 rfl hHeld ?_; go_frame
        refine wpAnyH_done (by kernel_rfl) ?_ _
        have hKK := HKK.out
        clear hHeld HC HFIN N HCA HCB HTA2 HTB2 HALL
        go_wp2_with fail
        exact hfin
      · obtain ⟨c9, wq, hcv, x9, bn⟩ := HCA.out wq
        go_simp
        replace N := N.step bn x9
        clear hcv x9 bn
        refine hK.out _ _ ?_ (fun hH2 => ?_)
        · exact HC.out _ _ N
        clear hHeld hK K; have hHeld := hH2; clear hH2; try go_frame
        refine held_two (o := ⟨some 13, _, _, _, _, _⟩) (p := ⟨some 20, _, _, _, _, _⟩) 3 10 (by kernel_rfl) rfl rfl (by rfl) (by rfl) (fun K hK => ?_) (fun K hK => ?_)
        · go_simp
          rw [ewrap8, byte_mod]
          replace N := N.lit kn
          obtain ⟨A3, hA3⟩ : ∃ A, A = some (⟨wq.heap.size, 0, none⟩ : Addr) := ⟨_, rfl⟩
          rw [← hA3] at N ⊢
          clear hA3
          generalize wq.alloc (.cells #[bv (UInt8.ofNat (kn % 256))] 5) = wq at N ⊢
          refine hK.out _ _ ?_ (fun hH2 => ?_)
          · exact HC.out _ _ N
          clear hHeld hK K; have hHeld := hH2; clear hH2; try go_frame
          refine hyO (some 20) 10 rfl (fun K hK => ?_)
          go_simp
          go_at_call 20
          refine (HTA2.out _ _ _ (N.get (by repeat (first | exact List.Mem.head _ | apply List.Mem.tail)))).mono ?_
          rintro e wq ⟨v10, rfl, ow, bn⟩
          obtain ⟨A10, c10, rfl, _⟩ := (own_BS ow).form
          replace N := N.step bn (own_BS ow)
          clear ow bn
          go_wp2_with fail
          refine hK.out _ _ ?_ (fun hH2 => ?_)
          · exact HC.out _ _ N
          clear hHeld hK K; have hHeld := hH2; clear hH2; try go_frame
          refine hyO (some 24) 14 rfl (fun K hK => ?_)
          go_simp
          go_at_call 20
          refine (HTB2.out _ _ _ (N.get (by repeat (first | exact List.Mem.head _ | apply List.Mem.tail)))).mono ?_
          rintro e wq ⟨v14, rfl, ow, bn⟩
          obtain ⟨A14, c14, rfl, _⟩ := (own_BS ow).form
          replace N := N.step bn (own_BS ow)
          clear ow bn
          go_wp2_with fail
          refine hK.out _ _ ?_ (fun hH2 => ?_)
          · exact HC.out _ _ N
          clear hHeld hK K; have hHeld := hH2; clear hH2; try go_frame
          refine hyO (some 25) 15 rfl (fun K hK => ?_)
          go_simp
          have hl := LS.four (t := 25) (N.get (v := .slice A3 1 1) (l := [UInt8.ofNat (kn % 256)]) (by repeat (first | exact List.Mem.head _ | apply List.Mem.tail))) (N.get (v := .slice A6 (numb (u64 t)).length c6) (l := numb (u64 t)) (by repeat (first | exact List.Mem.head _ | apply List.Mem.tail))) (N.get (v := .slice A10 (texb la).length c10) (l := texb la) (by repeat (first | exact List.Mem.head _ | apply List.Mem.tail))) (N.get (v := .slice A14 (texb lb).length c14) (l := texb lb) (by repeat (first | exact List.Mem.head _ | apply List.Mem.tail)))
          have bn := (Below.refl wq.heap.size wq).alloc (Nat.le_refl _) (.cells #[.slice A3 1 1, .slice A6 (numb (u64 t)).length c6, .slice A10 (texb la).length c10, .slice A14 (texb lb).length c14] 25)
          replace N := N.past bn
          clear bn
          refine hK.out _ _ ?_ (fun hH2 => ?_)
          · exact HC.out _ _ N
          clear hHeld hK K; have hHeld := hH2; clear hH2; try go_frame
          refine hyO (some 26) 16 rfl (fun K hK => ?_)
          go_simp
          go_at_call 18
          refine (HALL.out _ _ _ hl).mono ?_
          rintro e wq ⟨v16, rfl, ow, bn⟩
          have hfin := HFIN.out wq v16 ((own_BS ow).mono fun b h => ⟨Nat.le_trans (Nat.le_of_lt N.kb.lt) h.1, h.2⟩) (N.past bn).bl
          replace N := N.past bn
          clear ow bn hl
          go_wp2_with fail
          refine hK.out _ _ ?_ (fun hH2 => ?_)
          · exact HC.out _ _ N
          clear hHeld hK K; have hHeld := hH2; clear hH2; try go_frame
          refine hyY (some 2) 17 rfl hHeld ?_; go_frame
          refine hyY (some 3) 18 rfl hHeld ?_; go_frame
          refine wpAnyH_done (by kernel_rfl) ?_ _
          have hKK := HKK.out
          clear hHeld HC HFIN N HCA HCB HTA2 HTB2 HALL
          go_wp2_with fail
          exact hfin
        · go_simp
          go_at_call 20
          refine (HTA2.out _ _ _ (N.get (by repeat (first | exact List.Mem.head _ | apply List.Mem.tail)))).mono ?_
          rintro e wq ⟨v10, rfl, ow, bn⟩
          obtain ⟨A10, c10, rfl, _⟩ := (own_BS ow).form
          replace N := N.step bn (own_BS ow)
          clear ow bn
          go_wp2_with fail
          refine hK.out _ _ ?_ (fun hH2 => ?_)
          · exact HC.out _ _ N
          clear hHeld hK K; have hHeld := hH2; clear hH2; try go_frame
          refine held_two (o := ⟨some 13, _, _, _, _, _⟩) (p := ⟨some 24, _, _, _, _, _⟩) 3 14 (by kernel_rfl) rfl rfl (by rfl) (by rfl) (fun K hK => ?_) (fun K hK => ?_)
          · go_simp
            rw [ewrap8, byte_mod]
            replace N := N.lit kn
            obtain ⟨A3, hA3⟩ : ∃ A, A = some (⟨wq.heap.size, 0, none⟩ : Addr) := ⟨_, rfl⟩
            rw [← hA3] at N ⊢
            clear hA3
            generalize wq.alloc (.cells #[bv (UInt8.ofNat (kn % 256))] 5) = wq at N ⊢
            refine hK.out _ _ ?_ (fun hH2 => ?_)
            · exact HC.out _ _ N
            clear hHeld hK K; have hHeld := hH2; clear hH2; try go_frame
            refine hyO (some 24) 14 rfl (fun K hK => ?_)
            go_simp
            go_at_call 20
            refine (HTB2.out _ _ _ (N.get (by repeat (first | exact List.Mem.head _ | apply List.Mem.tail)))).mono ?_
            rintro e wq ⟨v14, rfl, ow, bn⟩
            obtain ⟨A14, c14, rfl, _⟩ := (own_BS ow).form
            replace N := N.step bn (own_BS ow)
            clear ow bn
            go_wp2_with fail
            refine hK.out _ _ ?_ (fun hH2 => ?_)
            · exact HC.out _ _ N
            clear hHeld hK K; have hHeld := hH2; clear hH2; try go_frame
            refine hyO (some 25) 15 rfl (fun K hK => ?_)
            go_simp
            have hl := LS.four (t := 25) (N.get (v := .slice A3 1 1) (l := [UInt8.ofNat (kn % 256)]) (by repeat (first | exact List.Mem.head _ | apply List.Mem.tail))) (N.get (v := .slice A6 (numb (u64 t)).length c6) (l := numb (u64 t)) (by repeat (first | exact List.Mem.head _ | apply List.Mem.tail))) (N.get (v := .slice A10 (texb la).length c10) (l := texb la) (by repeat (first | exact List.Mem.head _ | apply List.Mem.tail))) (N.get (v := .slice A14 (texb lb).length c14) (l := texb lb) (by repeat (first | exact List.Mem.head _ | apply List.Mem.tail)))
            have bn := (Below.refl wq.heap.size wq).alloc (Nat.le_refl _) (.cells #[.slice A3 1 1, .slice A6 (numb (u64 t)).length c6, .slice A10 (texb la).length c10, .slice A14 (texb lb).length c14] 25)
            replace N := N.past bn
            clear bn
            refine hK.out _ _ ?_ (fun hH2 => ?_)
            · exact HC.out _ _ N
            clear hHeld hK K; have hHeld := hH2; clear hH2; try go_frame
            refine hyO (some 26) 16 rfl (fun K hK => ?_)
            go_simp
            go_at_call 18
            refine (HALL.out _ _ _ hl).mono ?_
            rintro e wq ⟨v16, rfl, ow, bn⟩
            have hfin := HFIN.out wq v16 ((own_BS ow).mono fun b h => ⟨Nat.le_trans (Nat.le_of_lt N.kb.lt) h.1, h.2⟩) (N.past bn).bl
            replace N := N.past bn
            clear ow bn hl
            go_wp2_with fail
            refine hK.out _ _ ?_ (fun hH2 => ?_)
            · exact HC.out _ _ N
            clear hHeld hK K; have hHeld := hH2; clear hH2; try go_frame
            refine hyY (some 2) 17 rfl hHeld ?_; go_frame
            refine hyY (some 3) 18 rfl hHeld ?_; go_frame
            refine wpAnyH_done (by kernel_rfl) ?_ _
            have hKK := HKK.out
            clear hHeld HC HFIN N HCA HCB HTA2 HTB2 HALL
            go_wp2_with fail
            exact hfin
          · go_simp
            go_at_call 20
            refine (HTB2.out _ _ _ (N.get (by repeat (first | exact List.Mem.head _ | apply List.Mem.tail)))).mono ?_
            rintro e wq ⟨v14, rfl, ow, bn⟩
            obtain ⟨A14, c14, rfl, _⟩ := (own_BS ow).form
            replace N := N.step bn (own_BS ow)
            clear ow bn
            go_wp2_with fail
            refine hK.out _ _ ?_ (fun hH2 => ?_)
            · exact HC.out _ _ N
            clear hHeld hK K; have hHeld := hH2; clear hH2; try go_frame
            refine hyO (some 13) 3 rfl (fun K hK => ?_)
            go_simp
            rw [ewrap8, byte_mod]
            replace N := N.lit kn
            obtain ⟨A3, hA3⟩ : ∃ A, A = some (⟨wq.heap.size, 0, none⟩ : Addr) := ⟨_, rfl⟩
            rw [← hA3] at N ⊢
            clear hA3
            generalize wq.alloc (.cells #[bv (UInt8.ofNat (kn % 256))] 5) = wq at N ⊢
            refine hK.out _ _ ?_ (fun hH2 => ?_)
            · exact HC.out _ _ N
            clear hHeld hK K; have hHeld := hH2; clear hH2; try go_frame
            refine hyO (some 25) 15 rfl (fun K hK => ?_)
            go_simp
            have hl := LS.four (t := 25) (N.get (v := .slice A3 1 1) (l := [UInt8.ofNat (kn % 256)]) (by repeat (first | exact List.Mem.head _ | apply List.Mem.tail))) (N.get (v := .slice A6 (numb (u64 t)).length c6) (l := numb (u64 t)) (by repeat (first | exact List.Mem.head _ | apply List.Mem.tail))) (N.get (v := .slice A10 (texb la).length c10) (l := texb la) (by repeat (first | exact List.Mem.head _ | apply List.Mem.tail))) (N.get (v := .slice A14 (texb lb).length c14) (l := texb lb) (by repeat (first | exact List.Mem.head _ | apply List.Mem.tail)))
            have bn := (Below.refl wq.heap.size wq).alloc (Nat.le_refl _) (.cells #[.slice A3 1 1, .slice A6 (numb (u64 t)).length c6, .slice A10 (texb la).length c10, .slice A14 (texb lb).length c14] 25)
            replace N := N.past bn
            clear bn
            refine hK.out _ _ ?_ (fun hH2 => ?_)
            · exact HC.out _ _ N
            clear hHeld hK K; have hHeld := hH2; clear hH2; try go_frame
            refine hyO (some 26) 16 rfl (fun K hK => ?_)
            go_simp
            go_at_call 18
            refine (HALL.out _ _ _ hl).mono ?_
            rintro e wq ⟨v16, rfl, ow, bn⟩
            have hfin := HFIN.out wq v16 ((own_BS ow).mono fun b h => ⟨Nat.le_trans (Nat.le_of_lt N.kb.lt) h.1, h.2⟩) (N.past bn).bl
            replace N := N.past bn
            clear ow bn hl
            go_wp2_with fail
            refine hK.out _ _ ?_ (fun hH2 => ?_)
            · exact HC.out _ _ N
            clear hHeld hK K; have hHeld := hH2; clear hH2; try go_frame
            refine hyY (some 2) 17 rfl hHeld ?_; go_frame
            refine hyY (some 3) 18 rfl hHeld ?_; go_frame
            refine wpAnyH_done (by kernel_rfl) ?_ _
            have hKK := HKK.out
            clear hHeld HC HFIN N HCA HCB HTA2 HTB2 HALL
            go_wp2_with fail
            exact hfin
    · obtain ⟨c9, wq, hcv, x9, bn⟩ := HCA.out wq
      go_simp
      replace N := N.step bn x9
      clear hcv x9 bn
      refine hK.out _ _ ?_ (fun hH2 => ?_)
      · exact HC.out _ _ N
      clear hHeld hK K; have hHeld := hH2; clear hH2; try go_frame
      refine held_two (o := ⟨some 13, _, _, _, _, _⟩) (p := ⟨some 16, _, _, _, _, _⟩) 3 6 (by kernel_rfl) rfl rfl (by rfl) (by rfl) (fun K hK => ?_) (fun K hK => ?_)
      · go_simp
        rw [ewrap8, byte_mod]
        replace N := N.lit kn
        obtain ⟨A3, hA3⟩ : ∃ A, A = some (⟨wq.heap.size, 0, none⟩ : Addr) := ⟨_, rfl⟩
        rw [← hA3] at N ⊢
        clear hA3
        generalize wq.alloc (.cells #[bv (UInt8.ofNat (kn % 256))] 5) = wq at N ⊢
        refine hK.out _ _ ?_ (fun hH2 => ?_)
        · exact HC.out _ _ N
        clear hHeld hK K; have hHeld := hH2; clear hH2; try go_frame
        refine hyO (some 16) 6 rfl (fun K hK => ?_)
        go_simp
        go_at_call 19
        refine (HNI.out _).mono ?_
        rintro e wq ⟨v6, rfl, ow, bn⟩
        obtain ⟨A6, c6, rfl, _⟩ := (own_BS ow).form
        replace N := N.step bn (own_BS ow)
        clear ow bn
        go_wp2_with fail
        refine hK.out _ _ ?_ (fun hH2 => ?_)
        · exact HC.out _ _ N
        clear hHeld hK K; have hHeld := hH2; clear hH2; try go_frame
        refine hyO (some 20) 10 rfl (fun K hK => ?_)
        go_simp
        go_at_call 20
        refine (HTA2.out _ _ _ (N.get (by repeat (first | exact List.Mem.head _ | apply List.Mem.tail)))).mono ?_
        rintro e wq ⟨v10, rfl, ow, bn⟩
        obtain ⟨A10, c10, rfl, _⟩ := (own_BS ow).form
        replace N := N.step bn (own_BS ow)
        clear ow bn
        go_wp2_with fail
        refine hK.out _ _ ?_ (fun hH2 => ?_)
        · exact HC.out _ _ N
        clear hHeld hK K; have hHeld := hH2; clear hH2; try go_frame
        refine hyO (some 24) 14 rfl (fun K hK => ?_)
        go_simp
        go_at_call 20
        refine (HTB2.out _ _ _ (N.get (by repeat (first | exact List.Mem.head _ | apply List.Mem.tail)))).mono ?_
        rintro e wq ⟨v14, rfl, ow, bn⟩
        obtain ⟨A14, c14, rfl, _⟩ := (own_BS ow).form
        replace N := N.step bn (own_BS ow)
        clear ow bn
        go_wp2_with fail
        refine hK.out _ _ ?_ (fun hH2 => ?_)
        · exact HC.out _ _ N
        clear hHeld hK K; have hHeld := hH2; clear hH2; try go_frame
        refine hyO (some 25) 15 rfl (fun K hK => ?_)
        go_simp
        have hl := LS.four (t := 25) (N.get (v := .slice A3 1 1) (l := [UInt8.ofNat (kn % 256)]) (by repeat (first | exact List.Mem.head _ | apply List.Mem.tail))) (N.get (v := .slice A6 (numb (u64 t)).length c6) (l := numb (u64 t)) (by repeat (first | exact List.Mem.head _ | apply List.Mem.tail))) (N.get (v := .slice A10 (texb la).length c10) (l := texb la) (by repeat (first | exact List.Mem.head _ | apply List.Mem.tail))) (N.get (v := .slice A14 (texb lb).length c14) (l := texb lb) (by repeat (first | exact List.Mem.head _ | apply List.Mem.tail)))
        have bn := (Below.refl wq.heap.size wq).alloc (Nat.le_refl _) (.cells #[.slice A3 1 1, .slice A6 (numb (u64 t)).length c6, .slice A10 (texb la).length c10, .slice A14 (texb lb).length c14] 25)
        replace N := N.past bn
        clear bn
        refine hK.out _ _ ?_ (fun hH2 => ?_)
        · exact HC.out _ _ N
        clear hHeld hK K; have hHeld := hH2; clear hH2; try go_frame
        refine hyO (some 26) 16 rfl (fun K hK => ?_)
        go_simp
        go_at_call 18
        refine (HALL.out _ _ _ hl).mono ?_
        rintro e wq ⟨v16, rfl, ow, bn⟩
        have hfin := HFIN.out wq v16 ((own_BS ow).mono fun b h => ⟨Nat.le_trans (Nat.le_of_lt N.kb.lt) h.1, h.2⟩) (N.past bn).bl
        replace N := N.past bn
        clear ow bn hl
        go_wp2_with fail
        refine hK.out _ _ ?_ (fun hH2 => ?_)
        · exact HC.out _ _ N
        clear hHeld hK K; have hHeld := hH2; clear hH2; try go_frame
        refine hyY (some 2) 17 rfl hHeld ?_; go_frame
        refine hyY (some 3) 18 rfl hHeld ?_; go_frame
        refine wpAnyH_done (by kernel_rfl) ?_ _
        have hKK := HKK.out
        clear hHeld HC HFIN N HCA HCB HTA2 HTB2 HALL
        go_wp2_with fail
        exact hfin
      · go_simp
        go_at_call 19
        refine (HNI.out _).mono ?_
        rintro e wq ⟨v6, rfl, ow, bn⟩
        obtain ⟨A6, c6, rfl, _⟩ := (own_BS ow).form
        replace N := N.step bn (own_BS ow)
        clear ow bn
        go_wp2_with fail
        refine hK.out _ _ ?_ (fun hH2 => ?_)
        · exact HC.out _ _ N
        clear hHeld hK K; have hHeld := hH2; clear hH2; try go_frame
        refine held_two (o := ⟨some 13, _, _, _, _, _⟩) (p := ⟨some 20, _, _, _, _, _⟩) 3 10 (by kernel_rfl) rfl rfl (by rfl) (by rfl) (fun K hK => ?_) (fun K hK => ?_)
        · go_simp
          rw [ewrap8, byte_mod]
          replace N := N.lit kn
          obtain ⟨A3, hA3⟩ : ∃ A, A = some (⟨wq.heap.size, 0, none⟩ : Addr) := ⟨_, rfl⟩
          rw [← hA3] at N ⊢
          clear hA3
          generalize wq.alloc (.cells #[bv (UInt8.ofNat (kn % 256))] 5) = wq at N ⊢
          refine hK.out _ _ ?_ (fun hH2 => ?_)
          · exact HC.out _ _ N
          clear hHeld hK K; have hHeld := hH2; clear hH2; try go_frame
          refine hyO (some 20) 10 rfl (fun K hK => ?_)
          go_simp
          go_at_call 20
          refine (HTA2.out _ _ _ (N.get (by repeat (first | exact List.Mem.head _ | apply List.Mem.tail)))).mono ?_
          rintro e wq ⟨v10, rfl, ow, bn⟩
          obtain ⟨A10, c10, rfl, _⟩ := (own_BS ow).form
          replace N := N.step bn (own_BS ow)
          clear ow bn
          go_wp2_with fail
          refine hK.out _ _ ?_ (fun hH2 => ?_)
          · exact HC.out _ _ N
          clear hHeld hK K; have hHeld := hH2; clear hH2; try go_frame
          refine hyO (some 24) 14 rfl (fun K hK => ?_)
          go_simp
          go_at_call 20
          refine (HTB2.out _ _ _ (N.get (by repeat (first | exact List.Mem.head _ | apply List.Mem.tail)))).mono ?_
          rintro e wq ⟨v14, rfl, ow, bn⟩
          obtain ⟨A14, c14, rfl, _⟩ := (own_BS ow).form
          replace N := N.step bn (own_BS ow)
          clear ow bn
          go_wp2_with fail
          refine hK.out _ _ ?_ (fun hH2 => ?_)
          · exact HC.out _ _ N
          clear hHeld hK K; have hHeld := hH2; clear hH2; try go_frame
          refine hyO (some 25) 15 rfl (fun K hK => ?_)
          go_simp
          have hl := LS.four (t := 25) (N.get (v := .slice A3 1 1) (l := [UInt8.ofNat (kn % 256)]) (by repeat (first | exact List.Mem.head _ | apply List.Mem.tail))) (N.get (v := .slice A6 (numb (u64 t)).length c6) (l := numb (u64 t)) (by repeat (first | exact List.Mem.head _ | apply List.Mem.tail))) (N.get (v := .slice A10 (texb la).length c10) (l := texb la) (by repeat (first | exact List.Mem.head _ | apply List.Mem.tail))) (N.get (v := .slice A14 (texb lb).length c14) (l := texb lb) (by repeat (first | exact List.Mem.head _ | apply List.Mem.tail)))
          have bn := (Below.refl wq.heap.size wq).alloc (Nat.le_refl _) (.cells #[.slice A3 1 1, .slice A6 (numb (u64 t)).length c6, .slice A10 (texb la).length c10, .slice A14 (texb lb).length c14] 25)
          replace N := N.past bn
          clear bn
          refine hK.out _ _ ?_ (fun hH2 => ?_)
          · exact HC.out _ _ N
          clear hHeld hK K; have hHeld := hH2; clear hH2; try go_frame
          refine hyO (some 26) 16 rfl (fun K hK => ?_)
          go_simp
          go_at_call 18
          refine (HALL.out _ _ _ hl).mono ?_
          rintro e wq ⟨v16, rfl, ow, bn⟩
          have hfin := HFIN.out wq v16 ((own_BS ow).mono fun b h => ⟨Nat.le_trans (Nat.le_of_lt N.kb.lt) h.1, h.2⟩) (N.past bn).bl
          replace N := N.past bn
          clear ow bn hl
          go_wp2_with fail
          refine hK.out _ _ ?_ (fun hH2 => ?_)
          · exact HC.out _ _ N
          clear hHeld hK K; have hHeld := hH2; clear hH2; try go_frame
          refine hyY (some 2) 17 rfl hHeld ?_; go_frame
          refine hyY (some 3) 18 rfl hHeld ?_; go_frame
          refine wpAnyH_done (by kernel_rfl) ?_ _
          have hKK := HKK.out
          clear hHeld HC HFIN N HCA HCB HTA2 HTB2 HALL
          go_wp2_with fail
          exact hfin
        · go_simp
          go_at_call 20
          refine (HTA2.out _ _ _ (N.get (by repeat (first | exact List.Mem.head _ | apply List.Mem.tail)))).mono ?_
          rintro e wq ⟨v10, rfl, ow, bn⟩
          obtain ⟨A10, c10, rfl, _⟩ := (own_BS ow).form
          replace N := N.step bn (own_BS ow)
          clear ow bn
          go_wp2_with fail
          refine hK.out _ _ ?_ (fun hH2 => ?_)
          · exact HC.out _ _ N
          clear hHeld hK K; have hHeld := hH2; clear hH2; try go_frame
          refine held_two (o := ⟨some 13, _, _, _, _, _⟩) (p := ⟨some 24, _, _, _, _, _⟩) 3 14 (by kernel_rfl) rfl rfl (by rfl) (by rfl) (fun K hK => ?_) (fun K hK => ?_)
          · go_simp
            rw [ewrap8, byte_mod]
            replace N := N.lit kn
            obtain ⟨A3, hA3⟩ : ∃ A, A = some (⟨wq.heap.size, 0, none⟩ : Addr) := ⟨_, rfl⟩
            rw [← hA3] at N ⊢
            clear hA3
            generalize wq.alloc (.cells #[bv (UInt8.ofNat (kn % 256))] 5) = wq at N ⊢
            refine hK.out _ _ ?_ (fun hH2 => ?_)
            · exact HC.out _ _ N
            clear hHeld hK K; have hHeld := hH2; clear hH2; try go_frame
            refine hyO (some 24) 14 rfl (fun K hK => ?_)
            go_simp
            go_at_call 20
            refine (HTB2.out _ _ _ (N.get (by repeat (first | exact List.Mem.head _ | apply List.Mem.tail)))).mono ?_
            rintro e wq ⟨v14, rfl, ow, bn⟩
            obtain ⟨A14, c14, rfl, _⟩ := (own_BS ow).form
            replace N := N.step bn (own_BS ow)
            clear ow bn
            go_wp2_with fail
            refine hK.out _ _ ?_ (fun hH2 => ?_)
            · exact HC.out _ _ N
            clear hHeld hK K; have hHeld := hH2; clear hH2; try go_frame
            refine hyO (some 25) 15 rfl (fun K hK => ?_)
            go_simp
            have hl := LS.four (t := 25) (N.get (v := .slice A3 1 1) (l := [UInt8.ofNat (kn % 256)]) (by repeat (first | exact List.Mem.head _ | apply List.Mem.tail))) (N.get (v := .slice A6 (numb (u64 t)).length c6) (l := numb (u64 t)) (by repeat (first | exact List.Mem.head _ | apply List.Mem.tail))) (N.get (v := .slice A10 (texb la).length c10) (l := texb la) (by repeat (first | exact List.Mem.head _ | apply List.Mem.tail))) (N.get (v := .slice A14 (texb lb).length c14) (l := texb lb) (by repeat (first | exact List.Mem.head _ | apply List.Mem.tail)))
            have bn := (Below.refl wq.heap.size wq).alloc (Nat.le_refl _) (.cells #[.slice A3 1 1, .slice A6 (numb (u64 t)).length c6, .slice A10 (texb la).length c10, .slice A14 (texb lb).length c14] 25)
            replace N := N.past bn
            clear bn
            refine hK.out _ _ ?_ (fun hH2 => ?_)
            · exact HC.out _ _ N
            clear hHeld hK K; have hHeld := hH2; clear hH2; try go_frame
            refine hyO (some 26) 16 rfl (fun K hK => ?_)
            go_simp
            go_at_call 18
            refine (HALL.out _ _ _ hl).mono ?_
            rintro e wq ⟨v16, rfl, ow, bn⟩
            have hfin := HFIN.out wq v16 ((own_BS ow).mono fun b h => ⟨Nat.le_trans (Nat.le_of_lt N.kb.lt) h.1, h.2⟩) (N.past bn).bl
            replace N := N.past bn
            clear ow bn hl
            go_wp2_with fail
            refine hK.out _ _ ?_ (fun hH2 => ?_)
            · exact HC.out _ _ N
            clear hHeld hK K; have hHeld := hH2; clear hH2; try go_frame
            refine hyY (some 2) 17 rfl hHeld ?_; go_frame
            refine hyY (some 3) 18 rfl hHeld ?_; go_frame
            refine wpAnyH_done (by kernel_rfl) ?_ _
            have hKK := HKK.out
            clear hHeld HC HFIN N HCA HCB HTA2 HTB2 HALL
            go_wp2_with fail
            exact hfin
          · go_simp
            go_at_call 20
            refine (HTB2.out _ _ _ (N.get (by repeat (first | exact List.Mem.head _ | apply List.Mem.tail)))).mono ?_
            rintro e wq ⟨v14, rfl, ow, bn⟩
            obtain ⟨A14, c14, rfl, _⟩ := (own_BS ow).form
            replace N := N.step bn (own_BS ow)
            clear ow bn
            go_wp2_with fail
            refine hK.out _ _ ?_ (fun hH2 => ?_)
            · exact HC.out _ _ N
            clear hHeld hK K; have hHeld := hH2; clear hH2; try go_frame
            refine hyO (some 13) 3 rfl (fun K hK => ?_)
            go_simp
            rw [ewrap8, byte_mod]
            replace N := N.lit kn
            obtain ⟨A3, hA3⟩ : ∃ A, A = some (⟨wq.heap.size, 0, none⟩ : Addr) := ⟨_, rfl⟩
            rw [← hA3] at N ⊢
            clear hA3
            generalize wq.alloc (.cells #[bv (UInt8.ofNat (kn % 256))] 5) = wq at N ⊢
            refine hK.out _ _ ?_ (fun hH2 => ?_)
            · exact HC.out _ _ N
            clear hHeld hK K; have hHeld := hH2; clear hH2; try go_frame
            refine hyO (some 25) 15 rfl (fun K hK => ?_)
            go_simp
            have hl := LS.four (t := 25) (N.get (v := .slice A3 1 1) (l := [UInt8.ofNat (kn % 256)]) (by repeat (first | exact List.Mem.head _ | apply List.Mem.tail))) (N.get (v := .slice A6 (numb (u64 t)).length c6) (l := numb (u64 t)) (by repeat (first | exact List.Mem.head _ | apply List.Mem.tail))) (N.get (v := .slice A10 (texb la).length c10) (l := texb la) (by repeat (first | exact List.Mem.head _ | apply List.Mem.tail))) (N.get (v := .slice A14 (texb lb).length c14) (l := texb lb) (by repeat (first | exact List.Mem.head _ | apply List.Mem.tail)))
            have bn := (Below.refl wq.heap.size wq).alloc (Nat.le_refl _) (.cells #[.slice A3 1 1, .slice A6 (numb (u64 t)).length c6, .slice A10 (texb la).length c10, .slice A14 (texb lb).length c14] 25)
            replace N := N.past bn
            clear bn
            refine hK.out _ _ ?_ (fun hH2 => ?_)
            · exact HC.out _ _ N
            clear hHeld hK K; have hHeld := hH2; clear hH2; try go_frame
            refine hyO (some 26) 16 rfl (fun K hK => ?_)
            go_simp
            go_at_call 18
            refine (HALL.out _ _ _ hl).mono ?_
            rintro e wq ⟨v16, rfl, ow, bn⟩
            have hfin := HFIN.out wq v16 ((own_BS ow).mono fun b h => ⟨Nat.le_trans (Nat.le_of_lt N.kb.lt) h.1, h.2⟩) (N.past bn).bl
            replace N := N.past bn
            clear ow bn hl
            go_wp2_with fail
            refine hK.out _ _ ?_ (fun hH2 => ?_)
            · exact HC.out _ _ N
            clear hHeld hK K; have hHeld := hH2; clear hH2; try go_frame
            refine hyY (some 2) 17 rfl hHeld ?_; go_frame
            refine hyY (some 3) 18 rfl hHeld ?_; go_frame
            refine wpAnyH_done (by kernel_rfl) ?_ _
            have hKK := HKK.out
            clear hHeld HC HFIN N HCA HCB HTA2 HTB2 HALL
            go_wp2_with fail
            exact hfin
end
end Go.Proofs.YtpeopkjmmmodpaaDoor
