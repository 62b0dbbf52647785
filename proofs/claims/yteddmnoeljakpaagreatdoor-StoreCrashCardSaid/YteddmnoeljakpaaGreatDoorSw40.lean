/-
  SuA: A file's sector taken up, over the loaded program: load: its contract. No condition but what each theorem names.
-/
import Derived.Test.YteddmnoeljakpaaGreatDoorSw38
import Derived.Test.YteddmnoeljakpaaGreatDoorSw39
import Derived.Test.YteddmnoeljakpaaGreatDoorSw15
import Derived.Test.YteddmnoeljakpaaGreatDoorSw03
import Derived.Test.YteddmnoeljakpaaGreatDoorSw12
set_option linter.unusedVariables false
set_option maxRecDepth 100000
namespace Go.Proofs.YteddmnoeljakpaaGreatDoor
section
open Go.RowKit
def ldN (c : CI) (nl : List Nd) (i : Nat) (x : List UInt8) : Option (List Nd) :=
 if x = zs 256 then some nl else if (getS x).2.2 ≠ 0 ∨ (getS x).1 ≠ 3 then none else if (igetS (getS x).2.1 c.data).2 ≠ 0 then none
 else if (lookN nl (igetS (getS x).2.1 c.data).1.name).isSome = true ∨ ((igetS (getS x).2.1 c.data).1.at_.any fun z => usN nl z.toNat) = true then none else some (putN nl (i, (igetS (getS x).2.1 c.data).1))
theorem get_few (x : List UInt8) : (getS x).2.1.length ≤ x.length := by
 unfold getS
 split
 ·split
  ·exact Nat.zero_le _
  ·split
   ·exact Nat.zero_le _
   ·split
    ·show (bodyS x).length ≤ _
     unfold bodyS
     rw [List.length_take, List.length_drop]
     omega
    ·exact Nat.zero_le _
 ·exact Nat.zero_le _
theorem fit_in {x : Ino} {n : Int} (h : fitS x n = true) : ∀ z ∈ x.at_, 0 ≤ z ∧ z < n := by
 obtain ⟨⟨_, _, hb⟩, _⟩ := bitsS_yes ((fit_iff _ _).1 h).2.2.2.2
 exact fun z hz => okB_mem hb hz
section
variable {w : World} {a : SA} {c : CI} {nl : List Nd} {s : Dk} {br : Bool}
def LdAs (w : World) (a : SA) (c : CI) (nl : List Nd) (s : Dk) (br : Bool) (i : Nat) (e : Ending) (w' : World) : Prop :=
 (ldN c nl i (s.now (c.cn.nodes + i)) = none → e = .returned (.int .i64 17)) ∧ (∀ nl', ldN c nl i (s.now (c.cn.nodes + i)) = some nl' → e = .returned (.int .i64 0) ∧ ST w' a c nl' s br) ∧ KeepP (OffS a w) w w' ∧ DS w' a.p s
set_option maxHeartbeats 8000000 in
theorem load_any (h : ST w a c nl s br) (i : Nat) (hi : i < c.cn.files) (hf : s.fuse ≠ 0) (hfew : nl.length < c.cn.files) :
  Calls Tryz.prog 60 #[.pointer (some ⟨a.sg, 0, none⟩), .int .i64 (i : Int)] w (LdAs w a c nl s br i) := by
 have hnd := fun W => nodes_st h.may W
 have hbase : c.cn.files ≤ 64 ∧ c.cn.nodes ≤ 1024 ∧ c.cn.nodes + i < s.safe.length := by
  have := h.may.ok.all
  have := h.may.ok.files2
  rw [h.len_nat]
  unfold Cn.nodes Cn.size
  omega
 have hrd := fun W (b : Below w.heap.size w W) => read_ok (h.below b).ds (c.cn.nodes + i) hbase.2.2 hf
 have hx256 := h.ds.ok.now_len _ hbase.2.2
 obtain ⟨D, hD⟩ : ∃ D, D = LdAs w a c nl s br i := ⟨_, rfl⟩
 rw [← hD]
 obtain ⟨x, hx⟩ : ∃ x, x = s.now (c.cn.nodes + i) := ⟨_, rfl⟩
 rw [← hx] at hrd hx256
 have HD : Hid (∀ e w', ((ldN c nl i x = none → e = .returned (.int .i64 17)) ∧ (∀ nl', ldN c nl i x = some nl' → e = .returned (.int .i64 0) ∧ ST w' a c nl' s br) ∧ KeepP (OffS a w) w w' ∧ DS w' a.p s) → D e w') := by
  intro e w' hh
  rw [hD]
  unfold LdAs
  rw [← hx]
  exact hh
 have hpI : IntKind.i64.wrap ((c.cn.nodes : Int) + (i : Int)) = ((c.cn.nodes + i : Nat) : Int) := by rw [IntKind.wrap_i64]; omega
 have HC : Hid (∀ W, Below w.heap.size w W → W.cell? ⟨a.sg, 0, none⟩ = some (.pointer (some ⟨a.p.d, 0, none⟩)) ∧ W.cell? ⟨a.sg, 2, none⟩ = some (.int .i64 c.log) ∧ W.cell? ⟨a.sg, 3, none⟩ = some (.int .i64 c.files) ∧ W.cell? ⟨a.sg, 4, none⟩ = some (.int .i64 c.slots) ∧ W.cell? ⟨a.sg, 5, none⟩ = some (.int .i64 c.data)) :=
  fun W b => ⟨(h.below b).c0, (h.below b).c2, (h.below b).c3, (h.below b).c4, (h.below b).c5⟩
 have HND := Lib.hid hnd
 have HRD := Lib.hid hrd
 have HH := Lib.hid h
 have HX := Lib.hid hx256
 have HFEW := Lib.hid hfew
 have BD := Below_drawn (Below.refl w.heap.size w) 1
 clear hD hx h hnd hrd hx256 hfew hf
 go_enter Tryz.func60, Tryz.ntmps60
 go_wp2_with fail
 rename_i KK hKK
 have HKK := Lib.hid hKK
 clear hKK
 refine wp_region_held_drew (S := (fun W => W.cell? ⟨a.sg, 0, none⟩ = some (.pointer (some ⟨a.p.d, 0, none⟩)) ∧ W.cell? ⟨a.sg, 2, none⟩ = some (.int .i64 c.log) ∧ W.cell? ⟨a.sg, 3, none⟩ = some (.int .i64 c.files) ∧ W.cell? ⟨a.sg, 4, none⟩ = some (.int .i64 c.slots) ∧ W.cell? ⟨a.sg, 5, none⟩ = some (.int .i64 c.data))) (by kernel_rfl) (HC.out _ BD) (fun hHeld => ?_)
 refine hyY (some 13) 0 rfl hHeld ?_; go_frame
 refine hyY (some 14) 1 rfl hHeld ?_; go_frame
 refine hyY (some 15) 2 rfl hHeld ?_; go_frame
 refine hyY (some 16) 3 rfl hHeld ?_; go_frame
 refine hyY (some 17) 4 rfl hHeld ?_; go_frame
 refine hyY (some 18) 5 rfl hHeld ?_; go_frame
 refine hyY (some 19) 6 rfl hHeld ?_; go_frame
 refine hyY (some 20) 7 rfl hHeld ?_; go_frame
 refine hyY (some 22) 9 rfl hHeld ?_; go_frame
 refine hyO (some 21) 8 rfl (fun K hK => ?_)
 go_simp
 go_at_call 33
 refine (HND.out _).mono ?_
 rintro e w2 ⟨rfl, b2⟩
 have BD2 := BD.trans (b2.mono BD.size)
 go_wp2_with fail
 refine hK.out _ _ ?_ (fun hH2 => ?_)
 ·first | exact HC.out _ BD | exact HC.out _ BD2 | exact HC.out _ BD3
 clear hHeld hK K; have hHeld := hH2; clear hH2; try go_frame
 refine hyY (some 23) 10 rfl hHeld ?_; go_frame
 refine hyO (some 24) 11 rfl (fun K hK => ?_)
 go_simp
 go_at_call 25
 refine (HRD.out _ BD2).mono ?_
 rintro e w3 ⟨v3, rfl, o3, b3⟩
 have BD3 := BD2.trans (b3.mono BD2.size)
 go_wp2_with fail
 refine hK.out _ _ ?_ (fun hH2 => ?_)
 ·first | exact HC.out _ BD | exact HC.out _ BD2 | exact HC.out _ BD3
 clear hHeld hK K; have hHeld := hH2; clear hH2; try go_frame
 refine hyY (some 12) 12 rfl hHeld ?_; go_frame
 refine hyY (some 25) 13 rfl hHeld ?_; go_frame
 refine hyY (some 26) 14 rfl hHeld ?_; go_frame
 refine hyY (some 5) 15 rfl hHeld ?_; go_frame
 refine hyY (some 6) 16 rfl hHeld ?_; go_frame
 refine wpAnyH_done (by kernel_rfl) ?_ _
 have hKK := HKK.out
 have x3 := own_BS o3
 obtain ⟨A3, c3, rfl, _⟩ := x3.form
 have he := empty_any _ _ x w3 x3
 have HDS : Hid (∀ W, Below w.heap.size w W → KeepP (OffS a w) w W ∧ DS W a.p s) := fun W b => ⟨KeepP.of_below b fun x hx => hx.1, HH.out.ds.below b⟩
 clear hHeld BD2 b2 b3 o3 hpI
 by_cases hz : x = zs 256
 ·have HL : Hid (ldN c nl i x = some nl) := if_pos hz
  rw [decide_eq_true hz] at he
  clear hz
  go_wp2_with fail
  refine he.mono ?_
  rintro e w4 ⟨rfl, b4⟩
  have B4 := BD3.trans (b4.mono BD3.size)
  go_wp2_with fail
  refine HD.out _ _ ⟨fun e => ?_, fun nl' e => ⟨rfl, ?_⟩, HDS.out _ B4⟩
  ·rw [HL.out] at e; cases e
  ·rw [HL.out] at e
   obtain rfl := Option.some.inj e
   exact HH.out.below B4
 ·have HL0 : Hid (ldN c nl i x = if (getS x).2.2 ≠ 0 ∨ (getS x).1 ≠ 3 then none else if (igetS (getS x).2.1 c.data).2 ≠ 0 then none else if (lookN nl (igetS (getS x).2.1 c.data).1.name).isSome = true ∨ ((igetS (getS x).2.1 c.data).1.at_.any fun z => usN nl z.toNat) = true then none else some (putN nl (i, (igetS (getS x).2.1 c.data).1))) := if_neg hz
  have HBAD : Hid (∀ W, Below w.heap.size w W → ldN c nl i x = none → D (.returned (.int .i64 17)) W) := fun W b e => HD.out _ _ ⟨fun _ => rfl, fun nl' e' => (by rw [e] at e'; cases e'), HDS.out _ b⟩
  rw [decide_eq_false hz] at he
  have HGF := Lib.hid (get_few x)
  clear hz
  obtain ⟨G, hG⟩ : ∃ G, G = getS x := ⟨_, rfl⟩
  rw [← hG] at HL0 HGF
  have hgt := fun W b => get_sect _ _ x W (x3.below' (w' := W) b)
  rw [← hG] at hgt
  have HGT := Lib.hid hgt
  clear hG hgt
  obtain ⟨gk, gb, ge⟩ := G
  have HXL := Lib.hid HX.out
  generalize x.length = xl at *
  go_wp2_with fail
  refine he.mono ?_
  rintro e w4 ⟨rfl, b4⟩
  have B4 := BD3.trans (b4.mono BD3.size)
  have hgt := HGT.out w4 b4
  clear HGT he x3 b4 BD3
  go_wp2_with fail
  refine hgt.mono ?_
  rintro e w5 ⟨v5, rfl, o5, b5⟩
  have B5 := B4.trans (b5.mono B4.size)
  have x5 := own_BS o5
  obtain ⟨A5, c5, rfl, _⟩ := x5.form
  clear hgt o5 b5 B4
  dsimp only at *
  by_cases hge : ge = 0
  ·subst hge
   by_cases hgk : gk = 3
   ·subst hgk
    have hgi := get_any _ _ gb c.data w5 x5 (by have := HGF.out; have := HXL.out; omega)
    have hfit := fun e => got_put (b := gb) (n := c.data) e
    have HL1 : Hid (ldN c nl i x = if (igetS gb c.data).2 ≠ 0 then none else if (lookN nl (igetS gb c.data).1.name).isSome = true ∨ ((igetS gb c.data).1.at_.any fun z => usN nl z.toNat) = true then none else some (putN nl (i, (igetS gb c.data).1))) := HL0.out.trans (if_neg (by simp))
    generalize igetS gb c.data = I at *
    obtain ⟨ino, er⟩ := I
    have HFI := Lib.hid hfit
    have HCD := (HC.out w5 B5).2.2.2.2
    clear HL0 hfit x5
    dsimp only at *
    go_wp2_with fail
    refine hgi.mono ?_
    rintro e w6 ⟨v6, rfl, ⟨ia, rfl, hia, hsz, hnm⟩, b6⟩
    have B6 := B5.trans (b6.mono B5.size)
    obtain ⟨A6, c6, rfl, _⟩ := hia.form
    clear hgi b6 HCD
    by_cases her : er = 0
    ·subst her
     obtain ⟨hf1, hf2⟩ : fitS ino c.data = true ∧ ∀ z ∈ ino.at_, 0 ≤ z ∧ z < (c.cn.data : Int) := by
      have hf := (HFI.out (by simp)).1
      refine ⟨hf, fun z hz => ?_⟩
      have := fit_in hf z hz
      have hcd := data_cn HH.out.may
      omega
     have HF1 := Lib.hid hf1
     have HF2 := Lib.hid hf2
     have hnm2 : ino.name.length ≤ maxLen := hnm
     have HNM := Lib.hid hnm2
     have HSZ : Hid (I64 ino.size) := hsz
     have HIA : Hid (IS w6 (fun b => w5.heap.size ≤ b) (.slice A6 ino.at_.length c6) ino.at_) := hia
     have hL2 : ldN c nl i x = if (lookN nl ino.name).isSome = true ∨ (ino.at_.any fun z => usN nl z.toNat) = true then none else some (putN nl (i, ino)) := HL1.out.trans (if_neg (by simp))
     obtain ⟨qn, zz, A2, cp2, his, hlk⟩ := HH.out.mf.file hnm2
     have HLK := Lib.hid (fun W b => (hlk W b).1)
     obtain ⟨th, hth⟩ : ∃ th, th = (lookN nl ino.name).isSome := ⟨_, rfl⟩
     obtain ⟨sh, hsh⟩ : ∃ sh, sh = ino.at_.any fun z => usN nl z.toNat := ⟨_, rfl⟩
     rw [← hth] at HLK
     rw [← hth, ← hsh] at hL2
     have HL2 := Lib.hid hL2
     have HTH := Lib.hid hth
     have HSH := Lib.hid hsh
     clear hlk his hia hf1 hf2 hL2 HL1 HFI HGF hth hsh hnm hnm2 hsz
     unfold strV at *
     have HINN : Hid (∃ b : ByteArray, b = ⟨ino.name.toArray⟩) := ⟨_, rfl⟩
     generalize placeN nl ino.name = pl at *
     generalize (hadN nl ino.name).length = hd at *
     have HIN : Hid (∀ b : ByteArray, b = ⟨ino.name.toArray⟩ → .string b = strV ino.name) := fun b e => by rw [e]; rfl
     generalize hinn : (⟨ino.name.toArray⟩ : ByteArray) = inn at *
     have B7 := B6.alloc B6.size (.cells #[.string inn, .int .i64 ino.size, .slice A6 ino.at_.length c6] 91)
     have hia7 := HIA.out.lt.alloc (.cells #[.string inn, .int .i64 ino.size, .slice A6 ino.at_.length c6] 91)
     have K7 := KB.new w6 91 #[.string inn, .int .i64 ino.size, .slice A6 ino.at_.length c6]
     go_wp2_with fail
     rename_i KK2 hKK2
     have HKK2 := Lib.hid hKK2
     clear hKK2
     generalize w6.alloc (.cells #[.string inn, .int .i64 ino.size, .slice A6 ino.at_.length c6] 91) = w7 at *
     have BD7 : Below w.heap.size w w7.drew := Below_drawn B7 1
     have KD7 : KB w7.drew w6.heap.size 91 #[.string inn, .int .i64 ino.size, .slice A6 ino.at_.length c6] := K7.drewN 1
     have BE7 : ∀ o, Below w.heap.size w (w7.alloc o).drew := fun o => Below_drawn (B7.alloc B7.size o) 1
     have KE7 : ∀ o, KB (w7.alloc o).drew w6.heap.size 91 #[.string inn, .int .i64 ino.size, .slice A6 ino.at_.length c6] := fun o => (K7.alloc o).drewN 1
     have HC2 : Hid (∀ W, Below w.heap.size w W → KB W w6.heap.size 91 #[.string inn, .int .i64 ino.size, .slice A6 ino.at_.length c6] → W.cell? ⟨a.sg, 6, none⟩ = some (.map (some a.m)) ∧ W.cell? ⟨w6.heap.size, 0, none⟩ = some (.string inn) ∧ (Instr.lookup 80 (.map (some a.m)) (.string inn) true).run Tryz.prog W = .ok (.tuple #[.agg #[.int .i64 (pl : Int), .string qn, .int .i64 zz, .slice A2 hd cp2], .bool th]) W) :=
      fun W b k => ⟨(HH.out.below b).c6, k.cell 0, HLK.out W b⟩
     refine wp_region_held_drew (S := (fun W => W.cell? ⟨a.sg, 6, none⟩ = some (.map (some a.m)) ∧ W.cell? ⟨w6.heap.size, 0, none⟩ = some (.string inn) ∧ (Instr.lookup 80 (.map (some a.m)) (.string inn) true).run Tryz.prog W = .ok (.tuple #[.agg #[.int .i64 (pl : Int), .string qn, .int .i64 zz, .slice A2 hd cp2], .bool th]) W)) (by kernel_rfl) (HC2.out _ BD7 KD7) (fun hHeld => ?_)
     refine hyY (some 57) 0 rfl hHeld ?_; go_frame
     refine hyY (some 58) 1 rfl hHeld ?_; go_frame
     refine hyY (some 59) 2 rfl hHeld ?_; go_frame
     refine hyY (some 60) 3 rfl hHeld ?_; go_frame
     refine hyY (some 61) 4 rfl hHeld ?_; go_frame
     refine hyY (some 62) 5 rfl hHeld ?_; go_frame
     refine hyY (some 63) 6 rfl hHeld ?_; go_frame
     refine hyY (some 56) 7 rfl hHeld ?_; go_frame
     refine hyY (some 64) 8 rfl hHeld ?_; go_frame
     refine hyY (some 65) 9 rfl hHeld ?_; go_frame
     refine hyO (some 10) 10 rfl (fun K hK => ?_)
     go_simp
     refine hK.out _ _ ?_ (fun hH2 => ?_)
     ·first | exact HC2.out _ BD7 KD7 | exact HC2.out _ (BE7 _) (KE7 _)
     clear hHeld hK K; have hHeld := hH2; clear hH2; try go_frame
     refine hyO none 11 rfl (fun K hK => ?_)
     go_simp
     refine hK.out _ _ ?_ (fun hH2 => ?_)
     ·first | exact HC2.out _ BD7 KD7 | exact HC2.out _ (BE7 _) (KE7 _)
     clear hHeld hK K; have hHeld := hH2; clear hH2; try go_frame
     refine hyY (some 11) 12 rfl hHeld ?_; go_frame
     refine wpAnyH_done (by kernel_rfl) ?_ _
     have hKK2 := HKK2.out
     have B8 : Below w.heap.size w (w7.alloc (.cells #[.int .i64 (pl : Int), .string qn, .int .i64 zz, .slice A2 hd cp2] 93)).drew := BE7 _
     have K8 := KE7 (.cells #[.int .i64 (pl : Int), .string qn, .int .i64 zz, .slice A2 hd cp2] 93)
     have hia8 : IS (w7.alloc (.cells #[.int .i64 (pl : Int), .string qn, .int .i64 zz, .slice A2 hd cp2] 93)).drew (fun b => w5.heap.size ≤ b ∧ b < w6.heap.size) (.slice A6 ino.at_.length c6) ino.at_ := (hia7.alloc (.cells #[.int .i64 (pl : Int), .string qn, .int .i64 zz, .slice A2 hd cp2] 93)).drewN 1
     have hs6 : w6.heap.size < (w7.alloc (.cells #[.int .i64 (pl : Int), .string qn, .int .i64 zz, .slice A2 hd cp2] 93)).drew.heap.size := K8.lt
     clear BD7 KD7 B7 K7 hia7 hHeld HC2 HLK BE7 KE7
     generalize (w7.alloc (.cells #[.int .i64 (pl : Int), .string qn, .int .i64 zz, .slice A2 hd cp2] 93)).drew = w8 at *
     cases th with
     | true =>
      have HBB := Lib.hid (HBAD.out _ B8 (by rw [HL2.out, if_pos (.inl rfl)]))
      go_wp2_with fail
      exact HBB.out
     | false =>
      have e2 : w8.cell? ⟨w6.heap.size, 2, none⟩ = some (.slice A6 ino.at_.length c6) := K8.cell 2
      have hsc := shares_any (HH.out.below B8) (fun b => w5.heap.size ≤ b ∧ b < w6.heap.size) _ ino.at_ HF2.out hia8
      rw [← HSH.out] at hsc
      go_wp2_with fail
      refine hsc.mono ?_
      rintro e w9 ⟨rfl, b9⟩
      have B9 := B8.trans (b9.mono B8.size)
      have K9 := K8.below b9 K8.lt
      have hia9 := hia8.below' b9
      clear hsc e2 K8 hia8
      cases sh with
      | true =>
       have HBB := Lib.hid (HBAD.out _ B9 (by rw [HL2.out, if_pos (.inr rfl)]))
       go_wp2_with fail
       exact HBB.out
      | false =>
       have BA : Below w.heap.size w w9.drew := Below_drawn B9 1
       have hh9 := HH.out.below BA
       have hsw5 := B5.size
       have hlt9 := HH.out.lt
       have hs9 : w6.heap.size < w9.drew.heap.size := K9.lt
       have hv : NV w9.drew (OffS a w9.drew) (.agg #[.int .i64 (i : Int), .string inn, .int .i64 ino.size, .slice A6 ino.at_.length c6]) (i, ino) :=
        ⟨_, by rw [← hinn]; rfl, (hia9.drewN 1).mono fun b hb => ⟨Nat.lt_trans hb.2 hs9, fun e => by have := hlt9 b e; have := hb.1; omega⟩, HSZ.out, HNM.out, by show i ≤ _; omega⟩
       have hno : ¬ OffS a w9.drew a.m := fun e => e.2 (.inr (.inr (.inr rfl)))
       obtain ⟨wa, hput, hma, ga⟩ := hh9.mf.put (by have := HFEW.out; have := hbase.1; unfold maxLen; omega) hv hno hno fun _ h => h
       have hput2 : (Instr.mapUpdate 80 (.map (some a.m)) (.string inn) (.agg #[.int .i64 (i : Int), .string inn, .int .i64 ino.size, .slice A6 ino.at_.length c6])).run Tryz.prog w9.drew = .ok () wa := by rw [← hinn]; rw [← hinn] at hput; exact hput
       have q6 : w9.drew.cell? ⟨a.sg, 6, none⟩ = some (.map (some a.m)) := hh9.c6
       have KA : KB w9.drew w6.heap.size 91 #[.string inn, .int .i64 ino.size, .slice A6 ino.at_.length c6] := K9.drewN 1
       have hne : some a.m ≠ some w6.heap.size := fun e => by injection e with e; have := hlt9 a.m (.inr (.inr (.inr rfl))); have := B6.size; omega
       have KAa : KB wa w6.heap.size 91 #[.string inn, .int .i64 ino.size, .slice A6 ino.at_.length c6] := KA.grown ga hne
       have q6a : wa.cell? ⟨a.sg, 6, none⟩ = some (.map (some a.m)) := (World.cell?_of_block (ga.block a.sg (by have := HH.out.kb.lt; have := BA.size; omega) fun e => by injection e with e; exact HH.out.sn.sm e)).trans q6
       have HFIN : Hid (D (.returned (.int .i64 0)) wa) := by
        refine HD.out _ _ ?_
        have hput' := put_len hh9.mf.choose_spec.2.1 (i, ino)
        have hl0 : (lookN nl ino.name).isSome = false := HTH.out.symm
        have KW : KeepP (fun x => x < w9.drew.heap.size ∧ x ≠ a.m) w9.drew wa := ⟨ga.os, ga.tape, ga.output, ga.size, fun b hb => ga.block b hb.1 fun e => by injection e with e; exact hb.2 e⟩
        have hst := hh9.remap KW (hma.keep (Nat.le_refl _) rfl (fun _ _ _ => rfl) fun b hb => ⟨Nat.lt_of_lt_of_le hb.1 ga.size, hb.2⟩) (fun q hq => by
         unfold putN at hq
         rcases List.mem_append.1 hq with hq | hq
         ·exact HH.out.fit q (List.mem_filter.1 hq).1
         ·obtain rfl := List.mem_singleton.1 hq
          exact ⟨hi, HF1.out⟩) (by rw [hput', show (i, ino).2.name = ino.name from rfl, hl0]; have := HFEW.out; simp; omega)
        refine ⟨fun e => ?_, fun nl' e => ⟨rfl, ?_⟩, (KeepP.of_below BA fun x hx => hx.1).trans (KW.mono fun x hx => ⟨Nat.lt_of_lt_of_le hx.1 BA.size, fun e => hx.2 (.inr (.inr (.inr e)))⟩), hst.ds⟩
        ·rw [HL2.out] at e
         simp at e
        ·rw [HL2.out, if_neg (by simp)] at e
         obtain rfl := Option.some.inj e
         exact hst
       have HKA := Lib.hid KA
       have HKAa := Lib.hid KAa
       have HQ6a := Lib.hid q6a
       clear KA KAa q6a hv hno hma ga hput hh9 hia9 hinn HIN hne
       go_wp2_with fail
       rename_i KK3 hKK3
       have HKK3 := Lib.hid hKK3
       clear hKK3
       refine wp_region_held_drew (S := (fun W => W.cell? ⟨a.sg, 6, none⟩ = some (.map (some a.m)) ∧ W.cell? ⟨w6.heap.size, 0, none⟩ = some (.string inn) ∧ W.cell? ⟨w6.heap.size, 1, none⟩ = some (.int .i64 ino.size) ∧ W.cell? ⟨w6.heap.size, 2, none⟩ = some (.slice A6 ino.at_.length c6))) (by kernel_rfl) ⟨q6, HKA.out.cell 0, HKA.out.cell 1, HKA.out.cell 2⟩ (fun hHeld => ?_)
       refine hyY (some 73) 0 rfl hHeld ?_; go_frame
       refine hyY (some 74) 1 rfl hHeld ?_; go_frame
       refine hyY (some 75) 2 rfl hHeld ?_; go_frame
       refine hyY (some 76) 3 rfl hHeld ?_; go_frame
       refine hyY (some 77) 4 rfl hHeld ?_; go_frame
       refine hyY (some 78) 5 rfl hHeld ?_; go_frame
       refine hyY (some 79) 6 rfl hHeld ?_; go_frame
       refine hyY (some 80) 7 rfl hHeld ?_; go_frame
       refine hyY (some 81) 8 rfl hHeld ?_; go_frame
       refine hyO none 9 rfl (fun K hK => ?_)
       go_simp
       refine hK.out _ _ ?_ (fun hH2 => ?_)
       ·exact ⟨HQ6a.out, HKAa.out.cell 0, HKAa.out.cell 1, HKAa.out.cell 2⟩
       clear hHeld hK K; have hHeld := hH2; clear hH2; try go_frame
       refine wpAnyH_done (by kernel_rfl) ?_ _
       have hKK3 := HKK3.out
       go_wp2_with fail
       exact HFIN.out
    ·have hdk : decide (er = 0) = false := decide_eq_false her
     have BN := B6.alloc B6.size (.cells #[strV ino.name, .int .i64 ino.size, .slice A6 ino.at_.length c6] 91)
     have HBB := Lib.hid (HBAD.out _ BN (by rw [HL1.out, if_pos her]))
     have HIA := Lib.hid hia
     clear BN hia
     unfold strV at *
     generalize (⟨ino.name.toArray⟩ : ByteArray) = inn at *
     go_wp2_with fail
     exact HBB.out
   ·have hdk : decide (gk = 3) = false := decide_eq_false hgk
    have hbad := HBAD.out w5 B5 (by rw [HL0.out, if_pos (.inr hgk)])
    have HBB := Lib.hid hbad
    clear hbad
    go_wp2_with fail
    exact HBB.out
  ·have hdk : decide (ge = 0) = false := decide_eq_false hge
   have hbad := HBAD.out w5 B5 (by rw [HL0.out, if_pos (.inl hge)])
   have HBB := Lib.hid hbad
   clear hbad
   go_wp2_with fail
   exact HBB.out
end
end
end Go.Proofs.YteddmnoeljakpaaGreatDoor
