/-
  WritBackW: The law WritBack over the loaded program: what is written is read; what is read, written, is read as the same. No condition but that the listed variables are as laid.
-/
import Derived.Test.YtjecjlhofnnnpaaDoorWy21
import Derived.Test.YtjecjlhofnnnpaaDoorWy06
set_option linter.unusedVariables false
set_option maxRecDepth 100000
namespace Go.Proofs.YtjecjlhofnnnpaaDoor
section
open Go.RowKit Go.ChangeShapes Go.WideShapes Go.Joins
theorem back_one {f : Nat} (t : Sc f) : ((textSc f t).2 = 0 ∧ (parseSc (textSc f t).1).2 = 0 ∧ sameS f 85 t (parseSc (textSc f t).1).1 = true) ∨ (textSc f t).2 = 1 := by
  unfold textSc
  cases h : mayS f t with
  | true =>
    rw [if_pos rfl]
    exact .inl ⟨rfl, writ_back h⟩
  | false =>
    rw [if_neg (by simp)]
    exact .inr rfl
theorem back_two (l : List UInt8) : ((parseSc l).2 = 0 ∧ (textSc 85 (parseSc l).1).2 = 0 ∧ (parseSc (textSc 85 (parseSc l).1).1).2 = 0 ∧ sameS 85 85 (parseSc l).1 (parseSc (textSc 85 (parseSc l).1).1).1 = true) ∨ (¬ (parseSc l).2 = 0 ∧ I64 (parseSc l).2) := by
  by_cases h : (parseSc l).2 = 0
  · have hm := writ_may h
    have hb := writ_back hm
    have e : textSc 85 (parseSc l).1 = (joinW (toksW 85 (parseSc l).1), 0) := if_pos hm
    rw [e]
    exact .inl ⟨h, rfl, hb⟩
  · refine .inr ⟨h, ?_⟩
    rw [parse_is]
    unfold parseT I64
    repeat' split
    all_goals simp
theorem text_max {f : Nat} (t : Sc f) : (textSc f t).1.length ≤ maxLen := by
  unfold textSc maxLen
  split
  · rename_i h
    unfold mayS at h
    rw [Bool.and_eq_true, decide_eq_true_eq] at h
    have := wtext_len f t 8 h.1
    show (joinW (toksW f t)).length ≤ _
    omega
  · simp
theorem back_num (l : List UInt8) : I64 (parseSc l).2 := by
  rcases back_two l with ⟨e, _⟩ | ⟨_, e⟩
  · rw [e]; unfold I64; omega
  · exact e
set_option maxHeartbeats 16000000 in
theorem writBack_main (f : Nat) (t : Sc f) (l : List UInt8) (hl : l.length ≤ maxLen) (v : Value) (w : World) (hT : Tabs w) (h : ZV w (fun b => b < w.heap.size) f v t) : Calls Tryd.prog 3 #[v, strV l] w (Yes21 w) := by
  obtain ⟨i0, l1, i2, i3, X4, n4, z4, rfl⟩ := h.form
  have hsl : ((⟨l.toArray⟩ : ByteArray).size : Int) = (l.length : Int) := rfl
  have hml : l.length ≤ 9223372036854775807 := by unfold maxLen at hl; omega
  have h1 := h.alloc (.cells #[.int .i64 i0, strV l1, .int .i64 i2, .int .i64 i3, .slice X4 n4 z4] 24)
  have B1 := (Below.refl w.heap.size w).alloc (Nat.le_refl _) (.cells #[.int .i64 i0, strV l1, .int .i64 i2, .int .i64 i3, .slice X4 n4 z4] 24)
  have kb := KB.new w 24 #[.int .i64 i0, strV l1, .int .i64 i2, .int .i64 i3, .slice X4 n4 z4]
  have hs := zsmall_any _ f t _ _ h1
  have HT1 : Hid (∀ W, Below w.heap.size w W → Calls Tryd.prog 6 #[.agg #[.int .i64 i0, strV l1, .int .i64 i2, .int .i64 i3, .slice X4 n4 z4]] W fun e w' => e = .returned (.tuple #[strV (textSc f t).1, .int .i64 (textSc f t).2]) ∧ Below W.heap.size W w') := fun W hb => pText_any _ f t _ W (fun b hb' => Nat.lt_of_lt_of_le hb' hb.size) (hT.below hb).1 (h.below' hb)
  have HP1 : Hid (∀ W, Below w.heap.size w W → Calls Tryd.prog 8 #[strV (textSc f t).1] W (ParseZ W (parseSc (textSc f t).1))) := fun W hb => pparse_any _ (text_max t) W (hT.below hb)
  have HP2 : Hid (∀ W, Below w.heap.size w W → Calls Tryd.prog 8 #[strV l] W (ParseZ W (parseSc l))) := fun W hb => pparse_any l hl W (hT.below hb)
  have HT3 : Hid (∀ S W v, Below w.heap.size w W → (∀ b, S b → b < W.heap.size) → ZV W S 85 v (parseSc l).1 → Calls Tryd.prog 6 #[v] W fun e w' => e = .returned (.tuple #[strV (textSc 85 (parseSc l).1).1, .int .i64 (textSc 85 (parseSc l).1).2]) ∧ Below W.heap.size W w') := fun S W v hb hS hv => pText_any S 85 (parseSc l).1 v W hS (hT.below hb).1 hv
  have HP4 : Hid (∀ W, Below w.heap.size w W → Calls Tryd.prog 8 #[strV (textSc 85 (parseSc l).1).1] W (ParseZ W (parseSc (textSc 85 (parseSc l).1).1))) := fun W hb => pparse_any _ (text_max (f := 85) (parseSc l).1) W (hT.below hb)
  have HLV : Hid (∀ W, Below w.heap.size w W → Calls Tryd.prog 5 #[] W (Yes21 W)) := fun W hb => live21_any W (hT.below hb)
  have HN2 : Hid (∀ W, Calls Tryd.prog 7 #[.int .i64 (parseSc l).2] W fun r w' => r = .returned (.int .i64 (parseSc l).2) ∧ w' = W) := fun W => wlnum_any _ (back_num l) W
  have HN0 := Lib.hid (wlnum_any 0 (by unfold I64; omega))
  have HN1 := Lib.hid (wlnum_any 1 (by unfold I64; omega))
  have H1 := Lib.hid (back_one t)
  have H2 := Lib.hid (back_two l)
  have hx := h
  unfold ParseZ at HP1 HP2 HP4
  clear h h1 hT hl
  unfold strV at *
  generalize (⟨l1.toArray⟩ : ByteArray) = s at *
  generalize (⟨l.toArray⟩ : ByteArray) = sl at *
  generalize (⟨(textSc f t).1.toArray⟩ : ByteArray) = sT at *
  generalize (⟨(textSc 85 (parseSc l).1).1.toArray⟩ : ByteArray) = sU at *
  go_enter Tryd.func3, Tryd.ntmps3
  go_wp2_with fail
  refine hs.mono ?_
  rintro e w1 ⟨b, rfl, _, b1⟩
  have kb2 := kb.below b1 kb.lt
  have B2 := B1.trans (b1.mono B1.size)
  clear hs b1 kb B1
  cases b with
  | false =>
    have hlv := HLV.out _ B2
    clear HT1 HP1 HP2 HT3 HP4 HLV HN2 HN0 HN1 H1 H2 hx
    go_wp2_with fail
    refine hlv.mono ?_
    rintro e w2 ⟨rfl, b2⟩
    have B3 := B2.trans (b2.mono B2.size)
    go_wp2_with fail
    go_ret
    exact ⟨rfl, B3⟩
  | true =>
    by_cases h2 : (2000 : Int) < (l.length : Int)
    · have E2 := decide_eq_true h2
      have hlv := HLV.out _ B2
      clear HT1 HP1 HP2 HT3 HP4 HLV HN2 HN0 HN1 H1 H2 hx
      go_wp2_with fail
      refine hlv.mono ?_
      rintro e w2 ⟨rfl, b2⟩
      have B3 := B2.trans (b2.mono B2.size)
      go_wp2_with fail
      go_ret
      exact ⟨rfl, B3⟩
    have E2 := decide_eq_false h2
    have q0 : w1.cell? ⟨w.heap.size, 0, none⟩ = some (.int .i64 i0) := kb2.cell 0
    have q1 : w1.cell? ⟨w.heap.size, 1, none⟩ = some (.string s) := kb2.cell 1
    have q2 : w1.cell? ⟨w.heap.size, 2, none⟩ = some (.int .i64 i2) := kb2.cell 2
    have q3 : w1.cell? ⟨w.heap.size, 3, none⟩ = some (.int .i64 i3) := kb2.cell 3
    have q4 : w1.cell? ⟨w.heap.size, 4, none⟩ = some (.slice X4 n4 z4) := kb2.cell 4
    have ht1 := HT1.out _ B2
    clear HT1
    go_wp2_with fail
    refine ht1.mono ?_
    rintro e w2 ⟨rfl, b2⟩
    replace kb2 := kb2.below b2 kb2.lt
    have B3 := B2.trans (b2.mono B2.size)
    clear ht1 b2 B2 q0 q1 q2 q3 q4
    rcases H1.out with ⟨e1, e2, e3⟩ | e1
    · have hp1 := HP1.out _ B3
      rw [e2] at hp1
      rw [e1]
      have HE3 := Lib.hid e3
      have hn := HN0.out w2
      clear H1 HP1 e1 e2 e3 HN1
      go_wp2_with fail
      refine hn.mono ?_
      rintro e w' ⟨rfl, rfl⟩
      clear hn
      go_wp2_with fail
      refine hp1.mono ?_
      rintro e w3 ⟨vy, rfl, zy, b3⟩
      obtain ⟨j0, ly, j2, j3, Y4, jn, jz, rfl⟩ := zy.form
      replace zy := zy.alloc (.cells #[.int .i64 j0, strV ly, .int .i64 j2, .int .i64 j3, .slice Y4 jn jz] 24)
      have ky := KB.new w3 24 #[.int .i64 j0, strV ly, .int .i64 j2, .int .i64 j3, .slice Y4 jn jz]
      replace kb2 := (kb2.below b3 kb2.lt).alloc (.cells #[.int .i64 j0, strV ly, .int .i64 j2, .int .i64 j3, .slice Y4 jn jz] 24)
      have B4 := (B3.trans (b3.mono B3.size)).alloc (Nat.le_trans B3.size b3.size) (.cells #[.int .i64 j0, strV ly, .int .i64 j2, .int .i64 j3, .slice Y4 jn jz] 24)
      unfold strV at *
      generalize (⟨ly.toArray⟩ : ByteArray) = sy at *
      have hsm := zrsame_any _ _ f 85 t _ _ _ _ (hx.below' B4) zy
      rw [HE3.out] at hsm
      have hn := HN0.out (w3.alloc (.cells #[.int .i64 j0, .string sy, .int .i64 j2, .int .i64 j3, .slice Y4 jn jz] 24))
      have q0 : (w3.alloc (.cells #[.int .i64 j0, .string sy, .int .i64 j2, .int .i64 j3, .slice Y4 jn jz] 24)).cell? ⟨w.heap.size, 0, none⟩ = some (.int .i64 i0) := kb2.cell 0
      have q1 : (w3.alloc (.cells #[.int .i64 j0, .string sy, .int .i64 j2, .int .i64 j3, .slice Y4 jn jz] 24)).cell? ⟨w.heap.size, 1, none⟩ = some (.string s) := kb2.cell 1
      have q2 : (w3.alloc (.cells #[.int .i64 j0, .string sy, .int .i64 j2, .int .i64 j3, .slice Y4 jn jz] 24)).cell? ⟨w.heap.size, 2, none⟩ = some (.int .i64 i2) := kb2.cell 2
      have q3 : (w3.alloc (.cells #[.int .i64 j0, .string sy, .int .i64 j2, .int .i64 j3, .slice Y4 jn jz] 24)).cell? ⟨w.heap.size, 3, none⟩ = some (.int .i64 i3) := kb2.cell 3
      have q4 : (w3.alloc (.cells #[.int .i64 j0, .string sy, .int .i64 j2, .int .i64 j3, .slice Y4 jn jz] 24)).cell? ⟨w.heap.size, 4, none⟩ = some (.slice X4 n4 z4) := kb2.cell 4
      have r0 : (w3.alloc (.cells #[.int .i64 j0, .string sy, .int .i64 j2, .int .i64 j3, .slice Y4 jn jz] 24)).cell? ⟨w3.heap.size, 0, none⟩ = some (.int .i64 j0) := ky.cell 0
      have r1 : (w3.alloc (.cells #[.int .i64 j0, .string sy, .int .i64 j2, .int .i64 j3, .slice Y4 jn jz] 24)).cell? ⟨w3.heap.size, 1, none⟩ = some (.string sy) := ky.cell 1
      have r2 : (w3.alloc (.cells #[.int .i64 j0, .string sy, .int .i64 j2, .int .i64 j3, .slice Y4 jn jz] 24)).cell? ⟨w3.heap.size, 2, none⟩ = some (.int .i64 j2) := ky.cell 2
      have r3 : (w3.alloc (.cells #[.int .i64 j0, .string sy, .int .i64 j2, .int .i64 j3, .slice Y4 jn jz] 24)).cell? ⟨w3.heap.size, 3, none⟩ = some (.int .i64 j3) := ky.cell 3
      have r4 : (w3.alloc (.cells #[.int .i64 j0, .string sy, .int .i64 j2, .int .i64 j3, .slice Y4 jn jz] 24)).cell? ⟨w3.heap.size, 4, none⟩ = some (.slice Y4 jn jz) := ky.cell 4
      clear hp1 b3 B3 HE3 zy hx kb2 ky
      go_wp2_with fail
      refine hn.mono ?_
      rintro e w' ⟨rfl, rfl⟩
      clear hn
      go_wp2_with fail
      refine hsm.mono ?_
      rintro e w5 ⟨rfl, b5⟩
      have B5 := B4.trans (b5.mono B4.size)
      clear hsm b5 B4 q0 q1 q2 q3 q4 r0 r1 r2 r3 r4
      have hp2 := HP2.out w5 B5
      clear HP2
      go_wp2_with fail
      refine hp2.mono ?_
      rintro e wz ⟨vz, rfl, zz, bz⟩
      obtain ⟨m0, lz, m2, m3, M4, mn, mz, rfl⟩ := zz.form
      replace zz := zz.alloc (.cells #[.int .i64 m0, strV lz, .int .i64 m2, .int .i64 m3, .slice M4 mn mz] 24)
      have kz := KB.new wz 24 #[.int .i64 m0, strV lz, .int .i64 m2, .int .i64 m3, .slice M4 mn mz]
      have Bz0 := B5.trans (bz.mono B5.size)
      have Bz := Bz0.alloc Bz0.size (.cells #[.int .i64 m0, strV lz, .int .i64 m2, .int .i64 m3, .slice M4 mn mz] 24)
      unfold strV at *
      generalize (⟨lz.toArray⟩ : ByteArray) = sz at *
      have hn := HN2.out (wz.alloc (.cells #[.int .i64 m0, .string sz, .int .i64 m2, .int .i64 m3, .slice M4 mn mz] 24))
      clear hp2 Bz0
      go_wp2_with fail
      refine hn.mono ?_
      rintro e wn ⟨rfl, ewn⟩
      clear hn HN2
      rcases H2.out with ⟨e1, e2, e3, e4⟩ | ⟨e1, _⟩
      · subst ewn
        have ht3 := HT3.out _ _ _ Bz (fun b hb => by have := hb.2; simp; omega) zz
        rw [e2] at ht3
        rw [e1] at *
        have hp4 := HP4.out
        rw [e3] at hp4
        have HE4 := Lib.hid e4
        clear HT3 HP4 e1 e2 e3 e4 H2
        have q0 : (wz.alloc (.cells #[.int .i64 m0, .string sz, .int .i64 m2, .int .i64 m3, .slice M4 mn mz] 24)).cell? ⟨wz.heap.size, 0, none⟩ = some (.int .i64 m0) := kz.cell 0
        have q1 : (wz.alloc (.cells #[.int .i64 m0, .string sz, .int .i64 m2, .int .i64 m3, .slice M4 mn mz] 24)).cell? ⟨wz.heap.size, 1, none⟩ = some (.string sz) := kz.cell 1
        have q2 : (wz.alloc (.cells #[.int .i64 m0, .string sz, .int .i64 m2, .int .i64 m3, .slice M4 mn mz] 24)).cell? ⟨wz.heap.size, 2, none⟩ = some (.int .i64 m2) := kz.cell 2
        have q3 : (wz.alloc (.cells #[.int .i64 m0, .string sz, .int .i64 m2, .int .i64 m3, .slice M4 mn mz] 24)).cell? ⟨wz.heap.size, 3, none⟩ = some (.int .i64 m3) := kz.cell 3
        have q4 : (wz.alloc (.cells #[.int .i64 m0, .string sz, .int .i64 m2, .int .i64 m3, .slice M4 mn mz] 24)).cell? ⟨wz.heap.size, 4, none⟩ = some (.slice M4 mn mz) := kz.cell 4
        go_wp2_with fail
        refine ht3.mono ?_
        rintro e wt ⟨rfl, bt⟩
        replace kz := kz.below bt kz.lt
        replace zz := zz.below' bt
        replace Bz := Bz.trans (bt.mono Bz.size)
        have hp5 := hp4 wt Bz
        clear ht3 bt hp4 q0 q1 q2 q3 q4
        go_wp2_with fail
        refine hp5.mono ?_
        rintro e wv ⟨vv, rfl, zv, bv⟩
        obtain ⟨n0, lv, n2, n3, N4, nn, nz, rfl⟩ := zv.form
        replace zv := zv.alloc (.cells #[.int .i64 n0, strV lv, .int .i64 n2, .int .i64 n3, .slice N4 nn nz] 24)
        have kv := KB.new wv 24 #[.int .i64 n0, strV lv, .int .i64 n2, .int .i64 n3, .slice N4 nn nz]
        replace kz := (kz.below bv kz.lt).alloc (.cells #[.int .i64 n0, strV lv, .int .i64 n2, .int .i64 n3, .slice N4 nn nz] 24)
        replace zz := (zz.below' bv).alloc (.cells #[.int .i64 n0, strV lv, .int .i64 n2, .int .i64 n3, .slice N4 nn nz] 24)
        replace Bz := (Bz.trans (bv.mono Bz.size)).alloc (Nat.le_trans Bz.size bv.size) (.cells #[.int .i64 n0, strV lv, .int .i64 n2, .int .i64 n3, .slice N4 nn nz] 24)
        unfold strV at *
        generalize (⟨lv.toArray⟩ : ByteArray) = sv at *
        have hsm := zrsame_any _ _ 85 85 _ _ _ _ _ zz zv
        rw [HE4.out] at hsm
        have q0 : (wv.alloc (.cells #[.int .i64 n0, .string sv, .int .i64 n2, .int .i64 n3, .slice N4 nn nz] 24)).cell? ⟨wz.heap.size, 0, none⟩ = some (.int .i64 m0) := kz.cell 0
        have q1 : (wv.alloc (.cells #[.int .i64 n0, .string sv, .int .i64 n2, .int .i64 n3, .slice N4 nn nz] 24)).cell? ⟨wz.heap.size, 1, none⟩ = some (.string sz) := kz.cell 1
        have q2 : (wv.alloc (.cells #[.int .i64 n0, .string sv, .int .i64 n2, .int .i64 n3, .slice N4 nn nz] 24)).cell? ⟨wz.heap.size, 2, none⟩ = some (.int .i64 m2) := kz.cell 2
        have q3 : (wv.alloc (.cells #[.int .i64 n0, .string sv, .int .i64 n2, .int .i64 n3, .slice N4 nn nz] 24)).cell? ⟨wz.heap.size, 3, none⟩ = some (.int .i64 m3) := kz.cell 3
        have q4 : (wv.alloc (.cells #[.int .i64 n0, .string sv, .int .i64 n2, .int .i64 n3, .slice N4 nn nz] 24)).cell? ⟨wz.heap.size, 4, none⟩ = some (.slice M4 mn mz) := kz.cell 4
        have hn1 := HN0.out (wv.alloc (.cells #[.int .i64 n0, .string sv, .int .i64 n2, .int .i64 n3, .slice N4 nn nz] 24))
        have hlv1 := fun W (h : Below (wv.alloc (.cells #[.int .i64 n0, .string sv, .int .i64 n2, .int .i64 n3, .slice N4 nn nz] 24)).heap.size (wv.alloc (.cells #[.int .i64 n0, .string sv, .int .i64 n2, .int .i64 n3, .slice N4 nn nz] 24)) W) => HLV.out W (Bz.trans (h.mono Bz.size))
        have BZ := Lib.hid Bz
        clear hp5 bv zz zv HE4 HN0 HLV kz kv Bz
        go_wp2_with fail
        refine hn1.mono ?_
        rintro e w' ⟨rfl, rfl⟩
        go_wp2_with fail
        refine hn1.mono ?_
        rintro e w' ⟨rfl, rfl⟩
        clear hn1
        go_wp2_with fail
        refine hsm.mono ?_
        rintro e w8 ⟨rfl, b8⟩
        have hlv := hlv1 w8 b8
        have B8 := BZ.out.trans (b8.mono BZ.out.size)
        clear hsm hlv1 b8 q0 q1 q2 q3 q4 BZ
        go_wp2_with fail
        refine hlv.mono ?_
        rintro e w9 ⟨rfl, b9⟩
        have B9 := B8.trans (b9.mono B8.size)
        clear hlv
        go_wp2_with fail
        go_ret
        exact ⟨rfl, B9⟩
      · subst ewn
        have hlv := HLV.out _ Bz
        generalize (parseSc l).2 = c2 at *
        have d2 : (c2 != 0) = true := bne_iff_ne.2 e1
        have d3 : (c2 == 0) = false := beq_eq_false_iff_ne.2 e1
        clear HT3 HP4 H2 HN0 HLV zz kz
        go_wp2_with fail
        refine hlv.mono ?_
        rintro e w9 ⟨rfl, b9⟩
        have B9 := Bz.trans (b9.mono Bz.size)
        clear hlv
        go_wp2_with fail
        go_ret
        exact ⟨rfl, B9⟩
    · rw [e1]
      have hn := HN1.out w2
      clear H1 HP1 e1 HN1 hx kb2
      go_wp2_with fail
      refine hn.mono ?_
      rintro e w5 ⟨rfl, ew5⟩
      have B5 : Below w.heap.size w w5 := by rw [ew5]; exact B3
      clear hn ew5 B3
      have hp2 := HP2.out w5 B5
      clear HP2
      go_wp2_with fail
      refine hp2.mono ?_
      rintro e wz ⟨vz, rfl, zz, bz⟩
      obtain ⟨m0, lz, m2, m3, M4, mn, mz, rfl⟩ := zz.form
      replace zz := zz.alloc (.cells #[.int .i64 m0, strV lz, .int .i64 m2, .int .i64 m3, .slice M4 mn mz] 24)
      have kz := KB.new wz 24 #[.int .i64 m0, strV lz, .int .i64 m2, .int .i64 m3, .slice M4 mn mz]
      have Bz0 := B5.trans (bz.mono B5.size)
      have Bz := Bz0.alloc Bz0.size (.cells #[.int .i64 m0, strV lz, .int .i64 m2, .int .i64 m3, .slice M4 mn mz] 24)
      unfold strV at *
      generalize (⟨lz.toArray⟩ : ByteArray) = sz at *
      have hn := HN2.out (wz.alloc (.cells #[.int .i64 m0, .string sz, .int .i64 m2, .int .i64 m3, .slice M4 mn mz] 24))
      clear hp2 Bz0
      go_wp2_with fail
      refine hn.mono ?_
      rintro e wn ⟨rfl, ewn⟩
      clear hn HN2
      rcases H2.out with ⟨e1, e2, e3, e4⟩ | ⟨e1, _⟩
      · subst ewn
        have ht3 := HT3.out _ _ _ Bz (fun b hb => by have := hb.2; simp; omega) zz
        rw [e2] at ht3
        rw [e1] at *
        have hp4 := HP4.out
        rw [e3] at hp4
        have HE4 := Lib.hid e4
        clear HT3 HP4 e1 e2 e3 e4 H2
        have q0 : (wz.alloc (.cells #[.int .i64 m0, .string sz, .int .i64 m2, .int .i64 m3, .slice M4 mn mz] 24)).cell? ⟨wz.heap.size, 0, none⟩ = some (.int .i64 m0) := kz.cell 0
        have q1 : (wz.alloc (.cells #[.int .i64 m0, .string sz, .int .i64 m2, .int .i64 m3, .slice M4 mn mz] 24)).cell? ⟨wz.heap.size, 1, none⟩ = some (.string sz) := kz.cell 1
        have q2 : (wz.alloc (.cells #[.int .i64 m0, .string sz, .int .i64 m2, .int .i64 m3, .slice M4 mn mz] 24)).cell? ⟨wz.heap.size, 2, none⟩ = some (.int .i64 m2) := kz.cell 2
        have q3 : (wz.alloc (.cells #[.int .i64 m0, .string sz, .int .i64 m2, .int .i64 m3, .slice M4 mn mz] 24)).cell? ⟨wz.heap.size, 3, none⟩ = some (.int .i64 m3) := kz.cell 3
        have q4 : (wz.alloc (.cells #[.int .i64 m0, .string sz, .int .i64 m2, .int .i64 m3, .slice M4 mn mz] 24)).cell? ⟨wz.heap.size, 4, none⟩ = some (.slice M4 mn mz) := kz.cell 4
        go_wp2_with fail
        refine ht3.mono ?_
        rintro e wt ⟨rfl, bt⟩
        replace kz := kz.below bt kz.lt
        replace zz := zz.below' bt
        replace Bz := Bz.trans (bt.mono Bz.size)
        have hp5 := hp4 wt Bz
        clear ht3 bt hp4 q0 q1 q2 q3 q4
        go_wp2_with fail
        refine hp5.mono ?_
        rintro e wv ⟨vv, rfl, zv, bv⟩
        obtain ⟨n0, lv, n2, n3, N4, nn, nz, rfl⟩ := zv.form
        replace zv := zv.alloc (.cells #[.int .i64 n0, strV lv, .int .i64 n2, .int .i64 n3, .slice N4 nn nz] 24)
        have kv := KB.new wv 24 #[.int .i64 n0, strV lv, .int .i64 n2, .int .i64 n3, .slice N4 nn nz]
        replace kz := (kz.below bv kz.lt).alloc (.cells #[.int .i64 n0, strV lv, .int .i64 n2, .int .i64 n3, .slice N4 nn nz] 24)
        replace zz := (zz.below' bv).alloc (.cells #[.int .i64 n0, strV lv, .int .i64 n2, .int .i64 n3, .slice N4 nn nz] 24)
        replace Bz := (Bz.trans (bv.mono Bz.size)).alloc (Nat.le_trans Bz.size bv.size) (.cells #[.int .i64 n0, strV lv, .int .i64 n2, .int .i64 n3, .slice N4 nn nz] 24)
        unfold strV at *
        generalize (⟨lv.toArray⟩ : ByteArray) = sv at *
        have hsm := zrsame_any _ _ 85 85 _ _ _ _ _ zz zv
        rw [HE4.out] at hsm
        have q0 : (wv.alloc (.cells #[.int .i64 n0, .string sv, .int .i64 n2, .int .i64 n3, .slice N4 nn nz] 24)).cell? ⟨wz.heap.size, 0, none⟩ = some (.int .i64 m0) := kz.cell 0
        have q1 : (wv.alloc (.cells #[.int .i64 n0, .string sv, .int .i64 n2, .int .i64 n3, .slice N4 nn nz] 24)).cell? ⟨wz.heap.size, 1, none⟩ = some (.string sz) := kz.cell 1
        have q2 : (wv.alloc (.cells #[.int .i64 n0, .string sv, .int .i64 n2, .int .i64 n3, .slice N4 nn nz] 24)).cell? ⟨wz.heap.size, 2, none⟩ = some (.int .i64 m2) := kz.cell 2
        have q3 : (wv.alloc (.cells #[.int .i64 n0, .string sv, .int .i64 n2, .int .i64 n3, .slice N4 nn nz] 24)).cell? ⟨wz.heap.size, 3, none⟩ = some (.int .i64 m3) := kz.cell 3
        have q4 : (wv.alloc (.cells #[.int .i64 n0, .string sv, .int .i64 n2, .int .i64 n3, .slice N4 nn nz] 24)).cell? ⟨wz.heap.size, 4, none⟩ = some (.slice M4 mn mz) := kz.cell 4
        have hn1 := HN0.out (wv.alloc (.cells #[.int .i64 n0, .string sv, .int .i64 n2, .int .i64 n3, .slice N4 nn nz] 24))
        have hlv1 := fun W (h : Below (wv.alloc (.cells #[.int .i64 n0, .string sv, .int .i64 n2, .int .i64 n3, .slice N4 nn nz] 24)).heap.size (wv.alloc (.cells #[.int .i64 n0, .string sv, .int .i64 n2, .int .i64 n3, .slice N4 nn nz] 24)) W) => HLV.out W (Bz.trans (h.mono Bz.size))
        have BZ := Lib.hid Bz
        clear hp5 bv zz zv HE4 HN0 HLV kz kv Bz
        go_wp2_with fail
        refine hn1.mono ?_
        rintro e w' ⟨rfl, rfl⟩
        go_wp2_with fail
        refine hn1.mono ?_
        rintro e w' ⟨rfl, rfl⟩
        clear hn1
        go_wp2_with fail
        refine hsm.mono ?_
        rintro e w8 ⟨rfl, b8⟩
        have hlv := hlv1 w8 b8
        have B8 := BZ.out.trans (b8.mono BZ.out.size)
        clear hsm hlv1 b8 q0 q1 q2 q3 q4 BZ
        go_wp2_with fail
        refine hlv.mono ?_
        rintro e w9 ⟨rfl, b9⟩
        have B9 := B8.trans (b9.mono B8.size)
        clear hlv
        go_wp2_with fail
        go_ret
        exact ⟨rfl, B9⟩
      · subst ewn
        have hlv := HLV.out _ Bz
        generalize (parseSc l).2 = c2 at *
        have d2 : (c2 != 0) = true := bne_iff_ne.2 e1
        have d3 : (c2 == 0) = false := beq_eq_false_iff_ne.2 e1
        clear HT3 HP4 H2 HN0 HLV zz kz
        go_wp2_with fail
        refine hlv.mono ?_
        rintro e w9 ⟨rfl, b9⟩
        have B9 := Bz.trans (b9.mono Bz.size)
        clear hlv
        go_wp2_with fail
        go_ret
        exact ⟨rfl, B9⟩
theorem writBack_law {H : Type} (enc : TypeId × Value → H) (W : World) (base : Nat) (hT : Tabs W) (v0 : Value) (d0 : DataW H) (p0 : List MemPlace) (v1 : Value) (d1 : DataW H) (p1 : List MemPlace)
    (k0 : Value.okWide Tryd.prog W .any base 24 v0) (k1 : Value.okWide Tryd.prog W .any base 9 v1) (h0 : DataW.Trod enc Tryd.prog W 0 (fun _ => true) true 24 v0 d0 p0) (h1 : DataW.Trod enc Tryd.prog W 0 (fun _ => true) true 9 v1 d1 p1) :
    Calls Tryd.prog 3 #[v0, v1] W fun e W' => e = .returned (.bool true) ∧ Below W.heap.size W W' := by
  obtain ⟨n, hn⟩ := open_scope k0 h0
  obtain ⟨t, ht⟩ := hn n (Nat.le_refl _)
  obtain ⟨l, rfl, hl⟩ := open_str k1 h1
  exact writBack_main n t l hl v0 W hT ht
end
end Go.Proofs.YtjecjlhofnnnpaaDoor
