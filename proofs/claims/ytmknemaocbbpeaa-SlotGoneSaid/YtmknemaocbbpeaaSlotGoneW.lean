/-
  The law SlotGone over the loaded program: behind a Clear that is OK, and any crash, the slot's sector is zero; a Put that is OK stays. No condition.
-/
import Derived.Test.YtmknemaocbbpeaaSlG
import Derived.Test.YtmknemaocbbpeaaDkF
import Derived.Test.YtmknemaocbbpeaaSame
import Derived.Deep.CutRange
namespace Go.Proofs.Ytmknemaocbbpeaa
open Go.RowKit Gau Go.ChangeShapes Go.WideShapes Go.Joins
set_option maxRecDepth 100000
set_option linter.unusedVariables false

set_option maxHeartbeats 8000000 in
theorem gone_walk (l : List A14) (v : Value) (at_ f : Int) (ks : List Bool) (X : Option Addr) (m z : Nat) (w : World) (hv : AL w (fun b => b < w.heap.size) v l) (hz : I64 f) (hk : CS w (fun b => b < w.heap.size) (.slice X m z) (ks.map Value.bool)) :
    Calls Try.prog 3 #[v, .int .i64 at_, .agg #[.int .i64 f, .slice X m z]] w (Yes14 w) := by
  have hcv := fun (w : World) (C : Array Value) (n c : Nat) => Lib.run_convert_bytes_const (P := Try.prog) w 36 5 C n c Try.underlying36 Try.underlying5
  have K0 := KB.new w 25 #[.int .i64 f, .slice X m z]
  have B0 := (Below.refl w.heap.size w).alloc (Nat.le_refl _) (.cells #[.int .i64 f, .slice X m z] 25)
  have hv0 := hv.keep (w' := w.alloc (.cells #[.int .i64 f, .slice X m z] 25)) B0.size fun b _ hb => B0.block b hb
  have hk0 := hk.below' B0
  have s0 : w.heap.size < (w.alloc (.cells #[.int .i64 f, .slice X m z] 25)).heap.size := by simp
  have hhu := huge14_any _ v l _ hv0
  obtain ⟨A, cp, rfl, hlc, hcm⟩ := hv0.form
  have hl63 : l.length ≤ 9223372036854775807 := by unfold maxLen at hcm; omega
  clear hv hk
  go_enter Try.func3, Try.ntmps3
  go_wp2_with fail
  generalize w.alloc (.cells #[.int .i64 f, .slice X m z] 25) = w0 at *
  have fin : Hid (∀ W, Below w0.heap.size w0 W → Yes14 w (.returned (.bool true)) W) := fun W h => ⟨rfl, B0.trans (h.mono (Nat.le_of_lt s0))⟩
  refine hhu.mono ?_
  rintro e w' ⟨⟨b, rfl⟩, rfl⟩
  clear hhu
  cases b with
  | true =>
    go_wp2_with fail
    refine (live14_any _).mono ?_
    rintro e w1 ⟨rfl, b1⟩
    go_wp2
    go_ret
    exact fin.out _ b1
  | false =>
    by_cases hlow : at_ < 0
    · go_wp2_with fail
      refine (live14_any _).mono ?_
      rintro e w1 ⟨rfl, b1⟩
      go_wp2
      go_ret
      exact fin.out _ b1
    · by_cases hhigh : 3 < at_
      · go_wp2_with fail
        refine (live14_any _).mono ?_
        rintro e w1 ⟨rfl, b1⟩
        go_wp2
        go_ret
        exact fin.out _ b1
      · obtain ⟨t, rfl⟩ : ∃ t : Nat, at_ = (t : Int) := ⟨at_.toNat, by omega⟩
        have ht : t ≤ 3 := by omega
        go_wp2_with fail
        refine (new_made 8 w0 (by omega) (by omega)).mono ?_
        rintro e w1 ⟨p, rfl, d1, fp, b1⟩
        have hnew := lnew_ok d1 2 4 (by decide) (by decide)
        go_wp2_with fail
        refine hnew.mono ?_
        rintro e w2 ⟨rfl, q2, b2⟩
        obtain ⟨q, hq⟩ : ∃ q, q = w1.heap.size := ⟨_, rfl⟩
        rw [← hq] at q2 ⊢
        have g2 : G14 w0 w2 p q (blank 8) := ⟨d1.below b2, rests_blank 8, by decide, q2, b1.trans (b2.mono b1.size)⟩
        clear d1 hnew b1 b2 q2 hq
        go_wp2_with (go_at_call 9; refine (num14_any _ _).mono ?_; rintro e w' ⟨rfl, rfl⟩)
        go_loopw [11] (fun iv wr => ∃ (k : Nat) (s : Dk), k ≤ l.length ∧ iv = .int .i64 (k : Int) ∧ G14 w0 wr p q s ∧ s.fuse = -1) (fun iv _ => l.length - (intOf iv).toNat)
        case atStart => exact ⟨0, _, by omega, rfl, g2, rfl⟩
        case round =>
          obtain ⟨k, s, hk', rfl, G, hf⟩ := hrel
          clear g2
          by_cases hlt : k < l.length
          · have hltI : (k : Int) < (l.length : Int) := by omega
            obtain ⟨b, o, rfl, sb, hbl, hx⟩ := hv0.at_ (by omega)
            obtain ⟨a, ha⟩ : ∃ a, l[k]? = some a := ⟨_, List.getElem?_eq_getElem hlt⟩
            obtain ⟨j0, j1, Y, y, j2, hb⟩ := hx k a ha
            have hcell : ∀ j, wr.cell? ⟨b, j, none⟩ = w0.cell? ⟨b, j, none⟩ := fun j => World.cell?_of_block (w := w0) (G.bl.block b hbl)
            rw [← hcell] at j0 j1 j2
            have hb2 := hb.below' G.bl
            have HM : Hid (k + 1 ≤ l.length ∧ l.length - (k + 1) < l.length - k) := ⟨by omega, by omega⟩
            clear hx ha hb hcell hlt
            have HCELL : Hid (∀ W, Below w0.heap.size w0 W → W.cell? ⟨b, o + k * 3 + 1, none⟩ = some (.int .i64 a.at_) ∧ W.cell? ⟨b, o + k * 3 + 2, none⟩ = some (.slice Y a.b.length y)) := fun W hW => by
              have hcell : ∀ j, W.cell? ⟨b, j, none⟩ = wr.cell? ⟨b, j, none⟩ := fun j => (World.cell?_of_block (w := w0) (hW.block b hbl)).trans (World.cell?_of_block (w := w0) (G.bl.block b hbl)).symm
              exact ⟨(hcell _).trans j1, (hcell _).trans j2⟩
            clear j1 j2
            by_cases h0 : a.kind = 0
            · rw [h0] at j0
              go_wp2_with fail
              rename_i KK hKK
              have HKK := Lib.hid hKK
              clear hKK j0
              refine wp_region_held_drew (S := (fun W => W.cell? ⟨b, o + k * 3 + 1, none⟩ = some (.int .i64 a.at_) ∧ W.cell? ⟨b, o + k * 3 + 2, none⟩ = some (.slice Y a.b.length y))) (by kernel_rfl) (HCELL.out _ (G.drew 1).bl) (fun hHeld => ?_)
              refine hyY (some 52) 0 rfl hHeld ?_; go_frame
              refine hyY (some 53) 1 rfl hHeld ?_; go_frame
              refine hyY (some 54) 2 rfl hHeld ?_; go_frame
              refine hyY (some 55) 3 rfl hHeld ?_; go_frame
              refine hyY (some 56) 4 rfl hHeld ?_; go_frame
              refine hyY (some 57) 5 rfl hHeld ?_; go_frame
              refine hyY (some 58) 6 rfl hHeld ?_; go_frame
              refine hyY (some 59) 7 rfl hHeld ?_; go_frame
              refine hyY (some 60) 8 rfl hHeld ?_; go_frame
              refine hyY (some 61) 9 rfl hHeld ?_; go_frame
              refine hyY (some 62) 10 rfl hHeld ?_; go_frame
              refine hyO (some 63) 11 rfl (fun K hK => ?_)
              go_simp
              go_at_call 10
              refine (lput_rest (G.drew 1) hf fp _ _ _ _ hb2).mono ?_
              rintro e w5 ⟨er, s', rfl, G', hf'⟩
              go_wp2_with fail
              refine hK.out _ _ ?_ (fun hH2 => ?_)
              · exact HCELL.out _ G'.bl
              clear hHeld hK K; have hHeld := hH2; clear hH2; try go_frame
              refine wpAnyH_done (by kernel_rfl) ?_ _
              have hKK := HKK.out
              go_wp2_with fail
              go_roundw
              case rel => exact ⟨k + 1, s', HM.out.1, by go_num, G', hf'⟩
              case measure =>
                simp [intOf]
                omega
            · go_wp2_with fail
              go_roundw
              case rel => exact ⟨k + 1, s, HM.out.1, by go_num, G, hf⟩
              case measure =>
                simp [intOf]
                omega
          · obtain rfl : k = l.length := by omega
            have c0 : wr.cell? ⟨w.heap.size, 0, none⟩ = some (.int .i64 f) := (K0.below G.bl s0).cell 0
            clear hv0
            go_upto_if 66 with fail
            generalize hfb : decide (0 < f) = fb at *
            have HFB := Lib.hid hfb
            clear hfb
            go_cut [] from 67 to 70 (fun wc => ∃ s2, G14 w0 wc p q s2)
            case first =>
              cases fb with
              | true =>
                have hx : 0 < f := of_decide_eq_true HFB.out
                have hfu := fuse_any G.ds f hz
                have hf0 : f ≠ 0 := by omega
                clear hx
                go_wp2_with fail
                refine hfu.mono ?_
                rintro e w5 ⟨rfl, d5, g5⟩
                have k5 : KeepP (Off p wr) wr w5 := (KeepP.refl (Off p wr) wr).grown g5 (fun g e hx => hx.2 (by cases e; exact .inl rfl)) fun x hx => hx.1
                go_wp2_with fail
                go_meet
                exact ⟨_, d5, ⟨G.rs.len, G.rs.pend⟩, hf0, G.sl.keep k5, G.bl.trans (k5.off G.bl.size fp)⟩
              | false =>
                go_wp2_with fail
                go_meet
                exact ⟨s, G⟩
            case rest =>
              obtain ⟨s2, G2⟩ := hcut
              obtain ⟨w5, rfl⟩ : ∃ w5, w5 = wc := ⟨_, rfl⟩
              have hcl := lclear_ok G2.ds G2.sl (by rw [G2.rs.len]; decide) G2.rs.pend G2.live t (by omega)
              have hl6 := clear_len (i := 2 + t) G2.rs (by omega)
              have hgone := fun j m ks (hj : j < 8) (hij : 2 + t ≠ j) => gone (i := 2 + t) (j := j) (m := m) ks G2.rs (by omega) hj hij
              obtain ⟨R, hR⟩ : ∃ R, R = clearD s2 (2 + t) := ⟨_, rfl⟩
              rw [← hR] at hcl hl6 hgone
              clear hR G c0 hf
              obtain ⟨s6, f2⟩ := R
              go_wp2_with fail
              refine hcl.mono ?_
              rintro e w6 ⟨rfl, d6, k6⟩
              have q6 := G2.sl.keep k6
              have B6 := G2.bl.trans (k6.off G2.bl.size fp)
              have e1 : IntKind.i64.wrap ((t : Int) + 1) = (t : Int) + 1 := by rw [IntKind.wrap_i64]; omega
              obtain ⟨j, hj⟩ : ∃ j : Nat, ((t : Int) + 1) % 4 = (j : Int) := ⟨(t + 1) % 4, by omega⟩
              obtain ⟨i, hi⟩ : ∃ i : Nat, i = 2 + t := ⟨_, rfl⟩
              have e2 : IntKind.i64.wrap (2 + (t : Int)) = (i : Int) := by rw [IntKind.wrap_i64]; omega
              have hi8 : (i : Int) < 8 := by omega
              have hj4 : j < 4 := by omega
              have hij : i ≠ 2 + j := by omega
              rw [← hi] at hgone
              replace hgone := hgone (2 + j) (fullS 4 [107, 101, 112, 116]) ks (by omega) hij
              have HIJ := Lib.hid hij
              clear hcl k6 G2 hij hi
              have bb := (Below.refl w6.heap.size w6).alloc (Nat.le_refl _) (.cells #[.int .u8 107, .int .u8 101, .int .u8 112, .int .u8 116] 5 (4, 5))
              have hbk : BS (w6.alloc (.cells #[.int .u8 107, .int .u8 101, .int .u8 112, .int .u8 116] 5 (4, 5))) (fun b => w6.heap.size ≤ b) (.slice (some ⟨w6.heap.size, 0, none⟩) 4 4) [107, 101, 112, 116] := BS.lit w6 5 [107, 101, 112, 116] (by simp [maxLen]) (4, 5)
              have hpk := lput_ok (d6.below bb) (q6.below bb) (by rw [hl6]; decide) j hj4 _ _ _ (by decide) hbk
              have q7 := q6.below bb
              have B7 := B6.trans (bb.mono B6.size)
              have hl7 := lay_len (i := 2 + j) hl6 (fullS 4 [107, 101, 112, 116])
              obtain ⟨R, hR⟩ : ∃ R, R = layD s6 (2 + j) (fullS 4 [107, 101, 112, 116]) := ⟨_, rfl⟩
              rw [← hR] at hpk hgone hl7
              obtain ⟨s7, f7⟩ := R
              dsimp only at hgone hl7
              clear hR d6 q6 B6 hl6 bb hbk
              go_wp2_with fail
              refine hpk.mono ?_
              rintro e w7 ⟨rfl, d7, k7⟩
              dsimp only at d7
              replace q7 := q7.keep k7
              replace B7 := B7.trans (k7.off B7.size fp)
              have c1 : w7.cell? ⟨w.heap.size, 1, none⟩ = some (.slice X m z) := (K0.below B7 s0).cell 1
              have hcr := crash_any d7 _ _ ks (hk0.below' B7) (fun b hb hx => by have := fp b hx; omega)
              clear hpk k7
              go_wp2_with fail
              refine hcr.mono ?_
              rintro e w8 ⟨rfl, d8, k8⟩
              have q8 := q7.keep k8
              have B8 := B7.trans (k8.off B7.size fp)
              have hl8 : (s7.crashed ks).safe.length = 8 := by rw [crashed_len, hl7]
              have hf8 := crashed_fuse s7 ks
              generalize s7.crashed ks = s8 at *
              have him := image_any d8
              clear hcr k8 d7 q7 B7 c1 hl7
              go_wp2_with fail
              refine him.mono ?_
              rintro e w9 ⟨vs, rfl, k9, o9, b9⟩
              have d9 := d8.below b9
              have q9 := q8.below b9
              have B9 := B8.trans (b9.mono B8.size)
              obtain ⟨vt, hvt⟩ : ∃ vt, vs[i]? = some vt := ⟨_, List.getElem?_eq_getElem (by have := o9.1; omega)⟩
              obtain ⟨lt, hlt'⟩ : ∃ lt, s8.safe[i]? = some lt := ⟨_, List.getElem?_eq_getElem (by omega)⟩
              have hbt := own_BS (o9.2 i vt lt hvt hlt')
              have cI : w9.cell? ⟨w8.heap.size, i, none⟩ = some vt := by rw [k9.cell, List.getElem?_toArray]; exact hvt
              generalize w8.heap.size = gi at *
              rw [hl8]
              clear him d8 q8 B8 hvt
              go_wp2_with fail
              go_upto_region 20 with fail
              have HG1 := Lib.hid hgone.1
              have HG2 := Lib.hid hgone.2
              have HL8 := Lib.hid hl8
              have HLT := Lib.hid hlt'
              have HF8 := Lib.hid hf8
              have HJ := Lib.hid hj
              have HJ4 := Lib.hid hj4
              clear hgone hl8 hlt' hf8 k9 o9 b9 hj hj4
              go_cut [102] from 90 to 102 (fun v wc => v = .bool false ∧ Below w9.heap.size w9 wc)
              case first =>
                rename_i KK hKK
                have HKK := Lib.hid hKK
                clear hKK
                have Bd := Below_drawn (Below.refl w9.heap.size w9) 1
                have HC : Hid (∀ W, Below w9.heap.size w9 W → W.cell? ⟨gi, i, none⟩ = some vt) := fun W h => (World.cell?_of_block (w := w9) (h.block gi (World.block_lt_of_cell? _ _ cI))).trans cI
                by_cases hf2 : f2 = 0
                · subst hf2
                  have hlz : lt = zs 256 := by
                    have h1 := HG1.out rfl
                    rw [HLT.out] at h1
                    exact Option.some.inj h1
                  subst hlz
                  obtain ⟨C, hC⟩ : ∃ C, C = ((zs 256).map bv).toArray := ⟨_, rfl⟩
                  have hmk : ∀ W : World, (Instr.makeSlice 36 (.int .i64 256) (.int .i64 256)).run Try.prog W = .ok (.slice (some ⟨W.heap.size, 0, none⟩) 256 256) (W.alloc (.cells C 5)) := fun W => by
                    obtain ⟨C', hC', h⟩ := make_256 W
                    rw [hC, ← hC']
                    exact h
                  have HS : Hid (∀ W, Below w9.heap.size w9 W → Calls Try.prog 15 #[vt, .slice (some ⟨W.heap.size, 0, none⟩) 256 256] (W.alloc (.cells C 5)) fun e w' => e = .returned (.bool true) ∧ Below (W.alloc (.cells C 5)).heap.size (W.alloc (.cells C 5)) w') := fun W h =>
                    same_to _ _ _ _ _ _ ((hbt.below' h).alloc _) (kb_256 (by rw [hC]; exact KB.new W 5 _) (zs_len 256))
                  clear hC cI hbt
                  refine wp_region_held_drew (S := (fun W => W.cell? ⟨gi, i, none⟩ = some vt)) (by kernel_rfl) (HC.out _ Bd) (fun hHeld => ?_)
                  refine hyY (some 90) 0 rfl hHeld ?_; go_frame
                  refine hyO (some 91) 1 rfl (fun K hK => ?_)
                  go_simp
                  go_at_call 9
                  refine (num14_any _ _).mono ?_
                  rintro e w' ⟨rfl, rfl⟩
                  go_wp2_with fail
                  refine hK.out _ _ ?_ (fun hH2 => ?_)
                  · first | exact HC.out _ B12 | exact HC.out _ B11 | exact HC.out _ Bd
                  clear hHeld hK K; have hHeld := hH2; clear hH2; try go_frame
                  refine hyY (some 92) 2 rfl hHeld ?_; go_frame
                  refine hyY (some 93) 3 rfl hHeld ?_; go_frame
                  refine hyY (some 94) 4 rfl hHeld ?_; go_frame
                  refine hyY (some 95) 5 rfl hHeld ?_; go_frame
                  refine hyY (some 96) 6 rfl hHeld ?_; go_frame
                  refine hyY (some 97) 7 rfl hHeld ?_; go_frame
                  refine hyY (some 98) 8 rfl hHeld ?_; go_frame
                  refine hyO (some 99) 9 rfl (fun K hK => ?_)
                  go_simp
                  have B11 := Bd.alloc Bd.size (.cells C 5)
                  refine hK.out _ _ ?_ (fun hH2 => ?_)
                  · first | exact HC.out _ B12 | exact HC.out _ B11 | exact HC.out _ Bd
                  clear hHeld hK K; have hHeld := hH2; clear hH2; try go_frame
                  refine hyO (some 100) 10 rfl (fun K hK => ?_)
                  go_simp
                  go_at_call 15
                  refine (HS.out _ Bd).mono ?_
                  rintro e w12 ⟨rfl, b12⟩
                  have B12 := B11.trans (b12.mono B11.size)
                  go_wp2_with fail
                  refine hK.out _ _ ?_ (fun hH2 => ?_)
                  · first | exact HC.out _ B12 | exact HC.out _ B11 | exact HC.out _ Bd
                  clear hHeld hK K; have hHeld := hH2; clear hH2; try go_frame
                  refine hyY (some 101) 11 rfl hHeld ?_; go_frame
                  refine hyY (some 102) 12 rfl hHeld ?_; go_frame
                  refine wpAnyH_done (by kernel_rfl) ?_ _
                  have hKK := HKK.out
                  go_wp2_with fail
                  go_meet
                  exact ⟨rfl, B12⟩
                · have hne1 : (f2 == 0) = false := by simpa using hf2
                  have hne2 : decide (f2 = 0) = false := decide_eq_false hf2
                  clear cI hbt
                  refine wp_region_held_drew (S := (fun W => W.cell? ⟨gi, i, none⟩ = some vt)) (by kernel_rfl) (HC.out _ Bd) (fun hHeld => ?_)
                  refine hyY (some 90) 0 rfl hHeld ?_; go_frame
                  refine hyO (some 91) 1 rfl (fun K hK => ?_)
                  go_simp
                  go_at_call 9
                  refine (num14_any _ _).mono ?_
                  rintro e w' ⟨rfl, rfl⟩
                  go_wp2_with fail
                  refine hK.out _ _ ?_ (fun hH2 => ?_)
                  · exact HC.out _ Bd
                  clear hHeld hK K; have hHeld := hH2; clear hH2; try go_frame
                  refine hyY (some 92) 2 rfl hHeld ?_; go_frame
                  refine hyY (some 93) 3 rfl hHeld ?_; go_frame
                  refine hyN (some 94) 4 rfl hHeld ?_; go_frame
                  refine hyN (some 95) 5 rfl hHeld ?_; go_frame
                  refine hyN (some 96) 6 rfl hHeld ?_; go_frame
                  refine hyN (some 97) 7 rfl hHeld ?_; go_frame
                  refine hyN (some 98) 8 rfl hHeld ?_; go_frame
                  refine hyN (some 99) 9 rfl hHeld ?_; go_frame
                  refine hyN (some 100) 10 rfl hHeld ?_; go_frame
                  refine hyN (some 101) 11 rfl hHeld ?_; go_frame
                  refine hyY (some 102) 12 rfl hHeld ?_; go_frame
                  refine wpAnyH_done (by kernel_rfl) ?_ _
                  have hKK := HKK.out
                  go_wp2_with fail
                  go_meet
                  exact ⟨rfl, Bd⟩
              case rest =>
                obtain ⟨rfl, b10⟩ := hcut
                obtain ⟨w10, rfl⟩ : ∃ w10, w10 = wc := ⟨_, rfl⟩
                have hj' : ((t : Int) + 1) % 4 = (j : Int) := HJ.out
                have hg := lget_ok (d9.below b10) (q9.below b10) (by rw [HL8.out]; decide) HF8.out j HJ4.out
                have B10 := B9.trans (b10.mono B9.size)
                clear d9 q9 B9 b10 hbt cI
                by_cases hf7 : f7 = 0
                · subst hf7
                  rw [HG2.out rfl, get_full (by decide)] at hg
                  go_wp2_with fail
                  refine hg.mono ?_
                  rintro e w11 ⟨v11, rfl, how, b11⟩
                  have hst := (own_BS how).str (P := Try.prog) (src := 36) (e := 5) (dst := 9) Try.underlying36 Try.underlying5 Try.underlying9
                  have B11 := B10.trans (b11.mono B10.size)
                  clear hg how b11 B10
                  go_wp2_with (first | (go_at_call 9; refine (num14_any _ _).mono ?_; rintro e w' ⟨rfl, rfl⟩) | (go_at_call 6; refine (live14_any _).mono ?_; rintro e w12 ⟨rfl, b12⟩))
                  go_ret
                  exact fin.out _ (B11.trans (b12.mono B11.size))
                · have hne1 : (f7 == 0) = false := by simpa using hf7
                  have hne2 : (f7 != 0) = true := by simpa using hf7
                  generalize getG (s8.now (2 + j)) = r at *
                  go_wp2_with fail
                  refine hg.mono ?_
                  rintro e w11 ⟨v11, rfl, how, b11⟩
                  have B11 := B10.trans (b11.mono B10.size)
                  clear hg how b11 B10
                  go_wp2_with (first | (go_at_call 9; refine (num14_any _ _).mono ?_; rintro e w' ⟨rfl, rfl⟩) | (go_at_call 6; refine (live14_any _).mono ?_; rintro e w12 ⟨rfl, b12⟩))
                  go_ret
                  exact fin.out _ (B11.trans (b12.mono B11.size))

theorem slotGone_law {H : Type} (enc : TypeId × Value → H) (W : World) (base : Nat) (v0 : Value) (d0 : DataW H) (p0 : List MemPlace) (v1 : Value) (d1 : DataW H) (p1 : List MemPlace) (v2 : Value) (d2 : DataW H) (p2 : List MemPlace)
    (ok0 : Value.okWide Try.prog W .any base 22 v0) (ok1 : Value.okWide Try.prog W .any base 3 v1) (ok2 : Value.okWide Try.prog W .any base 25 v2)
    (h0 : DataW.Trod enc Try.prog W 0 (fun _ => true) true 22 v0 d0 p0) (h1 : DataW.Trod enc Try.prog W 0 (fun _ => true) true 3 v1 d1 p1) (h2 : DataW.Trod enc Try.prog W 0 (fun _ => true) true 25 v2 d2 p2) :
    Calls Try.prog 3 #[v0, v1, v2] W fun e W' => e = .returned (.bool true) ∧ Below W.heap.size W W' := by
  obtain ⟨l, hl⟩ := open_a14s ok0 h0
  obtain ⟨n, rfl⟩ := okWide_int Try.underlying3 ok1
  obtain ⟨f, ks, A, m, c, rfl, hz, hk⟩ := open_cr14 ok2 h2
  exact gone_walk l v0 n f ks A m c W hl hz hk
end Go.Proofs.Ytmknemaocbbpeaa
