/-
  EvC: The document's Put (layer 23), over the loaded program: its contract. No condition.
  Txs: Texts (strings) byte by byte: a byte of one; the first bytes of one; a part; two joined. Over the loaded program. No condition but sizes.
  SpT: The document's tell (layer 15): digits of a number, over the loaded program: its contract. No condition but the size that it names.
  Tel: The document's Tell, of what is not below 0 (layer 15), over the loaded program: its contract; the sum of two texts, by names. No condition but the sizes that each names. (Split off WtA in round 22.)
  EvD: The document's Text (layer 23), over the loaded program: its contract. No condition. (Printed by wip/gen/event/mk_evd.py.)
-/
import Derived.Test.YtpeopkjmmmodpaaDoorEy02
import Derived.Test.YtpeopkjmmmodpaaDoorEy03
import Derived.Deep.Cut
import Derived.Deep.CutRange
import Derived.Lib.Strings
import Derived.Laws.Strings2
import Derived.Laws.Strings3
import Derived.Laws.Concat
import Derived.Test.YtpeopkjmmmodpaaDoorEy01
import Derived.Lib.ItoaLen
import Derived.BigQuiet
set_option linter.unusedVariables false
set_option maxRecDepth 100000
namespace Go.Proofs.YtpeopkjmmmodpaaDoor
section
open Go.RowKit Go.ChangeShapes Go.WideShapes Go.Joins
theorem ewrap8 (n : Int) : IntKind.u8.wrap n = n % 256 := by simp [IntKind.wrap, IntKind.bits, IntKind.signed]
def EPutAs (w : World) (r : List UInt8 × Int) (e : Ending) (w' : World) : Prop := ∃ v, e = .returned (.tuple #[v, .int .i64 r.2]) ∧ BS w' (fun b => w.heap.size ≤ b ∧ b < w'.heap.size) v r.1 ∧ Below w.heap.size w w'
set_option maxHeartbeats 8000000 in
theorem evput_any (x : Ev) (v : Value) (w : World) (hv : EvV v x) :
    Calls Tryd.prog 8 #[v] w (EPutAs w (putE x)) := by
  have HM := Lib.hid (fun W => evmay_any x v W hv)
  obtain ⟨rfl, hk, ht, hla, hlb⟩ := hv
  have K := KB.new w 23 #[.int .i64 x.kind, .int .i64 x.tick, strV x.a, strV x.b]
  have B := (Below.refl w.heap.size w).alloc (Nat.le_refl _) (.cells #[.int .i64 x.kind, .int .i64 x.tick, strV x.a, strV x.b] 23)
  obtain ⟨D, hD⟩ : ∃ D, D = EPutAs w (putE x) := ⟨_, rfl⟩
  rw [← hD]
  have HNO : Hid (mayE x = false → ∀ W, Below w.heap.size w W → D (.returned (.tuple #[.slice none 0 0, .int .i64 1])) W) := fun h W hb => by
    rw [hD]; unfold putE; rw [h]
    exact ⟨_, rfl, BS.nil _ _, hb⟩
  have HYES : Hid (mayE x = true → (1 ≤ x.kind ∧ x.kind ≤ 14) ∧ 0 ≤ x.tick ∧ x.a.length ≤ 16 ∧ x.b.length ≤ 16 ∧ ∀ W v, BS W (fun b => w.heap.size + 1 ≤ b ∧ b < W.heap.size) v (([UInt8.ofNat (x.kind.toNat % 256)] ++ numb (u64 x.tick)) ++ texb x.a ++ texb x.b) → Below w.heap.size w W → D (.returned (.tuple #[v, .int .i64 0])) W) := fun h => by
    obtain ⟨h1, h2, h3, h4⟩ := (mayE_iff x).1 h
    refine ⟨h1, h2.1, nameE_len h3, nameE_len h4, fun W v hb hw => ?_⟩
    rw [hD]; unfold putE; rw [if_pos h]
    refine ⟨_, rfl, ?_, hw⟩
    have e : ([UInt8.ofNat (x.kind.toNat % 256)] ++ numb (u64 x.tick)) ++ texb x.a ++ texb x.b = bytesE x := by
      unfold bytesE
      rw [show (x.kind % 256).toNat = x.kind.toNat % 256 by omega, show u64 x.tick = x.tick.toNat by unfold u64; omega]
      simp
    rw [e] at hb
    exact hb.mono fun b h => ⟨by omega, h.2⟩
  clear hD
  have HCA := Lib.hid (fun W => conv_str W x.a hla)
  have HCB := Lib.hid (fun W => conv_str W x.b hlb)
  have HTA := Lib.hid (fun (h : x.a.length ≤ 16) S v W hb => rtext_any S v x.a W hb (by omega))
  have HTB := Lib.hid (fun (h : x.b.length ≤ 16) S v W hb => rtext_any S v x.b W hb (by omega))
  have HNI := Lib.hid (fun W => rint_any x.tick W)
  obtain ⟨sa, hsa⟩ : ∃ s : ByteArray, strV x.a = .string s := ⟨_, rfl⟩
  obtain ⟨sb, hsb⟩ : ∃ s : ByteArray, strV x.b = .string s := ⟨_, rfl⟩
  have hm := HM.out
  have hca := HCA.out
  have hcb := HCB.out
  rw [hsa, hsb] at hm K B ⊢
  rw [hsa] at hca
  rw [hsb] at hcb
  replace HM := Lib.hid hm
  replace HCA := Lib.hid hca
  replace HCB := Lib.hid hcb
  clear hm hca hcb hsa hsb
  generalize x.kind = k at *
  generalize x.tick = t at *
  generalize x.a = la at *
  generalize x.b = lb at *
  generalize mayE x = m at *
  go_enter Tryd.func8, Tryd.ntmps8
  go_wp2_with fail
  refine (HM.out _).mono ?_
  rintro e w1 ⟨rfl, b1⟩
  have K1 := K.below b1 K.lt
  have B1 := B.trans (b1.mono B.size)
  clear HM K B b1
  cases m with
  | false =>
    have hfin := HNO.out rfl _ B1
    clear HNO HYES HCA HCB HTA HTB HNI
    go_wp2_with fail
    exact hfin
  | true =>
  obtain ⟨⟨k1, k2⟩, t0, a16, b16, hfin⟩ := HYES.out rfl
  have HFIN := Lib.hid hfin
  have HTA2 := Lib.hid (HTA.out a16)
  have HTB2 := Lib.hid (HTB.out b16)
  obtain ⟨i0, hi, hz0, hz1, hz2⟩ := info_parts info_byte
  clear HNO HYES HTA HTB hfin hk ht hla hlb
  obtain ⟨kn, rfl⟩ : ∃ kn : Nat, k = (kn : Int) := ⟨k.toNat, by omega⟩
  rw [Int.toNat_natCast] at HFIN
  have HLEN : Hid (1 + (numb (u64 t)).length ≤ 20 ∧ (texb la).length ≤ 30 ∧ (texb lb).length ≤ 30) := by
    have k1 := dig_length_le 8 (u64 t)
    have k2 := dig_length_le 8 la.length
    have k3 := dig_length_le 8 lb.length
    refine ⟨?_, ?_, ?_⟩
    · simp [numb]; omega
    · simp [texb, numb]; omega
    · simp [texb, numb]; omega
  have h255 : (kn : Int) % 256 = (kn : Int) := by omega
  have hsz := K1.lt
  go_upto_region 3 with fail
  go_cut [4] from 8 to 15 (fun v4 wc => wc.ownsRow (w.heap.size + 1) 5 1 v4 ([UInt8.ofNat (kn % 256)] ++ numb (u64 t)).length (([UInt8.ofNat (kn % 256)] ++ numb (u64 t)).map bv) ∧ KB wc w.heap.size 23 #[.int .i64 (kn : Int), .int .i64 t, .string sa, .string sb] ∧ Below w.heap.size w wc ∧ w.heap.size + 1 ≤ wc.heap.size)
  case first =>
    have HC : Hid (∀ W, KB W w.heap.size 23 #[.int .i64 (kn : Int), .int .i64 t, .string sa, .string sb] → W.cell? ⟨w.heap.size, 0, none⟩ = some (.int .i64 (kn : Int)) ∧ W.cell? ⟨w.heap.size, 1, none⟩ = some (.int .i64 t)) := fun W K => ⟨K.cell 0, K.cell 1⟩
    have KQ : KB w1.drew w.heap.size 23 #[.int .i64 (kn : Int), .int .i64 t, .string sa, .string sb] := K1
    have BQ : Below w.heap.size w w1.drew := Below_drawn B1 1
    have SQ : w.heap.size + 1 ≤ w1.drew.heap.size := hsz
    clear K1 B1 hsz HFIN HTA2 HTB2 HCA HCB
    refine wp_region_held_drew (S := (fun W => W.cell? ⟨w.heap.size, 0, none⟩ = some (.int .i64 (kn : Int)) ∧ W.cell? ⟨w.heap.size, 1, none⟩ = some (.int .i64 t))) (by kernel_rfl) (HC.out _ KQ) (fun hHeld => ?_)
    generalize w1.drew = wq at *
    refine hyY (some 8) 0 rfl hHeld ?_; go_frame
    refine hyY (some 9) 1 rfl hHeld ?_; go_frame
    refine hyY (some 10) 2 rfl hHeld ?_; go_frame
    refine hyY (some 12) 4 rfl hHeld ?_; go_frame
    refine hyY (some 13) 5 rfl hHeld ?_; go_frame
    refine held_two (o := ⟨some 11, _, _, _, _, _⟩) (p := ⟨some 14, _, _, _, _, _⟩) 3 6 (by kernel_rfl) rfl rfl (by rfl) (by rfl) (fun K hK => ?_) (fun K hK => ?_)
    · go_simp
      rw [ewrap8, byte_mod]
      have OW := lit_one wq kn (w.heap.size + 1) SQ
      have bn := (Below.refl wq.heap.size wq).alloc (Nat.le_refl _) (.cells #[bv (UInt8.ofNat (kn % 256))] 5)
      replace KQ := KQ.below bn KQ.lt
      replace BQ := BQ.trans (bn.mono BQ.size)
      replace SQ := Nat.le_trans SQ bn.size
      clear bn
      refine hK.out _ _ ?_ (fun hH2 => ?_)
      · exact HC.out _ KQ
      clear hHeld hK K; have hHeld := hH2; clear hH2; try go_frame
      refine hyO (some 14) 6 rfl (fun K hK => ?_)
      go_simp
      go_at_call 22
      refine (HNI.out _).mono ?_
      rintro e wn ⟨v6, rfl, how6, b6⟩
      try replace OW := own_past b6 OW
      replace KQ := KQ.below b6 KQ.lt
      replace BQ := BQ.trans (b6.mono BQ.size)
      replace SQ := Nat.le_trans SQ b6.size
      have x6 := own_BS how6
      clear how6 b6
      go_wp2_with fail
      refine hK.out _ _ ?_ (fun hH2 => ?_)
      · exact HC.out _ KQ
      clear hHeld hK K; have hHeld := hH2; clear hH2; try go_frame
      refine hyO (some 15) 7 rfl (fun K hK => ?_)
      refine wp_grow _ _ _ rfl (w.heap.size + 1) 5 i0 Tryd.underlying25 hi hz0 hz1 hz2 _ [UInt8.ofNat (kn % 256)] rfl OW _ _ (numb (u64 t)) rfl x6 (by have := HLEN.out.1; simp; omega) SQ ?_
      intro v7 w7 own7 g7 _
      replace KQ := KQ.grown g7 (own_ne OW (by omega))
      replace BQ := BQ.grown g7 BQ.size (fun g hg => by have := own_ge OW g hg; omega)
      replace SQ := Nat.le_trans SQ g7.size
      replace OW := own7
      clear own7 g7 x6
      refine hK.out _ _ ?_ (fun hH2 => ?_)
      · exact HC.out _ KQ
      clear hHeld hK K; have hHeld := hH2; clear hH2; try go_frame
      refine hyY (some 4) 8 rfl hHeld ?_; go_frame
      refine wpAnyH_done (by kernel_rfl) ?_ _
      clear hHeld HC HNI
      go_wp2_with fail
      go_meet
      exact ⟨OW, KQ, BQ, SQ⟩
    · go_simp
      go_at_call 22
      refine (HNI.out _).mono ?_
      rintro e wn ⟨v6, rfl, how6, b6⟩
      try replace OW := own_past b6 OW
      replace KQ := KQ.below b6 KQ.lt
      replace BQ := BQ.trans (b6.mono BQ.size)
      replace SQ := Nat.le_trans SQ b6.size
      have x6 := own_BS how6
      clear how6 b6
      go_wp2_with fail
      refine hK.out _ _ ?_ (fun hH2 => ?_)
      · exact HC.out _ KQ
      clear hHeld hK K; have hHeld := hH2; clear hH2; try go_frame
      refine hyO (some 11) 3 rfl (fun K hK => ?_)
      go_simp
      rw [ewrap8, byte_mod]
      have OW := lit_one wn kn (w.heap.size + 1) SQ
      have bn := (Below.refl wn.heap.size wn).alloc (Nat.le_refl _) (.cells #[bv (UInt8.ofNat (kn % 256))] 5)
      replace x6 := x6.below' bn
      replace KQ := KQ.below bn KQ.lt
      replace BQ := BQ.trans (bn.mono BQ.size)
      replace SQ := Nat.le_trans SQ bn.size
      clear bn
      refine hK.out _ _ ?_ (fun hH2 => ?_)
      · exact HC.out _ KQ
      clear hHeld hK K; have hHeld := hH2; clear hH2; try go_frame
      refine hyO (some 15) 7 rfl (fun K hK => ?_)
      refine wp_grow _ _ _ rfl (w.heap.size + 1) 5 i0 Tryd.underlying25 hi hz0 hz1 hz2 _ [UInt8.ofNat (kn % 256)] rfl OW _ _ (numb (u64 t)) rfl x6 (by have := HLEN.out.1; simp; omega) SQ ?_
      intro v7 w7 own7 g7 _
      replace KQ := KQ.grown g7 (own_ne OW (by omega))
      replace BQ := BQ.grown g7 BQ.size (fun g hg => by have := own_ge OW g hg; omega)
      replace SQ := Nat.le_trans SQ g7.size
      replace OW := own7
      clear own7 g7 x6
      refine hK.out _ _ ?_ (fun hH2 => ?_)
      · exact HC.out _ KQ
      clear hHeld hK K; have hHeld := hH2; clear hH2; try go_frame
      refine hyY (some 4) 8 rfl hHeld ?_; go_frame
      refine wpAnyH_done (by kernel_rfl) ?_ _
      clear hHeld HC HNI
      go_wp2_with fail
      go_meet
      exact ⟨OW, KQ, BQ, SQ⟩
  case rest =>
  obtain ⟨OW, KQ, BQ, SQ⟩ := hcut
  clear HNI K1 B1 hsz
  have HC : Hid (∀ W, KB W w.heap.size 23 #[.int .i64 (kn : Int), .int .i64 t, .string sa, .string sb] → W.cell? ⟨w.heap.size, 2, none⟩ = some (.string sa) ∧ W.cell? ⟨w.heap.size, 3, none⟩ = some (.string sb)) := fun W K => ⟨K.cell 2, K.cell 3⟩
  go_wp2_with fail
  rename_i KK hKK
  have HKK := Lib.hid hKK
  clear hKK
  replace KQ : KB wc.drew w.heap.size 23 #[.int .i64 (kn : Int), .int .i64 t, .string sa, .string sb] := KQ
  replace BQ : Below w.heap.size w wc.drew := Below_drawn BQ 1
  replace SQ : w.heap.size + 1 ≤ wc.drew.heap.size := SQ
  replace OW := OW.drew
  refine wp_region_held_drew (S := (fun W => W.cell? ⟨w.heap.size, 2, none⟩ = some (.string sa) ∧ W.cell? ⟨w.heap.size, 3, none⟩ = some (.string sb))) (by kernel_rfl) (HC.out _ KQ) (fun hHeld => ?_)
  generalize wc.drew = wq at *
  refine hyY (some 16) 0 rfl hHeld ?_; go_frame
  refine hyY (some 17) 1 rfl hHeld ?_; go_frame
  refine hyY (some 18) 2 rfl hHeld ?_; go_frame
  refine hyY (some 22) 6 rfl hHeld ?_; go_frame
  refine hyY (some 23) 7 rfl hHeld ?_; go_frame
  refine held_two (o := ⟨some 19, _, _, _, _, _⟩) (p := ⟨some 24, _, _, _, _, _⟩) 3 8 (by kernel_rfl) rfl rfl (by rfl) (by rfl) (fun K hK => ?_) (fun K hK => ?_)
  · obtain ⟨ca, wq, hcv, xa, bn⟩ := HCA.out wq
    go_simp
    replace OW := own_past bn OW
    try replace xb := xb.below' bn
    replace KQ := KQ.below bn KQ.lt
    replace BQ := BQ.trans (bn.mono BQ.size)
    replace SQ := Nat.le_trans SQ bn.size
    clear hcv bn
    refine hK.out _ _ ?_ (fun hH2 => ?_)
    · exact HC.out _ KQ
    clear hHeld hK K; have hHeld := hH2; clear hH2; try go_frame
    refine held_two (o := ⟨some 20, _, _, _, _, _⟩) (p := ⟨some 24, _, _, _, _, _⟩) 4 8 (by kernel_rfl) rfl rfl (by rfl) (by rfl) (fun K hK => ?_) (fun K hK => ?_)
    · go_simp
      go_at_call 23
      refine (HTA2.out _ _ _ xa).mono ?_
      rintro e wq ⟨v6, rfl, how6, bn⟩
      replace OW := own_past bn OW
      try replace xb := xb.below' bn
      replace KQ := KQ.below bn KQ.lt
      replace BQ := BQ.trans (bn.mono BQ.size)
      replace SQ := Nat.le_trans SQ bn.size
      have xta := own_BS how6
      clear how6 bn xa
      go_wp2_with fail
      refine hK.out _ _ ?_ (fun hH2 => ?_)
      · exact HC.out _ KQ
      clear hHeld hK K; have hHeld := hH2; clear hH2; try go_frame
      refine held_two (o := ⟨some 21, _, _, _, _, _⟩) (p := ⟨some 24, _, _, _, _, _⟩) 5 8 (by kernel_rfl) rfl rfl (by rfl) (by rfl) (fun K hK => ?_) (fun K hK => ?_)
      · refine wp_grow _ _ _ rfl (w.heap.size + 1) 5 i0 Tryd.underlying25 hi hz0 hz1 hz2 _ ([UInt8.ofNat (kn % 256)] ++ numb (u64 t)) rfl OW _ _ (texb la) rfl xta (by have := HLEN.out; simp; omega) SQ ?_
        intro v7 wq own7 g7 _
        replace KQ := KQ.grown g7 (own_ne OW (by omega))
        replace BQ := BQ.grown g7 BQ.size (fun g hg => by have := own_ge OW g hg; omega)
        replace SQ := Nat.le_trans SQ g7.size
        try replace xb := xb.grown g7 (fun g hg hs => by have := hrb g hg; have := hs.1; omega)
        replace OW := own7
        clear own7 g7 xta
        refine hK.out _ _ ?_ (fun hH2 => ?_)
        · exact HC.out _ KQ
        clear hHeld hK K; have hHeld := hH2; clear hH2; try go_frame
        refine hyO (some 24) 8 rfl (fun K hK => ?_)
        have hrb := fun g hg => (OW.lt g hg).2
        obtain ⟨cb, wq, hcv, xb, bn⟩ := HCB.out wq
        go_simp
        replace OW := own_past bn OW
        try replace xa := xa.below' bn
        try replace xta := xta.below' bn
        replace KQ := KQ.below bn KQ.lt
        replace BQ := BQ.trans (bn.mono BQ.size)
        replace SQ := Nat.le_trans SQ bn.size
        clear hcv bn
        refine hK.out _ _ ?_ (fun hH2 => ?_)
        · exact HC.out _ KQ
        clear hHeld hK K; have hHeld := hH2; clear hH2; try go_frame
        refine hyO (some 25) 9 rfl (fun K hK => ?_)
        go_simp
        go_at_call 23
        refine (HTB2.out _ _ _ xb).mono ?_
        rintro e wq ⟨v8, rfl, how8, bn⟩
        replace OW := own_past bn OW
        replace KQ := KQ.below bn KQ.lt
        replace BQ := BQ.trans (bn.mono BQ.size)
        replace SQ := Nat.le_trans SQ bn.size
        have xtb := own_BS how8
        clear how8 bn xb
        go_wp2_with fail
        refine hK.out _ _ ?_ (fun hH2 => ?_)
        · exact HC.out _ KQ
        clear hHeld hK K; have hHeld := hH2; clear hH2; try go_frame
        refine hyO (some 26) 10 rfl (fun K hK => ?_)
        refine wp_grow _ _ _ rfl (w.heap.size + 1) 5 i0 Tryd.underlying25 hi hz0 hz1 hz2 _ ([UInt8.ofNat (kn % 256)] ++ numb (u64 t) ++ texb la) rfl OW _ _ (texb lb) rfl xtb (by have := HLEN.out; simp; omega) SQ ?_
        intro v9 wq own9 g9 _
        replace KQ := KQ.grown g9 (own_ne OW (by omega))
        replace BQ := BQ.grown g9 BQ.size (fun g hg => by have := own_ge OW g hg; omega)
        replace SQ := Nat.le_trans SQ g9.size
        replace OW := own9
        clear own9 g9 xtb
        refine hK.out _ _ ?_ (fun hH2 => ?_)
        · exact HC.out _ KQ
        clear hHeld hK K; have hHeld := hH2; clear hH2; try go_frame
        refine hyY (some 2) 11 rfl hHeld ?_; go_frame
        refine hyY (some 3) 12 rfl hHeld ?_; go_frame
        refine wpAnyH_done (by kernel_rfl) ?_ _
        have hfin := HFIN.out wq v9 (own_BS OW) BQ
        have hKK := HKK.out
        clear hHeld HC HFIN OW KQ BQ SQ HLEN HCA HCB HTA2 HTB2
        go_wp2_with fail
        exact hfin
      · have hrb := fun g hg => (OW.lt g hg).2
        obtain ⟨cb, wq, hcv, xb, bn⟩ := HCB.out wq
        go_simp
        replace OW := own_past bn OW
        try replace xa := xa.below' bn
        try replace xta := xta.below' bn
        replace KQ := KQ.below bn KQ.lt
        replace BQ := BQ.trans (bn.mono BQ.size)
        replace SQ := Nat.le_trans SQ bn.size
        clear hcv bn
        refine hK.out _ _ ?_ (fun hH2 => ?_)
        · exact HC.out _ KQ
        clear hHeld hK K; have hHeld := hH2; clear hH2; try go_frame
        refine hyO (some 21) 5 rfl (fun K hK => ?_)
        refine wp_grow _ _ _ rfl (w.heap.size + 1) 5 i0 Tryd.underlying25 hi hz0 hz1 hz2 _ ([UInt8.ofNat (kn % 256)] ++ numb (u64 t)) rfl OW _ _ (texb la) rfl xta (by have := HLEN.out; simp; omega) SQ ?_
        intro v7 wq own7 g7 _
        replace KQ := KQ.grown g7 (own_ne OW (by omega))
        replace BQ := BQ.grown g7 BQ.size (fun g hg => by have := own_ge OW g hg; omega)
        replace SQ := Nat.le_trans SQ g7.size
        try replace xb := xb.grown g7 (fun g hg hs => by have := hrb g hg; have := hs.1; omega)
        replace OW := own7
        clear own7 g7 xta
        refine hK.out _ _ ?_ (fun hH2 => ?_)
        · exact HC.out _ KQ
        clear hHeld hK K; have hHeld := hH2; clear hH2; try go_frame
        refine hyO (some 25) 9 rfl (fun K hK => ?_)
        go_simp
        go_at_call 23
        refine (HTB2.out _ _ _ xb).mono ?_
        rintro e wq ⟨v8, rfl, how8, bn⟩
        replace OW := own_past bn OW
        replace KQ := KQ.below bn KQ.lt
        replace BQ := BQ.trans (bn.mono BQ.size)
        replace SQ := Nat.le_trans SQ bn.size
        have xtb := own_BS how8
        clear how8 bn xb
        go_wp2_with fail
        refine hK.out _ _ ?_ (fun hH2 => ?_)
        · exact HC.out _ KQ
        clear hHeld hK K; have hHeld := hH2; clear hH2; try go_frame
        refine hyO (some 26) 10 rfl (fun K hK => ?_)
        refine wp_grow _ _ _ rfl (w.heap.size + 1) 5 i0 Tryd.underlying25 hi hz0 hz1 hz2 _ ([UInt8.ofNat (kn % 256)] ++ numb (u64 t) ++ texb la) rfl OW _ _ (texb lb) rfl xtb (by have := HLEN.out; simp; omega) SQ ?_
        intro v9 wq own9 g9 _
        replace KQ := KQ.grown g9 (own_ne OW (by omega))
        replace BQ := BQ.grown g9 BQ.size (fun g hg => by have := own_ge OW g hg; omega)
        replace SQ := Nat.le_trans SQ g9.size
        replace OW := own9
        clear own9 g9 xtb
        refine hK.out _ _ ?_ (fun hH2 => ?_)
        · exact HC.out _ KQ
        clear hHeld hK K; have hHeld := hH2; clear hH2; try go_frame
        refine hyY (some 2) 11 rfl hHeld ?_; go_frame
        refine hyY (some 3) 12 rfl hHeld ?_; go_frame
        refine wpAnyH_done (by kernel_rfl) ?_ _
        have hfin := HFIN.out wq v9 (own_BS OW) BQ
        have hKK := HKK.out
        clear hHeld HC HFIN OW KQ BQ SQ HLEN HCA HCB HTA2 HTB2
        go_wp2_with fail
        exact hfin
    · have hrb := fun g hg => (OW.lt g hg).2
      obtain ⟨cb, wq, hcv, xb, bn⟩ := HCB.out wq
      go_simp
      replace OW := own_past bn OW
      try replace xa := xa.below' bn
      try replace xta := xta.below' bn
      replace KQ := KQ.below bn KQ.lt
      replace BQ := BQ.trans (bn.mono BQ.size)
      replace SQ := Nat.le_trans SQ bn.size
      clear hcv bn
      refine hK.out _ _ ?_ (fun hH2 => ?_)
      · exact HC.out _ KQ
      clear hHeld hK K; have hHeld := hH2; clear hH2; try go_frame
      refine hyO (some 20) 4 rfl (fun K hK => ?_)
      go_simp
      go_at_call 23
      refine (HTA2.out _ _ _ xa).mono ?_
      rintro e wq ⟨v6, rfl, how6, bn⟩
      replace OW := own_past bn OW
      try replace xb := xb.below' bn
      replace KQ := KQ.below bn KQ.lt
      replace BQ := BQ.trans (bn.mono BQ.size)
      replace SQ := Nat.le_trans SQ bn.size
      have xta := own_BS how6
      clear how6 bn xa
      go_wp2_with fail
      refine hK.out _ _ ?_ (fun hH2 => ?_)
      · exact HC.out _ KQ
      clear hHeld hK K; have hHeld := hH2; clear hH2; try go_frame
      refine hyO (some 21) 5 rfl (fun K hK => ?_)
      refine wp_grow _ _ _ rfl (w.heap.size + 1) 5 i0 Tryd.underlying25 hi hz0 hz1 hz2 _ ([UInt8.ofNat (kn % 256)] ++ numb (u64 t)) rfl OW _ _ (texb la) rfl xta (by have := HLEN.out; simp; omega) SQ ?_
      intro v7 wq own7 g7 _
      replace KQ := KQ.grown g7 (own_ne OW (by omega))
      replace BQ := BQ.grown g7 BQ.size (fun g hg => by have := own_ge OW g hg; omega)
      replace SQ := Nat.le_trans SQ g7.size
      try replace xb := xb.grown g7 (fun g hg hs => by have := hrb g hg; have := hs.1; omega)
      replace OW := own7
      clear own7 g7 xta
      refine hK.out _ _ ?_ (fun hH2 => ?_)
      · exact HC.out _ KQ
      clear hHeld hK K; have hHeld := hH2; clear hH2; try go_frame
      refine hyO (some 25) 9 rfl (fun K hK => ?_)
      go_simp
      go_at_call 23
      refine (HTB2.out _ _ _ xb).mono ?_
      rintro e wq ⟨v8, rfl, how8, bn⟩
      replace OW := own_past bn OW
      replace KQ := KQ.below bn KQ.lt
      replace BQ := BQ.trans (bn.mono BQ.size)
      replace SQ := Nat.le_trans SQ bn.size
      have xtb := own_BS how8
      clear how8 bn xb
      go_wp2_with fail
      refine hK.out _ _ ?_ (fun hH2 => ?_)
      · exact HC.out _ KQ
      clear hHeld hK K; have hHeld := hH2; clear hH2; try go_frame
      refine hyO (some 26) 10 rfl (fun K hK => ?_)
      refine wp_grow _ _ _ rfl (w.heap.size + 1) 5 i0 Tryd.underlying25 hi hz0 hz1 hz2 _ ([UInt8.ofNat (kn % 256)] ++ numb (u64 t) ++ texb la) rfl OW _ _ (texb lb) rfl xtb (by have := HLEN.out; simp; omega) SQ ?_
      intro v9 wq own9 g9 _
      replace KQ := KQ.grown g9 (own_ne OW (by omega))
      replace BQ := BQ.grown g9 BQ.size (fun g hg => by have := own_ge OW g hg; omega)
      replace SQ := Nat.le_trans SQ g9.size
      replace OW := own9
      clear own9 g9 xtb
      refine hK.out _ _ ?_ (fun hH2 => ?_)
      · exact HC.out _ KQ
      clear hHeld hK K; have hHeld := hH2; clear hH2; try go_frame
      refine hyY (some 2) 11 rfl hHeld ?_; go_frame
      refine hyY (some 3) 12 rfl hHeld ?_; go_frame
      refine wpAnyH_done (by kernel_rfl) ?_ _
      have hfin := HFIN.out wq v9 (own_BS OW) BQ
      have hKK := HKK.out
      clear hHeld HC HFIN OW KQ BQ SQ HLEN HCA HCB HTA2 HTB2
      go_wp2_with fail
      exact hfin
  · have hrb := fun g hg => (OW.lt g hg).2
    obtain ⟨cb, wq, hcv, xb, bn⟩ := HCB.out wq
    go_simp
    replace OW := own_past bn OW
    try replace xa := xa.below' bn
    try replace xta := xta.below' bn
    replace KQ := KQ.below bn KQ.lt
    replace BQ := BQ.trans (bn.mono BQ.size)
    replace SQ := Nat.le_trans SQ bn.size
    clear hcv bn
    refine hK.out _ _ ?_ (fun hH2 => ?_)
    · exact HC.out _ KQ
    clear hHeld hK K; have hHeld := hH2; clear hH2; try go_frame
    refine hyO (some 19) 3 rfl (fun K hK => ?_)
    obtain ⟨ca, wq, hcv, xa, bn⟩ := HCA.out wq
    go_simp
    replace OW := own_past bn OW
    try replace xb := xb.below' bn
    replace KQ := KQ.below bn KQ.lt
    replace BQ := BQ.trans (bn.mono BQ.size)
    replace SQ := Nat.le_trans SQ bn.size
    clear hcv bn
    refine hK.out _ _ ?_ (fun hH2 => ?_)
    · exact HC.out _ KQ
    clear hHeld hK K; have hHeld := hH2; clear hH2; try go_frame
    refine hyO (some 20) 4 rfl (fun K hK => ?_)
    go_simp
    go_at_call 23
    refine (HTA2.out _ _ _ xa).mono ?_
    rintro e wq ⟨v6, rfl, how6, bn⟩
    replace OW := own_past bn OW
    try replace xb := xb.below' bn
    replace KQ := KQ.below bn KQ.lt
    replace BQ := BQ.trans (bn.mono BQ.size)
    replace SQ := Nat.le_trans SQ bn.size
    have xta := own_BS how6
    clear how6 bn xa
    go_wp2_with fail
    refine hK.out _ _ ?_ (fun hH2 => ?_)
    · exact HC.out _ KQ
    clear hHeld hK K; have hHeld := hH2; clear hH2; try go_frame
    refine hyO (some 21) 5 rfl (fun K hK => ?_)
    refine wp_grow _ _ _ rfl (w.heap.size + 1) 5 i0 Tryd.underlying25 hi hz0 hz1 hz2 _ ([UInt8.ofNat (kn % 256)] ++ numb (u64 t)) rfl OW _ _ (texb la) rfl xta (by have := HLEN.out; simp; omega) SQ ?_
    intro v7 wq own7 g7 _
    replace KQ := KQ.grown g7 (own_ne OW (by omega))
    replace BQ := BQ.grown g7 BQ.size (fun g hg => by have := own_ge OW g hg; omega)
    replace SQ := Nat.le_trans SQ g7.size
    try replace xb := xb.grown g7 (fun g hg hs => by have := hrb g hg; have := hs.1; omega)
    replace OW := own7
    clear own7 g7 xta
    refine hK.out _ _ ?_ (fun hH2 => ?_)
    · exact HC.out _ KQ
    clear hHeld hK K; have hHeld := hH2; clear hH2; try go_frame
    refine hyO (some 25) 9 rfl (fun K hK => ?_)
    go_simp
    go_at_call 23
    refine (HTB2.out _ _ _ xb).mono ?_
    rintro e wq ⟨v8, rfl, how8, bn⟩
    replace OW := own_past bn OW
    replace KQ := KQ.below bn KQ.lt
    replace BQ := BQ.trans (bn.mono BQ.size)
    replace SQ := Nat.le_trans SQ bn.size
    have xtb := own_BS how8
    clear how8 bn xb
    go_wp2_with fail
    refine hK.out _ _ ?_ (fun hH2 => ?_)
    · exact HC.out _ KQ
    clear hHeld hK K; have hHeld := hH2; clear hH2; try go_frame
    refine hyO (some 26) 10 rfl (fun K hK => ?_)
    refine wp_grow _ _ _ rfl (w.heap.size + 1) 5 i0 Tryd.underlying25 hi hz0 hz1 hz2 _ ([UInt8.ofNat (kn % 256)] ++ numb (u64 t) ++ texb la) rfl OW _ _ (texb lb) rfl xtb (by have := HLEN.out; simp; omega) SQ ?_
    intro v9 wq own9 g9 _
    replace KQ := KQ.grown g9 (own_ne OW (by omega))
    replace BQ := BQ.grown g9 BQ.size (fun g hg => by have := own_ge OW g hg; omega)
    replace SQ := Nat.le_trans SQ g9.size
    replace OW := own9
    clear own9 g9 xtb
    refine hK.out _ _ ?_ (fun hH2 => ?_)
    · exact HC.out _ KQ
    clear hHeld hK K; have hHeld := hH2; clear hH2; try go_frame
    refine hyY (some 2) 11 rfl hHeld ?_; go_frame
    refine hyY (some 3) 12 rfl hHeld ?_; go_frame
    refine wpAnyH_done (by kernel_rfl) ?_ _
    have hfin := HFIN.out wq v9 (own_BS OW) BQ
    have hKK := HKK.out
    clear hHeld HC HFIN OW KQ BQ SQ HLEN HCA HCB HTA2 HTB2
    go_wp2_with fail
    exact hfin
end
section
open Go.RowKit
theorem str_size (l : List UInt8) : (⟨l.toArray⟩ : ByteArray).size = l.length := rfl
theorem txt_at (l : List UInt8) (k : Nat) (x : UInt8) (hx : l[k]? = some x) : ∀ W : World, (Instr.index 9 (.string ⟨l.toArray⟩) (.int .i64 (k : Int))).run Tryd.prog W = .ok (.int .u8 (x.toNat : Int)) W := fun W => by
  have hk := (List.getElem?_eq_some_iff.1 hx).1
  have hs : (⟨l.toArray⟩ : ByteArray).size = l.length := rfl
  rw [run_index_string W 9 ⟨l.toArray⟩ .i64 (k : Int) Tryd.underlying9, dif_pos ⟨by omega, by rw [hs]; omega⟩]
  simp only [Int.toNat_natCast]
  have e : (⟨l.toArray⟩ : ByteArray)[k]'(by rw [hs]; exact hk) = x := by
    have := (List.getElem?_eq_some_iff.1 hx).2
    exact this
  rw [e]
theorem txt_to (l : List UInt8) (k : Nat) (hk : k ≤ l.length) : ∀ W : World, (Instr.slice 9 (.string ⟨l.toArray⟩) none (some (.int .i64 (k : Int))) none).run Tryd.prog W = .ok (.string ⟨(l.take k).toArray⟩) W := fun W => by
  rw [run_slice_string_to_if W 9 ⟨l.toArray⟩ .i64 (k : Int) Tryd.underlying9, if_pos ⟨by omega, by rw [str_size]; omega⟩, Int.toNat_natCast, ByteArray.extract_mk]
  simp
theorem txt_mid (l : List UInt8) (i j : IntKind) (a b : Nat) (hab : a ≤ b) (hb : b ≤ l.length) : ∀ W : World, (Instr.slice 9 (.string ⟨l.toArray⟩) (some (.int i (a : Int))) (some (.int j (b : Int))) none).run Tryd.prog W = .ok (.string ⟨((l.drop a).take (b - a)).toArray⟩) W := fun W => by
  rw [run_slice_string W 9 ⟨l.toArray⟩ i j (a : Int) (b : Int) Tryd.underlying9 (by omega) (by omega) (by rw [str_size]; omega), Int.toNat_natCast, Int.toNat_natCast, ByteArray.extract_mk]
theorem txt_from (l : List UInt8) (k : Nat) (hk : k ≤ l.length) : ∀ W : World, (Instr.slice 9 (.string ⟨l.toArray⟩) (some (.int .i64 (k : Int))) none none).run Tryd.prog W = .ok (.string ⟨(l.drop k).toArray⟩) W := fun W => by
  rw [run_slice_string_from_if W 9 ⟨l.toArray⟩ .i64 (k : Int) Tryd.underlying9, if_pos ⟨by omega, by rw [str_size]; omega⟩, Int.toNat_natCast, ByteArray.extract_mk]
  have : ((l.drop k).take (l.length - k)) = l.drop k := List.take_of_length_le (by simp)
  simp [str_size, this]
theorem txt_add (l m : List UInt8) (h : l.length + m.length ≤ 9223372036854775807) : ∀ W : World, (Op.stringOp .add ⟨l.toArray⟩ ⟨m.toArray⟩).run Tryd.prog W = .ok (.string ⟨(l ++ m).toArray⟩) W := fun W => by
  rw [run_string_add_sum W _ _ (by rw [str_size, str_size]; exact h), ByteArray.mk_append_mk]
end
section
open Go.RowKit
theorem digit_one_fin : ∀ r : Fin 10, (([48, 49, 50, 51, 52, 53, 54, 55, 56, 57] : List UInt8).drop r.val).take (r.val + 1 - r.val) = [UInt8.ofNat (48 + r.val)] := by decide
theorem digit_txt (r : Nat) (hr : r < 10) : ∀ W : World, (Instr.slice 9 (.string { data := #[48, 49, 50, 51, 52, 53, 54, 55, 56, 57] }) (some (.int .u64 (r : Int))) (some (.int .u64 ((r : Int) + 1))) none).run Tryd.prog W = .ok (.string ⟨[UInt8.ofNat (48 + r)].toArray⟩) W := fun W => by
  have h := txt_mid [48, 49, 50, 51, 52, 53, 54, 55, 56, 57] .u64 .u64 r (r + 1) (by omega) (by simp; omega) W
  rw [digit_one_fin ⟨r, hr⟩] at h
  exact h
def restD (m : Nat) : List UInt8 := if m = 0 then [] else Lib.decDigits m
theorem digits_step (m : Nat) : Lib.decDigits m = restD (m / 10) ++ [UInt8.ofNat (48 + m % 10)] := by
  unfold restD
  by_cases h : m < 10
  · rw [if_pos (by omega), Lib.decDigits_one h, Nat.mod_eq_of_lt h]; rfl
  · rw [if_neg (by omega), Lib.decDigits, dif_neg h]
theorem rest_step {m : Nat} {t l : List UInt8} (h0 : 0 < m) (h : restD m ++ t = l) : restD (m / 10) ++ (UInt8.ofNat (48 + m % 10) :: t) = l := by
  rw [← h]
  have e : restD m = Lib.decDigits m := by unfold restD; rw [if_neg (by omega)]
  rw [e, digits_step m, List.append_assoc]
  rfl
set_option maxHeartbeats 2000000 in
theorem tell_any (n : Nat) (hn : n < 18446744073709551616) (w : World) :
    Calls Tryd.prog 44 #[.int .u64 (n : Int)] w fun e w' => e = .returned (strV (Lib.decDigits n)) ∧ w = w' := by
  obtain ⟨r, hr⟩ : ∃ r, r = n % 10 := ⟨_, rfl⟩
  obtain ⟨q, hq⟩ : ∃ q, q = n / 10 := ⟨_, rfl⟩
  have er : Int.tmod (n : Int) 10 = (r : Int) := by rw [hr]; rfl
  have eq : Int.tdiv (n : Int) 10 = (q : Int) := by rw [hq]; rfl
  have hr10 : r < 10 := by omega
  have hdt := digit_txt r hr10
  have hst : Hid (restD q ++ [UInt8.ofNat (48 + r)] = Lib.decDigits n) := by rw [hq, hr]; exact (digits_step n).symm
  have hlen : (Lib.decDigits n).length ≤ 20 := by rw [Lib.decDigits_length]; exact Lib.nDigits_le20 n hn
  obtain ⟨l, hl⟩ : ∃ l, l = Lib.decDigits n := ⟨_, rfl⟩
  rw [← hl] at hst hlen ⊢
  have hq2 : q ≤ n := by omega
  unfold strV
  obtain ⟨t0, ht0⟩ : ∃ t, t = [UInt8.ofNat (48 + r)] := ⟨_, rfl⟩
  rw [← ht0] at hst hdt
  obtain ⟨s0, hs0⟩ : ∃ s : ByteArray, s = ⟨t0.toArray⟩ := ⟨_, rfl⟩
  rw [← hs0] at hdt
  have HS0 := Lib.hid hs0
  obtain ⟨lv, hlv⟩ : ∃ s : ByteArray, s = ⟨l.toArray⟩ := ⟨_, rfl⟩
  rw [← hlv]
  have HLV := Lib.hid hlv
  have HLEN := Lib.hid hlen
  clear hl ht0 hs0 hlv hr hq hlen
  go_enter Tryd.func44, Tryd.ntmps44
  go_wp2
  clear er eq hr10 hdt
  go_loop [0, 3] (fun nv sv => ∃ (m : Nat) (t : List UInt8) (s : ByteArray), m ≤ n ∧ nv = .int .u64 m ∧ sv = .string s ∧ Hid (s = ⟨t.toArray⟩) ∧ Hid (restD m ++ t = l)) (fun nv _ => (intOf nv).toNat)
  case atStart => exact ⟨q, t0, s0, hq2, rfl, rfl, HS0, hst⟩
  case round =>
    obtain ⟨m, t, s, hmn, rfl, rfl, hs, ht⟩ := hrel
    by_cases h0 : 0 < m
    · obtain ⟨r2, hr⟩ : ∃ r, r = m % 10 := ⟨_, rfl⟩
      obtain ⟨q2, hq⟩ : ∃ q, q = m / 10 := ⟨_, rfl⟩
      have er : Int.tmod (m : Int) 10 = (r2 : Int) := by rw [hr]; rfl
      have eq : Int.tdiv (m : Int) 10 = (q2 : Int) := by rw [hq]; rfl
      have hr10 : r2 < 10 := by omega
      have hdt := digit_txt r2 hr10
      have ht2 := rest_step h0 ht.out
      rw [← hr, ← hq] at ht2
      have hlt : t.length ≤ 20 := by
        have := congrArg List.length ht.out
        rw [List.length_append] at this
        have := HLEN.out
        omega
      have hadd := txt_add [UInt8.ofNat (48 + r2)] t (by simp; omega)
      rw [← hs.out] at hadd
      obtain ⟨s1, hs1⟩ : ∃ s : ByteArray, s = ⟨[UInt8.ofNat (48 + r2)].toArray⟩ := ⟨_, rfl⟩
      obtain ⟨s2, hs2⟩ : ∃ s : ByteArray, s = ⟨([UInt8.ofNat (48 + r2)] ++ t).toArray⟩ := ⟨_, rfl⟩
      rw [← hs1] at hdt hadd
      rw [← hs2] at hadd
      have HS2 := Lib.hid hs2
      have HT2 := Lib.hid ht2
      have hq3 : q2 < m := by omega
      clear hs1 hs2 ht2 hs ht hlt hr hq HLEN HLV HS0 hst
      go_wp2
      go_round
      case rel => exact ⟨q2, [UInt8.ofNat (48 + r2)] ++ t, s2, by omega, by go_num, rfl, HS2, HT2⟩
      case measure => simp [intOf]; omega
    · obtain rfl : m = 0 := by omega
      have e : lv = s := by
        rw [HLV.out, hs.out, ← ht.out]
        rfl
      subst e
      clear hs ht HLEN HLV HS0 hst
      go_wp2
      go_ret
      exact ⟨rfl, rfl⟩
end
section
open Go.RowKit
theorem wtell_any (n : Nat) (hn : n ≤ 1099511627776) (w : World) :
    Calls Tryd.prog 28 #[.int .i64 (n : Int)] w fun e w' => e = .returned (strV (Lib.decDigits n)) ∧ w = w' := by
  have ht := tell_any n (by omega)
  generalize strV (Lib.decDigits n) = v at *
  go_enter Tryd.func28, Tryd.ntmps28
  go_wp2_with (go_at_call 44; refine (ht _).mono ?_; rintro e w' ⟨rfl, rfl⟩)
  go_ret
  exact ⟨rfl, rfl⟩
theorem wadd (s t u : ByteArray) (l m : List UInt8) (hs : s = ⟨l.toArray⟩) (ht : t = ⟨m.toArray⟩) (hu : u = ⟨(l ++ m).toArray⟩) (h : l.length + m.length ≤ 9223372036854775807) : ∀ W : World, (Op.stringOp .add s t).run Tryd.prog W = .ok (.string u) W := by
  subst hs ht hu
  exact txt_add l m h
end
section
open Go.RowKit Go.ChangeShapes Go.WideShapes Go.Joins
theorem words14 : ∀ j : Nat, j < 14 → (#[.string { data := #[115, 99, 104, 101, 100, 117, 108, 101] }, .string { data := #[99, 97, 115, 101] }, .string { data := #[115, 117, 98, 106, 101, 99, 116] }, .string { data := #[105, 110, 103, 101, 115, 116] }, .string { data := #[109, 105, 108, 101] }, .string { data := #[114, 101, 99, 108, 97, 115, 115] }, .string { data := #[104, 111, 108, 100] }, .string { data := #[114, 101, 108, 101, 97, 115, 101] }, .string { data := #[97, 109, 101, 110, 100] }, .string { data := #[112, 117, 114, 103, 101] }, .string { data := #[101, 114, 97, 115, 101] }, .string { data := #[115, 104, 114, 101, 100] }, .string { data := #[107, 101, 101, 112] }, .string { data := #[114, 101, 100, 97, 99, 116] }] : Array Value)[j]? = some (strV (wordE ((j : Int) + 1)))
  | 0, _ => rfl
  | 1, _ => rfl
  | 2, _ => rfl
  | 3, _ => rfl
  | 4, _ => rfl
  | 5, _ => rfl
  | 6, _ => rfl
  | 7, _ => rfl
  | 8, _ => rfl
  | 9, _ => rfl
  | 10, _ => rfl
  | 11, _ => rfl
  | 12, _ => rfl
  | 13, _ => rfl
  | j + 14, h => by omega
theorem word_len : ∀ j : Nat, j < 14 → (wordE ((j : Int) + 1)).length ≤ 8
  | 0, _ => by decide
  | 1, _ => by decide
  | 2, _ => by decide
  | 3, _ => by decide
  | 4, _ => by decide
  | 5, _ => by decide
  | 6, _ => by decide
  | 7, _ => by decide
  | 8, _ => by decide
  | 9, _ => by decide
  | 10, _ => by decide
  | 11, _ => by decide
  | 12, _ => by decide
  | 13, _ => by decide
  | j + 14, h => by omega
def tailE (n : List UInt8) : List UInt8 := if n = [] then [] else [32] ++ n
theorem text_is {x : Ev} (h : mayE x = true) : textE x = Lib.decDigits x.tick.toNat ++ [32] ++ wordE x.kind ++ tailE x.a ++ tailE x.b := by
  unfold textE toksE tailE
  rw [if_pos h]
  by_cases ha : x.a = [] <;> by_cases hb : x.b = [] <;> simp [ha, hb, joinW]
set_option maxHeartbeats 8000000 in
theorem evtext_any (x : Ev) (v : Value) (w : World) (hv : EvV v x) :
    Calls Tryd.prog 13 #[v] w fun e w' => e = .returned (strV (textE x)) ∧ Below w.heap.size w w' := by
  have HM := Lib.hid (fun W => evmay_any x v W hv)
  obtain ⟨rfl, hk, ht, hla, hlb⟩ := hv
  have K := (KB.new w 23 #[.int .i64 x.kind, .int .i64 x.tick, strV x.a, strV x.b]).alloc (.cells #[.string { data := #[115, 99, 104, 101, 100, 117, 108, 101] }, .string { data := #[99, 97, 115, 101] }, .string { data := #[115, 117, 98, 106, 101, 99, 116] }, .string { data := #[105, 110, 103, 101, 115, 116] }, .string { data := #[109, 105, 108, 101] }, .string { data := #[114, 101, 99, 108, 97, 115, 115] }, .string { data := #[104, 111, 108, 100] }, .string { data := #[114, 101, 108, 101, 97, 115, 101] }, .string { data := #[97, 109, 101, 110, 100] }, .string { data := #[112, 117, 114, 103, 101] }, .string { data := #[101, 114, 97, 115, 101] }, .string { data := #[115, 104, 114, 101, 100] }, .string { data := #[107, 101, 101, 112] }, .string { data := #[114, 101, 100, 97, 99, 116] }] 9)
  have B := ((Below.refl w.heap.size w).alloc (Nat.le_refl _) (.cells #[.int .i64 x.kind, .int .i64 x.tick, strV x.a, strV x.b] 23)).alloc (by simp) (.cells #[.string { data := #[115, 99, 104, 101, 100, 117, 108, 101] }, .string { data := #[99, 97, 115, 101] }, .string { data := #[115, 117, 98, 106, 101, 99, 116] }, .string { data := #[105, 110, 103, 101, 115, 116] }, .string { data := #[109, 105, 108, 101] }, .string { data := #[114, 101, 99, 108, 97, 115, 115] }, .string { data := #[104, 111, 108, 100] }, .string { data := #[114, 101, 108, 101, 97, 115, 101] }, .string { data := #[97, 109, 101, 110, 100] }, .string { data := #[112, 117, 114, 103, 101] }, .string { data := #[101, 114, 97, 115, 101] }, .string { data := #[115, 104, 114, 101, 100] }, .string { data := #[107, 101, 101, 112] }, .string { data := #[114, 101, 100, 97, 99, 116] }] 9)
  have J := KB.new (w.alloc (.cells #[.int .i64 x.kind, .int .i64 x.tick, strV x.a, strV x.b] 23)) 9 #[.string { data := #[115, 99, 104, 101, 100, 117, 108, 101] }, .string { data := #[99, 97, 115, 101] }, .string { data := #[115, 117, 98, 106, 101, 99, 116] }, .string { data := #[105, 110, 103, 101, 115, 116] }, .string { data := #[109, 105, 108, 101] }, .string { data := #[114, 101, 99, 108, 97, 115, 115] }, .string { data := #[104, 111, 108, 100] }, .string { data := #[114, 101, 108, 101, 97, 115, 101] }, .string { data := #[97, 109, 101, 110, 100] }, .string { data := #[112, 117, 114, 103, 101] }, .string { data := #[101, 114, 97, 115, 101] }, .string { data := #[115, 104, 114, 101, 100] }, .string { data := #[107, 101, 101, 112] }, .string { data := #[114, 101, 100, 97, 99, 116] }]
  rw [World.size_alloc] at J
  obtain ⟨D, hD⟩ : ∃ D : Ending → World → Prop, D = fun e w' => e = .returned (strV (textE x)) ∧ Below w.heap.size w w' := ⟨_, rfl⟩
  rw [← hD]
  have HNO : Hid (mayE x = false → ∀ W, Below w.heap.size w W → D (.returned (.string ⟨#[]⟩)) W) := fun h W hb => by
    rw [hD]; unfold textE; rw [if_neg (by rw [h]; decide)]; exact ⟨rfl, hb⟩
  have HYES : Hid (mayE x = true → ∃ j tn : Nat, j < 14 ∧ x.kind = (j : Int) + 1 ∧ x.tick = (tn : Int) ∧ tn ≤ 1099511627776 ∧ x.a.length ≤ 16 ∧ x.b.length ≤ 16 ∧ ∀ W u, u = strV (Lib.decDigits tn ++ [32] ++ wordE ((j : Int) + 1) ++ tailE x.a ++ tailE x.b) → Below w.heap.size w W → D (.returned u) W) := fun h => by
    obtain ⟨h1, h2, h3, h4⟩ := (mayE_iff x).1 h
    refine ⟨(x.kind - 1).toNat, x.tick.toNat, by omega, by omega, by omega, by omega, nameE_len h3, nameE_len h4, fun W u hu hb => ?_⟩
    rw [hD, hu, text_is h, show (((x.kind - 1).toNat : Nat) : Int) + 1 = x.kind by omega]
    exact ⟨rfl, hb⟩
  clear hD
  obtain ⟨sa, hsa⟩ : ∃ s : ByteArray, s = ⟨x.a.toArray⟩ := ⟨_, rfl⟩
  obtain ⟨sb, hsb⟩ : ∃ s : ByteArray, s = ⟨x.b.toArray⟩ := ⟨_, rfl⟩
  have hva : strV x.a = .string sa := by rw [hsa]; rfl
  have hvb : strV x.b = .string sb := by rw [hsb]; rfl
  have hm := HM.out
  rw [hva, hvb] at hm K J B ⊢
  replace HM := Lib.hid hm
  have HSA := Lib.hid hsa
  have HSB := Lib.hid hsb
  clear hm hsa hsb hva hvb hla hlb
  generalize x.kind = k at *
  generalize x.tick = t at *
  generalize x.a = la at *
  generalize x.b = lb at *
  generalize mayE x = m at *
  obtain ⟨AR, hAR⟩ : ∃ AR : Array Value, AR = #[.string { data := #[115, 99, 104, 101, 100, 117, 108, 101] }, .string { data := #[99, 97, 115, 101] }, .string { data := #[115, 117, 98, 106, 101, 99, 116] }, .string { data := #[105, 110, 103, 101, 115, 116] }, .string { data := #[109, 105, 108, 101] }, .string { data := #[114, 101, 99, 108, 97, 115, 115] }, .string { data := #[104, 111, 108, 100] }, .string { data := #[114, 101, 108, 101, 97, 115, 101] }, .string { data := #[97, 109, 101, 110, 100] }, .string { data := #[112, 117, 114, 103, 101] }, .string { data := #[101, 114, 97, 115, 101] }, .string { data := #[115, 104, 114, 101, 100] }, .string { data := #[107, 101, 101, 112] }, .string { data := #[114, 101, 100, 97, 99, 116] }] := ⟨_, rfl⟩
  go_enter Tryd.func13, Tryd.ntmps13
  go_wp2_with fail
  rw [← hAR] at K J B ⊢
  refine (HM.out _).mono ?_
  rintro e w1 ⟨rfl, b1⟩
  have K1 := K.below b1 K.lt
  have J1 := J.below b1 J.lt
  have B1 := B.trans (b1.mono B.size)
  have HAR := Lib.hid hAR
  clear HM K J B b1 hAR
  cases m with
  | false =>
    have hfin := HNO.out rfl _ B1
    clear HNO HYES HSA HSB HAR K1 J1
    go_wp2_with fail
    exact hfin
  | true =>
  obtain ⟨j, tn, hj, rfl, rfl, htn, a16, b16, hfin⟩ := HYES.out rfl
  have HFIN := Lib.hid hfin
  clear HNO HYES hfin hk ht
  have hword : AR[j]? = some (strV (wordE ((j : Int) + 1))) := by rw [HAR.out]; exact words14 j hj
  have cw := J1.cell j
  rw [hword] at cw
  have hdl := digits_len htn
  have hwl := word_len j hj
  have HT := Lib.hid (fun W => wtell_any tn htn W)
  have h1 : IntKind.i64.wrap ((j : Int) + 1 - 1) = (j : Int) := by rw [IntKind.wrap_i64]; omega
  have h2 : wrap64 ((j : Int) + 1 - 1) = (j : Int) := by rw [IntWalk.wrap64_in _ (by omega)]; omega
  have hjI : (j : Int) < 14 := by omega
  have h3 : IntKind.i64.wrap (j : Int) = (j : Int) := by rw [IntKind.wrap_i64]; omega
  generalize hW : wordE ((j : Int) + 1) = wd at *
  generalize hDg : Lib.decDigits tn = dg at *
  clear hW hDg hword HAR
  obtain ⟨sw, hsw⟩ : ∃ s : ByteArray, s = ⟨wd.toArray⟩ := ⟨_, rfl⟩
  obtain ⟨sd, hsd⟩ : ∃ s : ByteArray, s = ⟨dg.toArray⟩ := ⟨_, rfl⟩
  obtain ⟨u1, hu1⟩ : ∃ s : ByteArray, s = ⟨(dg ++ [32]).toArray⟩ := ⟨_, rfl⟩
  obtain ⟨u2, hu2⟩ : ∃ s : ByteArray, s = ⟨(dg ++ [32] ++ wd).toArray⟩ := ⟨_, rfl⟩
  have f1 := wadd sd ⟨#[32]⟩ u1 dg [32] hsd rfl hu1 (by simp; omega)
  have f2 := wadd u1 sw u2 (dg ++ [32]) wd hu1 hsw hu2 (by simp; omega)
  have hvw : strV wd = .string sw := by rw [hsw]; rfl
  have hvd : strV dg = .string sd := by rw [hsd]; rfl
  have ht := HT.out
  rw [hvd] at ht
  rw [hvw] at cw
  replace HT := Lib.hid ht
  have HU2 := Lib.hid hu2
  have e1 := zeq_nil sa la HSA.out
  have e2 := zeq_nil sb lb HSB.out
  clear hsw hsd hu1 hu2 hvw hvd ht
  go_upto_region 4 with fail
  go_cut [4] from 9 to 19 (fun s4 wc => s4 = .string u2 ∧ KB wc w.heap.size 23 #[.int .i64 ((j : Int) + 1), .int .i64 (tn : Int), .string sa, .string sb] ∧ Below w.heap.size w wc)
  case first =>
    have hS : w1.drew.cell? ⟨w.heap.size, 0, none⟩ = some (.int .i64 ((j : Int) + 1)) ∧ w1.drew.cell? ⟨w.heap.size, 1, none⟩ = some (.int .i64 (tn : Int)) ∧ w1.drew.cell? ⟨w.heap.size + 1, j, none⟩ = some (.string sw) := ⟨K1.cell 0, K1.cell 1, cw⟩
    have KD : KB w1.drew w.heap.size 23 #[.int .i64 ((j : Int) + 1), .int .i64 (tn : Int), .string sa, .string sb] := K1
    have BD : Below w.heap.size w w1.drew := Below_drawn B1 1
    clear HFIN cw K1 B1 J1
    refine wp_region_held_drew (S := (fun W => W.cell? ⟨w.heap.size, 0, none⟩ = some (.int .i64 ((j : Int) + 1)) ∧ W.cell? ⟨w.heap.size, 1, none⟩ = some (.int .i64 (tn : Int)) ∧ W.cell? ⟨w.heap.size + 1, j, none⟩ = some (.string sw))) (by kernel_rfl) hS (fun hHeld => ?_)
    generalize w1.drew = wq at *
    refine hyY (some 9) 0 rfl hHeld ?_; go_frame
    refine hyY (some 10) 1 rfl hHeld ?_; go_frame
    refine hyY (some 13) 4 rfl hHeld ?_; go_frame
    refine hyY (some 14) 5 rfl hHeld ?_; go_frame
    refine hyY (some 15) 6 rfl hHeld ?_; go_frame
    refine hyY (some 16) 7 rfl hHeld ?_; go_frame
    refine hyY (some 17) 8 rfl hHeld ?_; go_frame
    refine hyY (some 18) 9 rfl hHeld ?_; go_frame
    refine hyO (some 11) 2 rfl (fun K hK => ?_)
    go_simp
    go_at_call 28
    refine (HT.out _).mono ?_
    rintro e wn ⟨rfl, rfl⟩
    go_wp2_with fail
    refine hK.out _ _ ?_ (fun hH2 => ?_)
    · exact hS
    clear hHeld hK K; have hHeld := hH2; clear hH2; try go_frame
    refine hyY (some 12) 3 rfl hHeld ?_; go_frame
    refine hyY (some 19) 10 rfl hHeld ?_; go_frame
    refine hyY (some 4) 11 rfl hHeld ?_; go_frame
    refine wpAnyH_done (by kernel_rfl) ?_ _
    clear hHeld HT hS
    go_wp2_with fail
    go_meet
    exact ⟨rfl, KD, BD⟩
  case rest =>
  obtain ⟨rfl, KQ, BQ⟩ := hcut
  have q2 := KQ.cell 2
  have q3 := KQ.cell 3
  clear K1 J1 B1 cw HT
  by_cases ha : la = []
  · rw [decide_eq_true ha] at e1
    obtain ⟨x1, x2, x3⟩ := e1
    have y0 : sa.toList = [] := by simpa using x1
    by_cases hb : lb = []
    · rw [decide_eq_true hb] at e2
      obtain ⟨g1, g2, g3⟩ := e2
      have h0 : sb.toList = [] := by simpa using g1
      have hfin := HFIN.out wc (.string u2) (by rw [HU2.out, hb]; unfold tailE; simp [strV, ha]) BQ
      clear HFIN HU2 HSA HSB hb KQ BQ f1 f2
      go_wp2_with fail
      exact hfin
    · rw [decide_eq_false hb] at e2
      obtain ⟨g1, g2, g3⟩ := e2
      have h0 : ¬ sb.toList = [] := by simpa using g1
      obtain ⟨v1, hv1⟩ : ∃ s : ByteArray, s = ⟨(dg ++ [32] ++ wd ++ [32]).toArray⟩ := ⟨_, rfl⟩
      obtain ⟨v2, hv2⟩ : ∃ s : ByteArray, s = ⟨(dg ++ [32] ++ wd ++ [32] ++ lb).toArray⟩ := ⟨_, rfl⟩
      have p1 := wadd u2 ⟨#[32]⟩ v1 (dg ++ [32] ++ wd) [32] HU2.out rfl hv1 (by simp; omega)
      have p2 := wadd v1 sb v2 (dg ++ [32] ++ wd ++ [32]) lb hv1 HSB.out hv2 (by simp; omega)
      have hfin := HFIN.out wc (.string v2) (by rw [hv2]; unfold tailE; rw [if_neg hb]; simp [strV, ha]) BQ
      clear HFIN HU2 HSA HSB hb KQ BQ f1 f2 hv1 hv2
      go_wp2_with fail
      exact hfin
  · rw [decide_eq_false ha] at e1
    obtain ⟨x1, x2, x3⟩ := e1
    have y0 : ¬ sa.toList = [] := by simpa using x1
    obtain ⟨u3, hu3⟩ : ∃ s : ByteArray, s = ⟨(dg ++ [32] ++ wd ++ [32]).toArray⟩ := ⟨_, rfl⟩
    obtain ⟨u4, hu4⟩ : ∃ s : ByteArray, s = ⟨(dg ++ [32] ++ wd ++ [32] ++ la).toArray⟩ := ⟨_, rfl⟩
    have r1 := wadd u2 ⟨#[32]⟩ u3 (dg ++ [32] ++ wd) [32] HU2.out rfl hu3 (by simp; omega)
    have r2 := wadd u3 sa u4 (dg ++ [32] ++ wd ++ [32]) la hu3 HSA.out hu4 (by simp; omega)
    have HU4 := Lib.hid hu4
    clear hu3 hu4
    by_cases hb : lb = []
    · rw [decide_eq_true hb] at e2
      obtain ⟨g1, g2, g3⟩ := e2
      have h0 : sb.toList = [] := by simpa using g1
      have hfin := HFIN.out wc (.string u4) (by rw [HU4.out, hb]; unfold tailE; simp [strV, ha]) BQ
      clear HFIN HU2 HSA HSB hb KQ BQ f1 f2
      go_wp2_with fail
      exact hfin
    · rw [decide_eq_false hb] at e2
      obtain ⟨g1, g2, g3⟩ := e2
      have h0 : ¬ sb.toList = [] := by simpa using g1
      obtain ⟨v1, hv1⟩ : ∃ s : ByteArray, s = ⟨(dg ++ [32] ++ wd ++ [32] ++ la ++ [32]).toArray⟩ := ⟨_, rfl⟩
      obtain ⟨v2, hv2⟩ : ∃ s : ByteArray, s = ⟨(dg ++ [32] ++ wd ++ [32] ++ la ++ [32] ++ lb).toArray⟩ := ⟨_, rfl⟩
      have p1 := wadd u4 ⟨#[32]⟩ v1 (dg ++ [32] ++ wd ++ [32] ++ la) [32] HU4.out rfl hv1 (by simp; omega)
      have p2 := wadd v1 sb v2 (dg ++ [32] ++ wd ++ [32] ++ la ++ [32]) lb hv1 HSB.out hv2 (by simp; omega)
      have hfin := HFIN.out wc (.string v2) (by rw [hv2]; unfold tailE; rw [if_neg hb]; simp [strV, ha]) BQ
      clear HFIN HU2 HSA HSB hb KQ BQ f1 f2 hv1 hv2
      go_wp2_with fail
      exact hfin
end
end Go.Proofs.YtpeopkjmmmodpaaDoor
