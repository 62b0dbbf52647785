/-
  WalOpensW: The law WalOpens over the loaded program: whatever stands in a log, spoilt or not, Open does what the document's Opened does of the image. No condition but the table roots.
-/
import Derived.Test.YtgoifhpinoodgaaDoorWo35
import Derived.Test.YtgoifhpinoodgaaDoorWo46
import Derived.Test.YtgoifhpinoodgaaDoorWo47
import Derived.Deep.CutRange
import Derived.Deep.RegionHeld3

section
namespace Go.Proofs.YtgoifhpinoodgaaDoor
open Go.RowKit Go.ChangeShapes Go.WideShapes Go.Joins
set_option maxRecDepth 100000
set_option linter.unusedVariables false

/-- What '|' makes of a byte and one. -/
theorem or_byte (a : UInt8) : bits .or .u8 (a.toNat : Int) 1 = ((a ||| 1).toNat : Int) := by
  have ha := a.toNat_lt
  have hx : a.toNat ||| 1 < 2 ^ 8 := Nat.or_lt_two_pow (by omega) (by omega)
  have h1 : (BitVec.ofInt 8 (a.toNat : Int)).toNat = a.toNat := by
    rw [BitVec.ofInt_natCast, BitVec.toNat_ofNat]; exact Nat.mod_eq_of_lt (by omega)
  have h2 : (BitVec.ofInt 8 (1 : Int)).toNat = 1 := by decide
  have h3 : (a ||| 1).toNat = a.toNat ||| 1 := UInt8.toNat_or a 1
  show IntKind.u8.wrap ((BitVec.ofInt 8 (a.toNat : Int) ||| BitVec.ofInt 8 (1 : Int)).toNat : Int) = _
  rw [BitVec.toNat_or, h1, h2, IntKind.wrap_u8, h3]
  omega

/-- Spoils that came in: a sector, a byte. -/
abbrev Sp := Int × UInt8
def SS (w : World) (v : Value) (l : List Sp) : Prop :=
  ∃ A c, v = .slice A l.length c ∧ l.length ≤ c ∧ c ≤ maxLen ∧
    (0 < l.length → ∃ b o, A = some ⟨b, o, none⟩ ∧ b < w.heap.size ∧ ∀ j q, l[j]? = some q → w.cell? ⟨b, o + j * 2, none⟩ = some (.int .i64 q.1) ∧ w.cell? ⟨b, o + j * 2 + 1, none⟩ = some (.int .u8 (q.2.toNat : Int)))
theorem SS.below {w w' : World} {v : Value} {l : List Sp} (h : SS w v l) (hb : Below w.heap.size w w') : SS w' v l := by
  obtain ⟨A, c, e, hl, hc, hx⟩ := h
  refine ⟨A, c, e, hl, hc, fun h0 => ?_⟩
  obtain ⟨b, o, ea, hlt, hx⟩ := hx h0
  have hk := hb.block b hlt
  refine ⟨b, o, ea, Nat.lt_of_lt_of_le hlt hb.size, fun j q hj => ?_⟩
  obtain ⟨h1, h2⟩ := hx j q hj
  exact ⟨(World.cell?_of_block (w := w) hk).trans h1, (World.cell?_of_block (w := w) hk).trans h2⟩

/-- A disk of 24 sectors whose power does not go. -/
structure St (w : World) (p : DA) (wr : World) (s : Dk) : Prop where
  ds : DS wr p s
  len : s.safe.length = 24
  fuse : s.fuse = -1
  bl : Below w.heap.size w wr
section
variable {w wr wn : World} {p : DA} {s : Dk}
theorem St.below (h : St w p wr s) (hb : Below wr.heap.size wr wn) : St w p wn s := ⟨h.ds.below hb, h.len, h.fuse, h.bl.trans (hb.mono h.bl.size)⟩
theorem St.keep (h : St w p wr s) (hp : From p w.heap.size) (hk : KeepP (Off p wr) wr wn) {s' : Dk} (hd : DS wn p s') (hl : s'.safe.length = s.safe.length) (hf : s'.fuse = s.fuse) : St w p wn s' :=
  ⟨hd, by rw [hl, h.len], by rw [hf, h.fuse], h.bl.trans (hk.off h.bl.size hp)⟩
theorem St.live (h : St w p wr s) : s.fuse ≠ 0 := by rw [h.fuse]; decide
theorem wrote_fuse (h : s.fuse = -1) (i : Nat) (l : List UInt8) : (s.wrote i l).acted.fuse = s.fuse := by
  show (if 0 < s.fuse then s.fuse - 1 else s.fuse) = _
  rw [h]
  rfl
/-- Write. -/
theorem St.write (h : St w p wr s) (hp : From p w.heap.size) (i : Nat) (hi : i < 24) {S : Nat → Prop} {v : Value} {l : List UInt8} (hv : BS wr S v l) (hl : l.length = 256) :
    Calls Tryd.prog 11 #[.pointer (some ⟨p.d, 0, none⟩), .int .i64 (i : Int), v] wr fun e w' => e = .returned (.int .i64 0) ∧ (∃ s', St w p w' s') ∧ KeepP (Off p wr) wr w' :=
  (write_ok h.ds i (by rw [h.len]; exact hi) h.live S v l hv hl).mono fun e w' ⟨h1, h2, h3⟩ => ⟨h1, ⟨_, h.keep hp h3 h2 rfl (wrote_fuse h.fuse i l)⟩, h3⟩
theorem flushed_fuse_never (h : s.fuse = -1) : s.flushed.fuse = s.fuse := by
  show (if 0 < s.fuse then s.fuse - 1 else s.fuse) = _
  rw [h]
  rfl
theorem now_256 (h : s.ok) (i : Nat) (hi : i < s.safe.length) : (s.now i).length = 256 := by
  unfold Dk.now
  cases hp : s.pend i with
  | some l => exact (h.pend i l hp).2
  | none =>
    rw [Option.getD_none, List.getD_eq_getElem?_getD, List.getElem?_eq_getElem hi]
    exact h.len _ (List.getElem_mem hi)
end

theorem opens_long (n : Int) (n1 n2 : Nat) (A1 A2 : Option Addr) (c1 c2 : Nat) (w : World) (ht : Tab w) (h : 20 < n1 ∨ 20 < n2 ∨ n < 2 ∨ 20 < n) : Calls Tryd.prog 3 #[.int .i64 n, .slice A1 n1 c1, .slice A2 n2 c2] w (YesW w) := by
  have hlv := live10_any w ht
  by_cases h0 : 20 < n1
  · have D0 : decide ((20 : Int) < (n1 : Int)) = true := decide_eq_true (by omega)
    go_enter Tryd.func3, Tryd.ntmps3
    go_wp2_with fail
    refine hlv.mono ?_
    rintro e wb ⟨rfl, bb⟩
    go_wp2_with fail
    go_ret
    exact ⟨rfl, bb⟩
  · have D0 : decide ((20 : Int) < (n1 : Int)) = false := decide_eq_false (by omega)
    by_cases h1 : 20 < n2
    · have D1 : decide ((20 : Int) < (n2 : Int)) = true := decide_eq_true (by omega)
      go_enter Tryd.func3, Tryd.ntmps3
      go_wp2_with fail
      refine hlv.mono ?_
      rintro e wb ⟨rfl, bb⟩
      go_wp2_with fail
      go_ret
      exact ⟨rfl, bb⟩
    · have D1 : decide ((20 : Int) < (n2 : Int)) = false := decide_eq_false (by omega)
      by_cases h2 : n < 2
      · have D2 : decide (n < 2) = true := decide_eq_true h2
        go_enter Tryd.func3, Tryd.ntmps3
        go_wp2_with fail
        refine hlv.mono ?_
        rintro e wb ⟨rfl, bb⟩
        go_wp2_with fail
        go_ret
        exact ⟨rfl, bb⟩
      · have D2 : decide (n < 2) = false := decide_eq_false h2
        have D3 : decide (20 < n) = true := decide_eq_true (by omega)
        go_enter Tryd.func3, Tryd.ntmps3
        go_wp2_with fail
        refine hlv.mono ?_
        rintro e wb ⟨rfl, bb⟩
        go_wp2_with fail
        go_ret
        exact ⟨rfl, bb⟩

set_option maxHeartbeats 8000000 in
theorem opens_walk (n : Nat) (l1 : List Pu) (l2 : List Sp) (v1 v2 : Value) (w : World) (ht : Tab w) (h1 : US w v1 l1) (h2 : SS w v2 l2) (k1 : l1.length ≤ 20) (k2 : l2.length ≤ 20) (n2 : 2 ≤ n) (n20 : n ≤ 20) :
    Calls Tryd.prog 3 #[.int .i64 n, v1, v2] w (YesW w) := by
  have hof := ofl_any v1 l1 w h1 (by omega)
  obtain ⟨A1, c1, rfl, _⟩ := h1
  have H2 := Lib.hid h2
  obtain ⟨A2, c2, rfl, hl2c, hl2m, _⟩ := h2
  have D0 : decide ((20 : Int) < (l1.length : Int)) = false := decide_eq_false (by omega)
  have D1 : decide ((20 : Int) < (l2.length : Int)) = false := decide_eq_false (by omega)
  have D2 : decide ((n : Int) < 2) = false := decide_eq_false (by omega)
  have D3 : decide ((20 : Int) < (n : Int)) = false := decide_eq_false (by omega)
  have hr0 := ht.1
  obtain ⟨p1, hp1⟩ : ∃ p1, p1 = l1.map ptOf := ⟨_, rfl⟩
  rw [← hp1] at hof
  have hpl : p1.length ≤ 20 := by rw [hp1, List.length_map]; exact k1
  clear hp1 k1
  go_enter Tryd.func3, Tryd.ntmps3
  go_wp2_with fail
  refine hof.mono ?_
  rintro e w1 ⟨vp, rfl, ps1, b1⟩
  obtain ⟨Ap, cp, rfl, _⟩ := ps1.form
  clear hof
  go_wp2_with fail
  refine (new_made 24 w1 (by omega) (by omega)).mono ?_
  rintro e w2 ⟨p, rfl, d2, fp1, b2⟩
  have fp : From p w.heap.size := fun x hx => by have := fp1 x hx; have := b1.size; omega
  have htp : ¬ p.has 0 := fun h => by have := fp _ h; omega
  have S2 : St w p w2 (blank 24) := ⟨d2, blank_len 24, blank_fuse 24, b1.trans (b2.mono b1.size)⟩
  have ps2 : PS w2 (Off p w2) (.slice Ap p1.length cp) p1 := (ps1.below' b2).mono fun x hx => ⟨Nat.lt_of_lt_of_le hx.2 b2.size, fun h => by have := fp1 x h; omega⟩
  have hrr := rright_any _ _ p1 n 24 w2 ps2 (by omega)
  obtain ⟨rp, hrp⟩ : ∃ rp, rp = rightP n ((24 : Nat) : Int) p1 := ⟨_, rfl⟩
  rw [← hrp] at hrr
  have HRP := Lib.hid hrp
  have HPL := Lib.hid hpl
  clear d2 fp1 b1 b2 ps1 hrp hpl
  obtain ⟨pn, hpn⟩ : ∃ pn, pn = p1.length := ⟨_, rfl⟩
  rw [← hpn] at ps2 hrr ⊢
  have HPN := Lib.hid hpn
  clear hpn
  go_wp2_with fail
  with_reducible refine (num10_any 0 _).mono ?_
  rintro e w' ⟨rfl, rfl⟩
  go_upto_region 7 with fail
  go_cut [56] from 48 to 56 (fun v wc => ∃ b : Bool, v = .bool b ∧ Below w2.heap.size w2 wc ∧ (b = true → rp = 0 ∧ 0 < pn))
  case first =>
    go_wp2_with fail
    refine hrr.mono ?_
    rintro e w3 ⟨rfl, b3⟩
    by_cases hz : rp = 0
    · have hz1 : (rp == 0) = true := by rw [hz]; rfl
      have hz0 := Lib.hid hz
      clear hz
      go_wp2_with fail
      go_meet
      exact ⟨_, rfl, b3, fun hb => ⟨hz0.out, by simpa using hb⟩⟩
    · have hz1 : (rp == 0) = false := by simp [hz]
      clear hz
      go_wp2_with fail
      go_meet
      exact ⟨_, rfl, b3, fun hb => by cases hb⟩
  case rest =>
    obtain ⟨bg, rfl, b3, hbg⟩ := hcut
    obtain ⟨w3, rfl⟩ : ∃ w3, w3 = wc := ⟨_, rfl⟩
    have S3 := S2.below b3
    have ps3 := ps2.off_below b3
    have HBG := Lib.hid hbg
    clear S2 ps2 b3 hrr hbg
    go_upto_if 56 with fail
    go_cut [] from 57 to 78 (fun wc => ∃ s, St w p wc s)
    case first =>
      cases bg with
      | false =>
        go_wp2_with fail
        go_meet
        exact ⟨_, S3⟩
      | true =>
        obtain ⟨hz, hpos⟩ := HBG.out rfl
        have hzz : rightP n ((24 : Nat) : Int) p1 = 0 := by rw [← HRP.out]; exact hz
        obtain ⟨htk, hroom⟩ := right_zero hzz
        have hlg := rlogged_any _ _ p1 w3 ps3 (fun q hq => by have := takes_at htk hq; omega) (by have := HPL.out; omega)
        have hE2 := entries_256 (p := p1) fun q hq => (takes_at htk hq).2.2
        have hEl := entries_len p1
        have hHl := headL_len p1.length (entriesL p1)
        have hfit := room_fits hroom
        rw [← HPN.out] at hlg hHl
        have hel20 : (entriesL p1).length ≤ 20 := by omega
        generalize entriesL p1 = EL at *
        generalize headL pn EL = hd at *
        have HE2 : Hid (∀ (j : Nat) (l : List UInt8), EL[j]? = some l → l.length = 256) := fun j l hj => hE2 l (List.mem_of_getElem? hj)
        have HHL := Lib.hid hHl
        clear hz hzz htk hroom hE2 hEl hHl hfit ps3 hpos
        go_wp2_with fail
        refine hlg.mono ?_
        rintro e w4 ⟨vo, vh, rfl, lo, bh, b4⟩
        have S4 := S3.below b4
        have hlt3 := S3.ds.lt
        have lo4 : LS w4 (Off p w4) vo EL := lo.mono fun x hx => ⟨hx.2, fun h => by have := hlt3 x h; omega⟩
        obtain ⟨Ao, co, rfl, _⟩ := lo.form
        obtain ⟨Ah, ch, rfl, _⟩ := bh.form
        have hwr := S4.write fp 0 (by omega) bh HHL.out
        rw [HHL.out] at hwr ⊢
        clear hlg S3 b4 lo hlt3 bh
        go_wp2_with fail
        refine hwr.mono ?_
        rintro e w5 ⟨rfl, ⟨s5, S5⟩, k5⟩
        have lo5 := lo4.off k5
        clear hwr S4 k5 lo4
        go_wp2_with fail
        go_loopw [12] (fun iv wr => ∃ (k : Nat) (s : Dk), k ≤ EL.length ∧ iv = .int .i64 k ∧ St w p wr s ∧ LS wr (Off p wr) (.slice Ao EL.length co) EL) (fun iv _ => EL.length - (intOf iv).toNat)
        case atStart => exact ⟨0, _, Nat.zero_le _, rfl, S5, lo5⟩
        case round =>
          clear S5 lo5
          obtain ⟨k, s, hk, rfl, S6, lo6⟩ := hrel
          by_cases hlt : k < EL.length
          · obtain ⟨bo, oo, rfl, _, _, hx⟩ := lo6.at_ (by omega)
            obtain ⟨l, hv⟩ : ∃ l, EL[k]? = some l := ⟨_, List.getElem?_eq_getElem hlt⟩
            obtain ⟨X, z, k0, bs⟩ := hx k l hv
            have hwr := S6.write fp (1 + k) (by omega) bs (HE2.out k l hv)
            rw [show ((1 + k : Nat) : Int) = (1 : Int) + (k : Int) by omega] at hwr
            clear hx hv bs
            go_wp2_with fail
            refine hwr.mono ?_
            rintro e w7 ⟨rfl, ⟨s7, S7⟩, k7⟩
            have lo7 := lo6.off k7
            clear hwr S6 k7 lo6 k0
            go_wp2_with fail
            go_roundw
            case rel => exact ⟨k + 1, _, by omega, by go_num, S7, lo7⟩
            case measure => simp [intOf]; omega
          · obtain rfl : k = EL.length := by omega
            go_wp2_with fail
            go_meet
            exact ⟨_, S6⟩
    case rest =>
      obtain ⟨s4, S4⟩ := hcut
      obtain ⟨w4, rfl⟩ : ∃ w4, w4 = wc := ⟨_, rfl⟩
      clear S3 ps3 HBG HRP HPN HPL
      go_wp2_with fail
      refine (full_any 5 w4).mono ?_
      rintro e w5 ⟨rfl, k5, b5⟩
      have S5 := S4.below b5
      have hwr := S5.write fp 23 (by omega) (kb_full k5) (full_len 5)
      clear S4 b5 k5
      go_wp2_with fail
      refine hwr.mono ?_
      rintro e w6 ⟨rfl, ⟨s6, S6⟩, _⟩
      clear hwr S5
      go_wp2_with fail
      go_loopw [13] (fun iv wr => ∃ (k : Nat) (s : Dk), k ≤ l2.length ∧ iv = .int .i64 k ∧ St w p wr s) (fun iv _ => l2.length - (intOf iv).toNat)
      case atStart => exact ⟨0, _, Nat.zero_le _, rfl, S6⟩
      case round =>
        clear S6
        obtain ⟨k, s, hk, rfl, S6⟩ := hrel
        by_cases hlt : k < l2.length
        · obtain ⟨A', c', e', _, _, hx⟩ := H2.out.below S6.bl
          injection e' with e1 _ e3
          subst e1 e3
          obtain ⟨bs, os, rfl, hbs, hx⟩ := hx (by omega)
          obtain ⟨⟨at_, cb⟩, hv⟩ : ∃ q, l2[k]? = some q := ⟨_, List.getElem?_eq_getElem hlt⟩
          obtain ⟨x0, x1⟩ := hx k _ hv
          dsimp only at x0 x1
          clear hx hv
          by_cases hin : 0 ≤ at_ ∧ at_ < 24
          · obtain ⟨i, rfl⟩ := Int.eq_ofNat_of_zero_le hin.1
            have hi : i < 24 := by omega
            have hrd := read_ok S6.ds i (by rw [S6.len]; exact hi) S6.live
            have hn := now_256 S6.ds.ok i (by rw [S6.len]; exact hi)
            have hi0 : (i : Int) < 24 := by omega
            clear hin
            generalize s.now i = ln at *
            go_wp2_with fail
            refine hrd.mono ?_
            rintro e w7 ⟨v7, rfl, how7, b7⟩
            obtain ⟨gx, cx, rfl, hgx, ow7⟩ := Own.of how7 (by omega)
            have S7 := S6.below b7
            have y0 : w7.cell? ⟨bs, os + k * 2, none⟩ = some (.int .i64 (i : Int)) := (World.cell?_of_block (w := wr) (b7.block bs hbs)).trans x0
            have y1 : w7.cell? ⟨bs, os + k * 2 + 1, none⟩ = some (.int .u8 (cb.toNat : Int)) := (World.cell?_of_block (w := wr) (b7.block bs hbs)).trans x1
            have hgb : bs ≠ gx := by omega
            have hgp : ¬ p.has gx := fun h => by have := S6.ds.lt _ h; omega
            have hwg : w.heap.size ≤ gx := by have := S6.bl.size; omega
            rw [hn]
            have HN := Lib.hid hn
            have hcb := cb.toNat_lt
            obtain ⟨ci, hci⟩ : ∃ ci, ci = cb.toNat := ⟨_, rfl⟩
            obtain ⟨xb, hxb⟩ : ∃ x, ln[ci]? = some x := ⟨_, List.getElem?_eq_getElem (by omega)⟩
            have q1 : w7.cell? ⟨gx, ci, none⟩ = some (.int .u8 (xb.toNat : Int)) := by
              obtain ⟨_, _, ea, _, _, hc⟩ := ow7.BS.at_ (by omega)
              injection ea with ea
              injection ea with ea eo
              subst ea eo
              have := hc ci xb hxb
              rw [Nat.zero_add] at this
              exact this
            have o1 := or_byte cb
            have o2 := xor_byte xb (cb ||| 1)
            have ow8 := fun (W : World) (h : Own W gx ln cx) => h.set ci (xb ^^^ (cb ||| 1))
            unfold bv at ow8
            rw [← o1] at o2
            rw [← o2] at ow8
            obtain ⟨cv, hcv⟩ : ∃ cv : Int, cv = (cb.toNat : Int) := ⟨_, rfl⟩
            obtain ⟨xv, hxv⟩ : ∃ xv : Int, xv = (xb.toNat : Int) := ⟨_, rfl⟩
            rw [← hcv] at y1 ow8
            rw [← hxv] at q1 ow8
            have r0 : (0 : Int) ≤ cv := by omega
            have r1 : cv < 256 := by omega
            have r2 : cv.tmod 256 = cv := Int.tmod_eq_of_lt r0 r1
            have r3 : cv % 256 = cv := Int.emod_eq_of_lt r0 r1
            have r4 : cv.toNat = ci := by omega
            have r5 : (0 : Int) ≤ cv ∧ cv < 256 := ⟨r0, r1⟩
            have r6 : IntKind.i64.wrap cv = cv := by rw [IntWalk.i64_in _ (by omega)]
            have hfree := ow7.free ci
            have HOW8 := Lib.hid ow8
            clear hrd how7 b7 S6 x0 x1 hn hcb hci hxb o1 o2 ow8 hcv hxv
            go_wp2_with fail
            with_reducible refine (num10_any 0 _).mono ?_
            rintro e w' ⟨rfl, rfl⟩
            go_wp2_with fail
            clear H2 hl2c hl2m
            go_region
            have zb : (xb ^^^ (cb ||| 1)) = (xb ^^^ (cb ||| 1)) := rfl
            obtain ⟨V, hV⟩ : ∃ V, V = Value.int IntKind.u8 (bits BinOp.xor IntKind.u8 xv (bits BinOp.or IntKind.u8 cv 1)) := ⟨_, rfl⟩
            have ow8 := HOW8.out w7 ow7
            rw [← hV] at ow8 ⊢
            have B8 := (S7.bl.setCell (p := ⟨gx, ci, none⟩) hwg V)
            have S8 : St w p (w7.setCell ⟨gx, ci, none⟩ V).drew s := ⟨S7.ds.keep fun x hx => Below.heap_setCell _ ⟨gx, ci, none⟩ _ x (fun e => by subst e; exact hgp hx), S7.len, S7.fuse, Below_drawn B8 1⟩
            have y8 : (w7.setCell ⟨gx, ci, none⟩ V).drew.cell? ⟨bs, os + k * 2, none⟩ = some (.int .i64 (i : Int)) := (World.cell?_of_block (w := w7) (Below.heap_setCell _ ⟨gx, ci, none⟩ _ _ hgb)).trans y0
            have bs8 : BS (w7.setCell ⟨gx, ci, none⟩ V).drew (fun b => b = gx) (.slice (some ⟨gx, 0, none⟩) 256 cx) (ln.set ci (xb ^^^ (cb ||| 1))) := by
              have := ow8.BS
              rw [List.length_set, HN.out] at this
              exact this
            have hwr := S8.write fp i hi bs8 (by rw [List.length_set, HN.out])
            clear ow8 HOW8 B8 bs8 hV zb S7 y0 y1 q1 hfree r2 r3 r4 r5 r6 ow7
            generalize (w7.setCell ⟨gx, ci, none⟩ V).drew = w8 at *
            go_wp2_with fail
            refine hwr.mono ?_
            rintro e w9 ⟨rfl, ⟨s9, S9⟩, _⟩
            clear hwr S8
            go_wp2_with fail
            go_roundw
            case rel => exact ⟨k + 1, _, by omega, by go_num, S9⟩
            case measure => simp [intOf]; omega
          · have hchk : chk s at_ = 5 := by
              unfold chk
              rw [if_neg S6.live, if_pos (by rw [S6.len]; omega)]
            have hrd := read_chk S6.ds at_ (by rw [hchk]; decide)
            rw [hchk] at hrd
            clear hin hchk
            go_wp2_with fail
            refine hrd.mono ?_
            rintro e w' ⟨rfl, rfl⟩
            go_wp2_with fail
            with_reducible refine (num10_any 5 _).mono ?_
            rintro e w' ⟨rfl, rfl⟩
            go_wp2_with fail
            go_roundw
            case rel => exact ⟨k + 1, _, by omega, by go_num, S6⟩
            case measure => simp [intOf]; omega
        · obtain rfl : k = l2.length := by omega
          have hff : s.flushed.fuse = s.fuse := flushed_fuse_never S6.fuse
          have hfl := flush_ok S6.ds S6.live
          clear H2 hl2c hl2m hlt hk
          go_wp2_with fail
          refine hfl.mono ?_
          rintro e w7 ⟨rfl, d7, k7⟩
          have S7 : St w p w7 s.flushed := S6.keep fp k7 d7 (flushed_len s) hff
          have hcalm : s.flushed.calm := fun _ => rfl
          clear hfl S6 d7 k7 hff
          generalize s.flushed = t at *
          obtain ⟨e1, e2, e3⟩ := open_image (n := n) hcalm S7.fuse (by rw [S7.len]; omega)
          have him := image_any S7.ds
          go_wp2_with fail
          refine him.mono ?_
          rintro e w8 ⟨vs8, rfl, k8, o8, b8⟩
          have ls8 := Told44.ls k8 o8 (by rw [S7.len]; unfold maxLen; omega)
          have S8 := S7.below b8
          have hlt7 := S7.ds.lt
          have hop := ropened_any _ _ t.safe n w8 ls8 (by rw [S7.len]; omega) (by rw [S7.len]; omega) S7.ds.ok.len
          obtain ⟨P, hP⟩ : ∃ P, P = leftB n t.safe.length t.safe := ⟨_, rfl⟩
          rw [← hP] at hop e1 e3
          obtain ⟨Z, hZ⟩ : ∃ Z, Z = zeroK (n + 1) (doneL t.safe P) := ⟨_, rfl⟩
          rw [← hZ] at hop e3
          have l24 := S7.len
          rw [l24] at hop ⊢
          clear him k8 o8 b8 ls8 hP hZ S7
          go_wp2_with fail
          refine hop.mono ?_
          rintro e w9 ⟨v9, rfl, ls9, b9⟩
          have S9 := S8.below b9
          have hlt8 := S8.ds.lt
          have ls9' : LS w9 (Off p w9) v9 Z := ls9.mono fun x hx => ⟨hx.2, fun h => by have := hlt8 x h; omega⟩
          have hgo := open_go n S9.ds n2 (by rw [S9.len]; omega) (ht.below S9.bl) htp
          rw [e1] at hgo
          clear hop ls9 b9 S8
          go_wp2_with fail
          refine hgo.mono ?_
          rintro e wa ⟨da, ka, h14, _⟩
          obtain ⟨lg, rfl, _, _⟩ := h14 (by first | exact e2 | trivial)
          have Ba := ka.off S9.bl.size fp
          have Ba := S9.bl.trans Ba
          have lsa := ls9'.off ka
          obtain ⟨Az, cz, rfl, _⟩ := lsa.form
          have hla : (openD n t).1.safe.length = 24 := by rw [openD_len, l24]
          generalize (openD n t).1 = u at *
          have him2 := image_any da
          clear hgo ka h14 S9 ls9' e2 e1 hcalm
          go_wp2_with fail
          with_reducible refine (num10_any 0 _).mono ?_
          rintro e w' ⟨rfl, rfl⟩
          go_wp2_with fail
          refine him2.mono ?_
          rintro e wb ⟨vsb, rfl, kb, ob, bb⟩
          rw [hla]
          have lsb := Told44.ls kb ob (by rw [hla]; unfold maxLen; omega)
          have Bb := Ba.trans (bb.mono Ba.size)
          have hsm := sameAll_any _ _ _ _ _ _ wb lsb (lsa.below' bb)
          rw [decide_eq_true e3, hla] at hsm
          clear him2 kb ob bb lsb lsa e3 hla
          generalize Z.length = zl at *
          go_wp2_with fail
          refine hsm.mono ?_
          rintro e wc ⟨rfl, bc⟩
          have Bc := Bb.trans (bc.mono Bb.size)
          have hlv := live10_any wc (ht.below Bc)
          clear hsm
          go_wp2_with fail
          refine hlv.mono ?_
          rintro e wd ⟨rfl, bd⟩
          go_wp2_with fail
          go_ret
          exact ⟨rfl, Bc.trans (bd.mono Bc.size)⟩
end Go.Proofs.YtgoifhpinoodgaaDoor
end
