/-
  MarkS: The document's Put of layer 4, over the loaded program: its contract. No condition.
  SeR: The document's own Put and Empty (layer 9), over the loaded program: each one's contract. No condition but that a kind is a number of 64 bits.
  ShaX: Hex, and the document's own Hex: each one's contract over the loaded program. No condition.
  ShaK: The document's own keys: its contract over the loaded program. No condition.
-/
import Derived.Test.YtgoifhpinoodgaaDoorWo38
import Derived.Test.YtgoifhpinoodgaaDoorWo17
import Derived.Test.YtgoifhpinoodgaaDoorWo27
import Derived.Test.YtgoifhpinoodgaaDoorWo18
import Derived.Test.YtgoifhpinoodgaaDoorWo36
import Derived.Test.YtgoifhpinoodgaaDoorWo15
import Derived.Test.YtgoifhpinoodgaaDoorWo04
import Derived.Laws.Concat

section
namespace Go.Proofs.YtgoifhpinoodgaaDoor
open Go.RowKit Gau
set_option maxRecDepth 100000
set_option linter.unusedVariables false

theorem fixB_two (x : Nat) (h : x < 65536) : fixB 2 x = [UInt8.ofNat (x / 256), UInt8.ofNat (x % 256)] := by
  show ([] ++ [UInt8.ofNat (x / 256 % 256)]) ++ [UInt8.ofNat (x % 256)] = _
  rw [show x / 256 % 256 = x / 256 by omega]; rfl
theorem mput_fix (z : G) : fixB 2 z.re.val ++ fixB 2 z.im.val = mput z := by
  have h1 := z.re.isLt
  have h2 := z.im.isLt
  rw [fixB_two _ (by omega), fixB_two _ (by omega)]; rfl

/-- The two bytes of a number. -/
def TwoOf (n : Int) (l : List UInt8) : Prop := ∃ x : Nat, x < 65536 ∧ n = (x : Int) ∧ l = fixB 2 x
theorem fixed_two (n : Int) (l : List UInt8) (h : TwoOf n l) (w : World) : Calls Tryd.prog 26 #[.int .u64 n, .int .i64 2] w fun e w' => Fresh w e w' l := by
  obtain ⟨x, hx, rfl, rfl⟩ := h
  exact fixed_any x 2 w (by omega) (by omega)

theorem rput_any (S : Nat → Prop) (v : Value) (l : List UInt8) (w : World) (h : BS w S v l) :
    Calls Tryd.prog 60 #[v] w fun e w' => Fresh w e w' (mput (mk l)) := by
  obtain ⟨i0, hi, hz0, hz1, hz2⟩ := info_parts info_byte
  have ho := rmark_any S v l w h
  obtain ⟨A, c, rfl, _⟩ := h.form
  generalize mk l = z at *
  clear h
  have hx1 : z.re.val < 65536 := by have := z.re.isLt; omega
  have hx2 : z.im.val < 65536 := by have := z.im.isLt; omega
  have HP : Hid (fixB 2 z.re.val ++ fixB 2 z.im.val = mput z) := mput_fix z
  unfold rz at ho
  generalize z.re.val = x1 at *
  generalize z.im.val = x2 at *
  generalize mput z = L at *
  have T1 : TwoOf (x1 : Int) (fixB 2 x1) := ⟨x1, hx1, rfl, rfl⟩
  have T2 : TwoOf (x2 : Int) (fixB 2 x2) := ⟨x2, hx2, rfl, rfl⟩
  have W1 : IntKind.u64.wrap (x1 : Int) = x1 := by rw [IntWalk.u64_in _ (by omega)]
  have W2 : IntKind.u64.wrap (x2 : Int) = x2 := by rw [IntWalk.u64_in _ (by omega)]
  have l1 := fixB_length 2 x1
  have l2 := fixB_length 2 x2
  generalize fixB 2 x1 = L1 at *
  generalize fixB 2 x2 = L2 at *
  generalize (x1 : Int) = r at *
  generalize (x2 : Int) = i at *
  go_enter Tryd.func60, Tryd.ntmps60
  go_wp2_with fail
  refine ho.mono ?_
  rintro e w1 ⟨rfl, b1⟩
  go_wp2
  have kz := KB.new w1 114 #[.int .i64 r, .int .i64 i]
  have B1 := b1.alloc b1.size (.cells #[.int .i64 r, .int .i64 i] 114)
  have hB : w.heap.size ≤ w1.heap.size := b1.size
  clear b1 ho
  generalize w1.alloc (.cells #[.int .i64 r, .int .i64 i] 114) = w2 at *
  have K : KB w2.drew w1.heap.size 114 #[.int .i64 r, .int .i64 i] := kz
  have B : Below w.heap.size w w2.drew := Below_drawn B1 1
  have c0 : w2.cell? ⟨w1.heap.size, 0, none⟩ = some (.int .i64 r) := kz.cell 0
  have c1 : w2.cell? ⟨w1.heap.size, 1, none⟩ = some (.int .i64 i) := kz.cell 1
  clear kz B1
  go_region_held3 (fun w' => w'.cell? ⟨w1.heap.size, 0, none⟩ = some (.int .i64 r) ∧ w'.cell? ⟨w1.heap.size, 1, none⟩ = some (.int .i64 i))
    (first | exact ⟨K.cell 0, K.cell 1⟩ | go_keep)
    (first
      | (go_at_call 26; refine (fixed_two _ _ (by assumption) _).mono ?_; rintro e w5 ⟨v, rfl, how, b5⟩; (first | (replace how1 := own_past b5 how1; have how2 := own_base (B := w1.heap.size + 1) how K.lt) | have how1 := own_base (B := w1.heap.size + 1) how K.lt); clear how; replace K := K.below b5 K.lt; replace B := B.trans (b5.mono B.size); clear b5)
      | (refine step_grow rfl _ _ _ rfl (w1.heap.size + 1) 5 i0 Tryd.underlying34 hi hz0 hz1 hz2 _ L1 rfl how1 _ _ L2 rfl (own_BS how2) (by omega) K.lt ?_; intro v3 w6 how3 hg3 _; have hne := own_ne how1 (Nat.lt_succ_self w1.heap.size); replace K := K.grown hg3 hne))
  go_wp2
  go_ret
  rw [HP.out] at how3
  exact ⟨_, rfl, own_base how3 (by omega), B.grown hg3 B.size fun k hk => Nat.le_trans (by omega) (own_ge how1 k hk)⟩
end Go.Proofs.YtgoifhpinoodgaaDoor
end

section
namespace Go.Proofs.YtgoifhpinoodgaaDoor
open Go.RowKit Gau
set_option maxRecDepth 100000
set_option linter.unusedVariables false

def sliceLen : Value → Nat | .slice _ n _ => n | _ => 0

theorem rempty_any (S : Nat → Prop) (v : Value) (l : List UInt8) (w : World) (h : BS w S v l) :
    Calls Tryd.prog 77 #[v] w fun e w' => e = .returned (.bool (decide (l = zs 256))) ∧ Below w.heap.size w w' := by
  obtain ⟨A, c, rfl, _⟩ := h.form
  obtain ⟨C, hC, hmk⟩ := make_256 w
  have b1 := (Below.refl w.heap.size w).alloc (Nat.le_refl _) (.cells C 5)
  have k1 : KB (w.alloc (.cells C 5)) w.heap.size 5 ((zs 256).map bv).toArray := by rw [← hC]; exact KB.new _ _ _
  have hs := same_is _ _ _ _ _ _ _ (h.below' b1) (kb_256 k1 (zs_len 256))
  clear hC k1 h
  go_enter Tryd.func77, Tryd.ntmps77
  go_wp2_with fail
  refine hs.mono ?_
  rintro e w2 ⟨rfl, b2⟩
  go_wp2
  go_ret
  exact ⟨rfl, b1.trans (b2.mono b1.size)⟩

theorem rput_kind (k : Int) (hk : k < 1 ∨ 255 < k) (S : Nat → Prop) (v : Value) (l : List UInt8) (w : World) (h : BS w S v l) :
    Calls Tryd.prog 27 #[.int .i64 k, v] w (SectAs w ([], 1)) := by
  obtain ⟨A, c, rfl, _⟩ := h.form
  have hn := sect_none w 1
  clear h
  by_cases h1 : k < 1
  · clear hk
    go_enter Tryd.func27, Tryd.ntmps27
    go_wp2
    go_ret2
    exact hn
  · have h2 : 255 < k := by omega
    clear hk
    go_enter Tryd.func27, Tryd.ntmps27
    go_wp2
    go_ret2
    exact hn
theorem rput_long (k : Int) (hk : ¬ k < 1) (h2 : ¬ 255 < k) (S : Nat → Prop) (v : Value) (l : List UInt8) (h3 : 249 < l.length) (w : World) (h : BS w S v l) :
    Calls Tryd.prog 27 #[.int .i64 k, v] w (SectAs w ([], 3)) := by
  obtain ⟨A, c, rfl, _⟩ := h.form
  have hn := sect_none w 3
  have h4 : (249 : Int) < l.length := by omega
  clear h
  go_enter Tryd.func27, Tryd.ntmps27
  go_wp2
  go_ret2
  exact hn

theorem hd3_fix (k : UInt8) (n : Nat) (h : n < 65536) : [k] ++ fixB 2 n = hd3 k n := by rw [fixB_two n h]; rfl

set_option maxRecDepth 100000 in
set_option maxHeartbeats 1000000 in
theorem rput_yes (k : Int) (hk : ¬ k < 1) (h2 : ¬ 255 < k) (S : Nat → Prop) (v : Value) (l : List UInt8) (h3 : ¬ 249 < l.length) (w : World) (h : BS w S v l) :
    Calls Tryd.prog 27 #[.int .i64 k, v] w (SectAs w (fullS (UInt8.ofNat k.toNat) l, 0)) := by
  obtain ⟨i0, hi, hz0, hz1, hz2⟩ := info_parts info_byte
  have hL := h.lt.mono (S' := fun b => b < w.heap.size) fun _ h => h.2
  obtain ⟨A, c, rfl, _⟩ := h.form
  clear h
  have h4 : ¬ (249 : Int) < l.length := by omega
  have V0 := Lib.hid (byte_of k.toNat (by omega) k (by omega))
  obtain ⟨R, hR⟩ : ∃ R, R = fullS (UInt8.ofNat k.toNat) l := ⟨_, rfl⟩
  have HR : Hid (R = bareS (UInt8.ofNat k.toNat) l ++ mput (mk (bareS (UInt8.ofNat k.toNat) l))) := hR
  rw [← hR]
  have HQ : Hid (bareS (UInt8.ofNat k.toNat) l = (([UInt8.ofNat k.toNat] ++ fixB 2 l.length) ++ l) ++ zs (249 - l.length)) := by
    show _ = _
    rw [hd3_fix _ _ (by omega), List.append_assoc]; rfl
  generalize bareS (UInt8.ofNat k.toNat) l = p at *
  generalize UInt8.ofNat k.toNat = x at *
  have HX := fun W => fixed_two (l.length : Int) (fixB 2 l.length) ⟨l.length, by omega, rfl, rfl⟩ W
  have H3 := Lib.hid h3
  have hfl := fixB_length 2 l.length
  generalize fixB 2 l.length = fl at *
  have HFL := Lib.hid hfl
  have W1 : IntKind.u64.wrap (l.length : Int) = l.length := by rw [IntWalk.u64_in _ (by omega)]
  clear hR h3 hfl
  go_enter Tryd.func27, Tryd.ntmps27
  go_wp2_with fail
  rw [V0.out]
  have o1 : (w.alloc (.cells #[bv x] 5)).ownsRow w.heap.size 5 1 (.slice (some ⟨w.heap.size, 0, none⟩) 1 1) [x].length ([x].map bv) :=
    World.ownsRow_lit w #[bv x] 1 (Nat.le_refl _) (by simp [maxLen]) rfl
  have b0 := (Below.refl w.heap.size w).alloc (Nat.le_refl _) (.cells #[bv x] 5)
  have l0 := hL.alloc (.cells #[bv x] 5)
  obtain ⟨H, hH⟩ : ∃ H, H = [x] ++ fl := ⟨_, rfl⟩
  have hHl : H.length = 3 := by rw [hH, List.length_append, HFL.out]; rfl
  have HH := Lib.hid hH.symm
  obtain ⟨Q, hQ⟩ : ∃ Q, Q = H ++ l := ⟨_, rfl⟩
  have hQl : Q.length = 3 + l.length := by rw [hQ, List.length_append, hHl]
  have HQQ := Lib.hid hQ.symm
  rw [← hH, ← hQ] at HQ
  have HHL := Lib.hid hHl
  have HQL := Lib.hid hQl
  clear hH hHl hQ hQl
  refine (HX _).mono ?_
  rintro e w1 ⟨v1, rfl, how, b1⟩
  replace o1 := own_past b1 o1
  have x1 := own_BS how
  replace l0 := l0.below' b1
  replace b0 := b0.trans (b1.mono b0.size)
  clear how b1 HX W1
  have hfl2 : [x].length + fl.length ≤ 140737488355328 := by rw [HFL.out]; simp
  have hll2 : H.length + l.length ≤ 140737488355328 := by rw [HHL.out]; have := H3.out; omega
  go_wp2_with (first
    | (at_builtin; refine wpList_grow _ rfl _ _ _ rfl w.heap.size 5 i0 Tryd.underlying34 hi hz0 hz1 hz2 (.slice (some ⟨w.heap.size, 0, none⟩) 1 1) [x] rfl o1 _ _ fl rfl x1 hfl2 b0.size ?_; intro v2 w2 how2 hg2 _; rw [HH.out] at how2; have l2 := l0.grown hg2 (fun g e => by simp [Value.ownBlock] at e; omega); have b2 := b0.grown hg2 b0.size (fun g e => by simp [Value.ownBlock] at e; omega))
    | (at_builtin; refine wpList_grow _ rfl _ _ _ rfl w.heap.size 5 i0 Tryd.underlying34 hi hz0 hz1 hz2 v2 H rfl how2 _ _ l rfl l2 hll2 b2.size ?_; intro v3 w3 how3 hg3 _; rw [HQQ.out] at how3; have b3 := b2.grown hg3 b2.size (fun g e => own_ge how2 g e)))
  clear o1 x1 l0 b0 how2 hg2 l2 b2 hg3 hfl2 hll2
  have hL0 : ∃ (L : List UInt8) (j : Nat), Hid (L = Q ++ zs j) ∧ L.length ≤ 252 ∧ w3.ownsRow w.heap.size 5 1 v3 L.length (L.map bv) := ⟨Q, 0, by show _ = _; simp [zs], by rw [HQL.out]; have := H3.out; omega, how3⟩
  clear how3
  go_loopw [6] (fun sv wr => ∃ (L : List UInt8) (j : Nat), Hid (L = Q ++ zs j) ∧ L.length ≤ 252 ∧ wr.ownsRow w.heap.size 5 1 sv L.length (L.map bv) ∧ Below w.heap.size w wr) (fun sv _ => 252 - sliceLen sv)
  case atStart =>
    obtain ⟨L, j, h1, h2, h3⟩ := hL0
    exact ⟨L, j, h1, h2, h3, b3⟩
  case round =>
    clear hL0
    obtain ⟨L, j, hl, hle, how, hbl⟩ := hrel
    have hb := own_BS how
    obtain ⟨A1, c1, rfl, _⟩ := hb.form
    by_cases hlt : L.length < 252
    · have e0 : Value.int .u8 0 = bv 0 := rfl
      have b5 := (Below.refl wr.heap.size wr).alloc (Nat.le_refl _) (.cells #[Value.int .u8 0] 5)
      have how5 := own_past b5 how
      have B5 := hbl.alloc hbl.size (.cells #[Value.int .u8 0] 5)
      have o5 : (wr.alloc (.cells #[Value.int .u8 0] 5)).ownsRow wr.heap.size 5 1 (.slice (some ⟨wr.heap.size, 0, none⟩) 1 1) ([0] : List UInt8).length (([0] : List UInt8).map bv) :=
        World.ownsRow_lit wr #[bv 0] 1 (Nat.le_refl _) (by simp [maxLen]) rfl
      have x5 := own_BS o5
      obtain ⟨L2, hL2⟩ : ∃ L2, L2 = L ++ [0] := ⟨_, rfl⟩
      have hl2 : L2.length = L.length + 1 := by rw [hL2, List.length_append]; rfl
      have HL2 : Hid (L2 = Q ++ zs (j + 1)) := by
        show _ = _
        rw [hL2, hl.out, List.append_assoc, zs_add]; rfl
      have HE2 := Lib.hid hL2.symm
      have HLL := Lib.hid hl2
      have hsm : L.length + ([0] : List UInt8).length ≤ 140737488355328 := by simp; omega
      clear hL2 hl2 how o5 b5 hbl
      go_wp2_with (at_builtin; refine wpList_grow _ rfl _ _ _ rfl w.heap.size 5 i0 Tryd.underlying34 hi hz0 hz1 hz2 (.slice A1 L.length c1) L rfl how5 _ _ [0] rfl x5 hsm B5.size ?_; intro v6 w6 how6 hg6 _; rw [HE2.out] at how6; have B6 := B5.grown hg6 B5.size (fun g e => own_ge how5 g e))
      obtain ⟨A6, c6, rfl, _⟩ := (own_BS how6).form
      go_roundw
      case rel => exact ⟨L2, j + 1, HL2, by rw [HLL.out]; omega, how6, B6⟩
      case measure => show 252 - L2.length < 252 - L.length; rw [HLL.out]; omega
    · have hj : L = p := by
        have e1 := congrArg List.length hl.out
        rw [List.length_append, HQL.out, zs_len] at e1
        have e2 : j = 249 - l.length := by omega
        rw [hl.out, HQ.out, e2]
      subst hj
      have hrp := rput_any _ _ L wr hb
      obtain ⟨m, hm⟩ : ∃ m, m = mput (mk L) := ⟨_, rfl⟩
      rw [← hm] at hrp HR
      have hml : m.length = 4 := by rw [hm, mput_len]
      have HML := Lib.hid hml
      have HLE : Hid (L.length = 252) := by show _ = _; omega
      have hlt2 : ¬ (L.length : Int) < 252 := by omega
      clear hm hml hb HQ hl
      go_wp2_with fail
      refine hrp.mono ?_
      rintro e w5 ⟨v5, rfl, how5, b5⟩
      have x5 := own_BS how5
      replace how := own_past b5 how
      have B5 := hbl.trans (b5.mono hbl.size)
      have hsm : L.length + m.length ≤ 140737488355328 := by rw [HML.out]; omega
      clear how5 b5 hbl hrp
      go_wp2_with (at_builtin; refine wpList_grow _ rfl _ _ _ rfl w.heap.size 5 i0 Tryd.underlying34 hi hz0 hz1 hz2 (.slice A1 L.length c1) L rfl how _ _ m rfl x5 hsm B5.size ?_; intro v6 w6 how6 hg6 _; rw [← HR.out] at how6; have B6 := B5.grown hg6 B5.size (fun g e => own_ge how g e))
      go_ret2
      exact ⟨v6, rfl, how6, B6⟩

theorem rput_sect (k : Int) (S : Nat → Prop) (v : Value) (l : List UInt8) (w : World) (h : BS w S v l) :
    Calls Tryd.prog 27 #[.int .i64 k, v] w (SectAs w (putS k l)) := by
  by_cases h1 : k < 1 ∨ 255 < k
  · rw [putS_kind l h1]
    exact rput_kind k h1 S v l w h
  · by_cases h3 : 249 < l.length
    · rw [putS_long h1 h3]
      exact rput_long k (by omega) (by omega) S v l h3 w h
    · rw [putS_ok h1 h3]
      exact rput_yes k (by omega) (by omega) S v l h3 w h
end Go.Proofs.YtgoifhpinoodgaaDoor
end

section
namespace Go.Proofs.YtgoifhpinoodgaaDoor
open Go.RowKit
set_option maxRecDepth 100000
set_option linter.unusedVariables false

def digS : ByteArray := ⟨#[48, 49, 50, 51, 52, 53, 54, 55, 56, 57, 97, 98, 99, 100, 101, 102]⟩
theorem dig_at (W : World) : (n : Nat) → n < 16 → (Instr.index 9 (.string digS) (.int .u8 (n : Int))).run Tryd.prog W = .ok (bv (hexD n)) W
  | 0, _ => by kernel_rfl
  | 1, _ => by kernel_rfl
  | 2, _ => by kernel_rfl
  | 3, _ => by kernel_rfl
  | 4, _ => by kernel_rfl
  | 5, _ => by kernel_rfl
  | 6, _ => by kernel_rfl
  | 7, _ => by kernel_rfl
  | 8, _ => by kernel_rfl
  | 9, _ => by kernel_rfl
  | 10, _ => by kernel_rfl
  | 11, _ => by kernel_rfl
  | 12, _ => by kernel_rfl
  | 13, _ => by kernel_rfl
  | 14, _ => by kernel_rfl
  | 15, _ => by kernel_rfl
  | n + 16, h => absurd h (by omega)

theorem dig_cut (W : World) : (n : Nat) → n < 16 → (Instr.slice 9 (.string digS) (some (.int .i64 (n : Int))) (some (.int .i64 ((n : Int) + 1))) none).run Tryd.prog W = .ok (.string ⟨#[hexD n]⟩) W
  | 0, _ => by kernel_rfl
  | 1, _ => by kernel_rfl
  | 2, _ => by kernel_rfl
  | 3, _ => by kernel_rfl
  | 4, _ => by kernel_rfl
  | 5, _ => by kernel_rfl
  | 6, _ => by kernel_rfl
  | 7, _ => by kernel_rfl
  | 8, _ => by kernel_rfl
  | 9, _ => by kernel_rfl
  | 10, _ => by kernel_rfl
  | 11, _ => by kernel_rfl
  | 12, _ => by kernel_rfl
  | 13, _ => by kernel_rfl
  | 14, _ => by kernel_rfl
  | 15, _ => by kernel_rfl
  | n + 16, h => absurd h (by omega)

theorem row64 : (#[Value.int .u8 0, Value.int .u8 0, Value.int .u8 0, Value.int .u8 0, Value.int .u8 0, Value.int .u8 0, Value.int .u8 0, Value.int .u8 0, Value.int .u8 0, Value.int .u8 0, Value.int .u8 0, Value.int .u8 0, Value.int .u8 0, Value.int .u8 0, Value.int .u8 0, Value.int .u8 0, Value.int .u8 0, Value.int .u8 0, Value.int .u8 0, Value.int .u8 0, Value.int .u8 0, Value.int .u8 0, Value.int .u8 0, Value.int .u8 0, Value.int .u8 0, Value.int .u8 0, Value.int .u8 0, Value.int .u8 0, Value.int .u8 0, Value.int .u8 0, Value.int .u8 0, Value.int .u8 0, Value.int .u8 0, Value.int .u8 0, Value.int .u8 0, Value.int .u8 0, Value.int .u8 0, Value.int .u8 0, Value.int .u8 0, Value.int .u8 0, Value.int .u8 0, Value.int .u8 0, Value.int .u8 0, Value.int .u8 0, Value.int .u8 0, Value.int .u8 0, Value.int .u8 0, Value.int .u8 0, Value.int .u8 0, Value.int .u8 0, Value.int .u8 0, Value.int .u8 0, Value.int .u8 0, Value.int .u8 0, Value.int .u8 0, Value.int .u8 0, Value.int .u8 0, Value.int .u8 0, Value.int .u8 0, Value.int .u8 0, Value.int .u8 0, Value.int .u8 0, Value.int .u8 0, Value.int .u8 0] : Array Value) = ((List.replicate 64 (0 : UInt8)).map bv).toArray := by kernel_rfl

end Go.Proofs.YtgoifhpinoodgaaDoor
end

section
namespace Go.Proofs.YtgoifhpinoodgaaDoor
open Go.RowKit
set_option linter.unusedVariables false

theorem keys_row : (#[Value.int .u32 1116352408, Value.int .u32 1899447441, Value.int .u32 3049323471, Value.int .u32 3921009573, Value.int .u32 961987163, Value.int .u32 1508970993, Value.int .u32 2453635748, Value.int .u32 2870763221, Value.int .u32 3624381080, Value.int .u32 310598401, Value.int .u32 607225278, Value.int .u32 1426881987, Value.int .u32 1925078388, Value.int .u32 2162078206, Value.int .u32 2614888103, Value.int .u32 3248222580, Value.int .u32 3835390401, Value.int .u32 4022224774, Value.int .u32 264347078, Value.int .u32 604807628, Value.int .u32 770255983, Value.int .u32 1249150122, Value.int .u32 1555081692, Value.int .u32 1996064986, Value.int .u32 2554220882, Value.int .u32 2821834349, Value.int .u32 2952996808, Value.int .u32 3210313671, Value.int .u32 3336571891, Value.int .u32 3584528711, Value.int .u32 113926993, Value.int .u32 338241895, Value.int .u32 666307205, Value.int .u32 773529912, Value.int .u32 1294757372, Value.int .u32 1396182291, Value.int .u32 1695183700, Value.int .u32 1986661051, Value.int .u32 2177026350, Value.int .u32 2456956037, Value.int .u32 2730485921, Value.int .u32 2820302411, Value.int .u32 3259730800, Value.int .u32 3345764771, Value.int .u32 3516065817, Value.int .u32 3600352804, Value.int .u32 4094571909, Value.int .u32 275423344, Value.int .u32 430227734, Value.int .u32 506948616, Value.int .u32 659060556, Value.int .u32 883997877, Value.int .u32 958139571, Value.int .u32 1322822218, Value.int .u32 1537002063, Value.int .u32 1747873779, Value.int .u32 1955562222, Value.int .u32 2024104815, Value.int .u32 2227730452, Value.int .u32 2361852424, Value.int .u32 2428436474, Value.int .u32 2756734187, Value.int .u32 3204031479, Value.int .u32 3329325298] : Array Value) = (keysL.map wv).toArray := by kernel_rfl

set_option maxRecDepth 100000 in
set_option maxHeartbeats 4000000 in
theorem keys_any (w : World) :
    Calls Tryd.prog 75 #[] w fun e w' => e = .returned (.agg (keysL.map wv).toArray) ∧ Below w.heap.size w w' := by
  go_enter Tryd.func75, Tryd.ntmps75
  go_wp2_with (rw [keys_row]; have hkl : (keysL.map wv).length = 64 := rfl; have hk1 := words_one keysL; generalize hks : keysL.map wv = ks at *; have HKS := Lib.hid hks; clear hks; refine wpList_store_kb rfl 116 (.tmp 0) (.tmp 1) rfl w.heap.size ks rfl rfl 116 (rowW [] 64) (by rw [row_zero]; exact KB.new _ _ _) 64 (by kernel_rfl) (by rw [rowW_length _ _ (by simp)]) hkl hk1 ?_; intro W2 k3 g3)
  refine bodyPost_ret (results_cell_row (P := Tryd.prog) rfl _ W2 w.heap.size _ ks.toArray (0, 0) _ rfl k3 Tryd.underlying116 rfl (by rw [show ks.toArray.size = 64 from by simpa using hkl]; kernel_rfl)) rfl ⟨by rw [HKS.out], ((Below.refl _ _).alloc (Nat.le_refl _) _).grown g3 (by simp) (by simp)⟩
end Go.Proofs.YtgoifhpinoodgaaDoor
end
