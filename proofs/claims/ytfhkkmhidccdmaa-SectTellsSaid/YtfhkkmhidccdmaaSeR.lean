/-
  The document's own Put and Empty (layer 9), over the loaded program: each one's contract. No condition but that a kind is a number of 64 bits.
-/
import Derived.Test.YtfhkkmhidccdmaaSeC
import Derived.Test.YtfhkkmhidccdmaaMarkS
import Derived.Test.YtfhkkmhidccdmaaSame
import Derived.Test.YtfhkkmhidccdmaaCopy
namespace Go.Proofs.Ytfhkkmhidccdmaa
open Go.RowKit Gau
set_option linter.unusedVariables false

def sliceLen : Value → Nat | .slice _ n _ => n | _ => 0

theorem rempty_any (S : Nat → Prop) (v : Value) (l : List UInt8) (w : World) (h : BS w S v l) :
    Calls Try.prog 13 #[v] w fun e w' => e = .returned (.bool (decide (l = zs 256))) ∧ Below w.heap.size w w' := by
  obtain ⟨A, c, rfl, _⟩ := h.form
  obtain ⟨C, hC, hmk⟩ := make_256 w
  have b1 := (Below.refl w.heap.size w).alloc (Nat.le_refl _) (.cells C 5)
  have k1 : KB (w.alloc (.cells C 5)) w.heap.size 5 ((zs 256).map bv).toArray := by rw [← hC]; exact KB.new _ _ _
  have hs := same_is _ _ _ _ _ _ _ (h.below' b1) (kb_256 k1 (zs_len 256))
  clear hC k1 h
  go_enter Try.func13, Try.ntmps13
  go_wp2_with fail
  refine hs.mono ?_
  rintro e w2 ⟨rfl, b2⟩
  go_wp2
  go_ret
  exact ⟨rfl, b1.trans (b2.mono b1.size)⟩

theorem rput_kind (k : Int) (hk : k < 1 ∨ 255 < k) (S : Nat → Prop) (v : Value) (l : List UInt8) (w : World) (h : BS w S v l) :
    Calls Try.prog 9 #[.int .i64 k, v] w (SectAs w ([], 1)) := by
  obtain ⟨A, c, rfl, _⟩ := h.form
  have hn := sect_none w 1
  clear h
  by_cases h1 : k < 1
  · clear hk
    go_enter Try.func9, Try.ntmps9
    go_wp2
    go_ret2
    exact hn
  · have h2 : 255 < k := by omega
    clear hk
    go_enter Try.func9, Try.ntmps9
    go_wp2
    go_ret2
    exact hn
theorem rput_long (k : Int) (hk : ¬ k < 1) (h2 : ¬ 255 < k) (S : Nat → Prop) (v : Value) (l : List UInt8) (h3 : 249 < l.length) (w : World) (h : BS w S v l) :
    Calls Try.prog 9 #[.int .i64 k, v] w (SectAs w ([], 3)) := by
  obtain ⟨A, c, rfl, _⟩ := h.form
  have hn := sect_none w 3
  have h4 : (249 : Int) < l.length := by omega
  clear h
  go_enter Try.func9, Try.ntmps9
  go_wp2
  go_ret2
  exact hn

theorem hd3_fix (k : UInt8) (n : Nat) (h : n < 65536) : [k] ++ fixB 2 n = hd3 k n := by rw [fixB_two n h]; rfl

set_option maxRecDepth 100000 in
set_option maxHeartbeats 1000000 in
theorem rput_yes (k : Int) (hk : ¬ k < 1) (h2 : ¬ 255 < k) (S : Nat → Prop) (v : Value) (l : List UInt8) (h3 : ¬ 249 < l.length) (w : World) (h : BS w S v l) :
    Calls Try.prog 9 #[.int .i64 k, v] w (SectAs w (fullS (UInt8.ofNat k.toNat) l, 0)) := by
  obtain ⟨i0, hi, hz0, hz1, hz2⟩ := info_parts info_byte
  have hL := h.lt.mono (S' := fun b => b < w.heap.size) fun _ h => h.2
  obtain ⟨A, c, rfl, _⟩ := h.form
  clear h
  have h4 : ¬ (249 : Int) < l.length := by omega
  have V0 := Lib.hid (byte_of k.toNat (by omega) k (by omega))
  obtain ⟨R, hR⟩ : ∃ R, R = fullS (UInt8.ofNat k.toNat) l := ⟨_, rfl⟩
  have HR : Hid (R = bareS (UInt8.ofNat k.toNat) l ++ mput (mk (bareS (UInt8.ofNat k.toNat) l))) := hR
  rw [← hR]
  have HQ : Hid (bareS (UInt8.ofNat k.toNat) l = (([UInt8.ofNat k.toNat] ++ fixB 2 l.length) ++ l) ++ zs (249 - l.length)) := by
    show _ = _
    rw [hd3_fix _ _ (by omega), List.append_assoc]; rfl
  generalize bareS (UInt8.ofNat k.toNat) l = p at *
  generalize UInt8.ofNat k.toNat = x at *
  have HX := fun W => fixed_two (l.length : Int) (fixB 2 l.length) ⟨l.length, by omega, rfl, rfl⟩ W
  have H3 := Lib.hid h3
  have hfl := fixB_length 2 l.length
  generalize fixB 2 l.length = fl at *
  have HFL := Lib.hid hfl
  have W1 : IntKind.u64.wrap (l.length : Int) = l.length := by rw [IntWalk.u64_in _ (by omega)]
  clear hR h3 hfl
  go_enter Try.func9, Try.ntmps9
  go_wp2_with fail
  rw [V0.out]
  have o1 : (w.alloc (.cells #[bv x] 5)).ownsRow w.heap.size 5 1 (.slice (some ⟨w.heap.size, 0, none⟩) 1 1) [x].length ([x].map bv) :=
    World.ownsRow_lit w #[bv x] 1 (Nat.le_refl _) (by simp [maxLen]) rfl
  have b0 := (Below.refl w.heap.size w).alloc (Nat.le_refl _) (.cells #[bv x] 5)
  have l0 := hL.alloc (.cells #[bv x] 5)
  obtain ⟨H, hH⟩ : ∃ H, H = [x] ++ fl := ⟨_, rfl⟩
  have hHl : H.length = 3 := by rw [hH, List.length_append, HFL.out]; rfl
  have HH := Lib.hid hH.symm
  obtain ⟨Q, hQ⟩ : ∃ Q, Q = H ++ l := ⟨_, rfl⟩
  have hQl : Q.length = 3 + l.length := by rw [hQ, List.length_append, hHl]
  have HQQ := Lib.hid hQ.symm
  rw [← hH, ← hQ] at HQ
  have HHL := Lib.hid hHl
  have HQL := Lib.hid hQl
  clear hH hHl hQ hQl
  refine (HX _).mono ?_
  rintro e w1 ⟨v1, rfl, how, b1⟩
  replace o1 := own_past b1 o1
  have x1 := own_BS how
  replace l0 := l0.below' b1
  replace b0 := b0.trans (b1.mono b0.size)
  clear how b1 HX W1
  have hfl2 : [x].length + fl.length ≤ 140737488355328 := by rw [HFL.out]; simp
  have hll2 : H.length + l.length ≤ 140737488355328 := by rw [HHL.out]; have := H3.out; omega
  go_wp2_with (first
    | (at_builtin; refine wpList_grow _ rfl _ _ _ rfl w.heap.size 5 i0 Try.underlying22 hi hz0 hz1 hz2 (.slice (some ⟨w.heap.size, 0, none⟩) 1 1) [x] rfl o1 _ _ fl rfl x1 hfl2 b0.size ?_; intro v2 w2 how2 hg2 _; rw [HH.out] at how2; have l2 := l0.grown hg2 (fun g e => by simp [Value.ownBlock] at e; omega); have b2 := b0.grown hg2 b0.size (fun g e => by simp [Value.ownBlock] at e; omega))
    | (at_builtin; refine wpList_grow _ rfl _ _ _ rfl w.heap.size 5 i0 Try.underlying22 hi hz0 hz1 hz2 v2 H rfl how2 _ _ l rfl l2 hll2 b2.size ?_; intro v3 w3 how3 hg3 _; rw [HQQ.out] at how3; have b3 := b2.grown hg3 b2.size (fun g e => own_ge how2 g e)))
  clear o1 x1 l0 b0 how2 hg2 l2 b2 hg3 hfl2 hll2
  have hL0 : ∃ (L : List UInt8) (j : Nat), Hid (L = Q ++ zs j) ∧ L.length ≤ 252 ∧ w3.ownsRow w.heap.size 5 1 v3 L.length (L.map bv) := ⟨Q, 0, by show _ = _; simp [zs], by rw [HQL.out]; have := H3.out; omega, how3⟩
  clear how3
  go_loopw [6] (fun sv wr => ∃ (L : List UInt8) (j : Nat), Hid (L = Q ++ zs j) ∧ L.length ≤ 252 ∧ wr.ownsRow w.heap.size 5 1 sv L.length (L.map bv) ∧ Below w.heap.size w wr) (fun sv _ => 252 - sliceLen sv)
  case atStart =>
    obtain ⟨L, j, h1, h2, h3⟩ := hL0
    exact ⟨L, j, h1, h2, h3, b3⟩
  case round =>
    clear hL0
    obtain ⟨L, j, hl, hle, how, hbl⟩ := hrel
    have hb := own_BS how
    obtain ⟨A1, c1, rfl, _⟩ := hb.form
    by_cases hlt : L.length < 252
    · have e0 : Value.int .u8 0 = bv 0 := rfl
      have b5 := (Below.refl wr.heap.size wr).alloc (Nat.le_refl _) (.cells #[Value.int .u8 0] 5)
      have how5 := own_past b5 how
      have B5 := hbl.alloc hbl.size (.cells #[Value.int .u8 0] 5)
      have o5 : (wr.alloc (.cells #[Value.int .u8 0] 5)).ownsRow wr.heap.size 5 1 (.slice (some ⟨wr.heap.size, 0, none⟩) 1 1) ([0] : List UInt8).length (([0] : List UInt8).map bv) :=
        World.ownsRow_lit wr #[bv 0] 1 (Nat.le_refl _) (by simp [maxLen]) rfl
      have x5 := own_BS o5
      obtain ⟨L2, hL2⟩ : ∃ L2, L2 = L ++ [0] := ⟨_, rfl⟩
      have hl2 : L2.length = L.length + 1 := by rw [hL2, List.length_append]; rfl
      have HL2 : Hid (L2 = Q ++ zs (j + 1)) := by
        show _ = _
        rw [hL2, hl.out, List.append_assoc, zs_add]; rfl
      have HE2 := Lib.hid hL2.symm
      have HLL := Lib.hid hl2
      have hsm : L.length + ([0] : List UInt8).length ≤ 140737488355328 := by simp; omega
      clear hL2 hl2 how o5 b5 hbl
      go_wp2_with (at_builtin; refine wpList_grow _ rfl _ _ _ rfl w.heap.size 5 i0 Try.underlying22 hi hz0 hz1 hz2 (.slice A1 L.length c1) L rfl how5 _ _ [0] rfl x5 hsm B5.size ?_; intro v6 w6 how6 hg6 _; rw [HE2.out] at how6; have B6 := B5.grown hg6 B5.size (fun g e => own_ge how5 g e))
      obtain ⟨A6, c6, rfl, _⟩ := (own_BS how6).form
      go_roundw
      case rel => exact ⟨L2, j + 1, HL2, by rw [HLL.out]; omega, how6, B6⟩
      case measure => show 252 - L2.length < 252 - L.length; rw [HLL.out]; omega
    · have hj : L = p := by
        have e1 := congrArg List.length hl.out
        rw [List.length_append, HQL.out, zs_len] at e1
        have e2 : j = 249 - l.length := by omega
        rw [hl.out, HQ.out, e2]
      subst hj
      have hrp := rput_any _ _ L wr hb
      obtain ⟨m, hm⟩ : ∃ m, m = mput (mk L) := ⟨_, rfl⟩
      rw [← hm] at hrp HR
      have hml : m.length = 4 := by rw [hm, mput_len]
      have HML := Lib.hid hml
      have HLE : Hid (L.length = 252) := by show _ = _; omega
      have hlt2 : ¬ (L.length : Int) < 252 := by omega
      clear hm hml hb HQ hl
      go_wp2_with fail
      refine hrp.mono ?_
      rintro e w5 ⟨v5, rfl, how5, b5⟩
      have x5 := own_BS how5
      replace how := own_past b5 how
      have B5 := hbl.trans (b5.mono hbl.size)
      have hsm : L.length + m.length ≤ 140737488355328 := by rw [HML.out]; omega
      clear how5 b5 hbl hrp
      go_wp2_with (at_builtin; refine wpList_grow _ rfl _ _ _ rfl w.heap.size 5 i0 Try.underlying22 hi hz0 hz1 hz2 (.slice A1 L.length c1) L rfl how _ _ m rfl x5 hsm B5.size ?_; intro v6 w6 how6 hg6 _; rw [← HR.out] at how6; have B6 := B5.grown hg6 B5.size (fun g e => own_ge how g e))
      go_ret2
      exact ⟨v6, rfl, how6, B6⟩

theorem rput_sect (k : Int) (S : Nat → Prop) (v : Value) (l : List UInt8) (w : World) (h : BS w S v l) :
    Calls Try.prog 9 #[.int .i64 k, v] w (SectAs w (putS k l)) := by
  by_cases h1 : k < 1 ∨ 255 < k
  · rw [putS_kind l h1]
    exact rput_kind k h1 S v l w h
  · by_cases h3 : 249 < l.length
    · rw [putS_long h1 h3]
      exact rput_long k (by omega) (by omega) S v l h3 w h
    · rw [putS_ok h1 h3]
      exact rput_yes k (by omega) (by omega) S v l h3 w h
end Go.Proofs.Ytfhkkmhidccdmaa
