/-
  Put of sect, over the loaded program: its contract. No condition but that a kind is a number of 64 bits.
-/
import Derived.Test.YtmknemaocbbpeaaSeA
import Derived.Test.YtmknemaocbbpeaaGoto
import Derived.Test.YtmknemaocbbpeaaHeld
import Derived.Deep.RegionHeld3
namespace Go.Proofs.Ytmknemaocbbpeaa
open Go.RowKit Gau
set_option maxRecDepth 100000
set_option linter.unusedVariables false

/-- What Put hands back: bytes in new memory, and a number. -/
def SectAs (w : World) (r : List UInt8 × Int) (e : Ending) (w' : World) : Prop :=
  ∃ v, e = .returned (.tuple #[v, .int .i64 r.2]) ∧ w'.ownsRow w.heap.size 5 1 v r.1.length (r.1.map bv) ∧ Below w.heap.size w w'

theorem sect_none (w : World) (n : Int) : SectAs w ([], n) (.returned (.tuple #[.slice none 0 0, .int .i64 n])) w := ⟨_, rfl, World.ownsRow_nil _ _ _ _, Below.refl _ _⟩

/-- The way on which what is wrong leads to the label. -/
theorem put_low (k : Int) (hk : k < 1) (S : Nat → Prop) (v : Value) (l : List UInt8) (w : World) (h : BS w S v l) :
    Calls Try.prog 21 #[.int .i64 k, v] w (SectAs w ([], 1)) := by
  obtain ⟨A, c, rfl, _⟩ := h.form
  have hn := sect_none w 1
  clear h
  go_enter Try.func21, Try.ntmps21
  go_wp2
  apply wp_scope_goto (w1 := w) 0 rfl
  case first =>
    go_wp2
    go_step3
    exact ⟨rfl, rfl, rfl⟩
  case pass =>
    go_wp2
    go_ret2
    exact hn
theorem put_high (k : Int) (hk : ¬ k < 1) (h2 : 255 < k) (S : Nat → Prop) (v : Value) (l : List UInt8) (w : World) (h : BS w S v l) :
    Calls Try.prog 21 #[.int .i64 k, v] w (SectAs w ([], 1)) := by
  obtain ⟨A, c, rfl, _⟩ := h.form
  have hn := sect_none w 1
  clear h
  go_enter Try.func21, Try.ntmps21
  go_wp2
  apply wp_scope_goto (w1 := w) 0 rfl
  case first =>
    go_wp2
    go_step3
    exact ⟨rfl, rfl, rfl⟩
  case pass =>
    go_wp2
    go_ret2
    exact hn
theorem put_long (k : Int) (hk : ¬ k < 1) (h2 : ¬ 255 < k) (S : Nat → Prop) (v : Value) (l : List UInt8) (h3 : 249 < l.length) (w : World) (h : BS w S v l) :
    Calls Try.prog 21 #[.int .i64 k, v] w (SectAs w ([], 3)) := by
  obtain ⟨A, c, rfl, _⟩ := h.form
  have hn := sect_none w 3
  have h4 : (249 : Int) < l.length := by omega
  clear h
  go_enter Try.func21, Try.ntmps21
  go_wp2
  apply wp_scope_goto (w1 := w) 0 rfl
  case first =>
    go_wp2
    go_step3
    exact ⟨rfl, rfl, rfl⟩
  case pass =>
    go_wp2
    go_ret2
    exact hn

theorem z256_at (i : Nat) (h : i < 256) : (((zs 256).map bv).toArray)[i]? = some (bv 0) := by
  unfold zs
  rw [List.getElem?_toArray, List.getElem?_map, List.getElem?_replicate, if_pos h]; rfl
theorem zs_add (m n : Nat) : zs (m + n) = zs m ++ zs n := by unfold zs; exact List.replicate_append_replicate.symm
/-- The first three cells of a block that was made, written over. -/
theorem three_puts {w : World} {g : Nat} (h : KB w g 5 ((zs 256).map bv).toArray) (x y z : UInt8) :
    KB (((w.setCell ⟨g, 0, none⟩ (bv x)).setCell ⟨g, 1, none⟩ (bv y)).setCell ⟨g, 2, none⟩ (bv z)) g 5 (([x, y, z] ++ zs 253).map bv).toArray := by
  have := ((h.put 0 (bv x)).put 1 (bv y)).put 2 (bv z)
  rw [show zs 256 = zs 3 ++ zs 253 from zs_add 3 253] at this
  have e : (((((zs 3 ++ zs 253).map bv).toArray.setIfInBounds 0 (bv x)).setIfInBounds 1 (bv y)).setIfInBounds 2 (bv z)) = (([x, y, z] ++ zs 253).map bv).toArray := by
    rw [List.setIfInBounds_toArray, List.setIfInBounds_toArray, List.setIfInBounds_toArray, List.map_append]; rfl
  rw [e] at this
  exact this
theorem len_256 (x y z : UInt8) : ([x, y, z] ++ zs 253).length = 256 := by rw [List.length_append, zs_len]; rfl
theorem grown_three (w : World) (g : Nat) (x y z : Value) : w.grownBy (((w.setCell ⟨g, 0, none⟩ x).setCell ⟨g, 1, none⟩ y).setCell ⟨g, 2, none⟩ z) (some g) :=
  grown_trans (grown_trans (grown_set _ _ _ _) (grown_set _ _ _ _)) (grown_set _ _ _ _)
/-- A row that is known whole is a row of the call's own. -/
theorem KB.own {w : World} {g B : Nat} {l : List UInt8} (h : KB w g 5 (l.map bv).toArray) (hB : B ≤ g) (hl : l.length ≤ maxLen) : w.ownsRow B 5 1 (.slice (some ⟨g, 0, none⟩) l.length l.length) l.length (l.map bv) := by
  refine ⟨by simp, .inr ⟨g, l.length, (l.map bv).toArray, rfl, hB, h, Nat.le_refl _, hl, by simp, ?_⟩⟩
  exact List.take_of_length_le (by simp)
/-- What a body becomes behind what stands ahead of it. -/
theorem splice_body (x y z : UInt8) (l : List UInt8) (hl : l.length ≤ 249) : splice (([x, y, z] ++ zs 253).map bv) 3 ((l.take 253).map bv) = ((([x, y, z] ++ (l ++ zs (249 - l.length))) ++ zs 4)).map bv := by
  rw [List.take_of_length_le (by omega)]
  unfold splice
  have e : zs 253 = zs l.length ++ (zs (249 - l.length) ++ zs 4) := by
    rw [← zs_add, ← zs_add]; congr 1; omega
  rw [e]
  simp only [List.map_append, List.map_cons, List.map_nil, List.length_map]
  have h1 : ([bv x, bv y, bv z] ++ ((zs l.length).map bv ++ ((zs (249 - l.length)).map bv ++ (zs 4).map bv))).take 3 = [bv x, bv y, bv z] := rfl
  have h2 : ([bv x, bv y, bv z] ++ ((zs l.length).map bv ++ ((zs (249 - l.length)).map bv ++ (zs 4).map bv))).drop (3 + l.length) = (zs (249 - l.length)).map bv ++ (zs 4).map bv := by
    rw [← List.drop_drop]
    show ((zs l.length).map bv ++ ((zs (249 - l.length)).map bv ++ (zs 4).map bv)).drop l.length = _
    rw [List.drop_append_of_le_length (by simp [zs]), List.drop_of_length_le (by simp [zs]), List.nil_append]
  rw [h1, h2]
  simp
theorem splice_mark (p m : List UInt8) (hp : p.length = 252) (hm : m.length = 4) : splice ((p ++ zs 4).map bv) 252 (m.map bv) = (p ++ m).map bv := by
  unfold splice
  rw [List.map_append, List.map_append, ← hp, ← List.length_map (f := bv), List.take_left, List.drop_of_length_le (by simp [zs, hm]), List.append_nil]
theorem hd3_of {k : Int} (hk : ¬ k < 1) (h2 : ¬ 255 < k) {n : Nat} (hn : n ≤ 249) : Value.int .u8 k = bv (UInt8.ofNat k.toNat) ∧ Value.int .u8 ((n : Int) / 256) = bv (UInt8.ofNat (n / 256)) ∧ Value.int .u8 (n : Int) = bv (UInt8.ofNat (n % 256)) :=
  ⟨byte_of k.toNat (by omega) _ (by omega), byte_of (n / 256) (by omega) _ (by omega), byte_of (n % 256) (by omega) _ (by omega)⟩

set_option maxRecDepth 100000 in
set_option maxHeartbeats 1000000 in
theorem put_yes (k : Int) (hk : ¬ k < 1) (h2 : ¬ 255 < k) (S : Nat → Prop) (v : Value) (l : List UInt8) (h3 : ¬ 249 < l.length) (w : World) (h : BS w S v l) :
    Calls Try.prog 21 #[.int .i64 k, v] w (SectAs w (fullS (UInt8.ofNat k.toNat) l, 0)) := by
  obtain ⟨A, c, rfl, _⟩ := h.form
  have h4 : ¬ (249 : Int) < l.length := by omega
  obtain ⟨v0, v1, v2⟩ := hd3_of hk h2 (n := l.length) (by omega)
  have hsz : (Try.prog.info? 5).map (·.size) = some 1 := by kernel_rfl
  have hfull : bareS (UInt8.ofNat k.toNat) l = [UInt8.ofNat k.toNat, UInt8.ofNat (l.length / 256), UInt8.ofNat (l.length % 256)] ++ (l ++ zs (249 - l.length)) := rfl
  have hbl : (bareS (UInt8.ofNat k.toNat) l).length = 252 := bareS_len (by omega)
  obtain ⟨R, hR⟩ : ∃ R, R = fullS (UInt8.ofNat k.toNat) l := ⟨_, rfl⟩
  have HR : Hid (bareS (UInt8.ofNat k.toNat) l ++ mput (mk (bareS (UInt8.ofNat k.toNat) l)) = R) := hR.symm
  have HRL : Hid (R.length = 256) := by show _ = _; rw [hR, fullS_len (by omega)]
  rw [← hR]
  have HS := Lib.hid (splice_body (UInt8.ofNat k.toNat) (UInt8.ofNat (l.length / 256)) (UInt8.ofNat (l.length % 256)) l (by omega))
  rw [← hfull] at HS
  clear hR hfull
  generalize bareS (UInt8.ofNat k.toNat) l = p at *
  have HP := Lib.hid hbl
  have H4 := Lib.hid h3
  clear hbl
  generalize UInt8.ofNat k.toNat = x at *
  generalize UInt8.ofNat (l.length / 256) = y at *
  generalize UInt8.ofNat (l.length % 256) = z at *
  have V0 := Lib.hid v0
  have V1 := Lib.hid v1
  have V2 := Lib.hid v2
  clear v0 v1 v2
  go_enter Try.func21, Try.ntmps21
  go_wp2
  refine wp_scope_straight ?_
  go_wp2_with fail
  refine (zero_any w).mono ?_
  rintro e w1 ⟨rfl, k1, b1⟩
  have c0 := k1.cell 0
  have c1 := k1.cell 1
  have c2 := k1.cell 2
  rw [z256_at 0 (by omega)] at c0
  rw [z256_at 1 (by omega)] at c1
  rw [z256_at 2 (by omega)] at c2
  have f0 := k1.free 0
  have f1 := k1.free 1
  have f2 := k1.free 2
  have K2 := Lib.hid (three_puts k1 x y z)
  have hx := h.below' b1
  have B2 := b1.grown (grown_three w1 w.heap.size (bv x) (bv y) (bv z)) b1.size fun g e => by injection e with e; omega
  have hx3 : BS (((w1.setCell ⟨w.heap.size, 0, none⟩ (bv x)).setCell ⟨w.heap.size, 1, none⟩ (bv y)).setCell ⟨w.heap.size, 2, none⟩ (bv z)) (fun b => b < w.heap.size) (.slice A l.length c) l :=
    ((h.lt.below' b1).mono (S' := fun b => b < w.heap.size) fun _ h => h.2).grown (grown_three w1 w.heap.size (bv x) (bv y) (bv z)) fun g e => by injection e with e; omega
  clear k1 hx
  go_wp2_with (rw [V0.out, V1.out, V2.out]; refine wpList_copy_kb rfl _ _ _ _ rfl 5 Try.underlying36 hsz w.heap.size 3 253 253 rfl _ _ K2.out (by rw [List.length_map, len_256]; exact Nat.le_refl _) _ _ l rfl hx3 ?_; intro w3 k3 g3; rw [HS.out] at k3)
  have B3 : Below w.heap.size w w3.drew := Below_drawn (B2.grown g3 B2.size fun g e => by injection e with e; omega) 1
  have K3 : KB w3.drew w.heap.size 5 ((p ++ zs 4).map bv).toArray := k3
  have hq : (p ++ zs 4).length = 256 := by rw [List.length_append, HP.out, zs_len]
  have P3 := (kb_256 K3 hq).take 252 (by omega)
  rw [show (p ++ zs 4).take 252 = p by rw [← HP.out, List.take_left]] at P3
  have HM := Lib.hid (splice_mark p (mput (mk p)) HP.out (mput_len _))
  have hmp := fun W h => put_any (fun b => b = w.heap.size) (.slice (some ⟨w.heap.size, 0, none⟩) 252 256) p W h
  have hml := mput_len (mk p)
  have hml4 : (mput (mk p)).take 4 = mput (mk p) := List.take_of_length_le (by omega)
  generalize mput (mk p) = m at *
  have len4 : 252 + 4 ≤ ((p ++ zs 4).map bv).length := by rw [List.length_map, hq]; exact Nat.le_refl _
  clear K2 B2 hx3 g3 k3 c0 c1 c2 f0 f1 f2 b1 HS hq
  generalize goInt _ = u36
  go_frame
  refine wp_region_held_drew (S := (fun _ => True)) (by kernel_rfl) trivial (fun hHeld => ?_)
  refine hyY (some 37) 0 rfl hHeld ?_; go_frame
  refine hyY (some 38) 1 rfl hHeld ?_; go_frame
  refine hyY (some 39) 2 rfl hHeld ?_; go_frame
  refine hyY (some 40) 3 rfl hHeld ?_; go_frame
  refine hyO (some 41) 4 rfl (fun K hK => ?_)
  go_simp
  go_at_call 34
  refine (hmp _ P3).mono ?_
  rintro e w5 ⟨v5, rfl, how, b5⟩
  have q5 := own_BS how
  replace K3 := K3.below b5 K3.lt
  replace B3 := B3.trans (b5.mono B3.size)
  obtain ⟨A5, C5, rfl, hc5, hm5, hn5⟩ := q5.form
  rw [hml] at q5
  clear how b5 hmp P3
  go_wp2_with fail
  refine hK.out _ _ ?_ (fun hH2 => ?_)
  · trivial
  clear hHeld hK K; have hHeld := hH2; clear hH2; try go_frame
  refine hyO (some 42) 5 rfl (fun K hK => ?_)
  refine wp_copy_kb _ _ _ _ rfl 5 Try.underlying36 hsz w.heap.size 252 4 4 rfl _ _ K3 len4 _ _ m rfl q5 ?_
  intro w6 k6 g6
  rw [hml4, HM.out] at k6
  refine hK.out _ _ ?_ (fun hH2 => ?_)
  · trivial
  clear hHeld hK K; have hHeld := hH2; clear hH2; try go_frame
  refine wpAnyH_done (by kernel_rfl) ?_ _

  go_wp2
  go_ret2
  rw [HR.out] at k6
  have ho := k6.own (B := w.heap.size) (Nat.le_refl _) (by rw [HRL.out]; unfold maxLen; omega)
  rw [HRL.out] at ho
  exact ⟨_, rfl, by rw [HRL.out]; exact ho, B3.grown g6 B3.size fun g e => by injection e with e; omega⟩

theorem put_sect (k : Int) (S : Nat → Prop) (v : Value) (l : List UInt8) (w : World) (h : BS w S v l) :
    Calls Try.prog 21 #[.int .i64 k, v] w (SectAs w (putS k l)) := by
  by_cases h1 : k < 1
  · rw [putS_kind l (.inl h1)]
    exact put_low k h1 S v l w h
  · by_cases h2 : 255 < k
    · rw [putS_kind l (.inr h2)]
      exact put_high k h1 h2 S v l w h
    · by_cases h3 : 249 < l.length
      · rw [putS_long (by omega) h3]
        exact put_long k h1 h2 S v l h3 w h
      · rw [putS_ok (by omega) h3]
        exact put_yes k h1 h2 S v l h3 w h
end Go.Proofs.Ytmknemaocbbpeaa
