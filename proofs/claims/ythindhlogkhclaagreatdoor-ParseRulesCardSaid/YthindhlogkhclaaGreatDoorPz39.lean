/-
  LxG: All from its labels on (layer 16): what comes next. No condition. (Written by wip/gen/lex/mk_g.py.)
  LxH: All (layer 16), over the loaded program: its contract. No condition but a size.
-/
import Derived.Test.YthindhlogkhclaaGreatDoorPz38
set_option linter.unusedVariables false
set_option maxRecDepth 100000
namespace Go.Proofs.YthindhlogkhclaaGreatDoor
section
open Go.RowKit
theorem one_sign {c : UInt8} {l : List UInt8} (h1 : lowC c.toNat = false) (h2 : c.toNat ≠ 34) (h3 : digC c.toNat = false) : oneC c l = if signW c.toNat = 0 then badW 2 else ⟨signW c.toNat, [c], 0, 1, 0⟩ := by
  unfold oneC signW
  rw [h1, h3]
  by_cases a : c.toNat = 40
  · simp [a]
  · by_cases b : c.toNat = 41
    · simp [b]
    · by_cases d : c.toNat = 59
      · simp [d]
      · simp [a, b, d, h2]
theorem one_eq (c : UInt8) (d : UInt8) : ((⟨[c].toArray⟩ : ByteArray).toList == (⟨[d].toArray⟩ : ByteArray).toList) = decide (c.toNat = d.toNat) := by
  rw [str_eq]
  refine decide_eq_decide.2 ⟨fun h => by injection h with h; rw [h], fun h => by rw [UInt8.toNat_inj.1 h]⟩
theorem bytes_list (l : List UInt8) : (⟨l.toArray⟩ : ByteArray).toList = l := by
  rw [Lib.toList_data]
set_option maxHeartbeats 8000000 in
theorem pass_1 (s : List UInt8) (w0 : World) : ∃ rest, findLabel bodyX 1 = some (Code.skip.seq rest) ∧ ∀ m a w, KX s w0 m 1 a w → rest.wp Tryz.prog (JX s w0 m) a w := by
  refine ⟨_, rfl, ?_⟩
  rintro m a w ⟨v, x, y, e, cv, f, acc, row, rfl, H, en, rfl, h6, hl, rfl⟩
  have hen := hl.1
  have hcut : ∀ W : World, (Instr.slice 9 (strV s) (some (.int .i64 (en : Int))) none none).run Tryz.prog W = .ok (strV (s.drop en)) W := txt_from s en hen
  have hro := row_any blankC _ set_blank ascii_blank (by decide) (s.drop en) (by rw [List.length_drop]; unfold maxLen; omega)
  have hle := takeN_le blankC (s.drop en)
  rw [List.length_drop] at hle
  have hl2 := lead_blank hl
  have hzs : ((⟨s.toArray⟩ : ByteArray).size : Int) = (s.length : Int) := rfl
  have hout : ∀ (c : UInt8) (l : List UInt8), s.drop (en + takeN blankC (s.drop en)) = c :: l → blankC c.toNat = false := fun c l h => by
    refine takeN_out blankC (s.drop en) c ?_
    rw [List.getElem?_drop]
    have := congrArg (fun l => l[0]?) h
    rw [List.getElem?_drop] at this
    simpa using this
  obtain ⟨k, hk⟩ : ∃ k, k = takeN blankC (s.drop en) := ⟨_, rfl⟩
  rw [← hk] at hro hle hl2 hout
  obtain ⟨i, hi⟩ : ∃ i, i = en + k := ⟨_, rfl⟩
  rw [← hi] at hl2 hout
  have hw1 : IntKind.i64.wrap ((en : Int) + (k : Int)) = (i : Int) := by rw [IntKind.wrap_i64]; omega
  have HH := Lib.hid H
  by_cases hend : i = s.length
  · have hall := all_done h6 (hend ▸ hl2)
    have HA : Hid (∀ w1, Below w.heap.size w w1 → AllAs s w0 (.returned (.tuple #[v, .int .i64 (s.length : Int), .int .i64 0])) w1) := fun w1 b => by
      have H1 := H.below b
      have hts : TS w1 (fun x => w0.heap.size ≤ x) v acc := by
        obtain ⟨A, c, e, h1, h2, h3⟩ := TS_of_own H1.own
        exact ⟨A, c, e, h1, h2, fun h0 => by obtain ⟨b, o, h4, h5, h6⟩ := h3 h0; exact ⟨b, o, h4, Nat.le_of_succ_le h5, h6⟩⟩
      refine ⟨v, ?_, ?_, H1.bel⟩
      · rw [hall]
      · rw [hall]; exact hts
    unfold strV at *
    generalize (⟨(s.drop en).toArray⟩ : ByteArray) = t at *
    generalize (⟨s.toArray⟩ : ByteArray) = z at *
    clear hk hi H hl hl2 hle hen h6 hout hall
    subst hend
    unfold frX
    go_wp2_with (go_at_call 22; refine (hro _).mono ?_; rintro e w1 ⟨rfl, b1⟩)
    rw [JX.ret]
    unfold QLx
    go_ret3
    exact HA.out _ b1
  have hlt : i < s.length := by have := hl2.1; omega
  obtain ⟨c, l, hd⟩ : ∃ c l, s.drop i = c :: l := ⟨_, _, List.drop_eq_getElem_cons hlt⟩
  have hb := hout c l hd
  have hne : ((i : Int) == (s.length : Int)) = false := by simp; omega
  obtain ⟨j1, hj1⟩ : ∃ j, j = i + 1 := ⟨_, rfl⟩
  have hw2 : IntKind.i64.wrap ((i : Int) + 1) = (j1 : Int) := by rw [IntKind.wrap_i64]; omega
  have hone : ∀ W : World, (Instr.slice 9 (strV s) (some (.int .i64 (i : Int))) (some (.int .i64 (j1 : Int))) none).run Tryz.prog W = .ok (strV [c]) W := by
    have := txt_mid s .i64 .i64 i j1 (by omega) (by omega)
    rw [hd, hj1, show i + 1 - i = 1 by omega] at this
    rw [hj1]
    exact this
  have hix := txt_at s i c (by have := congrArg (fun l => l[0]?) hd; rw [List.getElem?_drop] at this; simpa using this)
  have hE35 : ((⟨[c].toArray⟩ : ByteArray).toList == (⟨[35].toArray⟩ : ByteArray).toList) = decide (c.toNat = 35) := one_eq c 35
  have hE34 : ((⟨[c].toArray⟩ : ByteArray).toList == (⟨[34].toArray⟩ : ByteArray).toList) = decide (c.toNat = 34) := one_eq c 34
  have hE35b : ((⟨[c].toArray⟩ : ByteArray).toList == [35]) = decide (c.toNat = 35) := by have := one_eq c 35; rw [bytes_list [35]] at this; exact this
  have hE34b : ((⟨[c].toArray⟩ : ByteArray).toList == [34]) = decide (c.toNat = 34) := by have := one_eq c 34; rw [bytes_list [34]] at this; exact this
  have hlow := contains_one lowC _ set_low c
  have hdig := contains_one digC _ set_dig c
  obtain ⟨r0, r1, r2, r3, rfl⟩ : ∃ r0 r1 r2 r3, row = #[r0, r1, r2, r3] := by
    have h4 := H.four
    obtain ⟨l⟩ := row
    match l, h4 with
    | [a, b, c, d], _ => exact ⟨a, b, c, d, rfl⟩
  have hm0 : 4 * (s.length - i) + 2 < 4 * (s.length - en) + 3 := by omega
  have hm1 : 4 * (s.length - i) + 1 < 4 * (s.length - en) + 3 := by omega
  by_cases q35 : c.toNat = 35
  · rw [decide_eq_true q35] at hE35 hE35b
    have HGO := Lib.hid (fun a w' v y e cc row => @to_2 s w0 w' (4 * (s.length - en) + 3) i acc a v y e cc row hm0 h6 hl2 c l hd q35)
    unfold strV at *
    generalize (⟨[c].toArray⟩ : ByteArray) = u at *
    generalize (⟨(s.drop en).toArray⟩ : ByteArray) = t at *
    generalize (⟨s.toArray⟩ : ByteArray) = z at *
    clear hk hi H hl hl2 hle hen h6 hout hend hlt hd hb hj1 hm0 hm1 q35 hlow hdig hE34 hE34b
    unfold frX
    go_wp2_with (first
      | (go_at_call 22; refine (hro _).mono ?_; rintro e w1 ⟨rfl, b1⟩; have K := (HH.out.below b1).kb; have c0 : w1.cell? ⟨w0.heap.size, 0, none⟩ = some r0 := K.cell 0; have c1 : w1.cell? ⟨w0.heap.size, 1, none⟩ = some r1 := K.cell 1; have c2 : w1.cell? ⟨w0.heap.size, 2, none⟩ = some r2 := K.cell 2; have c3 : w1.cell? ⟨w0.heap.size, 3, none⟩ = some r3 := K.cell 3; have f0 := K.free 0; have f1 := K.free 1; have f2 := K.free 2; have f3 := K.free 3))
    go_step3
    exact HGO.out _ _ _ _ _ _ _ rfl (((((HH.out.below b1).put 0 _).put 1 _).put 2 _).put 3 _)
  have hh : HereX s acc i c l := ⟨h6, hl2, hd, q35, hb⟩
  rw [decide_eq_false q35] at hE35 hE35b
  cases qlow : lowC c.toNat with
  | true =>
    rw [qlow] at hlow
    have HGO := Lib.hid (fun a w' v y e cc => @to_3 s w0 w' (4 * (s.length - en) + 3) i acc a v y e cc hm0 c l hh qlow)
    unfold strV at *
    generalize (⟨[c].toArray⟩ : ByteArray) = u at *
    generalize (⟨(s.drop en).toArray⟩ : ByteArray) = t at *
    generalize (⟨s.toArray⟩ : ByteArray) = z at *
    clear hk hi H hl hl2 hle hen h6 hout hend hlt hd hb hj1 hm0 hm1 q35 qlow hh hdig hE34 hE34b
    unfold frX
    go_wp2_with (first
      | (go_at_call 22; refine (hro _).mono ?_; rintro e w1 ⟨rfl, b1⟩; have K := (HH.out.below b1).kb; have c0 : w1.cell? ⟨w0.heap.size, 0, none⟩ = some r0 := K.cell 0; have c1 : w1.cell? ⟨w0.heap.size, 1, none⟩ = some r1 := K.cell 1; have c2 : w1.cell? ⟨w0.heap.size, 2, none⟩ = some r2 := K.cell 2; have c3 : w1.cell? ⟨w0.heap.size, 3, none⟩ = some r3 := K.cell 3; have f0 := K.free 0; have f1 := K.free 1; have f2 := K.free 2; have f3 := K.free 3)
      | (go_at_call 23; refine (hlow _).mono ?_; rintro e w2 ⟨rfl, rfl⟩))
    go_step3
    exact HGO.out _ _ _ _ _ _ rfl (((((HH.out.below b1).put 0 _).put 1 _).put 2 _).put 3 _)
  | false =>
  rw [qlow] at hlow
  by_cases q34 : c.toNat = 34
  · rw [decide_eq_true q34] at hE34 hE34b
    have HGO := Lib.hid (fun a w' v y cc => @to_4 s w0 w' (4 * (s.length - en) + 3) i acc a v y cc hm0 c l hh q34)
    unfold strV at *
    generalize (⟨[c].toArray⟩ : ByteArray) = u at *
    generalize (⟨(s.drop en).toArray⟩ : ByteArray) = t at *
    generalize (⟨s.toArray⟩ : ByteArray) = z at *
    clear hk hi H hl hl2 hle hen h6 hout hend hlt hd hb hj1 hm0 hm1 q35 qlow q34 hh hdig
    unfold frX
    go_wp2_with (first
      | (go_at_call 22; refine (hro _).mono ?_; rintro e w1 ⟨rfl, b1⟩; have K := (HH.out.below b1).kb; have c0 : w1.cell? ⟨w0.heap.size, 0, none⟩ = some r0 := K.cell 0; have c1 : w1.cell? ⟨w0.heap.size, 1, none⟩ = some r1 := K.cell 1; have c2 : w1.cell? ⟨w0.heap.size, 2, none⟩ = some r2 := K.cell 2; have c3 : w1.cell? ⟨w0.heap.size, 3, none⟩ = some r3 := K.cell 3; have f0 := K.free 0; have f1 := K.free 1; have f2 := K.free 2; have f3 := K.free 3)
      | (go_at_call 23; refine (hlow _).mono ?_; rintro e w2 ⟨rfl, rfl⟩))
    go_step3
    exact HGO.out _ _ _ _ _ rfl (((((HH.out.below b1).put 0 _).put 1 _).put 2 _).put 3 _)
  rw [decide_eq_false q34] at hE34 hE34b
  cases qdig : digC c.toNat with
  | true =>
    rw [qdig] at hdig
    have HGO := Lib.hid (fun a w' v y e cc => @to_5 s w0 w' (4 * (s.length - en) + 3) i acc a v y e cc hm0 c l hh qdig)
    unfold strV at *
    generalize (⟨[c].toArray⟩ : ByteArray) = u at *
    generalize (⟨(s.drop en).toArray⟩ : ByteArray) = t at *
    generalize (⟨s.toArray⟩ : ByteArray) = z at *
    clear hk hi H hl hl2 hle hen h6 hout hend hlt hd hb hj1 hm0 hm1 q35 qlow q34 hh qdig
    unfold frX
    go_wp2_with (go_at_call 22; refine (hro _).mono ?_; rintro e w1 ⟨rfl, b1⟩; have K := (HH.out.below b1).kb; have c0 : w1.cell? ⟨w0.heap.size, 0, none⟩ = some r0 := K.cell 0; have c1 : w1.cell? ⟨w0.heap.size, 1, none⟩ = some r1 := K.cell 1; have c2 : w1.cell? ⟨w0.heap.size, 2, none⟩ = some r2 := K.cell 2; have c3 : w1.cell? ⟨w0.heap.size, 3, none⟩ = some r3 := K.cell 3; have f0 := K.free 0; have f1 := K.free 1; have f2 := K.free 2; have f3 := K.free 3)
    refine (hlow _).mono ?_
    rintro e w2 ⟨rfl, rfl⟩
    go_wp2_with fail
    refine (hdig _).mono ?_
    rintro e w3 ⟨rfl, rfl⟩
    go_wp2_with fail
    go_step3
    exact HGO.out _ _ _ _ _ _ rfl (((((HH.out.below b1).put 0 _).put 1 _).put 2 _).put 3 _)
  | false =>
  rw [qdig] at hdig
  have hos := one_sign (l := l) qlow q34 qdig
  have hsg := sign_any c.toNat
  by_cases q0 : signW c.toNat = 0
  · rw [if_pos q0] at hos
    have hbad := all_bad h6 hl2 hd q35 hb (by rw [hos]; decide)
    rw [hos] at hbad
    have HGO := Lib.hid (fun a w' v y cc row => @to_0 s w0 w' (4 * (s.length - en) + 3) i acc a v y cc row (by omega) 2 hbad)
    have E0 : ((signW c.toNat : Int) == 0) = true := by simp; omega
    generalize signW c.toNat = sg at *
    unfold strV at *
    generalize (⟨[c].toArray⟩ : ByteArray) = u at *
    generalize (⟨(s.drop en).toArray⟩ : ByteArray) = t at *
    generalize (⟨s.toArray⟩ : ByteArray) = z at *
    clear hk hi H hl hl2 hle hen h6 hout hend hlt hd hb hj1 hm0 hm1 q35 qlow q34 hh qdig hos hbad
    unfold frX
    go_wp2_with (go_at_call 22; refine (hro _).mono ?_; rintro e w1 ⟨rfl, b1⟩; have K := (HH.out.below b1).kb; have c0 : w1.cell? ⟨w0.heap.size, 0, none⟩ = some r0 := K.cell 0; have c1 : w1.cell? ⟨w0.heap.size, 1, none⟩ = some r1 := K.cell 1; have c2 : w1.cell? ⟨w0.heap.size, 2, none⟩ = some r2 := K.cell 2; have c3 : w1.cell? ⟨w0.heap.size, 3, none⟩ = some r3 := K.cell 3; have f0 := K.free 0; have f1 := K.free 1; have f2 := K.free 2; have f3 := K.free 3)
    refine (hlow _).mono ?_
    rintro e w2 ⟨rfl, rfl⟩
    go_wp2_with fail
    refine (hdig _).mono ?_
    rintro e w3 ⟨rfl, rfl⟩
    go_wp2_with (go_at_call 24; refine (hsg _).mono ?_; rintro e w4 ⟨rfl, rfl⟩)
    go_step3
    exact HGO.out _ _ _ _ _ _ rfl ((((((HH.out.below b1).put 0 _).put 1 _).put 2 _).put 3 _).put 0 _)
  · rw [if_neg q0] at hos
    have E0 : ((signW c.toNat : Int) == 0) = false := by simp; omega
    have HGO := Lib.hid (fun a w' v e cc row => @to_6 s w0 w' (4 * (s.length - en) + 3) i acc a v e cc row hm1 c l hh (by rw [hos]) j1 (by rw [hos]; exact hj1))
    have HR : Hid ((#[.int .i64 (signW c.toNat : Int), strV [], .int .i64 0, .int .i64 (i : Int)] : Array Value) = #[.int .i64 ((oneC c l).kind : Int), strV [], .int .i64 (oneC c l).n, .int .i64 (i : Int)]) := by show _ = _; rw [hos]
    generalize signW c.toNat = sg at *
    unfold strV at *
    generalize (⟨[c].toArray⟩ : ByteArray) = u at *
    generalize (⟨(s.drop en).toArray⟩ : ByteArray) = t at *
    generalize (⟨s.toArray⟩ : ByteArray) = z at *
    clear hk hi H hl hl2 hle hen h6 hout hend hlt hd hb hj1 hm0 hm1 q35 qlow q34 hh qdig hos
    unfold frX
    go_wp2_with (go_at_call 22; refine (hro _).mono ?_; rintro e w1 ⟨rfl, b1⟩; have K := (HH.out.below b1).kb; have c0 : w1.cell? ⟨w0.heap.size, 0, none⟩ = some r0 := K.cell 0; have c1 : w1.cell? ⟨w0.heap.size, 1, none⟩ = some r1 := K.cell 1; have c2 : w1.cell? ⟨w0.heap.size, 2, none⟩ = some r2 := K.cell 2; have c3 : w1.cell? ⟨w0.heap.size, 3, none⟩ = some r3 := K.cell 3; have f0 := K.free 0; have f1 := K.free 1; have f2 := K.free 2; have f3 := K.free 3)
    refine (hlow _).mono ?_
    rintro e w2 ⟨rfl, rfl⟩
    go_wp2_with fail
    refine (hdig _).mono ?_
    rintro e w3 ⟨rfl, rfl⟩
    go_wp2_with (go_at_call 24; refine (hsg _).mono ?_; rintro e w4 ⟨rfl, rfl⟩)
    go_step3
    exact HGO.out _ _ _ _ _ _ rfl ((((((HH.out.below b1).put 0 _).put 1 _).put 2 _).put 3 _).put 0 _) HR.out
end
section
open Go.RowKit
theorem passes (s : List UInt8) (w0 : World) : ∀ m l a w, KX s w0 m l a w → ∃ rest, findLabel bodyX l = some rest ∧ rest.wp Tryz.prog (JX s w0 m) a w := by
  intro m l a w hk
  have use : (∃ rest, findLabel bodyX l = some (Code.skip.seq rest) ∧ ∀ m a w, KX s w0 m l a w → rest.wp Tryz.prog (JX s w0 m) a w) → ∃ rest, findLabel bodyX l = some rest ∧ rest.wp Tryz.prog (JX s w0 m) a w :=
    fun ⟨rest, h1, h2⟩ => ⟨_, h1, wp_seq (wp_skip (h2 m a w hk))⟩
  match l, hk, use with
  | 0, _, use => exact use (pass_0 s w0)
  | 1, _, use => exact use (pass_1 s w0)
  | 2, _, use => exact use (pass_2 s w0)
  | 3, _, use => exact use (pass_3 s w0)
  | 4, _, use => exact use (pass_4 s w0)
  | 5, _, use => exact use (pass_5 s w0)
  | 6, _, use => exact use (pass_6 s w0)
  | _ + 7, hk, _ =>
    obtain ⟨_, _, _, _, _, _, _, _, _, _, h⟩ := hk
    exact h.elim
theorem firsts {s : List UInt8} {w0 : World} {m : Nat} {c : Code} {a : Act} {w : World} (h : c.wp Tryz.prog (JX s w0 m) a w) : c.wp Tryz.prog (Exit.jumps (fun l a w => ∃ m, KX s w0 m l a w) (QLx s w0)) a w :=
  Exit.jumps_mono (fun l a w ⟨m', _, hk⟩ => ⟨m', hk⟩) h
set_option maxHeartbeats 4000000 in
theorem all16_any (s : List UInt8) (hs : s.length ≤ maxLen) (w : World) : Calls Tryz.prog 14 #[strV s] w (AllAs s w) := by
  have hzs : ((⟨s.toArray⟩ : ByteArray).size : Int) = (s.length : Int) := rfl
  obtain ⟨rest1, f1, p1⟩ := pass_1 s w
  have F1 := Lib.hid f1
  have P1 := Lib.hid p1
  have H0 : AtX s w (w.alloc (.cells #[.int .i64 0, strV [], .int .i64 0, .int .i64 0] 62)) (.slice none 0 0) [] #[.int .i64 0, strV [], .int .i64 0, .int .i64 0] :=
    ⟨World.ownsRow_nil _ _ _ _, KB.new _ _ _, rfl, (Below.refl w.heap.size w).alloc (Nat.le_refl _) _⟩
  have HH := Lib.hid H0
  have HP := Lib.hid (passes s w)
  have HA1 : Hid (s.length ≤ 600 → ∀ a x e c, a = frX (strV s) (.slice none 0 0) (.pointer (some ⟨w.heap.size, 0, none⟩)) x (.int .i64 0) e c (fun k => a.tmps.toList.getD k undef) → KX s w (4 * (s.length - 0) + 3) 1 a (w.alloc (.cells #[.int .i64 0, strV [], .int .i64 0, .int .i64 0] 62))) :=
    fun h6 a x e c hf => ⟨_, _, _, _, _, _, [], _, hf, H0, 0, rfl, h6, lead_zero s, rfl⟩
  have HA0 : Hid (600 < s.length → ∀ a y c, a = frX (strV s) (.slice none 0 0) (.pointer (some ⟨w.heap.size, 0, none⟩)) (.int .i64 0) y (.int .i64 3) c (fun k => a.tmps.toList.getD k undef) → KX s w 0 0 a (w.alloc (.cells #[.int .i64 0, strV [], .int .i64 0, .int .i64 0] 62))) :=
    fun h6 a y c hf => ⟨_, _, _, _, _, _, [], _, hf, H0, 0, 3, rfl, rfl, all_long h6⟩
  unfold strV at *
  generalize (⟨s.toArray⟩ : ByteArray) = z at *
  clear f1 p1 H0 hs
  go_enter Tryz.func14, Tryz.ntmps14
  go_wp2
  refine wp_scope_many (KX s w) ?_ HP.out
  by_cases h6 : 600 < s.length
  · have HK := Lib.hid (HA0.out h6)
    clear HA0 HA1
    go_wp2
    go_step3
    exact ⟨_, HK.out _ _ _ rfl⟩
  · have HK := Lib.hid (HA1.out (by omega))
    clear HA0 HA1
    go_wp2
    rename_i KK hKK
    apply wp_label
    refine hKK _ _ (wp_fall F1.out rfl (firsts (P1.out _ _ _ (HK.out _ _ _ _ rfl))))
end
end Go.Proofs.YthindhlogkhclaaGreatDoor
