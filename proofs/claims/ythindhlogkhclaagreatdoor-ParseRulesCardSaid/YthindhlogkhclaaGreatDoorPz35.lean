/-
  LxC: All from its labels on (layer 16): wrong, and a remark. No condition.
-/
import Derived.Test.YthindhlogkhclaaGreatDoorPz34
import Derived.Test.YthindhlogkhclaaGreatDoorPz13
set_option linter.unusedVariables false
set_option maxRecDepth 100000
namespace Go.Proofs.YthindhlogkhclaaGreatDoor
section
open Go.RowKit
def QLx (s : List UInt8) (w0 : World) : Exit → Act → World → Prop := bodyPost Tryz.prog Tryz.f14 (AllAs s w0)
def JX (s : List UInt8) (w0 : World) (m : Nat) : Exit → Act → World → Prop := Exit.jumps (fun l' a' w' => ∃ m', m' < m ∧ KX s w0 m' l' a' w') (QLx s w0)
theorem JX.ret {s : List UInt8} {w0 : World} {m : Nat} {a : Act} {w : World} : JX s w0 m .ret a w = QLx s w0 .ret a w := rfl
theorem JX.goto {s : List UInt8} {w0 : World} {m : Nat} {a : Act} {w : World} {l m' : Nat} (h : m' < m) (hk : KX s w0 m' l a w) : JX s w0 m (.goto l) a w := ⟨m', h, hk⟩
/-! To a label. -/
section
variable {s : List UInt8} {w0 w' : World} {m i : Nat} {acc : List Tk} {a : Act} {v x y e c : Value} {row : Array Value}
theorem to_0 (hm : 0 < m) (r : Int) (h : allS s = ([], i, r)) (hf : a = frX (strV s) v (.pointer (some ⟨w0.heap.size, 0, none⟩)) (.int .i64 (i : Int)) y (.int .i64 r) c (fun k => a.tmps.toList.getD k undef)) (H : AtX s w0 w' v acc row) : JX s w0 m (.goto 0) a w' :=
  JX.goto hm ⟨v, _, _, _, _, _, acc, row, hf, H, i, r, rfl, rfl, h⟩
theorem to_1 (hm : 4 * (s.length - i) + 3 < m) (h6 : s.length ≤ 600) (hl : Lead s acc i) (hf : a = frX (strV s) v (.pointer (some ⟨w0.heap.size, 0, none⟩)) x (.int .i64 (i : Int)) e c (fun k => a.tmps.toList.getD k undef)) (H : AtX s w0 w' v acc row) : JX s w0 m (.goto 1) a w' :=
  JX.goto hm ⟨v, _, _, _, _, _, acc, row, hf, H, i, rfl, h6, hl, rfl⟩
theorem to_2 (hm : 4 * (s.length - i) + 2 < m) (h6 : s.length ≤ 600) (hl : Lead s acc i) {b : UInt8} {l : List UInt8} (hd : s.drop i = b :: l) (hb : b.toNat = 35) (hf : a = frX (strV s) v (.pointer (some ⟨w0.heap.size, 0, none⟩)) (.int .i64 (i : Int)) y e c (fun k => a.tmps.toList.getD k undef)) (H : AtX s w0 w' v acc row) : JX s w0 m (.goto 2) a w' :=
  JX.goto hm ⟨v, _, _, _, _, _, acc, row, hf, H, i, b, l, rfl, h6, hl, hd, hb, rfl⟩
theorem to_3 (hm : 4 * (s.length - i) + 2 < m) {b : UInt8} {l : List UInt8} (hh : HereX s acc i b l) (hb : lowC b.toNat = true) (hf : a = frX (strV s) v (.pointer (some ⟨w0.heap.size, 0, none⟩)) (.int .i64 (i : Int)) y e c (fun k => a.tmps.toList.getD k undef)) (H : AtX s w0 w' v acc #[.int .i64 0, strV [], .int .i64 0, .int .i64 (i : Int)]) : JX s w0 m (.goto 3) a w' :=
  JX.goto hm ⟨v, _, _, _, _, _, acc, _, hf, H, i, b, l, rfl, hh, hb, rfl, rfl⟩
theorem to_4 (hm : 4 * (s.length - i) + 2 < m) {b : UInt8} {l : List UInt8} (hh : HereX s acc i b l) (hb : b.toNat = 34) (hf : a = frX (strV s) v (.pointer (some ⟨w0.heap.size, 0, none⟩)) (.int .i64 (i : Int)) y (.int .i64 2) c (fun k => a.tmps.toList.getD k undef)) (H : AtX s w0 w' v acc #[.int .i64 0, strV [], .int .i64 0, .int .i64 (i : Int)]) : JX s w0 m (.goto 4) a w' :=
  JX.goto hm ⟨v, _, _, _, _, _, acc, _, hf, H, i, b, l, rfl, rfl, hh, hb, rfl, rfl⟩
theorem to_5 (hm : 4 * (s.length - i) + 2 < m) {b : UInt8} {l : List UInt8} (hh : HereX s acc i b l) (hb : digC b.toNat = true) (hf : a = frX (strV s) v (.pointer (some ⟨w0.heap.size, 0, none⟩)) (.int .i64 (i : Int)) y e c (fun k => a.tmps.toList.getD k undef)) (H : AtX s w0 w' v acc #[.int .i64 0, strV [], .int .i64 0, .int .i64 (i : Int)]) : JX s w0 m (.goto 5) a w' :=
  JX.goto hm ⟨v, _, _, _, _, _, acc, _, hf, H, i, b, l, rfl, hh, hb, rfl, rfl⟩
theorem k_6 {b : UInt8} {l : List UInt8} (hh : HereX s acc i b l) (he : (oneC b l).e = 0) {j : Nat} (hj : j = i + (oneC b l).size) (hf : a = frX (strV s) v (.pointer (some ⟨w0.heap.size, 0, none⟩)) (.int .i64 (i : Int)) (.int .i64 (j : Int)) e c (fun k => a.tmps.toList.getD k undef))
    (H : AtX s w0 w' v acc row) (hr : row = #[.int .i64 ((oneC b l).kind : Int), strV [], .int .i64 (oneC b l).n, .int .i64 (i : Int)]) : KX s w0 (4 * (s.length - i) + 1) 6 a w' :=
  ⟨v, _, _, _, _, _, acc, row, hf, H, i, b, l, rfl, by rw [hj], hh, he, hr, rfl⟩
theorem to_6 (hm : 4 * (s.length - i) + 1 < m) {b : UInt8} {l : List UInt8} (hh : HereX s acc i b l) (he : (oneC b l).e = 0) {j : Nat} (hj : j = i + (oneC b l).size) (hf : a = frX (strV s) v (.pointer (some ⟨w0.heap.size, 0, none⟩)) (.int .i64 (i : Int)) (.int .i64 (j : Int)) e c (fun k => a.tmps.toList.getD k undef))
    (H : AtX s w0 w' v acc row) (hr : row = #[.int .i64 ((oneC b l).kind : Int), strV [], .int .i64 (oneC b l).n, .int .i64 (i : Int)]) : JX s w0 m (.goto 6) a w' :=
  JX.goto hm (k_6 hh he hj hf H hr)
theorem AtX.put (h : AtX s w0 w' v acc row) (k : Nat) (u : Value) : AtX s w0 (w'.setCell ⟨w0.heap.size, k, none⟩ u) v acc (row.setIfInBounds k u) := by
  have hg := grown_set w' w0.heap.size k u
  refine ⟨?_, h.kb.put k u, by rw [Array.size_setIfInBounds]; exact h.four, h.bel.grown hg h.bel.size (fun g e => by injection e with e; omega)⟩
  refine own_keep h.own fun b hb => hg.block b ?_ (fun e => ?_)
  · obtain ⟨_, h2⟩ := h.own
    rcases h2 with ⟨rfl, h0⟩ | ⟨g, cap, cur, rfl, hb2, hg2, _⟩
    · simp [Value.ownBlock] at hb
    · simp [Value.ownBlock] at hb
      subst hb
      exact (Array.getElem?_eq_some_iff.1 hg2).1
  · have := own_ge h.own b hb
    injection e with e
    omega
end
theorem pass_0 (s : List UInt8) (w0 : World) : ∃ rest, findLabel bodyX 0 = some (Code.skip.seq rest) ∧ ∀ m a w, KX s w0 m 0 a w → rest.wp Tryz.prog (JX s w0 m) a w := by
  refine ⟨_, rfl, ?_⟩
  rintro m a w ⟨v, x, y, e, c, f, acc, row, rfl, H, i, r, rfl, rfl, hall⟩
  have hA : AllAs s w0 (.returned (.tuple #[.slice none 0 0, .int .i64 (i : Int), .int .i64 r])) w := by
    refine ⟨.slice none 0 0, ?_, ?_, H.bel⟩
    · rw [hall]
    · rw [hall]; exact TS.nil _ _
  clear hall H
  unfold frX
  go_wp2
  rw [JX.ret]
  unfold QLx
  go_ret3
  exact hA
theorem noL_is : noC 10 = noL := rfl
theorem noQ_is : noC 34 = noQ := rfl
theorem pass_2 (s : List UInt8) (w0 : World) : ∃ rest, findLabel bodyX 2 = some (Code.skip.seq rest) ∧ ∀ m a w, KX s w0 m 2 a w → rest.wp Tryz.prog (JX s w0 m) a w := by
  refine ⟨_, rfl, ?_⟩
  rintro m a w ⟨v, x, y, e, cv, f, acc, row, rfl, H, i, c, l, rfl, h6, hl, hd, hc, rfl⟩
  have hi := hl.1
  have hcut : ∀ W : World, (Instr.slice 9 (strV s) (some (.int .i64 (i : Int))) none none).run Tryz.prog W = .ok (strV (s.drop i)) W := txt_from s i hi
  have hah := ahead_any (s.drop i) (by rw [List.length_drop]; unfold maxLen; omega) 10
  have hlead := lead_hash hl hd hc
  have hk1 : 1 ≤ takeN noL (s.drop i) := by
    rw [hd, takeN, if_pos (by rw [hc]; decide)]
    omega
  have hle := takeN_le noL (s.drop i)
  rw [noL_is] at hah
  have hsz : ((⟨((s.drop i).take (takeN noL (s.drop i))).toArray⟩ : ByteArray).size : Int) = (takeN noL (s.drop i) : Int) := by
    rw [str_size, List.length_take]
    omega
  have hj := hlead.1
  rw [List.length_drop] at hle
  generalize takeN noL (s.drop i) = k at *
  have hwr : IntKind.i64.wrap ((i : Int) + (k : Int)) = ((i + k : Nat) : Int) := by rw [IntKind.wrap_i64]; omega
  have HGO := Lib.hid (fun a w' v x e c row => @to_1 s w0 w' (4 * (s.length - i) + 2) (i + k) acc a v x e c row (by omega) h6 hlead)
  have HH := Lib.hid H
  unfold strV at *
  generalize (⟨((s.drop i).take k).toArray⟩ : ByteArray) = u at *
  generalize (⟨(s.drop i).toArray⟩ : ByteArray) = t at *
  generalize (⟨s.toArray⟩ : ByteArray) = z at *
  clear hlead H hl hd hc hk1 hle hj h6 hi
  unfold frX
  go_wp2_with (go_at_call 25; refine (hah _).mono ?_; rintro e w' ⟨rfl, b⟩)
  go_step3
  exact HGO.out _ _ _ _ _ _ _ rfl (HH.out.below b)
theorem one_low {c : UInt8} {l : List UInt8} (h : lowC c.toNat = true) : oneC c l = wordW (c :: l) := by
  have h2 : 97 ≤ c.toNat ∧ c.toNat ≤ 122 := by simpa [lowC] using h
  unfold oneC
  rw [if_neg (by omega), if_neg (by omega), if_neg (by omega), if_pos h]
theorem one_quote {c : UInt8} {l : List UInt8} (h : c.toNat = 34) : oneC c l = quoteW l := by
  unfold oneC
  rw [if_neg (by omega), if_neg (by omega), if_neg (by omega), if_neg (by rw [h]; decide), if_pos h]
theorem one_dig {c : UInt8} {l : List UInt8} (h : digC c.toNat = true) : oneC c l = spanW (c :: l) := by
  have h2 : 48 ≤ c.toNat ∧ c.toNat ≤ 57 := by simpa [digC] using h
  have hn : ¬ lowC c.toNat = true := fun e => by
    have : 97 ≤ c.toNat ∧ c.toNat ≤ 122 := by simpa [lowC] using e
    omega
  unfold oneC
  rw [if_neg (by omega), if_neg (by omega), if_neg (by omega), if_neg hn, if_neg (by omega), if_pos h]
theorem pass_3 (s : List UInt8) (w0 : World) : ∃ rest, findLabel bodyX 3 = some (Code.skip.seq rest) ∧ ∀ m a w, KX s w0 m 3 a w → rest.wp Tryz.prog (JX s w0 m) a w := by
  refine ⟨_, rfl, ?_⟩
  rintro m a w ⟨v, x, y, e, cv, f, acc, row, rfl, H, i, c, l, rfl, hh, hc, rfl, rfl⟩
  have hi := hh.lead.1
  have h6 := hh.six
  have hcut : ∀ W : World, (Instr.slice 9 (strV s) (some (.int .i64 (i : Int))) none none).run Tryz.prog W = .ok (strV (s.drop i)) W := txt_from s i hi
  have hro := row_any wordC _ set_word ascii_word (by decide) (s.drop i) (by rw [List.length_drop]; unfold maxLen; omega)
  have hle := takeN_le wordC (s.drop i)
  rw [List.length_drop] at hle
  have ho : oneC c l = wordW (c :: l) := one_low hc
  have hk : (oneC c l).size = takeN wordC (s.drop i) := by rw [ho, hh.at_]; rfl
  generalize takeN wordC (s.drop i) = k at *
  have hwr : IntKind.i64.wrap ((i : Int) + (k : Int)) = ((i + k : Nat) : Int) := by rw [IntKind.wrap_i64]; omega
  have HGO := Lib.hid (fun a w' v e cc H => @to_6 s w0 w' (4 * (s.length - i) + 2) i acc a v e cc #[.int .i64 1, strV [], .int .i64 0, .int .i64 (i : Int)] (by omega) c l hh (by rw [ho]; rfl) (i + k) (by rw [hk]) H)
  have HR : Hid ((#[.int .i64 1, strV [], .int .i64 0, .int .i64 (i : Int)] : Array Value) = #[.int .i64 ((oneC c l).kind : Int), strV [], .int .i64 (oneC c l).n, .int .i64 (i : Int)]) := by show _ = _; rw [ho]; rfl
  have HH := Lib.hid H
  unfold strV at *
  generalize (⟨(s.drop i).toArray⟩ : ByteArray) = t at *
  generalize (⟨s.toArray⟩ : ByteArray) = z at *
  clear H hh hc hle h6 hi ho hk
  unfold frX
  go_wp2_with (go_at_call 22; refine (hro _).mono ?_; rintro e w' ⟨rfl, b⟩; have K := (HH.out.below b).kb; have c0 : w'.cell? ⟨w0.heap.size, 0, none⟩ = some (.int .i64 0) := K.cell 0; have f0 := K.free 0)
  go_step3
  exact HGO.out _ _ _ _ _ rfl ((HH.out.below b).put 0 _) HR.out
end
end Go.Proofs.YthindhlogkhclaaGreatDoor
