/-
  The program's Print (layer 17), over the loaded program: its contract. No condition but sizes, and that the library's table of powers of ten is as laid.
-/
import Derived.Test.YtbhebjkicooidaaDoorRuQ
namespace Go.Proofs.YtbhebjkicooidaaDoor
open Go.RowKit
set_option maxRecDepth 100000
set_option linter.unusedVariables false

theorem line_len {f : Nat} {r : Rl f} (h : goodR f r = true) : (lineR f r).length ≤ 1100 := by
  unfold goodR at h
  simp only [Bool.and_eq_true, Bool.or_eq_true, decide_eq_true_eq] at h
  obtain ⟨⟨hact, hcls⟩, hmay⟩ := h
  have hcl : r.cls.length ≤ 16 := by
    rcases hcls with h | h
    · rw [h]; simp
    · exact ((name_iff _).1 h).2.1
  unfold mayX at hmay
  simp only [Bool.and_eq_true, decide_eq_true_eq] at hmay
  have hel := expr_len f r.when_ 8 hmay.1
  have hal : (actS r.act).length ≤ 7 := by unfold actS; split <;> (try split) <;> simp
  have hol : (ofS r.cls).length ≤ 24 := by unfold ofS; split <;> simp; omega
  unfold lineR keepW thenW
  simp only [List.length_append, List.length_cons, List.length_nil]
  omega
theorem lines_step {f : Nat} {l : List (Rl f)} {j : Nat} (hj : j < l.length) : (l.take (j + 1)).flatMap (lineR f) = (l.take j).flatMap (lineR f) ++ lineR f l[j] := by
  rw [List.take_add_one, List.getElem?_eq_getElem hj, List.flatMap_append]
  simp
theorem print_bad {f : Nat} {l : List (Rl f)} (h : checkR f l ≠ 0) : printR f l = ([], checkR f l) := by unfold printR; rw [if_neg h]
theorem print_long {f : Nat} {l : List (Rl f)} (h : checkR f l = 0) (h2 : 600 < (l.flatMap (lineR f)).length) : printR f l = ([], 3) := by unfold printR; rw [if_pos h, if_pos h2]
theorem print_ok {f : Nat} {l : List (Rl f)} (h : checkR f l = 0) (h2 : ¬ 600 < (l.flatMap (lineR f)).length) : printR f l = (l.flatMap (lineR f), 0) := by unfold printR; rw [if_pos h, if_neg h2]

set_option maxHeartbeats 8000000 in
/-- Print. -/
theorem print_any (S : Nat → Prop) (f : Nat) (l : List (Rl f)) (v : Value) (w : World) (hS : ∀ b, S b → b < w.heap.size) (hp : Pow w) (hv : RS w S f v l) :
    Calls Tryd.prog 8 #[v] w fun e w' => e = .returned (.tuple #[strV (printR f l).1, .int .i64 (printR f l).2]) ∧ Below w.heap.size w w' := by
  have hck := check_any S f l v w hS hv
  obtain ⟨A3, cap3, rfl, hl3, hm3⟩ := hv.form
  by_cases hz : checkR f l = 0
  case neg =>
    rw [print_bad hz]
    dsimp only
    generalize checkR f l = r at *
    have E : (r != 0) = true := bne_iff_ne.2 hz
    clear hv hp hz
    go_enter Tryd.func8, Tryd.ntmps8
    go_wp2_with fail
    refine hck.mono ?_
    rintro e w1 ⟨rfl, b1⟩
    clear hck
    go_wp2_with fail
    go_ret2
    exact ⟨rfl, b1⟩
  obtain ⟨h12, hgood, _⟩ := check_zero hz
  rw [hz] at hck
  obtain ⟨TX, hTX⟩ : ∃ TX, TX = l.flatMap (lineR f) := ⟨_, rfl⟩
  obtain ⟨R, hR⟩ : ∃ R, R = printR f l := ⟨_, rfl⟩
  rw [← hR]
  have HLONG : Hid (600 < TX.length → R = ([], 3)) := fun h => hR.trans (print_long hz (by rw [← hTX]; exact h))
  have HSHORT : Hid (¬ 600 < TX.length → R = (TX, 0)) := fun h => by rw [hR, print_ok hz (by rw [← hTX]; exact h), ← hTX]
  have HLAST : Hid ((l.take l.length).flatMap (lineR f) = TX) := by show _ = _; rw [List.take_length, hTX]
  have HRB : Hid (∀ (wr : World), Below w.heap.size w wr → ∀ (j : Nat) (hj : j < l.length), ∃ b o e1 e2 e3 e4, A3 = some ⟨b, o, none⟩ ∧ b < w.heap.size ∧ wr.cell? ⟨b, o + j * 6, none⟩ = some (strV l[j].cls) ∧ wr.cell? ⟨b, o + j * 6 + 1, none⟩ = some e1 ∧ wr.cell? ⟨b, o + j * 6 + 2, none⟩ = some e2 ∧ wr.cell? ⟨b, o + j * 6 + 3, none⟩ = some e3 ∧
      wr.cell? ⟨b, o + j * 6 + 4, none⟩ = some e4 ∧ wr.cell? ⟨b, o + j * 6 + 5, none⟩ = some (.int .i64 l[j].act) ∧ EV wr S f (.agg #[e1, e2, e3, e4]) l[j].when_ ∧ l[j].cls.length ≤ maxLen ∧ I64 l[j].act) := fun wr hb j hj => rule_b hv rfl hb j hj
  have HGD : Hid (∀ (j : Nat) (hj : j < l.length), goodR f l[j] = true) := fun j hj => List.all_eq_true.1 hgood _ (List.getElem_mem hj)
  have HPW : Hid (∀ W, Below w.heap.size w W → Pow W) := fun W hb => hp.below hb
  have hll : l.length ≤ 12 := by omega
  clear hv hp hR hTX hgood hz
  go_enter Tryd.func8, Tryd.ntmps8
  go_wp2_with fail
  refine hck.mono ?_
  rintro e w1 ⟨rfl, b1⟩
  clear hck
  have bb := bld_new w1
  have B1 := b1.alloc b1.size (.cells #[.pointer none, .slice none 0 0] 50)
  have hgb : w.heap.size ≤ w1.heap.size := b1.size
  have hs1 : w1.heap.size ≤ (w1.alloc (.cells #[.pointer none, .slice none 0 0] 50)).heap.size := by simp
  go_wp2_with fail
  go_loopw [15] (fun iv wr => ∃ (j : Nat) (a : List UInt8), j ≤ l.length ∧ iv = .int .i64 j ∧ a.length ≤ j * 1100 ∧ Hid (a = (l.take j).flatMap (lineR f)) ∧ Bld wr w1.heap.size w1.heap.size a ∧ w1.heap.size ≤ wr.heap.size ∧ Below w.heap.size w wr) (fun iv _ => l.length - (intOf iv).toNat)
  case atStart => exact ⟨0, [], by omega, rfl, by simp, by show _ = _; simp, bb, hs1, B1⟩
  case round =>
    clear bb B1 hs1
    obtain ⟨j, a, hj, rfl, hal, HA, bd, hsz, B⟩ := hrel
    by_cases hlt : j < l.length
    · have hltI : (j : Int) < (l.length : Int) := by omega
      obtain ⟨b, o, e1, e2, e3, e4, rfl, hb, k0, k1, k2, k3, k4, k5, hx, hcm, hai⟩ := HRB.out wr B j hlt
      have hgj := HGD.out j hlt
      have hln := line_len hgj
      have B2 := B.alloc B.size (.cells #[strV l[j].cls, e1, e2, e3, e4, .int .i64 l[j].act] 37)
      have hli := line_any S f l[j] e1 e2 e3 e4 (wr.alloc (.cells #[strV l[j].cls, e1, e2, e3, e4, .int .i64 l[j].act] 37)) hgj (HPW.out _ B2) (hx.alloc _)
      have bd2 := bd.below ((Below.refl wr.heap.size wr).alloc (Nat.le_refl _) (.cells #[strV l[j].cls, e1, e2, e3, e4, .int .i64 l[j].act] 37))
      have HNX : Hid (a ++ lineR f l[j] = (l.take (j + 1)).flatMap (lineR f)) := by show _ = _; rw [lines_step hlt, HA.out]
      obtain ⟨_, _, _, _, e, hx4⟩ := hx
      injection e with e
      simp only [Array.mk.injEq, List.cons.injEq, and_true] at e
      obtain ⟨rfl, rfl, rfl, rfl⟩ := e
      obtain ⟨i0, i1, l2, X3, n3, z3, rfl, rfl, rfl, rfl⟩ := hx4.form
      have hbr : b < wr.heap.size := Nat.lt_of_lt_of_le hb B.size
      have hs2 : w1.heap.size ≤ (wr.alloc (.cells #[strV l[j].cls, .int .i64 i0, .int .i64 i1, strV l2, .slice X3 n3 z3, .int .i64 l[j].act] 37)).heap.size := by simp; omega
      have HWS : Hid (∀ W, Bld W w1.heap.size w1.heap.size a → w1.heap.size ≤ W.heap.size → Calls Tryd.prog 22 #[.pointer (some ⟨w1.heap.size, 0, none⟩), strV (lineR f l[j])] W fun e w' => e = .returned (.tuple #[.int .i64 ((lineR f l[j]).length : Int), .nilIface]) ∧ Bld w' w1.heap.size w1.heap.size (a ++ lineR f l[j]) ∧ Below w1.heap.size W w') := fun W h1 h2 =>
        write_any _ _ a _ W h1 (by omega) h2
      have hal2 : (a ++ lineR f l[j]).length ≤ (j + 1) * 1100 := by rw [List.length_append]; omega
      clear hx4 hgj HA
      generalize lineR f l[j] = q at *
      unfold strV at *
      generalize (⟨l2.toArray⟩ : ByteArray) = s2 at *
      generalize (⟨l[j].cls.toArray⟩ : ByteArray) = sc at *
      generalize (⟨q.toArray⟩ : ByteArray) = sq at *
      generalize l[j].act = ac at *
      have HAL := Lib.hid hal2
      clear hal hal2 hln
      go_wp2_with fail
      refine hli.mono ?_
      rintro e w5 ⟨rfl, b5⟩
      have hs5 : w1.heap.size ≤ w5.heap.size := Nat.le_trans hs2 b5.size
      have hws := HWS.out w5 (bd2.below b5) hs5
      have B5 := B2.trans (b5.mono B2.size)
      clear hli bd bd2 hs2 b5 B B2 HWS k0 k1 k2 k3 k4 k5
      go_wp2_with fail
      refine hws.mono ?_
      rintro e w6 ⟨rfl, bd6, b6⟩
      have B6 := B5.trans (b6.mono hgb)
      have hs6 : w1.heap.size ≤ w6.heap.size := Nat.le_trans hs5 b6.size
      clear hws b6 B5 hs5
      go_wp2_with fail
      go_roundw
      case rel => exact ⟨j + 1, _, by omega, by go_num, HAL.out, HNX, bd6, hs6, B6⟩
      case measure => simp [intOf]; omega
    · have ha := HA.out
      rw [show j = l.length by omega, HLAST.out] at ha
      subst ha
      have hle := len_any _ _ a wr bd
      have hst := string_any _ _ a wr bd hsz
      unfold strV at *
      by_cases hlo : 600 < a.length
      · have E : decide ((600 : Int) < (a.length : Int)) = true := decide_eq_true (by omega)
        have E' : decide (600 < a.length) = true := decide_eq_true hlo
        have hr := HLONG.out hlo
        subst hr
        clear HLONG HSHORT HLAST HGD HRB HPW HA hal hst hlo
        generalize a.length = al at *
        go_wp2_with fail
        refine hle.mono ?_
        rintro e w5 ⟨rfl, rfl⟩
        go_wp2_with fail
        go_ret2
        exact ⟨rfl, B⟩
      · have E : decide ((600 : Int) < (a.length : Int)) = false := decide_eq_false (by omega)
        have E' : decide (600 < a.length) = false := decide_eq_false hlo
        have hr := HSHORT.out hlo
        subst hr
        clear HLONG HSHORT HLAST HGD HRB HPW HA hal hlo
        generalize a.length = al at *
        go_wp2_with fail
        refine hle.mono ?_
        rintro e w5 ⟨rfl, rfl⟩
        go_wp2_with fail
        refine hst.mono ?_
        rintro e w6 ⟨rfl, b6⟩
        go_wp2_with fail
        go_ret2
        exact ⟨rfl, B.trans (b6.mono hgb)⟩
end Go.Proofs.YtbhebjkicooidaaDoor
