/-
  The document's Print (layer 17), over the loaded program: its contract. No condition but sizes.
-/
import Derived.Test.YtbhebjkicooidaaDoorRuR
import Derived.Test.YtbhebjkicooidaaDoorRuO
namespace Go.Proofs.YtbhebjkicooidaaDoor
open Go.RowKit
set_option maxRecDepth 100000
set_option linter.unusedVariables false

theorem rline_len {f : Nat} {r : Rl f} (h : goodR f r = true) : (ofS r.cls).length ≤ 24 ∧ r.cls.length ≤ 16 ∧ (exprX f r.when_).length ≤ 960 ∧ (actS r.act).length ≤ 7 ∧ okX f r.when_ 8 = true ∧ nodesX f r.when_ ≤ 24 := by
  unfold goodR at h
  simp only [Bool.and_eq_true, Bool.or_eq_true, decide_eq_true_eq] at h
  obtain ⟨⟨hact, hcls⟩, hmay⟩ := h
  have hcl : r.cls.length ≤ 16 := by
    rcases hcls with h | h
    · rw [h]; simp
    · exact ((name_iff _).1 h).2.1
  unfold mayX at hmay
  simp only [Bool.and_eq_true, decide_eq_true_eq] at hmay
  have hel := expr_len f r.when_ 8 hmay.1
  have hal : (actS r.act).length ≤ 7 := by unfold actS; split <;> (try split) <;> simp
  have hol : (ofS r.cls).length ≤ 24 := by unfold ofS; split <;> simp; omega
  exact ⟨hol, hcl, by omega, hal, hmay.1, hmay.2⟩
theorem rlines_step {f : Nat} {l : List (Rl f)} {j : Nat} (hj : j < l.length) : (l.take (j + 1)).flatMap (lineR f) = (l.take j).flatMap (lineR f) ++ lineR f l[j] := by
  rw [List.take_add_one, List.getElem?_eq_getElem hj, List.flatMap_append]
  simp
theorem rprint_bad {f : Nat} {l : List (Rl f)} (h : checkR f l ≠ 0) : printR f l = ([], checkR f l) := by unfold printR; rw [if_neg h]
theorem rprint_long {f : Nat} {l : List (Rl f)} (h : checkR f l = 0) (h2 : 600 < (l.flatMap (lineR f)).length) : printR f l = ([], 3) := by unfold printR; rw [if_pos h, if_pos h2]
theorem rprint_ok {f : Nat} {l : List (Rl f)} (h : checkR f l = 0) (h2 : ¬ 600 < (l.flatMap (lineR f)).length) : printR f l = (l.flatMap (lineR f), 0) := by unfold printR; rw [if_pos h, if_neg h2]

set_option maxHeartbeats 8000000 in
/-- Print. -/
theorem rprint_any (S : Nat → Prop) (f : Nat) (l : List (Rl f)) (v : Value) (w : World) (hv : RS w S f v l) :
    Calls Tryd.prog 9 #[v] w fun e w' => e = .returned (.tuple #[strV (printR f l).1, .int .i64 (printR f l).2]) ∧ Below w.heap.size w w' := by
  have hck := rcheck_any S f l v w hv
  obtain ⟨A3, cap3, rfl, hl3, hm3⟩ := hv.form
  by_cases hz : checkR f l = 0
  case neg =>
    rw [rprint_bad hz]
    dsimp only
    generalize checkR f l = r at *
    have E : (r != 0) = true := bne_iff_ne.2 hz
    clear hv hz
    go_enter Tryd.func9, Tryd.ntmps9
    go_wp2_with fail
    refine hck.mono ?_
    rintro e w1 ⟨rfl, b1⟩
    clear hck
    go_wp2_with fail
    go_ret2
    exact ⟨rfl, b1⟩
  obtain ⟨h12, hgood, _⟩ := check_zero hz
  rw [hz] at hck
  obtain ⟨TX, hTX⟩ : ∃ TX, TX = l.flatMap (lineR f) := ⟨_, rfl⟩
  obtain ⟨R, hR⟩ : ∃ R, R = printR f l := ⟨_, rfl⟩
  rw [← hR]
  have HLONG : Hid (600 < TX.length → R = ([], 3)) := fun h => hR.trans (rprint_long hz (by rw [← hTX]; exact h))
  have HSHORT : Hid (¬ 600 < TX.length → R = (TX, 0)) := fun h => by rw [hR, rprint_ok hz (by rw [← hTX]; exact h), ← hTX]
  have HLAST : Hid ((l.take l.length).flatMap (lineR f) = TX) := by show _ = _; rw [List.take_length, hTX]
  have HRB : Hid (∀ (wr : World), Below w.heap.size w wr → ∀ (j : Nat) (hj : j < l.length), ∃ b o e1 e2 e3 e4, A3 = some ⟨b, o, none⟩ ∧ b < w.heap.size ∧ wr.cell? ⟨b, o + j * 6, none⟩ = some (strV l[j].cls) ∧ wr.cell? ⟨b, o + j * 6 + 1, none⟩ = some e1 ∧ wr.cell? ⟨b, o + j * 6 + 2, none⟩ = some e2 ∧ wr.cell? ⟨b, o + j * 6 + 3, none⟩ = some e3 ∧
      wr.cell? ⟨b, o + j * 6 + 4, none⟩ = some e4 ∧ wr.cell? ⟨b, o + j * 6 + 5, none⟩ = some (.int .i64 l[j].act) ∧ EV wr S f (.agg #[e1, e2, e3, e4]) l[j].when_ ∧ l[j].cls.length ≤ maxLen ∧ I64 l[j].act) := fun wr hb j hj => rule_b hv rfl hb j hj
  have HGD : Hid (∀ (j : Nat) (hj : j < l.length), goodR f l[j] = true) := fun j hj => List.all_eq_true.1 hgood _ (List.getElem_mem hj)
  have hll : l.length ≤ 12 := by omega
  clear hv hR hTX hgood hz
  go_enter Tryd.func9, Tryd.ntmps9
  go_wp2_with fail
  refine hck.mono ?_
  rintro e w1 ⟨rfl, b1⟩
  clear hck
  go_wp2_with fail
  go_loopw [5, 6] (fun sv iv wr => ∃ (j : Nat) (a : List UInt8), j ≤ l.length ∧ iv = .int .i64 j ∧ sv = .string ⟨a.toArray⟩ ∧ a.length ≤ j * 1100 ∧ Hid (a = (l.take j).flatMap (lineR f)) ∧ Below w.heap.size w wr) (fun _ iv _ => l.length - (intOf iv).toNat)
  case atStart => exact ⟨0, [], by omega, rfl, rfl, by simp, by show _ = _; simp, b1⟩
  case round =>
    clear b1
    obtain ⟨j, a, hj, rfl, rfl, hal, HA, B⟩ := hrel
    by_cases hlt : j < l.length
    · have hltI : (j : Int) < (l.length : Int) := by omega
      obtain ⟨b, o, e1, e2, e3, e4, rfl, hb, k0, k1, k2, k3, k4, k5, hx, hcm, hai⟩ := HRB.out wr B j hlt
      obtain ⟨hol, hcl, hel, hac, hok, hno⟩ := rline_len (HGD.out j hlt)
      have Bd : Below w.heap.size w wr.drew := Below_drawn B 1
      have Bdd : Below wr.heap.size wr wr.drew := Below_drawn (Below.refl _ _) 1
      have hex := rexpr_any S f l[j].when_ 8 _ wr.drew hok hno (hx.below' Bdd)
      have hav := ract_any l[j].act
      have HNX : Hid (a ++ lineR f l[j] = (l.take (j + 1)).flatMap (lineR f)) := by show _ = _; rw [rlines_step hlt, HA.out]
      obtain ⟨_, _, _, _, e, hx4⟩ := hx
      injection e with e
      simp only [Array.mk.injEq, List.cons.injEq, and_true] at e
      obtain ⟨rfl, rfl, rfl, rfl⟩ := e
      obtain ⟨i0, i1, l2, X3, n3, z3, rfl, rfl, rfl, rfl⟩ := hx4.form
      have hja : j * 1100 ≤ 13200 := by omega
      have e5 : a ++ ofS l[j].cls ++ keepW ++ exprX f l[j].when_ ++ thenW ++ actS l[j].act ++ [59, 10] = a ++ lineR f l[j] := by unfold lineR; simp [List.append_assoc]
      have hlen5 : (a ++ ofS l[j].cls ++ keepW ++ exprX f l[j].when_ ++ thenW ++ actS l[j].act ++ [59, 10]).length ≤ (j + 1) * 1100 := by
        unfold keepW thenW
        simp only [List.length_append, List.length_cons, List.length_nil]
        omega
      have hk6 : keepW.length = 6 := rfl
      have ht6 : thenW.length = 6 := rfl
      have hd2 : ([59, 10] : List UInt8).length = 2 := rfl
      have f1 := txt_add (a ++ ofS l[j].cls) keepW (by rw [List.length_append]; omega)
      have f2 := txt_add (a ++ ofS l[j].cls ++ keepW) (exprX f l[j].when_) (by simp only [List.length_append]; omega)
      have f3 := txt_add (a ++ ofS l[j].cls ++ keepW ++ exprX f l[j].when_) thenW (by simp only [List.length_append]; omega)
      have f4 := txt_add (a ++ ofS l[j].cls ++ keepW ++ exprX f l[j].when_ ++ thenW) (actS l[j].act) (by simp only [List.length_append]; omega)
      have f5 := txt_add (a ++ ofS l[j].cls ++ keepW ++ exprX f l[j].when_ ++ thenW ++ actS l[j].act) [59, 10] (by simp only [List.length_append]; omega)
      have g1 : l[j].cls = [] → ∀ W : World, (Op.stringOp .add ⟨a.toArray⟩ ⟨#[100, 101, 102, 97, 117, 108, 116]⟩).run Tryd.prog W = .ok (.string ⟨(a ++ ofS l[j].cls).toArray⟩) W := fun h => by
        have e : ofS l[j].cls = [100, 101, 102, 97, 117, 108, 116] := by unfold ofS; rw [if_pos h]
        rw [e]
        exact txt_add a [100, 101, 102, 97, 117, 108, 116] (by simp; omega)
      have g2 := txt_add a [99, 108, 97, 115, 115, 32, 34] (by simp; omega)
      have g3 := txt_add (a ++ [99, 108, 97, 115, 115, 32, 34]) l[j].cls (by simp; omega)
      have g4 := txt_add (a ++ [99, 108, 97, 115, 115, 32, 34] ++ l[j].cls) [34] (by simp; omega)
      have g5 : l[j].cls ≠ [] → a ++ [99, 108, 97, 115, 115, 32, 34] ++ l[j].cls ++ [34] = a ++ ofS l[j].cls := fun h => by unfold ofS; rw [if_neg h]; simp
      have HCE := Lib.hid (ne_not ⟨l[j].cls.toArray⟩ l[j].cls [] rfl)
      have HCN := Lib.hid (ne_if ⟨l[j].cls.toArray⟩ l[j].cls [] rfl)
      have HEM : Hid (l[j].cls = [] ∨ ¬ l[j].cls = []) := Classical.em _
      have HL5 := Lib.hid hlen5
      have HE5 := Lib.hid e5
      have HG1 := Lib.hid g1
      have HG5 := Lib.hid g5
      have HC : Hid (∀ W, Below wr.heap.size wr W → W.cell? ⟨b, o + j * 6 + 1, none⟩ = some (.int .i64 i0) ∧ W.cell? ⟨b, o + j * 6 + 2, none⟩ = some (.int .i64 i1) ∧ W.cell? ⟨b, o + j * 6 + 3, none⟩ = some (strV l2) ∧ W.cell? ⟨b, o + j * 6 + 4, none⟩ = some (.slice X3 n3 z3) ∧ W.cell? ⟨b, o + j * 6 + 5, none⟩ = some (.int .i64 l[j].act)) := fun W hb5 => by
        have far : ∀ (g : Nat) (i : Nat) (u : Value), g < w.heap.size → wr.cell? ⟨g, i, none⟩ = some u → W.cell? ⟨g, i, none⟩ = some u := fun g i u hg hu =>
          (World.cell?_of_block (w := wr) (hb5.block g (Nat.lt_of_lt_of_le hg B.size))).trans hu
        exact ⟨far _ _ _ hb k1, far _ _ _ hb k2, far _ _ _ hb k3, far _ _ _ hb k4, far _ _ _ hb k5⟩
      clear hx4 hok hno hol hcl hel hac hlen5 e5 g1 g5 hja hk6 ht6 hd2 hal HA hcm hai
      generalize lineR f l[j] = ln at *
      generalize a ++ ofS l[j].cls ++ keepW ++ exprX f l[j].when_ ++ thenW ++ actS l[j].act ++ [59, 10] = x5 at *
      generalize a ++ ofS l[j].cls ++ keepW ++ exprX f l[j].when_ ++ thenW ++ actS l[j].act = x4 at *
      generalize a ++ ofS l[j].cls ++ keepW ++ exprX f l[j].when_ ++ thenW = x3 at *
      generalize a ++ ofS l[j].cls ++ keepW ++ exprX f l[j].when_ = x2 at *
      generalize a ++ ofS l[j].cls ++ keepW = x1 at *
      generalize a ++ ofS l[j].cls = x0 at *
      generalize a ++ [99, 108, 97, 115, 115, 32, 34] ++ l[j].cls ++ [34] = y3 at *
      generalize a ++ [99, 108, 97, 115, 115, 32, 34] ++ l[j].cls = y2 at *
      generalize a ++ [99, 108, 97, 115, 115, 32, 34] = y1 at *
      generalize exprX f l[j].when_ = ex at *
      generalize actS l[j].act = aw at *
      generalize l[j].act = ac at *
      unfold keepW at f1
      unfold thenW at f3
      unfold strV at *
      generalize (⟨l2.toArray⟩ : ByteArray) = s2 at *
      obtain ⟨s5, hs5⟩ : ∃ s : ByteArray, s = ⟨x5.toArray⟩ := ⟨_, rfl⟩
      have HS5 := Lib.hid hs5
      rw [← hs5] at f5
      obtain ⟨s0, hs0⟩ : ∃ s : ByteArray, s = ⟨x0.toArray⟩ := ⟨_, rfl⟩
      rw [← hs0] at f1 HG1
      obtain ⟨sy3, hsy3⟩ : ∃ s : ByteArray, s = ⟨y3.toArray⟩ := ⟨_, rfl⟩
      rw [← hsy3] at g4
      have HY3 : Hid (¬ l[j].cls = [] → sy3 = s0) := fun h => by rw [hsy3, hs0, HG5.out h]
      clear hs5 hs0 hsy3 HG5
      generalize (⟨x1.toArray⟩ : ByteArray) = s1 at *
      generalize (⟨x2.toArray⟩ : ByteArray) = sx2 at *
      generalize (⟨x3.toArray⟩ : ByteArray) = s3 at *
      generalize (⟨x4.toArray⟩ : ByteArray) = s4 at *
      generalize (⟨y1.toArray⟩ : ByteArray) = sy1 at *
      generalize (⟨y2.toArray⟩ : ByteArray) = sy2 at *
      generalize (⟨ex.toArray⟩ : ByteArray) = sex at *
      generalize (⟨aw.toArray⟩ : ByteArray) = saw at *
      generalize (⟨l[j].cls.toArray⟩ : ByteArray) = sc at *
      generalize (⟨a.toArray⟩ : ByteArray) = sa at *
      rcases HEM.out with hc | hc
      · have hce := (HCE.out hc).2.2
        obtain ⟨ec1, ec2, ec3⟩ := void_yes hce
        have g1 := HG1.out hc
        clear HCE HCN HEM HG1 HY3 g2 g3 g4 hc
        go_wp2_with fail
        rename_i KK hKK
        have HKK := Lib.hid hKK
        clear hKK k0 k1 k2 k3 k4 k5 hce ec1 ec2 ec3
        refine wp_region_held_drew (S := (fun W => W.cell? ⟨b, o + j * 6 + 1, none⟩ = some (.int .i64 i0) ∧ W.cell? ⟨b, o + j * 6 + 2, none⟩ = some (.int .i64 i1) ∧ W.cell? ⟨b, o + j * 6 + 3, none⟩ = some (.string s2) ∧ W.cell? ⟨b, o + j * 6 + 4, none⟩ = some (.slice X3 n3 z3) ∧ W.cell? ⟨b, o + j * 6 + 5, none⟩ = some (.int .i64 ac))) (by kernel_rfl) (HC.out _ Bdd) (fun hHeld => ?_)
        refine hyY (some 35) 0 rfl hHeld ?_; go_frame
        refine hyY (some 36) 1 rfl hHeld ?_; go_frame
        refine hyY (some 37) 2 rfl hHeld ?_; go_frame
        refine hyY (some 38) 3 rfl hHeld ?_; go_frame
        refine hyY (some 39) 4 rfl hHeld ?_; go_frame
        refine hyY (some 40) 5 rfl hHeld ?_; go_frame
        refine hyY (some 41) 6 rfl hHeld ?_; go_frame
        refine hyY (some 45) 10 rfl hHeld ?_; go_frame
        refine hyY (some 46) 11 rfl hHeld ?_; go_frame
        refine hyY (some 47) 12 rfl hHeld ?_; go_frame
        refine hyY (some 48) 13 rfl hHeld ?_; go_frame
        refine hyY (some 49) 14 rfl hHeld ?_; go_frame
        refine hyO (some 42) 7 rfl (fun K hK => ?_)
        go_simp
        go_at_call 15
        refine hex.mono ?_
        rintro e w5 ⟨rfl, b5⟩
        go_wp2_with fail
        refine hK.out _ _ ?_ (fun hH2 => ?_)
        · exact HC.out _ (Bdd.trans b5)
        clear hHeld hK K; have hHeld := hH2; clear hH2; try go_frame
        refine hyY (some 43) 8 rfl hHeld ?_; go_frame
        refine hyY (some 44) 9 rfl hHeld ?_; go_frame
        refine hyO (some 50) 15 rfl (fun K hK => ?_)
        go_simp
        go_at_call 26
        refine (hav _).mono ?_
        rintro e w' ⟨rfl, rfl⟩
        go_wp2_with fail
        refine hK.out _ _ ?_ (fun hH2 => ?_)
        · exact HC.out _ (Bdd.trans b5)
        clear hHeld hK K; have hHeld := hH2; clear hH2; try go_frame
        refine hyY (some 51) 16 rfl hHeld ?_; go_frame
        refine hyY (some 52) 17 rfl hHeld ?_; go_frame
        refine hyY (some 5) 18 rfl hHeld ?_; go_frame
        refine wpAnyH_done (by kernel_rfl) ?_ _
        have hKK := HKK.out
        have B5 := Bd.trans (b5.mono Bd.size)
        go_wp2_with fail
        go_roundw
        case rel => exact ⟨j + 1, x5, by omega, by go_num, by rw [HS5.out], HL5.out, HE5.out.trans HNX.out, B5⟩
        case measure =>
          simp [intOf]
          omega
      · have hce := (HCN.out hc).2.2
        obtain ⟨ec1, ec2, ec3⟩ := void_no hce
        have hy3 := HY3.out hc
        rw [hy3] at g4
        clear HCE HCN HEM HG1 HY3 hc hy3
        go_wp2_with fail
        rename_i KK hKK
        have HKK := Lib.hid hKK
        clear hKK k0 k1 k2 k3 k4 k5 hce ec1 ec2 ec3 g2 g3 g4
        refine wp_region_held_drew (S := (fun W => W.cell? ⟨b, o + j * 6 + 1, none⟩ = some (.int .i64 i0) ∧ W.cell? ⟨b, o + j * 6 + 2, none⟩ = some (.int .i64 i1) ∧ W.cell? ⟨b, o + j * 6 + 3, none⟩ = some (.string s2) ∧ W.cell? ⟨b, o + j * 6 + 4, none⟩ = some (.slice X3 n3 z3) ∧ W.cell? ⟨b, o + j * 6 + 5, none⟩ = some (.int .i64 ac))) (by kernel_rfl) (HC.out _ Bdd) (fun hHeld => ?_)
        refine hyY (some 35) 0 rfl hHeld ?_; go_frame
        refine hyY (some 36) 1 rfl hHeld ?_; go_frame
        refine hyY (some 37) 2 rfl hHeld ?_; go_frame
        refine hyY (some 38) 3 rfl hHeld ?_; go_frame
        refine hyY (some 39) 4 rfl hHeld ?_; go_frame
        refine hyY (some 40) 5 rfl hHeld ?_; go_frame
        refine hyY (some 41) 6 rfl hHeld ?_; go_frame
        refine hyY (some 45) 10 rfl hHeld ?_; go_frame
        refine hyY (some 46) 11 rfl hHeld ?_; go_frame
        refine hyY (some 47) 12 rfl hHeld ?_; go_frame
        refine hyY (some 48) 13 rfl hHeld ?_; go_frame
        refine hyY (some 49) 14 rfl hHeld ?_; go_frame
        refine hyO (some 42) 7 rfl (fun K hK => ?_)
        go_simp
        go_at_call 15
        refine hex.mono ?_
        rintro e w5 ⟨rfl, b5⟩
        go_wp2_with fail
        refine hK.out _ _ ?_ (fun hH2 => ?_)
        · exact HC.out _ (Bdd.trans b5)
        clear hHeld hK K; have hHeld := hH2; clear hH2; try go_frame
        refine hyY (some 43) 8 rfl hHeld ?_; go_frame
        refine hyY (some 44) 9 rfl hHeld ?_; go_frame
        refine hyO (some 50) 15 rfl (fun K hK => ?_)
        go_simp
        go_at_call 26
        refine (hav _).mono ?_
        rintro e w' ⟨rfl, rfl⟩
        go_wp2_with fail
        refine hK.out _ _ ?_ (fun hH2 => ?_)
        · exact HC.out _ (Bdd.trans b5)
        clear hHeld hK K; have hHeld := hH2; clear hH2; try go_frame
        refine hyY (some 51) 16 rfl hHeld ?_; go_frame
        refine hyY (some 52) 17 rfl hHeld ?_; go_frame
        refine hyY (some 5) 18 rfl hHeld ?_; go_frame
        refine wpAnyH_done (by kernel_rfl) ?_ _
        have hKK := HKK.out
        have B5 := Bd.trans (b5.mono Bd.size)
        go_wp2_with fail
        go_roundw
        case rel => exact ⟨j + 1, x5, by omega, by go_num, by rw [HS5.out], HL5.out, HE5.out.trans HNX.out, B5⟩
        case measure =>
          simp [intOf]
          omega
    · have ha := HA.out
      rw [show j = l.length by omega, HLAST.out] at ha
      subst ha
      have hsz : ((⟨a.toArray⟩ : ByteArray).size : Int) = (a.length : Int) := rfl
      unfold strV at *
      by_cases hlo : 600 < a.length
      · have E : decide ((600 : Int) < (a.length : Int)) = true := decide_eq_true (by omega)
        have E' : decide (600 < a.length) = true := decide_eq_true hlo
        have hr := HLONG.out hlo
        subst hr
        clear HLONG HSHORT HLAST HGD HRB HA hal hlo
        generalize a.length = al at *
        generalize (⟨a.toArray⟩ : ByteArray) = sa at *
        go_wp2_with fail
        go_ret2
        exact ⟨rfl, B⟩
      · have E : decide ((600 : Int) < (a.length : Int)) = false := decide_eq_false (by omega)
        have E' : decide (600 < a.length) = false := decide_eq_false hlo
        have hr := HSHORT.out hlo
        subst hr
        have hal2 : a.length ≤ 600 := by omega
        clear HLONG HSHORT HLAST HGD HRB HA hal hlo
        go_wp2_with fail
        go_ret2
        exact ⟨rfl, B⟩
end Go.Proofs.YtbhebjkicooidaaDoor
