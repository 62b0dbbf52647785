/-
  LxE: All from its labels on (layer 16): a word that is taken; days. No condition.
  LxF: All from its labels on (layer 16): days. No condition.
-/
import Derived.Test.YthindhlogkhclaaGreatDoorPz37
set_option linter.unusedVariables false
set_option maxRecDepth 100000
namespace Go.Proofs.YthindhlogkhclaaGreatDoor
section
open Go.RowKit
set_option maxHeartbeats 4000000 in
theorem pass_6 (s : List UInt8) (w0 : World) : ∃ rest, findLabel bodyX 6 = some (Code.skip.seq rest) ∧ ∀ m a w, KX s w0 m 6 a w → rest.wp Tryz.prog (JX s w0 m) a w := by
  refine ⟨_, rfl, ?_⟩
  rintro m a w ⟨v, x, y, e, cv, f, acc, row, rfl, H, i, c, l, rfl, rfl, hh, he, rfl, rfl⟩
  have h6 := hh.six
  have o1 := one_size (r := c :: l) (by rw [oneW_cons]; exact he)
  rw [oneW_cons] at o1
  have hlen := congrArg List.length hh.at_
  rw [List.length_drop] at hlen
  have hlead := lead_tok hh.lead hh.at_ hh.no hh.nob he
  have hcnt := lead_count hh.lead
  have hmid : ∀ W : World, (Instr.slice 9 (strV s) (some (.int .i64 (i : Int))) (some (.int .i64 ((i + (oneC c l).size : Nat) : Int))) none).run Tryz.prog W = .ok (strV ((c :: l).take (oneC c l).size)) W := by
    have := txt_mid s .i64 .i64 i (i + (oneC c l).size) (by omega) (by omega)
    rw [hh.at_, show i + (oneC c l).size - i = (oneC c l).size by omega] at this
    exact this
  have htr := trim_any ((c :: l).take (oneC c l).size) (by rw [List.length_take]; unfold maxLen; omega)
  rw [one_trim he] at htr
  have hcl := clone_any (oneC c l).text (by omega)
  have hj := hlead.1
  obtain ⟨j, hjj⟩ : ∃ j, j = i + (oneC c l).size := ⟨_, rfl⟩
  rw [← hjj] at hmid hlead hj ⊢
  have hsz : 1 ≤ (oneC c l).size := o1.1
  generalize hkd : (oneC c l).kind = kd at *
  generalize htx : (oneC c l).text = tx at *
  generalize hnn : (oneC c l).n = nn at *
  generalize (c :: l).take (oneC c l).size = u0 at *
  have HGO := Lib.hid (fun a w' v x e cc row => @to_1 s w0 w' (4 * (s.length - i) + 1) j (acc ++ [⟨kd, tx, nn, i⟩]) a v x e cc row (by omega) h6 hlead)
  have HH := Lib.hid H
  have HLEN : Hid (acc.length ≤ 1000000000) := by show _ ≤ _; omega
  unfold strV at *
  obtain ⟨t, ht⟩ : ∃ t : ByteArray, t = ⟨tx.toArray⟩ := ⟨_, rfl⟩
  rw [← ht] at htr hcl
  have HT : Hid (Value.string t = strV tx) := by show _ = _; rw [ht]; rfl
  generalize (⟨u0.toArray⟩ : ByteArray) = u at *
  generalize (⟨s.toArray⟩ : ByteArray) = z at *
  clear H hh he h6 o1 hlen hlead hcnt hj hjj hsz hkd htx hnn ht
  unfold frX
  go_wp2_with (first
    | (go_at_call 29; refine (htr _).mono ?_; rintro e w1 ⟨rfl, b1⟩)
    | (go_at_call 28; refine (hcl _).mono ?_; rintro e w2 ⟨rfl, b2⟩; have H2 := (HH.out.below b1).below b2; have K2 := H2.kb; have c1 : w2.cell? ⟨w0.heap.size, 1, none⟩ = some (.string ⟨#[]⟩) := K2.cell 1; have f1 := K2.free 1; have c0 : w2.cell? ⟨w0.heap.size, 0, none⟩ = some (.int .i64 (kd : Int)) := K2.cell 0; have c2 : w2.cell? ⟨w0.heap.size, 2, none⟩ = some (.int .i64 nn) := K2.cell 2; have c3 : w2.cell? ⟨w0.heap.size, 3, none⟩ = some (.int .i64 (i : Int)) := K2.cell 3;
        have H3 := H2.put 1 (.string t); have K3 := H3.kb; have HH3 := Lib.hid H3; have B6 := (Below.refl (w2.setCell ⟨w0.heap.size, 1, none⟩ (.string t)).heap.size (w2.setCell ⟨w0.heap.size, 1, none⟩ (.string t))).alloc (Nat.le_refl _) (.cells #[.int .i64 (kd : Int), .string t, .int .i64 nn, .int .i64 (i : Int)] 62);
        have how6 := own_past B6 H3.own; have hbig := Nat.le_trans (Nat.succ_le_of_lt H3.kb.lt) B6.size; have H6 := H3.below B6;
        have hat : ∀ k u, (fourT ⟨kd, tx, nn, i⟩)[k]? = some u → ((w2.setCell ⟨w0.heap.size, 1, none⟩ (.string t)).alloc (.cells #[.int .i64 (kd : Int), .string t, .int .i64 nn, .int .i64 (i : Int)] 62)).cell? ((⟨w2.heap.size, 0, none⟩ : Addr).add k) = some u := (by rw [HT.out, ← (show (w2.setCell ⟨w0.heap.size, 1, none⟩ (strV tx)).heap.size = w2.heap.size by simp [World.setCell])]; exact onek_at _ _ ⟨kd, tx, nn, i⟩);
        clear H2 K2 H3)
    | (at_builtin; go_loud (refine wpList_growK tok_lex _ rfl _ _ rfl (w0.heap.size + 1) v acc rfl how6 ⟨_, 0, none⟩ 1 ⟨kd, tx, nn, i⟩ rfl hat HLEN.out hbig ?_); intro v7 w7 how7 g7 ho7))
  go_step3
  exact HGO.out _ _ _ _ _ _ _ rfl ⟨how7, H6.kb.grown g7 (own_ne how6 (Nat.lt_succ_self _)), H6.four, H6.bel.grown g7 H6.bel.size (fun g e => Nat.le_of_succ_le (own_ge how6 g e))⟩
end
section
open Go.RowKit
theorem JX.mono {s : List UInt8} {w0 : World} {m m' : Nat} (h : m' ≤ m) {c : Code} {a : Act} {w : World} (hc : c.wp Tryz.prog (JX s w0 m') a w) : c.wp Tryz.prog (JX s w0 m) a w :=
  Exit.jumps_mono (fun l a w ⟨m2, hlt, hk⟩ => ⟨m2, by omega, hk⟩) hc
theorem spanE_take (r : List UInt8) : r.take (spanE r).length = spanE r := by
  rw [spanE_len]
  unfold spanE
  rcases Nat.le_total (takeN digC r + 1) r.length with h | h
  · rw [Nat.min_eq_left h]
  · rw [Nat.min_eq_right h, List.take_length, List.take_of_length_le h]
set_option maxHeartbeats 4000000 in
theorem pass_5 (s : List UInt8) (w0 : World) : ∃ rest, findLabel bodyX 5 = some (Code.skip.seq rest) ∧ ∀ m a w, KX s w0 m 5 a w → rest.wp Tryz.prog (JX s w0 m) a w := by
  obtain ⟨rest6, f6, p6⟩ := pass_6 s w0
  refine ⟨_, rfl, ?_⟩
  rintro m a w ⟨v, x, y, e, cv, f, acc, row, rfl, H, i, c, l, rfl, hh, hc, rfl, rfl⟩
  have h6 := hh.six
  have hlen := congrArg List.length hh.at_
  rw [List.length_drop] at hlen
  have hi := hh.lead.1
  have hcut : ∀ W : World, (Instr.slice 9 (strV s) (some (.int .i64 (i : Int))) none none).run Tryz.prog W = .ok (strV (c :: l)) W := by
    have := txt_from s i hi
    rw [hh.at_] at this
    exact this
  have hro := row_any digC _ set_dig ascii_dig (by decide) (c :: l) (by unfold maxLen; omega)
  have hle := takeN_le digC (c :: l)
  have ho : oneC c l = spanW (c :: l) := one_dig hc
  have hsl := spanE_len (c :: l)
  have hzs : ((⟨s.toArray⟩ : ByteArray).size : Int) = (s.length : Int) := rfl
  have hroom : (parseD (spanE (c :: l))).2 = 0 → takeN digC (c :: l) < (c :: l).length := span_room
  have hpa := parse15_any (spanE (c :: l)) (by rw [hsl]; unfold maxLen; omega)
  obtain ⟨j, hj⟩ : ∃ j, j = i + (spanE (c :: l)).length := ⟨_, rfl⟩
  have hmid : ∀ W : World, (Instr.slice 9 (strV s) (some (.int .i64 (i : Int))) (some (.int .i64 (j : Int))) none).run Tryz.prog W = .ok (strV (spanE (c :: l))) W := by
    have := txt_mid s .i64 .i64 i j (by omega) (by omega)
    rw [hh.at_, show j - i = (spanE (c :: l)).length by omega, spanE_take] at this
    exact this
  obtain ⟨k, hk⟩ : ∃ k, k = takeN digC (c :: l) := ⟨_, rfl⟩
  rw [← hk] at hro hle hsl hroom
  obtain ⟨j2, hj2⟩ : ∃ j, j = i + k := ⟨_, rfl⟩
  obtain ⟨j3, hj3⟩ : ∃ j, j = i + k + 1 := ⟨_, rfl⟩
  have hw2 : IntKind.i64.wrap ((i : Int) + (k : Int)) = (j2 : Int) := by rw [IntKind.wrap_i64]; omega
  have hw3 : IntKind.i64.wrap ((j2 : Int) + 1) = (j3 : Int) := by rw [IntKind.wrap_i64]; omega
  have HH := Lib.hid H
  have hmin : min (j3 : Int) (s.length : Int) = (j : Int) := by omega
  have HB : Hid (∀ er, (parseD (spanE (c :: l))).2 = er → er ≠ 0 → allS s = ([], i, er)) := by
    intro er h1 h2
    have he : oneC c l = badW er := by rw [ho]; unfold spanW; rw [if_neg (by rw [h1]; exact h2), h1]
    have hb := all_bad h6 hh.lead hh.at_ hh.no hh.nob (by rw [he]; exact h2)
    rw [he] at hb
    exact hb
  have HK : Hid ((parseD (spanE (c :: l))).2 = 0 → (oneC c l).e = 0 ∧ j = i + (oneC c l).size ∧ (oneC c l).kind = 3 ∧ (oneC c l).n = (parseD (spanE (c :: l))).1) := by
    intro h1
    have he : oneC c l = ⟨3, spanE (c :: l), (parseD (spanE (c :: l))).1, (spanE (c :: l)).length, 0⟩ := by rw [ho]; unfold spanW; rw [if_pos h1]
    rw [he]
    exact ⟨rfl, hj, rfl, rfl⟩
  have HHH := Lib.hid hh
  obtain ⟨nn, hnn⟩ : ∃ n, n = (parseD (spanE (c :: l))).1 := ⟨_, rfl⟩
  obtain ⟨er, her⟩ : ∃ n, n = (parseD (spanE (c :: l))).2 := ⟨_, rfl⟩
  rw [← her] at HB HK
  rw [← hnn] at HK
  unfold pairV at hpa
  rw [← hnn, ← her] at hpa
  have Hm : Hid (∀ q, q < 2 → 4 * (s.length - i) + q < 4 * (s.length - i) + 2) := fun q hq => by omega
  have HG0 := Lib.hid (fun (h1 : er ≠ 0) a w' v y cc row => @to_0 s w0 w' (4 * (s.length - i) + 2) i acc a v y cc row (by omega) er (HB.out er rfl h1))
  have HG6 := Lib.hid (fun (h1 : er = 0) a w' v e cc row => @k_6 s w0 w' i acc a v e cc row c l hh (HK.out h1).1 j (HK.out h1).2.1)
  have HRW : Hid (er = 0 → (#[.int .i64 3, strV [], .int .i64 nn, .int .i64 (i : Int)] : Array Value) = #[.int .i64 ((oneC c l).kind : Int), strV [], .int .i64 (oneC c l).n, .int .i64 (i : Int)]) := fun h1 => by rw [(HK.out h1).2.2.1, (HK.out h1).2.2.2]; rfl
  have P6 := Lib.hid p6
  have F6 := Lib.hid f6
  unfold strV at *
  generalize (⟨(spanE (c :: l)).toArray⟩ : ByteArray) = u at *
  generalize (⟨(c :: l).toArray⟩ : ByteArray) = t at *
  generalize (⟨s.toArray⟩ : ByteArray) = z at *
  clear p6 f6 H hh hc hle hlen h6 hi ho hk hj hj2 hj3 hroom hsl hnn her
  unfold frX
  by_cases h0 : er = 0
  · subst h0
    have HK1 := Lib.hid (HG6.out rfl)
    have HR1 := Lib.hid (HRW.out rfl)
    clear HK HB HG0 HG6 HRW
    go_wp2_with (first
      | (go_at_call 22; refine (hro _).mono ?_; rintro e w1 ⟨rfl, b1⟩; have K := (HH.out.below b1).kb; have c0 : w1.cell? ⟨w0.heap.size, 0, none⟩ = some (.int .i64 0) := K.cell 0; have f0 := K.free 0; have c2 : w1.cell? ⟨w0.heap.size, 2, none⟩ = some (.int .i64 0) := K.cell 2; have f2 := K.free 2)
      | (go_at_call 27; refine (hpa _).mono ?_; rintro e w' ⟨rfl, rfl⟩))
    rename_i KK hKK
    apply wp_label
    refine hKK _ _ (wp_fall F6.out rfl (JX.mono (by omega) (P6.out _ _ _ (HK1.out _ _ _ _ _ _ rfl (((HH.out.below b1).put 0 _).put 2 _) HR1.out))))
  · have E : (er != 0) = true := by simpa using h0
    have HGO := Lib.hid (HG0.out h0)
    clear HK HB HG0 HG6 HRW
    go_wp2_with (first
      | (go_at_call 22; refine (hro _).mono ?_; rintro e w1 ⟨rfl, b1⟩; have K := (HH.out.below b1).kb; have c0 : w1.cell? ⟨w0.heap.size, 0, none⟩ = some (.int .i64 0) := K.cell 0; have f0 := K.free 0; have c2 : w1.cell? ⟨w0.heap.size, 2, none⟩ = some (.int .i64 0) := K.cell 2; have f2 := K.free 2)
      | (go_at_call 27; refine (hpa _).mono ?_; rintro e w' ⟨rfl, rfl⟩))
    go_step3
    exact HGO.out _ _ _ _ _ _ rfl (((HH.out.below b1).put 0 _).put 2 _)
end
end Go.Proofs.YthindhlogkhclaaGreatDoor
