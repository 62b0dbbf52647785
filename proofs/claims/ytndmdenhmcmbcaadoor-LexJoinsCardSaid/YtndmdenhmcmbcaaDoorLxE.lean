/-
  All from its labels on (layer 16): a word that is taken; days. No condition.
-/
import Derived.Test.YtndmdenhmcmbcaaDoorLxD
namespace Go.Proofs.YtndmdenhmcmbcaaDoor
open Go.RowKit
set_option maxRecDepth 100000
set_option linter.unusedVariables false

set_option maxHeartbeats 4000000 in
/-- A word is taken. -/
theorem pass_6 (s : List UInt8) (w0 : World) : ∃ rest, findLabel bodyX 6 = some (Code.skip.seq rest) ∧ ∀ m a w, KX s w0 m 6 a w → rest.wp Tryd.prog (JX s w0 m) a w := by
  refine ⟨_, rfl, ?_⟩
  rintro m a w ⟨v, x, y, e, cv, f, acc, row, rfl, H, i, c, l, rfl, rfl, hh, he, rfl, rfl⟩
  have h6 := hh.six
  have o1 := one_size (r := c :: l) (by rw [oneW_cons]; exact he)
  rw [oneW_cons] at o1
  have hlen := congrArg List.length hh.at_
  rw [List.length_drop] at hlen
  have hlead := lead_tok hh.lead hh.at_ hh.no hh.nob he
  have hcnt := lead_count hh.lead
  have hmid : ∀ W : World, (Instr.slice 9 (strV s) (some (.int .i64 (i : Int))) (some (.int .i64 ((i + (oneC c l).size : Nat) : Int))) none).run Tryd.prog W = .ok (strV ((c :: l).take (oneC c l).size)) W := by
    have := txt_mid s .i64 .i64 i (i + (oneC c l).size) (by omega) (by omega)
    rw [hh.at_, show i + (oneC c l).size - i = (oneC c l).size by omega] at this
    exact this
  have htr := trim_any ((c :: l).take (oneC c l).size) (by rw [List.length_take]; unfold maxLen; omega)
  rw [one_trim he] at htr
  have hcl := clone_any (oneC c l).text (by omega)
  have hj := hlead.1
  obtain ⟨j, hjj⟩ : ∃ j, j = i + (oneC c l).size := ⟨_, rfl⟩
  rw [← hjj] at hmid hlead hj ⊢
  have hsz : 1 ≤ (oneC c l).size := o1.1
  generalize hkd : (oneC c l).kind = kd at *
  generalize htx : (oneC c l).text = tx at *
  generalize hnn : (oneC c l).n = nn at *
  generalize (c :: l).take (oneC c l).size = u0 at *
  have HGO := Lib.hid (fun a w' v x e cc row => @to_1 s w0 w' (4 * (s.length - i) + 1) j (acc ++ [⟨kd, tx, nn, i⟩]) a v x e cc row (by omega) h6 hlead)
  have HH := Lib.hid H
  have HLEN : Hid (acc.length ≤ 1000000000) := by show _ ≤ _; omega
  unfold strV at *
  obtain ⟨t, ht⟩ : ∃ t : ByteArray, t = ⟨tx.toArray⟩ := ⟨_, rfl⟩
  rw [← ht] at htr hcl
  have HT : Hid (Value.string t = strV tx) := by show _ = _; rw [ht]; rfl
  generalize (⟨u0.toArray⟩ : ByteArray) = u at *
  generalize (⟨s.toArray⟩ : ByteArray) = z at *
  clear H hh he h6 o1 hlen hlead hcnt hj hjj hsz hkd htx hnn ht
  unfold frX
  go_wp2_with (first
    | (go_at_call 19; refine (htr _).mono ?_; rintro e w1 ⟨rfl, b1⟩)
    | (go_at_call 18; refine (hcl _).mono ?_; rintro e w2 ⟨rfl, b2⟩; have H2 := (HH.out.below b1).below b2; have K2 := H2.kb; have c1 : w2.cell? ⟨w0.heap.size, 1, none⟩ = some (.string ⟨#[]⟩) := K2.cell 1; have f1 := K2.free 1; have c0 : w2.cell? ⟨w0.heap.size, 0, none⟩ = some (.int .i64 (kd : Int)) := K2.cell 0; have c2 : w2.cell? ⟨w0.heap.size, 2, none⟩ = some (.int .i64 nn) := K2.cell 2; have c3 : w2.cell? ⟨w0.heap.size, 3, none⟩ = some (.int .i64 (i : Int)) := K2.cell 3;
        have H3 := H2.put 1 (.string t); have K3 := H3.kb; have HH3 := Lib.hid H3; have B6 := (Below.refl (w2.setCell ⟨w0.heap.size, 1, none⟩ (.string t)).heap.size (w2.setCell ⟨w0.heap.size, 1, none⟩ (.string t))).alloc (Nat.le_refl _) (.cells #[.int .i64 (kd : Int), .string t, .int .i64 nn, .int .i64 (i : Int)] 34);
        have how6 := own_past B6 H3.own; have hbig := Nat.le_trans (Nat.succ_le_of_lt H3.kb.lt) B6.size; have H6 := H3.below B6;
        have hat : ∀ k u, (fourT ⟨kd, tx, nn, i⟩)[k]? = some u → ((w2.setCell ⟨w0.heap.size, 1, none⟩ (.string t)).alloc (.cells #[.int .i64 (kd : Int), .string t, .int .i64 nn, .int .i64 (i : Int)] 34)).cell? ((⟨w2.heap.size, 0, none⟩ : Addr).add k) = some u := (by rw [HT.out, ← (show (w2.setCell ⟨w0.heap.size, 1, none⟩ (strV tx)).heap.size = w2.heap.size by simp [World.setCell])]; exact onek_at _ _ ⟨kd, tx, nn, i⟩);
        clear H2 K2 H3)
    | (at_builtin; go_loud (refine wpList_growK tok_lex _ rfl _ _ rfl (w0.heap.size + 1) v acc rfl how6 ⟨_, 0, none⟩ 1 ⟨kd, tx, nn, i⟩ rfl hat HLEN.out hbig ?_); intro v7 w7 how7 g7 ho7))
  go_step3
  exact HGO.out _ _ _ _ _ _ _ rfl ⟨how7, H6.kb.grown g7 (own_ne how6 (Nat.lt_succ_self _)), H6.four, H6.bel.grown g7 H6.bel.size (fun g e => Nat.le_of_succ_le (own_ge how6 g e))⟩
end Go.Proofs.YtndmdenhmcmbcaaDoor
