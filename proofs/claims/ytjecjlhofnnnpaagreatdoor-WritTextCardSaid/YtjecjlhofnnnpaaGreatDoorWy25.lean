/-
  WtA: The document's text, kid and Text (layer 21), over the loaded program: each one's contract. No condition but the sizes that each contract names.
-/
import Derived.Test.YtjecjlhofnnnpaaGreatDoorWy04
import Derived.Test.YtjecjlhofnnnpaaGreatDoorWy05
import Derived.Test.YtjecjlhofnnnpaaGreatDoorWy24
import Derived.Test.YtjecjlhofnnnpaaGreatDoorWy19
import Derived.Deep.RegionHeld3
import Derived.BigQuiet
set_option linter.unusedVariables false
set_option maxRecDepth 100000
namespace Go.Proofs.YtjecjlhofnnnpaaGreatDoor
section
open Go.RowKit
theorem wtell_any (n : Nat) (hn : n ≤ 1099511627776) (w : World) :
    Calls Tryz.prog 27 #[.int .i64 (n : Int)] w fun e w' => e = .returned (strV (Lib.decDigits n)) ∧ w = w' := by
  have ht := tell_any n (by omega)
  generalize strV (Lib.decDigits n) = v at *
  go_enter Tryz.func27, Tryz.ntmps27
  go_wp2_with (go_at_call 44; refine (ht _).mono ?_; rintro e w' ⟨rfl, rfl⟩)
  go_ret
  exact ⟨rfl, rfl⟩
theorem wadd (s t u : ByteArray) (l m : List UInt8) (hs : s = ⟨l.toArray⟩) (ht : t = ⟨m.toArray⟩) (hu : u = ⟨(l ++ m).toArray⟩) (h : l.length + m.length ≤ 9223372036854775807) : ∀ W : World, (Op.stringOp .add s t).run Tryz.prog W = .ok (.string u) W := by
  subst hs ht hu
  exact txt_add l m h
def TextIh (S : Nat → Prop) (f : Nat) : Prop := ∀ (t : Sc f) (v : Value) (d : Int) (w : World), okS f t d = true → nodesS f t ≤ 24 → ZV w S f v t →
    Calls Tryz.prog 17 #[v] w fun e w' => e = .returned (strV (textB f t)) ∧ Below w.heap.size w w'
theorem ZV.op {w : World} {S : Nat → Prop} : ∀ {f : Nat} {t : Sc f} {a b c d e : Value}, ZV w S f (.agg #[a, b, c, d, e]) t → a = .int .i64 (opS f t)
  | 0, t, _, _, _, _, _, _ => nomatch t
  | f + 1, t, _, _, _, _, _, h => by
    obtain ⟨_, _, _, _, _, e, h⟩ := h
    injection e with e
    simp only [Array.mk.injEq, List.cons.injEq, and_true] at e
    obtain ⟨rfl, rfl, rfl, rfl, rfl⟩ := e
    exact h.1
set_option maxHeartbeats 4000000 in
theorem wkid_any (S : Nat → Prop) (f : Nat) (ih : TextIh S f) (t : Sc f) (v : Value) (d op : Int) (w : World) (hok : okS f t d = true) (hno : nodesS f t ≤ 24) (hv : ZV w S f v t) :
    Calls Tryz.prog 28 #[v, .int .i64 op] w fun e w' => e = .returned (strV (brB op (opS f t) (textB f t))) ∧ Below w.heap.size w w' := by
  obtain ⟨k, l1, i2, i3, X4, n4, z4, rfl⟩ := hv.form
  have hk := hv.op
  injection hk with _ hk
  have kb := KB.new w 24 #[.int .i64 k, strV l1, .int .i64 i2, .int .i64 i3, .slice X4 n4 z4]
  have B0 := (Below.refl w.heap.size w).alloc (Nat.le_refl _) (.cells #[.int .i64 k, strV l1, .int .i64 i2, .int .i64 i3, .slice X4 n4 z4] 24)
  have ht := ih t _ d _ hok hno (hv.alloc (.cells #[.int .i64 k, strV l1, .int .i64 i2, .int .i64 i3, .slice X4 n4 z4] 24))
  have hlen := textB_len f t d hok
  rw [← hk]
  clear hk hv ih
  generalize textB f t = T at *
  obtain ⟨u, hu⟩ : ∃ u : ByteArray, u = ⟨T.toArray⟩ := ⟨_, rfl⟩
  obtain ⟨u1, hu1⟩ : ∃ u : ByteArray, u = ⟨([40, 32] ++ T).toArray⟩ := ⟨_, rfl⟩
  obtain ⟨u2, hu2⟩ : ∃ u : ByteArray, u = ⟨([40, 32] ++ T ++ [32, 41]).toArray⟩ := ⟨_, rfl⟩
  have f1 := wadd ⟨#[40, 32]⟩ u u1 [40, 32] T rfl hu hu1 (by simp; omega)
  have f2 := wadd u1 ⟨#[32, 41]⟩ u2 ([40, 32] ++ T) [32, 41] hu1 rfl hu2 (by simp; omega)
  have HB : Hid (strV (brB op k T) = .string (if bracedW op k = true then u2 else u)) := by
    show _ = _
    unfold brB strV
    split
    · rw [hu2]
    · rw [hu]
  rw [HB.out]
  unfold strV at *
  rw [← hu] at ht
  generalize (⟨l1.toArray⟩ : ByteArray) = s at *
  clear hu hu1 hu2 HB hlen
  by_cases h7 : k = 7
  · rw [if_pos (show bracedW op k = true from decide_eq_true (.inl h7))]
    have g7 : (k == 7) = true := by rw [h7]; rfl
    clear h7
    go_enter Tryz.func28, Tryz.ntmps28
    go_wp2_with fail
    refine ht.mono ?_
    rintro e w1 ⟨rfl, b1⟩
    have k1 := kb.below b1 kb.lt
    have B1 := B0.trans (b1.mono B0.size)
    have q0 : w1.cell? ⟨w.heap.size, 0, none⟩ = some (.int .i64 k) := k1.cell 0
    clear ht
    go_wp2_with fail
    go_ret
    exact ⟨rfl, B1⟩
  have g7 : (k == 7) = false := beq_eq_false_iff_ne.2 h7
  by_cases h6 : k = 6
  · have g6 : (k == 6) = true := by rw [h6]; rfl
    by_cases ho : op = 7
    · have go : (op != 7) = false := by rw [ho]; rfl
      rw [if_neg (show ¬ bracedW op k = true by unfold bracedW; rw [decide_eq_true_eq]; omega)]
      clear h6 h7 ho
      go_enter Tryz.func28, Tryz.ntmps28
      go_wp2_with fail
      refine ht.mono ?_
      rintro e w1 ⟨rfl, b1⟩
      have k1 := kb.below b1 kb.lt
      have B1 := B0.trans (b1.mono B0.size)
      have q0 : w1.cell? ⟨w.heap.size, 0, none⟩ = some (.int .i64 k) := k1.cell 0
      clear ht
      go_wp2_with fail
      go_ret
      exact ⟨rfl, B1⟩
    · have go : (op != 7) = true := bne_iff_ne.2 ho
      rw [if_pos (show bracedW op k = true from decide_eq_true (.inr ⟨h6, ho⟩))]
      clear h6 h7 ho
      go_enter Tryz.func28, Tryz.ntmps28
      go_wp2_with fail
      refine ht.mono ?_
      rintro e w1 ⟨rfl, b1⟩
      have k1 := kb.below b1 kb.lt
      have B1 := B0.trans (b1.mono B0.size)
      have q0 : w1.cell? ⟨w.heap.size, 0, none⟩ = some (.int .i64 k) := k1.cell 0
      clear ht
      go_wp2_with fail
      go_ret
      exact ⟨rfl, B1⟩
  · have g6 : (k == 6) = false := beq_eq_false_iff_ne.2 h6
    rw [if_neg (show ¬ bracedW op k = true by unfold bracedW; rw [decide_eq_true_eq]; omega)]
    clear h6 h7
    go_enter Tryz.func28, Tryz.ntmps28
    go_wp2_with fail
    refine ht.mono ?_
    rintro e w1 ⟨rfl, b1⟩
    have k1 := kb.below b1 kb.lt
    have B1 := B0.trans (b1.mono B0.size)
    have q0 : w1.cell? ⟨w.heap.size, 0, none⟩ = some (.int .i64 k) := k1.cell 0
    clear ht
    go_wp2_with fail
    go_ret
    exact ⟨rfl, B1⟩
set_option maxHeartbeats 8000000 in
theorem wtext_1 (S : Nat → Prop) (f : Nat) (ih : TextIh S f) (t : Ns (Sc f)) (v : Value) (d : Int) (w : World) (hok : okS (f + 1) t d = true) (hno : nodesS (f + 1) t ≤ 24) (hop : t.op = 1) (hv : ZV w S (f + 1) v t) :
    Calls Tryz.prog 17 #[v] w fun e w' => e = .returned (strV (textB (f + 1) t)) ∧ Below w.heap.size w w' := by
  have hlen := textB_len (f + 1) t d hok
  obtain ⟨hd, hf, hkd⟩ := wok_fits hok
  obtain ⟨c0, c1, c2, c3, c4, rfl, rfl, hk, rfl, hml, rfl, hfr, rfl, hto, hks⟩ := hv
  obtain ⟨A3, cap3, e3, hl3, hm3⟩ := hks.form
  subst e3
  rw [textB_eq] at hlen ⊢
  rw [hop]
  clear hks ih hkd hf hfr hto hok hno hlen
  generalize t.from_ = fr at *
  generalize t.to_ = to_ at *
  generalize t.name = l at *
  generalize t.kids.length = kl at *
  have kb := KB.new w 24 #[.int .i64 1, strV l, .int .i64 fr, .int .i64 to_, .slice A3 kl cap3]
  have B0 := (Below.refl w.heap.size w).alloc (Nat.le_refl _) (.cells #[.int .i64 1, strV l, .int .i64 fr, .int .i64 to_, .slice A3 kl cap3] 24)
  unfold strV at *
  generalize (⟨l.toArray⟩ : ByteArray) = s at *
  go_enter Tryz.func17, Tryz.ntmps17
  go_wp2_with fail
  go_ret
  exact ⟨rfl, B0⟩
set_option maxHeartbeats 8000000 in
theorem wtext_2 (S : Nat → Prop) (f : Nat) (ih : TextIh S f) (t : Ns (Sc f)) (v : Value) (d : Int) (w : World) (hok : okS (f + 1) t d = true) (hno : nodesS (f + 1) t ≤ 24) (hop : t.op = 2) (hv : ZV w S (f + 1) v t) :
    Calls Tryz.prog 17 #[v] w fun e w' => e = .returned (strV (textB (f + 1) t)) ∧ Below w.heap.size w w' := by
  have hlen := textB_len (f + 1) t d hok
  obtain ⟨hd, hf, hkd⟩ := wok_fits hok
  obtain ⟨c0, c1, c2, c3, c4, rfl, rfl, hk, rfl, hml, rfl, hfr, rfl, hto, hks⟩ := hv
  obtain ⟨A3, cap3, e3, hl3, hm3⟩ := hks.form
  subst e3
  rw [textB_eq] at hlen ⊢
  rw [hop]
  have hl2 : t.name.length ≤ 16 := ((name_iff _).1 (fits_named hf (by omega)).1).2.1
  clear hks ih hkd hf hfr hto hok hno hlen
  generalize t.from_ = fr at *
  generalize t.to_ = to_ at *
  generalize t.name = l at *
  generalize t.kids.length = kl at *
  have kb := KB.new w 24 #[.int .i64 2, strV l, .int .i64 fr, .int .i64 to_, .slice A3 kl cap3]
  have B0 := (Below.refl w.heap.size w).alloc (Nat.le_refl _) (.cells #[.int .i64 2, strV l, .int .i64 fr, .int .i64 to_, .slice A3 kl cap3] 24)
  obtain ⟨s, hs⟩ : ∃ s : ByteArray, s = ⟨l.toArray⟩ := ⟨_, rfl⟩
  obtain ⟨u, hu⟩ : ∃ u : ByteArray, u = ⟨([99, 97, 115, 101, 32] ++ l).toArray⟩ := ⟨_, rfl⟩
  have f1 := wadd ⟨#[99, 97, 115, 101, 32]⟩ s u [99, 97, 115, 101, 32] l rfl hs hu (by simp; omega)
  have HB : Hid (.string u = strV ([99, 97, 115, 101, 32] ++ l)) := by show _ = _; rw [hu]; rfl
  show Calls _ _ _ _ fun e w' => e = .returned (strV ([99, 97, 115, 101, 32] ++ l)) ∧ _
  rw [← HB.out]
  unfold strV at kb B0 ⊢
  rw [← hs] at kb B0 ⊢
  clear hs hu HB hl2 hml
  go_enter Tryz.func17, Tryz.ntmps17
  go_wp2_with fail
  go_ret
  exact ⟨rfl, B0⟩
set_option maxHeartbeats 8000000 in
theorem wtext_3 (S : Nat → Prop) (f : Nat) (ih : TextIh S f) (t : Ns (Sc f)) (v : Value) (d : Int) (w : World) (hok : okS (f + 1) t d = true) (hno : nodesS (f + 1) t ≤ 24) (hop : t.op = 3) (hv : ZV w S (f + 1) v t) :
    Calls Tryz.prog 17 #[v] w fun e w' => e = .returned (strV (textB (f + 1) t)) ∧ Below w.heap.size w w' := by
  have hlen := textB_len (f + 1) t d hok
  obtain ⟨hd, hf, hkd⟩ := wok_fits hok
  obtain ⟨c0, c1, c2, c3, c4, rfl, rfl, hk, rfl, hml, rfl, hfr, rfl, hto, hks⟩ := hv
  obtain ⟨A3, cap3, e3, hl3, hm3⟩ := hks.form
  subst e3
  rw [textB_eq] at hlen ⊢
  rw [hop]
  have hl2 : t.name.length ≤ 16 := ((name_iff _).1 (fits_named hf (by omega)).1).2.1
  clear hks ih hkd hf hfr hto hok hno hlen
  generalize t.from_ = fr at *
  generalize t.to_ = to_ at *
  generalize t.name = l at *
  generalize t.kids.length = kl at *
  have kb := KB.new w 24 #[.int .i64 3, strV l, .int .i64 fr, .int .i64 to_, .slice A3 kl cap3]
  have B0 := (Below.refl w.heap.size w).alloc (Nat.le_refl _) (.cells #[.int .i64 3, strV l, .int .i64 fr, .int .i64 to_, .slice A3 kl cap3] 24)
  obtain ⟨s, hs⟩ : ∃ s : ByteArray, s = ⟨l.toArray⟩ := ⟨_, rfl⟩
  obtain ⟨u, hu⟩ : ∃ u : ByteArray, u = ⟨([115, 117, 98, 106, 101, 99, 116, 32] ++ l).toArray⟩ := ⟨_, rfl⟩
  have f1 := wadd ⟨#[115, 117, 98, 106, 101, 99, 116, 32]⟩ s u [115, 117, 98, 106, 101, 99, 116, 32] l rfl hs hu (by simp; omega)
  have HB : Hid (.string u = strV ([115, 117, 98, 106, 101, 99, 116, 32] ++ l)) := by show _ = _; rw [hu]; rfl
  show Calls _ _ _ _ fun e w' => e = .returned (strV ([115, 117, 98, 106, 101, 99, 116, 32] ++ l)) ∧ _
  rw [← HB.out]
  unfold strV at kb B0 ⊢
  rw [← hs] at kb B0 ⊢
  clear hs hu HB hl2 hml
  go_enter Tryz.func17, Tryz.ntmps17
  go_wp2_with fail
  go_ret
  exact ⟨rfl, B0⟩
set_option maxHeartbeats 8000000 in
theorem wtext_4 (S : Nat → Prop) (f : Nat) (ih : TextIh S f) (t : Ns (Sc f)) (v : Value) (d : Int) (w : World) (hok : okS (f + 1) t d = true) (hno : nodesS (f + 1) t ≤ 24) (hop : t.op = 4) (hv : ZV w S (f + 1) v t) :
    Calls Tryz.prog 17 #[v] w fun e w' => e = .returned (strV (textB (f + 1) t)) ∧ Below w.heap.size w w' := by
  have hlen := textB_len (f + 1) t d hok
  obtain ⟨hd, hf, hkd⟩ := wok_fits hok
  obtain ⟨c0, c1, c2, c3, c4, rfl, rfl, hk, rfl, hml, rfl, hfr, rfl, hto, hks⟩ := hv
  obtain ⟨A3, cap3, e3, hl3, hm3⟩ := hks.form
  subst e3
  rw [textB_eq] at hlen ⊢
  rw [hop]
  have hl2 : t.name.length ≤ 16 := ((name_iff _).1 (fits_named hf (by omega)).1).2.1
  clear hks ih hkd hf hfr hto hok hno hlen
  generalize t.from_ = fr at *
  generalize t.to_ = to_ at *
  generalize t.name = l at *
  generalize t.kids.length = kl at *
  have kb := KB.new w 24 #[.int .i64 4, strV l, .int .i64 fr, .int .i64 to_, .slice A3 kl cap3]
  have B0 := (Below.refl w.heap.size w).alloc (Nat.le_refl _) (.cells #[.int .i64 4, strV l, .int .i64 fr, .int .i64 to_, .slice A3 kl cap3] 24)
  obtain ⟨s, hs⟩ : ∃ s : ByteArray, s = ⟨l.toArray⟩ := ⟨_, rfl⟩
  obtain ⟨u, hu⟩ : ∃ u : ByteArray, u = ⟨([99, 108, 97, 115, 115, 32] ++ l).toArray⟩ := ⟨_, rfl⟩
  have f1 := wadd ⟨#[99, 108, 97, 115, 115, 32]⟩ s u [99, 108, 97, 115, 115, 32] l rfl hs hu (by simp; omega)
  have HB : Hid (.string u = strV ([99, 108, 97, 115, 115, 32] ++ l)) := by show _ = _; rw [hu]; rfl
  show Calls _ _ _ _ fun e w' => e = .returned (strV ([99, 108, 97, 115, 115, 32] ++ l)) ∧ _
  rw [← HB.out]
  unfold strV at kb B0 ⊢
  rw [← hs] at kb B0 ⊢
  clear hs hu HB hl2 hml
  go_enter Tryz.func17, Tryz.ntmps17
  go_wp2_with fail
  go_ret
  exact ⟨rfl, B0⟩
set_option maxHeartbeats 8000000 in
theorem wtext_5 (S : Nat → Prop) (f : Nat) (ih : TextIh S f) (t : Ns (Sc f)) (v : Value) (d : Int) (w : World) (hok : okS (f + 1) t d = true) (hno : nodesS (f + 1) t ≤ 24) (hop : t.op = 5) (hv : ZV w S (f + 1) v t) :
    Calls Tryz.prog 17 #[v] w fun e w' => e = .returned (strV (textB (f + 1) t)) ∧ Below w.heap.size w w' := by
  have hlen := textB_len (f + 1) t d hok
  obtain ⟨hd, hf, hkd⟩ := wok_fits hok
  obtain ⟨c0, c1, c2, c3, c4, rfl, rfl, hk, rfl, hml, rfl, hfr, rfl, hto, hks⟩ := hv
  obtain ⟨A3, cap3, e3, hl3, hm3⟩ := hks.form
  subst e3
  rw [textB_eq] at hlen ⊢
  rw [hop]
  obtain ⟨a0, a1, a2, _⟩ := fits_time hf hop
  clear hks ih hkd hf hfr hto hok hno
  obtain ⟨n1, hn1⟩ : ∃ n : Nat, t.from_ = (n : Int) := ⟨t.from_.toNat, by omega⟩
  obtain ⟨n2, hn2⟩ : ∃ n : Nat, t.to_ = (n : Int) := ⟨t.to_.toNat, by omega⟩
  rw [hn1, hn2] at a1 ⊢
  rw [hn2] at a2
  simp only [Int.toNat_natCast]
  have b2 : n2 ≤ 1099511627776 := by omega
  have b1 : n1 ≤ 1099511627776 := by omega
  have t1 := wtell_any n1 b1
  have t2 := wtell_any n2 b2
  have d1 := digits_len b1
  have d2 := digits_len b2
  clear a0 a1 a2 hn1 hn2 hlen b1 b2
  generalize t.name = l at *
  generalize t.kids.length = kl at *
  generalize Lib.decDigits n1 = D1 at *
  generalize Lib.decDigits n2 = D2 at *
  have kb := KB.new w 24 #[.int .i64 5, strV l, .int .i64 (n1 : Int), .int .i64 (n2 : Int), .slice A3 kl cap3]
  have B0 := (Below.refl w.heap.size w).alloc (Nat.le_refl _) (.cells #[.int .i64 5, strV l, .int .i64 (n1 : Int), .int .i64 (n2 : Int), .slice A3 kl cap3] 24)
  have B1 := Below_drawn B0 1
  show Calls _ _ _ _ fun e w' => e = .returned (strV ([116, 105, 109, 101, 32] ++ D1 ++ [45] ++ D2)) ∧ _
  obtain ⟨s1, hs1⟩ : ∃ s : ByteArray, s = ⟨D1.toArray⟩ := ⟨_, rfl⟩
  obtain ⟨s2, hs2⟩ : ∃ s : ByteArray, s = ⟨D2.toArray⟩ := ⟨_, rfl⟩
  obtain ⟨u1, hu1⟩ : ∃ s : ByteArray, s = ⟨([116, 105, 109, 101, 32] ++ D1).toArray⟩ := ⟨_, rfl⟩
  obtain ⟨u2, hu2⟩ : ∃ s : ByteArray, s = ⟨([116, 105, 109, 101, 32] ++ D1 ++ [45]).toArray⟩ := ⟨_, rfl⟩
  obtain ⟨u3, hu3⟩ : ∃ s : ByteArray, s = ⟨([116, 105, 109, 101, 32] ++ D1 ++ [45] ++ D2).toArray⟩ := ⟨_, rfl⟩
  have f1 := wadd ⟨#[116, 105, 109, 101, 32]⟩ s1 u1 [116, 105, 109, 101, 32] D1 rfl hs1 hu1 (by simp; omega)
  have f2 := wadd u1 ⟨#[45]⟩ u2 ([116, 105, 109, 101, 32] ++ D1) [45] hu1 rfl hu2 (by simp; omega)
  have f3 := wadd u2 s2 u3 ([116, 105, 109, 101, 32] ++ D1 ++ [45]) D2 hu2 hs2 hu3 (by simp; omega)
  have HB : Hid (.string u3 = strV ([116, 105, 109, 101, 32] ++ D1 ++ [45] ++ D2)) := by show _ = _; rw [hu3]; rfl
  rw [← HB.out]
  unfold strV at *
  rw [← hs1] at t1
  rw [← hs2] at t2
  generalize (⟨l.toArray⟩ : ByteArray) = s at *
  clear hs1 hs2 hu1 hu2 hu3 HB d1 d2 hml
  have T1 := Lib.hid t1
  have T2 := Lib.hid t2
  clear t1 t2
  go_enter Tryz.func17, Tryz.ntmps17
  go_wp2_with fail
  rename_i KK hKK
  have HKK := Lib.hid hKK
  clear hKK
  refine wp_region_held_drew (S := (fun W => W.cell? ⟨w.heap.size, 2, none⟩ = some (.int .i64 (n1 : Int)) ∧ W.cell? ⟨w.heap.size, 3, none⟩ = some (.int .i64 (n2 : Int)))) (by kernel_rfl) ⟨kb.cell 2, kb.cell 3⟩ (fun hHeld => ?_)
  refine hyY (some 26) 0 rfl hHeld ?_; go_frame
  refine hyY (some 27) 1 rfl hHeld ?_; go_frame
  refine hyY (some 31) 5 rfl hHeld ?_; go_frame
  refine hyY (some 32) 6 rfl hHeld ?_; go_frame
  refine hyO (some 28) 2 rfl (fun K hK => ?_)
  go_simp
  go_at_call 27
  refine (T1.out _).mono ?_
  rintro e w5 ⟨rfl, rfl⟩
  go_wp2_with fail
  refine hK.out _ _ ?_ (fun hH2 => ?_)
  · exact ⟨kb.cell 2, kb.cell 3⟩
  clear hHeld hK K; have hHeld := hH2; clear hH2; try go_frame
  refine hyY (some 29) 3 rfl hHeld ?_; go_frame
  refine hyY (some 30) 4 rfl hHeld ?_; go_frame
  refine hyO (some 33) 7 rfl (fun K hK => ?_)
  go_simp
  go_at_call 27
  refine (T2.out _).mono ?_
  rintro e w5 ⟨rfl, rfl⟩
  go_wp2_with fail
  refine hK.out _ _ ?_ (fun hH2 => ?_)
  · exact ⟨kb.cell 2, kb.cell 3⟩
  clear hHeld hK K; have hHeld := hH2; clear hH2; try go_frame
  refine hyY (some 34) 8 rfl hHeld ?_; go_frame
  refine hyY (some 2) 9 rfl hHeld ?_; go_frame
  refine wpAnyH_done (by kernel_rfl) ?_ _
  have hKK := HKK.out
  go_wp2_with fail
  go_ret
  exact ⟨rfl, B1⟩
set_option maxHeartbeats 8000000 in
theorem wtext_8 (S : Nat → Prop) (f : Nat) (ih : TextIh S f) (t : Ns (Sc f)) (v : Value) (d : Int) (w : World) (hok : okS (f + 1) t d = true) (hno : nodesS (f + 1) t ≤ 24) (hop : t.op = 8) (hv : ZV w S (f + 1) v t) :
    Calls Tryz.prog 17 #[v] w fun e w' => e = .returned (strV (textB (f + 1) t)) ∧ Below w.heap.size w w' := by
  have hlen := textB_len (f + 1) t d hok
  obtain ⟨hd, hf, hkd⟩ := wok_fits hok
  obtain ⟨c0, c1, c2, c3, c4, rfl, rfl, hk, rfl, hml, rfl, hfr, rfl, hto, hks⟩ := hv
  obtain ⟨A3, cap3, e3, hl3, hm3⟩ := hks.form
  subst e3
  rw [textB_eq] at hlen ⊢
  rw [hop]
  obtain ⟨k, hkk⟩ := fits_not hf hop
  have hk1 := hkd k (by rw [hkk]; exact List.mem_cons_self ..)
  have hk2 : nodesS f k ≤ 24 := by rw [nodesS_eq] at hno; have := nodesS_kid f t.kids k (by rw [hkk]; exact List.mem_cons_self ..); omega
  have hkl := textB_len f k _ hk1
  have hbl := brB_len 8 (opS f k) (textB f k)
  clear hlen
  rw [hkk] at hks hl3 ⊢
  show Calls _ _ _ _ fun e w' => e = .returned (strV ([110, 111, 116, 32] ++ brB 8 (opS f k) (textB f k))) ∧ _
  generalize t.from_ = fr at *
  generalize t.to_ = to_ at *
  generalize t.name = l at *
  clear hkd hf hok hno hop
  have kb := KB.new w 24 #[.int .i64 8, strV l, .int .i64 fr, .int .i64 to_, .slice A3 ([k] : List (Sc f)).length cap3]
  have B0 := (Below.refl w.heap.size w).alloc (Nat.le_refl _) (.cells #[.int .i64 8, strV l, .int .i64 fr, .int .i64 to_, .slice A3 ([k] : List (Sc f)).length cap3] 24)
  obtain ⟨b, o, e0, e1, e2, e3, e4, rfl, hb, k0, k1, k2, k3, k4, hz⟩ := kid_zb hks rfl B0 0 (by simp)
  have hz : ZV _ S f _ k := hz
  rw [Nat.zero_mul, Nat.add_zero] at k0 k1 k2 k3 k4
  have HKI := Lib.hid (fun W (hW : Below _ _ W) => wkid_any S f ih k _ _ 8 W hk1 hk2 (hz.below' hW))
  obtain ⟨T, hT⟩ : ∃ T, T = brB 8 (opS f k) (textB f k) := ⟨_, rfl⟩
  rw [← hT] at HKI hbl ⊢
  clear hT
  obtain ⟨s1, hs1⟩ : ∃ s : ByteArray, s = ⟨T.toArray⟩ := ⟨_, rfl⟩
  obtain ⟨u, hu⟩ : ∃ s : ByteArray, s = ⟨([110, 111, 116, 32] ++ T).toArray⟩ := ⟨_, rfl⟩
  have f1 := wadd ⟨#[110, 111, 116, 32]⟩ s1 u [110, 111, 116, 32] T rfl hs1 hu (by simp; omega)
  have HB : Hid (.string u = strV ([110, 111, 116, 32] ++ T)) := by show _ = _; rw [hu]; rfl
  rw [← HB.out]
  obtain ⟨j0, l1, j2, j3, X4, n4, z4, e⟩ := hz.form
  injection e with e
  simp only [Array.mk.injEq, List.cons.injEq, and_true] at e
  obtain ⟨rfl, rfl, rfl, rfl, rfl⟩ := e
  unfold strV at *
  rw [← hs1] at HKI
  generalize (⟨l.toArray⟩ : ByteArray) = s at *
  generalize (⟨l1.toArray⟩ : ByteArray) = s4 at *
  clear hs1 hu HB hkl hbl hz hks ih hk1 hk2
  have hbw := Nat.lt_of_lt_of_le hb B0.size
  simp only [List.length_cons, List.length_nil] at kb B0 k0 k1 k2 k3 k4 HKI hbw hl3 ⊢
  have Bd : Below w.heap.size w (w.alloc (.cells #[.int .i64 8, .string s, .int .i64 fr, .int .i64 to_, .slice (some ⟨b, o, none⟩) (0 + 1) cap3] 24)).drew := Below_drawn B0 1
  have hkc := HKI.out (w.alloc (.cells #[.int .i64 8, .string s, .int .i64 fr, .int .i64 to_, .slice (some ⟨b, o, none⟩) (0 + 1) cap3] 24)).drew (Below_drawn (Below.refl _ _) 1)
  clear HKI
  go_enter Tryz.func17, Tryz.ntmps17
  go_wp2_with fail
  rename_i KK hKK
  have HKK := Lib.hid hKK
  clear hKK
  have kd : KB (w.alloc (.cells #[.int .i64 8, .string s, .int .i64 fr, .int .i64 to_, .slice (some ⟨b, o, none⟩) (0 + 1) cap3] 24)).drew w.heap.size 24 #[.int .i64 8, .string s, .int .i64 fr, .int .i64 to_, .slice (some ⟨b, o, none⟩) (0 + 1) cap3] := kb
  clear kb B0
  have hbd : b < (w.alloc (.cells #[.int .i64 8, .string s, .int .i64 fr, .int .i64 to_, .slice (some ⟨b, o, none⟩) (0 + 1) cap3] 24)).drew.heap.size := hbw
  have m0 : (w.alloc (.cells #[.int .i64 8, .string s, .int .i64 fr, .int .i64 to_, .slice (some ⟨b, o, none⟩) (0 + 1) cap3] 24)).drew.cell? ⟨b, o, none⟩ = some (.int .i64 j0) := k0
  have m1 : (w.alloc (.cells #[.int .i64 8, .string s, .int .i64 fr, .int .i64 to_, .slice (some ⟨b, o, none⟩) (0 + 1) cap3] 24)).drew.cell? ⟨b, o + 1, none⟩ = some (.string s4) := k1
  have m2 : (w.alloc (.cells #[.int .i64 8, .string s, .int .i64 fr, .int .i64 to_, .slice (some ⟨b, o, none⟩) (0 + 1) cap3] 24)).drew.cell? ⟨b, o + 2, none⟩ = some (.int .i64 j2) := k2
  have m3 : (w.alloc (.cells #[.int .i64 8, .string s, .int .i64 fr, .int .i64 to_, .slice (some ⟨b, o, none⟩) (0 + 1) cap3] 24)).drew.cell? ⟨b, o + 3, none⟩ = some (.int .i64 j3) := k3
  have m4 : (w.alloc (.cells #[.int .i64 8, .string s, .int .i64 fr, .int .i64 to_, .slice (some ⟨b, o, none⟩) (0 + 1) cap3] 24)).drew.cell? ⟨b, o + 4, none⟩ = some (.slice X4 n4 z4) := k4
  clear k0 k1 k2 k3 k4 hbw
  refine wp_region_held_drew (S := (fun W => W.cell? ⟨w.heap.size, 0, none⟩ = some (.int .i64 8) ∧ W.cell? ⟨w.heap.size, 4, none⟩ = some (.slice (some ⟨b, o, none⟩) (0 + 1) cap3) ∧ W.cell? ⟨b, o, none⟩ = some (.int .i64 j0) ∧ W.cell? ⟨b, o + 1, none⟩ = some (.string s4) ∧ W.cell? ⟨b, o + 2, none⟩ = some (.int .i64 j2) ∧ W.cell? ⟨b, o + 3, none⟩ = some (.int .i64 j3) ∧ W.cell? ⟨b, o + 4, none⟩ = some (.slice X4 n4 z4))) (by kernel_rfl) ⟨kd.cell 0, kd.cell 4, m0, m1, m2, m3, m4⟩ (fun hHeld => ?_)
  generalize (w.alloc (.cells #[.int .i64 8, .string s, .int .i64 fr, .int .i64 to_, .slice (some ⟨b, o, none⟩) (0 + 1) cap3] 24)).drew = wd at *
  refine hyY (some 37) 0 rfl hHeld ?_; go_frame
  refine hyY (some 38) 1 rfl hHeld ?_; go_frame
  refine hyY (some 39) 2 rfl hHeld ?_; go_frame
  refine hyY (some 40) 3 rfl hHeld ?_; go_frame
  refine hyY (some 41) 4 rfl hHeld ?_; go_frame
  refine hyY (some 42) 5 rfl hHeld ?_; go_frame
  refine hyO (some 43) 6 rfl (fun K hK => ?_)
  go_simp
  go_at_call 28
  refine hkc.mono ?_
  rintro e w5 ⟨rfl, b5⟩
  replace kd := kd.below b5 kd.lt
  replace Bd := Bd.trans (b5.mono Bd.size)
  replace m0 := (World.cell?_of_block (b5.block b hbd)).trans m0
  replace m1 := (World.cell?_of_block (b5.block b hbd)).trans m1
  replace m2 := (World.cell?_of_block (b5.block b hbd)).trans m2
  replace m3 := (World.cell?_of_block (b5.block b hbd)).trans m3
  replace m4 := (World.cell?_of_block (b5.block b hbd)).trans m4
  clear b5
  go_wp2_with fail
  refine hK.out _ _ ?_ (fun hH2 => ?_)
  · exact ⟨kd.cell 0, kd.cell 4, m0, m1, m2, m3, m4⟩
  clear hHeld hK K; have hHeld := hH2; clear hH2; try go_frame
  refine hyY (some 44) 7 rfl hHeld ?_; go_frame
  refine hyY (some 2) 8 rfl hHeld ?_; go_frame
  refine wpAnyH_done (by kernel_rfl) ?_ _
  have hKK := HKK.out
  go_wp2_with fail
  go_ret
  exact ⟨rfl, Bd⟩
set_option maxHeartbeats 8000000 in
theorem wtext_6 (S : Nat → Prop) (f : Nat) (ih : TextIh S f) (t : Ns (Sc f)) (v : Value) (d : Int) (w : World) (hok : okS (f + 1) t d = true) (hno : nodesS (f + 1) t ≤ 24) (hop : t.op = 6) (hv : ZV w S (f + 1) v t) :
    Calls Tryz.prog 17 #[v] w fun e w' => e = .returned (strV (textB (f + 1) t)) ∧ Below w.heap.size w w' := by
  have hlen := textB_len (f + 1) t d hok
  obtain ⟨hd, hf, hkd⟩ := wok_fits hok
  obtain ⟨c0, c1, c2, c3, c4, rfl, rfl, hk, rfl, hml, rfl, hfr, rfl, hto, hks⟩ := hv
  obtain ⟨A3, cap3, e3, hl3, hm3⟩ := hks.form
  subst e3
  rw [textB_eq] at hlen ⊢
  rw [hop]
  have hno2 : (t.kids.map (nodesS f)).sum ≤ 23 := by rw [nodesS_eq] at hno; omega
  have hsum := kidsB_sum f 6 (d - 1) (fun x h => textB_len f x (d - 1) h) t.kids hkd
  have HSB : Hid (∀ j, (sumB [32, 97, 110, 100, 32] ((t.kids.map fun k => brB 6 (opS f k) (textB f k)).take j)).length ≤ 1500) := fun j => by
    have := sumB_some [32, 97, 110, 100, 32] (by simp) (t.kids.map fun k => brB 6 (opS f k) (textB f k)) j
    omega
  clear hlen hsum
  generalize hkk : t.kids = ks at *
  have hkn : ∀ k ∈ ks, nodesS f k ≤ 24 := fun k hk => by have := nodesS_kid f ks k hk; omega
  obtain ⟨ts, hts⟩ : ∃ ts, ts = ks.map fun k => brB 6 (opS f k) (textB f k) := ⟨_, rfl⟩
  have htl : ts.length = ks.length := by rw [hts, List.length_map]
  show Calls _ _ _ _ fun e w' => e = .returned (strV (sumB [32, 97, 110, 100, 32] (ks.map fun k => brB 6 (opS f k) (textB f k)))) ∧ _
  rw [← hts] at HSB ⊢
  have HTS : Hid (∀ (j : Nat) (hj : j < ks.length), ∃ h2 : j < ts.length, ts[j] = brB 6 (opS f ks[j]) (textB f ks[j])) := fun j hj => ⟨by omega, by simp [hts]⟩
  generalize t.from_ = fr at *
  generalize t.to_ = to_ at *
  generalize t.name = l at *
  clear hkk hk hf hok hno hop hno2 hts t
  have HEND : Hid (ks.length = ts.length) := htl.symm
  clear htl
  have hlen : ks.length ≤ 9223372036854775807 := by unfold maxLen at hm3; omega
  have kb := KB.new w 24 #[.int .i64 6, strV l, .int .i64 fr, .int .i64 to_, .slice A3 ks.length cap3]
  have B0 := (Below.refl w.heap.size w).alloc (Nat.le_refl _) (.cells #[.int .i64 6, strV l, .int .i64 fr, .int .i64 to_, .slice A3 ks.length cap3] 24)
  obtain ⟨Q, hQ⟩ : ∃ Q : Ending → World → Prop, Q = fun e w' => e = .returned (strV (sumB [32, 97, 110, 100, 32] ts)) ∧ Below w.heap.size w w' := ⟨_, rfl⟩
  have HQ : Hid (∀ W, Below w.heap.size w W → Q (.returned (.string ⟨(sumB [32, 97, 110, 100, 32] (ts.take ks.length)).toArray⟩)) W) := fun W hW => by
    rw [hQ, HEND.out, List.take_length]
    exact ⟨rfl, hW⟩
  rw [← hQ]
  clear hQ
  unfold strV at *
  generalize (⟨l.toArray⟩ : ByteArray) = s at *
  go_enter Tryz.func17, Tryz.ntmps17
  go_wp2_with fail
  go_loopw [3, 4] (fun sv iv wr => ∃ j : Nat, j ≤ ks.length ∧ iv = .int .i64 j ∧ sv = .string ⟨(sumB [32, 97, 110, 100, 32] (ts.take j)).toArray⟩ ∧ KB wr w.heap.size 24 #[.int .i64 6, .string s, .int .i64 fr, .int .i64 to_, .slice A3 ks.length cap3] ∧ Below w.heap.size w wr) (fun _ iv _ => ks.length - (intOf iv).toNat)
  case atStart => exact ⟨0, by omega, rfl, rfl, kb, B0⟩
  case round =>
    clear kb B0
    obtain ⟨j, hj, rfl, rfl, K, B⟩ := hrel
    have q4 : wr.cell? ⟨w.heap.size, 4, none⟩ = some (.slice A3 ks.length cap3) := K.cell 4
    have q0 : wr.cell? ⟨w.heap.size, 0, none⟩ = some (.int .i64 6) := K.cell 0
    by_cases hlt : j < ks.length
    · have hltI : (j : Int) < (ks.length : Int) := by omega
      obtain ⟨b, o, e0, e1, e2, e3, e4, rfl, hb, k0, k1, k2, k3, k4, hz⟩ := kid_zb hks rfl B j hlt
      have hk1 := hkd ks[j] (List.getElem_mem hlt)
      have hk2 := hkn ks[j] (List.getElem_mem hlt)
      obtain ⟨ht2, hte⟩ := HTS.out j hlt
      have hst := sumB_take (s := [32, 97, 110, 100, 32]) ht2
      have hkl := textB_len f ks[j] _ hk1
      have hbl := brB_len 6 (opS f ks[j]) (textB f ks[j])
      have hkc := wkid_any S f ih ks[j] _ _ 6 wr.drew hk1 hk2 (hz.below' (Below_drawn (Below.refl _ _) 1))
      rw [hte] at hst
      generalize brB 6 (opS f ks[j]) (textB f ks[j]) = T at *
      have hcl := HSB.out j
      have hbw := Nat.lt_of_lt_of_le hb B.size
      obtain ⟨j0, l1, j2, j3, X4, n4, z4, e⟩ := hz.form
      injection e with e
      simp only [Array.mk.injEq, List.cons.injEq, and_true] at e
      obtain ⟨rfl, rfl, rfl, rfl, rfl⟩ := e
      unfold strV at *
      generalize (⟨l1.toArray⟩ : ByteArray) = s4 at *
      obtain ⟨s1, hs1⟩ : ∃ s : ByteArray, s = ⟨T.toArray⟩ := ⟨_, rfl⟩
      rw [← hs1] at hkc
      have Bd : Below w.heap.size w wr.drew := Below_drawn B 1
      have kd : KB wr.drew w.heap.size 24 #[.int .i64 6, .string s, .int .i64 fr, .int .i64 to_, .slice (some ⟨b, o, none⟩) ks.length cap3] := K
      have htb : T.length ≤ 1500 := by omega
      clear hz hk1 hk2 hkl hte
      by_cases hj0 : j = 0
      · subst hj0
        rw [if_pos rfl, List.nil_append] at hst
        obtain ⟨u, hu⟩ : ∃ u : ByteArray, u = ⟨T.toArray⟩ := ⟨_, rfl⟩
        have hz0 : (sumB [32, 97, 110, 100, 32] (ts.take 0)) = [] := rfl
        have f2 := wadd ⟨#[]⟩ s1 u [] T rfl hs1 (by rw [hu]; rfl) (by simp; omega)
        have HU : Hid (Value.string u = .string ⟨(sumB [32, 97, 110, 100, 32] (ts.take (0 + 1))).toArray⟩) := by show _ = _; rw [hst, hu]
        clear hst hu hs1 hcl hbl
        rw [hz0]
        clear hz0
        go_wp2_with fail
        rename_i KK hKK
        have HKK := Lib.hid hKK
        clear hKK
        rw [Nat.zero_mul, Nat.add_zero] at k0 k1 k2 k3 k4
        have hbd : b < wr.drew.heap.size := hbw
        have m0 : wr.drew.cell? ⟨b, o, none⟩ = some (.int .i64 j0) := k0
        have m1 : wr.drew.cell? ⟨b, o + 1, none⟩ = some (.string s4) := k1
        have m2 : wr.drew.cell? ⟨b, o + 2, none⟩ = some (.int .i64 j2) := k2
        have m3 : wr.drew.cell? ⟨b, o + 3, none⟩ = some (.int .i64 j3) := k3
        have m4 : wr.drew.cell? ⟨b, o + 4, none⟩ = some (.slice X4 n4 z4) := k4
        clear k0 k1 k2 k3 k4 hbw q0 q4
        refine wp_region_held_drew (S := (fun W => W.cell? ⟨w.heap.size, 0, none⟩ = some (.int .i64 6) ∧ W.cell? ⟨w.heap.size, 4, none⟩ = some (.slice (some ⟨b, o, none⟩) ks.length cap3) ∧ W.cell? ⟨b, o, none⟩ = some (.int .i64 j0) ∧ W.cell? ⟨b, o + 1, none⟩ = some (.string s4) ∧ W.cell? ⟨b, o + 2, none⟩ = some (.int .i64 j2) ∧ W.cell? ⟨b, o + 3, none⟩ = some (.int .i64 j3) ∧ W.cell? ⟨b, o + 4, none⟩ = some (.slice X4 n4 z4))) (by kernel_rfl) ⟨kd.cell 0, kd.cell 4, m0, m1, m2, m3, m4⟩ (fun hHeld => ?_)
        generalize wr.drew = wd at *
        refine hyY (some 65) 0 rfl hHeld ?_; go_frame
        refine hyY (some 66) 1 rfl hHeld ?_; go_frame
        refine hyY (some 67) 2 rfl hHeld ?_; go_frame
        refine hyY (some 68) 3 rfl hHeld ?_; go_frame
        refine hyY (some 69) 4 rfl hHeld ?_; go_frame
        refine hyY (some 70) 5 rfl hHeld ?_; go_frame
        refine hyY (some 71) 6 rfl hHeld ?_; go_frame
        refine hyY (some 72) 7 rfl hHeld ?_; go_frame
        refine hyO (some 73) 8 rfl (fun K hK => ?_)
        go_simp
        go_at_call 28
        refine hkc.mono ?_
        rintro e w5 ⟨rfl, b5⟩
        replace kd := kd.below b5 kd.lt
        replace Bd := Bd.trans (b5.mono Bd.size)
        replace m0 := (World.cell?_of_block (b5.block b hbd)).trans m0
        replace m1 := (World.cell?_of_block (b5.block b hbd)).trans m1
        replace m2 := (World.cell?_of_block (b5.block b hbd)).trans m2
        replace m3 := (World.cell?_of_block (b5.block b hbd)).trans m3
        replace m4 := (World.cell?_of_block (b5.block b hbd)).trans m4
        clear b5
        go_wp2_with fail
        refine hK.out _ _ ?_ (fun hH2 => ?_)
        · exact ⟨kd.cell 0, kd.cell 4, m0, m1, m2, m3, m4⟩
        clear hHeld hK K; have hHeld := hH2; clear hH2; try go_frame
        refine hyY (some 74) 9 rfl hHeld ?_; go_frame
        refine hyY (some 3) 10 rfl hHeld ?_; go_frame
        refine wpAnyH_done (by kernel_rfl) ?_ _
        have hKK := HKK.out
        go_wp2_with fail
        go_roundw
        case rel => exact ⟨0 + 1, by omega, by go_num, HU.out, kd, Bd⟩
        case measure => simp [intOf]; omega
      · rw [if_neg hj0] at hst
        have gj : (0 : Int) < (j : Int) := by omega
        obtain ⟨s0, hs0⟩ : ∃ u : ByteArray, u = ⟨(sumB [32, 97, 110, 100, 32] (ts.take j)).toArray⟩ := ⟨_, rfl⟩
        obtain ⟨sC, hsC⟩ : ∃ u : ByteArray, u = ⟨(sumB [32, 97, 110, 100, 32] (ts.take j) ++ [32, 97, 110, 100, 32]).toArray⟩ := ⟨_, rfl⟩
        obtain ⟨u, hu⟩ : ∃ u : ByteArray, u = ⟨(sumB [32, 97, 110, 100, 32] (ts.take j) ++ [32, 97, 110, 100, 32] ++ T).toArray⟩ := ⟨_, rfl⟩
        have f1 := wadd s0 ⟨#[32, 97, 110, 100, 32]⟩ sC (sumB [32, 97, 110, 100, 32] (ts.take j)) [32, 97, 110, 100, 32] hs0 rfl hsC (by simp; omega)
        have f2 := wadd sC s1 u (sumB [32, 97, 110, 100, 32] (ts.take j) ++ [32, 97, 110, 100, 32]) T hsC hs1 hu (by simp; omega)
        have HU : Hid (Value.string u = .string ⟨(sumB [32, 97, 110, 100, 32] (ts.take (j + 1))).toArray⟩) := by show _ = _; rw [hst, hu]
        rw [← hs0]
        clear hs0 hsC
        clear hst hu hs1 hcl hbl
        go_wp2_with fail
        rename_i KK hKK
        have HKK := Lib.hid hKK
        clear hKK
        have hbd : b < wr.drew.heap.size := hbw
        have m0 : wr.drew.cell? ⟨b, o + j * 5, none⟩ = some (.int .i64 j0) := k0
        have m1 : wr.drew.cell? ⟨b, o + j * 5 + 1, none⟩ = some (.string s4) := k1
        have m2 : wr.drew.cell? ⟨b, o + j * 5 + 2, none⟩ = some (.int .i64 j2) := k2
        have m3 : wr.drew.cell? ⟨b, o + j * 5 + 3, none⟩ = some (.int .i64 j3) := k3
        have m4 : wr.drew.cell? ⟨b, o + j * 5 + 4, none⟩ = some (.slice X4 n4 z4) := k4
        clear k0 k1 k2 k3 k4 hbw q0 q4
        refine wp_region_held_drew (S := (fun W => W.cell? ⟨w.heap.size, 0, none⟩ = some (.int .i64 6) ∧ W.cell? ⟨w.heap.size, 4, none⟩ = some (.slice (some ⟨b, o, none⟩) ks.length cap3) ∧ W.cell? ⟨b, o + j * 5, none⟩ = some (.int .i64 j0) ∧ W.cell? ⟨b, o + j * 5 + 1, none⟩ = some (.string s4) ∧ W.cell? ⟨b, o + j * 5 + 2, none⟩ = some (.int .i64 j2) ∧ W.cell? ⟨b, o + j * 5 + 3, none⟩ = some (.int .i64 j3) ∧ W.cell? ⟨b, o + j * 5 + 4, none⟩ = some (.slice X4 n4 z4))) (by kernel_rfl) ⟨kd.cell 0, kd.cell 4, m0, m1, m2, m3, m4⟩ (fun hHeld => ?_)
        generalize wr.drew = wd at *
        refine hyY (some 65) 0 rfl hHeld ?_; go_frame
        refine hyY (some 66) 1 rfl hHeld ?_; go_frame
        refine hyY (some 67) 2 rfl hHeld ?_; go_frame
        refine hyY (some 68) 3 rfl hHeld ?_; go_frame
        refine hyY (some 69) 4 rfl hHeld ?_; go_frame
        refine hyY (some 70) 5 rfl hHeld ?_; go_frame
        refine hyY (some 71) 6 rfl hHeld ?_; go_frame
        refine hyY (some 72) 7 rfl hHeld ?_; go_frame
        refine hyO (some 73) 8 rfl (fun K hK => ?_)
        go_simp
        go_at_call 28
        refine hkc.mono ?_
        rintro e w5 ⟨rfl, b5⟩
        replace kd := kd.below b5 kd.lt
        replace Bd := Bd.trans (b5.mono Bd.size)
        replace m0 := (World.cell?_of_block (b5.block b hbd)).trans m0
        replace m1 := (World.cell?_of_block (b5.block b hbd)).trans m1
        replace m2 := (World.cell?_of_block (b5.block b hbd)).trans m2
        replace m3 := (World.cell?_of_block (b5.block b hbd)).trans m3
        replace m4 := (World.cell?_of_block (b5.block b hbd)).trans m4
        clear b5
        go_wp2_with fail
        refine hK.out _ _ ?_ (fun hH2 => ?_)
        · exact ⟨kd.cell 0, kd.cell 4, m0, m1, m2, m3, m4⟩
        clear hHeld hK K; have hHeld := hH2; clear hH2; try go_frame
        refine hyY (some 74) 9 rfl hHeld ?_; go_frame
        refine hyY (some 3) 10 rfl hHeld ?_; go_frame
        refine wpAnyH_done (by kernel_rfl) ?_ _
        have hKK := HKK.out
        go_wp2_with fail
        go_roundw
        case rel => exact ⟨j + 1, by omega, by go_num, HU.out, kd, Bd⟩
        case measure => simp [intOf]; omega
    · obtain rfl : j = ks.length := by omega
      have hf := HQ.out wr B
      go_wp2_with fail
      first | exact hf | (go_ret; exact hf)
set_option maxHeartbeats 8000000 in
theorem wtext_7 (S : Nat → Prop) (f : Nat) (ih : TextIh S f) (t : Ns (Sc f)) (v : Value) (d : Int) (w : World) (hok : okS (f + 1) t d = true) (hno : nodesS (f + 1) t ≤ 24) (hop : t.op = 7) (hv : ZV w S (f + 1) v t) :
    Calls Tryz.prog 17 #[v] w fun e w' => e = .returned (strV (textB (f + 1) t)) ∧ Below w.heap.size w w' := by
  have hlen := textB_len (f + 1) t d hok
  obtain ⟨hd, hf, hkd⟩ := wok_fits hok
  obtain ⟨c0, c1, c2, c3, c4, rfl, rfl, hk, rfl, hml, rfl, hfr, rfl, hto, hks⟩ := hv
  obtain ⟨A3, cap3, e3, hl3, hm3⟩ := hks.form
  subst e3
  rw [textB_eq] at hlen ⊢
  rw [hop]
  have hno2 : (t.kids.map (nodesS f)).sum ≤ 23 := by rw [nodesS_eq] at hno; omega
  have hsum := kidsB_sum f 7 (d - 1) (fun x h => textB_len f x (d - 1) h) t.kids hkd
  have HSB : Hid (∀ j, (sumB [32, 111, 114, 32] ((t.kids.map fun k => brB 7 (opS f k) (textB f k)).take j)).length ≤ 1500) := fun j => by
    have := sumB_some [32, 111, 114, 32] (by simp) (t.kids.map fun k => brB 7 (opS f k) (textB f k)) j
    omega
  clear hlen hsum
  generalize hkk : t.kids = ks at *
  have hkn : ∀ k ∈ ks, nodesS f k ≤ 24 := fun k hk => by have := nodesS_kid f ks k hk; omega
  obtain ⟨ts, hts⟩ : ∃ ts, ts = ks.map fun k => brB 7 (opS f k) (textB f k) := ⟨_, rfl⟩
  have htl : ts.length = ks.length := by rw [hts, List.length_map]
  show Calls _ _ _ _ fun e w' => e = .returned (strV (sumB [32, 111, 114, 32] (ks.map fun k => brB 7 (opS f k) (textB f k)))) ∧ _
  rw [← hts] at HSB ⊢
  have HTS : Hid (∀ (j : Nat) (hj : j < ks.length), ∃ h2 : j < ts.length, ts[j] = brB 7 (opS f ks[j]) (textB f ks[j])) := fun j hj => ⟨by omega, by simp [hts]⟩
  generalize t.from_ = fr at *
  generalize t.to_ = to_ at *
  generalize t.name = l at *
  clear hkk hk hf hok hno hop hno2 hts t
  have HEND : Hid (ks.length = ts.length) := htl.symm
  clear htl
  have hlen : ks.length ≤ 9223372036854775807 := by unfold maxLen at hm3; omega
  have kb := KB.new w 24 #[.int .i64 7, strV l, .int .i64 fr, .int .i64 to_, .slice A3 ks.length cap3]
  have B0 := (Below.refl w.heap.size w).alloc (Nat.le_refl _) (.cells #[.int .i64 7, strV l, .int .i64 fr, .int .i64 to_, .slice A3 ks.length cap3] 24)
  obtain ⟨Q, hQ⟩ : ∃ Q : Ending → World → Prop, Q = fun e w' => e = .returned (strV (sumB [32, 111, 114, 32] ts)) ∧ Below w.heap.size w w' := ⟨_, rfl⟩
  have HQ : Hid (∀ W, Below w.heap.size w W → Q (.returned (.string ⟨(sumB [32, 111, 114, 32] (ts.take ks.length)).toArray⟩)) W) := fun W hW => by
    rw [hQ, HEND.out, List.take_length]
    exact ⟨rfl, hW⟩
  rw [← hQ]
  clear hQ
  unfold strV at *
  generalize (⟨l.toArray⟩ : ByteArray) = s at *
  go_enter Tryz.func17, Tryz.ntmps17
  go_wp2_with fail
  go_loopw [3, 4] (fun sv iv wr => ∃ j : Nat, j ≤ ks.length ∧ iv = .int .i64 j ∧ sv = .string ⟨(sumB [32, 111, 114, 32] (ts.take j)).toArray⟩ ∧ KB wr w.heap.size 24 #[.int .i64 7, .string s, .int .i64 fr, .int .i64 to_, .slice A3 ks.length cap3] ∧ Below w.heap.size w wr) (fun _ iv _ => ks.length - (intOf iv).toNat)
  case atStart => exact ⟨0, by omega, rfl, rfl, kb, B0⟩
  case round =>
    clear kb B0
    obtain ⟨j, hj, rfl, rfl, K, B⟩ := hrel
    have q4 : wr.cell? ⟨w.heap.size, 4, none⟩ = some (.slice A3 ks.length cap3) := K.cell 4
    have q0 : wr.cell? ⟨w.heap.size, 0, none⟩ = some (.int .i64 7) := K.cell 0
    by_cases hlt : j < ks.length
    · have hltI : (j : Int) < (ks.length : Int) := by omega
      obtain ⟨b, o, e0, e1, e2, e3, e4, rfl, hb, k0, k1, k2, k3, k4, hz⟩ := kid_zb hks rfl B j hlt
      have hk1 := hkd ks[j] (List.getElem_mem hlt)
      have hk2 := hkn ks[j] (List.getElem_mem hlt)
      obtain ⟨ht2, hte⟩ := HTS.out j hlt
      have hst := sumB_take (s := [32, 111, 114, 32]) ht2
      have hkl := textB_len f ks[j] _ hk1
      have hbl := brB_len 7 (opS f ks[j]) (textB f ks[j])
      have hkc := wkid_any S f ih ks[j] _ _ 7 wr.drew hk1 hk2 (hz.below' (Below_drawn (Below.refl _ _) 1))
      rw [hte] at hst
      generalize brB 7 (opS f ks[j]) (textB f ks[j]) = T at *
      have hcl := HSB.out j
      have hbw := Nat.lt_of_lt_of_le hb B.size
      obtain ⟨j0, l1, j2, j3, X4, n4, z4, e⟩ := hz.form
      injection e with e
      simp only [Array.mk.injEq, List.cons.injEq, and_true] at e
      obtain ⟨rfl, rfl, rfl, rfl, rfl⟩ := e
      unfold strV at *
      generalize (⟨l1.toArray⟩ : ByteArray) = s4 at *
      obtain ⟨s1, hs1⟩ : ∃ s : ByteArray, s = ⟨T.toArray⟩ := ⟨_, rfl⟩
      rw [← hs1] at hkc
      have Bd : Below w.heap.size w wr.drew := Below_drawn B 1
      have kd : KB wr.drew w.heap.size 24 #[.int .i64 7, .string s, .int .i64 fr, .int .i64 to_, .slice (some ⟨b, o, none⟩) ks.length cap3] := K
      have htb : T.length ≤ 1500 := by omega
      clear hz hk1 hk2 hkl hte
      by_cases hj0 : j = 0
      · subst hj0
        rw [if_pos rfl, List.nil_append] at hst
        obtain ⟨u, hu⟩ : ∃ u : ByteArray, u = ⟨T.toArray⟩ := ⟨_, rfl⟩
        have hz0 : (sumB [32, 111, 114, 32] (ts.take 0)) = [] := rfl
        have f2 := wadd ⟨#[]⟩ s1 u [] T rfl hs1 (by rw [hu]; rfl) (by simp; omega)
        have HU : Hid (Value.string u = .string ⟨(sumB [32, 111, 114, 32] (ts.take (0 + 1))).toArray⟩) := by show _ = _; rw [hst, hu]
        clear hst hu hs1 hcl hbl
        rw [hz0]
        clear hz0
        go_wp2_with fail
        rename_i KK hKK
        have HKK := Lib.hid hKK
        clear hKK
        rw [Nat.zero_mul, Nat.add_zero] at k0 k1 k2 k3 k4
        have hbd : b < wr.drew.heap.size := hbw
        have m0 : wr.drew.cell? ⟨b, o, none⟩ = some (.int .i64 j0) := k0
        have m1 : wr.drew.cell? ⟨b, o + 1, none⟩ = some (.string s4) := k1
        have m2 : wr.drew.cell? ⟨b, o + 2, none⟩ = some (.int .i64 j2) := k2
        have m3 : wr.drew.cell? ⟨b, o + 3, none⟩ = some (.int .i64 j3) := k3
        have m4 : wr.drew.cell? ⟨b, o + 4, none⟩ = some (.slice X4 n4 z4) := k4
        clear k0 k1 k2 k3 k4 hbw q0 q4
        refine wp_region_held_drew (S := (fun W => W.cell? ⟨w.heap.size, 0, none⟩ = some (.int .i64 7) ∧ W.cell? ⟨w.heap.size, 4, none⟩ = some (.slice (some ⟨b, o, none⟩) ks.length cap3) ∧ W.cell? ⟨b, o, none⟩ = some (.int .i64 j0) ∧ W.cell? ⟨b, o + 1, none⟩ = some (.string s4) ∧ W.cell? ⟨b, o + 2, none⟩ = some (.int .i64 j2) ∧ W.cell? ⟨b, o + 3, none⟩ = some (.int .i64 j3) ∧ W.cell? ⟨b, o + 4, none⟩ = some (.slice X4 n4 z4))) (by kernel_rfl) ⟨kd.cell 0, kd.cell 4, m0, m1, m2, m3, m4⟩ (fun hHeld => ?_)
        generalize wr.drew = wd at *
        refine hyY (some 65) 0 rfl hHeld ?_; go_frame
        refine hyY (some 66) 1 rfl hHeld ?_; go_frame
        refine hyY (some 67) 2 rfl hHeld ?_; go_frame
        refine hyY (some 68) 3 rfl hHeld ?_; go_frame
        refine hyY (some 69) 4 rfl hHeld ?_; go_frame
        refine hyY (some 70) 5 rfl hHeld ?_; go_frame
        refine hyY (some 71) 6 rfl hHeld ?_; go_frame
        refine hyY (some 72) 7 rfl hHeld ?_; go_frame
        refine hyO (some 73) 8 rfl (fun K hK => ?_)
        go_simp
        go_at_call 28
        refine hkc.mono ?_
        rintro e w5 ⟨rfl, b5⟩
        replace kd := kd.below b5 kd.lt
        replace Bd := Bd.trans (b5.mono Bd.size)
        replace m0 := (World.cell?_of_block (b5.block b hbd)).trans m0
        replace m1 := (World.cell?_of_block (b5.block b hbd)).trans m1
        replace m2 := (World.cell?_of_block (b5.block b hbd)).trans m2
        replace m3 := (World.cell?_of_block (b5.block b hbd)).trans m3
        replace m4 := (World.cell?_of_block (b5.block b hbd)).trans m4
        clear b5
        go_wp2_with fail
        refine hK.out _ _ ?_ (fun hH2 => ?_)
        · exact ⟨kd.cell 0, kd.cell 4, m0, m1, m2, m3, m4⟩
        clear hHeld hK K; have hHeld := hH2; clear hH2; try go_frame
        refine hyY (some 74) 9 rfl hHeld ?_; go_frame
        refine hyY (some 3) 10 rfl hHeld ?_; go_frame
        refine wpAnyH_done (by kernel_rfl) ?_ _
        have hKK := HKK.out
        go_wp2_with fail
        go_roundw
        case rel => exact ⟨0 + 1, by omega, by go_num, HU.out, kd, Bd⟩
        case measure => simp [intOf]; omega
      · rw [if_neg hj0] at hst
        have gj : (0 : Int) < (j : Int) := by omega
        obtain ⟨s0, hs0⟩ : ∃ u : ByteArray, u = ⟨(sumB [32, 111, 114, 32] (ts.take j)).toArray⟩ := ⟨_, rfl⟩
        obtain ⟨sC, hsC⟩ : ∃ u : ByteArray, u = ⟨(sumB [32, 111, 114, 32] (ts.take j) ++ [32, 111, 114, 32]).toArray⟩ := ⟨_, rfl⟩
        obtain ⟨u, hu⟩ : ∃ u : ByteArray, u = ⟨(sumB [32, 111, 114, 32] (ts.take j) ++ [32, 111, 114, 32] ++ T).toArray⟩ := ⟨_, rfl⟩
        have f1 := wadd s0 ⟨#[32, 111, 114, 32]⟩ sC (sumB [32, 111, 114, 32] (ts.take j)) [32, 111, 114, 32] hs0 rfl hsC (by simp; omega)
        have f2 := wadd sC s1 u (sumB [32, 111, 114, 32] (ts.take j) ++ [32, 111, 114, 32]) T hsC hs1 hu (by simp; omega)
        have HU : Hid (Value.string u = .string ⟨(sumB [32, 111, 114, 32] (ts.take (j + 1))).toArray⟩) := by show _ = _; rw [hst, hu]
        rw [← hs0]
        clear hs0 hsC
        clear hst hu hs1 hcl hbl
        go_wp2_with fail
        rename_i KK hKK
        have HKK := Lib.hid hKK
        clear hKK
        have hbd : b < wr.drew.heap.size := hbw
        have m0 : wr.drew.cell? ⟨b, o + j * 5, none⟩ = some (.int .i64 j0) := k0
        have m1 : wr.drew.cell? ⟨b, o + j * 5 + 1, none⟩ = some (.string s4) := k1
        have m2 : wr.drew.cell? ⟨b, o + j * 5 + 2, none⟩ = some (.int .i64 j2) := k2
        have m3 : wr.drew.cell? ⟨b, o + j * 5 + 3, none⟩ = some (.int .i64 j3) := k3
        have m4 : wr.drew.cell? ⟨b, o + j * 5 + 4, none⟩ = some (.slice X4 n4 z4) := k4
        clear k0 k1 k2 k3 k4 hbw q0 q4
        refine wp_region_held_drew (S := (fun W => W.cell? ⟨w.heap.size, 0, none⟩ = some (.int .i64 7) ∧ W.cell? ⟨w.heap.size, 4, none⟩ = some (.slice (some ⟨b, o, none⟩) ks.length cap3) ∧ W.cell? ⟨b, o + j * 5, none⟩ = some (.int .i64 j0) ∧ W.cell? ⟨b, o + j * 5 + 1, none⟩ = some (.string s4) ∧ W.cell? ⟨b, o + j * 5 + 2, none⟩ = some (.int .i64 j2) ∧ W.cell? ⟨b, o + j * 5 + 3, none⟩ = some (.int .i64 j3) ∧ W.cell? ⟨b, o + j * 5 + 4, none⟩ = some (.slice X4 n4 z4))) (by kernel_rfl) ⟨kd.cell 0, kd.cell 4, m0, m1, m2, m3, m4⟩ (fun hHeld => ?_)
        generalize wr.drew = wd at *
        refine hyY (some 65) 0 rfl hHeld ?_; go_frame
        refine hyY (some 66) 1 rfl hHeld ?_; go_frame
        refine hyY (some 67) 2 rfl hHeld ?_; go_frame
        refine hyY (some 68) 3 rfl hHeld ?_; go_frame
        refine hyY (some 69) 4 rfl hHeld ?_; go_frame
        refine hyY (some 70) 5 rfl hHeld ?_; go_frame
        refine hyY (some 71) 6 rfl hHeld ?_; go_frame
        refine hyY (some 72) 7 rfl hHeld ?_; go_frame
        refine hyO (some 73) 8 rfl (fun K hK => ?_)
        go_simp
        go_at_call 28
        refine hkc.mono ?_
        rintro e w5 ⟨rfl, b5⟩
        replace kd := kd.below b5 kd.lt
        replace Bd := Bd.trans (b5.mono Bd.size)
        replace m0 := (World.cell?_of_block (b5.block b hbd)).trans m0
        replace m1 := (World.cell?_of_block (b5.block b hbd)).trans m1
        replace m2 := (World.cell?_of_block (b5.block b hbd)).trans m2
        replace m3 := (World.cell?_of_block (b5.block b hbd)).trans m3
        replace m4 := (World.cell?_of_block (b5.block b hbd)).trans m4
        clear b5
        go_wp2_with fail
        refine hK.out _ _ ?_ (fun hH2 => ?_)
        · exact ⟨kd.cell 0, kd.cell 4, m0, m1, m2, m3, m4⟩
        clear hHeld hK K; have hHeld := hH2; clear hH2; try go_frame
        refine hyY (some 74) 9 rfl hHeld ?_; go_frame
        refine hyY (some 3) 10 rfl hHeld ?_; go_frame
        refine wpAnyH_done (by kernel_rfl) ?_ _
        have hKK := HKK.out
        go_wp2_with fail
        go_roundw
        case rel => exact ⟨j + 1, by omega, by go_num, HU.out, kd, Bd⟩
        case measure => simp [intOf]; omega
    · obtain rfl : j = ks.length := by omega
      have hf := HQ.out wr B
      go_wp2_with fail
      first | exact hf | (go_ret; exact hf)
theorem wtext_any (S : Nat → Prop) : ∀ f : Nat, TextIh S f
  | 0 => fun t => nomatch t
  | f + 1 => fun (t : Ns (Sc f)) v d w hok hn hv => by
    have ih := wtext_any S f
    have hr : 1 ≤ t.op ∧ t.op ≤ 8 := ((fits_iff t).1 (wok_fits hok).2.1).1
    by_cases h1 : t.op = 1
    · exact wtext_1 S f ih t v d w hok hn h1 hv
    by_cases h2 : t.op = 2
    · exact wtext_2 S f ih t v d w hok hn h2 hv
    by_cases h3 : t.op = 3
    · exact wtext_3 S f ih t v d w hok hn h3 hv
    by_cases h4 : t.op = 4
    · exact wtext_4 S f ih t v d w hok hn h4 hv
    by_cases h5 : t.op = 5
    · exact wtext_5 S f ih t v d w hok hn h5 hv
    by_cases h6 : t.op = 6
    · exact wtext_6 S f ih t v d w hok hn h6 hv
    by_cases h7 : t.op = 7
    · exact wtext_7 S f ih t v d w hok hn h7 hv
    · exact wtext_8 S f ih t v d w hok hn (by omega) hv
end
end Go.Proofs.YtjecjlhofnnnpaaGreatDoor
