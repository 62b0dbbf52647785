/-
  The program's written, Expr, actWord and line (layer 17), over the loaded program: each one's contract. No condition but sizes, and that the library's table of powers of ten is as laid.
-/
import Derived.Test.YtbhebjkicooidaaDoorRuK
import Derived.Test.YtbhebjkicooidaaDoorRuF
namespace Go.Proofs.YtbhebjkicooidaaDoor
open Go.RowKit
set_option maxRecDepth 100000
set_option linter.unusedVariables false

set_option maxHeartbeats 1000000 in
/-- written. -/
theorem written_any (S : Nat → Prop) (f : Nat) (x : Ex f) (d : Int) (v : Value) (w : World) (hok : okX f x d = true) (hn : nodesX f x ≤ 24) (hp : Pow w) (hv : EV w S f v x) :
    Calls Tryd.prog 32 #[v] w fun e w' => e = .returned (strV (exprX f x)) ∧ Below w.heap.size w w' := by
  obtain ⟨e0, e1, e2, e3, rfl, ht⟩ := hv
  have hf4 := ht.form
  obtain ⟨w1, hw1⟩ : ∃ w1, w1 = w.alloc (.cells #[e0, e1, e2, e3] 35) := ⟨_, rfl⟩
  obtain ⟨w3, hw3⟩ : ∃ w3, w3 = w1.alloc (.cells #[.func (.func 51) #[] #[.pointer (some ⟨w.heap.size + 1, 0, none⟩)]] 40) := ⟨_, rfl⟩
  have s1 : w1.heap.size = w.heap.size + 1 := by rw [hw1]; simp
  have kw : WrAt w3 (w.heap.size + 1) := by
    have := KB.new w1 40 #[.func (.func 51) #[] #[.pointer (some ⟨w.heap.size + 1, 0, none⟩)]]
    rw [← hw3, s1] at this
    exact this
  have B3 : Below w.heap.size w w3 := by
    rw [hw3, hw1]
    exact ((Below.refl _ _).alloc (Nat.le_refl _) _).alloc (by simp) _
  have hh := wr1_any S (w.heap.size + 1) f x d (.agg #[e0, e1, e2, e3]) w3 hok hn kw (hp.below B3) ⟨e0, e1, e2, e3, rfl, ht.below' B3⟩
  have HW : Hid (w3 = (w.alloc (.cells #[e0, e1, e2, e3] 35)).alloc (.cells #[.func (.func 51) #[] #[.pointer (some ⟨w.heap.size + 1, 0, none⟩)]] 40)) := by show _ = _; rw [hw3, hw1]
  clear ht kw hw1 hw3 s1 hok hn hp
  obtain ⟨i0, i1, l2, X3, n3, z3, rfl, rfl, rfl, rfl⟩ := hf4
  unfold strV at *
  generalize (⟨l2.toArray⟩ : ByteArray) = s at *
  generalize (⟨(exprX f x).toArray⟩ : ByteArray) = sr at *
  go_enter Tryd.func32, Tryd.ntmps32
  go_wp2_with fail
  rw [← HW.out]
  refine hh.mono ?_
  rintro e w5 ⟨rfl, b5⟩
  have B5 := B3.trans (b5.mono B3.size)
  clear hh HW
  go_wp2_with fail
  go_ret
  exact ⟨rfl, B5⟩

/-- What Expr answers. -/
def exprA (f : Nat) (x : Ex f) : List UInt8 × Int := if mayX f x = true then (exprX f x, 0) else ([], 1)

set_option maxHeartbeats 1000000 in
/-- Expr. -/
theorem pexpr_any (S : Nat → Prop) (f : Nat) (x : Ex f) (v : Value) (w : World) (hS : ∀ b, S b → b < w.heap.size) (hp : Pow w) (hv : EV w S f v x) :
    Calls Tryd.prog 13 #[v] w fun e w' => e = .returned (.tuple #[strV (exprA f x).1, .int .i64 (exprA f x).2]) ∧ Below w.heap.size w w' := by
  obtain ⟨e0, e1, e2, e3, rfl, ht⟩ := hv
  have hf4 := ht.form
  have B0 := (Below.refl w.heap.size w).alloc (Nat.le_refl _) (.cells #[e0, e1, e2, e3] 35)
  have K0 := KB.new w 35 #[e0, e1, e2, e3]
  have hm := may_any S f x _ (w.alloc (.cells #[e0, e1, e2, e3] 35)) (fun b hb => by have := hS b hb; simp; omega) ⟨e0, e1, e2, e3, rfl, ht.alloc _⟩
  have HWR : Hid (mayX f x = true → ∀ W, Below w.heap.size w W → Calls Tryd.prog 32 #[.agg #[e0, e1, e2, e3]] W fun e w' => e = .returned (strV (exprX f x)) ∧ Below W.heap.size W w') := fun h W hb => by
    unfold mayX at h
    simp only [Bool.and_eq_true, decide_eq_true_eq] at h
    exact written_any S f x 8 _ W h.1 h.2 (hp.below hb) ⟨e0, e1, e2, e3, rfl, ht.below' hb⟩
  unfold exprA
  clear ht hp hS
  generalize mayX f x = m at *
  obtain ⟨i0, i1, l2, X3, n3, z3, rfl, rfl, rfl, rfl⟩ := hf4
  unfold strV at *
  generalize (⟨l2.toArray⟩ : ByteArray) = s at *
  cases m with
  | false =>
    rw [if_neg (by decide)]
    go_enter Tryd.func13, Tryd.ntmps13
    go_wp2_with fail
    refine hm.mono ?_
    rintro e w5 ⟨rfl, b5⟩
    have B5 := B0.trans (b5.mono B0.size)
    clear hm
    go_wp2_with fail
    go_ret2
    exact ⟨rfl, B5⟩
  | true =>
    rw [if_pos rfl]
    dsimp only
    have HWR2 := Lib.hid (HWR.out rfl)
    clear HWR
    generalize (⟨(exprX f x).toArray⟩ : ByteArray) = sr at *
    go_enter Tryd.func13, Tryd.ntmps13
    go_wp2_with fail
    refine hm.mono ?_
    rintro e w5 ⟨rfl, b5⟩
    have B5 := B0.trans (b5.mono B0.size)
    have K5 := K0.below b5 K0.lt
    have q0 := K5.cell 0
    have q1 := K5.cell 1
    have q2 := K5.cell 2
    have q3 := K5.cell 3
    have hw := HWR2.out w5 B5
    clear hm K0 K5 b5 HWR2
    go_wp2_with fail
    refine hw.mono ?_
    rintro e w6 ⟨rfl, b6⟩
    have B6 := B5.trans (b6.mono B5.size)
    clear hw q0 q1 q2 q3
    go_wp2_with fail
    go_ret2
    exact ⟨rfl, B6⟩

/-- An act's word; none of what is no act. -/
def actP (n : Int) : List UInt8 := if n = 1 then [100, 101, 115, 116, 114, 111, 121] else if n = 2 then [114, 101, 118, 105, 101, 119] else if n = 3 then [107, 101, 101, 112] else []
theorem actP_in {n : Int} (h : 1 ≤ n ∧ n ≤ 3) : actP n = actS n ∧ actP n ≠ [] := by
  unfold actP actS
  rcases (show n = 1 ∨ n = 2 ∨ n = 3 by omega) with rfl | rfl | rfl <;> exact ⟨by decide, by decide⟩
theorem actP_out {n : Int} (h : ¬ (1 ≤ n ∧ n ≤ 3)) : actP n = [] := by
  unfold actP
  rw [if_neg (by omega), if_neg (by omega), if_neg (by omega)]
/-- actWord. -/
theorem actword_any (n : Int) (w : World) : Calls Tryd.prog 27 #[.int .i64 n] w fun e w' => e = .returned (strV (actP n)) ∧ w = w' := by
  by_cases h1 : n = 1
  · subst h1
    go_enter Tryd.func27, Tryd.ntmps27
    go_wp2
    go_ret
    exact ⟨rfl, rfl⟩
  by_cases h2 : n = 2
  · subst h2
    go_enter Tryd.func27, Tryd.ntmps27
    go_wp2
    go_ret
    exact ⟨rfl, rfl⟩
  by_cases h3 : n = 3
  · subst h3
    go_enter Tryd.func27, Tryd.ntmps27
    go_wp2
    go_ret
    exact ⟨rfl, rfl⟩
  rw [actP_out (by omega)]
  have E1 : (n == 1) = false := beq_eq_false_iff_ne.2 h1
  have E2 : (n == 2) = false := beq_eq_false_iff_ne.2 h2
  have E3 : (n == 3) = false := beq_eq_false_iff_ne.2 h3
  go_enter Tryd.func27, Tryd.ntmps27
  go_wp2
  go_ret
  exact ⟨rfl, rfl⟩

theorem phrase_new (W : World) (xs : List (List UInt8)) (r : List UInt8) (hn : xs.length ≤ 1000) (hr : Lib.join xs [32] = r) (hl : r.length ≤ 1000000) :
    Calls Tryd.prog 43 #[.slice (some ⟨W.heap.size, 0, none⟩) xs.length xs.length] (W.alloc (.cells (xs.map strV).toArray 9)) fun e w' => e = .returned (strV r) ∧ Below (W.alloc (.cells (xs.map strV).toArray 9)).heap.size (W.alloc (.cells (xs.map strV).toArray 9)) w' := by
  have kb := KB.new W 9 (xs.map strV).toArray
  have := phrase_any W.heap.size 0 xs.length xs _ (fun j x hx => by rw [Nat.zero_add, kb.cell]; simp [hx]) kb.lt (by omega) (Nat.le_refl _) (by rw [hr]; omega)
  rw [hr] at this
  exact this

set_option maxHeartbeats 8000000 in
/-- line. -/
theorem line_any (S : Nat → Prop) (f : Nat) (r : Rl f) (a1 a2 a3 a4 : Value) (w : World) (hg : goodR f r = true) (hp : Pow w) (hv : EV w S f (.agg #[a1, a2, a3, a4]) r.when_) :
    Calls Tryd.prog 23 #[.agg #[strV r.cls, a1, a2, a3, a4, .int .i64 r.act]] w fun e w' => e = .returned (strV (lineR f r)) ∧ Below w.heap.size w w' := by
  unfold goodR at hg
  simp only [Bool.and_eq_true, Bool.or_eq_true, decide_eq_true_eq] at hg
  obtain ⟨⟨hact, hcls⟩, hmay⟩ := hg
  have hcl : r.cls.length ≤ 16 := by
    rcases hcls with h | h
    · rw [h]; simp
    · exact ((name_iff _).1 h).2.1
  unfold mayX at hmay
  simp only [Bool.and_eq_true, decide_eq_true_eq] at hmay
  have hel := expr_len f r.when_ 8 hmay.1
  have hB0 := (Below.refl w.heap.size w).alloc (Nat.le_refl _) (.cells #[strV r.cls, a1, a2, a3, a4, .int .i64 r.act] 37)
  have K0 := KB.new w 37 #[strV r.cls, a1, a2, a3, a4, .int .i64 r.act]
  have HWR : Hid (∀ W, Below w.heap.size w W → Calls Tryd.prog 32 #[.agg #[a1, a2, a3, a4]] W fun e w' => e = .returned (strV (exprX f r.when_)) ∧ Below W.heap.size W w') := fun W hb =>
    written_any S f r.when_ 8 _ W hmay.1 hmay.2 (hp.below hb) (hv.below' hb)
  obtain ⟨_, _, _, _, e, hx4⟩ := hv
  injection e with e
  simp only [Array.mk.injEq, List.cons.injEq, and_true] at e
  obtain ⟨rfl, rfl, rfl, rfl⟩ := e
  obtain ⟨i0, i1, l2, X3, n3, z3, rfl, rfl, rfl, rfl⟩ := hx4.form
  clear hx4 hp
  have haw := actword_any r.act
  obtain ⟨eact, _⟩ := actP_in hact
  have hal : (actS r.act).length ≤ 7 := by unfold actS; split <;> (try split) <;> simp
  rw [eact] at haw
  have hol : (ofS r.cls).length ≤ 24 := by unfold ofS; split <;> simp; omega
  have hpre : Lib.join [ofS r.cls, [107, 101, 101, 112], exprX f r.when_, [116, 104, 101, 110], actS r.act] [32] = ofS r.cls ++ keepW ++ exprX f r.when_ ++ thenW ++ actS r.act := by
    unfold keepW thenW
    simp [Lib.join, List.intercalate]
  have hpl : (ofS r.cls ++ keepW ++ exprX f r.when_ ++ thenW ++ actS r.act).length ≤ 1100 := by
    unfold keepW thenW
    simp only [List.length_append, List.length_cons, List.length_nil]
    omega
  have HPH : Hid (∀ W : World, Calls Tryd.prog 43 #[.slice (some ⟨W.heap.size, 0, none⟩) 5 5] (W.alloc (.cells #[strV (ofS r.cls), strV [107, 101, 101, 112], strV (exprX f r.when_), strV [116, 104, 101, 110], strV (actS r.act)] 9)) fun e w' => e = .returned (strV (ofS r.cls ++ keepW ++ exprX f r.when_ ++ thenW ++ actS r.act)) ∧ Below (W.alloc (.cells #[strV (ofS r.cls), strV [107, 101, 101, 112], strV (exprX f r.when_), strV [116, 104, 101, 110], strV (actS r.act)] 9)).heap.size (W.alloc (.cells #[strV (ofS r.cls), strV [107, 101, 101, 112], strV (exprX f r.when_), strV [116, 104, 101, 110], strV (actS r.act)] 9)) w') := fun W =>
    phrase_new W [ofS r.cls, [107, 101, 101, 112], exprX f r.when_, [116, 104, 101, 110], actS r.act] _ (by simp) hpre (by omega)
  have hend := txt_add (ofS r.cls ++ keepW ++ exprX f r.when_ ++ thenW ++ actS r.act) [59, 10] (by have : ([59, 10] : List UInt8).length = 2 := rfl; omega)
  have HC1 : Hid (∀ W : World, r.cls ≠ [] → Calls Tryd.prog 43 #[.slice (some ⟨W.heap.size, 0, none⟩) 2 2] (W.alloc (.cells #[strV [99, 108, 97, 115, 115], strV (34 :: (r.cls ++ [34]))] 9)) fun e w' => e = .returned (strV (ofS r.cls)) ∧ Below (W.alloc (.cells #[strV [99, 108, 97, 115, 115], strV (34 :: (r.cls ++ [34]))] 9)).heap.size (W.alloc (.cells #[strV [99, 108, 97, 115, 115], strV (34 :: (r.cls ++ [34]))] 9)) w') := fun W hc =>
    phrase_new W [[99, 108, 97, 115, 115], 34 :: (r.cls ++ [34])] (ofS r.cls) (by simp) (by unfold ofS; rw [if_neg hc]; simp [Lib.join, List.intercalate]) (by omega)
  have ha1 := txt_add [34] r.cls (by simp; omega)
  have ha2 := txt_add (34 :: r.cls) [34] (by simp; omega)
  rw [show ([34] : List UInt8) ++ r.cls = 34 :: r.cls from rfl] at ha1
  rw [show (34 :: r.cls) ++ [34] = 34 :: (r.cls ++ [34]) from rfl] at ha2
  have HNN := Lib.hid (ne_not ⟨r.cls.toArray⟩ r.cls [] rfl)
  have HNI := Lib.hid (ne_if ⟨r.cls.toArray⟩ r.cls [] rfl)
  have hlr : lineR f r = ofS r.cls ++ keepW ++ exprX f r.when_ ++ thenW ++ actS r.act ++ [59, 10] := rfl
  have hd0 : r.cls = [] → ofS r.cls = [100, 101, 102, 97, 117, 108, 116] := fun h => by unfold ofS; rw [if_pos h]
  have HD0 := Lib.hid hd0
  rw [hlr]
  clear hlr hd0 hact hcls hmay hcl hel hal hol hpre hpl eact
  generalize r.act = ac at *
  generalize exprX f r.when_ = ex at *
  generalize (ofS r.cls ++ keepW ++ ex ++ thenW ++ actS ac) = big at *
  generalize (big ++ [59, 10]) = res at *
  generalize actS ac = aw at *
  unfold strV at *
  generalize (⟨l2.toArray⟩ : ByteArray) = s2 at *
  obtain ⟨sc, hsc⟩ : ∃ s : ByteArray, s = ⟨r.cls.toArray⟩ := ⟨_, rfl⟩
  obtain ⟨sq, hsq⟩ : ∃ s : ByteArray, s = ⟨(34 :: (r.cls ++ [34])).toArray⟩ := ⟨_, rfl⟩
  obtain ⟨sq1, hsq1⟩ : ∃ s : ByteArray, s = ⟨(34 :: r.cls).toArray⟩ := ⟨_, rfl⟩
  obtain ⟨so, hso⟩ : ∃ s : ByteArray, s = ⟨(ofS r.cls).toArray⟩ := ⟨_, rfl⟩
  have HSO := Lib.hid hso
  rw [← hsc, ← hsq1] at ha1
  rw [← hsq1, ← hsq] at ha2
  rw [← hsq, ← hso] at HC1
  rw [← hso] at HPH
  rw [← hsc] at HNN HNI K0 hB0 ⊢
  clear hsc hsq hsq1 hso
  generalize (⟨ex.toArray⟩ : ByteArray) = se at *
  generalize (⟨aw.toArray⟩ : ByteArray) = sw at *
  generalize (⟨big.toArray⟩ : ByteArray) = sb at *
  generalize (⟨res.toArray⟩ : ByteArray) = sr at *
  have tail : ∀ (W : World) (so' : ByteArray), so' = so → Below w.heap.size w W → True := fun _ _ _ _ => trivial
  by_cases hc : r.cls = []
  · have E1 := (HNN.out hc).2.2
    have E1b : sc.toList.isEmpty = true := List.isEmpty_iff.2 E1
    have eo : so = ⟨#[100, 101, 102, 97, 117, 108, 116]⟩ := by rw [HSO.out, HD0.out hc]
    have HEO := Lib.hid eo
    clear HNN HNI HC1 HD0 HSO ha1 ha2 hc eo tail
    go_enter Tryd.func23, Tryd.ntmps23
    go_wp2_with fail
    rw [← HEO.out]
    clear E1 E1b HEO
    generalize w.alloc (.cells #[.string sc, .int .i64 i0, .int .i64 i1, .string s2, .slice X3 n3 z3, .int .i64 ac] 37) = w0 at *
    have HC : Hid (∀ W, Below w0.heap.size w0 W → W.cell? ⟨w.heap.size, 1, none⟩ = some (.int .i64 i0) ∧ W.cell? ⟨w.heap.size, 2, none⟩ = some (.int .i64 i1) ∧ W.cell? ⟨w.heap.size, 3, none⟩ = some (.string s2) ∧ W.cell? ⟨w.heap.size, 4, none⟩ = some (.slice X3 n3 z3) ∧ W.cell? ⟨w.heap.size, 5, none⟩ = some (.int .i64 ac)) :=
      fun W h => ⟨(K0.below h K0.lt).cell 1, (K0.below h K0.lt).cell 2, (K0.below h K0.lt).cell 3, (K0.below h K0.lt).cell 4, (K0.below h K0.lt).cell 5⟩
    have Bd : Below w.heap.size w w0.drew := Below_drawn hB0 1
    have Bdd : Below w0.heap.size w0 w0.drew := Below_drawn (Below.refl _ _) 1
    have hwr := HWR.out _ Bd
    clear K0 hB0 HWR
    rename_i KK hKK
    have HKK := Lib.hid hKK
    clear hKK
    refine wp_region_held_drew (S := (fun W => W.cell? ⟨w.heap.size, 1, none⟩ = some (.int .i64 i0) ∧ W.cell? ⟨w.heap.size, 2, none⟩ = some (.int .i64 i1) ∧ W.cell? ⟨w.heap.size, 3, none⟩ = some (.string s2) ∧ W.cell? ⟨w.heap.size, 4, none⟩ = some (.slice X3 n3 z3) ∧ W.cell? ⟨w.heap.size, 5, none⟩ = some (.int .i64 ac))) (by kernel_rfl) (HC.out _ Bdd) (fun hHeld => ?_)
    refine hyY (some 13) 0 rfl hHeld ?_; go_frame
    refine hyY (some 14) 1 rfl hHeld ?_; go_frame
    refine hyY (some 15) 2 rfl hHeld ?_; go_frame
    refine hyY (some 17) 4 rfl hHeld ?_; go_frame
    refine hyY (some 18) 5 rfl hHeld ?_; go_frame
    refine hyO (some 16) 3 rfl (fun K hK => ?_)
    go_simp
    go_at_call 32
    refine hwr.mono ?_
    rintro e w2 ⟨rfl, b2⟩
    go_wp2_with fail
    refine hK.out _ _ ?_ (fun hH2 => ?_)
    · first | exact HC.out _ (Bdd.trans b2) | exact HC.out _ (Bdd.trans B3) | exact HC.out _ (Bdd.trans (B3.trans (b4.mono B3.size)))
    clear hHeld hK K; have hHeld := hH2; clear hH2; try go_frame
    refine hyO (some 19) 6 rfl (fun K hK => ?_)
    go_simp
    go_at_call 27
    refine (haw _).mono ?_
    rintro e w' ⟨rfl, rfl⟩
    go_wp2_with fail
    refine hK.out _ _ ?_ (fun hH2 => ?_)
    · first | exact HC.out _ (Bdd.trans b2) | exact HC.out _ (Bdd.trans B3) | exact HC.out _ (Bdd.trans (B3.trans (b4.mono B3.size)))
    clear hHeld hK K; have hHeld := hH2; clear hH2; try go_frame
    refine hyO (some 20) 7 rfl (fun K hK => ?_)
    go_simp
    have B3 := b2.alloc b2.size (.cells #[.string so, .string { data := #[107, 101, 101, 112] }, .string se, .string { data := #[116, 104, 101, 110] }, .string sw] 9)
    refine hK.out _ _ ?_ (fun hH2 => ?_)
    · first | exact HC.out _ (Bdd.trans b2) | exact HC.out _ (Bdd.trans B3) | exact HC.out _ (Bdd.trans (B3.trans (b4.mono B3.size)))
    clear hHeld hK K; have hHeld := hH2; clear hH2; try go_frame
    refine hyO (some 21) 8 rfl (fun K hK => ?_)
    go_simp
    go_at_call 43
    refine (HPH.out w2).mono ?_
    rintro e w4 ⟨rfl, b4⟩
    go_wp2_with fail
    refine hK.out _ _ ?_ (fun hH2 => ?_)
    · first | exact HC.out _ (Bdd.trans b2) | exact HC.out _ (Bdd.trans B3) | exact HC.out _ (Bdd.trans (B3.trans (b4.mono B3.size)))
    clear hHeld hK K; have hHeld := hH2; clear hH2; try go_frame
    refine hyY (some 22) 9 rfl hHeld ?_; go_frame
    refine hyY (some 2) 10 rfl hHeld ?_; go_frame
    refine wpAnyH_done (by kernel_rfl) ?_ _
    have hKK := HKK.out
    go_wp2_with fail
    go_ret
    exact ⟨rfl, Bd.trans ((B3.trans (b4.mono B3.size)).mono Bd.size)⟩
  · have E1 := (HNI.out hc).2.2
    have E1b : sc.toList.isEmpty = false := by cases hq : sc.toList.isEmpty with
      | false => rfl
      | true => exact absurd (List.isEmpty_iff.1 hq) E1
    have hc2 := HC1.out (w.alloc (.cells #[.string sc, .int .i64 i0, .int .i64 i1, .string s2, .slice X3 n3 z3, .int .i64 ac] 37)) hc
    rw [World.size_alloc] at hc2
    clear HNN HNI HC1 HD0 HSO hc tail
    go_enter Tryd.func23, Tryd.ntmps23
    go_wp2_with fail
    refine hc2.mono ?_
    rintro e w1 ⟨rfl, b1⟩
    have K1 := (K0.alloc (.cells #[.string { data := #[99, 108, 97, 115, 115] }, .string sq] 9)).below b1 (by simp; omega)
    have B1 := (hB0.alloc hB0.size (.cells #[.string { data := #[99, 108, 97, 115, 115] }, .string sq] 9)).trans (b1.mono (by simp; omega))
    clear E1 E1b hc2 ha1 ha2 K0 hB0 b1
    go_wp2_with fail
    have HC : Hid (∀ W, Below w1.heap.size w1 W → W.cell? ⟨w.heap.size, 1, none⟩ = some (.int .i64 i0) ∧ W.cell? ⟨w.heap.size, 2, none⟩ = some (.int .i64 i1) ∧ W.cell? ⟨w.heap.size, 3, none⟩ = some (.string s2) ∧ W.cell? ⟨w.heap.size, 4, none⟩ = some (.slice X3 n3 z3) ∧ W.cell? ⟨w.heap.size, 5, none⟩ = some (.int .i64 ac)) :=
      fun W h => ⟨(K1.below h K1.lt).cell 1, (K1.below h K1.lt).cell 2, (K1.below h K1.lt).cell 3, (K1.below h K1.lt).cell 4, (K1.below h K1.lt).cell 5⟩
    have Bd : Below w.heap.size w w1.drew := Below_drawn B1 1
    have Bdd : Below w1.heap.size w1 w1.drew := Below_drawn (Below.refl _ _) 1
    have hwr := HWR.out _ Bd
    clear K1 B1 HWR
    rename_i KK hKK
    have HKK := Lib.hid hKK
    clear hKK
    refine wp_region_held_drew (S := (fun W => W.cell? ⟨w.heap.size, 1, none⟩ = some (.int .i64 i0) ∧ W.cell? ⟨w.heap.size, 2, none⟩ = some (.int .i64 i1) ∧ W.cell? ⟨w.heap.size, 3, none⟩ = some (.string s2) ∧ W.cell? ⟨w.heap.size, 4, none⟩ = some (.slice X3 n3 z3) ∧ W.cell? ⟨w.heap.size, 5, none⟩ = some (.int .i64 ac))) (by kernel_rfl) (HC.out _ Bdd) (fun hHeld => ?_)
    refine hyY (some 13) 0 rfl hHeld ?_; go_frame
    refine hyY (some 14) 1 rfl hHeld ?_; go_frame
    refine hyY (some 15) 2 rfl hHeld ?_; go_frame
    refine hyY (some 17) 4 rfl hHeld ?_; go_frame
    refine hyY (some 18) 5 rfl hHeld ?_; go_frame
    refine hyO (some 16) 3 rfl (fun K hK => ?_)
    go_simp
    go_at_call 32
    refine hwr.mono ?_
    rintro e w2 ⟨rfl, b2⟩
    go_wp2_with fail
    refine hK.out _ _ ?_ (fun hH2 => ?_)
    · first | exact HC.out _ (Bdd.trans b2) | exact HC.out _ (Bdd.trans B3) | exact HC.out _ (Bdd.trans (B3.trans (b4.mono B3.size)))
    clear hHeld hK K; have hHeld := hH2; clear hH2; try go_frame
    refine hyO (some 19) 6 rfl (fun K hK => ?_)
    go_simp
    go_at_call 27
    refine (haw _).mono ?_
    rintro e w' ⟨rfl, rfl⟩
    go_wp2_with fail
    refine hK.out _ _ ?_ (fun hH2 => ?_)
    · first | exact HC.out _ (Bdd.trans b2) | exact HC.out _ (Bdd.trans B3) | exact HC.out _ (Bdd.trans (B3.trans (b4.mono B3.size)))
    clear hHeld hK K; have hHeld := hH2; clear hH2; try go_frame
    refine hyO (some 20) 7 rfl (fun K hK => ?_)
    go_simp
    have B3 := b2.alloc b2.size (.cells #[.string so, .string { data := #[107, 101, 101, 112] }, .string se, .string { data := #[116, 104, 101, 110] }, .string sw] 9)
    refine hK.out _ _ ?_ (fun hH2 => ?_)
    · first | exact HC.out _ (Bdd.trans b2) | exact HC.out _ (Bdd.trans B3) | exact HC.out _ (Bdd.trans (B3.trans (b4.mono B3.size)))
    clear hHeld hK K; have hHeld := hH2; clear hH2; try go_frame
    refine hyO (some 21) 8 rfl (fun K hK => ?_)
    go_simp
    go_at_call 43
    refine (HPH.out w2).mono ?_
    rintro e w4 ⟨rfl, b4⟩
    go_wp2_with fail
    refine hK.out _ _ ?_ (fun hH2 => ?_)
    · first | exact HC.out _ (Bdd.trans b2) | exact HC.out _ (Bdd.trans B3) | exact HC.out _ (Bdd.trans (B3.trans (b4.mono B3.size)))
    clear hHeld hK K; have hHeld := hH2; clear hH2; try go_frame
    refine hyY (some 22) 9 rfl hHeld ?_; go_frame
    refine hyY (some 2) 10 rfl hHeld ?_; go_frame
    refine wpAnyH_done (by kernel_rfl) ?_ _
    have hKK := HKK.out
    go_wp2_with fail
    go_ret
    exact ⟨rfl, Bd.trans ((B3.trans (b4.mono B3.size)).mono Bd.size)⟩
end Go.Proofs.YtbhebjkicooidaaDoor
