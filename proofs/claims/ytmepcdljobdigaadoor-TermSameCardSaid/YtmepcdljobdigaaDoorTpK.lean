/-
  Get, by the program: its contract over the loaded program, that of the document's. No condition but that the table lies as the row says.
-/
import Derived.Test.YtmepcdljobdigaaDoorTpM
import Derived.Test.YtmepcdljobdigaaDoorTpJ
import Derived.Test.YtmepcdljobdigaaDoorTpD
namespace Go.Proofs.YtmepcdljobdigaaDoor
open Go.RowKit
set_option linter.unusedVariables false

theorem RD.mono' {w : World} {g : Nat} {S S' : Nat → Prop} {st : Option (List UInt8)} (r : RD w g S st) (hS : ∀ b, S b → S' b) (hg : ¬ S' g) : RD w g S' st := by
  obtain ⟨v, h1, h2, h3⟩ := r
  exact ⟨v, h1, h2.mono hS, hg⟩

set_option maxHeartbeats 2000000 in
theorem get_any (S : Nat → Prop) (v : Value) (b : List UInt8) (w : World) (hsh : Shp w) (h : BS w S v b) :
    Calls Tryd.prog 15 #[v] w fun e w' => ∃ u, e = .returned (.tuple #[u, .int .i64 (getOf b).2.1, .int .i64 (getOf b).2.2]) ∧ TV w' (fun x => w.heap.size ≤ x ∧ x < w'.heap.size) 9 u (getOf b).1 ∧ Below w.heap.size w w' := by
  have hbl : b.length ≤ 9223372036854775807 := by have := h.len; unfold maxLen at this; omega
  obtain ⟨A, c, rfl, hlc, hmc, _⟩ := h.form
  have hmc' : c ≤ 9223372036854775807 := hmc
  have K := KB.new w 26 #[.int .i64 0, .int .u64 0, .slice none 0 0, .slice none 0 0]
  have B := (Below.refl w.heap.size w).alloc (Nat.le_refl _) (.cells #[.int .i64 0, .int .u64 0, .slice none 0 0, .slice none 0 0] 26)
  have S0 := hsh.alloc (.cells #[.int .i64 0, .int .u64 0, .slice none 0 0, .slice none 0 0] 26)
  have hs : BS (w.alloc (.cells #[.int .i64 0, .int .u64 0, .slice none 0 0, .slice none 0 0] 26)) S (.slice A (b.take 400).length c) (b.take 400) := by
    have hw := h.alloc (.cells #[.int .i64 0, .int .u64 0, .slice none 0 0, .slice none 0 0] 26)
    by_cases h4 : 400 ≤ b.length
    · have := hw.take 400 h4
      rwa [show (b.take 400).length = 400 by rw [List.length_take]; omega]
    · rwa [List.take_of_length_le (by omega)]
  have HM : Hid ((min (b.length : Int) 400).toNat = (b.take 400).length) := by show _ = _; rw [List.length_take]; omega
  have hll : (b.take 400).length ≤ 400 := by rw [List.length_take]; omega
  have hnw := new_any S _ _ _ hs (by omega)
  have hgs := fun l t => get_same b l t
  have hgn := fun st t => get_none b st t
  have hrl := readP_le 400 (some (b.take 400))
  simp only [Option.getD_some] at hrl
  clear hsh h hmc hs
  generalize getOf b = R at *
  generalize b.take 400 = bs at *
  obtain ⟨st, t, hrp⟩ : ∃ st t, readP 400 (some bs) = (st, t) := ⟨_, _, rfl⟩
  have hnx := fun (w0 : World) (g gr gw : Nat) (S : Nat → Prop) (hF : Finds w0 g gr gw S (some bs)) => next_any g gr gw S 400 (some bs) w0 (by simpa using hll) (by simp; omega) hF
  unfold NextPost at hnx
  rw [hrp] at hnx hrl
  simp only at hnx hrl
  replace hgs := fun l (e : st = some l) => hgs l t (by rw [hrp, e])
  replace hgn := hgn st t hrp
  clear hrp
  cases st with
  | none =>
    have e : R = (zeroN, 0, 2) := hgn (.inl rfl)
    subst e
    clear hgs hgn
    have hs0 := S0.1
    go_enter Tryd.func15, Tryd.ntmps15
    go_wp2_with fail
    rw [HM.out]
    refine hnw.mono ?_
    rintro e w1 ⟨g, rfl, hg1, hg2, R1, b1⟩
    have K1 := K.below b1 K.lt
    have B1 := B.trans (b1.mono B.size)
    have S1 := S0.below b1
    have sz1 := b1.size
    have szw : (w.alloc (.cells #[.int .i64 0, .int .u64 0, .slice none 0 0, .slice none 0 0] 26)).heap.size = w.heap.size + 1 := by simp
    rw [szw] at hg1
    have KR := (KB.new w1 57 #[.pointer (some ⟨g, 0, none⟩)]).alloc (.cells #[.func (.func 38) #[] #[.pointer (some ⟨w1.heap.size, 0, none⟩), .pointer (some ⟨w1.heap.size + 1, 0, none⟩)]] 59)
    have KN : KB ((w1.alloc (.cells #[.pointer (some ⟨g, 0, none⟩)] 57)).alloc (.cells #[.func (.func 38) #[] #[.pointer (some ⟨w1.heap.size, 0, none⟩), .pointer (some ⟨w1.heap.size + 1, 0, none⟩)]] 59)) (w1.heap.size + 1) 59 #[.func (.func 38) #[] #[.pointer (some ⟨w1.heap.size, 0, none⟩), .pointer (some ⟨w1.heap.size + 1, 0, none⟩)]] := by
      have := KB.new (w1.alloc (.cells #[.pointer (some ⟨g, 0, none⟩)] 57)) 59 #[.func (.func 38) #[] #[.pointer (some ⟨w1.heap.size, 0, none⟩), .pointer (some ⟨w1.heap.size + 1, 0, none⟩)]]
      rw [World.size_alloc] at this; exact this
    have F1 : Finds ((w1.alloc (.cells #[.pointer (some ⟨g, 0, none⟩)] 57)).alloc (.cells #[.func (.func 38) #[] #[.pointer (some ⟨w1.heap.size, 0, none⟩), .pointer (some ⟨w1.heap.size + 1, 0, none⟩)]] 59)) g w1.heap.size (w1.heap.size + 1) (fun x => x < g) (some bs) :=
      ⟨KR, KN, (S1.alloc _).alloc _, ((R1.alloc _).alloc _).mono' (fun x hx => hx.2) (Nat.lt_irrefl _), fun x hx => by simp; omega, by omega, by omega, by have := hs0; omega⟩
    have hc := hnx _ _ _ _ _ F1
    have K2 := (K1.alloc (.cells #[.pointer (some ⟨g, 0, none⟩)] 57)).alloc (.cells #[.func (.func 38) #[] #[.pointer (some ⟨w1.heap.size, 0, none⟩), .pointer (some ⟨w1.heap.size + 1, 0, none⟩)]] 59)
    have B2 := (B1.alloc B1.size (.cells #[.pointer (some ⟨g, 0, none⟩)] 57)).alloc (by have := B1.size; simp; omega) (.cells #[.func (.func 38) #[] #[.pointer (some ⟨w1.heap.size, 0, none⟩), .pointer (some ⟨w1.heap.size + 1, 0, none⟩)]] 59)
    have hgw : w.heap.size < w1.heap.size := K1.lt
    clear hnw hnx KR KN R1 K1 B1 S1 b1
    go_wp2_with fail
    refine hc.mono ?_
    rintro e w6 ⟨tv, rfl, R6, T6, G6⟩
    obtain ⟨e0, e1, e2, e3, rfl, tm⟩ := T6
    obtain ⟨i0, i1, X2, n2, z2, X3, n3, z3, rfl, rfl, rfl, rfl⟩ := tm_form tm
    have hnk := TM.nOk _ _ _ _ _ _ tm
    have F6 := F1.grown G6 R6
    have K6 := K2.grown G6 (by simp; omega)
    have B6 := B2.grown G6 B2.size (fun k hk => by injection hk with hk; omega)
    have sz6 := G6.size
    have szf : w1.heap.size + 1 + 1 ≤ w6.heap.size := by simp at sz6; omega
    have tm7 := TM.keepS (w' := w6.alloc (.cells #[.int .i64 i0, .int .u64 i1, .slice X2 n2 z2, .slice X3 n3 z3] 26)) (S' := fun x => w.heap.size < x ∧ x < w6.heap.size) 402 t _ _ _ _ tm (by simp) (fun x (hx : _ ∧ _) _ => Below.heap_alloc w6 (.cells #[.int .i64 i0, .int .u64 i1, .slice X2 n2 z2, .slice X3 n3 z3] 26) x hx.2) (fun x hx => ⟨by have h' := hx.1; simp at h'; omega, hx.2⟩)
    have F7 := F6.alloc (.cells #[.int .i64 i0, .int .u64 i1, .slice X2 n2 z2, .slice X3 n3 z3] 26)
    have K7 := K6.alloc (.cells #[.int .i64 i0, .int .u64 i1, .slice X2 n2 z2, .slice X3 n3 z3] 26)
    have B7 := B6.alloc B6.size (.cells #[.int .i64 i0, .int .u64 i1, .slice X2 n2 z2, .slice X3 n3 z3] 26)
    have KT := KB.new w6 26 #[.int .i64 i0, .int .u64 i1, .slice X2 n2 z2, .slice X3 n3 z3]
    have qr : w6.cell? ⟨w1.heap.size, 0, none⟩ = some (.pointer (some ⟨g, 0, none⟩)) := F6.r.cell 0
    have hrw : w1.heap.size < w6.heap.size := F6.r.lt
    clear hc K2 B2 F1 G6 R6 K6 B6 tm sz6 HM
    go_wp2_with fail
    refine (ok_rd _ _ _ _ F7.d).mono ?_
    rintro e w7 ⟨rfl, rfl⟩
    generalize hw7 : w6.alloc (.cells #[.int .i64 i0, .int .u64 i1, .slice X2 n2 z2, .slice X3 n3 z3] 26) = w7 at *
    have s7 : w7.heap.size = w6.heap.size + 1 := by rw [← hw7]; simp
    clear hw7
    have c0 : w7.cell? ⟨w.heap.size, 0, none⟩ = some (.int .i64 0) := K7.cell 0
    have c1' : w7.cell? ⟨w.heap.size, 1, none⟩ = some (.int .u64 0) := K7.cell 1
    have c2 : w7.cell? ⟨w.heap.size, 2, none⟩ = some (.slice none 0 0) := K7.cell 2
    have c3 : w7.cell? ⟨w.heap.size, 3, none⟩ = some (.slice none 0 0) := K7.cell 3
    have f0 := K7.free 0
    have f1 := K7.free 1
    have f2 := K7.free 2
    have f3 := K7.free 3
    go_wp2_with fail
    refine bodyPost_ret (results_cell_tmp2 (P := Tryd.prog) rfl _ _ w.heap.size _ _ (0, 0) _ rfl (put_four K7) Tryd.underlying26 rfl (by kernel_rfl)) rfl ⟨_, rfl, zero_TV _ _ _, B7.trans (below_of_grown' (grown_four _ _ _ _ _ _) (Nat.le_refl _) B7.size)⟩
  | some l =>
    cases hmay : mayT 402 t 8 with
    | false =>
      have e : R = (zeroN, 0, 2) := hgn (.inr hmay)
      subst e
      clear hgs hgn
      have hs0 := S0.1
      go_enter Tryd.func15, Tryd.ntmps15
      go_wp2_with fail
      rw [HM.out]
      refine hnw.mono ?_
      rintro e w1 ⟨g, rfl, hg1, hg2, R1, b1⟩
      have K1 := K.below b1 K.lt
      have B1 := B.trans (b1.mono B.size)
      have S1 := S0.below b1
      have sz1 := b1.size
      have szw : (w.alloc (.cells #[.int .i64 0, .int .u64 0, .slice none 0 0, .slice none 0 0] 26)).heap.size = w.heap.size + 1 := by simp
      rw [szw] at hg1
      have KR := (KB.new w1 57 #[.pointer (some ⟨g, 0, none⟩)]).alloc (.cells #[.func (.func 38) #[] #[.pointer (some ⟨w1.heap.size, 0, none⟩), .pointer (some ⟨w1.heap.size + 1, 0, none⟩)]] 59)
      have KN : KB ((w1.alloc (.cells #[.pointer (some ⟨g, 0, none⟩)] 57)).alloc (.cells #[.func (.func 38) #[] #[.pointer (some ⟨w1.heap.size, 0, none⟩), .pointer (some ⟨w1.heap.size + 1, 0, none⟩)]] 59)) (w1.heap.size + 1) 59 #[.func (.func 38) #[] #[.pointer (some ⟨w1.heap.size, 0, none⟩), .pointer (some ⟨w1.heap.size + 1, 0, none⟩)]] := by
        have := KB.new (w1.alloc (.cells #[.pointer (some ⟨g, 0, none⟩)] 57)) 59 #[.func (.func 38) #[] #[.pointer (some ⟨w1.heap.size, 0, none⟩), .pointer (some ⟨w1.heap.size + 1, 0, none⟩)]]
        rw [World.size_alloc] at this; exact this
      have F1 : Finds ((w1.alloc (.cells #[.pointer (some ⟨g, 0, none⟩)] 57)).alloc (.cells #[.func (.func 38) #[] #[.pointer (some ⟨w1.heap.size, 0, none⟩), .pointer (some ⟨w1.heap.size + 1, 0, none⟩)]] 59)) g w1.heap.size (w1.heap.size + 1) (fun x => x < g) (some bs) :=
        ⟨KR, KN, (S1.alloc _).alloc _, ((R1.alloc _).alloc _).mono' (fun x hx => hx.2) (Nat.lt_irrefl _), fun x hx => by simp; omega, by omega, by omega, by have := hs0; omega⟩
      have hc := hnx _ _ _ _ _ F1
      have K2 := (K1.alloc (.cells #[.pointer (some ⟨g, 0, none⟩)] 57)).alloc (.cells #[.func (.func 38) #[] #[.pointer (some ⟨w1.heap.size, 0, none⟩), .pointer (some ⟨w1.heap.size + 1, 0, none⟩)]] 59)
      have B2 := (B1.alloc B1.size (.cells #[.pointer (some ⟨g, 0, none⟩)] 57)).alloc (by have := B1.size; simp; omega) (.cells #[.func (.func 38) #[] #[.pointer (some ⟨w1.heap.size, 0, none⟩), .pointer (some ⟨w1.heap.size + 1, 0, none⟩)]] 59)
      have hgw : w.heap.size < w1.heap.size := K1.lt
      clear hnw hnx KR KN R1 K1 B1 S1 b1
      go_wp2_with fail
      refine hc.mono ?_
      rintro e w6 ⟨tv, rfl, R6, T6, G6⟩
      obtain ⟨e0, e1, e2, e3, rfl, tm⟩ := T6
      obtain ⟨i0, i1, X2, n2, z2, X3, n3, z3, rfl, rfl, rfl, rfl⟩ := tm_form tm
      have hnk := TM.nOk _ _ _ _ _ _ tm
      have F6 := F1.grown G6 R6
      have K6 := K2.grown G6 (by simp; omega)
      have B6 := B2.grown G6 B2.size (fun k hk => by injection hk with hk; omega)
      have sz6 := G6.size
      have szf : w1.heap.size + 1 + 1 ≤ w6.heap.size := by simp at sz6; omega
      have tm7 := TM.keepS (w' := w6.alloc (.cells #[.int .i64 i0, .int .u64 i1, .slice X2 n2 z2, .slice X3 n3 z3] 26)) (S' := fun x => w.heap.size < x ∧ x < w6.heap.size) 402 t _ _ _ _ tm (by simp) (fun x (hx : _ ∧ _) _ => Below.heap_alloc w6 (.cells #[.int .i64 i0, .int .u64 i1, .slice X2 n2 z2, .slice X3 n3 z3] 26) x hx.2) (fun x hx => ⟨by have h' := hx.1; simp at h'; omega, hx.2⟩)
      have F7 := F6.alloc (.cells #[.int .i64 i0, .int .u64 i1, .slice X2 n2 z2, .slice X3 n3 z3] 26)
      have K7 := K6.alloc (.cells #[.int .i64 i0, .int .u64 i1, .slice X2 n2 z2, .slice X3 n3 z3] 26)
      have B7 := B6.alloc B6.size (.cells #[.int .i64 i0, .int .u64 i1, .slice X2 n2 z2, .slice X3 n3 z3] 26)
      have KT := KB.new w6 26 #[.int .i64 i0, .int .u64 i1, .slice X2 n2 z2, .slice X3 n3 z3]
      have qr : w6.cell? ⟨w1.heap.size, 0, none⟩ = some (.pointer (some ⟨g, 0, none⟩)) := F6.r.cell 0
      have hrw : w1.heap.size < w6.heap.size := F6.r.lt
      clear hc K2 B2 F1 G6 R6 K6 B6 tm sz6 HM
      go_wp2_with fail
      refine (ok_rd _ _ _ _ F7.d).mono ?_
      rintro e w7 ⟨rfl, rfl⟩
      generalize hw7 : w6.alloc (.cells #[.int .i64 i0, .int .u64 i1, .slice X2 n2 z2, .slice X3 n3 z3] 26) = w7 at *
      have s7 : w7.heap.size = w6.heap.size + 1 := by rw [← hw7]; simp
      clear hw7
      have d0 : w7.cell? ⟨w6.heap.size, 0, none⟩ = some (.int .i64 i0) := KT.cell 0
      have d1 : w7.cell? ⟨w6.heap.size, 1, none⟩ = some (.int .u64 i1) := KT.cell 1
      have d2 : w7.cell? ⟨w6.heap.size, 2, none⟩ = some (.slice X2 n2 z2) := KT.cell 2
      have d3 : w7.cell? ⟨w6.heap.size, 3, none⟩ = some (.slice X3 n3 z3) := KT.cell 3
      have hck := check_any (fun x => w.heap.size < x ∧ x < w6.heap.size) 402 t (.agg #[.int .i64 i0, .int .u64 i1, .slice X2 n2 z2, .slice X3 n3 z3]) w7 (fun x hx => by have := hx.2; omega) F7.t ⟨_, _, _, _, rfl, tm7⟩
      rw [hmay, if_neg Bool.false_ne_true] at hck
      clear qr hmay
      go_wp2_with fail
      refine hck.mono ?_
      rintro e w8 ⟨rfl, b8⟩
      have K8 := K7.below b8 K7.lt
      have B8 := B7.trans (b8.mono B7.size)
      have c0 : w8.cell? ⟨w.heap.size, 0, none⟩ = some (.int .i64 0) := K8.cell 0
      have c1' : w8.cell? ⟨w.heap.size, 1, none⟩ = some (.int .u64 0) := K8.cell 1
      have c2 : w8.cell? ⟨w.heap.size, 2, none⟩ = some (.slice none 0 0) := K8.cell 2
      have c3 : w8.cell? ⟨w.heap.size, 3, none⟩ = some (.slice none 0 0) := K8.cell 3
      have f0 := K8.free 0
      have f1 := K8.free 1
      have f2 := K8.free 2
      have f3 := K8.free 3
      go_wp2_with fail
      refine bodyPost_ret (results_cell_tmp2 (P := Tryd.prog) rfl _ _ w.heap.size _ _ (0, 0) _ rfl (put_four K8) Tryd.underlying26 rfl (by kernel_rfl)) rfl ⟨_, rfl, zero_TV _ _ _, B8.trans (below_of_grown' (grown_four _ _ _ _ _ _) (Nat.le_refl _) B8.size)⟩
    | true =>
      have hs0 := S0.1
      go_enter Tryd.func15, Tryd.ntmps15
      go_wp2_with fail
      rw [HM.out]
      refine hnw.mono ?_
      rintro e w1 ⟨g, rfl, hg1, hg2, R1, b1⟩
      have K1 := K.below b1 K.lt
      have B1 := B.trans (b1.mono B.size)
      have S1 := S0.below b1
      have sz1 := b1.size
      have szw : (w.alloc (.cells #[.int .i64 0, .int .u64 0, .slice none 0 0, .slice none 0 0] 26)).heap.size = w.heap.size + 1 := by simp
      rw [szw] at hg1
      have KR := (KB.new w1 57 #[.pointer (some ⟨g, 0, none⟩)]).alloc (.cells #[.func (.func 38) #[] #[.pointer (some ⟨w1.heap.size, 0, none⟩), .pointer (some ⟨w1.heap.size + 1, 0, none⟩)]] 59)
      have KN : KB ((w1.alloc (.cells #[.pointer (some ⟨g, 0, none⟩)] 57)).alloc (.cells #[.func (.func 38) #[] #[.pointer (some ⟨w1.heap.size, 0, none⟩), .pointer (some ⟨w1.heap.size + 1, 0, none⟩)]] 59)) (w1.heap.size + 1) 59 #[.func (.func 38) #[] #[.pointer (some ⟨w1.heap.size, 0, none⟩), .pointer (some ⟨w1.heap.size + 1, 0, none⟩)]] := by
        have := KB.new (w1.alloc (.cells #[.pointer (some ⟨g, 0, none⟩)] 57)) 59 #[.func (.func 38) #[] #[.pointer (some ⟨w1.heap.size, 0, none⟩), .pointer (some ⟨w1.heap.size + 1, 0, none⟩)]]
        rw [World.size_alloc] at this; exact this
      have F1 : Finds ((w1.alloc (.cells #[.pointer (some ⟨g, 0, none⟩)] 57)).alloc (.cells #[.func (.func 38) #[] #[.pointer (some ⟨w1.heap.size, 0, none⟩), .pointer (some ⟨w1.heap.size + 1, 0, none⟩)]] 59)) g w1.heap.size (w1.heap.size + 1) (fun x => x < g) (some bs) :=
        ⟨KR, KN, (S1.alloc _).alloc _, ((R1.alloc _).alloc _).mono' (fun x hx => hx.2) (Nat.lt_irrefl _), fun x hx => by simp; omega, by omega, by omega, by have := hs0; omega⟩
      have hc := hnx _ _ _ _ _ F1
      have K2 := (K1.alloc (.cells #[.pointer (some ⟨g, 0, none⟩)] 57)).alloc (.cells #[.func (.func 38) #[] #[.pointer (some ⟨w1.heap.size, 0, none⟩), .pointer (some ⟨w1.heap.size + 1, 0, none⟩)]] 59)
      have B2 := (B1.alloc B1.size (.cells #[.pointer (some ⟨g, 0, none⟩)] 57)).alloc (by have := B1.size; simp; omega) (.cells #[.func (.func 38) #[] #[.pointer (some ⟨w1.heap.size, 0, none⟩), .pointer (some ⟨w1.heap.size + 1, 0, none⟩)]] 59)
      have hgw : w.heap.size < w1.heap.size := K1.lt
      clear hnw hnx KR KN R1 K1 B1 S1 b1
      go_wp2_with fail
      refine hc.mono ?_
      rintro e w6 ⟨tv, rfl, R6, T6, G6⟩
      obtain ⟨e0, e1, e2, e3, rfl, tm⟩ := T6
      obtain ⟨i0, i1, X2, n2, z2, X3, n3, z3, rfl, rfl, rfl, rfl⟩ := tm_form tm
      have hnk := TM.nOk _ _ _ _ _ _ tm
      have F6 := F1.grown G6 R6
      have K6 := K2.grown G6 (by simp; omega)
      have B6 := B2.grown G6 B2.size (fun k hk => by injection hk with hk; omega)
      have sz6 := G6.size
      have szf : w1.heap.size + 1 + 1 ≤ w6.heap.size := by simp at sz6; omega
      have tm7 := TM.keepS (w' := w6.alloc (.cells #[.int .i64 i0, .int .u64 i1, .slice X2 n2 z2, .slice X3 n3 z3] 26)) (S' := fun x => w.heap.size < x ∧ x < w6.heap.size) 402 t _ _ _ _ tm (by simp) (fun x (hx : _ ∧ _) _ => Below.heap_alloc w6 (.cells #[.int .i64 i0, .int .u64 i1, .slice X2 n2 z2, .slice X3 n3 z3] 26) x hx.2) (fun x hx => ⟨by have h' := hx.1; simp at h'; omega, hx.2⟩)
      have F7 := F6.alloc (.cells #[.int .i64 i0, .int .u64 i1, .slice X2 n2 z2, .slice X3 n3 z3] 26)
      have K7 := K6.alloc (.cells #[.int .i64 i0, .int .u64 i1, .slice X2 n2 z2, .slice X3 n3 z3] 26)
      have B7 := B6.alloc B6.size (.cells #[.int .i64 i0, .int .u64 i1, .slice X2 n2 z2, .slice X3 n3 z3] 26)
      have KT := KB.new w6 26 #[.int .i64 i0, .int .u64 i1, .slice X2 n2 z2, .slice X3 n3 z3]
      have qr : w6.cell? ⟨w1.heap.size, 0, none⟩ = some (.pointer (some ⟨g, 0, none⟩)) := F6.r.cell 0
      have hrw : w1.heap.size < w6.heap.size := F6.r.lt
      clear hc K2 B2 F1 G6 R6 K6 B6 tm sz6 HM
      go_wp2_with fail
      refine (ok_rd _ _ _ _ F7.d).mono ?_
      rintro e w7 ⟨rfl, rfl⟩
      generalize hw7 : w6.alloc (.cells #[.int .i64 i0, .int .u64 i1, .slice X2 n2 z2, .slice X3 n3 z3] 26) = w7 at *
      have s7 : w7.heap.size = w6.heap.size + 1 := by rw [← hw7]; simp
      clear hw7
      obtain ⟨u, rfl, hsim⟩ := hgs l rfl hmay hnk
      clear hgn hgs
      have d0 : w7.cell? ⟨w6.heap.size, 0, none⟩ = some (.int .i64 i0) := KT.cell 0
      have d1 : w7.cell? ⟨w6.heap.size, 1, none⟩ = some (.int .u64 i1) := KT.cell 1
      have d2 : w7.cell? ⟨w6.heap.size, 2, none⟩ = some (.slice X2 n2 z2) := KT.cell 2
      have d3 : w7.cell? ⟨w6.heap.size, 3, none⟩ = some (.slice X3 n3 z3) := KT.cell 3
      have hck := check_any (fun x => w.heap.size < x ∧ x < w6.heap.size) 402 t (.agg #[.int .i64 i0, .int .u64 i1, .slice X2 n2 z2, .slice X3 n3 z3]) w7 (fun x hx => by have := hx.2; omega) F7.t ⟨_, _, _, _, rfl, tm7⟩
      rw [hmay, if_pos rfl] at hck
      clear qr hmay
      go_wp2_with fail
      refine hck.mono ?_
      rintro e w8 ⟨rfl, b8⟩
      have K8 := K7.below b8 K7.lt
      have B8 := B7.trans (b8.mono B7.size)
      clear d0 d1 d2 d3
      have hsz8 := b8.size
      have F8 : Finds w8.drew g w1.heap.size (w1.heap.size + 1) (fun x => x < g) (some l) := (F7.below b8).below (Below_drawn (Below.refl _ _) 1)
      have hleft := left_rd g (fun x => x < g) (some l) w8.drew F8.d
      simp only [Option.getD_some] at hleft
      have KT8 := KT.below b8 KT.lt
      have KZ : KB w8.drew w.heap.size 26 #[.int .i64 0, .int .u64 0, .slice none 0 0, .slice none 0 0] := K8
      have BZ : Below w.heap.size w w8.drew := Below_drawn B8 1
      have tm8 := TM.keepS (w' := ((((w8.setCell ⟨w.heap.size, 0, none⟩ (.int .i64 i0)).setCell ⟨w.heap.size, 1, none⟩ (.int .u64 i1)).setCell ⟨w.heap.size, 2, none⟩ (.slice X2 n2 z2)).setCell ⟨w.heap.size, 3, none⟩ (.slice X3 n3 z3)).drew) (S' := fun x => w.heap.size ≤ x ∧ x < (((((w8.setCell ⟨w.heap.size, 0, none⟩ (.int .i64 i0)).setCell ⟨w.heap.size, 1, none⟩ (.int .u64 i1)).setCell ⟨w.heap.size, 2, none⟩ (.slice X2 n2 z2)).setCell ⟨w.heap.size, 3, none⟩ (.slice X3 n3 z3)).drew).heap.size) 402 t _ _ _ _ tm7 (Nat.le_trans hsz8 (Nat.le_of_eq (sets_size _ _ _ _ _ _))) (fun x (hx : _ ∧ _) _ => (sets_block _ _ _ _ _ _ _ (by omega)).trans (b8.block x (by omega))) (fun x (hx : _ ∧ _) => ⟨by omega, Nat.lt_of_lt_of_le (show x < w8.heap.size by omega) (Nat.le_of_eq (sets_size _ _ _ _ _ _))⟩)
      have TVf := TM.sim 402 9 t u _ _ _ _ hsim tm8
      have Bf : Below w.heap.size w ((((w8.setCell ⟨w.heap.size, 0, none⟩ (.int .i64 i0)).setCell ⟨w.heap.size, 1, none⟩ (.int .u64 i1)).setCell ⟨w.heap.size, 2, none⟩ (.slice X2 n2 z2)).setCell ⟨w.heap.size, 3, none⟩ (.slice X3 n3 z3)).drew := Below_drawn (B8.trans (below_of_grown' (grown_four w8 w.heap.size (.int .i64 i0) (.int .u64 i1) (.slice X2 n2 z2) (.slice X3 n3 z3)) (Nat.le_refl _) B8.size)) 1
      have KF : KB ((((w8.setCell ⟨w.heap.size, 0, none⟩ (.int .i64 i0)).setCell ⟨w.heap.size, 1, none⟩ (.int .u64 i1)).setCell ⟨w.heap.size, 2, none⟩ (.slice X2 n2 z2)).setCell ⟨w.heap.size, 3, none⟩ (.slice X3 n3 z3)).drew w.heap.size 26 #[.int .i64 i0, .int .u64 i1, .slice X2 n2 z2, .slice X3 n3 z3] := put_four (x := .int .i64 i0) (y := .int .u64 i1) (z := .slice X2 n2 z2) (u := .slice X3 n3 z3) K8
      have hwx : IntKind.i64.wrap ((bs.length : Int) - (l.length : Int)) = (bs.length : Int) - l.length := by
        simp only [Option.getD_some] at hrl
        rw [IntWalk.i64_in _ (by omega)]
      have HW := Lib.hid hwx
      have d0 : w8.cell? ⟨w6.heap.size, 0, none⟩ = some (.int .i64 i0) := KT8.cell 0
      have d1 : w8.cell? ⟨w6.heap.size, 1, none⟩ = some (.int .u64 i1) := KT8.cell 1
      have d2 : w8.cell? ⟨w6.heap.size, 2, none⟩ = some (.slice X2 n2 z2) := KT8.cell 2
      have d3 : w8.cell? ⟨w6.heap.size, 3, none⟩ = some (.slice X3 n3 z3) := KT8.cell 3
      have qr : w8.cell? ⟨w1.heap.size, 0, none⟩ = some (.pointer (some ⟨g, 0, none⟩)) := F8.r.cell 0
      have c0 : w8.cell? ⟨w.heap.size, 0, none⟩ = some (.int .i64 0) := K8.cell 0
      have c1' : w8.cell? ⟨w.heap.size, 1, none⟩ = some (.int .u64 0) := K8.cell 1
      have c2 : w8.cell? ⟨w.heap.size, 2, none⟩ = some (.slice none 0 0) := K8.cell 2
      have c3 : w8.cell? ⟨w.heap.size, 3, none⟩ = some (.slice none 0 0) := K8.cell 3
      have f0 := K8.free 0
      have f1 := K8.free 1
      have f2 := K8.free 2
      have f3 := K8.free 3
      clear hck hwx tm7 tm8 KT KT8 K7 B7 F7 BZ KZ B8 K8 b8 hnk
      go_wp2_with fail
      go_region_law
        (first
          | (go_simp; go_at_call 44; refine hleft.mono ?_; rintro e w9 ⟨rfl, rfl⟩))
      all_goals
        go_wp2_with fail
        refine bodyPost_ret (results_cell_tmp2 (P := Tryd.prog) rfl _ _ w.heap.size _ _ (0, 0) _ rfl KF Tryd.underlying26 rfl (by kernel_rfl)) rfl
          ⟨_, by show Ending.returned (Value.tuple #[.agg #[.int .i64 i0, .int .u64 i1, .slice X2 n2 z2, .slice X3 n3 z3], .int .i64 (IntKind.i64.wrap ((bs.length : Int) - (l.length : Int))), .int .i64 0]) = _; rw [HW.out], ⟨_, _, _, _, rfl, TVf⟩, Bf⟩
end Go.Proofs.YtmepcdljobdigaaDoor
