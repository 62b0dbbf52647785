/-
  The document's act and Expr (layer 17), over the loaded program: each one's contract. No condition but sizes.
-/
import Derived.Test.YtbhebjkicooidaaDoorRuS
import Derived.Test.YtbhebjkicooidaaDoorRuG
import Derived.Test.YtbhebjkicooidaaDoorSpH
import Derived.Test.YtbhebjkicooidaaDoorHeld
namespace Go.Proofs.YtbhebjkicooidaaDoor
open Go.RowKit
set_option maxRecDepth 100000
set_option linter.unusedVariables false

/-- act. -/
theorem ract_any (n : Int) (w : World) : Calls Tryd.prog 26 #[.int .i64 n] w fun e w' => e = .returned (strV (actS n)) ∧ w = w' := by
  by_cases h1 : n = 1
  · subst h1
    go_enter Tryd.func26, Tryd.ntmps26
    go_wp2
    go_ret
    exact ⟨rfl, rfl⟩
  by_cases h2 : n = 2
  · subst h2
    go_enter Tryd.func26, Tryd.ntmps26
    go_wp2
    go_ret
    exact ⟨rfl, rfl⟩
  have e : actS n = [107, 101, 101, 112] := by unfold actS; rw [if_neg h1, if_neg h2]
  rw [e]
  have E1 : (n == 1) = false := beq_eq_false_iff_ne.2 h1
  have E2 : (n == 2) = false := beq_eq_false_iff_ne.2 h2
  clear e
  go_enter Tryd.func26, Tryd.ntmps26
  go_wp2
  go_ret
  exact ⟨rfl, rfl⟩

theorem join_first {parts : List (List UInt8)} {q : List UInt8} (sp : List UInt8) (h : parts[0]? = some q) : Lib.join (parts.take 1) sp = Lib.join (parts.take 0) sp ++ q := by
  cases parts with
  | nil => simp at h
  | cons a l =>
    simp at h
    subst h
    simp [Lib.join_one, Lib.join_nil]
theorem join_next {parts : List (List UInt8)} {j : Nat} {q : List UInt8} (sp : List UInt8) (hj : 0 < j) (h : parts[j]? = some q) : Lib.join (parts.take (j + 1)) sp = Lib.join (parts.take j) sp ++ sp ++ q := by
  cases parts with
  | nil => simp at h
  | cons a l =>
    obtain ⟨i, rfl⟩ : ∃ i, j = i + 1 := ⟨j - 1, by omega⟩
    rw [List.take_succ_cons, List.take_succ_cons, Lib.join_cons, Lib.join_cons, Lib.joinTail_take_succ sp l i q (by simpa using h)]
    simp [List.append_assoc]
theorem wrr_many (f : Nat) (x : Nx (Ex f)) (h : x.op ≠ 1) : exprX (f + 1) x = Lib.join (x.kids.map fun u => brX x.op (opX f u) (exprX f u)) (sepX x.op) := by rw [expr_eq, if_neg h]
theorem brr_no {p k : Int} (t : List UInt8) (h2 : k ≠ 2) (h3 : k = 3 → p ≠ 3) : brX p k t = t := by
  unfold brX
  rw [if_neg (by rintro (h | ⟨h, h'⟩); exact h2 h; exact h3 h h')]
theorem brr_yes {p k : Int} (t : List UInt8) (h : k = 2 ∨ (k = 3 ∧ p = 3)) : brX p k t = 40 :: (t ++ [41]) := by
  unfold brX
  rw [if_pos h]

set_option maxHeartbeats 8000000 in
/-- A day's condition. -/
theorem rone_any (dy : Int) (l : List UInt8) (k3 : Value) (A3 : Option Addr) (n3 z3 : Nat) (w : World) (hk3 : k3 = .slice A3 n3 z3) (hl : l.length ≤ 16) :
    Calls Tryd.prog 15 #[.agg #[.int .i64 1, .int .i64 dy, strV l, k3]] w fun e w' => e = .returned (strV (textD dy ++ afterW ++ l)) ∧ Below w.heap.size w w' := by
  subst hk3
  have htx := rtext15_any dy
  have hlt := text_len dy
  have ha1 := txt_add (textD dy) afterW (by unfold afterW; simp; omega)
  have ha2 := txt_add (textD dy ++ afterW) l (by unfold afterW; simp; omega)
  clear hlt hl
  unfold strV at *
  generalize (⟨(textD dy ++ afterW ++ l).toArray⟩ : ByteArray) = s3 at *
  generalize (⟨(textD dy ++ afterW).toArray⟩ : ByteArray) = s2 at *
  generalize (⟨(textD dy).toArray⟩ : ByteArray) = s1 at *
  generalize (⟨l.toArray⟩ : ByteArray) = s at *
  unfold afterW at ha1
  have B0 := (Below.refl w.heap.size w).alloc (Nat.le_refl _) (.cells #[.int .i64 1, .int .i64 dy, .string s, .slice A3 n3 z3] 35)
  have K0 := KB.new w 35 #[.int .i64 1, .int .i64 dy, .string s, .slice A3 n3 z3]
  go_enter Tryd.func15, Tryd.ntmps15
  go_wp2_with fail
  generalize w.alloc (.cells #[.int .i64 1, .int .i64 dy, .string s, .slice A3 n3 z3] 35) = w0 at *
  have HC : Hid (∀ W, Below w0.heap.size w0 W → W.cell? ⟨w.heap.size, 1, none⟩ = some (.int .i64 dy) ∧ W.cell? ⟨w.heap.size, 2, none⟩ = some (.string s)) := fun W h => ⟨(K0.below h K0.lt).cell 1, (K0.below h K0.lt).cell 2⟩
  have Bd : Below w.heap.size w w0.drew := Below_drawn B0 1
  have Bdd : Below w0.heap.size w0 w0.drew := Below_drawn (Below.refl _ _) 1
  have hst := htx w0.drew
  clear htx K0 B0
  rename_i KK hKK
  have HKK := Lib.hid hKK
  clear hKK
  refine wp_region_held_drew (S := (fun W => W.cell? ⟨w.heap.size, 1, none⟩ = some (.int .i64 dy) ∧ W.cell? ⟨w.heap.size, 2, none⟩ = some (.string s))) (by kernel_rfl) (HC.out _ Bdd) (fun hHeld => ?_)
  refine hyY (some 10) 0 rfl hHeld ?_; go_frame
  refine hyY (some 11) 1 rfl hHeld ?_; go_frame
  refine hyY (some 14) 4 rfl hHeld ?_; go_frame
  refine hyY (some 15) 5 rfl hHeld ?_; go_frame
  refine hyO (some 12) 2 rfl (fun K hK => ?_)
  go_simp
  go_at_call 34
  refine hst.mono ?_
  rintro e w2 ⟨rfl, b2⟩
  go_wp2_with fail
  refine hK.out _ _ ?_ (fun hH2 => ?_)
  · exact HC.out _ (Bdd.trans b2)
  clear hHeld hK K; have hHeld := hH2; clear hH2; try go_frame
  refine hyY (some 13) 3 rfl hHeld ?_; go_frame
  refine hyY (some 16) 6 rfl hHeld ?_; go_frame
  refine hyY (some 2) 7 rfl hHeld ?_; go_frame
  refine wpAnyH_done (by kernel_rfl) ?_ _
  have hKK := HKK.out
  go_wp2_with fail
  go_ret
  exact ⟨rfl, Bd.trans (b2.mono Bd.size)⟩

set_option maxHeartbeats 16000000 in
/-- Expr. -/
theorem rexpr_any (S : Nat → Prop) : ∀ (f : Nat) (x : Ex f) (d : Int) (v : Value) (w : World), okX f x d = true → nodesX f x ≤ 24 → EV w S f v x →
    Calls Tryd.prog 15 #[v] w fun e w' => e = .returned (strV (exprX f x)) ∧ Below w.heap.size w w' := by
  intro f
  induction f with
  | zero => intro x; exact nomatch x
  | succ f ih =>
    intro x d v w hok hno hv
    obtain ⟨c0, c1, c2, c3, rfl, rfl, hk, rfl, hdy, rfl, hml, hks⟩ := hv
    obtain ⟨A3, cap3, e3, hl3, hm3⟩ := hks.form
    subst e3
    have hfit := ok_fits (x := (x : Nx (Ex f))) hok
    by_cases h1 : (x : Nx (Ex f)).op = 1
    · obtain ⟨_, _, hw, _⟩ := fits_one hfit h1
      have := rone_any (x : Nx (Ex f)).days (x : Nx (Ex f)).mile _ _ _ w rfl (word_sixteen hw).1 (k3 := .slice A3 (x : Nx (Ex f)).kids.length cap3)
      have e : exprX (f + 1) x = textD (x : Nx (Ex f)).days ++ afterW ++ (x : Nx (Ex f)).mile := (expr_eq f x).trans (if_pos h1)
      rw [e, h1]
      exact this
    obtain ⟨h23, hd0, hm0, h2k⟩ := fits_many hfit h1
    have hr : exprX (f + 1) x = Lib.join ((x : Nx (Ex f)).kids.map fun u => brX (x : Nx (Ex f)).op (opX f u) (exprX f u)) (sepX (x : Nx (Ex f)).op) := wrr_many f x h1
    rw [hr]
    have hpart : ∀ (j : Nat) (hj : j < (x : Nx (Ex f)).kids.length), ((x : Nx (Ex f)).kids.map fun u => brX (x : Nx (Ex f)).op (opX f u) (exprX f u))[j]? = some (brX (x : Nx (Ex f)).op (opX f (x : Nx (Ex f)).kids[j]) (exprX f (x : Nx (Ex f)).kids[j])) := fun j hj => by
      rw [List.getElem?_map, List.getElem?_eq_getElem hj]; rfl
    have HPART := Lib.hid hpart
    have hpl : ((x : Nx (Ex f)).kids.map fun u => brX (x : Nx (Ex f)).op (opX f u) (exprX f u)).length = (x : Nx (Ex f)).kids.length := by simp
    have HKOK : Hid (∀ (j : Nat) (hj : j < (x : Nx (Ex f)).kids.length), okX f (x : Nx (Ex f)).kids[j] (d - 1) = true ∧ nodesX f (x : Nx (Ex f)).kids[j] ≤ 24 ∧ (exprX f (x : Nx (Ex f)).kids[j]).length ≤ 1000) := fun j hj => by
      have h1 := ok_kid (x := (x : Nx (Ex f))) hok (List.getElem_mem hj)
      have h2 := nodes_kid (x := (x : Nx (Ex f))) hj
      have h4 : nodesX f (x : Nx (Ex f)).kids[j] + (x : Nx (Ex f)).kids.length ≤ 24 := Nat.le_trans h2 hno
      have h3 := expr_len f _ (d - 1) h1
      exact ⟨h1, by omega, by omega⟩
    have hkl24 : (x : Nx (Ex f)).kids.length ≤ 24 := by
      have h2 := nodes_kid (x := (x : Nx (Ex f))) (j := 0) (by omega)
      have h4 : nodesX f (x : Nx (Ex f)).kids[0] + (x : Nx (Ex f)).kids.length ≤ 24 := Nat.le_trans h2 hno
      omega
    clear hpart hok hno hfit hr h2k hdy hml
    rw [hd0, hm0]
    generalize ((x : Nx (Ex f)).kids.map fun u => brX (x : Nx (Ex f)).op (opX f u) (exprX f u)) = parts at *
    generalize (x : Nx (Ex f)).op = k at *
    generalize (x : Nx (Ex f)).kids = ks at *
    clear hd0 hm0 x
    obtain ⟨r, hr⟩ : ∃ r, r = Lib.join parts (sepX k) := ⟨_, rfl⟩
    rw [← hr]
    obtain ⟨kl, hkl⟩ : ∃ kl, kl = ks.length := ⟨_, rfl⟩
    rw [← hkl] at hks hl3 hpl hkl24 ⊢
    have HKL := Lib.hid hkl
    obtain ⟨sp, hsp⟩ : ∃ sp, sp = sepX k := ⟨_, rfl⟩
    have hspl := sep_len k
    rw [← hsp] at hr hspl
    have HR := Lib.hid hr
    have HSP := Lib.hid hsp
    clear hkl hr hsp
    have hlen : kl ≤ 9223372036854775807 := by omega
    have B0 := (Below.refl w.heap.size w).alloc (Nat.le_refl _) (.cells #[.int .i64 k, .int .i64 0, strV [], .slice A3 kl cap3] 35)
    have K0 := KB.new w 35 #[.int .i64 k, .int .i64 0, strV [], .slice A3 kl cap3]
    have E1 : (k == 1) = false := beq_eq_false_iff_ne.2 h1
    unfold strV at *
    obtain ⟨s0e, hs0e⟩ : ∃ s : ByteArray, s = ⟨([] : List UInt8).toArray⟩ := ⟨_, rfl⟩
    rw [← hs0e] at K0 B0 ⊢
    clear hs0e
    obtain ⟨sr, hsr⟩ : ∃ s : ByteArray, s = ⟨r.toArray⟩ := ⟨_, rfl⟩
    rw [← hsr]
    have HSR := Lib.hid hsr
    clear hsr
    go_enter Tryd.func15, Tryd.ntmps15
    go_wp2_with fail
    clear E1
    go_loopw [3, 4] (fun sv iv wr => ∃ (j : Nat) (a : List UInt8), j ≤ kl ∧ a.length ≤ j * 1100 ∧ iv = .int .i64 j ∧ sv = .string ⟨a.toArray⟩ ∧ Hid (a = Lib.join (parts.take j) sp) ∧ KB wr w.heap.size 35 #[.int .i64 k, .int .i64 0, .string s0e, .slice A3 kl cap3] ∧ Below w.heap.size w wr) (fun _ iv _ => kl - (intOf iv).toNat)
    case atStart => exact ⟨0, [], by omega, by simp, rfl, rfl, by show _ = _; simp [Lib.join_nil], K0, B0⟩
    case round =>
      obtain ⟨j, a, hj, hal, rfl, rfl, HA, K, B⟩ := hrel
      have q3 : wr.cell? ⟨w.heap.size, 3, none⟩ = some (.slice A3 kl cap3) := K.cell 3
      by_cases hlt : j < kl
      · have hltI : (j : Int) < (kl : Int) := by omega
        have hjk : j < ks.length := by rw [← HKL.out]; exact hlt
        obtain ⟨b, o, e0, e1, e2, e3, rfl, hb, k0, k1, k2, k3, hv⟩ := kid_b hks HKL.out.symm B j hjk
        obtain ⟨hko, hkn, hkt⟩ := HKOK.out j hjk
        have hc := ih ks[j] (d - 1) _ (wr.alloc (.cells #[e0, e1, e2, e3] 35)) hko hkn (hv.alloc _)
        have HPJ : Hid (parts[j]? = some (brX k (opX f ks[j]) (exprX f ks[j]))) := HPART.out j hjk
        obtain ⟨_, _, _, _, e, hx4⟩ := hv
        injection e with e
        simp only [Array.mk.injEq, List.cons.injEq, and_true] at e
        obtain ⟨rfl, rfl, rfl, rfl⟩ := e
        obtain ⟨eo, _⟩ := hx4.op_cell
        obtain ⟨i0, i1, l2, X3, n3, z3, rfl, rfl, rfl, rfl⟩ := hx4.form
        injection eo with _ eo
        subst eo
        have hbr : b < wr.heap.size := Nat.lt_of_lt_of_le hb B.size
        have hgs : w.heap.size < wr.heap.size := K.lt
        have kk := KB.new wr 35 #[.int .i64 (opX f ks[j]), .int .i64 i1, strV l2, .slice X3 n3 z3]
        have kx2 := K.alloc (.cells #[.int .i64 (opX f ks[j]), .int .i64 i1, strV l2, .slice X3 n3 z3] 35)
        have B2 := B.alloc B.size (.cells #[.int .i64 (opX f ks[j]), .int .i64 i1, strV l2, .slice X3 n3 z3] 35)
        unfold strV at *
        generalize (⟨l2.toArray⟩ : ByteArray) = s2 at *
        clear hx4 hko hkn K
        generalize opX f ks[j] = ko at *
        generalize exprX f ks[j] = tx at *
        have hja : j * 1100 ≤ 26400 := by omega
        have ha1 := txt_add [40] tx (by simp; omega)
        have ha2 := txt_add (40 :: tx) [41] (by simp; omega)
        rw [show ([40] : List UInt8) ++ tx = 40 :: tx from rfl] at ha1
        rw [show (40 :: tx) ++ [41] = 40 :: (tx ++ [41]) from rfl] at ha2
        have hb1 := txt_add a sp (by omega)
        have HADD : Hid (∀ (m q : List UInt8), m.length ≤ 30000 → q.length ≤ 1002 → ∀ W : World, (Op.stringOp .add ⟨m.toArray⟩ ⟨q.toArray⟩).run Tryd.prog W = .ok (.string ⟨(m ++ q).toArray⟩) W) := fun m q h1 h2 => txt_add m q (by omega)
        have HNEXT : Hid (∀ q, q.length ≤ 1002 → parts[j]? = some q → (j = 0 → a ++ q = Lib.join (parts.take (j + 1)) sp) ∧ (0 < j → a ++ sp ++ q = Lib.join (parts.take (j + 1)) sp) ∧ (a ++ q).length ≤ (j + 1) * 1100 ∧ (a ++ sp ++ q).length ≤ (j + 1) * 1100 ∧ (a ++ sp).length ≤ 30000 ∧ a.length ≤ 30000) := fun q hq hp => by
          refine ⟨fun h => ?_, fun h => ?_, ?_, ?_, ?_, ?_⟩
          · subst h; rw [join_first sp hp, ← HA.out]
          · rw [join_next sp h hp, ← HA.out]
          · rw [List.length_append]; omega
          · rw [List.length_append, List.length_append]; omega
          · rw [List.length_append]; omega
          · omega
        obtain ⟨s5, hs5⟩ : ∃ s : ByteArray, s = ⟨tx.toArray⟩ := ⟨_, rfl⟩
        obtain ⟨sa, hsa⟩ : ∃ s : ByteArray, s = ⟨a.toArray⟩ := ⟨_, rfl⟩
        obtain ⟨sb, hsb⟩ : ∃ s : ByteArray, s = ⟨(a ++ sp).toArray⟩ := ⟨_, rfl⟩
        obtain ⟨s6, hs6⟩ : ∃ s : ByteArray, s = ⟨(40 :: tx).toArray⟩ := ⟨_, rfl⟩
        obtain ⟨s7, hs7⟩ : ∃ s : ByteArray, s = ⟨(40 :: (tx ++ [41])).toArray⟩ := ⟨_, rfl⟩
        have HS := Lib.hid hs5
        have HSA := Lib.hid hsa
        have HSB := Lib.hid hsb
        have HS7 := Lib.hid hs7
        rw [← hs6, ← hs5] at ha1
        rw [← hs6, ← hs7] at ha2
        rw [← hsa, ← hsb] at hb1
        rw [← hs5] at hc
        rw [← hsa]
        clear hs5 hs6 hs7 hsa hsb hjk
        go_wp2_with fail
        refine hc.mono ?_
        rintro e w5 ⟨rfl, b5⟩
        have kk5 := kk.below b5 kk.lt
        have kx5 := kx2.below b5 kx2.lt
        have B5 := B2.trans (b5.mono B2.size)
        have q0 := kk5.cell 0
        have p0 := kx5.cell 0
        clear hc kk kk5 kx2 B B2 b5 k0 k1 k2 k3 hks q3
        by_cases h2 : ko = 2
        · have D2 : (ko == 2) = true := beq_iff_eq.2 h2
          have hpj := HPJ.out
          rw [brr_yes tx (.inl h2)] at hpj
          have hql : (40 :: (tx ++ [41])).length ≤ 1002 := by simp; omega
          obtain ⟨n1, n2, n3, n4, n5, n6⟩ := HNEXT.out (40 :: (tx ++ [41])) hql hpj
          have N1 := Lib.hid n1
          have N2 := Lib.hid n2
          have N3 := Lib.hid n3
          have N4 := Lib.hid n4
          have hd0 := HADD.out a (40 :: (tx ++ [41])) n6 hql
          have hd1 := HADD.out (a ++ sp) (40 :: (tx ++ [41])) n5 hql
          rw [← HSA.out, ← HS7.out] at hd0
          rw [← HSB.out, ← HS7.out] at hd1
          obtain ⟨sd, hsd⟩ : ∃ s : ByteArray, s = ⟨(a ++ (40 :: (tx ++ [41]))).toArray⟩ := ⟨_, rfl⟩
          obtain ⟨se, hse⟩ : ∃ s : ByteArray, s = ⟨(a ++ sp ++ (40 :: (tx ++ [41]))).toArray⟩ := ⟨_, rfl⟩
          rw [← hsd] at hd0
          rw [← hse] at hd1
          have HSD := Lib.hid hsd
          have HSE := Lib.hid hse
          clear hpj hql n1 n2 n3 n4 n5 n6 HNEXT HADD HPJ HA hkt hal hja hsd hse h2
          by_cases hj0 : j = 0
          · have J0 : decide ((0 : Int) < (j : Int)) = false := decide_eq_false (by omega)
            have J1 : decide (0 < j) = false := decide_eq_false (by omega)
            have HN := Lib.hid (N1.out hj0)
            clear N1 N2 hd1 hb1 hj0
            go_wp2_with fail
            go_roundw
            case rel => exact ⟨j + 1, a ++ (40 :: (tx ++ [41])), by omega, N3.out, by go_num, by rw [HSD.out], HN, kx5, B5⟩
            case measure => simp [intOf]; omega
          have J0 : decide ((0 : Int) < (j : Int)) = true := decide_eq_true (by omega)
          have J1 : decide (0 < j) = true := decide_eq_true (by omega)
          have HN := Lib.hid (N2.out (by omega))
          clear N1 N2 hd0 hj0
          by_cases hk2 : k = 2
          · have K2 : (k == 2) = true := beq_iff_eq.2 hk2
            have e : sp = [32, 111, 114, 32] := by rw [HSP.out]; unfold sepX; rw [if_neg (by omega)]
            rw [e] at hb1
            clear e hk2
            go_wp2_with fail
            go_roundw
            case rel => exact ⟨j + 1, a ++ sp ++ (40 :: (tx ++ [41])), by omega, N4.out, by go_num, by rw [HSE.out], HN, kx5, B5⟩
            case measure => simp [intOf]; omega
          have K2 : (k == 2) = false := beq_eq_false_iff_ne.2 hk2
          have e : sp = [32, 97, 110, 100, 32] := by rw [HSP.out]; unfold sepX; rw [if_pos (by omega)]
          rw [e] at hb1
          clear e hk2
          go_wp2_with fail
          go_roundw
          case rel => exact ⟨j + 1, a ++ sp ++ (40 :: (tx ++ [41])), by omega, N4.out, by go_num, by rw [HSE.out], HN, kx5, B5⟩
          case measure => simp [intOf]; omega
        have D2 : (ko == 2) = false := beq_eq_false_iff_ne.2 h2
        by_cases h3 : ko = 3
        · have D3 : (ko == 3) = true := beq_iff_eq.2 h3
          by_cases h4 : k = 3
          · have D4 : (k == 3) = true := beq_iff_eq.2 h4
            have hpj := HPJ.out
            rw [brr_yes tx (.inr ⟨h3, h4⟩)] at hpj
            have hql : (40 :: (tx ++ [41])).length ≤ 1002 := by simp; omega
            obtain ⟨n1, n2, n3, n4, n5, n6⟩ := HNEXT.out (40 :: (tx ++ [41])) hql hpj
            have N1 := Lib.hid n1
            have N2 := Lib.hid n2
            have N3 := Lib.hid n3
            have N4 := Lib.hid n4
            have hd0 := HADD.out a (40 :: (tx ++ [41])) n6 hql
            have hd1 := HADD.out (a ++ sp) (40 :: (tx ++ [41])) n5 hql
            rw [← HSA.out, ← HS7.out] at hd0
            rw [← HSB.out, ← HS7.out] at hd1
            obtain ⟨sd, hsd⟩ : ∃ s : ByteArray, s = ⟨(a ++ (40 :: (tx ++ [41]))).toArray⟩ := ⟨_, rfl⟩
            obtain ⟨se, hse⟩ : ∃ s : ByteArray, s = ⟨(a ++ sp ++ (40 :: (tx ++ [41]))).toArray⟩ := ⟨_, rfl⟩
            rw [← hsd] at hd0
            rw [← hse] at hd1
            have HSD := Lib.hid hsd
            have HSE := Lib.hid hse
            have HE : Hid (sp = [32, 97, 110, 100, 32]) := by show _ = _; rw [HSP.out]; unfold sepX; rw [if_pos h4]
            have K2 : (k == 2) = false := by exact beq_eq_false_iff_ne.2 (by omega)
            clear hpj hql n1 n2 n3 n4 n5 n6 HNEXT HADD HPJ HA hkt hal hja hsd hse h2 h3 h4
            by_cases hj0 : j = 0
            · have J0 : decide ((0 : Int) < (j : Int)) = false := decide_eq_false (by omega)
              have J1 : decide (0 < j) = false := decide_eq_false (by omega)
              have HN := Lib.hid (N1.out hj0)
              clear N1 N2 hd1 hb1 hj0
              go_wp2_with fail
              go_roundw
              case rel => exact ⟨j + 1, a ++ (40 :: (tx ++ [41])), by omega, N3.out, by go_num, by rw [HSD.out], HN, kx5, B5⟩
              case measure => simp [intOf]; omega
            have J0 : decide ((0 : Int) < (j : Int)) = true := decide_eq_true (by omega)
            have J1 : decide (0 < j) = true := decide_eq_true (by omega)
            have HN := Lib.hid (N2.out (by omega))
            clear N1 N2 hd0 hj0
            rw [HE.out] at hb1
            go_wp2_with fail
            go_roundw
            case rel => exact ⟨j + 1, a ++ sp ++ (40 :: (tx ++ [41])), by omega, N4.out, by go_num, by rw [HSE.out], HN, kx5, B5⟩
            case measure => simp [intOf]; omega
          · have D4 : (k == 3) = false := beq_eq_false_iff_ne.2 h4
            have hpj := HPJ.out
            rw [brr_no tx h2 (fun _ => h4)] at hpj
            have hql : tx.length ≤ 1002 := by omega
            obtain ⟨n1, n2, n3, n4, n5, n6⟩ := HNEXT.out tx hql hpj
            have N1 := Lib.hid n1
            have N2 := Lib.hid n2
            have N3 := Lib.hid n3
            have N4 := Lib.hid n4
            have hd0 := HADD.out a tx n6 hql
            have hd1 := HADD.out (a ++ sp) tx n5 hql
            rw [← HSA.out, ← HS.out] at hd0
            rw [← HSB.out, ← HS.out] at hd1
            obtain ⟨sd, hsd⟩ : ∃ s : ByteArray, s = ⟨(a ++ tx).toArray⟩ := ⟨_, rfl⟩
            obtain ⟨se, hse⟩ : ∃ s : ByteArray, s = ⟨(a ++ sp ++ tx).toArray⟩ := ⟨_, rfl⟩
            rw [← hsd] at hd0
            rw [← hse] at hd1
            have HSD := Lib.hid hsd
            have HSE := Lib.hid hse
            have HE : Hid (sp = [32, 111, 114, 32]) := by show _ = _; rw [HSP.out]; unfold sepX; rw [if_neg h4]
            have K2 : (k == 2) = true := by exact beq_iff_eq.2 (by omega)
            clear hpj hql n1 n2 n3 n4 n5 n6 HNEXT HADD HPJ HA hkt hal hja hsd hse h2 h3 h4
            by_cases hj0 : j = 0
            · have J0 : decide ((0 : Int) < (j : Int)) = false := decide_eq_false (by omega)
              have J1 : decide (0 < j) = false := decide_eq_false (by omega)
              have HN := Lib.hid (N1.out hj0)
              clear N1 N2 hd1 hb1 hj0
              go_wp2_with fail
              go_roundw
              case rel => exact ⟨j + 1, a ++ tx, by omega, N3.out, by go_num, by rw [HSD.out], HN, kx5, B5⟩
              case measure => simp [intOf]; omega
            have J0 : decide ((0 : Int) < (j : Int)) = true := decide_eq_true (by omega)
            have J1 : decide (0 < j) = true := decide_eq_true (by omega)
            have HN := Lib.hid (N2.out (by omega))
            clear N1 N2 hd0 hj0
            rw [HE.out] at hb1
            go_wp2_with fail
            go_roundw
            case rel => exact ⟨j + 1, a ++ sp ++ tx, by omega, N4.out, by go_num, by rw [HSE.out], HN, kx5, B5⟩
            case measure => simp [intOf]; omega
        have D3 : (ko == 3) = false := beq_eq_false_iff_ne.2 h3
        have hpj := HPJ.out
        rw [brr_no tx h2 (fun h => absurd h h3)] at hpj
        have hql : tx.length ≤ 1002 := by omega
        obtain ⟨n1, n2, n3, n4, n5, n6⟩ := HNEXT.out tx hql hpj
        have N1 := Lib.hid n1
        have N2 := Lib.hid n2
        have N3 := Lib.hid n3
        have N4 := Lib.hid n4
        have hd0 := HADD.out a tx n6 hql
        have hd1 := HADD.out (a ++ sp) tx n5 hql
        rw [← HSA.out, ← HS.out] at hd0
        rw [← HSB.out, ← HS.out] at hd1
        obtain ⟨sd, hsd⟩ : ∃ s : ByteArray, s = ⟨(a ++ tx).toArray⟩ := ⟨_, rfl⟩
        obtain ⟨se, hse⟩ : ∃ s : ByteArray, s = ⟨(a ++ sp ++ tx).toArray⟩ := ⟨_, rfl⟩
        rw [← hsd] at hd0
        rw [← hse] at hd1
        have HSD := Lib.hid hsd
        have HSE := Lib.hid hse
        clear hpj hql n1 n2 n3 n4 n5 n6 HNEXT HADD HPJ HA hkt hal hja hsd hse h2 h3
        by_cases hj0 : j = 0
        · have J0 : decide ((0 : Int) < (j : Int)) = false := decide_eq_false (by omega)
          have J1 : decide (0 < j) = false := decide_eq_false (by omega)
          have HN := Lib.hid (N1.out hj0)
          clear N1 N2 hd1 hb1 hj0
          go_wp2_with fail
          go_roundw
          case rel => exact ⟨j + 1, a ++ tx, by omega, N3.out, by go_num, by rw [HSD.out], HN, kx5, B5⟩
          case measure => simp [intOf]; omega
        have J0 : decide ((0 : Int) < (j : Int)) = true := decide_eq_true (by omega)
        have J1 : decide (0 < j) = true := decide_eq_true (by omega)
        have HN := Lib.hid (N2.out (by omega))
        clear N1 N2 hd0 hj0
        by_cases hk2 : k = 2
        · have K2 : (k == 2) = true := beq_iff_eq.2 hk2
          have e : sp = [32, 111, 114, 32] := by rw [HSP.out]; unfold sepX; rw [if_neg (by omega)]
          rw [e] at hb1
          clear e hk2
          go_wp2_with fail
          go_roundw
          case rel => exact ⟨j + 1, a ++ sp ++ tx, by omega, N4.out, by go_num, by rw [HSE.out], HN, kx5, B5⟩
          case measure => simp [intOf]; omega
        have K2 : (k == 2) = false := beq_eq_false_iff_ne.2 hk2
        have e : sp = [32, 97, 110, 100, 32] := by rw [HSP.out]; unfold sepX; rw [if_pos (by omega)]
        rw [e] at hb1
        clear e hk2
        go_wp2_with fail
        go_roundw
        case rel => exact ⟨j + 1, a ++ sp ++ tx, by omega, N4.out, by go_num, by rw [HSE.out], HN, kx5, B5⟩
        case measure => simp [intOf]; omega
      · obtain rfl : j = kl := by omega
        have ha := HA.out
        rw [← hpl, List.take_length, ← HR.out] at ha
        have e : (⟨a.toArray⟩ : ByteArray) = sr := by rw [HSR.out, ha]
        rw [e]
        clear HPART HKOK HSP HR HA hks e ha hal
        go_wp2_with fail
        go_ret
        exact ⟨rfl, B⟩
end Go.Proofs.YtbhebjkicooidaaDoor
