/-
  TermPuts: which terms may be, and their bytes: the law's walk. No condition but that the table lies as the row says.
-/
import Derived.Test.YtmepcdljobdigaaDoorTpL
import Derived.Test.YtmepcdljobdigaaDoorArgs
namespace Go.Proofs.YtmepcdljobdigaaDoor
open Go.RowKit
set_option linter.unusedVariables false

theorem i64_60 : I64 60 := by unfold I64; omega

set_option maxHeartbeats 4000000 in
theorem termPuts_any (S : Nat → Prop) (f : Nat) (t : Tm f) (v : Value) (w : World) (hS : ∀ b, S b → b < w.heap.size) (hsh : Shp w) (hv : TV w S f v t) :
    Calls Tryd.prog 3 #[v] w fun e w' => e = .returned (.bool true) ∧ Below w.heap.size w w' := by
  obtain ⟨_, _, _, _, rfl, ht⟩ := hv
  obtain ⟨i0, i1, X2, n2, z2, X3, n3, z3, rfl, rfl, rfl, rfl⟩ := tm_form ht
  have tv : TV (w.alloc (.cells #[.int .i64 i0, .int .u64 i1, .slice X2 n2 z2, .slice X3 n3 z3] 26)) S f (.agg #[.int .i64 i0, .int .u64 i1, .slice X2 n2 z2, .slice X3 n3 z3]) t := TV.alloc ⟨_, _, _, _, rfl, ht⟩ _
  have K := KB.new w 26 #[.int .i64 i0, .int .u64 i1, .slice X2 n2 z2, .slice X3 n3 z3]
  have B := (Below.refl w.heap.size w).alloc (Nat.le_refl _) (.cells #[.int .i64 i0, .int .u64 i1, .slice X2 n2 z2, .slice X3 n3 z3] 26)
  replace hsh := hsh.alloc (.cells #[.int .i64 i0, .int .u64 i1, .slice X2 n2 z2, .slice X3 n3 z3] 26)
  replace hS := fun b hb => Nat.lt_of_lt_of_le (hS b hb) B.size
  have hsm := small_any S f t _ 60 _ i64_60 tv
  clear ht
  go_enter Tryd.func3, Tryd.ntmps3
  go_wp2_with fail
  refine hsm.mono ?_
  rintro e w5 ⟨b, rfl, b5⟩
  clear hsm
  replace K := K.below b5 K.lt
  replace tv := tv.below' b5
  replace hsh := hsh.below b5
  replace hS := fun b hb => Nat.lt_of_lt_of_le (hS b hb) b5.size
  replace B := B.trans (b5.mono B.size)
  clear b5
  have c0 : w5.cell? ⟨w.heap.size, 0, none⟩ = some (.int .i64 i0) := K.cell 0
  have c1 : w5.cell? ⟨w.heap.size, 1, none⟩ = some (.int .u64 i1) := K.cell 1
  have c2 : w5.cell? ⟨w.heap.size, 2, none⟩ = some (.slice X2 n2 z2) := K.cell 2
  have c3 : w5.cell? ⟨w.heap.size, 3, none⟩ = some (.slice X3 n3 z3) := K.cell 3
  cases b with
  | false =>
    go_wp2_with fail
    refine (live_any _ hsh).mono ?_
    rintro e w6 ⟨rfl, b6⟩
    have B6 := B.trans (b6.mono B.size)
    clear c0 c1 c2 c3
    go_wp2_with fail
    go_ret
    exact ⟨rfl, B6⟩
  | true =>
    have hp := put_any S f t _ w5 hS hsh tv
    go_wp2_with fail
    refine hp.mono ?_
    clear hp
    rintro e w6 ⟨u6, rfl, how6, b5⟩
    have x1 := own_BS how6
    replace K := K.below b5 K.lt
    replace tv := tv.below' b5
    replace hsh := hsh.below b5
    replace hS := fun b hb => Nat.lt_of_lt_of_le (hS b hb) b5.size
    replace B := B.trans (b5.mono B.size)
    clear b5 c0 c1 c2 c3 how6
    have c0 : w6.cell? ⟨w.heap.size, 0, none⟩ = some (.int .i64 i0) := K.cell 0
    have c1 : w6.cell? ⟨w.heap.size, 1, none⟩ = some (.int .u64 i1) := K.cell 1
    have c2 : w6.cell? ⟨w.heap.size, 2, none⟩ = some (.slice X2 n2 z2) := K.cell 2
    have c3 : w6.cell? ⟨w.heap.size, 3, none⟩ = some (.slice X3 n3 z3) := K.cell 3
    have hp := rPut_any S f t _ w6 tv
    go_wp2_with fail
    refine hp.mono ?_
    clear hp
    rintro e w7 ⟨u7, rfl, how7, b5⟩
    have x2 := own_BS how7
    replace x1 := x1.below' b5
    replace K := K.below b5 K.lt
    replace tv := tv.below' b5
    replace hsh := hsh.below b5
    replace hS := fun b hb => Nat.lt_of_lt_of_le (hS b hb) b5.size
    replace B := B.trans (b5.mono B.size)
    clear b5 c0 c1 c2 c3 how7
    have hE : I64 (putOf f t).2 := by
      unfold putOf I64
      split
      · split <;> simp
      · simp
    generalize putOf f t = PO at *
    obtain ⟨pb, pe⟩ := PO
    dsimp only at x1 x2 hE
    obtain ⟨A1, y1, rfl, _⟩ := x1.form
    obtain ⟨A2, y2, rfl, _⟩ := x2.form
    have h0 : I64 0 := by unfold I64; omega
    have h1 : I64 1 := by unfold I64; omega
    replace K : KB w7.drew w.heap.size 26 #[.int .i64 i0, .int .u64 i1, .slice X2 n2 z2, .slice X3 n3 z3] := K
    replace tv : TV w7.drew S f (.agg #[.int .i64 i0, .int .u64 i1, .slice X2 n2 z2, .slice X3 n3 z3]) t := tv.keep (Nat.le_refl _) fun _ _ _ => rfl
    replace hsh : Shp w7.drew := hsh.keep (Nat.le_refl _) rfl
    replace hS : ∀ b, S b → b < w7.drew.heap.size := hS
    replace B : Below w.heap.size w w7.drew := Below_drawn B 1
    replace x1 : BS w7.drew _ _ _ := x1
    replace x2 : BS w7.drew _ _ _ := x2
    have hck := fun (w : World) (hS : ∀ b, S b → b < w.heap.size) (hsh : Shp w) (tv : TV w S f (.agg #[.int .i64 i0, .int .u64 i1, .slice X2 n2 z2, .slice X3 n3 z3]) t) => check_any S f t _ w hS hsh tv
    have hmy := fun (w : World) (tv : TV w S f (.agg #[.int .i64 i0, .int .u64 i1, .slice X2 n2 z2, .slice X3 n3 z3]) t) => rMay_any S f t _ w tv
    have c0 : w7.cell? ⟨w.heap.size, 0, none⟩ = some (.int .i64 i0) := K.cell 0
    have c1 : w7.cell? ⟨w.heap.size, 1, none⟩ = some (.int .u64 i1) := K.cell 1
    have c2 : w7.cell? ⟨w.heap.size, 2, none⟩ = some (.slice X2 n2 z2) := K.cell 2
    have c3 : w7.cell? ⟨w.heap.size, 3, none⟩ = some (.slice X3 n3 z3) := K.cell 3
    cases hm : mayT f t 8 with
    | true =>
      rw [hm, if_pos rfl] at hck
      rw [hm] at hmy
      clear hm
      go_wp2_with fail
      go_region_law
        (first
          | (go_simp; go_at_call 11; refine (same_to _ _ _ _ pb _ x1 x2).mono ?_; rintro e w5 ⟨rfl, b5⟩; clear x1 x2; replace K := K.below b5 K.lt; replace tv := tv.below' b5; replace hsh := hsh.below b5; replace hS := (fun b hb => Nat.lt_of_lt_of_le (hS b hb) b5.size); replace B := B.trans (b5.mono B.size); clear b5 c0 c1 c2 c3; have c0 : w5.cell? ⟨w.heap.size, 0, none⟩ = some (.int .i64 i0) := K.cell 0; have c1 : w5.cell? ⟨w.heap.size, 1, none⟩ = some (.int .u64 i1) := K.cell 1; have c2 : w5.cell? ⟨w.heap.size, 2, none⟩ = some (.slice X2 n2 z2) := K.cell 2; have c3 : w5.cell? ⟨w.heap.size, 3, none⟩ = some (.slice X3 n3 z3) := K.cell 3)
          | (go_simp; go_at_call 12; refine (errno_any _ _ (by first | exact hE | exact h0 | exact h1)).mono ?_; rintro e w5 ⟨rfl, rfl⟩)
          | (go_simp; go_at_call 13; refine (hck _ hS hsh tv).mono ?_; rintro e w5 ⟨rfl, b5⟩; replace K := K.below b5 K.lt; replace tv := tv.below' b5; replace hsh := hsh.below b5; replace hS := (fun b hb => Nat.lt_of_lt_of_le (hS b hb) b5.size); replace B := B.trans (b5.mono B.size); clear b5 c0 c1 c2 c3; have c0 : w5.cell? ⟨w.heap.size, 0, none⟩ = some (.int .i64 i0) := K.cell 0; have c1 : w5.cell? ⟨w.heap.size, 1, none⟩ = some (.int .u64 i1) := K.cell 1; have c2 : w5.cell? ⟨w.heap.size, 2, none⟩ = some (.slice X2 n2 z2) := K.cell 2; have c3 : w5.cell? ⟨w.heap.size, 3, none⟩ = some (.slice X3 n3 z3) := K.cell 3)
          | (go_simp; go_at_call 14; refine (hmy _ tv).mono ?_; rintro e w5 ⟨rfl, b5⟩; replace K := K.below b5 K.lt; replace tv := tv.below' b5; replace hsh := hsh.below b5; replace hS := (fun b hb => Nat.lt_of_lt_of_le (hS b hb) b5.size); replace B := B.trans (b5.mono B.size); clear b5 c0 c1 c2 c3; have c0 : w5.cell? ⟨w.heap.size, 0, none⟩ = some (.int .i64 i0) := K.cell 0; have c1 : w5.cell? ⟨w.heap.size, 1, none⟩ = some (.int .u64 i1) := K.cell 1; have c2 : w5.cell? ⟨w.heap.size, 2, none⟩ = some (.slice X2 n2 z2) := K.cell 2; have c3 : w5.cell? ⟨w.heap.size, 3, none⟩ = some (.slice X3 n3 z3) := K.cell 3)
          | (go_simp; go_at_call 8; refine (live_any _ hsh).mono ?_; rintro e w5 ⟨rfl, b5⟩; replace K := K.below b5 K.lt; replace tv := tv.below' b5; replace hsh := hsh.below b5; replace hS := (fun b hb => Nat.lt_of_lt_of_le (hS b hb) b5.size); replace B := B.trans (b5.mono B.size); clear b5 c0 c1 c2 c3; have c0 : w5.cell? ⟨w.heap.size, 0, none⟩ = some (.int .i64 i0) := K.cell 0; have c1 : w5.cell? ⟨w.heap.size, 1, none⟩ = some (.int .u64 i1) := K.cell 1; have c2 : w5.cell? ⟨w.heap.size, 2, none⟩ = some (.slice X2 n2 z2) := K.cell 2; have c3 : w5.cell? ⟨w.heap.size, 3, none⟩ = some (.slice X3 n3 z3) := K.cell 3))
      all_goals
        clear c0 c1 c2 c3
        go_wp2
        go_ret
        exact ⟨rfl, B⟩
    | false =>
      rw [hm, if_neg Bool.false_ne_true] at hck
      rw [hm] at hmy
      clear hm
      go_wp2_with fail
      go_region_law
        (first
          | (go_simp; go_at_call 11; refine (same_to _ _ _ _ pb _ x1 x2).mono ?_; rintro e w5 ⟨rfl, b5⟩; clear x1 x2; replace K := K.below b5 K.lt; replace tv := tv.below' b5; replace hsh := hsh.below b5; replace hS := (fun b hb => Nat.lt_of_lt_of_le (hS b hb) b5.size); replace B := B.trans (b5.mono B.size); clear b5 c0 c1 c2 c3; have c0 : w5.cell? ⟨w.heap.size, 0, none⟩ = some (.int .i64 i0) := K.cell 0; have c1 : w5.cell? ⟨w.heap.size, 1, none⟩ = some (.int .u64 i1) := K.cell 1; have c2 : w5.cell? ⟨w.heap.size, 2, none⟩ = some (.slice X2 n2 z2) := K.cell 2; have c3 : w5.cell? ⟨w.heap.size, 3, none⟩ = some (.slice X3 n3 z3) := K.cell 3)
          | (go_simp; go_at_call 12; refine (errno_any _ _ (by first | exact hE | exact h0 | exact h1)).mono ?_; rintro e w5 ⟨rfl, rfl⟩)
          | (go_simp; go_at_call 13; refine (hck _ hS hsh tv).mono ?_; rintro e w5 ⟨rfl, b5⟩; replace K := K.below b5 K.lt; replace tv := tv.below' b5; replace hsh := hsh.below b5; replace hS := (fun b hb => Nat.lt_of_lt_of_le (hS b hb) b5.size); replace B := B.trans (b5.mono B.size); clear b5 c0 c1 c2 c3; have c0 : w5.cell? ⟨w.heap.size, 0, none⟩ = some (.int .i64 i0) := K.cell 0; have c1 : w5.cell? ⟨w.heap.size, 1, none⟩ = some (.int .u64 i1) := K.cell 1; have c2 : w5.cell? ⟨w.heap.size, 2, none⟩ = some (.slice X2 n2 z2) := K.cell 2; have c3 : w5.cell? ⟨w.heap.size, 3, none⟩ = some (.slice X3 n3 z3) := K.cell 3)
          | (go_simp; go_at_call 14; refine (hmy _ tv).mono ?_; rintro e w5 ⟨rfl, b5⟩; replace K := K.below b5 K.lt; replace tv := tv.below' b5; replace hsh := hsh.below b5; replace hS := (fun b hb => Nat.lt_of_lt_of_le (hS b hb) b5.size); replace B := B.trans (b5.mono B.size); clear b5 c0 c1 c2 c3; have c0 : w5.cell? ⟨w.heap.size, 0, none⟩ = some (.int .i64 i0) := K.cell 0; have c1 : w5.cell? ⟨w.heap.size, 1, none⟩ = some (.int .u64 i1) := K.cell 1; have c2 : w5.cell? ⟨w.heap.size, 2, none⟩ = some (.slice X2 n2 z2) := K.cell 2; have c3 : w5.cell? ⟨w.heap.size, 3, none⟩ = some (.slice X3 n3 z3) := K.cell 3)
          | (go_simp; go_at_call 8; refine (live_any _ hsh).mono ?_; rintro e w5 ⟨rfl, b5⟩; replace K := K.below b5 K.lt; replace tv := tv.below' b5; replace hsh := hsh.below b5; replace hS := (fun b hb => Nat.lt_of_lt_of_le (hS b hb) b5.size); replace B := B.trans (b5.mono B.size); clear b5 c0 c1 c2 c3; have c0 : w5.cell? ⟨w.heap.size, 0, none⟩ = some (.int .i64 i0) := K.cell 0; have c1 : w5.cell? ⟨w.heap.size, 1, none⟩ = some (.int .u64 i1) := K.cell 1; have c2 : w5.cell? ⟨w.heap.size, 2, none⟩ = some (.slice X2 n2 z2) := K.cell 2; have c3 : w5.cell? ⟨w.heap.size, 3, none⟩ = some (.slice X3 n3 z3) := K.cell 3))
      all_goals
        clear c0 c1 c2 c3
        go_wp2
        go_ret
        exact ⟨rfl, B⟩

theorem termPuts_law {H : Type} (enc : TypeId × Value → H) (W : World) (base : Nat) (ht : Shp W) (v0 : Value) (d0 : DataW H) (p0 : List MemPlace)
    (ok0 : Value.okWide Tryd.prog W .any base 26 v0) (h0 : DataW.Trod enc Tryd.prog W 0 (fun _ => true) true 26 v0 d0 p0) :
    Calls Tryd.prog 3 #[v0] W fun e W' => e = .returned (.bool true) ∧ Below W.heap.size W W' := by
  obtain ⟨n, hn⟩ := open_term ok0 h0
  obtain ⟨t, tv⟩ := hn n (Nat.le_refl _)
  exact termPuts_any _ n t v0 W (fun b h => h) ht tv
end Go.Proofs.YtmepcdljobdigaaDoor
