/-
  The law RuleExpr over the loaded program: conditions are written, rules are the same, and a class's rule is found, as the document says. No condition.
-/
import Derived.Test.YtbhebjkicooidaaDoorRuX
import Derived.Test.YtbhebjkicooidaaDoorRvD
import Derived.Test.YtbhebjkicooidaaDoorRuD
import Derived.Test.YtbhebjkicooidaaDoorRuH
import Derived.Test.YtbhebjkicooidaaDoorRuI
import Derived.Test.YtbhebjkicooidaaDoorRuO
namespace Go.Proofs.YtbhebjkicooidaaDoor
open Go.RowKit Go.ChangeShapes Go.WideShapes Go.Joins
set_option maxRecDepth 100000
set_option linter.unusedVariables false

set_option maxHeartbeats 8000000 in
/-- Find. -/
theorem rfind_any (S : Nat → Prop) (f : Nat) (l : List (Rl f)) (c : List UInt8) (v : Value) (w : World) (hS : ∀ b, S b → b < w.heap.size) (hv : RS w S f v l) :
    Calls Tryd.prog 19 #[v, strV c] w (FindAs w f (seekR f l c)) := by
  obtain ⟨A3, cap3, rfl, hl3, hm3⟩ := hv.form
  have hlen : l.length ≤ 9223372036854775807 := by unfold maxLen at hm3; omega
  obtain ⟨D, hD⟩ : ∃ D, D = FindAs w f (seekR f l c) := ⟨_, rfl⟩
  rw [← hD]
  have HNO : Hid (placeR f l c < 0 → placeR f l [] < 0 → ∀ W, Below w.heap.size w W → D (.returned (.tuple #[.agg #[.string ⟨#[]⟩, .int .i64 0, .int .i64 0, .string ⟨#[]⟩, .slice none 0 0, .int .i64 0], .bool false])) W) := fun h1 h2 W hb => by
    rw [hD]
    unfold seekR
    rw [if_neg (by omega), if_neg (by omega)]
    exact ⟨rfl, hb⟩
  have HYES : Hid (∀ (j : Nat) (hj : j < l.length), (placeR f l c = (j : Int) ∨ (placeR f l c < 0 ∧ placeR f l [] = (j : Int))) → ∀ W d0 d1 d2 d3, EX W (fun b => b < W.heap.size) f l[j].when_ d0 d1 d2 d3 → l[j].cls.length ≤ maxLen → I64 l[j].act → Below w.heap.size w W → D (.returned (.tuple #[.agg #[strV l[j].cls, d0, d1, d2, d3, .int .i64 l[j].act], .bool true])) W) := fun j hj h W d0 d1 d2 d3 hx hm hi hb => by
    rw [hD]
    have e : seekR f l c = some l[j] := by
      unfold seekR
      rcases h with h | ⟨h1, h2⟩
      · rw [if_pos (by omega), h, Int.toNat_natCast, List.getElem?_eq_getElem hj]
      · rw [if_neg (by omega), if_pos (by omega), h2, Int.toNat_natCast, List.getElem?_eq_getElem hj]
    rw [e]
    exact ⟨_, rfl, ⟨_, _, _, _, _, _, rfl, rfl, hm, hx, rfl, hi⟩, hb⟩
  clear hD
  have HRB : Hid (∀ (wr : World), Below w.heap.size w wr → ∀ (j : Nat) (hj : j < l.length), ∃ b o e1 e2 e3 e4, A3 = some ⟨b, o, none⟩ ∧ b < w.heap.size ∧ wr.cell? ⟨b, o + j * 6, none⟩ = some (strV l[j].cls) ∧ wr.cell? ⟨b, o + j * 6 + 1, none⟩ = some e1 ∧ wr.cell? ⟨b, o + j * 6 + 2, none⟩ = some e2 ∧ wr.cell? ⟨b, o + j * 6 + 3, none⟩ = some e3 ∧
      wr.cell? ⟨b, o + j * 6 + 4, none⟩ = some e4 ∧ wr.cell? ⟨b, o + j * 6 + 5, none⟩ = some (.int .i64 l[j].act) ∧ EV wr S f (.agg #[e1, e2, e3, e4]) l[j].when_ ∧ l[j].cls.length ≤ maxLen ∧ I64 l[j].act) := fun wr hb j hj => rule_b hv rfl hb j hj
  have HS := Lib.hid hS
  clear hv hS
  have K0 := KB.new w 37 #[.string ⟨#[]⟩, .int .i64 0, .int .i64 0, .string ⟨#[]⟩, .slice none 0 0, .int .i64 0]
  have B0 := (Below.refl w.heap.size w).alloc (Nat.le_refl _) (.cells #[.string ⟨#[]⟩, .int .i64 0, .int .i64 0, .string ⟨#[]⟩, .slice none 0 0, .int .i64 0] 37)
  go_enter Tryd.func19, Tryd.ntmps19
  unfold strV at *
  obtain ⟨sq, hsq⟩ : ∃ s : ByteArray, s = ⟨c.toArray⟩ := ⟨_, rfl⟩
  rw [← hsq]
  have HSQ := Lib.hid hsq
  clear hsq
  go_wp2_with fail
  go_loopw [6] (fun iv wr => ∃ j : Nat, j ≤ l.length ∧ iv = .int .i64 j ∧ Hid (∀ (i : Nat) (hi : i < l.length), i < j → l[i].cls ≠ c) ∧ KB wr w.heap.size 37 #[.string ⟨#[]⟩, .int .i64 0, .int .i64 0, .string ⟨#[]⟩, .slice none 0 0, .int .i64 0] ∧ Below w.heap.size w wr) (fun iv _ => l.length - (intOf iv).toNat)
  case atStart => exact ⟨0, by omega, rfl, fun i _ h => absurd h (Nat.not_lt_zero _), K0, B0⟩
  case round =>
    clear K0 B0
    obtain ⟨j, hj, rfl, hall, K, B⟩ := hrel
    by_cases hlt : j < l.length
    · have hltI : (j : Int) < (l.length : Int) := by omega
      obtain ⟨b, o, e1, e2, e3, e4, rfl, hb, k0, k1, k2, k3, k4, k5, hx, hcm, hai⟩ := HRB.out wr B j hlt
      have hxw := hx
      obtain ⟨_, _, _, _, e, hx4⟩ := hxw
      injection e with e
      simp only [Array.mk.injEq, List.cons.injEq, and_true] at e
      obtain ⟨rfl, rfl, rfl, rfl⟩ := e
      obtain ⟨i0, i1, l2, X3, n3, z3, rfl, rfl, rfl, rfl⟩ := hx4.form
      obtain ⟨s, hs⟩ : ∃ s : ByteArray, s = ⟨l[j].cls.toArray⟩ := ⟨_, rfl⟩
      obtain ⟨s2, hs2⟩ : ∃ s : ByteArray, strV l2 = .string s := ⟨_, rfl⟩
      rw [← hs] at k0
      rw [hs2] at k3 hx
      clear hx4
      have gq := eq_txt s sq _ _ hs HSQ.out
      by_cases hcl : l[j].cls = c
      · have HYJ := Lib.hid (fun W d0 d1 d2 d3 hxx hbb => HYES.out j hlt (.inl (place_some hlt hall.out hcl)) W d0 d1 d2 d3 hxx hcm hai hbb)
        rw [decide_eq_true hcl] at gq
        obtain ⟨_, _, _, _, e, hx4⟩ := hx
        injection e with e
        simp only [Array.mk.injEq, List.cons.injEq, and_true] at e
        obtain ⟨rfl, rfl, rfl, rfl⟩ := e
        generalize l[j].act = ac at *
        rw [← hs] at HYJ
        generalize l[j].when_ = wh at *
        have r0 := K.cell 0
        have r1 := K.cell 1
        have r2 := K.cell 2
        have r3 := K.cell 3
        have r4 := K.cell 4
        have r5 := K.cell 5
        have g0 := K.free 0
        have g1 := K.free 1
        have g2 := K.free 2
        have g3 := K.free 3
        have g4 := K.free 4
        have g5 := K.free 5
        obtain ⟨W8, hW8⟩ : ∃ W8, W8 = ((((((wr.setCell ⟨w.heap.size, 0, none⟩ (.string s)).setCell ⟨w.heap.size, 1, none⟩ (.int .i64 i0)).setCell ⟨w.heap.size, 2, none⟩ (.int .i64 i1)).setCell ⟨w.heap.size, 3, none⟩ (.string s2)).setCell ⟨w.heap.size, 4, none⟩ (.slice X3 n3 z3)).setCell ⟨w.heap.size, 5, none⟩ (.int .i64 ac)) := ⟨_, rfl⟩
        have kfin : KB W8 w.heap.size 37 #[.string s, .int .i64 i0, .int .i64 i1, .string s2, .slice X3 n3 z3, .int .i64 ac] := by rw [hW8]; exact (((((K.put 0 _).put 1 _).put 2 _).put 3 _).put 4 _).put 5 _
        have hs8 : W8.heap.size = wr.heap.size := by rw [hW8]; simp [World.setCell]
        have b8 : Below w.heap.size w W8 := by rw [hW8]; exact (((((B.setCell (p := ⟨w.heap.size, 0, none⟩) (Nat.le_refl _) _).setCell (p := ⟨w.heap.size, 1, none⟩) (Nat.le_refl _) _).setCell (p := ⟨w.heap.size, 2, none⟩) (Nat.le_refl _) _).setCell (p := ⟨w.heap.size, 3, none⟩) (Nat.le_refl _) _).setCell (p := ⟨w.heap.size, 4, none⟩) (Nat.le_refl _) _).setCell (p := ⟨w.heap.size, 5, none⟩) (Nat.le_refl _) _
        have hblk : ∀ q, q < w.heap.size → W8.heap[q]? = wr.heap[q]? := fun q hq => by rw [hW8]; exact (Below.heap_setCell _ _ _ _ (by show q ≠ w.heap.size; omega)).trans ((Below.heap_setCell _ _ _ _ (by show q ≠ w.heap.size; omega)).trans ((Below.heap_setCell _ _ _ _ (by show q ≠ w.heap.size; omega)).trans ((Below.heap_setCell _ _ _ _ (by show q ≠ w.heap.size; omega)).trans ((Below.heap_setCell _ _ _ _ (by show q ≠ w.heap.size; omega)).trans (Below.heap_setCell _ _ _ _ (by show q ≠ w.heap.size; omega))))))
        have hfin := HYJ.out W8 _ _ _ _ (EX.keepL f wh _ _ _ _ hx4 (by omega) (fun q h _ => hblk q (HS.out q h)) (fun q h _ => by have := HS.out q h; have := b8.size; omega)) b8
        have HW8 := Lib.hid hW8
        have hbw : b < wr.heap.size := Nat.lt_of_lt_of_le hb B.size
        clear hx4 hblk hW8 hs hs2 b8 HYJ HYES HNO hall hcl hcm hai HRB HSQ HS hs8 K B
        go_wp2_with fail
        rw [← HW8.out]
        exact bodyPost_ret (results_cell_tmp (P := Tryd.prog) (p := 4) (u := 5) rfl _ _ w.heap.size _ _ (0, 0) _ rfl kfin Tryd.underlying37 rfl (by kernel_rfl)) rfl hfin
      · have HN : Hid (∀ (i : Nat) (hi : i < l.length), i < j + 1 → l[i].cls ≠ c) := fun i hi hij => by
          rcases Nat.lt_or_ge i j with h' | h'
          · exact hall.out i hi h'
          · obtain rfl : i = j := by omega
            exact hcl
        rw [decide_eq_false hcl] at gq
        clear hall HNO HYES hcl hs hx hcm hai
        generalize l[j].act = ac at *
        generalize l[j].when_ = wh at *
        go_wp2_with fail
        go_roundw
        case rel => exact ⟨j + 1, by omega, by go_num, HN, K, B⟩
        case measure => simp [intOf]; omega
    · have hj' : j = l.length := by omega
      subst hj'
      have HC1 : Hid (placeR f l c < 0) := by
        show _ < _
        rw [place_none (fun i hi => hall.out i hi hi)]; omega
      clear hall hlt hj
      go_wp2_with fail
      go_loopw [7] (fun iv wr => ∃ j : Nat, j ≤ l.length ∧ iv = .int .i64 j ∧ Hid (∀ (i : Nat) (hi : i < l.length), i < j → l[i].cls ≠ []) ∧ KB wr w.heap.size 37 #[.string ⟨#[]⟩, .int .i64 0, .int .i64 0, .string ⟨#[]⟩, .slice none 0 0, .int .i64 0] ∧ Below w.heap.size w wr) (fun iv _ => l.length - (intOf iv).toNat)
      case atStart => exact ⟨0, by omega, rfl, fun i _ h => absurd h (Nat.not_lt_zero _), K, B⟩
      case round =>
        clear K B
        obtain ⟨j, hj, rfl, hall, K, B⟩ := hrel
        by_cases hlt : j < l.length
        · have hltI : (j : Int) < (l.length : Int) := by omega
          obtain ⟨b, o, e1, e2, e3, e4, rfl, hb, k0, k1, k2, k3, k4, k5, hx, hcm, hai⟩ := HRB.out _ B j hlt
          have hxw := hx
          obtain ⟨_, _, _, _, e, hx4⟩ := hxw
          injection e with e
          simp only [Array.mk.injEq, List.cons.injEq, and_true] at e
          obtain ⟨rfl, rfl, rfl, rfl⟩ := e
          obtain ⟨i0, i1, l2, X3, n3, z3, rfl, rfl, rfl, rfl⟩ := hx4.form
          obtain ⟨s, hs⟩ : ∃ s : ByteArray, s = ⟨l[j].cls.toArray⟩ := ⟨_, rfl⟩
          obtain ⟨s2, hs2⟩ : ∃ s : ByteArray, strV l2 = .string s := ⟨_, rfl⟩
          rw [← hs] at k0
          rw [hs2] at k3 hx
          clear hx4
          by_cases hcl : l[j].cls = []
          · have HYJ := Lib.hid (fun W d0 d1 d2 d3 hxx hbb => HYES.out j hlt (.inr ⟨HC1.out, place_some hlt hall.out hcl⟩) W d0 d1 d2 d3 hxx hcm hai hbb)
            obtain ⟨gq, gp⟩ := eq_two s l[j].cls [] hs true (decide_eq_true hcl)
            have gn : s.toList = [] := beq_iff_eq.1 gq
            obtain ⟨_, _, _, _, e, hx4⟩ := hx
            injection e with e
            simp only [Array.mk.injEq, List.cons.injEq, and_true] at e
            obtain ⟨rfl, rfl, rfl, rfl⟩ := e
            generalize l[j].act = ac at *
            rw [← hs] at HYJ
            generalize l[j].when_ = wh at *
            have r0 := K.cell 0
            have r1 := K.cell 1
            have r2 := K.cell 2
            have r3 := K.cell 3
            have r4 := K.cell 4
            have r5 := K.cell 5
            have g0 := K.free 0
            have g1 := K.free 1
            have g2 := K.free 2
            have g3 := K.free 3
            have g4 := K.free 4
            have g5 := K.free 5
            obtain ⟨W8, hW8⟩ : ∃ W8, W8 = ((((((wr.setCell ⟨w.heap.size, 0, none⟩ (.string s)).setCell ⟨w.heap.size, 1, none⟩ (.int .i64 i0)).setCell ⟨w.heap.size, 2, none⟩ (.int .i64 i1)).setCell ⟨w.heap.size, 3, none⟩ (.string s2)).setCell ⟨w.heap.size, 4, none⟩ (.slice X3 n3 z3)).setCell ⟨w.heap.size, 5, none⟩ (.int .i64 ac)) := ⟨_, rfl⟩
            have kfin : KB W8 w.heap.size 37 #[.string s, .int .i64 i0, .int .i64 i1, .string s2, .slice X3 n3 z3, .int .i64 ac] := by rw [hW8]; exact (((((K.put 0 _).put 1 _).put 2 _).put 3 _).put 4 _).put 5 _
            have hs8 : W8.heap.size = wr.heap.size := by rw [hW8]; simp [World.setCell]
            have b8 : Below w.heap.size w W8 := by rw [hW8]; exact (((((B.setCell (p := ⟨w.heap.size, 0, none⟩) (Nat.le_refl _) _).setCell (p := ⟨w.heap.size, 1, none⟩) (Nat.le_refl _) _).setCell (p := ⟨w.heap.size, 2, none⟩) (Nat.le_refl _) _).setCell (p := ⟨w.heap.size, 3, none⟩) (Nat.le_refl _) _).setCell (p := ⟨w.heap.size, 4, none⟩) (Nat.le_refl _) _).setCell (p := ⟨w.heap.size, 5, none⟩) (Nat.le_refl _) _
            have hblk : ∀ q, q < w.heap.size → W8.heap[q]? = wr.heap[q]? := fun q hq => by rw [hW8]; exact (Below.heap_setCell _ _ _ _ (by show q ≠ w.heap.size; omega)).trans ((Below.heap_setCell _ _ _ _ (by show q ≠ w.heap.size; omega)).trans ((Below.heap_setCell _ _ _ _ (by show q ≠ w.heap.size; omega)).trans ((Below.heap_setCell _ _ _ _ (by show q ≠ w.heap.size; omega)).trans ((Below.heap_setCell _ _ _ _ (by show q ≠ w.heap.size; omega)).trans (Below.heap_setCell _ _ _ _ (by show q ≠ w.heap.size; omega))))))
            have hfin := HYJ.out W8 _ _ _ _ (EX.keepL f wh _ _ _ _ hx4 (by omega) (fun q h _ => hblk q (HS.out q h)) (fun q h _ => by have := HS.out q h; have := b8.size; omega)) b8
            have HW8 := Lib.hid hW8
            have hbw : b < wr.heap.size := Nat.lt_of_lt_of_le hb B.size
            clear hx4 hblk hW8 hs hs2 b8 HYJ HYES HNO hall hcl hcm hai HRB HSQ HS hs8 K B
            go_wp2_with fail
            rw [← HW8.out]
            exact bodyPost_ret (results_cell_tmp (P := Tryd.prog) (p := 4) (u := 5) rfl _ _ w.heap.size _ _ (0, 0) _ rfl kfin Tryd.underlying37 rfl (by kernel_rfl)) rfl hfin
          · have HN : Hid (∀ (i : Nat) (hi : i < l.length), i < j + 1 → l[i].cls ≠ []) := fun i hi hij => by
              rcases Nat.lt_or_ge i j with h' | h'
              · exact hall.out i hi h'
              · obtain rfl : i = j := by omega
                exact hcl
            obtain ⟨gq, gp⟩ := eq_two s l[j].cls [] hs false (decide_eq_false hcl)
            have gn : ¬ s.toList = [] := beq_eq_false_iff_ne.1 gq
            clear hall HNO HYES hcl hs hx hcm hai
            generalize l[j].act = ac at *
            generalize l[j].when_ = wh at *
            go_wp2_with fail
            go_roundw
            case rel => exact ⟨j + 1, by omega, by go_num, HN, K, B⟩
            case measure => simp [intOf]; omega
        · have hj' : j = l.length := by omega
          subst hj'
          have hno := HNO.out HC1.out (by rw [place_none (fun i hi => hall.out i hi hi)]; omega)
          clear hall hlt hj
          have K7 := K
          have r0 := K7.cell 0
          have r1 := K7.cell 1
          have r2 := K7.cell 2
          have r3 := K7.cell 3
          have r4 := K7.cell 4
          have r5 := K7.cell 5
          have g0 := K7.free 0
          have g1 := K7.free 1
          have g2 := K7.free 2
          have g3 := K7.free 3
          have g4 := K7.free 4
          have g5 := K7.free 5
          obtain ⟨W8, hW8⟩ : ∃ W8, W8 = ((((((wr.setCell ⟨w.heap.size, 0, none⟩ (.string ⟨#[]⟩)).setCell ⟨w.heap.size, 1, none⟩ (.int .i64 0)).setCell ⟨w.heap.size, 2, none⟩ (.int .i64 0)).setCell ⟨w.heap.size, 3, none⟩ (.string ⟨#[]⟩)).setCell ⟨w.heap.size, 4, none⟩ (.slice none 0 0)).setCell ⟨w.heap.size, 5, none⟩ (.int .i64 0)) := ⟨_, rfl⟩
          have kfin : KB W8 w.heap.size 37 #[.string ⟨#[]⟩, .int .i64 0, .int .i64 0, .string ⟨#[]⟩, .slice none 0 0, .int .i64 0] := by rw [hW8]; exact (((((K7.put 0 _).put 1 _).put 2 _).put 3 _).put 4 _).put 5 _
          have b8 : Below w.heap.size w W8 := by rw [hW8]; exact (((((B.setCell (p := ⟨w.heap.size, 0, none⟩) (Nat.le_refl _) _).setCell (p := ⟨w.heap.size, 1, none⟩) (Nat.le_refl _) _).setCell (p := ⟨w.heap.size, 2, none⟩) (Nat.le_refl _) _).setCell (p := ⟨w.heap.size, 3, none⟩) (Nat.le_refl _) _).setCell (p := ⟨w.heap.size, 4, none⟩) (Nat.le_refl _) _).setCell (p := ⟨w.heap.size, 5, none⟩) (Nat.le_refl _) _
          have hfin := hno W8 b8
          have HW8 := Lib.hid hW8
          clear hno K7 b8 hW8 HNO HYES HRB HC1 HSQ HS K B
          go_wp2_with fail
          rw [← HW8.out]
          exact bodyPost_ret (results_cell_tmp (P := Tryd.prog) (p := 4) (u := 5) rfl _ _ w.heap.size _ _ (0, 0) _ rfl kfin Tryd.underlying37 rfl (by kernel_rfl)) rfl hfin

/-- One rule, alone in a block. -/
theorem rs_one {W : World} {S : Nat → Prop} {f R : Nat} {r : Rl f} {t : TypeId} {c0 c1 c2 c3 c4 c5 : Value} (h : KB W R t #[c0, c1, c2, c3, c4, c5]) (hS : S R) (hr : RX W S f r c0 c1 c2 c3 c4 c5) : RS W S f (.slice (some ⟨R, 0, none⟩) 1 1) [r] := by
  refine ⟨_, 1, rfl, by simp, by unfold maxLen; omega, fun _ => ⟨R, 0, rfl, hS, h.lt, fun i u hi => ?_⟩⟩
  match i with
  | 0 =>
    injection hi with hi
    subst hi
    exact ⟨_, _, _, _, _, _, h.cell 0, h.cell 1, h.cell 2, h.cell 3, h.cell 4, h.cell 5, hr⟩
  | k + 1 => cases hi

/-- The rule that says nothing. -/
def noR (k : Nat) : Rl (k + 1) := ⟨[], (⟨0, 0, [], []⟩ : Nx (Ex k)), 0⟩
/-- What is found, or the rule that says nothing, as six cells. -/
theorem found_six {w w' : World} {k : Nat} {o : Option (Rl (k + 1))} {e : Ending} (h : FindAs w (k + 1) o e w') : ∃ (s0 s3 : ByteArray) (i1 i2 i5 : Int) (X4 : Option Addr) (n4 z4 : Nat),
    e = .returned (.tuple #[.agg #[.string s0, .int .i64 i1, .int .i64 i2, .string s3, .slice X4 n4 z4, .int .i64 i5], .bool o.isSome]) ∧
    RX w' (fun b => b < w'.heap.size) (k + 1) (o.getD (noR k)) (.string s0) (.int .i64 i1) (.int .i64 i2) (.string s3) (.slice X4 n4 z4) (.int .i64 i5) ∧ Below w.heap.size w w' := by
  cases o with
  | none =>
    obtain ⟨rfl, hb⟩ := h
    exact ⟨_, _, _, _, _, _, _, _, rfl, ⟨rfl, Nat.zero_le _, ⟨rfl, by show I64 0; unfold I64; decide, rfl, by show I64 0; unfold I64; decide, rfl, Nat.zero_le _, XS.nil _ _ _⟩, rfl, by show I64 0; unfold I64; decide⟩, hb⟩
  | some r =>
    obtain ⟨v, rfl, ⟨c0, c1, c2, c3, c4, c5, rfl, rfl, h1, h2, rfl, h4⟩, hb⟩ := h
    obtain ⟨i0, i1, l2, X3, n3, z3, rfl, rfl, rfl, rfl⟩ := h2.form
    exact ⟨_, _, _, _, _, _, _, _, rfl, ⟨rfl, h1, h2, rfl, h4⟩, hb⟩
theorem RX.below' {w w' : World} {S S' : Nat → Prop} {f : Nat} {r : Rl f} {c0 c1 c2 c3 c4 c5 : Value} (h : RX w S f r c0 c1 c2 c3 c4 c5) (hb : Below w.heap.size w w') (hS : ∀ b, S b → S' b) : RX w' S' f r c0 c1 c2 c3 c4 c5 :=
  ⟨h.1, h.2.1, (h.2.2.1.below' hb).mono hS, h.2.2.2.1, h.2.2.2.2⟩
theorem same_self (f : Nat) (l : List (Rl f)) : sameXL (sameR f f) l l = true := (sameR_list f l l).2 rfl
theorem exprA_may {f : Nat} {x : Ex f} (h : mayX f x = true) : exprA f x = (exprX f x, 0) := by unfold exprA; rw [if_pos h]
theorem exprA_not {f : Nat} {x : Ex f} (h : ¬ mayX f x = true) : exprA f x = ([], 1) := by unfold exprA; rw [if_neg h]

theorem three_new (w : World) (t : TypeId) (c d e : Array Value) : KB (((w.alloc (.cells c t)).alloc (.cells d t)).alloc (.cells e t)) (w.heap.size + 1) t d ∧ KB (((w.alloc (.cells c t)).alloc (.cells d t)).alloc (.cells e t)) (w.heap.size + 1 + 1) t e ∧ Below w.heap.size w (((w.alloc (.cells c t)).alloc (.cells d t)).alloc (.cells e t)) := by
  have h2 := KB.new (w.alloc (.cells c t)) t d
  have h3 := KB.new ((w.alloc (.cells c t)).alloc (.cells d t)) t e
  simp only [World.size_alloc] at h2 h3
  exact ⟨h2.alloc _, h3, (((Below.refl _ _).alloc (Nat.le_refl _) _).alloc (by simp) _).alloc (by simp; omega) _⟩

set_option maxHeartbeats 8000000 in
theorem expr_law (S : Nat → Prop) (k : Nat) (x : Ex (k + 1)) (la lb : List (Rl (k + 1))) (v0 v1 v2 : Value) (w : World) (hS : ∀ b, S b → b < w.heap.size) (hp : Pow w) (hx : EV w S (k + 1) v0 x) (ha : RS w S (k + 1) v1 la) (hb : RS w S (k + 1) v2 lb) :
    Calls Tryd.prog 4 #[v0, v1, v2] w fun e w' => e = .returned (.bool true) ∧ Below w.heap.size w w' := by
  obtain ⟨e0, e1, e2, e3, rfl, hx4⟩ := hx
  have hform := hx4.form
  have hx : EV w S (k + 1) (.agg #[e0, e1, e2, e3]) x := ⟨e0, e1, e2, e3, rfl, hx4⟩
  have hnum := num17_any
  have B0 := (Below.refl w.heap.size w).alloc (Nat.le_refl _) (.cells #[e0, e1, e2, e3] 35)
  have K0 := KB.new w 35 #[e0, e1, e2, e3]
  obtain ⟨w0, hw0⟩ : ∃ w0, w0 = w.alloc (.cells #[e0, e1, e2, e3] 35) := ⟨_, rfl⟩
  have hs0 : w0.heap.size = w.heap.size + 1 := by rw [hw0]; simp
  have HSz : Hid (∀ W, Below w0.heap.size w0 W → ∀ b, S b → b < W.heap.size) := fun W h b sb => by have := hS b sb; have := h.size; omega
  rw [← hw0] at B0 K0
  have hp0 := hp.below B0
  have hx0 := hx.below' B0
  have ha0 := ha.below' B0
  have hb0 := hb.below' B0
  have HL : Hid (∀ W, Below w0.heap.size w0 W → Calls Tryd.prog 7 #[] W fun e w' => e = .returned (.bool true) ∧ Below W.heap.size W w') := fun W h => live17_any W (hp0.below h)
  have HS1 : Hid (∀ (t : TypeId) (z : ByteArray), z = ⟨#[]⟩ → Calls Tryd.prog 6 #[.slice (some ⟨w0.heap.size, 0, none⟩) 1 1] (w0.alloc (.cells #[.string z, e0, e1, e2, e3, .int .i64 0] t)) (SmallAs (k + 1) [⟨[], x, 0⟩] (w0.alloc (.cells #[.string z, e0, e1, e2, e3, .int .i64 0] t)))) := fun t z hz => by
    subst hz
    have hk := KB.new w0 t #[.string ⟨#[]⟩, e0, e1, e2, e3, .int .i64 0]
    have hbb := (Below.refl w0.heap.size w0).alloc (Nat.le_refl _) (.cells #[.string ⟨#[]⟩, e0, e1, e2, e3, .int .i64 0] t)
    have hxx := (hx4.below' B0).below' hbb
    exact rsmall_any (fun _ => True) (k + 1) _ _ _ (rs_one hk trivial ⟨rfl, Nat.zero_le _, hxx.mono fun _ _ => trivial, rfl, by show I64 0; unfold I64; decide⟩)
  have HS2 : Hid (∀ W, Below w0.heap.size w0 W → Calls Tryd.prog 6 #[v1] W (SmallAs (k + 1) la W)) := fun W h => rsmall_any S _ la v1 W (ha0.below' h)
  have HS3 : Hid (∀ W, Below w0.heap.size w0 W → Calls Tryd.prog 6 #[v2] W (SmallAs (k + 1) lb W)) := fun W h => rsmall_any S _ lb v2 W (hb0.below' h)
  have HE : Hid (∀ W, Below w0.heap.size w0 W → Calls Tryd.prog 13 #[.agg #[e0, e1, e2, e3]] W fun e w' => e = .returned (.tuple #[strV (exprA (k + 1) x).1, .int .i64 (exprA (k + 1) x).2]) ∧ Below W.heap.size W w') := fun W h =>
    pexpr_any S _ x _ W (HSz.out W h) (hp0.below h) (hx0.below' h)
  have HY : Hid (∀ W, Below w0.heap.size w0 W → Calls Tryd.prog 14 #[.agg #[e0, e1, e2, e3]] W fun e w' => e = .returned (.bool (mayX (k + 1) x)) ∧ Below W.heap.size W w') := fun W h => rmay_any S _ x _ W (hx0.below' h)
  have HR : Hid (mayX (k + 1) x = true → ∀ W, Below w0.heap.size w0 W → Calls Tryd.prog 15 #[.agg #[e0, e1, e2, e3]] W fun e w' => e = .returned (strV (exprX (k + 1) x)) ∧ Below W.heap.size W w') := fun hm W h => by
    unfold mayX at hm
    rw [Bool.and_eq_true, decide_eq_true_eq] at hm
    exact rexpr_any S _ x 8 _ W hm.1 hm.2 (hx0.below' h)
  have HA : Hid (∀ W, Below w0.heap.size w0 W → Calls Tryd.prog 16 #[v1, v2] W fun e w' => e = .returned (.bool (sameXL (sameR (k + 1) (k + 1)) la lb)) ∧ Below W.heap.size W w') := fun W h => same_any S S _ la lb v1 v2 W (ha0.below' h) (hb0.below' h)
  have HB : Hid (∀ W, Below w0.heap.size w0 W → Calls Tryd.prog 17 #[v1, v2] W fun e w' => e = .returned (.bool (sameXL (sameR (k + 1) (k + 1)) la lb)) ∧ Below W.heap.size W w') := fun W h => rsame_any S S _ la lb v1 v2 W (ha0.below' h) (hb0.below' h)
  have HC : Hid (∀ W, Below w0.heap.size w0 W → Calls Tryd.prog 16 #[v1, v1] W fun e w' => e = .returned (.bool true) ∧ Below W.heap.size W w') := fun W h => by
    have := same_any S S _ la la v1 v1 W (ha0.below' h) (ha0.below' h)
    rw [same_self] at this
    exact this
  have HF : Hid (SmallOk (k + 1) la → ∀ (c : List UInt8) W, Below w0.heap.size w0 W → Calls Tryd.prog 18 #[v1, strV c] W (FindAs W (k + 1) (seekR (k + 1) la c))) := fun hk c W h =>
    find_any S _ la c v1 W (HSz.out W h) (fun r hr => ⟨by have := (hk.2 r hr).1; omega, (hk.2 r hr).2⟩) (ha0.below' h)
  have HG : Hid (∀ (c : List UInt8) W, Below w0.heap.size w0 W → Calls Tryd.prog 19 #[v1, strV c] W (FindAs W (k + 1) (seekR (k + 1) la c))) := fun c W h =>
    rfind_any S _ la c v1 W (HSz.out W h) (ha0.below' h)
  obtain ⟨A1, z1, rfl, _⟩ := ha.form
  obtain ⟨A2, z2, rfl, _⟩ := hb.form
  have HM : Hid (mayX (k + 1) x = true → exprA (k + 1) x = (exprX (k + 1) x, 0)) := exprA_may
  have HN : Hid (¬ mayX (k + 1) x = true → exprA (k + 1) x = ([], 1)) := exprA_not
  have HW0 := Lib.hid hw0
  clear hp hx ha hb hx4 hp0 hx0 ha0 hb0 hS
  obtain ⟨i0, i1, l2, X3, n3, z3, rfl, rfl, rfl, rfl⟩ := hform
  obtain ⟨s2, hs2⟩ : ∃ s : ByteArray, strV l2 = .string s := ⟨_, rfl⟩
  rw [hs2] at K0 HS1 HE HY HR HW0 ⊢
  have HF2 := Lib.hid (fun hk W h => HF.out hk l2 W h)
  have HG2 := Lib.hid (fun W h => HG.out l2 W h)
  rw [hs2] at HF2 HG2
  clear HF HG hs2 hw0
  go_enter Tryd.func4, Tryd.ntmps4
  go_wp2_with fail
  rw [← HW0.out, ← hs0]
  refine (HS1.out _ _ rfl).mono ?_
  rintro e w1 ⟨b, rfl, _, b1⟩
  have B := ((Below.refl w0.heap.size w0).alloc (Nat.le_refl _) (.cells #[.string ⟨#[]⟩, .int .i64 i0, .int .i64 i1, .string s2, .slice X3 n3 z3, .int .i64 0] 37)).trans (b1.mono (by simp))
  clear b1 HS1 HW0
  have q0 := (K0.below B K0.lt).cell 0
  have q1 := (K0.below B K0.lt).cell 1
  have q2 := (K0.below B K0.lt).cell 2
  have q3 := (K0.below B K0.lt).cell 3
  have hgl : w.heap.size < w0.heap.size := K0.lt
  cases b with
  | false =>
    go_wp2_with (go_at_call 7; refine (HL.out _ B).mono ?_; rintro e w1 ⟨rfl, b1⟩; replace B := B.trans (b1.mono B.size); clear b1; replace q0 := (K0.below B K0.lt).cell 0; replace q1 := (K0.below B K0.lt).cell 1; replace q2 := (K0.below B K0.lt).cell 2; replace q3 := (K0.below B K0.lt).cell 3)
    go_ret
    exact ⟨rfl, B0.trans (B.mono B0.size)⟩
  | true =>
    go_wp2_with fail
    refine (HS2.out _ B).mono ?_
    rintro e w1 ⟨b, rfl, hok, b1⟩
    replace B := B.trans (b1.mono B.size)
    clear b1 HS2
    replace q0 := (K0.below B K0.lt).cell 0
    replace q1 := (K0.below B K0.lt).cell 1
    replace q2 := (K0.below B K0.lt).cell 2
    replace q3 := (K0.below B K0.lt).cell 3
    cases b with
    | false =>
      go_wp2_with (go_at_call 7; refine (HL.out _ B).mono ?_; rintro e w1 ⟨rfl, b1⟩; replace B := B.trans (b1.mono B.size); clear b1; replace q0 := (K0.below B K0.lt).cell 0; replace q1 := (K0.below B K0.lt).cell 1; replace q2 := (K0.below B K0.lt).cell 2; replace q3 := (K0.below B K0.lt).cell 3)
      go_ret
      exact ⟨rfl, B0.trans (B.mono B0.size)⟩
    | true =>
      replace HF2 := Lib.hid (HF2.out (hok rfl))
      clear hok
      go_wp2_with fail
      refine (HS3.out _ B).mono ?_
      rintro e w1 ⟨b, rfl, _, b1⟩
      replace B := B.trans (b1.mono B.size)
      clear b1 HS3
      replace q0 := (K0.below B K0.lt).cell 0
      replace q1 := (K0.below B K0.lt).cell 1
      replace q2 := (K0.below B K0.lt).cell 2
      replace q3 := (K0.below B K0.lt).cell 3
      cases b with
      | false =>
        go_wp2_with (go_at_call 7; refine (HL.out _ B).mono ?_; rintro e w1 ⟨rfl, b1⟩; replace B := B.trans (b1.mono B.size); clear b1; replace q0 := (K0.below B K0.lt).cell 0; replace q1 := (K0.below B K0.lt).cell 1; replace q2 := (K0.below B K0.lt).cell 2; replace q3 := (K0.below B K0.lt).cell 3)
        go_ret
        exact ⟨rfl, B0.trans (B.mono B0.size)⟩
      | true =>
        have HF3 := Lib.hid (fun W h => (HF2.out W h).mono fun e w' => found_six)
        have HG3 := Lib.hid (fun W h => (HG2.out W h).mono fun e w' => found_six)
        clear HF2 HG2
        generalize sameXL (sameR (k + 1) (k + 1)) la lb = sm at *
        generalize (seekR (k + 1) la l2).isSome = bo at *
        generalize (seekR (k + 1) la l2).getD (noR k) = ro at *
        by_cases hm : mayX (k + 1) x = true
        · rw [HM.out hm] at HE
          rw [hm] at HY
          replace HR := Lib.hid (HR.out hm)
          clear hm HM HN
          dsimp only at HE
          generalize exprX (k + 1) x = tx at *
          unfold strV at *
          generalize (⟨tx.toArray⟩ : ByteArray) = sx at *
          go_wp2_with (first | (go_at_call 13; refine (HE.out _ B).mono ?_; rintro e w1 ⟨rfl, b1⟩; replace B := B.trans (b1.mono B.size); clear b1; replace q0 := (K0.below B K0.lt).cell 0; replace q1 := (K0.below B K0.lt).cell 1; replace q2 := (K0.below B K0.lt).cell 2; replace q3 := (K0.below B K0.lt).cell 3) | (go_at_call 14; refine (HY.out _ B).mono ?_; rintro e w1 ⟨rfl, b1⟩; replace B := B.trans (b1.mono B.size); clear b1; replace q0 := (K0.below B K0.lt).cell 0; replace q1 := (K0.below B K0.lt).cell 1; replace q2 := (K0.below B K0.lt).cell 2; replace q3 := (K0.below B K0.lt).cell 3) | (go_at_call 15; refine (HR.out _ B).mono ?_; rintro e w1 ⟨rfl, b1⟩; replace B := B.trans (b1.mono B.size); clear b1; replace q0 := (K0.below B K0.lt).cell 0; replace q1 := (K0.below B K0.lt).cell 1; replace q2 := (K0.below B K0.lt).cell 2; replace q3 := (K0.below B K0.lt).cell 3) | (go_at_call 10; refine (hnum _ _).mono ?_; rintro e w4 ⟨rfl, rfl⟩) | (go_at_call 16; (first | (refine (HA.out _ B).mono ?_; clear HA) | refine (HC.out _ B).mono ?_); rintro e w1 ⟨rfl, b1⟩; replace B := B.trans (b1.mono B.size); clear b1; replace q0 := (K0.below B K0.lt).cell 0; replace q1 := (K0.below B K0.lt).cell 1; replace q2 := (K0.below B K0.lt).cell 2; replace q3 := (K0.below B K0.lt).cell 3) | (go_at_call 17; refine (HB.out _ B).mono ?_; rintro e w1 ⟨rfl, b1⟩; replace B := B.trans (b1.mono B.size); clear b1; replace q0 := (K0.below B K0.lt).cell 0; replace q1 := (K0.below B K0.lt).cell 1; replace q2 := (K0.below B K0.lt).cell 2; replace q3 := (K0.below B K0.lt).cell 3))
          refine (HF3.out _ B).mono ?_
          rintro e w6 ⟨p0, p3, j1, j2, j5, Y4, m4, t4, rfl, hpx, b6⟩
          have B6 := B.trans (b6.mono B.size)
          have K12 := KB.new w6 37 #[.string p0, .int .i64 j1, .int .i64 j2, .string p3, .slice Y4 m4 t4, .int .i64 j5]
          have A12 := B6.alloc B6.size (.cells #[.string p0, .int .i64 j1, .int .i64 j2, .string p3, .slice Y4 m4 t4, .int .i64 j5] 37)
          have a12 := (Below.refl w6.heap.size w6).alloc (Nat.le_refl _) (.cells #[.string p0, .int .i64 j1, .int .i64 j2, .string p3, .slice Y4 m4 t4, .int .i64 j5] 37)
          clear b6 q0 q1 q2 q3 HF3 HB HC HE HY HR
          go_wp2_with fail
          refine (HG3.out _ A12).mono ?_
          rintro e w7 ⟨u0, u3, g1, g2, g5, Z4, h4, y4, rfl, hqx, b7⟩
          have B7 := A12.trans (b7.mono A12.size)
          have K7 : KB w7 w6.heap.size 37 #[.string p0, .int .i64 j1, .int .i64 j2, .string p3, .slice Y4 m4 t4, .int .i64 j5] := K12.below b7 (by simp)
          have a7 := a12.trans (b7.mono a12.size)
          have hlt7 := K7.lt
          have r0 := K7.cell 0
          have r1 := K7.cell 1
          have r2 := K7.cell 2
          have r3 := K7.cell 3
          have r4 := K7.cell 4
          have r5 := K7.cell 5
          have hpx7 := Lib.hid (hpx.below' a7 (S' := fun _ => True) fun _ _ => trivial)
          have hqx7 := Lib.hid hqx
          clear b7 a12 K7 K12 A12 hpx hqx HG3
          go_wp2_with fail
          obtain ⟨hP, hQ, b3⟩ := three_new w7 37 #[.string u0, .int .i64 g1, .int .i64 g2, .string u3, .slice Z4 h4 y4, .int .i64 g5] #[.string p0, .int .i64 j1, .int .i64 j2, .string p3, .slice Y4 m4 t4, .int .i64 j5] #[.string u0, .int .i64 g1, .int .i64 g2, .string u3, .slice Z4 h4 y4, .int .i64 g5]
          have hsm := rsame_any (fun _ => True) (fun _ => True) (k + 1) [ro] [ro] _ _ _ (rs_one hP trivial (hpx7.out.below' b3 fun _ h => h)) (rs_one hQ trivial (hqx7.out.below' b3 fun _ _ => trivial))
          rw [same_self] at hsm
          refine hsm.mono ?_
          rintro e w8 ⟨rfl, b8⟩
          have B3 := B7.trans (b3.mono B7.size)
          have B8 := B3.trans (b8.mono B3.size)
          clear b8 b3 B3 B7 hP hQ hsm hpx7 hqx7
          go_wp2_with (go_at_call 7; refine (HL.out _ B8).mono ?_; rintro e w9 ⟨rfl, b9⟩)
          go_ret
          exact ⟨rfl, B0.trans ((B8.trans (b9.mono B8.size)).mono B0.size)⟩
        · rw [HN.out hm] at HE
          rw [show mayX (k + 1) x = false by simpa using hm] at HY
          clear hm HM HN HR
          dsimp only at HE
          rw [show strV ([] : List UInt8) = .string ⟨#[]⟩ from rfl] at HE
          go_wp2_with (first | (go_at_call 13; refine (HE.out _ B).mono ?_; rintro e w1 ⟨rfl, b1⟩; replace B := B.trans (b1.mono B.size); clear b1; replace q0 := (K0.below B K0.lt).cell 0; replace q1 := (K0.below B K0.lt).cell 1; replace q2 := (K0.below B K0.lt).cell 2; replace q3 := (K0.below B K0.lt).cell 3) | (go_at_call 14; refine (HY.out _ B).mono ?_; rintro e w1 ⟨rfl, b1⟩; replace B := B.trans (b1.mono B.size); clear b1; replace q0 := (K0.below B K0.lt).cell 0; replace q1 := (K0.below B K0.lt).cell 1; replace q2 := (K0.below B K0.lt).cell 2; replace q3 := (K0.below B K0.lt).cell 3) | (go_at_call 10; refine (hnum _ _).mono ?_; rintro e w4 ⟨rfl, rfl⟩) | (go_at_call 16; (first | (refine (HA.out _ B).mono ?_; clear HA) | refine (HC.out _ B).mono ?_); rintro e w1 ⟨rfl, b1⟩; replace B := B.trans (b1.mono B.size); clear b1; replace q0 := (K0.below B K0.lt).cell 0; replace q1 := (K0.below B K0.lt).cell 1; replace q2 := (K0.below B K0.lt).cell 2; replace q3 := (K0.below B K0.lt).cell 3) | (go_at_call 17; refine (HB.out _ B).mono ?_; rintro e w1 ⟨rfl, b1⟩; replace B := B.trans (b1.mono B.size); clear b1; replace q0 := (K0.below B K0.lt).cell 0; replace q1 := (K0.below B K0.lt).cell 1; replace q2 := (K0.below B K0.lt).cell 2; replace q3 := (K0.below B K0.lt).cell 3))
          refine (HF3.out _ B).mono ?_
          rintro e w6 ⟨p0, p3, j1, j2, j5, Y4, m4, t4, rfl, hpx, b6⟩
          have B6 := B.trans (b6.mono B.size)
          have K12 := KB.new w6 37 #[.string p0, .int .i64 j1, .int .i64 j2, .string p3, .slice Y4 m4 t4, .int .i64 j5]
          have A12 := B6.alloc B6.size (.cells #[.string p0, .int .i64 j1, .int .i64 j2, .string p3, .slice Y4 m4 t4, .int .i64 j5] 37)
          have a12 := (Below.refl w6.heap.size w6).alloc (Nat.le_refl _) (.cells #[.string p0, .int .i64 j1, .int .i64 j2, .string p3, .slice Y4 m4 t4, .int .i64 j5] 37)
          clear b6 q0 q1 q2 q3 HF3 HB HC HE HY
          go_wp2_with fail
          refine (HG3.out _ A12).mono ?_
          rintro e w7 ⟨u0, u3, g1, g2, g5, Z4, h4, y4, rfl, hqx, b7⟩
          have B7 := A12.trans (b7.mono A12.size)
          have K7 : KB w7 w6.heap.size 37 #[.string p0, .int .i64 j1, .int .i64 j2, .string p3, .slice Y4 m4 t4, .int .i64 j5] := K12.below b7 (by simp)
          have a7 := a12.trans (b7.mono a12.size)
          have hlt7 := K7.lt
          have r0 := K7.cell 0
          have r1 := K7.cell 1
          have r2 := K7.cell 2
          have r3 := K7.cell 3
          have r4 := K7.cell 4
          have r5 := K7.cell 5
          have hpx7 := Lib.hid (hpx.below' a7 (S' := fun _ => True) fun _ _ => trivial)
          have hqx7 := Lib.hid hqx
          clear b7 a12 K7 K12 A12 hpx hqx HG3
          go_wp2_with fail
          obtain ⟨hP, hQ, b3⟩ := three_new w7 37 #[.string u0, .int .i64 g1, .int .i64 g2, .string u3, .slice Z4 h4 y4, .int .i64 g5] #[.string p0, .int .i64 j1, .int .i64 j2, .string p3, .slice Y4 m4 t4, .int .i64 j5] #[.string u0, .int .i64 g1, .int .i64 g2, .string u3, .slice Z4 h4 y4, .int .i64 g5]
          have hsm := rsame_any (fun _ => True) (fun _ => True) (k + 1) [ro] [ro] _ _ _ (rs_one hP trivial (hpx7.out.below' b3 fun _ h => h)) (rs_one hQ trivial (hqx7.out.below' b3 fun _ _ => trivial))
          rw [same_self] at hsm
          refine hsm.mono ?_
          rintro e w8 ⟨rfl, b8⟩
          have B3 := B7.trans (b3.mono B7.size)
          have B8 := B3.trans (b8.mono B3.size)
          clear b8 b3 B3 B7 hP hQ hsm hpx7 hqx7
          go_wp2_with (go_at_call 7; refine (HL.out _ B8).mono ?_; rintro e w9 ⟨rfl, b9⟩)
          go_ret
          exact ⟨rfl, B0.trans ((B8.trans (b9.mono B8.size)).mono B0.size)⟩

theorem ruleExpr_law {H : Type} (enc : TypeId × Value → H) (W : World) (base : Nat) (hp : Pow W)
    (v0 : Value) (d0 : DataW H) (p0 : List MemPlace) (v1 : Value) (d1 : DataW H) (p1 : List MemPlace) (v2 : Value) (d2 : DataW H) (p2 : List MemPlace)
    (k0 : Value.okWide Tryd.prog W .any base 35 v0) (k1 : Value.okWide Tryd.prog W .any base 22 v1) (k2 : Value.okWide Tryd.prog W .any base 22 v2)
    (h0 : DataW.Trod enc Tryd.prog W 0 (fun _ => true) true 35 v0 d0 p0) (h1 : DataW.Trod enc Tryd.prog W 0 (fun _ => true) true 22 v1 d1 p1) (h2 : DataW.Trod enc Tryd.prog W 0 (fun _ => true) true 22 v2 d2 p2) :
    Calls Tryd.prog 4 #[v0, v1, v2] W fun e W' => e = .returned (.bool true) ∧ Below W.heap.size W W' := by
  obtain ⟨n0, hn0⟩ := open_expr k0 h0
  obtain ⟨n1, hn1⟩ := open_rules k1 h1
  obtain ⟨n2, hn2⟩ := open_rules k2 h2
  obtain ⟨x, hx⟩ := hn0 (n0 + n1 + n2 + 1) (by omega)
  obtain ⟨l, hl⟩ := hn1 (n0 + n1 + n2 + 1) (by omega)
  obtain ⟨m, hm⟩ := hn2 (n0 + n1 + n2 + 1) (by omega)
  exact expr_law _ (n0 + n1 + n2) x l m v0 v1 v2 W (fun b h => h) hp hx hl hm
end Go.Proofs.YtbhebjkicooidaaDoor
