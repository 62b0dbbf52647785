/-
  The document's Find (layer 17), over the loaded program: its contract; what is found as six cells. No condition.
-/
import Derived.Test.YtommcdgognlfcaaRuX
import Derived.Test.YtommcdgognlfcaaRuG
namespace Go.Proofs.Ytommcdgognlfcaa
open Go.RowKit Go.ChangeShapes Go.WideShapes Go.Joins
set_option maxRecDepth 100000
set_option linter.unusedVariables false

set_option maxHeartbeats 8000000 in
/-- Find. -/
theorem rfind_any (S : Nat → Prop) (f : Nat) (l : List (Rl f)) (c : List UInt8) (v : Value) (w : World) (hS : ∀ b, S b → b < w.heap.size) (hv : RS w S f v l) :
    Calls Try.prog 28 #[v, strV c] w (FindAs w f (seekR f l c)) := by
  obtain ⟨A3, cap3, rfl, hl3, hm3⟩ := hv.form
  have hlen : l.length ≤ 9223372036854775807 := by unfold maxLen at hm3; omega
  obtain ⟨D, hD⟩ : ∃ D, D = FindAs w f (seekR f l c) := ⟨_, rfl⟩
  rw [← hD]
  have HNO : Hid (placeR f l c < 0 → placeR f l [] < 0 → ∀ W, Below w.heap.size w W → D (.returned (.tuple #[.agg #[.string ⟨#[]⟩, .int .i64 0, .int .i64 0, .string ⟨#[]⟩, .slice none 0 0, .int .i64 0], .bool false])) W) := fun h1 h2 W hb => by
    rw [hD]
    unfold seekR
    rw [if_neg (by omega), if_neg (by omega)]
    exact ⟨rfl, hb⟩
  have HYES : Hid (∀ (j : Nat) (hj : j < l.length), (placeR f l c = (j : Int) ∨ (placeR f l c < 0 ∧ placeR f l [] = (j : Int))) → ∀ W d0 d1 d2 d3, EX W (fun b => b < W.heap.size) f l[j].when_ d0 d1 d2 d3 → l[j].cls.length ≤ maxLen → I64 l[j].act → Below w.heap.size w W → D (.returned (.tuple #[.agg #[strV l[j].cls, d0, d1, d2, d3, .int .i64 l[j].act], .bool true])) W) := fun j hj h W d0 d1 d2 d3 hx hm hi hb => by
    rw [hD]
    have e : seekR f l c = some l[j] := by
      unfold seekR
      rcases h with h | ⟨h1, h2⟩
      · rw [if_pos (by omega), h, Int.toNat_natCast, List.getElem?_eq_getElem hj]
      · rw [if_neg (by omega), if_pos (by omega), h2, Int.toNat_natCast, List.getElem?_eq_getElem hj]
    rw [e]
    exact ⟨_, rfl, ⟨_, _, _, _, _, _, rfl, rfl, hm, hx, rfl, hi⟩, hb⟩
  clear hD
  have HRB : Hid (∀ (wr : World), Below w.heap.size w wr → ∀ (j : Nat) (hj : j < l.length), ∃ b o e1 e2 e3 e4, A3 = some ⟨b, o, none⟩ ∧ b < w.heap.size ∧ wr.cell? ⟨b, o + j * 6, none⟩ = some (strV l[j].cls) ∧ wr.cell? ⟨b, o + j * 6 + 1, none⟩ = some e1 ∧ wr.cell? ⟨b, o + j * 6 + 2, none⟩ = some e2 ∧ wr.cell? ⟨b, o + j * 6 + 3, none⟩ = some e3 ∧
      wr.cell? ⟨b, o + j * 6 + 4, none⟩ = some e4 ∧ wr.cell? ⟨b, o + j * 6 + 5, none⟩ = some (.int .i64 l[j].act) ∧ EV wr S f (.agg #[e1, e2, e3, e4]) l[j].when_ ∧ l[j].cls.length ≤ maxLen ∧ I64 l[j].act) := fun wr hb j hj => rule_b hv rfl hb j hj
  have HS := Lib.hid hS
  clear hv hS
  have K0 := KB.new w 49 #[.string ⟨#[]⟩, .int .i64 0, .int .i64 0, .string ⟨#[]⟩, .slice none 0 0, .int .i64 0]
  have B0 := (Below.refl w.heap.size w).alloc (Nat.le_refl _) (.cells #[.string ⟨#[]⟩, .int .i64 0, .int .i64 0, .string ⟨#[]⟩, .slice none 0 0, .int .i64 0] 49)
  go_enter Try.func28, Try.ntmps28
  unfold strV at *
  obtain ⟨sq, hsq⟩ : ∃ s : ByteArray, s = ⟨c.toArray⟩ := ⟨_, rfl⟩
  rw [← hsq]
  have HSQ := Lib.hid hsq
  clear hsq
  go_wp2_with fail
  go_loopw [6] (fun iv wr => ∃ j : Nat, j ≤ l.length ∧ iv = .int .i64 j ∧ Hid (∀ (i : Nat) (hi : i < l.length), i < j → l[i].cls ≠ c) ∧ KB wr w.heap.size 49 #[.string ⟨#[]⟩, .int .i64 0, .int .i64 0, .string ⟨#[]⟩, .slice none 0 0, .int .i64 0] ∧ Below w.heap.size w wr) (fun iv _ => l.length - (intOf iv).toNat)
  case atStart => exact ⟨0, by omega, rfl, fun i _ h => absurd h (Nat.not_lt_zero _), K0, B0⟩
  case round =>
    clear K0 B0
    obtain ⟨j, hj, rfl, hall, K, B⟩ := hrel
    by_cases hlt : j < l.length
    · have hltI : (j : Int) < (l.length : Int) := by omega
      obtain ⟨b, o, e1, e2, e3, e4, rfl, hb, k0, k1, k2, k3, k4, k5, hx, hcm, hai⟩ := HRB.out wr B j hlt
      have hxw := hx
      obtain ⟨_, _, _, _, e, hx4⟩ := hxw
      injection e with e
      simp only [Array.mk.injEq, List.cons.injEq, and_true] at e
      obtain ⟨rfl, rfl, rfl, rfl⟩ := e
      obtain ⟨i0, i1, l2, X3, n3, z3, rfl, rfl, rfl, rfl⟩ := hx4.form
      obtain ⟨s, hs⟩ : ∃ s : ByteArray, s = ⟨l[j].cls.toArray⟩ := ⟨_, rfl⟩
      obtain ⟨s2, hs2⟩ : ∃ s : ByteArray, strV l2 = .string s := ⟨_, rfl⟩
      rw [← hs] at k0
      rw [hs2] at k3 hx
      clear hx4
      have gq := eq_txt s sq _ _ hs HSQ.out
      by_cases hcl : l[j].cls = c
      · have HYJ := Lib.hid (fun W d0 d1 d2 d3 hxx hbb => HYES.out j hlt (.inl (place_some hlt hall.out hcl)) W d0 d1 d2 d3 hxx hcm hai hbb)
        rw [decide_eq_true hcl] at gq
        obtain ⟨_, _, _, _, e, hx4⟩ := hx
        injection e with e
        simp only [Array.mk.injEq, List.cons.injEq, and_true] at e
        obtain ⟨rfl, rfl, rfl, rfl⟩ := e
        generalize l[j].act = ac at *
        rw [← hs] at HYJ
        generalize l[j].when_ = wh at *
        have r0 := K.cell 0
        have r1 := K.cell 1
        have r2 := K.cell 2
        have r3 := K.cell 3
        have r4 := K.cell 4
        have r5 := K.cell 5
        have g0 := K.free 0
        have g1 := K.free 1
        have g2 := K.free 2
        have g3 := K.free 3
        have g4 := K.free 4
        have g5 := K.free 5
        obtain ⟨W8, hW8⟩ : ∃ W8, W8 = ((((((wr.setCell ⟨w.heap.size, 0, none⟩ (.string s)).setCell ⟨w.heap.size, 1, none⟩ (.int .i64 i0)).setCell ⟨w.heap.size, 2, none⟩ (.int .i64 i1)).setCell ⟨w.heap.size, 3, none⟩ (.string s2)).setCell ⟨w.heap.size, 4, none⟩ (.slice X3 n3 z3)).setCell ⟨w.heap.size, 5, none⟩ (.int .i64 ac)) := ⟨_, rfl⟩
        have kfin : KB W8 w.heap.size 49 #[.string s, .int .i64 i0, .int .i64 i1, .string s2, .slice X3 n3 z3, .int .i64 ac] := by rw [hW8]; exact (((((K.put 0 _).put 1 _).put 2 _).put 3 _).put 4 _).put 5 _
        have hs8 : W8.heap.size = wr.heap.size := by rw [hW8]; simp [World.setCell]
        have b8 : Below w.heap.size w W8 := by rw [hW8]; exact (((((B.setCell (p := ⟨w.heap.size, 0, none⟩) (Nat.le_refl _) _).setCell (p := ⟨w.heap.size, 1, none⟩) (Nat.le_refl _) _).setCell (p := ⟨w.heap.size, 2, none⟩) (Nat.le_refl _) _).setCell (p := ⟨w.heap.size, 3, none⟩) (Nat.le_refl _) _).setCell (p := ⟨w.heap.size, 4, none⟩) (Nat.le_refl _) _).setCell (p := ⟨w.heap.size, 5, none⟩) (Nat.le_refl _) _
        have hblk : ∀ q, q < w.heap.size → W8.heap[q]? = wr.heap[q]? := fun q hq => by rw [hW8]; exact (Below.heap_setCell _ _ _ _ (by show q ≠ w.heap.size; omega)).trans ((Below.heap_setCell _ _ _ _ (by show q ≠ w.heap.size; omega)).trans ((Below.heap_setCell _ _ _ _ (by show q ≠ w.heap.size; omega)).trans ((Below.heap_setCell _ _ _ _ (by show q ≠ w.heap.size; omega)).trans ((Below.heap_setCell _ _ _ _ (by show q ≠ w.heap.size; omega)).trans (Below.heap_setCell _ _ _ _ (by show q ≠ w.heap.size; omega))))))
        have hfin := HYJ.out W8 _ _ _ _ (EX.keepL f wh _ _ _ _ hx4 (by omega) (fun q h _ => hblk q (HS.out q h)) (fun q h _ => by have := HS.out q h; have := b8.size; omega)) b8
        have HW8 := Lib.hid hW8
        have hbw : b < wr.heap.size := Nat.lt_of_lt_of_le hb B.size
        clear hx4 hblk hW8 hs hs2 b8 HYJ HYES HNO hall hcl hcm hai HRB HSQ HS hs8 K B
        go_wp2_with fail
        rw [← HW8.out]
        exact bodyPost_ret (results_cell_tmp (P := Try.prog) (p := 4) (u := 5) rfl _ _ w.heap.size _ _ (0, 0) _ rfl kfin Try.underlying49 rfl (by kernel_rfl)) rfl hfin
      · have HN : Hid (∀ (i : Nat) (hi : i < l.length), i < j + 1 → l[i].cls ≠ c) := fun i hi hij => by
          rcases Nat.lt_or_ge i j with h' | h'
          · exact hall.out i hi h'
          · obtain rfl : i = j := by omega
            exact hcl
        rw [decide_eq_false hcl] at gq
        clear hall HNO HYES hcl hs hx hcm hai
        generalize l[j].act = ac at *
        generalize l[j].when_ = wh at *
        go_wp2_with fail
        go_roundw
        case rel => exact ⟨j + 1, by omega, by go_num, HN, K, B⟩
        case measure => simp [intOf]; omega
    · have hj' : j = l.length := by omega
      subst hj'
      have HC1 : Hid (placeR f l c < 0) := by
        show _ < _
        rw [place_none (fun i hi => hall.out i hi hi)]; omega
      clear hall hlt hj
      go_wp2_with fail
      go_loopw [7] (fun iv wr => ∃ j : Nat, j ≤ l.length ∧ iv = .int .i64 j ∧ Hid (∀ (i : Nat) (hi : i < l.length), i < j → l[i].cls ≠ []) ∧ KB wr w.heap.size 49 #[.string ⟨#[]⟩, .int .i64 0, .int .i64 0, .string ⟨#[]⟩, .slice none 0 0, .int .i64 0] ∧ Below w.heap.size w wr) (fun iv _ => l.length - (intOf iv).toNat)
      case atStart => exact ⟨0, by omega, rfl, fun i _ h => absurd h (Nat.not_lt_zero _), K, B⟩
      case round =>
        clear K B
        obtain ⟨j, hj, rfl, hall, K, B⟩ := hrel
        by_cases hlt : j < l.length
        · have hltI : (j : Int) < (l.length : Int) := by omega
          obtain ⟨b, o, e1, e2, e3, e4, rfl, hb, k0, k1, k2, k3, k4, k5, hx, hcm, hai⟩ := HRB.out _ B j hlt
          have hxw := hx
          obtain ⟨_, _, _, _, e, hx4⟩ := hxw
          injection e with e
          simp only [Array.mk.injEq, List.cons.injEq, and_true] at e
          obtain ⟨rfl, rfl, rfl, rfl⟩ := e
          obtain ⟨i0, i1, l2, X3, n3, z3, rfl, rfl, rfl, rfl⟩ := hx4.form
          obtain ⟨s, hs⟩ : ∃ s : ByteArray, s = ⟨l[j].cls.toArray⟩ := ⟨_, rfl⟩
          obtain ⟨s2, hs2⟩ : ∃ s : ByteArray, strV l2 = .string s := ⟨_, rfl⟩
          rw [← hs] at k0
          rw [hs2] at k3 hx
          clear hx4
          by_cases hcl : l[j].cls = []
          · have HYJ := Lib.hid (fun W d0 d1 d2 d3 hxx hbb => HYES.out j hlt (.inr ⟨HC1.out, place_some hlt hall.out hcl⟩) W d0 d1 d2 d3 hxx hcm hai hbb)
            obtain ⟨gq, gp⟩ := eq_two s l[j].cls [] hs true (decide_eq_true hcl)
            have gn : s.toList = [] := beq_iff_eq.1 gq
            obtain ⟨_, _, _, _, e, hx4⟩ := hx
            injection e with e
            simp only [Array.mk.injEq, List.cons.injEq, and_true] at e
            obtain ⟨rfl, rfl, rfl, rfl⟩ := e
            generalize l[j].act = ac at *
            rw [← hs] at HYJ
            generalize l[j].when_ = wh at *
            have r0 := K.cell 0
            have r1 := K.cell 1
            have r2 := K.cell 2
            have r3 := K.cell 3
            have r4 := K.cell 4
            have r5 := K.cell 5
            have g0 := K.free 0
            have g1 := K.free 1
            have g2 := K.free 2
            have g3 := K.free 3
            have g4 := K.free 4
            have g5 := K.free 5
            obtain ⟨W8, hW8⟩ : ∃ W8, W8 = ((((((wr.setCell ⟨w.heap.size, 0, none⟩ (.string s)).setCell ⟨w.heap.size, 1, none⟩ (.int .i64 i0)).setCell ⟨w.heap.size, 2, none⟩ (.int .i64 i1)).setCell ⟨w.heap.size, 3, none⟩ (.string s2)).setCell ⟨w.heap.size, 4, none⟩ (.slice X3 n3 z3)).setCell ⟨w.heap.size, 5, none⟩ (.int .i64 ac)) := ⟨_, rfl⟩
            have kfin : KB W8 w.heap.size 49 #[.string s, .int .i64 i0, .int .i64 i1, .string s2, .slice X3 n3 z3, .int .i64 ac] := by rw [hW8]; exact (((((K.put 0 _).put 1 _).put 2 _).put 3 _).put 4 _).put 5 _
            have hs8 : W8.heap.size = wr.heap.size := by rw [hW8]; simp [World.setCell]
            have b8 : Below w.heap.size w W8 := by rw [hW8]; exact (((((B.setCell (p := ⟨w.heap.size, 0, none⟩) (Nat.le_refl _) _).setCell (p := ⟨w.heap.size, 1, none⟩) (Nat.le_refl _) _).setCell (p := ⟨w.heap.size, 2, none⟩) (Nat.le_refl _) _).setCell (p := ⟨w.heap.size, 3, none⟩) (Nat.le_refl _) _).setCell (p := ⟨w.heap.size, 4, none⟩) (Nat.le_refl _) _).setCell (p := ⟨w.heap.size, 5, none⟩) (Nat.le_refl _) _
            have hblk : ∀ q, q < w.heap.size → W8.heap[q]? = wr.heap[q]? := fun q hq => by rw [hW8]; exact (Below.heap_setCell _ _ _ _ (by show q ≠ w.heap.size; omega)).trans ((Below.heap_setCell _ _ _ _ (by show q ≠ w.heap.size; omega)).trans ((Below.heap_setCell _ _ _ _ (by show q ≠ w.heap.size; omega)).trans ((Below.heap_setCell _ _ _ _ (by show q ≠ w.heap.size; omega)).trans ((Below.heap_setCell _ _ _ _ (by show q ≠ w.heap.size; omega)).trans (Below.heap_setCell _ _ _ _ (by show q ≠ w.heap.size; omega))))))
            have hfin := HYJ.out W8 _ _ _ _ (EX.keepL f wh _ _ _ _ hx4 (by omega) (fun q h _ => hblk q (HS.out q h)) (fun q h _ => by have := HS.out q h; have := b8.size; omega)) b8
            have HW8 := Lib.hid hW8
            have hbw : b < wr.heap.size := Nat.lt_of_lt_of_le hb B.size
            clear hx4 hblk hW8 hs hs2 b8 HYJ HYES HNO hall hcl hcm hai HRB HSQ HS hs8 K B
            go_wp2_with fail
            rw [← HW8.out]
            exact bodyPost_ret (results_cell_tmp (P := Try.prog) (p := 4) (u := 5) rfl _ _ w.heap.size _ _ (0, 0) _ rfl kfin Try.underlying49 rfl (by kernel_rfl)) rfl hfin
          · have HN : Hid (∀ (i : Nat) (hi : i < l.length), i < j + 1 → l[i].cls ≠ []) := fun i hi hij => by
              rcases Nat.lt_or_ge i j with h' | h'
              · exact hall.out i hi h'
              · obtain rfl : i = j := by omega
                exact hcl
            obtain ⟨gq, gp⟩ := eq_two s l[j].cls [] hs false (decide_eq_false hcl)
            have gn : ¬ s.toList = [] := beq_eq_false_iff_ne.1 gq
            clear hall HNO HYES hcl hs hx hcm hai
            generalize l[j].act = ac at *
            generalize l[j].when_ = wh at *
            go_wp2_with fail
            go_roundw
            case rel => exact ⟨j + 1, by omega, by go_num, HN, K, B⟩
            case measure => simp [intOf]; omega
        · have hj' : j = l.length := by omega
          subst hj'
          have hno := HNO.out HC1.out (by rw [place_none (fun i hi => hall.out i hi hi)]; omega)
          clear hall hlt hj
          have K7 := K
          have r0 := K7.cell 0
          have r1 := K7.cell 1
          have r2 := K7.cell 2
          have r3 := K7.cell 3
          have r4 := K7.cell 4
          have r5 := K7.cell 5
          have g0 := K7.free 0
          have g1 := K7.free 1
          have g2 := K7.free 2
          have g3 := K7.free 3
          have g4 := K7.free 4
          have g5 := K7.free 5
          obtain ⟨W8, hW8⟩ : ∃ W8, W8 = ((((((wr.setCell ⟨w.heap.size, 0, none⟩ (.string ⟨#[]⟩)).setCell ⟨w.heap.size, 1, none⟩ (.int .i64 0)).setCell ⟨w.heap.size, 2, none⟩ (.int .i64 0)).setCell ⟨w.heap.size, 3, none⟩ (.string ⟨#[]⟩)).setCell ⟨w.heap.size, 4, none⟩ (.slice none 0 0)).setCell ⟨w.heap.size, 5, none⟩ (.int .i64 0)) := ⟨_, rfl⟩
          have kfin : KB W8 w.heap.size 49 #[.string ⟨#[]⟩, .int .i64 0, .int .i64 0, .string ⟨#[]⟩, .slice none 0 0, .int .i64 0] := by rw [hW8]; exact (((((K7.put 0 _).put 1 _).put 2 _).put 3 _).put 4 _).put 5 _
          have b8 : Below w.heap.size w W8 := by rw [hW8]; exact (((((B.setCell (p := ⟨w.heap.size, 0, none⟩) (Nat.le_refl _) _).setCell (p := ⟨w.heap.size, 1, none⟩) (Nat.le_refl _) _).setCell (p := ⟨w.heap.size, 2, none⟩) (Nat.le_refl _) _).setCell (p := ⟨w.heap.size, 3, none⟩) (Nat.le_refl _) _).setCell (p := ⟨w.heap.size, 4, none⟩) (Nat.le_refl _) _).setCell (p := ⟨w.heap.size, 5, none⟩) (Nat.le_refl _) _
          have hfin := hno W8 b8
          have HW8 := Lib.hid hW8
          clear hno K7 b8 hW8 HNO HYES HRB HC1 HSQ HS K B
          go_wp2_with fail
          rw [← HW8.out]
          exact bodyPost_ret (results_cell_tmp (P := Try.prog) (p := 4) (u := 5) rfl _ _ w.heap.size _ _ (0, 0) _ rfl kfin Try.underlying49 rfl (by kernel_rfl)) rfl hfin

/-- One rule, alone in a block. -/
theorem rs_one {W : World} {S : Nat → Prop} {f R : Nat} {r : Rl f} {t : TypeId} {c0 c1 c2 c3 c4 c5 : Value} (h : KB W R t #[c0, c1, c2, c3, c4, c5]) (hS : S R) (hr : RX W S f r c0 c1 c2 c3 c4 c5) : RS W S f (.slice (some ⟨R, 0, none⟩) 1 1) [r] := by
  refine ⟨_, 1, rfl, by simp, by unfold maxLen; omega, fun _ => ⟨R, 0, rfl, hS, h.lt, fun i u hi => ?_⟩⟩
  match i with
  | 0 =>
    injection hi with hi
    subst hi
    exact ⟨_, _, _, _, _, _, h.cell 0, h.cell 1, h.cell 2, h.cell 3, h.cell 4, h.cell 5, hr⟩
  | k + 1 => cases hi

/-- The rule that says nothing. -/
def noR (k : Nat) : Rl (k + 1) := ⟨[], (⟨0, 0, [], []⟩ : Nx (Ex k)), 0⟩
/-- What is found, or the rule that says nothing, as six cells. -/
theorem found_six {w w' : World} {k : Nat} {o : Option (Rl (k + 1))} {e : Ending} (h : FindAs w (k + 1) o e w') : ∃ (s0 s3 : ByteArray) (i1 i2 i5 : Int) (X4 : Option Addr) (n4 z4 : Nat),
    e = .returned (.tuple #[.agg #[.string s0, .int .i64 i1, .int .i64 i2, .string s3, .slice X4 n4 z4, .int .i64 i5], .bool o.isSome]) ∧
    RX w' (fun b => b < w'.heap.size) (k + 1) (o.getD (noR k)) (.string s0) (.int .i64 i1) (.int .i64 i2) (.string s3) (.slice X4 n4 z4) (.int .i64 i5) ∧ Below w.heap.size w w' := by
  cases o with
  | none =>
    obtain ⟨rfl, hb⟩ := h
    exact ⟨_, _, _, _, _, _, _, _, rfl, ⟨rfl, Nat.zero_le _, ⟨rfl, by show I64 0; unfold I64; decide, rfl, by show I64 0; unfold I64; decide, rfl, Nat.zero_le _, XS.nil _ _ _⟩, rfl, by show I64 0; unfold I64; decide⟩, hb⟩
  | some r =>
    obtain ⟨v, rfl, ⟨c0, c1, c2, c3, c4, c5, rfl, rfl, h1, h2, rfl, h4⟩, hb⟩ := h
    obtain ⟨i0, i1, l2, X3, n3, z3, rfl, rfl, rfl, rfl⟩ := h2.form
    exact ⟨_, _, _, _, _, _, _, _, rfl, ⟨rfl, h1, h2, rfl, h4⟩, hb⟩
theorem RX.below' {w w' : World} {S S' : Nat → Prop} {f : Nat} {r : Rl f} {c0 c1 c2 c3 c4 c5 : Value} (h : RX w S f r c0 c1 c2 c3 c4 c5) (hb : Below w.heap.size w w') (hS : ∀ b, S b → S' b) : RX w' S' f r c0 c1 c2 c3 c4 c5 :=
  ⟨h.1, h.2.1, (h.2.2.1.below' hb).mono hS, h.2.2.2.1, h.2.2.2.2⟩
end Go.Proofs.Ytommcdgognlfcaa
