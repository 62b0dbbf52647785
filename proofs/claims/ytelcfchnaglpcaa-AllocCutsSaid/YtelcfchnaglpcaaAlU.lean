/-
  The document's own Cut (layer 11), over the loaded program: its contract. No condition but sizes that it names.
-/
import Derived.Test.YtelcfchnaglpcaaAlR
import Derived.Test.YtelcfchnaglpcaaAlD
namespace Go.Proofs.Ytelcfchnaglpcaa
open Go.RowKit
set_option maxRecDepth 100000
set_option linter.unusedVariables false

set_option maxHeartbeats 2000000 in
/-- Cut. -/
theorem rcut_any (v : Value) (b : List UInt8) (hsm : b.length ≤ 1000000000) (w : World) (h : BS w (fun b => b < w.heap.size) v b) :
    Calls Try.prog 20 #[v] w (CutAs w (cutS b)) := by
  have hpg := fun W => rpages_any (b.length : Int) (pagesS_le _ hsm) W
  rw [pages_nat] at hpg
  obtain ⟨R, hR⟩ : ∃ R, R = cutS b := ⟨_, rfl⟩
  have HR : Hid (cutK b (pagesN b.length) = R) := hR.symm
  rw [← hR]
  have hin : ∀ k, k < pagesN b.length → 256 * k < b.length := fun k hk => by unfold pagesN at hk; omega
  have hfew : pagesN b.length ≤ 10000000 := by unfold pagesN; omega
  generalize pagesN b.length = m at *
  obtain ⟨A, c, rfl, hc, hcm, _⟩ := h.form
  have HI := Lib.hid hin
  clear hR hin
  go_enter Try.func20, Try.ntmps20
  go_wp2
  go_loopw [3, 4] (fun lv iw wr => ∃ (k : Nat) (ls : List (List UInt8)), k ≤ m ∧ iw = .int .i64 k ∧ Hid (cutK b k = ls) ∧ RowsAt w wr lv ls ∧ Below w.heap.size w wr) (fun _ iw _ => m - (intOf iw).toNat)
  case atStart => exact ⟨0, [], by omega, rfl, rfl, RowsAt.nil _ _, Below.refl _ _⟩
  case round =>
    obtain ⟨k, ls, hk, rfl, HS, hrow, bl⟩ := hrel
    generalize wr = w1 at *
    by_cases hlt : k < m
    · have hp : 256 * k < b.length := HI.out k hlt
      have hll : ls.length ≤ 100000000 := by rw [← HS.out, cutK_length]; omega
      obtain ⟨A3, c3, rfl⟩ := hrow.len
      obtain ⟨q, hq⟩ : ∃ q, q = ls.length := ⟨_, rfl⟩
      rw [← hq] at hrow ⊢
      clear hq
      obtain ⟨bb, o, rfl, hbs, hbb, _⟩ := h.at_ (by omega)
      have hmk := make_sect w1
      have K1 : KB (w1.alloc (.cells ((zsK 256).map bv).toArray 5)) w1.heap.size 5 ((sectK b k 0).map bv).toArray := by rw [sectK_zero]; exact KB.new _ _ _
      have G1 := World.grownBy.refl (w1.alloc (.cells ((zsK 256).map bv).toArray 5)) (some w1.heap.size)
      have hsl : (sectC b k).length = 256 := sectC_length b k
      have HS2 : Hid (cutK b (k + 1) = ls ++ [sectC b k]) := by show _ = _; rw [cutK_more, HS.out]
      have HSL := Lib.hid hsl
      have D4 : decide ((k : Int) < (m : Int)) = true := decide_eq_true (by omega)
      clear hsl
      generalize ((zsK 256).map bv).toArray = Z at *
      go_wp2_with (go_at_call 22; refine (hpg _).mono ?_; rintro e w' ⟨rfl, rfl⟩)
      go_loopw [6] (fun kw wr => ∃ j : Nat, j ≤ 256 ∧ 256 * k + j ≤ b.length ∧ kw = .int .i64 j ∧ KB wr w1.heap.size 5 ((sectK b k j).map bv).toArray ∧ (w1.alloc (.cells Z 5)).grownBy wr (some w1.heap.size)) (fun kw _ => 256 - (intOf kw).toNat)
      case atStart => exact ⟨0, by omega, by omega, rfl, K1, G1⟩
      case round =>
        clear K1 G1 hmk
        obtain ⟨j, hj, hjl, rfl, kb, g2⟩ := hrel
        have e1 : (k : Int) * 256 + (j : Int) = ((256 * k + j : Nat) : Int) := by omega
        have hw1 : IntKind.i64.wrap ((256 * k + j : Nat) : Int) = ((256 * k + j : Nat) : Int) := IntWalk.i64_in _ (by omega)
        by_cases hjk : j < 256 ∧ 256 * k + j < b.length
        · obtain ⟨hj8, hpl⟩ := hjk
          obtain ⟨x, hx⟩ : ∃ x, b[256 * k + j]? = some x := ⟨_, List.getElem?_eq_getElem hpl⟩
          obtain ⟨_, _, ea, _, _, hcell⟩ := h.at_ (by omega)
          injection ea with ea
          injection ea with ea eo
          subst ea eo
          have kx : wr.cell? ⟨bb, o + (256 * k + j), none⟩ = some (.int .u8 (x.toNat : Int)) :=
            (World.cell?_of_block (w := w) ((g2.block bb (by rw [World.size_alloc]; have := bl.size; omega) (by simp; have := bl.size; omega)).trans ((Below.heap_alloc w1 _ bb (by have := bl.size; omega)).trans (bl.block bb hbb)))).trans (hcell _ _ hx)
          have hset := sectK_set b k j hj8 hx
          have HSET := Lib.hid hset
          have kb2 : KB (wr.setCell ⟨w1.heap.size, j, none⟩ (.int .u8 (x.toNat : Int))) w1.heap.size 5 ((sectK b k (j + 1)).map bv).toArray := by
            have := kb.put j (bv x)
            rw [List.setIfInBounds_toArray, ← List.map_set, HSET.out] at this
            exact this
          have g3 : (w1.alloc (.cells Z 5)).grownBy (wr.setCell ⟨w1.heap.size, j, none⟩ (.int .u8 (x.toNat : Int))) (some w1.heap.size) := grown_trans g2 (grown_set _ _ _ _)
          have kf := kb.free j
          obtain ⟨y, hy⟩ : ∃ y, (sectK b k j)[j]? = some y := ⟨_, List.getElem?_eq_getElem (by rw [sectK_length b k j (by omega) (by omega)]; omega)⟩
          have ky : wr.cell? ⟨w1.heap.size, j, none⟩ = some (.int .u8 (y.toNat : Int)) := by
            rw [kb.cell, List.getElem?_toArray, List.getElem?_map, hy]; rfl
          have D1 : decide ((j : Int) < 256) = true := decide_eq_true (by omega)
          have hjl2 : 256 * k + (j + 1) ≤ b.length := by omega
          have HJ2 := Lib.hid hjl2
          clear hx hset HSET hcell kb g2 hjl hjl2 hy
          generalize 256 * k + j = p at *
          generalize x.toNat = xn at *
          have D2 : decide ((p : Int) < (b.length : Int)) = true := decide_eq_true (by omega)
          go_wp2
          go_roundw
          case rel => exact ⟨j + 1, by omega, HJ2.out, by go_num, kb2, g3⟩
          case measure => simp [intOf]; omega
        · have he := sectK_end b k j hj hjl (by omega)
          rw [he] at kb
          obtain ⟨hrow2, B2, bs3⟩ := rows_copy hrow bl g2 kb HSL.out
          have HX : Hid (j < 256 → ¬ 256 * k + j < b.length) := fun h1 h2 => hjk ⟨h1, h2⟩
          clear he kb g2 hrow hjk
          generalize sectC b k = s at *
          by_cases hj8 : j < 256
          · have hpl := HX.out hj8
            clear HX
            generalize 256 * k + j = p at *
            have D1 : decide ((j : Int) < 256) = true := decide_eq_true (by omega)
            have D2 : decide ((p : Int) < (b.length : Int)) = false := decide_eq_false (by omega)
            go_wp2_with (at_builtin; refine wpList_rows w wr rfl _ _ rfl (.slice A3 q c3) ls rfl hrow2 B2 1 (.slice (some ⟨w1.heap.size, 0, none⟩) 256 256) s rfl bs3 _ hll ?_; intro v4 w4 hrow4 B4)
            go_roundw
            case rel => exact ⟨k + 1, _, by omega, by go_num, HS2, hrow4, B4⟩
            case measure => simp [intOf]; omega
          · clear HX
            have D1 : decide ((j : Int) < 256) = false := decide_eq_false (by omega)
            go_wp2_with (at_builtin; refine wpList_rows w wr rfl _ _ rfl (.slice A3 q c3) ls rfl hrow2 B2 1 (.slice (some ⟨w1.heap.size, 0, none⟩) 256 256) s rfl bs3 _ hll ?_; intro v4 w4 hrow4 B4)
            go_roundw
            case rel => exact ⟨k + 1, _, by omega, by go_num, HS2, hrow4, B4⟩
            case measure => simp [intOf]; omega
    · obtain rfl : k = m := by omega
      have hr := HR.out
      rw [HS.out] at hr
      subst hr
      clear HS HR
      have D4 : decide ((k : Int) < (k : Int)) = false := decide_eq_false (by omega)
      go_wp2_with (go_at_call 22; refine (hpg _).mono ?_; rintro e w' ⟨rfl, rfl⟩)
      go_ret
      exact ⟨_, rfl, hrow, bl⟩
end Go.Proofs.Ytelcfchnaglpcaa
