/-
  WaB: Which patches a log takes, over the loaded program: takes, check: each one's contract. No condition but what each theorem names.
-/
import Derived.Test.YtgoifhpinoodgaaDoorWo22
import Derived.BigQuiet
import Derived.Deep.QuietTactic

section
namespace Go.Proofs.YtgoifhpinoodgaaDoor
open Go.RowKit
set_option maxRecDepth 100000
set_option linter.unusedVariables false

/-- Which sectors the first k patches are of. -/
def takenL (ps : List Pt) (N k : Nat) : List Bool := (List.range N).map fun (j : Nat) => (ps.take k).any fun v => decide (v.1 = (j : Int))
theorem takenL_len (ps : List Pt) (N k : Nat) : (takenL ps N k).length = N := by simp [takenL]
theorem takenL_zero (ps : List Pt) (N : Nat) : takenL ps N 0 = List.replicate N false := by
  apply List.ext_getElem
  · simp [takenL]
  · intro i h1 h2
    simp [takenL]
theorem takenL_at (ps : List Pt) {N k j : Nat} (h : j < N) : (takenL ps N k)[j]? = some ((ps.take k).any fun v => decide (v.1 = (j : Int))) := by
  simp [takenL, h]
theorem takenL_set {ps : List Pt} {N k a : Nat} {l : List UInt8} (h : ps[k]? = some ((a : Int), l)) : (takenL ps N k).set a true = takenL ps N (k + 1) := by
  apply List.ext_getElem?
  intro i
  rw [List.getElem?_set, takenL_len]
  by_cases hi : i < N
  · rw [takenL_at ps hi, takenL_at ps hi, List.take_add_one, h]
    by_cases ha : a = i
    · subst ha
      rw [if_pos rfl, if_pos hi]
      simp [List.any_append]
    · rw [if_neg ha]
      have : ¬ ((a : Int) = (i : Int)) := by omega
      simp [List.any_append, this]
  · rw [List.getElem?_eq_none (by rw [takenL_len]; omega), List.getElem?_eq_none (by rw [takenL_len]; omega)]
    split
    · rw [if_neg (by omega)]
    · rfl
theorem taken_iff {ps : List Pt} {k : Nat} {a : Int} (hk : k ≤ ps.length) : ((ps.take k).any fun v => decide (v.1 = a)) = true ↔ ∃ j, j < k ∧ (ps.getD j (0, [])).1 = a := by
  rw [List.any_eq_true]
  constructor
  · rintro ⟨v, hv, e⟩
    obtain ⟨j, hj, rfl⟩ := List.mem_iff_getElem.1 hv
    rw [List.length_take] at hj
    exact ⟨j, by omega, by rw [getD_pt (by omega)]; simpa using e⟩
  · rintro ⟨j, hj, e⟩
    rw [getD_pt (by omega)] at e
    exact ⟨ps[j], List.mem_iff_getElem.2 ⟨j, by rw [List.length_take]; omega, by simp⟩, by simpa using e⟩
theorem takes_no {n N : Int} {ps : List Pt} {k : Nat} (hk : k < ps.length) (h : ¬ okAt n N ps k) : takesB n N ps = false := decide_eq_false fun hh => h (hh k hk)
theorem takes_yes {n N : Int} {ps : List Pt} (h : ∀ i, i < ps.length → okAt n N ps i) : takesB n N ps = true := decide_eq_true h

theorem info_bool : (Tryd.prog.info? 4).map (fun i => (i.zero, i.size, i.bytes)) = some (some (.bool false), 1, 1) := by kernel_rfl
theorem make_bools (w : World) (n : Nat) (hn : n ≤ 1024) : ∃ C, C = ((List.replicate n false).map Value.bool).toArray ∧ (Instr.makeSlice 93 (.int .i64 n) (.int .i64 n)).run Tryd.prog w = .ok (.slice (some ⟨w.heap.size, 0, none⟩) n n) (w.alloc (.cells C 4)) := by
  obtain ⟨i0, hi, hz0, hz1, hz2⟩ := info_parts info_bool
  have hmk := run_make (P := Tryd.prog) w 93 4 i0 _ Tryd.underlying93 hi hz0 .i64 .i64 n n (by omega) (by omega) (by rw [hz2]; omega) (by omega)
  rw [hz1, Int.toNat_natCast, madeCells_of (.bool false) (.bool false) 1 n (by omega) rfl, Nat.mul_one] at hmk
  refine ⟨_, ?_, hmk⟩
  rw [List.map_replicate, List.toArray_replicate]

set_option maxHeartbeats 2000000 in
/-- takes. -/
theorem takes_any {g n : Nat} {p : DA} {br : Bool} {s : Dk} (S : Nat → Prop) (v : Value) (ps : List Pt) (w : World) (hg : LG w g p n br) (hd : DS w p s) (h : PS w S v ps) :
    Calls Tryd.prog 65 #[.pointer (some ⟨g, 0, none⟩), v] w fun e w' => e = .returned (.bool (takesB n s.safe.length ps)) ∧ Below w.heap.size w w' := by
  obtain ⟨A, c, rfl, hc, hcm, hn0⟩ := h.form
  have hsz := size_any hd
  have few := hd.ok.few
  generalize s.safe.length = N at *
  obtain ⟨C, hC, hmk⟩ := make_bools w N few
  have K0 : KB (w.alloc (.cells C 4)) w.heap.size 4 ((takenL ps N 0).map Value.bool).toArray := by rw [takenL_zero, hC]; exact KB.new _ _ _
  have B0 := (Below.refl w.heap.size w).alloc (Nat.le_refl _) (.cells C 4)
  have c0 := hg.c0
  obtain ⟨R, hR⟩ : ∃ R, R = takesB n N ps := ⟨_, rfl⟩
  have HN : Hid (∀ k, k < ps.length → ¬ okAt n N ps k → R = false) := fun k hk h => by rw [hR]; exact takes_no hk h
  have HY : Hid ((∀ i, i < ps.length → okAt n N ps i) → R = true) := fun h => by rw [hR]; exact takes_yes h
  rw [← hR]
  clear hR hC
  have hlen : ps.length ≤ 9223372036854775807 := by unfold maxLen at hcm; omega
  go_enter Tryd.func65, Tryd.ntmps65
  go_wp2_with (go_at_call 38; refine hsz.mono ?_; rintro e w' ⟨rfl, rfl⟩)
  go_loopw [16] (fun iv wr => ∃ k : Nat, k ≤ ps.length ∧ iv = .int .i64 k ∧ Hid (∀ i, i < k → okAt n N ps i) ∧ KB wr w.heap.size 4 ((takenL ps N k).map Value.bool).toArray ∧ Below w.heap.size w wr) (fun iv _ => ps.length - (intOf iv).toNat)
  case atStart => exact ⟨0, by omega, rfl, fun i h => absurd h (Nat.not_lt_zero _), K0, B0⟩
  case round =>
    obtain ⟨k, hk, rfl, HS, kb, bl⟩ := hrel
    clear K0 B0 hmk
    by_cases hlt : k < ps.length
    · obtain ⟨b, o, rfl, _, _, hx⟩ := (h.below' bl).at_ (by omega)
      obtain ⟨⟨a, l⟩, hv⟩ : ∃ q, ps[k]? = some q := ⟨_, List.getElem?_eq_getElem hlt⟩
      obtain ⟨k0, X, z, k1, hbs⟩ := hx k _ hv
      dsimp only at k0 k1 hbs
      have hgk : ps.getD k (0, []) = (a, l) := by rw [List.getD_eq_getElem?_getD, hv]; rfl
      have hok : okAt n N ps k ↔ (n : Int) < a ∧ a < (N : Int) ∧ l.length = 256 ∧ ∀ j, j < k → (ps.getD j (0, [])).1 ≠ a := by unfold okAt; rw [hgk]
      have hti := taken_iff (a := a) hk
      have HV := Lib.hid hv
      have cg1 : wr.cell? ⟨g, 1, none⟩ = some (.int .i64 n) := (World.cell?_of_block (w := w) (bl.block g hg.lt)).trans hg.c1
      have q0 : (wr.alloc (.cells #[.int .i64 a, .slice X l.length z] 55)).cell? ⟨wr.heap.size, 0, none⟩ = some (.int .i64 a) := (KB.new wr 55 #[.int .i64 a, .slice X l.length z]).cell 0
      have q1 : (wr.alloc (.cells #[.int .i64 a, .slice X l.length z] 55)).cell? ⟨wr.heap.size, 1, none⟩ = some (.slice X l.length z) := (KB.new wr 55 #[.int .i64 a, .slice X l.length z]).cell 1
      have kb1 := kb.alloc (.cells #[.int .i64 a, .slice X l.length z] 55)
      have B1 := bl.alloc bl.size (.cells #[.int .i64 a, .slice X l.length z] 55)
      have gl : g < wr.heap.size := Nat.lt_of_lt_of_le hg.lt bl.size
      have qg : (wr.alloc (.cells #[.int .i64 a, .slice X l.length z] 55)).cell? ⟨g, 1, none⟩ = some (.int .i64 n) := (World.cell?_of_block (w := wr) (Below.heap_alloc wr _ g gl)).trans cg1
      clear hx hv hgk hbs
      by_cases d1 : a ≤ n
      · have D1 := decide_eq_true d1
        have hr := HN.out k hlt fun h => by have := hok.1 h; omega
        subst hr
        clear hok hti d1
        go_wp2_with fail
        go_quiet (fail)
        go_wp2
        go_ret
        exact ⟨rfl, Below_drawn B1 _⟩
      · by_cases d2 : (N : Int) ≤ a
        · have D1 := decide_eq_false d1
          have D2 := decide_eq_true d2
          have hr := HN.out k hlt fun h => by have := hok.1 h; omega
          subst hr
          clear hok hti d1 d2
          go_wp2_with fail
          go_quiet (fail)
          go_wp2
          go_ret
          exact ⟨rfl, Below_drawn B1 _⟩
        · have hiN : a.toNat < N := by omega
          have hai : ((a.toNat : Nat) : Int) = a := by omega
          have p0 : (0 : Int) ≤ a := by omega
          have p1 : a < (N : Int) := by omega
          have D1 := decide_eq_false d1
          have D2 := decide_eq_false d2
          have ct : (wr.alloc (.cells #[.int .i64 a, .slice X l.length z] 55)).cell? ⟨w.heap.size, a.toNat, none⟩ = some (.bool ((ps.take k).any fun v => decide (v.1 = a))) := by
            rw [kb1.cell, List.getElem?_toArray, List.getElem?_map, takenL_at ps hiN, hai]; rfl
          by_cases d3 : ((ps.take k).any fun v => decide (v.1 = a)) = true
          · rw [d3] at ct
            have hr := HN.out k hlt fun h => by
              obtain ⟨j, hj, e⟩ := hti.1 d3
              exact (hok.1 h).2.2.2 j hj e
            subst hr
            clear hok hti d1 d2 d3 hai
            go_wp2_with fail
            go_quiet (fail)
            go_wp2
            go_ret
            exact ⟨rfl, Below_drawn B1 _⟩
          · rw [Bool.not_eq_true] at d3
            rw [d3] at ct
            by_cases d4 : l.length = 256
            · have HO : Hid (∀ i, i < k + 1 → okAt n N ps i) := by
                intro j hj
                by_cases hjk : j < k
                · exact HS.out j hjk
                · obtain rfl : j = k := by omega
                  exact hok.2 ⟨by omega, by omega, d4, fun q hq e => by
                    have := hti.2 ⟨q, hq, e⟩
                    rw [d3] at this
                    cases this⟩
              have ft := kb1.free a.toNat
              have HT := Lib.hid (takenL_set (N := N) (a := a.toNat) (l := l) (by rw [hai]; exact HV.out))
              have HA := Lib.hid hai
              have D4 : ((l.length : Int) != 256) = false := by simp; omega
              clear HV
              generalize l.length = m at *
              subst d4
              clear hok hti d1 d2 d3 hai HS HN HY
              go_wp2_with fail
              go_quiet (fail)
              go_wp2_with fail
              go_roundw
              case rel =>
                refine ⟨k + 1, by omega, by go_num, HO, ?_, (Below_drawn B1 _).setCell (p := ⟨w.heap.size, a.toNat, none⟩) (Nat.le_refl _) _⟩
                have := (kb1.drewN nq).put a.toNat (.bool true)
                rw [List.setIfInBounds_toArray, ← List.map_set, HT.out] at this
                exact this
              case measure => simp [intOf]; omega
            · have hr := HN.out k hlt fun h => d4 (hok.1 h).2.2.1
              have D4 : ((l.length : Int) != 256) = true := by simp; omega
              have d5 : ¬ (l.length : Int) = 256 := by omega
              subst hr
              clear hok hti d1 d2 d3 hai d4
              go_wp2_with fail
              go_quiet (fail)
              go_wp2
              go_ret
              exact ⟨rfl, Below_drawn B1 _⟩
    · obtain rfl : k = ps.length := by omega
      have hr := HY.out HS.out
      subst hr
      go_wp2_with fail
      go_ret
      exact ⟨rfl, bl⟩
end Go.Proofs.YtgoifhpinoodgaaDoor
end
