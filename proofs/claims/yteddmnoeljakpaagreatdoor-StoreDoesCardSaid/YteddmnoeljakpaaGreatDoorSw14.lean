/-
  WaA: What a log is asked, over the loaded program: made, Broken, Room, lists, number, numberOf, takes, check: each one's contract. No condition but what each theorem names.
  WaB: Which patches a log takes, over the loaded program: takes, check: each one's contract. No condition but what each theorem names.
  WaC: Patches checked, and written, over the loaded program: check, write: each one's contract. No condition but what each theorem names.
  WaD: wipe, over the loaded program: its contract. No condition but what each theorem names.
-/
import Derived.Test.YteddmnoeljakpaaGreatDoorSw11
import Derived.Test.YteddmnoeljakpaaGreatDoorSw13
import Derived.Test.YteddmnoeljakpaaGreatDoorSw00
import Derived.WalkSpells
import Derived.BigQuiet
import Derived.Deep.QuietTactic
import Derived.Deep.RegionHeld3
set_option linter.unusedVariables false
set_option maxRecDepth 100000
namespace Go.Proofs.YteddmnoeljakpaaGreatDoor
section
open Go.RowKit
section
variable {w : World} {g n : Nat} {p : DA} {br : Bool}
theorem lmade_any (h : LG w g p n br) : Calls Tryz.prog 71 #[.pointer (some ⟨g, 0, none⟩)] w fun e w' => e = .returned (.bool true) ∧ w = w' := by
  have c0 := h.c0
  go_enter Tryz.func71, Tryz.ntmps71
  go_wp2
  go_ret
  exact ⟨rfl, rfl⟩
theorem broken_any (h : LG w g p n br) : Calls Tryz.prog 43 #[.pointer (some ⟨g, 0, none⟩)] w fun e w' => e = .returned (.bool br) ∧ w = w' := by
  have hm := lmade_any h
  have c2 := h.c2
  go_enter Tryz.func43, Tryz.ntmps43
  go_wp2_with (go_at_call 71; refine hm.mono ?_; rintro e w' ⟨rfl, rfl⟩)
  go_ret
  exact ⟨rfl, rfl⟩
end
theorem room_any (n : Nat) (w : World) (hn : n ≤ 100000) : Calls Tryz.prog 50 #[.int .i64 n] w fun e w' => e = .returned (.int .i64 (roomN n : Nat)) ∧ w = w' := by
  unfold roomN
  by_cases h : n < 2
  · rw [if_pos h]
    have h2 : decide ((n : Int) < 2) = true := by simp; omega
    go_enter Tryz.func50, Tryz.ntmps50
    go_wp2
    go_ret
    exact ⟨rfl, rfl⟩
  · rw [if_neg h]
    have h2 : decide ((n : Int) < 2) = false := by simp; omega
    go_enter Tryz.func50, Tryz.ntmps50
    go_wp2
    go_ret
    refine ⟨ret_int ?_, rfl⟩
    omega
theorem lists_any (k : Nat) (w : World) (hk : k ≤ 100000) : Calls Tryz.prog 120 #[.int .i64 k] w fun e w' => e = .returned (.int .i64 (listsN k : Nat)) ∧ w = w' := by
  unfold listsN
  go_enter Tryz.func120, Tryz.ntmps120
  go_wp2
  go_ret
  refine ⟨ret_int ?_, rfl⟩
  omega
theorem number_any (n : Nat) (w : World) (hn : n < 65536) : Calls Tryz.prog 121 #[.int .i64 n] w fun e w' => Fresh w e w' (numB n) := by
  go_enter Tryz.func121, Tryz.ntmps121
  go_wp2
  go_ret
  have e0 : Value.int .u8 ((n : Int) / 256) = bv (UInt8.ofNat (n / 256)) := byte_of (n / 256) (by omega) _ (by omega)
  have e1 : Value.int .u8 ((n : Int) % 256) = bv (UInt8.ofNat (n % 256)) := byte_of (n % 256) (by omega) _ (by omega)
  rw [e0, e1]
  have ho := (KB.new w 5 ((numB n).map bv).toArray).own (B := w.heap.size) (Nat.le_refl _) (by simp [numB, maxLen])
  exact ⟨_, rfl, ho, (Below.refl _ _).alloc (Nat.le_refl _) _⟩
theorem or_bytes (x y : Nat) (hx : x < 256) (hy : y < 256) : bits .or .i64 ((x : Int) * 256) (y : Int) = ((x * 256 + y : Nat) : Int) := by
  have h1 : (BitVec.ofInt 64 ((x : Int) * 256)).toNat = x * 256 := by
    rw [show ((x : Int) * 256) = ((x * 256 : Nat) : Int) from by omega, BitVec.ofInt_natCast, BitVec.toNat_ofNat]; exact Nat.mod_eq_of_lt (by omega)
  have h2 : (BitVec.ofInt 64 (y : Int)).toNat = y := by
    rw [BitVec.ofInt_natCast, BitVec.toNat_ofNat]; exact Nat.mod_eq_of_lt (by omega)
  show IntKind.i64.wrap ((BitVec.ofInt 64 ((x : Int) * 256) ||| BitVec.ofInt 64 (y : Int)).toNat : Int) = _
  rw [BitVec.toNat_or, h1, h2, nat_join 8 _ _ (by omega) (by omega), IntWalk.i64_in _ (by omega)]
theorem numberOf_any (S : Nat → Prop) (v : Value) (l : List UInt8) (h2 : 2 ≤ l.length) (w : World) (h : BS w S v l) : Calls Tryz.prog 162 #[v] w fun e w' => e = .returned (.int .i64 (numP l : Nat)) ∧ Below w.heap.size w w' := by
  obtain ⟨A, c, rfl, hc, _⟩ := h.form
  obtain ⟨b, o, rfl, _, _, hx⟩ := h.at_ (by omega)
  have hg : ∀ i, i < l.length → l[i]? = some (l.getD i 0) := fun i hi => by rw [List.getD_eq_getElem?_getD, List.getElem?_eq_getElem hi]; rfl
  have c0 := hx 0 _ (hg 0 (by omega))
  rw [Nat.add_zero] at c0
  have c1 := hx 1 _ (hg 1 (by omega))
  have U0 : Hid ((l.getD 0 0).toNat < 256) := (l.getD 0 0).toNat_lt
  have U1 : Hid ((l.getD 1 0).toNat < 256) := (l.getD 1 0).toNat_lt
  have u0 := U0.out
  have u1 := U1.out
  have q0 : (0 : Int) < (l.length : Int) := by omega
  have q1 : (1 : Int) < (l.length : Int) := by omega
  unfold numP
  generalize (l.getD 0 0).toNat = x at *
  generalize (l.getD 1 0).toNat = y at *
  generalize l.length = n at *
  clear hg hx h
  go_enter Tryz.func162, Tryz.ntmps162
  go_wp2
  go_region
  go_wp2
  go_ret
  exact ⟨ret_int (or_bytes x y U0.out U1.out), Below_drawn (Below.refl _ _) 1⟩
end
section
open Go.RowKit
def takenL (ps : List Pt) (N k : Nat) : List Bool := (List.range N).map fun (j : Nat) => (ps.take k).any fun v => decide (v.1 = (j : Int))
theorem takenL_len (ps : List Pt) (N k : Nat) : (takenL ps N k).length = N := by simp [takenL]
theorem takenL_zero (ps : List Pt) (N : Nat) : takenL ps N 0 = List.replicate N false := by
  apply List.ext_getElem
  · simp [takenL]
  · intro i h1 h2
    simp [takenL]
theorem takenL_at (ps : List Pt) {N k j : Nat} (h : j < N) : (takenL ps N k)[j]? = some ((ps.take k).any fun v => decide (v.1 = (j : Int))) := by
  simp [takenL, h]
theorem takenL_set {ps : List Pt} {N k a : Nat} {l : List UInt8} (h : ps[k]? = some ((a : Int), l)) : (takenL ps N k).set a true = takenL ps N (k + 1) := by
  apply List.ext_getElem?
  intro i
  rw [List.getElem?_set, takenL_len]
  by_cases hi : i < N
  · rw [takenL_at ps hi, takenL_at ps hi, List.take_add_one, h]
    by_cases ha : a = i
    · subst ha
      rw [if_pos rfl, if_pos hi]
      simp [List.any_append]
    · rw [if_neg ha]
      have : ¬ ((a : Int) = (i : Int)) := by omega
      simp [List.any_append, this]
  · rw [List.getElem?_eq_none (by rw [takenL_len]; omega), List.getElem?_eq_none (by rw [takenL_len]; omega)]
    split
    · rw [if_neg (by omega)]
    · rfl
theorem taken_iff {ps : List Pt} {k : Nat} {a : Int} (hk : k ≤ ps.length) : ((ps.take k).any fun v => decide (v.1 = a)) = true ↔ ∃ j, j < k ∧ (ps.getD j (0, [])).1 = a := by
  rw [List.any_eq_true]
  constructor
  · rintro ⟨v, hv, e⟩
    obtain ⟨j, hj, rfl⟩ := List.mem_iff_getElem.1 hv
    rw [List.length_take] at hj
    exact ⟨j, by omega, by rw [getD_pt (by omega)]; simpa using e⟩
  · rintro ⟨j, hj, e⟩
    rw [getD_pt (by omega)] at e
    exact ⟨ps[j], List.mem_iff_getElem.2 ⟨j, by rw [List.length_take]; omega, by simp⟩, by simpa using e⟩
theorem takes_no {n N : Int} {ps : List Pt} {k : Nat} (hk : k < ps.length) (h : ¬ okAt n N ps k) : takesB n N ps = false := decide_eq_false fun hh => h (hh k hk)
theorem takes_yes {n N : Int} {ps : List Pt} (h : ∀ i, i < ps.length → okAt n N ps i) : takesB n N ps = true := decide_eq_true h
theorem info_bool : (Tryz.prog.info? 4).map (fun i => (i.zero, i.size, i.bytes)) = some (some (.bool false), 1, 1) := by kernel_rfl
theorem make_bools (w : World) (n : Nat) (hn : n ≤ 1024) : ∃ C, C = ((List.replicate n false).map Value.bool).toArray ∧ (Instr.makeSlice 48 (.int .i64 n) (.int .i64 n)).run Tryz.prog w = .ok (.slice (some ⟨w.heap.size, 0, none⟩) n n) (w.alloc (.cells C 4)) := by
  obtain ⟨i0, hi, hz0, hz1, hz2⟩ := info_parts info_bool
  have hmk := run_make (P := Tryz.prog) w 48 4 i0 _ Tryz.underlying48 hi hz0 .i64 .i64 n n (by omega) (by omega) (by rw [hz2]; omega) (by omega)
  rw [hz1, Int.toNat_natCast, madeCells_of (.bool false) (.bool false) 1 n (by omega) rfl, Nat.mul_one] at hmk
  refine ⟨_, ?_, hmk⟩
  rw [List.map_replicate, List.toArray_replicate]
set_option maxHeartbeats 2000000 in
theorem takes_any {g n : Nat} {p : DA} {br : Bool} {s : Dk} (S : Nat → Prop) (v : Value) (ps : List Pt) (w : World) (hg : LG w g p n br) (hd : DS w p s) (h : PS w S v ps) :
    Calls Tryz.prog 119 #[.pointer (some ⟨g, 0, none⟩), v] w fun e w' => e = .returned (.bool (takesB n s.safe.length ps)) ∧ Below w.heap.size w w' := by
  obtain ⟨A, c, rfl, hc, hcm, hn0⟩ := h.form
  have hsz := size_any hd
  have few := hd.ok.few
  generalize s.safe.length = N at *
  obtain ⟨C, hC, hmk⟩ := make_bools w N few
  have K0 : KB (w.alloc (.cells C 4)) w.heap.size 4 ((takenL ps N 0).map Value.bool).toArray := by rw [takenL_zero, hC]; exact KB.new _ _ _
  have B0 := (Below.refl w.heap.size w).alloc (Nat.le_refl _) (.cells C 4)
  have c0 := hg.c0
  obtain ⟨R, hR⟩ : ∃ R, R = takesB n N ps := ⟨_, rfl⟩
  have HN : Hid (∀ k, k < ps.length → ¬ okAt n N ps k → R = false) := fun k hk h => by rw [hR]; exact takes_no hk h
  have HY : Hid ((∀ i, i < ps.length → okAt n N ps i) → R = true) := fun h => by rw [hR]; exact takes_yes h
  rw [← hR]
  clear hR hC
  have hlen : ps.length ≤ 9223372036854775807 := by unfold maxLen at hcm; omega
  go_enter Tryz.func119, Tryz.ntmps119
  go_wp2_with (go_at_call 58; refine hsz.mono ?_; rintro e w' ⟨rfl, rfl⟩)
  go_loopw [16] (fun iv wr => ∃ k : Nat, k ≤ ps.length ∧ iv = .int .i64 k ∧ Hid (∀ i, i < k → okAt n N ps i) ∧ KB wr w.heap.size 4 ((takenL ps N k).map Value.bool).toArray ∧ Below w.heap.size w wr) (fun iv _ => ps.length - (intOf iv).toNat)
  case atStart => exact ⟨0, by omega, rfl, fun i h => absurd h (Nat.not_lt_zero _), K0, B0⟩
  case round =>
    obtain ⟨k, hk, rfl, HS, kb, bl⟩ := hrel
    clear K0 B0 hmk
    by_cases hlt : k < ps.length
    · obtain ⟨b, o, rfl, _, _, hx⟩ := (h.below' bl).at_ (by omega)
      obtain ⟨⟨a, l⟩, hv⟩ : ∃ q, ps[k]? = some q := ⟨_, List.getElem?_eq_getElem hlt⟩
      obtain ⟨k0, X, z, k1, hbs⟩ := hx k _ hv
      dsimp only at k0 k1 hbs
      have hgk : ps.getD k (0, []) = (a, l) := by rw [List.getD_eq_getElem?_getD, hv]; rfl
      have hok : okAt n N ps k ↔ (n : Int) < a ∧ a < (N : Int) ∧ l.length = 256 ∧ ∀ j, j < k → (ps.getD j (0, [])).1 ≠ a := by unfold okAt; rw [hgk]
      have hti := taken_iff (a := a) hk
      have HV := Lib.hid hv
      have cg1 : wr.cell? ⟨g, 1, none⟩ = some (.int .i64 n) := (World.cell?_of_block (w := w) (bl.block g hg.lt)).trans hg.c1
      have q0 : (wr.alloc (.cells #[.int .i64 a, .slice X l.length z] 132)).cell? ⟨wr.heap.size, 0, none⟩ = some (.int .i64 a) := (KB.new wr 132 #[.int .i64 a, .slice X l.length z]).cell 0
      have q1 : (wr.alloc (.cells #[.int .i64 a, .slice X l.length z] 132)).cell? ⟨wr.heap.size, 1, none⟩ = some (.slice X l.length z) := (KB.new wr 132 #[.int .i64 a, .slice X l.length z]).cell 1
      have kb1 := kb.alloc (.cells #[.int .i64 a, .slice X l.length z] 132)
      have B1 := bl.alloc bl.size (.cells #[.int .i64 a, .slice X l.length z] 132)
      have gl : g < wr.heap.size := Nat.lt_of_lt_of_le hg.lt bl.size
      have qg : (wr.alloc (.cells #[.int .i64 a, .slice X l.length z] 132)).cell? ⟨g, 1, none⟩ = some (.int .i64 n) := (World.cell?_of_block (w := wr) (Below.heap_alloc wr _ g gl)).trans cg1
      clear hx hv hgk hbs
      by_cases d1 : a ≤ n
      · have D1 := decide_eq_true d1
        have hr := HN.out k hlt fun h => by have := hok.1 h; omega
        subst hr
        clear hok hti d1
        go_wp2_with fail
        go_quiet (fail)
        go_wp2
        go_ret
        exact ⟨rfl, Below_drawn B1 _⟩
      · by_cases d2 : (N : Int) ≤ a
        · have D1 := decide_eq_false d1
          have D2 := decide_eq_true d2
          have hr := HN.out k hlt fun h => by have := hok.1 h; omega
          subst hr
          clear hok hti d1 d2
          go_wp2_with fail
          go_quiet (fail)
          go_wp2
          go_ret
          exact ⟨rfl, Below_drawn B1 _⟩
        · have hiN : a.toNat < N := by omega
          have hai : ((a.toNat : Nat) : Int) = a := by omega
          have p0 : (0 : Int) ≤ a := by omega
          have p1 : a < (N : Int) := by omega
          have D1 := decide_eq_false d1
          have D2 := decide_eq_false d2
          have ct : (wr.alloc (.cells #[.int .i64 a, .slice X l.length z] 132)).cell? ⟨w.heap.size, a.toNat, none⟩ = some (.bool ((ps.take k).any fun v => decide (v.1 = a))) := by
            rw [kb1.cell, List.getElem?_toArray, List.getElem?_map, takenL_at ps hiN, hai]; rfl
          by_cases d3 : ((ps.take k).any fun v => decide (v.1 = a)) = true
          · rw [d3] at ct
            have hr := HN.out k hlt fun h => by
              obtain ⟨j, hj, e⟩ := hti.1 d3
              exact (hok.1 h).2.2.2 j hj e
            subst hr
            clear hok hti d1 d2 d3 hai
            go_wp2_with fail
            go_quiet (fail)
            go_wp2
            go_ret
            exact ⟨rfl, Below_drawn B1 _⟩
          · rw [Bool.not_eq_true] at d3
            rw [d3] at ct
            by_cases d4 : l.length = 256
            · have HO : Hid (∀ i, i < k + 1 → okAt n N ps i) := by
                intro j hj
                by_cases hjk : j < k
                · exact HS.out j hjk
                · obtain rfl : j = k := by omega
                  exact hok.2 ⟨by omega, by omega, d4, fun q hq e => by
                    have := hti.2 ⟨q, hq, e⟩
                    rw [d3] at this
                    cases this⟩
              have ft := kb1.free a.toNat
              have HT := Lib.hid (takenL_set (N := N) (a := a.toNat) (l := l) (by rw [hai]; exact HV.out))
              have HA := Lib.hid hai
              have D4 : ((l.length : Int) != 256) = false := by simp; omega
              clear HV
              generalize l.length = m at *
              subst d4
              clear hok hti d1 d2 d3 hai HS HN HY
              go_wp2_with fail
              go_quiet (fail)
              go_wp2_with fail
              go_roundw
              case rel =>
                refine ⟨k + 1, by omega, by go_num, HO, ?_, (Below_drawn B1 _).setCell (p := ⟨w.heap.size, a.toNat, none⟩) (Nat.le_refl _) _⟩
                have := (kb1.drewN nq).put a.toNat (.bool true)
                rw [List.setIfInBounds_toArray, ← List.map_set, HT.out] at this
                exact this
              case measure => simp [intOf]; omega
            · have hr := HN.out k hlt fun h => d4 (hok.1 h).2.2.1
              have D4 : ((l.length : Int) != 256) = true := by simp; omega
              have d5 : ¬ (l.length : Int) = 256 := by omega
              subst hr
              clear hok hti d1 d2 d3 hai d4
              go_wp2_with fail
              go_quiet (fail)
              go_wp2
              go_ret
              exact ⟨rfl, Below_drawn B1 _⟩
    · obtain rfl : k = ps.length := by omega
      have hr := HY.out HS.out
      subst hr
      go_wp2_with fail
      go_ret
      exact ⟨rfl, bl⟩
end
section
open Go.RowKit
def chkP (br : Bool) (n : Nat) (N : Int) (ps : List Pt) : Int := if br = true then 8 else if takesB n N ps = true then (if roomN n < ps.length then 4 else 0) else 1
section
variable {w : World} {g n : Nat} {p : DA} {br : Bool} {s : Dk}
theorem LG.below {w' : World} (h : LG w g p n br) (hb : Below w.heap.size w w') : LG w' g p n br := KB.below h hb (KB.lt h)
theorem LG.keepP {w' : World} {P : Nat → Prop} (h : LG w g p n br) (k : KeepP P w w') (hp : P g) : LG w' g p n br := KB.keepP h k hp
theorem lcheck_any (S : Nat → Prop) (v : Value) (ps : List Pt) (hn : n ≤ 100000) (hg : LG w g p n br) (hd : DS w p s) (h : PS w S v ps) :
    Calls Tryz.prog 82 #[.pointer (some ⟨g, 0, none⟩), v] w fun e w' => e = .returned (.int .i64 (chkP br n s.safe.length ps)) ∧ Below w.heap.size w w' := by
  have hm := lmade_any hg
  have c2 := hg.c2
  have ht := takes_any S v ps w hg hd h
  obtain ⟨A, c, rfl, hc, hcm, hn0⟩ := h.form
  have hgb := fun (w' : World) (hb : Below w.heap.size w w') => (hg.below hb).c1
  have hr := fun w => room_any n w hn
  unfold chkP
  generalize takesB n s.safe.length ps = t at *
  generalize roomN n = r at *
  generalize ps.length = m at *
  cases br with
  | true =>
    rw [if_pos rfl]
    go_enter Tryz.func82, Tryz.ntmps82
    go_wp2_with (go_at_call 71; refine hm.mono ?_; rintro e w' ⟨rfl, rfl⟩)
    go_ret
    exact ⟨rfl, Below.refl _ _⟩
  | false =>
    rw [if_neg (by simp)]
    cases t with
    | false =>
      rw [if_neg (by simp)]
      go_enter Tryz.func82, Tryz.ntmps82
      go_wp2_with (first
        | (go_at_call 71; refine hm.mono ?_; rintro e w' ⟨rfl, rfl⟩)
        | (go_at_call 119; refine ht.mono ?_; rintro e w1 ⟨rfl, b1⟩))
      go_ret
      exact ⟨rfl, b1⟩
    | true =>
      rw [if_pos rfl]
      by_cases hk : r < m
      · rw [if_pos hk]
        have D1 : decide ((r : Int) < (m : Int)) = true := by simp; omega
        go_enter Tryz.func82, Tryz.ntmps82
        go_wp2_with (first
          | (go_at_call 71; refine hm.mono ?_; rintro e w' ⟨rfl, rfl⟩)
          | (go_at_call 119; refine ht.mono ?_; rintro e w1 ⟨rfl, b1⟩; have q1 := hgb w1 b1)
          | (go_at_call 50; refine (hr _).mono ?_; rintro e w' ⟨rfl, rfl⟩))
        go_ret
        exact ⟨rfl, b1⟩
      · rw [if_neg hk]
        have D1 : decide ((r : Int) < (m : Int)) = false := by simp; omega
        go_enter Tryz.func82, Tryz.ntmps82
        go_wp2_with (first
          | (go_at_call 71; refine hm.mono ?_; rintro e w' ⟨rfl, rfl⟩)
          | (go_at_call 119; refine ht.mono ?_; rintro e w1 ⟨rfl, b1⟩; have q1 := hgb w1 b1)
          | (go_at_call 50; refine (hr _).mono ?_; rintro e w' ⟨rfl, rfl⟩))
        go_ret
        exact ⟨rfl, b1⟩
end
theorem wsD_dead {ps : List Pt} {s : Dk} (h : s.fuse = 0) : wsD s ps = (s, 8) := by
  cases ps <;> (unfold wsD; rw [if_pos h])
theorem wsD_live {q : Pt} {r : List Pt} {s : Dk} (h : s.fuse ≠ 0) : wsD s (q :: r) = wsD (wrD s q.1.toNat q.2) r := by
  rw [wsD, if_neg h]
theorem wsD_end {s : Dk} (h : s.fuse ≠ 0) : wsD s [] = (s.flushed, 0) := by unfold wsD; rw [if_neg h]
set_option maxHeartbeats 2000000 in
theorem lwrite_any {g n : Nat} {p : DA} {br : Bool} {s : Dk} (v : Value) (ps : List Pt) (w : World) (hg : LG w g p n br) (hgp : ¬ p.has g) (hd : DS w p s) (h : PS w (Off p w) v ps) (hfit : Fit s.safe.length ps) :
    Calls Tryz.prog 86 #[.pointer (some ⟨g, 0, none⟩), v] w fun e w' => e = .returned (.int .i64 (doD ps s).2) ∧ DS w' p (doD ps s).1 ∧ KeepP (Off p w) w w' := by
  obtain ⟨A, c, rfl, hc, hcm, hn0⟩ := h.form
  by_cases h0 : ps.length = 0
  · have e : doD ps s = (s, 0) := if_pos h0
    rw [e]
    generalize ps.length = m at *
    subst h0
    go_enter Tryz.func86, Tryz.ntmps86
    go_wp2
    go_ret
    exact ⟨rfl, hd, KeepP.refl _ _⟩
  · have e : doD ps s = wsD s ps := if_neg h0
    rw [e]
    clear e
    have D0 : decide ((ps.length : Int) = 0) = false := by simp; intro e; rw [e] at h0; simp at h0
    have D0' : ((ps.length : Int) == 0) = false := by simp; intro e; rw [e] at h0; simp at h0
    obtain ⟨R, hR⟩ : ∃ R, R = wsD s ps := ⟨_, rfl⟩
    have HR : Hid (wsD s (ps.drop 0) = R) := by show _ = _; rw [hR]; rfl
    rw [← hR]
    have hlen : ps.length ≤ 9223372036854775807 := by unfold maxLen at hcm; omega
    have hoff : Off p w g := ⟨KB.lt hg, hgp⟩
    have HF : Hid (∀ (k : Nat) (a : Int) (l : List UInt8), ps[k]? = some (a, l) → 0 ≤ a ∧ a < (s.safe.length : Int) ∧ l.length = 256) := fun k a l hk => hfit _ (List.mem_of_getElem? hk)
    have HD : Hid (∀ (k : Nat) (a : Int) (l : List UInt8), ps[k]? = some (a, l) → ps.drop k = (a, l) :: ps.drop (k + 1)) := fun k a l hk => by
      obtain ⟨h1, h2⟩ := List.getElem?_eq_some_iff.1 hk
      rw [List.drop_eq_getElem_cons h1, h2]
    have HE : Hid (ps.drop ps.length = []) := by show _ = _; simp
    clear hR hfit
    go_enter Tryz.func86, Tryz.ntmps86
    go_wp2
    go_loopw [13] (fun iv wr => ∃ (k : Nat) (s' : Dk), k ≤ ps.length ∧ iv = .int .i64 k ∧ Hid (wsD s' (ps.drop k) = R) ∧ Hid (s'.safe.length = s.safe.length) ∧ DS wr p s' ∧ KeepP (Off p w) w wr) (fun iv _ => ps.length - (intOf iv).toNat)
    case atStart => exact ⟨0, s, by omega, rfl, HR, rfl, hd, KeepP.refl _ _⟩
    case round =>
      obtain ⟨k, s', hk, rfl, HS, HN, ds, kp⟩ := hrel
      have hgr := hg.keepP kp hoff
      by_cases hlt : k < ps.length
      · obtain ⟨b, o, rfl, sb, hbl, hx⟩ := (h.keepS kp.size (fun b sb _ => kp.block b sb) fun _ h => h).at_ (by omega)
        obtain ⟨⟨a, l⟩, hv⟩ : ∃ q, ps[k]? = some q := ⟨_, List.getElem?_eq_getElem hlt⟩
        obtain ⟨k0, X, z, k1, hbs⟩ := hx k _ hv
        obtain ⟨f1, f2, f3⟩ := HF.out k a l hv
        have HX := Lib.hid (HD.out k a l hv)
        dsimp only at k0 k1 hbs
        obtain ⟨i, rfl⟩ := Int.eq_ofNat_of_zero_le f1
        have hbs1 := hbs.alloc (.cells #[.int .i64 (i : Int), .slice X l.length z] 132)
        have ds1 := ds.below ((Below.refl wr.heap.size wr).alloc (Nat.le_refl _) (.cells #[.int .i64 (i : Int), .slice X l.length z] 132))
        have kp1 := kp.new (.cells #[.int .i64 (i : Int), .slice X l.length z] 132) fun x hx => hx.1
        have kw := KB.new wr 132 #[.int .i64 (i : Int), .slice X l.length z]
        have q0 : (wr.alloc (.cells #[.int .i64 (i : Int), .slice X l.length z] 132)).cell? ⟨wr.heap.size, 0, none⟩ = some (.int .i64 (i : Int)) := kw.cell 0
        have q1 : (wr.alloc (.cells #[.int .i64 (i : Int), .slice X l.length z] 132)).cell? ⟨wr.heap.size, 1, none⟩ = some (.slice X l.length z) := kw.cell 1
        have qg : (wr.alloc (.cells #[.int .i64 (i : Int), .slice X l.length z] 132)).cell? ⟨g, 0, none⟩ = some (.pointer (some ⟨p.d, 0, none⟩)) := LG.c0 (KB.alloc hgr (.cells #[.int .i64 (i : Int), .slice X l.length z] 132))
        have hiN : i < s'.safe.length := by have := HN.out; omega
        have HI := Lib.hid hiN
        have HL := Lib.hid f3
        clear hx hv f1 f2 hiN
        by_cases hf : s'.fuse = 0
        · have hw := fun (W : World) (h : DS W p s') => write_chk h (i : Int) (by simp [chk, hf]) (.slice X l.length z)
          rw [show chk s' (i : Int) = 8 from by simp [chk, hf]] at hw
          have HRR : Hid (R = (s', 8)) := by show _ = _; rw [← HS.out, wsD_dead hf]
          generalize l.length = m at *
          clear hf hbs hbs1 f3 HL HX HF HD HE
          go_wp2_with fail
          generalize wr.alloc (.cells #[.int .i64 (i : Int), .slice X m z] 132) = w2 at *
          go_region_held3 (fun w' => w'.cell? ⟨g, 0, none⟩ = some (.pointer (some ⟨p.d, 0, none⟩)) ∧ w'.cell? ⟨wr.heap.size, 0, none⟩ = some (.int .i64 (i : Int)) ∧ w'.cell? ⟨wr.heap.size, 1, none⟩ = some (.slice X m z))
            (first | exact ⟨qg, q0, q1⟩ | go_keep)
            (first | (go_at_call 26; refine (hw _ (ds1.drewN 1)).mono ?_; rintro e w' ⟨rfl, rfl⟩) | fail)
          go_wp2_with fail
          go_ret
          rw [HRR.out]
          exact ⟨rfl, ds1.drewN 1, kp1.drewN 1⟩
        · have hw := fun (W : World) (h : DS W p s') (hb : BS W (Off p w) (.slice X l.length z) l) => write_ok h i HI.out hf (Off p w) (.slice X l.length z) l hb HL.out
          have HSS : Hid (wsD (wrD s' i l) (ps.drop (k + 1)) = R) := by
            show _ = _
            rw [← HS.out, HX.out, wsD_live hf]
            rfl
          have HN2 : Hid ((wrD s' i l).safe.length = s.safe.length) := HN.out
          have hkp := fun (W : World) (h : KeepP (Off p (wr.alloc (.cells #[.int .i64 (i : Int), .slice X l.length z] 132)).drew) (wr.alloc (.cells #[.int .i64 (i : Int), .slice X l.length z] 132)).drew W) => (kp1.drewN 1).trans (h.mono (Q := Off p w) fun x hx => ⟨Nat.lt_of_lt_of_le hx.1 kp1.size, hx.2⟩)
          have HKP := Lib.hid hkp
          have HC : Hid (∀ W, KeepP (Off p (wr.alloc (.cells #[.int .i64 (i : Int), .slice X l.length z] 132)).drew) (wr.alloc (.cells #[.int .i64 (i : Int), .slice X l.length z] 132)).drew W → W.cell? ⟨g, 0, none⟩ = some (.pointer (some ⟨p.d, 0, none⟩)) ∧ W.cell? ⟨wr.heap.size, 0, none⟩ = some (.int .i64 (i : Int)) ∧ W.cell? ⟨wr.heap.size, 1, none⟩ = some (.slice X l.length z)) := by
            intro W hk
            have b1 := hk.block g ⟨Nat.lt_of_lt_of_le hoff.1 kp1.size, hgp⟩
            have b2 := hk.block wr.heap.size ⟨kw.lt, fun hx => by have := ds.lt _ hx; omega⟩
            exact ⟨(World.cell?_of_block b1).trans qg, (World.cell?_of_block b2).trans q0, (World.cell?_of_block b2).trans q1⟩
          clear hf hkp f3 HS HN HX HF HD HE
          go_wp2_with fail
          generalize wr.alloc (.cells #[.int .i64 (i : Int), .slice X l.length z] 132) = w2 at *
          go_region_held3 (fun w' => w'.cell? ⟨g, 0, none⟩ = some (.pointer (some ⟨p.d, 0, none⟩)) ∧ w'.cell? ⟨wr.heap.size, 0, none⟩ = some (.int .i64 (i : Int)) ∧ w'.cell? ⟨wr.heap.size, 1, none⟩ = some (.slice X l.length z))
            (first | exact ⟨qg, q0, q1⟩ | exact HC.out _ k4 | go_keep)
            (first | (go_at_call 26; refine (hw _ (ds1.drewN 1) (hbs1.drewN 1)).mono ?_; rintro e w4 ⟨rfl, d4, k4⟩) | fail)
          go_wp2_with fail
          go_roundw
          case rel => exact ⟨k + 1, _, by omega, by go_num, HSS, HN2, d4, HKP.out _ k4⟩
          case measure => simp [intOf]; omega
      · obtain rfl : k = ps.length := by omega
        have HS2 : Hid (wsD s' [] = R) := by show _ = _; rw [← HS.out, HE.out]
        have c0 := hgr.c0
        clear HS HN HF HD HE
        by_cases hf : s'.fuse = 0
        · have HRR : Hid (R = (s', 8)) := by show _ = _; rw [← HS2.out, wsD_dead hf]
          have hw := flush_dead ds hf
          clear hf
          go_wp2_with (go_at_call 122; refine hw.mono ?_; rintro e w' ⟨rfl, rfl⟩)
          go_ret
          rw [HRR.out]
          exact ⟨rfl, ds, kp⟩
        · have HRR : Hid (R = (s'.flushed, 0)) := by show _ = _; rw [← HS2.out, wsD_end hf]
          have hw := flush_ok ds hf
          clear hf
          go_wp2_with (go_at_call 122; refine hw.mono ?_; rintro e w4 ⟨rfl, d4, k4⟩)
          go_ret
          rw [HRR.out]
          exact ⟨rfl, d4, kp.trans (k4.mono fun x hx => ⟨Nat.lt_of_lt_of_le hx.1 kp.size, hx.2⟩)⟩
end
section
open Go.RowKit
def wipeQ (s : Dk) (a k : Nat) : List Pt := ((List.range' a (k - a)).filter fun i => !decide (s.now i = zs 256)).map fun (i : Nat) => ((i : Int), zs 256)
theorem wipeQ_all (s : Dk) (a b : Nat) : wipeQ s a (b + 1) = wipeP s a b := rfl
theorem wipeQ_zero (s : Dk) (a : Nat) : wipeQ s a a = [] := by unfold wipeQ; rw [Nat.sub_self]; rfl
theorem wipeQ_succ (s : Dk) {a k : Nat} (h : a ≤ k) : wipeQ s a (k + 1) = wipeQ s a k ++ (if s.now k = zs 256 then [] else [((k : Int), zs 256)]) := by
  unfold wipeQ
  rw [show k + 1 - a = (k - a) + 1 by omega, List.range'_concat, List.filter_append, List.map_append, Nat.one_mul, show a + (k - a) = k by omega]
  by_cases hz : s.now k = zs 256
  · simp [hz]
  · simp [hz]
theorem wipeQ_len (s : Dk) (a k : Nat) : (wipeQ s a k).length ≤ k - a := by
  unfold wipeQ
  rw [List.length_map]
  exact Nat.le_trans (List.length_filter_le _ _) (by simp)
theorem wipeP_fit {s : Dk} {a b : Nat} (h : b < s.safe.length) : Fit s.safe.length (wipeP s a b) := by
  intro q hq
  obtain ⟨i, h1, h2, rfl⟩ := wipeP_mem hq
  exact ⟨by show (0 : Int) ≤ (i : Int); omega, by show (i : Int) < _; omega, zs_len 256⟩
theorem onep_at (w : World) (t : TypeId) (a : Int) (x : Value) : ∀ j u, (flatW [(a, x)])[j]? = some u → (w.alloc (.cells #[.int .i64 a, x] t)).cell? ((⟨w.heap.size, 0, none⟩ : Addr).add j) = some u := by
  intro j u h
  rw [Addr.add_lit, Nat.zero_add, (KB.new w t #[.int .i64 a, x]).cell]
  simpa [flatW, two2] using h
theorem own_lt {w : World} {B e size n : Nat} {v : Value} {xs : List Value} (h : w.ownsRow B e size v n xs) {k : Nat} (hk : v.ownBlock = some k) : k < w.heap.size := by
  obtain ⟨_, h2⟩ := h
  rcases h2 with ⟨rfl, _⟩ | ⟨g', c, cur, rfl, hb, hg, _⟩
  · cases hk
  · simp [Value.ownBlock] at hk
    subst hk
    exact (Array.getElem?_eq_some_iff.1 hg).1
def Mine (B : Nat) (v : Value) (w : World) (x : Nat) : Prop := B ≤ x ∧ x < w.heap.size ∧ v.ownBlock ≠ some x
theorem PT.mine {B : Nat} {v : Value} {w w' : World} {qs : List Two2} {ps : List Pt} (h : PT w (Mine B v w) qs ps) (hb : Below w.heap.size w w') : PT w' (Mine B v w') qs ps :=
  h.keepS hb.size (fun b _ hlt => hb.block b hlt) fun b hb' => ⟨hb'.1, Nat.lt_of_lt_of_le hb'.2.1 hb.size, hb'.2.2⟩
theorem PT.minegrow {B : Nat} {v v' : Value} {w w' : World} {qs : List Two2} {ps : List Pt} (h : PT w (Mine B v w) qs ps) (hg : w.grownBy w' v.ownBlock) (ho : v'.ownBlock = v.ownBlock ∨ v'.ownBlock = some w.heap.size) : PT w' (Mine B v' w') qs ps :=
  h.keepS hg.size (fun b sb hlt => hg.block b hlt fun e => sb.2.2 e.symm) fun b sb => ⟨sb.1, Nat.lt_of_lt_of_le sb.2.1 hg.size, by
    rcases ho with ho | ho
    · rw [ho]; exact sb.2.2
    · rw [ho]; intro e; injection e with e; have := sb.2.1; omega⟩
section
variable {w : World} {g n : Nat} {p : DA} {br : Bool} {s : Dk}
theorem wipe_dead (hg : LG w g p n br) (hd : DS w p s) (a b : Nat) (hab : a ≤ b) (hf : s.fuse = 0) :
    Calls Tryz.prog 97 #[.pointer (some ⟨g, 0, none⟩), .int .i64 (a : Int), .int .i64 (b : Int)] w fun e w' => e = .returned (.int .i64 8) ∧ w = w' := by
  have hr := read_chk hd (a : Int) (by simp [chk, hf])
  rw [show chk s (a : Int) = 8 from by simp [chk, hf]] at hr
  have c0 := hg.c0
  have D0 : decide ((a : Int) ≤ (b : Int)) = true := by simp; omega
  go_enter Tryz.func97, Tryz.ntmps97
  go_wp2
  go_loopw [7, 8] (fun v iv wr => v = .slice none 0 0 ∧ iv = .int .i64 (a : Int) ∧ wr = w) (fun _ _ _ => 0)
  case atStart => exact ⟨rfl, rfl, rfl⟩
  case round =>
    obtain ⟨rfl, rfl, rfl⟩ := hrel
    go_wp2_with (go_at_call 25; refine hr.mono ?_; rintro e w' ⟨rfl, rfl⟩)
    go_ret
    exact ⟨rfl, rfl⟩
set_option maxHeartbeats 2000000 in
theorem wipe_live (hg : LG w g p n br) (hgp : ¬ p.has g) (hd : DS w p s) (a b : Nat) (hab : a ≤ b) (hb : b < s.safe.length) (hf : s.fuse ≠ 0) :
    Calls Tryz.prog 97 #[.pointer (some ⟨g, 0, none⟩), .int .i64 (a : Int), .int .i64 (b : Int)] w fun e w' => e = .returned (.int .i64 (doD (wipeP s a b) s).2) ∧ DS w' p (doD (wipeP s a b) s).1 ∧ KeepP (Off p w) w w' := by
  have hN := hd.ok.few
  have hrd := fun (W : World) (hdW : DS W p s) (i : Nat) (hi : i < s.safe.length) => read_ok hdW i hi hf
  have HRD := Lib.hid hrd
  have hwr := fun (W : World) (v : Value) (hgW : LG W g p n br) (hdW : DS W p s) (h : PS W (Off p W) v (wipeP s a b)) => lwrite_any v _ W hgW hgp hdW h (wipeP_fit hb)
  have HWR := Lib.hid hwr
  have HQA := Lib.hid (wipeQ_all s a b)
  have hlt := hd.lt
  clear hrd hwr hf
  have hoff : Off p w g := ⟨KB.lt hg, hgp⟩
  go_enter Tryz.func97, Tryz.ntmps97
  go_wp2
  go_loopw [7, 8] (fun v iv wr => ∃ (k : Nat) (qs : List Two2), a ≤ k ∧ k ≤ b + 1 ∧ iv = .int .i64 (k : Int) ∧ wr.ownsRow w.heap.size 132 2 v qs.length (flatW qs) ∧ PT wr (Mine w.heap.size v wr) qs (wipeQ s a k) ∧ Below w.heap.size w wr) (fun _ iv _ => b + 1 - (intOf iv).toNat)
  case atStart => exact ⟨a, [], Nat.le_refl _, by omega, rfl, World.ownsRow_nil _ _ _ _, by rw [wipeQ_zero]; exact PT.nil _ _, Below.refl _ _⟩
  case round =>
    obtain ⟨k, qs, hak, hkb, rfl, how, pt, bl⟩ := hrel
    have hgr := hg.below bl
    have hdr := hd.below bl
    by_cases hle : k ≤ b
    · have D0 : decide ((k : Int) ≤ (b : Int)) = true := by simp; omega
      have c0 := hgr.c0
      have HS := Lib.hid (wipeQ_succ s hak)
      have hr := HRD.out wr hdr k (by omega)
      have hlen := wipeQ_len s a k
      have hql := pt.1
      have HLEN : Hid (qs.length + 1 ≤ 1000000000) := by show _ ≤ _; omega
      clear hlen hql
      generalize wipeQ s a k = ps at *
      have hnl := hd.ok.now_len k (by omega)
      have HNL := Lib.hid hnl
      generalize hx : s.now k = x at *
      clear hx hnl
      go_wp2_with fail
      refine hr.mono ?_
      rintro e w1 ⟨v1, rfl, how1, b1⟩
      have bs1 := own_BS how1
      have B1 := bl.trans (b1.mono bl.size)
      have how' := own_past b1 how
      have pt1 := pt.mine b1
      obtain ⟨A1, c1, rfl, _⟩ := bs1.form
      have he := empty_any _ _ x w1 bs1
      clear how how1 hr pt c0
      by_cases hz : x = zs 256
      · rw [decide_eq_true hz] at he
        have HZ : Hid (wipeQ s a (k + 1) = ps) := by show _ = _; rw [HS.out, if_pos hz, List.append_nil]
        clear hz bs1
        generalize x.length = m at *
        go_wp2_with fail
        refine he.mono ?_
        rintro e w2 ⟨rfl, b2⟩
        have how2 := own_past b2 how'
        have pt2 := pt1.mine b2
        clear he how' pt1
        go_wp2_with fail
        go_roundw
        case rel => exact ⟨k + 1, qs, by omega, by omega, by go_num, how2, by rw [HZ.out]; exact pt2, B1.trans (b2.mono B1.size)⟩
        case measure => simp [intOf]; omega
      · rw [decide_eq_false hz] at he
        have HZ : Hid (wipeQ s a (k + 1) = ps ++ [((k : Int), zs 256)]) := by show _ = _; rw [HS.out, if_neg hz]
        clear hz bs1
        generalize x.length = m at *
        go_wp2_with fail
        refine he.mono ?_
        rintro e w2 ⟨rfl, b2⟩
        have how2 := own_past b2 how'
        have pt2 := pt1.mine b2
        have B2 := B1.trans (b2.mono B1.size)
        clear he how' pt1 B1 b1 b2
        go_wp2_with fail
        refine (zero_any w2).mono ?_
        rintro e w3 ⟨rfl, k3, b3⟩
        have hbz := kb_256 k3 (zs_len 256)
        have how3 := own_past b3 how2
        have B3 := B2.trans (b3.mono B2.size)
        have hw2 := B2.size
        have hne : Mine w.heap.size u7 w3 w2.heap.size := ⟨hw2, k3.lt, fun e => by have := own_lt how2 e; omega⟩
        have pt3 := (pt2.mine b3).append (PT.one (a := (k : Int)) (hbz.mono (S' := Mine w.heap.size u7 w3) fun b hb => by subst hb; exact hne))
        rw [← HZ.out] at pt3
        have B4 := (Below.refl w3.heap.size w3).alloc (Nat.le_refl _) (.cells #[.int .i64 (k : Int), .slice (some ⟨w2.heap.size, 0, none⟩) 256 256] 132)
        have how4 := own_past B4 how3
        have pt4 := pt3.mine B4
        have hat := onep_at w3 132 (k : Int) (.slice (some ⟨w2.heap.size, 0, none⟩) 256 256)
        have hw3 := B3.size
        have B34 := B3.trans (B4.mono B3.size)
        clear pt2 pt3 how2 how3 hbz hne B2 b3 k3 B3 B4
        go_wp2_with (at_builtin; refine wpList_growP _ rfl _ _ rfl w.heap.size u7 qs rfl how4 ⟨w3.heap.size, 0, none⟩ 1 1 [((k : Int), .slice (some ⟨w2.heap.size, 0, none⟩) 256 256)] rfl rfl hat (by intro u hu; simp [flatW, two2] at hu; rcases hu with rfl | rfl <;> rfl) HLEN.out (by simp; omega) ?_; intro v5 w5 how5 g5 ho5)
        go_roundw
        case rel =>
          refine ⟨k + 1, _, by omega, by omega, by go_num, how5, pt4.minegrow g5 ho5, B34.grown g5 B34.size fun g e => ?_⟩
          exact own_ge how4 g e
        case measure => simp [intOf]; omega
    · obtain rfl : k = b + 1 := by omega
      have D0 : decide (((b + 1 : Nat) : Int) ≤ (b : Int)) = false := by simp; omega
      rw [HQA.out] at pt
      have hp := PS_of_own (S := Off p wr) how (pt.mono fun x hx => ⟨hx.2.1, fun e => by have := hlt x e; have := hx.1; omega⟩) fun x h1 h2 => ⟨h2, fun e => by have := hlt x e; omega⟩
      have hw := HWR.out wr u7 hgr hdr hp
      have hoffr : ∀ x, Off p w x → Off p wr x := fun x hx => ⟨Nat.lt_of_lt_of_le hx.1 bl.size, hx.2⟩
      obtain ⟨A1, c1, rfl, _⟩ := hp.form
      generalize (wipeP s a b).length = m at *
      go_wp2_with (go_at_call 86; refine hw.mono ?_; rintro e w5 ⟨rfl, d5, k5⟩)
      go_ret
      exact ⟨rfl, d5, (KeepP.of_below bl fun x hx => hx.1).trans (k5.mono hoffr)⟩
theorem wipe_any (hg : LG w g p n br) (hgp : ¬ p.has g) (hd : DS w p s) (a b : Nat) (hab : a ≤ b) (hb : b < s.safe.length) :
    Calls Tryz.prog 97 #[.pointer (some ⟨g, 0, none⟩), .int .i64 (a : Int), .int .i64 (b : Int)] w fun e w' => e = .returned (.int .i64 (wipeD a b s).2) ∧ DS w' p (wipeD a b s).1 ∧ KeepP (Off p w) w w' := by
  unfold wipeD
  by_cases hf : s.fuse = 0
  · rw [if_pos hf]
    refine (wipe_dead hg hd a b hab hf).mono ?_
    rintro e w' ⟨rfl, rfl⟩
    exact ⟨rfl, hd, KeepP.refl _ _⟩
  · rw [if_neg hf]
    exact wipe_live hg hgp hd a b hab hb hf
end
end
end Go.Proofs.YteddmnoeljakpaaGreatDoor
