/-
  WaE: row, over the loaded program: sectors as patches. No condition but what it names.
  WaF: entries, over the loaded program: what a log has behind its head. No condition but what it names.
  WaS: append onto rows of a call's own (bytes, slices, patches), as an operation of a region that draws. No condition.
  WaG: head, over the loaded program: the head of a log. No condition but what it names (the table roots among it).
  SeC: Get of sect, over the loaded program: its contract. No condition.
-/
import Derived.Test.YteddmnoeljakpaaGreatDoorSw14
import Derived.Test.YteddmnoeljakpaaGreatDoorSw12
import Derived.Test.YteddmnoeljakpaaGreatDoorSw10
import Derived.Deep.RegionHeld3
import Derived.Test.YteddmnoeljakpaaGreatDoorSw13
import Derived.Test.YteddmnoeljakpaaGreatDoorSw03
import Derived.RegionTactic
set_option linter.unusedVariables false
set_option maxRecDepth 100000
namespace Go.Proofs.YteddmnoeljakpaaGreatDoor
section
open Go.RowKit
def zP : Two2 := (0, .slice none 0 0)
theorem flatW_rep : ∀ n : Nat, flatW (List.replicate (n + 1) zP) = two2 zP ++ flatW (List.replicate n zP) := fun n => by rw [List.replicate_succ, flatW_cons]
theorem flatW_even : ∀ (n i : Nat), i < n → (flatW (List.replicate n zP))[i * 2]? = some (.int .i64 0) ∧ (flatW (List.replicate n zP))[i * 2 + 1]? = some (.slice none 0 0) := fun n i h =>
  flatW_at _ i zP (by rw [List.getElem?_replicate, if_pos h])
theorem madeCells_two (n : Nat) : madeCells (Value.agg #[.int .i64 0, .slice none 0 0]).cells (n * 2) = (flatW (List.replicate n zP)).toArray := by
  apply Array.toList_inj.1
  apply List.ext_getElem?
  intro i
  rw [Array.getElem?_toList]
  show _ = (flatW (List.replicate n zP))[i]?
  by_cases hi : i < n * 2
  · have h1 : (madeCells (Value.agg #[.int .i64 0, .slice none 0 0]).cells (n * 2))[i]? = some ((#[Value.int .i64 0, Value.slice none 0 0] : Array Value)[i % 2]!) := by
      unfold madeCells
      rw [Array.getElem?_map, Array.getElem?_range, if_pos hi]
      rfl
    rw [h1]
    obtain ⟨e0, e1⟩ := flatW_even n (i / 2) (by omega)
    rcases Nat.mod_two_eq_zero_or_one i with hm | hm
    · rw [hm, show i = i / 2 * 2 by omega, e0]; rfl
    · rw [hm, show i = i / 2 * 2 + 1 by omega, e1]; rfl
  · rw [Array.getElem?_eq_none (by rw [size_madeCells]; omega), List.getElem?_eq_none (by rw [flatW_length, List.length_replicate]; omega)]
theorem make_patches (w : World) (n : Nat) (hn : n ≤ 1000000) : ∃ C, C = (flatW ([] ++ List.replicate (n - 0) zP)).toArray ∧ (Instr.makeSlice 88 (.int .i64 n) (.int .i64 n)).run Tryz.prog w = .ok (.slice (some ⟨w.heap.size, 0, none⟩) n n) (w.alloc (.cells C 132)) := by
  obtain ⟨i0, hi, hz0, hz1, hz2⟩ := info_parts info_patch
  have hmk := run_make (P := Tryz.prog) w 88 132 i0 _ Tryz.underlying88 hi hz0 .i64 .i64 n n (by omega) (by omega) (by rw [hz2]; omega) (by omega)
  rw [hz1, Int.toNat_natCast, madeCells_two] at hmk
  exact ⟨_, rfl, hmk⟩
theorem splice_pair (qs : List Two2) (m : Nat) (q : Two2) : splice (flatW (qs ++ List.replicate (m + 1) zP)) (qs.length * 2) (two2 q) = flatW ((qs ++ [q]) ++ List.replicate m zP) := by
  rw [flatW_append, flatW_rep, ← flatW_length, splice_mid _ _ _ _ (by rfl), flatW_append, flatW_append, flatW_cons, flatW_nil, List.append_nil, List.append_assoc]
theorem rowP_succ (at_ k : Nat) {ls : List (List UInt8)} {l : List UInt8} (h : ls[k]? = some l) : rowP at_ (ls.take (k + 1)) = rowP at_ (ls.take k) ++ [(((at_ + k : Nat) : Int), l)] := by
  have hk := (List.getElem?_eq_some_iff.1 h).1
  apply List.ext_getElem?
  intro i
  rw [rowP_at]
  rcases Nat.lt_trichotomy i k with hi | hi | hi
  · rw [List.getElem?_append_left (by rw [rowP_len, List.length_take]; omega), rowP_at, List.getElem?_take, if_pos (by omega), List.getElem?_take, if_pos hi]
  · subst hi
    rw [List.getElem?_append_right (by rw [rowP_len, List.length_take]; omega), rowP_len, List.length_take, List.getElem?_take, if_pos (by omega), h, show i - min i ls.length = 0 by omega]
    rfl
  · rw [List.getElem?_append_right (by rw [rowP_len, List.length_take]; omega), rowP_len, List.length_take, List.getElem?_take, if_neg (by omega), List.getElem?_eq_none (by simp; omega)]
    rfl
set_option maxHeartbeats 2000000 in
theorem row_any (at_ : Nat) (ha : at_ ≤ 1000000) (S : Nat → Prop) (v : Value) (ls : List (List UInt8)) (w : World) (h : LS w S v ls) (hls : ls.length ≤ 1000000) :
    Calls Tryz.prog 87 #[.int .i64 (at_ : Int), v] w fun e w' => ∃ v', e = .returned v' ∧ PS w' (fun x => S x ∧ x < w.heap.size ∨ x = w.heap.size) v' (rowP at_ ls) ∧ Below w.heap.size w w' := by
  obtain ⟨A, c, rfl, hlc, hcm⟩ := h.form
  obtain ⟨C, hC, hmk⟩ := make_patches w ls.length hls
  have K0 : KB (w.alloc (.cells C 132)) w.heap.size 132 (flatW ([] ++ List.replicate (ls.length - 0) zP)).toArray := by rw [hC]; exact KB.new _ _ _
  have B0 := (Below.refl w.heap.size w).alloc (Nat.le_refl _) (.cells C 132)
  have hlen : ls.length ≤ 9223372036854775807 := by omega
  have HLS := Lib.hid hls
  have HAT := Lib.hid ha
  clear hC hls ha
  go_enter Tryz.func87, Tryz.ntmps87
  go_wp2
  go_loopw [13] (fun iv wr => ∃ (k : Nat) (qs : List Two2), k ≤ ls.length ∧ iv = .int .i64 k ∧ qs.length = k ∧ KB wr w.heap.size 132 (flatW (qs ++ List.replicate (ls.length - k) zP)).toArray ∧ PT wr (fun x => S x ∧ x < w.heap.size) qs (rowP at_ (ls.take k)) ∧ Below w.heap.size w wr) (fun iv _ => ls.length - (intOf iv).toNat)
  case atStart => exact ⟨0, [], by omega, rfl, rfl, K0, PT.nil _ _, B0⟩
  case round =>
    obtain ⟨k, qs, hk, rfl, hql, kb, pt, bl⟩ := hrel
    clear K0 B0 hmk
    by_cases hlt : k < ls.length
    · obtain ⟨b, o, rfl, sb, hb, hx⟩ := (h.below' bl).at_ (by omega)
      obtain ⟨l, hv⟩ : ∃ l, ls[k]? = some l := ⟨_, List.getElem?_eq_getElem hlt⟩
      obtain ⟨X, z, k0, hbs⟩ := hx k l hv
      have HS := Lib.hid (rowP_succ at_ k hv)
      have hbs2 : BS wr (fun x => S x ∧ x < w.heap.size) (.slice X l.length z) l := by
        obtain ⟨b', o', e', sb', hb', hx'⟩ := h.at_ (by omega)
        injection e' with e'
        injection e' with e1 e2
        subst e1 e2
        obtain ⟨X', z', k0', hbs'⟩ := hx' k l hv
        have := (World.cell?_of_block (w := w) (bl.block _ hb')).trans k0'
        rw [this] at k0
        obtain ⟨rfl, _, rfl⟩ : X' = X ∧ l.length = l.length ∧ z' = z := by simpa using k0
        exact hbs'.lt.below bl fun b hb => hb.2
      have HK : Hid (KB wr w.heap.size 132 (flatW (qs ++ List.replicate ((ls.length - (k + 1)) + 1) zP)).toArray) := by rw [show (ls.length - (k + 1)) + 1 = ls.length - k by omega]; exact kb
      have HW : Hid (wrap64 ((at_ : Int) + (k : Int)) = ((at_ + k : Nat) : Int)) := by
        have := HAT.out
        have := HLS.out
        show _ = _
        rw [IntWalk.wrap64_in _ (by omega)]
        omega
      clear hx hv hbs kb
      have hfit : k * 2 + 2 ≤ (flatW (qs ++ List.replicate ((ls.length - (k + 1)) + 1) zP)).length := by rw [flatW_length, List.length_append, List.length_replicate, hql]; omega
      have HSP : Hid (splice (flatW (qs ++ List.replicate ((ls.length - (k + 1)) + 1) zP)) (k * 2) [.int .i64 ((at_ + k : Nat) : Int), .slice X l.length z] = flatW ((qs ++ [(((at_ + k : Nat) : Int), .slice X l.length z)]) ++ List.replicate (ls.length - (k + 1)) zP)) := by
        show _ = _
        rw [← hql]
        exact splice_pair qs _ (((at_ + qs.length : Nat) : Int), .slice X l.length z)
      go_wp2_with (refine wpList_store_part rfl 132 (.tmp 25) (.tmp 24) rfl w.heap.size (k * 2) [.int .i64 (wrap64 ((at_ : Int) + (k : Int))), .slice X l.length z] rfl rfl _ _ HK.out 2 (by kernel_rfl) rfl hfit (by intro u hu; simp at hu; rcases hu with rfl | rfl <;> rfl) ?_; intro w5 k5 g5)
      go_roundw
      case rel =>
        rw [HW.out, HSP.out] at k5
        refine ⟨k + 1, _, by omega, by go_num, by simp [hql], k5, ?_, bl.grown g5 bl.size fun g e => by injection e with e; omega⟩
        rw [HS.out]
        exact (pt.append (PT.one hbs2)).keepS g5.size (fun b hb hlt => g5.block b hlt fun e => by injection e with e; have := hb.2; omega) fun _ h => h
      case measure => simp [intOf]; omega
    · obtain rfl : k = ls.length := by omega
      have hl : qs ++ List.replicate (ls.length - ls.length) zP = qs := by rw [Nat.sub_self]; simp
      rw [hl] at kb
      rw [List.take_length] at pt
      have hp := PS_of_kb (S' := fun x => S x ∧ x < w.heap.size ∨ x = w.heap.size) kb pt (n := ls.length) (rowP_len _ _) (fun b hb => .inl hb) (.inr rfl) (by unfold maxLen; omega)
      clear pt kb hl
      go_wp2_with fail
      go_ret
      exact ⟨_, rfl, hp, bl⟩
end
section
open Go.RowKit
def MineO (S : Nat → Prop) (B : Nat) (v : Value) (w : World) (x : Nat) : Prop := (S x ∧ x < B) ∨ (B ≤ x ∧ x < w.heap.size ∧ v.ownBlock ≠ some x)
section
variable {S : Nat → Prop} {B : Nat} {v v' : Value} {w w' : World} {vs : List Value} {ls : List (List UInt8)} {e n : Nat} {xs : List Value}
theorem VS.mine (h : VS w (MineO S B v w) vs ls) (hb : Below w.heap.size w w') : VS w' (MineO S B v w') vs ls :=
  (h.below' hb).mono fun b sb => by
    rcases sb with sb | sb
    · exact .inl sb
    · exact .inr ⟨sb.1, Nat.lt_of_lt_of_le sb.2.1 hb.size, sb.2.2⟩
theorem VS.minegrow (h : VS w (MineO S B v w) vs ls) (how : w.ownsRow B e 1 v n xs) (hg : w.grownBy w' v.ownBlock) (ho : v'.ownBlock = v.ownBlock ∨ v'.ownBlock = some w.heap.size) (hB : B ≤ w.heap.size) : VS w' (MineO S B v' w') vs ls :=
  (h.keep hg.size fun b sb hlt => hg.block b hlt fun e => by
    rcases sb with sb | sb
    · exact own_ne how sb.2 e.symm
    · exact sb.2.2 e.symm).mono fun b sb => by
      rcases sb with sb | sb
      · exact .inl sb
      · refine .inr ⟨sb.1, Nat.lt_of_lt_of_le sb.2.1 hg.size, ?_⟩
        rcases ho with ho | ho
        · rw [ho]; exact sb.2.2
        · rw [ho]; intro e; injection e with e; have := sb.2.1; omega
end
theorem onev_at (w : World) (t : TypeId) (x : Value) : ∀ j u, [x][j]? = some u → (w.alloc (.cells #[x] t)).cell? ((⟨w.heap.size, 0, none⟩ : Addr).add j) = some u := by
  intro j u h
  rw [Addr.add_lit, Nat.zero_add, (KB.new w t #[x]).cell]
  simpa using h
theorem PS.part {w : World} {S : Nat → Prop} {b o c n : Nat} {ps : List Pt} (h : PS w S (.slice (some ⟨b, o, none⟩) n c) ps) (lo m : Nat) (hm : lo + m ≤ ps.length) (hc : lo < c) : PS w S (.slice (some ⟨b, o + lo * 2, none⟩) m (c - lo)) ((ps.drop lo).take m) := by
  have hl : ((ps.drop lo).take m).length = m := by rw [List.length_take, List.length_drop]; omega
  obtain ⟨A', c', e, hlc, hcm, hn, hx⟩ := h
  injection e with e1 e2 e3
  subst e1 e2 e3
  refine ⟨_, c - lo, by rw [hl], by rw [hl]; omega, by omega, (fun h => by cases h), fun h0 => ?_⟩
  rw [hl] at h0
  obtain ⟨b', o', ea, sb, hb, hx⟩ := hx (by omega)
  injection ea with ea
  injection ea with ea eo
  subst ea eo
  refine ⟨b, o + lo * 2, rfl, sb, hb, fun j q hj => ?_⟩
  have hjm : j < m := by have := (List.getElem?_eq_some_iff.1 hj).1; omega
  rw [List.getElem?_take, if_pos hjm, List.getElem?_drop] at hj
  have := hx (lo + j) q hj
  rw [show o + lo * 2 + j * 2 = o + (lo + j) * 2 by omega]
  exact this
theorem body_succ {q : List Pt} {j : Nat} {a : Int} {l : List UInt8} (h : q[j]? = some (a, l)) : bodyL (q.take (j + 1)) = bodyL (q.take j) ++ numB a.toNat := by
  rw [List.take_add_one, h]
  unfold bodyL
  rw [List.flatMap_append]
  simp
set_option maxHeartbeats 4000000 in
theorem entries_any (S : Nat → Prop) (v : Value) (ps : List Pt) (w : World) (h : PS w S v ps) (hp : ∀ q ∈ ps, 0 ≤ q.1 ∧ q.1 < 65536) (hl : ps.length ≤ 1024) :
    Calls Tryz.prog 83 #[v] w fun e w' => ∃ v', e = .returned v' ∧ LS w' (fun x => (S x ∧ x < w.heap.size) ∨ (w.heap.size ≤ x ∧ x < w'.heap.size)) v' (entriesL ps) ∧ Below w.heap.size w w' := by
  obtain ⟨A, c, rfl, hlc, hcm, hn0⟩ := h.form
  have hli := fun w => lists_any ps.length w (by omega)
  have HP : Hid (∀ (k : Nat) (a : Int) (l : List UInt8), ps[k]? = some (a, l) → 0 ≤ a ∧ a < 65536) := fun k a l hk => hp _ (List.mem_of_getElem? hk)
  have HL := Lib.hid hl
  obtain ⟨M, hM⟩ : ∃ M, M = listsN ps.length := ⟨_, rfl⟩
  have HM : Hid (120 * M < ps.length + 120 ∧ ps.length ≤ 120 * M ∧ M ≤ 9) := by subst hM; show _ ∧ _ ∧ _; unfold listsN; omega
  have HE : Hid (entriesL ps = ((List.range M).map fun i => secL (partL ps i)) ++ ps.map (·.2)) := by show _ = _; rw [hM]; rfl
  rw [← hM] at hli
  have hlen : ps.length ≤ 9223372036854775807 := by omega
  have hM9 : M ≤ 9 := HM.out.2.2
  clear hM hp hl
  go_enter Tryz.func83, Tryz.ntmps83
  go_wp2_with (go_at_call 120; refine (hli _).mono ?_; rintro e w' ⟨rfl, rfl⟩)
  go_loopw [3, 15] (fun av iv wr => ∃ (i : Nat) (vs : List Value), i ≤ M ∧ iv = .int .i64 i ∧ wr.ownsRow w.heap.size 55 1 av vs.length vs ∧ VS wr (MineO S w.heap.size av wr) vs ((List.range i).map fun i => secL (partL ps i)) ∧ Below w.heap.size w wr) (fun _ iv _ => M - (intOf iv).toNat)
  case atStart => exact ⟨0, [], by omega, rfl, World.ownsRow_nil _ _ _ _, ⟨rfl, fun i v l hv _ => by simp at hv⟩, Below.refl _ _⟩
  case round =>
    obtain ⟨i, vs, hi, rfl, how, vv, bl⟩ := hrel
    by_cases hlt : i < M
    · have hm := HM.out
      have h1 : 120 * i < ps.length := by omega
      obtain ⟨m, hm1⟩ : ∃ m, m = min (120 * (i + 1)) ps.length := ⟨_, rfl⟩
      have hm2 : min ((120 : Int) * ((i : Int) + 1)) (ps.length : Int) = (m : Int) := by omega
      obtain ⟨b, o, rfl, _⟩ := h.at_ (by omega)
      have hpart : PS wr S (.slice (some ⟨b, o + 120 * i * 2, none⟩) (m - 120 * i) (c - 120 * i)) (partL ps i) := by
        have := (h.below' bl).part (120 * i) (m - 120 * i) (by omega) (by omega)
        have e : (ps.drop (120 * i)).take (m - 120 * i) = partL ps i := by
          unfold partL
          rw [hm1]
          apply List.ext_getElem?
          intro j
          rw [List.getElem?_take, List.getElem?_take, List.getElem?_drop]
          by_cases hj : j < 120
          · rw [if_pos hj]
            split
            · rfl
            · rw [List.getElem?_eq_none (by omega)]
          · rw [if_neg hj, if_neg (by omega)]
        rwa [e] at this
      have hpl : (partL ps i).length = m - 120 * i := by rw [partL_len]; omega
      have f1 : (0 : Int) ≤ 120 * (i : Int) := by omega
      have f2 : 120 * (i : Int) ≤ (m : Int) := by omega
      have f3 : (m : Int) ≤ (c : Int) := by omega
      have f4 : ¬ (c : Int) = 120 * (i : Int) := by omega
      have HH := Lib.hid h
      have HVV := Lib.hid vv
      have HPL := Lib.hid hpl
      have HPA : Hid (∀ (k : Nat) (a : Int) (l : List UInt8), (partL ps i)[k]? = some (a, l) → 0 ≤ a ∧ a < 65536) := fun k a l hk => by
        have := List.mem_of_mem_drop (List.mem_of_mem_take (List.mem_of_getElem? hk))
        obtain ⟨j, hj⟩ := List.mem_iff_getElem?.1 this
        exact HP.out j a l hj
      have HLE : Hid (m - 120 * i ≤ 120) := by show _ ≤ _; omega
      clear hm hm1 h vv hpl
      have HM1 : Hid (120 * i ≤ m) := by show _ ≤ _; omega
      go_wp2_with fail
      obtain ⟨w0, hw0⟩ : ∃ w0 : World, w0 = wr := ⟨_, rfl⟩
      rw [← hw0] at how bl hpart HVV ⊢
      clear hw0
      go_loopw [5, 29] (fun bo jv wr => ∃ j : Nat, j ≤ m - 120 * i ∧ jv = .int .i64 j ∧ wr.ownsRow w0.heap.size 5 1 bo (bodyL ((partL ps i).take j)).length ((bodyL ((partL ps i).take j)).map bv) ∧ Below w0.heap.size w0 wr) (fun _ jv _ => m - 120 * i - (intOf jv).toNat)
      case atStart => exact ⟨0, by omega, rfl, World.ownsRow_nil _ _ _ _, Below.refl _ _⟩
      case round =>
        obtain ⟨j, hj, rfl, hob, blj⟩ := hrel
        by_cases hjt : j < m - 120 * i
        · obtain ⟨b', o', ea, _, _, hx⟩ := (hpart.below' blj).at_ (by rw [HPL.out]; omega)
          injection ea with ea
          injection ea with ea eo
          subst ea eo
          obtain ⟨⟨a, l⟩, hv⟩ : ∃ q, (partL ps i)[j]? = some q := ⟨_, List.getElem?_eq_getElem (by rw [HPL.out]; exact hjt)⟩
          obtain ⟨k0, X, z, k1, _⟩ := hx j _ hv
          obtain ⟨a1, a2⟩ := HPA.out j a l hv
          dsimp only at k0 k1
          obtain ⟨x, rfl⟩ := Int.eq_ofNat_of_zero_le a1
          have HB := Lib.hid (body_succ hv)
          rw [Int.toNat_natCast] at HB
          have hblen := bodyL_len ((partL ps i).take j)
          have hbl2 : (bodyL ((partL ps i).take j)).length ≤ 240 := by rw [hblen, List.length_take]; have := partL_le ps i; omega
          have HBL := Lib.hid hbl2
          have D2 : decide ((j : Int) < ((m - 120 * i : Nat) : Int)) = true := by simp; omega
          clear hx hv hblen hbl2 a1
          generalize bodyL ((partL ps i).take j) = bd at *
          have hx2 : x < 65536 := by omega
          have q0 : (wr.alloc (.cells #[.int .i64 (x : Int), .slice X l.length z] 132)).cell? ⟨wr.heap.size, 0, none⟩ = some (.int .i64 (x : Int)) := (KB.new wr 132 #[.int .i64 (x : Int), .slice X l.length z]).cell 0
          have B1 := (Below.refl wr.heap.size wr).alloc (Nat.le_refl _) (.cells #[.int .i64 (x : Int), .slice X l.length z] 132)
          have hob1 := own_past B1 hob
          have blj1 := blj.trans (B1.mono blj.size)
          clear hob
          go_wp2_with fail
          refine (number_any x _ hx2).mono ?_
          rintro e w2 ⟨v2, rfl, how2, b2⟩
          have hob2 := own_past b2 hob1
          have blj2 := blj1.trans (b2.mono blj1.size)
          have bs2 := own_BS how2
          obtain ⟨A2, c2, rfl, _⟩ := bs2.form
          obtain ⟨i0, ib, hz0, hz1, hz2⟩ := info_parts info_byte
          have hsz2 := blj2.size
          clear hob1 how2 B1 blj blj1 b2
          go_wp2_with (at_builtin; refine wpList_grow _ rfl _ _ _ rfl w0.heap.size 5 i0 Tryz.underlying55 ib hz0 hz1 hz2 u5 bd rfl hob2 _ _ (numB x) rfl bs2 (by have := HBL.out; simp [numB]; omega) hsz2 ?_; intro v3 w3 how3 g3 _)
          go_roundw
          case rel =>
            refine ⟨j + 1, by omega, by go_num, ?_, blj2.grown g3 hsz2 fun g e => own_ge hob2 g e⟩
            rw [HB.out]
            exact how3
          case measure => simp [intOf]; omega
        · obtain rfl : j = m - 120 * i := by omega
          have e : (partL ps i).take (m - 120 * i) = partL ps i := List.take_of_length_le (by rw [HPL.out]; exact Nat.le_refl _)
          rw [e] at hob
          have D2 : decide (((m - 120 * i : Nat) : Int) < ((m - 120 * i : Nat) : Int)) = false := by simp
          have hbs := own_BS hob
          have hput := fun (W : World) (h : BS W (fun b => w0.heap.size ≤ b ∧ b < wr.heap.size) u5 (bodyL (partL ps i))) => put_sect 2 _ u5 (bodyL (partL ps i)) W h
          have hgood : putS 2 (bodyL (partL ps i)) = (secL (partL ps i), 0) := by
            refine Prod.ext rfl (put2_ok ?_)
            rw [bodyL_len]
            have := partL_le ps i
            omega
          rw [hgood] at hput
          obtain ⟨A5, c5, e5, _⟩ := hbs.form
          have HRS : Hid ((List.range (i + 1)).map (fun i => secL (partL ps i)) = (List.range i).map (fun i => secL (partL ps i)) ++ [secL (partL ps i)]) := by
            show _ = _
            rw [List.range_succ, List.map_append]
            rfl
          have BL := bl.trans (blj.mono bl.size)
          have how1 := own_past blj how
          have vv1 := HVV.out.mine blj
          have HVL : Hid (vs.length + 1 ≤ 1000000000) := by show _ ≤ _; have := vv1.1; simp at this; omega
          clear hgood hob HVV how bl blj e
          generalize secL (partL ps i) = sc at *
          generalize bodyL (partL ps i) = bd at *
          subst e5
          go_wp2_with fail
          refine (hput _ hbs).mono ?_
          rintro e w2 ⟨v2, rfl, how2, b2⟩
          have BL2 := BL.trans (b2.mono BL.size)
          have how3 := own_past b2 how1
          have vv3 := vv1.mine b2
          have bs2 := own_BS how2
          have hs := BL.size
          have vv4 := vv3.append (VS.one (bs2.mono (S' := MineO S w.heap.size u3 w2) fun x hx => .inr ⟨by omega, hx.2, fun e => by have := own_lt how1 e; omega⟩))
          rw [← HRS.out] at vv4
          obtain ⟨A2, c2, rfl, _⟩ := bs2.form
          have hat := onev_at w2 55 (.slice A2 sc.length c2)
          have B4 := (Below.refl w2.heap.size w2).alloc (Nat.le_refl _) (.cells #[.slice A2 sc.length c2] 55)
          have how4 := own_past B4 how3
          have vv5 := vv4.mine B4
          have BL4 := BL2.trans (B4.mono BL2.size)
          have hs4 := BL4.size
          clear hput hbs how1 vv1 how2 b2 how3 vv3 bs2 vv4 BL BL2 B4
          go_wp2_with (at_builtin; refine wpList_growL _ rfl _ _ rfl w.heap.size u3 vs rfl how4 ⟨w2.heap.size, 0, none⟩ 1 1 [.slice A2 sc.length c2] rfl rfl hat (by intro u hu; simp at hu; subst hu; rfl) HVL.out hs4 ?_; intro v5 w5 how5 g5 ho5)
          go_roundw
          case rel =>
            refine ⟨i + 1, _, by omega, by go_num, how5, ?_, BL4.grown g5 hs4 fun g e => own_ge how4 g e⟩
            exact vv5.minegrow how4 g5 ho5 hs4
          case measure => simp [intOf]; omega
    · obtain rfl : i = M := by omega
      clear HM
      go_wp2_with fail
      go_loopw [3, 51] (fun av iv wr => ∃ (k : Nat) (vs : List Value), k ≤ ps.length ∧ iv = .int .i64 k ∧ wr.ownsRow w.heap.size 55 1 av vs.length vs ∧ VS wr (MineO S w.heap.size av wr) vs (((List.range i).map fun i => secL (partL ps i)) ++ (ps.take k).map (·.2)) ∧ Below w.heap.size w wr) (fun _ iv _ => ps.length - (intOf iv).toNat)
      case atStart => exact ⟨0, vs, by omega, rfl, how, by rw [List.take_zero, List.map_nil, List.append_nil]; exact vv, bl⟩
      case round =>
        clear how vv bl
        obtain ⟨k, vs, hk, rfl, how, vv, bl⟩ := hrel
        by_cases hlt : k < ps.length
        · obtain ⟨b, o, rfl, sb, hb, hx⟩ := h.at_ (by omega)
          obtain ⟨⟨a, l⟩, hv⟩ : ∃ q, ps[k]? = some q := ⟨_, List.getElem?_eq_getElem hlt⟩
          obtain ⟨k0, X, z, k1, hbs⟩ := hx k _ hv
          dsimp only at k0 k1 hbs
          have hsb := bl.size
          have k0r : wr.cell? ⟨b, o + k * 2, none⟩ = some (.int .i64 a) := (World.cell?_of_block (w := w) (bl.block _ hb)).trans k0
          have k1r : wr.cell? ⟨b, o + k * 2 + 1, none⟩ = some (.slice X l.length z) := (World.cell?_of_block (w := w) (bl.block _ hb)).trans k1
          have HT : Hid ((ps.take (k + 1)).map (·.2) = (ps.take k).map (·.2) ++ [l]) := by
            show _ = _
            rw [List.take_add_one, hv, List.map_append]
            rfl
          have hbs2 : BS wr (fun x => S x ∧ x < w.heap.size) (.slice X l.length z) l := hbs.lt.below bl fun b hb => hb.2
          have vv2 := vv.append (VS.one (hbs2.mono (S' := MineO S w.heap.size u3 wr) fun x hx => .inl hx))
          rw [List.append_assoc, ← HT.out] at vv2
          have HVL : Hid (vs.length + 1 ≤ 1000000000) := by
            show _ ≤ _
            have := vv.1
            rw [List.length_append, List.length_map, List.length_map, List.length_range, List.length_take] at this
            have := HL.out
            omega
          have q1 : (wr.alloc (.cells #[.int .i64 a, .slice X l.length z] 132)).cell? ⟨wr.heap.size, 1, none⟩ = some (.slice X l.length z) := (KB.new wr 132 #[.int .i64 a, .slice X l.length z]).cell 1
          have hat := onev_at (wr.alloc (.cells #[.int .i64 a, .slice X l.length z] 132)) 55 (.slice X l.length z)
          have B4 := ((Below.refl wr.heap.size wr).alloc (Nat.le_refl _) (.cells #[.int .i64 a, .slice X l.length z] 132)).alloc (by simp) (.cells #[.slice X l.length z] 55)
          have how4 := own_past B4 how
          have vv4 := vv2.mine B4
          have BL4 := bl.trans (B4.mono hsb)
          have hs4 := BL4.size
          rw [World.size_alloc] at hat
          clear hx k0 k1 hbs hbs2 vv vv2 how HP HE B4
          go_wp2_with (at_builtin; refine wpList_growL _ rfl _ _ rfl w.heap.size u3 vs rfl how4 ⟨wr.heap.size + 1, 0, none⟩ 1 1 [.slice X l.length z] rfl rfl hat (by intro u hu; simp at hu; subst hu; rfl) HVL.out hs4 ?_; intro v5 w5 how5 g5 ho5)
          go_roundw
          case rel => exact ⟨k + 1, _, by omega, by go_num, how5, vv4.minegrow how4 g5 ho5 hs4, BL4.grown g5 hs4 fun g e => own_ge how4 g e⟩
          case measure => simp [intOf]; omega
        · obtain rfl : k = ps.length := by omega
          rw [List.take_length, ← HE.out] at vv
          have hls := LS_of_own (S := fun x => (S x ∧ x < w.heap.size) ∨ (w.heap.size ≤ x ∧ x < wr.heap.size)) how (vv.mono fun x hx => by
            rcases hx with hx | hx
            · exact .inl hx
            · exact .inr ⟨hx.1, hx.2.1⟩) fun x h1 h2 => .inr ⟨h1, h2⟩
          clear vv how HE HP
          go_wp2_with fail
          go_ret
          exact ⟨_, rfl, hls, bl⟩
end
section
open Go.RowKit
theorem wp_growP {o : Oper} {a : Act} {w : World} {K : Act → World → Prop} {Q : Exit → Act → World → Prop} (s x : Operand)
    (ho : o.op = .call { callee := .builtin .append, args := #[s, x], argTypes := #[88, 88] })
    (base : Nat) (v : Value) (qs : List Two2) (hs : a.eval s = v) (hown : w.ownsRow base 132 2 v qs.length (flatW qs))
    (ad : Addr) (c n : Nat) (us : List Two2) (hxe : a.eval x = .slice (some ad) n c) (hn : n = us.length) (hx : ∀ j u, (flatW us)[j]? = some u → w.cell? (ad.add j) = some u)
    (h1 : ∀ u ∈ flatW us, u.oneCell' = true) (hb : qs.length + us.length ≤ 1000000000) (hbase : base ≤ w.heap.size)
    (h : ∀ v' w', w'.ownsRow base 132 2 v' (qs ++ us).length (flatW (qs ++ us)) → w.grownBy w' v.ownBlock → (v'.ownBlock = v.ownBlock ∨ v'.ownBlock = some w.heap.size) → K (a.put o.dst v') w') :
    Oper.wp Tryz.prog o a w K Q := by
  subst hn
  obtain ⟨v', w', hrun, h2, h3, h4⟩ := run_growP w base v qs hown ad c us hx h1 hb hbase o.type
  unfold Oper.wp execOp
  simp only [ho, resolve, invoke, builtin, Sem.run_bind, Sem.run_pure, Result.andThen_ok, List.map_toArray, List.map_cons, List.map_nil, hs, hxe, hrun]
  exact h v' w' h2 h3 h4
end
section
open Go.RowKit
def SecAs (w : World) (l : List UInt8) (e : Ending) (w' : World) : Prop := ∃ v, e = .returned v ∧ w'.ownsRow w.heap.size 5 1 v l.length (l.map bv) ∧ Below w.heap.size w w'
set_option maxHeartbeats 2000000 in
theorem head_any (k : Nat) (hk : k < 65536) (S : Nat → Prop) (v : Value) (L : List (List UInt8)) (w : World) (h : LS w S v L) (ht : Tab w) (hlen : (catB L).length < 100000000000000000) :
    Calls Tryz.prog 89 #[.int .i64 k, v] w (SecAs w (headL k L)) := by
  have hof := of_any v L w h.lt ht hlen
  have hput := fun (W : World) (S : Nat → Prop) (v : Value) (h : BS W S v (numB k ++ sumB (catB L))) => put_sect 1 S v _ W h
  have hgood : putS 1 (numB k ++ sumB (catB L)) = (headL k L, 0) := Prod.ext rfl (put1_ok (by rw [head_body]; omega))
  rw [hgood] at hput
  have HRL := Lib.hid (headL_len k L)
  obtain ⟨ss, hss⟩ : ∃ ss, ss = sumB (catB L) := ⟨_, rfl⟩
  have HSL : Hid (ss.length = 32) := by show _ = _; rw [hss, sumB_length]
  rw [← hss] at hof hput
  have HSM : Hid ((ss.map bv).length = 32) := by show _ = _; rw [List.length_map]; exact HSL.out
  generalize headL k L = R at *
  obtain ⟨i0, ib, hz0, hz1, hz2⟩ := info_parts info_byte
  obtain ⟨A, c, rfl, _⟩ := h.form
  clear hgood hss h ht hlen
  go_enter Tryz.func89, Tryz.ntmps89
  go_wp2_with fail
  refine hof.mono ?_
  rintro e w1 ⟨rfl, b1⟩
  have K0 : KB (w1.alloc (.cells (z32.map bv).toArray 171)) w1.heap.size 171 (z32.map bv).toArray := KB.new _ _ _
  have B0 := b1.alloc b1.size (.cells (z32.map bv).toArray 171)
  go_wp2_with (rw [row32]; refine wpList_store_kb rfl 171 (.tmp 5) (.tmp 9) rfl w1.heap.size (ss.map bv) rfl rfl 171 _ K0 32 (by kernel_rfl) z32_length HSM.out (bytes_one _) ?_; intro w2 k2 g2)
  have B2 := B0.grown g2 B0.size fun g e => by injection e with e; have := b1.size; omega
  obtain ⟨w3, hw3⟩ : ∃ w3, w3 = w2.drew := ⟨_, rfl⟩
  have K3 : KB w3 w1.heap.size 171 (ss.map bv).toArray := by rw [hw3]; exact k2.drewN 1
  have B3 : Below w.heap.size w w3 := by rw [hw3]; exact Below_drawn B2 1
  have B30 := B3
  clear hof b1 K0 B0 k2 g2 B2
  go_frame
  refine wp_region_held_drew (S := (fun _ => True)) (by kernel_rfl) trivial (fun hHeld => ?_)
  rw [← hw3]
  clear hw3
  refine hyY (some 11) 0 rfl hHeld ?_; go_frame
  refine hyY (some 13) 2 rfl hHeld ?_; go_frame
  refine hyO (some 12) 1 rfl (fun K hK => ?_)
  go_simp
  go_at_call 121
  refine (number_any k _ hk).mono ?_
  rintro e w5 ⟨v5, rfl, how5, b5⟩
  replace K3 := K3.below b5 K3.lt
  have Q5 := K3.bs (n := 32) HSL.out (by simp [maxLen])
  replace B3 := B3.trans (b5.mono B3.size)
  have hs5 := b5.size
  clear b5
  go_wp2_with fail
  refine hK.out _ _ ?_ (fun hH2 => ?_)
  · trivial
  clear hHeld hK K; have hHeld := hH2; clear hH2; try go_frame
  refine hyO (some 14) 3 rfl (fun K hK => ?_)
  refine wp_grow _ _ _ rfl w3.heap.size 5 i0 Tryz.underlying55 ib hz0 hz1 hz2 v5 (numB k) rfl how5 _ _ ss rfl Q5 (by have := HSL.out; simp [numB]; omega) hs5 ?_
  intro v6 w6 how6 g6 _
  have b6 := B3.grown g6 B3.size fun g e => by have := own_ge how5 g e; have := B30.size; omega
  have q6 := own_BS how6
  refine hK.out _ _ ?_ (fun hH2 => ?_)
  · trivial
  clear hHeld hK K; have hHeld := hH2; clear hH2; try go_frame
  refine hyO (some 15) 4 rfl (fun K hK => ?_)
  go_simp
  go_at_call 118
  refine (hput _ _ _ q6).mono ?_
  rintro e w7 ⟨v7, rfl, how7, b7⟩
  go_wp2_with fail
  refine hK.out _ _ ?_ (fun hH2 => ?_)
  · trivial
  clear hHeld hK K; have hHeld := hH2; clear hH2; try go_frame
  refine hyY (some 10) 5 rfl hHeld ?_; go_frame
  refine hyY (some 16) 6 rfl hHeld ?_; go_frame
  refine hyY (some 6) 8 rfl hHeld ?_; go_frame
  refine hyY (some 17) 7 rfl hHeld ?_; go_frame
  refine hyY (some 7) 9 rfl hHeld ?_; go_frame
  refine wpAnyH_done (by kernel_rfl) ?_ _
  have BF := b6.trans (b7.mono b6.size)
  go_wp2
  go_ret
  exact ⟨v7, rfl, own_base how7 b6.size, BF⟩
end
section
open Go.RowKit Gau
def GetAs (w : World) (r : Int × List UInt8 × Int) (e : Ending) (w' : World) : Prop :=
  ∃ v, e = .returned (.tuple #[.int .i64 r.1, v, .int .i64 r.2.2]) ∧ w'.ownsRow w.heap.size 5 1 v r.2.1.length (r.2.1.map bv) ∧ Below w.heap.size w w'
theorem get_none (w w' : World) (n : Int) (h : Below w.heap.size w w') : GetAs w (0, [], n) (.returned (.tuple #[.int .i64 0, .slice none 0 0, .int .i64 n])) w' := ⟨_, rfl, World.ownsRow_nil _ _ _ _, h⟩
theorem get_arg (S : Nat → Prop) (v : Value) (l : List UInt8) (hl : l.length ≠ 256) (w : World) (h : BS w S v l) :
    Calls Tryz.prog 100 #[v] w (GetAs w (0, [], 1)) := by
  obtain ⟨A, c, rfl, _⟩ := h.form
  have hn := get_none w w 1 (Below.refl _ _)
  have h1 : ¬ (l.length : Int) = 256 := by omega
  clear h
  go_enter Tryz.func100, Tryz.ntmps100
  go_wp2
  apply wp_scope_goto (w1 := w) 0 rfl
  case first =>
    go_wp2
    go_step3
    exact ⟨rfl, rfl, rfl⟩
  case pass =>
    go_wp2
    go_ret3
    exact hn
theorem get_zero (S : Nat → Prop) (v : Value) (w : World) (h : BS w S v (zs 256)) :
    Calls Tryz.prog 100 #[v] w (GetAs w (0, [], 5)) := by
  have hz := empty_any S v _ w h
  rw [decide_eq_true rfl] at hz
  obtain ⟨A, c, rfl, _⟩ := h.form
  have hn := fun w' => get_none w w' 5
  have h1 := zs_len 256
  clear h
  generalize (zs 256).length = n at *
  subst h1
  go_enter Tryz.func100, Tryz.ntmps100
  go_wp2
  apply wp_scope_goto_any (α := Value) (R := fun w' => Below w.heap.size w w') 0 rfl
  case first =>
    go_wp2_with fail
    refine hz.mono ?_
    rintro e w1 ⟨rfl, b1⟩
    go_wp2
    go_step3
    obtain ⟨v0, hv0⟩ : ∃ v : Value, v = undef := ⟨_, rfl⟩
    exact ⟨rfl, b1, v0, rfl⟩
  case pass =>
    intro x w1 hr
    go_wp2
    go_ret3
    exact hn _ hr
theorem three_cells {w : World} {S : Nat → Prop} {A : Option Addr} {c : Nat} {l : List UInt8} (h : BS w S (.slice A l.length c) l) (hl : l.length = 256) :
    ∃ b o, A = some ⟨b, o, none⟩ ∧ w.cell? ⟨b, o, none⟩ = some (.int .u8 ((l.getD 0 0).toNat : Int)) ∧ w.cell? ⟨b, o + 1, none⟩ = some (.int .u8 ((l.getD 1 0).toNat : Int)) ∧ w.cell? ⟨b, o + 2, none⟩ = some (.int .u8 ((l.getD 2 0).toNat : Int)) := by
  obtain ⟨b, o, rfl, _, _, hc⟩ := h.at_ (by omega)
  have hg : ∀ i, i < 256 → l[i]? = some (l.getD i 0) := fun i hi => by rw [List.getD_eq_getElem?_getD, List.getElem?_eq_getElem (by omega)]; rfl
  exact ⟨b, o, rfl, hc 0 _ (hg 0 (by omega)), hc 1 _ (hg 1 (by omega)), hc 2 _ (hg 2 (by omega))⟩
theorem get_far (S : Nat → Prop) (v : Value) (l : List UInt8) (hl : l.length = 256) (hz : l ≠ zs 256) (hf : 249 < lenS l) (w : World) (h : BS w S v l) :
    Calls Tryz.prog 100 #[v] w (GetAs w (0, [], 17)) := by
  have hz := empty_any S v _ w h
  rw [decide_eq_false (by assumption)] at hz
  obtain ⟨A, c, rfl, _⟩ := h.form
  obtain ⟨b, o, rfl, _⟩ := three_cells h hl
  have hq := fun w' (hb : Below w.heap.size w w') => three_cells (h.below' hb) hl
  have hn := fun w' => get_none w w' 17
  have u0 := (l.getD 0 0).toNat_lt
  have u1 := (l.getD 1 0).toNat_lt
  have u2 := (l.getD 2 0).toNat_lt
  unfold lenS at hf
  generalize (l.getD 0 0).toNat = x0 at *
  generalize (l.getD 1 0).toNat = x1 at *
  generalize (l.getD 2 0).toNat = x2 at *
  have hgt : (252 : Int) < 3 + x1 * 256 + x2 := by omega
  clear h
  rw [hl] at *
  go_enter Tryz.func100, Tryz.ntmps100
  go_wp2
  apply wp_scope_goto_any (α := Value) (R := fun w' => Below w.heap.size w w') 0 rfl
  case first =>
    go_wp2_with fail
    refine hz.mono ?_
    rintro e w1 ⟨rfl, b1⟩
    obtain ⟨_, _, ea, q0, q1, q2⟩ := hq w1 b1
    injection ea with ea
    injection ea with ea eo
    subst ea eo
    go_wp2
    go_region
    go_wp2
    go_step3
    obtain ⟨v0, hv0⟩ : ∃ v : Value, v = undef := ⟨_, rfl⟩
    exact ⟨rfl, Below_drawn b1 1, v0, rfl⟩
  case pass =>
    intro x w1 hr
    go_wp2
    go_ret3
    exact hn _ hr
theorem BS.mid {w : World} {S : Nat → Prop} {b o c : Nat} {l : List UInt8} (h : BS w S (.slice (some ⟨b, o, none⟩) l.length c) l) (k n : Nat) (hk : k + n ≤ l.length) (hc : c ≠ k) : BS w S (.slice (some ⟨b, o + k, none⟩) n (c - k)) ((l.drop k).take n) := by
  have h1 := h.drop k (by omega)
  rw [if_neg hc] at h1
  exact h1.take n (by rw [List.length_drop]; omega)
set_option maxRecDepth 100000 in
theorem get_near (S : Nat → Prop) (v : Value) (l : List UInt8) (hl : l.length = 256) (hz : l ≠ zs 256) (hf : ¬ 249 < lenS l) (w : World) (h : BS w S v l) :
    Calls Tryz.prog 100 #[v] w (GetAs w (if (putS (kindS l) (bodyS l)).1 = l then ((kindS l : Int), bodyS l, 0) else (0, [], 17))) := by
  have hz := empty_any S v _ w h
  rw [decide_eq_false (by assumption)] at hz
  obtain ⟨A, c, rfl, hlc, hcm, _⟩ := h.form
  obtain ⟨b, o, rfl, _⟩ := three_cells h hl
  have hq := fun w' (hb : Below w.heap.size w w') => three_cells (h.below' hb) hl
  have hn := fun w' => get_none w w' 17
  have u0 := (l.getD 0 0).toNat_lt
  have u1 := (l.getD 1 0).toNat_lt
  have u2 := (l.getD 2 0).toNat_lt
  have hlen : (l.getD 1 0).toNat * 256 + (l.getD 2 0).toNat = lenS l := rfl
  have hkind : (l.getD 0 0).toNat = kindS l := rfl
  rw [hkind] at u0
  have hpart : ∀ w', Below w.heap.size w w' → BS w' S (.slice (some ⟨b, o + 3, none⟩) (lenS l) (c - 3)) (bodyS l) := fun w' hb =>
    (h.below' hb).mid 3 (lenS l) (by omega) (by omega)
  have hblen : (bodyS l).length = lenS l := by unfold bodyS; rw [List.length_take, List.length_drop]; omega
  have hwhole : ∀ w', Below w.heap.size w w' → BS w' S (.slice (some ⟨b, o, none⟩) 256 c) l := fun w' hb => by
    have := h.below' hb
    rwa [hl] at this
  rw [hkind] at hq
  obtain ⟨r, hr⟩ : ∃ r : Int × List UInt8 × Int, r = if (putS (kindS l) (bodyS l)).1 = l then ((kindS l : Int), bodyS l, 0) else (0, [], 17) := ⟨_, rfl⟩
  rw [← hr]
  generalize lenS l = n at *
  generalize kindS l = x0 at *
  generalize bodyS l = body at *
  generalize (l.getD 1 0).toNat = x1 at *
  generalize (l.getD 2 0).toNat = x2 at *
  have E : (3 + x1 * 256 + x2 : Int) = ((n + 3 : Nat) : Int) := by omega
  have hle : ((n + 3 : Nat) : Int) ≤ 252 := by omega
  have hput := fun w' (hb : Below w.heap.size w w') => put_sect x0 S _ body w' (hpart w' hb)
  rw [hl] at hz ⊢
  have HE := Lib.hid E
  have HF := Lib.hid hf
  have hc1 : (n : Int) + 3 ≤ c := by omega
  have hc2 : ¬ c = 3 := by omega
  have hc3 : (0 : Int) ≤ (n : Int) + 3 := by omega
  have hc4 : (3 : Int) ≤ (n : Int) + 3 := by omega
  have hbl : body.length ≤ 140737488355328 := by omega
  have HB := Lib.hid hbl
  generalize putS x0 body = r0 at *
  have hyes : r0.1 = l → r = ((x0 : Int), body, 0) := fun e => by rw [hr, if_pos e]
  have hno : r0.1 ≠ l → r = (0, [], 17) := fun e => by rw [hr, if_neg e]
  have HY := Lib.hid hyes
  have HN := Lib.hid hno
  clear E hf hlen hl h hr hyes hno hblen hbl hlc hcm
  go_enter Tryz.func100, Tryz.ntmps100
  go_wp2
  apply wp_scope_goto_any (α := Value) (R := fun w' => Below w.heap.size w w' ∧ ¬ r0.1 = l) 0 rfl
  case first =>
    go_wp2_with fail
    refine hz.mono ?_
    rintro e w1 ⟨rfl, b1⟩
    obtain ⟨_, _, ea, q0, q1, q2⟩ := hq w1 b1
    injection ea with ea
    injection ea with ea eo
    subst ea eo
    go_wp2
    go_region
    rw [HE.out]
    go_wp2_with fail
    refine (hput _ (Below_drawn b1 1)).mono ?_
    rintro e w2 ⟨v2, rfl, how2, b2⟩
    have B2 := (Below_drawn b1 1).trans (b2.mono (Below_drawn b1 1).size)
    have heq := equal_any _ _ _ _ _ _ w2 (own_BS how2) (hwhole w2 B2)
    clear q0 q1 q2 how2 b1 b2
    by_cases hcase : r0.1 = l
    · rw [decide_eq_true hcase] at heq
      go_wp2_with fail
      refine heq.mono ?_
      rintro e w' ⟨rfl, rfl⟩
      go_wp2_with fail
      refine (clone2_any _ _ body w2 (hpart w2 B2) HB.out).mono ?_
      rintro e w3 ⟨v3, rfl, how3, b3⟩
      go_wp2
      go_ret3
      rw [HY.out hcase]
      exact ⟨v3, rfl, own_base how3 B2.size, B2.trans (b3.mono B2.size)⟩
    · rw [decide_eq_false hcase] at heq
      go_wp2_with fail
      refine heq.mono ?_
      rintro e w' ⟨rfl, rfl⟩
      go_wp2
      go_step3
      exact ⟨rfl, ⟨B2, hcase⟩, v2, rfl⟩
  case pass =>
    intro x w1 hr
    go_wp2
    go_ret3
    rw [HN.out hr.2]
    exact hn _ hr.1
theorem get_sect (S : Nat → Prop) (v : Value) (l : List UInt8) (w : World) (h : BS w S v l) :
    Calls Tryz.prog 100 #[v] w (GetAs w (getS l)) := by
  unfold getS
  split
  · rename_i hl
    split
    · rename_i hz
      subst hz
      exact get_zero S v w h
    · rename_i hz
      split
      · rename_i hf
        exact get_far S v l hl hz hf w h
      · rename_i hf
        exact get_near S v l hl hz hf w h
  · rename_i hl
    exact get_arg S v l hl w h
end
end Go.Proofs.YteddmnoeljakpaaGreatDoor
