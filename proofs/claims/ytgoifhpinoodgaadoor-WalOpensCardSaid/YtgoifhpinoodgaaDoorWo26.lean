/-
  WaF: entries, over the loaded program: what a log has behind its head. No condition but what it names.
  WaS: append onto rows of a call's own (bytes, slices, patches), as an operation of a region that draws. No condition.
-/
import Derived.Test.YtgoifhpinoodgaaDoorWo25
import Derived.Test.YtgoifhpinoodgaaDoorWo22

section
namespace Go.Proofs.YtgoifhpinoodgaaDoor
open Go.RowKit
set_option maxRecDepth 100000
set_option linter.unusedVariables false

/-- Blocks that were there and of which S holds, and the call's own, but the row's. -/
def MineO (S : Nat → Prop) (B : Nat) (v : Value) (w : World) (x : Nat) : Prop := (S x ∧ x < B) ∨ (B ≤ x ∧ x < w.heap.size ∧ v.ownBlock ≠ some x)
section
variable {S : Nat → Prop} {B : Nat} {v v' : Value} {w w' : World} {vs : List Value} {ls : List (List UInt8)} {e n : Nat} {xs : List Value}
theorem VS.mine (h : VS w (MineO S B v w) vs ls) (hb : Below w.heap.size w w') : VS w' (MineO S B v w') vs ls :=
  (h.below' hb).mono fun b sb => by
    rcases sb with sb | sb
    · exact .inl sb
    · exact .inr ⟨sb.1, Nat.lt_of_lt_of_le sb.2.1 hb.size, sb.2.2⟩
theorem VS.minegrow (h : VS w (MineO S B v w) vs ls) (how : w.ownsRow B e 1 v n xs) (hg : w.grownBy w' v.ownBlock) (ho : v'.ownBlock = v.ownBlock ∨ v'.ownBlock = some w.heap.size) (hB : B ≤ w.heap.size) : VS w' (MineO S B v' w') vs ls :=
  (h.keep hg.size fun b sb hlt => hg.block b hlt fun e => by
    rcases sb with sb | sb
    · exact own_ne how sb.2 e.symm
    · exact sb.2.2 e.symm).mono fun b sb => by
      rcases sb with sb | sb
      · exact .inl sb
      · refine .inr ⟨sb.1, Nat.lt_of_lt_of_le sb.2.1 hg.size, ?_⟩
        rcases ho with ho | ho
        · rw [ho]; exact sb.2.2
        · rw [ho]; intro e; injection e with e; have := sb.2.1; omega
end
theorem onev_at (w : World) (t : TypeId) (x : Value) : ∀ j u, [x][j]? = some u → (w.alloc (.cells #[x] t)).cell? ((⟨w.heap.size, 0, none⟩ : Addr).add j) = some u := by
  intro j u h
  rw [Addr.add_lit, Nat.zero_add, (KB.new w t #[x]).cell]
  simpa using h

/-- A part of a slice of patches. -/
theorem PS.part {w : World} {S : Nat → Prop} {b o c n : Nat} {ps : List Pt} (h : PS w S (.slice (some ⟨b, o, none⟩) n c) ps) (lo m : Nat) (hm : lo + m ≤ ps.length) (hc : lo < c) : PS w S (.slice (some ⟨b, o + lo * 2, none⟩) m (c - lo)) ((ps.drop lo).take m) := by
  have hl : ((ps.drop lo).take m).length = m := by rw [List.length_take, List.length_drop]; omega
  obtain ⟨A', c', e, hlc, hcm, hn, hx⟩ := h
  injection e with e1 e2 e3
  subst e1 e2 e3
  refine ⟨_, c - lo, by rw [hl], by rw [hl]; omega, by omega, (fun h => by cases h), fun h0 => ?_⟩
  rw [hl] at h0
  obtain ⟨b', o', ea, sb, hb, hx⟩ := hx (by omega)
  injection ea with ea
  injection ea with ea eo
  subst ea eo
  refine ⟨b, o + lo * 2, rfl, sb, hb, fun j q hj => ?_⟩
  have hjm : j < m := by have := (List.getElem?_eq_some_iff.1 hj).1; omega
  rw [List.getElem?_take, if_pos hjm, List.getElem?_drop] at hj
  have := hx (lo + j) q hj
  rw [show o + lo * 2 + j * 2 = o + (lo + j) * 2 by omega]
  exact this

theorem body_succ {q : List Pt} {j : Nat} {a : Int} {l : List UInt8} (h : q[j]? = some (a, l)) : bodyL (q.take (j + 1)) = bodyL (q.take j) ++ numB a.toNat := by
  rw [List.take_add_one, h]
  unfold bodyL
  rw [List.flatMap_append]
  simp

set_option maxHeartbeats 4000000 in
/-- entries. -/
theorem entries_any (S : Nat → Prop) (v : Value) (ps : List Pt) (w : World) (h : PS w S v ps) (hp : ∀ q ∈ ps, 0 ≤ q.1 ∧ q.1 < 65536) (hl : ps.length ≤ 1024) :
    Calls Tryd.prog 48 #[v] w fun e w' => ∃ v', e = .returned v' ∧ LS w' (fun x => (S x ∧ x < w.heap.size) ∨ (w.heap.size ≤ x ∧ x < w'.heap.size)) v' (entriesL ps) ∧ Below w.heap.size w w' := by
  obtain ⟨A, c, rfl, hlc, hcm, hn0⟩ := h.form
  have hli := fun w => lists_any ps.length w (by omega)
  have HP : Hid (∀ (k : Nat) (a : Int) (l : List UInt8), ps[k]? = some (a, l) → 0 ≤ a ∧ a < 65536) := fun k a l hk => hp _ (List.mem_of_getElem? hk)
  have HL := Lib.hid hl
  obtain ⟨M, hM⟩ : ∃ M, M = listsN ps.length := ⟨_, rfl⟩
  have HM : Hid (120 * M < ps.length + 120 ∧ ps.length ≤ 120 * M ∧ M ≤ 9) := by subst hM; show _ ∧ _ ∧ _; unfold listsN; omega
  have HE : Hid (entriesL ps = ((List.range M).map fun i => secL (partL ps i)) ++ ps.map (·.2)) := by show _ = _; rw [hM]; rfl
  rw [← hM] at hli
  have hlen : ps.length ≤ 9223372036854775807 := by omega
  have hM9 : M ≤ 9 := HM.out.2.2
  clear hM hp hl
  go_enter Tryd.func48, Tryd.ntmps48
  go_wp2_with (go_at_call 67; refine (hli _).mono ?_; rintro e w' ⟨rfl, rfl⟩)
  go_loopw [3, 15] (fun av iv wr => ∃ (i : Nat) (vs : List Value), i ≤ M ∧ iv = .int .i64 i ∧ wr.ownsRow w.heap.size 34 1 av vs.length vs ∧ VS wr (MineO S w.heap.size av wr) vs ((List.range i).map fun i => secL (partL ps i)) ∧ Below w.heap.size w wr) (fun _ iv _ => M - (intOf iv).toNat)
  case atStart => exact ⟨0, [], by omega, rfl, World.ownsRow_nil _ _ _ _, ⟨rfl, fun i v l hv _ => by simp at hv⟩, Below.refl _ _⟩
  case round =>
    obtain ⟨i, vs, hi, rfl, how, vv, bl⟩ := hrel
    by_cases hlt : i < M
    · have hm := HM.out
      have h1 : 120 * i < ps.length := by omega
      obtain ⟨m, hm1⟩ : ∃ m, m = min (120 * (i + 1)) ps.length := ⟨_, rfl⟩
      have hm2 : min ((120 : Int) * ((i : Int) + 1)) (ps.length : Int) = (m : Int) := by omega
      obtain ⟨b, o, rfl, _⟩ := h.at_ (by omega)
      have hpart : PS wr S (.slice (some ⟨b, o + 120 * i * 2, none⟩) (m - 120 * i) (c - 120 * i)) (partL ps i) := by
        have := (h.below' bl).part (120 * i) (m - 120 * i) (by omega) (by omega)
        have e : (ps.drop (120 * i)).take (m - 120 * i) = partL ps i := by
          unfold partL
          rw [hm1]
          apply List.ext_getElem?
          intro j
          rw [List.getElem?_take, List.getElem?_take, List.getElem?_drop]
          by_cases hj : j < 120
          · rw [if_pos hj]
            split
            · rfl
            · rw [List.getElem?_eq_none (by omega)]
          · rw [if_neg hj, if_neg (by omega)]
        rwa [e] at this
      have hpl : (partL ps i).length = m - 120 * i := by rw [partL_len]; omega
      have f1 : (0 : Int) ≤ 120 * (i : Int) := by omega
      have f2 : 120 * (i : Int) ≤ (m : Int) := by omega
      have f3 : (m : Int) ≤ (c : Int) := by omega
      have f4 : ¬ (c : Int) = 120 * (i : Int) := by omega
      have HH := Lib.hid h
      have HVV := Lib.hid vv
      have HPL := Lib.hid hpl
      have HPA : Hid (∀ (k : Nat) (a : Int) (l : List UInt8), (partL ps i)[k]? = some (a, l) → 0 ≤ a ∧ a < 65536) := fun k a l hk => by
        have := List.mem_of_mem_drop (List.mem_of_mem_take (List.mem_of_getElem? hk))
        obtain ⟨j, hj⟩ := List.mem_iff_getElem?.1 this
        exact HP.out j a l hj
      have HLE : Hid (m - 120 * i ≤ 120) := by show _ ≤ _; omega
      clear hm hm1 h vv hpl
      have HM1 : Hid (120 * i ≤ m) := by show _ ≤ _; omega
      go_wp2_with fail
      obtain ⟨w0, hw0⟩ : ∃ w0 : World, w0 = wr := ⟨_, rfl⟩
      rw [← hw0] at how bl hpart HVV ⊢
      clear hw0
      go_loopw [5, 29] (fun bo jv wr => ∃ j : Nat, j ≤ m - 120 * i ∧ jv = .int .i64 j ∧ wr.ownsRow w0.heap.size 5 1 bo (bodyL ((partL ps i).take j)).length ((bodyL ((partL ps i).take j)).map bv) ∧ Below w0.heap.size w0 wr) (fun _ jv _ => m - 120 * i - (intOf jv).toNat)
      case atStart => exact ⟨0, by omega, rfl, World.ownsRow_nil _ _ _ _, Below.refl _ _⟩
      case round =>
        obtain ⟨j, hj, rfl, hob, blj⟩ := hrel
        by_cases hjt : j < m - 120 * i
        · obtain ⟨b', o', ea, _, _, hx⟩ := (hpart.below' blj).at_ (by rw [HPL.out]; omega)
          injection ea with ea
          injection ea with ea eo
          subst ea eo
          obtain ⟨⟨a, l⟩, hv⟩ : ∃ q, (partL ps i)[j]? = some q := ⟨_, List.getElem?_eq_getElem (by rw [HPL.out]; exact hjt)⟩
          obtain ⟨k0, X, z, k1, _⟩ := hx j _ hv
          obtain ⟨a1, a2⟩ := HPA.out j a l hv
          dsimp only at k0 k1
          obtain ⟨x, rfl⟩ := Int.eq_ofNat_of_zero_le a1
          have HB := Lib.hid (body_succ hv)
          rw [Int.toNat_natCast] at HB
          have hblen := bodyL_len ((partL ps i).take j)
          have hbl2 : (bodyL ((partL ps i).take j)).length ≤ 240 := by rw [hblen, List.length_take]; have := partL_le ps i; omega
          have HBL := Lib.hid hbl2
          have D2 : decide ((j : Int) < ((m - 120 * i : Nat) : Int)) = true := by simp; omega
          clear hx hv hblen hbl2 a1
          generalize bodyL ((partL ps i).take j) = bd at *
          have hx2 : x < 65536 := by omega
          have q0 : (wr.alloc (.cells #[.int .i64 (x : Int), .slice X l.length z] 55)).cell? ⟨wr.heap.size, 0, none⟩ = some (.int .i64 (x : Int)) := (KB.new wr 55 #[.int .i64 (x : Int), .slice X l.length z]).cell 0
          have B1 := (Below.refl wr.heap.size wr).alloc (Nat.le_refl _) (.cells #[.int .i64 (x : Int), .slice X l.length z] 55)
          have hob1 := own_past B1 hob
          have blj1 := blj.trans (B1.mono blj.size)
          clear hob
          go_wp2_with fail
          refine (number_any x _ hx2).mono ?_
          rintro e w2 ⟨v2, rfl, how2, b2⟩
          have hob2 := own_past b2 hob1
          have blj2 := blj1.trans (b2.mono blj1.size)
          have bs2 := own_BS how2
          obtain ⟨A2, c2, rfl, _⟩ := bs2.form
          obtain ⟨i0, ib, hz0, hz1, hz2⟩ := info_parts info_byte
          have hsz2 := blj2.size
          clear hob1 how2 B1 blj blj1 b2
          go_wp2_with (at_builtin; refine wpList_grow _ rfl _ _ _ rfl w0.heap.size 5 i0 Tryd.underlying34 ib hz0 hz1 hz2 u5 bd rfl hob2 _ _ (numB x) rfl bs2 (by have := HBL.out; simp [numB]; omega) hsz2 ?_; intro v3 w3 how3 g3 _)
          go_roundw
          case rel =>
            refine ⟨j + 1, by omega, by go_num, ?_, blj2.grown g3 hsz2 fun g e => own_ge hob2 g e⟩
            rw [HB.out]
            exact how3
          case measure => simp [intOf]; omega
        · obtain rfl : j = m - 120 * i := by omega
          have e : (partL ps i).take (m - 120 * i) = partL ps i := List.take_of_length_le (by rw [HPL.out]; exact Nat.le_refl _)
          rw [e] at hob
          have D2 : decide (((m - 120 * i : Nat) : Int) < ((m - 120 * i : Nat) : Int)) = false := by simp
          have hbs := own_BS hob
          have hput := fun (W : World) (h : BS W (fun b => w0.heap.size ≤ b ∧ b < wr.heap.size) u5 (bodyL (partL ps i))) => put_sect 2 _ u5 (bodyL (partL ps i)) W h
          have hgood : putS 2 (bodyL (partL ps i)) = (secL (partL ps i), 0) := by
            refine Prod.ext rfl (put2_ok ?_)
            rw [bodyL_len]
            have := partL_le ps i
            omega
          rw [hgood] at hput
          obtain ⟨A5, c5, e5, _⟩ := hbs.form
          have HRS : Hid ((List.range (i + 1)).map (fun i => secL (partL ps i)) = (List.range i).map (fun i => secL (partL ps i)) ++ [secL (partL ps i)]) := by
            show _ = _
            rw [List.range_succ, List.map_append]
            rfl
          have BL := bl.trans (blj.mono bl.size)
          have how1 := own_past blj how
          have vv1 := HVV.out.mine blj
          have HVL : Hid (vs.length + 1 ≤ 1000000000) := by show _ ≤ _; have := vv1.1; simp at this; omega
          clear hgood hob HVV how bl blj e
          generalize secL (partL ps i) = sc at *
          generalize bodyL (partL ps i) = bd at *
          subst e5
          go_wp2_with fail
          refine (hput _ hbs).mono ?_
          rintro e w2 ⟨v2, rfl, how2, b2⟩
          have BL2 := BL.trans (b2.mono BL.size)
          have how3 := own_past b2 how1
          have vv3 := vv1.mine b2
          have bs2 := own_BS how2
          have hs := BL.size
          have vv4 := vv3.append (VS.one (bs2.mono (S' := MineO S w.heap.size u3 w2) fun x hx => .inr ⟨by omega, hx.2, fun e => by have := own_lt how1 e; omega⟩))
          rw [← HRS.out] at vv4
          obtain ⟨A2, c2, rfl, _⟩ := bs2.form
          have hat := onev_at w2 34 (.slice A2 sc.length c2)
          have B4 := (Below.refl w2.heap.size w2).alloc (Nat.le_refl _) (.cells #[.slice A2 sc.length c2] 34)
          have how4 := own_past B4 how3
          have vv5 := vv4.mine B4
          have BL4 := BL2.trans (B4.mono BL2.size)
          have hs4 := BL4.size
          clear hput hbs how1 vv1 how2 b2 how3 vv3 bs2 vv4 BL BL2 B4
          go_wp2_with (at_builtin; refine wpList_growL _ rfl _ _ rfl w.heap.size u3 vs rfl how4 ⟨w2.heap.size, 0, none⟩ 1 1 [.slice A2 sc.length c2] rfl rfl hat (by intro u hu; simp at hu; subst hu; rfl) HVL.out hs4 ?_; intro v5 w5 how5 g5 ho5)
          go_roundw
          case rel =>
            refine ⟨i + 1, _, by omega, by go_num, how5, ?_, BL4.grown g5 hs4 fun g e => own_ge how4 g e⟩
            exact vv5.minegrow how4 g5 ho5 hs4
          case measure => simp [intOf]; omega
    · obtain rfl : i = M := by omega
      clear HM
      go_wp2_with fail
      go_loopw [3, 51] (fun av iv wr => ∃ (k : Nat) (vs : List Value), k ≤ ps.length ∧ iv = .int .i64 k ∧ wr.ownsRow w.heap.size 34 1 av vs.length vs ∧ VS wr (MineO S w.heap.size av wr) vs (((List.range i).map fun i => secL (partL ps i)) ++ (ps.take k).map (·.2)) ∧ Below w.heap.size w wr) (fun _ iv _ => ps.length - (intOf iv).toNat)
      case atStart => exact ⟨0, vs, by omega, rfl, how, by rw [List.take_zero, List.map_nil, List.append_nil]; exact vv, bl⟩
      case round =>
        clear how vv bl
        obtain ⟨k, vs, hk, rfl, how, vv, bl⟩ := hrel
        by_cases hlt : k < ps.length
        · obtain ⟨b, o, rfl, sb, hb, hx⟩ := h.at_ (by omega)
          obtain ⟨⟨a, l⟩, hv⟩ : ∃ q, ps[k]? = some q := ⟨_, List.getElem?_eq_getElem hlt⟩
          obtain ⟨k0, X, z, k1, hbs⟩ := hx k _ hv
          dsimp only at k0 k1 hbs
          have hsb := bl.size
          have k0r : wr.cell? ⟨b, o + k * 2, none⟩ = some (.int .i64 a) := (World.cell?_of_block (w := w) (bl.block _ hb)).trans k0
          have k1r : wr.cell? ⟨b, o + k * 2 + 1, none⟩ = some (.slice X l.length z) := (World.cell?_of_block (w := w) (bl.block _ hb)).trans k1
          have HT : Hid ((ps.take (k + 1)).map (·.2) = (ps.take k).map (·.2) ++ [l]) := by
            show _ = _
            rw [List.take_add_one, hv, List.map_append]
            rfl
          have hbs2 : BS wr (fun x => S x ∧ x < w.heap.size) (.slice X l.length z) l := hbs.lt.below bl fun b hb => hb.2
          have vv2 := vv.append (VS.one (hbs2.mono (S' := MineO S w.heap.size u3 wr) fun x hx => .inl hx))
          rw [List.append_assoc, ← HT.out] at vv2
          have HVL : Hid (vs.length + 1 ≤ 1000000000) := by
            show _ ≤ _
            have := vv.1
            rw [List.length_append, List.length_map, List.length_map, List.length_range, List.length_take] at this
            have := HL.out
            omega
          have q1 : (wr.alloc (.cells #[.int .i64 a, .slice X l.length z] 55)).cell? ⟨wr.heap.size, 1, none⟩ = some (.slice X l.length z) := (KB.new wr 55 #[.int .i64 a, .slice X l.length z]).cell 1
          have hat := onev_at (wr.alloc (.cells #[.int .i64 a, .slice X l.length z] 55)) 34 (.slice X l.length z)
          have B4 := ((Below.refl wr.heap.size wr).alloc (Nat.le_refl _) (.cells #[.int .i64 a, .slice X l.length z] 55)).alloc (by simp) (.cells #[.slice X l.length z] 34)
          have how4 := own_past B4 how
          have vv4 := vv2.mine B4
          have BL4 := bl.trans (B4.mono hsb)
          have hs4 := BL4.size
          rw [World.size_alloc] at hat
          clear hx k0 k1 hbs hbs2 vv vv2 how HP HE B4
          go_wp2_with (at_builtin; refine wpList_growL _ rfl _ _ rfl w.heap.size u3 vs rfl how4 ⟨wr.heap.size + 1, 0, none⟩ 1 1 [.slice X l.length z] rfl rfl hat (by intro u hu; simp at hu; subst hu; rfl) HVL.out hs4 ?_; intro v5 w5 how5 g5 ho5)
          go_roundw
          case rel => exact ⟨k + 1, _, by omega, by go_num, how5, vv4.minegrow how4 g5 ho5 hs4, BL4.grown g5 hs4 fun g e => own_ge how4 g e⟩
          case measure => simp [intOf]; omega
        · obtain rfl : k = ps.length := by omega
          rw [List.take_length, ← HE.out] at vv
          have hls := LS_of_own (S := fun x => (S x ∧ x < w.heap.size) ∨ (w.heap.size ≤ x ∧ x < wr.heap.size)) how (vv.mono fun x hx => by
            rcases hx with hx | hx
            · exact .inl hx
            · exact .inr ⟨hx.1, hx.2.1⟩) fun x h1 h2 => .inr ⟨h1, h2⟩
          clear vv how HE HP
          go_wp2_with fail
          go_ret
          exact ⟨_, rfl, hls, bl⟩
end Go.Proofs.YtgoifhpinoodgaaDoor
end

section
namespace Go.Proofs.YtgoifhpinoodgaaDoor
open Go.RowKit
set_option maxRecDepth 100000
set_option linter.unusedVariables false

theorem wp_grow {P : Program} {o : Oper} {a : Act} {w : World} {K : Act → World → Prop} {Q : Exit → Act → World → Prop}
    (s x : Operand) (t : TypeId) (hop : o.op = Op.call { callee := Callee.builtin Builtin.append, args := #[s, x], argTypes := #[t, t] })
    (base : Nat) (e : TypeId) (i : TypeInfo) (ht : P.underlying t = some (.slice e)) (hi : P.info? e = some i) (hz : i.zero = some (.int .u8 0))
    (hsize : i.size = 1) (hby : i.bytes = 1) (v : Value) (xs : List UInt8) (hs : a.eval s = v) (hown : w.ownsRow base e 1 v xs.length (xs.map bv))
    (S : Nat → Prop) (xv : Value) (ys : List UInt8) (hxe : a.eval x = xv) (hx : BS w S xv ys) (hb : xs.length + ys.length ≤ 140737488355328) (hbase : base ≤ w.heap.size)
    (hK : ∀ v' w', w'.ownsRow base e 1 v' (xs ++ ys).length ((xs ++ ys).map bv) → w.grownBy w' v.ownBlock → (v'.ownBlock = v.ownBlock ∨ v'.ownBlock = some w.heap.size) → K (a.put o.dst v') w') :
    Oper.wp P o a w K Q := by
  obtain ⟨v', w', hrun, h2, h3, h4⟩ := run_grow (P := P) w base t o.type e i ht hi hz hsize hby v xs hown S xv ys hx hb hbase
  unfold Oper.wp execOp
  simp only [hop, resolve, invoke, builtin, Sem.run_bind, Sem.run_pure, Result.andThen_ok, List.map_toArray, List.map_cons, List.map_nil, hs, hxe, hrun]
  exact hK _ _ h2 h3 h4
theorem wp_growP {o : Oper} {a : Act} {w : World} {K : Act → World → Prop} {Q : Exit → Act → World → Prop} (s x : Operand)
    (ho : o.op = .call { callee := .builtin .append, args := #[s, x], argTypes := #[25, 25] })
    (base : Nat) (v : Value) (qs : List Two2) (hs : a.eval s = v) (hown : w.ownsRow base 55 2 v qs.length (flatW qs))
    (ad : Addr) (c n : Nat) (us : List Two2) (hxe : a.eval x = .slice (some ad) n c) (hn : n = us.length) (hx : ∀ j u, (flatW us)[j]? = some u → w.cell? (ad.add j) = some u)
    (h1 : ∀ u ∈ flatW us, u.oneCell' = true) (hb : qs.length + us.length ≤ 1000000000) (hbase : base ≤ w.heap.size)
    (h : ∀ v' w', w'.ownsRow base 55 2 v' (qs ++ us).length (flatW (qs ++ us)) → w.grownBy w' v.ownBlock → (v'.ownBlock = v.ownBlock ∨ v'.ownBlock = some w.heap.size) → K (a.put o.dst v') w') :
    Oper.wp Tryd.prog o a w K Q := by
  subst hn
  obtain ⟨v', w', hrun, h2, h3, h4⟩ := run_growP w base v qs hown ad c us hx h1 hb hbase o.type
  unfold Oper.wp execOp
  simp only [ho, resolve, invoke, builtin, Sem.run_bind, Sem.run_pure, Result.andThen_ok, List.map_toArray, List.map_cons, List.map_nil, hs, hxe, hrun]
  exact h v' w' h2 h3 h4
end Go.Proofs.YtgoifhpinoodgaaDoor
end
