/-
  The document's Get of layer 5, over the loaded program: its contract. No condition.
-/
import Derived.Test.YtmepcdljobdigaaDoorTermL
import Derived.Test.YtmepcdljobdigaaDoorCopy
namespace Go.Proofs.YtmepcdljobdigaaDoor
open Go.RowKit
set_option linter.unusedVariables false

theorem results_cell_tmp2 {P : Program} {fn : Func} {p u v : Tmp} {ty : TypeId} (h : fn.results = #[.cell p ty, .tmp u, .tmp v]) (tmps : Array Value) (w : World) (g : Nat) (t : TypeId) (cs : Array Value) (fr : Nat × Nat) (d : TypeDesc)
    (hp : tmps.getD p undef = .pointer (some ⟨g, 0, none⟩)) (hg : w.heap[g]? = some (.cells cs t fr))
    (hu : P.underlying ty = some d) (hd : (match d with | .struct _ | .array _ _ => true | _ => false) = true) (hi : (P.info? ty).map (·.size) = some cs.size) :
    (results fn tmps).run P w = .ok (.tuple #[.agg cs, tmps.getD u undef, tmps.getD v undef]) w := by
  have hp' : tmps[p]?.getD undef = .pointer (some ⟨g, 0, none⟩) := by simpa using hp
  simp [results, h, hp', asAddr, run_loadVar_row w g t ty cs fr d hg hu hd hi]

theorem term_form {w : World} {S : Nat → Prop} : ∀ {f : Nat} {t : Tm f} {e0 e1 e2 e3 : Value}, TM w S f t e0 e1 e2 e3 → ∃ (i0 i1 : Int) (X2 : Option Addr) (n2 z2 : Nat) (X3 : Option Addr) (n3 z3 : Nat), e0 = .int .i64 i0 ∧ e1 = .int .u64 i1 ∧ e2 = .slice X2 n2 z2 ∧ e3 = .slice X3 n3 z3
  | 0, t, _, _, _, _, _ => nomatch t
  | f + 1, (t : Nd (Tm f)), e0, e1, e2, e3, h => by
    obtain ⟨rfl, _, rfl, _, hb, hk⟩ := h
    obtain ⟨A2, c2, rfl, _⟩ := hb.form
    obtain ⟨A3, c3, rfl, _⟩ := hk
    exact ⟨_, _, A2, _, c2, A3, _, c3, rfl, rfl, rfl, rfl⟩

/-- What Get answers: the term, how many bytes, the error. -/
def getOf (b : List UInt8) : Nd (Tm 8) × Int × Int :=
  match (readT 8 (some (b.take 400))).1 with
  | none => (zeroN, 0, 2)
  | some l => if mayT 9 (readT 8 (some (b.take 400))).2 8 = true then ((readT 8 (some (b.take 400))).2, ((b.take 400).length : Int) - l.length, 0) else (zeroN, 0, 2)

set_option maxHeartbeats 2000000 in
theorem rGet_any (S : Nat → Prop) (v : Value) (b : List UInt8) (w : World) (h : BS w S v b) :
    Calls Tryd.prog 16 #[v] w fun e w' => ∃ u, e = .returned (.tuple #[u, .int .i64 (getOf b).2.1, .int .i64 (getOf b).2.2]) ∧ TV w' (fun x => w.heap.size ≤ x ∧ x < w'.heap.size) 9 u (getOf b).1 ∧ Below w.heap.size w w' := by
  have hbl : b.length ≤ 9223372036854775807 := by have := h.len; unfold maxLen at this; omega
  obtain ⟨A, c, rfl, hlc, hmc, _⟩ := h.form
  have K := KB.new w 26 #[.int .i64 0, .int .u64 0, .slice none 0 0, .slice none 0 0]
  have B := (Below.refl w.heap.size w).alloc (Nat.le_refl _) (.cells #[.int .i64 0, .int .u64 0, .slice none 0 0, .slice none 0 0] 26)
  have hw := h.alloc (.cells #[.int .i64 0, .int .u64 0, .slice none 0 0, .slice none 0 0] 26)
  by_cases h4 : 400 < b.length
  · have hs := hw.take 400 (by omega)
    have hcp := copy_any S _ (b.take 400) _ hs (by rw [List.length_take]; omega)
    unfold getOf
    have hbs : (b.take 400).length = 400 := by rw [List.length_take]; omega
    have hrd := fun (w1 : World) (g : Nat) (R : RR w1 g (fun x => x < g) (some (b.take 400))) (hS : ∀ x, x < g → x < w1.heap.size) => rread_any (fun x => x < g) 8 g (some (b.take 400)) w1 R hS (by simp only [Option.getD_some]; omega) (by omega)
    have hle := readT_le 8 (some (b.take 400))
    unfold ReadPost at hrd
    simp only [show ((8 : Nat) : Int) = 8 from rfl] at hrd
    have HBS := Lib.hid hbs
    clear hbs
    generalize b.take 400 = bs at *
    generalize readT 8 (some bs) = RT at *
    obtain ⟨st, t⟩ := RT
    dsimp only at hrd hle ⊢
    cases st with
    | none =>
      dsimp only
      go_enter Tryd.func16, Tryd.ntmps16
      go_wp2_with fail
      refine hcp.mono ?_
      rintro e w1 ⟨v1, rfl, how, b1⟩
      have K1 := K.below b1 K.lt
      have B1 := B.trans (b1.mono B.size)
      have hv := own_BS how
      obtain ⟨A1, c1, rfl, _⟩ := hv.form
      have hw1 : w.heap.size < w1.heap.size := K1.lt
      have R1 : RR (w1.alloc (.cells #[.slice A1 bs.length c1, .bool false] 69)) w1.heap.size (fun x => x < w1.heap.size) (some bs) :=
        ⟨_, bs, KB.new w1 _ _, (hv.alloc _).mono fun x hx => hx.2, Nat.lt_irrefl _, fun l' e => by injection e⟩
      have hc := hrd _ _ R1 (fun x hx => by simp; omega)
      have K2 := K1.alloc (.cells #[.slice A1 bs.length c1, .bool false] 69)
      have B2 := B1.alloc B1.size (.cells #[.slice A1 bs.length c1, .bool false] 69)
      clear hcp hrd R1 K1 B1 hv how b1 K B
      go_wp2_with fail
      refine hc.mono ?_
      rintro e w2 ⟨tv, rfl, R2, T2, G2⟩
      obtain ⟨e0, e1, e2, e3, rfl, tm⟩ := T2
      obtain ⟨i0, i1, X2, n2, z2, X3, n3, z3, rfl, rfl, rfl, rfl⟩ := term_form tm
      have K3 := (K2.grown G2 (by simp; omega)).alloc (.cells #[.int .i64 i0, .int .u64 i1, .slice X2 n2 z2, .slice X3 n3 z3] 26)
      have B3 := (B2.grown G2 B2.size (fun k hk => by injection hk with hk; omega))
      have B4 := B3.alloc B3.size (.cells #[.int .i64 i0, .int .u64 i1, .slice X2 n2 z2, .slice X3 n3 z3] 26)
      have R3 := R2.alloc (.cells #[.int .i64 i0, .int .u64 i1, .slice X2 n2 z2, .slice X3 n3 z3] 26)
      have g2 := G2.size
      clear hc K2 B2 B3 R2 G2
      obtain ⟨q1, q2⟩ := R3.bad
      have c0 : (w2.alloc (.cells #[.int .i64 i0, .int .u64 i1, .slice X2 n2 z2, .slice X3 n3 z3] 26)).cell? ⟨w.heap.size, 0, none⟩ = some (.int .i64 0) := K3.cell 0
      have c1' : (w2.alloc (.cells #[.int .i64 i0, .int .u64 i1, .slice X2 n2 z2, .slice X3 n3 z3] 26)).cell? ⟨w.heap.size, 1, none⟩ = some (.int .u64 0) := K3.cell 1
      have c2 : (w2.alloc (.cells #[.int .i64 i0, .int .u64 i1, .slice X2 n2 z2, .slice X3 n3 z3] 26)).cell? ⟨w.heap.size, 2, none⟩ = some (.slice none 0 0) := K3.cell 2
      have c3 : (w2.alloc (.cells #[.int .i64 i0, .int .u64 i1, .slice X2 n2 z2, .slice X3 n3 z3] 26)).cell? ⟨w.heap.size, 3, none⟩ = some (.slice none 0 0) := K3.cell 3
      have f0 := K3.free 0
      have f1 := K3.free 1
      have f2 := K3.free 2
      have f3 := K3.free 3
      go_wp2_with fail
      refine bodyPost_ret (results_cell_tmp2 (P := Tryd.prog) rfl _ _ w.heap.size _ _ (0, 0) _ rfl (put_four K3) Tryd.underlying26 rfl (by kernel_rfl)) rfl ⟨_, rfl, zero_TV _ _ _, B4.trans (below_of_grown' (grown_four _ _ _ _ _ _) (Nat.le_refl _) B4.size)⟩
    | some l =>
      dsimp only
      cases hmay : mayT 9 t 8 with
      | false =>
        rw [if_neg (by simp)]
        go_enter Tryd.func16, Tryd.ntmps16
        go_wp2_with fail
        refine hcp.mono ?_
        rintro e w1 ⟨v1, rfl, how, b1⟩
        have K1 := K.below b1 K.lt
        have B1 := B.trans (b1.mono B.size)
        have hv := own_BS how
        obtain ⟨A1, c1, rfl, _⟩ := hv.form
        have hw1 : w.heap.size < w1.heap.size := K1.lt
        have R1 : RR (w1.alloc (.cells #[.slice A1 bs.length c1, .bool false] 69)) w1.heap.size (fun x => x < w1.heap.size) (some bs) :=
          ⟨_, bs, KB.new w1 _ _, (hv.alloc _).mono fun x hx => hx.2, Nat.lt_irrefl _, fun l' e => by injection e⟩
        have hc := hrd _ _ R1 (fun x hx => by simp; omega)
        have K2 := K1.alloc (.cells #[.slice A1 bs.length c1, .bool false] 69)
        have B2 := B1.alloc B1.size (.cells #[.slice A1 bs.length c1, .bool false] 69)
        clear hcp hrd R1 K1 B1 hv how b1 K B
        go_wp2_with fail
        refine hc.mono ?_
        rintro e w2 ⟨tv, rfl, R2, T2, G2⟩
        obtain ⟨e0, e1, e2, e3, rfl, tm⟩ := T2
        obtain ⟨i0, i1, X2, n2, z2, X3, n3, z3, rfl, rfl, rfl, rfl⟩ := term_form tm
        have K3 := (K2.grown G2 (by simp; omega)).alloc (.cells #[.int .i64 i0, .int .u64 i1, .slice X2 n2 z2, .slice X3 n3 z3] 26)
        have B3 := (B2.grown G2 B2.size (fun k hk => by injection hk with hk; omega))
        have B4 := B3.alloc B3.size (.cells #[.int .i64 i0, .int .u64 i1, .slice X2 n2 z2, .slice X3 n3 z3] 26)
        have R3 := R2.alloc (.cells #[.int .i64 i0, .int .u64 i1, .slice X2 n2 z2, .slice X3 n3 z3] 26)
        have g2 := G2.size
        clear hc K2 B2 B3 R2 G2
        obtain ⟨q1, q2⟩ := R3.good
        have K7 := KB.new w2 26 #[.int .i64 i0, .int .u64 i1, .slice X2 n2 z2, .slice X3 n3 z3]
        have tv3 : TV (w2.alloc (.cells #[.int .i64 i0, .int .u64 i1, .slice X2 n2 z2, .slice X3 n3 z3] 26)) (fun x => w.heap.size < x ∧ x < (w2.alloc (.cells #[.int .i64 i0, .int .u64 i1, .slice X2 n2 z2, .slice X3 n3 z3] 26)).heap.size) 9 (.agg #[.int .i64 i0, .int .u64 i1, .slice X2 n2 z2, .slice X3 n3 z3]) t := TV.alloc ⟨_, _, _, _, rfl, TM.keepS _ _ _ _ _ _ tm (Nat.le_refl _) (fun _ _ _ => rfl) fun x hx => ⟨by have := hx.1; simp at this; omega, by simp; have := hx.2; omega⟩⟩ _
        have hmy := rMay_any _ 9 t _ _ tv3
        rw [hmay] at hmy
        clear tm
        have d0 : (w2.alloc (.cells #[.int .i64 i0, .int .u64 i1, .slice X2 n2 z2, .slice X3 n3 z3] 26)).cell? ⟨w2.heap.size, 0, none⟩ = some (.int .i64 i0) := K7.cell 0
        have d1 : (w2.alloc (.cells #[.int .i64 i0, .int .u64 i1, .slice X2 n2 z2, .slice X3 n3 z3] 26)).cell? ⟨w2.heap.size, 1, none⟩ = some (.int .u64 i1) := K7.cell 1
        have d2 : (w2.alloc (.cells #[.int .i64 i0, .int .u64 i1, .slice X2 n2 z2, .slice X3 n3 z3] 26)).cell? ⟨w2.heap.size, 2, none⟩ = some (.slice X2 n2 z2) := K7.cell 2
        have d3 : (w2.alloc (.cells #[.int .i64 i0, .int .u64 i1, .slice X2 n2 z2, .slice X3 n3 z3] 26)).cell? ⟨w2.heap.size, 3, none⟩ = some (.slice X3 n3 z3) := K7.cell 3
        go_wp2_with fail
        refine hmy.mono ?_
        rintro e w4 ⟨rfl, b4⟩
        have K4 := K3.below b4 K3.lt
        have K8 := K7.below b4 K7.lt
        have B5 := B4.trans (b4.mono B4.size)
        have R4 := R3.below b4
        have tv4 := tv3.below' b4
        have s4 := b4.size
        clear hmy q1 q2 d0 d1 d2 d3 K3 K7 B4 R3 tv3 b4
        have c0 : w4.cell? ⟨w.heap.size, 0, none⟩ = some (.int .i64 0) := K4.cell 0
        have c1' : w4.cell? ⟨w.heap.size, 1, none⟩ = some (.int .u64 0) := K4.cell 1
        have c2 : w4.cell? ⟨w.heap.size, 2, none⟩ = some (.slice none 0 0) := K4.cell 2
        have c3 : w4.cell? ⟨w.heap.size, 3, none⟩ = some (.slice none 0 0) := K4.cell 3
        have f0 := K4.free 0
        have f1 := K4.free 1
        have f2 := K4.free 2
        have f3 := K4.free 3
        go_wp2_with fail
        refine bodyPost_ret (results_cell_tmp2 (P := Tryd.prog) rfl _ _ w.heap.size _ _ (0, 0) _ rfl (put_four K4) Tryd.underlying26 rfl (by kernel_rfl)) rfl ⟨_, rfl, zero_TV _ _ _, B5.trans (below_of_grown' (grown_four _ _ _ _ _ _) (Nat.le_refl _) B5.size)⟩
      | true =>
        rw [if_pos rfl]
        go_enter Tryd.func16, Tryd.ntmps16
        go_wp2_with fail
        refine hcp.mono ?_
        rintro e w1 ⟨v1, rfl, how, b1⟩
        have K1 := K.below b1 K.lt
        have B1 := B.trans (b1.mono B.size)
        have hv := own_BS how
        obtain ⟨A1, c1, rfl, _⟩ := hv.form
        have hw1 : w.heap.size < w1.heap.size := K1.lt
        have R1 : RR (w1.alloc (.cells #[.slice A1 bs.length c1, .bool false] 69)) w1.heap.size (fun x => x < w1.heap.size) (some bs) :=
          ⟨_, bs, KB.new w1 _ _, (hv.alloc _).mono fun x hx => hx.2, Nat.lt_irrefl _, fun l' e => by injection e⟩
        have hc := hrd _ _ R1 (fun x hx => by simp; omega)
        have K2 := K1.alloc (.cells #[.slice A1 bs.length c1, .bool false] 69)
        have B2 := B1.alloc B1.size (.cells #[.slice A1 bs.length c1, .bool false] 69)
        clear hcp hrd R1 K1 B1 hv how b1 K B
        go_wp2_with fail
        refine hc.mono ?_
        rintro e w2 ⟨tv, rfl, R2, T2, G2⟩
        obtain ⟨e0, e1, e2, e3, rfl, tm⟩ := T2
        obtain ⟨i0, i1, X2, n2, z2, X3, n3, z3, rfl, rfl, rfl, rfl⟩ := term_form tm
        have K3 := (K2.grown G2 (by simp; omega)).alloc (.cells #[.int .i64 i0, .int .u64 i1, .slice X2 n2 z2, .slice X3 n3 z3] 26)
        have B3 := (B2.grown G2 B2.size (fun k hk => by injection hk with hk; omega))
        have B4 := B3.alloc B3.size (.cells #[.int .i64 i0, .int .u64 i1, .slice X2 n2 z2, .slice X3 n3 z3] 26)
        have R3 := R2.alloc (.cells #[.int .i64 i0, .int .u64 i1, .slice X2 n2 z2, .slice X3 n3 z3] 26)
        have g2 := G2.size
        clear hc K2 B2 B3 R2 G2
        obtain ⟨q1, q2⟩ := R3.good
        have K7 := KB.new w2 26 #[.int .i64 i0, .int .u64 i1, .slice X2 n2 z2, .slice X3 n3 z3]
        have tv3 : TV (w2.alloc (.cells #[.int .i64 i0, .int .u64 i1, .slice X2 n2 z2, .slice X3 n3 z3] 26)) (fun x => w.heap.size < x ∧ x < (w2.alloc (.cells #[.int .i64 i0, .int .u64 i1, .slice X2 n2 z2, .slice X3 n3 z3] 26)).heap.size) 9 (.agg #[.int .i64 i0, .int .u64 i1, .slice X2 n2 z2, .slice X3 n3 z3]) t := TV.alloc ⟨_, _, _, _, rfl, TM.keepS _ _ _ _ _ _ tm (Nat.le_refl _) (fun _ _ _ => rfl) fun x hx => ⟨by have := hx.1; simp at this; omega, by simp; have := hx.2; omega⟩⟩ _
        have hmy := rMay_any _ 9 t _ _ tv3
        rw [hmay] at hmy
        clear tm
        have d0 : (w2.alloc (.cells #[.int .i64 i0, .int .u64 i1, .slice X2 n2 z2, .slice X3 n3 z3] 26)).cell? ⟨w2.heap.size, 0, none⟩ = some (.int .i64 i0) := K7.cell 0
        have d1 : (w2.alloc (.cells #[.int .i64 i0, .int .u64 i1, .slice X2 n2 z2, .slice X3 n3 z3] 26)).cell? ⟨w2.heap.size, 1, none⟩ = some (.int .u64 i1) := K7.cell 1
        have d2 : (w2.alloc (.cells #[.int .i64 i0, .int .u64 i1, .slice X2 n2 z2, .slice X3 n3 z3] 26)).cell? ⟨w2.heap.size, 2, none⟩ = some (.slice X2 n2 z2) := K7.cell 2
        have d3 : (w2.alloc (.cells #[.int .i64 i0, .int .u64 i1, .slice X2 n2 z2, .slice X3 n3 z3] 26)).cell? ⟨w2.heap.size, 3, none⟩ = some (.slice X3 n3 z3) := K7.cell 3
        go_wp2_with fail
        refine hmy.mono ?_
        rintro e w4 ⟨rfl, b4⟩
        have K4 := K3.below b4 K3.lt
        have K8 := K7.below b4 K7.lt
        have B5 := B4.trans (b4.mono B4.size)
        have R4 := R3.below b4
        have tv4 := tv3.below' b4
        have s4 := b4.size
        clear hmy q1 q2 d0 d1 d2 d3 K3 K7 B4 R3 tv3 b4
        obtain ⟨vr, lr, KR, hbr, _, hlr⟩ := R4
        obtain rfl := hlr _ rfl
        obtain ⟨Ar, cr, rfl, _⟩ := hbr.form
        have r0 : w4.cell? ⟨w1.heap.size, 0, none⟩ = some (.slice Ar lr.length cr) := KR.cell 0
        have d0 : w4.cell? ⟨w2.heap.size, 0, none⟩ = some (.int .i64 i0) := K8.cell 0
        have d1 : w4.cell? ⟨w2.heap.size, 1, none⟩ = some (.int .u64 i1) := K8.cell 1
        have d2 : w4.cell? ⟨w2.heap.size, 2, none⟩ = some (.slice X2 n2 z2) := K8.cell 2
        have d3 : w4.cell? ⟨w2.heap.size, 3, none⟩ = some (.slice X3 n3 z3) := K8.cell 3
        have c0 : w4.cell? ⟨w.heap.size, 0, none⟩ = some (.int .i64 0) := K4.cell 0
        have c1' : w4.cell? ⟨w.heap.size, 1, none⟩ = some (.int .u64 0) := K4.cell 1
        have c2 : w4.cell? ⟨w.heap.size, 2, none⟩ = some (.slice none 0 0) := K4.cell 2
        have c3 : w4.cell? ⟨w.heap.size, 3, none⟩ = some (.slice none 0 0) := K4.cell 3
        have f0 := K4.free 0
        have f1 := K4.free 1
        have f2 := K4.free 2
        have f3 := K4.free 3
        go_wp2_with fail
        go_region
        have hfs := sets_size w4 w.heap.size (.int .i64 i0) (.int .u64 i1) (.slice X2 n2 z2) (.slice X3 n3 z3)
        have hwx : wrap64 ((400 : Int) - (lr.length : Int)) = (bs.length : Int) - lr.length := by
          simp only [Option.getD_some] at hle
          have := HBS.out
          rw [IntWalk.wrap64_in _ (by omega)]
          try omega
        have TVf0 := (tv4.keep (Nat.le_of_eq hfs) (fun x hx _ => sets_block _ _ _ _ _ _ _ (by have := hx.1; omega))).mono (S' := fun x => w.heap.size ≤ x ∧ x < ((((w4.setCell ⟨w.heap.size, 0, none⟩ (.int .i64 i0)).setCell ⟨w.heap.size, 1, none⟩ (.int .u64 i1)).setCell ⟨w.heap.size, 2, none⟩ (.slice X2 n2 z2)).setCell ⟨w.heap.size, 3, none⟩ (.slice X3 n3 z3)).heap.size) (fun x hx => ⟨by have := hx.1; omega, Nat.lt_of_lt_of_le hx.2 (Nat.le_trans s4 (Nat.le_of_eq hfs))⟩)
        have TVf : TV ((((w4.setCell ⟨w.heap.size, 0, none⟩ (.int .i64 i0)).setCell ⟨w.heap.size, 1, none⟩ (.int .u64 i1)).setCell ⟨w.heap.size, 2, none⟩ (.slice X2 n2 z2)).setCell ⟨w.heap.size, 3, none⟩ (.slice X3 n3 z3)).drew (fun x => w.heap.size ≤ x ∧ x < ((((w4.setCell ⟨w.heap.size, 0, none⟩ (.int .i64 i0)).setCell ⟨w.heap.size, 1, none⟩ (.int .u64 i1)).setCell ⟨w.heap.size, 2, none⟩ (.slice X2 n2 z2)).setCell ⟨w.heap.size, 3, none⟩ (.slice X3 n3 z3)).drew.heap.size) 9 (.agg #[.int .i64 i0, .int .u64 i1, .slice X2 n2 z2, .slice X3 n3 z3]) t := TVf0.keep (Nat.le_refl _) fun _ _ _ => rfl
        have Bf : Below w.heap.size w ((((w4.setCell ⟨w.heap.size, 0, none⟩ (.int .i64 i0)).setCell ⟨w.heap.size, 1, none⟩ (.int .u64 i1)).setCell ⟨w.heap.size, 2, none⟩ (.slice X2 n2 z2)).setCell ⟨w.heap.size, 3, none⟩ (.slice X3 n3 z3)).drew := Below_drawn (B5.trans (below_of_grown' (grown_four w4 w.heap.size (.int .i64 i0) (.int .u64 i1) (.slice X2 n2 z2) (.slice X3 n3 z3)) (Nat.le_refl _) B5.size)) 1
        have KF : KB ((((w4.setCell ⟨w.heap.size, 0, none⟩ (.int .i64 i0)).setCell ⟨w.heap.size, 1, none⟩ (.int .u64 i1)).setCell ⟨w.heap.size, 2, none⟩ (.slice X2 n2 z2)).setCell ⟨w.heap.size, 3, none⟩ (.slice X3 n3 z3)).drew w.heap.size 26 #[.int .i64 i0, .int .u64 i1, .slice X2 n2 z2, .slice X3 n3 z3] := put_four K4
        clear TVf0 hfs tv4 B5 K4 K8 KR s4
        go_wp2_with fail
        refine bodyPost_ret (results_cell_tmp2 (P := Tryd.prog) rfl _ _ w.heap.size _ _ (0, 0) _ rfl KF Tryd.underlying26 rfl (by kernel_rfl)) rfl
          ⟨_, by show Ending.returned (Value.tuple #[.agg #[.int .i64 i0, .int .u64 i1, .slice X2 n2 z2, .slice X3 n3 z3], .int .i64 (wrap64 ((400 : Int) - (lr.length : Int))), .int .i64 0]) = _; rw [hwx], TVf, Bf⟩
  · have hcp := copy_any S _ b _ hw (by omega)
    unfold getOf
    have hbs : b.length ≤ 400 := by omega
    rw [List.take_of_length_le hbs]
    have hrd := fun (w1 : World) (g : Nat) (R : RR w1 g (fun x => x < g) (some (b))) (hS : ∀ x, x < g → x < w1.heap.size) => rread_any (fun x => x < g) 8 g (some (b)) w1 R hS (by simp only [Option.getD_some]; omega) (by omega)
    have hle := readT_le 8 (some (b))
    unfold ReadPost at hrd
    simp only [show ((8 : Nat) : Int) = 8 from rfl] at hrd
    have HBS := Lib.hid hbs
    clear hbs
    generalize readT 8 (some b) = RT at *
    obtain ⟨st, t⟩ := RT
    dsimp only at hrd hle ⊢
    cases st with
    | none =>
      dsimp only
      go_enter Tryd.func16, Tryd.ntmps16
      go_wp2_with fail
      refine hcp.mono ?_
      rintro e w1 ⟨v1, rfl, how, b1⟩
      have K1 := K.below b1 K.lt
      have B1 := B.trans (b1.mono B.size)
      have hv := own_BS how
      obtain ⟨A1, c1, rfl, _⟩ := hv.form
      have hw1 : w.heap.size < w1.heap.size := K1.lt
      have R1 : RR (w1.alloc (.cells #[.slice A1 b.length c1, .bool false] 69)) w1.heap.size (fun x => x < w1.heap.size) (some b) :=
        ⟨_, b, KB.new w1 _ _, (hv.alloc _).mono fun x hx => hx.2, Nat.lt_irrefl _, fun l' e => by injection e⟩
      have hc := hrd _ _ R1 (fun x hx => by simp; omega)
      have K2 := K1.alloc (.cells #[.slice A1 b.length c1, .bool false] 69)
      have B2 := B1.alloc B1.size (.cells #[.slice A1 b.length c1, .bool false] 69)
      clear hcp hrd R1 K1 B1 hv how b1 K B
      go_wp2_with fail
      refine hc.mono ?_
      rintro e w2 ⟨tv, rfl, R2, T2, G2⟩
      obtain ⟨e0, e1, e2, e3, rfl, tm⟩ := T2
      obtain ⟨i0, i1, X2, n2, z2, X3, n3, z3, rfl, rfl, rfl, rfl⟩ := term_form tm
      have K3 := (K2.grown G2 (by simp; omega)).alloc (.cells #[.int .i64 i0, .int .u64 i1, .slice X2 n2 z2, .slice X3 n3 z3] 26)
      have B3 := (B2.grown G2 B2.size (fun k hk => by injection hk with hk; omega))
      have B4 := B3.alloc B3.size (.cells #[.int .i64 i0, .int .u64 i1, .slice X2 n2 z2, .slice X3 n3 z3] 26)
      have R3 := R2.alloc (.cells #[.int .i64 i0, .int .u64 i1, .slice X2 n2 z2, .slice X3 n3 z3] 26)
      have g2 := G2.size
      clear hc K2 B2 B3 R2 G2
      obtain ⟨q1, q2⟩ := R3.bad
      have c0 : (w2.alloc (.cells #[.int .i64 i0, .int .u64 i1, .slice X2 n2 z2, .slice X3 n3 z3] 26)).cell? ⟨w.heap.size, 0, none⟩ = some (.int .i64 0) := K3.cell 0
      have c1' : (w2.alloc (.cells #[.int .i64 i0, .int .u64 i1, .slice X2 n2 z2, .slice X3 n3 z3] 26)).cell? ⟨w.heap.size, 1, none⟩ = some (.int .u64 0) := K3.cell 1
      have c2 : (w2.alloc (.cells #[.int .i64 i0, .int .u64 i1, .slice X2 n2 z2, .slice X3 n3 z3] 26)).cell? ⟨w.heap.size, 2, none⟩ = some (.slice none 0 0) := K3.cell 2
      have c3 : (w2.alloc (.cells #[.int .i64 i0, .int .u64 i1, .slice X2 n2 z2, .slice X3 n3 z3] 26)).cell? ⟨w.heap.size, 3, none⟩ = some (.slice none 0 0) := K3.cell 3
      have f0 := K3.free 0
      have f1 := K3.free 1
      have f2 := K3.free 2
      have f3 := K3.free 3
      go_wp2_with fail
      refine bodyPost_ret (results_cell_tmp2 (P := Tryd.prog) rfl _ _ w.heap.size _ _ (0, 0) _ rfl (put_four K3) Tryd.underlying26 rfl (by kernel_rfl)) rfl ⟨_, rfl, zero_TV _ _ _, B4.trans (below_of_grown' (grown_four _ _ _ _ _ _) (Nat.le_refl _) B4.size)⟩
    | some l =>
      dsimp only
      cases hmay : mayT 9 t 8 with
      | false =>
        rw [if_neg (by simp)]
        go_enter Tryd.func16, Tryd.ntmps16
        go_wp2_with fail
        refine hcp.mono ?_
        rintro e w1 ⟨v1, rfl, how, b1⟩
        have K1 := K.below b1 K.lt
        have B1 := B.trans (b1.mono B.size)
        have hv := own_BS how
        obtain ⟨A1, c1, rfl, _⟩ := hv.form
        have hw1 : w.heap.size < w1.heap.size := K1.lt
        have R1 : RR (w1.alloc (.cells #[.slice A1 b.length c1, .bool false] 69)) w1.heap.size (fun x => x < w1.heap.size) (some b) :=
          ⟨_, b, KB.new w1 _ _, (hv.alloc _).mono fun x hx => hx.2, Nat.lt_irrefl _, fun l' e => by injection e⟩
        have hc := hrd _ _ R1 (fun x hx => by simp; omega)
        have K2 := K1.alloc (.cells #[.slice A1 b.length c1, .bool false] 69)
        have B2 := B1.alloc B1.size (.cells #[.slice A1 b.length c1, .bool false] 69)
        clear hcp hrd R1 K1 B1 hv how b1 K B
        go_wp2_with fail
        refine hc.mono ?_
        rintro e w2 ⟨tv, rfl, R2, T2, G2⟩
        obtain ⟨e0, e1, e2, e3, rfl, tm⟩ := T2
        obtain ⟨i0, i1, X2, n2, z2, X3, n3, z3, rfl, rfl, rfl, rfl⟩ := term_form tm
        have K3 := (K2.grown G2 (by simp; omega)).alloc (.cells #[.int .i64 i0, .int .u64 i1, .slice X2 n2 z2, .slice X3 n3 z3] 26)
        have B3 := (B2.grown G2 B2.size (fun k hk => by injection hk with hk; omega))
        have B4 := B3.alloc B3.size (.cells #[.int .i64 i0, .int .u64 i1, .slice X2 n2 z2, .slice X3 n3 z3] 26)
        have R3 := R2.alloc (.cells #[.int .i64 i0, .int .u64 i1, .slice X2 n2 z2, .slice X3 n3 z3] 26)
        have g2 := G2.size
        clear hc K2 B2 B3 R2 G2
        obtain ⟨q1, q2⟩ := R3.good
        have K7 := KB.new w2 26 #[.int .i64 i0, .int .u64 i1, .slice X2 n2 z2, .slice X3 n3 z3]
        have tv3 : TV (w2.alloc (.cells #[.int .i64 i0, .int .u64 i1, .slice X2 n2 z2, .slice X3 n3 z3] 26)) (fun x => w.heap.size < x ∧ x < (w2.alloc (.cells #[.int .i64 i0, .int .u64 i1, .slice X2 n2 z2, .slice X3 n3 z3] 26)).heap.size) 9 (.agg #[.int .i64 i0, .int .u64 i1, .slice X2 n2 z2, .slice X3 n3 z3]) t := TV.alloc ⟨_, _, _, _, rfl, TM.keepS _ _ _ _ _ _ tm (Nat.le_refl _) (fun _ _ _ => rfl) fun x hx => ⟨by have := hx.1; simp at this; omega, by simp; have := hx.2; omega⟩⟩ _
        have hmy := rMay_any _ 9 t _ _ tv3
        rw [hmay] at hmy
        clear tm
        have d0 : (w2.alloc (.cells #[.int .i64 i0, .int .u64 i1, .slice X2 n2 z2, .slice X3 n3 z3] 26)).cell? ⟨w2.heap.size, 0, none⟩ = some (.int .i64 i0) := K7.cell 0
        have d1 : (w2.alloc (.cells #[.int .i64 i0, .int .u64 i1, .slice X2 n2 z2, .slice X3 n3 z3] 26)).cell? ⟨w2.heap.size, 1, none⟩ = some (.int .u64 i1) := K7.cell 1
        have d2 : (w2.alloc (.cells #[.int .i64 i0, .int .u64 i1, .slice X2 n2 z2, .slice X3 n3 z3] 26)).cell? ⟨w2.heap.size, 2, none⟩ = some (.slice X2 n2 z2) := K7.cell 2
        have d3 : (w2.alloc (.cells #[.int .i64 i0, .int .u64 i1, .slice X2 n2 z2, .slice X3 n3 z3] 26)).cell? ⟨w2.heap.size, 3, none⟩ = some (.slice X3 n3 z3) := K7.cell 3
        go_wp2_with fail
        refine hmy.mono ?_
        rintro e w4 ⟨rfl, b4⟩
        have K4 := K3.below b4 K3.lt
        have K8 := K7.below b4 K7.lt
        have B5 := B4.trans (b4.mono B4.size)
        have R4 := R3.below b4
        have tv4 := tv3.below' b4
        have s4 := b4.size
        clear hmy q1 q2 d0 d1 d2 d3 K3 K7 B4 R3 tv3 b4
        have c0 : w4.cell? ⟨w.heap.size, 0, none⟩ = some (.int .i64 0) := K4.cell 0
        have c1' : w4.cell? ⟨w.heap.size, 1, none⟩ = some (.int .u64 0) := K4.cell 1
        have c2 : w4.cell? ⟨w.heap.size, 2, none⟩ = some (.slice none 0 0) := K4.cell 2
        have c3 : w4.cell? ⟨w.heap.size, 3, none⟩ = some (.slice none 0 0) := K4.cell 3
        have f0 := K4.free 0
        have f1 := K4.free 1
        have f2 := K4.free 2
        have f3 := K4.free 3
        go_wp2_with fail
        refine bodyPost_ret (results_cell_tmp2 (P := Tryd.prog) rfl _ _ w.heap.size _ _ (0, 0) _ rfl (put_four K4) Tryd.underlying26 rfl (by kernel_rfl)) rfl ⟨_, rfl, zero_TV _ _ _, B5.trans (below_of_grown' (grown_four _ _ _ _ _ _) (Nat.le_refl _) B5.size)⟩
      | true =>
        rw [if_pos rfl]
        go_enter Tryd.func16, Tryd.ntmps16
        go_wp2_with fail
        refine hcp.mono ?_
        rintro e w1 ⟨v1, rfl, how, b1⟩
        have K1 := K.below b1 K.lt
        have B1 := B.trans (b1.mono B.size)
        have hv := own_BS how
        obtain ⟨A1, c1, rfl, _⟩ := hv.form
        have hw1 : w.heap.size < w1.heap.size := K1.lt
        have R1 : RR (w1.alloc (.cells #[.slice A1 b.length c1, .bool false] 69)) w1.heap.size (fun x => x < w1.heap.size) (some b) :=
          ⟨_, b, KB.new w1 _ _, (hv.alloc _).mono fun x hx => hx.2, Nat.lt_irrefl _, fun l' e => by injection e⟩
        have hc := hrd _ _ R1 (fun x hx => by simp; omega)
        have K2 := K1.alloc (.cells #[.slice A1 b.length c1, .bool false] 69)
        have B2 := B1.alloc B1.size (.cells #[.slice A1 b.length c1, .bool false] 69)
        clear hcp hrd R1 K1 B1 hv how b1 K B
        go_wp2_with fail
        refine hc.mono ?_
        rintro e w2 ⟨tv, rfl, R2, T2, G2⟩
        obtain ⟨e0, e1, e2, e3, rfl, tm⟩ := T2
        obtain ⟨i0, i1, X2, n2, z2, X3, n3, z3, rfl, rfl, rfl, rfl⟩ := term_form tm
        have K3 := (K2.grown G2 (by simp; omega)).alloc (.cells #[.int .i64 i0, .int .u64 i1, .slice X2 n2 z2, .slice X3 n3 z3] 26)
        have B3 := (B2.grown G2 B2.size (fun k hk => by injection hk with hk; omega))
        have B4 := B3.alloc B3.size (.cells #[.int .i64 i0, .int .u64 i1, .slice X2 n2 z2, .slice X3 n3 z3] 26)
        have R3 := R2.alloc (.cells #[.int .i64 i0, .int .u64 i1, .slice X2 n2 z2, .slice X3 n3 z3] 26)
        have g2 := G2.size
        clear hc K2 B2 B3 R2 G2
        obtain ⟨q1, q2⟩ := R3.good
        have K7 := KB.new w2 26 #[.int .i64 i0, .int .u64 i1, .slice X2 n2 z2, .slice X3 n3 z3]
        have tv3 : TV (w2.alloc (.cells #[.int .i64 i0, .int .u64 i1, .slice X2 n2 z2, .slice X3 n3 z3] 26)) (fun x => w.heap.size < x ∧ x < (w2.alloc (.cells #[.int .i64 i0, .int .u64 i1, .slice X2 n2 z2, .slice X3 n3 z3] 26)).heap.size) 9 (.agg #[.int .i64 i0, .int .u64 i1, .slice X2 n2 z2, .slice X3 n3 z3]) t := TV.alloc ⟨_, _, _, _, rfl, TM.keepS _ _ _ _ _ _ tm (Nat.le_refl _) (fun _ _ _ => rfl) fun x hx => ⟨by have := hx.1; simp at this; omega, by simp; have := hx.2; omega⟩⟩ _
        have hmy := rMay_any _ 9 t _ _ tv3
        rw [hmay] at hmy
        clear tm
        have d0 : (w2.alloc (.cells #[.int .i64 i0, .int .u64 i1, .slice X2 n2 z2, .slice X3 n3 z3] 26)).cell? ⟨w2.heap.size, 0, none⟩ = some (.int .i64 i0) := K7.cell 0
        have d1 : (w2.alloc (.cells #[.int .i64 i0, .int .u64 i1, .slice X2 n2 z2, .slice X3 n3 z3] 26)).cell? ⟨w2.heap.size, 1, none⟩ = some (.int .u64 i1) := K7.cell 1
        have d2 : (w2.alloc (.cells #[.int .i64 i0, .int .u64 i1, .slice X2 n2 z2, .slice X3 n3 z3] 26)).cell? ⟨w2.heap.size, 2, none⟩ = some (.slice X2 n2 z2) := K7.cell 2
        have d3 : (w2.alloc (.cells #[.int .i64 i0, .int .u64 i1, .slice X2 n2 z2, .slice X3 n3 z3] 26)).cell? ⟨w2.heap.size, 3, none⟩ = some (.slice X3 n3 z3) := K7.cell 3
        go_wp2_with fail
        refine hmy.mono ?_
        rintro e w4 ⟨rfl, b4⟩
        have K4 := K3.below b4 K3.lt
        have K8 := K7.below b4 K7.lt
        have B5 := B4.trans (b4.mono B4.size)
        have R4 := R3.below b4
        have tv4 := tv3.below' b4
        have s4 := b4.size
        clear hmy q1 q2 d0 d1 d2 d3 K3 K7 B4 R3 tv3 b4
        obtain ⟨vr, lr, KR, hbr, _, hlr⟩ := R4
        obtain rfl := hlr _ rfl
        obtain ⟨Ar, cr, rfl, _⟩ := hbr.form
        have r0 : w4.cell? ⟨w1.heap.size, 0, none⟩ = some (.slice Ar lr.length cr) := KR.cell 0
        have d0 : w4.cell? ⟨w2.heap.size, 0, none⟩ = some (.int .i64 i0) := K8.cell 0
        have d1 : w4.cell? ⟨w2.heap.size, 1, none⟩ = some (.int .u64 i1) := K8.cell 1
        have d2 : w4.cell? ⟨w2.heap.size, 2, none⟩ = some (.slice X2 n2 z2) := K8.cell 2
        have d3 : w4.cell? ⟨w2.heap.size, 3, none⟩ = some (.slice X3 n3 z3) := K8.cell 3
        have c0 : w4.cell? ⟨w.heap.size, 0, none⟩ = some (.int .i64 0) := K4.cell 0
        have c1' : w4.cell? ⟨w.heap.size, 1, none⟩ = some (.int .u64 0) := K4.cell 1
        have c2 : w4.cell? ⟨w.heap.size, 2, none⟩ = some (.slice none 0 0) := K4.cell 2
        have c3 : w4.cell? ⟨w.heap.size, 3, none⟩ = some (.slice none 0 0) := K4.cell 3
        have f0 := K4.free 0
        have f1 := K4.free 1
        have f2 := K4.free 2
        have f3 := K4.free 3
        go_wp2_with fail
        go_region
        have hfs := sets_size w4 w.heap.size (.int .i64 i0) (.int .u64 i1) (.slice X2 n2 z2) (.slice X3 n3 z3)
        have hwx : wrap64 ((b.length : Int) - (lr.length : Int)) = (b.length : Int) - lr.length := by
          simp only [Option.getD_some] at hle
          skip
          rw [IntWalk.wrap64_in _ (by omega)]
          try omega
        have TVf0 := (tv4.keep (Nat.le_of_eq hfs) (fun x hx _ => sets_block _ _ _ _ _ _ _ (by have := hx.1; omega))).mono (S' := fun x => w.heap.size ≤ x ∧ x < ((((w4.setCell ⟨w.heap.size, 0, none⟩ (.int .i64 i0)).setCell ⟨w.heap.size, 1, none⟩ (.int .u64 i1)).setCell ⟨w.heap.size, 2, none⟩ (.slice X2 n2 z2)).setCell ⟨w.heap.size, 3, none⟩ (.slice X3 n3 z3)).heap.size) (fun x hx => ⟨by have := hx.1; omega, Nat.lt_of_lt_of_le hx.2 (Nat.le_trans s4 (Nat.le_of_eq hfs))⟩)
        have TVf : TV ((((w4.setCell ⟨w.heap.size, 0, none⟩ (.int .i64 i0)).setCell ⟨w.heap.size, 1, none⟩ (.int .u64 i1)).setCell ⟨w.heap.size, 2, none⟩ (.slice X2 n2 z2)).setCell ⟨w.heap.size, 3, none⟩ (.slice X3 n3 z3)).drew (fun x => w.heap.size ≤ x ∧ x < ((((w4.setCell ⟨w.heap.size, 0, none⟩ (.int .i64 i0)).setCell ⟨w.heap.size, 1, none⟩ (.int .u64 i1)).setCell ⟨w.heap.size, 2, none⟩ (.slice X2 n2 z2)).setCell ⟨w.heap.size, 3, none⟩ (.slice X3 n3 z3)).drew.heap.size) 9 (.agg #[.int .i64 i0, .int .u64 i1, .slice X2 n2 z2, .slice X3 n3 z3]) t := TVf0.keep (Nat.le_refl _) fun _ _ _ => rfl
        have Bf : Below w.heap.size w ((((w4.setCell ⟨w.heap.size, 0, none⟩ (.int .i64 i0)).setCell ⟨w.heap.size, 1, none⟩ (.int .u64 i1)).setCell ⟨w.heap.size, 2, none⟩ (.slice X2 n2 z2)).setCell ⟨w.heap.size, 3, none⟩ (.slice X3 n3 z3)).drew := Below_drawn (B5.trans (below_of_grown' (grown_four w4 w.heap.size (.int .i64 i0) (.int .u64 i1) (.slice X2 n2 z2) (.slice X3 n3 z3)) (Nat.le_refl _) B5.size)) 1
        have KF : KB ((((w4.setCell ⟨w.heap.size, 0, none⟩ (.int .i64 i0)).setCell ⟨w.heap.size, 1, none⟩ (.int .u64 i1)).setCell ⟨w.heap.size, 2, none⟩ (.slice X2 n2 z2)).setCell ⟨w.heap.size, 3, none⟩ (.slice X3 n3 z3)).drew w.heap.size 26 #[.int .i64 i0, .int .u64 i1, .slice X2 n2 z2, .slice X3 n3 z3] := put_four K4
        clear TVf0 hfs tv4 B5 K4 K8 KR s4
        go_wp2_with fail
        refine bodyPost_ret (results_cell_tmp2 (P := Tryd.prog) rfl _ _ w.heap.size _ _ (0, 0) _ rfl KF Tryd.underlying26 rfl (by kernel_rfl)) rfl
          ⟨_, by show Ending.returned (Value.tuple #[.agg #[.int .i64 i0, .int .u64 i1, .slice X2 n2 z2, .slice X3 n3 z3], .int .i64 (wrap64 ((b.length : Int) - (lr.length : Int))), .int .i64 0]) = _; rw [hwx], TVf, Bf⟩
end Go.Proofs.YtmepcdljobdigaaDoor
