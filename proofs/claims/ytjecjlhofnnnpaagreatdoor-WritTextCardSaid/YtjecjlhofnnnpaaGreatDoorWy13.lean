/-
  WtK: The document's several (layer 21) of Op 7, over the loaded program: its contract, of any contract of what it asks. No condition but the sizes that it names.
  WtH: The document's time (layer 21), over the loaded program: its contract. No condition but the sizes that it names.
  InR: Which names may be: the document's Name (layer 12), over the loaded program: its contract. No condition but sizes that each contract names.
-/
import Derived.Test.YtjecjlhofnnnpaaGreatDoorWy08
import Derived.Test.YtjecjlhofnnnpaaGreatDoorWy07
import Derived.Test.YtjecjlhofnnnpaaGreatDoorWy03
import Derived.Test.YtjecjlhofnnnpaaGreatDoorWy01
import Derived.Lib.Strings
set_option linter.unusedVariables false
set_option maxRecDepth 100000
namespace Go.Proofs.YtjecjlhofnnnpaaGreatDoor
section
open Go.RowKit
set_option maxHeartbeats 8000000 in
theorem wor_any (f d : Nat) (G : List Wv → Option (Sc f × List Wv)) (hG : Shrinks G) (S : Nat → Prop)
    (ih : ∀ (g : Nat) (st : Option (List Wv)) (w : World), SW w g S st → (∀ b, S b → b < w.heap.size) → (st.getD []).length ≤ 1000000 → Calls Tryz.prog 21 #[.pointer (some ⟨g, 0, none⟩), .int .i64 6, .int .i64 d] w (FactV w g S f (st.bind G)))
    (g : Nat) (st : Option (List Wv)) (w : World) (h : SW w g S st) (hS : ∀ b, S b → b < w.heap.size) (hL : (st.getD []).length ≤ 1000000) :
    Calls Tryz.prog 21 #[.pointer (some ⟨g, 0, none⟩), .int .i64 7, .int .i64 d] w (FactV w g S (f + 1) (st.bind ((fun l => (manyL G wOr l).map fun p => (oneV 7 p.1, p.2))))) := by
  have hg := h.lt
  obtain ⟨r, hr⟩ : ∃ r, r = st.bind (manyL G wOr) := ⟨_, rfl⟩
  have HS0 : Hid (SoV G wOr r st []) := by show SoV _ _ _ _ _; rw [hr]; exact SoV.start _ _ _
  have ho : st.bind ((fun l => (manyL G wOr l).map fun p => (oneV 7 p.1, p.2))) = r.map fun p => (oneV 7 p.1, p.2) := by rw [hr]; cases st <;> rfl
  rw [ho]
  clear ho hr
  have hne : ¬ w.heap.size = g := by omega
  have hSg : ¬ S w.heap.size := fun h => Nat.lt_irrefl _ (hS _ h)
  have K6 := (KB.new w 24 #[.int .i64 0, .string ⟨#[]⟩, .int .i64 0, .int .i64 0, .slice none 0 0]).alloc (.cells #[.int .i64 7, .string ⟨#[]⟩, .int .i64 0, .int .i64 0, .slice none 0 0] 24)
  have K7 := KB.new (w.alloc (.cells #[.int .i64 0, .string ⟨#[]⟩, .int .i64 0, .int .i64 0, .slice none 0 0] 24)) 24 #[.int .i64 7, .string ⟨#[]⟩, .int .i64 0, .int .i64 0, .slice none 0 0]
  rw [World.size_alloc] at K7
  have R := (h.alloc (.cells #[.int .i64 0, .string ⟨#[]⟩, .int .i64 0, .int .i64 0, .slice none 0 0] 24)).alloc (.cells #[.int .i64 7, .string ⟨#[]⟩, .int .i64 0, .int .i64 0, .slice none 0 0] 24)
  have GG := grown_of_below (((Below.refl w.heap.size w).alloc (Nat.le_refl _) (.cells #[.int .i64 0, .string ⟨#[]⟩, .int .i64 0, .int .i64 0, .slice none 0 0] 24)).alloc (by simp) (.cells #[.int .i64 7, .string ⟨#[]⟩, .int .i64 0, .int .i64 0, .slice none 0 0] 24)) (some g)
  clear h
  go_enter Tryz.func21, Tryz.ntmps21
  go_wp2_with fail
  go_loopw [34] (fun nv wr => ∃ (sj : Option (List Wv)) (qs : List QuZ) (ks : List (Sc f)) (kv : Value), Hid (SoV G wOr r sj ks) ∧ ks.length + (sj.getD []).length ≤ 1000000 ∧ SW wr g S sj ∧
      KB wr w.heap.size 24 #[.int .i64 0, .string ⟨#[]⟩, .int .i64 0, .int .i64 0, .slice none 0 0] ∧ KB wr (w.heap.size + 1) 24 #[.int .i64 7, .string ⟨#[]⟩, .int .i64 0, .int .i64 0, kv] ∧ wr.ownsRow (w.heap.size + 2) 24 5 kv qs.length (flatZ qs) ∧ QZ wr (SNZ (w.heap.size + 1) wr kv) f qs ks ∧ w.grownBy wr (some g)) (fun _ wr => leftN wr g)
  case atStart => exact ⟨st, [], [], .slice none 0 0, HS0, by simpa using hL, R, K6, K7, World.ownsRow_nil _ _ _ _, QZ.nil _ _ _, GG⟩
  case round =>
    clear R K6 K7 GG HS0 hL
    obtain ⟨sj, qs, ks, kv, hso, hlen, R, L4, L6, how, hq, G0⟩ := hrel
    obtain ⟨A3, c3v, rfl⟩ := zown_form how
    have hc := ih g sj wr.drew R (fun b hb => Nat.lt_of_lt_of_le (hS b hb) G0.size) (by omega)
    have hqk := hq.1
    have HF := fun x hx ha => hso.out.fin hG x hx ha
    have HGo := fun x hx ha => hso.out.go hG x hx ha
    have HN := fun l (e : sj = some l) => SW.leftN (w := wr) (g := g) (S := S) (l := l) (e ▸ R)
    have HLn : Hid (∀ l, sj = some l → ks.length + l.length ≤ 1000000) := fun l e => by rw [e] at hlen; exact hlen
    replace HF := Lib.hid HF
    replace HGo := Lib.hid HGo
    replace HN := Lib.hid HN
    clear hso
    generalize sj.bind G = o at *
    have L4' : KB wr.drew w.heap.size 24 #[.int .i64 0, .string ⟨#[]⟩, .int .i64 0, .int .i64 0, .slice none 0 0] := L4
    have L6' : KB wr.drew (w.heap.size + 1) 24 #[.int .i64 7, .string ⟨#[]⟩, .int .i64 0, .int .i64 0, .slice A3 qs.length c3v] := L6
    have how' : wr.drew.ownsRow (w.heap.size + 1 + 1) 24 5 (.slice A3 qs.length c3v) qs.length (flatZ qs) := how
    have hq' : QZ wr.drew (SNZ (w.heap.size + 1) wr.drew (.slice A3 qs.length c3v)) f qs ks := hq.keepL (Nat.le_refl _) (fun _ _ _ => rfl) fun _ h _ => h
    have HLq : Hid (qs.length ≤ 1000000000) := by show _ ≤ _; omega
    have HKN := Lib.hid hqk
    have hg6 : g < w.heap.size + 1 := by omega
    have G' : w.grownBy wr.drew (some g) := ⟨G0.os, G0.tape, G0.output, G0.size, G0.block⟩
    have c3 : wr.cell? ⟨w.heap.size + 1, 4, none⟩ = some (.slice A3 qs.length c3v) := L6.cell 4
    have f3 := L6.free 4
    clear R L4 L6 how hq G0 hlen hqk
    go_wp2_with fail
    go_region_law
      (first
        | (go_simp; go_at_call 21; refine hc.mono ?_; rintro e w5 ⟨v5, x5, rfl, R5, tv5, hx5, G5⟩; replace hx5 := Lib.hid hx5; obtain ⟨e0, e1, e2, e3, e4, rfl, tm5⟩ := tv5; have L6a := L6'.grown G5 (by simp; omega); have how5 := zown_grown how' G5 (by omega); have how6 := own_past ((Below.refl _ _).alloc (Nat.le_refl _) (.cells #[e0, e1, e2, e3, e4] 24)) how5; have hone := tm5.cells1; have hsz : w.heap.size + 1 + 1 ≤ (w5.alloc (.cells #[e0, e1, e2, e3, e4] 24)).heap.size := (by have := L6a.lt; simp; omega); clear c3 f3 how5; have ca : (w5.alloc (.cells #[e0, e1, e2, e3, e4] 24)).cell? ⟨w.heap.size + 1, 4, none⟩ = some (.slice A3 qs.length c3v) := (L6a.alloc (.cells #[e0, e1, e2, e3, e4] 24)).cell 4; have c3 : w5.cell? ⟨w.heap.size + 1, 4, none⟩ = some (.slice A3 qs.length c3v) := L6a.cell 4; have f3 := L6a.free 4)
        | (refine step_growZ rfl _ _ rfl (w.heap.size + 1 + 1) _ qs rfl how6 _ 1 (e0, e1, e2, e3, e4) rfl (At_newZ w5 e0 e1 e2 e3 e4 _) hone HLq.out hsz ?_; intro v7 w7 how7 hg7 h7; obtain ⟨qq, hqq⟩ : ∃ qq, qq = qs ++ [(e0, e1, e2, e3, e4)] := ⟨_, rfl⟩; rw [← hqq] at how7; have HQQ := Lib.hid hqq; clear hqq; have L6b := (L6a.alloc (.cells #[e0, e1, e2, e3, e4] 24)).grown hg7 (own_ne how6 (Nat.lt_succ_self (w.heap.size + 1))); obtain ⟨A7, c7, rfl⟩ := zown_form how7; clear c3 f3; have c3 : w7.cell? ⟨w.heap.size + 1, 4, none⟩ = some (.slice A3 qs.length c3v) := L6b.cell 4; have f3 := L6b.free 4))
    all_goals
      have h6 : w.heap.size + 1 < wr.drew.heap.size := L6'.lt
      have L6f := L6b.put 4 (.slice A7 qq.length c7)
      have L4f := zKB_far (h := w.heap.size + 1) (i := 4) (v := (.slice A7 qq.length c7)) (((L4'.grown G5 (by simp; omega)).alloc (.cells #[e0, e1, e2, e3, e4] 24)).grown hg7 (own_ne how6 (by omega))) (by omega)
      have Rf := SW.far (h := w.heap.size + 1) (i := 4) (u := (.slice A7 qq.length c7)) (SW.grownX (R5.alloc (.cells #[e0, e1, e2, e3, e4] 24)) hg7 (fun x hx => ⟨by have := zown_ge how6 x hx; omega, fun hSx => by have := zown_ge how6 x hx; have := hS x hSx; omega⟩)) (by omega) (fun hSx => by have := hS _ hSx; omega)
      have howf := zown_grown how7 (grown_set w7 (w.heap.size + 1) 4 (.slice A7 qq.length c7)) (Nat.lt_succ_self _)
      have hsz8 : w7.heap.size = (w7.setCell ⟨w.heap.size + 1, 4, none⟩ (.slice A7 qq.length c7)).heap.size := by simp [World.setCell]
      have hbl8 : ∀ x, x ≠ w.heap.size + 1 → (w7.setCell ⟨w.heap.size + 1, 4, none⟩ (.slice A7 qq.length c7)).heap[x]? = w7.heap[x]? := fun x hx => Below.heap_setCell w7 ⟨w.heap.size + 1, 4, none⟩ (.slice A7 qq.length c7) x hx
      have hqf := QZ.more hq' tm5 how' G5 hg6 h6 hg7 h7 hsz8 hbl8
      rw [← HQQ.out] at hqf
      have Gf := zgrown_new (zgrown_newX (grown_trans (grown_trans G' G5) (grown_of_below ((Below.refl w5.heap.size w5).alloc (Nat.le_refl _) (.cells #[e0, e1, e2, e3, e4] 24)) (some g))) hg7 (fun x hx => by have := zown_ge how6 x hx; omega)) (grown_set w7 (w.heap.size + 1) 4 (.slice A7 qq.length c7)) (by omega)
      have hkq : Hid (qq.length = (ks ++ [x5]).length) := by show _ = _; rw [HQQ.out, List.length_append, List.length_append, HKN.out]; rfl
      clear hq' how' how6 how7 hsz8 hbl8 tm5 hg7 h7 hone hsz ca c3 f3 L6a L6b L4' L6' R5 G5 G' hc ih h6 HQQ
      go_wp2_with fail
      generalize w7.setCell ⟨w.heap.size + 1, 4, none⟩ (.slice A7 qq.length c7) = W at *
      have ha := wahead_any g S (o.map (·.2)) wOr W Rf
      cases hb : aheadW (o.map (·.2)) wOr with
      | true =>
        rw [hb] at ha
        obtain ⟨l, rest, es, eo, hlt, hso2⟩ := HGo.out x5 hx5.out hb
        rw [eo] at Rf
        have htk := wtake_any g S _ W Rf
        have hnl := HN.out l es
        have hll := HLn.out l es
        have hso2 := Lib.hid hso2
        have hlf : Hid ((ks ++ [x5]).length + rest.length ≤ 1000000) := by show _ ≤ _; rw [List.length_append]; simp; omega
        have hms : Hid (∀ W', SW W' g S (some rest) → leftN W' g < leftN wr g) := fun W' hW => by rw [hW.leftN, hnl]; omega
        clear HF HGo HN HLn hb hnl hll eo es Rf
        refine ha.mono ?_
        rintro e w9 ⟨rfl, rfl⟩
        clear ha
        go_wp2_with fail
        refine htk.mono ?_
        rintro e wt ⟨rfl, Rt, gt⟩
        have L4g := L4f.grown gt (by simp; omega)
        have L6g := L6f.grown gt (by simp; omega)
        have hwg := zown_grown howf gt (by omega)
        have hqg : QZ wt (SNZ (w.heap.size + 1) wt (.slice A7 qq.length c7)) f qq (ks ++ [x5]) := hqf.keepL gt.size (fun b hb hl => gt.block b hl (by have := hb.1; simp; omega)) fun b hb hl => ⟨hb.1, hb.2.1, Nat.lt_of_lt_of_le hb.2.2 gt.size⟩
        have Gg := grown_trans Gf gt
        clear htk gt L4f L6f howf hqf Gf
        go_wp2_with fail
        go_roundw
        case rel => exact ⟨some rest, qq, ks ++ [x5], _, hso2, hlf.out, Rt, L4g, L6g, hwg, hqg, Gg⟩
        case measure => exact hms.out _ Rt
      | false =>
        rw [hb] at ha
        obtain ⟨e1, e2⟩ := HF.out x5 hx5.out hb
        have hst : (r.map fun p => ((oneV 7 p.1 : Sc (f + 1)), p.2)).map (·.2) = o.map (·.2) := by rw [← e1]; cases r <;> rfl
        have hfx : Hid (∀ p, (r.map fun p => ((oneV 7 p.1 : Sc (f + 1)), p.2)) = some p → (oneV 7 (ks ++ [x5]) : Sc (f + 1)) = p.1) := fun p e => by
          cases hr : r with
          | none => rw [hr] at e; cases e
          | some q =>
            rw [hr] at e
            injection e with e
            rw [← e]
            exact congrArg (fun l => (oneV 7 l : Sc (f + 1))) (e2 q hr)
        rw [← hst] at Rf
        clear HF HGo HN HLn hb e1 e2 hst
        refine ha.mono ?_
        rintro e w9 ⟨rfl, rfl⟩
        clear ha
        have c40 : w9.cell? ⟨w.heap.size, 0, none⟩ = some (.int .i64 0) := L4f.cell 0
        have c41 : w9.cell? ⟨w.heap.size, 1, none⟩ = some (.string ⟨#[]⟩) := L4f.cell 1
        have c42 : w9.cell? ⟨w.heap.size, 2, none⟩ = some (.int .i64 0) := L4f.cell 2
        have c43 : w9.cell? ⟨w.heap.size, 3, none⟩ = some (.int .i64 0) := L4f.cell 3
        have c44 : w9.cell? ⟨w.heap.size, 4, none⟩ = some (.slice none 0 0) := L4f.cell 4
        have f40 := L4f.free 0
        have f41 := L4f.free 1
        have f42 := L4f.free 2
        have f43 := L4f.free 3
        have f44 := L4f.free 4
        have c60 : w9.cell? ⟨w.heap.size + 1, 0, none⟩ = some (.int .i64 7) := L6f.cell 0
        have c61 : w9.cell? ⟨w.heap.size + 1, 1, none⟩ = some (.string ⟨#[]⟩) := L6f.cell 1
        have c62 : w9.cell? ⟨w.heap.size + 1, 2, none⟩ = some (.int .i64 0) := L6f.cell 2
        have c63 : w9.cell? ⟨w.heap.size + 1, 3, none⟩ = some (.int .i64 0) := L6f.cell 3
        have c64 : w9.cell? ⟨w.heap.size + 1, 4, none⟩ = some (.slice A7 qq.length c7) := L6f.cell 4
        by_cases hk1 : (ks ++ [x5]).length = 1
        · have hq1 : qq.length = 1 := by rw [hkq.out]; exact hk1
          obtain ⟨b, oo, e0, e1, e2, e3, e4, rfl, k0, k1, k2, k3, k4, kx⟩ := kid_alone (op := 7) howf hqf hk1
          rw [hq1] at c64
          have hcc : 1 ≤ c7 := by
            have hz := ZS_of_own (S := fun b => w.heap.size + 1 < b) howf (hqf.mono fun b h => h.1) fun b hb _ => by omega
            obtain ⟨A', c', e, hl, _⟩ := hz.form
            injection e with _ _ e3
            omega
          obtain ⟨j0, l1, j2, j3, X4, n4, z4, rfl, rfl, rfl, rfl, rfl⟩ := kx.form
          replace kx := Lib.hid kx
          unfold strV at k1 kx
          clear howf hqf hkq hk1
          go_wp2_with fail
          exact bodyPost_ret (results_cell_row (P := Tryz.prog) rfl _ _ w.heap.size _ _ (0, 0) _ rfl (zput_five L4f) Tryz.underlying24 rfl (by kernel_rfl)) rfl
            (fact_five (oneV 7 (ks ++ [x5]) : Sc (f + 1)) Rf hne hSg Gf kx.out hfx.out)
        · have hq1 : ¬ (qq.length : Int) = 1 := by have := hkq.out; omega
          have hq2 : ((qq.length : Int) == 1) = false := beq_eq_false_iff_ne.2 hq1
          have kx := Lib.hid (kids_ZX (op := 7) (by unfold I64; omega) howf hqf hk1)
          clear howf hqf hkq hk1
          go_wp2_with fail
          exact bodyPost_ret (results_cell_row (P := Tryz.prog) rfl _ _ w.heap.size _ _ (0, 0) _ rfl (zput_five L4f) Tryz.underlying24 rfl (by kernel_rfl)) rfl
            (fact_five (oneV 7 (ks ++ [x5]) : Sc (f + 1)) Rf hne hSg Gf kx.out hfx.out)
end
section
open Go.RowKit
theorem time_takes (f : Nat) {w : World} {g : Nat} {S : Nat → Prop} {st : Option (List Wv)} (h : SW w g S st) : ∃ n st1, takeW st = (n, st1) ∧ n.length ≤ 1000 ∧ (timeW n = none → st.bind (timeQ f) = none) ∧
    ∀ a b, timeW n = some (a, b) → ∃ rest, st1 = some rest ∧ st.bind (timeQ f) = some (leafS 5 [] (a : Int) (b : Int), rest) := by
  rcases st with _ | _ | ⟨n, l⟩
  · exact ⟨[], none, rfl, by simp, fun _ => rfl, fun a b h => by cases h⟩
  · exact ⟨[], none, rfl, by simp, fun _ => rfl, fun a b h => by cases h⟩
  · refine ⟨n, some l, rfl, h.word, fun e => ?_, fun a b e => ⟨l, rfl, ?_⟩⟩
    · show timeQ f (n :: l) = none
      unfold timeQ; dsimp only; rw [e]; rfl
    · show timeQ f (n :: l) = _
      unfold timeQ; dsimp only; rw [e]; rfl
set_option maxHeartbeats 8000000 in
theorem wtime_any (f g : Nat) (S : Nat → Prop) (st : Option (List Wv)) (w : World) (h : SW w g S st) (hS : ∀ b, S b → b < w.heap.size) :
    Calls Tryz.prog 50 #[.pointer (some ⟨g, 0, none⟩)] w (FactV w g S (f + 1) (st.bind (timeQ f))) := by
  have hg := h.lt
  have K := KB.new w 24 #[.int .i64 0, .string ⟨#[]⟩, .int .i64 0, .int .i64 0, .slice none 0 0]
  have G := grown_of_below ((Below.refl w.heap.size w).alloc (Nat.le_refl _) (.cells #[.int .i64 0, .string ⟨#[]⟩, .int .i64 0, .int .i64 0, .slice none 0 0] 24)) (some g)
  have ht := wtake_any g S st _ (h.alloc (.cells #[.int .i64 0, .string ⟨#[]⟩, .int .i64 0, .int .i64 0, .slice none 0 0] 24))
  obtain ⟨n, st1, e1, hl, HB, HG⟩ := time_takes f h
  rw [e1] at ht
  dsimp only at ht
  generalize st.bind (timeQ f) = o at *
  replace HB := Lib.hid HB
  replace HG := Lib.hid HG
  have hne : ¬ w.heap.size = g := by omega
  have hne2 : ¬ g = w.heap.size := by omega
  have hSg : ¬ S w.heap.size := fun h => Nat.lt_irrefl _ (hS _ h)
  have hs : ((⟨n.toArray⟩ : ByteArray).size : Int) = (n.length : Int) := rfl
  have HAT := Lib.hid (txt_at n)
  have HTO := Lib.hid (txt_to n)
  have HFR := Lib.hid (txt_from n)
  unfold strV at ht
  obtain ⟨s, hse⟩ : ∃ s : ByteArray, s = ⟨n.toArray⟩ := ⟨_, rfl⟩
  rw [← hse] at hs HAT HTO HFR ht
  clear hse e1 h hS
  go_enter Tryz.func50, Tryz.ntmps50
  go_wp2_with fail
  refine ht.mono ?_
  rintro e w1 ⟨rfl, R1, g1⟩
  have K1 := K.grown g1 (by simp; omega)
  have G1 := grown_trans G g1
  clear ht K G g1
  go_wp2_with fail
  go_loopw [4, 5] (fun av iv wr => ∃ (k : Nat) (a : Int), k ≤ n.length ∧ av = .int .i64 a ∧ iv = .int .i64 k ∧ Hid (CI n k a) ∧ SW wr g S st1 ∧ KB wr w.heap.size 24 #[.int .i64 0, .string ⟨#[]⟩, .int .i64 0, .int .i64 0, .slice none 0 0] ∧ w.grownBy wr (some g)) (fun _ iv _ => n.length - (intOf iv).toNat)
  case atStart => exact ⟨0, -1, by omega, rfl, rfl, CI.start n, R1, K1, G1⟩
  case round =>
    clear R1 K1 G1
    obtain ⟨k, a, hk, rfl, rfl, hc, R, K, G⟩ := hrel
    have hcase : a = -1 ∨ ∃ j : Nat, a = j ∧ j < n.length ∧ cutW n = some (n.take j, n.drop (j + 1)) := by
      rcases hc.out with h | h
      · exact .inl h.1
      · exact .inr h
    rcases hcase with rfl | ⟨j, rfl, hj, hcut⟩
    · by_cases hlt : k < n.length
      · obtain ⟨y, hy⟩ : ∃ y, n[k]? = some y := ⟨_, List.getElem?_eq_getElem hlt⟩
        have hiy := HAT.out k y hy
        have hyl := y.toNat_lt
        clear HTO HFR HB HG
        by_cases e45 : y.toNat = 45
        · have hc2 : Hid (CI n (k + 1) k) := hc.out.found hy e45
          rw [e45] at hiy
          clear hc HAT hy hyl
          go_wp2_with fail
          go_roundw
          case rel => exact ⟨k + 1, k, by omega, rfl, by go_num, hc2, R, K, G⟩
          case measure => simp [intOf]; omega
        · have hc2 : Hid (CI n (k + 1) (-1)) := hc.out.next hy e45
          generalize y.toNat = d at hiy hyl e45
          clear hc HAT hy
          go_wp2_with fail
          go_roundw
          case rel => exact ⟨k + 1, -1, by omega, rfl, by go_num, hc2, R, K, G⟩
          case measure => simp [intOf]; omega
      · obtain rfl : k = n.length := by omega
        have ho : o = none := HB.out hc.out.none_
        subst ho
        obtain ⟨⟨A0, n0, z0, sc0⟩, sc1, sf0, sf1⟩ := R.cells
        have c40 : wr.cell? ⟨w.heap.size, 0, none⟩ = some (.int .i64 0) := K.cell 0
        have c41 : wr.cell? ⟨w.heap.size, 1, none⟩ = some (.string ⟨#[]⟩) := K.cell 1
        have c42 : wr.cell? ⟨w.heap.size, 2, none⟩ = some (.int .i64 0) := K.cell 2
        have c43 : wr.cell? ⟨w.heap.size, 3, none⟩ = some (.int .i64 0) := K.cell 3
        have c44 : wr.cell? ⟨w.heap.size, 4, none⟩ = some (.slice none 0 0) := K.cell 4
        have f40 := K.free 0
        have f41 := K.free 1
        have f42 := K.free 2
        have f43 := K.free 3
        have f44 := K.free 4
        have R2 := R.failed
        have KF := zKB_far (h := g) (i := 1) (v := .bool true) K hne2
        have G2 := grown_trans G (grown_set wr g 1 (.bool true))
        clear hc HAT HTO HFR HB HG R K G
        go_wp2_with fail
        exact bodyPost_ret (results_cell_row (P := Tryz.prog) rfl _ _ w.heap.size _ _ (0, 0) _ rfl (zput_five KF) Tryz.underlying24 rfl (by kernel_rfl)) rfl
          (fact_five (leafS 0 [] 0 0 : Sc (f + 1)) R2 hne hSg G2 (leaf_ZX _ _ f 0 0 0 [] (by unfold I64; omega) (by simp) (by unfold I64; omega) (by unfold I64; omega)) (fun p e => by cases e))
    · have h1 := HTO.out j (by omega)
      have h2 : ∀ W : World, (Instr.slice 9 (.string s) (some (.int .i64 ((j : Int) + 1))) none none).run Tryz.prog W = .ok (.string ⟨(n.drop (j + 1)).toArray⟩) W := fun W => by
        have := HFR.out (j + 1) (by omega) W
        rwa [show (((j + 1 : Nat) : Int)) = (j : Int) + 1 from by omega] at this
      have n1 : ∀ W, Calls Tryz.prog 64 #[strV (n.take j), .int .i64 13] W fun e w' => e = .returned (.int .i64 (numIT (numT (n.take j)))) ∧ w' = W := fun W => (wnumber_any (n.take j) (by unfold maxLen; rw [List.length_take]; omega) W).mono fun _ _ h => ⟨h.1, h.2.symm⟩
      have n2 : ∀ W, Calls Tryz.prog 64 #[strV (n.drop (j + 1)), .int .i64 13] W fun e w' => e = .returned (.int .i64 (numIT (numT (n.drop (j + 1))))) ∧ w' = W := fun W => (wnumber_any (n.drop (j + 1)) (by unfold maxLen; rw [List.length_drop]; omega) W).mono fun _ _ h => ⟨h.1, h.2.symm⟩
      have b1 := numIT_lt (n.take j)
      have b2 := numIT_lt (n.drop (j + 1))
      have T1 := Lib.hid (time_bad hcut)
      have T2 := Lib.hid (time_good hcut)
      have hj2 : (j : Int) < 1000 := by omega
      have hj3 : IntKind.i64.wrap ((j : Int) + 1) = (j : Int) + 1 := by rw [IntKind.wrap_i64]; omega
      generalize numIT (numT (n.take j)) = A at *
      generalize numIT (numT (n.drop (j + 1))) = B at *
      unfold strV at n1 n2
      generalize (⟨(n.take j).toArray⟩ : ByteArray) = t1 at *
      generalize (⟨(n.drop (j + 1)).toArray⟩ : ByteArray) = t2 at *
      have nn : Hid (∀ (W : World) (t : ByteArray) (r : Int), (t = t1 ∧ r = A) ∨ (t = t2 ∧ r = B) → Calls Tryz.prog 64 #[.string t, .int .i64 13] W fun e w' => e = .returned (.int .i64 r) ∧ w' = W) := fun W t r h => by
        rcases h with ⟨rfl, rfl⟩ | ⟨rfl, rfl⟩
        · exact n1 W
        · exact n2 W
      clear n1 n2
      replace R := Lib.hid R
      clear hc HAT HTO HFR hcut
      go_wp2_with fail
      all_goals
        go_quiet (first | (go_at_call 64; exact Calls.quiet_of_same (nn.out _ _ _ (by first | exact .inl ⟨rfl, rfl⟩ | exact .inr ⟨rfl, rfl⟩))) | fail)
        replace R : SW (wr.drewN nq) g S st1 := R.out
        replace K : KB (wr.drewN nq) w.heap.size 24 #[.int .i64 0, .string ⟨#[]⟩, .int .i64 0, .int .i64 0, .slice none 0 0] := K
        replace G : w.grownBy (wr.drewN nq) (some g) := grown_trans G ⟨rfl, rfl, rfl, Nat.le_refl _, fun _ _ _ => rfl⟩
        generalize wr.drewN nq = w2 at *
        obtain ⟨⟨A0, n0, z0, sc0⟩, sc1, sf0, sf1⟩ := R.cells
        have c40 : w2.cell? ⟨w.heap.size, 0, none⟩ = some (.int .i64 0) := K.cell 0
        have c41 : w2.cell? ⟨w.heap.size, 1, none⟩ = some (.string ⟨#[]⟩) := K.cell 1
        have c42 : w2.cell? ⟨w.heap.size, 2, none⟩ = some (.int .i64 0) := K.cell 2
        have c43 : w2.cell? ⟨w.heap.size, 3, none⟩ = some (.int .i64 0) := K.cell 3
        have c44 : w2.cell? ⟨w.heap.size, 4, none⟩ = some (.slice none 0 0) := K.cell 4
        have f40 := K.free 0
        have f41 := K.free 1
        have f42 := K.free 2
        have f43 := K.free 3
        have f44 := K.free 4
        clear nn h1 h2
        by_cases hbad : A < 0 ∨ B < A ∨ 1099511627776 < B
        · have ho : o = none := HB.out (T1.out hbad)
          subst ho
          have R2 := R.failed
          have KF := zKB_far (h := g) (i := 1) (v := .bool true) K hne2
          have G2 := grown_trans G (grown_set w2 g 1 (.bool true))
          clear HB HG R K G T1 T2
          have hb3 : A < 0 ∨ (¬ A < 0 ∧ B < A) ∨ (¬ A < 0 ∧ ¬ B < A ∧ 1099511627776 < B) := by omega
          rcases hb3 with q1 | ⟨q1, q2⟩ | ⟨q1, q2, q3⟩
          all_goals
            go_wp2_with fail
            exact bodyPost_ret (results_cell_row (P := Tryz.prog) rfl _ _ w.heap.size _ _ (0, 0) _ rfl (zput_five KF) Tryz.underlying24 rfl (by kernel_rfl)) rfl
              (fact_five (leafS 5 [] A B : Sc (f + 1)) R2 hne hSg G2 (leaf_ZX _ _ f 5 A B [] (by unfold I64; omega) (by simp) (by unfold I64; omega) (by unfold I64; omega)) (fun p e => by cases e))
        · obtain ⟨a, b, ht, ea, eb⟩ := T2.out hbad
          obtain ⟨rest, es, ho⟩ := HG.out a b ht
          subst es ho
          have q1 : ¬ A < 0 := by omega
          have q2 : ¬ B < A := by omega
          have q3 : ¬ 1099511627776 < B := by omega
          have HX : Hid (∀ p, some ((leafS 5 [] (a : Int) (b : Int) : Sc (f + 1)), rest) = some p → (leafS 5 [] A B : Sc (f + 1)) = p.1) := fun p e => by injection e with e; rw [← e, ea, eb]
          clear HB HG T1 T2 ht ea eb hbad
          go_wp2_with fail
          exact bodyPost_ret (results_cell_row (P := Tryz.prog) rfl _ _ w.heap.size _ _ (0, 0) _ rfl (zput_five K) Tryz.underlying24 rfl (by kernel_rfl)) rfl
            (fact_five (leafS 5 [] A B : Sc (f + 1)) R hne hSg G (leaf_ZX _ _ f 5 A B [] (by unfold I64; omega) (by simp) (by unfold I64; omega) (by unfold I64; omega)) HX.out)
end
section
open Go.RowKit
theorem str_at (l : List UInt8) (k : Nat) (x : UInt8) (hx : l[k]? = some x) : ∀ W : World, (Instr.index 9 (.string ⟨l.toArray⟩) (.int .i64 (k : Int))).run Tryz.prog W = .ok (.int .u8 (x.toNat : Int)) W := fun W => by
  have hk := (List.getElem?_eq_some_iff.1 hx).1
  have hs : (⟨l.toArray⟩ : ByteArray).size = l.length := rfl
  rw [run_index_string W 9 ⟨l.toArray⟩ .i64 (k : Int) Tryz.underlying9, dif_pos ⟨by omega, by rw [hs]; omega⟩]
  simp only [Int.toNat_natCast]
  have e : (⟨l.toArray⟩ : ByteArray)[k]'(by rw [hs]; exact hk) = x := by
    have := (List.getElem?_eq_some_iff.1 hx).2
    exact this
  rw [e]
theorem all_step {l : List UInt8} {k : Nat} {x : UInt8} (hx : l[k]? = some x) (h : ((l.take k).all fun b => okc b.toNat) = true) (ho : okc x.toNat = true) : ((l.take (k + 1)).all fun b => okc b.toNat) = true := by
  rw [List.take_add_one, hx, List.all_append, h]
  simp [ho]
theorem all_stop {l : List UInt8} {k : Nat} {x : UInt8} (hx : l[k]? = some x) (ho : okc x.toNat = false) : nameS l = false := by
  unfold nameS
  have : (l.all fun b => okc b.toNat) = false := by
    cases hq : l.all fun b => okc b.toNat with
    | false => rfl
    | true =>
      have := List.all_eq_true.1 hq x (List.mem_of_getElem? hx)
      rw [ho] at this
      cases this
  rw [this]; simp
set_option maxHeartbeats 2000000 in
theorem rname_any (l : List UInt8) (hl : l.length ≤ maxLen) (w : World) :
    Calls Tryz.prog 42 #[strV l] w fun e w' => e = .returned (.bool (nameS l)) ∧ w = w' := by
  have hs : ((⟨l.toArray⟩ : ByteArray).size : Int) = (l.length : Int) := rfl
  have hat := str_at l
  have HAT := Lib.hid hat
  have hml : l.length ≤ 9223372036854775807 := by unfold maxLen at hl; omega
  obtain ⟨r, hr⟩ : ∃ r, r = nameS l := ⟨_, rfl⟩
  rw [← hr]
  have HR := Lib.hid hr
  unfold strV
  clear hat hr hl
  have HAT2 : Hid (∀ s : ByteArray, s = ⟨l.toArray⟩ → ∀ (k : Nat) (x : UInt8), l[k]? = some x → ∀ W : World, (Instr.index 9 (.string s) (.int .i64 (k : Int))).run Tryz.prog W = .ok (.int .u8 (x.toNat : Int)) W) := fun s e => by subst e; exact HAT.out
  obtain ⟨s, hse⟩ : ∃ s : ByteArray, s = ⟨l.toArray⟩ := ⟨_, rfl⟩
  rw [← hse] at hs ⊢
  replace HAT := Lib.hid (HAT2.out s hse)
  clear HAT2 hse
  go_enter Tryz.func42, Tryz.ntmps42
  go_wp2
  go_loop [3] (fun i => ∃ k : Nat, k ≤ l.length ∧ i = .int .i64 k ∧ Hid (((l.take k).all fun b => okc b.toNat) = true)) (fun i => l.length - (intOf i).toNat)
  case atStart => exact ⟨0, by omega, rfl, rfl⟩
  case round =>
    obtain ⟨k, hk, rfl, ha⟩ := hrel
    by_cases hlt : k < l.length
    · obtain ⟨x, hx⟩ : ∃ x, l[k]? = some x := ⟨_, List.getElem?_eq_getElem hlt⟩
      have hix := HAT.out k x hx
      have hxl := x.toNat_lt
      have HS := Lib.hid (all_stop (l := l) (k := k) (x := x) hx)
      have HST := Lib.hid (fun ho => all_step (l := l) (k := k) (x := x) hx ha.out ho)
      have HO : Hid (okc x.toNat = okc x.toNat) := rfl
      generalize hc : x.toNat = c at hix HS HST HO
      have hc256 : c < 256 := by omega
      clear hc hx hxl HAT ha
      by_cases q0 : c ≤ 44
      · have ho : okc c = false := by unfold okc; simp; omega
        have E0 : decide ((c : Int) < 97) = true := decide_eq_true (by omega)
        have E1 : decide ((122 : Int) < (c : Int)) = false := decide_eq_false (by omega)
        have E2 : decide ((c : Int) < 48) = true := decide_eq_true (by omega)
        have E3 : decide ((57 : Int) < (c : Int)) = false := decide_eq_false (by omega)
        have N0 : ((c : Int) != 46) = true := by simp; omega
        have N1 : ((c : Int) != 45) = true := by simp; omega
        have N2 : ((c : Int) != 95) = true := by simp; omega
        have hr := HR.out
        rw [HS.out ho] at hr
        clear HS HST HO HR ho
        subst hr
        go_wp2
        go_ret
        exact ⟨rfl, rfl⟩
      by_cases q1 : c = 45
      · have ho : okc c = true := by unfold okc; simp; omega
        have E0 : decide ((c : Int) < 97) = true := decide_eq_true (by omega)
        have E1 : decide ((122 : Int) < (c : Int)) = false := decide_eq_false (by omega)
        have E2 : decide ((c : Int) < 48) = true := decide_eq_true (by omega)
        have E3 : decide ((57 : Int) < (c : Int)) = false := decide_eq_false (by omega)
        have N0 : ((c : Int) != 46) = true := by simp; omega
        have N1 : ((c : Int) != 45) = false := by simp; omega
        have N2 : ((c : Int) != 95) = true := by simp; omega
        have HT := Lib.hid (HST.out ho)
        clear HS HST HO HR ho
        go_wp2
        go_round
        case rel => exact ⟨k + 1, by omega, by go_num, HT⟩
        case measure => simp [intOf]; omega
      by_cases q2 : c = 46
      · have ho : okc c = true := by unfold okc; simp; omega
        have E0 : decide ((c : Int) < 97) = true := decide_eq_true (by omega)
        have E1 : decide ((122 : Int) < (c : Int)) = false := decide_eq_false (by omega)
        have E2 : decide ((c : Int) < 48) = true := decide_eq_true (by omega)
        have E3 : decide ((57 : Int) < (c : Int)) = false := decide_eq_false (by omega)
        have N0 : ((c : Int) != 46) = false := by simp; omega
        have N1 : ((c : Int) != 45) = true := by simp; omega
        have N2 : ((c : Int) != 95) = true := by simp; omega
        have HT := Lib.hid (HST.out ho)
        clear HS HST HO HR ho
        go_wp2
        go_round
        case rel => exact ⟨k + 1, by omega, by go_num, HT⟩
        case measure => simp [intOf]; omega
      by_cases q3 : c = 47
      · have ho : okc c = false := by unfold okc; simp; omega
        have E0 : decide ((c : Int) < 97) = true := decide_eq_true (by omega)
        have E1 : decide ((122 : Int) < (c : Int)) = false := decide_eq_false (by omega)
        have E2 : decide ((c : Int) < 48) = true := decide_eq_true (by omega)
        have E3 : decide ((57 : Int) < (c : Int)) = false := decide_eq_false (by omega)
        have N0 : ((c : Int) != 46) = true := by simp; omega
        have N1 : ((c : Int) != 45) = true := by simp; omega
        have N2 : ((c : Int) != 95) = true := by simp; omega
        have hr := HR.out
        rw [HS.out ho] at hr
        clear HS HST HO HR ho
        subst hr
        go_wp2
        go_ret
        exact ⟨rfl, rfl⟩
      by_cases q4 : c ≤ 57
      · have ho : okc c = true := by unfold okc; simp; omega
        have E0 : decide ((c : Int) < 97) = true := decide_eq_true (by omega)
        have E1 : decide ((122 : Int) < (c : Int)) = false := decide_eq_false (by omega)
        have E2 : decide ((c : Int) < 48) = false := decide_eq_false (by omega)
        have E3 : decide ((57 : Int) < (c : Int)) = false := decide_eq_false (by omega)
        have N0 : ((c : Int) != 46) = true := by simp; omega
        have N1 : ((c : Int) != 45) = true := by simp; omega
        have N2 : ((c : Int) != 95) = true := by simp; omega
        have HT := Lib.hid (HST.out ho)
        clear HS HST HO HR ho
        go_wp2
        go_round
        case rel => exact ⟨k + 1, by omega, by go_num, HT⟩
        case measure => simp [intOf]; omega
      by_cases q5 : c ≤ 94
      · have ho : okc c = false := by unfold okc; simp; omega
        have E0 : decide ((c : Int) < 97) = true := decide_eq_true (by omega)
        have E1 : decide ((122 : Int) < (c : Int)) = false := decide_eq_false (by omega)
        have E2 : decide ((c : Int) < 48) = false := decide_eq_false (by omega)
        have E3 : decide ((57 : Int) < (c : Int)) = true := decide_eq_true (by omega)
        have N0 : ((c : Int) != 46) = true := by simp; omega
        have N1 : ((c : Int) != 45) = true := by simp; omega
        have N2 : ((c : Int) != 95) = true := by simp; omega
        have hr := HR.out
        rw [HS.out ho] at hr
        clear HS HST HO HR ho
        subst hr
        go_wp2
        go_ret
        exact ⟨rfl, rfl⟩
      by_cases q6 : c = 95
      · have ho : okc c = true := by unfold okc; simp; omega
        have E0 : decide ((c : Int) < 97) = true := decide_eq_true (by omega)
        have E1 : decide ((122 : Int) < (c : Int)) = false := decide_eq_false (by omega)
        have E2 : decide ((c : Int) < 48) = false := decide_eq_false (by omega)
        have E3 : decide ((57 : Int) < (c : Int)) = true := decide_eq_true (by omega)
        have N0 : ((c : Int) != 46) = true := by simp; omega
        have N1 : ((c : Int) != 45) = true := by simp; omega
        have N2 : ((c : Int) != 95) = false := by simp; omega
        have HT := Lib.hid (HST.out ho)
        clear HS HST HO HR ho
        go_wp2
        go_round
        case rel => exact ⟨k + 1, by omega, by go_num, HT⟩
        case measure => simp [intOf]; omega
      by_cases q7 : c = 96
      · have ho : okc c = false := by unfold okc; simp; omega
        have E0 : decide ((c : Int) < 97) = true := decide_eq_true (by omega)
        have E1 : decide ((122 : Int) < (c : Int)) = false := decide_eq_false (by omega)
        have E2 : decide ((c : Int) < 48) = false := decide_eq_false (by omega)
        have E3 : decide ((57 : Int) < (c : Int)) = true := decide_eq_true (by omega)
        have N0 : ((c : Int) != 46) = true := by simp; omega
        have N1 : ((c : Int) != 45) = true := by simp; omega
        have N2 : ((c : Int) != 95) = true := by simp; omega
        have hr := HR.out
        rw [HS.out ho] at hr
        clear HS HST HO HR ho
        subst hr
        go_wp2
        go_ret
        exact ⟨rfl, rfl⟩
      by_cases q8 : c ≤ 122
      · have ho : okc c = true := by unfold okc; simp; omega
        have E0 : decide ((c : Int) < 97) = false := decide_eq_false (by omega)
        have E1 : decide ((122 : Int) < (c : Int)) = false := decide_eq_false (by omega)
        have E2 : decide ((c : Int) < 48) = false := decide_eq_false (by omega)
        have E3 : decide ((57 : Int) < (c : Int)) = true := decide_eq_true (by omega)
        have N0 : ((c : Int) != 46) = true := by simp; omega
        have N1 : ((c : Int) != 45) = true := by simp; omega
        have N2 : ((c : Int) != 95) = true := by simp; omega
        have HT := Lib.hid (HST.out ho)
        clear HS HST HO HR ho
        go_wp2
        go_round
        case rel => exact ⟨k + 1, by omega, by go_num, HT⟩
        case measure => simp [intOf]; omega
      have ho : okc c = false := by unfold okc; simp; omega
      have E0 : decide ((c : Int) < 97) = false := decide_eq_false (by omega)
      have E1 : decide ((122 : Int) < (c : Int)) = true := decide_eq_true (by omega)
      have E2 : decide ((c : Int) < 48) = false := decide_eq_false (by omega)
      have E3 : decide ((57 : Int) < (c : Int)) = true := decide_eq_true (by omega)
      have N0 : ((c : Int) != 46) = true := by simp; omega
      have N1 : ((c : Int) != 45) = true := by simp; omega
      have N2 : ((c : Int) != 95) = true := by simp; omega
      have hr := HR.out
      rw [HS.out ho] at hr
      clear HS HST HO HR ho
      subst hr
      go_wp2
      go_ret
      exact ⟨rfl, rfl⟩
    · have hkl : k = l.length := by omega
      subst hkl
      have hr := HR.out
      have ha' := ha.out
      rw [List.take_length] at ha'
      unfold nameS at hr
      rw [ha', Bool.and_true] at hr
      have e1 : decide ((1 : Int) ≤ (l.length : Int)) = decide (1 ≤ l.length) := decide_eq_decide.2 (by omega)
      have e2 : decide ((l.length : Int) ≤ 16) = decide (l.length ≤ 16) := decide_eq_decide.2 (by omega)
      clear ha ha' HAT HR
      cases g1 : decide (1 ≤ l.length) with
      | false =>
        rw [g1] at e1 hr
        simp only [Bool.false_and] at hr
        subst hr
        clear g1 e2
        go_wp2
        go_ret
        exact ⟨rfl, rfl⟩
      | true =>
        rw [g1] at e1 hr
        simp only [Bool.true_and] at hr
        rw [← e2] at hr
        clear g1 e2
        subst hr
        go_wp2
        go_ret
        exact ⟨rfl, rfl⟩
end
end Go.Proofs.YtjecjlhofnnnpaaGreatDoor
