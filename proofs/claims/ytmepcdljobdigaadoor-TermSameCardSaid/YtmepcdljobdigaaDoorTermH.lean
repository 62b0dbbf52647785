/-
  The document's Parts of layer 5, over the loaded program: its contract. No condition but the sizes that it names.
-/
import Derived.Test.YtmepcdljobdigaaDoorTermT
import Derived.Test.YtmepcdljobdigaaDoorTermG
namespace Go.Proofs.YtmepcdljobdigaaDoor
open Go.RowKit
set_option linter.unusedVariables false

theorem wpList_growT (w : World) {ops : Array Oper} {rest : List Oper} {o : Oper} {a : Act} {Q : Exit → Act → World → Prop} (hgd : o.guard = none) (s x : Operand)
    (ho : o.op = .call { callee := .builtin .append, args := #[s, x], argTypes := #[24, 24] })
    (base : Nat) (v : Value) (qs : List Quad) (hs : a.eval s = v) (hown : w.ownsRow base 26 4 v qs.length (flatQ qs))
    (ad : Addr) (c : Nat) (ps : List Quad) (hxe : a.eval x = .slice (some ad) ps.length c) (hx : At w ad ps) (h1 : ∀ u ∈ flatQ ps, u.oneCell' = true) (hb : qs.length + ps.length ≤ 1000000000) (hbase : base ≤ w.heap.size)
    (h : ∀ v' w', w'.ownsRow base 26 4 v' (qs ++ ps).length (flatQ (qs ++ ps)) → w.grownBy w' v.ownBlock → (v'.ownBlock = v.ownBlock ∨ v'.ownBlock = some w.heap.size) → wpList Tryd.prog ops Q rest (a.put o.dst v') w') :
    wpList Tryd.prog ops Q (o :: rest) a w := by
  refine wpList_plain hgd fun K hK => ?_
  obtain ⟨v', w', hrun, h2, h3, h4⟩ := run_growT w base v qs hown ad c ps hx h1 hb hbase o.type
  unfold Oper.wp execOp
  simp only [ho, resolve, invoke, builtin, Sem.run_bind, Sem.run_pure, Result.andThen_ok, List.map_toArray, List.map_cons, List.map_nil, hs, hxe, hrun]
  exact hK _ _ (h v' w' h2 h3 h4)

/-- What a row of a call's own lies at. -/
theorem At_of_own {w : World} {base : Nat} {v : Value} {qs : List Quad} (h : w.ownsRow base 26 4 v qs.length (flatQ qs)) (h0 : 0 < qs.length) : ∃ g c, v = .slice (some ⟨g, 0, none⟩) qs.length c ∧ At w ⟨g, 0, none⟩ qs := by
  obtain ⟨_, h2⟩ := h
  rcases h2 with ⟨rfl, hz⟩ | ⟨g, cap, cur, rfl, hb, hg, hnc, hcm, hcs, htk⟩
  · omega
  · refine ⟨g, cap, rfl, fun j u hu => ?_⟩
    rw [Addr.add_lit, Nat.zero_add, cell_of_row w g j cur _ (0, 0) hg]
    have hj := (List.getElem?_eq_some_iff.1 hu).1
    rw [flatQ_length] at hj
    rw [← htk, List.getElem?_take, if_pos hj] at hu
    simpa using hu

theorem QT.lifted {w : World} {S : Nat → Prop} {f : Nat} {qs : List Quad} {ks : List (Tm f)} (h : QT w S f qs ks) : QT w S (f + 1) qs (ks.map (lift f)) := by
  refine ⟨by rw [List.length_map]; exact h.1, fun i q t hq ht => ?_⟩
  rw [List.getElem?_map] at ht
  cases hk : ks[i]? with
  | none => rw [hk] at ht; cases ht
  | some u =>
    rw [hk] at ht
    simp only [Option.map_some, Option.some.injEq] at ht
    subst ht
    exact TM.lifted f u _ _ _ _ (h.2 i q u hq hk)

/-- The parts of a term with its first j kids. -/
def partP {f : Nat} (t : Tm (f + 1)) (ks : List (Tm f)) (j : Nat) : List (Tm (f + 1)) := t :: ((ks.take j).flatMap fun u => (partsT f u).map (lift f))
theorem partP_zero {f : Nat} (t : Tm (f + 1)) (ks : List (Tm f)) : partP t ks 0 = [t] := by simp [partP]
theorem partP_succ {f : Nat} (t : Tm (f + 1)) (ks : List (Tm f)) (j : Nat) (hj : j < ks.length) : partP t ks (j + 1) = partP t ks j ++ (partsT f ks[j]).map (lift f) := by
  unfold partP
  rw [List.take_add_one, List.getElem?_eq_getElem hj, List.flatMap_append]
  simp
theorem partP_all {f : Nat} (k : Int) (n : Nat) (d : List UInt8) (ks : List (Tm f)) : partP (⟨k, n, d, ks⟩ : Nd (Tm f)) ks ks.length = partsT (f + 1) (⟨k, n, d, ks⟩ : Nd (Tm f)) := by
  unfold partP
  rw [List.take_length]; rfl
theorem partP_le {f : Nat} (t : Tm (f + 1)) (ks : List (Tm f)) (j : Nat) : (partP t ks j).length ≤ (partP t ks ks.length).length := by
  unfold partP
  rw [List.take_length]
  have e : ks.flatMap (fun u => (partsT f u).map (lift f)) = (ks.take j).flatMap (fun u => (partsT f u).map (lift f)) ++ (ks.drop j).flatMap (fun u => (partsT f u).map (lift f)) := by rw [← List.flatMap_append, List.take_append_drop]
  rw [e]
  simp only [List.length_cons, List.length_append]
  omega
theorem parts_pos : ∀ {f : Nat} (t : Tm f), 0 < (partsT f t).length
  | 0, t => nomatch t
  | f + 1, (t : Nd (Tm f)) => Nat.succ_pos _

set_option maxHeartbeats 1000000 in
theorem rparts_any (S : Nat → Prop) : ∀ (f : Nat) (t : Tm f) (v : Value) (w : World), (∀ b, S b → b < w.heap.size) → TV w S f v t → (partsT f t).length ≤ 1000000 →
    Calls Tryd.prog 18 #[v] w fun e w' => ∃ u qs, e = .returned u ∧ w'.ownsRow w.heap.size 26 4 u qs.length (flatQ qs) ∧ QT w' S f qs (partsT f t) ∧ Below w.heap.size w w' := by
  intro f
  induction f with
  | zero => intro t; exact nomatch t
  | succ f ih =>
    intro t v w hSw hv hlen0
    obtain ⟨c0, c1, c2, c3, rfl, ht⟩ := hv
    have q1 := QT.one ht
    obtain ⟨rfl, hk, rfl, hn, hdat, hks⟩ := id ht
    obtain ⟨A2, cap2, rfl, _⟩ := hdat.form
    obtain ⟨A3, cap3, e3, hl3, hm3, _⟩ := id hks
    obtain ⟨k, n, d, ks⟩ := (t : Nd (Tm f))
    simp only at e3 hks hk hn hdat hl3 q1
    subst e3
    have hlen : ks.length ≤ 9223372036854775807 := by unfold maxLen at hm3; omega
    have hall := partP_all k n d ks
    clear ht
    dsimp only
    generalize (⟨k, n, d, ks⟩ : Nd (Tm f)) = T at *
    replace hall : partP (T : Tm (f + 1)) ks ks.length = partsT (f + 1) T := hall
    rw [← hall] at hlen0 ⊢
    have hz : QT w S (f + 1) [(.int .i64 k, .int .u64 n, .slice A2 d.length cap2, .slice A3 ks.length cap3)] (partP (T : Tm (f + 1)) ks 0) := by
      have e := partP_zero (f := f) (T : Tm (f + 1)) ks
      rw [e]; exact q1
    clear q1 hall
    have HP : Hid (∀ j, (partP (T : Tm (f + 1)) ks j).length ≤ 1000000) := fun j => Nat.le_trans (partP_le _ ks j) hlen0
    have HS : Hid (∀ j (hj : j < ks.length), partP (T : Tm (f + 1)) ks (j + 1) = partP (T : Tm (f + 1)) ks j ++ (partsT f ks[j]).map (lift f)) := fun j hj => partP_succ _ ks j hj
    clear hlen0 hdat
    generalize partP (T : Tm (f + 1)) ks = PP at *
    have kb := (KB.new w 26 #[.int .i64 k, .int .u64 n, .slice A2 d.length cap2, .slice A3 ks.length cap3]).alloc (.cells #[.int .i64 k, .int .u64 n, .slice A2 d.length cap2, .slice A3 ks.length cap3] 26)
    have B0 := ((Below.refl w.heap.size w).alloc (Nat.le_refl _) (.cells #[.int .i64 k, .int .u64 n, .slice A2 d.length cap2, .slice A3 ks.length cap3] 26)).alloc (by simp) (.cells #[.int .i64 k, .int .u64 n, .slice A2 d.length cap2, .slice A3 ks.length cap3] 26)
    have how := own_one (w.alloc (.cells #[.int .i64 k, .int .u64 n, .slice A2 d.length cap2, .slice A3 ks.length cap3] 26)) (w.heap.size + 1) (by simp) (.int .i64 k, .int .u64 n, .slice A2 d.length cap2, .slice A3 ks.length cap3)
    rw [World.size_alloc] at how
    go_enter Tryd.func18, Tryd.ntmps18
    go_wp2_with fail
    have hz1 := hz.below' B0
    clear hz
    generalize (w.alloc (.cells #[.int .i64 k, .int .u64 n, .slice A2 d.length cap2, .slice A3 ks.length cap3] 26)).alloc (.cells #[.int .i64 k, .int .u64 n, .slice A2 d.length cap2, .slice A3 ks.length cap3] 26) = w1 at *
    go_loopw [3, 4] (fun vv iv wr => ∃ (j : Nat) (qs : List Quad), j ≤ ks.length ∧ QT wr S (f + 1) qs (PP j) ∧ iv = .int .i64 j ∧ wr.ownsRow (w.heap.size + 1) 26 4 vv qs.length (flatQ qs) ∧
      KB wr w.heap.size 26 #[.int .i64 k, .int .u64 n, .slice A2 d.length cap2, .slice A3 ks.length cap3] ∧ Below w.heap.size w wr) (fun _ iv _ => ks.length - (intOf iv).toNat)
    case atStart => exact ⟨0, _, by omega, hz1, rfl, how, kb, B0⟩
    case round =>
      obtain ⟨j, qs, hj, hq, rfl, hown, K5, B5⟩ := hrel
      have q3 : wr.cell? ⟨w.heap.size, 3, none⟩ = some (.slice A3 ks.length cap3) := K5.cell 3
      by_cases hlt : j < ks.length
      · obtain ⟨b, o, e0, e1, e2, e3, rfl, hb, k0, k1, k2, k3, hv⟩ := kid_as hks rfl B5 j hlt
        have hs := HS.out j hlt
        have hl := HP.out (j + 1)
        rw [hs, List.length_append, List.length_map] at hl
        have hc := ih ks[j] (.agg #[e0, e1, e2, e3]) wr (fun b hb => Nat.lt_of_lt_of_le (hSw b hb) B5.size) hv (by omega)
        have hpos := parts_pos ks[j]
        have HSS := Lib.hid hs
        clear hv hks hs
        generalize partsT f ks[j] = M at *
        go_wp2_with fail
        refine hc.mono ?_
        rintro e w5 ⟨v5, ps, rfl, how5, hq5, b5⟩
        have K6 := K5.below b5 K5.lt
        have B6 := B5.trans (b5.mono B5.size)
        have how6 := own_past b5 hown
        have hq6 := hq.below' b5
        have HL : Hid (qs.length + ps.length ≤ 1000000000) := by
          have h1 := hq.1
          have h2 := hq5.1
          show _ ≤ _
          omega
        obtain ⟨g5, c5, rfl, hat⟩ := At_of_own how5 (by have := hq5.1; omega)
        clear hc q3 k0 k1 k2 k3 hq hown
        go_wp2_with (at_builtin; refine wpList_growT _ rfl _ _ rfl (w.heap.size + 1) _ qs rfl how6 _ _ ps rfl hat hq5.cells1 HL.out K6.lt ?_; intro v7 w7 how7 hg7 _)
        have K7 := K6.grown hg7 (own_ne how6 (Nat.lt_succ_self w.heap.size))
        have B7 := B6.grown hg7 B6.size fun x hx => Nat.le_trans (Nat.le_succ _) (own_ge how6 x hx)
        have hq7 : QT w7 S (f + 1) (qs ++ ps) (PP (j + 1)) := by
          rw [HSS.out]
          exact (hq6.append hq5.lifted).keepS hg7.size (fun x hx hlt => hg7.block x hlt fun e => absurd (own_ge how6 x e.symm) (by have := hSw x hx; omega)) fun _ h => h
        go_roundw
        case rel => exact ⟨j + 1, qs ++ ps, by omega, hq7, by go_num, how7, K7, B7⟩
        case measure => simp [intOf]; omega
      · have e : j = ks.length := by omega
        subst e
        go_wp2_with fail
        go_ret
        exact ⟨_, qs, rfl, own_base hown (Nat.le_succ _), hq, B5⟩
end Go.Proofs.YtmepcdljobdigaaDoor
