/-
  HdF: The document's Find and turned (layer 22), over the loaded program: their contracts. No condition.
  TwA: Rows of scopes of a call's own, all of a list at once; one of them is another one; slices.Clone of scopes, over the loaded program: its contract. No condition but the size that it names.
  Held: A region that draws its order, operation by operation, over any program: what only reads is taken first, whether its guard lets it be done or not; what is to be done next alone is done. No condition.
-/
import Derived.Test.YtdkmjdcddldjgaaHy04
import Derived.Test.YtdkmjdcddldjgaaHy03
import Derived.Lib.SliceRun
import Derived.Deep.RegionHeld3
import Derived.Maps.RangeWalk
import Derived.Tactics
import Derived.KernelRfl
set_option linter.unusedVariables false
set_option maxRecDepth 100000
namespace Go.Proofs.Ytdkmjdcddldjgaa
section
open Go.RowKit Go.ChangeShapes Go.WideShapes Go.Joins
def HoldsAs (w : World) (f : Nat) (l : List (Hl f)) (e : Ending) (w' : World) : Prop := ∃ v, e = .returned v ∧ HS w' (fun b => b < w'.heap.size) f v l ∧ Below w.heap.size w w'
def HoldsErr (w : World) (f : Nat) (r : List (Hl f) × Int) (e : Ending) (w' : World) : Prop := ∃ v, e = .returned (.tuple #[v, .int .i64 r.2]) ∧ HS w' (fun b => b < w'.heap.size) f v r.1 ∧ Below w.heap.size w w'
set_option maxHeartbeats 4000000 in
theorem xhfind_any (S : Nat → Prop) (f : Nat) (l : List (Hl f)) (c : List UInt8) (v : Value) (w : World) (hv : HS w S f v l) :
    Calls Try.prog 28 #[v, strV c] w fun e w' => e = .returned (.int .i64 (findH l c)) ∧ w' = w := by
  obtain ⟨A3, cap3, rfl, hl3, hm3, _⟩ := hv.form
  have hlen : l.length ≤ 9223372036854775807 := by unfold maxLen at hm3; omega
  have HAT : Hid (∀ (j : Nat) (hj : j < l.length), ∃ b o, A3 = some ⟨b, o, none⟩ ∧ w.cell? ⟨b, o + j * 7, none⟩ = some (strV l[j].id)) := fun j hj => by
    obtain ⟨b, o, e0, _, _, _, _, _, _, ea, _, k0, _, _, _, _, _, _, hx⟩ := hold_atb hv rfl (Below.refl _ _) j hj
    exact ⟨b, o, ea, by rw [k0, hx.1]⟩
  have HN : Hid ((∀ (i : Nat) (hi : i < l.length), l[i].id ≠ c) → findH l c = -1) := fun h => findH_none h
  have HY : Hid (∀ (j : Nat) (hj : j < l.length), (∀ (i : Nat) (hi : i < l.length), i < j → l[i].id ≠ c) → l[j].id = c → findH l c = (j : Int)) := fun j hj h1 h2 => findH_some hj h1 h2
  clear hv
  generalize findH l c = r at *
  unfold strV at *
  obtain ⟨sq, hsq⟩ : ∃ s : ByteArray, s = ⟨c.toArray⟩ := ⟨_, rfl⟩
  rw [← hsq]
  have HSQ := Lib.hid hsq
  clear hsq
  go_enter Try.func28, Try.ntmps28
  go_wp2_with fail
  go_loopw [5] (fun iv wr => ∃ j : Nat, j ≤ l.length ∧ iv = .int .i64 j ∧ Hid (∀ (i : Nat) (hi : i < l.length), i < j → l[i].id ≠ c) ∧ wr = w) (fun iv _ => l.length - (intOf iv).toNat)
  case atStart => exact ⟨0, by omega, rfl, fun i _ h => absurd h (Nat.not_lt_zero _), rfl⟩
  case round =>
    obtain ⟨j, hj, rfl, hall, rfl⟩ := hrel
    by_cases hlt : j < l.length
    · have hltI : (j : Int) < (l.length : Int) := by omega
      obtain ⟨b, o, rfl, k0⟩ := HAT.out j hlt
      obtain ⟨s, hs⟩ : ∃ s : ByteArray, s = ⟨l[j].id.toArray⟩ := ⟨_, rfl⟩
      rw [← hs] at k0
      have gq := zeq_txt s sq _ _ hs HSQ.out
      by_cases hcl : l[j].id = c
      · have hr := HY.out j hlt hall.out hcl
        rw [decide_eq_true hcl] at gq
        clear HAT HN HY hall hs HSQ hcl
        subst hr
        go_wp2_with fail
        go_ret
        exact ⟨rfl, rfl⟩
      · have HM : Hid (∀ (i : Nat) (hi : i < l.length), i < j + 1 → l[i].id ≠ c) := fun i hi hij => by
          rcases Nat.lt_or_ge i j with h' | h'
          · exact hall.out i hi h'
          · obtain rfl : i = j := by omega
            exact hcl
        rw [decide_eq_false hcl] at gq
        clear hall HN HY hs hcl
        go_wp2_with fail
        go_roundw
        case rel => exact ⟨j + 1, by omega, by go_num, HM, by first | rfl | trivial⟩
        case measure => simp [intOf]; omega
    · have hr := HN.out fun i hi => hall.out i hi (by omega)
      clear hall HN HY HAT HSQ
      subst hr
      go_wp2_with fail
      go_ret
      exact ⟨rfl, rfl⟩
theorem ownH_at {w : World} {S : Nat → Prop} {f base : Nat} {v : Value} {qs : List SvH} {ks : List (Hl f)} (h : w.ownsRow base 47 7 v qs.length (flatH qs)) (hq : QH w S f qs ks) (j : Nat) (hj : j < ks.length) :
    ∃ g c c0 c1 c2 c3 c4 c5 c6, v = .slice (some ⟨g, 0, none⟩) qs.length c ∧ base ≤ g ∧ g < w.heap.size ∧ w.cell? ⟨g, j * 7, none⟩ = some c0 ∧ w.cell? ⟨g, j * 7 + 1, none⟩ = some c1 ∧ w.cell? ⟨g, j * 7 + 2, none⟩ = some c2 ∧ w.cell? ⟨g, j * 7 + 3, none⟩ = some c3 ∧ w.cell? ⟨g, j * 7 + 4, none⟩ = some c4 ∧ w.cell? ⟨g, j * 7 + 5, none⟩ = some c5 ∧ w.cell? ⟨g, j * 7 + 6, none⟩ = some c6 ∧
      HX w S f ks[j] c0 c1 c2 c3 c4 c5 c6 ∧ ∀ k, w.frozen? ⟨g, k, none⟩ = false := by
  obtain ⟨_, h2⟩ := h
  rcases h2 with ⟨rfl, h0⟩ | ⟨g, cap, cur, rfl, hb, hg, hnc, hcm, hcs, htk⟩
  · have := hq.1
    omega
  · have hlt : g < w.heap.size := (Array.getElem?_eq_some_iff.1 hg).1
    have hqi : qs[j]? = some (qs[j]'(by rw [hq.1]; exact hj)) := List.getElem?_eq_getElem _
    have cell : ∀ k u, k < 7 → (sevH (qs[j]'(by rw [hq.1]; exact hj)))[k]? = some u → w.cell? ⟨g, j * 7 + k, none⟩ = some u := fun k u hk hu => by
      rw [← flatH_at qs j _ hqi k hk] at hu
      rw [cell_of_row w g (j * 7 + k) cur _ (0, 0) hg]
      rw [← htk, List.getElem?_take] at hu
      split at hu
      · simpa using hu
      · cases hu
    have kb : KB w g 47 cur := hg
    exact ⟨_, cap, _, _, _, _, _, _, _, rfl, hb, hlt, cell 0 _ (by omega) rfl, cell 1 _ (by omega) rfl, cell 2 _ (by omega) rfl, cell 3 _ (by omega) rfl, cell 4 _ (by omega) rfl, cell 5 _ (by omega) rfl, cell 6 _ (by omega) rfl, hq.2 j _ _ hqi (List.getElem?_eq_getElem hj), kb.free⟩
theorem ownH_set {w w9 : World} {base g c j : Nat} {qs : List SvH} {q : SvH} (h : w.ownsRow base 47 7 (.slice (some ⟨g, 0, none⟩) qs.length c) qs.length (flatH qs)) (hj : j < qs.length)
    (hw : w9 = ((((((w.setCell ⟨g, j * 7, none⟩ q.1).setCell ⟨g, j * 7 + 1, none⟩ q.2.1).setCell ⟨g, j * 7 + 2, none⟩ q.2.2.1).setCell ⟨g, j * 7 + 3, none⟩ q.2.2.2.1).setCell ⟨g, j * 7 + 4, none⟩ q.2.2.2.2.1).setCell ⟨g, j * 7 + 5, none⟩ q.2.2.2.2.2.1).setCell ⟨g, j * 7 + 6, none⟩ q.2.2.2.2.2.2) :
    w9.ownsRow base 47 7 (.slice (some ⟨g, 0, none⟩) qs.length c) (qs.set j q).length (flatH (qs.set j q)) ∧ w.grownBy w9 (some g) := by
  rw [hw, ← flatH_set qs j q hj, List.length_set]
  exact ⟨own_cell (own_cell (own_cell (own_cell (own_cell (own_cell (own_cell h _ _) _ _) _ _) _ _) _ _) _ _) _ _,
    grown_trans (grown_trans (grown_trans (grown_trans (grown_trans (grown_trans (grown_set _ _ _ _) (grown_set _ _ _ _)) (grown_set _ _ _ _)) (grown_set _ _ _ _)) (grown_set _ _ _ _)) (grown_set _ _ _ _)) (grown_set _ _ _ _)⟩
theorem turned_fin {w W w9 : World} {f : Nat} {l : List (Hl f)} {t : Hl f} {ps : List SvH} {g cg j : Nat} {q : SvH} (B : Below w.heap.size w W) (hq : QH W (fun b => b < w.heap.size) f ps l) (ht : HX W (fun b => b < w.heap.size) f t q.1 q.2.1 q.2.2.1 q.2.2.2.1 q.2.2.2.2.1 q.2.2.2.2.2.1 q.2.2.2.2.2.2)
    (how : W.ownsRow (w.heap.size + 1) 47 7 (.slice (some ⟨g, 0, none⟩) ps.length cg) ps.length (flatH ps)) (hg : w.heap.size + 1 ≤ g) (hgl : g < W.heap.size) (hj : j < ps.length)
    (hw : w9 = ((((((W.setCell ⟨g, j * 7, none⟩ q.1).setCell ⟨g, j * 7 + 1, none⟩ q.2.1).setCell ⟨g, j * 7 + 2, none⟩ q.2.2.1).setCell ⟨g, j * 7 + 3, none⟩ q.2.2.2.1).setCell ⟨g, j * 7 + 4, none⟩ q.2.2.2.2.1).setCell ⟨g, j * 7 + 5, none⟩ q.2.2.2.2.2.1).setCell ⟨g, j * 7 + 6, none⟩ q.2.2.2.2.2.2) :
    HoldsAs w f (l.set j t) (.returned (.slice (some ⟨g, 0, none⟩) ps.length cg)) w9 := by
  have ho9 := ownH_set (q := q) how hj hw
  have hs9 : W.heap.size ≤ w9.heap.size := ho9.2.size
  have hk9 : ∀ b, b < w.heap.size → b < W.heap.size → w9.heap[b]? = W.heap[b]? := fun b hb hl3 => ho9.2.block b hl3 fun e => by injection e with e; omega
  have hq9 : QH w9 (fun b => b < w.heap.size) f (ps.set j q) (l.set j t) := (hq.keepL hs9 hk9 fun b sb _ => sb).set (j := j) (ht.keepL hs9 hk9 fun b sb _ => sb)
  have h1 := B.size
  refine ⟨_, rfl, ?_, B.grown ho9.2 h1 fun x e => by injection e with e; omega⟩
  have h2 := ho9.1
  exact HS_of_own h2 (hq9.mono fun b hb => by show b < w9.heap.size; omega) fun b _ hbl => hbl
set_option maxHeartbeats 4000000 in
theorem xhturned_any (f : Nat) (l : List (Hl f)) (t : Hl f) (v : Value) (c0 c1 c2 c3 c4 c5 c6 : Value) (j : Nat) (hj : j < l.length) (hl : l.length ≤ 1000) (w : World) (hv : HS w (fun b => b < w.heap.size) f v l) (ht : HX w (fun b => b < w.heap.size) f t c0 c1 c2 c3 c4 c5 c6) :
    Calls Try.prog 31 #[v, .int .i64 j, .agg #[c0, c1, c2, c3, c4, c5, c6]] w (HoldsAs w f (l.set j t)) := by
  obtain ⟨l0, i1, l2, i3, i4, X5, n5, z5, b6, rfl, rfl, rfl, rfl, rfl, rfl, rfl⟩ := ht.form
  obtain ⟨A, cap, rfl, hl3, hm3, _⟩ := hv.form
  obtain ⟨s0, hs0⟩ : ∃ s : ByteArray, strV l0 = .string s := ⟨_, rfl⟩
  obtain ⟨s2, hs2⟩ : ∃ s : ByteArray, strV l2 = .string s := ⟨_, rfl⟩
  rw [hs0, hs2] at ht ⊢
  clear hs0 hs2
  have K0 := KB.new w 47 #[.string s0, .int .i64 i1, .string s2, .int .i64 i3, .int .i64 i4, .slice X5 n5 z5, .bool b6]
  have B0 := (Below.refl w.heap.size w).alloc (Nat.le_refl _) (.cells #[.string s0, .int .i64 i1, .string s2, .int .i64 i3, .int .i64 i4, .slice X5 n5 z5, .bool b6] 47)
  have hv1 := hv.below' B0
  have hsz : (w.alloc (.cells #[.string s0, .int .i64 i1, .string s2, .int .i64 i3, .int .i64 i4, .slice X5 n5 z5, .bool b6] 47)).heap.size = w.heap.size + 1 := by simp
  have OW := ownH_empty (w.alloc (.cells #[.string s0, .int .i64 i1, .string s2, .int .i64 i3, .int .i64 i4, .slice X5 n5 z5, .bool b6] 47)) (w.heap.size + 1) (by omega)
  have B1 := (Below.refl (w.heap.size + 1) (w.alloc (.cells #[.string s0, .int .i64 i1, .string s2, .int .i64 i3, .int .i64 i4, .slice X5 n5 z5, .bool b6] 47))).alloc (by omega) (.cells #[] 47)
  have hv2 := hv1.alloc (.cells #[] 47)
  rw [hsz] at OW
  clear hv1
  go_enter Try.func31, Try.ntmps31
  have hbs : w.heap.size + 1 ≤ ((w.alloc (.cells #[.string s0, .int .i64 i1, .string s2, .int .i64 i3, .int .i64 i4, .slice X5 n5 z5, .bool b6] 47)).alloc (.cells #[] 47)).heap.size := by simp
  have hq : Hid (QH w (fun b => b < w.heap.size) f [] ([] : List (Hl f)) ∧ HX w (fun b => b < w.heap.size) f t (.string s0) (.int .i64 i1) (.string s2) (.int .i64 i3) (.int .i64 i4) (.slice X5 n5 z5) (.bool b6)) := ⟨QH.nil _ _ _, ht⟩
  clear ht hv
  have HTJ := Lib.hid hl
  go_wp2_with (at_builtin; refine wpList_growHL _ rfl _ _ rfl (w.heap.size + 1) _ [] rfl OW _ l rfl hv2 (by simp; omega) hbs ?_; intro ps v3 w3 hq3 how3 g3 ho3
               have BL3 := B1.grown g3 hbs (fun g e => own_ge OW g e)
               have C3 := (Below.refl (w.heap.size + 1) _).grown g3 hbs (fun g e => own_ge OW g e)
               have K3 := K0.below BL3 (by omega)
               have r0 := K3.cell 0
               have r1 := K3.cell 1
               have r2 := K3.cell 2
               have r3 := K3.cell 3
               have r4 := K3.cell 4
               have r5 := K3.cell 5
               have r6 := K3.cell 6
               rw [List.nil_append] at how3
               have hq4 := hq3.keepL (S' := fun b => b < w.heap.size) C3.size (fun b sb _ => C3.block b (Nat.lt_succ_of_lt sb)) (fun b sb _ => sb)
               have hpl := hq4.1
               obtain ⟨g, cg, d0, d1, d2, d3, d4, d5, d6, rfl, hgb, hgl, k0, k1, k2, k3, k4, k5, k6, _, hfz⟩ := ownH_at how3 hq4 j hj
               have f0 := hfz (j * 7)
               have f1 := hfz (j * 7 + 1)
               have f2 := hfz (j * 7 + 2)
               have f3 := hfz (j * 7 + 3)
               have f4 := hfz (j * 7 + 4)
               have f5 := hfz (j * 7 + 5)
               have f6 := hfz (j * 7 + 6)
               have hjp : j < ps.length := by omega
               have hjI : (j : Int) < (ps.length : Int) := by omega
               obtain ⟨w9, hw9⟩ : ∃ w9, w9 = (((((((w3.setCell ⟨g, j * 7, none⟩ (.string s0)).setCell ⟨g, j * 7 + 1, none⟩ (.int .i64 i1)).setCell ⟨g, j * 7 + 2, none⟩ (.string s2)).setCell ⟨g, j * 7 + 3, none⟩ (.int .i64 i3)).setCell ⟨g, j * 7 + 4, none⟩ (.int .i64 i4)).setCell ⟨g, j * 7 + 5, none⟩ (.slice X5 n5 z5)).setCell ⟨g, j * 7 + 6, none⟩ (.bool b6)) := ⟨_, rfl⟩
               have HW9 := Lib.hid hw9
               have HFIN : Hid (HoldsAs w f (l.set j t) (.returned (.slice (some ⟨g, 0, none⟩) l.length cg)) w9) := (fun x => by rw [← hpl]; exact x : _ → _) (turned_fin (B0.trans (BL3.mono (by omega))) hq4 (q := (.string s0, .int .i64 i1, .string s2, .int .i64 i3, .int .i64 i4, .slice X5 n5 z5, .bool b6)) ((hq.out.2.below' B0).keepL BL3.size (fun b sb _ => BL3.block b (Nat.lt_succ_of_lt sb)) fun b sb _ => sb) how3 hgb hgl hjp hw9)
               (try clear hw9; try clear ho9; try clear hfz; try clear how3; try clear hq3; try clear hq4; try clear g3; try clear ho3; try clear K3; try clear BL3; try clear C3; try clear hq; try clear HTJ; try clear hv2; try clear OW; try clear K0; try clear B0; try clear B1; try clear hbs; try clear hsz))
  rw [← HW9.out]
  go_ret
  exact HFIN.out
end
section
open Go.RowKit Go.ChangeShapes Go.WideShapes Go.Joins
theorem flatZ_set : ∀ (qs : List QuZ) (j : Nat) (q : QuZ), j < qs.length →
    (((((flatZ qs).set (j * 5) q.1).set (j * 5 + 1) q.2.1).set (j * 5 + 2) q.2.2.1).set (j * 5 + 3) q.2.2.2.1).set (j * 5 + 4) q.2.2.2.2 = flatZ (qs.set j q)
  | [], j, q, h => by simp at h
  | p :: qs, 0, q, h => by simp [flatZ_cons, fiveZ]
  | p :: qs, j + 1, q, h => by
    have ih := flatZ_set qs j q (by simpa using h)
    have e : ∀ k, (j + 1) * 5 + k = (fiveZ p).length + (j * 5 + k) := fun k => by rw [show (fiveZ p).length = 5 from rfl]; omega
    have e0 : (j + 1) * 5 = (fiveZ p).length + j * 5 := by rw [show (fiveZ p).length = 5 from rfl]; omega
    have hs : ∀ (l : List Value) (k : Nat) (u : Value), (fiveZ p ++ l).set ((fiveZ p).length + k) u = fiveZ p ++ l.set k u := fun l k u => by
      rw [List.set_append_right _ _ (Nat.le_add_right _ _), Nat.add_sub_cancel_left]
    rw [List.set_cons_succ, flatZ_cons, flatZ_cons, e 1, e 2, e 3, e 4, e0, hs, hs, hs, hs, hs, ih]
theorem QZ.set {w : World} {S : Nat → Prop} {f : Nat} {qs : List QuZ} {ks : List (Sc f)} (h : QZ w S f qs ks) {j : Nat} {c0 c1 c2 c3 c4 : Value} {t : Sc f} (ht : ZX w S f t c0 c1 c2 c3 c4) : QZ w S f (qs.set j (c0, c1, c2, c3, c4)) (ks.set j t) := by
  refine ⟨by rw [List.length_set, List.length_set, h.1], fun i q u hq hu => ?_⟩
  by_cases hij : j = i
  · subst hij
    rw [List.getElem?_set_self'] at hq hu
    cases h1 : qs[j]? with
    | none => rw [h1] at hq; cases hq
    | some q0 =>
      cases h2 : ks[j]? with
      | none => rw [h2] at hu; cases hu
      | some t0 =>
        rw [h1] at hq
        rw [h2] at hu
        simp at hq hu
        subst hq hu
        exact ht
  · rw [List.getElem?_set_ne hij] at hq hu
    exact h.2 i q u hq hu
theorem ZS.fives {w : World} {S : Nat → Prop} {f : Nat} {v : Value} {l : List (Sc f)} (h : ZS w S (ZX w S f) v l) : ∃ (A : Option Addr) (c : Nat) (qs : List QuZ), v = .slice A l.length c ∧ l.length ≤ c ∧ c ≤ maxLen ∧ (A = none → c = 0) ∧ QZ w S f qs l ∧ (∀ q ∈ qs, ∀ u ∈ fiveZ q, u.oneCell' = true) ∧
    (0 < l.length → ∃ b o, A = some ⟨b, o, none⟩ ∧ S b ∧ b < w.heap.size ∧ ∀ j u, (flatZ qs)[j]? = some u → w.cell? ⟨b, o + j, none⟩ = some u) := by
  obtain ⟨A, c, e, hl, hc, hn, hx⟩ := h
  by_cases h0 : l.length = 0
  · obtain rfl : l = [] := List.eq_nil_of_length_eq_zero h0
    exact ⟨A, c, [], e, hl, hc, hn, QZ.nil _ _ _, (fun q hq => by cases hq), fun h => absurd h (by simp)⟩
  · obtain ⟨b, o, ea, sb, hb, hx⟩ := hx (by omega)
    have hi2 : ∀ i, i < l.length → ∃ q : QuZ, (∀ k u, k < 5 → (fiveZ q)[k]? = some u → w.cell? ⟨b, o + i * 5 + k, none⟩ = some u) ∧ ∀ t, l[i]? = some t → ZX w S f t q.1 q.2.1 q.2.2.1 q.2.2.2.1 q.2.2.2.2 := fun i hi => by
      obtain ⟨c0, c1, c2, c3, c4, k0, k1, k2, k3, k4, r⟩ := hx i l[i] (List.getElem?_eq_getElem hi)
      refine ⟨(c0, c1, c2, c3, c4), fun k u hk hu => ?_, fun t ht => by rw [List.getElem?_eq_getElem hi] at ht; injection ht with ht; rw [← ht]; exact r⟩
      match k, hk, hu with
      | 0, _, hu => simp [fiveZ] at hu; subst hu; exact k0
      | 1, _, hu => simp [fiveZ] at hu; subst hu; exact k1
      | 2, _, hu => simp [fiveZ] at hu; subst hu; exact k2
      | 3, _, hu => simp [fiveZ] at hu; subst hu; exact k3
      | 4, _, hu => simp [fiveZ] at hu; subst hu; exact k4
    haveI : Inhabited QuZ := ⟨(hi2 0 (by omega)).choose⟩
    obtain ⟨g, hg⟩ := Deep.choose_lt (α := QuZ) hi2
    have hql : ((List.range l.length).map g).length = l.length := by simp
    have hqi : ∀ i (hi : i < l.length), ((List.range l.length).map g)[i]? = some (g i) := fun i hi => by simp [hi]
    refine ⟨A, c, (List.range l.length).map g, e, hl, hc, hn, ⟨hql, fun i q t hq ht => ?_⟩, fun q hq => ?_, fun _ => ⟨b, o, ea, sb, hb, fun j u hu => ?_⟩⟩
    · have hi := (List.getElem?_eq_some_iff.1 ht).1
      rw [hqi i hi] at hq
      injection hq with hq
      subst hq
      exact (hg i hi).2 t ht
    · obtain ⟨i, hi, rfl⟩ := List.mem_map.1 hq
      rw [List.mem_range] at hi
      exact ((hg i hi).2 _ (List.getElem?_eq_getElem hi)).cells1
    · have hj := (List.getElem?_eq_some_iff.1 hu).1
      rw [flatZ_length, hql] at hj
      have hd := Nat.div_add_mod j 5
      have hm := Nat.mod_lt j (show 5 > 0 by decide)
      have hi : j / 5 < l.length := by omega
      have f5 : ∀ k, k < 5 → (flatZ ((List.range l.length).map g))[j / 5 * 5 + k]? = (fiveZ (g (j / 5)))[k]? := fun k hk => by
        obtain ⟨a0, a1, a2, a3, a4⟩ := flatZ_at _ (j / 5) _ (hqi (j / 5) hi)
        match k, hk with
        | 0, _ => exact a0
        | 1, _ => exact a1
        | 2, _ => exact a2
        | 3, _ => exact a3
        | 4, _ => exact a4
      have := f5 (j % 5) hm
      rw [show j / 5 * 5 + j % 5 = j from by omega] at this
      rw [this] at hu
      have := (hg (j / 5) hi).1 (j % 5) u hm hu
      rwa [show o + j / 5 * 5 + j % 5 = o + j from by omega] at this
theorem run_growZs (w : World) (base : Nat) (v : Value) (qs : List QuZ) (hown : w.ownsRow base 25 5 v qs.length (flatZ qs)) (ad : Addr) (c : Nat) (ps : List QuZ) (hx : ∀ j u, (flatZ ps)[j]? = some u → w.cell? (ad.add j) = some u)
    (h1 : ∀ q ∈ ps, ∀ u ∈ fiveZ q, u.oneCell' = true) (hb : qs.length + ps.length ≤ 1000000000) (hbase : base ≤ w.heap.size) (ty : TypeId) :
    ∃ v' w', (Builtin.append_ #[23, 23] ty #[v, .slice (some ad) ps.length c]).run Try.prog w = .ok v' w' ∧ w'.ownsRow base 25 5 v' (qs ++ ps).length (flatZ (qs ++ ps)) ∧ w.grownBy w' v.ownBlock ∧
      (v'.ownBlock = v.ownBlock ∨ v'.ownBlock = some w.heap.size) := by
  obtain ⟨i0, hi, hz0, hz1, hz2⟩ := info_parts info_scope
  have hone : ∀ u ∈ flatZ ps, u.oneCell' = true := fun u hu => by
    obtain ⟨q, hq, hu⟩ := List.mem_flatMap.1 hu
    exact h1 q hq u hu
  obtain ⟨v', w', a1, a2, a3, _, a5⟩ := run_append_own_at (P := Try.prog) (w := w) base 23 ty 25 i0 _ 5 64 Try.underlying23 hi hz0 hz1 hz2 rfl (by omega) v qs.length _ hown ad ps.length c (flatZ ps) (flatZ_length ps) hx hone
    (by unfold maxLen; omega) (by omega) hbase
  exact ⟨v', w', a1, by rw [List.length_append, flatZ_append]; exact a2, a3, a5⟩
theorem run_growZL {S : Nat → Prop} {f : Nat} (w : World) (base : Nat) (v : Value) (qs : List QuZ) (hown : w.ownsRow base 25 5 v qs.length (flatZ qs)) (x : Value) (l : List (Sc f)) (hx : ZS w S (ZX w S f) x l)
    (hb : qs.length + l.length ≤ 1000000000) (hbase : base ≤ w.heap.size) (ty : TypeId) :
    ∃ (ps : List QuZ) (v' : Value) (w' : World), QZ w S f ps l ∧ (Builtin.append_ #[23, 23] ty #[v, x]).run Try.prog w = .ok v' w' ∧ w'.ownsRow base 25 5 v' (qs ++ ps).length (flatZ (qs ++ ps)) ∧ w.grownBy w' v.ownBlock ∧
      (v'.ownBlock = v.ownBlock ∨ v'.ownBlock = some w.heap.size) := by
  obtain ⟨A, c, ps, rfl, hl, hc, hn, hq, h1, hcell⟩ := hx.fives
  rcases A with _ | ad
  · obtain rfl := hn rfl
    obtain rfl : l = [] := List.eq_nil_of_length_eq_zero (by omega)
    obtain rfl : ps = [] := List.eq_nil_of_length_eq_zero hq.1
    obtain ⟨i0, hi, hz0, hz1, hz2⟩ := info_parts info_scope
    exact ⟨[], v, w, hq, run_append_owned_none w base 23 ty 25 i0 5 Try.underlying23 hi v _ _ hown, by simpa using hown, World.grownBy.refl w _, .inl rfl⟩
  · by_cases h0 : 0 < l.length
    · obtain ⟨b, o, ea, _, _, hcl2⟩ := hcell h0
      injection ea with ea
      subst ea
      rw [← hq.1]
      obtain ⟨v', w', h⟩ := run_growZs w base v qs hown ⟨b, o, none⟩ c ps (fun j u hu => by rw [add_plain]; exact hcl2 j u hu) h1 (by rw [hq.1]; exact hb) hbase ty
      exact ⟨ps, v', w', hq, h⟩
    · obtain rfl : l = [] := List.eq_nil_of_length_eq_zero (by omega)
      obtain rfl : ps = [] := List.eq_nil_of_length_eq_zero hq.1
      obtain ⟨v', w', h⟩ := run_growZs w base v qs hown ad c [] (fun j u hu => by simp [flatZ] at hu) (fun q hq => by cases hq) (by simpa using hb) hbase ty
      exact ⟨[], v', w', hq, h⟩
theorem wpList_growZL {S : Nat → Prop} {f : Nat} (w : World) {ops : Array Oper} {rest : List Oper} {o : Oper} {a : Act} {Q : Exit → Act → World → Prop} (hgd : o.guard = none) (s y : Operand)
    (ho : o.op = .call { callee := .builtin .append, args := #[s, y], argTypes := #[23, 23] })
    (base : Nat) (v : Value) (qs : List QuZ) (hs : a.eval s = v) (hown : w.ownsRow base 25 5 v qs.length (flatZ qs)) (x : Value) (l : List (Sc f)) (hye : a.eval y = x) (hx : ZS w S (ZX w S f) x l)
    (hb : qs.length + l.length ≤ 1000000000) (hbase : base ≤ w.heap.size)
    (h : ∀ (ps : List QuZ) v' w', QZ w S f ps l → w'.ownsRow base 25 5 v' (qs ++ ps).length (flatZ (qs ++ ps)) → w.grownBy w' v.ownBlock → (v'.ownBlock = v.ownBlock ∨ v'.ownBlock = some w.heap.size) → wpList Try.prog ops Q rest (a.put o.dst v') w') :
    wpList Try.prog ops Q (o :: rest) a w := by
  refine wpList_plain hgd fun K hK => ?_
  obtain ⟨ps, v', w', hq, hrun, h2, h3, h4⟩ := run_growZL w base v qs hown x l hx hb hbase o.type
  unfold Oper.wp execOp
  simp only [ho, resolve, invoke, builtin, Sem.run_bind, Sem.run_pure, Result.andThen_ok, List.map_toArray, List.map_cons, List.map_nil, hs, hye, hrun]
  exact hK _ _ (h ps v' w' hq h2 h3 h4)
theorem ownZ_empty (w : World) (base : Nat) (h : base ≤ w.heap.size) : (w.alloc (.cells #[] 25)).ownsRow base 25 5 (.slice (some ⟨w.heap.size, 0, none⟩) 0 0) ([] : List QuZ).length (flatZ []) :=
  ⟨rfl, .inr ⟨w.heap.size, 0, #[], rfl, h, heap_alloc_new w _, Nat.le_refl _, by unfold maxLen; omega, rfl, rfl⟩⟩
theorem ownZ_at {w : World} {S : Nat → Prop} {f base : Nat} {v : Value} {qs : List QuZ} {ks : List (Sc f)} (h : w.ownsRow base 25 5 v qs.length (flatZ qs)) (hq : QZ w S f qs ks) (j : Nat) (hj : j < ks.length) :
    ∃ g c c0 c1 c2 c3 c4, v = .slice (some ⟨g, 0, none⟩) qs.length c ∧ base ≤ g ∧ g < w.heap.size ∧ w.cell? ⟨g, j * 5, none⟩ = some c0 ∧ w.cell? ⟨g, j * 5 + 1, none⟩ = some c1 ∧ w.cell? ⟨g, j * 5 + 2, none⟩ = some c2 ∧ w.cell? ⟨g, j * 5 + 3, none⟩ = some c3 ∧ w.cell? ⟨g, j * 5 + 4, none⟩ = some c4 ∧
      ZX w S f ks[j] c0 c1 c2 c3 c4 ∧ ∀ k, w.frozen? ⟨g, k, none⟩ = false := by
  obtain ⟨_, h2⟩ := h
  rcases h2 with ⟨rfl, h0⟩ | ⟨g, cap, cur, rfl, hb, hg, hnc, hcm, hcs, htk⟩
  · have := hq.1
    omega
  · have hlt : g < w.heap.size := (Array.getElem?_eq_some_iff.1 hg).1
    have hqi : qs[j]? = some (qs[j]'(by rw [hq.1]; exact hj)) := List.getElem?_eq_getElem _
    obtain ⟨e0, e1, e2, e3, e4⟩ := flatZ_at qs j _ hqi
    have cell : ∀ k u, k < 5 → (flatZ qs)[j * 5 + k]? = some u → w.cell? ⟨g, j * 5 + k, none⟩ = some u := fun k u hk hu => by
      rw [cell_of_row w g (j * 5 + k) cur _ (0, 0) hg]
      rw [← htk, List.getElem?_take] at hu
      split at hu
      · simpa using hu
      · cases hu
    have kb : KB w g 25 cur := hg
    exact ⟨_, cap, _, _, _, _, _, rfl, hb, hlt, cell 0 _ (by omega) e0, cell 1 _ (by omega) e1, cell 2 _ (by omega) e2, cell 3 _ (by omega) e3, cell 4 _ (by omega) e4, hq.2 j _ _ hqi (List.getElem?_eq_getElem hj), kb.free⟩
theorem ownZ_set {w w9 : World} {base g c j : Nat} {qs : List QuZ} {q : QuZ} (h : w.ownsRow base 25 5 (.slice (some ⟨g, 0, none⟩) qs.length c) qs.length (flatZ qs)) (hj : j < qs.length)
    (hw : w9 = ((((w.setCell ⟨g, j * 5, none⟩ q.1).setCell ⟨g, j * 5 + 1, none⟩ q.2.1).setCell ⟨g, j * 5 + 2, none⟩ q.2.2.1).setCell ⟨g, j * 5 + 3, none⟩ q.2.2.2.1).setCell ⟨g, j * 5 + 4, none⟩ q.2.2.2.2) :
    w9.ownsRow base 25 5 (.slice (some ⟨g, 0, none⟩) qs.length c) (qs.set j q).length (flatZ (qs.set j q)) ∧ w.grownBy w9 (some g) := by
  rw [hw, ← flatZ_set qs j q hj, List.length_set]
  exact ⟨own_cell (own_cell (own_cell (own_cell (own_cell h _ _) _ _) _ _) _ _) _ _,
    grown_trans (grown_trans (grown_trans (grown_trans (grown_set _ _ _ _) (grown_set _ _ _ _)) (grown_set _ _ _ _)) (grown_set _ _ _ _)) (grown_set _ _ _ _)⟩
def RowAsZ (S : Nat → Prop) (w : World) (f : Nat) (ks : List (Sc f)) (e : Ending) (w' : World) : Prop :=
  ∃ (v : Value) (qs : List QuZ), e = .returned v ∧ w'.ownsRow w.heap.size 25 5 v qs.length (flatZ qs) ∧ QZ w' S f qs ks ∧ Below w.heap.size w w'
set_option maxHeartbeats 4000000 in
theorem zclone_any (S : Nat → Prop) (f : Nat) (ks : List (Sc f)) (v : Value) (w : World) (hl : ks.length ≤ 1000000) (hv : ZS w S (ZX w S f) v ks) :
    Calls Try.prog 47 #[v] w (RowAsZ S w f ks) := by
  obtain ⟨A, cap, e, hl3, hm3, hn, _⟩ := id hv
  subst e
  obtain ⟨D, hD⟩ : ∃ D, D = RowAsZ S w f ks := ⟨_, rfl⟩
  rw [← hD]
  have HD : Hid (∀ (W : World) (v : Value) (qs : List QuZ), W.ownsRow w.heap.size 25 5 v qs.length (flatZ qs) → QZ W S f qs ks → Below w.heap.size w W → D (.returned v) W) := fun W v qs h1 h2 h3 => by
    rw [hD]; exact ⟨v, qs, rfl, h1, h2, h3⟩
  clear hD
  rcases A with _ | ad
  · obtain rfl := hn rfl
    obtain rfl : ks = [] := List.eq_nil_of_length_eq_zero (by omega)
    have hfin := HD.out w (.slice none 0 0) [] (World.ownsRow_nil _ _ _ _) (QZ.nil _ _ _) (Below.refl _ _)
    clear HD hv hn
    go_enter Try.func47, Try.ntmps47
    go_wp2_with fail
    rw [Lib.run_eql_slice_nil _ 23 25 none 0 0 0 0 Try.underlying23]
    go_wp2_with fail
    exact hfin
  · have hv0 : ZS w (fun b => S b ∧ b < w.heap.size) (ZX w (fun b => S b ∧ b < w.heap.size) f) (.slice (some ad) ks.length cap) ks := by
      have := ZS.mapL (w' := w) (S' := fun b => S b ∧ b < w.heap.size) (E' := ZX w (fun b => S b ∧ b < w.heap.size) f) id hv (Nat.le_refl _) (fun _ _ _ => rfl) (fun b sb hb => ⟨sb, hb⟩) (fun t c0 c1 c2 c3 c4 h => ZX.keepL f t c0 c1 c2 c3 c4 h (Nat.le_refl _) (fun _ _ _ => rfl) (fun b sb hb => ⟨sb, hb⟩))
      rwa [List.map_id] at this
    have OW := ownZ_empty w w.heap.size (Nat.le_refl _)
    have B1 := (Below.refl w.heap.size w).alloc (Nat.le_refl _) (.cells #[] 25)
    have hv1 := hv0.past B1
    clear hv hv0 hn
    go_enter Try.func47, Try.ntmps47
    go_wp2_with fail
    rw [Lib.run_eql_slice_nil _ 23 25 (some ad) _ _ 0 0 Try.underlying23]
    go_wp2_with (at_builtin; go_loud (refine wpList_growZL _ rfl _ _ rfl w.heap.size _ [] rfl OW _ ks rfl hv1 (by simp; omega) B1.size ?_); intro ps v3 w3 hq3 how3 g3 ho3)
    have hfin := HD.out w3 v3 ps how3 (QZ.keepL hq3 g3.size (fun b sb hb => g3.block b hb (fun e => by have := own_ge OW b e.symm; have := sb.2; omega)) fun b sb _ => sb.1) (B1.grown g3 B1.size (fun g e => own_ge OW g e))
    exact hfin
end
section
section
variable {P : Program} {ops : Array Oper} {Q : Exit → Act → World → Prop} {S : World → Prop} {md : Region.Mode} {fuel : Nat} {listed : Array Bool} {a : Act} {w : World}
theorem held_yes (i : Nat) {o : Oper} {v : Value} (hi : ops[i]? = some o) (hs : Region.noSelect ops = true) (hf : Region.free md ops listed i = true) (hr : (Region.ready md ops listed).contains i = true)
    (hQ : ∀ c a w, Q (.panic c) (a.put o.dst v) w → Q (.panic c) a w) (hw : Region.wanted o (yielded ops a.tmps) = true) (hS : S w) (hy : ∀ w, S w → (execOp a.eval o).run P w = .ok (.value v) w)
    (h : wpAnyH P md ops Q S fuel (listed.setIfInBounds i true) (a.put o.dst v) w) : wpAnyH P md ops Q S (fuel + 1) listed a w :=
  wpAnyH_take hi hs hf hr hQ (Or.inl ⟨hw, hy⟩) hS h
theorem held_no (i : Nat) {o : Oper} (hi : ops[i]? = some o) (hs : Region.noSelect ops = true) (hf : Region.free md ops listed i = true) (hr : (Region.ready md ops listed).contains i = true)
    (hQ : ∀ c a w, Q (.panic c) (a.put o.dst undef) w → Q (.panic c) a w) (hw : Region.wanted o (yielded ops a.tmps) = false) (hS : S w)
    (h : wpAnyH P md ops Q S fuel (listed.setIfInBounds i true) (a.put o.dst undef) w) : wpAnyH P md ops Q S (fuel + 1) listed a w :=
  wpAnyH_take hi hs hf hr hQ (Or.inr ⟨hw, rfl⟩) hS h
theorem held_one (i : Nat) {o : Oper} (hr : Region.ready md ops listed = [i]) (hi : ops[i]? = some o) (hw : Region.wanted o (yielded ops a.tmps) = true)
    (h : ∀ K : Act → World → Prop, Shut (∀ a w, S w → (S w → wpAnyH P md ops Q S fuel (listed.setIfInBounds i true) a w) → K a w) → Oper.wp P o a w K Q) : wpAnyH P md ops Q S (fuel + 1) listed a w :=
  wpAnyH_ready hr (by simp) (AllReadyH.cons hi (fun K hK => by rw [if_pos hw]; exact h K hK) AllReadyH.nil)
theorem held_two (i j : Nat) {o p : Oper} (hr : Region.ready md ops listed = [i, j]) (hi : ops[i]? = some o) (hj : ops[j]? = some p) (hw : Region.wanted o (yielded ops a.tmps) = true) (hv : Region.wanted p (yielded ops a.tmps) = true)
    (h : ∀ K : Act → World → Prop, Shut (∀ a w, S w → (S w → wpAnyH P md ops Q S fuel (listed.setIfInBounds i true) a w) → K a w) → Oper.wp P o a w K Q)
    (k : ∀ K : Act → World → Prop, Shut (∀ a w, S w → (S w → wpAnyH P md ops Q S fuel (listed.setIfInBounds j true) a w) → K a w) → Oper.wp P p a w K Q) : wpAnyH P md ops Q S (fuel + 1) listed a w :=
  wpAnyH_ready hr (by simp) (AllReadyH.cons hi (fun K hK => by rw [if_pos hw]; exact h K hK) (AllReadyH.cons hj (fun K hK => by rw [if_pos hv]; exact k K hK) AllReadyH.nil))
theorem held_three (i j l : Nat) {o p q : Oper} (hr : Region.ready md ops listed = [i, j, l]) (hi : ops[i]? = some o) (hj : ops[j]? = some p) (hl : ops[l]? = some q) (hw : Region.wanted o (yielded ops a.tmps) = true) (hv : Region.wanted p (yielded ops a.tmps) = true) (hu : Region.wanted q (yielded ops a.tmps) = true)
    (h : ∀ K : Act → World → Prop, Shut (∀ a w, S w → (S w → wpAnyH P md ops Q S fuel (listed.setIfInBounds i true) a w) → K a w) → Oper.wp P o a w K Q)
    (k : ∀ K : Act → World → Prop, Shut (∀ a w, S w → (S w → wpAnyH P md ops Q S fuel (listed.setIfInBounds j true) a w) → K a w) → Oper.wp P p a w K Q)
    (m : ∀ K : Act → World → Prop, Shut (∀ a w, S w → (S w → wpAnyH P md ops Q S fuel (listed.setIfInBounds l true) a w) → K a w) → Oper.wp P q a w K Q) : wpAnyH P md ops Q S (fuel + 1) listed a w :=
  wpAnyH_ready hr (by simp) (AllReadyH.cons hi (fun K hK => by rw [if_pos hw]; exact h K hK) (AllReadyH.cons hj (fun K hK => by rw [if_pos hv]; exact k K hK) (AllReadyH.cons hl (fun K hK => by rw [if_pos hu]; exact m K hK) AllReadyH.nil)))
theorem held_four (i j l r : Nat) {o p q s : Oper} (hr : Region.ready md ops listed = [i, j, l, r]) (hi : ops[i]? = some o) (hj : ops[j]? = some p) (hl : ops[l]? = some q) (hrr : ops[r]? = some s) (hw : Region.wanted o (yielded ops a.tmps) = true) (hv : Region.wanted p (yielded ops a.tmps) = true) (hu : Region.wanted q (yielded ops a.tmps) = true) (ht : Region.wanted s (yielded ops a.tmps) = true)
    (h : ∀ K : Act → World → Prop, Shut (∀ a w, S w → (S w → wpAnyH P md ops Q S fuel (listed.setIfInBounds i true) a w) → K a w) → Oper.wp P o a w K Q)
    (k : ∀ K : Act → World → Prop, Shut (∀ a w, S w → (S w → wpAnyH P md ops Q S fuel (listed.setIfInBounds j true) a w) → K a w) → Oper.wp P p a w K Q)
    (m : ∀ K : Act → World → Prop, Shut (∀ a w, S w → (S w → wpAnyH P md ops Q S fuel (listed.setIfInBounds l true) a w) → K a w) → Oper.wp P q a w K Q)
    (n : ∀ K : Act → World → Prop, Shut (∀ a w, S w → (S w → wpAnyH P md ops Q S fuel (listed.setIfInBounds r true) a w) → K a w) → Oper.wp P s a w K Q) : wpAnyH P md ops Q S (fuel + 1) listed a w :=
  wpAnyH_ready hr (by simp) (AllReadyH.cons hi (fun K hK => by rw [if_pos hw]; exact h K hK) (AllReadyH.cons hj (fun K hK => by rw [if_pos hv]; exact k K hK) (AllReadyH.cons hl (fun K hK => by rw [if_pos hu]; exact m K hK) (AllReadyH.cons hrr (fun K hK => by rw [if_pos ht]; exact n K hK) AllReadyH.nil))))
end
section
variable {P : Program} {ops : Array Oper} {Q : Exit → Act → World → Prop} {S : World → Prop} {md : Region.Mode} {fuel : Nat} {listed : Array Bool} {a : Act} {w : World}
theorem hyY (d : Option Nat) (i : Nat) {x1 : Op} {x2 : TypeId} {x3 : String} {x4 : Array Edge} {x5 : Option (Nat × Bool)} {v : Value} (hi : ops[i]? = some ⟨d, x1, x2, x3, x4, x5⟩) (hS : S w)
    (h : wpAnyH P md ops Q S fuel (listed.setIfInBounds i true) (a.put d v) w)
    (hs : Region.noSelect ops = true := by kernel_rfl) (hf : Region.free md ops listed i = true := by kernel_rfl) (hr : (Region.ready md ops listed).contains i = true := by kernel_rfl)
    (hQ : ∀ c a w, Q (.panic c) (a.put d v) w → Q (.panic c) a w := by exact fun _ _ _ h => h) (hw : Region.wanted ⟨d, x1, x2, x3, x4, x5⟩ (yielded ops a.tmps) = true := by rfl)
    (hy : ∀ w, S w → (execOp a.eval ⟨d, x1, x2, x3, x4, x5⟩).run P w = .ok (.value v) w := by (intro w hSw; (try dsimp only at hSw); go_simp; with_reducible rfl)) : wpAnyH P md ops Q S (fuel + 1) listed a w :=
  held_yes i hi hs hf hr hQ hw hS hy h
theorem hyN (d : Option Nat) (i : Nat) {x1 : Op} {x2 : TypeId} {x3 : String} {x4 : Array Edge} {x5 : Option (Nat × Bool)} (hi : ops[i]? = some ⟨d, x1, x2, x3, x4, x5⟩) (hS : S w)
    (h : wpAnyH P md ops Q S fuel (listed.setIfInBounds i true) (a.put d undef) w)
    (hs : Region.noSelect ops = true := by kernel_rfl) (hf : Region.free md ops listed i = true := by kernel_rfl) (hr : (Region.ready md ops listed).contains i = true := by kernel_rfl)
    (hQ : ∀ c a w, Q (.panic c) (a.put d undef) w → Q (.panic c) a w := by exact fun _ _ _ h => h) (hw : Region.wanted ⟨d, x1, x2, x3, x4, x5⟩ (yielded ops a.tmps) = false := by rfl) : wpAnyH P md ops Q S (fuel + 1) listed a w :=
  held_no i hi hs hf hr hQ hw hS h
theorem hyO (d : Option Nat) (i : Nat) {x1 : Op} {x2 : TypeId} {x3 : String} {x4 : Array Edge} {x5 : Option (Nat × Bool)} (hi : ops[i]? = some ⟨d, x1, x2, x3, x4, x5⟩)
    (h : ∀ K : Act → World → Prop, Shut (∀ a w, S w → (S w → wpAnyH P md ops Q S fuel (listed.setIfInBounds i true) a w) → K a w) → Oper.wp P ⟨d, x1, x2, x3, x4, x5⟩ a w K Q)
    (hr : Region.ready md ops listed = [i] := by kernel_rfl) (hw : Region.wanted ⟨d, x1, x2, x3, x4, x5⟩ (yielded ops a.tmps) = true := by rfl) : wpAnyH P md ops Q S (fuel + 1) listed a w :=
  held_one i hr hi hw h
end
end
end Go.Proofs.Ytdkmjdcddldjgaa
