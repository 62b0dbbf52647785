/-
  DcP: The program's closure of a list of terms: its contract, over the loaded program. No condition but what the theorem names.
-/
import Derived.Test.YthgaljgelngmaaaDoorDv37
import Derived.Test.YthgaljgelngmaaaDoorDv38

section
namespace Go.Proofs.YthgaljgelngmaaaDoor
open Go.RowKit
set_option linter.unusedVariables false

theorem mayT_deep : ∀ (f : Nat) (t : Tm f) (d d' : Int), d ≤ d' → mayT f t d = true → mayT f t d' = true
  | 0, t, _, _, _, _ => nomatch t
  | f + 1, (t : Nd (Tm f)), d, d', hd, h => by
    have h' : (decide (1 ≤ d) && ownOk t && (t.kids.all fun u => mayT f u (d - 1)) && (decide (t.kind ≠ 5) || decide (kindAt f t.kids 1 = 2))) = true := h
    show (decide (1 ≤ d') && ownOk t && (t.kids.all fun u => mayT f u (d' - 1)) && (decide (t.kind ≠ 5) || decide (kindAt f t.kids 1 = 2))) = true
    rw [Bool.and_eq_true, Bool.and_eq_true, Bool.and_eq_true, decide_eq_true_eq, List.all_eq_true] at h' ⊢
    exact ⟨⟨⟨by omega, h'.1.1.2⟩, fun u hu => mayT_deep f u (d - 1) (d' - 1) (by omega) (h'.1.2 u hu)⟩, h'.2⟩
theorem mayT_parts : ∀ (f : Nat) (t : Tm f) (d : Int), mayT f t d = true → ∀ x ∈ partsT f t, mayT f x d = true
  | 0, t, _ => nomatch t
  | f + 1, t, d => by
    intro h x hx
    obtain ⟨tk, tn, td, tks⟩ := (t : Nd (Tm f))
    rcases List.mem_cons.1 (show x ∈ ((⟨tk, tn, td, tks⟩ : Nd (Tm f)) : Tm (f + 1)) :: (tks.flatMap fun u => (partsT f u).map (lift f)) from hx) with rfl | hx
    · exact h
    · obtain ⟨v, hv, hx⟩ := List.mem_flatMap.1 hx
      obtain ⟨y, hy, rfl⟩ := List.mem_map.1 hx
      have h'' : (decide (1 ≤ d) && ownOk (⟨tk, tn, td, tks⟩ : Nd (Tm f)) && (tks.all fun u => mayT f u (d - 1)) && (decide (tk ≠ 5) || decide (kindAt f tks 1 = 2))) = true := h
      rw [Bool.and_eq_true, Bool.and_eq_true, List.all_eq_true] at h''
      rw [mayT_lift]
      exact mayT_deep f y (d - 1) d (by omega) (mayT_parts f v (d - 1) (h''.1.2 v hv) y hy)
theorem mayT_univ {f : Nat} {l : List (Tm f)} (h : ∀ t ∈ l, mayT f t 8 = true) : ∀ x ∈ univT f l, mayT f x 8 = true := by
  intro x hx
  obtain ⟨t, ht, hx⟩ := List.mem_flatMap.1 hx
  exact mayT_parts f t 8 (h t ht) x hx
theorem partsU_head : ∀ (f : Nat) (t : Tm f), ∃ r, partsU f t = (⟨f, t⟩ : UT) :: r
  | 0, t => nomatch t
  | f + 1, t => ⟨_, rfl⟩

/-- One of a row's terms, written over. -/
theorem flatQ_set : ∀ (qs : List Quad) (i : Nat) (q : Quad), i < qs.length → ((((flatQ qs).set (i * 4) q.1).set (i * 4 + 1) q.2.1).set (i * 4 + 2) q.2.2.1).set (i * 4 + 3) q.2.2.2 = flatQ (qs.set i q)
  | [], i, q, h => absurd h (by simp)
  | p :: qs, 0, q, h => by rw [flatQ_cons, List.set_cons_zero, flatQ_cons]; rfl
  | p :: qs, i + 1, q, h => by
    rw [flatQ_cons, List.set_cons_succ, flatQ_cons, ← flatQ_set qs i q (by simpa using h)]
    have e : ∀ (k : Nat) (A : List Value) (u : Value), (quad p ++ A).set ((i + 1) * 4 + k) u = quad p ++ A.set (i * 4 + k) u := fun k A u => by
      rw [List.set_append_right _ _ (by simp [quad]; omega)]
      congr 2
      simp [quad]; omega
    have e0 : ∀ (A : List Value) (u : Value), (quad p ++ A).set ((i + 1) * 4) u = quad p ++ A.set (i * 4) u := fun A u => e 0 A u
    rw [e0, e, e, e]
theorem own_set {w : World} {B g c i : Nat} {qs : List Quad} {q : Quad} (h : w.ownsRow B 35 4 (.slice (some ⟨g, 0, none⟩) qs.length c) qs.length (flatQ qs)) (hi : i < qs.length) :
    ((((w.setCell ⟨g, i * 4, none⟩ q.1).setCell ⟨g, i * 4 + 1, none⟩ q.2.1).setCell ⟨g, i * 4 + 2, none⟩ q.2.2.1).setCell ⟨g, i * 4 + 3, none⟩ q.2.2.2).ownsRow B 35 4 (.slice (some ⟨g, 0, none⟩) (qs.set i q).length c) (qs.set i q).length (flatQ (qs.set i q)) := by
  rw [List.length_set]
  obtain ⟨h1, h2⟩ := h
  rcases h2 with ⟨e, _⟩ | ⟨g', cap, cur, e, hb, hg, hnc, hcm, hcs, htk⟩
  · injection e with e; cases e
  · injection e with e1 e2 e3
    injection e1 with e1
    injection e1 with e1
    subst e1 e3
    have kb : KB w g 35 cur := hg
    have k4 := (((kb.put (i * 4) q.1).put (i * 4 + 1) q.2.1).put (i * 4 + 2) q.2.2.1).put (i * 4 + 3) q.2.2.2
    refine ⟨by rw [flatQ_length, List.length_set], .inr ⟨g, c, _, rfl, hb, k4, hnc, hcm, by simpa using hcs, ?_⟩⟩
    simp only [Array.toList_setIfInBounds]
    rw [List.take_set, List.take_set, List.take_set, List.take_set, htk]
    exact flatQ_set qs i q hi
theorem own_frozen {w : World} {B g c : Nat} {qs : List Quad} (h : w.ownsRow B 35 4 (.slice (some ⟨g, 0, none⟩) qs.length c) qs.length (flatQ qs)) (i : Nat) : w.frozen? ⟨g, i, none⟩ = false := by
  obtain ⟨h1, h2⟩ := h
  rcases h2 with ⟨e, _⟩ | ⟨g', cap, cur, e, hb, hg, hnc, hcm, hcs, htk⟩
  · injection e with e; cases e
  · injection e with e1 e2 e3
    injection e1 with e1
    injection e1 with e1
    subst e1
    have kb : KB w g 35 cur := hg
    exact kb.free i

set_option maxHeartbeats 1000000 in
/-- One of a row's terms laid into memory of its own. -/
theorem cl_put {w5 wr w7 w9 : World} {g c j f : Nat} {ps : List Quad} {cl : List (Tm f)} {t : Tm f} {l0 l1 l2 l3 : Value} (how : wr.ownsRow w5.heap.size 35 4 (.slice (some ⟨g, 0, none⟩) ps.length c) ps.length (flatQ ps))
    (hq : QT wr (fun b => b < wr.heap.size ∧ (Value.slice (some ⟨g, 0, none⟩) ps.length c).ownBlock ≠ some b) f ps cl) (b8 : Below wr.heap.size wr w7) (hgt : cl[j]? = some t) (hlt : j < ps.length) (tm8 : TM w7 (fun b => wr.heap.size + 1 ≤ b ∧ b < w7.heap.size) f t l0 l1 l2 l3) (B : Below w5.heap.size w5 wr)
    (hw : w9 = (((w7.setCell ⟨g, j * 4, none⟩ l0).setCell ⟨g, j * 4 + 1, none⟩ l1).setCell ⟨g, j * 4 + 2, none⟩ l2).setCell ⟨g, j * 4 + 3, none⟩ l3) :
    w9.ownsRow w5.heap.size 35 4 (.slice (some ⟨g, 0, none⟩) ps.length c) ps.length (flatQ (ps.set j (l0, l1, l2, l3))) ∧ QT w9 (fun b => b < w9.heap.size ∧ (Value.slice (some ⟨g, 0, none⟩) ps.length c).ownBlock ≠ some b) f (ps.set j (l0, l1, l2, l3)) cl ∧ Below w5.heap.size w5 w9 := by
  have hgB : w5.heap.size ≤ g := own_ge how g rfl
  have hgl : g < wr.heap.size := own_lt how g rfl
  have how8 := own_past b8 how
  have ho9 := own_set (q := (l0, l1, l2, l3)) how8 hlt
  dsimp only at ho9
  rw [← hw, List.length_set] at ho9
  have hgr : w7.grownBy w9 (some g) := by rw [hw]; exact grown_trans (grown_trans (grown_trans (grown_set _ _ _ _) (grown_set _ _ _ _)) (grown_set _ _ _ _)) (grown_set _ _ _ _)
  have hs8 : w9.heap.size = w7.heap.size := by rw [hw]; simp [World.setCell]
  clear hw
  have hk8 : ∀ b, b < w7.heap.size → b ≠ g → w9.heap[b]? = w7.heap[b]? := fun b h1 h2 => hgr.block b h1 fun e => h2 (Option.some.inj e)
  have hgn : ∀ b, (Value.slice (some ⟨g, 0, none⟩) ps.length c).ownBlock ≠ some b → b ≠ g := fun b h e => h (by simp [Value.ownBlock, e])
  refine ⟨ho9, ⟨by rw [List.length_set]; exact hq.1, fun i q u hi hu => ?_⟩, ((B.trans (b8.mono B.size)).grown hgr (Nat.le_trans B.size b8.size) fun x hx => by
    have := Option.some.inj hx
    omega)⟩
  rw [List.getElem?_set] at hi
  by_cases hij : j = i
  · subst hij
    rw [if_pos rfl, if_pos hlt] at hi
    obtain rfl := Option.some.inj hi
    rw [hgt] at hu
    obtain rfl := Option.some.inj hu
    exact TM.keepS f _ _ _ _ _ tm8 (by omega) (fun b hb hl => hk8 b hl (by have := hb.1; omega)) fun b hb => ⟨by have := hb.2; omega, fun e => by have := hb.1; simp [Value.ownBlock] at e; omega⟩
  · rw [if_neg hij] at hi
    exact TM.keepS f _ _ _ _ _ (hq.2 i q u hi hu) (by have := b8.size; omega) (fun b hb hl => (hk8 b (Nat.lt_of_lt_of_le hl b8.size) (hgn b hb.2)).trans (b8.block b hl)) fun b hb => ⟨by have := hb.1; have := b8.size; omega, hb.2⟩

set_option maxHeartbeats 2000000 in
theorem closure_any (S : Nat → Prop) (f : Nat) (l : List (Tm f)) (v : Value) (w : World) (hS : ∀ b, S b → b < w.heap.size) (hsh : Shp w) (hl : KS w S (TM w S f) v l) :
    Calls Tryd.prog 8 #[v] w fun e w' => ∃ u, e = .returned (.tuple #[u, .int .i64 (errT f l)]) ∧ Closed f l w' u (errT f l) ∧ Below w.heap.size w w' := by
  have hchk := dcheck_any S f l v w hS hsh hl
  obtain ⟨A, c, rfl, hlc, hm, _⟩ := id hl
  obtain ⟨E, hE⟩ : ∃ E, E = errT f l := ⟨_, rfl⟩
  rw [← hE] at hchk ⊢
  have HE := Lib.hid hE
  have hE64 : -9223372036854775808 ≤ E ∧ E ≤ 9223372036854775807 := by rcases errT_cases f l with h | h | h <;> omega
  clear hE
  by_cases h0 : E = 0
  · obtain ⟨hmay, hl3, hu2⟩ := errT_ok (HE.out.symm.trans h0)
    subst h0
    have HAP := Lib.hid (fun (w5 : World) (b5 : Below w.heap.size w w5) => apart_any S f l (.slice A l.length c) w5 (fun b hb => Nat.lt_of_lt_of_le (hS b hb) b5.size) (hl.keep b5.size fun b _ hb => b5.block b hb) hmay hu2)
    have HMU : Hid (∀ x ∈ cloT f l, mayT f x 8 = true) := fun x hx => mayT_univ hmay x (cloT_in f l x hx)
    clear hm hmay hl3 hu2 hl HE
    go_enter Tryd.func8, Tryd.ntmps8
    go_wp2_with fail
    refine hchk.mono ?_
    rintro e w5 ⟨rfl, b5⟩
    have hap := HAP.out w5 b5
    clear hchk HAP
    go_wp2_with fail
    refine hap.mono ?_
    rintro e w6 ⟨va, O, rfl, hA, kba, b6⟩
    have B6 := b5.trans (b6.mono b5.size)
    obtain ⟨va', qs, vo, qo, n, L⟩ := id hA.lk
    have hva : va' = va := by
      have h1 := L.kb.cell 0
      have h2 := kba.cell 0
      rw [h1] at h2
      simpa using h2
    subst hva
    have how := L.ro
    have hqt := L.qt
    have hob := fun b => L.ob b
    clear hap L hA kba
    obtain ⟨A6, c6, rfl⟩ := own_form how
    have hlen : qs.length = (cloT f l).length := hqt.1
    have hca : qs.length ≤ 9223372036854775807 := by
      obtain ⟨_, h2⟩ := how
      rcases h2 with ⟨e, h0⟩ | ⟨g', cap', cur, e, hb, hg, hnc, hcm, _⟩
      · omega
      · unfold maxLen at hcm; omega
    have hq0 : QT w6 (fun b => b < w6.heap.size ∧ (Value.slice A6 qs.length c6).ownBlock ≠ some b) f qs (cloT f l) := hqt.mono fun b hb => ⟨Nat.lt_of_lt_of_le (hS b hb) B6.size, fun e => by have := own_ge how b e; have := hS b hb; have := b5.size; omega⟩
    obtain ⟨cl, hcl'⟩ : ∃ cl, cl = cloT f l := ⟨_, rfl⟩
    rw [← hcl'] at hlen hq0 HMU
    clear hqt hob
    have HCL := Lib.hid hcl'
    clear hcl'
    have HLE := Lib.hid hlen
    clear hlen
    generalize hnn : qs.length = nn at *
    go_wp2_with fail
    go_loopw [21] (fun iv wr => ∃ (j : Nat) (ps : List Quad), j ≤ nn ∧ iv = .int .i64 j ∧ ps.length = nn ∧ wr.ownsRow w5.heap.size 35 4 (.slice A6 nn c6) nn (flatQ ps) ∧ QT wr (fun b => b < wr.heap.size ∧ (Value.slice A6 nn c6).ownBlock ≠ some b) f ps cl ∧ Below w5.heap.size w5 wr) (fun iv _ => nn - (intOf iv).toNat)
    case atStart => exact ⟨0, qs, by omega, rfl, hnn, how, hq0, b6⟩
    case round =>
      clear how hq0 b6 B6 hnn
      obtain ⟨j, ps, hj, rfl, hpn, how, hq, B⟩ := hrel
      have BW := b5.trans (B.mono b5.size)
      by_cases hlt : j < nn
      · obtain ⟨t, hgt⟩ : ∃ t, cl[j]? = some t := ⟨_, List.getElem?_eq_getElem (by have := HLE.out; omega)⟩
        subst hpn
        obtain ⟨g, cg, e0, e1, e2, e3, ev, hg, k0, k1, k2, k3, tm, _⟩ := own_at how hq j t hgt
        injection ev with ev1 ev2 ev3
        subst ev1 ev3
        clear ev2
        obtain ⟨i0, i1, X2, n2, z2, X3, n3, z3, rfl, rfl, rfl, rfl⟩ := tm_form tm
        have hmt := HMU.out t (List.mem_of_getElem? hgt)
        have bA := allocO wr (.cells #[.int .i64 i0, .int .u64 i1, .slice X2 n2 z2, .slice X3 n3 z3] 35)
        have hc := parts_new (fun b => b < wr.heap.size ∧ (Value.slice (some ⟨g, 0, none⟩) ps.length c6).ownBlock ≠ some b) f t (.agg #[.int .i64 i0, .int .u64 i1, .slice X2 n2 z2, .slice X3 n3 z3]) (wr.alloc (.cells #[.int .i64 i0, .int .u64 i1, .slice X2 n2 z2, .slice X3 n3 z3] 35)) (fun b hb => Nat.lt_of_lt_of_le hb.1 bA.size) (hsh.below (BW.trans (bA.mono BW.size))) (TV.alloc ⟨_, _, _, _, rfl, tm⟩ _)
        have hpo : partsOf f t = partsU f t := by unfold partsOf; rw [if_pos hmt]
        obtain ⟨rr, hrr⟩ := partsU_head f t
        rw [hpo, hrr] at hc
        clear hpo hrr hmt
        have K0 := KB.new wr 35 #[.int .i64 i0, .int .u64 i1, .slice X2 n2 z2, .slice X3 n3 z3]
        go_wp2_with fail
        refine hc.mono ?_
        rintro e w7 ⟨u, rfl, hu, b7⟩
        have b8 := bA.trans (b7.mono bA.size)
        obtain ⟨A8, c8, rfl, hl8, _, _, hx8⟩ := id hu
        obtain ⟨b9, o9, rfl, ⟨hb9, hb9'⟩, _, hx9⟩ := hx8 (by simp)
        obtain ⟨y0, y1, y2, y3, m0, m1, m2, m3, tm8⟩ := hx9 0 (⟨f, t⟩ : UT) rfl
        rw [Nat.zero_mul, Nat.add_zero] at m0 m1 m2 m3
        obtain ⟨l0, l1, Z2, r2, s2, Z3, r3, s3, rfl, rfl, rfl, rfl⟩ := tm_form tm8
        have how8 := own_past b8 how
        have hne8 : wr.heap.size ≤ w7.heap.size := b8.size
        have hsz1 : (wr.alloc (.cells #[.int .i64 i0, .int .u64 i1, .slice X2 n2 z2, .slice X3 n3 z3] 35)).heap.size = wr.heap.size + 1 := by simp
        obtain ⟨g', c', f0, f1, f2, f3, ev', hg', p0, p1, p2, p3, _, hqj⟩ := own_at how8 (hq.keepS b8.size (fun b sb hl => b8.block b hl) fun _ h => h) j t hgt
        injection ev' with ev1 ev2 ev3
        injection ev1 with ev1
        injection ev1 with ev1
        subst ev1
        subst ev3
        clear ev2
        have r0 := own_frozen how8 (j * 4)
        have r1 := own_frozen how8 (j * 4 + 1)
        have r2' := own_frozen how8 (j * 4 + 2)
        have r3' := own_frozen how8 (j * 4 + 3)
        obtain ⟨w9, hw9⟩ : ∃ w9, w9 = (((w7.setCell ⟨g, j * 4, none⟩ (.int .i64 l0)).setCell ⟨g, j * 4 + 1, none⟩ (.int .u64 l1)).setCell ⟨g, j * 4 + 2, none⟩ (.slice Z2 r2 s2)).setCell ⟨g, j * 4 + 3, none⟩ (.slice Z3 r3 s3) := ⟨_, rfl⟩
        obtain ⟨ho9, hq9, hB9⟩ := cl_put how hq b8 hgt hlt (by rw [hsz1] at tm8; exact tm8) B hw9
        clear hc hu hx8 hx9 tm tm8 how how8 hq hl8 b7
        go_wp2_with fail
        rw [← hw9]
        go_roundw
        case rel => exact ⟨j + 1, _, by omega, by go_num, by rw [List.length_set], ho9, hq9, hB9⟩
        case measure => simp [intOf]; omega
      · obtain rfl : j = nn := by omega
        subst hpn
        have hks := KS_of_own (S := fun b => b < wr.heap.size) how (hq.mono fun b hb => hb.1) fun b _ h => h
        clear how hq
        go_wp2_with fail
        go_ret2
        exact ⟨_, rfl, by have h := HCL.out; subst h; exact Closed.yes hks, BW⟩
  · have hne : ¬ E = 0 := h0
    have g1 : decide (E ≠ 0) = true := decide_eq_true h0
    have g2 : (E != 0) = true := bne_iff_ne.2 h0
    have g3 : (E == 0) = false := beq_eq_false_iff_ne.2 h0
    clear HE hl hm
    go_enter Tryd.func8, Tryd.ntmps8
    go_wp2_with fail
    refine hchk.mono ?_
    rintro e w5 ⟨rfl, b5⟩
    clear hchk
    go_wp2_with fail
    go_ret2
    exact ⟨_, rfl, Closed.nil h0, b5⟩
end Go.Proofs.YthgaljgelngmaaaDoor
end
