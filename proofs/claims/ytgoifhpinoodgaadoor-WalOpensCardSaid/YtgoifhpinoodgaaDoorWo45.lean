/-
  WbJ: The document's own Read (layer 10), over the loaded program: its contract. No condition but what it names.
-/
import Derived.Test.YtgoifhpinoodgaaDoorWo43
import Derived.Test.YtgoifhpinoodgaaDoorWo44
import Derived.Deep.CutRange
import Derived.Deep.RegionHeld3

section
namespace Go.Proofs.YtgoifhpinoodgaaDoor
open Go.RowKit
set_option maxRecDepth 100000
set_option linter.unusedVariables false

def restR (n N k : Nat) (s0 : List UInt8) (Ls D : List (List UInt8)) : List Pt × Bool :=
  match listL k 0 Ls with
  | none => ([], false)
  | some ns => if takesB n N (zipW ns D) = true then (zipW ns D, decide (headL (zipW ns D).length (entriesL (zipW ns D)) = s0)) else ([], false)
theorem readP_one {n N : Nat} {img : List (List UInt8)} (h : ¬ ((getS (img.getD 0 [])).2.2 = 0 ∧ (getS (img.getD 0 [])).1 = 1 ∧ (getS (img.getD 0 [])).2.1.length = 34)) : readP n N img = ([], false) := by
  unfold readP
  rw [if_pos h]
theorem readP_two {n N : Nat} {img : List (List UInt8)} (h : ¬ (1 ≤ numP (getS (img.getD 0 [])).2.1 ∧ numP (getS (img.getD 0 [])).2.1 ≤ roomN n)) : readP n N img = ([], false) := by
  unfold readP
  rw [if_pos h, ite_self]
theorem readP_three {n N : Nat} {img : List (List UInt8)} (h : (getS (img.getD 0 [])).2.2 = 0 ∧ (getS (img.getD 0 [])).1 = 1 ∧ (getS (img.getD 0 [])).2.1.length = 34) (h2 : 1 ≤ numP (getS (img.getD 0 [])).2.1 ∧ numP (getS (img.getD 0 [])).2.1 ≤ roomN n) :
    readP n N img = restR n N (numP (getS (img.getD 0 [])).2.1) (img.getD 0 []) ((img.drop 1).take (listsN (numP (getS (img.getD 0 [])).2.1))) ((img.drop (1 + listsN (numP (getS (img.getD 0 [])).2.1))).take (numP (getS (img.getD 0 [])).2.1)) := by
  unfold readP
  rw [if_neg (fun hh => hh h), if_neg (fun hh => hh h2)]
  rfl
theorem rest_none {n N k : Nat} {s0 : List UInt8} {Ls D : List (List UInt8)} (h : listL k 0 Ls = none) : restR n N k s0 Ls D = ([], false) := by
  unfold restR
  rw [h]
theorem pairs_get : ∀ (b : List UInt8) (j : Nat) (x y : UInt8), b[2 * j]? = some x → b[2 * j + 1]? = some y → (pairsP b)[j]? = some (x.toNat * 256 + y.toNat)
  | [], j, x, y, h, _ => by simp at h
  | [a], j, x, y, _, h => by simp at h
  | a :: c :: r, 0, x, y, h1, h2 => by
    simp at h1 h2
    subst h1 h2
    rfl
  | a :: c :: r, j + 1, x, y, h1, h2 => by
    show (pairsP r)[j]? = _
    refine pairs_get r j x y ?_ ?_
    · rw [← h1, show 2 * (j + 1) = 2 * j + 1 + 1 by omega, List.getElem?_cons_succ, List.getElem?_cons_succ]
    · rw [← h2, show 2 * (j + 1) + 1 = 2 * j + 1 + 1 + 1 by omega, List.getElem?_cons_succ, List.getElem?_cons_succ]

theorem set_self {α : Type} {l : List α} {i : Nat} {a : α} (h : l[i]? = some a) : l.set i a = l := by
  apply List.ext_getElem?
  intro j
  rw [List.getElem?_set]
  by_cases e : i = j
  · subst e
    rw [if_pos rfl, if_pos (List.getElem?_eq_some_iff.1 h).1, h]
  · rw [if_neg e]

/-- A patch of which the number alone is there. -/
def bareQ (x : Nat) : Two2 := ((x : Int), .slice none 0 0)

/-- Block g is a row of patches, of which the first ones are qs. -/
def RowQ (w : World) (g c : Nat) (qs : List Two2) : Prop := ∃ cur : List Value, KB w g 55 cur.toArray ∧ cur.take (qs.length * 2) = flatW qs ∧ qs.length ≤ c ∧ c ≤ maxLen
section
variable {w w' : World} {g c B : Nat} {qs : List Two2}
theorem RowQ.of {v : Value} (h : w.ownsRow B 55 2 v qs.length (flatW qs)) (h0 : 0 < qs.length) : ∃ g c, v = .slice (some ⟨g, 0, none⟩) qs.length c ∧ B ≤ g ∧ v.ownBlock = some g ∧ RowQ w g c qs := by
  obtain ⟨_, h2⟩ := h
  rcases h2 with ⟨_, h1⟩ | ⟨g, cap, cur, rfl, hb, hg, hnc, hcm, hcs, htk⟩
  · omega
  · exact ⟨g, cap, rfl, hb, rfl, cur.toList, by simpa [KB] using hg, by simpa using htk, hnc, hcm⟩
theorem RowQ.lt (h : RowQ w g c qs) : g < w.heap.size := by obtain ⟨cur, k, _⟩ := h; exact k.lt
theorem RowQ.below (h : RowQ w g c qs) (hb : Below w.heap.size w w') : RowQ w' g c qs := by
  obtain ⟨cur, k, r⟩ := h
  exact ⟨cur, k.below hb k.lt, r⟩
theorem RowQ.cells (h : RowQ w g c qs) (i : Nat) (q : Two2) (hi : qs[i]? = some q) : w.cell? ⟨g, i * 2, none⟩ = some (.int .i64 q.1) ∧ w.cell? ⟨g, i * 2 + 1, none⟩ = some q.2 := by
  obtain ⟨cur, k, e, _⟩ := h
  obtain ⟨e0, e1⟩ := flatW_at qs i q hi
  have hil := (List.getElem?_eq_some_iff.1 hi).1
  rw [← e, List.getElem?_take, if_pos (by omega)] at e0 e1
  exact ⟨by rw [k.cell, List.getElem?_toArray]; exact e0, by rw [k.cell, List.getElem?_toArray]; exact e1⟩
theorem RowQ.free (h : RowQ w g c qs) (i : Nat) : w.frozen? ⟨g, i, none⟩ = false := by
  obtain ⟨cur, k, _⟩ := h
  exact k.free i
theorem flatW_set : ∀ (qs : List Two2) (i : Nat) (q : Two2) (u : Value), qs[i]? = some q → flatW (qs.set i (q.1, u)) = (flatW qs).set (i * 2 + 1) u
  | [], i, q, u, h => by simp at h
  | p :: qs, 0, q, u, h => by
    simp at h
    subst h
    rfl
  | p :: qs, i + 1, q, u, h => by
    rw [List.set_cons_succ, flatW_cons, flatW_cons, flatW_set qs i q u (by simpa using h), List.set_append_right _ _ (by simp [two2]; omega)]
    congr 2
    simp [two2]
    omega
theorem RowQ.set (h : RowQ w g c qs) (i : Nat) (q : Two2) (hi : qs[i]? = some q) (u : Value) : RowQ (w.setCell ⟨g, i * 2 + 1, none⟩ u) g c (qs.set i (q.1, u)) := by
  obtain ⟨cur, k, e, h1, h2⟩ := h
  refine ⟨cur.set (i * 2 + 1) u, ?_, ?_, by simpa using h1, h2⟩
  · have := k.put (i * 2 + 1) u
    rwa [List.setIfInBounds_toArray] at this
  · rw [List.length_set, flatW_set qs i q u hi, ← e, List.take_set]
theorem RowQ.ps {S S' : Nat → Prop} {ps : List Pt} (h : RowQ w g c qs) (hq : PT w S qs ps) (hS : ∀ b, S b → S' b) (hg : S' g) : PS w S' (.slice (some ⟨g, 0, none⟩) ps.length c) ps := by
  obtain ⟨cur, k, e, h1, h2⟩ := id h
  refine ⟨_, c, rfl, by rw [← hq.1]; exact h1, h2, (fun h => by cases h), fun h0 => ⟨g, 0, rfl, hg, h.lt, fun i t hi => ?_⟩⟩
  have hil := (List.getElem?_eq_some_iff.1 hi).1
  have hqi : qs[i]? = some (qs[i]'(by rw [hq.1]; exact hil)) := List.getElem?_eq_getElem _
  obtain ⟨e0, e1⟩ := h.cells i _ hqi
  obtain ⟨ea, eb⟩ := hq.2 i _ t hqi hi
  rw [ea] at e0
  rw [Nat.zero_add]
  exact ⟨e0, _, e1, eb.mono hS⟩
end

/-- What Read hands back. -/
def RdAs (w : World) (R : List Pt × Bool) (e : Ending) (w' : World) : Prop :=
  ∃ pv, e = .returned (.tuple #[pv, .bool R.2]) ∧ (R.2 = true → PS w' (fun x => w.heap.size ≤ x ∧ x < w'.heap.size) pv R.1) ∧ Below w.heap.size w w'
theorem RdAs.no {w w' : World} (h : Below w.heap.size w w') : RdAs w ([], false) (.returned (.tuple #[.slice none 0 0, .bool false])) w' := ⟨_, rfl, (fun h => by cases h), h⟩

set_option maxHeartbeats 8000000 in
/-- Read. -/
theorem rread_any (S : Nat → Prop) (v : Value) (img : List (List UInt8)) (n : Nat) (w : World) (h : LS w S v img) (hn : n < img.length) (hN : img.length ≤ 1000) (h256 : ∀ l ∈ img, l.length = 256) :
    Calls Tryd.prog 35 #[v, .int .i64 n] w (RdAs w (readP n img.length img)) := by
  obtain ⟨A, c, rfl, hlc, hcm⟩ := h.form
  obtain ⟨b, o, rfl, sb, hb, hx⟩ := h.at_ (by omega)
  obtain ⟨s0, hv⟩ : ∃ l, img[0]? = some l := ⟨_, List.getElem?_eq_getElem (by omega)⟩
  obtain ⟨X, z, k0, hbs⟩ := hx 0 s0 hv
  rw [Nat.add_zero] at k0
  have hget := rget_sect S _ s0 w hbs
  have hgd : img.getD 0 [] = s0 := by rw [List.getD_eq_getElem?_getD, hv]; rfl
  obtain ⟨N, hNN⟩ : ∃ N, N = img.length := ⟨_, rfl⟩
  rw [← hNN] at hn hN hlc ⊢
  obtain ⟨R, hR⟩ : ∃ R, R = readP n N img := ⟨_, rfl⟩
  have HR := Lib.hid hR
  rw [← hR]
  have D1 : (0 : Int) < (N : Int) := by omega
  obtain ⟨G, hG⟩ : ∃ G, G = getS s0 := ⟨_, rfl⟩
  rw [← hG] at hget
  have HG := Lib.hid hG
  have HGD := Lib.hid hgd
  have HNN := Lib.hid hNN
  have HH := Lib.hid h
  have H256 : Hid (∀ (k : Nat) (l : List UInt8), img[k]? = some l → l.length = 256) := fun k l hk => h256 l (List.mem_of_getElem? hk)
  have HK0 : Hid (∀ W, Below w.heap.size w W → W.cell? ⟨b, o, none⟩ = some (.slice X s0.length z)) := fun W hW => (World.cell?_of_block (w := w) (hW.block b hb)).trans k0
  have HBS0 : Hid (∀ W, Below w.heap.size w W → BS W (fun x => S x ∧ x < w.heap.size) (.slice X s0.length z) s0) := fun W hW => hbs.lt.below hW fun b hb => hb.2
  clear hR hgd hG hx hbs hv hNN h256 h
  go_enter Tryd.func35, Tryd.ntmps35
  go_wp2_with fail
  refine hget.mono ?_
  rintro e w1 ⟨v1, rfl, how1, b1⟩
  obtain ⟨kd, bd, er⟩ := G
  dsimp only at how1 HG
  have hbd := own_BS how1
  obtain ⟨A1, c1, rfl, hc1, hc1m, _⟩ := hbd.form
  clear hget how1 k0
  have HCC : Hid ((getS (img.getD 0 [])) = (kd, bd, er)) := by show _ = _; rw [HGD.out, ← HG.out]
  by_cases d0 : er = 0
  case neg =>
    have hr : R = ([], false) := by rw [HR.out]; exact readP_one fun h => d0 (by rw [HCC.out] at h; exact h.1)
    subst hr
    have D3 : (er != 0) = true := by simp [d0]
    go_wp2_with fail
    go_ret2
    exact RdAs.no b1
  subst d0
  by_cases d1 : kd = 1
  case neg =>
    have hr : R = ([], false) := by rw [HR.out]; exact readP_one fun h => d1 (by rw [HCC.out] at h; exact h.2.1)
    subst hr
    have D3 : (kd != 1) = true := by simp [d1]
    go_wp2_with fail
    go_ret2
    exact RdAs.no b1
  subst d1
  by_cases d2 : bd.length = 34
  case neg =>
    have hr : R = ([], false) := by rw [HR.out]; exact readP_one fun h => d2 (by rw [HCC.out] at h; exact h.2.2)
    subst hr
    have D3 : ((bd.length : Int) != 34) = true := by simp; omega
    have D4 : ¬ (bd.length : Int) = 34 := by omega
    clear d2
    go_wp2_with fail
    go_ret2
    exact RdAs.no b1
  obtain ⟨k, hk⟩ : ∃ k, k = numP bd := ⟨_, rfl⟩
  have H1 : Hid ((getS (img.getD 0 [])).2.2 = 0 ∧ (getS (img.getD 0 [])).1 = 1 ∧ (getS (img.getD 0 [])).2.1.length = 34) := by
    show _ ∧ _ ∧ _
    rw [HCC.out]
    exact ⟨rfl, rfl, d2⟩
  have HKB : Hid (numP (getS (img.getD 0 [])).2.1 = k) := by show _ = _; rw [HCC.out, hk]
  rw [d2] at hbd
  obtain ⟨ba, oa, rfl, _, hba, hcel⟩ := hbd.at_ (by omega)
  obtain ⟨x0, hx0⟩ : ∃ x, bd[0]? = some x := ⟨_, List.getElem?_eq_getElem (by omega)⟩
  obtain ⟨x1, hx1⟩ : ∃ x, bd[1]? = some x := ⟨_, List.getElem?_eq_getElem (by omega)⟩
  have q0 := hcel 0 x0 hx0
  have q1 := hcel 1 x1 hx1
  unfold bv at q0 q1
  rw [Nat.add_zero] at q0
  have hkx : (k : Int) = (x0.toNat : Int) * 256 + (x1.toNat : Int) := by
    rw [hk]
    unfold numP
    rw [List.getD_eq_getElem?_getD, List.getD_eq_getElem?_getD, hx0, hx1]
    simp
  have y0 := x0.toNat_lt
  have y1 := x1.toNat_lt
  obtain ⟨xa, hxa⟩ : ∃ xa : Int, xa = (x0.toNat : Int) := ⟨_, rfl⟩
  obtain ⟨xb, hxb⟩ : ∃ xb : Int, xb = (x1.toNat : Int) := ⟨_, rfl⟩
  rw [← hxa] at q0 hkx
  rw [← hxb] at q1 hkx
  have y2 : 0 ≤ xa ∧ xa < 256 ∧ 0 ≤ xb ∧ xb < 256 := by omega
  obtain ⟨ya1, ya2, yb1, yb2⟩ := y2
  have hrm := fun w => rroom_any n w (by omega)
  obtain ⟨rm, hrmm⟩ : ∃ rm, rm = roomN n := ⟨_, rfl⟩
  rw [← hrmm] at hrm
  have HRM := Lib.hid hrmm
  have hk65 : (k : Int) < 65536 := by omega
  generalize bd.length = m34 at *
  subst d2
  clear hk hcel hx0 hx1 hxa hxb y0 y1 hrmm HG HCC hbd
  go_wp2_with fail
  go_quiet (fail)
  rw [← hkx]
  have B1 := Below_drawn b1 nq
  clear q0 q1 b1 hkx ya1 ya2 yb1 yb2
  generalize w1.drewN nq = w2 at *
  by_cases c0 : 1 ≤ k ∧ k ≤ rm
  case neg =>
    have hr : R = ([], false) := by rw [HR.out]; exact readP_two fun h => c0 (by rw [HKB.out, ← HRM.out] at h; exact h)
    subst hr
    by_cases c1' : 1 ≤ k
    · have D4 : decide ((k : Int) < 1) = false := decide_eq_false (by omega)
      have D4' : ¬ (k : Int) < 1 := by omega
      have D5 : decide ((rm : Int) < (k : Int)) = true := decide_eq_true (by omega)
      have D5' : decide (rm < k) = true := decide_eq_true (by omega)
      have hrm2 := hrm w2
      clear c0 hrm c1'
      go_wp2_with fail
      refine hrm2.mono ?_
      rintro e w' ⟨rfl, rfl⟩
      go_wp2_with fail
      go_ret2
      exact RdAs.no B1
    · have D4 : decide ((k : Int) < 1) = true := decide_eq_true (by omega)
      clear c0 c1'
      go_wp2_with fail
      go_ret2
      exact RdAs.no B1
  obtain ⟨k1, krm⟩ := c0
  have D4 : decide ((k : Int) < 1) = false := decide_eq_false (by omega)
  have D4' : ¬ (k : Int) < 1 := by omega
  have D5 : decide ((rm : Int) < (k : Int)) = false := decide_eq_false (by omega)
  have D5' : decide (rm < k) = false := decide_eq_false (by omega)
  have hrm2 := hrm w2
  have hfit := room_fits (n := n) (k := k) (by rw [← HRM.out]; exact krm)
  have hR3 : R = restR n N k s0 ((img.drop 1).take (listsN k)) ((img.drop (1 + listsN k)).take k) := by
    rw [HR.out, readP_three H1.out (by rw [HKB.out, ← HRM.out]; exact ⟨k1, krm⟩), HKB.out, HGD.out]
  have hli := fun w => rlists_any k w (by omega)
  obtain ⟨M, hM⟩ : ∃ M, M = listsN k := ⟨_, rfl⟩
  have hMb : 120 * M < k + 120 ∧ k ≤ 120 * M := by subst hM; unfold listsN; omega
  have HLN : Hid (listsN k = M) := hM.symm
  rw [← hM] at hli hfit hR3
  obtain ⟨D, hD⟩ : ∃ D, D = (img.drop (1 + M)).take k := ⟨_, rfl⟩
  obtain ⟨Ls, hL⟩ : ∃ Ls, Ls = (img.drop 1).take M := ⟨_, rfl⟩
  rw [← hD, ← hL] at hR3
  have HD2 : Hid (∀ i l, i < k → img[1 + M + i]? = some l → D[i]? = some l) := fun i l hi hl => by rw [hD, List.getElem?_take, if_pos hi, List.getElem?_drop]; exact hl
  have HL2 : Hid (∀ i l, i < M → img[1 + i]? = some l → Ls[i]? = some l) := fun i l hi hl => by rw [hL, List.getElem?_take, if_pos hi, List.getElem?_drop]; exact hl
  have HDl : Hid (D.length = k) := by show _ = _; rw [hD, List.length_take, List.length_drop, ← HNN.out]; omega
  have HLl : Hid (Ls.length = M) := by show _ = _; rw [hL, List.length_take, List.length_drop, ← HNN.out]; omega
  have HR3 := Lib.hid hR3
  have HFIT := Lib.hid hfit
  have HMB := Lib.hid hMb
  have hM10 : M ≤ 1000 := by omega
  have hk10 : k ≤ 1000 := by omega
  have HKR : Hid (k ≤ roomN n) := by show _ ≤ _; rw [← HRM.out]; exact krm
  clear hR3 hM hD hL HR H1 HKB HRM hfit hMb hrm
  go_wp2_with fail
  refine hrm2.mono ?_
  rintro e w' ⟨rfl, rfl⟩
  clear hrm2
  go_wp2_with fail
  go_loopw [10, 11] (fun pv iv wr => ∃ (i : Nat) (ns : List Nat), i ≤ M ∧ iv = .int .i64 i ∧ wr.ownsRow w.heap.size 55 2 pv (ns.map bareQ).length (flatW (ns.map bareQ)) ∧ Hid (ns.length = min (120 * i) k) ∧ Hid (listL k 0 Ls = (listL k i (Ls.drop i)).map (ns ++ ·)) ∧ Below w.heap.size w wr) (fun _ iv _ => M - (intOf iv).toNat)
  case atStart => exact ⟨0, [], by omega, rfl, World.ownsRow_nil _ _ _ _, by show _ = _; simp, by show _ = _; simp, B1⟩
  case round =>
    obtain ⟨i, ns, hi, rfl, how, HNL, HLL2, bl⟩ := hrel
    clear B1
    have hli2 := hli wr
    by_cases hlt : i < M
    · have D6 : decide ((i : Int) < (M : Int)) = true := decide_eq_true (by omega)
      obtain ⟨b', o', ea, _, _, hx⟩ := (HH.out.below' bl).at_ (by rw [← HNN.out]; omega)
      injection ea with ea
      injection ea with ea eo
      subst ea eo
      obtain ⟨si, hsi⟩ : ∃ si, img[1 + i]? = some si := ⟨_, List.getElem?_eq_getElem (by have := HFIT.out; have := HNN.out; omega)⟩
      obtain ⟨XS, zS, kS, hbs⟩ := hx _ si hsi
      have hget := rget_sect _ _ si wr hbs
      have hLi := HL2.out i si hlt hsi
      have HDR : Hid (Ls.drop i = si :: Ls.drop (i + 1)) := by
        show _ = _
        rw [List.drop_eq_getElem_cons (by rw [HLl.out]; exact hlt)]
        congr 1
        exact (List.getElem?_eq_some_iff.1 hLi).2
      obtain ⟨G, hG⟩ : ∃ G, G = getS si := ⟨_, rfl⟩
      rw [← hG] at hget
      have HG := Lib.hid hG
      have d120 : 120 * i < k := by have := HMB.out; omega
      obtain ⟨q, hq⟩ : ∃ q : Nat, q = min 120 (k - 120 * i) := ⟨_, rfl⟩
      have HQ : Hid (q = min 120 (k - 120 * i)) := hq
      have hq3 : q ≤ 120 := by omega
      have HD120 := Lib.hid d120
      have i1 : (1 : Int) + (i : Int) < (N : Int) := by have := HFIT.out; omega
      have i2 : ((1 : Int) + (i : Int)).toNat = 1 + i := by omega
      have i3 : (0 : Int) ≤ (1 : Int) + (i : Int) := by omega
      clear hG hx hbs hsi hLi hq
      go_wp2_with fail
      refine hli2.mono ?_
      rintro e w' ⟨rfl, rfl⟩
      go_wp2_with fail
      refine hget.mono ?_
      rintro e w6 ⟨v6, rfl, how6, b6⟩
      obtain ⟨kd, bd6, er⟩ := G
      dsimp only at how6 HG
      have hbd := own_BS how6
      obtain ⟨A6, c6, rfl, hc6, hc6m, hn6⟩ := hbd.form
      have how' := own_past b6 how
      have BL := bl.trans (b6.mono bl.size)
      clear hget how6 kS
      go_upto_if 78 with fail
      have hqk : (if (120 : Int) < (k : Int) - (i : Int) * 120 then (120 : Int) else (k : Int) - (i : Int) * 120) = (q : Int) := by
        have := HQ.out
        split <;> omega
      generalize (k : Int) - (i : Int) * 120 = kq at *
      have HQK : Hid (∀ bt : Bool, decide ((120 : Int) < kq) = bt → (if bt = true then (120 : Int) else kq) = (q : Int)) := by
        show ∀ _, _
        rintro bt rfl
        simpa using hqk
      clear hqk
      generalize hbt : decide ((120 : Int) < kq) = bt at *
      have HBT := HQK.out bt rfl
      have HBT := Lib.hid HBT
      clear hbt HQK
      go_cut [15] from 77 to 78 (fun v wc => v = .int .i64 (q : Int) ∧ wc = w6)
      case first =>
        cases bt with
        | true =>
          go_wp2_with fail
          go_meet
          exact ⟨congrArg _ HBT.out, rfl⟩
        | false =>
          go_wp2_with fail
          go_meet
          exact ⟨congrArg _ HBT.out, rfl⟩
      case rest =>
        obtain ⟨rfl, hwc⟩ := hcut
        obtain rfl : w6 = wc := hwc.symm
        clear hwc
        by_cases e0 : er = 0 ∧ kd = 2 ∧ bd6.length = 2 * q
        case neg =>
          have hr : R = ([], false) := by
            rw [HR3.out]
            refine rest_none ?_
            rw [HLL2.out, HDR.out, listL, ← HG.out, if_neg]
            · rfl
            · rintro ⟨g1, g2⟩
              refine e0 ⟨?_, g1, by rw [HQ.out]; exact g2⟩
              have := getS_kind (s := si) (by rw [← HG.out]; dsimp only at g1 ⊢; rw [g1]; decide)
              rw [← HG.out] at this
              exact this
          subst hr
          by_cases f0 : er = 0
          · subst f0
            by_cases f1 : kd = 2
            · subst f1
              have D7 : ¬ (bd6.length : Int) = 2 * (q : Int) := by have : ¬ bd6.length = 2 * q := fun h => e0 ⟨rfl, rfl, h⟩; omega
              have D8 : ((bd6.length : Int) != 2 * (q : Int)) = true := by simp; exact D7
              clear e0
              go_wp2_with fail
              go_ret2
              exact RdAs.no BL
            · have D8 : (kd != 2) = true := by simp [f1]
              clear e0 f1
              go_wp2_with fail
              go_ret2
              exact RdAs.no BL
          · have D8 : (er != 0) = true := by simp [f0]
            clear e0 f0
            go_wp2_with fail
            go_ret2
            exact RdAs.no BL
        obtain ⟨rfl, rfl, e2⟩ := e0
        have HLL3 : Hid (listL k 0 Ls = (listL k (i + 1) (Ls.drop (i + 1))).map ((ns ++ pairsP bd6) ++ ·)) := by
          show _ = _
          rw [HLL2.out, HDR.out, listL, ← HG.out, if_pos ⟨rfl, by rw [← HQ.out]; exact e2⟩, Option.map_map]
          congr 1
          funext x
          simp
        have D7 : ((2 * (q : Int)) != 2 * (q : Int)) = false := by simp
        have e3 : (bd6.length : Int) = 2 * (q : Int) := by omega
        have HE3 := Lib.hid e2
        have HPL : Hid ((pairsP bd6).length = q) := pairs_len q bd6 e2
        have OL : Hid (∀ x, u10.ownBlock = some x → x < wr.heap.size) := fun x e => own_lt how e
        have hsep : ∀ x, wr.heap.size ≤ x → u10.ownBlock ≠ some x := fun x hx e => by have := OL.out x e; omega
        have hbr0 : BS w6 (Mine 0 u10 w6) (.slice A6 bd6.length c6) bd6 := hbd.mono fun x hx => ⟨Nat.zero_le _, hx.2, hsep x hx.1⟩
        clear HLL2 HDR HG hbd how bl b6 OL hsep
        clear e2
        go_wp2_with fail
        go_loopw [10, 16] (fun pv jv wr => ∃ j : Nat, j ≤ q ∧ jv = .int .i64 j ∧ wr.ownsRow w.heap.size 55 2 pv ((ns ++ (pairsP bd6).take j).map bareQ).length (flatW ((ns ++ (pairsP bd6).take j).map bareQ)) ∧ BS wr (Mine 0 pv wr) (.slice A6 bd6.length c6) bd6 ∧ Below w.heap.size w wr) (fun _ jv _ => q - (intOf jv).toNat)
        case atStart => exact ⟨0, by omega, rfl, by rw [List.take_zero, List.append_nil]; exact how', hbr0, BL⟩
        case round =>
          obtain ⟨j, hj, rfl, how, hbr, bl⟩ := hrel
          clear hbr0 how' BL D7 e3
          by_cases hjq : j < q
          · obtain ⟨bb, ob, rfl, _⟩ := hbr.at_ (by have := HE3.out; omega)
            obtain ⟨x, hx⟩ : ∃ x, bd6[2 * j]? = some x := ⟨_, List.getElem?_eq_getElem (by have := HE3.out; omega)⟩
            obtain ⟨y, hy⟩ : ∃ y, bd6[2 * j + 1]? = some y := ⟨_, List.getElem?_eq_getElem (by have := HE3.out; omega)⟩
            have hpg := pairs_get bd6 j x y hx hy
            have z0 := x.toNat_lt
            have z1 := y.toNat_lt
            obtain ⟨xv, hxv⟩ : ∃ xv : Int, xv = (x.toNat : Int) := ⟨_, rfl⟩
            obtain ⟨yv, hyv⟩ : ∃ yv : Int, yv = (y.toNat : Int) := ⟨_, rfl⟩
            have hxy : 0 ≤ xv ∧ xv < 256 ∧ 0 ≤ yv ∧ yv < 256 := by omega
            obtain ⟨y1, y2, y3, y4⟩ := hxy
            have HCL : Hid (∀ (W : World) (pv : Value), BS W (Mine 0 pv W) (.slice (some ⟨bb, ob, none⟩) bd6.length c6) bd6 → W.cell? ⟨bb, ob + 2 * j, none⟩ = some (.int .u8 xv) ∧ W.cell? ⟨bb, ob + (2 * j + 1), none⟩ = some (.int .u8 yv)) := fun W pv hW => by
              obtain ⟨b2, o2, ea, _, _, hc⟩ := hW.at_ (by have := HE3.out; omega)
              injection ea with ea
              injection ea with ea eo
              subst ea eo
              rw [hxv, hyv]
              exact ⟨hc _ x hx, hc _ y hy⟩
            obtain ⟨qs, hqs⟩ : ∃ qs, qs = (ns ++ (pairsP bd6).take j).map bareQ := ⟨_, rfl⟩
            have HQ2 : Hid ((ns ++ (pairsP bd6).take (j + 1)).map bareQ = qs ++ [((xv * 256 + yv), .slice none 0 0)]) := by
              show _ = _
              rw [List.take_add_one, hpg, ← List.append_assoc, List.map_append, ← hqs]
              congr 1
              show [bareQ (x.toNat * 256 + y.toNat)] = _
              unfold bareQ
              rw [hxv, hyv]
              push_cast
              rfl
            have HQL : Hid (qs.length + [((xv * 256 + yv), Value.slice none 0 0)].length ≤ 1000000000) := by
              show _ ≤ _
              rw [hqs]
              simp
              have := HNL.out
              omega
            rw [← hqs] at how
            obtain ⟨AP, cP, hAP⟩ := own_form how
            subst hAP
            have u0 : (2 * (j : Int)).toNat = 2 * j := by omega
            have u1 : (2 * (j : Int) + 1).toNat = 2 * j + 1 := by omega
            have u2 : (0 : Int) ≤ 2 * (j : Int) := by omega
            have u3 : 2 * (j : Int) < (bd6.length : Int) := by have := HE3.out; omega
            have u4 : 2 * (j : Int) + 1 < (bd6.length : Int) := by have := HE3.out; omega
            have u5' : (0 : Int) ≤ 2 * (j : Int) + 1 := by omega
            have D6 : decide ((j : Int) < (q : Int)) = true := decide_eq_true (by omega)
            have W0 : IntKind.i64.wrap (2 * (j : Int)) = 2 * (j : Int) := by rw [IntWalk.i64_in _ (by omega)]
            have W1' : IntKind.i64.wrap (2 * (j : Int) + 1) = 2 * (j : Int) + 1 := by rw [IntWalk.i64_in _ (by omega)]
            have W2 : IntKind.i64.wrap (xv * 256) = xv * 256 := by rw [IntWalk.i64_in _ (by omega)]
            have W3 : IntKind.i64.wrap (xv * 256 + yv) = xv * 256 + yv := by rw [IntWalk.i64_in _ (by omega)]
            have W4 : IntKind.i64.wrap xv = xv := by rw [IntWalk.i64_in _ (by omega)]
            have W5 : IntKind.i64.wrap yv = yv := by rw [IntWalk.i64_in _ (by omega)]
            have V0 : (0 : Int) ≤ 2 * (j : Int) ∧ 2 * (j : Int) < (bd6.length : Int) := ⟨u2, u3⟩
            have V1 : (0 : Int) ≤ 2 * (j : Int) + 1 ∧ 2 * (j : Int) + 1 < (bd6.length : Int) := ⟨u5', u4⟩
            have D6' : (j : Int) < (q : Int) := by omega
            obtain ⟨w7, hw7⟩ : ∃ w7, w7 = wr.drew := ⟨_, rfl⟩
            have BL7 : Below w.heap.size w w7 := by rw [hw7]; exact Below_drawn bl 1
            have hbr7 : BS w7 (Mine 0 (.slice AP qs.length cP) w7) (.slice (some ⟨bb, ob, none⟩) bd6.length c6) bd6 := by rw [hw7]; exact hbr.drewN 1
            have how7 : w7.ownsRow w.heap.size 55 2 (.slice AP qs.length cP) qs.length (flatW qs) := by rw [hw7]; exact own_past (Below_drawn (Below.refl wr.heap.size wr) 1) how
            clear hx hy hpg z0 z1 hxv hyv hqs how bl
            go_wp2_with fail
            refine wp_region_held_drew (S := (fun W => W.cell? ⟨bb, ob + 2 * j, none⟩ = some (.int .u8 xv) ∧ W.cell? ⟨bb, ob + (2 * j + 1), none⟩ = some (.int .u8 yv))) (by kernel_rfl) (HCL.out _ _ hbr) (fun hHeld => ?_)
            rw [← hw7] at *
            clear hw7
            refine held_yes (o := ⟨some 97, _, _, _, _, _⟩) (v := ?_) 0 rfl (by kernel_rfl) (by kernel_rfl) (by kernel_rfl) (fun _ _ _ h => h) (by rfl) hHeld (fun w hSw => ?_) ?_
            rotate_left
            · (try dsimp only at hSw)
              go_simp
              with_reducible rfl
            go_frame
            refine held_yes (o := ⟨some 98, _, _, _, _, _⟩) (v := ?_) 1 rfl (by kernel_rfl) (by kernel_rfl) (by kernel_rfl) (fun _ _ _ h => h) (by rfl) hHeld (fun w hSw => ?_) ?_
            rotate_left
            · (try dsimp only at hSw)
              go_simp
              with_reducible rfl
            go_frame
            refine held_yes (o := ⟨some 99, _, _, _, _, _⟩) (v := ?_) 2 rfl (by kernel_rfl) (by kernel_rfl) (by kernel_rfl) (fun _ _ _ h => h) (by rfl) hHeld (fun w hSw => ?_) ?_
            rotate_left
            · (try dsimp only at hSw)
              go_simp
              with_reducible rfl
            go_frame
            refine held_yes (o := ⟨some 100, _, _, _, _, _⟩) (v := ?_) 3 rfl (by kernel_rfl) (by kernel_rfl) (by kernel_rfl) (fun _ _ _ h => h) (by rfl) hHeld (fun w hSw => ?_) ?_
            rotate_left
            · (try dsimp only at hSw)
              go_simp
              with_reducible rfl
            go_frame
            refine held_yes (o := ⟨some 101, _, _, _, _, _⟩) (v := ?_) 4 rfl (by kernel_rfl) (by kernel_rfl) (by kernel_rfl) (fun _ _ _ h => h) (by rfl) hHeld (fun w hSw => ?_) ?_
            rotate_left
            · (try dsimp only at hSw)
              go_simp
              with_reducible rfl
            go_frame
            refine held_yes (o := ⟨some 102, _, _, _, _, _⟩) (v := ?_) 5 rfl (by kernel_rfl) (by kernel_rfl) (by kernel_rfl) (fun _ _ _ h => h) (by rfl) hHeld (fun w hSw => ?_) ?_
            rotate_left
            · (try dsimp only at hSw)
              go_simp
              with_reducible rfl
            go_frame
            refine held_yes (o := ⟨some 103, _, _, _, _, _⟩) (v := ?_) 6 rfl (by kernel_rfl) (by kernel_rfl) (by kernel_rfl) (fun _ _ _ h => h) (by rfl) hHeld (fun w hSw => ?_) ?_
            rotate_left
            · (try dsimp only at hSw)
              go_simp
              with_reducible rfl
            go_frame
            refine held_yes (o := ⟨some 104, _, _, _, _, _⟩) (v := ?_) 7 rfl (by kernel_rfl) (by kernel_rfl) (by kernel_rfl) (fun _ _ _ h => h) (by rfl) hHeld (fun w hSw => ?_) ?_
            rotate_left
            · (try dsimp only at hSw)
              go_simp
              with_reducible rfl
            go_frame
            refine held_yes (o := ⟨some 105, _, _, _, _, _⟩) (v := ?_) 8 rfl (by kernel_rfl) (by kernel_rfl) (by kernel_rfl) (fun _ _ _ h => h) (by rfl) hHeld (fun w hSw => ?_) ?_
            rotate_left
            · (try dsimp only at hSw)
              go_simp
              with_reducible rfl
            go_frame
            refine held_yes (o := ⟨some 106, _, _, _, _, _⟩) (v := ?_) 9 rfl (by kernel_rfl) (by kernel_rfl) (by kernel_rfl) (fun _ _ _ h => h) (by rfl) hHeld (fun w hSw => ?_) ?_
            rotate_left
            · (try dsimp only at hSw)
              go_simp
              with_reducible rfl
            go_frame
            refine held_yes (o := ⟨some 107, _, _, _, _, _⟩) (v := ?_) 10 rfl (by kernel_rfl) (by kernel_rfl) (by kernel_rfl) (fun _ _ _ h => h) (by rfl) hHeld (fun w hSw => ?_) ?_
            rotate_left
            · (try dsimp only at hSw)
              go_simp
              with_reducible rfl
            go_frame
            refine held_yes (o := ⟨some 108, _, _, _, _, _⟩) (v := ?_) 11 rfl (by kernel_rfl) (by kernel_rfl) (by kernel_rfl) (fun _ _ _ h => h) (by rfl) hHeld (fun w hSw => ?_) ?_
            rotate_left
            · (try dsimp only at hSw)
              go_simp
              with_reducible rfl
            go_frame
            refine held_yes (o := ⟨some 109, _, _, _, _, _⟩) (v := ?_) 12 rfl (by kernel_rfl) (by kernel_rfl) (by kernel_rfl) (fun _ _ _ h => h) (by rfl) hHeld (fun w hSw => ?_) ?_
            rotate_left
            · (try dsimp only at hSw)
              go_simp
              with_reducible rfl
            go_frame
            refine held_yes (o := ⟨some 110, _, _, _, _, _⟩) (v := ?_) 13 rfl (by kernel_rfl) (by kernel_rfl) (by kernel_rfl) (fun _ _ _ h => h) (by rfl) hHeld (fun w hSw => ?_) ?_
            rotate_left
            · (try dsimp only at hSw)
              go_simp
              with_reducible rfl
            go_frame
            refine held_yes (o := ⟨some 111, _, _, _, _, _⟩) (v := ?_) 14 rfl (by kernel_rfl) (by kernel_rfl) (by kernel_rfl) (fun _ _ _ h => h) (by rfl) hHeld (fun w hSw => ?_) ?_
            rotate_left
            · (try dsimp only at hSw)
              go_simp
              with_reducible rfl
            go_frame
            refine held_yes (o := ⟨some 112, _, _, _, _, _⟩) (v := ?_) 15 rfl (by kernel_rfl) (by kernel_rfl) (by kernel_rfl) (fun _ _ _ h => h) (by rfl) hHeld (fun w hSw => ?_) ?_
            rotate_left
            · (try dsimp only at hSw)
              go_simp
              with_reducible rfl
            go_frame
            refine held_yes (o := ⟨some 113, _, _, _, _, _⟩) (v := ?_) 16 rfl (by kernel_rfl) (by kernel_rfl) (by kernel_rfl) (fun _ _ _ h => h) (by rfl) hHeld (fun w hSw => ?_) ?_
            rotate_left
            · (try dsimp only at hSw)
              go_simp
              with_reducible rfl
            go_frame
            refine held_one (o := ⟨some 114, _, _, _, _, _⟩) 17 (by kernel_rfl) rfl (by rfl) (fun K hK => ?_)
            go_simp
            have B8 := (Below.refl w7.heap.size w7).alloc (Nat.le_refl _) (.cells #[.int .i64 (xv * 256 + yv), .slice none 0 0] 55)
            have BL8 := BL7.trans (B8.mono BL7.size)
            have how8 := own_past B8 how7
            have hbr8 := hbr7.mine B8
            have hs8 := BL8.size
            have hat := onep_at w7 55 (xv * 256 + yv) (.slice none 0 0)
            refine hK.out _ _ ?_ (fun hH2 => ?_)
            · first | exact q9 | exact HCL.out _ _ hbr8
            clear hHeld hK K
            have hHeld := hH2
            clear hH2
            try go_frame
            refine held_one (o := ⟨some 115, _, _, _, _, _⟩) 18 (by kernel_rfl) rfl (by rfl) (fun K hK => ?_)
            refine wp_growP _ _ rfl w.heap.size (.slice AP qs.length cP) qs rfl how8 ⟨w7.heap.size, 0, none⟩ 1 1 [((xv * 256 + yv), .slice none 0 0)] rfl rfl hat (by intro u hu; simp [flatW, two2] at hu; rcases hu with rfl | rfl <;> rfl) HQL.out hs8 ?_
            intro v9 w9 how9 g9 ho9
            have BL9 := BL8.grown g9 hs8 fun g e => own_ge how8 g e
            have hbr9 := hbr8.minegrow g9 ho9
            have q9 := HCL.out _ _ hbr9
            refine hK.out _ _ ?_ (fun hH2 => ?_)
            · first | exact q9 | exact HCL.out _ _ hbr8
            clear hHeld hK K
            have hHeld := hH2
            clear hH2
            try go_frame
            refine held_yes (o := ⟨some 10, _, _, _, _, _⟩) (v := ?_) 19 rfl (by kernel_rfl) (by kernel_rfl) (by kernel_rfl) (fun _ _ _ h => h) (by rfl) hHeld (fun w hSw => ?_) ?_
            rotate_left
            · (try dsimp only at hSw)
              go_simp
              with_reducible rfl
            go_frame
            refine wpAnyH_done (by kernel_rfl) ?_ _
            clear hHeld hbr8 how8 B8 hat HCL how7 hbr7 hbr g9 ho9 BL7 BL8
            go_wp2_with fail
            go_roundw
            case rel => exact ⟨j + 1, by omega, by go_num, by rw [HQ2.out]; exact how9, hbr9, BL9⟩
            case measure => simp [intOf]; omega
          · obtain rfl : j = q := by omega
            have e1 : (pairsP bd6).take j = pairsP bd6 := List.take_of_length_le (by rw [HPL.out]; exact Nat.le_refl _)
            rw [e1] at how
            have HN4 : Hid ((ns ++ pairsP bd6).length = min (120 * (i + 1)) k) := by
              show _ = _
              rw [List.length_append, HNL.out, HPL.out, HQ.out]
              have := HD120.out
              omega
            have D6 : decide ((j : Int) < (j : Int)) = false := by simp
            clear e1 hbr HPL HQ
            go_wp2_with fail
            go_roundw
            case rel => exact ⟨i + 1, ns ++ pairsP bd6, by omega, by go_num, how, HN4, HLL3, bl⟩
            case measure => simp [intOf]; omega
    · obtain rfl : i = M := by omega
      have hls : listL k 0 Ls = some ns := by
        rw [HLL2.out, List.drop_of_length_le (by rw [HLl.out]; exact Nat.le_refl _)]
        simp [listL]
      obtain ⟨n1, n2, n3⟩ := entries_back hls (by rw [HLl.out, HLN.out]) HDl.out
      obtain ⟨P, hP⟩ : ∃ P, P = zipW ns D := ⟨_, rfl⟩
      have hR4 : R = if takesB n N P = true then (P, decide (headL P.length (entriesL P) = s0)) else ([], false) := by
        rw [HR3.out, hP]
        unfold restR
        rw [hls]
      have HPF : Hid (P.map (·.1) = (ns.map bareQ).map (·.1)) := by
        show _ = _
        rw [hP]
        apply List.ext_getElem
        · simp [zipW, n1, HDl.out]
        · intro i h1 h2
          simp [zipW, bareQ]
      have HPD : Hid (∀ j l, D[j]? = some l → ∃ a, P[j]? = some (a, l)) := fun j l hj => by
        have hjl := (List.getElem?_eq_some_iff.1 hj).1
        refine ⟨((ns[j]'(by rw [n1, ← HDl.out]; exact hjl) : Nat) : Int), ?_⟩
        rw [hP]
        unfold zipW
        rw [List.getElem?_zipWith, hj, List.getElem?_eq_getElem (by rw [n1, ← HDl.out]; exact hjl)]
      rw [← hP] at n2
      have hml : (ns.map bareQ).length = k := by rw [List.length_map, n1]
      obtain ⟨g, cg, hov, hgB, _, hrow⟩ := RowQ.of how (by rw [hml]; omega)
      rw [hml] at hov
      subst hov
      have HR4 := Lib.hid hR4
      have HN2 := Lib.hid n2
      have HQL0 := Lib.hid hml
      have D6 : decide ((i : Int) < (i : Int)) = false := by simp
      clear hls n1 n3 hP hR4 n2 hml HR3 HNL HLL2 how HMB hlt
      go_wp2_with fail
      refine hli2.mono ?_
      rintro e w' ⟨rfl, rfl⟩
      go_wp2_with fail
      go_loopw [17] (fun jv wr => ∃ (j : Nat) (qs : List Two2), j ≤ k ∧ jv = .int .i64 j ∧ Hid (qs.map (·.1) = P.map (·.1)) ∧ RowQ wr g cg qs ∧ PT wr (fun x => w.heap.size ≤ x ∧ x < wr.heap.size ∧ x ≠ g) (qs.take j) (P.take j) ∧ Below w.heap.size w wr) (fun jv _ => k - (intOf jv).toNat)
      case atStart => exact ⟨0, ns.map bareQ, by omega, rfl, HPF.out.symm, hrow, by rw [List.take_zero, List.take_zero]; exact PT.nil _ _, bl⟩
      case round =>
        clear hrow bl HPF hli2
        obtain ⟨j, qs, hj, rfl, HQF, hrow, pt, bl⟩ := hrel
        have hql : qs.length = k := by
          have := congrArg List.length HQF.out
          rw [List.length_map, List.length_map, HN2.out] at this
          exact this
        by_cases hjk : j < k
        · obtain ⟨b', o', ea, _, hbr', hx⟩ := (HH.out.below' bl).at_ (by rw [← HNN.out]; omega)
          injection ea with ea
          injection ea with ea eo
          subst ea eo
          obtain ⟨l, hl⟩ : ∃ l, img[1 + i + j]? = some l := ⟨_, List.getElem?_eq_getElem (by have := HFIT.out; have := HNN.out; omega)⟩
          obtain ⟨XS, zS, kS, hbs⟩ := hx _ l hl
          obtain ⟨a, hPj⟩ := HPD.out j l (HD2.out j l hjk hl)
          obtain ⟨q, hq⟩ : ∃ q, qs[j]? = some q := ⟨_, List.getElem?_eq_getElem (by omega)⟩
          have hqa : q.1 = a := by
            have := congrArg (fun l => l[j]?) HQF.out
            simp only [List.getElem?_map, hq, hPj, Option.map_some, Option.some.injEq] at this
            exact this
          have hcp := copy_any _ _ l wr hbs (by have := H256.out _ l hl; omega)
          have hli3 := hli wr
          obtain ⟨_, c1'⟩ := hrow.cells j q hq
          have i1 : (1 : Int) + (i : Int) + (j : Int) < (N : Int) := by have := HFIT.out; omega
          have i2 : ((1 : Int) + (i : Int) + (j : Int)).toNat = 1 + i + j := by omega
          have i3 : (0 : Int) ≤ (1 : Int) + (i : Int) + (j : Int) := by omega
          have D8 : decide ((j : Int) < (k : Int)) = true := decide_eq_true (by omega)
          have D9 : (j : Int) < (k : Int) := by omega
          have HQ' : Hid (∀ v, (qs.set j (a, v)).take (j + 1) = qs.take j ++ [(a, v)]) := fun v => by
            rw [List.take_add_one, List.getElem?_set_self (by omega), List.take_set_of_le (Nat.le_refl _)]
            rfl
          have HP' : Hid (P.take (j + 1) = P.take j ++ [(a, l)]) := by
            show _ = _
            rw [List.take_add_one, hPj]
            rfl
          have HF' : Hid (∀ v, (qs.set j (a, v)).map (·.1) = P.map (·.1)) := fun v => by
            rw [List.map_set, set_self (a := a) (by rw [List.getElem?_map, hq]; exact congrArg some hqa)]
            exact HQF.out
          have HRS : Hid (∀ (W : World) (v : Value), RowQ W g cg qs → RowQ (W.setCell ⟨g, j * 2 + 1, none⟩ v) g cg (qs.set j (a, v))) := fun W v hW => by
            have := hW.set j q hq v
            rw [hqa] at this
            exact this
          clear hx hbs hl hPj hq hqa hql
          go_wp2_with fail
          refine hli3.mono ?_
          rintro e w' ⟨rfl, rfl⟩
          go_wp2_with fail
          refine hcp.mono ?_
          rintro e w5 ⟨v5, rfl, how5, b5⟩
          have hs := bl.size
          have hgl := hrow.lt
          have hrow5 := hrow.below b5
          have cc : w5.cell? ⟨g, j * 2 + 1, none⟩ = some q.2 := (World.cell?_of_block (w := wr) (b5.block g hgl)).trans c1'
          have ff := hrow5.free (j * 2 + 1)
          have bs5 := own_BS how5
          obtain ⟨A5, c5, rfl, _⟩ := bs5.form
          have BL := bl.trans (b5.mono hs)
          have row6 := HRS.out w5 (.slice A5 l.length c5) hrow5
          have pt5 : PT w5 (fun x => w.heap.size ≤ x ∧ x < w5.heap.size ∧ x ≠ g) (qs.take j) (P.take j) := (pt.below' b5).mono fun x hx => ⟨hx.1, Nat.lt_of_lt_of_le hx.2.1 b5.size, hx.2.2⟩
          have pt6 := pt5.append (PT.one (a := a) (bs5.mono (S' := fun x => w.heap.size ≤ x ∧ x < w5.heap.size ∧ x ≠ g) fun x hx => ⟨by have := hx.1; omega, hx.2, fun e => by have := hx.1; omega⟩))
          rw [← HQ'.out, ← HP'.out] at pt6
          have pt7 := pt6.keepS (w' := w5.setCell ⟨g, j * 2 + 1, none⟩ (.slice A5 l.length c5)) (S' := fun x => w.heap.size ≤ x ∧ x < (w5.setCell ⟨g, j * 2 + 1, none⟩ (.slice A5 l.length c5)).heap.size ∧ x ≠ g) (by simp [World.setCell]) (fun b hb _ => Below.heap_setCell _ ⟨g, j * 2 + 1, none⟩ _ b hb.2.2) fun x hx => ⟨hx.1, by simp [World.setCell]; exact hx.2.1, hx.2.2⟩
          have B6 := BL.setCell (p := ⟨g, j * 2 + 1, none⟩) hgB (.slice A5 l.length c5)
          have HF6 := Lib.hid (HF'.out (.slice A5 l.length c5))
          clear hcp hli3 how5 b5 bs5 hrow hrow5 pt pt5 pt6 BL bl c1'
          go_wp2_with fail
          go_roundw
          case rel => exact ⟨j + 1, _, by omega, by go_num, HF6, row6, pt7, B6⟩
          case measure => simp [intOf]; omega
        · obtain rfl : j = k := by omega
          rw [List.take_of_length_le (by omega), List.take_of_length_le (by rw [HN2.out]; exact Nat.le_refl _)] at pt
          have hps := hrow.ps (S' := fun x => w.heap.size ≤ x ∧ x < wr.heap.size) pt (fun x hx => ⟨hx.1, hx.2.1⟩) ⟨hgB, hrow.lt⟩
          have hrr := rright_any _ _ P n N wr hps (by omega)
          rw [HN2.out] at hps hrr
          have D8 : decide ((j : Int) < (j : Int)) = false := by simp
          obtain ⟨rp, hrp⟩ : ∃ rp, rp = rightP n N P := ⟨_, rfl⟩
          rw [← hrp] at hrr
          clear pt hrow HQF hql hli
          by_cases htk : takesB n N P = true
          · have hr0 : rp = 0 := by
              rw [hrp]
              unfold rightP
              rw [if_pos htk, if_neg (by rw [HN2.out]; have := HKR.out; omega)]
            subst hr0
            have hr : R = (P, decide (headL P.length (entriesL P) = s0)) := by rw [HR4.out, if_pos htk]
            have hlg := fun (W : World) (hW : PS W (fun x => w.heap.size ≤ x ∧ x < wr.heap.size) (.slice (some ⟨g, 0, none⟩) j cg) P) => rlogged_any _ _ P W hW (fun q hq => by have := takes_at htk hq; omega) (by rw [HN2.out]; omega)
            rw [HN2.out] at hlg hr
            obtain ⟨EL, hEL⟩ : ∃ EL, EL = entriesL P := ⟨_, rfl⟩
            rw [← hEL] at hlg hr
            obtain ⟨HDD, hHD⟩ : ∃ x, x = headL j EL := ⟨_, rfl⟩
            rw [← hHD] at hlg hr
            subst hr
            have HLG := Lib.hid hlg
            clear hrp htk hlg hEL hHD HR4 HPD
            go_wp2_with fail
            refine hrr.mono ?_
            rintro e w3 ⟨rfl, b3⟩
            have hps3 := hps.below' b3
            have B3 := bl.trans (b3.mono bl.size)
            have hz3 := b3.size
            clear hrr hps b3 bl
            go_wp2_with fail
            refine (HLG.out w3 hps3).mono ?_
            rintro e w4 ⟨v4, u4', rfl, _, hu4, b4⟩
            have hps4 := hps3.below' b4
            have B4 := B3.trans (b4.mono B3.size)
            obtain ⟨Au, cu, rfl, _⟩ := hu4.form
            have k04 := HK0.out w4 B4
            have hsm := same_is _ _ _ _ HDD s0 w4 hu4 (HBS0.out w4 B4)
            have hs3 := B3.size
            have hz4 := b4.size
            clear hps3 b4 HLG hu4
            go_wp2_with fail
            refine hsm.mono ?_
            rintro e w6 ⟨rfl, b6⟩
            have B6 := B4.trans (b6.mono B4.size)
            have hps6 := hps4.below' b6
            have hs4 := B4.size
            clear hsm hps4
            go_wp2_with fail
            go_ret2
            exact ⟨_, rfl, fun _ => hps6.mono fun x hx => ⟨hx.1, by have := hx.2; have := b6.size; omega⟩, B6⟩
          · have hr1 : rp = 1 := by
              rw [hrp]
              unfold rightP
              rw [if_neg htk]
            subst hr1
            have hr : R = ([], false) := by rw [HR4.out, if_neg htk]
            subst hr
            clear hrp htk
            go_wp2_with fail
            refine hrr.mono ?_
            rintro e w3 ⟨rfl, b3⟩
            have B3 := bl.trans (b3.mono bl.size)
            clear hrr
            go_wp2_with fail
            go_ret2
            exact RdAs.no B3
end Go.Proofs.YtgoifhpinoodgaaDoor
end
