/-
  HwA: The program's own (layer 22): holds in memory of their own, over the loaded program: its contract. No condition but the sizes that it names.
  SdB: The program's Match (layer 20): slices.IndexFunc and slices.ContainsFunc of scopes, by a closure; Match, over the loaded program: each one's contract. No condition.
-/
import Derived.Test.YtdkmjdcddldjgaaHy09
import Derived.Test.YtdkmjdcddldjgaaHy10
import Derived.Test.YtdkmjdcddldjgaaHy13
import Derived.Test.YtdkmjdcddldjgaaHy06
import Derived.Laws.EntriesVeiled
import Derived.BigQuiet
import Derived.Deep.QuietTactic
set_option linter.unusedVariables false
set_option maxRecDepth 100000
namespace Go.Proofs.Ytdkmjdcddldjgaa
section
open Go.RowKit Go.ChangeShapes Go.WideShapes Go.Joins
def FewH (f : Nat) (l : List (Hl f)) : Prop := l.length ≤ 1000 ∧ ∀ (i : Nat) (hi : i < l.length), l[i].id.length ≤ 1000000 ∧ fewZ f l[i].sc
theorem FewH.of_small {f : Nat} {l : List (Hl f)} (h : SmallH f l) : FewH f l := ⟨by have := h.1; omega, fun i hi => ⟨by have := (h.2 i hi).1; omega, (h.2 i hi).2⟩⟩
theorem FewH.nil (f : Nat) : FewH f [] := ⟨by simp, fun i hi => absurd hi (by simp)⟩
theorem FewH.one {f : Nat} {t : Hl f} (h1 : t.id.length ≤ 1000000) (h2 : fewZ f t.sc) : FewH f [t] := ⟨by simp, fun i hi => by
  have : i = 0 := by simpa using hi
  subst this
  exact ⟨h1, h2⟩⟩
/-! One cell of a row of holds is another one. -/
def putS (q : SvH) (k : Nat) (u : Value) : SvH :=
  match q, k with
  | (a, b, c, d, e, f, g), 0 => (u, b, c, d, e, f, g)
  | (a, b, c, d, e, f, g), 1 => (a, u, c, d, e, f, g)
  | (a, b, c, d, e, f, g), 2 => (a, b, u, d, e, f, g)
  | (a, b, c, d, e, f, g), 3 => (a, b, c, u, e, f, g)
  | (a, b, c, d, e, f, g), 4 => (a, b, c, d, u, f, g)
  | (a, b, c, d, e, f, g), 5 => (a, b, c, d, e, u, g)
  | (a, b, c, d, e, f, g), _ => (a, b, c, d, e, f, u)
theorem sevH_put (q : SvH) (k : Nat) (hk : k < 7) (u : Value) : (sevH q).set k u = sevH (putS q k u) := by
  obtain ⟨a, b, c, d, e, f, g⟩ := q
  match k, hk with
  | 0, _ => rfl
  | 1, _ => rfl
  | 2, _ => rfl
  | 3, _ => rfl
  | 4, _ => rfl
  | 5, _ => rfl
  | 6, _ => rfl
theorem flatH_put : ∀ (qs : List SvH) (j : Nat) (q : SvH) (k : Nat) (u : Value), qs[j]? = some q → k < 7 → (flatH qs).set (j * 7 + k) u = flatH (qs.set j (putS q k u))
  | [], j, q, k, u, h, _ => by simp at h
  | p :: qs, 0, q, k, u, h, hk => by
    simp at h
    subst h
    rw [List.set_cons_zero, flatH_cons, flatH_cons, Nat.zero_mul, Nat.zero_add, List.set_append_left _ _ (show k < (sevH p).length from hk), sevH_put p k hk]
  | p :: qs, j + 1, q, k, u, h, hk => by
    have ih := flatH_put qs j q k u (by simpa using h) hk
    rw [List.set_cons_succ, flatH_cons, flatH_cons, show (j + 1) * 7 + k = (sevH p).length + (j * 7 + k) by rw [show (sevH p).length = 7 from rfl]; omega, List.set_append_right _ _ (Nat.le_add_right _ _), Nat.add_sub_cancel_left, ih]
theorem KB.putH {w : World} {g t j k : Nat} {qs : List SvH} {q : SvH} (h : KB w g t (flatH qs).toArray) (hq : qs[j]? = some q) (hk : k < 7) (u : Value) : KB (w.setCell ⟨g, j * 7 + k, none⟩ u) g t (flatH (qs.set j (putS q k u))).toArray := by
  have := h.put (j * 7 + k) u
  rw [List.setIfInBounds_toArray, flatH_put qs j q k u hq hk] at this
  exact this
theorem set_at {α : Type} {l : List α} {j : Nat} {q u : α} (h : l[j]? = some q) : (l.set j u)[j]? = some u := by
  have := (List.getElem?_eq_some_iff.1 h).1
  rw [List.getElem?_set_self this]
theorem kbH_at {w : World} {g t j f : Nat} {S : Nat → Prop} {qs : List SvH} {ks : List (Hl f)} (h : KB w g t (flatH qs).toArray) (hq : QH w S f qs ks) (hj : j < ks.length) :
    ∃ c0 c1 c2 c3 c4 c5 c6, qs[j]? = some (c0, c1, c2, c3, c4, c5, c6) ∧ w.cell? ⟨g, j * 7, none⟩ = some c0 ∧ w.cell? ⟨g, j * 7 + 1, none⟩ = some c1 ∧ w.cell? ⟨g, j * 7 + 2, none⟩ = some c2 ∧ w.cell? ⟨g, j * 7 + 3, none⟩ = some c3 ∧ w.cell? ⟨g, j * 7 + 4, none⟩ = some c4 ∧ w.cell? ⟨g, j * 7 + 5, none⟩ = some c5 ∧ w.cell? ⟨g, j * 7 + 6, none⟩ = some c6 ∧ HX w S f ks[j] c0 c1 c2 c3 c4 c5 c6 := by
  have hqi : qs[j]? = some (qs[j]'(by rw [hq.1]; exact hj)) := List.getElem?_eq_getElem _
  obtain ⟨q, hq0⟩ : ∃ q, q = qs[j]'(by rw [hq.1]; exact hj) := ⟨_, rfl⟩
  rw [← hq0] at hqi
  have cell : ∀ k u, k < 7 → (sevH q)[k]? = some u → w.cell? ⟨g, j * 7 + k, none⟩ = some u := fun k u hk hu => by
    rw [h.cell, List.getElem?_toArray, flatH_at qs j _ hqi k hk, hu]
  exact ⟨_, _, _, _, _, _, _, hqi, cell 0 _ (by omega) rfl, cell 1 _ (by omega) rfl, cell 2 _ (by omega) rfl, cell 3 _ (by omega) rfl, cell 4 _ (by omega) rfl, cell 5 _ (by omega) rfl, cell 6 _ (by omega) rfl, hq.2 j _ _ hqi (List.getElem?_eq_getElem hj)⟩
def SHw (S : Nat → Prop) (n : Nat) (b : Nat) : Prop := (S b ∧ b < n) ∨ n < b
structure OwH (S : Nat → Prop) (w : World) (f : Nat) (ks : List (Hl f)) (wr : World) (qs : List SvH) : Prop where
  row : KB wr w.heap.size 47 (flatH qs).toArray
  rd : QH wr (SHw S w.heap.size) f qs ks
  bl : Below w.heap.size w wr
def OwnAs (S : Nat → Prop) (w : World) (f : Nat) (ks : List (Hl f)) (e : Ending) (w' : World) : Prop := ∃ qs, e = .returned (.slice (some ⟨w.heap.size, 0, none⟩) ks.length ks.length) ∧ OwH S w f ks w' qs
theorem OwH.past {S : Nat → Prop} {w wr w5 : World} {f : Nat} {ks : List (Hl f)} {qs : List SvH} (r : OwH S w f ks wr qs) (hb : Below wr.heap.size wr w5) : OwH S w f ks w5 qs :=
  ⟨r.row.below hb r.row.lt, r.rd.below' hb, r.bl.trans (hb.mono r.bl.size)⟩
theorem OwH.turn {S : Nat → Prop} {w w5 w9 : World} {f : Nat} {ks : List (Hl f)} {qs qs' : List SvH} {t : Hl f} {j : Nat} {q : SvH} (r : OwH S w f ks w5 qs) (hg : w5.grownBy w9 (some w.heap.size)) (hk : KB w9 w.heap.size 47 (flatH qs').toArray) (hq' : qs' = qs.set j q)
    (ht : HX w5 (SHw S w.heap.size) f t q.1 q.2.1 q.2.2.1 q.2.2.2.1 q.2.2.2.2.1 q.2.2.2.2.2.1 q.2.2.2.2.2.2) : OwH S w f (ks.set j t) w9 qs' := by
  have hne : ∀ b, SHw S w.heap.size b → some b ≠ some w.heap.size := fun b h e => by
    injection e with e
    rcases h with h | h <;> omega
  refine ⟨hk, ?_, r.bl.grown hg r.bl.size fun k e => by injection e with e; omega⟩
  rw [hq']
  exact (r.rd.keepL hg.size (fun b sb hl => hg.block b hl (hne b sb)) fun b sb _ => sb).set (ht.keepL hg.size (fun b sb hl => hg.block b hl (hne b sb)) fun b sb _ => sb)
theorem OwH.six {S : Nat → Prop} {w w5 w9 : World} {f : Nat} {ks : List (Hl f)} {qs : List SvH} {j m : Nat} {c0 c1 c2 c3 c4 c5 c6 d1 d2 d3 d4 d5 : Value} (r : OwH S w f ks w5 qs) (hj : j < ks.length) (hqj : qs[j]? = some (c0, c1, c2, c3, c4, c5, c6))
    (hm : w.heap.size < m) (hx : ZX w5 (fun b => (SHw S w.heap.size b ∧ b < m) ∨ m ≤ b) f ks[j].sc d1 d2 d3 d4 d5)
    (hw : w9 = (((((w5.setCell ⟨w.heap.size, j * 7, none⟩ c0).setCell ⟨w.heap.size, j * 7 + 1, none⟩ d1).setCell ⟨w.heap.size, j * 7 + 2, none⟩ d2).setCell ⟨w.heap.size, j * 7 + 3, none⟩ d3).setCell ⟨w.heap.size, j * 7 + 4, none⟩ d4).setCell ⟨w.heap.size, j * 7 + 5, none⟩ d5) :
    OwH S w f ks w9 (qs.set j (c0, d1, d2, d3, d4, d5, c6)) := by
  have hH := r.rd.2 j _ _ hqj (List.getElem?_eq_getElem hj)
  have hk : KB w9 w.heap.size 47 (flatH (qs.set j (c0, d1, d2, d3, d4, d5, c6))).toArray := by
    have a0 := r.row.putH (k := 0) hqj (by omega) c0
    have a1 := a0.putH (k := 1) (set_at hqj) (by omega) d1
    rw [List.set_set] at a1
    have a2 := a1.putH (k := 2) (set_at hqj) (by omega) d2
    rw [List.set_set] at a2
    have a3 := a2.putH (k := 3) (set_at hqj) (by omega) d3
    rw [List.set_set] at a3
    have a4 := a3.putH (k := 4) (set_at hqj) (by omega) d4
    rw [List.set_set] at a4
    have a5 := a4.putH (k := 5) (set_at hqj) (by omega) d5
    rw [List.set_set] at a5
    rw [hw]
    exact a5
  have hg : w5.grownBy w9 (some w.heap.size) := by
    rw [hw]
    exact grown_trans (grown_trans (grown_trans (grown_trans (grown_trans (grown_set _ _ _ _) (grown_set _ _ _ _)) (grown_set _ _ _ _)) (grown_set _ _ _ _)) (grown_set _ _ _ _)) (grown_set _ _ _ _)
  have h := r.turn (t := ks[j]) (j := j) (q := (c0, d1, d2, d3, d4, d5, c6)) hg hk rfl ⟨hH.1, hH.2.1, ZX.keepL f _ _ _ _ _ _ hx (Nat.le_refl _) (fun _ _ _ => rfl) (fun b sb _ => sb.elim (fun h => h.1) fun h => .inr (by omega)), hH.2.2.2⟩
  rw [show ks.set j ks[j] = ks by simp] at h
  exact h
theorem elem_holds : Try.prog.elem 22 = 47 := by kernel_rfl
theorem size_hold : (Try.prog.info? 47).map (·.size) = some 7 := by kernel_rfl
theorem make_holds (w : World) (n : Nat) (hn : n ≤ 2000) : ∃ C : List Value, C.length = n * 7 ∧ (Instr.makeSlice 22 (.int .i64 n) (.int .i64 n)).run Try.prog w = .ok (.slice (some ⟨w.heap.size, 0, none⟩) n n) (w.alloc (.cells C.toArray 47)) := by
  obtain ⟨i0, hi, hz0, hz1, hz2⟩ := info_parts info_hold
  have hmk := run_make (P := Try.prog) w 22 47 i0 _ Try.underlying22 hi hz0 .i64 .i64 n n (by omega) (by omega) (by rw [hz2]; omega) (by omega)
  rw [hz1, Int.toNat_natCast] at hmk
  refine ⟨(madeCells _ (n * 7)).toList, ?_, hmk⟩
  rw [Array.length_toList, size_madeCells]
theorem und_holds : Try.prog.underlying 22 = some (.slice (Try.prog.elem 22)) := by rw [elem_holds]; exact Try.underlying22
theorem cut_holds (w : World) (A : Option Addr) (n c k : Nat) (hk : k ≤ n) (hc : n ≤ c) :
    (Instr.slice 22 (.slice A n c) (some (.int .i64 (k : Int))) none none).run Try.prog w = .ok (.slice (if c = k then A else A.map (·.add (k * 7))) (n - k) (c - k)) w := by
  rw [run_slice_l (P := Try.prog) (w := w) (t := 22) (a := A) (len := n) (cap := c) und_holds (kl := .i64) (l := (k : Int)) (by omega) (by omega), elem_holds, Try.sizeOf47]
  simp only [Result.andThen_ok, sliced, Int.toNat_natCast]
set_option maxHeartbeats 16000000 in
theorem hown_any (S : Nat → Prop) (f : Nat) (l m : List (Hl f)) (hfl : FewH f l) (hfm : FewH f m) (v u : Value) (w : World) (hv : HS w S f v l) (hu : HS w S f u m) :
    Calls Try.prog 25 #[v, u] w (OwnAs S w f (l ++ m)) := by
  obtain ⟨Al, cl, ql, rfl, hl1, hl2, hl3, hql, hl4, hl5⟩ := hv.sevens
  obtain ⟨Am, cm, qm, rfl, hm1, hm2, hm3, hqm, hm4, hm5⟩ := hu.sevens
  have hll := hfl.1
  have hml := hfm.1
  have HFEW : Hid (∀ (i : Nat) (hi : i < (l ++ m).length), (l ++ m)[i].id.length ≤ 1000000 ∧ fewZ f (l ++ m)[i].sc) := fun i hi => by
    by_cases h : i < l.length
    · rw [List.getElem_append_left h]; exact hfl.2 i h
    · rw [List.getElem_append_right (by omega)]; exact hfm.2 _ _
  obtain ⟨D, hD⟩ : ∃ D, D = OwnAs S w f (l ++ m) := ⟨_, rfl⟩
  rw [← hD]
  have HD : Hid (∀ (W : World) (qs : List SvH), OwH S w f (l ++ m) W qs → D (.returned (.slice (some ⟨w.heap.size, 0, none⟩) (l ++ m).length (l ++ m).length)) W) := fun W qs h => by rw [hD]; exact ⟨qs, rfl, h⟩
  clear hD
  have hqa : QH w S f (ql ++ qm) (l ++ m) := hql.append hqm
  have hca : (l ++ m).length = l.length + m.length := List.length_append
  have hf1 : (flatH ql).length = l.length * 7 := by rw [flatH_length, hql.1]
  have hf2 : (flatH qm).length = m.length * 7 := by rw [flatH_length, hqm.1]
  have ho1 : ∀ u ∈ flatH ql, u.oneCell' = true := fun u hu => by
    obtain ⟨q, hq, hu⟩ := List.mem_flatMap.1 hu
    exact hl4 q hq u hu
  have ho2 : ∀ u ∈ flatH qm, u.oneCell' = true := fun u hu => by
    obtain ⟨q, hq, hu⟩ := List.mem_flatMap.1 hu
    exact hm4 q hq u hu
  have hfa : flatH (ql ++ qm) = flatH ql ++ flatH qm := flatH_append _ _
  generalize l ++ m = ks at *
  generalize l.length = la at *
  generalize m.length = lm at *
  clear hv hu hql hqm hl4 hm4 hfl hfm
  obtain ⟨n, hn⟩ : ∃ n, n = la + lm := ⟨_, rfl⟩
  obtain ⟨C, hC, hmk⟩ := make_holds w n (by omega)
  have hmk2 : (Instr.makeSlice 22 (.int .i64 ((la : Int) + (lm : Int))) (.int .i64 ((la : Int) + (lm : Int)))).run Try.prog w = .ok (.slice (some ⟨w.heap.size, 0, none⟩) n n) (w.alloc (.cells C.toArray 47)) := by rw [← hmk, hn, Int.natCast_add]
  have K0 := KB.new w 47 C.toArray
  have B0 := (Below.refl w.heap.size w).alloc (Nat.le_refl _) (.cells C.toArray 47)
  obtain ⟨dp, hdp⟩ : ∃ dp, dp = if n = la then some (⟨w.heap.size, 0, none⟩ : Addr) else some ⟨w.heap.size, la * 7, none⟩ := ⟨_, rfl⟩
  have hcut : ∀ W, (Instr.slice 22 (.slice (some ⟨w.heap.size, 0, none⟩) n n) (some (.int .i64 (la : Int))) none none).run Try.prog W = .ok (.slice dp lm lm) W := fun W => by
    rw [cut_holds W _ n n la (by omega) (Nat.le_refl _), show n - la = lm by omega, Option.map_some, add_plain, Nat.zero_add, hdp]
  have s0 : splice C 0 (flatH ql) = flatH ql ++ C.drop (la * 7) := by
    have h := splice_mid [] (C.take (la * 7)) (C.drop (la * 7)) (flatH ql) (by rw [hf1, List.length_take, hC]; omega)
    rw [List.take_append_drop] at h
    exact h
  have hdl : (flatH qm).length = (C.drop (la * 7)).length := by rw [hf2, List.length_drop, hC]; omega
  have s1 : splice (splice C 0 (flatH ql)) (la * 7) (flatH qm) = flatH (ql ++ qm) := by
    have h := splice_mid (flatH ql) (C.drop (la * 7)) [] (flatH qm) hdl
    rw [List.append_nil, List.append_nil, hf1] at h
    rw [hfa, s0, h]
  have s2 : la * 7 + (flatH qm).length ≤ (splice C 0 (flatH ql)).length := by
    rw [s0, List.length_append, hf1, hdl]
    exact Nat.le_refl _
  have HP1 : Hid (0 < (flatH ql).length → ∃ ad, Al = some ad ∧ ∀ j v, (flatH ql)[j]? = some v → (w.alloc (.cells C.toArray 47)).cell? (ad.add j) = some v) := fun h => by
    obtain ⟨b, o, ea, _, hb, hc⟩ := hl5 (by omega)
    exact ⟨_, ea, fun j v hj => by rw [add_plain]; exact (B0.cell hb).trans (hc j v hj)⟩
  have HP2 : Hid (∀ W, Below w.heap.size w W → 0 < (flatH qm).length → dp = some ⟨w.heap.size, la * 7, none⟩ ∧ ∃ ad, Am = some ad ∧ ∀ j v, (flatH qm)[j]? = some v → W.cell? (ad.add j) = some v) := fun W hW h => by
    obtain ⟨b, o, ea, _, hb, hc⟩ := hm5 (by omega)
    exact ⟨by rw [hdp, if_neg (by omega)], _, ea, fun j v hj => by rw [add_plain]; exact (hW.cell hb).trans (hc j v hj)⟩
  have HL1 : Hid ((flatH ql).length = Nat.min la n * 7 ∧ 0 + (flatH ql).length ≤ C.length) := ⟨by rw [hf1, show Nat.min la n = la from Nat.min_eq_left (by omega)], by rw [hf1, hC]; omega⟩
  have HL2 : Hid ((flatH qm).length = Nat.min lm lm * 7) := by show _ = _; rw [hf2, show Nat.min lm lm = lm from Nat.min_self _]
  have HS1 := Lib.hid s1
  have HS2 := Lib.hid s2
  have HR : Hid (∀ W, Below w.heap.size w W → QH W (SHw S w.heap.size) f (ql ++ qm) ks) := fun W hW => (hqa.keepL hW.size (fun b _ hl => hW.block b hl) (S' := SHw S w.heap.size) fun b sb hl => .inl ⟨sb, hl⟩)
  have HN : Hid (n = ks.length) := by show n = _; omega
  have h64 : n ≤ 9223372036854775807 := by omega
  clear hn hmk hl5 hm5 hl3 hm3 hl2 hm2 hl1 hm1 hqa hca hf1 hf2 hfa s0 s1 s2 hdl hC hdp
  have hw0 : w.heap.size < (w.alloc (.cells C.toArray 47)).heap.size := by simp
  go_enter Try.func25, Try.ntmps25
  go_wp2_with (first
    | (refine wpList_copy_rowk rfl (.tmp 14) (.tmp 15) _ _ rfl 47 7 Try.underlying22 size_hold (by omega) (some ⟨w.heap.size, 0, none⟩) Al n n la cl (by rfl) (by rfl) w.heap.size 0 _ C K0 (flatH ql) HL1.out.1 (fun h => ⟨rfl, HP1.out h⟩) HL1.out.2 ho1 ?_; intro w3 k3 g3; have B3 := B0.grown g3 B0.size (fun k e => by injection e with e; omega))
    | (refine wpList_copy_rowk rfl (.tmp 20) (.tmp 21) _ _ rfl 47 7 Try.underlying22 size_hold (by omega) dp Am lm lm lm cm (by rfl) (by rfl) w.heap.size (la * 7) _ _ k3 (flatH qm) HL2.out (HP2.out _ B3) HS2.out ho2 ?_; intro w4 k4 g4; have B4 := B3.grown g4 B3.size (fun k e => by injection e with e; omega); rw [HS1.out] at k4))
  have OW0 : Hid (OwH S w f ks w4 (ql ++ qm)) := ⟨k4, HR.out _ B4, B4⟩
  clear hmk2 K0 B0 hcut HP1 HP2 HL1 HL2 HS1 HS2 HR k3 g3 B3 k4 g4 B4 ho1 ho2 hw0
  go_loopw [25] (fun iv wr => ∃ (j : Nat) (qs : List SvH), j ≤ n ∧ iv = .int .i64 j ∧ Hid (OwH S w f ks wr qs)) (fun iv _ => n - (intOf iv).toNat)
  case atStart => exact ⟨0, _, by omega, rfl, OW0⟩
  case round =>
    clear OW0
    obtain ⟨j, qs, hj, rfl, HR⟩ := hrel
    by_cases hlt : j < n
    · have hltI : (j : Int) < (n : Int) := by omega
      have hjk : j < ks.length := by rw [← HN.out]; exact hlt
      obtain ⟨e0, e1, e2, e3, e4, e5, e6, hqj, k0, k1, k2, k3, k4, k5, k6, hx⟩ := kbH_at HR.out.row HR.out.rd hjk
      obtain ⟨hid, hfz⟩ := HFEW.out j hjk
      have hfr := HR.out.row.free
      have hrl := HR.out.row.lt
      have hB := HR.out.bl
      have hc0 := fun W (hW : Below wr.heap.size wr W) => twin_any f (SHw S w.heap.size) ks[j].sc (.agg #[e1, e2, e3, e4, e5]) W hfz ⟨_, _, _, _, _, rfl, hx.2.2.1.below' hW⟩
      have hcl := fun W => sclone_any ks[j].id (by omega) W
      have h0 := hx.1
      obtain ⟨l0, i1, l2, i3, i4, X5, n5, z5, b6, r0, rfl, rfl, rfl, rfl, rfl, rfl⟩ := hx.form
      obtain ⟨s0, hs0⟩ : ∃ s : ByteArray, strV ks[j].id = .string s := ⟨_, rfl⟩
      obtain ⟨s2, hs2⟩ : ∃ s : ByteArray, strV l2 = .string s := ⟨_, rfl⟩
      clear r0
      rw [hs0] at h0 hcl
      subst h0
      rw [hs2] at k2 hc0 hqj
      have BA := (Below.refl wr.heap.size wr).alloc (Nat.le_refl _) (.cells #[.string s0, .int .i64 i1, .string s2, .int .i64 i3, .int .i64 i4, .slice X5 n5 z5, .bool b6] 47)
      have KA := KB.new wr 47 #[.string s0, .int .i64 i1, .string s2, .int .i64 i3, .int .i64 i4, .slice X5 n5 z5, .bool b6]
      have hwd2 : ∃ wd, (wr.alloc (.cells #[.string s0, .int .i64 i1, .string s2, .int .i64 i3, .int .i64 i4, .slice X5 n5 z5, .bool b6] 47)).drew = wd := ⟨_, rfl⟩
      obtain ⟨wd, hwd⟩ := hwd2
      have BD : Below wr.heap.size wr wd := by rw [← hwd]; exact Below_drawn BA 1
      have KD : KB wd wr.heap.size 47 #[.string s0, .int .i64 i1, .string s2, .int .i64 i3, .int .i64 i4, .slice X5 n5 z5, .bool b6] := by rw [← hwd]; exact KA
      have HWD := Lib.hid hwd
      have HCW : Hid (∀ W, KB W wr.heap.size 47 #[.string s0, .int .i64 i1, .string s2, .int .i64 i3, .int .i64 i4, .slice X5 n5 z5, .bool b6] → W.cell? ⟨wr.heap.size, 0, none⟩ = some (.string s0) ∧ W.cell? ⟨wr.heap.size, 1, none⟩ = some (.int .i64 i1) ∧ W.cell? ⟨wr.heap.size, 2, none⟩ = some (.string s2) ∧ W.cell? ⟨wr.heap.size, 3, none⟩ = some (.int .i64 i3) ∧ W.cell? ⟨wr.heap.size, 4, none⟩ = some (.int .i64 i4) ∧ W.cell? ⟨wr.heap.size, 5, none⟩ = some (.slice X5 n5 z5)) := fun W K => ⟨K.cell 0, K.cell 1, K.cell 2, K.cell 3, K.cell 4, K.cell 5⟩
      have HCELLS : Hid (∀ W, Below wr.heap.size wr W → (∃ u, W.cell? ⟨w.heap.size, j * 7, none⟩ = some u) ∧ (∃ u, W.cell? ⟨w.heap.size, j * 7 + 1, none⟩ = some u) ∧ (∃ u, W.cell? ⟨w.heap.size, j * 7 + 2, none⟩ = some u) ∧ (∃ u, W.cell? ⟨w.heap.size, j * 7 + 3, none⟩ = some u) ∧ (∃ u, W.cell? ⟨w.heap.size, j * 7 + 4, none⟩ = some u) ∧ (∃ u, W.cell? ⟨w.heap.size, j * 7 + 5, none⟩ = some u) ∧ ∀ k, W.frozen? ⟨w.heap.size, k, none⟩ = false) := fun W hb =>
        ⟨⟨_, (hb.cell hrl).trans k0⟩, ⟨_, (hb.cell hrl).trans k1⟩, ⟨_, (hb.cell hrl).trans k2⟩, ⟨_, (hb.cell hrl).trans k3⟩, ⟨_, (hb.cell hrl).trans k4⟩, ⟨_, (hb.cell hrl).trans k5⟩, fun k => (hb.frozen hrl).trans (hfr k)⟩
      have HST : Hid (∀ (w5 w6 w9 : World) (d1 d2 d3 d4 d5 : Value), Below wr.heap.size wr w6 → wr.heap.size ≤ w5.heap.size → ZX w6 (fun b => (SHw S w.heap.size b ∧ b < w5.heap.size) ∨ w5.heap.size ≤ b) f ks[j].sc d1 d2 d3 d4 d5 →
          w9 = (((((w6.setCell ⟨w.heap.size, j * 7, none⟩ (.string s0)).setCell ⟨w.heap.size, j * 7 + 1, none⟩ d1).setCell ⟨w.heap.size, j * 7 + 2, none⟩ d2).setCell ⟨w.heap.size, j * 7 + 3, none⟩ d3).setCell ⟨w.heap.size, j * 7 + 4, none⟩ d4).setCell ⟨w.heap.size, j * 7 + 5, none⟩ d5 →
          Hid (OwH S w f ks w9 (qs.set j (.string s0, d1, d2, d3, d4, d5, .bool b6)))) := fun w5 w6 w9 d1 d2 d3 d4 d5 hb hs hx hw =>
        (HR.out.past hb).six hjk hqj (by omega) hx hw
      have HCL := Lib.hid hcl
      have HTW := Lib.hid hc0
      have hne : w.heap.size ≠ wr.heap.size := by omega
      clear hcl hc0 hx hfr HR hs0 hs2 BA KA hwd hqj hfz hid HFEW HD hB
      go_wp2_with fail
      rename_i KK hKK
      have HKK := Lib.hid hKK
      clear hKK k0 k1 k2 k3 k4 k5 k6
      refine wp_region_held_drew (S := (fun W => W.cell? ⟨wr.heap.size, 0, none⟩ = some (.string s0) ∧ W.cell? ⟨wr.heap.size, 1, none⟩ = some (.int .i64 i1) ∧ W.cell? ⟨wr.heap.size, 2, none⟩ = some (.string s2) ∧ W.cell? ⟨wr.heap.size, 3, none⟩ = some (.int .i64 i3) ∧ W.cell? ⟨wr.heap.size, 4, none⟩ = some (.int .i64 i4) ∧ W.cell? ⟨wr.heap.size, 5, none⟩ = some (.slice X5 n5 z5))) (by kernel_rfl) (by rw [HWD.out]; exact HCW.out _ KD) (fun hHeld => ?_)
      rw [HWD.out] at hHeld ⊢
      refine hyY (some 30) 0 rfl hHeld ?_; go_frame
      refine hyY (some 31) 1 rfl hHeld ?_; go_frame
      refine hyY (some 32) 2 rfl hHeld ?_; go_frame
      refine hyY (some 33) 3 rfl hHeld ?_; go_frame
      refine hyY (some 34) 4 rfl hHeld ?_; go_frame
      refine hyY (some 35) 5 rfl hHeld ?_; go_frame
      refine hyY (some 37) 7 rfl hHeld ?_; go_frame
      refine hyY (some 38) 8 rfl hHeld ?_; go_frame
      refine hyO (some 36) 6 rfl (fun K hK => ?_)
      go_simp
      go_at_call 37
      refine (HCL.out _).mono ?_
      rintro e w5 ⟨rfl, b5⟩
      have KQ := KD.below b5 KD.lt
      have B5 := BD.trans (b5.mono BD.size)
      clear b5 HCL
      go_wp2_with fail
      refine hK.out _ _ ?_ (fun hH2 => ?_)
      · exact HCW.out _ KQ
      clear hHeld hK K; have hHeld := hH2; clear hH2; try go_frame
      refine hyO (some 39) 9 rfl (fun K hK => ?_)
      go_simp
      go_at_call 33
      refine (HTW.out _ B5).mono ?_
      rintro e w6 ⟨v6, rfl, hv6, b6⟩
      obtain ⟨d1, d2, d3, d4, d5, rfl, hx6⟩ := hv6
      obtain ⟨m1, l6, m3, m4, Y5, y5, t5, rfl, rfl, rfl, rfl, rfl⟩ := hx6.form
      obtain ⟨s6, hs6⟩ : ∃ s : ByteArray, strV l6 = .string s := ⟨_, rfl⟩
      rw [hs6] at hx6 ⊢
      have B6 := B5.trans (b6.mono B5.size)
      obtain ⟨w9, hw9⟩ : ∃ w9, w9 = (((((w6.setCell ⟨w.heap.size, j * 7, none⟩ (.string s0)).setCell ⟨w.heap.size, j * 7 + 1, none⟩ (.int .i64 m1)).setCell ⟨w.heap.size, j * 7 + 2, none⟩ (.string s6)).setCell ⟨w.heap.size, j * 7 + 3, none⟩ (.int .i64 m3)).setCell ⟨w.heap.size, j * 7 + 4, none⟩ (.int .i64 m4)).setCell ⟨w.heap.size, j * 7 + 5, none⟩ (.slice Y5 y5 t5) := ⟨_, rfl⟩
      have HN9 := Lib.hid (HST.out w5 w6 w9 _ _ _ _ _ B6 B5.size hx6 hw9)
      replace KQ := KQ.below b6 KQ.lt
      have KQ9 := zKB_far (i := j * 7 + 5) (v := .slice Y5 y5 t5) (zKB_far (i := j * 7 + 4) (v := .int .i64 m4) (zKB_far (i := j * 7 + 3) (v := .int .i64 m3) (zKB_far (i := j * 7 + 2) (v := .string s6) (zKB_far (i := j * 7 + 1) (v := .int .i64 m1) (zKB_far (i := j * 7) (v := .string s0) KQ hne) hne) hne) hne) hne) hne
      rw [← hw9] at KQ9
      have HW9 := Lib.hid hw9
      obtain ⟨⟨u0, g0⟩, ⟨u1, g1⟩, ⟨u2, g2⟩, ⟨u3, g3⟩, ⟨u4, g4⟩, ⟨u5, g5⟩, hfz⟩ := HCELLS.out _ B6
      have f0 := hfz (j * 7)
      have f1 := hfz (j * 7 + 1)
      have f2 := hfz (j * 7 + 2)
      have f3 := hfz (j * 7 + 3)
      have f4 := hfz (j * 7 + 4)
      have f5 := hfz (j * 7 + 5)
      clear hfz hw9 hx6 hs6 HST HCELLS B5 B6 b6 HTW
      go_wp2_with fail
      refine hK.out _ _ ?_ (fun hH2 => ?_)
      · exact HCW.out _ KQ
      clear hHeld hK K; have hHeld := hH2; clear hH2; try go_frame
      refine hyY (some 40) 10 rfl hHeld ?_; go_frame
      refine hyY (some 41) 11 rfl hHeld ?_; go_frame
      refine hyO none 12 rfl (fun K hK => ?_)
      go_simp
      replace KQ := zKB_far (i := j * 7) (v := .string s0) KQ hne
      refine hK.out _ _ ?_ (fun hH2 => ?_)
      · exact HCW.out _ KQ
      clear hHeld hK K; have hHeld := hH2; clear hH2; try go_frame
      refine hyY (some 42) 13 rfl hHeld ?_; go_frame
      refine hyY (some 43) 14 rfl hHeld ?_; go_frame
      refine hyO none 15 rfl (fun K hK => ?_)
      go_simp
      rw [← HW9.out]
      replace KQ := KQ9
      refine hK.out _ _ ?_ (fun hH2 => ?_)
      · exact HCW.out _ KQ
      clear hHeld hK K; have hHeld := hH2; clear hH2; try go_frame
      refine wpAnyH_done (by kernel_rfl) ?_ _
      skip
      have hKK := HKK.out
      clear hHeld KQ KQ9 HW9 g0 g1 g2 g3 g4 g5 f0 f1 f2 f3 f4 f5 HWD HCW KD BD
      go_wp2_with fail
      go_roundw
      case rel => exact ⟨j + 1, _, by omega, by go_num, HN9.out⟩
      case measure => simp [intOf]; omega
    · obtain rfl : j = n := by omega
      have hfin := HD.out wr qs HR.out
      rw [← HN.out] at hfin
      clear HD HR HFEW HN
      go_wp2_with fail
      exact hfin
end
section
open Go.RowKit
theorem ZS.take {α : Type} {w : World} {S : Nat → Prop} {E : α → Value → Value → Value → Value → Value → Prop} {A : Option Addr} {n c : Nat} {ks : List α} (h : ZS w S E (.slice A n c) ks) (k : Nat) (hk : k ≤ ks.length) : ZS w S E (.slice A k c) (ks.take k) := by
  obtain ⟨A', c', e, hl, hc, hn, hx⟩ := h
  injection e with e1 e2 e3
  subst e1 e3
  refine ⟨A, c, by rw [List.length_take, Nat.min_eq_left hk], by rw [List.length_take]; omega, hc, hn, fun h0 => ?_⟩
  rw [List.length_take] at h0
  obtain ⟨b, o, ea, sb, hb, hx⟩ := hx (by omega)
  refine ⟨b, o, ea, sb, hb, fun i t hi => hx i t ?_⟩
  rw [List.getElem?_take] at hi
  split at hi
  · exact hi
  · cases hi
def TellsZ (S : Nat → Prop) (F gr f : Nat) (cs : Array Value) (q : Sc f → Bool) : Prop :=
  ∀ (t : Sc f) (v : Value) (W : World), KB W gr 40 cs → ZV W S f v t → Calls Try.prog F #[v, .pointer (some ⟨gr, 0, none⟩)] W fun e w' => e = .returned (.bool (q t)) ∧ Below W.heap.size W w'
set_option maxHeartbeats 4000000 in
theorem zpidx_any (S : Nat → Prop) (F gr f : Nat) (cs : Array Value) (q : Sc f → Bool) (hrun : ∀ (args : Array Value) (W : World), (callFunc F args).run Try.prog W = .ok (.enter F args) W) (hF : TellsZ S F gr f cs q) (ks : List (Sc f)) (v : Value) (w : World) (hg : KB w gr 40 cs) (hks : ZS w S (ZX w S f) v ks) :
    Calls Try.prog 64 #[v, .func (.func F) #[] #[.pointer (some ⟨gr, 0, none⟩)]] w fun e w' => ∃ i : Int, e = .returned (.int .i64 i) ∧ decide (0 ≤ i) = ks.any q ∧ Below w.heap.size w w' := by
  obtain ⟨A3, cap3, rfl, hl3, hm3⟩ := hks.form
  have hlen : ks.length ≤ 9223372036854775807 := by unfold maxLen at hm3; omega
  have hgl := hg.lt
  have HCK : Hid (∀ W, Below w.heap.size w W → KB W gr 40 cs) := fun W h => hg.below h hgl
  have HN : Hid ((∀ (i : Nat) (hi : i < ks.length), q ks[i] = false) → ks.any q = false) := fun h => zany_none h
  have HY : Hid (∀ (i : Nat) (hi : i < ks.length), q ks[i] = true → ks.any q = true) := fun i hi h => zany_stop hi h
  clear hg
  obtain ⟨D, hD⟩ : ∃ D : Ending → World → Prop, D = fun e w' => ∃ i : Int, e = .returned (.int .i64 i) ∧ decide (0 ≤ i) = ks.any q ∧ Below w.heap.size w w' := ⟨_, rfl⟩
  have HD : Hid (∀ (i : Int) W, decide (0 ≤ i) = ks.any q → Below w.heap.size w W → D (.returned (.int .i64 i)) W) := fun i W h hb => by rw [hD]; exact ⟨i, rfl, h, hb⟩
  rw [← hD]
  clear hD
  generalize ks.any q = r at *
  go_enter Try.func64, Try.ntmps64
  go_wp2_with fail
  go_loopw [8] (fun iv wr => ∃ j : Nat, j ≤ ks.length ∧ iv = .int .i64 j ∧ Hid (∀ (i : Nat) (hi : i < ks.length), i < j → q ks[i] = false) ∧ Below w.heap.size w wr) (fun iv _ => ks.length - (intOf iv).toNat)
  case atStart => exact ⟨0, by omega, rfl, fun i _ h => absurd h (Nat.not_lt_zero _), Below.refl _ _⟩
  case round =>
    obtain ⟨j, hj, rfl, hall, B⟩ := hrel
    by_cases hlt : j < ks.length
    · have hltI : (j : Int) < (ks.length : Int) := by omega
      obtain ⟨b, o, e0, e1, e2, e3, e4, rfl, hb, k0, k1, k2, k3, k4, hv⟩ := kid_zb hks rfl B j hlt
      have HY2 := Lib.hid (fun h => HY.out j hlt h)
      have HN2 : Hid (q ks[j] = false → ∀ (i : Nat) (hi : i < ks.length), i < j + 1 → q ks[i] = false) := fun h i hi hij => by
        rcases Nat.lt_or_ge i j with h' | h'
        · exact hall.out i hi h'
        · obtain rfl : i = j := by omega
          exact h
      have hc := hF ks[j] _ wr (HCK.out wr B) hv
      obtain ⟨_, _, _, _, _, e, hx4⟩ := hv
      injection e with e
      simp only [Array.mk.injEq, List.cons.injEq, and_true] at e
      obtain ⟨rfl, rfl, rfl, rfl, rfl⟩ := e
      obtain ⟨i0, l1, i2, i3, X4, n4, z4, rfl, rfl, rfl, rfl, rfl⟩ := hx4.form
      unfold strV at *
      generalize (⟨l1.toArray⟩ : ByteArray) = s1 at *
      clear hx4 hks HN hall hF
      generalize q ks[j] = p at *
      go_wp2_with fail
      refine hc.mono ?_
      rintro e w5 ⟨rfl, b5⟩
      have B5 := B.trans (b5.mono B.size)
      clear hc b5 B k0 k1 k2 k3 k4
      cases p with
      | false =>
        have hn := Lib.hid (HN2.out rfl)
        clear HN2 HY2
        go_wp2_with fail
        go_roundw
        case rel => exact ⟨j + 1, by omega, by go_num, hn, B5⟩
        case measure => simp [intOf]; omega
      | true =>
        obtain rfl := HY2.out rfl
        clear HN2 HY2 HY
        have hd := HD.out (j : Int) w5 (by simp) B5
        go_wp2_with fail
        first | exact hd | (go_ret; exact hd)
    · obtain rfl : r = false := HN.out fun i hi => hall.out i hi (by omega)
      clear HN HY hall hF
      have hd := HD.out (-1) wr (by decide) B
      go_wp2_with fail
      first | exact hd | (go_ret; exact hd)
theorem zpcon_any (S : Nat → Prop) (F gr f : Nat) (cs : Array Value) (q : Sc f → Bool) (hrun : ∀ (args : Array Value) (W : World), (callFunc F args).run Try.prog W = .ok (.enter F args) W) (hF : TellsZ S F gr f cs q) (ks : List (Sc f)) (v : Value) (w : World) (hg : KB w gr 40 cs) (hks : ZS w S (ZX w S f) v ks) :
    Calls Try.prog 56 #[v, .func (.func F) #[] #[.pointer (some ⟨gr, 0, none⟩)]] w fun e w' => e = .returned (.bool (ks.any q)) ∧ Below w.heap.size w w' := by
  have hc := zpidx_any S F gr f cs q hrun hF ks v w hg hks
  obtain ⟨A3, cap3, rfl, hl3, hm3⟩ := hks.form
  clear hks hF hg
  generalize ks.any q = r at *
  go_enter Try.func56, Try.ntmps56
  go_wp2_with fail
  refine hc.mono ?_
  rintro e w5 ⟨i, rfl, rfl, b5⟩
  clear hc hrun
  go_wp2_with fail
  go_ret
  exact ⟨rfl, b5⟩
end
end Go.Proofs.Ytdkmjdcddldjgaa
