/-
  CmV: Lists of texts of a call's own: what they read as, and append onto them. No condition.
  Same: The document's Same (layer 1), over the loaded program: its contract. No condition but the sizes that it names.
  DkG: What the statements of layer 8 hand in: Full; num; live; over the loaded program. No condition.
  DkL: live: the page's examples, over the loaded program. No condition.
  WaP: Patches in memory: what a slice of them reads as, rows of them of a call's own, append onto these; a log in memory. No condition.
  GauF: Whole numbers as floats: what '+', '-', '*', '<' and the conversion back answer of floats that hold whole numbers below 2^53. No program, no condition but the sizes that each lemma names.
-/
import Derived.Test.YteddmnoeljakpaaGreatDoorSw01
import Derived.Test.YteddmnoeljakpaaGreatDoorSw10
import Derived.Test.YteddmnoeljakpaaGreatDoorSw02
import Derived.WalkKit
import Derived.Test.YteddmnoeljakpaaGreatDoorSw00
import Derived.WalkSpells
import Derived.BigQuiet
import Derived.Deep.QuietTactic
import Derived.Test.YteddmnoeljakpaaGreatDoorSw05
import Derived.Test.YteddmnoeljakpaaGreatDoorSw03
import Derived.WalkLawsBesides
set_option linter.unusedVariables false
set_option maxRecDepth 100000
namespace Go.Proofs.YteddmnoeljakpaaGreatDoor
section
open Go.RowKit Go.Joins
theorem info_slice : (Tryz.prog.info? 55).map (fun i => (i.zero, i.size, i.bytes)) = some (some (.slice none 0 0), 1, 24) := by kernel_rfl
def VS (w : World) (S : Nat → Prop) (vs : List Value) (ls : List (List UInt8)) : Prop :=
  vs.length = ls.length ∧ ∀ (i : Nat) (v : Value) (l : List UInt8), vs[i]? = some v → ls[i]? = some l → BS w S v l
section
variable {w w' : World} {S S' : Nat → Prop} {vs us : List Value} {ls ms : List (List UInt8)}
theorem VS.below' (h : VS w S vs ls) (hb : Below w.heap.size w w') : VS w' S vs ls := ⟨h.1, fun i v l hv hl => (h.2 i v l hv hl).below' hb⟩
theorem VS.mono (h : VS w S vs ls) (hS : ∀ b, S b → S' b) : VS w S' vs ls := ⟨h.1, fun i v l hv hl => (h.2 i v l hv hl).mono hS⟩
theorem VS.keep (h : VS w S vs ls) (hs : w.heap.size ≤ w'.heap.size) (hk : ∀ b, S b → b < w.heap.size → w'.heap[b]? = w.heap[b]?) : VS w' S vs ls :=
  ⟨h.1, fun i v l hv hl => (h.2 i v l hv hl).keep hs hk⟩
theorem VS.append (h : VS w S vs ls) (g : VS w S us ms) : VS w S (vs ++ us) (ls ++ ms) := by
  refine ⟨by rw [List.length_append, List.length_append, h.1, g.1], fun i v l hv hl => ?_⟩
  rcases Nat.lt_or_ge i vs.length with hi | hi
  · rw [List.getElem?_append_left hi] at hv
    rw [List.getElem?_append_left (by rw [← h.1]; exact hi)] at hl
    exact h.2 i v l hv hl
  · rw [List.getElem?_append_right hi] at hv
    rw [List.getElem?_append_right (by rw [← h.1]; exact hi), ← h.1] at hl
    exact g.2 _ v l hv hl
theorem VS.one {v : Value} {l : List UInt8} (h : BS w S v l) : VS w S [v] [l] := by
  refine ⟨rfl, fun i u m hu hm => ?_⟩
  match i, hu, hm with
  | 0, hu, hm => simp at hu hm; subst hu hm; exact h
end
theorem LS_of_own {w : World} {S : Nat → Prop} {base : Nat} {v : Value} {vs : List Value} {ls : List (List UInt8)} (h : w.ownsRow base 55 1 v vs.length vs) (hq : VS w S vs ls)
    (hS : ∀ b, base ≤ b → b < w.heap.size → S b) : LS w S v ls := by
  obtain ⟨_, h2⟩ := h
  rw [hq.1] at h2
  rcases h2 with ⟨rfl, h0⟩ | ⟨g, cap, cur, rfl, hb, hg, hnc, hcm, hcs, htk⟩
  · obtain rfl : ls = [] := List.eq_nil_of_length_eq_zero h0
    exact LS.nil _ _
  · have hlt : g < w.heap.size := (Array.getElem?_eq_some_iff.1 hg).1
    refine ⟨_, cap, rfl, hnc, hcm, fun h0 => ⟨g, 0, rfl, hS g hb hlt, hlt, fun i t hi => ?_⟩⟩
    have hil := (List.getElem?_eq_some_iff.1 hi).1
    obtain ⟨u, hqi⟩ : ∃ u, vs[i]? = some u := ⟨_, List.getElem?_eq_getElem (by rw [hq.1]; exact hil)⟩
    refine ⟨u, ?_, hq.2 i _ t hqi hi⟩
    rw [cell_of_row w g (0 + i) cur _ (0, 0) hg, Nat.zero_add]
    have := congrArg (fun l => l[i]?) htk
    simp only [List.getElem?_take] at this
    rw [if_pos (by omega), hqi] at this
    simpa using this
theorem run_growL (w : World) (base : Nat) (v : Value) (vs : List Value) (hown : w.ownsRow base 55 1 v vs.length vs) (ad : Addr) (c : Nat) (us : List Value) (hx : ∀ j u, us[j]? = some u → w.cell? (ad.add j) = some u)
    (h1 : ∀ u ∈ us, u.oneCell' = true) (hb : vs.length + us.length ≤ 1000000000) (hbase : base ≤ w.heap.size) (ty : TypeId) :
    ∃ v' w', (Builtin.append_ #[100, 100] ty #[v, .slice (some ad) us.length c]).run Tryz.prog w = .ok v' w' ∧ w'.ownsRow base 55 1 v' (vs ++ us).length (vs ++ us) ∧ w.grownBy w' v.ownBlock ∧
      (v'.ownBlock = v.ownBlock ∨ v'.ownBlock = some w.heap.size) := by
  obtain ⟨i0, hi, hz0, hz1, hz2⟩ := info_parts info_slice
  obtain ⟨v', w', a1, a2, a3, _, a5⟩ := run_append_own_at (P := Tryz.prog) (w := w) base 100 ty 55 i0 _ 1 24 Tryz.underlying100 hi hz0 hz1 hz2 rfl (by omega) v vs.length _ hown ad us.length c us (by simp) hx h1
    (by unfold maxLen; omega) (by omega) hbase
  exact ⟨v', w', a1, by rw [List.length_append]; exact a2, a3, a5⟩
theorem wpList_growL (w : World) {ops : Array Oper} {rest : List Oper} {o : Oper} {a : Act} {Q : Exit → Act → World → Prop} (hgd : o.guard = none) (s x : Operand)
    (ho : o.op = .call { callee := .builtin .append, args := #[s, x], argTypes := #[100, 100] })
    (base : Nat) (v : Value) (vs : List Value) (hs : a.eval s = v) (hown : w.ownsRow base 55 1 v vs.length vs)
    (ad : Addr) (c n : Nat) (us : List Value) (hxe : a.eval x = .slice (some ad) n c) (hn : n = us.length) (hx : ∀ j u, us[j]? = some u → w.cell? (ad.add j) = some u)
    (h1 : ∀ u ∈ us, u.oneCell' = true) (hb : vs.length + us.length ≤ 1000000000) (hbase : base ≤ w.heap.size)
    (h : ∀ v' w', w'.ownsRow base 55 1 v' (vs ++ us).length (vs ++ us) → w.grownBy w' v.ownBlock → (v'.ownBlock = v.ownBlock ∨ v'.ownBlock = some w.heap.size) → wpList Tryz.prog ops Q rest (a.put o.dst v') w') :
    wpList Tryz.prog ops Q (o :: rest) a w := by
  subst hn
  refine wpList_plain hgd fun K hK => ?_
  obtain ⟨v', w', hrun, h2, h3, h4⟩ := run_growL w base v vs hown ad c us hx h1 hb hbase o.type
  unfold Oper.wp execOp
  simp only [ho, resolve, invoke, builtin, Sem.run_bind, Sem.run_pure, Result.andThen_ok, List.map_toArray, List.map_cons, List.map_nil, hs, hxe, hrun]
  exact hK _ _ (h v' w' h2 h3 h4)
theorem KB.bs {w : World} {g : Nat} {t : TypeId} {l : List UInt8} {n : Nat} (h : KB w g t (l.map bv).toArray) (hn : l.length = n) (hm : n ≤ maxLen) : BS w (fun b => b = g) (.slice (some ⟨g, 0, none⟩) n n) l := by
  subst hn
  refine ⟨_, _, rfl, Nat.le_refl _, hm, (fun h => by cases h), fun _ => ⟨g, 0, rfl, rfl, h.lt, fun j u hu => ?_⟩⟩
  rw [Nat.zero_add, h.cell]
  simp [hu]
end
section
open Go.RowKit
theorem take_one_more {l m : List UInt8} {k : Nat} (h : l.take k = m.take k) (hl : k < l.length) (hm : k < m.length) (e : l[k] = m[k]) : l.take (k + 1) = m.take (k + 1) := by
  rw [List.take_add_one, List.take_add_one, h, List.getElem?_eq_getElem hl, List.getElem?_eq_getElem hm, e]
theorem same_draws (S S' : Nat → Prop) (x y : Value) (l m : List UInt8) (w : World) (hx : BS w S x l) (hy : BS w S' y m) :
    Calls Tryz.prog 30 #[x, y] w fun e w' => e = .returned (.bool (decide (l = m))) ∧ ∃ n, w' = w.drewN n := by
  obtain ⟨A, c, rfl, hlc, hcm, _⟩ := hx.form
  obtain ⟨A', c', rfl, _⟩ := hy.form
  have hlen : l.length ≤ 9223372036854775807 := by unfold maxLen at hcm; omega
  clear hcm hlc
  by_cases hlm : l.length = m.length
  · obtain ⟨r, hr⟩ : ∃ r, r = decide (l = m) := ⟨_, rfl⟩
    rw [← hr]
    have HR : Hid (r = decide (l = m)) := hr
    have HE : Hid (l.length = m.length) := hlm
    rw [← hlm] at hy ⊢
    clear hr hlm
    go_enter Tryz.func30, Tryz.ntmps30
    go_wp2
    go_loopw [5] (fun i wr => ∃ k n : Nat, k ≤ l.length ∧ Hid (l.take k = m.take k) ∧ i = .int .i64 k ∧ wr = w.drewN n) (fun i _ => l.length - (intOf i).toNat)
    case atStart => exact ⟨0, 0, by omega, by show _ = _; simp, rfl, rfl⟩
    case round =>
      obtain ⟨k, n, hk, ht, rfl, rfl⟩ := hrel
      by_cases hlt : k < l.length
      · have hmt : k < m.length := by rw [← HE.out]; exact hlt
        obtain ⟨b, o, rfl, _, _, h1⟩ := hx.at_ (by omega)
        have hy' := hy
        obtain ⟨A0, c0, e0, _, _, _, h2⟩ := hy'
        obtain ⟨b', o', rfl, _, _, h2⟩ := h2 (by omega)
        injection e0 with e0 _ _
        subst e0
        have k1 := h1 k l[k] (List.getElem?_eq_getElem hlt)
        have k2 : w.cell? ⟨b', o' + k, none⟩ = some (.int .u8 (m[k].toNat : Int)) := h2 k m[k] (List.getElem?_eq_getElem hmt)
        have ho := take_one_more ht.out hlt hmt
        have hn : ¬ l[k] = m[k] → r = false := fun h => by rw [HR.out]; exact decide_eq_false fun e => h (by subst e; rfl)
        have HO := Lib.hid ho
        have HN := Lib.hid hn
        clear h1 h2 hx hy ho hn
        generalize l[k] = p at *
        generalize m[k] = q at *
        by_cases hpq : (p.toNat : Int) = (q.toNat : Int)
        · have hpq' : p = q := UInt8.toNat_inj.1 (by omega)
          have HT := Lib.hid (HO.out hpq')
          go_wp2
          go_quiet (fail)
          go_wp2
          go_roundw
          case rel => exact ⟨k + 1, n + nq, by omega, HT, by go_num, rfl⟩
          case measure => simp [intOf]; omega
        · have hr := HN.out (fun e => hpq (by rw [e]))
          clear HN HO
          subst hr
          go_wp2
          go_quiet (fail)
          go_wp2
          go_ret
          exact ⟨rfl, n + nq, drewN_twice w n nq⟩
      · have hkl : k = l.length := by omega
        have hr : r = true := by
          rw [HR.out]
          have e := ht.out
          rw [hkl, List.take_length, HE.out, List.take_length] at e
          exact decide_eq_true e
        clear ht HR
        subst hr
        go_wp2
        go_ret
        exact ⟨rfl, _, rfl⟩
  · rw [decide_eq_false fun e => hlm (by rw [e])]
    have hne : ¬ (l.length : Int) = (m.length : Int) := by omega
    go_enter Tryz.func30, Tryz.ntmps30
    go_wp2
    go_ret
    exact ⟨rfl, 0, rfl⟩
theorem same_is (S S' : Nat → Prop) (x y : Value) (l m : List UInt8) (w : World) (hx : BS w S x l) (hy : BS w S' y m) :
    Calls Tryz.prog 30 #[x, y] w fun e w' => e = .returned (.bool (decide (l = m))) ∧ Below w.heap.size w w' := by
  refine (same_draws S S' x y l m w hx hy).mono ?_
  rintro e w' ⟨rfl, n, rfl⟩
  exact ⟨rfl, ⟨rfl, rfl, rfl, Nat.le_refl _, fun _ _ => rfl⟩⟩
theorem same_yes (S S' : Nat → Prop) (x y : Value) (l : List UInt8) (w : World) (hx : BS w S x l) (hy : BS w S' y l) :
    Calls Tryz.prog 30 #[x, y] w fun e w' => e = .returned (.bool true) ∧ ∃ n, w' = w.drewN n := by
  refine (same_draws S S' x y l l w hx hy).mono ?_
  rintro e w' ⟨rfl, n, rfl⟩
  exact ⟨by rw [decide_eq_true rfl], n, rfl⟩
theorem same_to (S S' : Nat → Prop) (x y : Value) (l : List UInt8) (w : World) (hx : BS w S x l) (hy : BS w S' y l) :
    Calls Tryz.prog 30 #[x, y] w fun e w' => e = .returned (.bool true) ∧ Below w.heap.size w w' := by
  refine (same_yes S S' x y l w hx hy).mono ?_
  rintro e w' ⟨rfl, n, rfl⟩
  exact ⟨rfl, ⟨rfl, rfl, rfl, Nat.le_refl _, fun _ _ => rfl⟩⟩
end
section
open Go.RowKit
def full (c : UInt8) : List UInt8 := List.replicate 256 c
end
section
open Go.RowKit
def From (p : DA) (B : Nat) : Prop := ∀ x, p.has x → B ≤ x
theorem new_made (n : Nat) (w : World) (h1 : 1 ≤ n) (h2 : n ≤ 1024) : Calls Tryz.prog 32 #[.int .i64 n] w fun e w' =>
    ∃ p : DA, e = .returned (.tuple #[.pointer (some ⟨p.d, 0, none⟩), .int .i64 0]) ∧ DS w' p (blank n) ∧ From p w.heap.size ∧ Below w.heap.size w w' := by
  refine (new_yes n w h1 h2).mono ?_
  rintro e w' ⟨rfl, hd, hb⟩
  refine ⟨newDA w.heap.size, rfl, hd, ?_, hb⟩
  rintro x (rfl | rfl | rfl) <;> simp [newDA]
def l1 : Dk := ((blank 4).wrote 3 (full 7)).acted
def l2 : Dk := l1.crashed []
def l3 : Dk := (l2.wrote 3 (full 7)).acted
def l4 : Dk := l3.flushed
end
section
open Go.RowKit
def PS (w : World) (S : Nat → Prop) (v : Value) (ps : List Pt) : Prop :=
  ∃ A c, v = .slice A ps.length c ∧ ps.length ≤ c ∧ c ≤ maxLen ∧ (A = none → c = 0) ∧
    (0 < ps.length → ∃ b o, A = some ⟨b, o, none⟩ ∧ S b ∧ b < w.heap.size ∧ ∀ j p, ps[j]? = some p →
      w.cell? ⟨b, o + j * 2, none⟩ = some (.int .i64 p.1) ∧ ∃ x, w.cell? ⟨b, o + j * 2 + 1, none⟩ = some x ∧ BS w S x p.2)
section
variable {w w' : World} {S S' : Nat → Prop} {v : Value} {ps : List Pt}
theorem PS.nil (w : World) (S : Nat → Prop) : PS w S (.slice none 0 0) [] := ⟨none, 0, rfl, by simp, by simp [maxLen], fun _ => rfl, fun h => absurd h (by simp)⟩
theorem PS.keepS (h : PS w S v ps) (hs : w.heap.size ≤ w'.heap.size) (hk : ∀ b, S b → b < w.heap.size → w'.heap[b]? = w.heap[b]?) (hS : ∀ b, S b → S' b) : PS w' S' v ps := by
  obtain ⟨A, c, e, hl, hc, hn, hx⟩ := h
  refine ⟨A, c, e, hl, hc, hn, fun h0 => ?_⟩
  obtain ⟨b, o, ea, sb, hb, hx⟩ := hx h0
  refine ⟨b, o, ea, hS b sb, by omega, fun j p hj => ?_⟩
  obtain ⟨h1, x, h2, h3⟩ := hx j p hj
  exact ⟨(World.cell?_of_block (w := w) (hk b sb hb)).trans h1, x, (World.cell?_of_block (w := w) (hk b sb hb)).trans h2, (h3.keep hs hk).mono hS⟩
theorem PS.mono (h : PS w S v ps) (hS : ∀ b, S b → S' b) : PS w S' v ps := h.keepS (Nat.le_refl _) (fun _ _ _ => rfl) hS
theorem PS.below' (h : PS w S v ps) (hg : Below w.heap.size w w') : PS w' S v ps := h.keepS hg.size (fun b _ hb => hg.block b hb) fun _ h => h
theorem PS.form (h : PS w S v ps) : ∃ A c, v = .slice A ps.length c ∧ ps.length ≤ c ∧ c ≤ maxLen ∧ (A = none → c = 0) := by
  obtain ⟨A, c, e, hl, hc, hn, hx⟩ := h
  exact ⟨A, c, e, hl, hc, hn⟩
theorem PS.at_ {A : Option Addr} {n c : Nat} (h : PS w S (.slice A n c) ps) (hp : 0 < ps.length) :
    ∃ b o, A = some ⟨b, o, none⟩ ∧ S b ∧ b < w.heap.size ∧ ∀ j p, ps[j]? = some p → w.cell? ⟨b, o + j * 2, none⟩ = some (.int .i64 p.1) ∧ ∃ X z, w.cell? ⟨b, o + j * 2 + 1, none⟩ = some (.slice X p.2.length z) ∧ BS w S (.slice X p.2.length z) p.2 := by
  obtain ⟨A', c', e, hl, hc, hn, hx⟩ := h
  injection e with e1 e2 e3
  subst e1
  obtain ⟨b, o, ea, sb, hb, hx⟩ := hx hp
  refine ⟨b, o, ea, sb, hb, fun j p hj => ?_⟩
  obtain ⟨h1, x, h2, h3⟩ := hx j p hj
  obtain ⟨X, z, rfl, _⟩ := h3.form
  exact ⟨h1, X, z, h2, h3⟩
theorem PS.off {p : DA} (h : PS w (Off p w) v ps) (k : KeepP (Off p w) w w') : PS w' (Off p w') v ps := h.keepS k.size (fun b sb _ => k.block b sb) fun b sb => ⟨Nat.lt_of_lt_of_le sb.1 k.size, sb.2⟩
theorem PS.off_below {p : DA} (h : PS w (Off p w) v ps) (k : Below w.heap.size w w') : PS w' (Off p w') v ps := h.keepS k.size (fun b _ hb => k.block b hb) fun b sb => ⟨Nat.lt_of_lt_of_le sb.1 k.size, sb.2⟩
end
abbrev Two2 := Int × Value
def two2 (q : Two2) : List Value := [.int .i64 q.1, q.2]
def flatW (qs : List Two2) : List Value := qs.flatMap two2
theorem flatW_nil : flatW [] = [] := rfl
theorem flatW_cons (q : Two2) (qs : List Two2) : flatW (q :: qs) = two2 q ++ flatW qs := rfl
theorem flatW_append (a b : List Two2) : flatW (a ++ b) = flatW a ++ flatW b := List.flatMap_append
theorem flatW_length : ∀ (qs : List Two2), (flatW qs).length = qs.length * 2
  | [] => rfl
  | q :: qs => by rw [flatW_cons, List.length_append, flatW_length qs]; simp [two2, Nat.succ_mul]; omega
theorem flatW_at : ∀ (qs : List Two2) (i : Nat) (q : Two2), qs[i]? = some q → (flatW qs)[i * 2]? = some (.int .i64 q.1) ∧ (flatW qs)[i * 2 + 1]? = some q.2
  | [], i, q, h => by simp at h
  | p :: qs, 0, q, h => by
    simp at h
    subst h
    exact ⟨rfl, rfl⟩
  | p :: qs, i + 1, q, h => by
    obtain ⟨h0, h1⟩ := flatW_at qs i q (by simpa using h)
    rw [flatW_cons]
    have e : ∀ k, (two2 p ++ flatW qs)[(i + 1) * 2 + k]? = (flatW qs)[i * 2 + k]? := fun k => by
      rw [List.getElem?_append_right (by simp [two2]; omega)]
      congr 1
      simp [two2]; omega
    exact ⟨(e 0).trans h0, (e 1).trans h1⟩
def PT (w : World) (S : Nat → Prop) (qs : List Two2) (ps : List Pt) : Prop :=
  qs.length = ps.length ∧ ∀ (i : Nat) (q : Two2) (t : Pt), qs[i]? = some q → ps[i]? = some t → q.1 = t.1 ∧ BS w S q.2 t.2
section
variable {w w' : World} {S S' : Nat → Prop} {qs us : List Two2} {ps ls : List Pt}
theorem PT.keepS (h : PT w S qs ps) (hs : w.heap.size ≤ w'.heap.size) (hk : ∀ b, S b → b < w.heap.size → w'.heap[b]? = w.heap[b]?) (hS : ∀ b, S b → S' b) : PT w' S' qs ps :=
  ⟨h.1, fun i q t hq ht => ⟨(h.2 i q t hq ht).1, ((h.2 i q t hq ht).2.keep hs hk).mono hS⟩⟩
theorem PT.mono (h : PT w S qs ps) (hS : ∀ b, S b → S' b) : PT w S' qs ps := h.keepS (Nat.le_refl _) (fun _ _ _ => rfl) hS
theorem PT.nil (w : World) (S : Nat → Prop) : PT w S [] [] := ⟨rfl, fun i q t h => by simp at h⟩
theorem PT.append (h : PT w S qs ps) (g : PT w S us ls) : PT w S (qs ++ us) (ps ++ ls) := by
  refine ⟨by rw [List.length_append, List.length_append, h.1, g.1], fun i q t hq ht => ?_⟩
  rcases Nat.lt_or_ge i qs.length with hi | hi
  · rw [List.getElem?_append_left hi] at hq
    rw [List.getElem?_append_left (by rw [← h.1]; exact hi)] at ht
    exact h.2 i q t hq ht
  · rw [List.getElem?_append_right hi] at hq
    rw [List.getElem?_append_right (by rw [← h.1]; exact hi), ← h.1] at ht
    exact g.2 _ q t hq ht
theorem PT.one {a : Int} {v : Value} {l : List UInt8} (h : BS w S v l) : PT w S [(a, v)] [(a, l)] := by
  refine ⟨rfl, fun i q u hq hu => ?_⟩
  match i, hq, hu with
  | 0, hq, hu => simp at hq hu; subst hq hu; exact ⟨rfl, h⟩
theorem PT.cells1 (h : PT w S qs ps) : ∀ u ∈ flatW qs, u.oneCell' = true := by
  intro u hu
  obtain ⟨q, hq, hu⟩ := List.mem_flatMap.1 hu
  obtain ⟨i, hi, e⟩ := List.mem_iff_getElem.1 hq
  have h1 : qs[i]? = some q := by rw [List.getElem?_eq_getElem hi, e]
  have h2 : ps[i]? = some (ps[i]'(by rw [← h.1]; exact hi)) := List.getElem?_eq_getElem _
  obtain ⟨X, z, e2, _⟩ := (h.2 i q _ h1 h2).2.form
  simp [two2] at hu
  rcases hu with rfl | rfl
  · rfl
  · rw [e2]; rfl
end
theorem PS_of_own {w : World} {S : Nat → Prop} {base : Nat} {v : Value} {qs : List Two2} {ps : List Pt} (h : w.ownsRow base 132 2 v qs.length (flatW qs)) (hq : PT w S qs ps)
    (hS : ∀ b, base ≤ b → b < w.heap.size → S b) : PS w S v ps := by
  obtain ⟨_, h2⟩ := h
  rw [hq.1] at h2
  rcases h2 with ⟨rfl, h0⟩ | ⟨g, cap, cur, rfl, hb, hg, hnc, hcm, hcs, htk⟩
  · obtain rfl : ps = [] := List.eq_nil_of_length_eq_zero h0
    exact PS.nil _ _
  · have hlt : g < w.heap.size := (Array.getElem?_eq_some_iff.1 hg).1
    refine ⟨_, cap, rfl, hnc, hcm, (fun h => by cases h), fun h0 => ⟨g, 0, rfl, hS g hb hlt, hlt, fun i t hi => ?_⟩⟩
    have hil := (List.getElem?_eq_some_iff.1 hi).1
    have hqi : qs[i]? = some (qs[i]'(by rw [hq.1]; exact hil)) := List.getElem?_eq_getElem _
    obtain ⟨e0, e1⟩ := flatW_at qs i _ hqi
    obtain ⟨ea, eb⟩ := hq.2 i _ t hqi hi
    rw [ea] at e0
    have cell : ∀ k u, k < 2 → (flatW qs)[i * 2 + k]? = some u → w.cell? ⟨g, 0 + i * 2 + k, none⟩ = some u := fun k u hk hu => by
      rw [cell_of_row w g (0 + i * 2 + k) cur _ (0, 0) hg, Nat.zero_add]
      rw [← htk, List.getElem?_take, if_pos (by omega)] at hu
      simpa using hu
    exact ⟨cell 0 _ (by omega) e0, _, cell 1 _ (by omega) e1, eb⟩
theorem PS_of_kb {w : World} {S S' : Nat → Prop} {g n : Nat} {t : TypeId} {qs : List Two2} {ps : List Pt} (h : KB w g t (flatW qs).toArray) (hq : PT w S qs ps) (hn : ps.length = n) (hS : ∀ b, S b → S' b) (hg : S' g) (hm : n ≤ maxLen) :
    PS w S' (.slice (some ⟨g, 0, none⟩) n n) ps := by
  subst hn
  refine ⟨_, _, rfl, Nat.le_refl _, hm, (fun h => by cases h), fun h0 => ⟨g, 0, rfl, hg, h.lt, fun i t hi => ?_⟩⟩
  have hil := (List.getElem?_eq_some_iff.1 hi).1
  have hqi : qs[i]? = some (qs[i]'(by rw [hq.1]; exact hil)) := List.getElem?_eq_getElem _
  obtain ⟨e0, e1⟩ := flatW_at qs i _ hqi
  obtain ⟨ea, eb⟩ := hq.2 i _ t hqi hi
  rw [ea] at e0
  rw [Nat.zero_add]
  exact ⟨by rw [h.cell]; simpa using e0, _, by rw [h.cell]; simpa using e1, eb.mono hS⟩
theorem info_patch : (Tryz.prog.info? 132).map (fun i => (i.zero, i.size, i.bytes)) = some (some (.agg #[.int .i64 0, .slice none 0 0]), 2, 32) := by kernel_rfl
theorem run_growP (w : World) (base : Nat) (v : Value) (qs : List Two2) (hown : w.ownsRow base 132 2 v qs.length (flatW qs)) (ad : Addr) (c : Nat) (us : List Two2) (hx : ∀ j u, (flatW us)[j]? = some u → w.cell? (ad.add j) = some u) (h1 : ∀ u ∈ flatW us, u.oneCell' = true)
    (hb : qs.length + us.length ≤ 1000000000) (hbase : base ≤ w.heap.size) (ty : TypeId) :
    ∃ v' w', (Builtin.append_ #[88, 88] ty #[v, .slice (some ad) us.length c]).run Tryz.prog w = .ok v' w' ∧ w'.ownsRow base 132 2 v' (qs ++ us).length (flatW (qs ++ us)) ∧ w.grownBy w' v.ownBlock ∧
      (v'.ownBlock = v.ownBlock ∨ v'.ownBlock = some w.heap.size) := by
  obtain ⟨i0, hi, hz0, hz1, hz2⟩ := info_parts info_patch
  obtain ⟨v', w', a1, a2, a3, _, a5⟩ := run_append_own_at (P := Tryz.prog) (w := w) base 88 ty 132 i0 _ 2 32 Tryz.underlying88 hi hz0 hz1 hz2 rfl (by omega) v qs.length _ hown ad us.length c (flatW us) (flatW_length us) hx h1
    (by unfold maxLen; omega) (by omega) hbase
  exact ⟨v', w', a1, by rw [List.length_append, flatW_append]; exact a2, a3, a5⟩
theorem wpList_growP (w : World) {ops : Array Oper} {rest : List Oper} {o : Oper} {a : Act} {Q : Exit → Act → World → Prop} (hgd : o.guard = none) (s x : Operand)
    (ho : o.op = .call { callee := .builtin .append, args := #[s, x], argTypes := #[88, 88] })
    (base : Nat) (v : Value) (qs : List Two2) (hs : a.eval s = v) (hown : w.ownsRow base 132 2 v qs.length (flatW qs))
    (ad : Addr) (c n : Nat) (us : List Two2) (hxe : a.eval x = .slice (some ad) n c) (hn : n = us.length) (hx : ∀ j u, (flatW us)[j]? = some u → w.cell? (ad.add j) = some u)
    (h1 : ∀ u ∈ flatW us, u.oneCell' = true) (hb : qs.length + us.length ≤ 1000000000) (hbase : base ≤ w.heap.size)
    (h : ∀ v' w', w'.ownsRow base 132 2 v' (qs ++ us).length (flatW (qs ++ us)) → w.grownBy w' v.ownBlock → (v'.ownBlock = v.ownBlock ∨ v'.ownBlock = some w.heap.size) → wpList Tryz.prog ops Q rest (a.put o.dst v') w') :
    wpList Tryz.prog ops Q (o :: rest) a w := by
  subst hn
  refine wpList_plain hgd fun K hK => ?_
  obtain ⟨v', w', hrun, h2, h3, h4⟩ := run_growP w base v qs hown ad c us hx h1 hb hbase o.type
  unfold Oper.wp execOp
  simp only [ho, resolve, invoke, builtin, Sem.run_bind, Sem.run_pure, Result.andThen_ok, List.map_toArray, List.map_cons, List.map_nil, hs, hxe, hrun]
  exact hK _ _ (h v' w' h2 h3 h4)
def lgRow (p : DA) (n : Nat) (br : Bool) : Array Value := #[.pointer (some ⟨p.d, 0, none⟩), .int .i64 n, .bool br]
def LG (w : World) (g : Nat) (p : DA) (n : Nat) (br : Bool) : Prop := KB w g 122 (lgRow p n br)
section
variable {w : World} {g n : Nat} {p : DA} {br : Bool}
theorem LG.c0 (h : LG w g p n br) : w.cell? ⟨g, 0, none⟩ = some (.pointer (some ⟨p.d, 0, none⟩)) := KB.cell h 0
theorem LG.c1 (h : LG w g p n br) : w.cell? ⟨g, 1, none⟩ = some (.int .i64 n) := KB.cell h 1
theorem LG.c2 (h : LG w g p n br) : w.cell? ⟨g, 2, none⟩ = some (.bool br) := KB.cell h 2
end
end
end Go.Proofs.YteddmnoeljakpaaGreatDoor
section
namespace Go.Proofs.YteddmnoeljakpaaGreatDoor.Gau
def fl (n : Int) : Nat := floatOfInt .f64 n
theorem log2_mul (m k : Nat) (hm : m ≠ 0) : (m * 2 ^ k).log2 = m.log2 + k := by
  have hp : 0 < 2 ^ k := Nat.two_pow_pos k
  have h0 : m * 2 ^ k ≠ 0 := Nat.mul_ne_zero hm (by omega)
  rw [Nat.log2_eq_iff h0]
  have h1 := Nat.log2_self_le hm
  have h2 := @Nat.lt_log2_self m
  constructor
  · rw [Nat.pow_add]; exact Nat.mul_le_mul_right _ h1
  · rw [show m.log2 + k + 1 = m.log2 + 1 + k by omega, Nat.pow_add]
    exact Nat.mul_lt_mul_of_pos_right h2 hp
theorem cut_exact (way : Ieee.Toward) (neg : Bool) (n d : Nat) (h : n % 2 ^ d = 0) (hd : n = 0 ∨ d ≤ n.log2 + 2) : way.cut neg n d = n / 2 ^ d := by
  rcases hd with rfl | hd
  · unfold Ieee.Toward.cut
    cases way <;> cases neg <;> simp
  · unfold Ieee.Toward.cut
    rw [Nat.min_eq_left hd, Nat.shiftLeft_eq, Nat.one_mul]
    simp only []
    rw [h]
    have hp : 0 < 2 ^ d := Nat.two_pow_pos d
    cases way <;> cases neg <;> simp
    all_goals (have : ¬ (2 ^ d = 0) := by omega)
    all_goals simp
theorem nearest_exact (neg : Bool) (m k : Nat) (hm : m ≠ 0) (h : m < 2 ^ 53) :
    Ieee.double.nearest neg (m * 2 ^ k) (-(k : Int)) = Ieee.double.word neg ((m.log2 + 1022) * 2 ^ 52 + m * 2 ^ (52 - m.log2)) := by
  have hl : m.log2 ≤ 52 := by
    have := (Nat.log2_lt hm).2 h
    omega
  have hp : 0 < 2 ^ k := Nat.two_pow_pos k
  have h0 : m * 2 ^ k ≠ 0 := Nat.mul_ne_zero hm (by omega)
  have e1 : max (-(k : Int) + ((m * 2 ^ k).log2 : Nat) - (Ieee.double.fractionBits : Nat)) Ieee.double.leastPlace = (m.log2 : Int) - 52 := by
    rw [log2_mul m k hm]
    have a : Ieee.double.leastPlace = -1074 := by decide
    have b : Ieee.double.fractionBits = 52 := rfl
    rw [a, b]; omega
  have hcut : Ieee.Toward.cut .even neg ((m * 2 ^ k) <<< (-(k : Int) - ((m.log2 : Int) - 52)).toNat) (((m.log2 : Int) - 52) - -(k : Int)).toNat = m * 2 ^ (52 - m.log2) := by
    rw [Nat.shiftLeft_eq]
    rcases Nat.le_total k (52 - m.log2) with hk | hk
    · rw [show (((m.log2 : Int) - 52) - -(k : Int)).toNat = 0 by omega, show (-(k : Int) - ((m.log2 : Int) - 52)).toNat = 52 - m.log2 - k by omega]
      rw [cut_exact _ _ _ _ (by simp [Nat.mod_one]) (.inr (by omega)), Nat.pow_zero, Nat.div_one, Nat.mul_assoc, ← Nat.pow_add]
      congr 2; omega
    · rw [show (-(k : Int) - ((m.log2 : Int) - 52)).toNat = 0 by omega, Nat.pow_zero, Nat.mul_one, show (((m.log2 : Int) - 52) - -(k : Int)).toNat = k - (52 - m.log2) by omega]
      have e : m * 2 ^ k = m * 2 ^ (52 - m.log2) * 2 ^ (k - (52 - m.log2)) := by
        rw [Nat.mul_assoc, ← Nat.pow_add]; congr 2; omega
      rw [cut_exact _ _ _ _ (by rw [e]; exact Nat.mul_mod_left _ _) (.inr (by rw [log2_mul m k hm]; omega)), e, Nat.mul_div_cancel _ (Nat.two_pow_pos _)]
  unfold Ieee.Format.nearest
  rw [if_neg h0]
  simp only []
  rw [e1, hcut]
  congr 1
  rw [show (((m.log2 : Int) - 52) - Ieee.double.leastPlace).toNat = m.log2 + 1022 by
    rw [show Ieee.double.leastPlace = -1074 by decide]; omega, show Ieee.double.binade = 2 ^ 52 from rfl]
  apply Nat.min_eq_left
  have h3 : m * 2 ^ (52 - m.log2) < 2 ^ 53 := by
    have h2 := @Nat.lt_log2_self m
    calc m * 2 ^ (52 - m.log2) < 2 ^ (m.log2 + 1) * 2 ^ (52 - m.log2) := Nat.mul_lt_mul_of_pos_right h2 (Nat.two_pow_pos _)
      _ = 2 ^ 53 := by rw [← Nat.pow_add]; congr 1; omega
  have h4 : Ieee.double.infRung = 2047 * 2 ^ 52 := by decide
  rw [h4]
  omega
def Holds (x : Nat) (n : Int) : Prop := ∃ k : Nat, Ieee.double.read x = .number (decide (n < 0)) (n.natAbs * 2 ^ k) (-(k : Int))
theorem read_word (neg : Bool) (e f : Nat) (hf : f < 2 ^ 52) (he : e < 2046) :
    Ieee.double.read (Ieee.double.word neg ((e + 1) * 2 ^ 52 + f)) = .number neg (2 ^ 52 + f) (-1074 + e) := by
  have a : Ieee.double.signWeight = 2 ^ 63 := by decide
  have b : Ieee.double.binade = 2 ^ 52 := by decide
  have c : Ieee.double.infRung = 2047 * 2 ^ 52 := by decide
  have d : Ieee.double.leastPlace = -1074 := by decide
  have r1 : (e + 1) * 2 ^ 52 + f < 2 ^ 63 := by omega
  have r2 : Ieee.double.word neg ((e + 1) * 2 ^ 52 + f) % 2 ^ 63 = (e + 1) * 2 ^ 52 + f := by
    unfold Ieee.Format.word; rw [a]; split <;> omega
  have r3 : (Ieee.double.word neg ((e + 1) * 2 ^ 52 + f) / 2 ^ 63 % 2 == 1) = neg := by
    unfold Ieee.Format.word; rw [a]
    cases neg
    · rw [if_neg (by simp)]
      rw [Nat.div_eq_of_lt r1]; rfl
    · rw [if_pos rfl]
      rw [show (2 ^ 63 + ((e + 1) * 2 ^ 52 + f)) / 2 ^ 63 = 1 by omega]; rfl
  unfold Ieee.Format.read
  rw [a, b, c, d]
  simp only []
  rw [r3, r2, if_neg (by omega), if_pos (by omega)]
  rw [show ((e + 1) * 2 ^ 52 + f) % 2 ^ 52 = f by omega, show ((e + 1) * 2 ^ 52 + f) / 2 ^ 52 - 1 = e by omega]
theorem fl_word (n : Int) (h0 : n ≠ 0) (h : n.natAbs < 2 ^ 53) : fl n = Ieee.double.word (decide (n < 0)) ((n.natAbs.log2 + 1022) * 2 ^ 52 + n.natAbs * 2 ^ (52 - n.natAbs.log2)) := by
  have e := nearest_exact (decide (n < 0)) n.natAbs 0 (by omega) h
  rw [Nat.pow_zero, Nat.mul_one] at e
  exact e
theorem rung_split (l f : Nat) : (l + 1022) * 2 ^ 52 + (2 ^ 52 + f) = (l + 1022 + 1) * 2 ^ 52 + f := by omega
theorem place_split (l : Nat) (h : l ≤ 52) : (-1074 + ((l + 1022 : Nat) : Int)) = -((52 - l : Nat) : Int) := by omega
theorem rung_low (f m : Nat) (h : m < 2 ^ 53) (e : 2 ^ 52 + f = m) : f < 2 ^ 52 := by omega
theorem fl_zero : fl 0 = 0 := by decide
theorem fl_holds (n : Int) (h : n.natAbs < 2 ^ 53) : Holds (fl n) n := by
  by_cases h0 : n = 0
  · subst h0
    obtain ⟨k, hk⟩ : ∃ k, k = 1074 := ⟨_, rfl⟩
    refine ⟨k, ?_⟩
    rw [fl_zero, Int.natAbs_zero, Nat.zero_mul, hk]; decide
  · have hm : n.natAbs ≠ 0 := by omega
    rw [fl_word n h0 h]
    have hl : n.natAbs.log2 ≤ 52 := by
      have := (Nat.log2_lt hm).2 h
      omega
    have h1 : 2 ^ 52 ≤ n.natAbs * 2 ^ (52 - n.natAbs.log2) := by
      have := Nat.mul_le_mul_right (2 ^ (52 - n.natAbs.log2)) (Nat.log2_self_le hm)
      rw [← Nat.pow_add, show n.natAbs.log2 + (52 - n.natAbs.log2) = 52 by omega] at this
      exact this
    have h3 : n.natAbs * 2 ^ (52 - n.natAbs.log2) < 2 ^ 53 := by
      have h2 := @Nat.lt_log2_self n.natAbs
      calc n.natAbs * 2 ^ (52 - n.natAbs.log2) < 2 ^ (n.natAbs.log2 + 1) * 2 ^ (52 - n.natAbs.log2) := Nat.mul_lt_mul_of_pos_right h2 (Nat.two_pow_pos _)
        _ = 2 ^ 53 := by rw [← Nat.pow_add]; congr 1; omega
    refine ⟨52 - n.natAbs.log2, ?_⟩
    obtain ⟨f, hf⟩ := Nat.le.dest h1
    have hf2 := rung_low _ _ h3 hf
    clear h1 h3
    rw [← hf, rung_split, read_word _ _ _ hf2 (by omega), place_split _ hl]
theorem write_number (f : Ieee.Format) (neg : Bool) (m : Nat) (e : Int) : f.write (.number neg m e) = f.nearest neg m e := rfl
theorem write_fl (n : Int) (k : Nat) (h : n.natAbs < 2 ^ 53) : Ieee.double.write (.number (decide (n < 0)) (n.natAbs * 2 ^ k) (-(k : Int))) = fl n := by
  rw [write_number]
  by_cases h0 : n = 0
  · subst h0
    rw [fl_zero]
    unfold Ieee.Format.nearest
    simp [Ieee.Format.word]
  · rw [nearest_exact _ _ _ (by omega) h, fl_word n h0 h]
theorem signed_pow (n : Int) (k j : Nat) : Ieee.signed (decide (n < 0)) (n.natAbs * 2 ^ k) j = n * 2 ^ (k + j) := by
  unfold Ieee.signed
  rw [Nat.shiftLeft_eq, Nat.mul_assoc, ← Nat.pow_add]
  have e : ((2 ^ (k + j) : Nat) : Int) = 2 ^ (k + j) := by simp
  by_cases h : n < 0
  · rw [if_pos (by simpa using h), Int.natCast_mul, e, ← Int.neg_mul]
    congr 1; omega
  · rw [if_neg (by simpa using h), Int.natCast_mul, e]
    congr 1; omega
theorem sum_holds (a b : Int) (k j : Nat) (s t : Bool) (hs : s = decide (a < 0) ∨ a = 0) (ht : t = decide (b < 0) ∨ b = 0) (hst : a = 0 → b = 0 → (s && t) = false) :
    ∃ i : Nat, Ieee.Datum.sum (.number s (a.natAbs * 2 ^ k) (-(k : Int))) (.number t (b.natAbs * 2 ^ j) (-(j : Int))) = some (.number (decide (a + b < 0)) ((a + b).natAbs * 2 ^ i) (-(i : Int))) := by
  have hsg : ∀ (n : Int) (u : Bool) (k j : Nat), (u = decide (n < 0) ∨ n = 0) → Ieee.signed u (n.natAbs * 2 ^ k) j = n * 2 ^ (k + j) := by
    intro n u k j hu
    rcases hu with rfl | rfl
    · exact signed_pow n k j
    · unfold Ieee.signed; cases u <;> simp
  obtain ⟨i, hi⟩ : ∃ i, i = max k j := ⟨_, rfl⟩
  refine ⟨i, ?_⟩
  have eb : min (-(k : Int)) (-(j : Int)) = -(i : Int) := by omega
  unfold Ieee.Datum.sum
  simp only [eb]
  rw [hsg a s k _ hs, hsg b t j _ ht, show k + (-(k : Int) - -(i : Int)).toNat = i by omega, show j + (-(j : Int) - -(i : Int)).toNat = i by omega, ← Int.add_mul]
  have ep : ((2 ^ i : Nat) : Int) = 2 ^ i := by simp
  have hp : 0 < 2 ^ i := Nat.two_pow_pos i
  have hp' : (0 : Int) < 2 ^ i := by rw [← ep]; omega
  have en : ((a + b) * 2 ^ i).natAbs = (a + b).natAbs * 2 ^ i := by rw [Int.natAbs_mul, ← ep]; rfl
  rw [en]
  congr 2
  by_cases h0 : a + b = 0
  · rw [h0, Int.zero_mul, if_pos rfl]
    by_cases ha : a = 0
    · rw [hst ha (by omega)]; rfl
    · rcases hs with rfl | hs
      · rcases ht with rfl | ht
        · by_cases h1 : a < 0
          · have : ¬ b < 0 := by omega
            simp [this]
          · simp [h1]
        · omega
      · omega
  · rw [if_neg (by intro e; rcases Int.mul_eq_zero.1 e with h | h <;> omega)]
    by_cases h1 : a + b < 0
    · have : (a + b) * 2 ^ i < 0 := Int.mul_neg_of_neg_of_pos h1 hp'
      simp [h1, this]
    · have : ¬ (a + b) * 2 ^ i < 0 := Int.not_lt.2 (Int.mul_nonneg (by omega) (by omega))
      simp [h1, this]
theorem add_fl (a b : Int) (ha : a.natAbs < 2 ^ 53) (hb : b.natAbs < 2 ^ 53) (h : (a + b).natAbs < 2 ^ 53) : floatBits .add .f64 (fl a) (fl b) = some (fl (a + b)) := by
  obtain ⟨k, hk⟩ := fl_holds a ha
  obtain ⟨j, hj⟩ := fl_holds b hb
  show ((Ieee.double.read (fl a)).sum (Ieee.double.read (fl b))).map Ieee.double.write = _
  rw [hk, hj]
  obtain ⟨i, hi⟩ := sum_holds a b k j _ _ (.inl rfl) (.inl rfl) (by rintro rfl rfl; rfl)
  rw [hi, Option.map_some, write_fl _ _ h]
theorem sub_fl (a b : Int) (ha : a.natAbs < 2 ^ 53) (hb : b.natAbs < 2 ^ 53) (h : (a - b).natAbs < 2 ^ 53) : floatBits .sub .f64 (fl a) (fl b) = some (fl (a - b)) := by
  obtain ⟨k, hk⟩ := fl_holds a ha
  obtain ⟨j, hj⟩ := fl_holds b hb
  show ((Ieee.double.read (fl a)).sum (Ieee.double.read (fl b)).opposite).map Ieee.double.write = _
  rw [hk, hj]
  obtain ⟨i, hi⟩ := sum_holds a (-b) k j (decide (a < 0)) (!decide (b < 0)) (.inl rfl) (by
    by_cases h0 : b = 0
    · exact .inr (by omega)
    · left
      by_cases h1 : b < 0
      · have : ¬ (-b < 0) := by omega
        rw [decide_eq_true h1, decide_eq_false this]; rfl
      · have : -b < 0 := by omega
        rw [decide_eq_false h1, decide_eq_true this]; rfl) (by rintro rfl _; rfl)
  rw [Int.natAbs_neg] at hi
  show Option.map _ (Ieee.Datum.sum _ (.number (!decide (b < 0)) (b.natAbs * 2 ^ j) (-(j : Int)))) = _
  rw [hi, Option.map_some, ← Int.sub_eq_add_neg, write_fl _ _ h]
theorem mul_fl (a b : Int) (h0 : 0 ≤ a) (h1 : 0 ≤ b) (ha : a.natAbs < 2 ^ 53) (hb : b.natAbs < 2 ^ 53) (h : (a * b).natAbs < 2 ^ 53) : floatBits .mul .f64 (fl a) (fl b) = some (fl (a * b)) := by
  obtain ⟨k, hk⟩ := fl_holds a ha
  obtain ⟨j, hj⟩ := fl_holds b hb
  show ((Ieee.double.read (fl a)).product (Ieee.double.read (fl b))).map Ieee.double.write = _
  rw [hk, hj]
  have e1 : decide (a < 0) = false := by simpa using h0
  have e2 : decide (b < 0) = false := by simpa using h1
  have e3 : decide (a * b < 0) = false := by simpa using Int.mul_nonneg h0 h1
  have e := write_fl (a * b) (k + j) h
  rw [e3] at e
  rw [e1, e2]
  show some (Ieee.double.write (.number false (a.natAbs * 2 ^ k * (b.natAbs * 2 ^ j)) (-(k : Int) + -(j : Int)))) = _
  rw [← e]
  congr 3
  · rw [Int.natAbs_mul, Nat.pow_add]
    generalize 2 ^ k = x
    generalize 2 ^ j = y
    rw [Nat.mul_assoc, Nat.mul_assoc, ← Nat.mul_assoc x, Nat.mul_comm x, Nat.mul_assoc]
  · omega
theorem int_fl (n : Int) (h : n.natAbs < 2 ^ 53) : floatToIntVal .f64 (fl n) .i64 = some n := by
  obtain ⟨k, hk⟩ := fl_holds n h
  unfold floatToIntVal
  have e : (FloatKind.f64.decode (fl n)).toInt .zero = some n := by
    show (Ieee.double.read (fl n)).toInt .zero = some n
    rw [hk]
    unfold Ieee.Datum.toInt Ieee.Datum.integral
    simp only []
    rw [show (-(-(k : Int))).toNat = k by omega, show (-(k : Int)).toNat = 0 by omega, Nat.shiftLeft_eq, Nat.pow_zero, Nat.mul_one]
    rw [cut_exact _ _ _ _ (Nat.mul_mod_left _ _) (by
      by_cases h0 : n.natAbs = 0
      · left; rw [h0, Nat.zero_mul]
      · right; rw [log2_mul _ _ h0]; omega), Nat.mul_div_cancel _ (Nat.two_pow_pos _)]
    have := signed_pow n 0 0
    simpa using this
  have : IntKind.i64.min ≤ n ∧ n ≤ IntKind.i64.max := by
    have a : IntKind.i64.min = -9223372036854775808 := by decide
    have b : IntKind.i64.max = 9223372036854775807 := by decide
    rw [a, b]; omega
  rw [e]
  simp only []
  rw [if_pos this]
theorem cmp_scale (a b : Int) (i : Nat) : compare (a * 2 ^ i) (b * 2 ^ i) = compare a b := by
  have ep : ((2 ^ i : Nat) : Int) = 2 ^ i := by simp
  have hp : 0 < 2 ^ i := Nat.two_pow_pos i
  have hp' : (0 : Int) < 2 ^ i := by rw [← ep]; omega
  show compareOfLessAndEq _ _ = compareOfLessAndEq _ _
  unfold compareOfLessAndEq
  have h1 : (a * 2 ^ i < b * 2 ^ i) ↔ a < b := Int.mul_lt_mul_right hp'
  have h2 : (a * 2 ^ i = b * 2 ^ i) ↔ a = b := Int.mul_eq_mul_right_iff (by omega)
  simp only [h1, h2]
theorem order_big (a : Int) (x y : Nat) (t : Bool) (hx : Holds x a) (hy : Ieee.double.read y = .number t (2 ^ 52) 11) :
    Ieee.double.order x y = some (compare a (if t then -9223372036854775808 else 9223372036854775808)) := by
  obtain ⟨k, hk⟩ := hx
  have eb : min (-(k : Int)) 11 = -(k : Int) := by omega
  unfold Ieee.Format.order
  rw [hk, hy]
  unfold Ieee.Datum.order
  simp only [eb]
  rw [signed_pow a, show k + (-(k : Int) - -(k : Int)).toNat = k by omega, show ((11 : Int) - -(k : Int)).toNat = 11 + k by omega]
  have e : Ieee.signed t (2 ^ 52) (11 + k) = (if t then -9223372036854775808 else 9223372036854775808) * 2 ^ k := by
    unfold Ieee.signed
    rw [Nat.shiftLeft_eq, Nat.pow_add, ← Nat.mul_assoc, show 2 ^ 52 * 2 ^ 11 = 9223372036854775808 by decide]
    have ek : ((2 ^ k : Nat) : Int) = 2 ^ k := by simp
    cases t
    · simp only [Bool.false_eq_true, if_false]
      rw [Int.natCast_mul, ek]; rfl
    · simp only [if_true]
      rw [Int.natCast_mul, ek, Int.neg_mul]; rfl
  rw [e, cmp_scale]
theorem cmp_gt {a b : Int} (h : b < a) : compare a b = .gt := by
  show compareOfLessAndEq _ _ = _
  unfold compareOfLessAndEq
  rw [if_neg (by omega), if_neg (by omega)]
theorem cmp_lt {a b : Int} (h : a < b) : compare a b = .lt := by
  show compareOfLessAndEq _ _ = _
  unfold compareOfLessAndEq
  rw [if_pos h]
theorem over_min (n : Int) (h : n.natAbs < 2 ^ 53) : FloatKind.f64.format.order (fl n) 14114281232179134464 = some .gt := by
  have e := order_big n (fl n) 14114281232179134464 true (fl_holds n h) (by decide)
  rw [if_pos rfl, cmp_gt (by omega)] at e
  exact e
theorem below_max (n : Int) (h : n.natAbs < 2 ^ 53) : FloatKind.f64.format.order (fl n) 4890909195324358656 = some .lt := by
  have e := order_big n (fl n) 4890909195324358656 false (fl_holds n h) (by decide)
  rw [if_neg (by simp), cmp_lt (by omega)] at e
  exact e
end Go.Proofs.YteddmnoeljakpaaGreatDoor.Gau
end
