/-
  The program's ticks, the closure of When that calls itself, slices.Min and Max of whole numbers, When (layer 19), over the loaded program: each one's contract. No condition but what each theorem names.
-/
import Derived.Test.YtommcdgognlfcaaDuP
import Derived.Test.YtommcdgognlfcaaInts
namespace Go.Proofs.Ytommcdgognlfcaa
open Go.RowKit
set_option maxRecDepth 100000
set_option linter.unusedVariables false

set_option maxHeartbeats 1000000 in
/-- slices.Min. -/
theorem mins_any (S : Nat → Prop) (l : List Int) (v : Value) (w : World) (hv : IS w S v l) (h0 : 0 < l.length) :
    Calls Try.prog 23 #[v] w fun e w' => e = .returned (.int .i64 (minL l)) ∧ w = w' := by
  obtain ⟨A3, c3, rfl, hl3, hm3, _⟩ := hv.form
  have hlen : l.length ≤ 9223372036854775807 := by unfold maxLen at hm3; omega
  obtain ⟨b, o, rfl, _, hb, hx⟩ := hv.at_ h0
  have hc : ∀ j (hj : j < l.length), w.cell? ⟨b, o + j, none⟩ = some (.int .i64 l[j]) := fun j hj => hx j _ (List.getElem?_eq_getElem hj)
  clear hx hv
  have HC := Lib.hid hc
  have k0 : w.cell? ⟨b, o, none⟩ = some (.int .i64 l[0]) := hc 0 h0
  have hone := min_one h0
  have HS : Hid (∀ j (hj : j < l.length), 0 < j → minL (l.take (j + 1)) = min (minL (l.take j)) l[j]) := fun j hj h => min_step hj h
  have HE : Hid (minL (l.take l.length) = minL l) := by show _ = _; rw [List.take_length]
  obtain ⟨r, hr⟩ : ∃ r, r = minL l := ⟨_, rfl⟩
  rw [← hr]
  rw [← hr] at HE
  clear hr hc
  have g0 : ¬ (l.length : Int) < 1 := by omega
  go_enter Try.func23, Try.ntmps23
  rw [← hone] at k0
  clear hone
  obtain ⟨m0, hm0⟩ : ∃ m, m = minL (l.take 1) := ⟨_, rfl⟩
  rw [← hm0] at k0
  have HM0 := Lib.hid hm0
  clear hm0
  go_wp2_with fail
  clear k0
  go_loopw [3, 4] (fun mv iv wr => ∃ (j : Nat) (m : Int), 0 < j ∧ j ≤ l.length ∧ mv = .int .i64 m ∧ iv = .int .i64 j ∧ Hid (m = minL (l.take j)) ∧ wr = w) (fun _ iv _ => l.length - (intOf iv).toNat)
  case atStart => exact ⟨1, m0, by omega, by omega, rfl, rfl, HM0, rfl⟩
  case round =>
    obtain ⟨j, m, hj0, hj, rfl, rfl, hm, rfl⟩ := hrel
    by_cases hlt : j < l.length
    · have hltI : (j : Int) < (l.length : Int) := by omega
      have kj := HC.out j hlt
      have hn := HS.out j hlt hj0
      rw [← hm.out] at hn
      have HN := Lib.hid hn.symm
      clear hn
      generalize l[j] = z at *
      go_wp2_with fail
      go_roundw
      case rel => exact ⟨j + 1, min m z, by omega, by omega, by first | rfl | go_num, by go_num, HN, by first | rfl | trivial⟩
      case measure => simp [intOf]; omega
    · obtain rfl : j = l.length := by omega
      obtain rfl : m = r := hm.out.trans HE.out
      clear HE HS HC hm HM0
      go_wp2_with fail
      go_ret
      exact ⟨rfl, rfl⟩

set_option maxHeartbeats 1000000 in
/-- slices.Max. -/
theorem maxs_any (S : Nat → Prop) (l : List Int) (v : Value) (w : World) (hv : IS w S v l) (h0 : 0 < l.length) :
    Calls Try.prog 24 #[v] w fun e w' => e = .returned (.int .i64 (maxL l)) ∧ w = w' := by
  obtain ⟨A3, c3, rfl, hl3, hm3, _⟩ := hv.form
  have hlen : l.length ≤ 9223372036854775807 := by unfold maxLen at hm3; omega
  obtain ⟨b, o, rfl, _, hb, hx⟩ := hv.at_ h0
  have hc : ∀ j (hj : j < l.length), w.cell? ⟨b, o + j, none⟩ = some (.int .i64 l[j]) := fun j hj => hx j _ (List.getElem?_eq_getElem hj)
  clear hx hv
  have HC := Lib.hid hc
  have k0 : w.cell? ⟨b, o, none⟩ = some (.int .i64 l[0]) := hc 0 h0
  have hone := max_one h0
  have HS : Hid (∀ j (hj : j < l.length), 0 < j → maxL (l.take (j + 1)) = max (maxL (l.take j)) l[j]) := fun j hj h => max_step hj h
  have HE : Hid (maxL (l.take l.length) = maxL l) := by show _ = _; rw [List.take_length]
  obtain ⟨r, hr⟩ : ∃ r, r = maxL l := ⟨_, rfl⟩
  rw [← hr]
  rw [← hr] at HE
  clear hr hc
  have g0 : ¬ (l.length : Int) < 1 := by omega
  go_enter Try.func24, Try.ntmps24
  rw [← hone] at k0
  clear hone
  obtain ⟨m0, hm0⟩ : ∃ m, m = maxL (l.take 1) := ⟨_, rfl⟩
  rw [← hm0] at k0
  have HM0 := Lib.hid hm0
  clear hm0
  go_wp2_with fail
  clear k0
  go_loopw [3, 4] (fun mv iv wr => ∃ (j : Nat) (m : Int), 0 < j ∧ j ≤ l.length ∧ mv = .int .i64 m ∧ iv = .int .i64 j ∧ Hid (m = maxL (l.take j)) ∧ wr = w) (fun _ iv _ => l.length - (intOf iv).toNat)
  case atStart => exact ⟨1, m0, by omega, by omega, rfl, rfl, HM0, rfl⟩
  case round =>
    obtain ⟨j, m, hj0, hj, rfl, rfl, hm, rfl⟩ := hrel
    by_cases hlt : j < l.length
    · have hltI : (j : Int) < (l.length : Int) := by omega
      have kj := HC.out j hlt
      have hn := HS.out j hlt hj0
      rw [← hm.out] at hn
      have HN := Lib.hid hn.symm
      clear hn
      generalize l[j] = z at *
      go_wp2_with fail
      go_roundw
      case rel => exact ⟨j + 1, max m z, by omega, by omega, by first | rfl | go_num, by go_num, HN, by first | rfl | trivial⟩
      case measure => simp [intOf]; omega
    · obtain rfl : j = l.length := by omega
      obtain rfl : m = r := hm.out.trans HE.out
      clear HE HS HC hm HM0
      go_wp2_with fail
      go_ret
      exact ⟨rfl, rfl⟩

/-- The variables of the closure: the milestones, and the closure itself. -/
structure WhenAt (w : World) (gm gw : Nat) (vm : Value) : Prop where
  miles : KB w gm 25 #[vm]
  self : KB w gw 50 #[.func (.func 20) #[] #[.pointer (some ⟨gm, 0, none⟩), .pointer (some ⟨gw, 0, none⟩)]]
theorem WhenAt.past {w w' : World} {gm gw : Nat} {vm : Value} (h : WhenAt w gm gw vm) (hb : Below w.heap.size w w') : WhenAt w' gm gw vm := ⟨h.miles.below hb h.miles.lt, h.self.below hb h.self.lt⟩
theorem WhenAt.alloc {w : World} {gm gw : Nat} {vm : Value} (h : WhenAt w gm gw vm) (o : Obj) : WhenAt (w.alloc o) gm gw vm := ⟨h.miles.alloc o, h.self.alloc o⟩

/-- What the closure is to answer. -/
def WhenAs (w : World) (r : Int × Bool) (e : Ending) (w' : World) : Prop := e = .returned (.tuple #[.int .i64 r.1, .bool r.2]) ∧ Below w.heap.size w w'

set_option maxHeartbeats 4000000 in
/-- ticks, by the closure. -/
theorem ticks_any (S Sm : Nat → Prop) (gm gw f : Nat) (ms : List Ml) (vm : Value)
    (hF : ∀ (x : Ex f) (v : Value) (W : World), fewX f x → WhenAt W gm gw vm → ML W Sm vm ms → EV W S f v x → Calls Try.prog 20 #[v, .pointer (some ⟨gm, 0, none⟩), .pointer (some ⟨gw, 0, none⟩)] W (WhenAs W (whenX ms f x)))
    (ks : List (Ex f)) (v : Value) (w : World) (hg : WhenAt w gm gw vm) (hm : ML w Sm vm ms) (hks : XS w S (EX w S f) v ks) (hfew : ks.length ≤ 1000000) (hall : ∀ u, u ∈ ks → fewX f u) :
    Calls Try.prog 22 #[v, .func (.func 20) #[] #[.pointer (some ⟨gm, 0, none⟩), .pointer (some ⟨gw, 0, none⟩)]] w fun e w' =>
      ∃ v', e = .returned v' ∧ w'.ownsRow w.heap.size 3 1 v' (ticksX ms f ks).length ((ticksX ms f ks).map iv) ∧ Below w.heap.size w w' := by
  obtain ⟨A3, cap3, rfl, hl3, hm3⟩ := hks.form
  have hlen : ks.length ≤ 9223372036854775807 := by unfold maxLen at hm3; omega
  have HFEW := Lib.hid hfew
  clear hfew
  have HALL := Lib.hid hall
  clear hall
  obtain ⟨D, hD⟩ : ∃ D : Ending → World → Prop, D = fun e w' => ∃ v', e = .returned v' ∧ w'.ownsRow w.heap.size 3 1 v' (ticksX ms f ks).length ((ticksX ms f ks).map iv) ∧ Below w.heap.size w w' := ⟨_, rfl⟩
  rw [← hD]
  have HD : Hid (∀ v' W, W.ownsRow w.heap.size 3 1 v' (ticksX ms f (ks.take ks.length)).length ((ticksX ms f (ks.take ks.length)).map iv) → Below w.heap.size w W → D (.returned v') W) := fun v' W h1 h2 => by
    rw [List.take_length] at h1
    rw [hD]; exact ⟨v', rfl, h1, h2⟩
  clear hD
  have HSTEP : Hid (∀ j (hj : j < ks.length), ticksX ms f (ks.take (j + 1)) = if (whenX ms f ks[j]).2 = true then ticksX ms f (ks.take j) ++ [(whenX ms f ks[j]).1] else ticksX ms f (ks.take j)) := fun j hj => ticks_step ms f ks hj
  have HLE : Hid (∀ j, (ticksX ms f (ks.take j)).length ≤ 1000000) := fun j => by
    have h1 := ticks_le ms f (ks.take j)
    have h2 : (ks.take j).length ≤ ks.length := by rw [List.length_take]; omega
    have := HFEW.out
    omega
  go_enter Try.func22, Try.ntmps22
  go_wp2_with fail
  go_loopw [5, 12] (fun lv xv wr => ∃ j : Nat, j ≤ ks.length ∧ xv = .int .i64 j ∧ wr.ownsRow w.heap.size 3 1 lv (ticksX ms f (ks.take j)).length ((ticksX ms f (ks.take j)).map iv) ∧ Below w.heap.size w wr) (fun _ xv _ => ks.length - (intOf xv).toNat)
  case atStart => exact ⟨0, by omega, rfl, World.ownsRow_nil _ _ _ _, Below.refl _ _⟩
  case round =>
    obtain ⟨j, hj, rfl, how, B⟩ := hrel
    by_cases hlt : j < ks.length
    · have hltI : (j : Int) < (ks.length : Int) := by omega
      obtain ⟨b, o, e0, e1, e2, e3, rfl, hb, k0, k1, k2, k3, hv⟩ := kid_b hks rfl B j hlt
      have hgr := hg.past B
      have hc := hF ks[j] _ (wr.alloc (.cells #[e0, e1, e2, e3] 24)) (HALL.out _ (List.getElem_mem hlt)) (hgr.alloc _) ((hm.below' B).alloc _) (hv.alloc _)
      have B2 : Below w.heap.size w (wr.alloc (.cells #[e0, e1, e2, e3] 24)) := B.alloc B.size _
      have how2 := own_past ((Below.refl wr.heap.size wr).alloc (Nat.le_refl _) (.cells #[e0, e1, e2, e3] 24)) how
      have hst := HSTEP.out j hlt
      have hle := HLE.out j
      obtain ⟨L, hL⟩ : ∃ L, L = ticksX ms f (ks.take j) := ⟨_, rfl⟩
      rw [← hL] at hst hle how2
      obtain ⟨L2, hL2⟩ : ∃ L2, L2 = ticksX ms f (ks.take (j + 1)) := ⟨_, rfl⟩
      rw [← hL2] at hst
      have HL2 := Lib.hid hL2
      clear how hL hL2
      generalize whenX ms f ks[j] = r at *
      obtain ⟨t, ok⟩ := r
      have HST := Lib.hid hst
      clear hst
      obtain ⟨_, _, _, _, e, hx4⟩ := hv
      injection e with e
      simp only [Array.mk.injEq, List.cons.injEq, and_true] at e
      obtain ⟨rfl, rfl, rfl, rfl⟩ := e
      obtain ⟨i0, i1, l2, X3, n3, z3, rfl, rfl, rfl, rfl⟩ := hx4.form
      unfold strV at *
      generalize (⟨l2.toArray⟩ : ByteArray) = s2 at *
      clear hx4 hgr
      have hbr : b < wr.heap.size := Nat.lt_of_lt_of_le hb B.size
      have hform := (IS.of_own (l := L) how2).form
      obtain ⟨A1, c1, rfl, _⟩ := hform
      go_wp2_with fail
      refine hc.mono ?_
      rintro e w5 ⟨rfl, b5⟩
      have B5 := B2.trans (b5.mono B2.size)
      have how5 := own_past b5 how2
      clear hc b5 B2 how2 k0 k1 k2 k3
      cases ok with
      | false =>
        have e2 : L = L2 := (HST.out.trans (if_neg (by decide))).symm
        subst e2
        clear HST
        go_wp2_with fail
        go_roundw
        case rel => exact ⟨j + 1, by omega, by go_num, by rw [← HL2.out]; exact how5, B5⟩
        case measure => simp [intOf]; omega
      | true =>
        have e2 : L ++ [t] = L2 := (HST.out.trans (if_pos rfl)).symm
        have HE2 := Lib.hid e2
        clear HST e2
        have how6 := own_past ((Below.refl w5.heap.size w5).alloc (Nat.le_refl _) (.cells #[.int .i64 t] 3)) how5
        have B6 := B5.alloc B5.size (.cells #[.int .i64 t] 3)
        have kx2 := (KB.new w5 3 #[.int .i64 t]).cell 0
        have hll : L.length ≤ 1000000000 := by omega
        clear how5 B5
        go_wp2_with (at_builtin; refine wpList_grow1 _ rfl _ _ rfl w.heap.size _ L rfl how6 t w5.heap.size 1 rfl kx2 hll B6.size ?_; intro v7 w7 how7 g7 _; rw [HE2.out, HL2.out] at how7; have B7 := B6.grown g7 B6.size (fun g e => own_ge how6 g e))
        go_roundw
        case rel => exact ⟨j + 1, by omega, by go_num, how7, B7⟩
        case measure => simp [intOf]; omega
    · obtain rfl : j = ks.length := by omega
      have hfin := HD.out _ _ how B
      clear HD HSTEP HLE hg hm hks how
      go_wp2_with fail
      exact hfin

theorem XS.pastD {w w' : World} {S : Nat → Prop} {f : Nat} {v : Value} {ks : List (Ex f)} (h : XS w S (EX w S f) v ks) (hb : Below w.heap.size w w') : XS w' S (EX w' S f) v ks := by
  have := XS.map (E' := EX w' S f) (w' := w') (S' := S) id h hb.size (fun b _ hl => hb.block b hl) (fun _ h => h) (fun t c0 c1 c2 c3 h => h.below' hb)
  rwa [List.map_id] at this

set_option maxHeartbeats 8000000 in
/-- The closure. -/
theorem when1_any (S Sm : Nat → Prop) (gm gw : Nat) (ms : List Ml) (vm : Value) : ∀ (f : Nat) (x : Ex f) (v : Value) (w : World), fewX f x → WhenAt w gm gw vm → ML w Sm vm ms → EV w S f v x →
    Calls Try.prog 20 #[v, .pointer (some ⟨gm, 0, none⟩), .pointer (some ⟨gw, 0, none⟩)] w (WhenAs w (whenX ms f x)) := by
  intro f
  induction f with
  | zero => intro x; exact nomatch x
  | succ f ih =>
    intro x v w hf hg hm hv
    obtain ⟨hf1, _, hf3⟩ : (x : Nx (Ex f)).kids.length ≤ 1000000 ∧ (x : Nx (Ex f)).mile.length ≤ 1000000 ∧ ∀ u ∈ (x : Nx (Ex f)).kids, fewX f u := hf
    have hxv := hv
    obtain ⟨c0, c1, c2, c3, rfl, rfl, hk, rfl, hdy, rfl, hml, hks⟩ := hv
    obtain ⟨A3, cap3, e3, hl3, hm3⟩ := hks.form
    subst e3
    have B0 := (Below.refl w.heap.size w).alloc (Nat.le_refl _) (.cells #[.int .i64 (x : Nx (Ex f)).op, .int .i64 (x : Nx (Ex f)).days, strV (x : Nx (Ex f)).mile, .slice A3 (x : Nx (Ex f)).kids.length cap3] 24)
    have kb := KB.new w 24 #[.int .i64 (x : Nx (Ex f)).op, .int .i64 (x : Nx (Ex f)).days, strV (x : Nx (Ex f)).mile, .slice A3 (x : Nx (Ex f)).kids.length cap3]
    have hA := after19_any S Sm f (x : Nx (Ex f)) ms _ vm _ (EV.alloc hxv (.cells #[.int .i64 (x : Nx (Ex f)).op, .int .i64 (x : Nx (Ex f)).days, strV (x : Nx (Ex f)).mile, .slice A3 (x : Nx (Ex f)).kids.length cap3] 24)) (hm.alloc _)
    have hT := ticks_any S Sm gm gw f ms vm ih (x : Nx (Ex f)).kids _ _ (hg.alloc _) (hm.alloc _) (XS.pastD hks B0) hf1 hf3
    have km : (w.alloc (.cells #[.int .i64 (x : Nx (Ex f)).op, .int .i64 (x : Nx (Ex f)).days, strV (x : Nx (Ex f)).mile, .slice A3 (x : Nx (Ex f)).kids.length cap3] 24)).cell? ⟨gm, 0, none⟩ = some vm := (hg.alloc _).miles.cell 0
    have kw : (w.alloc (.cells #[.int .i64 (x : Nx (Ex f)).op, .int .i64 (x : Nx (Ex f)).days, strV (x : Nx (Ex f)).mile, .slice A3 (x : Nx (Ex f)).kids.length cap3] 24)).cell? ⟨gw, 0, none⟩ = some (.func (.func 20) #[] #[.pointer (some ⟨gm, 0, none⟩), .pointer (some ⟨gw, 0, none⟩)]) := (hg.alloc _).self.cell 0
    have hgm := hg.miles.lt
    have hgw := hg.self.lt
    have km' : w.cell? ⟨gm, 0, none⟩ = some vm := hg.miles.cell 0
    have kw' : w.cell? ⟨gw, 0, none⟩ = some (.func (.func 20) #[] #[.pointer (some ⟨gm, 0, none⟩), .pointer (some ⟨gw, 0, none⟩)]) := hg.self.cell 0
    obtain ⟨D, hD⟩ : ∃ D, D = WhenAs w (whenX ms (f + 1) x) := ⟨_, rfl⟩
    rw [← hD]
    have HD : Hid (∀ (t : Int) (ok : Bool) W, whenX ms (f + 1) x = (t, ok) → Below w.heap.size w W → D (.returned (.tuple #[.int .i64 t, .bool ok])) W) := fun t ok W h hb => by
      rw [hD, h]; exact ⟨rfl, hb⟩
    clear hD
    have H1 : Hid ((x : Nx (Ex f)).op = 1 → whenX ms (f + 1) x = mileD ms (x : Nx (Ex f)).mile (x : Nx (Ex f)).days) := fun h => when_after h
    have H2 : Hid ((x : Nx (Ex f)).op = 2 → whenX ms (f + 1) x = if 0 < (ticksX ms f (x : Nx (Ex f)).kids).length then (minL (ticksX ms f (x : Nx (Ex f)).kids), true) else (0, false)) := fun h => when_or h
    have H3 : Hid ((x : Nx (Ex f)).op = 3 → whenX ms (f + 1) x = if 0 < (ticksX ms f (x : Nx (Ex f)).kids).length ∧ (ticksX ms f (x : Nx (Ex f)).kids).length = (x : Nx (Ex f)).kids.length then (maxL (ticksX ms f (x : Nx (Ex f)).kids), true) else (0, false)) := fun h => when_and h
    have H4 : Hid (¬ (x : Nx (Ex f)).op = 1 → ¬ (x : Nx (Ex f)).op = 2 → ¬ (x : Nx (Ex f)).op = 3 → whenX ms (f + 1) x = (0, false)) := fun h1 h2 h3 => when_other h1 h2 h3
    have HLE := Lib.hid (ticks_le ms f (x : Nx (Ex f)).kids)
    generalize whenX ms (f + 1) x = r at *
    generalize ticksX ms f (x : Nx (Ex f)).kids = L at *
    generalize mileD ms (x : Nx (Ex f)).mile (x : Nx (Ex f)).days = md at *
    clear hks hf3 hxv hm ih
    generalize (x : Nx (Ex f)).op = k at *
    generalize (x : Nx (Ex f)).days = dy at *
    unfold strV at *
    generalize (⟨(x : Nx (Ex f)).mile.toArray⟩ : ByteArray) = s at *
    clear hml
    generalize (x : Nx (Ex f)).kids.length = kl at *
    have hkl : kl ≤ 9223372036854775807 := by omega
    clear hg
    obtain ⟨W1, hW1⟩ : ∃ W1, W1 = (w.alloc (.cells #[.int .i64 k, .int .i64 dy, .string s, .slice A3 kl cap3] 24)) := ⟨_, rfl⟩
    have HT : Hid (Calls Try.prog 22 #[.slice A3 kl cap3, .func (.func 20) #[] #[.pointer (some ⟨gm, 0, none⟩), .pointer (some ⟨gw, 0, none⟩)]] W1 fun e w' =>
      ∃ v', e = .returned v' ∧ w'.ownsRow W1.heap.size 3 1 v' L.length (L.map iv) ∧ Below W1.heap.size W1 w') := by rw [hW1]; exact hT
    have HA : Hid (Calls Try.prog 21 #[.agg #[.int .i64 k, .int .i64 dy, .string s, .slice A3 kl cap3], vm] W1 fun e w' => e = .returned (.tuple #[.int .i64 md.1, .bool md.2]) ∧ Below W1.heap.size W1 w') := by rw [hW1]; exact hA
    clear hT hA
    rw [← hW1] at km kw kb B0
    have HW1 := Lib.hid hW1
    clear hW1
    by_cases k1 : k = 1
    · subst k1
      have hr := H1.out rfl
      have HR := Lib.hid hr
      clear hr H1 H2 H3 H4 HT
      have ha := HA.out
      clear HA
      go_enter Try.func20, Try.ntmps20
      go_wp2_with fail
      rw [← HW1.out]
      refine ha.mono ?_
      rintro e w5 ⟨rfl, b5⟩
      have hfin := HD.out md.1 md.2 w5 HR.out (B0.trans (b5.mono B0.size))
      clear ha HD HR
      go_wp2_with fail
      exact hfin
    by_cases k2 : k = 2
    · subst k2
      have HR := Lib.hid (H2.out rfl)
      clear H1 H2 H3 H4 HA k1
      have ht := HT.out
      clear HT
      go_enter Try.func20, Try.ntmps20
      go_wp2_with fail
      rw [← HW1.out]
      refine ht.mono ?_
      rintro e w5 ⟨v5, rfl, how, b5⟩
      have B5 := B0.trans (b5.mono B0.size)
      have hI := IS.of_own (l := L) how
      obtain ⟨A5, c5, rfl, hl5, hc5, _⟩ := hI.form
      clear ht how
      by_cases h0 : 0 < L.length
      · have hmin := mins_any _ L _ w5 hI h0
        have g0 : (0 : Int) < (L.length : Int) := by omega
        have hfin := HD.out _ _ w5 (HR.out.trans (if_pos h0)) B5
        clear HD HR hI
        go_wp2_with fail
        refine hmin.mono ?_
        rintro e w6 ⟨rfl, rfl⟩
        go_wp2_with fail
        exact hfin
      · have g0 : ¬ (0 : Int) < (L.length : Int) := by omega
        have hfin := HD.out _ _ w5 (HR.out.trans (if_neg h0)) B5
        clear HD HR hI
        go_wp2_with fail
        exact hfin
    by_cases k3 : k = 3
    · subst k3
      have HR := Lib.hid (H3.out rfl)
      clear H1 H2 H3 H4 HA k1 k2
      have ht := HT.out
      clear HT
      go_enter Try.func20, Try.ntmps20
      go_wp2_with fail
      rw [← HW1.out]
      refine ht.mono ?_
      rintro e w5 ⟨v5, rfl, how, b5⟩
      have B5 := B0.trans (b5.mono B0.size)
      have K5 := kb.below b5 kb.lt
      have q3 : w5.cell? ⟨w.heap.size, 3, none⟩ = some (.slice A3 kl cap3) := K5.cell 3
      have hI := IS.of_own (l := L) how
      obtain ⟨A5, c5, rfl, hl5, hc5, _⟩ := hI.form
      clear ht how
      by_cases h0 : 0 < L.length
      · have g0 : (0 : Int) < (L.length : Int) := by omega
        have d0 : decide ((0 : Int) < (L.length : Int)) = true := decide_eq_true g0
        by_cases he : L.length = kl
        · have hmax := maxs_any _ L _ w5 hI h0
          have hfin := HD.out _ _ w5 (HR.out.trans (if_pos ⟨h0, he⟩)) B5
          have ge : ((L.length : Int) == (kl : Int)) = true := beq_iff_eq.2 (by omega)
          have ge' : (L.length == kl) = true := beq_iff_eq.2 he
          clear HD HR hI he
          go_wp2_with fail
          refine hmax.mono ?_
          rintro e w6 ⟨rfl, rfl⟩
          go_wp2_with fail
          exact hfin
        · have hfin := HD.out _ _ w5 (HR.out.trans (if_neg fun h => he h.2)) B5
          have ge : ((L.length : Int) == (kl : Int)) = false := beq_eq_false_iff_ne.2 (by omega)
          have ge' : (L.length == kl) = false := beq_eq_false_iff_ne.2 he
          clear HD HR hI
          go_wp2_with fail
          exact hfin
      · have g0 : ¬ (0 : Int) < (L.length : Int) := by omega
        have d0 : decide ((0 : Int) < (L.length : Int)) = false := decide_eq_false g0
        have hfin := HD.out _ _ w5 (HR.out.trans (if_neg fun h => h0 h.1)) B5
        clear HD HR hI
        go_wp2_with fail
        exact hfin
    have e1 : (k == 1) = false := beq_eq_false_iff_ne.2 k1
    have e2 : (k == 2) = false := beq_eq_false_iff_ne.2 k2
    have e3 : (k == 3) = false := beq_eq_false_iff_ne.2 k3
    have hfin := HD.out _ _ W1 (H4.out k1 k2 k3) B0
    clear HD H1 H2 H3 H4 HT HA
    go_enter Try.func20, Try.ntmps20
    go_wp2_with fail
    rw [← HW1.out]
    exact hfin

set_option maxHeartbeats 2000000 in
/-- When. -/
theorem when19_any (S Sm : Nat → Prop) (ms : List Ml) (vm : Value) (f : Nat) (x : Ex f) (v : Value) (w : World) (hf : fewX f x) (hm : ML w Sm vm ms) (hv : EV w S f v x) :
    Calls Try.prog 9 #[v, vm] w (WhenAs w (whenX ms f x)) := by
  obtain ⟨c0, c1, c2, c3, rfl, ht⟩ := hv
  have hf4 := ht.form
  obtain ⟨w1, hw1⟩ : ∃ w1, w1 = (w.alloc (.cells #[c0, c1, c2, c3] 24)).alloc (.cells #[vm] 25) := ⟨_, rfl⟩
  obtain ⟨w3, hw3⟩ : ∃ w3, w3 = w1.alloc (.cells #[.func (.func 20) #[] #[.pointer (some ⟨w.heap.size + 1, 0, none⟩), .pointer (some ⟨w.heap.size + 2, 0, none⟩)]] 50) := ⟨_, rfl⟩
  have s1 : w1.heap.size = w.heap.size + 2 := by rw [hw1]; simp
  have B1 : Below w.heap.size w w1 := by
    rw [hw1]
    exact ((Below.refl _ _).alloc (Nat.le_refl _) _).alloc (by simp) _
  have km : KB w1 (w.heap.size + 1) 25 #[vm] := by
    have := KB.new (w.alloc (.cells #[c0, c1, c2, c3] 24)) 25 #[vm]
    rw [World.size_alloc] at this
    rw [hw1]; exact this
  have kw : KB w3 (w.heap.size + 2) 50 #[.func (.func 20) #[] #[.pointer (some ⟨w.heap.size + 1, 0, none⟩), .pointer (some ⟨w.heap.size + 2, 0, none⟩)]] := by
    have := KB.new w1 50 #[.func (.func 20) #[] #[.pointer (some ⟨w.heap.size + 1, 0, none⟩), .pointer (some ⟨w.heap.size + 2, 0, none⟩)]]
    rw [← hw3, s1] at this
    exact this
  have B3 : Below w.heap.size w w3 := by
    rw [hw3]; exact B1.alloc (by omega) _
  have hg : WhenAt w3 (w.heap.size + 1) (w.heap.size + 2) vm := ⟨by rw [hw3]; exact km.alloc _, kw⟩
  have hh := when1_any S Sm (w.heap.size + 1) (w.heap.size + 2) ms vm f x (.agg #[c0, c1, c2, c3]) w3 hf hg (hm.below' B3) ⟨c0, c1, c2, c3, rfl, ht.below' B3⟩
  have HW : Hid (w3 = ((w.alloc (.cells #[c0, c1, c2, c3] 24)).alloc (.cells #[vm] 25)).alloc (.cells #[.func (.func 20) #[] #[.pointer (some ⟨w.heap.size + 1, 0, none⟩), .pointer (some ⟨w.heap.size + 2, 0, none⟩)]] 50)) := by show _ = _; rw [hw3, hw1]
  obtain ⟨D, hD⟩ : ∃ D, D = WhenAs w (whenX ms f x) := ⟨_, rfl⟩
  rw [← hD]
  have HD : Hid (∀ W, Below w.heap.size w W → D (.returned (.tuple #[.int .i64 (whenX ms f x).1, .bool (whenX ms f x).2])) W) := fun W hb => by rw [hD]; exact ⟨rfl, hb⟩
  generalize whenX ms f x = r at *
  obtain ⟨Am, capm, rfl, hlm, hmm⟩ := hm.form
  clear ht kw hw1 hw3 s1 hD hf hm km hg B1
  obtain ⟨i0, i1, l2, X3, n3, z3, rfl, rfl, rfl, rfl⟩ := hf4
  unfold strV at *
  generalize (⟨l2.toArray⟩ : ByteArray) = s at *
  go_enter Try.func9, Try.ntmps9
  go_wp2_with fail
  rw [← HW.out]
  refine hh.mono ?_
  rintro e w5 ⟨rfl, b5⟩
  have hfin := HD.out w5 (B3.trans (b5.mono B3.size))
  clear hh HW HD b5 B3
  go_wp2_with fail
  exact hfin
end Go.Proofs.Ytommcdgognlfcaa
