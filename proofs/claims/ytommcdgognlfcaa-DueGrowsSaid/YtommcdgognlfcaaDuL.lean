/-
  The law's small, live, plain (layer 19), over the loaded program: each one's contract. No condition.
-/
import Derived.Test.YtommcdgognlfcaaDuT
import Derived.Test.YtommcdgognlfcaaRuD
import Derived.Test.YtommcdgognlfcaaRvF
import Derived.Test.YtommcdgognlfcaaDuO
namespace Go.Proofs.Ytommcdgognlfcaa
open Go.RowKit
set_option maxRecDepth 100000
set_option linter.unusedVariables false

set_option maxHeartbeats 1000000 in
/-- small: where it is told of a condition, its parts are few. -/
theorem small19_any (S : Nat → Prop) (f : Nat) (x : Ex f) (v : Value) (w : World) (hv : EV w S f v x) :
    Calls Try.prog 7 #[v] w fun e w' => ∃ b : Bool, e = .returned (.bool b) ∧ (b = true → fewX f x) ∧ Below w.heap.size w w' := by
  obtain ⟨c0, c1, c2, c3, rfl, ht⟩ := hv
  have hf4 := ht.form
  have kr := KB.new (w.alloc (.cells #[c0, c1, c2, c3] 24)) 49 #[.string ⟨#[]⟩, c0, c1, c2, c3, .int .i64 0]
  rw [World.size_alloc] at kr
  have B2 : Below w.heap.size w ((w.alloc (.cells #[c0, c1, c2, c3] 24)).alloc (.cells #[.string ⟨#[]⟩, c0, c1, c2, c3, .int .i64 0] 49)) := ((Below.refl _ _).alloc (Nat.le_refl _) _).alloc (by simp) _
  have hrs := rs_one (S := fun b => S b ∨ b = w.heap.size + 1) (r := (⟨[], x, 0⟩ : Rl f)) kr (.inr rfl) ⟨rfl, Nat.zero_le _, (ht.below' B2).mono fun b h => .inl h, rfl, by show I64 0; unfold I64; decide⟩
  have hs := rsmall_any _ f [⟨[], x, 0⟩] _ _ hrs
  obtain ⟨D, hD⟩ : ∃ D : Ending → World → Prop, D = fun e w' => ∃ b : Bool, e = .returned (.bool b) ∧ (b = true → fewX f x) ∧ Below w.heap.size w w' := ⟨_, rfl⟩
  rw [← hD]
  have HD : Hid (∀ (b : Bool) W, (b = true → SmallOk f [(⟨[], x, 0⟩ : Rl f)]) → Below w.heap.size w W → D (.returned (.bool b)) W) := fun b W h hb => by
    rw [hD]; exact ⟨b, rfl, fun e => ((h e).2 _ (List.mem_cons_self ..)).2, hb⟩
  clear hD hrs kr ht
  obtain ⟨i0, i1, l2, X3, n3, z3, rfl, rfl, rfl, rfl⟩ := hf4
  unfold strV at *
  generalize (⟨l2.toArray⟩ : ByteArray) = s at *
  have HS := Lib.hid hs
  go_enter Try.func7, Try.ntmps7
  go_wp2_with fail
  refine HS.out.mono ?_
  rintro e w5 ⟨b, rfl, hb, b5⟩
  have hfin := HD.out b w5 hb (B2.trans (b5.mono B2.size))
  clear HS hs HD hb b5 B2
  go_wp2_with fail
  exact hfin

set_option maxHeartbeats 1000000 in
/-- live: the page's example. -/
theorem live19_any (w : World) : Calls Try.prog 8 #[] w fun e w' => e = .returned (.bool true) ∧ Below w.heap.size w w' := by
  have km := KB.new w 43 #[.string ⟨#[99, 108, 111, 115, 101, 100]⟩, .int .i64 10]
  have B0 := (Below.refl w.heap.size w).alloc (Nat.le_refl _) (.cells #[.string ⟨#[99, 108, 111, 115, 101, 100]⟩, .int .i64 10] 43)
  have hm := ml_one (S := fun b => b = w.heap.size) (m := ([99, 108, 111, 115, 101, 100], 10)) km rfl (by show I64 10; unfold I64; decide) (by show (6 : Nat) ≤ maxLen; unfold maxLen; omega)
  have hw := when19_any (fun _ => True) _ _ _ 1 (⟨1, 730, [99, 108, 111, 115, 101, 100], []⟩ : Nx (Ex 0)) (.agg #[.int .i64 1, .int .i64 730, .string ⟨#[99, 108, 111, 115, 101, 100]⟩, .slice none 0 0]) _ ⟨Nat.zero_le _, by show (6 : Nat) ≤ 1000000; omega, fun u hu => by cases hu⟩ hm
    ⟨_, _, _, _, rfl, rfl, by show I64 1; unfold I64; decide, rfl, by show I64 730; unfold I64; decide, rfl, by show (6 : Nat) ≤ maxLen; unfold maxLen; omega, XS.nil _ _ _⟩
  rw [live_when] at hw
  have HWH := Lib.hid hw
  clear hw hm km
  go_enter Try.func8, Try.ntmps8
  go_wp2_with fail
  refine HWH.out.mono ?_
  rintro e w5 ⟨rfl, b5⟩
  have B5 := B0.trans (b5.mono B0.size)
  clear HWH b5 B0
  go_wp2_with fail
  go_ret
  exact ⟨rfl, B5⟩

theorem plain_stop {f : Nat} {x : Nx (Ex f)} {j : Nat} (hj : j < x.kids.length) (h : plainX f x.kids[j] = false) : plainX (f + 1) x = false := by
  show (x.kids.all (plainX f) && !decide (x.op = 3)) = false
  have : x.kids.all (plainX f) = false := List.all_eq_false.2 ⟨_, List.getElem_mem hj, by rw [h]; decide⟩
  rw [this]; rfl
theorem plain_all {f : Nat} {x : Nx (Ex f)} (h : ∀ j (hj : j < x.kids.length), plainX f x.kids[j] = true) : plainX (f + 1) x = !decide (x.op = 3) := by
  show (x.kids.all (plainX f) && !decide (x.op = 3)) = _
  have : x.kids.all (plainX f) = true := List.all_eq_true.2 fun u hu => by
    obtain ⟨j, hj, rfl⟩ := List.mem_iff_getElem.1 hu
    exact h j hj
  rw [this]; rfl

set_option maxHeartbeats 4000000 in
/-- plain. -/
theorem plain19_any (S : Nat → Prop) : ∀ (f : Nat) (x : Ex f) (v : Value) (w : World), EV w S f v x →
    Calls Try.prog 19 #[v] w fun e w' => e = .returned (.bool (plainX f x)) ∧ Below w.heap.size w w' := by
  intro f
  induction f with
  | zero => intro x; exact nomatch x
  | succ f ih =>
    intro x v w hv
    obtain ⟨c0, c1, c2, c3, rfl, rfl, hk, rfl, hdy, rfl, hml, hks⟩ := hv
    obtain ⟨A3, cap3, e3, hl3, hm3⟩ := hks.form
    subst e3
    have hlen : (x : Nx (Ex f)).kids.length ≤ 9223372036854775807 := by unfold maxLen at hm3; omega
    have HSTOP : Hid (∀ j (hj : j < (x : Nx (Ex f)).kids.length), plainX f (x : Nx (Ex f)).kids[j] = false → plainX (f + 1) x = false) := fun j hj h => plain_stop (x := (x : Nx (Ex f))) hj h
    have HALL : Hid ((∀ j (hj : j < (x : Nx (Ex f)).kids.length), j < (x : Nx (Ex f)).kids.length → plainX f (x : Nx (Ex f)).kids[j] = true) → plainX (f + 1) x = !decide ((x : Nx (Ex f)).op = 3)) := fun h => plain_all (x := (x : Nx (Ex f))) fun j hj => h j hj hj
    have HKID : Hid (∀ (wr : World), Below w.heap.size w wr → ∀ j (hj : j < (x : Nx (Ex f)).kids.length), ∃ b o e0 e1 e2 e3, A3 = some ⟨b, o, none⟩ ∧ b < w.heap.size ∧ wr.cell? ⟨b, o + j * 4, none⟩ = some e0 ∧ wr.cell? ⟨b, o + j * 4 + 1, none⟩ = some e1 ∧ wr.cell? ⟨b, o + j * 4 + 2, none⟩ = some e2 ∧ wr.cell? ⟨b, o + j * 4 + 3, none⟩ = some e3 ∧ EV wr S f (.agg #[e0, e1, e2, e3]) (x : Nx (Ex f)).kids[j] ∧
        Calls Try.prog 19 #[.agg #[e0, e1, e2, e3]] wr fun e w' => e = .returned (.bool (plainX f (x : Nx (Ex f)).kids[j])) ∧ Below wr.heap.size wr w') := fun wr hb j hj => by
      obtain ⟨b, o, e0, e1, e2, e3, h1, h2, k0, k1, k2, k3, hx⟩ := kid_b hks rfl hb j hj
      exact ⟨b, o, e0, e1, e2, e3, h1, h2, k0, k1, k2, k3, hx, ih _ _ wr hx⟩
    clear hks hk hml ih
    have B0 := (Below.refl w.heap.size w).alloc (Nat.le_refl _) (.cells #[.int .i64 (x : Nx (Ex f)).op, .int .i64 (x : Nx (Ex f)).days, strV (x : Nx (Ex f)).mile, .slice A3 (x : Nx (Ex f)).kids.length cap3] 24)
    have kb := KB.new w 24 #[.int .i64 (x : Nx (Ex f)).op, .int .i64 (x : Nx (Ex f)).days, strV (x : Nx (Ex f)).mile, .slice A3 (x : Nx (Ex f)).kids.length cap3]
    generalize plainX (f + 1) x = r at *
    generalize (x : Nx (Ex f)).op = k at *
    generalize (x : Nx (Ex f)).days = dy at *
    generalize (x : Nx (Ex f)).kids = ks at *
    generalize (x : Nx (Ex f)).mile = mi at *
    clear x
    unfold strV at *
    generalize (⟨mi.toArray⟩ : ByteArray) = s at *
    go_enter Try.func19, Try.ntmps19
    go_wp2_with fail
    go_loopw [3] (fun xv wr => ∃ (j : Nat), j ≤ ks.length ∧ xv = .int .i64 j ∧ Hid (∀ i (hi : i < ks.length), i < j → plainX f ks[i] = true) ∧
      KB wr w.heap.size 24 #[.int .i64 k, .int .i64 dy, .string s, .slice A3 ks.length cap3] ∧ Below w.heap.size w wr) (fun xv _ => ks.length - (intOf xv).toNat)
    case atStart => exact ⟨0, by omega, rfl, fun i _ h => absurd h (Nat.not_lt_zero _), kb, B0⟩
    case round =>
      clear kb B0
      obtain ⟨j, hj, rfl, hall, K, B⟩ := hrel
      have q3 : wr.cell? ⟨w.heap.size, 3, none⟩ = some (.slice A3 ks.length cap3) := K.cell 3
      by_cases hlt : j < ks.length
      · have hltI : (j : Int) < (ks.length : Int) := by omega
        obtain ⟨b, o, e0, e1, e2, e3, rfl, hb, k0, k1, k2, k3, hx, hc⟩ := HKID.out wr B j hlt
        have HNO := Lib.hid (fun hn => HSTOP.out j hlt hn)
        have HYE : Hid (plainX f ks[j] = true → ∀ i (hi : i < ks.length), i < j + 1 → plainX f ks[i] = true) := fun hy i hi hij => by
          rcases Nat.lt_or_ge i j with h' | h'
          · exact hall.out i hi h'
          · obtain rfl : i = j := by omega
            exact hy
        clear hall
        have hfo := hx
        obtain ⟨_, _, _, _, e, hx4⟩ := hfo
        injection e with e
        simp only [Array.mk.injEq, List.cons.injEq, and_true] at e
        obtain ⟨rfl, rfl, rfl, rfl⟩ := e
        obtain ⟨i0, i1, l2, X3, n3, z3, rfl, rfl, rfl, rfl⟩ := hx4.form
        unfold strV at *
        generalize (⟨l2.toArray⟩ : ByteArray) = s2 at *
        clear hx4 hx
        generalize plainX f ks[j] = p at *
        go_wp2_with fail
        refine hc.mono ?_
        rintro e w5 ⟨rfl, b5⟩
        have B5 := B.trans (b5.mono B.size)
        have K5 := K.below b5 K.lt
        clear hc b5 k0 k1 k2 k3 q3 HKID
        cases p with
        | false =>
          obtain rfl := HNO.out rfl
          clear HNO HYE HSTOP HALL
          go_wp2_with fail
          go_ret
          exact ⟨rfl, B5⟩
        | true =>
          have HN := Lib.hid (HYE.out rfl)
          clear HNO HYE
          go_wp2_with fail
          go_roundw
          case rel => exact ⟨j + 1, by omega, by go_num, HN, K5, B5⟩
          case measure => simp [intOf]; omega
      · obtain rfl : j = ks.length := by omega
        have hr := HALL.out (fun i hi hl => hall.out i hi hl)
        have q0 : wr.cell? ⟨w.heap.size, 0, none⟩ = some (.int .i64 k) := K.cell 0
        clear HSTOP HALL hall HKID
        by_cases h3 : k = 3
        · obtain rfl : r = false := by rw [hr, decide_eq_true h3]; rfl
          have e3 : (k != 3) = false := by rw [h3]; rfl
          clear hr
          subst h3
          go_wp2_with fail
          go_ret
          exact ⟨rfl, B⟩
        · obtain rfl : r = true := by rw [hr, decide_eq_false h3]; rfl
          have e3 : (k != 3) = true := bne_iff_ne.2 h3
          clear hr
          go_wp2_with fail
          go_ret
          exact ⟨rfl, B⟩
end Go.Proofs.Ytommcdgognlfcaa
