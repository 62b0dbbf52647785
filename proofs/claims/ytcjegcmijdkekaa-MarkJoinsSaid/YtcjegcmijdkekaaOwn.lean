/-
  The document's Same, Copy and Fixed (layer 1), over the loaded program: each one's contract. No condition but the sizes that each contract names.
-/
import Derived.Test.YtcjegcmijdkekaaBase
import Derived.WalkSpells
import Derived.BigQuiet
import Derived.Deep.QuietTactic
namespace Go.Proofs.Ytcjegcmijdkekaa
open Go.RowKit
set_option linter.unusedVariables false

theorem take_one_more {l m : List UInt8} {k : Nat} (h : l.take k = m.take k) (hl : k < l.length) (hm : k < m.length) (e : l[k] = m[k]) : l.take (k + 1) = m.take (k + 1) := by
  rw [List.take_add_one, List.take_add_one, h, List.getElem?_eq_getElem hl, List.getElem?_eq_getElem hm, e]

/-- Whether two slices hold the same bytes. -/
theorem same_draws (S S' : Nat → Prop) (x y : Value) (l m : List UInt8) (w : World) (hx : BS w S x l) (hy : BS w S' y m) :
    Calls Try.prog 12 #[x, y] w fun e w' => e = .returned (.bool (decide (l = m))) ∧ ∃ n, w' = w.drewN n := by
  obtain ⟨A, c, rfl, hlc, hcm, _⟩ := hx.form
  obtain ⟨A', c', rfl, _⟩ := hy.form
  have hlen : l.length ≤ 9223372036854775807 := by unfold maxLen at hcm; omega
  clear hcm hlc
  by_cases hlm : l.length = m.length
  · obtain ⟨r, hr⟩ : ∃ r, r = decide (l = m) := ⟨_, rfl⟩
    rw [← hr]
    have HR : Hid (r = decide (l = m)) := hr
    have HE : Hid (l.length = m.length) := hlm
    rw [← hlm] at hy ⊢
    clear hr hlm
    go_enter Try.func12, Try.ntmps12
    go_wp2
    go_loopw [5] (fun i wr => ∃ k n : Nat, k ≤ l.length ∧ Hid (l.take k = m.take k) ∧ i = .int .i64 k ∧ wr = w.drewN n) (fun i _ => l.length - (intOf i).toNat)
    case atStart => exact ⟨0, 0, by omega, by show _ = _; simp, rfl, rfl⟩
    case round =>
      obtain ⟨k, n, hk, ht, rfl, rfl⟩ := hrel
      by_cases hlt : k < l.length
      · have hmt : k < m.length := by rw [← HE.out]; exact hlt
        obtain ⟨b, o, rfl, _, _, h1⟩ := hx.at_ (by omega)
        have hy' := hy
        obtain ⟨A0, c0, e0, _, _, _, h2⟩ := hy'
        obtain ⟨b', o', rfl, _, _, h2⟩ := h2 (by omega)
        injection e0 with e0 _ _
        subst e0
        have k1 := h1 k l[k] (List.getElem?_eq_getElem hlt)
        have k2 : w.cell? ⟨b', o' + k, none⟩ = some (.int .u8 (m[k].toNat : Int)) := h2 k m[k] (List.getElem?_eq_getElem hmt)
        have ho := take_one_more ht.out hlt hmt
        have hn : ¬ l[k] = m[k] → r = false := fun h => by rw [HR.out]; exact decide_eq_false fun e => h (by subst e; rfl)
        have HO := Lib.hid ho
        have HN := Lib.hid hn
        clear h1 h2 hx hy ho hn
        generalize l[k] = p at *
        generalize m[k] = q at *
        by_cases hpq : (p.toNat : Int) = (q.toNat : Int)
        · have hpq' : p = q := UInt8.toNat_inj.1 (by omega)
          have HT := Lib.hid (HO.out hpq')
          go_wp2
          go_quiet (fail)
          go_wp2
          go_roundw
          case rel => exact ⟨k + 1, n + nq, by omega, HT, by go_num, rfl⟩
          case measure => simp [intOf]; omega
        · have hr := HN.out (fun e => hpq (by rw [e]))
          clear HN HO
          subst hr
          go_wp2
          go_quiet (fail)
          go_wp2
          go_ret
          exact ⟨rfl, n + nq, drewN_twice w n nq⟩
      · have hkl : k = l.length := by omega
        have hr : r = true := by
          rw [HR.out]
          have e := ht.out
          rw [hkl, List.take_length, HE.out, List.take_length] at e
          exact decide_eq_true e
        clear ht HR
        subst hr
        go_wp2
        go_ret
        exact ⟨rfl, _, rfl⟩
  · rw [decide_eq_false fun e => hlm (by rw [e])]
    have hne : ¬ (l.length : Int) = (m.length : Int) := by omega
    go_enter Try.func12, Try.ntmps12
    go_wp2
    go_ret
    exact ⟨rfl, 0, rfl⟩

/-- Whether two slices hold the same bytes: of memory nothing turns. -/
theorem same_is (S S' : Nat → Prop) (x y : Value) (l m : List UInt8) (w : World) (hx : BS w S x l) (hy : BS w S' y m) :
    Calls Try.prog 12 #[x, y] w fun e w' => e = .returned (.bool (decide (l = m))) ∧ Below w.heap.size w w' := by
  refine (same_draws S S' x y l m w hx hy).mono ?_
  rintro e w' ⟨rfl, n, rfl⟩
  exact ⟨rfl, ⟨rfl, rfl, rfl, Nat.le_refl _, fun _ _ => rfl⟩⟩

/-- Two slices of the same bytes are the same. -/
theorem same_yes (S S' : Nat → Prop) (x y : Value) (l : List UInt8) (w : World) (hx : BS w S x l) (hy : BS w S' y l) :
    Calls Try.prog 12 #[x, y] w fun e w' => e = .returned (.bool true) ∧ ∃ n, w' = w.drewN n := by
  refine (same_draws S S' x y l l w hx hy).mono ?_
  rintro e w' ⟨rfl, n, rfl⟩
  exact ⟨by rw [decide_eq_true rfl], n, rfl⟩

theorem same_to (S S' : Nat → Prop) (x y : Value) (l : List UInt8) (w : World) (hx : BS w S x l) (hy : BS w S' y l) :
    Calls Try.prog 12 #[x, y] w fun e w' => e = .returned (.bool true) ∧ Below w.heap.size w w' := by
  refine (same_yes S S' x y l w hx hy).mono ?_
  rintro e w' ⟨rfl, n, rfl⟩
  exact ⟨rfl, ⟨rfl, rfl, rfl, Nat.le_refl _, fun _ _ => rfl⟩⟩

theorem copy_any (S : Nat → Prop) (v : Value) (l : List UInt8) (w : World) (h : BS w S v l) (hl : l.length ≤ 140737488355328) :
    Calls Try.prog 17 #[v] w fun e w' => Fresh w e w' l := by
  obtain ⟨i0, hi, hz0, hz1, hz2⟩ := info_parts info_byte
  go_enter Try.func17, Try.ntmps17
  go_wp2_with (at_builtin; refine wpList_grow _ rfl _ _ _ rfl w.heap.size 5 i0 Try.underlying22 hi hz0 hz1 hz2 (.slice (some ⟨w.heap.size, 0, none⟩) 0 0) [] rfl (World.ownsRow_lit w #[] 0 (Nat.le_refl _) (by simp [maxLen]) rfl) S _ l rfl (h.alloc _) (by simp; omega) (by simp) ?_; intro v1 w1 hown hg _)
  go_ret
  exact ⟨_, rfl, hown, ((Below.refl _ _).alloc (Nat.le_refl _) _).grown hg (by simp) (by simp [Value.ownBlock])⟩


/-- The last n bytes of a number, the highest first. -/
def fixB : Nat → Nat → List UInt8
  | 0, _ => []
  | n + 1, x => fixB n (x / 256) ++ [UInt8.ofNat (x % 256)]
theorem fixB_length : ∀ n x, (fixB n x).length = n
  | 0, _ => rfl
  | n + 1, x => by rw [fixB, List.length_append, fixB_length]; rfl

theorem fixed_any (x n : Nat) (w : World) (h : x < 18446744073709551616) (hn : n ≤ 1000000) :
    Calls Try.prog 28 #[.int .u64 x, .int .i64 n] w fun e w' => Fresh w e w' (fixB n x) := by
  obtain ⟨i0, hi, hz0, hz1, hz2⟩ := info_parts info_byte
  obtain ⟨R, hR⟩ : ∃ R, R = fixB n x := ⟨_, rfl⟩
  have H0 : Hid (R = fixB (n - 0) x ++ []) := by show _ = _; rw [hR]; simp
  rw [← hR]
  have HX := Lib.hid h
  have HN := Lib.hid hn
  clear hR h hn
  go_enter Try.func28, Try.ntmps28
  go_wp2
  go_loopw [0, 5, 6] (fun xv v iv wr => ∃ (k m : Nat) (tl : List UInt8), k ≤ n ∧ tl.length = k ∧ Hid (R = fixB (n - k) m ++ tl) ∧ Hid (m < 18446744073709551616) ∧ xv = .int .u64 m ∧ iv = .int .i64 k ∧ wr.ownsRow w.heap.size 5 1 v tl.length (tl.map bv) ∧ Below w.heap.size w wr)
    (fun _ _ iv _ => n - (intOf iv).toNat)
  case atStart => exact ⟨0, x, [], by omega, rfl, H0, HX, rfl, rfl, World.ownsRow_nil _ _ _ _, Below.refl _ _⟩
  case round =>
    obtain ⟨k, m, tl, hk, htl, hR, hm, rfl, rfl, how, hbl⟩ := hrel
    by_cases hlt : k < n
    · have EW : Hid (IntKind.u64.wrap ((m : Int) / 256) = ((m / 256 : Nat) : Int)) := by
        have := hm.out
        show _ = _
        rw [IntWalk.u64_in _ (by omega)]; omega
      have EM : Hid (m / 256 < 18446744073709551616) := by
        have := hm.out
        show _ < _
        omega
      have HR : Hid (R = fixB (n - (k + 1)) (m / 256) ++ (UInt8.ofNat (m % 256) :: tl)) := by
        have e := hR.out
        rw [show n - k = (n - (k + 1)) + 1 by omega, fixB, List.append_assoc] at e
        exact e
      have hle : tl.length + 1 ≤ 140737488355328 := by have := HN.out; omega
      have hb := hbl.size
      have hbs := own_BS how
      obtain ⟨A1, c1, rfl, _⟩ := hbs.form
      clear hR
      go_wp2_with (at_builtin; simp only [byte_mod]; refine wpList_grow _ rfl _ _ _ rfl w.heap.size 5 i0 Try.underlying22 hi hz0 hz1 hz2 (.slice (some ⟨wr.heap.size, 0, none⟩) 1 1) [UInt8.ofNat (m % 256)] rfl (lit_one wr m _ hb) _ _ tl rfl (hbs.alloc _) (by simp; omega) (by simp; omega) ?_; intro v2 w2 how2 hg2 _)
      go_roundw
      case rel =>
        refine ⟨k + 1, m / 256, UInt8.ofNat (m % 256) :: tl, by omega, by simp [htl], HR, EM, by rw [EW.out], by go_num, ?_, (hbl.alloc hb _).grown hg2 (by simp; omega) (by simp [Value.ownBlock]; omega)⟩
        exact how2
      case measure => simp [intOf]; omega
    · have e := hR.out
      rw [show n - k = 0 by omega] at e
      have e2 : R = tl := e
      subst e2
      go_wp2
      go_ret
      exact ⟨_, rfl, how, hbl⟩
end Go.Proofs.Ytcjegcmijdkekaa
