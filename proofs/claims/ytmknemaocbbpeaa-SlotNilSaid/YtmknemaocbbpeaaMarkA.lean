/-
  The functions of mark, over the loaded program: each one's contract. No condition but the sizes that each contract names.
-/
import Derived.Test.YtmknemaocbbpeaaMarkM
import Derived.Test.YtmknemaocbbpeaaGauB
import Derived.Test.YtmknemaocbbpeaaBase
import Derived.Test.YtmknemaocbbpeaaStr
namespace Go.Proofs.Ytmknemaocbbpeaa
open Go.RowKit Gau
set_option maxRecDepth 100000
set_option linter.unusedVariables false

theorem base_any (w : World) : Calls Try.prog 50 #[] w fun e w' => e = .returned (cz base) ∧ w = w' := by
  have ho := gof_any 4 1 (by omega) (by omega) (by omega) (by omega)
  rw [base_gI] at ho
  go_enter Try.func50, Try.ntmps50
  go_wp2_with fail
  refine (ho _).mono ?_
  rintro e w' ⟨rfl, rfl⟩
  go_wp2
  go_ret
  exact ⟨rfl, rfl⟩

/-- The mark of the lists ls, one behind the other, behind one that is z. -/
theorem mark_step {z : G} {l : List UInt8} {k : Nat} (hk : k < l.length) : mkF z (l.take (k + 1)) = mstep (mkF z (l.take k)) l[k] := by
  rw [List.take_add_one, List.getElem?_eq_getElem hk, mkF_append]; rfl
theorem flat_step {ls : List (List UInt8)} {k : Nat} {l : List UInt8} (h : ls[k]? = some l) : mkF (mk (ls.take k).flatten) l = mk (ls.take (k + 1)).flatten := by
  rw [List.take_add_one, h, List.flatten_append, mk_append]; simp

theorem mark_any (S : Nat → Prop) (v : Value) (ls : List (List UInt8)) (w : World) (h : LS w S v ls) :
    Calls Try.prog 42 #[v] w fun e w' => e = .returned (cz (mk ls.flatten)) ∧ w = w' := by
  obtain ⟨A, c, rfl, hlc, hcm⟩ := h.form
  have hlen : ls.length ≤ 9223372036854775807 := by unfold maxLen at hcm; omega
  have o0 := gof_any 0 0 (by omega) (by omega) (by omega) (by omega)
  rw [show gI 0 0 = mk [] from by decide] at o0
  obtain ⟨r, hr⟩ : ∃ r, r = mk ls.flatten := ⟨_, rfl⟩
  have HR : Hid (mk (ls.take ls.length).flatten = r) := by show _ = _; rw [List.take_length, hr]
  have H0 : Hid (mk [] = mk (ls.take 0).flatten) := rfl
  rw [← hr]
  clear hr hlc hcm
  generalize mk [] = z0 at *
  go_enter Try.func42, Try.ntmps42
  go_wp2_with fail
  refine (o0 _).mono ?_
  rintro e w' ⟨rfl, rfl⟩
  go_wp2_with fail
  refine (base_any _).mono ?_
  rintro e w' ⟨rfl, rfl⟩
  go_wp2
  go_loop [3, 13] (fun zv iv => ∃ (k : Nat) (z : G), k ≤ ls.length ∧ Hid (z = mk (ls.take k).flatten) ∧ zv = cz z ∧ iv = .int .i64 k) (fun _ iv => ls.length - (intOf iv).toNat)
  case atStart => exact ⟨0, z0, by omega, H0, rfl, rfl⟩
  case round =>
    obtain ⟨k, z, hk, hz, rfl, rfl⟩ := hrel
    by_cases hlt : k < ls.length
    · obtain ⟨b, o, rfl, _, _, hc⟩ := h.at_ (by omega)
      have hlk := List.getElem?_eq_getElem hlt
      obtain ⟨A', c', h1, h2⟩ := hc k ls[k] hlk
      have HF := Lib.hid (flat_step hlk)
      clear hc
      generalize ls[k] = l at *
      have hl64 : l.length ≤ 9223372036854775807 := by have := h2.len; unfold maxLen at this; omega
      have HL : Hid (mkF z (l.take l.length) = mk (ls.take (k + 1)).flatten) := by
        show _ = _
        rw [List.take_length, hz.out, HF.out]
      clear HF hz hlk
      go_wp2
      go_loop [3, 19] (fun zv iv => ∃ (j : Nat) (y : G), j ≤ l.length ∧ Hid (y = mkF z (l.take j)) ∧ zv = cz y ∧ iv = .int .i64 j) (fun _ iv => l.length - (intOf iv).toNat)
      case atStart => exact ⟨0, z, by omega, by show z = _; rw [List.take_zero, mkF_nil], rfl, rfl⟩
      case round =>
        obtain ⟨j, y, hj, hy, rfl, rfl⟩ := hrel
        by_cases hjt : j < l.length
        · obtain ⟨b2, o2, rfl, _, _, hc2⟩ := h2.at_ (by omega)
          have k1 := hc2 j l[j] (List.getElem?_eq_getElem hjt)
          have HS : Hid (mstep y l[j] = mkF z (l.take (j + 1))) := by
            show _ = _
            rw [hy.out, mark_step hjt]
          clear hc2 hy
          generalize l[j] = u at *
          have hu := u.toNat_lt
          have hm := mul_any y base
          have ho := gof_any ((u.toNat : Int) + 1) 0 (by omega) (by omega) (by omega) (by omega)
          have ha := add_any (gmul y base) (gI ((u.toNat : Int) + 1) 0)
          rw [show gadd (gmul y base) (gI ((u.toNat : Int) + 1) 0) = mstep y u from rfl] at ha
          have W1 : wrap64 ((u.toNat : Int) + 1) = (u.toNat : Int) + 1 := IntWalk.wrap64_in _ (by omega)
          have W2 : wrap64 (u.toNat : Int) = (u.toNat : Int) := IntWalk.wrap64_in _ (by omega)
          generalize gmul y base = p at *
          generalize gI ((u.toNat : Int) + 1) 0 = q at *
          generalize mstep y u = s at *
          go_wp2_with fail
          refine (hm _).mono ?_
          rintro e w' ⟨rfl, rfl⟩
          go_wp2_with fail
          refine (ho _).mono ?_
          rintro e w' ⟨rfl, rfl⟩
          go_wp2_with fail
          refine (ha _).mono ?_
          rintro e w' ⟨rfl, rfl⟩
          go_wp2
          go_round
          case rel => exact ⟨j + 1, s, by omega, HS, rfl, by go_num⟩
          case measure => simp [intOf]; omega
        · have hje : j = l.length := by omega
          have HY : Hid (y = mk (ls.take (k + 1)).flatten) := by
            show _ = _
            rw [hy.out, hje, HL.out]
          clear hy
          go_wp2
          go_round
          case rel => exact ⟨k + 1, y, by omega, HY, rfl, by go_num⟩
          case measure => simp [intOf]; omega
    · have e := hz.out
      rw [show k = ls.length by omega, HR.out] at e
      subst e
      go_wp2
      go_ret
      exact ⟨rfl, rfl⟩
end Go.Proofs.Ytmknemaocbbpeaa
