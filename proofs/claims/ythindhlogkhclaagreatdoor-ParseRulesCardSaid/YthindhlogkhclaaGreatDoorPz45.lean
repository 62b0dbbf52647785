/-
  LxR: The document's low, digit, Skip (layer 16), over the loaded program: each one's contract. No condition but sizes.
  Res: What a function hands back whose results are a variable of several cells and a value, over any program. General. No condition.
-/
import Derived.Test.YthindhlogkhclaaGreatDoorPz02
import Derived.Test.YthindhlogkhclaaGreatDoorPz08
import Derived.Test.YthindhlogkhclaaGreatDoorPz07
import Derived.Lib.Hide
import Derived.Test.YthindhlogkhclaaGreatDoorPz01
import Derived.Laws.Rows
set_option linter.unusedVariables false
set_option maxRecDepth 100000
namespace Go.Proofs.YthindhlogkhclaaGreatDoor
section
open Go.RowKit
theorem low_any (c : Nat) (w : World) : Calls Tryz.prog 73 #[.int .u8 (c : Int)] w fun e w' => e = .returned (.bool (lowC c)) ∧ w = w' := by
  by_cases h1 : 97 ≤ c
  · have e1 : ((97 : Int) ≤ (c : Int)) := by omega
    by_cases h2 : c ≤ 122
    · have e2 : ((c : Int) ≤ 122) := by omega
      have e : lowC c = true := decide_eq_true ⟨h1, h2⟩
      rw [e]
      clear h1 h2 e
      go_enter Tryz.func73, Tryz.ntmps73
      go_wp2
      go_ret
      exact ⟨rfl, rfl⟩
    · have e2 : ¬ ((c : Int) ≤ 122) := by omega
      have e : lowC c = false := decide_eq_false (fun h => h2 h.2)
      rw [e]
      clear h1 h2 e
      go_enter Tryz.func73, Tryz.ntmps73
      go_wp2
      go_ret
      exact ⟨rfl, rfl⟩
  · have e1 : ¬ ((97 : Int) ≤ (c : Int)) := by omega
    have e : lowC c = false := decide_eq_false (fun h => h1 h.1)
    rw [e]
    clear h1 e
    go_enter Tryz.func73, Tryz.ntmps73
    go_wp2
    go_ret
    exact ⟨rfl, rfl⟩
theorem digit_any (c : Nat) (w : World) : Calls Tryz.prog 74 #[.int .u8 (c : Int)] w fun e w' => e = .returned (.bool (digC c)) ∧ w = w' := by
  by_cases h1 : 48 ≤ c
  · have e1 : ((48 : Int) ≤ (c : Int)) := by omega
    by_cases h2 : c ≤ 57
    · have e2 : ((c : Int) ≤ 57) := by omega
      have e : digC c = true := decide_eq_true ⟨h1, h2⟩
      rw [e]
      clear h1 h2 e
      go_enter Tryz.func74, Tryz.ntmps74
      go_wp2
      go_ret
      exact ⟨rfl, rfl⟩
    · have e2 : ¬ ((c : Int) ≤ 57) := by omega
      have e : digC c = false := decide_eq_false (fun h => h2 h.2)
      rw [e]
      clear h1 h2 e
      go_enter Tryz.func74, Tryz.ntmps74
      go_wp2
      go_ret
      exact ⟨rfl, rfl⟩
  · have e1 : ¬ ((48 : Int) ≤ (c : Int)) := by omega
    have e : digC c = false := decide_eq_false (fun h => h1 h.1)
    rw [e]
    clear h1 e
    go_enter Tryz.func74, Tryz.ntmps74
    go_wp2
    go_ret
    exact ⟨rfl, rfl⟩
theorem drop_at {l : List UInt8} {k : Nat} {x : UInt8} (h : l[k]? = some x) : l.drop k = x :: l.drop (k + 1) := by
  obtain ⟨hk, e⟩ := List.getElem?_eq_some_iff.1 h
  rw [List.drop_eq_getElem_cons hk, e]
theorem skip_t10 (b : UInt8) (l : List UInt8) (h : b.toNat = 10) : skipN true (b :: l) = skipN false (b :: l) := by
  rw [skipN, if_pos h, skipN, if_neg (by omega), if_pos (by rw [h]; decide)]
theorem skip_t (b : UInt8) (l : List UInt8) (h : b.toNat ≠ 10) : skipN true (b :: l) = skipN true l + 1 := by rw [skipN, if_neg h]
theorem skip_f35 (b : UInt8) (l : List UInt8) (h : b.toNat = 35) : skipN false (b :: l) = skipN true (b :: l) := by
  rw [skip_t b l (by omega), skipN, if_pos h]
theorem skip_fb (b : UInt8) (l : List UInt8) (h : b.toNat = 32 ∨ b.toNat = 10 ∨ b.toNat = 9) : skipN false (b :: l) = skipN false l + 1 := by
  rw [skipN, if_neg (by omega), if_pos]
  unfold blankC
  rcases h with h | h | h <;> rw [h] <;> decide
theorem skip_fn (b : UInt8) (l : List UInt8) (h : b.toNat ≠ 35) (h2 : b.toNat ≠ 32) (h3 : b.toNat ≠ 10) (h4 : b.toNat ≠ 9) : skipN false (b :: l) = 0 := by
  rw [skipN, if_neg h, if_neg]
  unfold blankC
  simp [h2, h3, h4]
set_option maxHeartbeats 4000000 in
theorem skip_any (l : List UInt8) (hl : l.length ≤ maxLen) (i : Nat) (hi : i ≤ l.length) (w : World) :
    Calls Tryz.prog 39 #[strV l, .int .i64 (i : Int)] w fun e w' => e = .returned (.int .i64 ((i + skipN false (l.drop i) : Nat) : Int)) ∧ w = w' := by
  have hs : ((⟨l.toArray⟩ : ByteArray).size : Int) = (l.length : Int) := rfl
  have hml : l.length ≤ 9223372036854775807 := by unfold maxLen at hl; omega
  obtain ⟨R, hR⟩ : ∃ R, R = i + skipN false (l.drop i) := ⟨_, rfl⟩
  have hRl : R ≤ l.length := by
    have := skip_le false (l.drop i)
    rw [List.length_drop] at this
    omega
  rw [← hR]
  have HR := Lib.hid hR
  have HAT : Hid (∀ s : ByteArray, s = ⟨l.toArray⟩ → ∀ (k : Nat) (x : UInt8), l[k]? = some x → ∀ W : World, (Instr.index 9 (.string s) (.int .i64 (k : Int))).run Tryz.prog W = .ok (.int .u8 (x.toNat : Int)) W) := fun s e => by subst e; exact txt_at l
  unfold strV
  obtain ⟨s, hse⟩ : ∃ s : ByteArray, s = ⟨l.toArray⟩ := ⟨_, rfl⟩
  rw [← hse] at hs ⊢
  replace HAT := Lib.hid (HAT.out s hse)
  clear hse hR hl
  go_enter Tryz.func39, Tryz.ntmps39
  go_wp2
  go_loop [1] (fun iv => ∃ k : Nat, k ≤ l.length ∧ iv = .int .i64 (k : Int) ∧ Hid (R = k + skipN false (l.drop k))) (fun iv => 2 * (l.length - (intOf iv).toNat))
  case atStart => exact ⟨i, hi, rfl, HR⟩
  case round =>
    obtain ⟨k, hk, rfl, HK⟩ := hrel
    clear HR
    by_cases hlt : k < l.length
    · have hltI : (k : Int) < (l.length : Int) := by omega
      obtain ⟨x, hx⟩ : ∃ x, l[k]? = some x := ⟨_, List.getElem?_eq_getElem hlt⟩
      have hix := HAT.out k x hx
      have hd := drop_at hx
      have hxl := x.toNat_lt
      have HD := Lib.hid hd
      have H1 : Hid (x.toNat = 35 → R = k + skipN true (l.drop k)) := fun h => by rw [HD.out, ← skip_f35 x _ h, ← HD.out]; exact HK.out
      have H2 : Hid (x.toNat = 32 ∨ x.toNat = 10 ∨ x.toNat = 9 → R = (k + 1) + skipN false (l.drop (k + 1))) := fun h => by have := HK.out; rw [HD.out, skip_fb x _ h] at this; omega
      have H3 : Hid (x.toNat ≠ 35 → x.toNat ≠ 32 → x.toNat ≠ 10 → x.toNat ≠ 9 → R = k) := fun h1 h2 h3 h4 => by have := HK.out; rw [HD.out, skip_fn x _ h1 h2 h3 h4] at this; omega
      have HX : Hid (∀ y : UInt8, l[k]? = some y → y.toNat = x.toNat) := fun y hy => by rw [hx] at hy; rw [Option.some.inj hy]
      clear hx hd HD HK
      generalize hc : x.toNat = c at *
      clear hc
      have hwr : IntKind.i64.wrap ((k : Int) + 1) = ((k + 1 : Nat) : Int) := by rw [IntKind.wrap_i64]; omega
      by_cases q35 : c = 35
      · have HT := Lib.hid (H1.out q35)
        have HX2 : Hid (∀ y : UInt8, l[k]? = some y → y.toNat = 35) := fun y hy => by rw [← q35]; exact (HX.out y hy)
        have E0 : ((c : Int) == 35) = true := by simp; omega
        subst q35
        clear H1 H2 H3 hxl hwr HX
        go_wp2
        go_loop [1] (fun iv => ∃ q : Nat, k ≤ q ∧ q ≤ l.length ∧ iv = .int .i64 (q : Int) ∧ Hid (R = q + skipN true (l.drop q))) (fun iv => l.length - (intOf iv).toNat)
        case atStart => exact ⟨k, Nat.le_refl _, hk, rfl, HT⟩
        case round =>
          obtain ⟨q, hkq, hq, rfl, HQ⟩ := hrel
          clear HT
          by_cases hql : q < l.length
          · have hqI : (q : Int) < (l.length : Int) := by omega
            obtain ⟨y, hy⟩ : ∃ y, l[q]? = some y := ⟨_, List.getElem?_eq_getElem hql⟩
            have hiy := HAT.out q y hy
            have hd := drop_at hy
            have hyl := y.toNat_lt
            have HD := Lib.hid hd
            have H1 : Hid (y.toNat = 10 → R = q + skipN false (l.drop q)) := fun h => by rw [HD.out, ← skip_t10 y _ h, ← HD.out]; exact HQ.out
            have H2 : Hid (y.toNat ≠ 10 → R = (q + 1) + skipN true (l.drop (q + 1))) := fun h => by have := HQ.out; rw [HD.out, skip_t y _ h] at this; omega
            have H3 : Hid (y.toNat = 10 → k < q) := fun h => by
              rcases Nat.lt_or_ge k q with h1 | h1
              · exact h1
              · obtain rfl : q = k := by omega
                have := HX2.out y hy
                omega
            have hwq : IntKind.i64.wrap ((q : Int) + 1) = ((q + 1 : Nat) : Int) := by rw [IntKind.wrap_i64]; omega
            clear hy hd HD HQ
            generalize hc : y.toNat = d at *
            clear hc
            by_cases q10 : d = 10
            · have HR1 := Lib.hid (H1.out q10)
              have HR2 := Lib.hid (H3.out q10)
              have E1 : ((d : Int) != 10) = false := by simp; omega
              subst q10
              clear H1 H2 H3 HX2 hyl
              go_wp2
              go_round
              case rel => exact ⟨q, hq, rfl, HR1⟩
              case measure => have := HR2.out; simp [intOf]; omega
            · have HR1 := Lib.hid (H2.out q10)
              have E1 : ((d : Int) != 10) = true := by simp; omega
              clear H1 H2 H3 HX2 hyl q10
              go_wp2
              go_round
              case rel => exact ⟨q + 1, by omega, by omega, by first | rfl | (rw [hwq]), HR1⟩
              case measure => simp [intOf]; omega
          · obtain rfl : q = l.length := by omega
            have HR1 : Hid (R = l.length + skipN false (l.drop l.length)) := by have := HQ.out; rw [List.drop_length] at this ⊢; show _ = _; rw [this]; rfl
            clear HX2
            go_wp2
            go_round
            case rel => exact ⟨l.length, Nat.le_refl _, rfl, HR1⟩
            case measure => simp [intOf]; omega
      · have E0 : ((c : Int) == 35) = false := by simp; omega
        by_cases q32 : c = 32
        · have HR1 := Lib.hid (H2.out (.inl q32))
          have E1 : ((c : Int) != 32) = false := by simp; omega
          subst q32
          clear H1 H2 H3 HX q35
          go_wp2
          go_round
          case rel => exact ⟨k + 1, by omega, by first | rfl | (rw [hwr]), HR1⟩
          case measure => simp [intOf]; omega
        · by_cases q10 : c = 10
          · have HR1 := Lib.hid (H2.out (.inr (.inl q10)))
            have E1 : ((c : Int) != 32) = true := by simp; omega
            have E2 : ((c : Int) != 10) = false := by simp; omega
            subst q10
            clear H1 H2 H3 HX q35 q32
            go_wp2
            go_round
            case rel => exact ⟨k + 1, by omega, by first | rfl | (rw [hwr]), HR1⟩
            case measure => simp [intOf]; omega
          · have E1 : ((c : Int) != 32) = true := by simp; omega
            have E2 : ((c : Int) != 10) = true := by simp; omega
            by_cases q9 : c = 9
            · have HR1 := Lib.hid (H2.out (.inr (.inr q9)))
              have E3 : ((c : Int) != 9) = false := by simp; omega
              subst q9
              clear H1 H2 H3 HX q35 q32 q10
              go_wp2
              go_round
              case rel => exact ⟨k + 1, by omega, by first | rfl | (rw [hwr]), HR1⟩
              case measure => simp [intOf]; omega
            · have hr := H3.out q35 q32 q10 q9
              have E3 : ((c : Int) != 9) = true := by simp; omega
              subst hr
              clear H1 H2 H3 HX q35 q32 q10 q9
              go_wp2
              go_ret
              exact ⟨rfl, rfl⟩
    · obtain rfl : k = l.length := by omega
      have hr : R = l.length := by have := HK.out; rw [List.drop_length] at this; simpa [skipN] using this
      subst hr
      go_wp2
      go_ret
      exact ⟨rfl, rfl⟩
end
section
open Go.RowKit
theorem results_cell_tmp {P : Program} {fn : Func} {p u : Tmp} {ty : TypeId} (h : fn.results = #[.cell p ty, .tmp u]) (tmps : Array Value) (w : World) (g : Nat) (t : TypeId) (cs : Array Value) (fr : Nat × Nat) (d : TypeDesc)
    (hp : tmps.getD p undef = .pointer (some ⟨g, 0, none⟩)) (hg : w.heap[g]? = some (.cells cs t fr))
    (hu : P.underlying ty = some d) (hd : (match d with | .struct _ | .array _ _ => true | _ => false) = true) (hi : (P.info? ty).map (·.size) = some cs.size) :
    (results fn tmps).run P w = .ok (.tuple #[.agg cs, tmps.getD u undef]) w := by
  have hp' : tmps[p]?.getD undef = .pointer (some ⟨g, 0, none⟩) := by simpa using hp
  simp [results, h, hp', asAddr, run_loadVar_row w g t ty cs fr d hg hu hd hi]
theorem KB.put3 {w : World} {g : Nat} {t : TypeId} {a b c : Value} (h : KB w g t #[a, b, c]) (x y z : Value) : KB (((w.setCell ⟨g, 0, none⟩ x).setCell ⟨g, 1, none⟩ y).setCell ⟨g, 2, none⟩ z) g t #[x, y, z] :=
  ((h.put 0 x).put 1 y).put 2 z
theorem res_three (w : World) (g : Nat) (x y z : Value) : w.grownBy (((w.setCell ⟨g, 0, none⟩ x).setCell ⟨g, 1, none⟩ y).setCell ⟨g, 2, none⟩ z) (some g) :=
  grown_trans (grown_trans (grown_set _ _ _ _) (grown_set _ _ _ _)) (grown_set _ _ _ _)
end
end Go.Proofs.YthindhlogkhclaaGreatDoor
