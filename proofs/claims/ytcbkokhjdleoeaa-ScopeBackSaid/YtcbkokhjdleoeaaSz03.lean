/-
  Held: A region that draws its order, operation by operation, over any program: what only reads is taken first, whether its guard lets it be done or not; what is to be done next alone is done. No condition.
  InR: Which names may be: the document's Name (layer 12), over the loaded program: its contract. No condition but sizes that each contract names.
  ScG: The document's left (layer 20), over the loaded program: where it is low, flat or of no kind. No condition but the sizes that each contract names.
  ScGN: The document's left (layer 20), over the loaded program: of a case, a subject or a class. No condition but the sizes that each contract names.
-/
import Derived.Deep.RegionHeld3
import Derived.Maps.RangeWalk
import Derived.Tactics
import Derived.KernelRfl
import Derived.Test.YtcbkokhjdleoeaaSz00
import Derived.Test.YtcbkokhjdleoeaaSz01
import Derived.Lib.Strings
import Derived.Test.YtcbkokhjdleoeaaSz02
import Derived.WalkSpells
import Derived.BigQuiet
set_option linter.unusedVariables false
set_option maxRecDepth 100000
namespace Go.Proofs.Ytcbkokhjdleoeaa
section
section
variable {P : Program} {ops : Array Oper} {Q : Exit → Act → World → Prop} {S : World → Prop} {md : Region.Mode} {fuel : Nat} {listed : Array Bool} {a : Act} {w : World}
theorem held_yes (i : Nat) {o : Oper} {v : Value} (hi : ops[i]? = some o) (hs : Region.noSelect ops = true) (hf : Region.free md ops listed i = true) (hr : (Region.ready md ops listed).contains i = true)
    (hQ : ∀ c a w, Q (.panic c) (a.put o.dst v) w → Q (.panic c) a w) (hw : Region.wanted o (yielded ops a.tmps) = true) (hS : S w) (hy : ∀ w, S w → (execOp a.eval o).run P w = .ok (.value v) w)
    (h : wpAnyH P md ops Q S fuel (listed.setIfInBounds i true) (a.put o.dst v) w) : wpAnyH P md ops Q S (fuel + 1) listed a w :=
  wpAnyH_take hi hs hf hr hQ (Or.inl ⟨hw, hy⟩) hS h
theorem held_no (i : Nat) {o : Oper} (hi : ops[i]? = some o) (hs : Region.noSelect ops = true) (hf : Region.free md ops listed i = true) (hr : (Region.ready md ops listed).contains i = true)
    (hQ : ∀ c a w, Q (.panic c) (a.put o.dst undef) w → Q (.panic c) a w) (hw : Region.wanted o (yielded ops a.tmps) = false) (hS : S w)
    (h : wpAnyH P md ops Q S fuel (listed.setIfInBounds i true) (a.put o.dst undef) w) : wpAnyH P md ops Q S (fuel + 1) listed a w :=
  wpAnyH_take hi hs hf hr hQ (Or.inr ⟨hw, rfl⟩) hS h
theorem held_one (i : Nat) {o : Oper} (hr : Region.ready md ops listed = [i]) (hi : ops[i]? = some o) (hw : Region.wanted o (yielded ops a.tmps) = true)
    (h : ∀ K : Act → World → Prop, Shut (∀ a w, S w → (S w → wpAnyH P md ops Q S fuel (listed.setIfInBounds i true) a w) → K a w) → Oper.wp P o a w K Q) : wpAnyH P md ops Q S (fuel + 1) listed a w :=
  wpAnyH_ready hr (by simp) (AllReadyH.cons hi (fun K hK => by rw [if_pos hw]; exact h K hK) AllReadyH.nil)
theorem held_two (i j : Nat) {o p : Oper} (hr : Region.ready md ops listed = [i, j]) (hi : ops[i]? = some o) (hj : ops[j]? = some p) (hw : Region.wanted o (yielded ops a.tmps) = true) (hv : Region.wanted p (yielded ops a.tmps) = true)
    (h : ∀ K : Act → World → Prop, Shut (∀ a w, S w → (S w → wpAnyH P md ops Q S fuel (listed.setIfInBounds i true) a w) → K a w) → Oper.wp P o a w K Q)
    (k : ∀ K : Act → World → Prop, Shut (∀ a w, S w → (S w → wpAnyH P md ops Q S fuel (listed.setIfInBounds j true) a w) → K a w) → Oper.wp P p a w K Q) : wpAnyH P md ops Q S (fuel + 1) listed a w :=
  wpAnyH_ready hr (by simp) (AllReadyH.cons hi (fun K hK => by rw [if_pos hw]; exact h K hK) (AllReadyH.cons hj (fun K hK => by rw [if_pos hv]; exact k K hK) AllReadyH.nil))
theorem held_three (i j l : Nat) {o p q : Oper} (hr : Region.ready md ops listed = [i, j, l]) (hi : ops[i]? = some o) (hj : ops[j]? = some p) (hl : ops[l]? = some q) (hw : Region.wanted o (yielded ops a.tmps) = true) (hv : Region.wanted p (yielded ops a.tmps) = true) (hu : Region.wanted q (yielded ops a.tmps) = true)
    (h : ∀ K : Act → World → Prop, Shut (∀ a w, S w → (S w → wpAnyH P md ops Q S fuel (listed.setIfInBounds i true) a w) → K a w) → Oper.wp P o a w K Q)
    (k : ∀ K : Act → World → Prop, Shut (∀ a w, S w → (S w → wpAnyH P md ops Q S fuel (listed.setIfInBounds j true) a w) → K a w) → Oper.wp P p a w K Q)
    (m : ∀ K : Act → World → Prop, Shut (∀ a w, S w → (S w → wpAnyH P md ops Q S fuel (listed.setIfInBounds l true) a w) → K a w) → Oper.wp P q a w K Q) : wpAnyH P md ops Q S (fuel + 1) listed a w :=
  wpAnyH_ready hr (by simp) (AllReadyH.cons hi (fun K hK => by rw [if_pos hw]; exact h K hK) (AllReadyH.cons hj (fun K hK => by rw [if_pos hv]; exact k K hK) (AllReadyH.cons hl (fun K hK => by rw [if_pos hu]; exact m K hK) AllReadyH.nil)))
theorem held_four (i j l r : Nat) {o p q s : Oper} (hr : Region.ready md ops listed = [i, j, l, r]) (hi : ops[i]? = some o) (hj : ops[j]? = some p) (hl : ops[l]? = some q) (hrr : ops[r]? = some s) (hw : Region.wanted o (yielded ops a.tmps) = true) (hv : Region.wanted p (yielded ops a.tmps) = true) (hu : Region.wanted q (yielded ops a.tmps) = true) (ht : Region.wanted s (yielded ops a.tmps) = true)
    (h : ∀ K : Act → World → Prop, Shut (∀ a w, S w → (S w → wpAnyH P md ops Q S fuel (listed.setIfInBounds i true) a w) → K a w) → Oper.wp P o a w K Q)
    (k : ∀ K : Act → World → Prop, Shut (∀ a w, S w → (S w → wpAnyH P md ops Q S fuel (listed.setIfInBounds j true) a w) → K a w) → Oper.wp P p a w K Q)
    (m : ∀ K : Act → World → Prop, Shut (∀ a w, S w → (S w → wpAnyH P md ops Q S fuel (listed.setIfInBounds l true) a w) → K a w) → Oper.wp P q a w K Q)
    (n : ∀ K : Act → World → Prop, Shut (∀ a w, S w → (S w → wpAnyH P md ops Q S fuel (listed.setIfInBounds r true) a w) → K a w) → Oper.wp P s a w K Q) : wpAnyH P md ops Q S (fuel + 1) listed a w :=
  wpAnyH_ready hr (by simp) (AllReadyH.cons hi (fun K hK => by rw [if_pos hw]; exact h K hK) (AllReadyH.cons hj (fun K hK => by rw [if_pos hv]; exact k K hK) (AllReadyH.cons hl (fun K hK => by rw [if_pos hu]; exact m K hK) (AllReadyH.cons hrr (fun K hK => by rw [if_pos ht]; exact n K hK) AllReadyH.nil))))
end
section
variable {P : Program} {ops : Array Oper} {Q : Exit → Act → World → Prop} {S : World → Prop} {md : Region.Mode} {fuel : Nat} {listed : Array Bool} {a : Act} {w : World}
theorem hyY (d : Option Nat) (i : Nat) {x1 : Op} {x2 : TypeId} {x3 : String} {x4 : Array Edge} {x5 : Option (Nat × Bool)} {v : Value} (hi : ops[i]? = some ⟨d, x1, x2, x3, x4, x5⟩) (hS : S w)
    (h : wpAnyH P md ops Q S fuel (listed.setIfInBounds i true) (a.put d v) w)
    (hs : Region.noSelect ops = true := by kernel_rfl) (hf : Region.free md ops listed i = true := by kernel_rfl) (hr : (Region.ready md ops listed).contains i = true := by kernel_rfl)
    (hQ : ∀ c a w, Q (.panic c) (a.put d v) w → Q (.panic c) a w := by exact fun _ _ _ h => h) (hw : Region.wanted ⟨d, x1, x2, x3, x4, x5⟩ (yielded ops a.tmps) = true := by rfl)
    (hy : ∀ w, S w → (execOp a.eval ⟨d, x1, x2, x3, x4, x5⟩).run P w = .ok (.value v) w := by (intro w hSw; (try dsimp only at hSw); go_simp; with_reducible rfl)) : wpAnyH P md ops Q S (fuel + 1) listed a w :=
  held_yes i hi hs hf hr hQ hw hS hy h
theorem hyN (d : Option Nat) (i : Nat) {x1 : Op} {x2 : TypeId} {x3 : String} {x4 : Array Edge} {x5 : Option (Nat × Bool)} (hi : ops[i]? = some ⟨d, x1, x2, x3, x4, x5⟩) (hS : S w)
    (h : wpAnyH P md ops Q S fuel (listed.setIfInBounds i true) (a.put d undef) w)
    (hs : Region.noSelect ops = true := by kernel_rfl) (hf : Region.free md ops listed i = true := by kernel_rfl) (hr : (Region.ready md ops listed).contains i = true := by kernel_rfl)
    (hQ : ∀ c a w, Q (.panic c) (a.put d undef) w → Q (.panic c) a w := by exact fun _ _ _ h => h) (hw : Region.wanted ⟨d, x1, x2, x3, x4, x5⟩ (yielded ops a.tmps) = false := by rfl) : wpAnyH P md ops Q S (fuel + 1) listed a w :=
  held_no i hi hs hf hr hQ hw hS h
theorem hyO (d : Option Nat) (i : Nat) {x1 : Op} {x2 : TypeId} {x3 : String} {x4 : Array Edge} {x5 : Option (Nat × Bool)} (hi : ops[i]? = some ⟨d, x1, x2, x3, x4, x5⟩)
    (h : ∀ K : Act → World → Prop, Shut (∀ a w, S w → (S w → wpAnyH P md ops Q S fuel (listed.setIfInBounds i true) a w) → K a w) → Oper.wp P ⟨d, x1, x2, x3, x4, x5⟩ a w K Q)
    (hr : Region.ready md ops listed = [i] := by kernel_rfl) (hw : Region.wanted ⟨d, x1, x2, x3, x4, x5⟩ (yielded ops a.tmps) = true := by rfl) : wpAnyH P md ops Q S (fuel + 1) listed a w :=
  held_one i hr hi hw h
end
end
section
open Go.RowKit
theorem str_at (l : List UInt8) (k : Nat) (x : UInt8) (hx : l[k]? = some x) : ∀ W : World, (Instr.index 9 (.string ⟨l.toArray⟩) (.int .i64 (k : Int))).run Try.prog W = .ok (.int .u8 (x.toNat : Int)) W := fun W => by
  have hk := (List.getElem?_eq_some_iff.1 hx).1
  have hs : (⟨l.toArray⟩ : ByteArray).size = l.length := rfl
  rw [run_index_string W 9 ⟨l.toArray⟩ .i64 (k : Int) Try.underlying9, dif_pos ⟨by omega, by rw [hs]; omega⟩]
  simp only [Int.toNat_natCast]
  have e : (⟨l.toArray⟩ : ByteArray)[k]'(by rw [hs]; exact hk) = x := by
    have := (List.getElem?_eq_some_iff.1 hx).2
    exact this
  rw [e]
theorem all_step {l : List UInt8} {k : Nat} {x : UInt8} (hx : l[k]? = some x) (h : ((l.take k).all fun b => okc b.toNat) = true) (ho : okc x.toNat = true) : ((l.take (k + 1)).all fun b => okc b.toNat) = true := by
  rw [List.take_add_one, hx, List.all_append, h]
  simp [ho]
theorem all_stop {l : List UInt8} {k : Nat} {x : UInt8} (hx : l[k]? = some x) (ho : okc x.toNat = false) : nameS l = false := by
  unfold nameS
  have : (l.all fun b => okc b.toNat) = false := by
    cases hq : l.all fun b => okc b.toNat with
    | false => rfl
    | true =>
      have := List.all_eq_true.1 hq x (List.mem_of_getElem? hx)
      rw [ho] at this
      cases this
  rw [this]; simp
set_option maxHeartbeats 2000000 in
theorem rname_any (l : List UInt8) (hl : l.length ≤ maxLen) (w : World) :
    Calls Try.prog 56 #[strV l] w fun e w' => e = .returned (.bool (nameS l)) ∧ w = w' := by
  have hs : ((⟨l.toArray⟩ : ByteArray).size : Int) = (l.length : Int) := rfl
  have hat := str_at l
  have HAT := Lib.hid hat
  have hml : l.length ≤ 9223372036854775807 := by unfold maxLen at hl; omega
  obtain ⟨r, hr⟩ : ∃ r, r = nameS l := ⟨_, rfl⟩
  rw [← hr]
  have HR := Lib.hid hr
  unfold strV
  clear hat hr hl
  have HAT2 : Hid (∀ s : ByteArray, s = ⟨l.toArray⟩ → ∀ (k : Nat) (x : UInt8), l[k]? = some x → ∀ W : World, (Instr.index 9 (.string s) (.int .i64 (k : Int))).run Try.prog W = .ok (.int .u8 (x.toNat : Int)) W) := fun s e => by subst e; exact HAT.out
  obtain ⟨s, hse⟩ : ∃ s : ByteArray, s = ⟨l.toArray⟩ := ⟨_, rfl⟩
  rw [← hse] at hs ⊢
  replace HAT := Lib.hid (HAT2.out s hse)
  clear HAT2 hse
  go_enter Try.func56, Try.ntmps56
  go_wp2
  go_loop [3] (fun i => ∃ k : Nat, k ≤ l.length ∧ i = .int .i64 k ∧ Hid (((l.take k).all fun b => okc b.toNat) = true)) (fun i => l.length - (intOf i).toNat)
  case atStart => exact ⟨0, by omega, rfl, rfl⟩
  case round =>
    obtain ⟨k, hk, rfl, ha⟩ := hrel
    by_cases hlt : k < l.length
    · obtain ⟨x, hx⟩ : ∃ x, l[k]? = some x := ⟨_, List.getElem?_eq_getElem hlt⟩
      have hix := HAT.out k x hx
      have hxl := x.toNat_lt
      have HS := Lib.hid (all_stop (l := l) (k := k) (x := x) hx)
      have HST := Lib.hid (fun ho => all_step (l := l) (k := k) (x := x) hx ha.out ho)
      have HO : Hid (okc x.toNat = okc x.toNat) := rfl
      generalize hc : x.toNat = c at hix HS HST HO
      have hc256 : c < 256 := by omega
      clear hc hx hxl HAT ha
      by_cases q0 : c ≤ 44
      · have ho : okc c = false := by unfold okc; simp; omega
        have E0 : decide ((c : Int) < 97) = true := decide_eq_true (by omega)
        have E1 : decide ((122 : Int) < (c : Int)) = false := decide_eq_false (by omega)
        have E2 : decide ((c : Int) < 48) = true := decide_eq_true (by omega)
        have E3 : decide ((57 : Int) < (c : Int)) = false := decide_eq_false (by omega)
        have N0 : ((c : Int) != 46) = true := by simp; omega
        have N1 : ((c : Int) != 45) = true := by simp; omega
        have N2 : ((c : Int) != 95) = true := by simp; omega
        have hr := HR.out
        rw [HS.out ho] at hr
        clear HS HST HO HR ho
        subst hr
        go_wp2
        go_ret
        exact ⟨rfl, rfl⟩
      by_cases q1 : c = 45
      · have ho : okc c = true := by unfold okc; simp; omega
        have E0 : decide ((c : Int) < 97) = true := decide_eq_true (by omega)
        have E1 : decide ((122 : Int) < (c : Int)) = false := decide_eq_false (by omega)
        have E2 : decide ((c : Int) < 48) = true := decide_eq_true (by omega)
        have E3 : decide ((57 : Int) < (c : Int)) = false := decide_eq_false (by omega)
        have N0 : ((c : Int) != 46) = true := by simp; omega
        have N1 : ((c : Int) != 45) = false := by simp; omega
        have N2 : ((c : Int) != 95) = true := by simp; omega
        have HT := Lib.hid (HST.out ho)
        clear HS HST HO HR ho
        go_wp2
        go_round
        case rel => exact ⟨k + 1, by omega, by go_num, HT⟩
        case measure => simp [intOf]; omega
      by_cases q2 : c = 46
      · have ho : okc c = true := by unfold okc; simp; omega
        have E0 : decide ((c : Int) < 97) = true := decide_eq_true (by omega)
        have E1 : decide ((122 : Int) < (c : Int)) = false := decide_eq_false (by omega)
        have E2 : decide ((c : Int) < 48) = true := decide_eq_true (by omega)
        have E3 : decide ((57 : Int) < (c : Int)) = false := decide_eq_false (by omega)
        have N0 : ((c : Int) != 46) = false := by simp; omega
        have N1 : ((c : Int) != 45) = true := by simp; omega
        have N2 : ((c : Int) != 95) = true := by simp; omega
        have HT := Lib.hid (HST.out ho)
        clear HS HST HO HR ho
        go_wp2
        go_round
        case rel => exact ⟨k + 1, by omega, by go_num, HT⟩
        case measure => simp [intOf]; omega
      by_cases q3 : c = 47
      · have ho : okc c = false := by unfold okc; simp; omega
        have E0 : decide ((c : Int) < 97) = true := decide_eq_true (by omega)
        have E1 : decide ((122 : Int) < (c : Int)) = false := decide_eq_false (by omega)
        have E2 : decide ((c : Int) < 48) = true := decide_eq_true (by omega)
        have E3 : decide ((57 : Int) < (c : Int)) = false := decide_eq_false (by omega)
        have N0 : ((c : Int) != 46) = true := by simp; omega
        have N1 : ((c : Int) != 45) = true := by simp; omega
        have N2 : ((c : Int) != 95) = true := by simp; omega
        have hr := HR.out
        rw [HS.out ho] at hr
        clear HS HST HO HR ho
        subst hr
        go_wp2
        go_ret
        exact ⟨rfl, rfl⟩
      by_cases q4 : c ≤ 57
      · have ho : okc c = true := by unfold okc; simp; omega
        have E0 : decide ((c : Int) < 97) = true := decide_eq_true (by omega)
        have E1 : decide ((122 : Int) < (c : Int)) = false := decide_eq_false (by omega)
        have E2 : decide ((c : Int) < 48) = false := decide_eq_false (by omega)
        have E3 : decide ((57 : Int) < (c : Int)) = false := decide_eq_false (by omega)
        have N0 : ((c : Int) != 46) = true := by simp; omega
        have N1 : ((c : Int) != 45) = true := by simp; omega
        have N2 : ((c : Int) != 95) = true := by simp; omega
        have HT := Lib.hid (HST.out ho)
        clear HS HST HO HR ho
        go_wp2
        go_round
        case rel => exact ⟨k + 1, by omega, by go_num, HT⟩
        case measure => simp [intOf]; omega
      by_cases q5 : c ≤ 94
      · have ho : okc c = false := by unfold okc; simp; omega
        have E0 : decide ((c : Int) < 97) = true := decide_eq_true (by omega)
        have E1 : decide ((122 : Int) < (c : Int)) = false := decide_eq_false (by omega)
        have E2 : decide ((c : Int) < 48) = false := decide_eq_false (by omega)
        have E3 : decide ((57 : Int) < (c : Int)) = true := decide_eq_true (by omega)
        have N0 : ((c : Int) != 46) = true := by simp; omega
        have N1 : ((c : Int) != 45) = true := by simp; omega
        have N2 : ((c : Int) != 95) = true := by simp; omega
        have hr := HR.out
        rw [HS.out ho] at hr
        clear HS HST HO HR ho
        subst hr
        go_wp2
        go_ret
        exact ⟨rfl, rfl⟩
      by_cases q6 : c = 95
      · have ho : okc c = true := by unfold okc; simp; omega
        have E0 : decide ((c : Int) < 97) = true := decide_eq_true (by omega)
        have E1 : decide ((122 : Int) < (c : Int)) = false := decide_eq_false (by omega)
        have E2 : decide ((c : Int) < 48) = false := decide_eq_false (by omega)
        have E3 : decide ((57 : Int) < (c : Int)) = true := decide_eq_true (by omega)
        have N0 : ((c : Int) != 46) = true := by simp; omega
        have N1 : ((c : Int) != 45) = true := by simp; omega
        have N2 : ((c : Int) != 95) = false := by simp; omega
        have HT := Lib.hid (HST.out ho)
        clear HS HST HO HR ho
        go_wp2
        go_round
        case rel => exact ⟨k + 1, by omega, by go_num, HT⟩
        case measure => simp [intOf]; omega
      by_cases q7 : c = 96
      · have ho : okc c = false := by unfold okc; simp; omega
        have E0 : decide ((c : Int) < 97) = true := decide_eq_true (by omega)
        have E1 : decide ((122 : Int) < (c : Int)) = false := decide_eq_false (by omega)
        have E2 : decide ((c : Int) < 48) = false := decide_eq_false (by omega)
        have E3 : decide ((57 : Int) < (c : Int)) = true := decide_eq_true (by omega)
        have N0 : ((c : Int) != 46) = true := by simp; omega
        have N1 : ((c : Int) != 45) = true := by simp; omega
        have N2 : ((c : Int) != 95) = true := by simp; omega
        have hr := HR.out
        rw [HS.out ho] at hr
        clear HS HST HO HR ho
        subst hr
        go_wp2
        go_ret
        exact ⟨rfl, rfl⟩
      by_cases q8 : c ≤ 122
      · have ho : okc c = true := by unfold okc; simp; omega
        have E0 : decide ((c : Int) < 97) = false := decide_eq_false (by omega)
        have E1 : decide ((122 : Int) < (c : Int)) = false := decide_eq_false (by omega)
        have E2 : decide ((c : Int) < 48) = false := decide_eq_false (by omega)
        have E3 : decide ((57 : Int) < (c : Int)) = true := decide_eq_true (by omega)
        have N0 : ((c : Int) != 46) = true := by simp; omega
        have N1 : ((c : Int) != 45) = true := by simp; omega
        have N2 : ((c : Int) != 95) = true := by simp; omega
        have HT := Lib.hid (HST.out ho)
        clear HS HST HO HR ho
        go_wp2
        go_round
        case rel => exact ⟨k + 1, by omega, by go_num, HT⟩
        case measure => simp [intOf]; omega
      have ho : okc c = false := by unfold okc; simp; omega
      have E0 : decide ((c : Int) < 97) = false := decide_eq_false (by omega)
      have E1 : decide ((122 : Int) < (c : Int)) = true := decide_eq_true (by omega)
      have E2 : decide ((c : Int) < 48) = false := decide_eq_false (by omega)
      have E3 : decide ((57 : Int) < (c : Int)) = true := decide_eq_true (by omega)
      have N0 : ((c : Int) != 46) = true := by simp; omega
      have N1 : ((c : Int) != 45) = true := by simp; omega
      have N2 : ((c : Int) != 95) = true := by simp; omega
      have hr := HR.out
      rw [HS.out ho] at hr
      clear HS HST HO HR ho
      subst hr
      go_wp2
      go_ret
      exact ⟨rfl, rfl⟩
    · have hkl : k = l.length := by omega
      subst hkl
      have hr := HR.out
      have ha' := ha.out
      rw [List.take_length] at ha'
      unfold nameS at hr
      rw [ha', Bool.and_true] at hr
      have e1 : decide ((1 : Int) ≤ (l.length : Int)) = decide (1 ≤ l.length) := decide_eq_decide.2 (by omega)
      have e2 : decide ((l.length : Int) ≤ 16) = decide (l.length ≤ 16) := decide_eq_decide.2 (by omega)
      clear ha ha' HAT HR
      cases g1 : decide (1 ≤ l.length) with
      | false =>
        rw [g1] at e1 hr
        simp only [Bool.false_and] at hr
        subst hr
        clear g1 e2
        go_wp2
        go_ret
        exact ⟨rfl, rfl⟩
      | true =>
        rw [g1] at e1 hr
        simp only [Bool.true_and] at hr
        rw [← e2] at hr
        clear g1 e2
        subst hr
        go_wp2
        go_ret
        exact ⟨rfl, rfl⟩
end
section
open Go.RowKit
theorem zne_if (s : ByteArray) (l : List UInt8) (hs : s = ⟨l.toArray⟩) (h : ¬ l = []) : (s.toList != []) = true ∧ (s.toList != (⟨#[]⟩ : ByteArray).toList) = true ∧ (¬ s.toList = [] ∧ s.toList.isEmpty = false) := by
  have e : s.toList = l := by rw [hs, Lib.toList_data]
  rw [e]
  exact ⟨bne_iff_ne.2 h, bne_iff_ne.2 (by simpa using h), h, by simpa using h⟩
theorem zne_not (s : ByteArray) (hs : s = ⟨([] : List UInt8).toArray⟩) : (s.toList != []) = false ∧ (s.toList != (⟨#[]⟩ : ByteArray).toList) = false ∧ (s.toList = [] ∧ s.toList.isEmpty = true) := by
  subst hs
  exact ⟨by simp, by simp, by simp, by simp⟩
theorem zname_some {l : List UInt8} (h : nameS l = true) : ¬ l = [] := fun e => by
  have := ((name_iff l).1 h).1
  rw [e] at this
  simp at this
def LeftIh (S : Nat → Prop) (f : Nat) : Prop := ∀ (t : Sc f) (v : Value) (n d : Int) (w : World), -1 ≤ n → n ≤ 1000 → -1000 ≤ d → d ≤ 1000 → ZV w S f v t →
    Calls Try.prog 41 #[v, .int .i64 n, .int .i64 d] w fun e w' => e = .returned (.int .i64 (leftS f t n d)) ∧ Below w.heap.size w w'
set_option maxHeartbeats 4000000 in
theorem zleft_none (S : Nat → Prop) (f : Nat) (t : Ns (Sc f)) (v : Value) (n d : Int) (w : World) (hn : -1 ≤ n) (hn2 : n ≤ 1000) (hd : -1000 ≤ d) (hd2 : d ≤ 1000) (h : n < 1 ∨ d < 1 ∨ t.op < 1 ∨ 8 < t.op) (hv : ZV w S (f + 1) v t) :
    Calls Try.prog 41 #[v, .int .i64 n, .int .i64 d] w fun e w' => e = .returned (.int .i64 (leftS (f + 1) t n d)) ∧ Below w.heap.size w w' := by
  have hr : leftS (f + 1) t n d = -1 := by
    rcases h with h | h | h
    · exact zleft_low _ h
    · exact zleft_flat t h
    · exact zleft_unfit t (zunfit_op h)
  rw [hr]
  clear hr
  obtain ⟨c0, c1, c2, c3, c4, rfl, rfl, hk, rfl, hml, rfl, hfr, rfl, hto, hks⟩ := hv
  obtain ⟨A3, cap3, e3, hl3, hm3⟩ := hks.form
  subst e3
  clear hks
  generalize t.op = k at *
  generalize t.from_ = fr at *
  generalize t.to_ = to_ at *
  generalize t.name = l at *
  generalize t.kids.length = kl at *
  unfold strV at *
  generalize (⟨l.toArray⟩ : ByteArray) = s at *
  have B0 := (Below.refl w.heap.size w).alloc (Nat.le_refl _) (.cells #[.int .i64 k, .string s, .int .i64 fr, .int .i64 to_, .slice A3 kl cap3] 24)
  by_cases h1 : n < 1
  · have E := decide_eq_true h1
    go_enter Try.func41, Try.ntmps41
    go_wp2_with fail
    go_ret
    exact ⟨rfl, B0⟩
  have E1 : decide (n < 1) = false := decide_eq_false h1
  by_cases h2 : d < 1
  · have E := decide_eq_true h2
    go_enter Try.func41, Try.ntmps41
    go_wp2_with fail
    go_ret
    exact ⟨rfl, B0⟩
  have E2 : decide (d < 1) = false := decide_eq_false h2
  by_cases h3 : k < 1
  · have E := decide_eq_true h3
    go_enter Try.func41, Try.ntmps41
    go_wp2_with fail
    go_ret
    exact ⟨rfl, B0⟩
  have E3 : decide (k < 1) = false := decide_eq_false h3
  have h4 : 8 < k := by omega
  have E := decide_eq_true h4
  go_enter Try.func41, Try.ntmps41
  go_wp2_with fail
  go_ret
  exact ⟨rfl, B0⟩
end
section
open Go.RowKit
set_option maxHeartbeats 8000000 in
theorem zleft_named (S : Nat → Prop) (f : Nat) (ih : LeftIh S f) (t : Ns (Sc f)) (v : Value) (n d : Int) (w : World) (hn2 : n ≤ 1000) (hd2 : d ≤ 1000) (h1 : 1 ≤ n) (h2 : 1 ≤ d) (hop : t.op = 2 ∨ t.op = 3 ∨ t.op = 4) (hv : ZV w S (f + 1) v t) :
    Calls Try.prog 41 #[v, .int .i64 n, .int .i64 d] w fun e w' => e = .returned (.int .i64 (leftS (f + 1) t n d)) ∧ Below w.heap.size w w' := by
  obtain ⟨c0, c1, c2, c3, c4, rfl, rfl, hk, rfl, hml, rfl, hfr, rfl, hto, hks⟩ := hv
  obtain ⟨A3, cap3, e3, hl3, hm3⟩ := hks.form
  subst e3
  obtain ⟨r, hr⟩ : ∃ r, r = leftS (f + 1) t n d := ⟨_, rfl⟩
  rw [← hr]
  have HU : Hid (¬ (nameS t.name = true ∧ t.from_ = 0 ∧ t.to_ = 0 ∧ t.kids.length = 0) → r = -1) := fun h => hr.trans (zleft_unfit t (by
    cases hb : fitsS t with
    | false => rfl
    | true => exact absurd ((zfit_named hop).1 hb) h))
  have HY : Hid (nameS t.name = true ∧ t.from_ = 0 ∧ t.to_ = 0 ∧ t.kids.length = 0 → r = n - 1) := fun h => hr.trans (zleft_one t ((zfit_named hop).2 h) h.2.2.2 h1 h2)
  clear hr
  have HNM : Hid (∀ W : World, Calls Try.prog 42 #[.int .i64 t.op] W fun e w' => e = .returned (.bool true) ∧ w' = W) := fun W => by
    have := znamed_any t.op W
    rwa [show namedS t.op = true from by unfold namedS; exact decide_eq_true hop] at this
  have HMM : Hid (∀ W : World, Calls Try.prog 37 #[.int .i64 t.op] W fun e w' => e = .returned (.bool false) ∧ w' = W) := fun W => by
    have := zmany_any t.op W
    rwa [show manyS t.op = false from by unfold manyS; exact decide_eq_false (by omega)] at this
  have HNA := Lib.hid (fun W : World => rname_any t.name hml W)
  generalize t.op = k at *
  generalize t.from_ = fr at *
  generalize t.to_ = to_ at *
  generalize t.name = l at *
  generalize t.kids = ks at *
  clear t
  have hlen : ks.length ≤ 9223372036854775807 := by unfold maxLen at hm3; omega
  have hlz : ((⟨l.toArray⟩ : ByteArray).size : Int) = (l.length : Int) := rfl
  have W1 : wrap64 (n - 1) = n - 1 := IntWalk.wrap64_in _ (by omega)
  have W2 : wrap64 (d - 1) = d - 1 := IntWalk.wrap64_in _ (by omega)
  have I1 : IntKind.i64.wrap (n - 1) = n - 1 := by rw [IntKind.wrap_i64]; omega
  have I2 : IntKind.i64.wrap (d - 1) = d - 1 := by rw [IntKind.wrap_i64]; omega
  have HM2 := Lib.hid (zne_if ⟨l.toArray⟩ l rfl)
  have HM : Hid (l = [] → ((⟨l.toArray⟩ : ByteArray).toList != []) = false ∧ ((⟨l.toArray⟩ : ByteArray).toList != (⟨#[]⟩ : ByteArray).toList) = false ∧ (⟨l.toArray⟩ : ByteArray).toList = [] ∧ (⟨l.toArray⟩ : ByteArray).toList.isEmpty = true) := fun h => zne_not ⟨l.toArray⟩ (by rw [h])
  unfold strV at *
  obtain ⟨s, hs⟩ : ∃ s : ByteArray, s = ⟨l.toArray⟩ := ⟨_, rfl⟩
  rw [← hs] at HNA HM HM2 ⊢
  clear hs hlz hml
  obtain ⟨kl, hkl⟩ : ∃ kl, kl = ks.length := ⟨_, rfl⟩
  rw [← hkl] at hks hl3 hlen HU HY ⊢
  have HKL := Lib.hid hkl
  clear hkl
  have kb := KB.new w 24 #[.int .i64 k, .string s, .int .i64 fr, .int .i64 to_, .slice A3 kl cap3]
  have B0 := (Below.refl w.heap.size w).alloc (Nat.le_refl _) (.cells #[.int .i64 k, .string s, .int .i64 fr, .int .i64 to_, .slice A3 kl cap3] 24)
  have B1 := Below_drawn B0 1
  have kc := kb.below (Below_drawn (Below.refl _ _) 1) kb.lt
  have E1 : decide (n < 1) = false := decide_eq_false (by omega)
  have E2 : decide (d < 1) = false := decide_eq_false (by omega)
  have E3 : decide (k < 1) = false := decide_eq_false (by omega)
  have E4 : decide (8 < k) = false := decide_eq_false (by omega)
  have E5 : (k == 5) = false := beq_eq_false_iff_ne.2 (by omega)
  have E6 : (k == 8) = false := beq_eq_false_iff_ne.2 (by omega)
  have E7 : (k != 8) = true := bne_iff_ne.2 (by omega)
  by_cases h5 : l = []
  · obtain rfl := HU.out (fun h => zname_some h.1 h5)
    obtain ⟨E8, E8b⟩ := (HM.out h5).2.2
    clear HU HM HM2 HY
    go_enter Try.func41, Try.ntmps41
    go_wp2_with fail
    rename_i KK hKK
    have HKK := Lib.hid hKK
    clear hKK
    refine wp_region_held_drew (S := (fun W => W.cell? ⟨w.heap.size, 0, none⟩ = some (.int .i64 k) ∧ W.cell? ⟨w.heap.size, 1, none⟩ = some (.string s))) (by kernel_rfl) ⟨kb.cell 0, kb.cell 1⟩ (fun hHeld => ?_)
    refine hyY (some 26) 0 rfl hHeld ?_; go_frame
    refine hyY (some 27) 1 rfl hHeld ?_; go_frame
    refine hyY (some 29) 3 rfl hHeld ?_; go_frame
    refine hyY (some 30) 4 rfl hHeld ?_; go_frame
    refine hyY (some 31) 5 rfl hHeld ?_; go_frame
    refine hyO (some 28) 2 rfl (fun K hK => ?_)
    go_simp
    go_at_call 42
    refine (HNM.out _).mono ?_
    rintro e w5 ⟨rfl, rfl⟩
    go_wp2_with fail
    refine hK.out _ _ ?_ (fun hH2 => ?_)
    · exact ⟨kb.cell 0, kb.cell 1⟩
    clear hHeld hK K; have hHeld := hH2; clear hH2; try go_frame
    refine hyY (some 32) 6 rfl hHeld ?_; go_frame
    refine hyY (some 33) 7 rfl hHeld ?_; go_frame
    refine hyN (some 34) 8 rfl hHeld ?_; go_frame
    refine hyN (some 35) 9 rfl hHeld ?_; go_frame
    refine hyN (some 36) 10 rfl hHeld ?_; go_frame
    refine hyN (some 37) 11 rfl hHeld ?_; go_frame
    refine hyN (some 38) 12 rfl hHeld ?_; go_frame
    refine hyN (some 39) 13 rfl hHeld ?_; go_frame
    refine hyN (some 40) 14 rfl hHeld ?_; go_frame
    refine hyN (some 41) 15 rfl hHeld ?_; go_frame
    refine hyN (some 42) 16 rfl hHeld ?_; go_frame
    refine hyY (some 43) 17 rfl hHeld ?_; go_frame
    refine wpAnyH_done (by kernel_rfl) ?_ _
    have hKK := HKK.out
    go_wp2_with fail
    go_ret
    exact ⟨rfl, B1⟩
  obtain ⟨E8, E8b⟩ := (HM2.out h5).2.2
  clear HM HM2
  generalize hnn : nameS l = nn at *
  cases nn with
  | false =>
    obtain rfl := HU.out (fun h => by cases h.1)
    clear HU HY
    go_enter Try.func41, Try.ntmps41
    go_wp2_with fail
    rename_i KK hKK
    have HKK := Lib.hid hKK
    clear hKK
    refine wp_region_held_drew (S := (fun W => W.cell? ⟨w.heap.size, 0, none⟩ = some (.int .i64 k) ∧ W.cell? ⟨w.heap.size, 1, none⟩ = some (.string s))) (by kernel_rfl) ⟨kb.cell 0, kb.cell 1⟩ (fun hHeld => ?_)
    refine hyY (some 26) 0 rfl hHeld ?_; go_frame
    refine hyY (some 27) 1 rfl hHeld ?_; go_frame
    refine hyY (some 29) 3 rfl hHeld ?_; go_frame
    refine hyY (some 30) 4 rfl hHeld ?_; go_frame
    refine hyY (some 31) 5 rfl hHeld ?_; go_frame
    refine hyO (some 28) 2 rfl (fun K hK => ?_)
    go_simp
    go_at_call 42
    refine (HNM.out _).mono ?_
    rintro e w5 ⟨rfl, rfl⟩
    go_wp2_with fail
    refine hK.out _ _ ?_ (fun hH2 => ?_)
    · exact ⟨kb.cell 0, kb.cell 1⟩
    clear hHeld hK K; have hHeld := hH2; clear hH2; try go_frame
    refine hyY (some 32) 6 rfl hHeld ?_; go_frame
    refine hyY (some 33) 7 rfl hHeld ?_; go_frame
    refine hyY (some 34) 8 rfl hHeld ?_; go_frame
    refine hyY (some 35) 9 rfl hHeld ?_; go_frame
    refine hyO (some 36) 10 rfl (fun K hK => ?_)
    go_simp
    go_at_call 42
    refine (HNM.out _).mono ?_
    rintro e w5 ⟨rfl, rfl⟩
    go_wp2_with fail
    refine hK.out _ _ ?_ (fun hH2 => ?_)
    · exact ⟨kb.cell 0, kb.cell 1⟩
    clear hHeld hK K; have hHeld := hH2; clear hH2; try go_frame
    refine hyY (some 37) 11 rfl hHeld ?_; go_frame
    refine hyY (some 38) 12 rfl hHeld ?_; go_frame
    refine hyY (some 39) 13 rfl hHeld ?_; go_frame
    refine hyO (some 40) 14 rfl (fun K hK => ?_)
    go_simp
    go_at_call 56
    refine (HNA.out _).mono ?_
    rintro e w5 ⟨rfl, rfl⟩
    go_wp2_with fail
    refine hK.out _ _ ?_ (fun hH2 => ?_)
    · exact ⟨kb.cell 0, kb.cell 1⟩
    clear hHeld hK K; have hHeld := hH2; clear hH2; try go_frame
    refine hyY (some 41) 15 rfl hHeld ?_; go_frame
    refine hyY (some 42) 16 rfl hHeld ?_; go_frame
    refine hyY (some 43) 17 rfl hHeld ?_; go_frame
    refine wpAnyH_done (by kernel_rfl) ?_ _
    have hKK := HKK.out
    go_wp2_with fail
    go_ret
    exact ⟨rfl, B1⟩
  | true =>
    go_enter Try.func41, Try.ntmps41
    go_wp2_with fail
    rename_i KK hKK
    have HKK := Lib.hid hKK
    clear hKK
    refine wp_region_held_drew (S := (fun W => W.cell? ⟨w.heap.size, 0, none⟩ = some (.int .i64 k) ∧ W.cell? ⟨w.heap.size, 1, none⟩ = some (.string s))) (by kernel_rfl) ⟨kb.cell 0, kb.cell 1⟩ (fun hHeld => ?_)
    refine hyY (some 26) 0 rfl hHeld ?_; go_frame
    refine hyY (some 27) 1 rfl hHeld ?_; go_frame
    refine hyY (some 29) 3 rfl hHeld ?_; go_frame
    refine hyY (some 30) 4 rfl hHeld ?_; go_frame
    refine hyY (some 31) 5 rfl hHeld ?_; go_frame
    refine hyO (some 28) 2 rfl (fun K hK => ?_)
    go_simp
    go_at_call 42
    refine (HNM.out _).mono ?_
    rintro e w5 ⟨rfl, rfl⟩
    go_wp2_with fail
    refine hK.out _ _ ?_ (fun hH2 => ?_)
    · exact ⟨kb.cell 0, kb.cell 1⟩
    clear hHeld hK K; have hHeld := hH2; clear hH2; try go_frame
    refine hyY (some 32) 6 rfl hHeld ?_; go_frame
    refine hyY (some 33) 7 rfl hHeld ?_; go_frame
    refine hyY (some 34) 8 rfl hHeld ?_; go_frame
    refine hyY (some 35) 9 rfl hHeld ?_; go_frame
    refine hyO (some 36) 10 rfl (fun K hK => ?_)
    go_simp
    go_at_call 42
    refine (HNM.out _).mono ?_
    rintro e w5 ⟨rfl, rfl⟩
    go_wp2_with fail
    refine hK.out _ _ ?_ (fun hH2 => ?_)
    · exact ⟨kb.cell 0, kb.cell 1⟩
    clear hHeld hK K; have hHeld := hH2; clear hH2; try go_frame
    refine hyY (some 37) 11 rfl hHeld ?_; go_frame
    refine hyY (some 38) 12 rfl hHeld ?_; go_frame
    refine hyY (some 39) 13 rfl hHeld ?_; go_frame
    refine hyO (some 40) 14 rfl (fun K hK => ?_)
    go_simp
    go_at_call 56
    refine (HNA.out _).mono ?_
    rintro e w5 ⟨rfl, rfl⟩
    go_wp2_with fail
    refine hK.out _ _ ?_ (fun hH2 => ?_)
    · exact ⟨kb.cell 0, kb.cell 1⟩
    clear hHeld hK K; have hHeld := hH2; clear hH2; try go_frame
    refine hyY (some 41) 15 rfl hHeld ?_; go_frame
    refine hyY (some 42) 16 rfl hHeld ?_; go_frame
    refine hyY (some 43) 17 rfl hHeld ?_; go_frame
    refine wpAnyH_done (by kernel_rfl) ?_ _
    have hKK := HKK.out
    by_cases a1 : fr = 0
    case neg =>
      have E9 : (fr != 0) = true := bne_iff_ne.2 a1
      obtain rfl := HU.out (by intro h; exact a1 h.2.1)
      go_wp2_with (go_at_call 37; refine (HMM.out _).mono ?_; rintro e wq ⟨rfl, rfl⟩)
      go_ret
      exact ⟨rfl, B1⟩
    subst a1
    by_cases a2 : to_ = 0
    case neg =>
      have E10 : (to_ != 0) = true := bne_iff_ne.2 a2
      obtain rfl := HU.out (by intro h; exact a2 h.2.2.1)
      go_wp2_with (go_at_call 37; refine (HMM.out _).mono ?_; rintro e wq ⟨rfl, rfl⟩)
      go_ret
      exact ⟨rfl, B1⟩
    subst a2
    by_cases a4 : kl = 0
    case neg =>
      have E12 : decide ((0 : Int) < (kl : Int)) = true := decide_eq_true (by omega)
      have E13 : decide (0 < kl) = true := decide_eq_true (by omega)
      obtain rfl := HU.out (by intro h; exact a4 h.2.2.2)
      go_wp2_with (go_at_call 37; refine (HMM.out _).mono ?_; rintro e wq ⟨rfl, rfl⟩)
      go_ret
      exact ⟨rfl, B1⟩
    subst a4
    obtain rfl := HY.out ⟨by simp, rfl, rfl, rfl⟩
    have E14 : decide (n - 1 < 0) = false := decide_eq_false (by omega)
    go_wp2_with (go_at_call 37; refine (HMM.out _).mono ?_; rintro e wq ⟨rfl, rfl⟩)
    go_loopw [1, 7] (fun mv iv wr => mv = .int .i64 (n - 1) ∧ iv = .int .i64 0 ∧ KB wr w.heap.size 24 #[.int .i64 k, .string s, .int .i64 0, .int .i64 0, .slice A3 0 cap3] ∧ Below w.heap.size w wr) (fun _ iv _ => 0)
    case atStart => exact ⟨rfl, rfl, kc, B1⟩
    case round =>
      obtain ⟨rfl, rfl, K, B⟩ := hrel
      have q4 : wr.cell? ⟨w.heap.size, 4, none⟩ = some (.slice A3 0 cap3) := K.cell 4
      go_wp2_with fail
      go_ret
      exact ⟨rfl, B⟩
end
end Go.Proofs.Ytcbkokhjdleoeaa
