/-
  What the statement DiskSafe keeps beside the disk: plain mathematics. No condition.
-/
import Derived.Test.YtmknemaocbbpeaaDkD
import Derived.Test.YtmknemaocbbpeaaDkE
import Derived.Test.YtmknemaocbbpeaaDkG
namespace Go.Proofs.Ytmknemaocbbpeaa
open Go.RowKit
set_option linter.unusedVariables false

theorem Dk.acted_fuse {s : Dk} (h : s.fuse = -1) : s.acted.fuse = -1 := by
  unfold Dk.acted
  dsimp only
  rw [h]
  rfl

/-- The disk s, of nine sectors of one byte each: sf's are safe, la's were written last. -/
structure Nine (s : Dk) (sf la : List UInt8) : Prop where
  ok : s.ok
  fuse : s.fuse = -1
  ls : sf.length = 9
  ll : la.length = 9
  sec : s.safe = sf.map full
  pen : ∀ i, i < 9 → (s.pend i = none ∧ sf[i]? = la[i]?) ∨ s.pend i = (la[i]?).map full

theorem Nine.len {s : Dk} {sf la : List UInt8} (h : Nine s sf la) : s.safe.length = 9 := by rw [h.sec, List.length_map, h.ls]
theorem Nine.live {s : Dk} {sf la : List UInt8} (h : Nine s sf la) : s.fuse ≠ 0 := by rw [h.fuse]; decide
theorem nine_zero : Nine (blank 9) (List.replicate 9 0) (List.replicate 9 0) :=
  ⟨blank_ok (by omega) (by omega), rfl, List.length_replicate, List.length_replicate, by rw [List.map_replicate]; rfl, fun i _ => .inl ⟨rfl, rfl⟩⟩
theorem Nine.write {s : Dk} {sf la : List UInt8} (h : Nine s sf la) (i : Nat) (hi : i < 9) (c : UInt8) : Nine (s.wrote i (full c)).acted sf (la.set i c) := by
  refine ⟨(h.ok.wrote (by rw [h.len]; exact hi) (full_len c)).acted, Dk.acted_fuse h.fuse, h.ls, by rw [List.length_set]; exact h.ll, h.sec, fun j hj => ?_⟩
  show ((upd s.pend i (full c)) j = none ∧ _) ∨ (upd s.pend i (full c)) j = _
  unfold upd
  by_cases hji : j = i
  · subst hji
    right
    rw [if_pos rfl, List.getElem?_set_self (by rw [h.ll]; exact hj)]
    rfl
  · rw [if_neg hji, List.getElem?_set_ne (fun e => hji e.symm)]
    exact h.pen j hj
theorem Nine.laid {s : Dk} {sf la : List UInt8} (h : Nine s sf la) (g : Nat → Option (List UInt8)) (hg : ∀ i, i < 9 → g i = none ∨ g i = (la[i]?).map full) (hn : ∀ i, i < 9 → g i = none → sf[i]? = la[i]?) : over s.safe g = la.map full := by
  apply List.ext_getElem?
  intro i
  rw [over_at, h.sec, List.getElem?_map, List.getElem?_map]
  by_cases hi : i < 9
  · rw [List.getElem?_eq_getElem (by rw [h.ls]; exact hi), List.getElem?_eq_getElem (by rw [h.ll]; exact hi)]
    rcases hg i hi with e | e
    · have := hn i hi e
      rw [List.getElem?_eq_getElem (by rw [h.ls]; exact hi), List.getElem?_eq_getElem (by rw [h.ll]; exact hi)] at this
      rw [e, Option.some.inj this]
      rfl
    · rw [e, List.getElem?_eq_getElem (by rw [h.ll]; exact hi)]
      rfl
  · rw [List.getElem?_eq_none (by rw [h.ls]; omega), List.getElem?_eq_none (by rw [h.ll]; omega)]
    rfl
theorem Nine.flush {s : Dk} {sf la : List UInt8} (h : Nine s sf la) : Nine s.flushed la la := by
  have e : over s.safe s.pend = la.map full := h.laid s.pend (fun i hi => (h.pen i hi).imp And.left id) fun i hi hn => by
    rcases h.pen i hi with e | e
    · exact e.2
    · rw [hn, List.getElem?_eq_getElem (by rw [h.ll]; exact hi)] at e
      cases e
  exact ⟨((h.ok.with fun i x hx => (h.ok.pend i x hx).2).bare).acted, Dk.acted_fuse h.fuse, h.ll, h.ll, e, fun i _ => .inl ⟨rfl, rfl⟩⟩

/-- What a sector holds behind a crash. -/
structure Left (s : Dk) (ks : List Bool) (sf la : List UInt8) (i : Nat) (x a b : UInt8) (wait : Bool) : Prop where
  now : (s.crashed ks).now i = full x
  a_ : sf[i]? = some a
  b_ : la[i]? = some b
  way : x = a ∨ (wait = true ∧ x = b)
  no : wait = false → a = b
theorem Nine.left {s : Dk} {sf la : List UInt8} (h : Nine s sf la) (ks : List Bool) (i : Nat) (hi : i < 9) : ∃ x a b, Left s ks sf la i x a b (decide (i ∈ s.nums)) := by
  have ea : sf[i]? = some (sf[i]'(by rw [h.ls]; exact hi)) := List.getElem?_eq_getElem _
  have eb : la[i]? = some (la[i]'(by rw [h.ll]; exact hi)) := List.getElem?_eq_getElem _
  have hw : i ∈ s.nums ↔ (s.pend i).isSome = true := by
    unfold Dk.nums
    rw [mem_held, h.len]
    exact ⟨fun e => e.2, fun e => ⟨hi, e⟩⟩
  have hnow : (s.crashed ks).now i = (over s.safe (keeps s.pend s.nums ks s.nums.length)).getD i [] := rfl
  rw [List.getD_eq_getElem?_getD, over_at, h.sec, List.getElem?_map, ea] at hnow
  have hnow2 : (s.crashed ks).now i = (keeps s.pend s.nums ks s.nums.length i).getD (full (sf[i]'(by rw [h.ls]; exact hi))) := hnow
  unfold keeps at hnow2
  by_cases hs : stays s.nums ks s.nums.length i = true
  · rw [if_pos hs] at hnow2
    cases hp : s.pend i with
    | none =>
      rw [hp] at hnow2
      refine ⟨_, _, _, hnow2, ea, eb, .inl rfl, fun _ => ?_⟩
      rcases h.pen i hi with e | e
      · rw [ea, eb] at e; exact Option.some.inj e.2
      · rw [hp, eb] at e; cases e
    | some l =>
      have hp' := h.pen i hi
      rw [hp, eb] at hp'
      rcases hp' with e | e
      · cases e.1
      · obtain rfl := Option.some.inj e
        rw [hp] at hnow2
        refine ⟨_, _, _, hnow2, ea, eb, .inr ⟨?_, rfl⟩, fun hn => ?_⟩
        · exact decide_eq_true (hw.2 (by rw [hp]; rfl))
        · rw [decide_eq_true (hw.2 (by rw [hp]; rfl))] at hn; cases hn
  · rw [if_neg hs] at hnow2
    refine ⟨_, _, _, hnow2, ea, eb, .inl rfl, fun hn => ?_⟩
    have hni := of_decide_eq_false hn
    rcases h.pen i hi with e | e
    · rw [ea, eb] at e; exact Option.some.inj e.2
    · exact absurd (hw.2 (by rw [e, eb]; rfl)) hni
theorem crashed_len (s : Dk) (ks : List Bool) : (s.crashed ks).safe.length = s.safe.length := over_len _ _
theorem crashed_fuse (s : Dk) (ks : List Bool) : (s.crashed ks).fuse ≠ 0 := by show (-1 : Int) ≠ 0; decide
theorem crashed_nums (s : Dk) (ks : List Bool) : (s.crashed ks).nums = [] := by
  apply List.eq_nil_iff_forall_not_mem.2
  intro i hi
  have := (mem_held.1 hi).2
  cases this
end Go.Proofs.Ytmknemaocbbpeaa
