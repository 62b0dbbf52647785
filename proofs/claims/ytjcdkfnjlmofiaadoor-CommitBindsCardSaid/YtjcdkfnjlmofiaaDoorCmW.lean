/-
  What is summed tells salt and payload: plain mathematics. And a variable of 32 bytes at each point of a region. No condition.
-/
import Derived.Test.YtjcdkfnjlmofiaaDoorCmR
import Derived.Test.YtjcdkfnjlmofiaaDoorArr
namespace Go.Proofs.YtjcdkfnjlmofiaaDoor
open Go.RowKit
set_option linter.unusedVariables false

theorem ofNat_small {m n : Nat} (hm : m ≤ 8) (hn : n ≤ 8) (h : UInt8.ofNat m = UInt8.ofNat n) : m = n := by
  have := congrArg UInt8.toNat h
  simp at this
  omega

theorem numb_inj {m n : Nat} {a b : List UInt8} (hm : m < 18446744073709551616) (hn : n < 18446744073709551616) (h : numb m ++ a = numb n ++ b) : m = n ∧ a = b := by
  have h8 := dig_length_le 8 m
  have h9 := dig_length_le 8 n
  simp only [numb, List.cons_append, List.cons.injEq] at h
  obtain ⟨h1, h2⟩ := h
  have hl := ofNat_small h8 h9 h1
  obtain ⟨h3, h4⟩ := List.append_inj h2 hl
  refine ⟨?_, h4⟩
  have := congrArg val h3
  rwa [dig_val 8 m (by simpa using hm), dig_val 8 n (by simpa using hn)] at this

theorem comB_inj {s t : Nat} {a b : List UInt8} (hs : s < 18446744073709551616) (ht : t < 18446744073709551616) (ha : a.length < 18446744073709551616) (hb : b.length < 18446744073709551616) (h : comB s a = comB t b) : s = t ∧ a = b := by
  simp only [comB, List.cons.injEq, true_and] at h
  obtain ⟨h1, h2⟩ := numb_inj hs ht h
  exact ⟨h1, (numb_inj ha hb h2).2⟩

theorem link_com (i : Int) (p c : List UInt8) (s : Nat) (a : List UInt8) : linkB i p c ≠ comB s a := by
  intro h
  simp only [linkB, comB, List.cons.injEq] at h
  exact absurd h.1 (by decide)

/-- A variable of 32 bytes: its pointer, and what it holds. -/
def VA (u : Value) (g lo : Nat) (w : World) (cs : List Value) : Prop := u = .pointer (some ⟨g, 0, none⟩) ∧ lo ≤ g ∧ KB w g 24 cs.toArray
section
variable {u : Value} {g lo : Nat} {w w' : World} {cs : List Value}
theorem VA.lt (h : VA u g lo w cs) : g < w.heap.size := h.2.2.lt
theorem VA.below (h : VA u g lo w cs) (hb : Below w.heap.size w w') : VA u g lo w' cs := ⟨h.1, h.2.1, h.2.2.below hb h.2.2.lt⟩
theorem VA.alloc (h : VA u g lo w cs) (o : Obj) : VA u g lo (w.alloc o) cs := ⟨h.1, h.2.1, h.2.2.alloc o⟩
theorem VA.grown {k : Nat} (h : VA u g lo w cs) (hg : w.grownBy w' (some k)) (hk : k ≠ g) : VA u g lo w' cs := ⟨h.1, h.2.1, h.2.2.grown hg (fun e => hk (Option.some.inj e))⟩
theorem VA.new (h : lo ≤ w.heap.size) : VA (.pointer (some ⟨w.heap.size, 0, none⟩)) w.heap.size lo (w.alloc (.cells cs.toArray 24)) cs := ⟨rfl, h, KB.new _ _ _⟩
end
end Go.Proofs.YtjcdkfnjlmofiaaDoor
