/-
  The document's SameExpr and Same (layer 17), over the loaded program: each one's contract. No condition but the sizes that each contract names.
-/
import Derived.Test.YtommcdgognlfcaaRuA
import Derived.Test.YtommcdgognlfcaaRuV
import Derived.Deep.RegionHeld3
import Derived.BigQuiet
namespace Go.Proofs.Ytommcdgognlfcaa
open Go.RowKit
set_option maxRecDepth 100000
set_option linter.unusedVariables false

theorem sameXL_len {α β : Type} {g : α → β → Bool} : ∀ {l : List α} {m : List β}, l.length ≠ m.length → sameXL g l m = false
  | [], [], h => absurd rfl h
  | [], b :: m, _ => rfl
  | a :: l, [], _ => rfl
  | a :: l, b :: m, h => by
    rw [sameXL, sameXL_len (l := l) (m := m) (fun e => h (by simp [e]))]; simp
theorem sameXL_all {α β : Type} {g : α → β → Bool} : ∀ {l : List α} {m : List β}, l.length = m.length → (∀ (i : Nat) (a : α) (b : β), l[i]? = some a → m[i]? = some b → g a b = true) → sameXL g l m = true
  | [], [], _, _ => rfl
  | [], b :: m, h, _ => by simp at h
  | a :: l, [], h, _ => by simp at h
  | a :: l, b :: m, h, hx => by
    rw [sameXL, hx 0 a b rfl rfl, sameXL_all (l := l) (m := m) (by simpa using h) (fun i c d h1 h2 => hx (i + 1) c d (by simpa using h1) (by simpa using h2))]; rfl
theorem sameXL_stop {α β : Type} {g : α → β → Bool} : ∀ {l : List α} {m : List β} {i : Nat} {a : α} {b : β}, l[i]? = some a → m[i]? = some b → g a b = false → sameXL g l m = false
  | [], _, i, a, b, h, _, _ => by simp at h
  | _ :: _, [], i, a, b, _, h, _ => by simp at h
  | c :: l, d :: m, 0, a, b, h1, h2, h => by
    simp at h1 h2
    subst h1 h2
    rw [sameXL, h]; rfl
  | c :: l, d :: m, i + 1, a, b, h1, h2, h => by
    rw [sameXL, sameXL_stop (l := l) (m := m) (i := i) (by simpa using h1) (by simpa using h2) h]; simp
/-- A kid of a condition, where memory stands now. -/
theorem kid_b {w wr : World} {S : Nat → Prop} {f : Nat} {A : Option Addr} {c n : Nat} {ks : List (Ex f)} (h : XS w S (EX w S f) (.slice A n c) ks) (hn : ks.length = n) (hb : Below w.heap.size w wr) (j : Nat) (hj : j < ks.length) :
    ∃ b o e0 e1 e2 e3, A = some ⟨b, o, none⟩ ∧ b < w.heap.size ∧ wr.cell? ⟨b, o + j * 4, none⟩ = some e0 ∧ wr.cell? ⟨b, o + j * 4 + 1, none⟩ = some e1 ∧ wr.cell? ⟨b, o + j * 4 + 2, none⟩ = some e2 ∧ wr.cell? ⟨b, o + j * 4 + 3, none⟩ = some e3 ∧
      EV wr S f (.agg #[e0, e1, e2, e3]) ks[j] := by
  obtain ⟨b, o, e0, e1, e2, e3, ea, hlt, k0, k1, k2, k3, h⟩ := kid_x h hn hb.size (fun b _ hl => hb.block b hl) j hj
  exact ⟨b, o, e0, e1, e2, e3, ea, hlt, k0, k1, k2, k3, e0, e1, e2, e3, rfl, h⟩
theorem two_boxes (w : World) (a b : Array Value) (t : TypeId) :
    KB ((w.alloc (.cells a t)).alloc (.cells b t)) w.heap.size t a ∧ KB ((w.alloc (.cells a t)).alloc (.cells b t)) (w.heap.size + 1) t b ∧ Below w.heap.size w ((w.alloc (.cells a t)).alloc (.cells b t)) := by
  refine ⟨(KB.new w t a).alloc _, ?_, ((Below.refl _ _).alloc (Nat.le_refl _) _).alloc (by simp) _⟩
  have h := KB.new (w.alloc (.cells a t)) t b
  rwa [World.size_alloc] at h
/-- Two texts compared, in the forms that a walk may ask. -/
theorem eq_txt (s s' : ByteArray) (l m : List UInt8) (hs : s = ⟨l.toArray⟩) (hs' : s' = ⟨m.toArray⟩) : (s.toList == s'.toList) = decide (l = m) := by subst hs hs'; exact str_eq l m
theorem ne_txt (s s' : ByteArray) (l m : List UInt8) (hs : s = ⟨l.toArray⟩) (hs' : s' = ⟨m.toArray⟩) : (s.toList != s'.toList) = !decide (l = m) := by rw [bne, eq_txt s s' l m hs hs']
theorem eq_prop {s s' : ByteArray} {b : Bool} (h : (s.toList != s'.toList) = b) : (b = true → ¬ s.toList = s'.toList) ∧ (b = false → s.toList = s'.toList) := by
  subst h
  exact ⟨fun h => bne_iff_ne.1 h, fun h => by
    have : ¬ s.toList ≠ s'.toList := fun hn => by rw [bne_iff_ne.2 hn] at h; cases h
    exact Classical.byContradiction fun hn => this hn⟩

/-- A rule of a list, where memory stands now. -/
theorem rule_b {w wr : World} {S : Nat → Prop} {f : Nat} {A : Option Addr} {c n : Nat} {l : List (Rl f)} (h : RS w S f (.slice A n c) l) (hn : l.length = n) (hb : Below w.heap.size w wr) (j : Nat) (hj : j < l.length) :
    ∃ b o e1 e2 e3 e4, A = some ⟨b, o, none⟩ ∧ b < w.heap.size ∧ wr.cell? ⟨b, o + j * 6, none⟩ = some (strV l[j].cls) ∧ wr.cell? ⟨b, o + j * 6 + 1, none⟩ = some e1 ∧ wr.cell? ⟨b, o + j * 6 + 2, none⟩ = some e2 ∧ wr.cell? ⟨b, o + j * 6 + 3, none⟩ = some e3 ∧
      wr.cell? ⟨b, o + j * 6 + 4, none⟩ = some e4 ∧ wr.cell? ⟨b, o + j * 6 + 5, none⟩ = some (.int .i64 l[j].act) ∧ EV wr S f (.agg #[e1, e2, e3, e4]) l[j].when_ ∧ l[j].cls.length ≤ maxLen ∧ I64 l[j].act := by
  obtain ⟨b, o, e0, e1, e2, e3, e4, e5, ea, hlt, k0, k1, k2, k3, k4, k5, rfl, hm, hx, rfl, hi⟩ := rule_at h hn hb.size (fun b _ hl => hb.block b hl) j hj
  exact ⟨b, o, e1, e2, e3, e4, ea, hlt, k0, k1, k2, k3, k4, k5, ⟨e1, e2, e3, e4, rfl, hx⟩, hm, hi⟩
end Go.Proofs.Ytommcdgognlfcaa
