/-
  All's scope (layer 16): a scope that the run goes through by jumps to several labels; the frame at a label, and what holds there. No condition.
-/
import Derived.Test.YtndmdenhmcmbcaaDoorLxP
import Derived.Test.YtndmdenhmcmbcaaDoorLxT
import Derived.Test.YtndmdenhmcmbcaaDoorGoto
import Derived.ScopeJumps
import Derived.WalkMore
namespace Go.Proofs.YtndmdenhmcmbcaaDoor
open Go.RowKit
set_option maxRecDepth 100000
set_option linter.unusedVariables false

/-- As Q; by a goto to a label: what J asks of it. -/
def Exit.jumps (J : Nat → Act → World → Prop) (Q : Exit → Act → World → Prop) : Exit → Act → World → Prop
  | .goto l, a, w => J l a w
  | e, a, w => Q e a w
section
variable {P : Program} {a : Act} {w : World} {Q : Exit → Act → World → Prop}
@[go_sem] theorem Exit.jumps_ret (J : Nat → Act → World → Prop) : Exit.jumps J Q .ret a w = Q .ret a w := rfl
theorem Exit.jumps_mono {J J' : Nat → Act → World → Prop} (h : ∀ l a w, J l a w → J' l a w) {c : Code} (hc : c.wp P (Exit.jumps J Q) a w) : c.wp P (Exit.jumps J' Q) a w :=
  Code.wp_mono (fun e a' w' hh => by
    cases e with
    | goto l' => exact h _ _ _ hh
    | _ => exact hh) hc

/-- A scope that the run goes through by jumps; each pass from a label lowers a number. -/
theorem wp_scope_many {c : Code} (K : Nat → Nat → Act → World → Prop) (first : c.wp P (Exit.jumps (fun l a w => ∃ m, K m l a w) Q) a w)
    (pass : ∀ m l a w, K m l a w → ∃ rest, findLabel c l = some rest ∧ rest.wp P (Exit.jumps (fun l' a' w' => ∃ m', m' < m ∧ K m' l' a' w') Q) a w) : (Code.scope c).wp P Q a w := by
  intro b k cs
  have key : ∀ m l a w rest, K m l a w → findLabel c l = some rest → ∃ e a' w', Q e a' w' ∧ Arrives P (lone (b.at a (.code rest :: .inScope c :: k)) cs w) b k cs e a' w' := by
    intro m
    induction m using Nat.strongRecOn with
    | _ m ih =>
      intro l a w rest hK hf
      obtain ⟨rest', hf', hw⟩ := pass m l a w hK
      obtain rfl : rest' = rest := Option.some.inj (hf'.symm.trans hf)
      obtain ⟨e, a₁, w₁, hq, harr⟩ := hw b (.inScope c :: k) cs
      cases e with
      | normal => exact ⟨.normal, a₁, w₁, hq, Steps.trans harr (.one step_inScope)⟩
      | exit id => exact ⟨.exit id, a₁, w₁, hq, fun k' hk => harr k' (by simp [exitTo, hk])⟩
      | goto l' =>
        obtain ⟨m', hlt, hK'⟩ := hq
        obtain ⟨rest2, hf2, _⟩ := pass m' l' a₁ w₁ hK'
        have hg : gotoIn l' (.inScope c :: k) = some (.code rest2 :: .inScope c :: k) := by simp [gotoIn, hf2]
        obtain ⟨e₂, a₂, w₂, hq₂, harr₂⟩ := ih m' hlt l' a₁ w₁ rest2 hK' hf2
        exact ⟨e₂, a₂, w₂, hq₂, .of_steps (harr _ hg) harr₂⟩
      | ret => exact ⟨_, a₁, w₁, hq, harr⟩
      | panic ch => exact ⟨_, a₁, w₁, hq, harr⟩
      | outgrown => exact ⟨_, a₁, w₁, hq, harr⟩
  obtain ⟨e, a₁, w₁, hq, harr⟩ := first b (.inScope c :: k) cs
  cases e with
  | normal => exact ⟨.normal, a₁, w₁, hq, .head step_scope (Steps.trans harr (.one step_inScope))⟩
  | exit id => exact ⟨.exit id, a₁, w₁, hq, fun k' hk => .head step_scope (harr k' (by simp [exitTo, hk]))⟩
  | goto l' =>
    obtain ⟨m', hK'⟩ := hq
    obtain ⟨rest2, hf2, _⟩ := pass m' l' a₁ w₁ hK'
    have hg : gotoIn l' (.inScope c :: k) = some (.code rest2 :: .inScope c :: k) := by simp [gotoIn, hf2]
    obtain ⟨e₂, a₂, w₂, hq₂, harr₂⟩ := key m' l' a₁ w₁ rest2 hK' hf2
    exact ⟨e₂, a₂, w₂, hq₂, .of_steps (.head step_scope (harr _ hg)) harr₂⟩
  | ret => exact ⟨_, a₁, w₁, hq, .of_steps (.one step_scope) harr⟩
  | panic ch => exact ⟨_, a₁, w₁, hq, .of_steps (.one step_scope) harr⟩
  | outgrown => exact ⟨_, a₁, w₁, hq, .of_steps (.one step_scope) harr⟩
/-- The run comes to a label from above. -/
theorem wp_fall {c : Code} {l : Nat} {rest x : Code} (h : findLabel c l = some (Code.skip.seq rest)) (hx : findLabel c l = some (Code.skip.seq x)) (hw : rest.wp P Q a w) : x.wp P Q a w := by
  obtain rfl : rest = x := by
    have := h.symm.trans hx
    injection this with this
    injection this
  exact hw
end

/-- The code of All within its scope. -/
noncomputable def bodyX : Code := match Tryd.f7.body with
  | some (.seq _ (.scope c)) => c
  | _ => .skip

/-- The frame at a label. -/
noncomputable def frX (s v p x y e c : Value) (f : Nat → Value) : Act := ⟨[s, f 1, f 2, f 3, f 4, v, p, x, y, e, c, f 11, f 12, f 13, f 14, f 15, f 16, f 17, f 18, f 19, f 20, f 21, f 22, f 23, f 24, f 25, f 26, f 27, f 28, f 29, f 30, f 31, f 32, f 33, f 34, f 35, f 36, f 37, f 38, f 39, f 40, f 41, f 42, f 43, f 44, f 45, f 46, f 47, f 48, f 49, f 50, f 51, f 52, f 53, f 54, f 55, f 56, f 57, f 58, f 59, f 60, f 61, f 62, f 63, f 64, f 65, f 66, f 67, f 68, f 69, f 70, f 71, f 72, f 73, f 74, f 75, f 76, f 77, f 78, f 79, f 80, f 81, f 82, f 83, f 84, f 85, f 86, f 87, f 88, f 89, f 90, f 91, f 92, f 93, f 94, f 95, f 96, f 97, f 98, f 99, f 100, f 101, f 102, f 103, f 104, f 105, f 106, f 107, f 108, f 109, f 110, f 111, f 112, f 113, f 114, f 115, f 116, f 117, f 118, f 119, f 120, f 121, f 122, f 123, f 124, f 125, f 126, f 127].toArray, []⟩

/-- What holds at every label: the words found, and the variable that a word is put together in. -/
structure AtX (s : List UInt8) (w0 w : World) (v : Value) (acc : List Tk) (row : Array Value) : Prop where
  own : w.ownsRow (w0.heap.size + 1) 34 4 v acc.length (flatK acc)
  kb : KB w w0.heap.size 34 row
  four : row.size = 4
  bel : Below w0.heap.size w0 w

/-- A word begins here. -/
structure HereX (s : List UInt8) (acc : List Tk) (i : Nat) (c : UInt8) (l : List UInt8) : Prop where
  six : s.length ≤ 600
  lead : Lead s acc i
  at_ : s.drop i = c :: l
  no : c.toNat ≠ 35
  nob : blankC c.toNat = false

/-- What holds at label l. -/
def KX (s : List UInt8) (w0 : World) (m l : Nat) (a : Act) (w : World) : Prop :=
  ∃ (v x y e c : Value) (f : Nat → Value) (acc : List Tk) (row : Array Value), a = frX (strV s) v (.pointer (some ⟨w0.heap.size, 0, none⟩)) x y e c f ∧ AtX s w0 w v acc row ∧
    match l with
    | 0 => ∃ (i : Nat) (r : Int), x = .int .i64 (i : Int) ∧ e = .int .i64 r ∧ allS s = ([], i, r)
    | 1 => ∃ i : Nat, y = .int .i64 (i : Int) ∧ s.length ≤ 600 ∧ Lead s acc i ∧ m = 4 * (s.length - i) + 3
    | 2 => ∃ (i : Nat) (c : UInt8) (l : List UInt8), x = .int .i64 (i : Int) ∧ s.length ≤ 600 ∧ Lead s acc i ∧ s.drop i = c :: l ∧ c.toNat = 35 ∧ m = 4 * (s.length - i) + 2
    | 3 => ∃ (i : Nat) (c : UInt8) (l : List UInt8), x = .int .i64 (i : Int) ∧ HereX s acc i c l ∧ lowC c.toNat = true ∧ row = #[.int .i64 0, strV [], .int .i64 0, .int .i64 (i : Int)] ∧ m = 4 * (s.length - i) + 2
    | 4 => ∃ (i : Nat) (c : UInt8) (l : List UInt8), x = .int .i64 (i : Int) ∧ e = .int .i64 2 ∧ HereX s acc i c l ∧ c.toNat = 34 ∧ row = #[.int .i64 0, strV [], .int .i64 0, .int .i64 (i : Int)] ∧ m = 4 * (s.length - i) + 2
    | 5 => ∃ (i : Nat) (c : UInt8) (l : List UInt8), x = .int .i64 (i : Int) ∧ HereX s acc i c l ∧ digC c.toNat = true ∧ row = #[.int .i64 0, strV [], .int .i64 0, .int .i64 (i : Int)] ∧ m = 4 * (s.length - i) + 2
    | 6 => ∃ (i : Nat) (c : UInt8) (l : List UInt8), x = .int .i64 (i : Int) ∧ y = .int .i64 ((i + (oneC c l).size : Nat) : Int) ∧ HereX s acc i c l ∧ (oneC c l).e = 0 ∧ row = #[.int .i64 ((oneC c l).kind : Int), strV [], .int .i64 (oneC c l).n, .int .i64 (i : Int)] ∧ m = 4 * (s.length - i) + 1
    | _ => False

/-- What All hands back. -/
def AllAs (s : List UInt8) (w0 : World) (e : Ending) (w : World) : Prop :=
  ∃ v, e = .returned (.tuple #[v, .int .i64 ((allS s).2.1 : Int), .int .i64 (allS s).2.2]) ∧ TS w (fun b => w0.heap.size ≤ b) v (allS s).1 ∧ Below w0.heap.size w0 w

section
variable {s : List UInt8} {w0 w w' : World} {v : Value} {acc : List Tk} {row : Array Value}
theorem AtX.below (h : AtX s w0 w v acc row) (b : Below w.heap.size w w') : AtX s w0 w' v acc row :=
  ⟨own_past b h.own, h.kb.keep (b.block _ h.kb.lt), h.four, h.bel.trans (b.mono h.bel.size)⟩
end
end Go.Proofs.YtndmdenhmcmbcaaDoor
