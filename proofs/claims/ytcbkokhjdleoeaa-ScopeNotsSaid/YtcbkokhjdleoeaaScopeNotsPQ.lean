/-
  SdS: Two boxes and two rows of scopes, laid in any order (layer 20): what a law keeps of them while it lays them. No condition.
  ScopeNotsW: The law ScopeNots over the loaded program: not all of some is one that is not, and the other way round; twice not is as it was. No condition.
  ScopeNotsP: THE STATEMENT ScopeNots of layer: proved out of the law's contract (scopeNots_law): for every input the call returns true, and the input reads as it did. No condition.
-/
import Derived.Test.YtcbkokhjdleoeaaSz19
import Derived.Test.YtcbkokhjdleoeaaSz24
import Derived.Test.YtcbkokhjdleoeaaSz26
import Derived.Test.YtcbkokhjdleoeaaSz03
import Derived.Deep.RegionHeld3
import Derived.Deep.CutRange
import Derived.Test.YtcbkokhjdleoeaaRows
import Derived.WalkKit
import Derived.ProofKit
import Derived.OpenShut
import Derived.ShutString
import Derived.ChangeOld
import Derived.Below
set_option linter.unusedVariables false
set_option maxRecDepth 100000
namespace Go.Proofs.Ytcbkokhjdleoeaa
section
open Go.RowKit
abbrev zeroC : Array Value := #[.int .i64 0, .string ⟨#[]⟩, .int .i64 0, .int .i64 0, .slice none 0 0]
def HasZ (w2 w : World) (o : Option (Nat × Array Value)) : Prop := ∀ p, o = some p → KB w p.1 24 p.2 ∧ w2.heap.size ≤ p.1
def ApartZ (o o' : Option (Nat × Array Value)) : Prop := ∀ p q, o = some p → o' = some q → p.1 ≠ q.1
structure N3 (w2 : World) (a : Nat) (X Y : Array Value) (w : World) (o7 o8 oA oB : Option (Nat × Array Value)) : Prop where
  B : Below w2.heap.size w2 w
  ha : a + 1 < w2.heap.size
  kx : KB w a 24 X
  ky : KB w (a + 1) 24 Y
  h7 : HasZ w2 w o7
  h8 : HasZ w2 w o8
  hA : HasZ w2 w oA
  hB : HasZ w2 w oB
  d78 : ApartZ o7 o8
  d7A : ApartZ o7 oA
  d7B : ApartZ o7 oB
  d8A : ApartZ o8 oA
  d8B : ApartZ o8 oB
section
variable {w2 w : World} {a : Nat} {X Y : Array Value} {o7 o8 oA oB o o' : Option (Nat × Array Value)}
theorem HasZ.alloc (h : HasZ w2 w o) (ob : Obj) : HasZ w2 (w.alloc ob) o := fun p e => ⟨(h p e).1.alloc ob, (h p e).2⟩
theorem HasZ.new (cs : Array Value) (hb : w2.heap.size ≤ w.heap.size) : HasZ w2 (w.alloc (.cells cs 24)) (some (w.heap.size, cs)) := fun p e => by
  injection e with e
  subst e
  exact ⟨KB.new w _ cs, hb⟩
theorem ApartZ.nil1 : ApartZ none o := fun p q e => by cases e
theorem ApartZ.nil2 : ApartZ o none := fun p q _ e => by cases e
theorem HasZ.new1 (h : HasZ w2 w o) (cs : Array Value) : ApartZ (some (w.heap.size, cs)) o := fun p q e e' => by
  injection e with e
  subst e
  have := (h q e').1.lt
  show w.heap.size ≠ q.1
  omega
theorem HasZ.new2 (h : HasZ w2 w o) (cs : Array Value) : ApartZ o (some (w.heap.size, cs)) := fun p q e e' => by
  injection e' with e'
  subst e'
  have := (h p e).1.lt
  show p.1 ≠ w.heap.size
  omega
theorem HasZ.far {g : Nat} {c : Array Value} (h : HasZ w2 w o) (hd : ApartZ (some (g, c)) o) (x y z u v : Value) : HasZ w2 (((((w.setCell ⟨g, 0, none⟩ x).setCell ⟨g, 1, none⟩ y).setCell ⟨g, 2, none⟩ z).setCell ⟨g, 3, none⟩ u).setCell ⟨g, 4, none⟩ v) o := fun p e =>
  ⟨zKB_five (h p e).1 (hd _ p rfl e), (h p e).2⟩
theorem ApartZ.sym (h : ApartZ o o') : ApartZ o' o := fun p q e e' => (h q p e' e).symm
theorem ApartZ.put {g : Nat} {c c' : Array Value} (h : ApartZ (some (g, c)) o) : ApartZ (some (g, c')) o := fun p q e e' => by
  injection e with e
  subst e
  exact h (g, c) q rfl e'
theorem HasZ.put {g : Nat} {b0 b1 b2 b3 b4 : Value} (h : HasZ w2 w (some (g, #[b0, b1, b2, b3, b4]))) (x y z u v : Value) : HasZ w2 (((((w.setCell ⟨g, 0, none⟩ x).setCell ⟨g, 1, none⟩ y).setCell ⟨g, 2, none⟩ z).setCell ⟨g, 3, none⟩ u).setCell ⟨g, 4, none⟩ v) (some (g, #[x, y, z, u, v])) := fun p e => by
  injection e with e
  subst e
  exact ⟨zput_five (h _ rfl).1, (h _ rfl).2⟩
theorem zbelow_five {g : Nat} (h : Below w2.heap.size w2 w) (hg : w2.heap.size ≤ g) (x y z u v : Value) : Below w2.heap.size w2 (((((w.setCell ⟨g, 0, none⟩ x).setCell ⟨g, 1, none⟩ y).setCell ⟨g, 2, none⟩ z).setCell ⟨g, 3, none⟩ u).setCell ⟨g, 4, none⟩ v) :=
  ((((h.setCell (p := ⟨g, 0, none⟩) hg x).setCell (p := ⟨g, 1, none⟩) hg y).setCell (p := ⟨g, 2, none⟩) hg z).setCell (p := ⟨g, 3, none⟩) hg u).setCell (p := ⟨g, 4, none⟩) hg v
theorem N3.mk7 (n : N3 w2 a X Y w none o8 oA oB) (cs : Array Value) : N3 w2 a X Y (w.alloc (.cells cs 24)) (some (w.heap.size, cs)) o8 oA oB :=
  ⟨n.B.alloc n.B.size _, n.ha, n.kx.alloc _, n.ky.alloc _, HasZ.new cs n.B.size, n.h8.alloc _, n.hA.alloc _, n.hB.alloc _, n.h8.new1 cs, n.hA.new1 cs, n.hB.new1 cs, n.d8A, n.d8B⟩
theorem N3.mk8 (n : N3 w2 a X Y w o7 none oA oB) (cs : Array Value) : N3 w2 a X Y (w.alloc (.cells cs 24)) o7 (some (w.heap.size, cs)) oA oB :=
  ⟨n.B.alloc n.B.size _, n.ha, n.kx.alloc _, n.ky.alloc _, n.h7.alloc _, HasZ.new cs n.B.size, n.hA.alloc _, n.hB.alloc _, n.h7.new2 cs, n.d7A, n.d7B, n.hA.new1 cs, n.hB.new1 cs⟩
theorem N3.mkA (n : N3 w2 a X Y w o7 o8 none oB) (cs : Array Value) : N3 w2 a X Y (w.alloc (.cells cs 24)) o7 o8 (some (w.heap.size, cs)) oB :=
  ⟨n.B.alloc n.B.size _, n.ha, n.kx.alloc _, n.ky.alloc _, n.h7.alloc _, n.h8.alloc _, HasZ.new cs n.B.size, n.hB.alloc _, n.d78, n.h7.new2 cs, n.d7B, n.h8.new2 cs, n.d8B⟩
theorem N3.mkB (n : N3 w2 a X Y w o7 o8 oA none) (cs : Array Value) : N3 w2 a X Y (w.alloc (.cells cs 24)) o7 o8 oA (some (w.heap.size, cs)) :=
  ⟨n.B.alloc n.B.size _, n.ha, n.kx.alloc _, n.ky.alloc _, n.h7.alloc _, n.h8.alloc _, n.hA.alloc _, HasZ.new cs n.B.size, n.d78, n.d7A, n.h7.new2 cs, n.d8A, n.h8.new2 cs⟩
theorem N3.set7 {g : Nat} {b0 b1 b2 b3 b4 : Value} (n : N3 w2 a X Y w (some (g, #[b0, b1, b2, b3, b4])) o8 oA oB) (x y z u v : Value) :
    N3 w2 a X Y (((((w.setCell ⟨g, 0, none⟩ x).setCell ⟨g, 1, none⟩ y).setCell ⟨g, 2, none⟩ z).setCell ⟨g, 3, none⟩ u).setCell ⟨g, 4, none⟩ v) (some (g, #[x, y, z, u, v])) o8 oA oB := by
  have hg := (n.h7 _ rfl).2
  have := n.ha
  dsimp only at hg
  exact ⟨zbelow_five n.B hg x y z u v, n.ha, zKB_five n.kx (by omega), zKB_five n.ky (by omega), n.h7.put x y z u v, n.h8.far n.d78 x y z u v, n.hA.far n.d7A x y z u v, n.hB.far n.d7B x y z u v, n.d78.put, n.d7A.put, n.d7B.put, n.d8A, n.d8B⟩
theorem N3.set8 {g : Nat} {b0 b1 b2 b3 b4 : Value} (n : N3 w2 a X Y w o7 (some (g, #[b0, b1, b2, b3, b4])) oA oB) (x y z u v : Value) :
    N3 w2 a X Y (((((w.setCell ⟨g, 0, none⟩ x).setCell ⟨g, 1, none⟩ y).setCell ⟨g, 2, none⟩ z).setCell ⟨g, 3, none⟩ u).setCell ⟨g, 4, none⟩ v) o7 (some (g, #[x, y, z, u, v])) oA oB := by
  have hg := (n.h8 _ rfl).2
  have := n.ha
  dsimp only at hg
  exact ⟨zbelow_five n.B hg x y z u v, n.ha, zKB_five n.kx (by omega), zKB_five n.ky (by omega), n.h7.far n.d78.sym x y z u v, n.h8.put x y z u v, n.hA.far n.d8A x y z u v, n.hB.far n.d8B x y z u v, n.d78.sym.put.sym, n.d7A, n.d7B, n.d8A.put, n.d8B.put⟩
theorem HasZ.old {g : Nat} {b0 b1 b2 b3 b4 : Value} (h : HasZ w2 w (some (g, #[b0, b1, b2, b3, b4]))) : (w.cell? ⟨g, 0, none⟩ = some b0 ∧ w.cell? ⟨g, 1, none⟩ = some b1 ∧ w.cell? ⟨g, 2, none⟩ = some b2 ∧ w.cell? ⟨g, 3, none⟩ = some b3 ∧ w.cell? ⟨g, 4, none⟩ = some b4) ∧
    w.frozen? ⟨g, 0, none⟩ = false ∧ w.frozen? ⟨g, 1, none⟩ = false ∧ w.frozen? ⟨g, 2, none⟩ = false ∧ w.frozen? ⟨g, 3, none⟩ = false ∧ w.frozen? ⟨g, 4, none⟩ = false := by
  have k := (h _ rfl).1
  exact ⟨⟨k.cell 0, k.cell 1, k.cell 2, k.cell 3, k.cell 4⟩, k.free 0, k.free 1, k.free 2, k.free 3, k.free 4⟩
theorem N3.start (k1 : KB w2 a 24 X) (k2 : KB w2 (a + 1) 24 Y) : N3 w2 a X Y w2.drew none none none none :=
  ⟨Below_drawn (Below.refl _ _) 1, k2.lt, k1, k2, (fun p e => by cases e), (fun p e => by cases e), (fun p e => by cases e), (fun p e => by cases e), ApartZ.nil1, ApartZ.nil1, ApartZ.nil1, ApartZ.nil1, ApartZ.nil1⟩
theorem N3.done {g7 g8 gA gB : Nat} {c7 c8 cA cB : Array Value} (n : N3 w2 a X Y w (some (g7, c7)) (some (g8, c8)) (some (gA, cA)) (some (gB, cB))) :
    KB w g7 24 c7 ∧ KB w g8 24 c8 ∧ KB w gA 24 cA ∧ KB w gB 24 cB ∧ Below w2.heap.size w2 w :=
  ⟨(n.h7 _ rfl).1, (n.h8 _ rfl).1, (n.hA _ rfl).1, (n.hB _ rfl).1, n.B⟩
end
theorem zpair {w : World} {S : Nat → Prop} {f g : Nat} {a0 a1 a2 a3 a4 b0 b1 b2 b3 b4 : Value} {x y : Sc f} (k : KB w g 24 #[a0, a1, a2, a3, a4, b0, b1, b2, b3, b4]) (hS : S g) (hx : ZX w S f x a0 a1 a2 a3 a4) (hy : ZX w S f y b0 b1 b2 b3 b4) :
    ZS w S (ZX w S f) (.slice (some ⟨g, 0, none⟩) 2 2) [x, y] :=
  ⟨_, 2, rfl, Nat.le_refl _, by unfold maxLen; omega, (fun h => by cases h), fun _ => ⟨g, 0, rfl, hS, k.lt, fun i u hi => by
    match i, hi with
    | 0, hi =>
      obtain rfl := Option.some.inj hi
      exact ⟨_, _, _, _, _, k.cell 0, k.cell 1, k.cell 2, k.cell 3, k.cell 4, hx⟩
    | 1, hi =>
      obtain rfl := Option.some.inj hi
      exact ⟨_, _, _, _, _, k.cell 5, k.cell 6, k.cell 7, k.cell 8, k.cell 9, hy⟩⟩⟩
theorem zbuilt {w : World} {S : Nat → Prop} {f g : Nat} {op : Int} {x y : Sc f} (ho : I64 op) (h : ZS w S (ZX w S f) (.slice (some ⟨g, 0, none⟩) 2 2) [x, y]) :
    ZV w S (f + 1) (.agg #[.int .i64 op, .string ⟨#[]⟩, .int .i64 0, .int .i64 0, .slice (some ⟨g, 0, none⟩) 2 2]) (⟨op, [], 0, 0, [x, y]⟩ : Ns (Sc f)) :=
  ⟨_, _, _, _, _, rfl, rfl, ho, rfl, Nat.zero_le _, rfl, by show I64 0; unfold I64; omega, rfl, by show I64 0; unfold I64; omega, h⟩
theorem zany (S : Nat → Prop) {w : World} {f : Nat} {v : Value} {t : Sc f} (h : ZV w S f v t) : ZV w (fun _ => True) f v t := h.mono fun _ _ => trivial
theorem ZV.cells5 {w : World} {S : Nat → Prop} {f : Nat} {a b c d e : Value} {t : Sc f} (h : ZV w S f (.agg #[a, b, c, d, e]) t) : ZX w S f t a b c d e := by
  obtain ⟨_, _, _, _, _, e, h⟩ := h
  injection e with e
  simp only [Array.mk.injEq, List.cons.injEq, and_true] at e
  obtain ⟨rfl, rfl, rfl, rfl, rfl⟩ := e
  exact h
def OffZ (o : Option (Nat × Array Value)) : Nat → Prop := fun b => ∀ p, o = some p → b ≠ p.1
structure N4 (w3 : World) (a f : Nat) (x y : Sc f) (X Y : Array Value) (w : World) (o9 oR : Option (Nat × Array Value)) (u1 u2 : Option Value) : Prop where
  B : Below w3.heap.size w3 w
  ha : a + 1 < w3.heap.size
  kx : KB w a 24 X
  ky : KB w (a + 1) 24 Y
  h9 : HasZ w3 w o9
  hR : HasZ w3 w oR
  d : ApartZ o9 oR
  zx : ZV w (OffZ o9) f (.agg X) x
  zy : ZV w (OffZ o9) f (.agg Y) y
  z1 : ∀ u, u1 = some u → ZV w (OffZ o9) (f + 1) u (notS x)
  z2 : ∀ u, u2 = some u → ZV w (OffZ o9) (f + 1) u (notS y)
section
variable {w3 w w' : World} {a f : Nat} {x y : Sc f} {X Y : Array Value} {o9 oR : Option (Nat × Array Value)} {u1 u2 : Option Value}
theorem HasZ.below (h : HasZ w3 w o9) (hb : Below w.heap.size w w') : HasZ w3 w' o9 := fun p e => ⟨(h p e).1.below hb (h p e).1.lt, (h p e).2⟩
theorem N4.start (k1 : KB w3 a 24 X) (k2 : KB w3 (a + 1) 24 Y) (z1 : ZV w3 (fun _ => True) f (.agg X) x) (z2 : ZV w3 (fun _ => True) f (.agg Y) y) : N4 w3 a f x y X Y w3.drew none none none none :=
  ⟨Below_drawn (Below.refl _ _) 1, k2.lt, k1, k2, (fun p e => by cases e), (fun p e => by cases e), ApartZ.nil1, (z1.below' (Below_drawn (Below.refl _ _) 1)).mono (fun b _ p e => by cases e), (z2.below' (Below_drawn (Below.refl _ _) 1)).mono (fun b _ p e => by cases e), (fun u e => by cases e), (fun u e => by cases e)⟩
theorem N4.here (n : N4 w3 a f x y X Y w o9 oR u1 u2) {g : Nat} {v : Value} {t : Sc g} (hz : ZV w' (fun b => OffZ o9 b ∨ w.heap.size ≤ b) g v t) : ZV w' (OffZ o9) g v t := hz.mono fun b hb p e => by
  rcases hb with h | h
  · exact h p e
  · have := (n.h9 p e).1.lt
    omega
theorem N4.call1 (n : N4 w3 a f x y X Y w o9 oR none u2) (hb : Below w.heap.size w w') {u : Value} (hz : ZV w' (fun b => OffZ o9 b ∨ w.heap.size ≤ b) (f + 1) u (notS x)) : N4 w3 a f x y X Y w' o9 oR (some u) u2 :=
  ⟨n.B.trans (hb.mono n.B.size), n.ha, n.kx.below hb n.kx.lt, n.ky.below hb n.ky.lt, n.h9.below hb, n.hR.below hb, n.d, n.zx.below' hb, n.zy.below' hb, (fun v e => by injection e with e; subst e; exact n.here hz), fun v e => (n.z2 v e).below' hb⟩
theorem N4.call2 (n : N4 w3 a f x y X Y w o9 oR u1 none) (hb : Below w.heap.size w w') {u : Value} (hz : ZV w' (fun b => OffZ o9 b ∨ w.heap.size ≤ b) (f + 1) u (notS y)) : N4 w3 a f x y X Y w' o9 oR u1 (some u) :=
  ⟨n.B.trans (hb.mono n.B.size), n.ha, n.kx.below hb n.kx.lt, n.ky.below hb n.ky.lt, n.h9.below hb, n.hR.below hb, n.d, n.zx.below' hb, n.zy.below' hb, (fun v e => (n.z1 v e).below' hb), fun v e => by injection e with e; subst e; exact n.here hz⟩
theorem N4.mkR (n : N4 w3 a f x y X Y w o9 none u1 u2) (cs : Array Value) : N4 w3 a f x y X Y (w.alloc (.cells cs 24)) o9 (some (w.heap.size, cs)) u1 u2 :=
  ⟨n.B.alloc n.B.size _, n.ha, n.kx.alloc _, n.ky.alloc _, n.h9.alloc _, HasZ.new cs n.B.size, n.h9.new2 cs, n.zx.alloc _, n.zy.alloc _, (fun v e => (n.z1 v e).alloc _), fun v e => (n.z2 v e).alloc _⟩
theorem ZV.off9 {g : Nat} {v : Value} {t : Sc g} (h : ZV w (OffZ none) g v t) (cs : Array Value) : ZV (w.alloc (.cells cs 24)) (OffZ (some (w.heap.size, cs))) g v t :=
  h.keepL (by simp) (fun b _ hb => Below.heap_alloc w _ b hb) fun b _ hb p e => by
    injection e with e
    subst e
    show b ≠ w.heap.size
    omega
theorem N4.mk9 (n : N4 w3 a f x y X Y w none oR u1 u2) (cs : Array Value) : N4 w3 a f x y X Y (w.alloc (.cells cs 24)) (some (w.heap.size, cs)) oR u1 u2 :=
  ⟨n.B.alloc n.B.size _, n.ha, n.kx.alloc _, n.ky.alloc _, HasZ.new cs n.B.size, n.hR.alloc _, n.hR.new1 cs, n.zx.off9 cs, n.zy.off9 cs, (fun v e => (n.z1 v e).off9 cs), fun v e => (n.z2 v e).off9 cs⟩
theorem ZV.put9 {g d : Nat} {c c' : Array Value} {v : Value} {t : Sc d} (h : ZV w (OffZ (some (g, c))) d v t) (x y z u q : Value) : ZV (((((w.setCell ⟨g, 0, none⟩ x).setCell ⟨g, 1, none⟩ y).setCell ⟨g, 2, none⟩ z).setCell ⟨g, 3, none⟩ u).setCell ⟨g, 4, none⟩ q) (OffZ (some (g, c'))) d v t :=
  h.keepL (Nat.le_of_eq (zsets_size _ _ _ _ _ _ _)) (fun b hb _ => zsets_block _ _ _ _ _ _ _ _ (hb (g, c) rfl)) fun b hb _ p e => by
    injection e with e
    subst e
    exact hb (g, c) rfl
theorem N4.set9 {g : Nat} {b0 b1 b2 b3 b4 : Value} (n : N4 w3 a f x y X Y w (some (g, #[b0, b1, b2, b3, b4])) oR u1 u2) (p q r s t : Value) :
    N4 w3 a f x y X Y (((((w.setCell ⟨g, 0, none⟩ p).setCell ⟨g, 1, none⟩ q).setCell ⟨g, 2, none⟩ r).setCell ⟨g, 3, none⟩ s).setCell ⟨g, 4, none⟩ t) (some (g, #[p, q, r, s, t])) oR u1 u2 := by
  have hg := (n.h9 _ rfl).2
  have := n.ha
  dsimp only at hg
  exact ⟨zbelow_five n.B hg p q r s t, n.ha, zKB_five n.kx (by omega), zKB_five n.ky (by omega), n.h9.put p q r s t, n.hR.far n.d p q r s t, n.d.put, n.zx.put9 p q r s t, n.zy.put9 p q r s t, (fun v e => (n.z1 v e).put9 p q r s t), fun v e => (n.z2 v e).put9 p q r s t⟩
theorem N4.done {g gr : Nat} {op : Int} {c : Array Value} {a0 a1 a2 a3 a4 b0 b1 b2 b3 b4 : Value} (ho : I64 op) (n : N4 w3 a f x y X Y w (some (g, c)) (some (gr, #[a0, a1, a2, a3, a4, b0, b1, b2, b3, b4])) (some (.agg #[a0, a1, a2, a3, a4])) (some (.agg #[b0, b1, b2, b3, b4]))) :
    KB w g 24 c ∧ ZV w (fun _ => True) (f + 1 + 1) (.agg #[.int .i64 op, .string ⟨#[]⟩, .int .i64 0, .int .i64 0, .slice (some ⟨gr, 0, none⟩) 2 2]) (⟨op, [], 0, 0, [notS x, notS y]⟩ : Ns (Sc (f + 1))) ∧ Below w3.heap.size w3 w :=
  ⟨(n.h9 _ rfl).1, zbuilt ho (zpair (n.hR _ rfl).1 trivial (zany _ (n.z1 _ rfl)).cells5 (zany _ (n.z2 _ rfl)).cells5), n.B⟩
end
end
section
open Go.RowKit Go.ChangeShapes Go.WideShapes Go.Joins
set_option maxHeartbeats 4000000 in
theorem scopeNots_main (f : Nat) (x y : Sc f) (rc : Rc) (vx vy vr : Value) (w : World) (hx : ZV w (fun _ => True) f vx x) (hy : ZV w (fun _ => True) f vy y) (hr : RcV vr rc) : Calls Try.prog 7 #[vx, vy, vr] w (Yes20 w) := by
  obtain ⟨id, st, rfl⟩ := hr
  have hrv : RcV (.agg #[strV id, strV rc.cse, strV rc.sub, strV rc.cls, .int .i64 rc.tick, .int .i64 st]) rc := ⟨id, st, rfl⟩
  obtain ⟨x0, lx, x2, x3, xA, xn, xz, rfl⟩ := hx.form
  obtain ⟨y0, ly, y2, y3, yA, yn, yz, rfl⟩ := hy.form
  obtain ⟨N1, N2, N3⟩ := scope_nots rc x y
  unfold strV at hx hy hrv ⊢
  generalize (⟨lx.toArray⟩ : ByteArray) = xs at *
  generalize (⟨ly.toArray⟩ : ByteArray) = ys at *
  have HM : Hid (∀ (g : Nat) (t : Sc g) (v : Value) (W : World), ZV W (fun _ => True) g v t → Calls Try.prog 19 #[v, .agg #[.string ⟨id.toArray⟩, .string ⟨rc.cse.toArray⟩, .string ⟨rc.sub.toArray⟩, .string ⟨rc.cls.toArray⟩, .int .i64 rc.tick, .int .i64 st]] W fun e w' => e = .returned (.bool (matchS rc g t)) ∧ Below W.heap.size W w') := fun g t v W h => zpmatch_any _ rc _ hrv g t v W h
  clear hrv
  generalize (⟨id.toArray⟩ : ByteArray) = s0 at *
  generalize (⟨rc.cse.toArray⟩ : ByteArray) = s1 at *
  generalize (⟨rc.sub.toArray⟩ : ByteArray) = s2 at *
  generalize (⟨rc.cls.toArray⟩ : ByteArray) = s3 at *
  generalize rc.tick = tick at *
  have B : Below w.heap.size w (((w.alloc (.cells #[.int .i64 x0, .string xs, .int .i64 x2, .int .i64 x3, .slice xA xn xz] 24)).alloc (.cells #[.int .i64 y0, .string ys, .int .i64 y2, .int .i64 y3, .slice yA yn yz] 24)).alloc (.cells #[.string s0, .string s1, .string s2, .string s3, .int .i64 tick, .int .i64 st] 43)) := (((Below.refl w.heap.size w).alloc (Nat.le_refl _) _).alloc (by simp) _).alloc (by simp; omega) _
  have kx : KB (((w.alloc (.cells #[.int .i64 x0, .string xs, .int .i64 x2, .int .i64 x3, .slice xA xn xz] 24)).alloc (.cells #[.int .i64 y0, .string ys, .int .i64 y2, .int .i64 y3, .slice yA yn yz] 24)).alloc (.cells #[.string s0, .string s1, .string s2, .string s3, .int .i64 tick, .int .i64 st] 43)) w.heap.size 24 #[.int .i64 x0, .string xs, .int .i64 x2, .int .i64 x3, .slice xA xn xz] := ((KB.new w _ _).alloc _).alloc _
  have ky : KB (((w.alloc (.cells #[.int .i64 x0, .string xs, .int .i64 x2, .int .i64 x3, .slice xA xn xz] 24)).alloc (.cells #[.int .i64 y0, .string ys, .int .i64 y2, .int .i64 y3, .slice yA yn yz] 24)).alloc (.cells #[.string s0, .string s1, .string s2, .string s3, .int .i64 tick, .int .i64 st] 43)) (w.heap.size + 1) 24 #[.int .i64 y0, .string ys, .int .i64 y2, .int .i64 y3, .slice yA yn yz] := by
    have h := (KB.new (w.alloc (.cells #[.int .i64 x0, .string xs, .int .i64 x2, .int .i64 x3, .slice xA xn xz] 24)) 24 #[.int .i64 y0, .string ys, .int .i64 y2, .int .i64 y3, .slice yA yn yz]).alloc (.cells #[.string s0, .string s1, .string s2, .string s3, .int .i64 tick, .int .i64 st] 43)
    rwa [World.size_alloc] at h
  have kr : KB (((w.alloc (.cells #[.int .i64 x0, .string xs, .int .i64 x2, .int .i64 x3, .slice xA xn xz] 24)).alloc (.cells #[.int .i64 y0, .string ys, .int .i64 y2, .int .i64 y3, .slice yA yn yz] 24)).alloc (.cells #[.string s0, .string s1, .string s2, .string s3, .int .i64 tick, .int .i64 st] 43)) (w.heap.size + 1 + 1) 43 #[.string s0, .string s1, .string s2, .string s3, .int .i64 tick, .int .i64 st] := by
    have h := KB.new ((w.alloc (.cells #[.int .i64 x0, .string xs, .int .i64 x2, .int .i64 x3, .slice xA xn xz] 24)).alloc (.cells #[.int .i64 y0, .string ys, .int .i64 y2, .int .i64 y3, .slice yA yn yz] 24)) 43 #[.string s0, .string s1, .string s2, .string s3, .int .i64 tick, .int .i64 st]
    rwa [World.size_alloc, World.size_alloc] at h
  replace hx := hx.below' B
  replace hy := hy.below' B
  have hsx := zsmall_any _ f x _ _ hx
  have HSY := Lib.hid (fun W h => zsmall_any (fun _ => True) f y (.agg #[.int .i64 y0, .string ys, .int .i64 y2, .int .i64 y3, .slice yA yn yz]) W h)
  go_enter Try.func7, Try.ntmps7
  go_wp2_with fail
  refine hsx.mono ?_
  rintro e w1 ⟨bx, rfl, _, b1⟩
  replace kx := kx.below b1 kx.lt
  replace ky := ky.below b1 ky.lt
  replace kr := kr.below b1 kr.lt
  replace hx := hx.below' b1
  replace hy := hy.below' b1
  replace B := B.trans (b1.mono B.size)
  clear hsx b1
  cases bx with
  | false =>
    clear HM HSY N1 N2 N3 hx hy
    go_wp2_with fail
    refine (live20_any _).mono ?_
    rintro e wL ⟨rfl, bL⟩
    have BL := B.trans (bL.mono B.size)
    go_wp2_with fail
    go_ret
    exact ⟨rfl, BL⟩
  | true =>
    have q0 := ky.cell 0
    have q1 := ky.cell 1
    have q2 := ky.cell 2
    have q3 := ky.cell 3
    have q4 := ky.cell 4
    simp only [List.getElem?_toArray, List.getElem?_cons_zero, List.getElem?_cons_succ] at q0 q1 q2 q3 q4
    have hsy := HSY.out _ hy
    clear HSY
    go_wp2_with fail
    refine hsy.mono ?_
    rintro e w2 ⟨by_, rfl, _, b2⟩
    replace kx := kx.below b2 kx.lt
    replace ky := ky.below b2 ky.lt
    replace kr := kr.below b2 kr.lt
    replace hx := hx.below' b2
    replace hy := hy.below' b2
    replace B := B.trans (b2.mono B.size)
    clear hsy b2 q0 q1 q2 q3 q4
    cases by_ with
    | false =>
      clear HM N1 N2 N3 hx hy
      go_wp2_with fail
      refine (live20_any _).mono ?_
      rintro e wL ⟨rfl, bL⟩
      have BL := B.trans (bL.mono B.size)
      go_wp2_with fail
      go_ret
      exact ⟨rfl, BL⟩
    | true =>
      go_upto_region 3 with fail
      go_cut [7, 8] from 20 to 27 (fun u v wc => ∃ g7 g8 gA gB, u = .pointer (some ⟨g7, 0, none⟩) ∧ v = .pointer (some ⟨g8, 0, none⟩) ∧ KB wc g7 24 #[.int .i64 6, .string ⟨#[]⟩, .int .i64 0, .int .i64 0, .slice (some ⟨gA, 0, none⟩) 2 2] ∧ KB wc g8 24 #[.int .i64 7, .string ⟨#[]⟩, .int .i64 0, .int .i64 0, .slice (some ⟨gB, 0, none⟩) 2 2] ∧ KB wc gA 24 #[.int .i64 x0, .string xs, .int .i64 x2, .int .i64 x3, .slice xA xn xz, .int .i64 y0, .string ys, .int .i64 y2, .int .i64 y3, .slice yA yn yz] ∧ KB wc gB 24 #[.int .i64 x0, .string xs, .int .i64 x2, .int .i64 x3, .slice xA xn xz, .int .i64 y0, .string ys, .int .i64 y2, .int .i64 y3, .slice yA yn yz] ∧ Below w2.heap.size w2 wc)
      case first =>
        clear HM N1 N2 N3 hx hy B
        have n := N3.start kx ky
        clear kx ky kr
        refine wp_region_held_drew (S := (fun W => W.cell? ⟨w.heap.size, 0, none⟩ = some (.int .i64 x0) ∧ W.cell? ⟨w.heap.size, 1, none⟩ = some (.string xs) ∧ W.cell? ⟨w.heap.size, 2, none⟩ = some (.int .i64 x2) ∧ W.cell? ⟨w.heap.size, 3, none⟩ = some (.int .i64 x3) ∧ W.cell? ⟨w.heap.size, 4, none⟩ = some (.slice xA xn xz) ∧ W.cell? ⟨w.heap.size + 1, 0, none⟩ = some (.int .i64 y0) ∧ W.cell? ⟨w.heap.size + 1, 1, none⟩ = some (.string ys) ∧ W.cell? ⟨w.heap.size + 1, 2, none⟩ = some (.int .i64 y2) ∧ W.cell? ⟨w.heap.size + 1, 3, none⟩ = some (.int .i64 y3) ∧ W.cell? ⟨w.heap.size + 1, 4, none⟩ = some (.slice yA yn yz))) (by kernel_rfl) ⟨n.kx.cell 0, n.kx.cell 1, n.kx.cell 2, n.kx.cell 3, n.kx.cell 4, n.ky.cell 0, n.ky.cell 1, n.ky.cell 2, n.ky.cell 3, n.ky.cell 4⟩ (fun hHeld => ?_)
        generalize w2.drew = wd at *
        refine hyY (some 20) 0 rfl hHeld ?_; go_frame
        refine hyY (some 21) 1 rfl hHeld ?_; go_frame
        refine hyY (some 24) 4 rfl hHeld ?_; go_frame
        refine hyY (some 25) 5 rfl hHeld ?_; go_frame
        refine held_four (o := ⟨some 22, _, _, _, _, _⟩) (p := ⟨some 26, _, _, _, _, _⟩) (q := ⟨some 7, _, _, _, _, _⟩) (s := ⟨some 8, _, _, _, _, _⟩) 2 6 8 9 (by kernel_rfl) rfl rfl rfl rfl (by rfl) (by rfl) (by rfl) (by rfl) (fun K hK => ?_) (fun K hK => ?_) (fun K hK => ?_) (fun K hK => ?_)
        · go_simp
          replace n := n.mkA #[.int .i64 x0, .string xs, .int .i64 x2, .int .i64 x3, .slice xA xn xz, .int .i64 y0, .string ys, .int .i64 y2, .int .i64 y3, .slice yA yn yz]
          obtain ⟨gA, hq⟩ : ∃ u, u = wd.heap.size := ⟨_, rfl⟩
          rw [← hq] at n ⊢
          clear hq
          generalize wd.alloc (.cells #[.int .i64 x0, .string xs, .int .i64 x2, .int .i64 x3, .slice xA xn xz, .int .i64 y0, .string ys, .int .i64 y2, .int .i64 y3, .slice yA yn yz] 24) = wd at *
          refine hK.out _ _ ?_ (fun hH2 => ?_)
          · exact ⟨n.kx.cell 0, n.kx.cell 1, n.kx.cell 2, n.kx.cell 3, n.kx.cell 4, n.ky.cell 0, n.ky.cell 1, n.ky.cell 2, n.ky.cell 3, n.ky.cell 4⟩
          clear hHeld hK K; have hHeld := hH2; clear hH2; try go_frame
          refine hyY (some 23) 3 rfl hHeld ?_; go_frame
          refine held_three (o := ⟨some 26, _, _, _, _, _⟩) (p := ⟨some 7, _, _, _, _, _⟩) (q := ⟨some 8, _, _, _, _, _⟩) 6 8 9 (by kernel_rfl) rfl rfl rfl (by rfl) (by rfl) (by rfl) (fun K hK => ?_) (fun K hK => ?_) (fun K hK => ?_)
          · go_simp
            replace n := n.mkB #[.int .i64 x0, .string xs, .int .i64 x2, .int .i64 x3, .slice xA xn xz, .int .i64 y0, .string ys, .int .i64 y2, .int .i64 y3, .slice yA yn yz]
            obtain ⟨gB, hq⟩ : ∃ u, u = wd.heap.size := ⟨_, rfl⟩
            rw [← hq] at n ⊢
            clear hq
            generalize wd.alloc (.cells #[.int .i64 x0, .string xs, .int .i64 x2, .int .i64 x3, .slice xA xn xz, .int .i64 y0, .string ys, .int .i64 y2, .int .i64 y3, .slice yA yn yz] 24) = wd at *
            refine hK.out _ _ ?_ (fun hH2 => ?_)
            · exact ⟨n.kx.cell 0, n.kx.cell 1, n.kx.cell 2, n.kx.cell 3, n.kx.cell 4, n.ky.cell 0, n.ky.cell 1, n.ky.cell 2, n.ky.cell 3, n.ky.cell 4⟩
            clear hHeld hK K; have hHeld := hH2; clear hH2; try go_frame
            refine hyY (some 27) 7 rfl hHeld ?_; go_frame
            refine held_two (o := ⟨some 7, _, _, _, _, _⟩) (p := ⟨some 8, _, _, _, _, _⟩) 8 9 (by kernel_rfl) rfl rfl (by rfl) (by rfl) (fun K hK => ?_) (fun K hK => ?_)
            · go_simp
              replace n := n.mk7 #[.int .i64 0, .string ⟨#[]⟩, .int .i64 0, .int .i64 0, .slice none 0 0]
              obtain ⟨g7, hq⟩ : ∃ u, u = wd.heap.size := ⟨_, rfl⟩
              rw [← hq] at n ⊢
              clear hq
              generalize wd.alloc (.cells #[.int .i64 0, .string ⟨#[]⟩, .int .i64 0, .int .i64 0, .slice none 0 0] 24) = wd at *
              refine hK.out _ _ ?_ (fun hH2 => ?_)
              · exact ⟨n.kx.cell 0, n.kx.cell 1, n.kx.cell 2, n.kx.cell 3, n.kx.cell 4, n.ky.cell 0, n.ky.cell 1, n.ky.cell 2, n.ky.cell 3, n.ky.cell 4⟩
              clear hHeld hK K; have hHeld := hH2; clear hH2; try go_frame
              refine hyO (some 8) 9 rfl (fun K hK => ?_)
              go_simp
              replace n := n.mk8 #[.int .i64 0, .string ⟨#[]⟩, .int .i64 0, .int .i64 0, .slice none 0 0]
              obtain ⟨g8, hq⟩ : ∃ u, u = wd.heap.size := ⟨_, rfl⟩
              rw [← hq] at n ⊢
              clear hq
              generalize wd.alloc (.cells #[.int .i64 0, .string ⟨#[]⟩, .int .i64 0, .int .i64 0, .slice none 0 0] 24) = wd at *
              refine hK.out _ _ ?_ (fun hH2 => ?_)
              · exact ⟨n.kx.cell 0, n.kx.cell 1, n.kx.cell 2, n.kx.cell 3, n.kx.cell 4, n.ky.cell 0, n.ky.cell 1, n.ky.cell 2, n.ky.cell 3, n.ky.cell 4⟩
              clear hHeld hK K; have hHeld := hH2; clear hH2; try go_frame
              refine hyO none 10 rfl (fun K hK => ?_)
              obtain ⟨⟨c0, c1, c2, c3, c4⟩, f0, f1, f2, f3, f4⟩ := n.h7.old
              go_simp
              clear c0 c1 c2 c3 c4 f0 f1 f2 f3 f4
              replace n := n.set7 (.int .i64 6) (.string ⟨#[]⟩) (.int .i64 0) (.int .i64 0) (.slice (some ⟨gA, 0, none⟩) 2 2)
              generalize (((((wd.setCell ⟨g7, 0, none⟩ (.int .i64 6)).setCell ⟨g7, 1, none⟩ (.string ⟨#[]⟩)).setCell ⟨g7, 2, none⟩ (.int .i64 0)).setCell ⟨g7, 3, none⟩ (.int .i64 0)).setCell ⟨g7, 4, none⟩ (.slice (some ⟨gA, 0, none⟩) 2 2)) = wd at *
              refine hK.out _ _ ?_ (fun hH2 => ?_)
              · exact ⟨n.kx.cell 0, n.kx.cell 1, n.kx.cell 2, n.kx.cell 3, n.kx.cell 4, n.ky.cell 0, n.ky.cell 1, n.ky.cell 2, n.ky.cell 3, n.ky.cell 4⟩
              clear hHeld hK K; have hHeld := hH2; clear hH2; try go_frame
              refine hyO none 11 rfl (fun K hK => ?_)
              obtain ⟨⟨c0, c1, c2, c3, c4⟩, f0, f1, f2, f3, f4⟩ := n.h8.old
              go_simp
              clear c0 c1 c2 c3 c4 f0 f1 f2 f3 f4
              replace n := n.set8 (.int .i64 7) (.string ⟨#[]⟩) (.int .i64 0) (.int .i64 0) (.slice (some ⟨gB, 0, none⟩) 2 2)
              generalize (((((wd.setCell ⟨g8, 0, none⟩ (.int .i64 7)).setCell ⟨g8, 1, none⟩ (.string ⟨#[]⟩)).setCell ⟨g8, 2, none⟩ (.int .i64 0)).setCell ⟨g8, 3, none⟩ (.int .i64 0)).setCell ⟨g8, 4, none⟩ (.slice (some ⟨gB, 0, none⟩) 2 2)) = wd at *
              refine hK.out _ _ ?_ (fun hH2 => ?_)
              · exact ⟨n.kx.cell 0, n.kx.cell 1, n.kx.cell 2, n.kx.cell 3, n.kx.cell 4, n.ky.cell 0, n.ky.cell 1, n.ky.cell 2, n.ky.cell 3, n.ky.cell 4⟩
              clear hHeld hK K; have hHeld := hH2; clear hH2; try go_frame
              refine wpAnyH_done (by kernel_rfl) ?_ _
              go_wp2_with fail
              go_meet
              exact ⟨g7, g8, gA, gB, rfl, rfl, n.done⟩
            · go_simp
              replace n := n.mk8 #[.int .i64 0, .string ⟨#[]⟩, .int .i64 0, .int .i64 0, .slice none 0 0]
              obtain ⟨g8, hq⟩ : ∃ u, u = wd.heap.size := ⟨_, rfl⟩
              rw [← hq] at n ⊢
              clear hq
              generalize wd.alloc (.cells #[.int .i64 0, .string ⟨#[]⟩, .int .i64 0, .int .i64 0, .slice none 0 0] 24) = wd at *
              refine hK.out _ _ ?_ (fun hH2 => ?_)
              · exact ⟨n.kx.cell 0, n.kx.cell 1, n.kx.cell 2, n.kx.cell 3, n.kx.cell 4, n.ky.cell 0, n.ky.cell 1, n.ky.cell 2, n.ky.cell 3, n.ky.cell 4⟩
              clear hHeld hK K; have hHeld := hH2; clear hH2; try go_frame
              refine hyO (some 7) 8 rfl (fun K hK => ?_)
              go_simp
              replace n := n.mk7 #[.int .i64 0, .string ⟨#[]⟩, .int .i64 0, .int .i64 0, .slice none 0 0]
              obtain ⟨g7, hq⟩ : ∃ u, u = wd.heap.size := ⟨_, rfl⟩
              rw [← hq] at n ⊢
              clear hq
              generalize wd.alloc (.cells #[.int .i64 0, .string ⟨#[]⟩, .int .i64 0, .int .i64 0, .slice none 0 0] 24) = wd at *
              refine hK.out _ _ ?_ (fun hH2 => ?_)
              · exact ⟨n.kx.cell 0, n.kx.cell 1, n.kx.cell 2, n.kx.cell 3, n.kx.cell 4, n.ky.cell 0, n.ky.cell 1, n.ky.cell 2, n.ky.cell 3, n.ky.cell 4⟩
              clear hHeld hK K; have hHeld := hH2; clear hH2; try go_frame
              refine hyO none 10 rfl (fun K hK => ?_)
              obtain ⟨⟨c0, c1, c2, c3, c4⟩, f0, f1, f2, f3, f4⟩ := n.h7.old
              go_simp
              clear c0 c1 c2 c3 c4 f0 f1 f2 f3 f4
              replace n := n.set7 (.int .i64 6) (.string ⟨#[]⟩) (.int .i64 0) (.int .i64 0) (.slice (some ⟨gA, 0, none⟩) 2 2)
              generalize (((((wd.setCell ⟨g7, 0, none⟩ (.int .i64 6)).setCell ⟨g7, 1, none⟩ (.string ⟨#[]⟩)).setCell ⟨g7, 2, none⟩ (.int .i64 0)).setCell ⟨g7, 3, none⟩ (.int .i64 0)).setCell ⟨g7, 4, none⟩ (.slice (some ⟨gA, 0, none⟩) 2 2)) = wd at *
              refine hK.out _ _ ?_ (fun hH2 => ?_)
              · exact ⟨n.kx.cell 0, n.kx.cell 1, n.kx.cell 2, n.kx.cell 3, n.kx.cell 4, n.ky.cell 0, n.ky.cell 1, n.ky.cell 2, n.ky.cell 3, n.ky.cell 4⟩
              clear hHeld hK K; have hHeld := hH2; clear hH2; try go_frame
              refine hyO none 11 rfl (fun K hK => ?_)
              obtain ⟨⟨c0, c1, c2, c3, c4⟩, f0, f1, f2, f3, f4⟩ := n.h8.old
              go_simp
              clear c0 c1 c2 c3 c4 f0 f1 f2 f3 f4
              replace n := n.set8 (.int .i64 7) (.string ⟨#[]⟩) (.int .i64 0) (.int .i64 0) (.slice (some ⟨gB, 0, none⟩) 2 2)
              generalize (((((wd.setCell ⟨g8, 0, none⟩ (.int .i64 7)).setCell ⟨g8, 1, none⟩ (.string ⟨#[]⟩)).setCell ⟨g8, 2, none⟩ (.int .i64 0)).setCell ⟨g8, 3, none⟩ (.int .i64 0)).setCell ⟨g8, 4, none⟩ (.slice (some ⟨gB, 0, none⟩) 2 2)) = wd at *
              refine hK.out _ _ ?_ (fun hH2 => ?_)
              · exact ⟨n.kx.cell 0, n.kx.cell 1, n.kx.cell 2, n.kx.cell 3, n.kx.cell 4, n.ky.cell 0, n.ky.cell 1, n.ky.cell 2, n.ky.cell 3, n.ky.cell 4⟩
              clear hHeld hK K; have hHeld := hH2; clear hH2; try go_frame
              refine wpAnyH_done (by kernel_rfl) ?_ _
              go_wp2_with fail
              go_meet
              exact ⟨g7, g8, gA, gB, rfl, rfl, n.done⟩
          · go_simp
            replace n := n.mk7 #[.int .i64 0, .string ⟨#[]⟩, .int .i64 0, .int .i64 0, .slice none 0 0]
            obtain ⟨g7, hq⟩ : ∃ u, u = wd.heap.size := ⟨_, rfl⟩
            rw [← hq] at n ⊢
            clear hq
            generalize wd.alloc (.cells #[.int .i64 0, .string ⟨#[]⟩, .int .i64 0, .int .i64 0, .slice none 0 0] 24) = wd at *
            refine hK.out _ _ ?_ (fun hH2 => ?_)
            · exact ⟨n.kx.cell 0, n.kx.cell 1, n.kx.cell 2, n.kx.cell 3, n.kx.cell 4, n.ky.cell 0, n.ky.cell 1, n.ky.cell 2, n.ky.cell 3, n.ky.cell 4⟩
            clear hHeld hK K; have hHeld := hH2; clear hH2; try go_frame
            refine held_two (o := ⟨some 26, _, _, _, _, _⟩) (p := ⟨some 8, _, _, _, _, _⟩) 6 9 (by kernel_rfl) rfl rfl (by rfl) (by rfl) (fun K hK => ?_) (fun K hK => ?_)
            · go_simp
              replace n := n.mkB #[.int .i64 x0, .string xs, .int .i64 x2, .int .i64 x3, .slice xA xn xz, .int .i64 y0, .string ys, .int .i64 y2, .int .i64 y3, .slice yA yn yz]
              obtain ⟨gB, hq⟩ : ∃ u, u = wd.heap.size := ⟨_, rfl⟩
              rw [← hq] at n ⊢
              clear hq
              generalize wd.alloc (.cells #[.int .i64 x0, .string xs, .int .i64 x2, .int .i64 x3, .slice xA xn xz, .int .i64 y0, .string ys, .int .i64 y2, .int .i64 y3, .slice yA yn yz] 24) = wd at *
              refine hK.out _ _ ?_ (fun hH2 => ?_)
              · exact ⟨n.kx.cell 0, n.kx.cell 1, n.kx.cell 2, n.kx.cell 3, n.kx.cell 4, n.ky.cell 0, n.ky.cell 1, n.ky.cell 2, n.ky.cell 3, n.ky.cell 4⟩
              clear hHeld hK K; have hHeld := hH2; clear hH2; try go_frame
              refine hyY (some 27) 7 rfl hHeld ?_; go_frame
              refine hyO (some 8) 9 rfl (fun K hK => ?_)
              go_simp
              replace n := n.mk8 #[.int .i64 0, .string ⟨#[]⟩, .int .i64 0, .int .i64 0, .slice none 0 0]
              obtain ⟨g8, hq⟩ : ∃ u, u = wd.heap.size := ⟨_, rfl⟩
              rw [← hq] at n ⊢
              clear hq
              generalize wd.alloc (.cells #[.int .i64 0, .string ⟨#[]⟩, .int .i64 0, .int .i64 0, .slice none 0 0] 24) = wd at *
              refine hK.out _ _ ?_ (fun hH2 => ?_)
              · exact ⟨n.kx.cell 0, n.kx.cell 1, n.kx.cell 2, n.kx.cell 3, n.kx.cell 4, n.ky.cell 0, n.ky.cell 1, n.ky.cell 2, n.ky.cell 3, n.ky.cell 4⟩
              clear hHeld hK K; have hHeld := hH2; clear hH2; try go_frame
              refine hyO none 10 rfl (fun K hK => ?_)
              obtain ⟨⟨c0, c1, c2, c3, c4⟩, f0, f1, f2, f3, f4⟩ := n.h7.old
              go_simp
              clear c0 c1 c2 c3 c4 f0 f1 f2 f3 f4
              replace n := n.set7 (.int .i64 6) (.string ⟨#[]⟩) (.int .i64 0) (.int .i64 0) (.slice (some ⟨gA, 0, none⟩) 2 2)
              generalize (((((wd.setCell ⟨g7, 0, none⟩ (.int .i64 6)).setCell ⟨g7, 1, none⟩ (.string ⟨#[]⟩)).setCell ⟨g7, 2, none⟩ (.int .i64 0)).setCell ⟨g7, 3, none⟩ (.int .i64 0)).setCell ⟨g7, 4, none⟩ (.slice (some ⟨gA, 0, none⟩) 2 2)) = wd at *
              refine hK.out _ _ ?_ (fun hH2 => ?_)
              · exact ⟨n.kx.cell 0, n.kx.cell 1, n.kx.cell 2, n.kx.cell 3, n.kx.cell 4, n.ky.cell 0, n.ky.cell 1, n.ky.cell 2, n.ky.cell 3, n.ky.cell 4⟩
              clear hHeld hK K; have hHeld := hH2; clear hH2; try go_frame
              refine hyO none 11 rfl (fun K hK => ?_)
              obtain ⟨⟨c0, c1, c2, c3, c4⟩, f0, f1, f2, f3, f4⟩ := n.h8.old
              go_simp
              clear c0 c1 c2 c3 c4 f0 f1 f2 f3 f4
              replace n := n.set8 (.int .i64 7) (.string ⟨#[]⟩) (.int .i64 0) (.int .i64 0) (.slice (some ⟨gB, 0, none⟩) 2 2)
              generalize (((((wd.setCell ⟨g8, 0, none⟩ (.int .i64 7)).setCell ⟨g8, 1, none⟩ (.string ⟨#[]⟩)).setCell ⟨g8, 2, none⟩ (.int .i64 0)).setCell ⟨g8, 3, none⟩ (.int .i64 0)).setCell ⟨g8, 4, none⟩ (.slice (some ⟨gB, 0, none⟩) 2 2)) = wd at *
              refine hK.out _ _ ?_ (fun hH2 => ?_)
              · exact ⟨n.kx.cell 0, n.kx.cell 1, n.kx.cell 2, n.kx.cell 3, n.kx.cell 4, n.ky.cell 0, n.ky.cell 1, n.ky.cell 2, n.ky.cell 3, n.ky.cell 4⟩
              clear hHeld hK K; have hHeld := hH2; clear hH2; try go_frame
              refine wpAnyH_done (by kernel_rfl) ?_ _
              go_wp2_with fail
              go_meet
              exact ⟨g7, g8, gA, gB, rfl, rfl, n.done⟩
            · go_simp
              replace n := n.mk8 #[.int .i64 0, .string ⟨#[]⟩, .int .i64 0, .int .i64 0, .slice none 0 0]
              obtain ⟨g8, hq⟩ : ∃ u, u = wd.heap.size := ⟨_, rfl⟩
              rw [← hq] at n ⊢
              clear hq
              generalize wd.alloc (.cells #[.int .i64 0, .string ⟨#[]⟩, .int .i64 0, .int .i64 0, .slice none 0 0] 24) = wd at *
              refine hK.out _ _ ?_ (fun hH2 => ?_)
              · exact ⟨n.kx.cell 0, n.kx.cell 1, n.kx.cell 2, n.kx.cell 3, n.kx.cell 4, n.ky.cell 0, n.ky.cell 1, n.ky.cell 2, n.ky.cell 3, n.ky.cell 4⟩
              clear hHeld hK K; have hHeld := hH2; clear hH2; try go_frame
              refine held_two (o := ⟨some 26, _, _, _, _, _⟩) (p := ⟨none, _, _, _, _, _⟩) 6 10 (by kernel_rfl) rfl rfl (by rfl) (by rfl) (fun K hK => ?_) (fun K hK => ?_)
              · go_simp
                replace n := n.mkB #[.int .i64 x0, .string xs, .int .i64 x2, .int .i64 x3, .slice xA xn xz, .int .i64 y0, .string ys, .int .i64 y2, .int .i64 y3, .slice yA yn yz]
                obtain ⟨gB, hq⟩ : ∃ u, u = wd.heap.size := ⟨_, rfl⟩
                rw [← hq] at n ⊢
                clear hq
                generalize wd.alloc (.cells #[.int .i64 x0, .string xs, .int .i64 x2, .int .i64 x3, .slice xA xn xz, .int .i64 y0, .string ys, .int .i64 y2, .int .i64 y3, .slice yA yn yz] 24) = wd at *
                refine hK.out _ _ ?_ (fun hH2 => ?_)
                · exact ⟨n.kx.cell 0, n.kx.cell 1, n.kx.cell 2, n.kx.cell 3, n.kx.cell 4, n.ky.cell 0, n.ky.cell 1, n.ky.cell 2, n.ky.cell 3, n.ky.cell 4⟩
                clear hHeld hK K; have hHeld := hH2; clear hH2; try go_frame
                refine hyY (some 27) 7 rfl hHeld ?_; go_frame
                refine hyO none 10 rfl (fun K hK => ?_)
                obtain ⟨⟨c0, c1, c2, c3, c4⟩, f0, f1, f2, f3, f4⟩ := n.h7.old
                go_simp
                clear c0 c1 c2 c3 c4 f0 f1 f2 f3 f4
                replace n := n.set7 (.int .i64 6) (.string ⟨#[]⟩) (.int .i64 0) (.int .i64 0) (.slice (some ⟨gA, 0, none⟩) 2 2)
                generalize (((((wd.setCell ⟨g7, 0, none⟩ (.int .i64 6)).setCell ⟨g7, 1, none⟩ (.string ⟨#[]⟩)).setCell ⟨g7, 2, none⟩ (.int .i64 0)).setCell ⟨g7, 3, none⟩ (.int .i64 0)).setCell ⟨g7, 4, none⟩ (.slice (some ⟨gA, 0, none⟩) 2 2)) = wd at *
                refine hK.out _ _ ?_ (fun hH2 => ?_)
                · exact ⟨n.kx.cell 0, n.kx.cell 1, n.kx.cell 2, n.kx.cell 3, n.kx.cell 4, n.ky.cell 0, n.ky.cell 1, n.ky.cell 2, n.ky.cell 3, n.ky.cell 4⟩
                clear hHeld hK K; have hHeld := hH2; clear hH2; try go_frame
                refine hyO none 11 rfl (fun K hK => ?_)
                obtain ⟨⟨c0, c1, c2, c3, c4⟩, f0, f1, f2, f3, f4⟩ := n.h8.old
                go_simp
                clear c0 c1 c2 c3 c4 f0 f1 f2 f3 f4
                replace n := n.set8 (.int .i64 7) (.string ⟨#[]⟩) (.int .i64 0) (.int .i64 0) (.slice (some ⟨gB, 0, none⟩) 2 2)
                generalize (((((wd.setCell ⟨g8, 0, none⟩ (.int .i64 7)).setCell ⟨g8, 1, none⟩ (.string ⟨#[]⟩)).setCell ⟨g8, 2, none⟩ (.int .i64 0)).setCell ⟨g8, 3, none⟩ (.int .i64 0)).setCell ⟨g8, 4, none⟩ (.slice (some ⟨gB, 0, none⟩) 2 2)) = wd at *
                refine hK.out _ _ ?_ (fun hH2 => ?_)
                · exact ⟨n.kx.cell 0, n.kx.cell 1, n.kx.cell 2, n.kx.cell 3, n.kx.cell 4, n.ky.cell 0, n.ky.cell 1, n.ky.cell 2, n.ky.cell 3, n.ky.cell 4⟩
                clear hHeld hK K; have hHeld := hH2; clear hH2; try go_frame
                refine wpAnyH_done (by kernel_rfl) ?_ _
                go_wp2_with fail
                go_meet
                exact ⟨g7, g8, gA, gB, rfl, rfl, n.done⟩
              · obtain ⟨⟨c0, c1, c2, c3, c4⟩, f0, f1, f2, f3, f4⟩ := n.h7.old
                go_simp
                clear c0 c1 c2 c3 c4 f0 f1 f2 f3 f4
                replace n := n.set7 (.int .i64 6) (.string ⟨#[]⟩) (.int .i64 0) (.int .i64 0) (.slice (some ⟨gA, 0, none⟩) 2 2)
                generalize (((((wd.setCell ⟨g7, 0, none⟩ (.int .i64 6)).setCell ⟨g7, 1, none⟩ (.string ⟨#[]⟩)).setCell ⟨g7, 2, none⟩ (.int .i64 0)).setCell ⟨g7, 3, none⟩ (.int .i64 0)).setCell ⟨g7, 4, none⟩ (.slice (some ⟨gA, 0, none⟩) 2 2)) = wd at *
                refine hK.out _ _ ?_ (fun hH2 => ?_)
                · exact ⟨n.kx.cell 0, n.kx.cell 1, n.kx.cell 2, n.kx.cell 3, n.kx.cell 4, n.ky.cell 0, n.ky.cell 1, n.ky.cell 2, n.ky.cell 3, n.ky.cell 4⟩
                clear hHeld hK K; have hHeld := hH2; clear hH2; try go_frame
                refine hyO (some 26) 6 rfl (fun K hK => ?_)
                go_simp
                replace n := n.mkB #[.int .i64 x0, .string xs, .int .i64 x2, .int .i64 x3, .slice xA xn xz, .int .i64 y0, .string ys, .int .i64 y2, .int .i64 y3, .slice yA yn yz]
                obtain ⟨gB, hq⟩ : ∃ u, u = wd.heap.size := ⟨_, rfl⟩
                rw [← hq] at n ⊢
                clear hq
                generalize wd.alloc (.cells #[.int .i64 x0, .string xs, .int .i64 x2, .int .i64 x3, .slice xA xn xz, .int .i64 y0, .string ys, .int .i64 y2, .int .i64 y3, .slice yA yn yz] 24) = wd at *
                refine hK.out _ _ ?_ (fun hH2 => ?_)
                · exact ⟨n.kx.cell 0, n.kx.cell 1, n.kx.cell 2, n.kx.cell 3, n.kx.cell 4, n.ky.cell 0, n.ky.cell 1, n.ky.cell 2, n.ky.cell 3, n.ky.cell 4⟩
                clear hHeld hK K; have hHeld := hH2; clear hH2; try go_frame
                refine hyY (some 27) 7 rfl hHeld ?_; go_frame
                refine hyO none 11 rfl (fun K hK => ?_)
                obtain ⟨⟨c0, c1, c2, c3, c4⟩, f0, f1, f2, f3, f4⟩ := n.h8.old
                go_simp
                clear c0 c1 c2 c3 c4 f0 f1 f2 f3 f4
                replace n := n.set8 (.int .i64 7) (.string ⟨#[]⟩) (.int .i64 0) (.int .i64 0) (.slice (some ⟨gB, 0, none⟩) 2 2)
                generalize (((((wd.setCell ⟨g8, 0, none⟩ (.int .i64 7)).setCell ⟨g8, 1, none⟩ (.string ⟨#[]⟩)).setCell ⟨g8, 2, none⟩ (.int .i64 0)).setCell ⟨g8, 3, none⟩ (.int .i64 0)).setCell ⟨g8, 4, none⟩ (.slice (some ⟨gB, 0, none⟩) 2 2)) = wd at *
                refine hK.out _ _ ?_ (fun hH2 => ?_)
                · exact ⟨n.kx.cell 0, n.kx.cell 1, n.kx.cell 2, n.kx.cell 3, n.kx.cell 4, n.ky.cell 0, n.ky.cell 1, n.ky.cell 2, n.ky.cell 3, n.ky.cell 4⟩
                clear hHeld hK K; have hHeld := hH2; clear hH2; try go_frame
                refine wpAnyH_done (by kernel_rfl) ?_ _
                go_wp2_with fail
                go_meet
                exact ⟨g7, g8, gA, gB, rfl, rfl, n.done⟩
          · go_simp
            replace n := n.mk8 #[.int .i64 0, .string ⟨#[]⟩, .int .i64 0, .int .i64 0, .slice none 0 0]
            obtain ⟨g8, hq⟩ : ∃ u, u = wd.heap.size := ⟨_, rfl⟩
            rw [← hq] at n ⊢
            clear hq
            generalize wd.alloc (.cells #[.int .i64 0, .string ⟨#[]⟩, .int .i64 0, .int .i64 0, .slice none 0 0] 24) = wd at *
            refine hK.out _ _ ?_ (fun hH2 => ?_)
            · exact ⟨n.kx.cell 0, n.kx.cell 1, n.kx.cell 2, n.kx.cell 3, n.kx.cell 4, n.ky.cell 0, n.ky.cell 1, n.ky.cell 2, n.ky.cell 3, n.ky.cell 4⟩
            clear hHeld hK K; have hHeld := hH2; clear hH2; try go_frame
            refine held_two (o := ⟨some 26, _, _, _, _, _⟩) (p := ⟨some 7, _, _, _, _, _⟩) 6 8 (by kernel_rfl) rfl rfl (by rfl) (by rfl) (fun K hK => ?_) (fun K hK => ?_)
            · go_simp
              replace n := n.mkB #[.int .i64 x0, .string xs, .int .i64 x2, .int .i64 x3, .slice xA xn xz, .int .i64 y0, .string ys, .int .i64 y2, .int .i64 y3, .slice yA yn yz]
              obtain ⟨gB, hq⟩ : ∃ u, u = wd.heap.size := ⟨_, rfl⟩
              rw [← hq] at n ⊢
              clear hq
              generalize wd.alloc (.cells #[.int .i64 x0, .string xs, .int .i64 x2, .int .i64 x3, .slice xA xn xz, .int .i64 y0, .string ys, .int .i64 y2, .int .i64 y3, .slice yA yn yz] 24) = wd at *
              refine hK.out _ _ ?_ (fun hH2 => ?_)
              · exact ⟨n.kx.cell 0, n.kx.cell 1, n.kx.cell 2, n.kx.cell 3, n.kx.cell 4, n.ky.cell 0, n.ky.cell 1, n.ky.cell 2, n.ky.cell 3, n.ky.cell 4⟩
              clear hHeld hK K; have hHeld := hH2; clear hH2; try go_frame
              refine hyY (some 27) 7 rfl hHeld ?_; go_frame
              refine hyO (some 7) 8 rfl (fun K hK => ?_)
              go_simp
              replace n := n.mk7 #[.int .i64 0, .string ⟨#[]⟩, .int .i64 0, .int .i64 0, .slice none 0 0]
              obtain ⟨g7, hq⟩ : ∃ u, u = wd.heap.size := ⟨_, rfl⟩
              rw [← hq] at n ⊢
              clear hq
              generalize wd.alloc (.cells #[.int .i64 0, .string ⟨#[]⟩, .int .i64 0, .int .i64 0, .slice none 0 0] 24) = wd at *
              refine hK.out _ _ ?_ (fun hH2 => ?_)
              · exact ⟨n.kx.cell 0, n.kx.cell 1, n.kx.cell 2, n.kx.cell 3, n.kx.cell 4, n.ky.cell 0, n.ky.cell 1, n.ky.cell 2, n.ky.cell 3, n.ky.cell 4⟩
              clear hHeld hK K; have hHeld := hH2; clear hH2; try go_frame
              refine hyO none 10 rfl (fun K hK => ?_)
              obtain ⟨⟨c0, c1, c2, c3, c4⟩, f0, f1, f2, f3, f4⟩ := n.h7.old
              go_simp
              clear c0 c1 c2 c3 c4 f0 f1 f2 f3 f4
              replace n := n.set7 (.int .i64 6) (.string ⟨#[]⟩) (.int .i64 0) (.int .i64 0) (.slice (some ⟨gA, 0, none⟩) 2 2)
              generalize (((((wd.setCell ⟨g7, 0, none⟩ (.int .i64 6)).setCell ⟨g7, 1, none⟩ (.string ⟨#[]⟩)).setCell ⟨g7, 2, none⟩ (.int .i64 0)).setCell ⟨g7, 3, none⟩ (.int .i64 0)).setCell ⟨g7, 4, none⟩ (.slice (some ⟨gA, 0, none⟩) 2 2)) = wd at *
              refine hK.out _ _ ?_ (fun hH2 => ?_)
              · exact ⟨n.kx.cell 0, n.kx.cell 1, n.kx.cell 2, n.kx.cell 3, n.kx.cell 4, n.ky.cell 0, n.ky.cell 1, n.ky.cell 2, n.ky.cell 3, n.ky.cell 4⟩
              clear hHeld hK K; have hHeld := hH2; clear hH2; try go_frame
              refine hyO none 11 rfl (fun K hK => ?_)
              obtain ⟨⟨c0, c1, c2, c3, c4⟩, f0, f1, f2, f3, f4⟩ := n.h8.old
              go_simp
              clear c0 c1 c2 c3 c4 f0 f1 f2 f3 f4
              replace n := n.set8 (.int .i64 7) (.string ⟨#[]⟩) (.int .i64 0) (.int .i64 0) (.slice (some ⟨gB, 0, none⟩) 2 2)
              generalize (((((wd.setCell ⟨g8, 0, none⟩ (.int .i64 7)).setCell ⟨g8, 1, none⟩ (.string ⟨#[]⟩)).setCell ⟨g8, 2, none⟩ (.int .i64 0)).setCell ⟨g8, 3, none⟩ (.int .i64 0)).setCell ⟨g8, 4, none⟩ (.slice (some ⟨gB, 0, none⟩) 2 2)) = wd at *
              refine hK.out _ _ ?_ (fun hH2 => ?_)
              · exact ⟨n.kx.cell 0, n.kx.cell 1, n.kx.cell 2, n.kx.cell 3, n.kx.cell 4, n.ky.cell 0, n.ky.cell 1, n.ky.cell 2, n.ky.cell 3, n.ky.cell 4⟩
              clear hHeld hK K; have hHeld := hH2; clear hH2; try go_frame
              refine wpAnyH_done (by kernel_rfl) ?_ _
              go_wp2_with fail
              go_meet
              exact ⟨g7, g8, gA, gB, rfl, rfl, n.done⟩
            · go_simp
              replace n := n.mk7 #[.int .i64 0, .string ⟨#[]⟩, .int .i64 0, .int .i64 0, .slice none 0 0]
              obtain ⟨g7, hq⟩ : ∃ u, u = wd.heap.size := ⟨_, rfl⟩
              rw [← hq] at n ⊢
              clear hq
              generalize wd.alloc (.cells #[.int .i64 0, .string ⟨#[]⟩, .int .i64 0, .int .i64 0, .slice none 0 0] 24) = wd at *
              refine hK.out _ _ ?_ (fun hH2 => ?_)
              · exact ⟨n.kx.cell 0, n.kx.cell 1, n.kx.cell 2, n.kx.cell 3, n.kx.cell 4, n.ky.cell 0, n.ky.cell 1, n.ky.cell 2, n.ky.cell 3, n.ky.cell 4⟩
              clear hHeld hK K; have hHeld := hH2; clear hH2; try go_frame
              refine held_two (o := ⟨some 26, _, _, _, _, _⟩) (p := ⟨none, _, _, _, _, _⟩) 6 10 (by kernel_rfl) rfl rfl (by rfl) (by rfl) (fun K hK => ?_) (fun K hK => ?_)
              · go_simp
                replace n := n.mkB #[.int .i64 x0, .string xs, .int .i64 x2, .int .i64 x3, .slice xA xn xz, .int .i64 y0, .string ys, .int .i64 y2, .int .i64 y3, .slice yA yn yz]
                obtain ⟨gB, hq⟩ : ∃ u, u = wd.heap.size := ⟨_, rfl⟩
                rw [← hq] at n ⊢
                clear hq
                generalize wd.alloc (.cells #[.int .i64 x0, .string xs, .int .i64 x2, .int .i64 x3, .slice xA xn xz, .int .i64 y0, .string ys, .int .i64 y2, .int .i64 y3, .slice yA yn yz] 24) = wd at *
                refine hK.out _ _ ?_ (fun hH2 => ?_)
                · exact ⟨n.kx.cell 0, n.kx.cell 1, n.kx.cell 2, n.kx.cell 3, n.kx.cell 4, n.ky.cell 0, n.ky.cell 1, n.ky.cell 2, n.ky.cell 3, n.ky.cell 4⟩
                clear hHeld hK K; have hHeld := hH2; clear hH2; try go_frame
                refine hyY (some 27) 7 rfl hHeld ?_; go_frame
                refine hyO none 10 rfl (fun K hK => ?_)
                obtain ⟨⟨c0, c1, c2, c3, c4⟩, f0, f1, f2, f3, f4⟩ := n.h7.old
                go_simp
                clear c0 c1 c2 c3 c4 f0 f1 f2 f3 f4
                replace n := n.set7 (.int .i64 6) (.string ⟨#[]⟩) (.int .i64 0) (.int .i64 0) (.slice (some ⟨gA, 0, none⟩) 2 2)
                generalize (((((wd.setCell ⟨g7, 0, none⟩ (.int .i64 6)).setCell ⟨g7, 1, none⟩ (.string ⟨#[]⟩)).setCell ⟨g7, 2, none⟩ (.int .i64 0)).setCell ⟨g7, 3, none⟩ (.int .i64 0)).setCell ⟨g7, 4, none⟩ (.slice (some ⟨gA, 0, none⟩) 2 2)) = wd at *
                refine hK.out _ _ ?_ (fun hH2 => ?_)
                · exact ⟨n.kx.cell 0, n.kx.cell 1, n.kx.cell 2, n.kx.cell 3, n.kx.cell 4, n.ky.cell 0, n.ky.cell 1, n.ky.cell 2, n.ky.cell 3, n.ky.cell 4⟩
                clear hHeld hK K; have hHeld := hH2; clear hH2; try go_frame
                refine hyO none 11 rfl (fun K hK => ?_)
                obtain ⟨⟨c0, c1, c2, c3, c4⟩, f0, f1, f2, f3, f4⟩ := n.h8.old
                go_simp
                clear c0 c1 c2 c3 c4 f0 f1 f2 f3 f4
                replace n := n.set8 (.int .i64 7) (.string ⟨#[]⟩) (.int .i64 0) (.int .i64 0) (.slice (some ⟨gB, 0, none⟩) 2 2)
                generalize (((((wd.setCell ⟨g8, 0, none⟩ (.int .i64 7)).setCell ⟨g8, 1, none⟩ (.string ⟨#[]⟩)).setCell ⟨g8, 2, none⟩ (.int .i64 0)).setCell ⟨g8, 3, none⟩ (.int .i64 0)).setCell ⟨g8, 4, none⟩ (.slice (some ⟨gB, 0, none⟩) 2 2)) = wd at *
                refine hK.out _ _ ?_ (fun hH2 => ?_)
                · exact ⟨n.kx.cell 0, n.kx.cell 1, n.kx.cell 2, n.kx.cell 3, n.kx.cell 4, n.ky.cell 0, n.ky.cell 1, n.ky.cell 2, n.ky.cell 3, n.ky.cell 4⟩
                clear hHeld hK K; have hHeld := hH2; clear hH2; try go_frame
                refine wpAnyH_done (by kernel_rfl) ?_ _
                go_wp2_with fail
                go_meet
                exact ⟨g7, g8, gA, gB, rfl, rfl, n.done⟩
              · obtain ⟨⟨c0, c1, c2, c3, c4⟩, f0, f1, f2, f3, f4⟩ := n.h7.old
                go_simp
                clear c0 c1 c2 c3 c4 f0 f1 f2 f3 f4
                replace n := n.set7 (.int .i64 6) (.string ⟨#[]⟩) (.int .i64 0) (.int .i64 0) (.slice (some ⟨gA, 0, none⟩) 2 2)
                generalize (((((wd.setCell ⟨g7, 0, none⟩ (.int .i64 6)).setCell ⟨g7, 1, none⟩ (.string ⟨#[]⟩)).setCell ⟨g7, 2, none⟩ (.int .i64 0)).setCell ⟨g7, 3, none⟩ (.int .i64 0)).setCell ⟨g7, 4, none⟩ (.slice (some ⟨gA, 0, none⟩) 2 2)) = wd at *
                refine hK.out _ _ ?_ (fun hH2 => ?_)
                · exact ⟨n.kx.cell 0, n.kx.cell 1, n.kx.cell 2, n.kx.cell 3, n.kx.cell 4, n.ky.cell 0, n.ky.cell 1, n.ky.cell 2, n.ky.cell 3, n.ky.cell 4⟩
                clear hHeld hK K; have hHeld := hH2; clear hH2; try go_frame
                refine hyO (some 26) 6 rfl (fun K hK => ?_)
                go_simp
                replace n := n.mkB #[.int .i64 x0, .string xs, .int .i64 x2, .int .i64 x3, .slice xA xn xz, .int .i64 y0, .string ys, .int .i64 y2, .int .i64 y3, .slice yA yn yz]
                obtain ⟨gB, hq⟩ : ∃ u, u = wd.heap.size := ⟨_, rfl⟩
                rw [← hq] at n ⊢
                clear hq
                generalize wd.alloc (.cells #[.int .i64 x0, .string xs, .int .i64 x2, .int .i64 x3, .slice xA xn xz, .int .i64 y0, .string ys, .int .i64 y2, .int .i64 y3, .slice yA yn yz] 24) = wd at *
                refine hK.out _ _ ?_ (fun hH2 => ?_)
                · exact ⟨n.kx.cell 0, n.kx.cell 1, n.kx.cell 2, n.kx.cell 3, n.kx.cell 4, n.ky.cell 0, n.ky.cell 1, n.ky.cell 2, n.ky.cell 3, n.ky.cell 4⟩
                clear hHeld hK K; have hHeld := hH2; clear hH2; try go_frame
                refine hyY (some 27) 7 rfl hHeld ?_; go_frame
                refine hyO none 11 rfl (fun K hK => ?_)
                obtain ⟨⟨c0, c1, c2, c3, c4⟩, f0, f1, f2, f3, f4⟩ := n.h8.old
                go_simp
                clear c0 c1 c2 c3 c4 f0 f1 f2 f3 f4
                replace n := n.set8 (.int .i64 7) (.string ⟨#[]⟩) (.int .i64 0) (.int .i64 0) (.slice (some ⟨gB, 0, none⟩) 2 2)
                generalize (((((wd.setCell ⟨g8, 0, none⟩ (.int .i64 7)).setCell ⟨g8, 1, none⟩ (.string ⟨#[]⟩)).setCell ⟨g8, 2, none⟩ (.int .i64 0)).setCell ⟨g8, 3, none⟩ (.int .i64 0)).setCell ⟨g8, 4, none⟩ (.slice (some ⟨gB, 0, none⟩) 2 2)) = wd at *
                refine hK.out _ _ ?_ (fun hH2 => ?_)
                · exact ⟨n.kx.cell 0, n.kx.cell 1, n.kx.cell 2, n.kx.cell 3, n.kx.cell 4, n.ky.cell 0, n.ky.cell 1, n.ky.cell 2, n.ky.cell 3, n.ky.cell 4⟩
                clear hHeld hK K; have hHeld := hH2; clear hH2; try go_frame
                refine wpAnyH_done (by kernel_rfl) ?_ _
                go_wp2_with fail
                go_meet
                exact ⟨g7, g8, gA, gB, rfl, rfl, n.done⟩
        · go_simp
          replace n := n.mkB #[.int .i64 x0, .string xs, .int .i64 x2, .int .i64 x3, .slice xA xn xz, .int .i64 y0, .string ys, .int .i64 y2, .int .i64 y3, .slice yA yn yz]
          obtain ⟨gB, hq⟩ : ∃ u, u = wd.heap.size := ⟨_, rfl⟩
          rw [← hq] at n ⊢
          clear hq
          generalize wd.alloc (.cells #[.int .i64 x0, .string xs, .int .i64 x2, .int .i64 x3, .slice xA xn xz, .int .i64 y0, .string ys, .int .i64 y2, .int .i64 y3, .slice yA yn yz] 24) = wd at *
          refine hK.out _ _ ?_ (fun hH2 => ?_)
          · exact ⟨n.kx.cell 0, n.kx.cell 1, n.kx.cell 2, n.kx.cell 3, n.kx.cell 4, n.ky.cell 0, n.ky.cell 1, n.ky.cell 2, n.ky.cell 3, n.ky.cell 4⟩
          clear hHeld hK K; have hHeld := hH2; clear hH2; try go_frame
          refine hyY (some 27) 7 rfl hHeld ?_; go_frame
          refine held_three (o := ⟨some 22, _, _, _, _, _⟩) (p := ⟨some 7, _, _, _, _, _⟩) (q := ⟨some 8, _, _, _, _, _⟩) 2 8 9 (by kernel_rfl) rfl rfl rfl (by rfl) (by rfl) (by rfl) (fun K hK => ?_) (fun K hK => ?_) (fun K hK => ?_)
          · go_simp
            replace n := n.mkA #[.int .i64 x0, .string xs, .int .i64 x2, .int .i64 x3, .slice xA xn xz, .int .i64 y0, .string ys, .int .i64 y2, .int .i64 y3, .slice yA yn yz]
            obtain ⟨gA, hq⟩ : ∃ u, u = wd.heap.size := ⟨_, rfl⟩
            rw [← hq] at n ⊢
            clear hq
            generalize wd.alloc (.cells #[.int .i64 x0, .string xs, .int .i64 x2, .int .i64 x3, .slice xA xn xz, .int .i64 y0, .string ys, .int .i64 y2, .int .i64 y3, .slice yA yn yz] 24) = wd at *
            refine hK.out _ _ ?_ (fun hH2 => ?_)
            · exact ⟨n.kx.cell 0, n.kx.cell 1, n.kx.cell 2, n.kx.cell 3, n.kx.cell 4, n.ky.cell 0, n.ky.cell 1, n.ky.cell 2, n.ky.cell 3, n.ky.cell 4⟩
            clear hHeld hK K; have hHeld := hH2; clear hH2; try go_frame
            refine hyY (some 23) 3 rfl hHeld ?_; go_frame
            refine held_two (o := ⟨some 7, _, _, _, _, _⟩) (p := ⟨some 8, _, _, _, _, _⟩) 8 9 (by kernel_rfl) rfl rfl (by rfl) (by rfl) (fun K hK => ?_) (fun K hK => ?_)
            · go_simp
              replace n := n.mk7 #[.int .i64 0, .string ⟨#[]⟩, .int .i64 0, .int .i64 0, .slice none 0 0]
              obtain ⟨g7, hq⟩ : ∃ u, u = wd.heap.size := ⟨_, rfl⟩
              rw [← hq] at n ⊢
              clear hq
              generalize wd.alloc (.cells #[.int .i64 0, .string ⟨#[]⟩, .int .i64 0, .int .i64 0, .slice none 0 0] 24) = wd at *
              refine hK.out _ _ ?_ (fun hH2 => ?_)
              · exact ⟨n.kx.cell 0, n.kx.cell 1, n.kx.cell 2, n.kx.cell 3, n.kx.cell 4, n.ky.cell 0, n.ky.cell 1, n.ky.cell 2, n.ky.cell 3, n.ky.cell 4⟩
              clear hHeld hK K; have hHeld := hH2; clear hH2; try go_frame
              refine hyO (some 8) 9 rfl (fun K hK => ?_)
              go_simp
              replace n := n.mk8 #[.int .i64 0, .string ⟨#[]⟩, .int .i64 0, .int .i64 0, .slice none 0 0]
              obtain ⟨g8, hq⟩ : ∃ u, u = wd.heap.size := ⟨_, rfl⟩
              rw [← hq] at n ⊢
              clear hq
              generalize wd.alloc (.cells #[.int .i64 0, .string ⟨#[]⟩, .int .i64 0, .int .i64 0, .slice none 0 0] 24) = wd at *
              refine hK.out _ _ ?_ (fun hH2 => ?_)
              · exact ⟨n.kx.cell 0, n.kx.cell 1, n.kx.cell 2, n.kx.cell 3, n.kx.cell 4, n.ky.cell 0, n.ky.cell 1, n.ky.cell 2, n.ky.cell 3, n.ky.cell 4⟩
              clear hHeld hK K; have hHeld := hH2; clear hH2; try go_frame
              refine hyO none 10 rfl (fun K hK => ?_)
              obtain ⟨⟨c0, c1, c2, c3, c4⟩, f0, f1, f2, f3, f4⟩ := n.h7.old
              go_simp
              clear c0 c1 c2 c3 c4 f0 f1 f2 f3 f4
              replace n := n.set7 (.int .i64 6) (.string ⟨#[]⟩) (.int .i64 0) (.int .i64 0) (.slice (some ⟨gA, 0, none⟩) 2 2)
              generalize (((((wd.setCell ⟨g7, 0, none⟩ (.int .i64 6)).setCell ⟨g7, 1, none⟩ (.string ⟨#[]⟩)).setCell ⟨g7, 2, none⟩ (.int .i64 0)).setCell ⟨g7, 3, none⟩ (.int .i64 0)).setCell ⟨g7, 4, none⟩ (.slice (some ⟨gA, 0, none⟩) 2 2)) = wd at *
              refine hK.out _ _ ?_ (fun hH2 => ?_)
              · exact ⟨n.kx.cell 0, n.kx.cell 1, n.kx.cell 2, n.kx.cell 3, n.kx.cell 4, n.ky.cell 0, n.ky.cell 1, n.ky.cell 2, n.ky.cell 3, n.ky.cell 4⟩
              clear hHeld hK K; have hHeld := hH2; clear hH2; try go_frame
              refine hyO none 11 rfl (fun K hK => ?_)
              obtain ⟨⟨c0, c1, c2, c3, c4⟩, f0, f1, f2, f3, f4⟩ := n.h8.old
              go_simp
              clear c0 c1 c2 c3 c4 f0 f1 f2 f3 f4
              replace n := n.set8 (.int .i64 7) (.string ⟨#[]⟩) (.int .i64 0) (.int .i64 0) (.slice (some ⟨gB, 0, none⟩) 2 2)
              generalize (((((wd.setCell ⟨g8, 0, none⟩ (.int .i64 7)).setCell ⟨g8, 1, none⟩ (.string ⟨#[]⟩)).setCell ⟨g8, 2, none⟩ (.int .i64 0)).setCell ⟨g8, 3, none⟩ (.int .i64 0)).setCell ⟨g8, 4, none⟩ (.slice (some ⟨gB, 0, none⟩) 2 2)) = wd at *
              refine hK.out _ _ ?_ (fun hH2 => ?_)
              · exact ⟨n.kx.cell 0, n.kx.cell 1, n.kx.cell 2, n.kx.cell 3, n.kx.cell 4, n.ky.cell 0, n.ky.cell 1, n.ky.cell 2, n.ky.cell 3, n.ky.cell 4⟩
              clear hHeld hK K; have hHeld := hH2; clear hH2; try go_frame
              refine wpAnyH_done (by kernel_rfl) ?_ _
              go_wp2_with fail
              go_meet
              exact ⟨g7, g8, gA, gB, rfl, rfl, n.done⟩
            · go_simp
              replace n := n.mk8 #[.int .i64 0, .string ⟨#[]⟩, .int .i64 0, .int .i64 0, .slice none 0 0]
              obtain ⟨g8, hq⟩ : ∃ u, u = wd.heap.size := ⟨_, rfl⟩
              rw [← hq] at n ⊢
              clear hq
              generalize wd.alloc (.cells #[.int .i64 0, .string ⟨#[]⟩, .int .i64 0, .int .i64 0, .slice none 0 0] 24) = wd at *
              refine hK.out _ _ ?_ (fun hH2 => ?_)
              · exact ⟨n.kx.cell 0, n.kx.cell 1, n.kx.cell 2, n.kx.cell 3, n.kx.cell 4, n.ky.cell 0, n.ky.cell 1, n.ky.cell 2, n.ky.cell 3, n.ky.cell 4⟩
              clear hHeld hK K; have hHeld := hH2; clear hH2; try go_frame
              refine hyO (some 7) 8 rfl (fun K hK => ?_)
              go_simp
              replace n := n.mk7 #[.int .i64 0, .string ⟨#[]⟩, .int .i64 0, .int .i64 0, .slice none 0 0]
              obtain ⟨g7, hq⟩ : ∃ u, u = wd.heap.size := ⟨_, rfl⟩
              rw [← hq] at n ⊢
              clear hq
              generalize wd.alloc (.cells #[.int .i64 0, .string ⟨#[]⟩, .int .i64 0, .int .i64 0, .slice none 0 0] 24) = wd at *
              refine hK.out _ _ ?_ (fun hH2 => ?_)
              · exact ⟨n.kx.cell 0, n.kx.cell 1, n.kx.cell 2, n.kx.cell 3, n.kx.cell 4, n.ky.cell 0, n.ky.cell 1, n.ky.cell 2, n.ky.cell 3, n.ky.cell 4⟩
              clear hHeld hK K; have hHeld := hH2; clear hH2; try go_frame
              refine hyO none 10 rfl (fun K hK => ?_)
              obtain ⟨⟨c0, c1, c2, c3, c4⟩, f0, f1, f2, f3, f4⟩ := n.h7.old
              go_simp
              clear c0 c1 c2 c3 c4 f0 f1 f2 f3 f4
              replace n := n.set7 (.int .i64 6) (.string ⟨#[]⟩) (.int .i64 0) (.int .i64 0) (.slice (some ⟨gA, 0, none⟩) 2 2)
              generalize (((((wd.setCell ⟨g7, 0, none⟩ (.int .i64 6)).setCell ⟨g7, 1, none⟩ (.string ⟨#[]⟩)).setCell ⟨g7, 2, none⟩ (.int .i64 0)).setCell ⟨g7, 3, none⟩ (.int .i64 0)).setCell ⟨g7, 4, none⟩ (.slice (some ⟨gA, 0, none⟩) 2 2)) = wd at *
              refine hK.out _ _ ?_ (fun hH2 => ?_)
              · exact ⟨n.kx.cell 0, n.kx.cell 1, n.kx.cell 2, n.kx.cell 3, n.kx.cell 4, n.ky.cell 0, n.ky.cell 1, n.ky.cell 2, n.ky.cell 3, n.ky.cell 4⟩
              clear hHeld hK K; have hHeld := hH2; clear hH2; try go_frame
              refine hyO none 11 rfl (fun K hK => ?_)
              obtain ⟨⟨c0, c1, c2, c3, c4⟩, f0, f1, f2, f3, f4⟩ := n.h8.old
              go_simp
              clear c0 c1 c2 c3 c4 f0 f1 f2 f3 f4
              replace n := n.set8 (.int .i64 7) (.string ⟨#[]⟩) (.int .i64 0) (.int .i64 0) (.slice (some ⟨gB, 0, none⟩) 2 2)
              generalize (((((wd.setCell ⟨g8, 0, none⟩ (.int .i64 7)).setCell ⟨g8, 1, none⟩ (.string ⟨#[]⟩)).setCell ⟨g8, 2, none⟩ (.int .i64 0)).setCell ⟨g8, 3, none⟩ (.int .i64 0)).setCell ⟨g8, 4, none⟩ (.slice (some ⟨gB, 0, none⟩) 2 2)) = wd at *
              refine hK.out _ _ ?_ (fun hH2 => ?_)
              · exact ⟨n.kx.cell 0, n.kx.cell 1, n.kx.cell 2, n.kx.cell 3, n.kx.cell 4, n.ky.cell 0, n.ky.cell 1, n.ky.cell 2, n.ky.cell 3, n.ky.cell 4⟩
              clear hHeld hK K; have hHeld := hH2; clear hH2; try go_frame
              refine wpAnyH_done (by kernel_rfl) ?_ _
              go_wp2_with fail
              go_meet
              exact ⟨g7, g8, gA, gB, rfl, rfl, n.done⟩
          · go_simp
            replace n := n.mk7 #[.int .i64 0, .string ⟨#[]⟩, .int .i64 0, .int .i64 0, .slice none 0 0]
            obtain ⟨g7, hq⟩ : ∃ u, u = wd.heap.size := ⟨_, rfl⟩
            rw [← hq] at n ⊢
            clear hq
            generalize wd.alloc (.cells #[.int .i64 0, .string ⟨#[]⟩, .int .i64 0, .int .i64 0, .slice none 0 0] 24) = wd at *
            refine hK.out _ _ ?_ (fun hH2 => ?_)
            · exact ⟨n.kx.cell 0, n.kx.cell 1, n.kx.cell 2, n.kx.cell 3, n.kx.cell 4, n.ky.cell 0, n.ky.cell 1, n.ky.cell 2, n.ky.cell 3, n.ky.cell 4⟩
            clear hHeld hK K; have hHeld := hH2; clear hH2; try go_frame
            refine held_two (o := ⟨some 22, _, _, _, _, _⟩) (p := ⟨some 8, _, _, _, _, _⟩) 2 9 (by kernel_rfl) rfl rfl (by rfl) (by rfl) (fun K hK => ?_) (fun K hK => ?_)
            · go_simp
              replace n := n.mkA #[.int .i64 x0, .string xs, .int .i64 x2, .int .i64 x3, .slice xA xn xz, .int .i64 y0, .string ys, .int .i64 y2, .int .i64 y3, .slice yA yn yz]
              obtain ⟨gA, hq⟩ : ∃ u, u = wd.heap.size := ⟨_, rfl⟩
              rw [← hq] at n ⊢
              clear hq
              generalize wd.alloc (.cells #[.int .i64 x0, .string xs, .int .i64 x2, .int .i64 x3, .slice xA xn xz, .int .i64 y0, .string ys, .int .i64 y2, .int .i64 y3, .slice yA yn yz] 24) = wd at *
              refine hK.out _ _ ?_ (fun hH2 => ?_)
              · exact ⟨n.kx.cell 0, n.kx.cell 1, n.kx.cell 2, n.kx.cell 3, n.kx.cell 4, n.ky.cell 0, n.ky.cell 1, n.ky.cell 2, n.ky.cell 3, n.ky.cell 4⟩
              clear hHeld hK K; have hHeld := hH2; clear hH2; try go_frame
              refine hyY (some 23) 3 rfl hHeld ?_; go_frame
              refine hyO (some 8) 9 rfl (fun K hK => ?_)
              go_simp
              replace n := n.mk8 #[.int .i64 0, .string ⟨#[]⟩, .int .i64 0, .int .i64 0, .slice none 0 0]
              obtain ⟨g8, hq⟩ : ∃ u, u = wd.heap.size := ⟨_, rfl⟩
              rw [← hq] at n ⊢
              clear hq
              generalize wd.alloc (.cells #[.int .i64 0, .string ⟨#[]⟩, .int .i64 0, .int .i64 0, .slice none 0 0] 24) = wd at *
              refine hK.out _ _ ?_ (fun hH2 => ?_)
              · exact ⟨n.kx.cell 0, n.kx.cell 1, n.kx.cell 2, n.kx.cell 3, n.kx.cell 4, n.ky.cell 0, n.ky.cell 1, n.ky.cell 2, n.ky.cell 3, n.ky.cell 4⟩
              clear hHeld hK K; have hHeld := hH2; clear hH2; try go_frame
              refine hyO none 10 rfl (fun K hK => ?_)
              obtain ⟨⟨c0, c1, c2, c3, c4⟩, f0, f1, f2, f3, f4⟩ := n.h7.old
              go_simp
              clear c0 c1 c2 c3 c4 f0 f1 f2 f3 f4
              replace n := n.set7 (.int .i64 6) (.string ⟨#[]⟩) (.int .i64 0) (.int .i64 0) (.slice (some ⟨gA, 0, none⟩) 2 2)
              generalize (((((wd.setCell ⟨g7, 0, none⟩ (.int .i64 6)).setCell ⟨g7, 1, none⟩ (.string ⟨#[]⟩)).setCell ⟨g7, 2, none⟩ (.int .i64 0)).setCell ⟨g7, 3, none⟩ (.int .i64 0)).setCell ⟨g7, 4, none⟩ (.slice (some ⟨gA, 0, none⟩) 2 2)) = wd at *
              refine hK.out _ _ ?_ (fun hH2 => ?_)
              · exact ⟨n.kx.cell 0, n.kx.cell 1, n.kx.cell 2, n.kx.cell 3, n.kx.cell 4, n.ky.cell 0, n.ky.cell 1, n.ky.cell 2, n.ky.cell 3, n.ky.cell 4⟩
              clear hHeld hK K; have hHeld := hH2; clear hH2; try go_frame
              refine hyO none 11 rfl (fun K hK => ?_)
              obtain ⟨⟨c0, c1, c2, c3, c4⟩, f0, f1, f2, f3, f4⟩ := n.h8.old
              go_simp
              clear c0 c1 c2 c3 c4 f0 f1 f2 f3 f4
              replace n := n.set8 (.int .i64 7) (.string ⟨#[]⟩) (.int .i64 0) (.int .i64 0) (.slice (some ⟨gB, 0, none⟩) 2 2)
              generalize (((((wd.setCell ⟨g8, 0, none⟩ (.int .i64 7)).setCell ⟨g8, 1, none⟩ (.string ⟨#[]⟩)).setCell ⟨g8, 2, none⟩ (.int .i64 0)).setCell ⟨g8, 3, none⟩ (.int .i64 0)).setCell ⟨g8, 4, none⟩ (.slice (some ⟨gB, 0, none⟩) 2 2)) = wd at *
              refine hK.out _ _ ?_ (fun hH2 => ?_)
              · exact ⟨n.kx.cell 0, n.kx.cell 1, n.kx.cell 2, n.kx.cell 3, n.kx.cell 4, n.ky.cell 0, n.ky.cell 1, n.ky.cell 2, n.ky.cell 3, n.ky.cell 4⟩
              clear hHeld hK K; have hHeld := hH2; clear hH2; try go_frame
              refine wpAnyH_done (by kernel_rfl) ?_ _
              go_wp2_with fail
              go_meet
              exact ⟨g7, g8, gA, gB, rfl, rfl, n.done⟩
            · go_simp
              replace n := n.mk8 #[.int .i64 0, .string ⟨#[]⟩, .int .i64 0, .int .i64 0, .slice none 0 0]
              obtain ⟨g8, hq⟩ : ∃ u, u = wd.heap.size := ⟨_, rfl⟩
              rw [← hq] at n ⊢
              clear hq
              generalize wd.alloc (.cells #[.int .i64 0, .string ⟨#[]⟩, .int .i64 0, .int .i64 0, .slice none 0 0] 24) = wd at *
              refine hK.out _ _ ?_ (fun hH2 => ?_)
              · exact ⟨n.kx.cell 0, n.kx.cell 1, n.kx.cell 2, n.kx.cell 3, n.kx.cell 4, n.ky.cell 0, n.ky.cell 1, n.ky.cell 2, n.ky.cell 3, n.ky.cell 4⟩
              clear hHeld hK K; have hHeld := hH2; clear hH2; try go_frame
              refine hyO (some 22) 2 rfl (fun K hK => ?_)
              go_simp
              replace n := n.mkA #[.int .i64 x0, .string xs, .int .i64 x2, .int .i64 x3, .slice xA xn xz, .int .i64 y0, .string ys, .int .i64 y2, .int .i64 y3, .slice yA yn yz]
              obtain ⟨gA, hq⟩ : ∃ u, u = wd.heap.size := ⟨_, rfl⟩
              rw [← hq] at n ⊢
              clear hq
              generalize wd.alloc (.cells #[.int .i64 x0, .string xs, .int .i64 x2, .int .i64 x3, .slice xA xn xz, .int .i64 y0, .string ys, .int .i64 y2, .int .i64 y3, .slice yA yn yz] 24) = wd at *
              refine hK.out _ _ ?_ (fun hH2 => ?_)
              · exact ⟨n.kx.cell 0, n.kx.cell 1, n.kx.cell 2, n.kx.cell 3, n.kx.cell 4, n.ky.cell 0, n.ky.cell 1, n.ky.cell 2, n.ky.cell 3, n.ky.cell 4⟩
              clear hHeld hK K; have hHeld := hH2; clear hH2; try go_frame
              refine hyY (some 23) 3 rfl hHeld ?_; go_frame
              refine hyO none 10 rfl (fun K hK => ?_)
              obtain ⟨⟨c0, c1, c2, c3, c4⟩, f0, f1, f2, f3, f4⟩ := n.h7.old
              go_simp
              clear c0 c1 c2 c3 c4 f0 f1 f2 f3 f4
              replace n := n.set7 (.int .i64 6) (.string ⟨#[]⟩) (.int .i64 0) (.int .i64 0) (.slice (some ⟨gA, 0, none⟩) 2 2)
              generalize (((((wd.setCell ⟨g7, 0, none⟩ (.int .i64 6)).setCell ⟨g7, 1, none⟩ (.string ⟨#[]⟩)).setCell ⟨g7, 2, none⟩ (.int .i64 0)).setCell ⟨g7, 3, none⟩ (.int .i64 0)).setCell ⟨g7, 4, none⟩ (.slice (some ⟨gA, 0, none⟩) 2 2)) = wd at *
              refine hK.out _ _ ?_ (fun hH2 => ?_)
              · exact ⟨n.kx.cell 0, n.kx.cell 1, n.kx.cell 2, n.kx.cell 3, n.kx.cell 4, n.ky.cell 0, n.ky.cell 1, n.ky.cell 2, n.ky.cell 3, n.ky.cell 4⟩
              clear hHeld hK K; have hHeld := hH2; clear hH2; try go_frame
              refine hyO none 11 rfl (fun K hK => ?_)
              obtain ⟨⟨c0, c1, c2, c3, c4⟩, f0, f1, f2, f3, f4⟩ := n.h8.old
              go_simp
              clear c0 c1 c2 c3 c4 f0 f1 f2 f3 f4
              replace n := n.set8 (.int .i64 7) (.string ⟨#[]⟩) (.int .i64 0) (.int .i64 0) (.slice (some ⟨gB, 0, none⟩) 2 2)
              generalize (((((wd.setCell ⟨g8, 0, none⟩ (.int .i64 7)).setCell ⟨g8, 1, none⟩ (.string ⟨#[]⟩)).setCell ⟨g8, 2, none⟩ (.int .i64 0)).setCell ⟨g8, 3, none⟩ (.int .i64 0)).setCell ⟨g8, 4, none⟩ (.slice (some ⟨gB, 0, none⟩) 2 2)) = wd at *
              refine hK.out _ _ ?_ (fun hH2 => ?_)
              · exact ⟨n.kx.cell 0, n.kx.cell 1, n.kx.cell 2, n.kx.cell 3, n.kx.cell 4, n.ky.cell 0, n.ky.cell 1, n.ky.cell 2, n.ky.cell 3, n.ky.cell 4⟩
              clear hHeld hK K; have hHeld := hH2; clear hH2; try go_frame
              refine wpAnyH_done (by kernel_rfl) ?_ _
              go_wp2_with fail
              go_meet
              exact ⟨g7, g8, gA, gB, rfl, rfl, n.done⟩
          · go_simp
            replace n := n.mk8 #[.int .i64 0, .string ⟨#[]⟩, .int .i64 0, .int .i64 0, .slice none 0 0]
            obtain ⟨g8, hq⟩ : ∃ u, u = wd.heap.size := ⟨_, rfl⟩
            rw [← hq] at n ⊢
            clear hq
            generalize wd.alloc (.cells #[.int .i64 0, .string ⟨#[]⟩, .int .i64 0, .int .i64 0, .slice none 0 0] 24) = wd at *
            refine hK.out _ _ ?_ (fun hH2 => ?_)
            · exact ⟨n.kx.cell 0, n.kx.cell 1, n.kx.cell 2, n.kx.cell 3, n.kx.cell 4, n.ky.cell 0, n.ky.cell 1, n.ky.cell 2, n.ky.cell 3, n.ky.cell 4⟩
            clear hHeld hK K; have hHeld := hH2; clear hH2; try go_frame
            refine held_two (o := ⟨some 22, _, _, _, _, _⟩) (p := ⟨some 7, _, _, _, _, _⟩) 2 8 (by kernel_rfl) rfl rfl (by rfl) (by rfl) (fun K hK => ?_) (fun K hK => ?_)
            · go_simp
              replace n := n.mkA #[.int .i64 x0, .string xs, .int .i64 x2, .int .i64 x3, .slice xA xn xz, .int .i64 y0, .string ys, .int .i64 y2, .int .i64 y3, .slice yA yn yz]
              obtain ⟨gA, hq⟩ : ∃ u, u = wd.heap.size := ⟨_, rfl⟩
              rw [← hq] at n ⊢
              clear hq
              generalize wd.alloc (.cells #[.int .i64 x0, .string xs, .int .i64 x2, .int .i64 x3, .slice xA xn xz, .int .i64 y0, .string ys, .int .i64 y2, .int .i64 y3, .slice yA yn yz] 24) = wd at *
              refine hK.out _ _ ?_ (fun hH2 => ?_)
              · exact ⟨n.kx.cell 0, n.kx.cell 1, n.kx.cell 2, n.kx.cell 3, n.kx.cell 4, n.ky.cell 0, n.ky.cell 1, n.ky.cell 2, n.ky.cell 3, n.ky.cell 4⟩
              clear hHeld hK K; have hHeld := hH2; clear hH2; try go_frame
              refine hyY (some 23) 3 rfl hHeld ?_; go_frame
              refine hyO (some 7) 8 rfl (fun K hK => ?_)
              go_simp
              replace n := n.mk7 #[.int .i64 0, .string ⟨#[]⟩, .int .i64 0, .int .i64 0, .slice none 0 0]
              obtain ⟨g7, hq⟩ : ∃ u, u = wd.heap.size := ⟨_, rfl⟩
              rw [← hq] at n ⊢
              clear hq
              generalize wd.alloc (.cells #[.int .i64 0, .string ⟨#[]⟩, .int .i64 0, .int .i64 0, .slice none 0 0] 24) = wd at *
              refine hK.out _ _ ?_ (fun hH2 => ?_)
              · exact ⟨n.kx.cell 0, n.kx.cell 1, n.kx.cell 2, n.kx.cell 3, n.kx.cell 4, n.ky.cell 0, n.ky.cell 1, n.ky.cell 2, n.ky.cell 3, n.ky.cell 4⟩
              clear hHeld hK K; have hHeld := hH2; clear hH2; try go_frame
              refine hyO none 10 rfl (fun K hK => ?_)
              obtain ⟨⟨c0, c1, c2, c3, c4⟩, f0, f1, f2, f3, f4⟩ := n.h7.old
              go_simp
              clear c0 c1 c2 c3 c4 f0 f1 f2 f3 f4
              replace n := n.set7 (.int .i64 6) (.string ⟨#[]⟩) (.int .i64 0) (.int .i64 0) (.slice (some ⟨gA, 0, none⟩) 2 2)
              generalize (((((wd.setCell ⟨g7, 0, none⟩ (.int .i64 6)).setCell ⟨g7, 1, none⟩ (.string ⟨#[]⟩)).setCell ⟨g7, 2, none⟩ (.int .i64 0)).setCell ⟨g7, 3, none⟩ (.int .i64 0)).setCell ⟨g7, 4, none⟩ (.slice (some ⟨gA, 0, none⟩) 2 2)) = wd at *
              refine hK.out _ _ ?_ (fun hH2 => ?_)
              · exact ⟨n.kx.cell 0, n.kx.cell 1, n.kx.cell 2, n.kx.cell 3, n.kx.cell 4, n.ky.cell 0, n.ky.cell 1, n.ky.cell 2, n.ky.cell 3, n.ky.cell 4⟩
              clear hHeld hK K; have hHeld := hH2; clear hH2; try go_frame
              refine hyO none 11 rfl (fun K hK => ?_)
              obtain ⟨⟨c0, c1, c2, c3, c4⟩, f0, f1, f2, f3, f4⟩ := n.h8.old
              go_simp
              clear c0 c1 c2 c3 c4 f0 f1 f2 f3 f4
              replace n := n.set8 (.int .i64 7) (.string ⟨#[]⟩) (.int .i64 0) (.int .i64 0) (.slice (some ⟨gB, 0, none⟩) 2 2)
              generalize (((((wd.setCell ⟨g8, 0, none⟩ (.int .i64 7)).setCell ⟨g8, 1, none⟩ (.string ⟨#[]⟩)).setCell ⟨g8, 2, none⟩ (.int .i64 0)).setCell ⟨g8, 3, none⟩ (.int .i64 0)).setCell ⟨g8, 4, none⟩ (.slice (some ⟨gB, 0, none⟩) 2 2)) = wd at *
              refine hK.out _ _ ?_ (fun hH2 => ?_)
              · exact ⟨n.kx.cell 0, n.kx.cell 1, n.kx.cell 2, n.kx.cell 3, n.kx.cell 4, n.ky.cell 0, n.ky.cell 1, n.ky.cell 2, n.ky.cell 3, n.ky.cell 4⟩
              clear hHeld hK K; have hHeld := hH2; clear hH2; try go_frame
              refine wpAnyH_done (by kernel_rfl) ?_ _
              go_wp2_with fail
              go_meet
              exact ⟨g7, g8, gA, gB, rfl, rfl, n.done⟩
            · go_simp
              replace n := n.mk7 #[.int .i64 0, .string ⟨#[]⟩, .int .i64 0, .int .i64 0, .slice none 0 0]
              obtain ⟨g7, hq⟩ : ∃ u, u = wd.heap.size := ⟨_, rfl⟩
              rw [← hq] at n ⊢
              clear hq
              generalize wd.alloc (.cells #[.int .i64 0, .string ⟨#[]⟩, .int .i64 0, .int .i64 0, .slice none 0 0] 24) = wd at *
              refine hK.out _ _ ?_ (fun hH2 => ?_)
              · exact ⟨n.kx.cell 0, n.kx.cell 1, n.kx.cell 2, n.kx.cell 3, n.kx.cell 4, n.ky.cell 0, n.ky.cell 1, n.ky.cell 2, n.ky.cell 3, n.ky.cell 4⟩
              clear hHeld hK K; have hHeld := hH2; clear hH2; try go_frame
              refine hyO (some 22) 2 rfl (fun K hK => ?_)
              go_simp
              replace n := n.mkA #[.int .i64 x0, .string xs, .int .i64 x2, .int .i64 x3, .slice xA xn xz, .int .i64 y0, .string ys, .int .i64 y2, .int .i64 y3, .slice yA yn yz]
              obtain ⟨gA, hq⟩ : ∃ u, u = wd.heap.size := ⟨_, rfl⟩
              rw [← hq] at n ⊢
              clear hq
              generalize wd.alloc (.cells #[.int .i64 x0, .string xs, .int .i64 x2, .int .i64 x3, .slice xA xn xz, .int .i64 y0, .string ys, .int .i64 y2, .int .i64 y3, .slice yA yn yz] 24) = wd at *
              refine hK.out _ _ ?_ (fun hH2 => ?_)
              · exact ⟨n.kx.cell 0, n.kx.cell 1, n.kx.cell 2, n.kx.cell 3, n.kx.cell 4, n.ky.cell 0, n.ky.cell 1, n.ky.cell 2, n.ky.cell 3, n.ky.cell 4⟩
              clear hHeld hK K; have hHeld := hH2; clear hH2; try go_frame
              refine hyY (some 23) 3 rfl hHeld ?_; go_frame
              refine hyO none 10 rfl (fun K hK => ?_)
              obtain ⟨⟨c0, c1, c2, c3, c4⟩, f0, f1, f2, f3, f4⟩ := n.h7.old
              go_simp
              clear c0 c1 c2 c3 c4 f0 f1 f2 f3 f4
              replace n := n.set7 (.int .i64 6) (.string ⟨#[]⟩) (.int .i64 0) (.int .i64 0) (.slice (some ⟨gA, 0, none⟩) 2 2)
              generalize (((((wd.setCell ⟨g7, 0, none⟩ (.int .i64 6)).setCell ⟨g7, 1, none⟩ (.string ⟨#[]⟩)).setCell ⟨g7, 2, none⟩ (.int .i64 0)).setCell ⟨g7, 3, none⟩ (.int .i64 0)).setCell ⟨g7, 4, none⟩ (.slice (some ⟨gA, 0, none⟩) 2 2)) = wd at *
              refine hK.out _ _ ?_ (fun hH2 => ?_)
              · exact ⟨n.kx.cell 0, n.kx.cell 1, n.kx.cell 2, n.kx.cell 3, n.kx.cell 4, n.ky.cell 0, n.ky.cell 1, n.ky.cell 2, n.ky.cell 3, n.ky.cell 4⟩
              clear hHeld hK K; have hHeld := hH2; clear hH2; try go_frame
              refine hyO none 11 rfl (fun K hK => ?_)
              obtain ⟨⟨c0, c1, c2, c3, c4⟩, f0, f1, f2, f3, f4⟩ := n.h8.old
              go_simp
              clear c0 c1 c2 c3 c4 f0 f1 f2 f3 f4
              replace n := n.set8 (.int .i64 7) (.string ⟨#[]⟩) (.int .i64 0) (.int .i64 0) (.slice (some ⟨gB, 0, none⟩) 2 2)
              generalize (((((wd.setCell ⟨g8, 0, none⟩ (.int .i64 7)).setCell ⟨g8, 1, none⟩ (.string ⟨#[]⟩)).setCell ⟨g8, 2, none⟩ (.int .i64 0)).setCell ⟨g8, 3, none⟩ (.int .i64 0)).setCell ⟨g8, 4, none⟩ (.slice (some ⟨gB, 0, none⟩) 2 2)) = wd at *
              refine hK.out _ _ ?_ (fun hH2 => ?_)
              · exact ⟨n.kx.cell 0, n.kx.cell 1, n.kx.cell 2, n.kx.cell 3, n.kx.cell 4, n.ky.cell 0, n.ky.cell 1, n.ky.cell 2, n.ky.cell 3, n.ky.cell 4⟩
              clear hHeld hK K; have hHeld := hH2; clear hH2; try go_frame
              refine wpAnyH_done (by kernel_rfl) ?_ _
              go_wp2_with fail
              go_meet
              exact ⟨g7, g8, gA, gB, rfl, rfl, n.done⟩
        · go_simp
          replace n := n.mk7 #[.int .i64 0, .string ⟨#[]⟩, .int .i64 0, .int .i64 0, .slice none 0 0]
          obtain ⟨g7, hq⟩ : ∃ u, u = wd.heap.size := ⟨_, rfl⟩
          rw [← hq] at n ⊢
          clear hq
          generalize wd.alloc (.cells #[.int .i64 0, .string ⟨#[]⟩, .int .i64 0, .int .i64 0, .slice none 0 0] 24) = wd at *
          refine hK.out _ _ ?_ (fun hH2 => ?_)
          · exact ⟨n.kx.cell 0, n.kx.cell 1, n.kx.cell 2, n.kx.cell 3, n.kx.cell 4, n.ky.cell 0, n.ky.cell 1, n.ky.cell 2, n.ky.cell 3, n.ky.cell 4⟩
          clear hHeld hK K; have hHeld := hH2; clear hH2; try go_frame
          refine held_three (o := ⟨some 22, _, _, _, _, _⟩) (p := ⟨some 26, _, _, _, _, _⟩) (q := ⟨some 8, _, _, _, _, _⟩) 2 6 9 (by kernel_rfl) rfl rfl rfl (by rfl) (by rfl) (by rfl) (fun K hK => ?_) (fun K hK => ?_) (fun K hK => ?_)
          · go_simp
            replace n := n.mkA #[.int .i64 x0, .string xs, .int .i64 x2, .int .i64 x3, .slice xA xn xz, .int .i64 y0, .string ys, .int .i64 y2, .int .i64 y3, .slice yA yn yz]
            obtain ⟨gA, hq⟩ : ∃ u, u = wd.heap.size := ⟨_, rfl⟩
            rw [← hq] at n ⊢
            clear hq
            generalize wd.alloc (.cells #[.int .i64 x0, .string xs, .int .i64 x2, .int .i64 x3, .slice xA xn xz, .int .i64 y0, .string ys, .int .i64 y2, .int .i64 y3, .slice yA yn yz] 24) = wd at *
            refine hK.out _ _ ?_ (fun hH2 => ?_)
            · exact ⟨n.kx.cell 0, n.kx.cell 1, n.kx.cell 2, n.kx.cell 3, n.kx.cell 4, n.ky.cell 0, n.ky.cell 1, n.ky.cell 2, n.ky.cell 3, n.ky.cell 4⟩
            clear hHeld hK K; have hHeld := hH2; clear hH2; try go_frame
            refine hyY (some 23) 3 rfl hHeld ?_; go_frame
            refine held_two (o := ⟨some 26, _, _, _, _, _⟩) (p := ⟨some 8, _, _, _, _, _⟩) 6 9 (by kernel_rfl) rfl rfl (by rfl) (by rfl) (fun K hK => ?_) (fun K hK => ?_)
            · go_simp
              replace n := n.mkB #[.int .i64 x0, .string xs, .int .i64 x2, .int .i64 x3, .slice xA xn xz, .int .i64 y0, .string ys, .int .i64 y2, .int .i64 y3, .slice yA yn yz]
              obtain ⟨gB, hq⟩ : ∃ u, u = wd.heap.size := ⟨_, rfl⟩
              rw [← hq] at n ⊢
              clear hq
              generalize wd.alloc (.cells #[.int .i64 x0, .string xs, .int .i64 x2, .int .i64 x3, .slice xA xn xz, .int .i64 y0, .string ys, .int .i64 y2, .int .i64 y3, .slice yA yn yz] 24) = wd at *
              refine hK.out _ _ ?_ (fun hH2 => ?_)
              · exact ⟨n.kx.cell 0, n.kx.cell 1, n.kx.cell 2, n.kx.cell 3, n.kx.cell 4, n.ky.cell 0, n.ky.cell 1, n.ky.cell 2, n.ky.cell 3, n.ky.cell 4⟩
              clear hHeld hK K; have hHeld := hH2; clear hH2; try go_frame
              refine hyY (some 27) 7 rfl hHeld ?_; go_frame
              refine hyO (some 8) 9 rfl (fun K hK => ?_)
              go_simp
              replace n := n.mk8 #[.int .i64 0, .string ⟨#[]⟩, .int .i64 0, .int .i64 0, .slice none 0 0]
              obtain ⟨g8, hq⟩ : ∃ u, u = wd.heap.size := ⟨_, rfl⟩
              rw [← hq] at n ⊢
              clear hq
              generalize wd.alloc (.cells #[.int .i64 0, .string ⟨#[]⟩, .int .i64 0, .int .i64 0, .slice none 0 0] 24) = wd at *
              refine hK.out _ _ ?_ (fun hH2 => ?_)
              · exact ⟨n.kx.cell 0, n.kx.cell 1, n.kx.cell 2, n.kx.cell 3, n.kx.cell 4, n.ky.cell 0, n.ky.cell 1, n.ky.cell 2, n.ky.cell 3, n.ky.cell 4⟩
              clear hHeld hK K; have hHeld := hH2; clear hH2; try go_frame
              refine hyO none 10 rfl (fun K hK => ?_)
              obtain ⟨⟨c0, c1, c2, c3, c4⟩, f0, f1, f2, f3, f4⟩ := n.h7.old
              go_simp
              clear c0 c1 c2 c3 c4 f0 f1 f2 f3 f4
              replace n := n.set7 (.int .i64 6) (.string ⟨#[]⟩) (.int .i64 0) (.int .i64 0) (.slice (some ⟨gA, 0, none⟩) 2 2)
              generalize (((((wd.setCell ⟨g7, 0, none⟩ (.int .i64 6)).setCell ⟨g7, 1, none⟩ (.string ⟨#[]⟩)).setCell ⟨g7, 2, none⟩ (.int .i64 0)).setCell ⟨g7, 3, none⟩ (.int .i64 0)).setCell ⟨g7, 4, none⟩ (.slice (some ⟨gA, 0, none⟩) 2 2)) = wd at *
              refine hK.out _ _ ?_ (fun hH2 => ?_)
              · exact ⟨n.kx.cell 0, n.kx.cell 1, n.kx.cell 2, n.kx.cell 3, n.kx.cell 4, n.ky.cell 0, n.ky.cell 1, n.ky.cell 2, n.ky.cell 3, n.ky.cell 4⟩
              clear hHeld hK K; have hHeld := hH2; clear hH2; try go_frame
              refine hyO none 11 rfl (fun K hK => ?_)
              obtain ⟨⟨c0, c1, c2, c3, c4⟩, f0, f1, f2, f3, f4⟩ := n.h8.old
              go_simp
              clear c0 c1 c2 c3 c4 f0 f1 f2 f3 f4
              replace n := n.set8 (.int .i64 7) (.string ⟨#[]⟩) (.int .i64 0) (.int .i64 0) (.slice (some ⟨gB, 0, none⟩) 2 2)
              generalize (((((wd.setCell ⟨g8, 0, none⟩ (.int .i64 7)).setCell ⟨g8, 1, none⟩ (.string ⟨#[]⟩)).setCell ⟨g8, 2, none⟩ (.int .i64 0)).setCell ⟨g8, 3, none⟩ (.int .i64 0)).setCell ⟨g8, 4, none⟩ (.slice (some ⟨gB, 0, none⟩) 2 2)) = wd at *
              refine hK.out _ _ ?_ (fun hH2 => ?_)
              · exact ⟨n.kx.cell 0, n.kx.cell 1, n.kx.cell 2, n.kx.cell 3, n.kx.cell 4, n.ky.cell 0, n.ky.cell 1, n.ky.cell 2, n.ky.cell 3, n.ky.cell 4⟩
              clear hHeld hK K; have hHeld := hH2; clear hH2; try go_frame
              refine wpAnyH_done (by kernel_rfl) ?_ _
              go_wp2_with fail
              go_meet
              exact ⟨g7, g8, gA, gB, rfl, rfl, n.done⟩
            · go_simp
              replace n := n.mk8 #[.int .i64 0, .string ⟨#[]⟩, .int .i64 0, .int .i64 0, .slice none 0 0]
              obtain ⟨g8, hq⟩ : ∃ u, u = wd.heap.size := ⟨_, rfl⟩
              rw [← hq] at n ⊢
              clear hq
              generalize wd.alloc (.cells #[.int .i64 0, .string ⟨#[]⟩, .int .i64 0, .int .i64 0, .slice none 0 0] 24) = wd at *
              refine hK.out _ _ ?_ (fun hH2 => ?_)
              · exact ⟨n.kx.cell 0, n.kx.cell 1, n.kx.cell 2, n.kx.cell 3, n.kx.cell 4, n.ky.cell 0, n.ky.cell 1, n.ky.cell 2, n.ky.cell 3, n.ky.cell 4⟩
              clear hHeld hK K; have hHeld := hH2; clear hH2; try go_frame
              refine held_two (o := ⟨some 26, _, _, _, _, _⟩) (p := ⟨none, _, _, _, _, _⟩) 6 10 (by kernel_rfl) rfl rfl (by rfl) (by rfl) (fun K hK => ?_) (fun K hK => ?_)
              · go_simp
                replace n := n.mkB #[.int .i64 x0, .string xs, .int .i64 x2, .int .i64 x3, .slice xA xn xz, .int .i64 y0, .string ys, .int .i64 y2, .int .i64 y3, .slice yA yn yz]
                obtain ⟨gB, hq⟩ : ∃ u, u = wd.heap.size := ⟨_, rfl⟩
                rw [← hq] at n ⊢
                clear hq
                generalize wd.alloc (.cells #[.int .i64 x0, .string xs, .int .i64 x2, .int .i64 x3, .slice xA xn xz, .int .i64 y0, .string ys, .int .i64 y2, .int .i64 y3, .slice yA yn yz] 24) = wd at *
                refine hK.out _ _ ?_ (fun hH2 => ?_)
                · exact ⟨n.kx.cell 0, n.kx.cell 1, n.kx.cell 2, n.kx.cell 3, n.kx.cell 4, n.ky.cell 0, n.ky.cell 1, n.ky.cell 2, n.ky.cell 3, n.ky.cell 4⟩
                clear hHeld hK K; have hHeld := hH2; clear hH2; try go_frame
                refine hyY (some 27) 7 rfl hHeld ?_; go_frame
                refine hyO none 10 rfl (fun K hK => ?_)
                obtain ⟨⟨c0, c1, c2, c3, c4⟩, f0, f1, f2, f3, f4⟩ := n.h7.old
                go_simp
                clear c0 c1 c2 c3 c4 f0 f1 f2 f3 f4
                replace n := n.set7 (.int .i64 6) (.string ⟨#[]⟩) (.int .i64 0) (.int .i64 0) (.slice (some ⟨gA, 0, none⟩) 2 2)
                generalize (((((wd.setCell ⟨g7, 0, none⟩ (.int .i64 6)).setCell ⟨g7, 1, none⟩ (.string ⟨#[]⟩)).setCell ⟨g7, 2, none⟩ (.int .i64 0)).setCell ⟨g7, 3, none⟩ (.int .i64 0)).setCell ⟨g7, 4, none⟩ (.slice (some ⟨gA, 0, none⟩) 2 2)) = wd at *
                refine hK.out _ _ ?_ (fun hH2 => ?_)
                · exact ⟨n.kx.cell 0, n.kx.cell 1, n.kx.cell 2, n.kx.cell 3, n.kx.cell 4, n.ky.cell 0, n.ky.cell 1, n.ky.cell 2, n.ky.cell 3, n.ky.cell 4⟩
                clear hHeld hK K; have hHeld := hH2; clear hH2; try go_frame
                refine hyO none 11 rfl (fun K hK => ?_)
                obtain ⟨⟨c0, c1, c2, c3, c4⟩, f0, f1, f2, f3, f4⟩ := n.h8.old
                go_simp
                clear c0 c1 c2 c3 c4 f0 f1 f2 f3 f4
                replace n := n.set8 (.int .i64 7) (.string ⟨#[]⟩) (.int .i64 0) (.int .i64 0) (.slice (some ⟨gB, 0, none⟩) 2 2)
                generalize (((((wd.setCell ⟨g8, 0, none⟩ (.int .i64 7)).setCell ⟨g8, 1, none⟩ (.string ⟨#[]⟩)).setCell ⟨g8, 2, none⟩ (.int .i64 0)).setCell ⟨g8, 3, none⟩ (.int .i64 0)).setCell ⟨g8, 4, none⟩ (.slice (some ⟨gB, 0, none⟩) 2 2)) = wd at *
                refine hK.out _ _ ?_ (fun hH2 => ?_)
                · exact ⟨n.kx.cell 0, n.kx.cell 1, n.kx.cell 2, n.kx.cell 3, n.kx.cell 4, n.ky.cell 0, n.ky.cell 1, n.ky.cell 2, n.ky.cell 3, n.ky.cell 4⟩
                clear hHeld hK K; have hHeld := hH2; clear hH2; try go_frame
                refine wpAnyH_done (by kernel_rfl) ?_ _
                go_wp2_with fail
                go_meet
                exact ⟨g7, g8, gA, gB, rfl, rfl, n.done⟩
              · obtain ⟨⟨c0, c1, c2, c3, c4⟩, f0, f1, f2, f3, f4⟩ := n.h7.old
                go_simp
                clear c0 c1 c2 c3 c4 f0 f1 f2 f3 f4
                replace n := n.set7 (.int .i64 6) (.string ⟨#[]⟩) (.int .i64 0) (.int .i64 0) (.slice (some ⟨gA, 0, none⟩) 2 2)
                generalize (((((wd.setCell ⟨g7, 0, none⟩ (.int .i64 6)).setCell ⟨g7, 1, none⟩ (.string ⟨#[]⟩)).setCell ⟨g7, 2, none⟩ (.int .i64 0)).setCell ⟨g7, 3, none⟩ (.int .i64 0)).setCell ⟨g7, 4, none⟩ (.slice (some ⟨gA, 0, none⟩) 2 2)) = wd at *
                refine hK.out _ _ ?_ (fun hH2 => ?_)
                · exact ⟨n.kx.cell 0, n.kx.cell 1, n.kx.cell 2, n.kx.cell 3, n.kx.cell 4, n.ky.cell 0, n.ky.cell 1, n.ky.cell 2, n.ky.cell 3, n.ky.cell 4⟩
                clear hHeld hK K; have hHeld := hH2; clear hH2; try go_frame
                refine hyO (some 26) 6 rfl (fun K hK => ?_)
                go_simp
                replace n := n.mkB #[.int .i64 x0, .string xs, .int .i64 x2, .int .i64 x3, .slice xA xn xz, .int .i64 y0, .string ys, .int .i64 y2, .int .i64 y3, .slice yA yn yz]
                obtain ⟨gB, hq⟩ : ∃ u, u = wd.heap.size := ⟨_, rfl⟩
                rw [← hq] at n ⊢
                clear hq
                generalize wd.alloc (.cells #[.int .i64 x0, .string xs, .int .i64 x2, .int .i64 x3, .slice xA xn xz, .int .i64 y0, .string ys, .int .i64 y2, .int .i64 y3, .slice yA yn yz] 24) = wd at *
                refine hK.out _ _ ?_ (fun hH2 => ?_)
                · exact ⟨n.kx.cell 0, n.kx.cell 1, n.kx.cell 2, n.kx.cell 3, n.kx.cell 4, n.ky.cell 0, n.ky.cell 1, n.ky.cell 2, n.ky.cell 3, n.ky.cell 4⟩
                clear hHeld hK K; have hHeld := hH2; clear hH2; try go_frame
                refine hyY (some 27) 7 rfl hHeld ?_; go_frame
                refine hyO none 11 rfl (fun K hK => ?_)
                obtain ⟨⟨c0, c1, c2, c3, c4⟩, f0, f1, f2, f3, f4⟩ := n.h8.old
                go_simp
                clear c0 c1 c2 c3 c4 f0 f1 f2 f3 f4
                replace n := n.set8 (.int .i64 7) (.string ⟨#[]⟩) (.int .i64 0) (.int .i64 0) (.slice (some ⟨gB, 0, none⟩) 2 2)
                generalize (((((wd.setCell ⟨g8, 0, none⟩ (.int .i64 7)).setCell ⟨g8, 1, none⟩ (.string ⟨#[]⟩)).setCell ⟨g8, 2, none⟩ (.int .i64 0)).setCell ⟨g8, 3, none⟩ (.int .i64 0)).setCell ⟨g8, 4, none⟩ (.slice (some ⟨gB, 0, none⟩) 2 2)) = wd at *
                refine hK.out _ _ ?_ (fun hH2 => ?_)
                · exact ⟨n.kx.cell 0, n.kx.cell 1, n.kx.cell 2, n.kx.cell 3, n.kx.cell 4, n.ky.cell 0, n.ky.cell 1, n.ky.cell 2, n.ky.cell 3, n.ky.cell 4⟩
                clear hHeld hK K; have hHeld := hH2; clear hH2; try go_frame
                refine wpAnyH_done (by kernel_rfl) ?_ _
                go_wp2_with fail
                go_meet
                exact ⟨g7, g8, gA, gB, rfl, rfl, n.done⟩
          · go_simp
            replace n := n.mkB #[.int .i64 x0, .string xs, .int .i64 x2, .int .i64 x3, .slice xA xn xz, .int .i64 y0, .string ys, .int .i64 y2, .int .i64 y3, .slice yA yn yz]
            obtain ⟨gB, hq⟩ : ∃ u, u = wd.heap.size := ⟨_, rfl⟩
            rw [← hq] at n ⊢
            clear hq
            generalize wd.alloc (.cells #[.int .i64 x0, .string xs, .int .i64 x2, .int .i64 x3, .slice xA xn xz, .int .i64 y0, .string ys, .int .i64 y2, .int .i64 y3, .slice yA yn yz] 24) = wd at *
            refine hK.out _ _ ?_ (fun hH2 => ?_)
            · exact ⟨n.kx.cell 0, n.kx.cell 1, n.kx.cell 2, n.kx.cell 3, n.kx.cell 4, n.ky.cell 0, n.ky.cell 1, n.ky.cell 2, n.ky.cell 3, n.ky.cell 4⟩
            clear hHeld hK K; have hHeld := hH2; clear hH2; try go_frame
            refine hyY (some 27) 7 rfl hHeld ?_; go_frame
            refine held_two (o := ⟨some 22, _, _, _, _, _⟩) (p := ⟨some 8, _, _, _, _, _⟩) 2 9 (by kernel_rfl) rfl rfl (by rfl) (by rfl) (fun K hK => ?_) (fun K hK => ?_)
            · go_simp
              replace n := n.mkA #[.int .i64 x0, .string xs, .int .i64 x2, .int .i64 x3, .slice xA xn xz, .int .i64 y0, .string ys, .int .i64 y2, .int .i64 y3, .slice yA yn yz]
              obtain ⟨gA, hq⟩ : ∃ u, u = wd.heap.size := ⟨_, rfl⟩
              rw [← hq] at n ⊢
              clear hq
              generalize wd.alloc (.cells #[.int .i64 x0, .string xs, .int .i64 x2, .int .i64 x3, .slice xA xn xz, .int .i64 y0, .string ys, .int .i64 y2, .int .i64 y3, .slice yA yn yz] 24) = wd at *
              refine hK.out _ _ ?_ (fun hH2 => ?_)
              · exact ⟨n.kx.cell 0, n.kx.cell 1, n.kx.cell 2, n.kx.cell 3, n.kx.cell 4, n.ky.cell 0, n.ky.cell 1, n.ky.cell 2, n.ky.cell 3, n.ky.cell 4⟩
              clear hHeld hK K; have hHeld := hH2; clear hH2; try go_frame
              refine hyY (some 23) 3 rfl hHeld ?_; go_frame
              refine hyO (some 8) 9 rfl (fun K hK => ?_)
              go_simp
              replace n := n.mk8 #[.int .i64 0, .string ⟨#[]⟩, .int .i64 0, .int .i64 0, .slice none 0 0]
              obtain ⟨g8, hq⟩ : ∃ u, u = wd.heap.size := ⟨_, rfl⟩
              rw [← hq] at n ⊢
              clear hq
              generalize wd.alloc (.cells #[.int .i64 0, .string ⟨#[]⟩, .int .i64 0, .int .i64 0, .slice none 0 0] 24) = wd at *
              refine hK.out _ _ ?_ (fun hH2 => ?_)
              · exact ⟨n.kx.cell 0, n.kx.cell 1, n.kx.cell 2, n.kx.cell 3, n.kx.cell 4, n.ky.cell 0, n.ky.cell 1, n.ky.cell 2, n.ky.cell 3, n.ky.cell 4⟩
              clear hHeld hK K; have hHeld := hH2; clear hH2; try go_frame
              refine hyO none 10 rfl (fun K hK => ?_)
              obtain ⟨⟨c0, c1, c2, c3, c4⟩, f0, f1, f2, f3, f4⟩ := n.h7.old
              go_simp
              clear c0 c1 c2 c3 c4 f0 f1 f2 f3 f4
              replace n := n.set7 (.int .i64 6) (.string ⟨#[]⟩) (.int .i64 0) (.int .i64 0) (.slice (some ⟨gA, 0, none⟩) 2 2)
              generalize (((((wd.setCell ⟨g7, 0, none⟩ (.int .i64 6)).setCell ⟨g7, 1, none⟩ (.string ⟨#[]⟩)).setCell ⟨g7, 2, none⟩ (.int .i64 0)).setCell ⟨g7, 3, none⟩ (.int .i64 0)).setCell ⟨g7, 4, none⟩ (.slice (some ⟨gA, 0, none⟩) 2 2)) = wd at *
              refine hK.out _ _ ?_ (fun hH2 => ?_)
              · exact ⟨n.kx.cell 0, n.kx.cell 1, n.kx.cell 2, n.kx.cell 3, n.kx.cell 4, n.ky.cell 0, n.ky.cell 1, n.ky.cell 2, n.ky.cell 3, n.ky.cell 4⟩
              clear hHeld hK K; have hHeld := hH2; clear hH2; try go_frame
              refine hyO none 11 rfl (fun K hK => ?_)
              obtain ⟨⟨c0, c1, c2, c3, c4⟩, f0, f1, f2, f3, f4⟩ := n.h8.old
              go_simp
              clear c0 c1 c2 c3 c4 f0 f1 f2 f3 f4
              replace n := n.set8 (.int .i64 7) (.string ⟨#[]⟩) (.int .i64 0) (.int .i64 0) (.slice (some ⟨gB, 0, none⟩) 2 2)
              generalize (((((wd.setCell ⟨g8, 0, none⟩ (.int .i64 7)).setCell ⟨g8, 1, none⟩ (.string ⟨#[]⟩)).setCell ⟨g8, 2, none⟩ (.int .i64 0)).setCell ⟨g8, 3, none⟩ (.int .i64 0)).setCell ⟨g8, 4, none⟩ (.slice (some ⟨gB, 0, none⟩) 2 2)) = wd at *
              refine hK.out _ _ ?_ (fun hH2 => ?_)
              · exact ⟨n.kx.cell 0, n.kx.cell 1, n.kx.cell 2, n.kx.cell 3, n.kx.cell 4, n.ky.cell 0, n.ky.cell 1, n.ky.cell 2, n.ky.cell 3, n.ky.cell 4⟩
              clear hHeld hK K; have hHeld := hH2; clear hH2; try go_frame
              refine wpAnyH_done (by kernel_rfl) ?_ _
              go_wp2_with fail
              go_meet
              exact ⟨g7, g8, gA, gB, rfl, rfl, n.done⟩
            · go_simp
              replace n := n.mk8 #[.int .i64 0, .string ⟨#[]⟩, .int .i64 0, .int .i64 0, .slice none 0 0]
              obtain ⟨g8, hq⟩ : ∃ u, u = wd.heap.size := ⟨_, rfl⟩
              rw [← hq] at n ⊢
              clear hq
              generalize wd.alloc (.cells #[.int .i64 0, .string ⟨#[]⟩, .int .i64 0, .int .i64 0, .slice none 0 0] 24) = wd at *
              refine hK.out _ _ ?_ (fun hH2 => ?_)
              · exact ⟨n.kx.cell 0, n.kx.cell 1, n.kx.cell 2, n.kx.cell 3, n.kx.cell 4, n.ky.cell 0, n.ky.cell 1, n.ky.cell 2, n.ky.cell 3, n.ky.cell 4⟩
              clear hHeld hK K; have hHeld := hH2; clear hH2; try go_frame
              refine hyO (some 22) 2 rfl (fun K hK => ?_)
              go_simp
              replace n := n.mkA #[.int .i64 x0, .string xs, .int .i64 x2, .int .i64 x3, .slice xA xn xz, .int .i64 y0, .string ys, .int .i64 y2, .int .i64 y3, .slice yA yn yz]
              obtain ⟨gA, hq⟩ : ∃ u, u = wd.heap.size := ⟨_, rfl⟩
              rw [← hq] at n ⊢
              clear hq
              generalize wd.alloc (.cells #[.int .i64 x0, .string xs, .int .i64 x2, .int .i64 x3, .slice xA xn xz, .int .i64 y0, .string ys, .int .i64 y2, .int .i64 y3, .slice yA yn yz] 24) = wd at *
              refine hK.out _ _ ?_ (fun hH2 => ?_)
              · exact ⟨n.kx.cell 0, n.kx.cell 1, n.kx.cell 2, n.kx.cell 3, n.kx.cell 4, n.ky.cell 0, n.ky.cell 1, n.ky.cell 2, n.ky.cell 3, n.ky.cell 4⟩
              clear hHeld hK K; have hHeld := hH2; clear hH2; try go_frame
              refine hyY (some 23) 3 rfl hHeld ?_; go_frame
              refine hyO none 10 rfl (fun K hK => ?_)
              obtain ⟨⟨c0, c1, c2, c3, c4⟩, f0, f1, f2, f3, f4⟩ := n.h7.old
              go_simp
              clear c0 c1 c2 c3 c4 f0 f1 f2 f3 f4
              replace n := n.set7 (.int .i64 6) (.string ⟨#[]⟩) (.int .i64 0) (.int .i64 0) (.slice (some ⟨gA, 0, none⟩) 2 2)
              generalize (((((wd.setCell ⟨g7, 0, none⟩ (.int .i64 6)).setCell ⟨g7, 1, none⟩ (.string ⟨#[]⟩)).setCell ⟨g7, 2, none⟩ (.int .i64 0)).setCell ⟨g7, 3, none⟩ (.int .i64 0)).setCell ⟨g7, 4, none⟩ (.slice (some ⟨gA, 0, none⟩) 2 2)) = wd at *
              refine hK.out _ _ ?_ (fun hH2 => ?_)
              · exact ⟨n.kx.cell 0, n.kx.cell 1, n.kx.cell 2, n.kx.cell 3, n.kx.cell 4, n.ky.cell 0, n.ky.cell 1, n.ky.cell 2, n.ky.cell 3, n.ky.cell 4⟩
              clear hHeld hK K; have hHeld := hH2; clear hH2; try go_frame
              refine hyO none 11 rfl (fun K hK => ?_)
              obtain ⟨⟨c0, c1, c2, c3, c4⟩, f0, f1, f2, f3, f4⟩ := n.h8.old
              go_simp
              clear c0 c1 c2 c3 c4 f0 f1 f2 f3 f4
              replace n := n.set8 (.int .i64 7) (.string ⟨#[]⟩) (.int .i64 0) (.int .i64 0) (.slice (some ⟨gB, 0, none⟩) 2 2)
              generalize (((((wd.setCell ⟨g8, 0, none⟩ (.int .i64 7)).setCell ⟨g8, 1, none⟩ (.string ⟨#[]⟩)).setCell ⟨g8, 2, none⟩ (.int .i64 0)).setCell ⟨g8, 3, none⟩ (.int .i64 0)).setCell ⟨g8, 4, none⟩ (.slice (some ⟨gB, 0, none⟩) 2 2)) = wd at *
              refine hK.out _ _ ?_ (fun hH2 => ?_)
              · exact ⟨n.kx.cell 0, n.kx.cell 1, n.kx.cell 2, n.kx.cell 3, n.kx.cell 4, n.ky.cell 0, n.ky.cell 1, n.ky.cell 2, n.ky.cell 3, n.ky.cell 4⟩
              clear hHeld hK K; have hHeld := hH2; clear hH2; try go_frame
              refine wpAnyH_done (by kernel_rfl) ?_ _
              go_wp2_with fail
              go_meet
              exact ⟨g7, g8, gA, gB, rfl, rfl, n.done⟩
          · go_simp
            replace n := n.mk8 #[.int .i64 0, .string ⟨#[]⟩, .int .i64 0, .int .i64 0, .slice none 0 0]
            obtain ⟨g8, hq⟩ : ∃ u, u = wd.heap.size := ⟨_, rfl⟩
            rw [← hq] at n ⊢
            clear hq
            generalize wd.alloc (.cells #[.int .i64 0, .string ⟨#[]⟩, .int .i64 0, .int .i64 0, .slice none 0 0] 24) = wd at *
            refine hK.out _ _ ?_ (fun hH2 => ?_)
            · exact ⟨n.kx.cell 0, n.kx.cell 1, n.kx.cell 2, n.kx.cell 3, n.kx.cell 4, n.ky.cell 0, n.ky.cell 1, n.ky.cell 2, n.ky.cell 3, n.ky.cell 4⟩
            clear hHeld hK K; have hHeld := hH2; clear hH2; try go_frame
            refine held_two (o := ⟨some 22, _, _, _, _, _⟩) (p := ⟨some 26, _, _, _, _, _⟩) 2 6 (by kernel_rfl) rfl rfl (by rfl) (by rfl) (fun K hK => ?_) (fun K hK => ?_)
            · go_simp
              replace n := n.mkA #[.int .i64 x0, .string xs, .int .i64 x2, .int .i64 x3, .slice xA xn xz, .int .i64 y0, .string ys, .int .i64 y2, .int .i64 y3, .slice yA yn yz]
              obtain ⟨gA, hq⟩ : ∃ u, u = wd.heap.size := ⟨_, rfl⟩
              rw [← hq] at n ⊢
              clear hq
              generalize wd.alloc (.cells #[.int .i64 x0, .string xs, .int .i64 x2, .int .i64 x3, .slice xA xn xz, .int .i64 y0, .string ys, .int .i64 y2, .int .i64 y3, .slice yA yn yz] 24) = wd at *
              refine hK.out _ _ ?_ (fun hH2 => ?_)
              · exact ⟨n.kx.cell 0, n.kx.cell 1, n.kx.cell 2, n.kx.cell 3, n.kx.cell 4, n.ky.cell 0, n.ky.cell 1, n.ky.cell 2, n.ky.cell 3, n.ky.cell 4⟩
              clear hHeld hK K; have hHeld := hH2; clear hH2; try go_frame
              refine hyY (some 23) 3 rfl hHeld ?_; go_frame
              refine held_two (o := ⟨some 26, _, _, _, _, _⟩) (p := ⟨none, _, _, _, _, _⟩) 6 10 (by kernel_rfl) rfl rfl (by rfl) (by rfl) (fun K hK => ?_) (fun K hK => ?_)
              · go_simp
                replace n := n.mkB #[.int .i64 x0, .string xs, .int .i64 x2, .int .i64 x3, .slice xA xn xz, .int .i64 y0, .string ys, .int .i64 y2, .int .i64 y3, .slice yA yn yz]
                obtain ⟨gB, hq⟩ : ∃ u, u = wd.heap.size := ⟨_, rfl⟩
                rw [← hq] at n ⊢
                clear hq
                generalize wd.alloc (.cells #[.int .i64 x0, .string xs, .int .i64 x2, .int .i64 x3, .slice xA xn xz, .int .i64 y0, .string ys, .int .i64 y2, .int .i64 y3, .slice yA yn yz] 24) = wd at *
                refine hK.out _ _ ?_ (fun hH2 => ?_)
                · exact ⟨n.kx.cell 0, n.kx.cell 1, n.kx.cell 2, n.kx.cell 3, n.kx.cell 4, n.ky.cell 0, n.ky.cell 1, n.ky.cell 2, n.ky.cell 3, n.ky.cell 4⟩
                clear hHeld hK K; have hHeld := hH2; clear hH2; try go_frame
                refine hyY (some 27) 7 rfl hHeld ?_; go_frame
                refine hyO none 10 rfl (fun K hK => ?_)
                obtain ⟨⟨c0, c1, c2, c3, c4⟩, f0, f1, f2, f3, f4⟩ := n.h7.old
                go_simp
                clear c0 c1 c2 c3 c4 f0 f1 f2 f3 f4
                replace n := n.set7 (.int .i64 6) (.string ⟨#[]⟩) (.int .i64 0) (.int .i64 0) (.slice (some ⟨gA, 0, none⟩) 2 2)
                generalize (((((wd.setCell ⟨g7, 0, none⟩ (.int .i64 6)).setCell ⟨g7, 1, none⟩ (.string ⟨#[]⟩)).setCell ⟨g7, 2, none⟩ (.int .i64 0)).setCell ⟨g7, 3, none⟩ (.int .i64 0)).setCell ⟨g7, 4, none⟩ (.slice (some ⟨gA, 0, none⟩) 2 2)) = wd at *
                refine hK.out _ _ ?_ (fun hH2 => ?_)
                · exact ⟨n.kx.cell 0, n.kx.cell 1, n.kx.cell 2, n.kx.cell 3, n.kx.cell 4, n.ky.cell 0, n.ky.cell 1, n.ky.cell 2, n.ky.cell 3, n.ky.cell 4⟩
                clear hHeld hK K; have hHeld := hH2; clear hH2; try go_frame
                refine hyO none 11 rfl (fun K hK => ?_)
                obtain ⟨⟨c0, c1, c2, c3, c4⟩, f0, f1, f2, f3, f4⟩ := n.h8.old
                go_simp
                clear c0 c1 c2 c3 c4 f0 f1 f2 f3 f4
                replace n := n.set8 (.int .i64 7) (.string ⟨#[]⟩) (.int .i64 0) (.int .i64 0) (.slice (some ⟨gB, 0, none⟩) 2 2)
                generalize (((((wd.setCell ⟨g8, 0, none⟩ (.int .i64 7)).setCell ⟨g8, 1, none⟩ (.string ⟨#[]⟩)).setCell ⟨g8, 2, none⟩ (.int .i64 0)).setCell ⟨g8, 3, none⟩ (.int .i64 0)).setCell ⟨g8, 4, none⟩ (.slice (some ⟨gB, 0, none⟩) 2 2)) = wd at *
                refine hK.out _ _ ?_ (fun hH2 => ?_)
                · exact ⟨n.kx.cell 0, n.kx.cell 1, n.kx.cell 2, n.kx.cell 3, n.kx.cell 4, n.ky.cell 0, n.ky.cell 1, n.ky.cell 2, n.ky.cell 3, n.ky.cell 4⟩
                clear hHeld hK K; have hHeld := hH2; clear hH2; try go_frame
                refine wpAnyH_done (by kernel_rfl) ?_ _
                go_wp2_with fail
                go_meet
                exact ⟨g7, g8, gA, gB, rfl, rfl, n.done⟩
              · obtain ⟨⟨c0, c1, c2, c3, c4⟩, f0, f1, f2, f3, f4⟩ := n.h7.old
                go_simp
                clear c0 c1 c2 c3 c4 f0 f1 f2 f3 f4
                replace n := n.set7 (.int .i64 6) (.string ⟨#[]⟩) (.int .i64 0) (.int .i64 0) (.slice (some ⟨gA, 0, none⟩) 2 2)
                generalize (((((wd.setCell ⟨g7, 0, none⟩ (.int .i64 6)).setCell ⟨g7, 1, none⟩ (.string ⟨#[]⟩)).setCell ⟨g7, 2, none⟩ (.int .i64 0)).setCell ⟨g7, 3, none⟩ (.int .i64 0)).setCell ⟨g7, 4, none⟩ (.slice (some ⟨gA, 0, none⟩) 2 2)) = wd at *
                refine hK.out _ _ ?_ (fun hH2 => ?_)
                · exact ⟨n.kx.cell 0, n.kx.cell 1, n.kx.cell 2, n.kx.cell 3, n.kx.cell 4, n.ky.cell 0, n.ky.cell 1, n.ky.cell 2, n.ky.cell 3, n.ky.cell 4⟩
                clear hHeld hK K; have hHeld := hH2; clear hH2; try go_frame
                refine hyO (some 26) 6 rfl (fun K hK => ?_)
                go_simp
                replace n := n.mkB #[.int .i64 x0, .string xs, .int .i64 x2, .int .i64 x3, .slice xA xn xz, .int .i64 y0, .string ys, .int .i64 y2, .int .i64 y3, .slice yA yn yz]
                obtain ⟨gB, hq⟩ : ∃ u, u = wd.heap.size := ⟨_, rfl⟩
                rw [← hq] at n ⊢
                clear hq
                generalize wd.alloc (.cells #[.int .i64 x0, .string xs, .int .i64 x2, .int .i64 x3, .slice xA xn xz, .int .i64 y0, .string ys, .int .i64 y2, .int .i64 y3, .slice yA yn yz] 24) = wd at *
                refine hK.out _ _ ?_ (fun hH2 => ?_)
                · exact ⟨n.kx.cell 0, n.kx.cell 1, n.kx.cell 2, n.kx.cell 3, n.kx.cell 4, n.ky.cell 0, n.ky.cell 1, n.ky.cell 2, n.ky.cell 3, n.ky.cell 4⟩
                clear hHeld hK K; have hHeld := hH2; clear hH2; try go_frame
                refine hyY (some 27) 7 rfl hHeld ?_; go_frame
                refine hyO none 11 rfl (fun K hK => ?_)
                obtain ⟨⟨c0, c1, c2, c3, c4⟩, f0, f1, f2, f3, f4⟩ := n.h8.old
                go_simp
                clear c0 c1 c2 c3 c4 f0 f1 f2 f3 f4
                replace n := n.set8 (.int .i64 7) (.string ⟨#[]⟩) (.int .i64 0) (.int .i64 0) (.slice (some ⟨gB, 0, none⟩) 2 2)
                generalize (((((wd.setCell ⟨g8, 0, none⟩ (.int .i64 7)).setCell ⟨g8, 1, none⟩ (.string ⟨#[]⟩)).setCell ⟨g8, 2, none⟩ (.int .i64 0)).setCell ⟨g8, 3, none⟩ (.int .i64 0)).setCell ⟨g8, 4, none⟩ (.slice (some ⟨gB, 0, none⟩) 2 2)) = wd at *
                refine hK.out _ _ ?_ (fun hH2 => ?_)
                · exact ⟨n.kx.cell 0, n.kx.cell 1, n.kx.cell 2, n.kx.cell 3, n.kx.cell 4, n.ky.cell 0, n.ky.cell 1, n.ky.cell 2, n.ky.cell 3, n.ky.cell 4⟩
                clear hHeld hK K; have hHeld := hH2; clear hH2; try go_frame
                refine wpAnyH_done (by kernel_rfl) ?_ _
                go_wp2_with fail
                go_meet
                exact ⟨g7, g8, gA, gB, rfl, rfl, n.done⟩
            · go_simp
              replace n := n.mkB #[.int .i64 x0, .string xs, .int .i64 x2, .int .i64 x3, .slice xA xn xz, .int .i64 y0, .string ys, .int .i64 y2, .int .i64 y3, .slice yA yn yz]
              obtain ⟨gB, hq⟩ : ∃ u, u = wd.heap.size := ⟨_, rfl⟩
              rw [← hq] at n ⊢
              clear hq
              generalize wd.alloc (.cells #[.int .i64 x0, .string xs, .int .i64 x2, .int .i64 x3, .slice xA xn xz, .int .i64 y0, .string ys, .int .i64 y2, .int .i64 y3, .slice yA yn yz] 24) = wd at *
              refine hK.out _ _ ?_ (fun hH2 => ?_)
              · exact ⟨n.kx.cell 0, n.kx.cell 1, n.kx.cell 2, n.kx.cell 3, n.kx.cell 4, n.ky.cell 0, n.ky.cell 1, n.ky.cell 2, n.ky.cell 3, n.ky.cell 4⟩
              clear hHeld hK K; have hHeld := hH2; clear hH2; try go_frame
              refine hyY (some 27) 7 rfl hHeld ?_; go_frame
              refine hyO (some 22) 2 rfl (fun K hK => ?_)
              go_simp
              replace n := n.mkA #[.int .i64 x0, .string xs, .int .i64 x2, .int .i64 x3, .slice xA xn xz, .int .i64 y0, .string ys, .int .i64 y2, .int .i64 y3, .slice yA yn yz]
              obtain ⟨gA, hq⟩ : ∃ u, u = wd.heap.size := ⟨_, rfl⟩
              rw [← hq] at n ⊢
              clear hq
              generalize wd.alloc (.cells #[.int .i64 x0, .string xs, .int .i64 x2, .int .i64 x3, .slice xA xn xz, .int .i64 y0, .string ys, .int .i64 y2, .int .i64 y3, .slice yA yn yz] 24) = wd at *
              refine hK.out _ _ ?_ (fun hH2 => ?_)
              · exact ⟨n.kx.cell 0, n.kx.cell 1, n.kx.cell 2, n.kx.cell 3, n.kx.cell 4, n.ky.cell 0, n.ky.cell 1, n.ky.cell 2, n.ky.cell 3, n.ky.cell 4⟩
              clear hHeld hK K; have hHeld := hH2; clear hH2; try go_frame
              refine hyY (some 23) 3 rfl hHeld ?_; go_frame
              refine hyO none 10 rfl (fun K hK => ?_)
              obtain ⟨⟨c0, c1, c2, c3, c4⟩, f0, f1, f2, f3, f4⟩ := n.h7.old
              go_simp
              clear c0 c1 c2 c3 c4 f0 f1 f2 f3 f4
              replace n := n.set7 (.int .i64 6) (.string ⟨#[]⟩) (.int .i64 0) (.int .i64 0) (.slice (some ⟨gA, 0, none⟩) 2 2)
              generalize (((((wd.setCell ⟨g7, 0, none⟩ (.int .i64 6)).setCell ⟨g7, 1, none⟩ (.string ⟨#[]⟩)).setCell ⟨g7, 2, none⟩ (.int .i64 0)).setCell ⟨g7, 3, none⟩ (.int .i64 0)).setCell ⟨g7, 4, none⟩ (.slice (some ⟨gA, 0, none⟩) 2 2)) = wd at *
              refine hK.out _ _ ?_ (fun hH2 => ?_)
              · exact ⟨n.kx.cell 0, n.kx.cell 1, n.kx.cell 2, n.kx.cell 3, n.kx.cell 4, n.ky.cell 0, n.ky.cell 1, n.ky.cell 2, n.ky.cell 3, n.ky.cell 4⟩
              clear hHeld hK K; have hHeld := hH2; clear hH2; try go_frame
              refine hyO none 11 rfl (fun K hK => ?_)
              obtain ⟨⟨c0, c1, c2, c3, c4⟩, f0, f1, f2, f3, f4⟩ := n.h8.old
              go_simp
              clear c0 c1 c2 c3 c4 f0 f1 f2 f3 f4
              replace n := n.set8 (.int .i64 7) (.string ⟨#[]⟩) (.int .i64 0) (.int .i64 0) (.slice (some ⟨gB, 0, none⟩) 2 2)
              generalize (((((wd.setCell ⟨g8, 0, none⟩ (.int .i64 7)).setCell ⟨g8, 1, none⟩ (.string ⟨#[]⟩)).setCell ⟨g8, 2, none⟩ (.int .i64 0)).setCell ⟨g8, 3, none⟩ (.int .i64 0)).setCell ⟨g8, 4, none⟩ (.slice (some ⟨gB, 0, none⟩) 2 2)) = wd at *
              refine hK.out _ _ ?_ (fun hH2 => ?_)
              · exact ⟨n.kx.cell 0, n.kx.cell 1, n.kx.cell 2, n.kx.cell 3, n.kx.cell 4, n.ky.cell 0, n.ky.cell 1, n.ky.cell 2, n.ky.cell 3, n.ky.cell 4⟩
              clear hHeld hK K; have hHeld := hH2; clear hH2; try go_frame
              refine wpAnyH_done (by kernel_rfl) ?_ _
              go_wp2_with fail
              go_meet
              exact ⟨g7, g8, gA, gB, rfl, rfl, n.done⟩
        · go_simp
          replace n := n.mk8 #[.int .i64 0, .string ⟨#[]⟩, .int .i64 0, .int .i64 0, .slice none 0 0]
          obtain ⟨g8, hq⟩ : ∃ u, u = wd.heap.size := ⟨_, rfl⟩
          rw [← hq] at n ⊢
          clear hq
          generalize wd.alloc (.cells #[.int .i64 0, .string ⟨#[]⟩, .int .i64 0, .int .i64 0, .slice none 0 0] 24) = wd at *
          refine hK.out _ _ ?_ (fun hH2 => ?_)
          · exact ⟨n.kx.cell 0, n.kx.cell 1, n.kx.cell 2, n.kx.cell 3, n.kx.cell 4, n.ky.cell 0, n.ky.cell 1, n.ky.cell 2, n.ky.cell 3, n.ky.cell 4⟩
          clear hHeld hK K; have hHeld := hH2; clear hH2; try go_frame
          refine held_three (o := ⟨some 22, _, _, _, _, _⟩) (p := ⟨some 26, _, _, _, _, _⟩) (q := ⟨some 7, _, _, _, _, _⟩) 2 6 8 (by kernel_rfl) rfl rfl rfl (by rfl) (by rfl) (by rfl) (fun K hK => ?_) (fun K hK => ?_) (fun K hK => ?_)
          · go_simp
            replace n := n.mkA #[.int .i64 x0, .string xs, .int .i64 x2, .int .i64 x3, .slice xA xn xz, .int .i64 y0, .string ys, .int .i64 y2, .int .i64 y3, .slice yA yn yz]
            obtain ⟨gA, hq⟩ : ∃ u, u = wd.heap.size := ⟨_, rfl⟩
            rw [← hq] at n ⊢
            clear hq
            generalize wd.alloc (.cells #[.int .i64 x0, .string xs, .int .i64 x2, .int .i64 x3, .slice xA xn xz, .int .i64 y0, .string ys, .int .i64 y2, .int .i64 y3, .slice yA yn yz] 24) = wd at *
            refine hK.out _ _ ?_ (fun hH2 => ?_)
            · exact ⟨n.kx.cell 0, n.kx.cell 1, n.kx.cell 2, n.kx.cell 3, n.kx.cell 4, n.ky.cell 0, n.ky.cell 1, n.ky.cell 2, n.ky.cell 3, n.ky.cell 4⟩
            clear hHeld hK K; have hHeld := hH2; clear hH2; try go_frame
            refine hyY (some 23) 3 rfl hHeld ?_; go_frame
            refine held_two (o := ⟨some 26, _, _, _, _, _⟩) (p := ⟨some 7, _, _, _, _, _⟩) 6 8 (by kernel_rfl) rfl rfl (by rfl) (by rfl) (fun K hK => ?_) (fun K hK => ?_)
            · go_simp
              replace n := n.mkB #[.int .i64 x0, .string xs, .int .i64 x2, .int .i64 x3, .slice xA xn xz, .int .i64 y0, .string ys, .int .i64 y2, .int .i64 y3, .slice yA yn yz]
              obtain ⟨gB, hq⟩ : ∃ u, u = wd.heap.size := ⟨_, rfl⟩
              rw [← hq] at n ⊢
              clear hq
              generalize wd.alloc (.cells #[.int .i64 x0, .string xs, .int .i64 x2, .int .i64 x3, .slice xA xn xz, .int .i64 y0, .string ys, .int .i64 y2, .int .i64 y3, .slice yA yn yz] 24) = wd at *
              refine hK.out _ _ ?_ (fun hH2 => ?_)
              · exact ⟨n.kx.cell 0, n.kx.cell 1, n.kx.cell 2, n.kx.cell 3, n.kx.cell 4, n.ky.cell 0, n.ky.cell 1, n.ky.cell 2, n.ky.cell 3, n.ky.cell 4⟩
              clear hHeld hK K; have hHeld := hH2; clear hH2; try go_frame
              refine hyY (some 27) 7 rfl hHeld ?_; go_frame
              refine hyO (some 7) 8 rfl (fun K hK => ?_)
              go_simp
              replace n := n.mk7 #[.int .i64 0, .string ⟨#[]⟩, .int .i64 0, .int .i64 0, .slice none 0 0]
              obtain ⟨g7, hq⟩ : ∃ u, u = wd.heap.size := ⟨_, rfl⟩
              rw [← hq] at n ⊢
              clear hq
              generalize wd.alloc (.cells #[.int .i64 0, .string ⟨#[]⟩, .int .i64 0, .int .i64 0, .slice none 0 0] 24) = wd at *
              refine hK.out _ _ ?_ (fun hH2 => ?_)
              · exact ⟨n.kx.cell 0, n.kx.cell 1, n.kx.cell 2, n.kx.cell 3, n.kx.cell 4, n.ky.cell 0, n.ky.cell 1, n.ky.cell 2, n.ky.cell 3, n.ky.cell 4⟩
              clear hHeld hK K; have hHeld := hH2; clear hH2; try go_frame
              refine hyO none 10 rfl (fun K hK => ?_)
              obtain ⟨⟨c0, c1, c2, c3, c4⟩, f0, f1, f2, f3, f4⟩ := n.h7.old
              go_simp
              clear c0 c1 c2 c3 c4 f0 f1 f2 f3 f4
              replace n := n.set7 (.int .i64 6) (.string ⟨#[]⟩) (.int .i64 0) (.int .i64 0) (.slice (some ⟨gA, 0, none⟩) 2 2)
              generalize (((((wd.setCell ⟨g7, 0, none⟩ (.int .i64 6)).setCell ⟨g7, 1, none⟩ (.string ⟨#[]⟩)).setCell ⟨g7, 2, none⟩ (.int .i64 0)).setCell ⟨g7, 3, none⟩ (.int .i64 0)).setCell ⟨g7, 4, none⟩ (.slice (some ⟨gA, 0, none⟩) 2 2)) = wd at *
              refine hK.out _ _ ?_ (fun hH2 => ?_)
              · exact ⟨n.kx.cell 0, n.kx.cell 1, n.kx.cell 2, n.kx.cell 3, n.kx.cell 4, n.ky.cell 0, n.ky.cell 1, n.ky.cell 2, n.ky.cell 3, n.ky.cell 4⟩
              clear hHeld hK K; have hHeld := hH2; clear hH2; try go_frame
              refine hyO none 11 rfl (fun K hK => ?_)
              obtain ⟨⟨c0, c1, c2, c3, c4⟩, f0, f1, f2, f3, f4⟩ := n.h8.old
              go_simp
              clear c0 c1 c2 c3 c4 f0 f1 f2 f3 f4
              replace n := n.set8 (.int .i64 7) (.string ⟨#[]⟩) (.int .i64 0) (.int .i64 0) (.slice (some ⟨gB, 0, none⟩) 2 2)
              generalize (((((wd.setCell ⟨g8, 0, none⟩ (.int .i64 7)).setCell ⟨g8, 1, none⟩ (.string ⟨#[]⟩)).setCell ⟨g8, 2, none⟩ (.int .i64 0)).setCell ⟨g8, 3, none⟩ (.int .i64 0)).setCell ⟨g8, 4, none⟩ (.slice (some ⟨gB, 0, none⟩) 2 2)) = wd at *
              refine hK.out _ _ ?_ (fun hH2 => ?_)
              · exact ⟨n.kx.cell 0, n.kx.cell 1, n.kx.cell 2, n.kx.cell 3, n.kx.cell 4, n.ky.cell 0, n.ky.cell 1, n.ky.cell 2, n.ky.cell 3, n.ky.cell 4⟩
              clear hHeld hK K; have hHeld := hH2; clear hH2; try go_frame
              refine wpAnyH_done (by kernel_rfl) ?_ _
              go_wp2_with fail
              go_meet
              exact ⟨g7, g8, gA, gB, rfl, rfl, n.done⟩
            · go_simp
              replace n := n.mk7 #[.int .i64 0, .string ⟨#[]⟩, .int .i64 0, .int .i64 0, .slice none 0 0]
              obtain ⟨g7, hq⟩ : ∃ u, u = wd.heap.size := ⟨_, rfl⟩
              rw [← hq] at n ⊢
              clear hq
              generalize wd.alloc (.cells #[.int .i64 0, .string ⟨#[]⟩, .int .i64 0, .int .i64 0, .slice none 0 0] 24) = wd at *
              refine hK.out _ _ ?_ (fun hH2 => ?_)
              · exact ⟨n.kx.cell 0, n.kx.cell 1, n.kx.cell 2, n.kx.cell 3, n.kx.cell 4, n.ky.cell 0, n.ky.cell 1, n.ky.cell 2, n.ky.cell 3, n.ky.cell 4⟩
              clear hHeld hK K; have hHeld := hH2; clear hH2; try go_frame
              refine held_two (o := ⟨some 26, _, _, _, _, _⟩) (p := ⟨none, _, _, _, _, _⟩) 6 10 (by kernel_rfl) rfl rfl (by rfl) (by rfl) (fun K hK => ?_) (fun K hK => ?_)
              · go_simp
                replace n := n.mkB #[.int .i64 x0, .string xs, .int .i64 x2, .int .i64 x3, .slice xA xn xz, .int .i64 y0, .string ys, .int .i64 y2, .int .i64 y3, .slice yA yn yz]
                obtain ⟨gB, hq⟩ : ∃ u, u = wd.heap.size := ⟨_, rfl⟩
                rw [← hq] at n ⊢
                clear hq
                generalize wd.alloc (.cells #[.int .i64 x0, .string xs, .int .i64 x2, .int .i64 x3, .slice xA xn xz, .int .i64 y0, .string ys, .int .i64 y2, .int .i64 y3, .slice yA yn yz] 24) = wd at *
                refine hK.out _ _ ?_ (fun hH2 => ?_)
                · exact ⟨n.kx.cell 0, n.kx.cell 1, n.kx.cell 2, n.kx.cell 3, n.kx.cell 4, n.ky.cell 0, n.ky.cell 1, n.ky.cell 2, n.ky.cell 3, n.ky.cell 4⟩
                clear hHeld hK K; have hHeld := hH2; clear hH2; try go_frame
                refine hyY (some 27) 7 rfl hHeld ?_; go_frame
                refine hyO none 10 rfl (fun K hK => ?_)
                obtain ⟨⟨c0, c1, c2, c3, c4⟩, f0, f1, f2, f3, f4⟩ := n.h7.old
                go_simp
                clear c0 c1 c2 c3 c4 f0 f1 f2 f3 f4
                replace n := n.set7 (.int .i64 6) (.string ⟨#[]⟩) (.int .i64 0) (.int .i64 0) (.slice (some ⟨gA, 0, none⟩) 2 2)
                generalize (((((wd.setCell ⟨g7, 0, none⟩ (.int .i64 6)).setCell ⟨g7, 1, none⟩ (.string ⟨#[]⟩)).setCell ⟨g7, 2, none⟩ (.int .i64 0)).setCell ⟨g7, 3, none⟩ (.int .i64 0)).setCell ⟨g7, 4, none⟩ (.slice (some ⟨gA, 0, none⟩) 2 2)) = wd at *
                refine hK.out _ _ ?_ (fun hH2 => ?_)
                · exact ⟨n.kx.cell 0, n.kx.cell 1, n.kx.cell 2, n.kx.cell 3, n.kx.cell 4, n.ky.cell 0, n.ky.cell 1, n.ky.cell 2, n.ky.cell 3, n.ky.cell 4⟩
                clear hHeld hK K; have hHeld := hH2; clear hH2; try go_frame
                refine hyO none 11 rfl (fun K hK => ?_)
                obtain ⟨⟨c0, c1, c2, c3, c4⟩, f0, f1, f2, f3, f4⟩ := n.h8.old
                go_simp
                clear c0 c1 c2 c3 c4 f0 f1 f2 f3 f4
                replace n := n.set8 (.int .i64 7) (.string ⟨#[]⟩) (.int .i64 0) (.int .i64 0) (.slice (some ⟨gB, 0, none⟩) 2 2)
                generalize (((((wd.setCell ⟨g8, 0, none⟩ (.int .i64 7)).setCell ⟨g8, 1, none⟩ (.string ⟨#[]⟩)).setCell ⟨g8, 2, none⟩ (.int .i64 0)).setCell ⟨g8, 3, none⟩ (.int .i64 0)).setCell ⟨g8, 4, none⟩ (.slice (some ⟨gB, 0, none⟩) 2 2)) = wd at *
                refine hK.out _ _ ?_ (fun hH2 => ?_)
                · exact ⟨n.kx.cell 0, n.kx.cell 1, n.kx.cell 2, n.kx.cell 3, n.kx.cell 4, n.ky.cell 0, n.ky.cell 1, n.ky.cell 2, n.ky.cell 3, n.ky.cell 4⟩
                clear hHeld hK K; have hHeld := hH2; clear hH2; try go_frame
                refine wpAnyH_done (by kernel_rfl) ?_ _
                go_wp2_with fail
                go_meet
                exact ⟨g7, g8, gA, gB, rfl, rfl, n.done⟩
              · obtain ⟨⟨c0, c1, c2, c3, c4⟩, f0, f1, f2, f3, f4⟩ := n.h7.old
                go_simp
                clear c0 c1 c2 c3 c4 f0 f1 f2 f3 f4
                replace n := n.set7 (.int .i64 6) (.string ⟨#[]⟩) (.int .i64 0) (.int .i64 0) (.slice (some ⟨gA, 0, none⟩) 2 2)
                generalize (((((wd.setCell ⟨g7, 0, none⟩ (.int .i64 6)).setCell ⟨g7, 1, none⟩ (.string ⟨#[]⟩)).setCell ⟨g7, 2, none⟩ (.int .i64 0)).setCell ⟨g7, 3, none⟩ (.int .i64 0)).setCell ⟨g7, 4, none⟩ (.slice (some ⟨gA, 0, none⟩) 2 2)) = wd at *
                refine hK.out _ _ ?_ (fun hH2 => ?_)
                · exact ⟨n.kx.cell 0, n.kx.cell 1, n.kx.cell 2, n.kx.cell 3, n.kx.cell 4, n.ky.cell 0, n.ky.cell 1, n.ky.cell 2, n.ky.cell 3, n.ky.cell 4⟩
                clear hHeld hK K; have hHeld := hH2; clear hH2; try go_frame
                refine hyO (some 26) 6 rfl (fun K hK => ?_)
                go_simp
                replace n := n.mkB #[.int .i64 x0, .string xs, .int .i64 x2, .int .i64 x3, .slice xA xn xz, .int .i64 y0, .string ys, .int .i64 y2, .int .i64 y3, .slice yA yn yz]
                obtain ⟨gB, hq⟩ : ∃ u, u = wd.heap.size := ⟨_, rfl⟩
                rw [← hq] at n ⊢
                clear hq
                generalize wd.alloc (.cells #[.int .i64 x0, .string xs, .int .i64 x2, .int .i64 x3, .slice xA xn xz, .int .i64 y0, .string ys, .int .i64 y2, .int .i64 y3, .slice yA yn yz] 24) = wd at *
                refine hK.out _ _ ?_ (fun hH2 => ?_)
                · exact ⟨n.kx.cell 0, n.kx.cell 1, n.kx.cell 2, n.kx.cell 3, n.kx.cell 4, n.ky.cell 0, n.ky.cell 1, n.ky.cell 2, n.ky.cell 3, n.ky.cell 4⟩
                clear hHeld hK K; have hHeld := hH2; clear hH2; try go_frame
                refine hyY (some 27) 7 rfl hHeld ?_; go_frame
                refine hyO none 11 rfl (fun K hK => ?_)
                obtain ⟨⟨c0, c1, c2, c3, c4⟩, f0, f1, f2, f3, f4⟩ := n.h8.old
                go_simp
                clear c0 c1 c2 c3 c4 f0 f1 f2 f3 f4
                replace n := n.set8 (.int .i64 7) (.string ⟨#[]⟩) (.int .i64 0) (.int .i64 0) (.slice (some ⟨gB, 0, none⟩) 2 2)
                generalize (((((wd.setCell ⟨g8, 0, none⟩ (.int .i64 7)).setCell ⟨g8, 1, none⟩ (.string ⟨#[]⟩)).setCell ⟨g8, 2, none⟩ (.int .i64 0)).setCell ⟨g8, 3, none⟩ (.int .i64 0)).setCell ⟨g8, 4, none⟩ (.slice (some ⟨gB, 0, none⟩) 2 2)) = wd at *
                refine hK.out _ _ ?_ (fun hH2 => ?_)
                · exact ⟨n.kx.cell 0, n.kx.cell 1, n.kx.cell 2, n.kx.cell 3, n.kx.cell 4, n.ky.cell 0, n.ky.cell 1, n.ky.cell 2, n.ky.cell 3, n.ky.cell 4⟩
                clear hHeld hK K; have hHeld := hH2; clear hH2; try go_frame
                refine wpAnyH_done (by kernel_rfl) ?_ _
                go_wp2_with fail
                go_meet
                exact ⟨g7, g8, gA, gB, rfl, rfl, n.done⟩
          · go_simp
            replace n := n.mkB #[.int .i64 x0, .string xs, .int .i64 x2, .int .i64 x3, .slice xA xn xz, .int .i64 y0, .string ys, .int .i64 y2, .int .i64 y3, .slice yA yn yz]
            obtain ⟨gB, hq⟩ : ∃ u, u = wd.heap.size := ⟨_, rfl⟩
            rw [← hq] at n ⊢
            clear hq
            generalize wd.alloc (.cells #[.int .i64 x0, .string xs, .int .i64 x2, .int .i64 x3, .slice xA xn xz, .int .i64 y0, .string ys, .int .i64 y2, .int .i64 y3, .slice yA yn yz] 24) = wd at *
            refine hK.out _ _ ?_ (fun hH2 => ?_)
            · exact ⟨n.kx.cell 0, n.kx.cell 1, n.kx.cell 2, n.kx.cell 3, n.kx.cell 4, n.ky.cell 0, n.ky.cell 1, n.ky.cell 2, n.ky.cell 3, n.ky.cell 4⟩
            clear hHeld hK K; have hHeld := hH2; clear hH2; try go_frame
            refine hyY (some 27) 7 rfl hHeld ?_; go_frame
            refine held_two (o := ⟨some 22, _, _, _, _, _⟩) (p := ⟨some 7, _, _, _, _, _⟩) 2 8 (by kernel_rfl) rfl rfl (by rfl) (by rfl) (fun K hK => ?_) (fun K hK => ?_)
            · go_simp
              replace n := n.mkA #[.int .i64 x0, .string xs, .int .i64 x2, .int .i64 x3, .slice xA xn xz, .int .i64 y0, .string ys, .int .i64 y2, .int .i64 y3, .slice yA yn yz]
              obtain ⟨gA, hq⟩ : ∃ u, u = wd.heap.size := ⟨_, rfl⟩
              rw [← hq] at n ⊢
              clear hq
              generalize wd.alloc (.cells #[.int .i64 x0, .string xs, .int .i64 x2, .int .i64 x3, .slice xA xn xz, .int .i64 y0, .string ys, .int .i64 y2, .int .i64 y3, .slice yA yn yz] 24) = wd at *
              refine hK.out _ _ ?_ (fun hH2 => ?_)
              · exact ⟨n.kx.cell 0, n.kx.cell 1, n.kx.cell 2, n.kx.cell 3, n.kx.cell 4, n.ky.cell 0, n.ky.cell 1, n.ky.cell 2, n.ky.cell 3, n.ky.cell 4⟩
              clear hHeld hK K; have hHeld := hH2; clear hH2; try go_frame
              refine hyY (some 23) 3 rfl hHeld ?_; go_frame
              refine hyO (some 7) 8 rfl (fun K hK => ?_)
              go_simp
              replace n := n.mk7 #[.int .i64 0, .string ⟨#[]⟩, .int .i64 0, .int .i64 0, .slice none 0 0]
              obtain ⟨g7, hq⟩ : ∃ u, u = wd.heap.size := ⟨_, rfl⟩
              rw [← hq] at n ⊢
              clear hq
              generalize wd.alloc (.cells #[.int .i64 0, .string ⟨#[]⟩, .int .i64 0, .int .i64 0, .slice none 0 0] 24) = wd at *
              refine hK.out _ _ ?_ (fun hH2 => ?_)
              · exact ⟨n.kx.cell 0, n.kx.cell 1, n.kx.cell 2, n.kx.cell 3, n.kx.cell 4, n.ky.cell 0, n.ky.cell 1, n.ky.cell 2, n.ky.cell 3, n.ky.cell 4⟩
              clear hHeld hK K; have hHeld := hH2; clear hH2; try go_frame
              refine hyO none 10 rfl (fun K hK => ?_)
              obtain ⟨⟨c0, c1, c2, c3, c4⟩, f0, f1, f2, f3, f4⟩ := n.h7.old
              go_simp
              clear c0 c1 c2 c3 c4 f0 f1 f2 f3 f4
              replace n := n.set7 (.int .i64 6) (.string ⟨#[]⟩) (.int .i64 0) (.int .i64 0) (.slice (some ⟨gA, 0, none⟩) 2 2)
              generalize (((((wd.setCell ⟨g7, 0, none⟩ (.int .i64 6)).setCell ⟨g7, 1, none⟩ (.string ⟨#[]⟩)).setCell ⟨g7, 2, none⟩ (.int .i64 0)).setCell ⟨g7, 3, none⟩ (.int .i64 0)).setCell ⟨g7, 4, none⟩ (.slice (some ⟨gA, 0, none⟩) 2 2)) = wd at *
              refine hK.out _ _ ?_ (fun hH2 => ?_)
              · exact ⟨n.kx.cell 0, n.kx.cell 1, n.kx.cell 2, n.kx.cell 3, n.kx.cell 4, n.ky.cell 0, n.ky.cell 1, n.ky.cell 2, n.ky.cell 3, n.ky.cell 4⟩
              clear hHeld hK K; have hHeld := hH2; clear hH2; try go_frame
              refine hyO none 11 rfl (fun K hK => ?_)
              obtain ⟨⟨c0, c1, c2, c3, c4⟩, f0, f1, f2, f3, f4⟩ := n.h8.old
              go_simp
              clear c0 c1 c2 c3 c4 f0 f1 f2 f3 f4
              replace n := n.set8 (.int .i64 7) (.string ⟨#[]⟩) (.int .i64 0) (.int .i64 0) (.slice (some ⟨gB, 0, none⟩) 2 2)
              generalize (((((wd.setCell ⟨g8, 0, none⟩ (.int .i64 7)).setCell ⟨g8, 1, none⟩ (.string ⟨#[]⟩)).setCell ⟨g8, 2, none⟩ (.int .i64 0)).setCell ⟨g8, 3, none⟩ (.int .i64 0)).setCell ⟨g8, 4, none⟩ (.slice (some ⟨gB, 0, none⟩) 2 2)) = wd at *
              refine hK.out _ _ ?_ (fun hH2 => ?_)
              · exact ⟨n.kx.cell 0, n.kx.cell 1, n.kx.cell 2, n.kx.cell 3, n.kx.cell 4, n.ky.cell 0, n.ky.cell 1, n.ky.cell 2, n.ky.cell 3, n.ky.cell 4⟩
              clear hHeld hK K; have hHeld := hH2; clear hH2; try go_frame
              refine wpAnyH_done (by kernel_rfl) ?_ _
              go_wp2_with fail
              go_meet
              exact ⟨g7, g8, gA, gB, rfl, rfl, n.done⟩
            · go_simp
              replace n := n.mk7 #[.int .i64 0, .string ⟨#[]⟩, .int .i64 0, .int .i64 0, .slice none 0 0]
              obtain ⟨g7, hq⟩ : ∃ u, u = wd.heap.size := ⟨_, rfl⟩
              rw [← hq] at n ⊢
              clear hq
              generalize wd.alloc (.cells #[.int .i64 0, .string ⟨#[]⟩, .int .i64 0, .int .i64 0, .slice none 0 0] 24) = wd at *
              refine hK.out _ _ ?_ (fun hH2 => ?_)
              · exact ⟨n.kx.cell 0, n.kx.cell 1, n.kx.cell 2, n.kx.cell 3, n.kx.cell 4, n.ky.cell 0, n.ky.cell 1, n.ky.cell 2, n.ky.cell 3, n.ky.cell 4⟩
              clear hHeld hK K; have hHeld := hH2; clear hH2; try go_frame
              refine hyO (some 22) 2 rfl (fun K hK => ?_)
              go_simp
              replace n := n.mkA #[.int .i64 x0, .string xs, .int .i64 x2, .int .i64 x3, .slice xA xn xz, .int .i64 y0, .string ys, .int .i64 y2, .int .i64 y3, .slice yA yn yz]
              obtain ⟨gA, hq⟩ : ∃ u, u = wd.heap.size := ⟨_, rfl⟩
              rw [← hq] at n ⊢
              clear hq
              generalize wd.alloc (.cells #[.int .i64 x0, .string xs, .int .i64 x2, .int .i64 x3, .slice xA xn xz, .int .i64 y0, .string ys, .int .i64 y2, .int .i64 y3, .slice yA yn yz] 24) = wd at *
              refine hK.out _ _ ?_ (fun hH2 => ?_)
              · exact ⟨n.kx.cell 0, n.kx.cell 1, n.kx.cell 2, n.kx.cell 3, n.kx.cell 4, n.ky.cell 0, n.ky.cell 1, n.ky.cell 2, n.ky.cell 3, n.ky.cell 4⟩
              clear hHeld hK K; have hHeld := hH2; clear hH2; try go_frame
              refine hyY (some 23) 3 rfl hHeld ?_; go_frame
              refine hyO none 10 rfl (fun K hK => ?_)
              obtain ⟨⟨c0, c1, c2, c3, c4⟩, f0, f1, f2, f3, f4⟩ := n.h7.old
              go_simp
              clear c0 c1 c2 c3 c4 f0 f1 f2 f3 f4
              replace n := n.set7 (.int .i64 6) (.string ⟨#[]⟩) (.int .i64 0) (.int .i64 0) (.slice (some ⟨gA, 0, none⟩) 2 2)
              generalize (((((wd.setCell ⟨g7, 0, none⟩ (.int .i64 6)).setCell ⟨g7, 1, none⟩ (.string ⟨#[]⟩)).setCell ⟨g7, 2, none⟩ (.int .i64 0)).setCell ⟨g7, 3, none⟩ (.int .i64 0)).setCell ⟨g7, 4, none⟩ (.slice (some ⟨gA, 0, none⟩) 2 2)) = wd at *
              refine hK.out _ _ ?_ (fun hH2 => ?_)
              · exact ⟨n.kx.cell 0, n.kx.cell 1, n.kx.cell 2, n.kx.cell 3, n.kx.cell 4, n.ky.cell 0, n.ky.cell 1, n.ky.cell 2, n.ky.cell 3, n.ky.cell 4⟩
              clear hHeld hK K; have hHeld := hH2; clear hH2; try go_frame
              refine hyO none 11 rfl (fun K hK => ?_)
              obtain ⟨⟨c0, c1, c2, c3, c4⟩, f0, f1, f2, f3, f4⟩ := n.h8.old
              go_simp
              clear c0 c1 c2 c3 c4 f0 f1 f2 f3 f4
              replace n := n.set8 (.int .i64 7) (.string ⟨#[]⟩) (.int .i64 0) (.int .i64 0) (.slice (some ⟨gB, 0, none⟩) 2 2)
              generalize (((((wd.setCell ⟨g8, 0, none⟩ (.int .i64 7)).setCell ⟨g8, 1, none⟩ (.string ⟨#[]⟩)).setCell ⟨g8, 2, none⟩ (.int .i64 0)).setCell ⟨g8, 3, none⟩ (.int .i64 0)).setCell ⟨g8, 4, none⟩ (.slice (some ⟨gB, 0, none⟩) 2 2)) = wd at *
              refine hK.out _ _ ?_ (fun hH2 => ?_)
              · exact ⟨n.kx.cell 0, n.kx.cell 1, n.kx.cell 2, n.kx.cell 3, n.kx.cell 4, n.ky.cell 0, n.ky.cell 1, n.ky.cell 2, n.ky.cell 3, n.ky.cell 4⟩
              clear hHeld hK K; have hHeld := hH2; clear hH2; try go_frame
              refine wpAnyH_done (by kernel_rfl) ?_ _
              go_wp2_with fail
              go_meet
              exact ⟨g7, g8, gA, gB, rfl, rfl, n.done⟩
          · go_simp
            replace n := n.mk7 #[.int .i64 0, .string ⟨#[]⟩, .int .i64 0, .int .i64 0, .slice none 0 0]
            obtain ⟨g7, hq⟩ : ∃ u, u = wd.heap.size := ⟨_, rfl⟩
            rw [← hq] at n ⊢
            clear hq
            generalize wd.alloc (.cells #[.int .i64 0, .string ⟨#[]⟩, .int .i64 0, .int .i64 0, .slice none 0 0] 24) = wd at *
            refine hK.out _ _ ?_ (fun hH2 => ?_)
            · exact ⟨n.kx.cell 0, n.kx.cell 1, n.kx.cell 2, n.kx.cell 3, n.kx.cell 4, n.ky.cell 0, n.ky.cell 1, n.ky.cell 2, n.ky.cell 3, n.ky.cell 4⟩
            clear hHeld hK K; have hHeld := hH2; clear hH2; try go_frame
            refine held_two (o := ⟨some 22, _, _, _, _, _⟩) (p := ⟨some 26, _, _, _, _, _⟩) 2 6 (by kernel_rfl) rfl rfl (by rfl) (by rfl) (fun K hK => ?_) (fun K hK => ?_)
            · go_simp
              replace n := n.mkA #[.int .i64 x0, .string xs, .int .i64 x2, .int .i64 x3, .slice xA xn xz, .int .i64 y0, .string ys, .int .i64 y2, .int .i64 y3, .slice yA yn yz]
              obtain ⟨gA, hq⟩ : ∃ u, u = wd.heap.size := ⟨_, rfl⟩
              rw [← hq] at n ⊢
              clear hq
              generalize wd.alloc (.cells #[.int .i64 x0, .string xs, .int .i64 x2, .int .i64 x3, .slice xA xn xz, .int .i64 y0, .string ys, .int .i64 y2, .int .i64 y3, .slice yA yn yz] 24) = wd at *
              refine hK.out _ _ ?_ (fun hH2 => ?_)
              · exact ⟨n.kx.cell 0, n.kx.cell 1, n.kx.cell 2, n.kx.cell 3, n.kx.cell 4, n.ky.cell 0, n.ky.cell 1, n.ky.cell 2, n.ky.cell 3, n.ky.cell 4⟩
              clear hHeld hK K; have hHeld := hH2; clear hH2; try go_frame
              refine hyY (some 23) 3 rfl hHeld ?_; go_frame
              refine held_two (o := ⟨some 26, _, _, _, _, _⟩) (p := ⟨none, _, _, _, _, _⟩) 6 10 (by kernel_rfl) rfl rfl (by rfl) (by rfl) (fun K hK => ?_) (fun K hK => ?_)
              · go_simp
                replace n := n.mkB #[.int .i64 x0, .string xs, .int .i64 x2, .int .i64 x3, .slice xA xn xz, .int .i64 y0, .string ys, .int .i64 y2, .int .i64 y3, .slice yA yn yz]
                obtain ⟨gB, hq⟩ : ∃ u, u = wd.heap.size := ⟨_, rfl⟩
                rw [← hq] at n ⊢
                clear hq
                generalize wd.alloc (.cells #[.int .i64 x0, .string xs, .int .i64 x2, .int .i64 x3, .slice xA xn xz, .int .i64 y0, .string ys, .int .i64 y2, .int .i64 y3, .slice yA yn yz] 24) = wd at *
                refine hK.out _ _ ?_ (fun hH2 => ?_)
                · exact ⟨n.kx.cell 0, n.kx.cell 1, n.kx.cell 2, n.kx.cell 3, n.kx.cell 4, n.ky.cell 0, n.ky.cell 1, n.ky.cell 2, n.ky.cell 3, n.ky.cell 4⟩
                clear hHeld hK K; have hHeld := hH2; clear hH2; try go_frame
                refine hyY (some 27) 7 rfl hHeld ?_; go_frame
                refine hyO none 10 rfl (fun K hK => ?_)
                obtain ⟨⟨c0, c1, c2, c3, c4⟩, f0, f1, f2, f3, f4⟩ := n.h7.old
                go_simp
                clear c0 c1 c2 c3 c4 f0 f1 f2 f3 f4
                replace n := n.set7 (.int .i64 6) (.string ⟨#[]⟩) (.int .i64 0) (.int .i64 0) (.slice (some ⟨gA, 0, none⟩) 2 2)
                generalize (((((wd.setCell ⟨g7, 0, none⟩ (.int .i64 6)).setCell ⟨g7, 1, none⟩ (.string ⟨#[]⟩)).setCell ⟨g7, 2, none⟩ (.int .i64 0)).setCell ⟨g7, 3, none⟩ (.int .i64 0)).setCell ⟨g7, 4, none⟩ (.slice (some ⟨gA, 0, none⟩) 2 2)) = wd at *
                refine hK.out _ _ ?_ (fun hH2 => ?_)
                · exact ⟨n.kx.cell 0, n.kx.cell 1, n.kx.cell 2, n.kx.cell 3, n.kx.cell 4, n.ky.cell 0, n.ky.cell 1, n.ky.cell 2, n.ky.cell 3, n.ky.cell 4⟩
                clear hHeld hK K; have hHeld := hH2; clear hH2; try go_frame
                refine hyO none 11 rfl (fun K hK => ?_)
                obtain ⟨⟨c0, c1, c2, c3, c4⟩, f0, f1, f2, f3, f4⟩ := n.h8.old
                go_simp
                clear c0 c1 c2 c3 c4 f0 f1 f2 f3 f4
                replace n := n.set8 (.int .i64 7) (.string ⟨#[]⟩) (.int .i64 0) (.int .i64 0) (.slice (some ⟨gB, 0, none⟩) 2 2)
                generalize (((((wd.setCell ⟨g8, 0, none⟩ (.int .i64 7)).setCell ⟨g8, 1, none⟩ (.string ⟨#[]⟩)).setCell ⟨g8, 2, none⟩ (.int .i64 0)).setCell ⟨g8, 3, none⟩ (.int .i64 0)).setCell ⟨g8, 4, none⟩ (.slice (some ⟨gB, 0, none⟩) 2 2)) = wd at *
                refine hK.out _ _ ?_ (fun hH2 => ?_)
                · exact ⟨n.kx.cell 0, n.kx.cell 1, n.kx.cell 2, n.kx.cell 3, n.kx.cell 4, n.ky.cell 0, n.ky.cell 1, n.ky.cell 2, n.ky.cell 3, n.ky.cell 4⟩
                clear hHeld hK K; have hHeld := hH2; clear hH2; try go_frame
                refine wpAnyH_done (by kernel_rfl) ?_ _
                go_wp2_with fail
                go_meet
                exact ⟨g7, g8, gA, gB, rfl, rfl, n.done⟩
              · obtain ⟨⟨c0, c1, c2, c3, c4⟩, f0, f1, f2, f3, f4⟩ := n.h7.old
                go_simp
                clear c0 c1 c2 c3 c4 f0 f1 f2 f3 f4
                replace n := n.set7 (.int .i64 6) (.string ⟨#[]⟩) (.int .i64 0) (.int .i64 0) (.slice (some ⟨gA, 0, none⟩) 2 2)
                generalize (((((wd.setCell ⟨g7, 0, none⟩ (.int .i64 6)).setCell ⟨g7, 1, none⟩ (.string ⟨#[]⟩)).setCell ⟨g7, 2, none⟩ (.int .i64 0)).setCell ⟨g7, 3, none⟩ (.int .i64 0)).setCell ⟨g7, 4, none⟩ (.slice (some ⟨gA, 0, none⟩) 2 2)) = wd at *
                refine hK.out _ _ ?_ (fun hH2 => ?_)
                · exact ⟨n.kx.cell 0, n.kx.cell 1, n.kx.cell 2, n.kx.cell 3, n.kx.cell 4, n.ky.cell 0, n.ky.cell 1, n.ky.cell 2, n.ky.cell 3, n.ky.cell 4⟩
                clear hHeld hK K; have hHeld := hH2; clear hH2; try go_frame
                refine hyO (some 26) 6 rfl (fun K hK => ?_)
                go_simp
                replace n := n.mkB #[.int .i64 x0, .string xs, .int .i64 x2, .int .i64 x3, .slice xA xn xz, .int .i64 y0, .string ys, .int .i64 y2, .int .i64 y3, .slice yA yn yz]
                obtain ⟨gB, hq⟩ : ∃ u, u = wd.heap.size := ⟨_, rfl⟩
                rw [← hq] at n ⊢
                clear hq
                generalize wd.alloc (.cells #[.int .i64 x0, .string xs, .int .i64 x2, .int .i64 x3, .slice xA xn xz, .int .i64 y0, .string ys, .int .i64 y2, .int .i64 y3, .slice yA yn yz] 24) = wd at *
                refine hK.out _ _ ?_ (fun hH2 => ?_)
                · exact ⟨n.kx.cell 0, n.kx.cell 1, n.kx.cell 2, n.kx.cell 3, n.kx.cell 4, n.ky.cell 0, n.ky.cell 1, n.ky.cell 2, n.ky.cell 3, n.ky.cell 4⟩
                clear hHeld hK K; have hHeld := hH2; clear hH2; try go_frame
                refine hyY (some 27) 7 rfl hHeld ?_; go_frame
                refine hyO none 11 rfl (fun K hK => ?_)
                obtain ⟨⟨c0, c1, c2, c3, c4⟩, f0, f1, f2, f3, f4⟩ := n.h8.old
                go_simp
                clear c0 c1 c2 c3 c4 f0 f1 f2 f3 f4
                replace n := n.set8 (.int .i64 7) (.string ⟨#[]⟩) (.int .i64 0) (.int .i64 0) (.slice (some ⟨gB, 0, none⟩) 2 2)
                generalize (((((wd.setCell ⟨g8, 0, none⟩ (.int .i64 7)).setCell ⟨g8, 1, none⟩ (.string ⟨#[]⟩)).setCell ⟨g8, 2, none⟩ (.int .i64 0)).setCell ⟨g8, 3, none⟩ (.int .i64 0)).setCell ⟨g8, 4, none⟩ (.slice (some ⟨gB, 0, none⟩) 2 2)) = wd at *
                refine hK.out _ _ ?_ (fun hH2 => ?_)
                · exact ⟨n.kx.cell 0, n.kx.cell 1, n.kx.cell 2, n.kx.cell 3, n.kx.cell 4, n.ky.cell 0, n.ky.cell 1, n.ky.cell 2, n.ky.cell 3, n.ky.cell 4⟩
                clear hHeld hK K; have hHeld := hH2; clear hH2; try go_frame
                refine wpAnyH_done (by kernel_rfl) ?_ _
                go_wp2_with fail
                go_meet
                exact ⟨g7, g8, gA, gB, rfl, rfl, n.done⟩
            · go_simp
              replace n := n.mkB #[.int .i64 x0, .string xs, .int .i64 x2, .int .i64 x3, .slice xA xn xz, .int .i64 y0, .string ys, .int .i64 y2, .int .i64 y3, .slice yA yn yz]
              obtain ⟨gB, hq⟩ : ∃ u, u = wd.heap.size := ⟨_, rfl⟩
              rw [← hq] at n ⊢
              clear hq
              generalize wd.alloc (.cells #[.int .i64 x0, .string xs, .int .i64 x2, .int .i64 x3, .slice xA xn xz, .int .i64 y0, .string ys, .int .i64 y2, .int .i64 y3, .slice yA yn yz] 24) = wd at *
              refine hK.out _ _ ?_ (fun hH2 => ?_)
              · exact ⟨n.kx.cell 0, n.kx.cell 1, n.kx.cell 2, n.kx.cell 3, n.kx.cell 4, n.ky.cell 0, n.ky.cell 1, n.ky.cell 2, n.ky.cell 3, n.ky.cell 4⟩
              clear hHeld hK K; have hHeld := hH2; clear hH2; try go_frame
              refine hyY (some 27) 7 rfl hHeld ?_; go_frame
              refine hyO (some 22) 2 rfl (fun K hK => ?_)
              go_simp
              replace n := n.mkA #[.int .i64 x0, .string xs, .int .i64 x2, .int .i64 x3, .slice xA xn xz, .int .i64 y0, .string ys, .int .i64 y2, .int .i64 y3, .slice yA yn yz]
              obtain ⟨gA, hq⟩ : ∃ u, u = wd.heap.size := ⟨_, rfl⟩
              rw [← hq] at n ⊢
              clear hq
              generalize wd.alloc (.cells #[.int .i64 x0, .string xs, .int .i64 x2, .int .i64 x3, .slice xA xn xz, .int .i64 y0, .string ys, .int .i64 y2, .int .i64 y3, .slice yA yn yz] 24) = wd at *
              refine hK.out _ _ ?_ (fun hH2 => ?_)
              · exact ⟨n.kx.cell 0, n.kx.cell 1, n.kx.cell 2, n.kx.cell 3, n.kx.cell 4, n.ky.cell 0, n.ky.cell 1, n.ky.cell 2, n.ky.cell 3, n.ky.cell 4⟩
              clear hHeld hK K; have hHeld := hH2; clear hH2; try go_frame
              refine hyY (some 23) 3 rfl hHeld ?_; go_frame
              refine hyO none 10 rfl (fun K hK => ?_)
              obtain ⟨⟨c0, c1, c2, c3, c4⟩, f0, f1, f2, f3, f4⟩ := n.h7.old
              go_simp
              clear c0 c1 c2 c3 c4 f0 f1 f2 f3 f4
              replace n := n.set7 (.int .i64 6) (.string ⟨#[]⟩) (.int .i64 0) (.int .i64 0) (.slice (some ⟨gA, 0, none⟩) 2 2)
              generalize (((((wd.setCell ⟨g7, 0, none⟩ (.int .i64 6)).setCell ⟨g7, 1, none⟩ (.string ⟨#[]⟩)).setCell ⟨g7, 2, none⟩ (.int .i64 0)).setCell ⟨g7, 3, none⟩ (.int .i64 0)).setCell ⟨g7, 4, none⟩ (.slice (some ⟨gA, 0, none⟩) 2 2)) = wd at *
              refine hK.out _ _ ?_ (fun hH2 => ?_)
              · exact ⟨n.kx.cell 0, n.kx.cell 1, n.kx.cell 2, n.kx.cell 3, n.kx.cell 4, n.ky.cell 0, n.ky.cell 1, n.ky.cell 2, n.ky.cell 3, n.ky.cell 4⟩
              clear hHeld hK K; have hHeld := hH2; clear hH2; try go_frame
              refine hyO none 11 rfl (fun K hK => ?_)
              obtain ⟨⟨c0, c1, c2, c3, c4⟩, f0, f1, f2, f3, f4⟩ := n.h8.old
              go_simp
              clear c0 c1 c2 c3 c4 f0 f1 f2 f3 f4
              replace n := n.set8 (.int .i64 7) (.string ⟨#[]⟩) (.int .i64 0) (.int .i64 0) (.slice (some ⟨gB, 0, none⟩) 2 2)
              generalize (((((wd.setCell ⟨g8, 0, none⟩ (.int .i64 7)).setCell ⟨g8, 1, none⟩ (.string ⟨#[]⟩)).setCell ⟨g8, 2, none⟩ (.int .i64 0)).setCell ⟨g8, 3, none⟩ (.int .i64 0)).setCell ⟨g8, 4, none⟩ (.slice (some ⟨gB, 0, none⟩) 2 2)) = wd at *
              refine hK.out _ _ ?_ (fun hH2 => ?_)
              · exact ⟨n.kx.cell 0, n.kx.cell 1, n.kx.cell 2, n.kx.cell 3, n.kx.cell 4, n.ky.cell 0, n.ky.cell 1, n.ky.cell 2, n.ky.cell 3, n.ky.cell 4⟩
              clear hHeld hK K; have hHeld := hH2; clear hH2; try go_frame
              refine wpAnyH_done (by kernel_rfl) ?_ _
              go_wp2_with fail
              go_meet
              exact ⟨g7, g8, gA, gB, rfl, rfl, n.done⟩
      case rest =>
        obtain ⟨g7, g8, gA, gB, rfl, rfl, k7, k8, kA, kB, b3⟩ := hcut
        obtain ⟨w3, rfl⟩ : ∃ w3, w3 = wc := ⟨_, rfl⟩
        replace kx := kx.below b3 kx.lt
        replace ky := ky.below b3 ky.lt
        replace kr := kr.below b3 kr.lt
        replace hx := hx.below' b3
        replace hy := hy.below' b3
        replace B := B.trans (b3.mono B.size)
        clear b3
        have z7 : ZV w3 (fun _ => True) (f + 1) (.agg #[.int .i64 6, .string ⟨#[]⟩, .int .i64 0, .int .i64 0, .slice (some ⟨gA, 0, none⟩) 2 2]) (andsS [x, y]) := zbuilt (by unfold I64; omega) (zpair kA trivial hx.cells5 hy.cells5)
        have z8 : ZV w3 (fun _ => True) (f + 1) (.agg #[.int .i64 7, .string ⟨#[]⟩, .int .i64 0, .int .i64 0, .slice (some ⟨gB, 0, none⟩) 2 2]) (orsS [x, y]) := zbuilt (by unfold I64; omega) (zpair kB trivial hx.cells5 hy.cells5)
        clear kA kB
        go_upto_region 4 with fail
        go_cut [9] from 28 to 33 (fun u wc => ∃ g9 gr, u = .pointer (some ⟨g9, 0, none⟩) ∧ KB wc g9 24 #[.int .i64 7, .string ⟨#[]⟩, .int .i64 0, .int .i64 0, .slice (some ⟨gr, 0, none⟩) 2 2] ∧ ZV wc (fun _ => True) (f + 1 + 1) (.agg #[.int .i64 7, .string ⟨#[]⟩, .int .i64 0, .int .i64 0, .slice (some ⟨gr, 0, none⟩) 2 2]) (⟨7, [], 0, 0, [notS x, notS y]⟩ : Ns (Sc (f + 1))) ∧ Below w3.heap.size w3 wc)
        case first =>
          have n := N4.start kx ky hx hy
          clear HM N1 N2 N3 hx hy B kx ky kr k7 k8 z7 z8
          refine wp_region_held_drew (S := (fun W => W.cell? ⟨w.heap.size, 0, none⟩ = some (.int .i64 x0) ∧ W.cell? ⟨w.heap.size, 1, none⟩ = some (.string xs) ∧ W.cell? ⟨w.heap.size, 2, none⟩ = some (.int .i64 x2) ∧ W.cell? ⟨w.heap.size, 3, none⟩ = some (.int .i64 x3) ∧ W.cell? ⟨w.heap.size, 4, none⟩ = some (.slice xA xn xz) ∧ W.cell? ⟨w.heap.size + 1, 0, none⟩ = some (.int .i64 y0) ∧ W.cell? ⟨w.heap.size + 1, 1, none⟩ = some (.string ys) ∧ W.cell? ⟨w.heap.size + 1, 2, none⟩ = some (.int .i64 y2) ∧ W.cell? ⟨w.heap.size + 1, 3, none⟩ = some (.int .i64 y3) ∧ W.cell? ⟨w.heap.size + 1, 4, none⟩ = some (.slice yA yn yz))) (by kernel_rfl) ⟨n.kx.cell 0, n.kx.cell 1, n.kx.cell 2, n.kx.cell 3, n.kx.cell 4, n.ky.cell 0, n.ky.cell 1, n.ky.cell 2, n.ky.cell 3, n.ky.cell 4⟩ (fun hHeld => ?_)
          generalize w3.drew = wd at *
          refine hyY (some 28) 0 rfl hHeld ?_; go_frame
          refine hyY (some 30) 2 rfl hHeld ?_; go_frame
          refine held_two (o := ⟨some 29, _, _, _, _, _⟩) (p := ⟨some 9, _, _, _, _, _⟩) 1 6 (by kernel_rfl) rfl rfl (by rfl) (by rfl) (fun K hK => ?_) (fun K hK => ?_)
          · go_simp
            go_at_call 21
            refine (zlnot_any _ f x _ _ n.zx).mono ?_
            rintro e wn ⟨u, rfl, zu, bn⟩
            replace n := n.call1 bn zu
            obtain ⟨p0, lp, p2, p3, pA, pn, pz, rfl⟩ := zu.form
            unfold strV at *
            generalize (⟨lp.toArray⟩ : ByteArray) = ps at *
            clear zu bn
            obtain ⟨wd, hwd⟩ : ∃ u, u = wn := ⟨_, rfl⟩
            rw [← hwd] at n ⊢
            clear hwd
            go_wp2_with fail
            refine hK.out _ _ ?_ (fun hH2 => ?_)
            · exact ⟨n.kx.cell 0, n.kx.cell 1, n.kx.cell 2, n.kx.cell 3, n.kx.cell 4, n.ky.cell 0, n.ky.cell 1, n.ky.cell 2, n.ky.cell 3, n.ky.cell 4⟩
            clear hHeld hK K; have hHeld := hH2; clear hH2; try go_frame
            refine held_two (o := ⟨some 31, _, _, _, _, _⟩) (p := ⟨some 9, _, _, _, _, _⟩) 3 6 (by kernel_rfl) rfl rfl (by rfl) (by rfl) (fun K hK => ?_) (fun K hK => ?_)
            · go_simp
              go_at_call 21
              refine (zlnot_any _ f y _ _ n.zy).mono ?_
              rintro e wn ⟨u, rfl, zu, bn⟩
              replace n := n.call2 bn zu
              obtain ⟨q0, lq, q2, q3, qA, qn, qz, rfl⟩ := zu.form
              unfold strV at *
              generalize (⟨lq.toArray⟩ : ByteArray) = qs at *
              clear zu bn
              obtain ⟨wd, hwd⟩ : ∃ u, u = wn := ⟨_, rfl⟩
              rw [← hwd] at n ⊢
              clear hwd
              go_wp2_with fail
              refine hK.out _ _ ?_ (fun hH2 => ?_)
              · exact ⟨n.kx.cell 0, n.kx.cell 1, n.kx.cell 2, n.kx.cell 3, n.kx.cell 4, n.ky.cell 0, n.ky.cell 1, n.ky.cell 2, n.ky.cell 3, n.ky.cell 4⟩
              clear hHeld hK K; have hHeld := hH2; clear hH2; try go_frame
              refine held_two (o := ⟨some 32, _, _, _, _, _⟩) (p := ⟨some 9, _, _, _, _, _⟩) 4 6 (by kernel_rfl) rfl rfl (by rfl) (by rfl) (fun K hK => ?_) (fun K hK => ?_)
              · go_simp
                replace n := n.mkR #[.int .i64 p0, .string ps, .int .i64 p2, .int .i64 p3, .slice pA pn pz, .int .i64 q0, .string qs, .int .i64 q2, .int .i64 q3, .slice qA qn qz]
                obtain ⟨gr, hq⟩ : ∃ u, u = wd.heap.size := ⟨_, rfl⟩
                rw [← hq] at n ⊢
                clear hq
                generalize wd.alloc (.cells #[.int .i64 p0, .string ps, .int .i64 p2, .int .i64 p3, .slice pA pn pz, .int .i64 q0, .string qs, .int .i64 q2, .int .i64 q3, .slice qA qn qz] 24) = wd at *
                refine hK.out _ _ ?_ (fun hH2 => ?_)
                · exact ⟨n.kx.cell 0, n.kx.cell 1, n.kx.cell 2, n.kx.cell 3, n.kx.cell 4, n.ky.cell 0, n.ky.cell 1, n.ky.cell 2, n.ky.cell 3, n.ky.cell 4⟩
                clear hHeld hK K; have hHeld := hH2; clear hH2; try go_frame
                refine hyY (some 33) 5 rfl hHeld ?_; go_frame
                refine hyO (some 9) 6 rfl (fun K hK => ?_)
                go_simp
                replace n := n.mk9 #[.int .i64 0, .string ⟨#[]⟩, .int .i64 0, .int .i64 0, .slice none 0 0]
                obtain ⟨g9, hq⟩ : ∃ u, u = wd.heap.size := ⟨_, rfl⟩
                rw [← hq] at n ⊢
                clear hq
                generalize wd.alloc (.cells #[.int .i64 0, .string ⟨#[]⟩, .int .i64 0, .int .i64 0, .slice none 0 0] 24) = wd at *
                refine hK.out _ _ ?_ (fun hH2 => ?_)
                · exact ⟨n.kx.cell 0, n.kx.cell 1, n.kx.cell 2, n.kx.cell 3, n.kx.cell 4, n.ky.cell 0, n.ky.cell 1, n.ky.cell 2, n.ky.cell 3, n.ky.cell 4⟩
                clear hHeld hK K; have hHeld := hH2; clear hH2; try go_frame
                refine hyO none 7 rfl (fun K hK => ?_)
                obtain ⟨⟨c0, c1, c2, c3, c4⟩, f0, f1, f2, f3, f4⟩ := n.h9.old
                go_simp
                clear c0 c1 c2 c3 c4 f0 f1 f2 f3 f4
                replace n := n.set9 (.int .i64 7) (.string ⟨#[]⟩) (.int .i64 0) (.int .i64 0) (.slice (some ⟨gr, 0, none⟩) 2 2)
                refine hK.out _ _ ?_ (fun hH2 => ?_)
                · exact ⟨n.kx.cell 0, n.kx.cell 1, n.kx.cell 2, n.kx.cell 3, n.kx.cell 4, n.ky.cell 0, n.ky.cell 1, n.ky.cell 2, n.ky.cell 3, n.ky.cell 4⟩
                clear hHeld hK K; have hHeld := hH2; clear hH2; try go_frame
                refine wpAnyH_done (by kernel_rfl) ?_ _
                go_wp2_with fail
                go_meet
                exact ⟨g9, gr, rfl, n.done (by unfold I64; omega)⟩
              · go_simp
                replace n := n.mk9 #[.int .i64 0, .string ⟨#[]⟩, .int .i64 0, .int .i64 0, .slice none 0 0]
                obtain ⟨g9, hq⟩ : ∃ u, u = wd.heap.size := ⟨_, rfl⟩
                rw [← hq] at n ⊢
                clear hq
                generalize wd.alloc (.cells #[.int .i64 0, .string ⟨#[]⟩, .int .i64 0, .int .i64 0, .slice none 0 0] 24) = wd at *
                refine hK.out _ _ ?_ (fun hH2 => ?_)
                · exact ⟨n.kx.cell 0, n.kx.cell 1, n.kx.cell 2, n.kx.cell 3, n.kx.cell 4, n.ky.cell 0, n.ky.cell 1, n.ky.cell 2, n.ky.cell 3, n.ky.cell 4⟩
                clear hHeld hK K; have hHeld := hH2; clear hH2; try go_frame
                refine hyO (some 32) 4 rfl (fun K hK => ?_)
                go_simp
                replace n := n.mkR #[.int .i64 p0, .string ps, .int .i64 p2, .int .i64 p3, .slice pA pn pz, .int .i64 q0, .string qs, .int .i64 q2, .int .i64 q3, .slice qA qn qz]
                obtain ⟨gr, hq⟩ : ∃ u, u = wd.heap.size := ⟨_, rfl⟩
                rw [← hq] at n ⊢
                clear hq
                generalize wd.alloc (.cells #[.int .i64 p0, .string ps, .int .i64 p2, .int .i64 p3, .slice pA pn pz, .int .i64 q0, .string qs, .int .i64 q2, .int .i64 q3, .slice qA qn qz] 24) = wd at *
                refine hK.out _ _ ?_ (fun hH2 => ?_)
                · exact ⟨n.kx.cell 0, n.kx.cell 1, n.kx.cell 2, n.kx.cell 3, n.kx.cell 4, n.ky.cell 0, n.ky.cell 1, n.ky.cell 2, n.ky.cell 3, n.ky.cell 4⟩
                clear hHeld hK K; have hHeld := hH2; clear hH2; try go_frame
                refine hyY (some 33) 5 rfl hHeld ?_; go_frame
                refine hyO none 7 rfl (fun K hK => ?_)
                obtain ⟨⟨c0, c1, c2, c3, c4⟩, f0, f1, f2, f3, f4⟩ := n.h9.old
                go_simp
                clear c0 c1 c2 c3 c4 f0 f1 f2 f3 f4
                replace n := n.set9 (.int .i64 7) (.string ⟨#[]⟩) (.int .i64 0) (.int .i64 0) (.slice (some ⟨gr, 0, none⟩) 2 2)
                refine hK.out _ _ ?_ (fun hH2 => ?_)
                · exact ⟨n.kx.cell 0, n.kx.cell 1, n.kx.cell 2, n.kx.cell 3, n.kx.cell 4, n.ky.cell 0, n.ky.cell 1, n.ky.cell 2, n.ky.cell 3, n.ky.cell 4⟩
                clear hHeld hK K; have hHeld := hH2; clear hH2; try go_frame
                refine wpAnyH_done (by kernel_rfl) ?_ _
                go_wp2_with fail
                go_meet
                exact ⟨g9, gr, rfl, n.done (by unfold I64; omega)⟩
            · go_simp
              replace n := n.mk9 #[.int .i64 0, .string ⟨#[]⟩, .int .i64 0, .int .i64 0, .slice none 0 0]
              obtain ⟨g9, hq⟩ : ∃ u, u = wd.heap.size := ⟨_, rfl⟩
              rw [← hq] at n ⊢
              clear hq
              generalize wd.alloc (.cells #[.int .i64 0, .string ⟨#[]⟩, .int .i64 0, .int .i64 0, .slice none 0 0] 24) = wd at *
              refine hK.out _ _ ?_ (fun hH2 => ?_)
              · exact ⟨n.kx.cell 0, n.kx.cell 1, n.kx.cell 2, n.kx.cell 3, n.kx.cell 4, n.ky.cell 0, n.ky.cell 1, n.ky.cell 2, n.ky.cell 3, n.ky.cell 4⟩
              clear hHeld hK K; have hHeld := hH2; clear hH2; try go_frame
              refine hyO (some 31) 3 rfl (fun K hK => ?_)
              go_simp
              go_at_call 21
              refine (zlnot_any _ f y _ _ n.zy).mono ?_
              rintro e wn ⟨u, rfl, zu, bn⟩
              replace n := n.call2 bn zu
              obtain ⟨q0, lq, q2, q3, qA, qn, qz, rfl⟩ := zu.form
              unfold strV at *
              generalize (⟨lq.toArray⟩ : ByteArray) = qs at *
              clear zu bn
              obtain ⟨wd, hwd⟩ : ∃ u, u = wn := ⟨_, rfl⟩
              rw [← hwd] at n ⊢
              clear hwd
              go_wp2_with fail
              refine hK.out _ _ ?_ (fun hH2 => ?_)
              · exact ⟨n.kx.cell 0, n.kx.cell 1, n.kx.cell 2, n.kx.cell 3, n.kx.cell 4, n.ky.cell 0, n.ky.cell 1, n.ky.cell 2, n.ky.cell 3, n.ky.cell 4⟩
              clear hHeld hK K; have hHeld := hH2; clear hH2; try go_frame
              refine hyO (some 32) 4 rfl (fun K hK => ?_)
              go_simp
              replace n := n.mkR #[.int .i64 p0, .string ps, .int .i64 p2, .int .i64 p3, .slice pA pn pz, .int .i64 q0, .string qs, .int .i64 q2, .int .i64 q3, .slice qA qn qz]
              obtain ⟨gr, hq⟩ : ∃ u, u = wd.heap.size := ⟨_, rfl⟩
              rw [← hq] at n ⊢
              clear hq
              generalize wd.alloc (.cells #[.int .i64 p0, .string ps, .int .i64 p2, .int .i64 p3, .slice pA pn pz, .int .i64 q0, .string qs, .int .i64 q2, .int .i64 q3, .slice qA qn qz] 24) = wd at *
              refine hK.out _ _ ?_ (fun hH2 => ?_)
              · exact ⟨n.kx.cell 0, n.kx.cell 1, n.kx.cell 2, n.kx.cell 3, n.kx.cell 4, n.ky.cell 0, n.ky.cell 1, n.ky.cell 2, n.ky.cell 3, n.ky.cell 4⟩
              clear hHeld hK K; have hHeld := hH2; clear hH2; try go_frame
              refine hyY (some 33) 5 rfl hHeld ?_; go_frame
              refine hyO none 7 rfl (fun K hK => ?_)
              obtain ⟨⟨c0, c1, c2, c3, c4⟩, f0, f1, f2, f3, f4⟩ := n.h9.old
              go_simp
              clear c0 c1 c2 c3 c4 f0 f1 f2 f3 f4
              replace n := n.set9 (.int .i64 7) (.string ⟨#[]⟩) (.int .i64 0) (.int .i64 0) (.slice (some ⟨gr, 0, none⟩) 2 2)
              refine hK.out _ _ ?_ (fun hH2 => ?_)
              · exact ⟨n.kx.cell 0, n.kx.cell 1, n.kx.cell 2, n.kx.cell 3, n.kx.cell 4, n.ky.cell 0, n.ky.cell 1, n.ky.cell 2, n.ky.cell 3, n.ky.cell 4⟩
              clear hHeld hK K; have hHeld := hH2; clear hH2; try go_frame
              refine wpAnyH_done (by kernel_rfl) ?_ _
              go_wp2_with fail
              go_meet
              exact ⟨g9, gr, rfl, n.done (by unfold I64; omega)⟩
          · go_simp
            replace n := n.mk9 #[.int .i64 0, .string ⟨#[]⟩, .int .i64 0, .int .i64 0, .slice none 0 0]
            obtain ⟨g9, hq⟩ : ∃ u, u = wd.heap.size := ⟨_, rfl⟩
            rw [← hq] at n ⊢
            clear hq
            generalize wd.alloc (.cells #[.int .i64 0, .string ⟨#[]⟩, .int .i64 0, .int .i64 0, .slice none 0 0] 24) = wd at *
            refine hK.out _ _ ?_ (fun hH2 => ?_)
            · exact ⟨n.kx.cell 0, n.kx.cell 1, n.kx.cell 2, n.kx.cell 3, n.kx.cell 4, n.ky.cell 0, n.ky.cell 1, n.ky.cell 2, n.ky.cell 3, n.ky.cell 4⟩
            clear hHeld hK K; have hHeld := hH2; clear hH2; try go_frame
            refine hyO (some 29) 1 rfl (fun K hK => ?_)
            go_simp
            go_at_call 21
            refine (zlnot_any _ f x _ _ n.zx).mono ?_
            rintro e wn ⟨u, rfl, zu, bn⟩
            replace n := n.call1 bn zu
            obtain ⟨p0, lp, p2, p3, pA, pn, pz, rfl⟩ := zu.form
            unfold strV at *
            generalize (⟨lp.toArray⟩ : ByteArray) = ps at *
            clear zu bn
            obtain ⟨wd, hwd⟩ : ∃ u, u = wn := ⟨_, rfl⟩
            rw [← hwd] at n ⊢
            clear hwd
            go_wp2_with fail
            refine hK.out _ _ ?_ (fun hH2 => ?_)
            · exact ⟨n.kx.cell 0, n.kx.cell 1, n.kx.cell 2, n.kx.cell 3, n.kx.cell 4, n.ky.cell 0, n.ky.cell 1, n.ky.cell 2, n.ky.cell 3, n.ky.cell 4⟩
            clear hHeld hK K; have hHeld := hH2; clear hH2; try go_frame
            refine hyO (some 31) 3 rfl (fun K hK => ?_)
            go_simp
            go_at_call 21
            refine (zlnot_any _ f y _ _ n.zy).mono ?_
            rintro e wn ⟨u, rfl, zu, bn⟩
            replace n := n.call2 bn zu
            obtain ⟨q0, lq, q2, q3, qA, qn, qz, rfl⟩ := zu.form
            unfold strV at *
            generalize (⟨lq.toArray⟩ : ByteArray) = qs at *
            clear zu bn
            obtain ⟨wd, hwd⟩ : ∃ u, u = wn := ⟨_, rfl⟩
            rw [← hwd] at n ⊢
            clear hwd
            go_wp2_with fail
            refine hK.out _ _ ?_ (fun hH2 => ?_)
            · exact ⟨n.kx.cell 0, n.kx.cell 1, n.kx.cell 2, n.kx.cell 3, n.kx.cell 4, n.ky.cell 0, n.ky.cell 1, n.ky.cell 2, n.ky.cell 3, n.ky.cell 4⟩
            clear hHeld hK K; have hHeld := hH2; clear hH2; try go_frame
            refine hyO (some 32) 4 rfl (fun K hK => ?_)
            go_simp
            replace n := n.mkR #[.int .i64 p0, .string ps, .int .i64 p2, .int .i64 p3, .slice pA pn pz, .int .i64 q0, .string qs, .int .i64 q2, .int .i64 q3, .slice qA qn qz]
            obtain ⟨gr, hq⟩ : ∃ u, u = wd.heap.size := ⟨_, rfl⟩
            rw [← hq] at n ⊢
            clear hq
            generalize wd.alloc (.cells #[.int .i64 p0, .string ps, .int .i64 p2, .int .i64 p3, .slice pA pn pz, .int .i64 q0, .string qs, .int .i64 q2, .int .i64 q3, .slice qA qn qz] 24) = wd at *
            refine hK.out _ _ ?_ (fun hH2 => ?_)
            · exact ⟨n.kx.cell 0, n.kx.cell 1, n.kx.cell 2, n.kx.cell 3, n.kx.cell 4, n.ky.cell 0, n.ky.cell 1, n.ky.cell 2, n.ky.cell 3, n.ky.cell 4⟩
            clear hHeld hK K; have hHeld := hH2; clear hH2; try go_frame
            refine hyY (some 33) 5 rfl hHeld ?_; go_frame
            refine hyO none 7 rfl (fun K hK => ?_)
            obtain ⟨⟨c0, c1, c2, c3, c4⟩, f0, f1, f2, f3, f4⟩ := n.h9.old
            go_simp
            clear c0 c1 c2 c3 c4 f0 f1 f2 f3 f4
            replace n := n.set9 (.int .i64 7) (.string ⟨#[]⟩) (.int .i64 0) (.int .i64 0) (.slice (some ⟨gr, 0, none⟩) 2 2)
            refine hK.out _ _ ?_ (fun hH2 => ?_)
            · exact ⟨n.kx.cell 0, n.kx.cell 1, n.kx.cell 2, n.kx.cell 3, n.kx.cell 4, n.ky.cell 0, n.ky.cell 1, n.ky.cell 2, n.ky.cell 3, n.ky.cell 4⟩
            clear hHeld hK K; have hHeld := hH2; clear hH2; try go_frame
            refine wpAnyH_done (by kernel_rfl) ?_ _
            go_wp2_with fail
            go_meet
            exact ⟨g9, gr, rfl, n.done (by unfold I64; omega)⟩
        case rest =>
          obtain ⟨g9, gr, rfl, k9, z9, b4⟩ := hcut
          obtain ⟨w4, rfl⟩ : ∃ w4, w4 = wc := ⟨_, rfl⟩
          replace kx := kx.below b4 kx.lt
          replace ky := ky.below b4 ky.lt
          replace kr := kr.below b4 kr.lt
          replace k7 := k7.below b4 k7.lt
          replace k8 := k8.below b4 k8.lt
          replace hx := hx.below' b4
          replace hy := hy.below' b4
          replace z7 := z7.below' b4
          replace z8 := z8.below' b4
          replace B := B.trans (b4.mono B.size)
          clear b4
          go_upto_region 5 with fail
          go_cut [10] from 34 to 39 (fun u wc => ∃ g9 gr, u = .pointer (some ⟨g9, 0, none⟩) ∧ KB wc g9 24 #[.int .i64 6, .string ⟨#[]⟩, .int .i64 0, .int .i64 0, .slice (some ⟨gr, 0, none⟩) 2 2] ∧ ZV wc (fun _ => True) (f + 1 + 1) (.agg #[.int .i64 6, .string ⟨#[]⟩, .int .i64 0, .int .i64 0, .slice (some ⟨gr, 0, none⟩) 2 2]) (⟨6, [], 0, 0, [notS x, notS y]⟩ : Ns (Sc (f + 1))) ∧ Below w4.heap.size w4 wc)
          case first =>
            have n := N4.start kx ky hx hy
            clear HM N1 N2 N3 hx hy B kx ky kr k7 k8 z7 z8 k9 z9
            refine wp_region_held_drew (S := (fun W => W.cell? ⟨w.heap.size, 0, none⟩ = some (.int .i64 x0) ∧ W.cell? ⟨w.heap.size, 1, none⟩ = some (.string xs) ∧ W.cell? ⟨w.heap.size, 2, none⟩ = some (.int .i64 x2) ∧ W.cell? ⟨w.heap.size, 3, none⟩ = some (.int .i64 x3) ∧ W.cell? ⟨w.heap.size, 4, none⟩ = some (.slice xA xn xz) ∧ W.cell? ⟨w.heap.size + 1, 0, none⟩ = some (.int .i64 y0) ∧ W.cell? ⟨w.heap.size + 1, 1, none⟩ = some (.string ys) ∧ W.cell? ⟨w.heap.size + 1, 2, none⟩ = some (.int .i64 y2) ∧ W.cell? ⟨w.heap.size + 1, 3, none⟩ = some (.int .i64 y3) ∧ W.cell? ⟨w.heap.size + 1, 4, none⟩ = some (.slice yA yn yz))) (by kernel_rfl) ⟨n.kx.cell 0, n.kx.cell 1, n.kx.cell 2, n.kx.cell 3, n.kx.cell 4, n.ky.cell 0, n.ky.cell 1, n.ky.cell 2, n.ky.cell 3, n.ky.cell 4⟩ (fun hHeld => ?_)
            generalize w4.drew = wd at *
            refine hyY (some 34) 0 rfl hHeld ?_; go_frame
            refine hyY (some 36) 2 rfl hHeld ?_; go_frame
            refine held_two (o := ⟨some 35, _, _, _, _, _⟩) (p := ⟨some 10, _, _, _, _, _⟩) 1 6 (by kernel_rfl) rfl rfl (by rfl) (by rfl) (fun K hK => ?_) (fun K hK => ?_)
            · go_simp
              go_at_call 21
              refine (zlnot_any _ f x _ _ n.zx).mono ?_
              rintro e wn ⟨u, rfl, zu, bn⟩
              replace n := n.call1 bn zu
              obtain ⟨p0, lp, p2, p3, pA, pn, pz, rfl⟩ := zu.form
              unfold strV at *
              generalize (⟨lp.toArray⟩ : ByteArray) = ps at *
              clear zu bn
              obtain ⟨wd, hwd⟩ : ∃ u, u = wn := ⟨_, rfl⟩
              rw [← hwd] at n ⊢
              clear hwd
              go_wp2_with fail
              refine hK.out _ _ ?_ (fun hH2 => ?_)
              · exact ⟨n.kx.cell 0, n.kx.cell 1, n.kx.cell 2, n.kx.cell 3, n.kx.cell 4, n.ky.cell 0, n.ky.cell 1, n.ky.cell 2, n.ky.cell 3, n.ky.cell 4⟩
              clear hHeld hK K; have hHeld := hH2; clear hH2; try go_frame
              refine held_two (o := ⟨some 37, _, _, _, _, _⟩) (p := ⟨some 10, _, _, _, _, _⟩) 3 6 (by kernel_rfl) rfl rfl (by rfl) (by rfl) (fun K hK => ?_) (fun K hK => ?_)
              · go_simp
                go_at_call 21
                refine (zlnot_any _ f y _ _ n.zy).mono ?_
                rintro e wn ⟨u, rfl, zu, bn⟩
                replace n := n.call2 bn zu
                obtain ⟨q0, lq, q2, q3, qA, qn, qz, rfl⟩ := zu.form
                unfold strV at *
                generalize (⟨lq.toArray⟩ : ByteArray) = qs at *
                clear zu bn
                obtain ⟨wd, hwd⟩ : ∃ u, u = wn := ⟨_, rfl⟩
                rw [← hwd] at n ⊢
                clear hwd
                go_wp2_with fail
                refine hK.out _ _ ?_ (fun hH2 => ?_)
                · exact ⟨n.kx.cell 0, n.kx.cell 1, n.kx.cell 2, n.kx.cell 3, n.kx.cell 4, n.ky.cell 0, n.ky.cell 1, n.ky.cell 2, n.ky.cell 3, n.ky.cell 4⟩
                clear hHeld hK K; have hHeld := hH2; clear hH2; try go_frame
                refine held_two (o := ⟨some 38, _, _, _, _, _⟩) (p := ⟨some 10, _, _, _, _, _⟩) 4 6 (by kernel_rfl) rfl rfl (by rfl) (by rfl) (fun K hK => ?_) (fun K hK => ?_)
                · go_simp
                  replace n := n.mkR #[.int .i64 p0, .string ps, .int .i64 p2, .int .i64 p3, .slice pA pn pz, .int .i64 q0, .string qs, .int .i64 q2, .int .i64 q3, .slice qA qn qz]
                  obtain ⟨gr, hq⟩ : ∃ u, u = wd.heap.size := ⟨_, rfl⟩
                  rw [← hq] at n ⊢
                  clear hq
                  generalize wd.alloc (.cells #[.int .i64 p0, .string ps, .int .i64 p2, .int .i64 p3, .slice pA pn pz, .int .i64 q0, .string qs, .int .i64 q2, .int .i64 q3, .slice qA qn qz] 24) = wd at *
                  refine hK.out _ _ ?_ (fun hH2 => ?_)
                  · exact ⟨n.kx.cell 0, n.kx.cell 1, n.kx.cell 2, n.kx.cell 3, n.kx.cell 4, n.ky.cell 0, n.ky.cell 1, n.ky.cell 2, n.ky.cell 3, n.ky.cell 4⟩
                  clear hHeld hK K; have hHeld := hH2; clear hH2; try go_frame
                  refine hyY (some 39) 5 rfl hHeld ?_; go_frame
                  refine hyO (some 10) 6 rfl (fun K hK => ?_)
                  go_simp
                  replace n := n.mk9 #[.int .i64 0, .string ⟨#[]⟩, .int .i64 0, .int .i64 0, .slice none 0 0]
                  obtain ⟨g9, hq⟩ : ∃ u, u = wd.heap.size := ⟨_, rfl⟩
                  rw [← hq] at n ⊢
                  clear hq
                  generalize wd.alloc (.cells #[.int .i64 0, .string ⟨#[]⟩, .int .i64 0, .int .i64 0, .slice none 0 0] 24) = wd at *
                  refine hK.out _ _ ?_ (fun hH2 => ?_)
                  · exact ⟨n.kx.cell 0, n.kx.cell 1, n.kx.cell 2, n.kx.cell 3, n.kx.cell 4, n.ky.cell 0, n.ky.cell 1, n.ky.cell 2, n.ky.cell 3, n.ky.cell 4⟩
                  clear hHeld hK K; have hHeld := hH2; clear hH2; try go_frame
                  refine hyO none 7 rfl (fun K hK => ?_)
                  obtain ⟨⟨c0, c1, c2, c3, c4⟩, f0, f1, f2, f3, f4⟩ := n.h9.old
                  go_simp
                  clear c0 c1 c2 c3 c4 f0 f1 f2 f3 f4
                  replace n := n.set9 (.int .i64 6) (.string ⟨#[]⟩) (.int .i64 0) (.int .i64 0) (.slice (some ⟨gr, 0, none⟩) 2 2)
                  refine hK.out _ _ ?_ (fun hH2 => ?_)
                  · exact ⟨n.kx.cell 0, n.kx.cell 1, n.kx.cell 2, n.kx.cell 3, n.kx.cell 4, n.ky.cell 0, n.ky.cell 1, n.ky.cell 2, n.ky.cell 3, n.ky.cell 4⟩
                  clear hHeld hK K; have hHeld := hH2; clear hH2; try go_frame
                  refine wpAnyH_done (by kernel_rfl) ?_ _
                  go_wp2_with fail
                  go_meet
                  exact ⟨g9, gr, rfl, n.done (by unfold I64; omega)⟩
                · go_simp
                  replace n := n.mk9 #[.int .i64 0, .string ⟨#[]⟩, .int .i64 0, .int .i64 0, .slice none 0 0]
                  obtain ⟨g9, hq⟩ : ∃ u, u = wd.heap.size := ⟨_, rfl⟩
                  rw [← hq] at n ⊢
                  clear hq
                  generalize wd.alloc (.cells #[.int .i64 0, .string ⟨#[]⟩, .int .i64 0, .int .i64 0, .slice none 0 0] 24) = wd at *
                  refine hK.out _ _ ?_ (fun hH2 => ?_)
                  · exact ⟨n.kx.cell 0, n.kx.cell 1, n.kx.cell 2, n.kx.cell 3, n.kx.cell 4, n.ky.cell 0, n.ky.cell 1, n.ky.cell 2, n.ky.cell 3, n.ky.cell 4⟩
                  clear hHeld hK K; have hHeld := hH2; clear hH2; try go_frame
                  refine hyO (some 38) 4 rfl (fun K hK => ?_)
                  go_simp
                  replace n := n.mkR #[.int .i64 p0, .string ps, .int .i64 p2, .int .i64 p3, .slice pA pn pz, .int .i64 q0, .string qs, .int .i64 q2, .int .i64 q3, .slice qA qn qz]
                  obtain ⟨gr, hq⟩ : ∃ u, u = wd.heap.size := ⟨_, rfl⟩
                  rw [← hq] at n ⊢
                  clear hq
                  generalize wd.alloc (.cells #[.int .i64 p0, .string ps, .int .i64 p2, .int .i64 p3, .slice pA pn pz, .int .i64 q0, .string qs, .int .i64 q2, .int .i64 q3, .slice qA qn qz] 24) = wd at *
                  refine hK.out _ _ ?_ (fun hH2 => ?_)
                  · exact ⟨n.kx.cell 0, n.kx.cell 1, n.kx.cell 2, n.kx.cell 3, n.kx.cell 4, n.ky.cell 0, n.ky.cell 1, n.ky.cell 2, n.ky.cell 3, n.ky.cell 4⟩
                  clear hHeld hK K; have hHeld := hH2; clear hH2; try go_frame
                  refine hyY (some 39) 5 rfl hHeld ?_; go_frame
                  refine hyO none 7 rfl (fun K hK => ?_)
                  obtain ⟨⟨c0, c1, c2, c3, c4⟩, f0, f1, f2, f3, f4⟩ := n.h9.old
                  go_simp
                  clear c0 c1 c2 c3 c4 f0 f1 f2 f3 f4
                  replace n := n.set9 (.int .i64 6) (.string ⟨#[]⟩) (.int .i64 0) (.int .i64 0) (.slice (some ⟨gr, 0, none⟩) 2 2)
                  refine hK.out _ _ ?_ (fun hH2 => ?_)
                  · exact ⟨n.kx.cell 0, n.kx.cell 1, n.kx.cell 2, n.kx.cell 3, n.kx.cell 4, n.ky.cell 0, n.ky.cell 1, n.ky.cell 2, n.ky.cell 3, n.ky.cell 4⟩
                  clear hHeld hK K; have hHeld := hH2; clear hH2; try go_frame
                  refine wpAnyH_done (by kernel_rfl) ?_ _
                  go_wp2_with fail
                  go_meet
                  exact ⟨g9, gr, rfl, n.done (by unfold I64; omega)⟩
              · go_simp
                replace n := n.mk9 #[.int .i64 0, .string ⟨#[]⟩, .int .i64 0, .int .i64 0, .slice none 0 0]
                obtain ⟨g9, hq⟩ : ∃ u, u = wd.heap.size := ⟨_, rfl⟩
                rw [← hq] at n ⊢
                clear hq
                generalize wd.alloc (.cells #[.int .i64 0, .string ⟨#[]⟩, .int .i64 0, .int .i64 0, .slice none 0 0] 24) = wd at *
                refine hK.out _ _ ?_ (fun hH2 => ?_)
                · exact ⟨n.kx.cell 0, n.kx.cell 1, n.kx.cell 2, n.kx.cell 3, n.kx.cell 4, n.ky.cell 0, n.ky.cell 1, n.ky.cell 2, n.ky.cell 3, n.ky.cell 4⟩
                clear hHeld hK K; have hHeld := hH2; clear hH2; try go_frame
                refine hyO (some 37) 3 rfl (fun K hK => ?_)
                go_simp
                go_at_call 21
                refine (zlnot_any _ f y _ _ n.zy).mono ?_
                rintro e wn ⟨u, rfl, zu, bn⟩
                replace n := n.call2 bn zu
                obtain ⟨q0, lq, q2, q3, qA, qn, qz, rfl⟩ := zu.form
                unfold strV at *
                generalize (⟨lq.toArray⟩ : ByteArray) = qs at *
                clear zu bn
                obtain ⟨wd, hwd⟩ : ∃ u, u = wn := ⟨_, rfl⟩
                rw [← hwd] at n ⊢
                clear hwd
                go_wp2_with fail
                refine hK.out _ _ ?_ (fun hH2 => ?_)
                · exact ⟨n.kx.cell 0, n.kx.cell 1, n.kx.cell 2, n.kx.cell 3, n.kx.cell 4, n.ky.cell 0, n.ky.cell 1, n.ky.cell 2, n.ky.cell 3, n.ky.cell 4⟩
                clear hHeld hK K; have hHeld := hH2; clear hH2; try go_frame
                refine hyO (some 38) 4 rfl (fun K hK => ?_)
                go_simp
                replace n := n.mkR #[.int .i64 p0, .string ps, .int .i64 p2, .int .i64 p3, .slice pA pn pz, .int .i64 q0, .string qs, .int .i64 q2, .int .i64 q3, .slice qA qn qz]
                obtain ⟨gr, hq⟩ : ∃ u, u = wd.heap.size := ⟨_, rfl⟩
                rw [← hq] at n ⊢
                clear hq
                generalize wd.alloc (.cells #[.int .i64 p0, .string ps, .int .i64 p2, .int .i64 p3, .slice pA pn pz, .int .i64 q0, .string qs, .int .i64 q2, .int .i64 q3, .slice qA qn qz] 24) = wd at *
                refine hK.out _ _ ?_ (fun hH2 => ?_)
                · exact ⟨n.kx.cell 0, n.kx.cell 1, n.kx.cell 2, n.kx.cell 3, n.kx.cell 4, n.ky.cell 0, n.ky.cell 1, n.ky.cell 2, n.ky.cell 3, n.ky.cell 4⟩
                clear hHeld hK K; have hHeld := hH2; clear hH2; try go_frame
                refine hyY (some 39) 5 rfl hHeld ?_; go_frame
                refine hyO none 7 rfl (fun K hK => ?_)
                obtain ⟨⟨c0, c1, c2, c3, c4⟩, f0, f1, f2, f3, f4⟩ := n.h9.old
                go_simp
                clear c0 c1 c2 c3 c4 f0 f1 f2 f3 f4
                replace n := n.set9 (.int .i64 6) (.string ⟨#[]⟩) (.int .i64 0) (.int .i64 0) (.slice (some ⟨gr, 0, none⟩) 2 2)
                refine hK.out _ _ ?_ (fun hH2 => ?_)
                · exact ⟨n.kx.cell 0, n.kx.cell 1, n.kx.cell 2, n.kx.cell 3, n.kx.cell 4, n.ky.cell 0, n.ky.cell 1, n.ky.cell 2, n.ky.cell 3, n.ky.cell 4⟩
                clear hHeld hK K; have hHeld := hH2; clear hH2; try go_frame
                refine wpAnyH_done (by kernel_rfl) ?_ _
                go_wp2_with fail
                go_meet
                exact ⟨g9, gr, rfl, n.done (by unfold I64; omega)⟩
            · go_simp
              replace n := n.mk9 #[.int .i64 0, .string ⟨#[]⟩, .int .i64 0, .int .i64 0, .slice none 0 0]
              obtain ⟨g9, hq⟩ : ∃ u, u = wd.heap.size := ⟨_, rfl⟩
              rw [← hq] at n ⊢
              clear hq
              generalize wd.alloc (.cells #[.int .i64 0, .string ⟨#[]⟩, .int .i64 0, .int .i64 0, .slice none 0 0] 24) = wd at *
              refine hK.out _ _ ?_ (fun hH2 => ?_)
              · exact ⟨n.kx.cell 0, n.kx.cell 1, n.kx.cell 2, n.kx.cell 3, n.kx.cell 4, n.ky.cell 0, n.ky.cell 1, n.ky.cell 2, n.ky.cell 3, n.ky.cell 4⟩
              clear hHeld hK K; have hHeld := hH2; clear hH2; try go_frame
              refine hyO (some 35) 1 rfl (fun K hK => ?_)
              go_simp
              go_at_call 21
              refine (zlnot_any _ f x _ _ n.zx).mono ?_
              rintro e wn ⟨u, rfl, zu, bn⟩
              replace n := n.call1 bn zu
              obtain ⟨p0, lp, p2, p3, pA, pn, pz, rfl⟩ := zu.form
              unfold strV at *
              generalize (⟨lp.toArray⟩ : ByteArray) = ps at *
              clear zu bn
              obtain ⟨wd, hwd⟩ : ∃ u, u = wn := ⟨_, rfl⟩
              rw [← hwd] at n ⊢
              clear hwd
              go_wp2_with fail
              refine hK.out _ _ ?_ (fun hH2 => ?_)
              · exact ⟨n.kx.cell 0, n.kx.cell 1, n.kx.cell 2, n.kx.cell 3, n.kx.cell 4, n.ky.cell 0, n.ky.cell 1, n.ky.cell 2, n.ky.cell 3, n.ky.cell 4⟩
              clear hHeld hK K; have hHeld := hH2; clear hH2; try go_frame
              refine hyO (some 37) 3 rfl (fun K hK => ?_)
              go_simp
              go_at_call 21
              refine (zlnot_any _ f y _ _ n.zy).mono ?_
              rintro e wn ⟨u, rfl, zu, bn⟩
              replace n := n.call2 bn zu
              obtain ⟨q0, lq, q2, q3, qA, qn, qz, rfl⟩ := zu.form
              unfold strV at *
              generalize (⟨lq.toArray⟩ : ByteArray) = qs at *
              clear zu bn
              obtain ⟨wd, hwd⟩ : ∃ u, u = wn := ⟨_, rfl⟩
              rw [← hwd] at n ⊢
              clear hwd
              go_wp2_with fail
              refine hK.out _ _ ?_ (fun hH2 => ?_)
              · exact ⟨n.kx.cell 0, n.kx.cell 1, n.kx.cell 2, n.kx.cell 3, n.kx.cell 4, n.ky.cell 0, n.ky.cell 1, n.ky.cell 2, n.ky.cell 3, n.ky.cell 4⟩
              clear hHeld hK K; have hHeld := hH2; clear hH2; try go_frame
              refine hyO (some 38) 4 rfl (fun K hK => ?_)
              go_simp
              replace n := n.mkR #[.int .i64 p0, .string ps, .int .i64 p2, .int .i64 p3, .slice pA pn pz, .int .i64 q0, .string qs, .int .i64 q2, .int .i64 q3, .slice qA qn qz]
              obtain ⟨gr, hq⟩ : ∃ u, u = wd.heap.size := ⟨_, rfl⟩
              rw [← hq] at n ⊢
              clear hq
              generalize wd.alloc (.cells #[.int .i64 p0, .string ps, .int .i64 p2, .int .i64 p3, .slice pA pn pz, .int .i64 q0, .string qs, .int .i64 q2, .int .i64 q3, .slice qA qn qz] 24) = wd at *
              refine hK.out _ _ ?_ (fun hH2 => ?_)
              · exact ⟨n.kx.cell 0, n.kx.cell 1, n.kx.cell 2, n.kx.cell 3, n.kx.cell 4, n.ky.cell 0, n.ky.cell 1, n.ky.cell 2, n.ky.cell 3, n.ky.cell 4⟩
              clear hHeld hK K; have hHeld := hH2; clear hH2; try go_frame
              refine hyY (some 39) 5 rfl hHeld ?_; go_frame
              refine hyO none 7 rfl (fun K hK => ?_)
              obtain ⟨⟨c0, c1, c2, c3, c4⟩, f0, f1, f2, f3, f4⟩ := n.h9.old
              go_simp
              clear c0 c1 c2 c3 c4 f0 f1 f2 f3 f4
              replace n := n.set9 (.int .i64 6) (.string ⟨#[]⟩) (.int .i64 0) (.int .i64 0) (.slice (some ⟨gr, 0, none⟩) 2 2)
              refine hK.out _ _ ?_ (fun hH2 => ?_)
              · exact ⟨n.kx.cell 0, n.kx.cell 1, n.kx.cell 2, n.kx.cell 3, n.kx.cell 4, n.ky.cell 0, n.ky.cell 1, n.ky.cell 2, n.ky.cell 3, n.ky.cell 4⟩
              clear hHeld hK K; have hHeld := hH2; clear hH2; try go_frame
              refine wpAnyH_done (by kernel_rfl) ?_ _
              go_wp2_with fail
              go_meet
              exact ⟨g9, gr, rfl, n.done (by unfold I64; omega)⟩
          case rest =>
            obtain ⟨g10, gs, rfl, k10, z10, b5⟩ := hcut
            obtain ⟨w5, rfl⟩ : ∃ w5, w5 = wc := ⟨_, rfl⟩
            replace kx := kx.below b5 kx.lt
            replace ky := ky.below b5 ky.lt
            replace kr := kr.below b5 kr.lt
            replace k7 := k7.below b5 k7.lt
            replace k8 := k8.below b5 k8.lt
            replace k9 := k9.below b5 k9.lt
            replace hx := hx.below' b5
            replace hy := hy.below' b5
            replace z7 := z7.below' b5
            replace z8 := z8.below' b5
            replace z9 := z9.below' b5
            replace B := B.trans (b5.mono B.size)
            clear b5 ky hy
            obtain ⟨m1, hm1⟩ : ∃ m, m = matchS rc (f + 1 + 1) (orsS [notS x, notS y]) := ⟨_, rfl⟩
            obtain ⟨m2, hm2⟩ : ∃ m, m = matchS rc (f + 1 + 1) (andsS [notS x, notS y]) := ⟨_, rfl⟩
            obtain ⟨m3, hm3⟩ : ∃ m, m = matchS rc f x := ⟨_, rfl⟩
            have HA : Hid (∀ v W, ZV W (fun _ => True) (f + 1 + 1) v (notS (andsS [x, y])) → Calls Try.prog 19 #[v, .agg #[.string s0, .string s1, .string s2, .string s3, .int .i64 tick, .int .i64 st]] W fun e w' => e = .returned (.bool m1) ∧ Below W.heap.size W w') := fun v W h => by
              have := HM.out (f + 1 + 1) (notS (andsS [x, y])) v W h
              rw [N1, ← hm1] at this
              exact this
            have HB : Hid (∀ v W, ZV W (fun _ => True) (f + 1 + 1) v (orsS [notS x, notS y]) → Calls Try.prog 19 #[v, .agg #[.string s0, .string s1, .string s2, .string s3, .int .i64 tick, .int .i64 st]] W fun e w' => e = .returned (.bool m1) ∧ Below W.heap.size W w') := fun v W h => by
              have := HM.out (f + 1 + 1) (orsS [notS x, notS y]) v W h
              rw [← hm1] at this
              exact this
            have HC : Hid (∀ v W, ZV W (fun _ => True) (f + 1 + 1) v (notS (orsS [x, y])) → Calls Try.prog 19 #[v, .agg #[.string s0, .string s1, .string s2, .string s3, .int .i64 tick, .int .i64 st]] W fun e w' => e = .returned (.bool m2) ∧ Below W.heap.size W w') := fun v W h => by
              have := HM.out (f + 1 + 1) (notS (orsS [x, y])) v W h
              rw [N2, ← hm2] at this
              exact this
            have HD : Hid (∀ v W, ZV W (fun _ => True) (f + 1 + 1) v (andsS [notS x, notS y]) → Calls Try.prog 19 #[v, .agg #[.string s0, .string s1, .string s2, .string s3, .int .i64 tick, .int .i64 st]] W fun e w' => e = .returned (.bool m2) ∧ Below W.heap.size W w') := fun v W h => by
              have := HM.out (f + 1 + 1) (andsS [notS x, notS y]) v W h
              rw [← hm2] at this
              exact this
            have HE : Hid (∀ v W, ZV W (fun _ => True) (f + 1 + 1) v (notS (notS x)) → Calls Try.prog 19 #[v, .agg #[.string s0, .string s1, .string s2, .string s3, .int .i64 tick, .int .i64 st]] W fun e w' => e = .returned (.bool m3) ∧ Below W.heap.size W w') := fun v W h => by
              have := HM.out (f + 1 + 1) (notS (notS x)) v W h
              rw [N3, ← hm3] at this
              exact this
            have HF : Hid (∀ v W, ZV W (fun _ => True) (f) v (x) → Calls Try.prog 19 #[v, .agg #[.string s0, .string s1, .string s2, .string s3, .int .i64 tick, .int .i64 st]] W fun e w' => e = .returned (.bool m3) ∧ Below W.heap.size W w') := fun v W h => by
              have := HM.out (f) (x) v W h
              rw [← hm3] at this
              exact this
            have E1 : (m1 == m1) = true := by simp
            have E2 : (m2 == m2) = true := by simp
            have E3 : (m3 == m3) = true := by simp
            clear HM N1 N2 N3 hm1 hm2 hm3
            replace kx : KB w5.drew w.heap.size 24 #[.int .i64 x0, .string xs, .int .i64 x2, .int .i64 x3, .slice xA xn xz] := kx
            replace k7 : KB w5.drew g7 24 #[.int .i64 6, .string ⟨#[]⟩, .int .i64 0, .int .i64 0, .slice (some ⟨gA, 0, none⟩) 2 2] := k7
            replace k8 : KB w5.drew g8 24 #[.int .i64 7, .string ⟨#[]⟩, .int .i64 0, .int .i64 0, .slice (some ⟨gB, 0, none⟩) 2 2] := k8
            replace k9 : KB w5.drew g9 24 #[.int .i64 7, .string ⟨#[]⟩, .int .i64 0, .int .i64 0, .slice (some ⟨gr, 0, none⟩) 2 2] := k9
            replace k10 : KB w5.drew g10 24 #[.int .i64 6, .string ⟨#[]⟩, .int .i64 0, .int .i64 0, .slice (some ⟨gs, 0, none⟩) 2 2] := k10
            replace kr : KB w5.drew (w.heap.size + 1 + 1) 43 #[.string s0, .string s1, .string s2, .string s3, .int .i64 tick, .int .i64 st] := kr
            replace B : Below w.heap.size w w5.drew := Below_drawn B 1
            replace hx : ZV w5.drew (fun _ => True) (f) (.agg #[.int .i64 x0, .string xs, .int .i64 x2, .int .i64 x3, .slice xA xn xz]) (x) := hx.below' (Below_drawn (Below.refl _ _) 1)
            replace z7 : ZV w5.drew (fun _ => True) (f + 1) (.agg #[.int .i64 6, .string ⟨#[]⟩, .int .i64 0, .int .i64 0, .slice (some ⟨gA, 0, none⟩) 2 2]) (andsS [x, y]) := z7.below' (Below_drawn (Below.refl _ _) 1)
            replace z8 : ZV w5.drew (fun _ => True) (f + 1) (.agg #[.int .i64 7, .string ⟨#[]⟩, .int .i64 0, .int .i64 0, .slice (some ⟨gB, 0, none⟩) 2 2]) (orsS [x, y]) := z8.below' (Below_drawn (Below.refl _ _) 1)
            replace z9 : ZV w5.drew (fun _ => True) (f + 1 + 1) (.agg #[.int .i64 7, .string ⟨#[]⟩, .int .i64 0, .int .i64 0, .slice (some ⟨gr, 0, none⟩) 2 2]) (orsS [notS x, notS y]) := z9.below' (Below_drawn (Below.refl _ _) 1)
            replace z10 : ZV w5.drew (fun _ => True) (f + 1 + 1) (.agg #[.int .i64 6, .string ⟨#[]⟩, .int .i64 0, .int .i64 0, .slice (some ⟨gs, 0, none⟩) 2 2]) (andsS [notS x, notS y]) := z10.below' (Below_drawn (Below.refl _ _) 1)
            go_wp2_with fail
            rename_i KK hKK
            have HKK := Lib.hid hKK
            clear hKK
            refine wp_region_held_drew (S := (fun W => W.cell? ⟨w.heap.size, 0, none⟩ = some (.int .i64 x0) ∧ W.cell? ⟨w.heap.size, 1, none⟩ = some (.string xs) ∧ W.cell? ⟨w.heap.size, 2, none⟩ = some (.int .i64 x2) ∧ W.cell? ⟨w.heap.size, 3, none⟩ = some (.int .i64 x3) ∧ W.cell? ⟨w.heap.size, 4, none⟩ = some (.slice xA xn xz) ∧ W.cell? ⟨w.heap.size + 1 + 1, 0, none⟩ = some (.string s0) ∧ W.cell? ⟨w.heap.size + 1 + 1, 1, none⟩ = some (.string s1) ∧ W.cell? ⟨w.heap.size + 1 + 1, 2, none⟩ = some (.string s2) ∧ W.cell? ⟨w.heap.size + 1 + 1, 3, none⟩ = some (.string s3) ∧ W.cell? ⟨w.heap.size + 1 + 1, 4, none⟩ = some (.int .i64 tick) ∧ W.cell? ⟨w.heap.size + 1 + 1, 5, none⟩ = some (.int .i64 st) ∧ W.cell? ⟨g7, 0, none⟩ = some (.int .i64 6) ∧ W.cell? ⟨g7, 1, none⟩ = some (.string ⟨#[]⟩) ∧ W.cell? ⟨g7, 2, none⟩ = some (.int .i64 0) ∧ W.cell? ⟨g7, 3, none⟩ = some (.int .i64 0) ∧ W.cell? ⟨g7, 4, none⟩ = some (.slice (some ⟨gA, 0, none⟩) 2 2) ∧ W.cell? ⟨g8, 0, none⟩ = some (.int .i64 7) ∧ W.cell? ⟨g8, 1, none⟩ = some (.string ⟨#[]⟩) ∧ W.cell? ⟨g8, 2, none⟩ = some (.int .i64 0) ∧ W.cell? ⟨g8, 3, none⟩ = some (.int .i64 0) ∧ W.cell? ⟨g8, 4, none⟩ = some (.slice (some ⟨gB, 0, none⟩) 2 2) ∧ W.cell? ⟨g9, 0, none⟩ = some (.int .i64 7) ∧ W.cell? ⟨g9, 1, none⟩ = some (.string ⟨#[]⟩) ∧ W.cell? ⟨g9, 2, none⟩ = some (.int .i64 0) ∧ W.cell? ⟨g9, 3, none⟩ = some (.int .i64 0) ∧ W.cell? ⟨g9, 4, none⟩ = some (.slice (some ⟨gr, 0, none⟩) 2 2) ∧ W.cell? ⟨g10, 0, none⟩ = some (.int .i64 6) ∧ W.cell? ⟨g10, 1, none⟩ = some (.string ⟨#[]⟩) ∧ W.cell? ⟨g10, 2, none⟩ = some (.int .i64 0) ∧ W.cell? ⟨g10, 3, none⟩ = some (.int .i64 0) ∧ W.cell? ⟨g10, 4, none⟩ = some (.slice (some ⟨gs, 0, none⟩) 2 2))) (by kernel_rfl) ⟨kx.cell 0, kx.cell 1, kx.cell 2, kx.cell 3, kx.cell 4, kr.cell 0, kr.cell 1, kr.cell 2, kr.cell 3, kr.cell 4, kr.cell 5, k7.cell 0, k7.cell 1, k7.cell 2, k7.cell 3, k7.cell 4, k8.cell 0, k8.cell 1, k8.cell 2, k8.cell 3, k8.cell 4, k9.cell 0, k9.cell 1, k9.cell 2, k9.cell 3, k9.cell 4, k10.cell 0, k10.cell 1, k10.cell 2, k10.cell 3, k10.cell 4⟩ (fun hHeld => ?_)
            generalize w5.drew = wd at *
            refine hyY (some 40) 0 rfl hHeld ?_; go_frame
            refine hyY (some 42) 2 rfl hHeld ?_; go_frame
            refine hyY (some 44) 4 rfl hHeld ?_; go_frame
            refine hyY (some 45) 5 rfl hHeld ?_; go_frame
            refine hyO (some 41) 1 rfl (fun K hK => ?_)
            go_simp
            go_at_call 21
            refine (zlnot_any _ (f + 1) (andsS [x, y]) _ _ z7).mono ?_
            rintro e wn ⟨ua, rfl, zua, bn⟩
            replace zua := zany _ zua
            replace kx := kx.below bn kx.lt
            replace kr := kr.below bn kr.lt
            replace k7 := k7.below bn k7.lt
            replace k8 := k8.below bn k8.lt
            replace k9 := k9.below bn k9.lt
            replace k10 := k10.below bn k10.lt
            replace hx := hx.below' bn
            replace z7 := z7.below' bn
            replace z8 := z8.below' bn
            replace z9 := z9.below' bn
            replace z10 := z10.below' bn
            replace B := B.trans (bn.mono B.size)
            clear bn
            go_wp2_with fail
            refine hK.out _ _ ?_ (fun hH2 => ?_)
            · exact ⟨kx.cell 0, kx.cell 1, kx.cell 2, kx.cell 3, kx.cell 4, kr.cell 0, kr.cell 1, kr.cell 2, kr.cell 3, kr.cell 4, kr.cell 5, k7.cell 0, k7.cell 1, k7.cell 2, k7.cell 3, k7.cell 4, k8.cell 0, k8.cell 1, k8.cell 2, k8.cell 3, k8.cell 4, k9.cell 0, k9.cell 1, k9.cell 2, k9.cell 3, k9.cell 4, k10.cell 0, k10.cell 1, k10.cell 2, k10.cell 3, k10.cell 4⟩
            clear hHeld hK K; have hHeld := hH2; clear hH2; try go_frame
            refine hyO (some 43) 3 rfl (fun K hK => ?_)
            go_simp
            go_at_call 19
            refine (HA.out _ _ zua).mono ?_
            rintro e wn ⟨rfl, bn⟩
            replace kx := kx.below bn kx.lt
            replace kr := kr.below bn kr.lt
            replace k7 := k7.below bn k7.lt
            replace k8 := k8.below bn k8.lt
            replace k9 := k9.below bn k9.lt
            replace k10 := k10.below bn k10.lt
            replace hx := hx.below' bn
            replace z7 := z7.below' bn
            replace z8 := z8.below' bn
            replace z9 := z9.below' bn
            replace z10 := z10.below' bn
            replace B := B.trans (bn.mono B.size)
            clear bn
            go_wp2_with fail
            refine hK.out _ _ ?_ (fun hH2 => ?_)
            · exact ⟨kx.cell 0, kx.cell 1, kx.cell 2, kx.cell 3, kx.cell 4, kr.cell 0, kr.cell 1, kr.cell 2, kr.cell 3, kr.cell 4, kr.cell 5, k7.cell 0, k7.cell 1, k7.cell 2, k7.cell 3, k7.cell 4, k8.cell 0, k8.cell 1, k8.cell 2, k8.cell 3, k8.cell 4, k9.cell 0, k9.cell 1, k9.cell 2, k9.cell 3, k9.cell 4, k10.cell 0, k10.cell 1, k10.cell 2, k10.cell 3, k10.cell 4⟩
            clear hHeld hK K; have hHeld := hH2; clear hH2; try go_frame
            refine hyO (some 46) 6 rfl (fun K hK => ?_)
            go_simp
            go_at_call 19
            refine (HB.out _ _ z9).mono ?_
            rintro e wn ⟨rfl, bn⟩
            replace kx := kx.below bn kx.lt
            replace kr := kr.below bn kr.lt
            replace k7 := k7.below bn k7.lt
            replace k8 := k8.below bn k8.lt
            replace k9 := k9.below bn k9.lt
            replace k10 := k10.below bn k10.lt
            replace hx := hx.below' bn
            replace z7 := z7.below' bn
            replace z8 := z8.below' bn
            replace z9 := z9.below' bn
            replace z10 := z10.below' bn
            replace B := B.trans (bn.mono B.size)
            clear bn
            go_wp2_with fail
            refine hK.out _ _ ?_ (fun hH2 => ?_)
            · exact ⟨kx.cell 0, kx.cell 1, kx.cell 2, kx.cell 3, kx.cell 4, kr.cell 0, kr.cell 1, kr.cell 2, kr.cell 3, kr.cell 4, kr.cell 5, k7.cell 0, k7.cell 1, k7.cell 2, k7.cell 3, k7.cell 4, k8.cell 0, k8.cell 1, k8.cell 2, k8.cell 3, k8.cell 4, k9.cell 0, k9.cell 1, k9.cell 2, k9.cell 3, k9.cell 4, k10.cell 0, k10.cell 1, k10.cell 2, k10.cell 3, k10.cell 4⟩
            clear hHeld hK K; have hHeld := hH2; clear hH2; try go_frame
            refine hyY (some 47) 7 rfl hHeld ?_; go_frame
            refine hyY (some 48) 8 rfl hHeld ?_; go_frame
            refine hyY (some 49) 9 rfl hHeld ?_; go_frame
            refine hyY (some 51) 11 rfl hHeld ?_; go_frame
            refine hyY (some 53) 13 rfl hHeld ?_; go_frame
            refine hyY (some 54) 14 rfl hHeld ?_; go_frame
            refine hyO (some 50) 10 rfl (fun K hK => ?_)
            go_simp
            go_at_call 21
            refine (zlnot_any _ (f + 1) (orsS [x, y]) _ _ z8).mono ?_
            rintro e wn ⟨ub, rfl, zub, bn⟩
            replace zub := zany _ zub
            replace kx := kx.below bn kx.lt
            replace kr := kr.below bn kr.lt
            replace k7 := k7.below bn k7.lt
            replace k8 := k8.below bn k8.lt
            replace k9 := k9.below bn k9.lt
            replace k10 := k10.below bn k10.lt
            replace hx := hx.below' bn
            replace z7 := z7.below' bn
            replace z8 := z8.below' bn
            replace z9 := z9.below' bn
            replace z10 := z10.below' bn
            replace B := B.trans (bn.mono B.size)
            clear bn
            go_wp2_with fail
            refine hK.out _ _ ?_ (fun hH2 => ?_)
            · exact ⟨kx.cell 0, kx.cell 1, kx.cell 2, kx.cell 3, kx.cell 4, kr.cell 0, kr.cell 1, kr.cell 2, kr.cell 3, kr.cell 4, kr.cell 5, k7.cell 0, k7.cell 1, k7.cell 2, k7.cell 3, k7.cell 4, k8.cell 0, k8.cell 1, k8.cell 2, k8.cell 3, k8.cell 4, k9.cell 0, k9.cell 1, k9.cell 2, k9.cell 3, k9.cell 4, k10.cell 0, k10.cell 1, k10.cell 2, k10.cell 3, k10.cell 4⟩
            clear hHeld hK K; have hHeld := hH2; clear hH2; try go_frame
            refine hyO (some 52) 12 rfl (fun K hK => ?_)
            go_simp
            go_at_call 19
            refine (HC.out _ _ zub).mono ?_
            rintro e wn ⟨rfl, bn⟩
            replace kx := kx.below bn kx.lt
            replace kr := kr.below bn kr.lt
            replace k7 := k7.below bn k7.lt
            replace k8 := k8.below bn k8.lt
            replace k9 := k9.below bn k9.lt
            replace k10 := k10.below bn k10.lt
            replace hx := hx.below' bn
            replace z7 := z7.below' bn
            replace z8 := z8.below' bn
            replace z9 := z9.below' bn
            replace z10 := z10.below' bn
            replace B := B.trans (bn.mono B.size)
            clear bn
            go_wp2_with fail
            refine hK.out _ _ ?_ (fun hH2 => ?_)
            · exact ⟨kx.cell 0, kx.cell 1, kx.cell 2, kx.cell 3, kx.cell 4, kr.cell 0, kr.cell 1, kr.cell 2, kr.cell 3, kr.cell 4, kr.cell 5, k7.cell 0, k7.cell 1, k7.cell 2, k7.cell 3, k7.cell 4, k8.cell 0, k8.cell 1, k8.cell 2, k8.cell 3, k8.cell 4, k9.cell 0, k9.cell 1, k9.cell 2, k9.cell 3, k9.cell 4, k10.cell 0, k10.cell 1, k10.cell 2, k10.cell 3, k10.cell 4⟩
            clear hHeld hK K; have hHeld := hH2; clear hH2; try go_frame
            refine hyO (some 55) 15 rfl (fun K hK => ?_)
            go_simp
            go_at_call 19
            refine (HD.out _ _ z10).mono ?_
            rintro e wn ⟨rfl, bn⟩
            replace kx := kx.below bn kx.lt
            replace kr := kr.below bn kr.lt
            replace k7 := k7.below bn k7.lt
            replace k8 := k8.below bn k8.lt
            replace k9 := k9.below bn k9.lt
            replace k10 := k10.below bn k10.lt
            replace hx := hx.below' bn
            replace z7 := z7.below' bn
            replace z8 := z8.below' bn
            replace z9 := z9.below' bn
            replace z10 := z10.below' bn
            replace B := B.trans (bn.mono B.size)
            clear bn
            go_wp2_with fail
            refine hK.out _ _ ?_ (fun hH2 => ?_)
            · exact ⟨kx.cell 0, kx.cell 1, kx.cell 2, kx.cell 3, kx.cell 4, kr.cell 0, kr.cell 1, kr.cell 2, kr.cell 3, kr.cell 4, kr.cell 5, k7.cell 0, k7.cell 1, k7.cell 2, k7.cell 3, k7.cell 4, k8.cell 0, k8.cell 1, k8.cell 2, k8.cell 3, k8.cell 4, k9.cell 0, k9.cell 1, k9.cell 2, k9.cell 3, k9.cell 4, k10.cell 0, k10.cell 1, k10.cell 2, k10.cell 3, k10.cell 4⟩
            clear hHeld hK K; have hHeld := hH2; clear hH2; try go_frame
            refine hyY (some 56) 16 rfl hHeld ?_; go_frame
            refine hyY (some 57) 17 rfl hHeld ?_; go_frame
            refine hyY (some 58) 18 rfl hHeld ?_; go_frame
            refine hyY (some 59) 19 rfl hHeld ?_; go_frame
            refine hyY (some 62) 22 rfl hHeld ?_; go_frame
            refine hyY (some 64) 24 rfl hHeld ?_; go_frame
            refine hyY (some 65) 25 rfl hHeld ?_; go_frame
            refine hyO (some 60) 20 rfl (fun K hK => ?_)
            go_simp
            go_at_call 21
            refine (zlnot_any _ (f) (x) _ _ hx).mono ?_
            rintro e wn ⟨uc, rfl, zuc, bn⟩
            replace zuc := zany _ zuc
            replace kx := kx.below bn kx.lt
            replace kr := kr.below bn kr.lt
            replace k7 := k7.below bn k7.lt
            replace k8 := k8.below bn k8.lt
            replace k9 := k9.below bn k9.lt
            replace k10 := k10.below bn k10.lt
            replace hx := hx.below' bn
            replace z7 := z7.below' bn
            replace z8 := z8.below' bn
            replace z9 := z9.below' bn
            replace z10 := z10.below' bn
            replace B := B.trans (bn.mono B.size)
            clear bn
            go_wp2_with fail
            refine hK.out _ _ ?_ (fun hH2 => ?_)
            · exact ⟨kx.cell 0, kx.cell 1, kx.cell 2, kx.cell 3, kx.cell 4, kr.cell 0, kr.cell 1, kr.cell 2, kr.cell 3, kr.cell 4, kr.cell 5, k7.cell 0, k7.cell 1, k7.cell 2, k7.cell 3, k7.cell 4, k8.cell 0, k8.cell 1, k8.cell 2, k8.cell 3, k8.cell 4, k9.cell 0, k9.cell 1, k9.cell 2, k9.cell 3, k9.cell 4, k10.cell 0, k10.cell 1, k10.cell 2, k10.cell 3, k10.cell 4⟩
            clear hHeld hK K; have hHeld := hH2; clear hH2; try go_frame
            refine hyO (some 61) 21 rfl (fun K hK => ?_)
            go_simp
            go_at_call 21
            refine (zlnot_any _ (f + 1) (notS x) _ _ zuc).mono ?_
            rintro e wn ⟨ud, rfl, zud, bn⟩
            replace zud := zany _ zud
            replace kx := kx.below bn kx.lt
            replace kr := kr.below bn kr.lt
            replace k7 := k7.below bn k7.lt
            replace k8 := k8.below bn k8.lt
            replace k9 := k9.below bn k9.lt
            replace k10 := k10.below bn k10.lt
            replace hx := hx.below' bn
            replace z7 := z7.below' bn
            replace z8 := z8.below' bn
            replace z9 := z9.below' bn
            replace z10 := z10.below' bn
            replace B := B.trans (bn.mono B.size)
            clear bn
            go_wp2_with fail
            refine hK.out _ _ ?_ (fun hH2 => ?_)
            · exact ⟨kx.cell 0, kx.cell 1, kx.cell 2, kx.cell 3, kx.cell 4, kr.cell 0, kr.cell 1, kr.cell 2, kr.cell 3, kr.cell 4, kr.cell 5, k7.cell 0, k7.cell 1, k7.cell 2, k7.cell 3, k7.cell 4, k8.cell 0, k8.cell 1, k8.cell 2, k8.cell 3, k8.cell 4, k9.cell 0, k9.cell 1, k9.cell 2, k9.cell 3, k9.cell 4, k10.cell 0, k10.cell 1, k10.cell 2, k10.cell 3, k10.cell 4⟩
            clear hHeld hK K; have hHeld := hH2; clear hH2; try go_frame
            refine hyO (some 63) 23 rfl (fun K hK => ?_)
            go_simp
            go_at_call 19
            refine (HE.out _ _ zud).mono ?_
            rintro e wn ⟨rfl, bn⟩
            replace kx := kx.below bn kx.lt
            replace kr := kr.below bn kr.lt
            replace k7 := k7.below bn k7.lt
            replace k8 := k8.below bn k8.lt
            replace k9 := k9.below bn k9.lt
            replace k10 := k10.below bn k10.lt
            replace hx := hx.below' bn
            replace z7 := z7.below' bn
            replace z8 := z8.below' bn
            replace z9 := z9.below' bn
            replace z10 := z10.below' bn
            replace B := B.trans (bn.mono B.size)
            clear bn
            go_wp2_with fail
            refine hK.out _ _ ?_ (fun hH2 => ?_)
            · exact ⟨kx.cell 0, kx.cell 1, kx.cell 2, kx.cell 3, kx.cell 4, kr.cell 0, kr.cell 1, kr.cell 2, kr.cell 3, kr.cell 4, kr.cell 5, k7.cell 0, k7.cell 1, k7.cell 2, k7.cell 3, k7.cell 4, k8.cell 0, k8.cell 1, k8.cell 2, k8.cell 3, k8.cell 4, k9.cell 0, k9.cell 1, k9.cell 2, k9.cell 3, k9.cell 4, k10.cell 0, k10.cell 1, k10.cell 2, k10.cell 3, k10.cell 4⟩
            clear hHeld hK K; have hHeld := hH2; clear hH2; try go_frame
            refine hyO (some 66) 26 rfl (fun K hK => ?_)
            go_simp
            go_at_call 19
            refine (HF.out _ _ hx).mono ?_
            rintro e wn ⟨rfl, bn⟩
            replace kx := kx.below bn kx.lt
            replace kr := kr.below bn kr.lt
            replace k7 := k7.below bn k7.lt
            replace k8 := k8.below bn k8.lt
            replace k9 := k9.below bn k9.lt
            replace k10 := k10.below bn k10.lt
            replace hx := hx.below' bn
            replace z7 := z7.below' bn
            replace z8 := z8.below' bn
            replace z9 := z9.below' bn
            replace z10 := z10.below' bn
            replace B := B.trans (bn.mono B.size)
            clear bn
            go_wp2_with fail
            refine hK.out _ _ ?_ (fun hH2 => ?_)
            · exact ⟨kx.cell 0, kx.cell 1, kx.cell 2, kx.cell 3, kx.cell 4, kr.cell 0, kr.cell 1, kr.cell 2, kr.cell 3, kr.cell 4, kr.cell 5, k7.cell 0, k7.cell 1, k7.cell 2, k7.cell 3, k7.cell 4, k8.cell 0, k8.cell 1, k8.cell 2, k8.cell 3, k8.cell 4, k9.cell 0, k9.cell 1, k9.cell 2, k9.cell 3, k9.cell 4, k10.cell 0, k10.cell 1, k10.cell 2, k10.cell 3, k10.cell 4⟩
            clear hHeld hK K; have hHeld := hH2; clear hH2; try go_frame
            refine hyY (some 67) 27 rfl hHeld ?_; go_frame
            refine hyY (some 68) 28 rfl hHeld ?_; go_frame
            refine hyY (some 69) 29 rfl hHeld ?_; go_frame
            refine hyO (some 70) 30 rfl (fun K hK => ?_)
            go_simp
            go_at_call 9
            refine (live20_any _).mono ?_
            rintro e wn ⟨rfl, bn⟩
            replace kx := kx.below bn kx.lt
            replace kr := kr.below bn kr.lt
            replace k7 := k7.below bn k7.lt
            replace k8 := k8.below bn k8.lt
            replace k9 := k9.below bn k9.lt
            replace k10 := k10.below bn k10.lt
            replace hx := hx.below' bn
            replace z7 := z7.below' bn
            replace z8 := z8.below' bn
            replace z9 := z9.below' bn
            replace z10 := z10.below' bn
            replace B := B.trans (bn.mono B.size)
            clear bn
            go_wp2_with fail
            refine hK.out _ _ ?_ (fun hH2 => ?_)
            · exact ⟨kx.cell 0, kx.cell 1, kx.cell 2, kx.cell 3, kx.cell 4, kr.cell 0, kr.cell 1, kr.cell 2, kr.cell 3, kr.cell 4, kr.cell 5, k7.cell 0, k7.cell 1, k7.cell 2, k7.cell 3, k7.cell 4, k8.cell 0, k8.cell 1, k8.cell 2, k8.cell 3, k8.cell 4, k9.cell 0, k9.cell 1, k9.cell 2, k9.cell 3, k9.cell 4, k10.cell 0, k10.cell 1, k10.cell 2, k10.cell 3, k10.cell 4⟩
            clear hHeld hK K; have hHeld := hH2; clear hH2; try go_frame
            refine hyY (some 71) 31 rfl hHeld ?_; go_frame
            refine hyY (some 6) 32 rfl hHeld ?_; go_frame
            refine wpAnyH_done (by kernel_rfl) ?_ _
            have hKK := HKK.out
            go_wp2_with fail
            go_ret
            exact ⟨rfl, B⟩
theorem scopeNots_law {H : Type} (enc : TypeId × Value → H) (W : World) (base : Nat) (v0 : Value) (d0 : DataW H) (p0 : List MemPlace) (v1 : Value) (d1 : DataW H) (p1 : List MemPlace) (v2 : Value) (d2 : DataW H) (p2 : List MemPlace)
    (k0 : Value.okWide Try.prog W .any base 24 v0) (k1 : Value.okWide Try.prog W .any base 24 v1) (k2 : Value.okWide Try.prog W .any base 43 v2)
    (h0 : DataW.Trod enc Try.prog W 0 (fun _ => true) true 24 v0 d0 p0) (h1 : DataW.Trod enc Try.prog W 0 (fun _ => true) true 24 v1 d1 p1) (h2 : DataW.Trod enc Try.prog W 0 (fun _ => true) true 43 v2 d2 p2) :
    Calls Try.prog 7 #[v0, v1, v2] W fun e W' => e = .returned (.bool true) ∧ Below W.heap.size W W' := by
  obtain ⟨n, hn⟩ := open_scope k0 h0
  obtain ⟨m, hm⟩ := open_scope k1 h1
  obtain ⟨x, hx⟩ := hn (max n m) (Nat.le_max_left _ _)
  obtain ⟨y, hy⟩ := hm (max n m) (Nat.le_max_right _ _)
  obtain ⟨r, hr⟩ := open_zrec k2 h2
  exact scopeNots_main (max n m) x y r v0 v1 v2 W (zany _ hx) (zany _ hy) hr
end
end Go.Proofs.Ytcbkokhjdleoeaa
section
namespace Go.Proofs.Ytcbkokhjdleoeaa.scopeNots
open Go.ChangeShapes Go.WideShapes Go.ChangeAt Go.RowKit
theorem own : ownKnob Try.prog.godebug = none := by kernel_rfl
theorem laidOut : laidOutB Try.prog = true := by kernel_rfl
set_option maxRecDepth 100000 in
theorem lifted (os : Os) (started : os.Started) (H : Type) (enc : TypeId × Value → H) :
    ReturnsInHanded {} Try.checked os 7 .any (Rows.scopeNotsSpec.pre6 enc Try.prog Try.f7 Rows.scopeNotsRow.domain false) (Rows.scopeNotsSpec.post enc Try.prog Try.f7 false true false false) := by
  refine returnsInHanded_of_change (C := Try.checked) own started (by kernel_rfl) Try.func7
    (ChangeSpec.witness6 (enc := enc) (C := Try.checked) false ⟨#[], #[.agg #[.int .i64 0, .string ByteArray.empty, .int .i64 0, .int .i64 0, .slice none 0 0], .agg #[.int .i64 0, .string ByteArray.empty, .int .i64 0, .int .i64 0, .slice none 0 0], .agg #[.string ByteArray.empty, .string ByteArray.empty, .string ByteArray.empty, .string ByteArray.empty, .int .i64 0, .int .i64 0]], []⟩ 8 (by kernel_rfl) (by kernel_rfl) (by kernel_rfl) (by kernel_rfl)) ?_
  intro W base args ds gs before hval0 hW hcnd _
  have hval : ∀ (j : Nat) t v, Try.f7.params[j]? = some t → args[j]? = some v → Value.okWide Try.prog W .any base t v := hval0
  have hW' := hW
  obtain ⟨p, q, hA0, hV, rfl, hfz, hnd⟩ := hW
  have hA : DataW.TrodAll enc Try.prog W 0 (fun _ => true) true Try.f7.params.toList args.toList ds p := hA0
  rw [Try.params7] at hA hval
  obtain ⟨v0, vs0, d0, ds0, p0, q0, hargs, rfl, rfl, h0, r0⟩ := trodAll_cons hA
  obtain ⟨v1, vs1, d1, ds1, p1, q1, rfl, rfl, rfl, h1, r1⟩ := trodAll_cons r0
  obtain ⟨v2, vs2, d2, ds2, p2, q2, rfl, rfl, rfl, h2, r2⟩ := trodAll_cons r1
  obtain ⟨rfl, rfl, rfl⟩ := trodAll_nil r2
  obtain rfl : args = #[v0, v1, v2] := by cases args; simp_all
  obtain ⟨rfl, rfl⟩ := trodVars_none hV
  have lt0 : ∀ x ∈ p0, x.block < W.heap.size := by obtain ⟨m, hm⟩ := h0; exact DataW.trod_lt m _ _ _ hm
  have lt1 : ∀ x ∈ p1, x.block < W.heap.size := by obtain ⟨m, hm⟩ := h1; exact DataW.trod_lt m _ _ _ hm
  have lt2 : ∀ x ∈ p2, x.block < W.heap.size := by obtain ⟨m, hm⟩ := h2; exact DataW.trod_lt m _ _ _ hm
  refine (scopeNots_law enc W base v0 d0 p0 v1 d1 p1 v2 d2 p2 (hval 0 _ v0 rfl rfl) (hval 1 _ v1 rfl rfl) (hval 2 _ v2 rfl rfl) h0 h1 h2).mono fun e W' ⟨he, bel⟩ => ?_
  subst he
  exact ⟨_, rfl, _, _, _, [], _, [], hW', trodAll_mk1 (shut_bool Try.underlying4 _), (trodAll_cons_mk (Below.trod laidOut (by kernel_rfl) (of_decide_eq_true (by kernel_rfl)) h0 bel lt0) (trodAll_cons_mk (Below.trod laidOut (by kernel_rfl) (of_decide_eq_true (by kernel_rfl)) h1 bel lt1) (trodAll_cons_mk (Below.trod laidOut (by kernel_rfl) (of_decide_eq_true (by kernel_rfl)) h2 bel lt2) trodAll_mk0))), rfl, bel.frame _, fun h => by cases h⟩
theorem over : Rows.scopeNotsRow.holds Try.pinned (OpenSpec.ofChange Rows.scopeNotsSpec) :=
  OpenClaim.holds_of_wide 7 Try.f7 rfl rfl rfl rfl rfl rfl rfl ⟨rfl, rfl, rfl, rfl, rfl⟩ rfl rfl rfl rfl rfl (by kernel_rfl) Try.func7 (by kernel_rfl)
    (of_decide_eq_true (by kernel_rfl)) (by unfold Func.isWrapper; first | (rw [if_pos (by decide +kernel)]; kernel_rfl) | (rw [if_neg (by decide +kernel)]; exact ⟨rfl, rfl⟩))
    (fun os started H enc _ => lifted os started H enc)
theorem proved : Rows.ScopeNotsSaid := over
end Go.Proofs.Ytcbkokhjdleoeaa.scopeNots
end
