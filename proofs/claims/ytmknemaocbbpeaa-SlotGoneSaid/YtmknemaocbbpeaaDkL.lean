/-
  live: the page's examples, over the loaded program. No condition.
-/
import Derived.Test.YtmknemaocbbpeaaDkG
namespace Go.Proofs.Ytmknemaocbbpeaa
open Go.RowKit
set_option maxRecDepth 100000
set_option linter.unusedVariables false

/-- All of p's blocks lie from B on. -/
def From (p : DA) (B : Nat) : Prop := ∀ x, p.has x → B ≤ x
theorem new_made (n : Nat) (w : World) (h1 : 1 ≤ n) (h2 : n ≤ 1024) : Calls Try.prog 7 #[.int .i64 n] w fun e w' =>
    ∃ p : DA, e = .returned (.tuple #[.pointer (some ⟨p.d, 0, none⟩), .int .i64 0]) ∧ DS w' p (blank n) ∧ From p w.heap.size ∧ Below w.heap.size w w' := by
  refine (new_yes n w h1 h2).mono ?_
  rintro e w' ⟨rfl, hd, hb⟩
  refine ⟨newDA w.heap.size, rfl, hd, ?_, hb⟩
  rintro x (rfl | rfl | rfl) <;> simp [newDA]
section
variable {w w' : World} {p : DA} {B : Nat}
theorem KeepP.off (k : KeepP (Off p w) w w') (hB : B ≤ w.heap.size) (hp : From p B) : Below B w w' := k.to_below fun x hx => ⟨by omega, fun h => by have := hp x h; omega⟩
theorem BS.off {v : Value} {l : List UInt8} (h : BS w (Off p w) v l) (k : KeepP (Off p w) w w') : BS w' (Off p w') v l :=
  (h.keep k.size fun b sb _ => k.block b sb).mono fun b sb => ⟨by have := sb.1; have := k.size; omega, sb.2⟩
theorem BS.off_below {v : Value} {l : List UInt8} (h : BS w (Off p w) v l) (k : Below w.heap.size w w') : BS w' (Off p w') v l :=
  (h.below' k).mono fun b sb => ⟨by have := sb.1; have := k.size; omega, sb.2⟩
/-- What a call hands back in new memory is off a disk that was there. -/
theorem own_off {s : Dk} (h : DS w p s) {v : Value} {l : List UInt8} (how : w'.ownsRow w.heap.size 5 1 v l.length (l.map bv)) : BS w' (Off p w') v l :=
  (own_BS how).mono fun b sb => ⟨sb.2, fun hx => by have := h.lt b hx; omega⟩
theorem kb_full {g : Nat} {c : UInt8} (h : KB w g 5 ((full c).map bv).toArray) : BS w (fun b => b = g) (.slice (some ⟨g, 0, none⟩) 256 256) (full c) := by
  refine ⟨_, 256, by rw [full_len], by rw [full_len]; omega, by unfold maxLen; omega, (fun h => by cases h), fun _ => ⟨g, 0, rfl, rfl, h.lt, fun j u hu => ?_⟩⟩
  rw [Nat.zero_add, h.cell]
  simp [hu]
end

def l1 : Dk := ((blank 4).wrote 3 (full 7)).acted
def l2 : Dk := l1.crashed []
def l3 : Dk := (l2.wrote 3 (full 7)).acted
def l4 : Dk := l3.flushed
def l5 : Dk := l4.crashed []
theorem l2_now : l2.now 3 = full 0 := by decide +kernel
theorem l5_now : l5.now 3 = full 7 := by decide +kernel
theorem l2_len : l2.safe.length = 4 := by decide +kernel
theorem l3_len : l3.safe.length = 4 := by decide +kernel
theorem l5_len : l5.safe.length = 4 := by decide +kernel
theorem l_fuse : l2.fuse ≠ 0 ∧ l3.fuse ≠ 0 ∧ l5.fuse ≠ 0 := ⟨by decide, by decide, by decide⟩

def Yes (w : World) (e : Ending) (w' : World) : Prop := e = .returned (.bool true) ∧ Below w.heap.size w w'
end Go.Proofs.Ytmknemaocbbpeaa
