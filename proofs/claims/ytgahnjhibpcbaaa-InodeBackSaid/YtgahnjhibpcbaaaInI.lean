/-
  Inodes in memory: what a value of three cells reads as; kept over what turns elsewhere; an inode that came in, opened. No condition.
-/
import Derived.Test.YtgahnjhibpcbaaaKp
import Derived.Test.YtgahnjhibpcbaaaInM
import Derived.Test.YtgahnjhibpcbaaaInts
import Derived.Test.YtgahnjhibpcbaaaTxt
namespace Go.Proofs.Ytgahnjhibpcbaaa
open Go.RowKit Go.ChangeShapes Go.WideShapes Go.Joins
set_option maxRecDepth 100000
set_option linter.unusedVariables false

/-- The value v reads, in w, as the inode x. -/
def IV (w : World) (S : Nat → Prop) (v : Value) (x : Ino) : Prop :=
  ∃ a, v = .agg #[strV x.name, .int .i64 x.size, a] ∧ IS w S a x.at_ ∧ I64 x.size ∧ x.name.length ≤ maxLen

section
variable {w w' : World} {S S' : Nat → Prop} {v : Value} {x : Ino}
theorem IV.keep (h : IV w S v x) (hs : w.heap.size ≤ w'.heap.size) (hk : ∀ b, S b → b < w.heap.size → w'.heap[b]? = w.heap[b]?) : IV w' S v x := by
  obtain ⟨a, e, h1, h2⟩ := h
  exact ⟨a, e, h1.keep hs hk, h2⟩
theorem IV.mono (h : IV w S v x) (hs : ∀ b, S b → S' b) : IV w S' v x := by
  obtain ⟨a, e, h1, h2⟩ := h
  exact ⟨a, e, h1.mono hs, h2⟩
theorem IV.lt (h : IV w S v x) : IV w (fun b => S b ∧ b < w.heap.size) v x := by
  obtain ⟨a, e, h1, h2⟩ := h
  exact ⟨a, e, h1.lt, h2⟩
theorem IV.below' (h : IV w S v x) (hg : Below w.heap.size w w') : IV w' S v x := h.keep hg.size fun b _ hb => hg.block b hb
theorem IV.alloc (h : IV w S v x) (o : Obj) : IV (w.alloc o) S v x := h.keep (by simp) fun b _ hb => Below.heap_alloc w o b hb
theorem IV.zero (w : World) (S : Nat → Prop) : IV w S (.agg #[.string ⟨#[]⟩, .int .i64 0, .slice none 0 0]) ino0 :=
  ⟨_, rfl, IS.nil _ _, ⟨by simp [ino0], by simp [ino0]⟩, by simp [ino0, maxLen]⟩
theorem IV.mk {a : Value} (nm : List UInt8) (z : Int) {l : List Int} (h : IS w S a l) (hz : I64 z) (hn : nm.length ≤ maxLen) : IV w S (.agg #[strV nm, .int .i64 z, a]) ⟨nm, z, l⟩ := ⟨a, rfl, h, hz, hn⟩
end

theorem cells_ino : Try.prog.cellsOf 24 = 3 := by kernel_rfl
theorem cells_intsl : Try.prog.cellsOf 22 = 1 := by kernel_rfl

/-- An inode that came in. -/
theorem open_ino {H : Type} {enc : TypeId × Value → H} {W : World} {base : Nat} {v : Value} {d : DataW H} {p : List MemPlace}
    (ok : Value.okWide Try.prog W .any base 24 v) (h : DataW.Trod enc Try.prog W 0 (fun _ => true) true 24 v d p) :
    ∃ x : Ino, IV W (fun b => b < W.heap.size) v x ∧ ∀ z ∈ x.at_, I64 z := by
  obtain ⟨cs, rfl, hsz⟩ := okWide_struct Try.underlying24 ok
  obtain ⟨n, hn⟩ := h
  obtain ⟨xs, m, _, _, hl, hlen, hf⟩ := DataW.trod_struct Try.underlying24 hn
  rw [cells_ino] at hl
  obtain ⟨c0, c1, c2, hcs⟩ : ∃ c0 c1 c2, cs = #[c0, c1, c2] := by
    have hl' : cs.toList.length = 3 := hl
    match hc : cs.toList, hl' with
    | [c0, c1, c2], _ => exact ⟨c0, c1, c2, Array.toList_inj.1 hc⟩
  subst hcs
  have hxs : xs.length = 3 := by simpa using hlen
  have at_ : ∀ i, (hi : i < 3) → xs[i]? = some (xs[i]'(by omega)) := fun i hi => List.getElem?_eq_getElem (by omega)
  have k0 : DataW.trod enc Try.prog W 0 (fun _ => true) true m 9 ([c0, c1, c2].drop 0 |>.take (Try.prog.cellsOf 9)) = some (xs[0]'(by omega)) := (hf 0 _ rfl).trans (at_ 0 (by omega))
  have k1 : DataW.trod enc Try.prog W 0 (fun _ => true) true m 3 ([c0, c1, c2].drop 1 |>.take (Try.prog.cellsOf 3)) = some (xs[1]'(by omega)) := (hf 1 _ rfl).trans (at_ 1 (by omega))
  have k2 : DataW.trod enc Try.prog W 0 (fun _ => true) true m 22 ([c0, c1, c2].drop 2 |>.take (Try.prog.cellsOf 22)) = some (xs[2]'(by omega)) := (hf 2 _ rfl).trans (at_ 2 (by omega))
  rw [cells_str] at k0
  rw [cells_int] at k1
  rw [cells_intsl] at k2
  obtain ⟨s, e0, _, hs⟩ := DataW.trod_string Try.underlying9 k0
  obtain ⟨z, e1, _, w1⟩ := DataW.trod_int Try.underlying3 k1
  obtain ⟨l, hi, hz⟩ := IS_of_trod (v := c2) (by simpa using k2)
  simp at e0 e1
  subst e0 e1
  have hk : -9223372036854775808 ≤ z ∧ z ≤ 9223372036854775807 := by simpa [Lit.wf, IntKind.min, IntKind.max, IntKind.signed, IntKind.bits] using w1
  refine ⟨⟨s.data.toList, z, l⟩, ⟨c2, ?_, hi, hk, ?_⟩, hz⟩
  · rfl
  · have : s.data.toList.length = s.size := by rw [Array.length_toList]; rfl
    show s.data.toList.length ≤ maxLen
    omega

end Go.Proofs.Ytgahnjhibpcbaaa
