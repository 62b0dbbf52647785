/-
  Arguments opened: an array of 32 bytes that came in; two salts and payloads that came in. No condition.
-/
import Derived.Test.YtjcdkfnjlmofiaaDoorArgs
namespace Go.Proofs.YtjcdkfnjlmofiaaDoor
open Go.RowKit Go.ChangeShapes Go.WideShapes Go.Joins
set_option linter.unusedVariables false

theorem okWide_array {P : Program} {w : World} {r : Reach} {base : Nat} {t : TypeId} {v : Value} {n : Nat} {e : TypeId} (ht : P.underlying t = some (.array n e)) (h : Value.okWide P w r base t v) : ∃ cs, v = .agg cs ∧ cs.size = P.cellsOf t := by
  simp only [Value.okWide, ht] at h
  obtain ⟨cs, h1, h2, _⟩ := h
  exact ⟨cs, h1, h2⟩

theorem cells_32 : Tryd.prog.cellsOf 24 = 32 := by kernel_rfl

theorem bytes_of_trod {H : Type} {enc : TypeId × Value → H} {W : World} {fuel : Nat} {cs : List Value} {x : DataW H × List MemPlace}
    (h : DataW.trod enc Tryd.prog W 0 (fun _ => true) true fuel 24 cs = some x) : ∃ l : List UInt8, l.length = 32 ∧ cs = l.map bv := by
  obtain ⟨xs, m, rfl, _, hlen, hn, hel⟩ := DataW.trod_array Tryd.underlying24 h
  rw [cells_32] at hlen
  have hx : ∀ i, i < 32 → ∃ b : UInt8, cs[i]? = some (bv b) := by
    intro i hi
    have h0 := hel i hi
    rw [cells_byte, Nat.mul_one] at h0
    have hix : xs[i]? = some (xs[i]'(by omega)) := List.getElem?_eq_getElem (by omega)
    rw [hix] at h0
    obtain ⟨n, e1, _, wf⟩ := DataW.trod_int Tryd.underlying5 h0
    refine ⟨byteOf n, ?_⟩
    have hd : cs[i]? = some (.int .u8 n) := by
      have := congrArg (fun l => l[0]?) e1
      simp only [List.getElem?_take, List.getElem?_drop, Nat.add_zero] at this
      simpa using this
    rw [hd]
    unfold bv
    rw [byteOf_nat wf]
  obtain ⟨f, hf⟩ := Deep.choose_lt (α := UInt8) hx
  refine ⟨(List.range 32).map f, by simp, ?_⟩
  apply List.ext_getElem?
  intro i
  rcases Nat.lt_or_ge i 32 with hi | hi
  · rw [hf i hi, List.getElem?_map, List.getElem?_map, List.getElem?_range hi]; rfl
  · rw [List.getElem?_eq_none (by omega), List.getElem?_eq_none (by simp; omega)]

theorem open_32 {H : Type} {enc : TypeId × Value → H} {W : World} {base : Nat} {v : Value} {d : DataW H} {p : List MemPlace}
    (ok : Value.okWide Tryd.prog W .any base 24 v) (h : DataW.Trod enc Tryd.prog W 0 (fun _ => true) true 24 v d p) : ∃ l : List UInt8, l.length = 32 ∧ v = .agg (l.map bv).toArray := by
  obtain ⟨cs, rfl, _⟩ := okWide_array Tryd.underlying24 ok
  obtain ⟨fuel, hf⟩ := h
  obtain ⟨l, hl, e⟩ := bytes_of_trod hf
  refine ⟨l, hl, ?_⟩
  congr 1
  apply Array.toList_inj.1
  simpa [Value.cells] using e

theorem cells_two : Tryd.prog.cellsOf 32 = 4 := by kernel_rfl

theorem open_two {H : Type} {enc : TypeId × Value → H} {W : World} {base : Nat} {v : Value} {d : DataW H} {p : List MemPlace}
    (ok : Value.okWide Tryd.prog W .any base 32 v) (h : DataW.Trod enc Tryd.prog W 0 (fun _ => true) true 32 v d p) :
    ∃ (s t : Nat) (x y : Value) (a b : List UInt8), v = .agg #[.int .u64 s, .int .u64 t, x, y] ∧ s < 18446744073709551616 ∧ t < 18446744073709551616 ∧ BS W (fun b => b < W.heap.size) x a ∧ BS W (fun b => b < W.heap.size) y b := by
  obtain ⟨c0, c1, c2, c3, y0, y1, y2, y3, m, rfl, rfl, rfl, k0, k1, k2, k3⟩ := open_agg4 Tryd.underlying32 (by kernel_rfl) cells_two ok h
  obtain ⟨n, e0, _, wn⟩ := DataW.trod_int Tryd.underlying22 k0
  obtain ⟨i, e1, _, wi⟩ := DataW.trod_int Tryd.underlying22 k1
  simp at e0 e1
  subst e0 e1
  have hn : 0 ≤ n ∧ n ≤ 18446744073709551615 := by simpa [Lit.wf, IntKind.min, IntKind.max, IntKind.signed, IntKind.bits] using wn
  have hi : 0 ≤ i ∧ i ≤ 18446744073709551615 := by simpa [Lit.wf, IntKind.min, IntKind.max, IntKind.signed, IntKind.bits] using wi
  obtain ⟨a, ha⟩ := BS_of_trod (v := c2) k2
  obtain ⟨b, hb⟩ := BS_of_trod (v := c3) k3
  obtain ⟨n', rfl⟩ := Int.eq_ofNat_of_zero_le hn.1
  obtain ⟨i', rfl⟩ := Int.eq_ofNat_of_zero_le hi.1
  exact ⟨n', i', c2, c3, a, b, rfl, by omega, by omega, ha.lt.mono fun _ h => h.2, hb.lt.mono fun _ h => h.2⟩
end Go.Proofs.YtjcdkfnjlmofiaaDoor
