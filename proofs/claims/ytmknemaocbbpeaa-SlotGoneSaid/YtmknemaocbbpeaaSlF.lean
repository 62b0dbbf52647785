/-
  Arguments of the statements of layer 14, opened: acts, and a crash; huge, over the loaded program. No condition.
-/
import Derived.Test.YtmknemaocbbpeaaSlE
import Derived.Test.YtmknemaocbbpeaaArgs
import Derived.Test.YtmknemaocbbpeaaDkO
namespace Go.Proofs.Ytmknemaocbbpeaa
open Go.RowKit Go.ChangeShapes Go.WideShapes Go.Joins
set_option maxRecDepth 100000
set_option linter.unusedVariables false

/-- An act: what is done, at which slot, with which bytes. -/
structure A14 where
  kind : Int
  at_ : Int
  b : List UInt8

/-- The slice value v reads, in w, as the acts l. -/
def AL (w : World) (S : Nat → Prop) (v : Value) (l : List A14) : Prop :=
  ∃ A c, v = .slice A l.length c ∧ l.length ≤ c ∧ c ≤ maxLen ∧ (0 < l.length → ∃ b o, A = some ⟨b, o, none⟩ ∧ S b ∧ b < w.heap.size ∧ ∀ (i : Nat) (a : A14), l[i]? = some a →
    w.cell? ⟨b, o + i * 3, none⟩ = some (.int .i64 a.kind) ∧ w.cell? ⟨b, o + i * 3 + 1, none⟩ = some (.int .i64 a.at_) ∧ ∃ X z, w.cell? ⟨b, o + i * 3 + 2, none⟩ = some (.slice X a.b.length z) ∧ BS w S (.slice X a.b.length z) a.b)
section
variable {w w' : World} {S : Nat → Prop} {v : Value} {l : List A14}
theorem AL.keep (h : AL w S v l) (hs : w.heap.size ≤ w'.heap.size) (hk : ∀ b, S b → b < w.heap.size → w'.heap[b]? = w.heap[b]?) : AL w' S v l := by
  obtain ⟨A, c, e, hl, hc, hx⟩ := h
  refine ⟨A, c, e, hl, hc, fun h0 => ?_⟩
  obtain ⟨b, o, ea, sb, hb, hx⟩ := hx h0
  have hcell : ∀ j, w'.cell? ⟨b, j, none⟩ = w.cell? ⟨b, j, none⟩ := fun j => World.cell?_of_block (w := w) (hk b sb hb)
  refine ⟨b, o, ea, sb, by omega, fun i a hi => ?_⟩
  obtain ⟨h1, h2, X, z, h3, h4⟩ := hx i a hi
  exact ⟨(hcell _).trans h1, (hcell _).trans h2, X, z, (hcell _).trans h3, h4.keep hs hk⟩
theorem AL.form (h : AL w S v l) : ∃ A c, v = .slice A l.length c ∧ l.length ≤ c ∧ c ≤ maxLen := by
  obtain ⟨A, c, e, hl, hc, _⟩ := h
  exact ⟨A, c, e, hl, hc⟩
theorem AL.at_ {A : Option Addr} {n c : Nat} (h : AL w S (.slice A n c) l) (hp : 0 < l.length) :
    ∃ b o, A = some ⟨b, o, none⟩ ∧ S b ∧ b < w.heap.size ∧ ∀ (i : Nat) (a : A14), l[i]? = some a →
    w.cell? ⟨b, o + i * 3, none⟩ = some (.int .i64 a.kind) ∧ w.cell? ⟨b, o + i * 3 + 1, none⟩ = some (.int .i64 a.at_) ∧ ∃ X z, w.cell? ⟨b, o + i * 3 + 2, none⟩ = some (.slice X a.b.length z) ∧ BS w S (.slice X a.b.length z) a.b := by
  obtain ⟨A', c', e, _, _, hx⟩ := h
  injection e with e1 e2 e3
  subst e1
  exact hx hp
end

theorem cells_a14 : Try.prog.cellsOf 38 = 3 := by kernel_rfl
theorem open_a14 {H : Type} {enc : TypeId × Value → H} {W : World} {fuel : Nat} {cs : List Value} {x : DataW H × List MemPlace}
    (h : DataW.trod enc Try.prog W 0 (fun _ => true) true fuel 38 cs = some x) :
    ∃ f : A14, ∃ X z, cs = [.int .i64 f.kind, .int .i64 f.at_, .slice X f.b.length z] ∧ BS W (fun b => b < W.heap.size) (.slice X f.b.length z) f.b := by
  obtain ⟨xs, n, _, _, hl, hlen, hf⟩ := DataW.trod_struct Try.underlying38 h
  rw [cells_a14] at hl
  match cs, hl with
  | [c0, c1, c2], _ =>
    have hxs : xs.length = 3 := by simpa using hlen
    have at_ : ∀ i, (hi : i < 3) → xs[i]? = some (xs[i]'(by omega)) := fun i hi => List.getElem?_eq_getElem (by omega)
    have k0 : DataW.trod enc Try.prog W 0 (fun _ => true) true n 3 ([c0, c1, c2].drop 0 |>.take (Try.prog.cellsOf 3)) = some (xs[0]'(by omega)) := (hf 0 _ rfl).trans (at_ 0 (by omega))
    have k1 : DataW.trod enc Try.prog W 0 (fun _ => true) true n 3 ([c0, c1, c2].drop 1 |>.take (Try.prog.cellsOf 3)) = some (xs[1]'(by omega)) := (hf 1 _ rfl).trans (at_ 1 (by omega))
    have k2 : DataW.trod enc Try.prog W 0 (fun _ => true) true n 36 ([c0, c1, c2].drop 2 |>.take (Try.prog.cellsOf 36)) = some (xs[2]'(by omega)) := (hf 2 _ rfl).trans (at_ 2 (by omega))
    rw [cells_i] at k0 k1
    rw [cells_bytes] at k2
    obtain ⟨kd, e0, _, _⟩ := DataW.trod_int Try.underlying3 k0
    obtain ⟨t, e1, _, _⟩ := DataW.trod_int Try.underlying3 k1
    obtain ⟨l, hb⟩ := BS_of_trod (v := c2) (by simpa using k2)
    obtain ⟨X, z, e2⟩ : ∃ X z, c2 = .slice X l.length z := by
      obtain ⟨X, z, e, _⟩ := hb
      exact ⟨X, z, e⟩
    simp at e0 e1
    subst e0 e1 e2
    exact ⟨⟨kd, t, l⟩, X, z, rfl, hb.lt.mono fun _ h => h.2⟩

/-- Acts that came in. -/
theorem open_a14s {H : Type} {enc : TypeId × Value → H} {W : World} {base : Nat} {v : Value} {d : DataW H} {p : List MemPlace}
    (ok : Value.okWide Try.prog W .any base 22 v) (h : DataW.Trod enc Try.prog W 0 (fun _ => true) true 22 v d p) : ∃ l : List A14, AL W (fun b => b < W.heap.size) v l := by
  obtain ⟨a0, len, cap, rfl⟩ := okWide_slice Try.underlying22 ok
  obtain ⟨fuel, hf⟩ := h
  rcases DataW.trod_slice Try.underlying22 hf with ⟨hcs, _⟩ | ⟨a, len', cap', elems, rest, n, _, hcs, _, _, hlc, hm, hel, hi, _, _⟩
  · simp [Value.cells] at hcs
    obtain ⟨rfl, rfl, rfl⟩ := hcs
    exact ⟨[], none, 0, rfl, by simp, by simp [maxLen], fun h => absurd h (by simp)⟩
  · simp [Value.cells] at hcs
    obtain ⟨rfl, rfl, rfl⟩ := hcs
    rw [cells_a14] at hi
    have hi2 : ∀ i, i < len → ∃ f : A14, ∃ X z, BS W (fun b => b < W.heap.size) (.slice X f.b.length z) f.b ∧ W.cell? ((a.add (i * 3)).add 0) = some (.int .i64 f.kind) ∧ W.cell? ((a.add (i * 3)).add 1) = some (.int .i64 f.at_) ∧ W.cell? ((a.add (i * 3)).add 2) = some (.slice X f.b.length z) := by
      intro i hil
      have := hi i hil
      rw [List.getElem?_eq_getElem (by omega)] at this
      obtain ⟨cs, hcs, htr⟩ := Option.bind_eq_some_iff.1 this
      obtain ⟨f, X, z, rfl, hb⟩ := open_a14 htr
      obtain ⟨_, _, hcell⟩ := World.cells?_some hcs
      exact ⟨f, X, z, hb, hcell 0 (by simp), hcell 1 (by simp), hcell 2 (by simp)⟩
    haveI : Inhabited A14 := ⟨⟨0, 0, []⟩⟩
    obtain ⟨F, hF⟩ := Deep.choose_lt (α := A14) hi2
    have hlen : ((List.range len).map F).length = len := by simp
    refine ⟨(List.range len).map F, some a, cap, by rw [hlen], by omega, hm, fun h0 => ?_⟩
    rw [hlen] at h0
    obtain ⟨b, o, spot⟩ := a
    obtain ⟨_, _, _, k0, _⟩ := hF 0 h0
    have hspot : spot = none := by simpa [Addr.add] using World.cell?_spot k0
    subst hspot
    rw [add_plain, add_plain] at k0
    have hbl := World.block_lt_of_cell? _ _ k0
    refine ⟨b, o, rfl, hbl, hbl, fun i f hif => ?_⟩
    have hil : i < len := by
      have := (List.getElem?_eq_some_iff.1 hif).1
      omega
    simp [hil] at hif
    subst hif
    obtain ⟨X, z, hb, q0, q1, q2⟩ := hF i hil
    rw [add_plain, add_plain] at q0 q1 q2
    exact ⟨q0, q1, X, z, q2, hb⟩

theorem cells_crash : Try.prog.cellsOf 25 = 2 := by kernel_rfl
theorem keep_of_trod {H : Type} {enc : TypeId × Value → H} {W : World} {fuel : Nat} {cs : List Value} {x : DataW H × List MemPlace}
    (h : DataW.trod enc Try.prog W 0 (fun _ => true) true fuel 23 cs = some x) : ∃ A n c, ∃ ks : List Bool, cs = [.slice A n c] ∧ CS W (fun b => b < W.heap.size) (.slice A n c) (ks.map Value.bool) := by
  rcases Deep.open_bools Try.underlying23 Try.underlying4 (by kernel_rfl) h with ⟨hcs, _⟩ | ⟨a, len, cap, B, hcs, _, hl, hm, _, hc⟩
  · exact ⟨none, 0, 0, [], hcs, CS.nil _ _⟩
  · have hlen : (((List.range len).map B).map Value.bool).length = len := by simp
    refine ⟨some a, len, cap, (List.range len).map B, hcs, some a, cap, by rw [hlen], by omega, hm, fun h0 => ?_⟩
    rw [hlen] at h0
    obtain ⟨b, o, spot⟩ := a
    have k0 := hc 0 (by omega)
    have hspot : spot = none := by simpa [Addr.add] using World.cell?_spot k0
    subst hspot
    rw [add_plain] at k0
    refine ⟨b, o, rfl, World.block_lt_of_cell? _ _ k0, World.block_lt_of_cell? _ _ k0, fun j u hu => ?_⟩
    have hj : j < len := by
      have := (List.getElem?_eq_some_iff.1 hu).1
      omega
    have kj := hc j (by omega)
    rw [add_plain] at kj
    rw [kj]
    simpa [hj] using hu
/-- A crash that came in. -/
theorem open_cr14 {H : Type} {enc : TypeId × Value → H} {W : World} {base : Nat} {v : Value} {d : DataW H} {p : List MemPlace}
    (ok : Value.okWide Try.prog W .any base 25 v) (h : DataW.Trod enc Try.prog W 0 (fun _ => true) true 25 v d p) :
    ∃ (f : Int) (ks : List Bool) (A : Option Addr) (n c : Nat), v = .agg #[.int .i64 f, .slice A n c] ∧ I64 f ∧ CS W (fun b => b < W.heap.size) (.slice A n c) (ks.map Value.bool) := by
  obtain ⟨cs, rfl, hsz⟩ := okWide_struct Try.underlying25 ok
  obtain ⟨n, hn⟩ := h
  obtain ⟨xs, m, _, _, hl, hlen, hf⟩ := DataW.trod_struct Try.underlying25 hn
  rw [cells_crash] at hl
  obtain ⟨c0, c1, hcs⟩ : ∃ c0 c1, cs = #[c0, c1] := by
    have hl' : cs.toList.length = 2 := hl
    match hc : cs.toList, hl' with
    | [c0, c1], _ => exact ⟨c0, c1, Array.toList_inj.1 hc⟩
  subst hcs
  have hxs : xs.length = 2 := by simpa using hlen
  have at_ : ∀ i, (hi : i < 2) → xs[i]? = some (xs[i]'(by omega)) := fun i hi => List.getElem?_eq_getElem (by omega)
  have k0 : DataW.trod enc Try.prog W 0 (fun _ => true) true m 3 ([c0, c1].drop 0 |>.take (Try.prog.cellsOf 3)) = some (xs[0]'(by omega)) := (hf 0 _ rfl).trans (at_ 0 (by omega))
  have k1 : DataW.trod enc Try.prog W 0 (fun _ => true) true m 23 ([c0, c1].drop 1 |>.take (Try.prog.cellsOf 23)) = some (xs[1]'(by omega)) := (hf 1 _ rfl).trans (at_ 1 (by omega))
  rw [cells_i] at k0
  rw [cells_bools] at k1
  obtain ⟨t, e0, _, w0⟩ := DataW.trod_int Try.underlying3 k0
  obtain ⟨A, k, c, ks, e1, hc⟩ := keep_of_trod k1
  simp at e0 e1
  subst e0 e1
  have ht : -9223372036854775808 ≤ t ∧ t ≤ 9223372036854775807 := by simpa [Lit.wf, IntKind.min, IntKind.max, IntKind.signed, IntKind.bits] using w0
  exact ⟨t, ks, A, k, c, rfl, ht, hc⟩

set_option maxHeartbeats 2000000 in
/-- huge, whatever it answers. -/
theorem huge14_any (S : Nat → Prop) (v : Value) (l : List A14) (w : World) (h : AL w S v l) : Calls Try.prog 5 #[v] w fun e w' => (∃ b : Bool, e = .returned (.bool b)) ∧ w = w' := by
  obtain ⟨A, cp, rfl, hlc, hcm⟩ := h.form
  have hl63 : l.length ≤ 9223372036854775807 := by unfold maxLen at hcm; omega
  obtain ⟨D, hD⟩ : ∃ D : Ending → World → Prop, D = fun e w' => (∃ b : Bool, e = .returned (.bool b)) ∧ w = w' := ⟨_, rfl⟩
  rw [← hD]
  have HD : Hid (∀ b : Bool, D (.returned (.bool b)) w) := fun b => by rw [hD]; exact ⟨⟨b, rfl⟩, rfl⟩
  clear hD
  go_enter Try.func5, Try.ntmps5
  go_wp2
  go_loopw [3] (fun iv wr => ∃ k : Nat, k ≤ l.length ∧ k ≤ 100 ∧ iv = .int .i64 (k : Int) ∧ w = wr) (fun iv _ => l.length - (intOf iv).toNat)
  case atStart => exact ⟨0, by omega, by omega, rfl, rfl⟩
  case round =>
    obtain ⟨k, hk, hk100, rfl, rfl⟩ := hrel
    by_cases hlt : k < l.length
    · have hltI : (k : Int) < (l.length : Int) := by omega
      have hltB : decide ((k : Int) < (l.length : Int)) = true := decide_eq_true hltI
      by_cases h100 : k < 100
      · have h100I : (k : Int) < 100 := by omega
        obtain ⟨b, o, rfl, sb, hbl, hx⟩ := h.at_ (by omega)
        obtain ⟨a, ha⟩ : ∃ a, l[k]? = some a := ⟨_, List.getElem?_eq_getElem hlt⟩
        obtain ⟨_, _, X, z, j2, hb⟩ := hx k a ha
        have hbl := hb.len
        have hbl63 : a.b.length ≤ 9223372036854775807 := by unfold maxLen at hbl; omega
        clear hx ha hb hbl
        by_cases h300 : 300 < a.b.length
        · have D3 : (300 : Int) < (a.b.length : Int) := by omega
          have HT := HD.out true
          clear h300
          generalize a.b.length = m at *
          go_wp2
          exact HT
        · have D3 : ¬ (300 : Int) < (a.b.length : Int) := by omega
          have HM : Hid (k + 1 ≤ l.length ∧ k + 1 ≤ 100 ∧ l.length - (k + 1) < l.length - k) := ⟨by omega, by omega, by omega⟩
          clear h300
          generalize a.b.length = m at *
          go_wp2
          go_roundw
          case rel => exact ⟨k + 1, HM.out.1, HM.out.2.1, by go_num, (by trivial)⟩
          case measure => simp [intOf]; omega
      · have h100I : ¬ (k : Int) < 100 := by omega
        by_cases h40 : 40 < l.length
        · have D4 : (40 : Int) < (l.length : Int) := by omega
          have HT := HD.out true
          go_wp2
          exact HT
        · exact absurd hlt (by omega)
    · have hltI : ¬ (k : Int) < (l.length : Int) := by omega
      by_cases h40 : 40 < l.length
      · have D4 : (40 : Int) < (l.length : Int) := by omega
        have HT := HD.out true
        go_wp2
        exact HT
      · have D4 : ¬ (40 : Int) < (l.length : Int) := by omega
        have HT := HD.out false
        go_wp2
        exact HT
end Go.Proofs.Ytmknemaocbbpeaa
