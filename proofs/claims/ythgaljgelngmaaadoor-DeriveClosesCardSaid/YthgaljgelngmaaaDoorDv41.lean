/-
  DrU: A list of numbers that came in, opened; kept over what turns elsewhere. No condition.
  DcJ: What a term doesn't guard, and whether a secret is guarded, by the program: their contracts, over the loaded program. No condition but what each theorem names.
-/
import Derived.Test.YthgaljgelngmaaaDoorDv01
import Derived.Test.YthgaljgelngmaaaDoorDv28
import Derived.Test.YthgaljgelngmaaaDoorDv29

section
namespace Go.Proofs.YthgaljgelngmaaaDoor
open Go.RowKit Go.ChangeShapes Go.WideShapes Go.Joins
set_option linter.unusedVariables false

/-- The slice value v reads, in w, as the numbers l. -/
def US (w : World) (S : Nat → Prop) (v : Value) (l : List Nat) : Prop :=
  ∃ A c, v = .slice A l.length c ∧ l.length ≤ c ∧ c ≤ maxLen ∧ (A = none → c = 0) ∧ (∀ n ∈ l, n < 18446744073709551616) ∧
    (0 < l.length → ∃ b o, A = some ⟨b, o, none⟩ ∧ S b ∧ b < w.heap.size ∧ ∀ (i n : Nat), l[i]? = some n → w.cell? ⟨b, o + i, none⟩ = some (.int .u64 (n : Int)))

theorem US.keep {w w' : World} {S : Nat → Prop} {v : Value} {l : List Nat} (h : US w S v l) (hs : w.heap.size ≤ w'.heap.size) (hk : ∀ b, S b → b < w.heap.size → w'.heap[b]? = w.heap[b]?) : US w' S v l := by
  obtain ⟨A, c, e, hl, hc, hn, hr, hx⟩ := h
  refine ⟨A, c, e, hl, hc, hn, hr, fun h0 => ?_⟩
  obtain ⟨b, o, ea, sb, hb, hx⟩ := hx h0
  exact ⟨b, o, ea, sb, by omega, fun i n hi => (World.cell?_of_block (w := w) (w' := w') (a := ⟨b, o + i, none⟩) (hk b sb hb)).trans (hx i n hi)⟩
theorem US.below' {w w' : World} {S : Nat → Prop} {v : Value} {l : List Nat} (h : US w S v l) (hb : Below w.heap.size w w') : US w' S v l := h.keep hb.size fun b _ hlt => hb.block b hlt
theorem US.alloc {w : World} {S : Nat → Prop} {v : Value} {l : List Nat} (h : US w S v l) (o : Obj) : US (w.alloc o) S v l := h.keep (by simp) fun b _ hb => Below.heap_alloc w o b hb

theorem US_of_trod {H : Type} {enc : TypeId × Value → H} {W : World} {P : Program} {t e : TypeId} (ht : P.underlying t = some (.slice e)) (he : P.underlying e = some (.int .u64)) (hc : P.cellsOf e = 1) {fuel : Nat} {v : Value} {x : DataW H × List MemPlace}
    (h : DataW.trod enc P W 0 (fun _ => true) true fuel t [v] = some x) : ∃ l, US W (fun b => b < W.heap.size) v l := by
  rcases open_ints ht he hc h with ⟨hcs, _⟩ | ⟨a, len, cap, zs, hcs, _, hl, hm, hz, _, hcell, hwz⟩
  · simp at hcs
    subst hcs
    exact ⟨[], none, 0, rfl, by simp, by simp [maxLen], fun _ => rfl, fun n hn => absurd hn (by simp), fun h => absurd h (by simp)⟩
  · simp at hcs
    subst hcs
    simp only [if_true] at hz
    have hlen : ((zs.take len).map Int.toNat).length = len := by simp; omega
    have hw : ∀ z ∈ zs, 0 ≤ z ∧ z ≤ 18446744073709551615 := fun z hzm => by simpa [Lit.wf, IntKind.min, IntKind.max, IntKind.signed, IntKind.bits] using hwz z hzm
    refine ⟨(zs.take len).map Int.toNat, some a, cap, by rw [hlen], by omega, hm, (fun h => by cases h), fun n hn => ?_, fun h0 => ?_⟩
    · obtain ⟨z, hzm, rfl⟩ := List.mem_map.1 hn
      have := hw z (List.mem_of_mem_take hzm)
      omega
    · rw [hlen] at h0
      obtain ⟨b, o, rfl, hcc⟩ := ints_at hcell (by omega)
      have hb := World.block_lt_of_cell? _ _ (hcc 0 (by omega))
      refine ⟨b, o, rfl, hb, hb, fun j u hu => ?_⟩
      have hj : j < len := by
        have := (List.getElem?_eq_some_iff.1 hu).1
        omega
      rw [hcc j (by omega)]
      have hjz : j < zs.length := by omega
      simp [hj, List.getElem?_eq_getElem hjz] at hu
      subst hu
      have := hw _ (List.getElem_mem hjz)
      have hg : zs.getD j 0 = zs[j] := by simp [List.getD, List.getElem?_eq_getElem hjz]
      rw [hg, Int.toNat_of_nonneg this.1]

/-- A list of numbers that came in. -/
theorem open_nums {H : Type} {enc : TypeId × Value → H} {W : World} {P : Program} {base : Nat} {t e : TypeId} (ht : P.underlying t = some (.slice e)) (he : P.underlying e = some (.int .u64)) (hc : P.cellsOf e = 1) {v : Value} {d : DataW H} {p : List MemPlace}
    (ok : Value.okWide P W .any base t v) (h : DataW.Trod enc P W 0 (fun _ => true) true t v d p) : ∃ l, US W (fun b => b < W.heap.size) v l := by
  obtain ⟨a0, len, cap, rfl⟩ := okWide_slice ht ok
  obtain ⟨fuel, hf⟩ := h
  exact US_of_trod ht he hc (x := _) hf
end Go.Proofs.YthgaljgelngmaaaDoor
end

section
namespace Go.Proofs.YthgaljgelngmaaaDoor
open Go.RowKit
set_option linter.unusedVariables false

theorem us_at {w wr : World} {S : Nat → Prop} {A : Option Addr} {n c : Nat} {l : List Nat} (h : US w S (.slice A n c) l) (hn : l.length = n) (hb : Below w.heap.size w wr) (j : Nat) (hj : j < l.length) :
    ∃ b o, A = some ⟨b, o, none⟩ ∧ b < w.heap.size ∧ wr.cell? ⟨b, o + j, none⟩ = some (.int .u64 (l[j] : Int)) := by
  subst hn
  obtain ⟨A', c', e, hl, hc, hz, hr, hx⟩ := h
  injection e with e1 e2 e3
  subst e1 e3
  obtain ⟨b, o, rfl, sb, hlt, hx⟩ := hx (by omega)
  exact ⟨b, o, rfl, hlt, (World.cell?_of_block (w := w) (w' := wr) (hb.block b hlt)).trans (hx j l[j] (List.getElem?_eq_getElem hj))⟩

theorem nums_index (S : Nat → Prop) (l : List Nat) (v : Value) (n : Nat) (w : World) (hl : US w S v l) :
    Calls Tryd.prog 54 #[v, .int .u64 (n : Int)] w fun e w' => ∃ r : Int, e = .returned (.int .i64 r) ∧ decide (0 ≤ r) = decide (n ∈ l) ∧ Below w.heap.size w w' := by
  obtain ⟨A, c, rfl, hlc, hm, _⟩ := id hl
  have hle : l.length ≤ 9223372036854775807 := by unfold maxLen at hm; omega
  have HY : Hid (∀ j : Nat, l[j]? = some n → decide (n ∈ l) = true) := fun j h => decide_eq_true (List.mem_of_getElem? h)
  have HN : Hid ((∀ i : Nat, i < l.length → l[i]? ≠ some n) → decide (n ∈ l) = false) := fun h => decide_eq_false fun hmem => by
    obtain ⟨i, hi, he⟩ := List.mem_iff_getElem.1 hmem
    exact h i hi (by rw [List.getElem?_eq_getElem hi, he])
  generalize decide (n ∈ l) = r at *
  go_enter Tryd.func54, Tryd.ntmps54
  go_wp2_with fail
  go_loopw [8] (fun iv wr => ∃ j : Nat, j ≤ l.length ∧ iv = .int .i64 j ∧ Hid (∀ i, i < j → l[i]? ≠ some n) ∧ Below w.heap.size w wr) (fun iv _ => l.length - (intOf iv).toNat)
  case atStart => exact ⟨0, by omega, rfl, fun i h => absurd h (Nat.not_lt_zero _), Below.refl _ _⟩
  case round =>
    obtain ⟨j, hj, rfl, HS, B⟩ := hrel
    by_cases hlt : j < l.length
    · obtain ⟨b, o, rfl, hb, k0⟩ := us_at hl rfl B j hlt
      have hgj : l[j]? = some l[j] := List.getElem?_eq_getElem hlt
      by_cases he : n = l[j]
      · have hr := HY.out j (by rw [hgj, he])
        rw [← he] at k0
        clear HY HN HS he hgj
        subst hr
        go_wp2_with fail
        go_ret
        exact ⟨_, rfl, decide_eq_true (by omega), B⟩
      · have HB : Hid (∀ i, i < j + 1 → l[i]? ≠ some n) := by
          intro i hi hu
          by_cases hij : i < j
          · exact HS.out i hij hu
          · obtain rfl : i = j := by omega
            rw [hgj] at hu
            exact he (Option.some.inj hu).symm
        have g1 : ¬ ((n : Int) = (l[j] : Int)) := by omega
        have g2 : decide ((n : Int) = (l[j] : Int)) = false := decide_eq_false g1
        have g3 : ((n : Int) == (l[j] : Int)) = false := beq_eq_false_iff_ne.2 g1
        generalize (l[j] : Int) = m at *
        clear he hgj HS HY
        go_wp2_with fail
        go_roundw
        case rel => exact ⟨j + 1, by omega, by go_num, HB, B⟩
        case measure => simp [intOf]; omega
    · obtain rfl : j = l.length := by omega
      have hr := HN.out HS.out
      clear HN HS HY
      subst hr
      go_wp2_with fail
      go_ret
      exact ⟨_, rfl, by decide, B⟩

theorem nums_contains (S : Nat → Prop) (l : List Nat) (v : Value) (n : Nat) (w : World) (hl : US w S v l) :
    Calls Tryd.prog 49 #[v, .int .u64 (n : Int)] w fun e w' => e = .returned (.bool (decide (n ∈ l))) ∧ Below w.heap.size w w' := by
  have hc := nums_index S l v n w hl
  generalize decide (n ∈ l) = r at *
  obtain ⟨A, c, rfl, _⟩ := id hl
  clear hl
  go_enter Tryd.func49, Tryd.ntmps49
  go_wp2_with fail
  refine hc.mono ?_
  rintro e w5 ⟨m, rfl, hn, b5⟩
  clear hc
  subst hn
  go_wp2_with fail
  go_ret
  exact ⟨rfl, b5⟩

theorem fromD_of (f : Nat) (keys : List Nat) (t k : Tm f) (h5 : kindT f t = 5) (h2 : (kidsT f t).length = 2) (hk : (kidsT f t)[1]? = some k) : fromD (vwT f) keys t = if numT f k ∈ keys then 1 else 0 := by
  unfold fromD
  rw [show (vwT f).kind t = kindT f t from rfl, show (vwT f).kids t = kidsT f t from rfl, hk]
  by_cases h : numT f k ∈ keys
  · rw [if_pos h, if_pos ⟨h5, h2, decide_eq_true h⟩]
  · rw [if_neg h, if_neg (fun hh => h (of_decide_eq_true hh.2.2))]
theorem fromD_not (f : Nat) (keys : List Nat) (t : Tm f) (h5 : kindT f t ≠ 5) : fromD (vwT f) keys t = 0 := by
  unfold fromD
  rw [if_neg (fun hh => h5 hh.1)]
theorem num_cell {w : World} {S : Nat → Prop} : ∀ {f : Nat} {t : Tm f} {c0 c1 c2 c3 : Value}, TM w S f t c0 c1 c2 c3 → c1 = .int .u64 (numT f t : Int)
  | 0, t, _, _, _, _, _ => nomatch t
  | f + 1, (t : Nd (Tm f)), _, _, _, _, h => h.2.2.1

/-- What a term doesn't guard. -/
def bareT (f : Nat) (keys : List Nat) (t : Tm f) : List (Tm f) := if kindT f t = 6 then [] else (kidsT f t).drop (fromD (vwT f) keys t)
theorem kids_ks' {w : World} {S : Nat → Prop} : ∀ {f : Nat} {t : Tm f} {c0 c1 c2 c3 : Value}, TM w S f t c0 c1 c2 c3 → KS w S (TM w S f) c3 (kidsT f t) ∧ c0 = .int .i64 (kindT f t)
  | 0, t, _, _, _, _, _ => nomatch t
  | f + 1, (t : Nd (Tm f)), c0, c1, c2, c3, h => ⟨h.2.2.2.2.2.lifted, h.1⟩

set_option maxHeartbeats 1000000 in
theorem bare_any (S Sk : Nat → Prop) (f : Nat) (t : Tm f) (keys : List Nat) (v kv : Value) (w : World) (hok : okD f t) (hv : TV w S f v t) (hkeys : US w Sk kv keys) :
    Calls Tryd.prog 32 #[v, kv] w fun e w' => ∃ u, e = .returned u ∧ KS w' S (TM w' S f) u (bareT f keys t) ∧ Below w.heap.size w w' := by
  obtain ⟨e0, e1, e2, e3, rfl, tm⟩ := hv
  obtain ⟨i0, i1, X2, n2, z2, X3, n3, z3, rfl, rfl, rfl, rfl⟩ := tm_form tm
  obtain ⟨hkd, hkid⟩ := kids_ks' tm
  obtain rfl : i0 = kindT f t := by injection hkid
  clear hkid
  have hk2 := kids_two f t hok
  have hfr := fromD_of f keys t
  have hfn := fromD_not f keys t
  unfold bareT
  obtain ⟨AK, cK, rfl, _⟩ := id hkeys
  generalize fromD (vwT f) keys t = fr at *
  generalize kidsT f t = ks at *
  generalize kindT f t = kd at *
  obtain ⟨A3, c3, e3, hl3, hm3, hn3, _⟩ := id hkd
  injection e3 with e31 e32 e33
  subst e31 e32 e33
  have hle3 : ks.length ≤ 9223372036854775807 := by unfold maxLen at hm3; omega
  have hz3 : z3 ≤ 9223372036854775807 := by unfold maxLen at hm3; omega
  have K0 := KB.new w 35 #[.int .i64 kd, .int .u64 i1, .slice X2 n2 z2, .slice X3 ks.length z3]
  have B0 : Below w.heap.size w (w.alloc (.cells #[.int .i64 kd, .int .u64 i1, .slice X2 n2 z2, .slice X3 ks.length z3] 35)) := (Below.refl _ _).alloc (Nat.le_refl _) _
  clear tm hm3
  by_cases h6 : kd = 6
  · subst h6
    rw [if_pos rfl]
    go_enter Tryd.func32, Tryd.ntmps32
    go_wp2_with fail
    go_ret
    exact ⟨_, rfl, ⟨none, 0, rfl, by simp, by simp [maxLen], fun _ => rfl, fun h => absurd h (by simp)⟩, B0⟩
  · rw [if_neg h6]
    have g6 : decide (kd = 6) = false := decide_eq_false h6
    by_cases h5 : kd = 5
    · subst h5
      have hk2' := hk2 rfl
      obtain ⟨kk, hkk⟩ : ∃ kk, ks[1]? = some kk := ⟨_, List.getElem?_eq_getElem (by omega)⟩
      rw [hfr kk rfl hk2' hkk]
      have hkx := hkd.keep B0.size (fun b _ hl => B0.block b hl)
      obtain ⟨b3, o3, p0, p1, p2, p3, ⟨n9, c9, e9⟩, sb3, hb3, w0, w1, w2, w3, hvk⟩ := hkx.one 1 kk hkk
      injection e9 with e91 e92 e93
      subst e91
      clear e92 e93
      rw [Nat.one_mul] at w0 w1 w2 w3
      obtain ⟨_, _, _, _, eqk, tmk⟩ := hvk
      injection eqk with eqk
      simp only [Array.mk.injEq, List.cons.injEq, and_true] at eqk
      obtain ⟨rfl, rfl, rfl, rfl⟩ := eqk
      obtain rfl := num_cell tmk
      have hc := nums_contains Sk keys (.slice AK keys.length cK) (numT f kk) (w.alloc (.cells #[.int .i64 5, .int .u64 i1, .slice X2 n2 z2, .slice (some ⟨b3, o3, none⟩) ks.length z3] 35)) (hkeys.alloc _)
      have hdr := hkd.drop 1 (by omega)
      clear hfr hfn hk2 tmk w0 w2 w3 hkx
      rw [hk2'] at K0 B0 hc hb3 w1 hdr hkd hl3
      by_cases hr : numT f kk ∈ keys
      · rw [if_pos hr]
        rw [decide_eq_true hr] at hc
        generalize (numT f kk : Int) = m at *
        have hz1 : 2 ≤ z3 := by omega
        clear hr hkd hkk
        go_enter Tryd.func32, Tryd.ntmps32
        go_wp2_with fail
        refine hc.mono ?_
        rintro e w5 ⟨rfl, b5⟩
        have B5 := B0.trans (b5.mono B0.size)
        have K5 := K0.below b5 K0.lt
        have x3 : w5.cell? ⟨w.heap.size, 3, none⟩ = some (.slice (some ⟨b3, o3, none⟩) 2 z3) := K5.cell 3
        have hr5 := hdr.keep B5.size (fun b _ hl => B5.block b hl)
        have hz0 : ¬ z3 = 1 := by omega
        rw [if_neg hz0, Nat.one_mul] at hr5
        clear hc hdr hk2'
        go_wp2_with fail
        go_ret
        exact ⟨_, rfl, hr5, B5⟩
      · rw [if_neg hr]
        rw [decide_eq_false hr] at hc
        generalize (numT f kk : Int) = m at *
        clear hr hdr hkk
        go_enter Tryd.func32, Tryd.ntmps32
        go_wp2_with fail
        refine hc.mono ?_
        rintro e w5 ⟨rfl, b5⟩
        have B5 := B0.trans (b5.mono B0.size)
        have K5 := K0.below b5 K0.lt
        have x3 : w5.cell? ⟨w.heap.size, 3, none⟩ = some (.slice (some ⟨b3, o3, none⟩) 2 z3) := K5.cell 3
        have hr5 := hkd.keep B5.size (fun b _ hl => B5.block b hl)
        clear hc hkd hk2'
        go_wp2_with fail
        go_ret
        exact ⟨_, rfl, by rw [List.drop_zero]; exact hr5, B5⟩
    · rw [hfn h5]
      have g5 : decide (kd = 5) = false := decide_eq_false h5
      have hr5 := hkd.keep B0.size (fun b _ hl => B0.block b hl)
      clear hfr hfn hk2 hkd
      go_enter Tryd.func32, Tryd.ntmps32
      go_wp2_with fail
      go_ret
      exact ⟨_, rfl, by rw [List.drop_zero]; exact hr5, B0⟩
end Go.Proofs.YthgaljgelngmaaaDoor
end
