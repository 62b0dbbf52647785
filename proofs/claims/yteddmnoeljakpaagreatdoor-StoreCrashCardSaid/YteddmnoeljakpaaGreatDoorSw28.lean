/-
  StO: What Try asks of each file, over the loaded program: whether it has too many bytes; whether it is gone and not there; slices.ContainsFunc of these. No condition but what each theorem names.
  StI: Which places of a store are taken; whether sectors are shared; what is free; over the loaded program: each one's contract. No condition but what each theorem names.
-/
import Derived.Test.YteddmnoeljakpaaGreatDoorSw27
import Derived.Test.YteddmnoeljakpaaGreatDoorSw22
import Derived.Test.YteddmnoeljakpaaGreatDoorSw23
import Derived.Test.YteddmnoeljakpaaGreatDoorSw12
set_option linter.unusedVariables false
set_option maxRecDepth 100000
namespace Go.Proofs.YteddmnoeljakpaaGreatDoor
section
open Go.RowKit
def longF (f : Fi) : Bool := decide (24576 < f.b.length)
theorem long_any (f : Fi) (X : Option Addr) (z : Nat) (w : World) : Calls Tryz.prog 46 #[.agg #[strV f.name, .slice X f.b.length z, .bool f.gone]] w fun e w' => e = .returned (.bool (longF f)) ∧ Below w.heap.size w w' := by
  unfold longF strV
  have B := (Below.refl w.heap.size w).alloc (Nat.le_refl _) (.cells #[.string ⟨f.name.toArray⟩, .slice X f.b.length z, .bool f.gone] 71)
  have e : decide (24576 < f.b.length) = decide ((24576 : Int) < (f.b.length : Int)) := decide_eq_decide.2 (by omega)
  rw [e]
  generalize f.b.length = k at *
  go_enter Tryz.func46, Tryz.ntmps46
  go_wp2
  go_ret
  exact ⟨rfl, B⟩
def missF (nl : List Nd) (f : Fi) : Bool := f.gone && (lookN nl f.name).isNone
section
variable {w : World} {a : SA} {c : CI} {nl : List Nd} {s : Dk} {br : Bool}
def hadN (nl : List Nd) (n : List UInt8) : List Int := ((lookN nl n).map (·.2.at_)).getD []
def placeN (nl : List Nd) (n : List UInt8) : Nat := ((lookN nl n).map (·.1)).getD 0
theorem MF.file {m : Nat} {S : Nat → Prop} (h : MF w m S nl) {n : List UInt8} (hn : n.length ≤ maxLen) :
    ∃ (qn : ByteArray) (z : Int) (A : Option Addr) (cp : Nat), IS w S (.slice A (hadN nl n).length cp) (hadN nl n) ∧ ∀ W, Below w.heap.size w W →
      (Instr.lookup 80 (.map (some m)) (strV n) true).run Tryz.prog W = .ok (.tuple #[.agg #[.int .i64 (placeN nl n : Int), .string qn, .int .i64 z, .slice A (hadN nl n).length cp], .bool (lookN nl n).isSome]) W ∧
      (Instr.lookup 80 (.map (some m)) (strV n) false).run Tryz.prog W = .ok (.agg #[.int .i64 (placeN nl n : Int), .string qn, .int .i64 z, .slice A (hadN nl n).length cp]) W := by
  obtain ⟨g, h1, h2, h3, h4⟩ := h
  have r1 := fun W (b : Below w.heap.size w W) => (h1.below b).look_ok Tryz.underlying80 (zero_file W) hn
  have r2 := fun W (b : Below w.heap.size w W) => (h1.below b).look Tryz.underlying80 (zero_file W) hn
  unfold hadN placeN
  cases hl : lookN nl n with
  | none =>
    rw [h3 n hl] at r1 r2
    exact ⟨⟨#[]⟩, 0, none, 0, IS.nil _ _, fun W b => ⟨r1 W b, r2 W b⟩⟩
  | some q =>
    obtain ⟨v, e, a, rfl, hv, hz, _, hq⟩ := h4 n q hl
    rw [e] at r1 r2
    obtain ⟨A, cp, rfl, _⟩ := hv.form
    exact ⟨_, q.2.size, A, cp, hv, fun W b => ⟨r1 W b, r2 W b⟩⟩
set_option maxHeartbeats 4000000 in
theorem misses_any (h : ST w a c nl s br) (f : Fi) (hn : f.name.length ≤ maxLen) (X : Option Addr) (z : Nat) : Calls Tryz.prog 47 #[.pointer (some ⟨a.sg, 0, none⟩), .agg #[strV f.name, .slice X f.b.length z, .bool f.gone]] w fun e w' => e = .returned (.bool (missF nl f)) ∧ Below w.heap.size w w' := by
  have B := (Below.refl w.heap.size w).alloc (Nat.le_refl _) (.cells #[strV f.name, .slice X f.b.length z, .bool f.gone] 71)
  obtain ⟨qn, zz, A, cp, _, hlk⟩ := h.mf.file hn
  have K1 := KB.new w 71 #[strV f.name, .slice X f.b.length z, .bool f.gone]
  have hC : ∀ W, Below w.heap.size w W → W.cell? ⟨a.sg, 6, none⟩ = some (.map (some a.m)) := fun W b => (h.below b).c6
  have hm : missF nl f = (f.gone && !(lookN nl f.name).isSome) := by
    unfold missF
    cases lookN nl f.name <;> simp
  rw [hm]
  generalize (lookN nl f.name).isSome = th at *
  generalize f.b.length = fb at *
  generalize f.gone = fg at *
  unfold strV at *
  generalize (⟨f.name.toArray⟩ : ByteArray) = fn at *
  clear h hm hn
  generalize (hadN nl f.name).length = hd at *
  generalize ((placeN nl f.name : Nat) : Int) = pl at *
  go_enter Tryz.func47, Tryz.ntmps47
  go_wp2_with fail
  rename_i KK hKK
  have HKK := Lib.hid hKK
  clear hKK
  have HC : Hid (∀ W, KB W w.heap.size 71 #[.string fn, .slice X fb z, .bool fg] → Below w.heap.size w W → W.cell? ⟨a.sg, 6, none⟩ = some (.map (some a.m)) ∧ W.cell? ⟨w.heap.size, 0, none⟩ = some (.string fn) ∧ W.cell? ⟨w.heap.size, 2, none⟩ = some (.bool fg) ∧ (Instr.lookup 80 (.map (some a.m)) (.string fn) true).run Tryz.prog W = .ok (.tuple #[.agg #[.int .i64 pl, .string qn, .int .i64 zz, .slice A hd cp], .bool th]) W) :=
    fun W k b => ⟨hC W b, k.cell 0, k.cell 2, (hlk W b).1⟩
  clear hlk hC
  generalize w.alloc (.cells #[.string fn, .slice X fb z, .bool fg] 71) = w1 at *
  have hsz := B.size
  have K2 : ∀ o, KB (w1.alloc o).drew w.heap.size 71 #[.string fn, .slice X fb z, .bool fg] := fun o => (K1.alloc o).drewN 1
  have B2 : ∀ o, Below w.heap.size w (w1.alloc o).drew := fun o => Below_drawn (B.alloc hsz o) 1
  replace K1 := K1.drewN 1
  replace B := Below_drawn B 1
  refine wp_region_held_drew (S := (fun W => W.cell? ⟨a.sg, 6, none⟩ = some (.map (some a.m)) ∧ W.cell? ⟨w.heap.size, 0, none⟩ = some (.string fn) ∧ W.cell? ⟨w.heap.size, 2, none⟩ = some (.bool fg) ∧ (Instr.lookup 80 (.map (some a.m)) (.string fn) true).run Tryz.prog W = .ok (.tuple #[.agg #[.int .i64 pl, .string qn, .int .i64 zz, .slice A hd cp], .bool th]) W)) (by kernel_rfl) (HC.out _ K1 B) (fun hHeld => ?_)
  refine hyY (some 8) 0 rfl hHeld ?_; go_frame
  refine hyY (some 9) 1 rfl hHeld ?_; go_frame
  refine hyY (some 10) 2 rfl hHeld ?_; go_frame
  refine hyY (some 11) 3 rfl hHeld ?_; go_frame
  refine hyY (some 12) 4 rfl hHeld ?_; go_frame
  refine hyY (some 13) 5 rfl hHeld ?_; go_frame
  refine hyY (some 14) 6 rfl hHeld ?_; go_frame
  refine hyY (some 7) 7 rfl hHeld ?_; go_frame
  refine hyY (some 15) 8 rfl hHeld ?_; go_frame
  refine hyY (some 16) 9 rfl hHeld ?_; go_frame
  refine hyO (some 5) 10 rfl (fun K hK => ?_)
  go_simp
  refine hK.out _ _ ?_ (fun hH2 => ?_)
  · first | exact HC.out _ K1 B | exact HC.out _ (K2 _) (B2 _)
  clear hHeld hK K; have hHeld := hH2; clear hH2; try go_frame
  refine hyO none 11 rfl (fun K hK => ?_)
  go_simp
  refine hK.out _ _ ?_ (fun hH2 => ?_)
  · first | exact HC.out _ K1 B | exact HC.out _ (K2 _) (B2 _)
  clear hHeld hK K; have hHeld := hH2; clear hH2; try go_frame
  refine hyY (some 6) 12 rfl hHeld ?_; go_frame
  refine wpAnyH_done (by kernel_rfl) ?_ _
  obtain ⟨_, _, r2, _⟩ := hHeld
  have hKK := HKK.out
  cases fg with
  | false =>
    go_wp2_with fail
    go_ret
    exact ⟨rfl, B2 _⟩
  | true =>
    go_wp2_with fail
    go_ret
    exact ⟨rfl, B2 _⟩
set_option maxHeartbeats 1000000 in
theorem index_long (S : Nat → Prop) (v : Value) (l : List Fi) (hv : FS w S v l) :
    Calls Tryz.prog 73 #[v, .func (.func 46) #[] #[]] w fun e w' => ∃ r : Int, e = .returned (.int .i64 r) ∧ decide (0 ≤ r) = (l.any fun f => longF f) ∧ Below w.heap.size w w' := by
  obtain ⟨A, cp, rfl, hlc, hm⟩ := hv.form
  have hle : l.length ≤ 9223372036854775807 := by unfold maxLen at hm; omega
  have HY : Hid (∀ (j : Nat) (f : Fi), l[j]? = some f → longF f = true → (l.any fun f => longF f) = true) := fun j z h1 h2 => List.any_eq_true.2 ⟨z, List.mem_of_getElem? h1, h2⟩
  have HN : Hid ((∀ i f, i < l.length → l[i]? = some f → longF f = false) → (l.any fun f => longF f) = false) := fun h => by
    rw [List.any_eq_false]
    intro z hz
    obtain ⟨i, hi⟩ := List.mem_iff_getElem?.1 hz
    rw [h i z (List.getElem?_eq_some_iff.1 hi).1 hi]
    simp
  generalize (l.any fun f => longF f) = r at *
  go_enter Tryz.func73, Tryz.ntmps73
  go_wp2_with fail
  go_loopw [8] (fun iv wr => ∃ j : Nat, j ≤ l.length ∧ iv = .int .i64 j ∧ Hid (∀ i f, i < j → l[i]? = some f → longF f = false) ∧ Below w.heap.size w wr) (fun iv _ => l.length - (intOf iv).toNat)
  case atStart => exact ⟨0, by omega, rfl, fun i u h => absurd h (Nat.not_lt_zero _), Below.refl _ _⟩
  case round =>
    obtain ⟨j, hj, rfl, HS, B⟩ := hrel
    by_cases hlt : j < l.length
    · obtain ⟨b, o, rfl, _, _, hx⟩ := (hv.below' B).at_ (by omega)
      obtain ⟨f, hf⟩ : ∃ f, l[j]? = some f := ⟨_, List.getElem?_eq_getElem hlt⟩
      obtain ⟨k0, hnm, ⟨X, z, k1, _⟩, k2⟩ := hx j f hf
      have hc := long_any f X z wr
      have HA : Hid (longF f = true → r = true) := fun h => HY.out j _ hf h
      have HB : Hid (longF f = false → ∀ i g, i < j + 1 → l[i]? = some g → longF g = false) := by
        intro h i z hi hu
        by_cases hij : i < j
        · exact HS.out i z hij hu
        · obtain rfl : i = j := by omega
          rw [hf] at hu
          obtain rfl := Option.some.inj hu
          exact h
      have hltI : (j : Int) < (l.length : Int) := by omega
      generalize longF f = t at *
      generalize f.b.length = fb at *
      generalize f.gone = fg at *
      unfold strV at hc k0
      generalize (⟨f.name.toArray⟩ : ByteArray) = fn at *
      clear hx hf HS HY hv
      go_wp2_with fail
      refine hc.mono ?_
      rintro e w5 ⟨rfl, b5⟩
      have B5 := B.trans (b5.mono B.size)
      clear hc B k0 k1 k2
      cases t with
      | true =>
        have hr := HA.out rfl
        clear HA HB HN
        subst hr
        go_wp2_with fail
        go_ret
        exact ⟨_, rfl, decide_eq_true (by omega), B5⟩
      | false =>
        have HB' := Lib.hid (HB.out rfl)
        clear HA HB
        go_wp2_with fail
        go_roundw
        case rel => exact ⟨j + 1, by omega, by go_num, HB', B5⟩
        case measure => simp [intOf]; omega
    · obtain rfl : j = l.length := by omega
      have hr := HN.out HS.out
      clear HN HS HY
      subst hr
      go_wp2_with fail
      go_ret
      exact ⟨_, rfl, by decide, B⟩
theorem contains_long (S : Nat → Prop) (v : Value) (l : List Fi) (hv : FS w S v l) :
    Calls Tryz.prog 45 #[v, .func (.func 46) #[] #[]] w fun e w' => e = .returned (.bool (l.any fun f => longF f)) ∧ Below w.heap.size w w' := by
  have hc := index_long S v l hv
  generalize (l.any fun f => longF f) = r at *
  obtain ⟨A, cp, rfl, _⟩ := hv.form
  clear hv
  go_enter Tryz.func45, Tryz.ntmps45
  go_wp2_with fail
  refine hc.mono ?_
  rintro e w5 ⟨n, rfl, hn, b5⟩
  go_wp2_with fail
  go_ret
  exact ⟨rfl, b5⟩
set_option maxHeartbeats 1000000 in
theorem index_misses (h : ST w a c nl s br) (S : Nat → Prop) (v : Value) (l : List Fi) (hv : FS w S v l) :
    Calls Tryz.prog 73 #[v, .func (.func 47) #[.pointer (some ⟨a.sg, 0, none⟩)] #[]] w fun e w' => ∃ r : Int, e = .returned (.int .i64 r) ∧ decide (0 ≤ r) = (l.any fun f => missF nl f) ∧ Below w.heap.size w w' := by
  obtain ⟨A, cp, rfl, hlc, hm⟩ := hv.form
  have hle : l.length ≤ 9223372036854775807 := by unfold maxLen at hm; omega
  have HY : Hid (∀ (j : Nat) (f : Fi), l[j]? = some f → missF nl f = true → (l.any fun f => missF nl f) = true) := fun j z h1 h2 => List.any_eq_true.2 ⟨z, List.mem_of_getElem? h1, h2⟩
  have HN : Hid ((∀ i f, i < l.length → l[i]? = some f → missF nl f = false) → (l.any fun f => missF nl f) = false) := fun h => by
    rw [List.any_eq_false]
    intro z hz
    obtain ⟨i, hi⟩ := List.mem_iff_getElem?.1 hz
    rw [h i z (List.getElem?_eq_some_iff.1 hi).1 hi]
    simp
  generalize (l.any fun f => missF nl f) = r at *
  go_enter Tryz.func73, Tryz.ntmps73
  go_wp2_with fail
  go_loopw [8] (fun iv wr => ∃ j : Nat, j ≤ l.length ∧ iv = .int .i64 j ∧ Hid (∀ i f, i < j → l[i]? = some f → missF nl f = false) ∧ Below w.heap.size w wr) (fun iv _ => l.length - (intOf iv).toNat)
  case atStart => exact ⟨0, by omega, rfl, fun i u h => absurd h (Nat.not_lt_zero _), Below.refl _ _⟩
  case round =>
    obtain ⟨j, hj, rfl, HS, B⟩ := hrel
    by_cases hlt : j < l.length
    · obtain ⟨b, o, rfl, _, _, hx⟩ := (hv.below' B).at_ (by omega)
      obtain ⟨f, hf⟩ : ∃ f, l[j]? = some f := ⟨_, List.getElem?_eq_getElem hlt⟩
      obtain ⟨k0, hnm, ⟨X, z, k1, _⟩, k2⟩ := hx j f hf
      have hc := misses_any (h.below B) f hnm X z
      have HA : Hid (missF nl f = true → r = true) := fun h => HY.out j _ hf h
      have HB : Hid (missF nl f = false → ∀ i g, i < j + 1 → l[i]? = some g → missF nl g = false) := by
        intro h i z hi hu
        by_cases hij : i < j
        · exact HS.out i z hij hu
        · obtain rfl : i = j := by omega
          rw [hf] at hu
          obtain rfl := Option.some.inj hu
          exact h
      have hltI : (j : Int) < (l.length : Int) := by omega
      generalize missF nl f = t at *
      generalize f.b.length = fb at *
      generalize f.gone = fg at *
      unfold strV at hc k0
      generalize (⟨f.name.toArray⟩ : ByteArray) = fn at *
      clear hx hf HS HY hv
      go_wp2_with fail
      refine hc.mono ?_
      rintro e w5 ⟨rfl, b5⟩
      have B5 := B.trans (b5.mono B.size)
      clear hc B k0 k1 k2
      cases t with
      | true =>
        have hr := HA.out rfl
        clear HA HB HN
        subst hr
        go_wp2_with fail
        go_ret
        exact ⟨_, rfl, decide_eq_true (by omega), B5⟩
      | false =>
        have HB' := Lib.hid (HB.out rfl)
        clear HA HB
        go_wp2_with fail
        go_roundw
        case rel => exact ⟨j + 1, by omega, by go_num, HB', B5⟩
        case measure => simp [intOf]; omega
    · obtain rfl : j = l.length := by omega
      have hr := HN.out HS.out
      clear HN HS HY
      subst hr
      go_wp2_with fail
      go_ret
      exact ⟨_, rfl, by decide, B⟩
theorem contains_misses (h : ST w a c nl s br) (S : Nat → Prop) (v : Value) (l : List Fi) (hv : FS w S v l) :
    Calls Tryz.prog 45 #[v, .func (.func 47) #[.pointer (some ⟨a.sg, 0, none⟩)] #[]] w fun e w' => e = .returned (.bool (l.any fun f => missF nl f)) ∧ Below w.heap.size w w' := by
  have hc := index_misses h S v l hv
  generalize (l.any fun f => missF nl f) = r at *
  obtain ⟨A, cp, rfl, _⟩ := hv.form
  clear hv
  go_enter Tryz.func45, Tryz.ntmps45
  go_wp2_with fail
  refine hc.mono ?_
  rintro e w5 ⟨n, rfl, hn, b5⟩
  go_wp2_with fail
  go_ret
  exact ⟨rfl, b5⟩
end
end
section
open Go.RowKit
section
variable {w : World} {a : SA} {c : CI} {nl : List Nd} {s : Dk} {br : Bool}
set_option maxHeartbeats 2000000 in
theorem taken_any (h : ST w a c nl s br) : Calls Tryz.prog 75 #[.pointer (some ⟨a.sg, 0, none⟩)] w fun e w' =>
    e = .returned (.slice (some ⟨w.heap.size, 0, none⟩) c.cn.files c.cn.files) ∧ KB w' w.heap.size 4 (rowB c.cn.files (tkN nl)) ∧ Below w.heap.size w w' := by
  have c5 := h.c3
  have c6 := h.c6
  rw [h.files_nat] at c5
  have few : c.cn.files ≤ 1024 := by have := h.may.ok.files2; omega
  have hin := fun (q : Nd) (hq : q ∈ nl) => (h.fit q hq).1
  obtain ⟨g, m1, m2, m3, m4⟩ := h.mf
  have hsg := h.kb.lt
  have hmlt := m1.lt
  generalize c.cn.files = D at *
  obtain ⟨C, hC, hmk⟩ := make_bools w D few
  rw [← rowB_none] at hC
  have K0 : KB (w.alloc (.cells C 4)) w.heap.size 4 (rowB D fun _ => false) := by rw [hC]; exact KB.new _ _ _
  clear hC
  have B0 := (Below.refl w.heap.size w).alloc (Nat.le_refl _) (.cells C 4)
  have M0 := m1.below B0
  have c6' : (w.alloc (.cells C 4)).cell? ⟨a.sg, 6, none⟩ = some (.map (some a.m)) := (World.cell?_of_block (w := w) (Below.heap_alloc w _ _ hsg)).trans c6
  go_enter Tryz.func75, Tryz.ntmps75
  go_wp2_with (refine wpList_range_mt rfl (.tmp 15) 80 93 rfl Tryz.underlying80 a.m _ _ rfl M0 ?_; intro w0 cnt0 hr0 g0)
  go_frame
  have K1 := K0.grown g0 (by simp)
  have B1 := B0.grown g0 B0.size (by simp)
  have hsz := B0.size
  have hu1 : w.heap.size < (w.alloc (.cells C 4)).heap.size := by simp
  obtain ⟨r0, er0⟩ : ∃ r, r = (w.alloc (.cells C 4)).heap.size := ⟨_, rfl⟩
  rw [← er0] at hr0 ⊢
  have hur : w.heap.size < r0 := by omega
  have hg0 : ∀ n, (g n).isSome = (lookN nl n).isSome := fun n => by
    cases hl : lookN nl n with
    | none => rw [m3 n hl]; rfl
    | some q => obtain ⟨v, e, _⟩ := m4 n q hl; rw [e]; rfl
  have K1' : KB w0 w.heap.size 4 (rowB D (tkL nl fun n => (g n).isSome)) := by
    rw [rowB_same (f := tkL nl fun n => (g n).isSome) (g := fun _ => false) fun k _ => tkL_start (fun q hq => by rw [hg0, lookN_mem m2 hq]; rfl) k]
    exact K1
  clear K0 K1 B0 M0 c6 c6' hmk er0 hu1 c5
  have HG := Lib.hid hg0
  clear hg0
  go_loopw [5] (fun _ wr => ∃ (left : List UInt8 → Bool) (cnt : Nat), RT wr a.m r0 g nl.length left cnt ∧ KB wr w.heap.size 4 (rowB D (tkL nl left)) ∧ Below w.heap.size w wr) (fun _ wr => wr.rangeLeft a.m r0)
  case atStart => exact ⟨_, _, hr0, K1', B1⟩
  case round =>
    obtain ⟨left, cnt, hr, kb, bl⟩ := hrel
    clear K1' B1 hr0 g0
    go_wp2_with (refine wpList_next_mt rfl (.tmp 16) rfl a.m r0 _ _ _ _ rfl hr ?_ ?_)
    · intro hl
      go_wp2_with fail
      go_ret
      refine ⟨rfl, ?_, bl⟩
      rw [rowB_same (g := tkN nl) fun k _ => tkL_end hl k] at kb
      exact kb
    · intro n v w1 cnt1 hgn hln hr1 hlt1 g1 hs1 hen
      obtain ⟨q, hq⟩ : ∃ q, lookN nl n = some q := by
        cases hl : lookN nl n with
        | none => rw [m3 n hl] at hgn; cases hgn
        | some q => exact ⟨q, rfl⟩
      obtain ⟨v', e', a', rfl, hv, hz, hnm, hpl⟩ := m4 n q hq
      obtain rfl : ndV q.1 q.2 a' = v := Option.some.inj (e'.symm.trans hgn)
      obtain ⟨hqm, hqn⟩ := lookN_some hq
      obtain ⟨A, cp, rfl, hcl, hcm, _⟩ := hv.form
      have kb1 := kb.grown g1 (fun e => by injection e with e; omega)
      have bl1 := bl.grown g1 bl.size (fun g e => by injection e with e; omega)
      have rlt := hr1.lt
      have hv1 : IS w1 (OffS a w) (.slice A q.2.at_.length cp) q.2.at_ := hv.keep bl1.size fun b sb _ => bl1.block b sb.1
      have HQ := hin q hqm
      have HL : Hid (∀ k, k < D → tkL nl (fun j => left j && !decide (j = n)) k = (tkL nl left k || decide (q.1 = k))) := fun k _ => by rw [← hqn]; exact tkL_step m2 hqm left k
      have HLT := Lib.hid hlt1
      have HRL := Lib.hid hr.left_eq
      unfold ndV strV at hen ⊢
      generalize q.2.at_ = L at *
      generalize (⟨q.2.name.toArray⟩ : ByteArray) = qn at *
      generalize q.2.size = qz at *
      generalize q.1 = zn at *
      generalize (⟨n.toArray⟩ : ByteArray) = nn at *
      clear hln hlt1 g1 hs1 kb bl hr e' hgn hq hqm hqn hz hnm hpl hv hin
      have hsz1 := bl1.size
      have kb2 := kb1.alloc (.cells #[.int .i64 (zn : Int), .string qn, .int .i64 qz, .slice A L.length cp] 93)
      have hr2 := hr1.kept (World.grownBy_alloc w1 (.cells #[.int .i64 (zn : Int), .string qn, .int .i64 qz, .slice A L.length cp] 93) none) (by simp) (by simp)
      have bl2 := bl1.alloc hsz1 (.cells #[.int .i64 (zn : Int), .string qn, .int .i64 qz, .slice A L.length cp] 93)
      have hzD' : (zn : Int) < (D : Int) := by omega
      have ct := (kb2.cell zn).trans (rowB_at HQ)
      have ft := kb2.free zn
      generalize tkL nl left zn = bz at ct
      have hk4 := kb2.put zn (.bool true)
      rw [rowB_set HQ, rowB_same (g := tkL nl (fun j => left j && !decide (j = n))) fun k hk => by rw [HL.out k hk, show decide (zn = k) = decide (k = zn) from decide_eq_decide.2 ⟨Eq.symm, Eq.symm⟩]] at hk4
      have g4 := grown_set (w1.alloc (.cells #[.int .i64 (zn : Int), .string qn, .int .i64 qz, .slice A L.length cp] 93)) w.heap.size zn (.bool true)
      have hr4 := hr2.kept g4 (fun e => by injection e with e; omega) (fun e => by injection e with e; omega)
      have bl4 := bl2.setCell (p := ⟨w.heap.size, zn, none⟩) (Nat.le_refl _) (.bool true)
      have hrl := hr4.left_eq
      clear kb1 hv1 hr1 bl1 hsz1 rlt kb2 hr2 bl2 g4 HL
      go_wp2_with fail
      go_roundw
      case rel => exact ⟨_, cnt1, hr4, hk4, bl4⟩
      case measure => rw [hrl, HRL.out]; exact HLT.out
theorem used_at {u d b : Nat} {f : Nat → Bool} {W : World} (kb : KB W b 48 #[.slice (some ⟨u, 0, none⟩) d d]) (ku : KB W u 4 (rowB d f)) {z : Int} (h0 : 0 ≤ z) (h1 : z < (d : Int)) :
    Calls Tryz.prog 135 #[.int .i64 z, .pointer (some ⟨b, 0, none⟩)] W fun e W' => e = .returned (.bool (f z.toNat)) ∧ W = W' := by
  have q0 := kb.cell 0
  obtain ⟨zn, rfl⟩ : ∃ zn : Nat, z = (zn : Int) := ⟨z.toNat, by omega⟩
  rw [Int.toNat_natCast]
  have q1 := (ku.cell zn).trans (rowB_at (f := f) (by omega : zn < d))
  go_enter Tryz.func135, Tryz.ntmps135
  go_wp2
  go_ret
  exact ⟨rfl, rfl⟩
set_option maxHeartbeats 1000000 in
theorem index_used {u d b : Nat} {f : Nat → Bool} {S : Nat → Prop} (v : Value) (l : List Int) (hin : ∀ z ∈ l, 0 ≤ z ∧ z < (d : Int)) (w : World) (h : IS w S v l) (kb : KB w b 48 #[.slice (some ⟨u, 0, none⟩) d d]) (ku : KB w u 4 (rowB d f)) :
    Calls Tryz.prog 169 #[v, .func (.func 135) #[] #[.pointer (some ⟨b, 0, none⟩)]] w fun e w' => ∃ r : Int, e = .returned (.int .i64 r) ∧ decide (0 ≤ r) = (l.any fun z => f z.toNat) ∧ w = w' := by
  obtain ⟨A, cp, rfl, hl, hm, _⟩ := id h.form
  have hle : l.length ≤ 9223372036854775807 := by unfold maxLen at hm; omega
  have HY : Hid (∀ (j : Nat) (z : Int), l[j]? = some z → f z.toNat = true → (l.any fun z => f z.toNat) = true) := fun j z h1 h2 => List.any_eq_true.2 ⟨z, List.mem_of_getElem? h1, h2⟩
  have HN : Hid ((∀ i z, i < l.length → l[i]? = some z → f z.toNat = false) → (l.any fun z => f z.toNat) = false) := fun h => by
    rw [List.any_eq_false]
    intro z hz
    obtain ⟨i, hi⟩ := List.mem_iff_getElem?.1 hz
    rw [h i z (List.getElem?_eq_some_iff.1 hi).1 hi]
    simp
  generalize (l.any fun z => f z.toNat) = r at *
  go_enter Tryz.func169, Tryz.ntmps169
  go_wp2_with fail
  go_loopw [8] (fun iv wr => ∃ j : Nat, j ≤ l.length ∧ iv = .int .i64 j ∧ Hid (∀ i z, i < j → l[i]? = some z → f z.toNat = false) ∧ w = wr) (fun iv _ => l.length - (intOf iv).toNat)
  case atStart => exact ⟨0, by omega, rfl, fun i u h => absurd h (Nat.not_lt_zero _), rfl⟩
  case round =>
    obtain ⟨j, hj, rfl, HS, rfl⟩ := hrel
    by_cases hlt : j < l.length
    · obtain ⟨g, o, rfl, _, _, hx⟩ := h.at_ (by omega)
      have hgj : l[j]? = some l[j] := List.getElem?_eq_getElem hlt
      have hcj := hx j _ hgj
      have hz := hin _ (List.getElem_mem hlt)
      have hc := used_at kb ku hz.1 hz.2
      have HA : Hid (f l[j].toNat = true → r = true) := fun h => HY.out j _ hgj h
      have HB : Hid (f l[j].toNat = false → ∀ i z, i < j + 1 → l[i]? = some z → f z.toNat = false) := by
        intro h i z hi hu
        by_cases hij : i < j
        · exact HS.out i z hij hu
        · obtain rfl : i = j := by omega
          rw [hgj] at hu
          obtain rfl := Option.some.inj hu
          exact h
      have hltI : (j : Int) < (l.length : Int) := by omega
      generalize f l[j].toNat = t at *
      generalize l[j] = z at *
      clear hx hgj HS HY h
      go_wp2_with fail
      refine hc.mono ?_
      rintro e w5 ⟨rfl, rfl⟩
      cases t with
      | true =>
        have hr := HA.out rfl
        clear HA HB HN
        subst hr
        go_wp2_with fail
        go_ret
        exact ⟨_, rfl, decide_eq_true (by omega), rfl⟩
      | false =>
        have HB' := Lib.hid (HB.out rfl)
        clear HA HB
        go_wp2_with fail
        go_roundw
        case rel => exact ⟨j + 1, by omega, by go_num, HB', (by trivial)⟩
        case measure => simp [intOf]; omega
    · obtain rfl : j = l.length := by omega
      have hr := HN.out HS.out
      clear HN HS HY
      subst hr
      go_wp2_with fail
      go_ret
      exact ⟨_, rfl, by decide, rfl⟩
theorem contains_used {u d b : Nat} {f : Nat → Bool} {S : Nat → Prop} (v : Value) (l : List Int) (hin : ∀ z ∈ l, 0 ≤ z ∧ z < (d : Int)) (w : World) (h : IS w S v l) (kb : KB w b 48 #[.slice (some ⟨u, 0, none⟩) d d]) (ku : KB w u 4 (rowB d f)) :
    Calls Tryz.prog 134 #[v, .func (.func 135) #[] #[.pointer (some ⟨b, 0, none⟩)]] w fun e w' => e = .returned (.bool (l.any fun z => f z.toNat)) ∧ w = w' := by
  have hc := index_used v l hin w h kb ku
  generalize (l.any fun z => f z.toNat) = r at *
  obtain ⟨A, cp, rfl, _⟩ := id h.form
  clear h
  go_enter Tryz.func134, Tryz.ntmps134
  go_wp2_with fail
  refine hc.mono ?_
  rintro e w5 ⟨n, rfl, hn, rfl⟩
  go_wp2_with fail
  go_ret
  exact ⟨rfl, rfl⟩
set_option maxHeartbeats 1000000 in
theorem shares_any (h : ST w a c nl s br) (S : Nat → Prop) (v : Value) (l : List Int) (hin : ∀ z ∈ l, 0 ≤ z ∧ z < (c.cn.data : Int)) (hv : IS w S v l) : Calls Tryz.prog 102 #[.pointer (some ⟨a.sg, 0, none⟩), v] w fun e w' =>
    e = .returned (.bool (l.any fun z => usN nl z.toNat)) ∧ Below w.heap.size w w' := by
  have hu := used_any h
  obtain ⟨A, cp, rfl, _⟩ := id hv.form
  generalize c.cn.data = D at *
  clear h
  go_enter Tryz.func102, Tryz.ntmps102
  go_wp2_with fail
  refine hu.mono ?_
  rintro e w1 ⟨rfl, k1, b1⟩
  have k2 := k1.alloc (.cells #[.slice (some ⟨w.heap.size, 0, none⟩) D D] 48)
  have kn := KB.new w1 48 #[.slice (some ⟨w.heap.size, 0, none⟩) D D]
  have hv2 := (hv.below' b1).alloc (.cells #[.slice (some ⟨w.heap.size, 0, none⟩) D D] 48)
  have hc := contains_used _ l hin _ hv2 kn k2
  have b2 := b1.alloc b1.size (.cells #[.slice (some ⟨w.heap.size, 0, none⟩) D D] 48)
  clear hv2 k2 kn k1 b1
  go_wp2_with fail
  refine hc.mono ?_
  rintro e w5 ⟨rfl, rfl⟩
  go_wp2_with fail
  go_ret
  exact ⟨rfl, b2⟩
end
end
end Go.Proofs.YteddmnoeljakpaaGreatDoor
