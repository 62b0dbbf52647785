/-
  SdC: The program's Match (layer 20), over the loaded program: its contract. No condition.
  HwB: The program's first, holds, Held and On (layer 22), over the loaded program: each one's contract. No condition but the sizes that it names.
  InA: strings.ContainsRune at the three signs that a name may have beside letters and digits; what strings.ContainsFunc tells of a text (layer 12), over the loaded program. No condition but that a rune is one (0 to 1114111).
-/
import Derived.Test.YtdkmjdcddldjgaaHy14
import Derived.Shelf.Abstract
import Derived.Test.YtdkmjdcddldjgaaHy07
import Derived.Test.YtdkmjdcddldjgaaLayS
import Derived.Test.YtdkmjdcddldjgaaHy00
import Derived.Test.YtdkmjdcddldjgaaHy02
import Derived.Laws.Runes
import Derived.Laws.RangeString
import Derived.Laws.Strings3
import Derived.Lib.OthersKept
import Derived.WalkMore
set_option linter.unusedVariables false
set_option maxRecDepth 100000
namespace Go.Proofs.Ytdkmjdcddldjgaa
section
open Go.RowKit
def MatchIh (S : Nat → Prop) (f : Nat) (vr : Value) (p : Sc f → Bool) : Prop :=
  ∀ (x : Sc f) (v : Value) (w : World), ZV w S f v x → Calls Try.prog 49 #[v, vr] w fun e w' => e = .returned (.bool (p x)) ∧ Below w.heap.size w w'
set_option maxHeartbeats 2000000 in
theorem zpclo1 (S : Nat → Prop) (f gr : Nat) (s0 s1 s2 s3 : ByteArray) (tick st : Int) (p : Sc f → Bool) (ih : MatchIh S f (.agg #[.string s0, .string s1, .string s2, .string s3, .int .i64 tick, .int .i64 st]) p) :
    TellsZ S 57 gr f #[.string s0, .string s1, .string s2, .string s3, .int .i64 tick, .int .i64 st] (fun t => !p t) := by
  intro t v W hg hv
  have hgl := hg.lt
  have c0 : W.cell? ⟨gr, 0, none⟩ = some (.string s0) := hg.cell 0
  have c1 : W.cell? ⟨gr, 1, none⟩ = some (.string s1) := hg.cell 1
  have c2 : W.cell? ⟨gr, 2, none⟩ = some (.string s2) := hg.cell 2
  have c3 : W.cell? ⟨gr, 3, none⟩ = some (.string s3) := hg.cell 3
  have c4 : W.cell? ⟨gr, 4, none⟩ = some (.int .i64 tick) := hg.cell 4
  have c5 : W.cell? ⟨gr, 5, none⟩ = some (.int .i64 st) := hg.cell 5
  obtain ⟨i0, l1, i2, i3, X4, n4, z4, rfl⟩ := hv.form
  have hc := ih t _ _ (hv.alloc (.cells #[.int .i64 i0, strV l1, .int .i64 i2, .int .i64 i3, .slice X4 n4 z4] 25))
  show Calls _ _ _ _ fun e w' => e = .returned (.bool (!p t)) ∧ Below W.heap.size W w'
  have B0 := (Below.refl W.heap.size W).alloc (Nat.le_refl _) (.cells #[.int .i64 i0, strV l1, .int .i64 i2, .int .i64 i3, .slice X4 n4 z4] 25)
  unfold strV at *
  generalize (⟨l1.toArray⟩ : ByteArray) = s at *
  generalize p t = b at *
  clear hv hg ih
  go_enter Try.func57, Try.ntmps57
  go_wp2_with fail
  refine hc.mono ?_
  rintro e w5 ⟨rfl, b5⟩
  have B5 := B0.trans (b5.mono B0.size)
  clear hc
  go_wp2_with fail
  go_ret
  exact ⟨rfl, B5⟩
set_option maxHeartbeats 2000000 in
theorem zpclo2 (S : Nat → Prop) (f gr : Nat) (s0 s1 s2 s3 : ByteArray) (tick st : Int) (p : Sc f → Bool) (ih : MatchIh S f (.agg #[.string s0, .string s1, .string s2, .string s3, .int .i64 tick, .int .i64 st]) p) :
    TellsZ S 58 gr f #[.string s0, .string s1, .string s2, .string s3, .int .i64 tick, .int .i64 st] p := by
  intro t v W hg hv
  have hgl := hg.lt
  have c0 : W.cell? ⟨gr, 0, none⟩ = some (.string s0) := hg.cell 0
  have c1 : W.cell? ⟨gr, 1, none⟩ = some (.string s1) := hg.cell 1
  have c2 : W.cell? ⟨gr, 2, none⟩ = some (.string s2) := hg.cell 2
  have c3 : W.cell? ⟨gr, 3, none⟩ = some (.string s3) := hg.cell 3
  have c4 : W.cell? ⟨gr, 4, none⟩ = some (.int .i64 tick) := hg.cell 4
  have c5 : W.cell? ⟨gr, 5, none⟩ = some (.int .i64 st) := hg.cell 5
  obtain ⟨i0, l1, i2, i3, X4, n4, z4, rfl⟩ := hv.form
  have hc := ih t _ _ (hv.alloc (.cells #[.int .i64 i0, strV l1, .int .i64 i2, .int .i64 i3, .slice X4 n4 z4] 25))
  have B0 := (Below.refl W.heap.size W).alloc (Nat.le_refl _) (.cells #[.int .i64 i0, strV l1, .int .i64 i2, .int .i64 i3, .slice X4 n4 z4] 25)
  unfold strV at *
  generalize (⟨l1.toArray⟩ : ByteArray) = s at *
  generalize p t = b at *
  clear hv hg ih
  go_enter Try.func58, Try.ntmps58
  go_wp2_with fail
  refine hc.mono ?_
  rintro e w5 ⟨rfl, b5⟩
  have B5 := B0.trans (b5.mono B0.size)
  clear hc
  go_wp2_with fail
  go_ret
  exact ⟨rfl, B5⟩
theorem zall_not {α : Type} (p : α → Bool) (l : List α) : (!(l.any fun t => !p t)) = l.all p := by
  rw [List.any_eq_not_all_not, Bool.not_not]
  congr 1
  funext x
  simp
theorem zhead_any {α : Type} (p : α → Bool) : ∀ (l : List α), ((l.take 1).any p) = (l.head?.map p).getD false
  | [] => rfl
  | a :: l => by simp
set_option maxHeartbeats 8000000 in
theorem zpmatch_any (S : Nat → Prop) (rc : Rc) (vr : Value) (hrc : RcV vr rc) : ∀ (f : Nat), MatchIh S f vr (matchS rc f) := by
  obtain ⟨id, st, rfl⟩ := hrc
  intro f
  induction f with
  | zero => intro x; exact nomatch x
  | succ f ih =>
    intro x v w hx
    obtain ⟨c0, c1, c2, c3, c4, rfl, rfl, _, rfl, _, rfl, _, rfl, _, hks⟩ := hx
    obtain ⟨A3, cap3, e3, hl3, hm3⟩ := hks.form
    obtain ⟨k, d, n, o, ks⟩ := (x : Ns (Sc f))
    simp only at e3 hks hl3
    subst e3
    have hlen : ks.length ≤ 9223372036854775807 := by unfold maxLen at hm3; omega
    have hcapI : (cap3 : Int) ≤ 9223372036854775807 := by unfold maxLen at hm3; omega
    have hr := match_eq rc f (⟨k, d, n, o, ks⟩ : Ns (Sc f))
    rw [hr]
    clear hr
    dsimp only
    obtain ⟨cse, sub, cls, tick⟩ := rc
    dsimp only at ih ⊢
    generalize hp : matchS (⟨cse, sub, cls, tick⟩ : Rc) f = p at *
    clear hp
    unfold strV at *
    obtain ⟨s, hs⟩ : ∃ s : ByteArray, s = ⟨d.toArray⟩ := ⟨_, rfl⟩
    obtain ⟨s1, hs1⟩ : ∃ s : ByteArray, s = ⟨cse.toArray⟩ := ⟨_, rfl⟩
    obtain ⟨s2, hs2⟩ : ∃ s : ByteArray, s = ⟨sub.toArray⟩ := ⟨_, rfl⟩
    obtain ⟨s3, hs3⟩ : ∃ s : ByteArray, s = ⟨cls.toArray⟩ := ⟨_, rfl⟩
    obtain ⟨s0, hs0⟩ : ∃ s : ByteArray, s = ⟨id.toArray⟩ := ⟨_, rfl⟩
    rw [← hs1, ← hs2, ← hs3, ← hs0] at ih
    rw [← hs, ← hs1, ← hs2, ← hs3, ← hs0]
    have q1 := zeq_txt s1 s cse d hs1 hs
    have q2 := zeq_txt s2 s sub d hs2 hs
    have q3 := zeq_txt s3 s cls d hs3 hs
    clear hs hs1 hs2 hs3 hs0
    generalize decide (cse = d) = b1 at *
    generalize decide (sub = d) = b2 at *
    generalize decide (cls = d) = b3 at *
    obtain ⟨kx, ky, B0⟩ := ztwo_boxes w #[.int .i64 k, .string s, .int .i64 n, .int .i64 o, .slice A3 ks.length cap3] #[.string s0, .string s1, .string s2, .string s3, .int .i64 tick, .int .i64 st] 25 40
    have hc1 := zpcon_any S 57 (w.heap.size + 1) f _ (fun t => !p t) (enters_of Try.func57 (by kernel_rfl) rfl) (zpclo1 S f _ s0 s1 s2 s3 tick st p ih) ks _ _ ky (ZS.past hks B0)
    by_cases h1 : k = 1
    · subst h1
      rw [if_pos rfl]
      clear q1 q2 q3 ih hc1
      go_enter Try.func49, Try.ntmps49
      go_wp2_with fail
      go_ret
      exact ⟨rfl, B0⟩
    have g1 : (k == 1) = false := beq_eq_false_iff_ne.2 h1
    rw [if_neg h1]
    by_cases h2 : k = 2
    · subst h2
      rw [if_pos rfl]
      clear q2 q3 ih hc1
      go_enter Try.func49, Try.ntmps49
      go_wp2_with fail
      go_ret
      exact ⟨by first | rfl | simp [q1], B0⟩
    have g2 : (k == 2) = false := beq_eq_false_iff_ne.2 h2
    rw [if_neg h2]
    by_cases h3 : k = 3
    · subst h3
      rw [if_pos rfl]
      clear q1 q3 ih hc1
      go_enter Try.func49, Try.ntmps49
      go_wp2_with fail
      go_ret
      exact ⟨by first | rfl | simp [q2], B0⟩
    have g3 : (k == 3) = false := beq_eq_false_iff_ne.2 h3
    rw [if_neg h3]
    by_cases h4 : k = 4
    · subst h4
      rw [if_pos rfl]
      clear q1 q2 ih hc1
      go_enter Try.func49, Try.ntmps49
      go_wp2_with fail
      go_ret
      exact ⟨by first | rfl | simp [q3], B0⟩
    have g4 : (k == 4) = false := beq_eq_false_iff_ne.2 h4
    rw [if_neg h4]
    clear q1 q2 q3
    by_cases h5 : k = 5
    · subst h5
      rw [if_pos rfl]
      clear ih hc1
      by_cases a1 : n ≤ tick
      · have E1 : decide (n ≤ tick) = true := decide_eq_true a1
        by_cases a2 : tick ≤ o
        · have E2 : decide (tick ≤ o) = true := decide_eq_true a2
          rw [decide_eq_true (show n ≤ tick ∧ tick ≤ o from ⟨a1, a2⟩)]
          go_enter Try.func49, Try.ntmps49
          go_wp2_with fail
          go_ret
          exact ⟨rfl, B0⟩
        · have E2 : decide (tick ≤ o) = false := decide_eq_false a2
          rw [decide_eq_false (show ¬ (n ≤ tick ∧ tick ≤ o) from fun h => a2 h.2)]
          go_enter Try.func49, Try.ntmps49
          go_wp2_with fail
          go_ret
          exact ⟨rfl, B0⟩
      · have E1 : decide (n ≤ tick) = false := decide_eq_false a1
        rw [decide_eq_false (show ¬ (n ≤ tick ∧ tick ≤ o) from fun h => a1 h.1)]
        go_enter Try.func49, Try.ntmps49
        go_wp2_with fail
        go_ret
        exact ⟨rfl, B0⟩
    have g5 : (k == 5) = false := beq_eq_false_iff_ne.2 h5
    rw [if_neg h5]
    by_cases h6 : k = 6
    · subst h6
      rw [if_pos rfl, ← zall_not]
      clear ih hks hl3
      generalize (ks.any fun t => !p t) = b at *
      generalize ks.length = kl at *
      go_enter Try.func49, Try.ntmps49
      go_wp2_with fail
      refine hc1.mono ?_
      rintro e w5 ⟨rfl, b5⟩
      have B5 := B0.trans (b5.mono B0.size)
      clear hc1
      go_wp2_with fail
      go_ret
      exact ⟨rfl, B5⟩
    have g6 : (k == 6) = false := beq_eq_false_iff_ne.2 h6
    rw [if_neg h6]
    clear hc1
    by_cases h7 : k = 7
    · subst h7
      rw [if_pos rfl]
      have hc2 := zpcon_any S 58 (w.heap.size + 1) f _ p (enters_of Try.func58 (by kernel_rfl) rfl) (zpclo2 S f _ s0 s1 s2 s3 tick st p ih) ks _ _ ky (ZS.past hks B0)
      clear ih hks hl3
      generalize ks.any p = b at *
      generalize ks.length = kl at *
      go_enter Try.func49, Try.ntmps49
      go_wp2_with fail
      refine hc2.mono ?_
      rintro e w5 ⟨rfl, b5⟩
      have B5 := B0.trans (b5.mono B0.size)
      clear hc2
      cases b <;> (go_wp2_with fail; go_ret; exact ⟨rfl, B5⟩)
    have g7 : (k == 7) = false := beq_eq_false_iff_ne.2 h7
    rw [if_neg h7]
    by_cases h8 : k = 8
    · subst h8
      rw [if_pos rfl, ← zhead_any]
      by_cases hk0 : ks.length = 0
      · have hml : 0 ≤ ks.length := Nat.zero_le _
        obtain ⟨kx2, ky2, B2⟩ := ztwo_boxes w #[.int .i64 8, .string s, .int .i64 n, .int .i64 o, .slice A3 0 cap3] #[.string s0, .string s1, .string s2, .string s3, .int .i64 tick, .int .i64 st] 25 40
        have hc2 := zpcon_any S 58 (w.heap.size + 1) f _ p (enters_of Try.func58 (by kernel_rfl) rfl) (zpclo2 S f _ s0 s1 s2 s3 tick st p ih) (ks.take 0) _ _ ky2 ((ZS.past hks B2).take 0 hml)
        have tk : ks.take 0 = ks.take 1 := by rw [List.eq_nil_of_length_eq_zero hk0]; rfl
        rw [tk] at hc2
        rw [hk0] at kx ky hlen hl3 B0 ⊢
        clear tk hk0
        generalize (ks.take 1).any p = b at *
        clear ih hks hml
        go_enter Try.func49, Try.ntmps49
        go_wp2_with fail
        refine hc2.mono ?_
        rintro e w5 ⟨rfl, b5⟩
        have B5 := B2.trans (b5.mono B2.size)
        clear hc2
        cases b <;> (go_wp2_with fail; go_ret; exact ⟨rfl, B5⟩)
      by_cases hk1 : ks.length = 1
      · have hml : 1 ≤ ks.length := by omega
        obtain ⟨kx2, ky2, B2⟩ := ztwo_boxes w #[.int .i64 8, .string s, .int .i64 n, .int .i64 o, .slice A3 1 cap3] #[.string s0, .string s1, .string s2, .string s3, .int .i64 tick, .int .i64 st] 25 40
        have hc2 := zpcon_any S 58 (w.heap.size + 1) f _ p (enters_of Try.func58 (by kernel_rfl) rfl) (zpclo2 S f _ s0 s1 s2 s3 tick st p ih) (ks.take 1) _ _ ky2 ((ZS.past hks B2).take 1 hml)
        rw [hk1] at kx ky hlen hl3 B0 ⊢
        have gl : (1 : Int) ≤ (cap3 : Int) := by omega
        clear hk0 hk1
        generalize (ks.take 1).any p = b at *
        clear ih hks hml
        go_enter Try.func49, Try.ntmps49
        go_wp2_with fail
        refine hc2.mono ?_
        rintro e w5 ⟨rfl, b5⟩
        have B5 := B2.trans (b5.mono B2.size)
        clear hc2
        cases b <;> (go_wp2_with fail; go_ret; exact ⟨rfl, B5⟩)
      · have hml : 1 ≤ ks.length := by omega
        obtain ⟨kx2, ky2, B2⟩ := ztwo_boxes w #[.int .i64 8, .string s, .int .i64 n, .int .i64 o, .slice A3 1 cap3] #[.string s0, .string s1, .string s2, .string s3, .int .i64 tick, .int .i64 st] 25 40
        have hc2 := zpcon_any S 58 (w.heap.size + 1) f _ p (enters_of Try.func58 (by kernel_rfl) rfl) (zpclo2 S f _ s0 s1 s2 s3 tick st p ih) (ks.take 1) _ _ ky2 ((ZS.past hks B2).take 1 hml)
        have g0 : (1 : Int) ≤ (ks.length : Int) := by omega
        have g00 : (1 : Int) < (ks.length : Int) := by omega
        have gm : min (ks.length : Int) 1 = 1 := by omega
        have gl : (1 : Int) ≤ (cap3 : Int) := by omega
        generalize ks.length = kl at *
        clear hk0 hk1
        generalize (ks.take 1).any p = b at *
        clear ih hks hml
        go_enter Try.func49, Try.ntmps49
        go_wp2_with fail
        refine hc2.mono ?_
        rintro e w5 ⟨rfl, b5⟩
        have B5 := B2.trans (b5.mono B2.size)
        clear hc2
        cases b <;> (go_wp2_with fail; go_ret; exact ⟨rfl, B5⟩)
    have g8 : (k == 8) = false := beq_eq_false_iff_ne.2 h8
    rw [if_neg h8]
    clear ih
    go_enter Try.func49, Try.ntmps49
    go_wp2_with fail
    go_ret
    exact ⟨rfl, B0⟩
end
section
open Go.RowKit Go.ChangeShapes Go.WideShapes Go.Joins
def HVv (w : World) (S : Nat → Prop) (f : Nat) (v : Value) (t : Hl f) : Prop := ∃ c0 c1 c2 c3 c4 c5 c6, v = .agg #[c0, c1, c2, c3, c4, c5, c6] ∧ HX w S f t c0 c1 c2 c3 c4 c5 c6
def TellsH (S : Nat → Prop) (F gr ty f : Nat) (cs : Array Value) (q : Hl f → Bool) : Prop :=
  ∀ (t : Hl f) (v : Value) (W : World), KB W gr ty cs → HVv W S f v t → Calls Try.prog F #[v, .pointer (some ⟨gr, 0, none⟩)] W fun e w' => e = .returned (.bool (q t)) ∧ Below W.heap.size W w'
def idxH {f : Nat} (l : List (Hl f)) (q : Hl f → Bool) : Int := match l.findIdx? q with | some i => (i : Int) | none => -1
theorem idxH_none {f : Nat} {l : List (Hl f)} {q : Hl f → Bool} (h : ∀ (i : Nat) (hi : i < l.length), q l[i] = false) : idxH l q = -1 := by
  unfold idxH
  have : l.findIdx? q = none := by
    rw [List.findIdx?_eq_none_iff]
    intro r hr
    obtain ⟨i, hi, rfl⟩ := List.mem_iff_getElem.1 hr
    exact h i hi
  rw [this]
theorem idxH_some {f : Nat} {l : List (Hl f)} {q : Hl f → Bool} {j : Nat} (hj : j < l.length) (h1 : ∀ (i : Nat) (hi : i < l.length), i < j → q l[i] = false) (h2 : q l[j] = true) : idxH l q = (j : Int) := by
  unfold idxH
  have : l.findIdx? q = some j := by
    rw [List.findIdx?_eq_some_iff_getElem]
    exact ⟨hj, h2, fun i hi => by rw [h1 i (by omega) hi]; decide⟩
  rw [this]
theorem idxH_any {f : Nat} (l : List (Hl f)) (q : Hl f → Bool) : decide (0 ≤ idxH l q) = l.any q := by
  unfold idxH
  cases h : l.findIdx? q with
  | none =>
    rw [List.findIdx?_eq_none_iff] at h
    have : l.any q = false := by
      rw [List.any_eq_false]
      intro x hx
      rw [h x hx]; decide
    rw [this]; rfl
  | some i =>
    rw [List.findIdx?_eq_some_iff_getElem] at h
    obtain ⟨hi, h1, _⟩ := h
    have : l.any q = true := List.any_eq_true.2 ⟨_, List.getElem_mem hi, h1⟩
    rw [this]
    exact decide_eq_true (Int.natCast_nonneg i)
set_option maxHeartbeats 4000000 in
theorem hidx_any (S : Nat → Prop) (F gr ty f : Nat) (cs : Array Value) (q : Hl f → Bool) (hrun : ∀ (args : Array Value) (W : World), (callFunc F args).run Try.prog W = .ok (.enter F args) W) (hF : TellsH S F gr ty f cs q) (l : List (Hl f)) (v : Value) (w : World) (hg : KB w gr ty cs) (hv : HS w S f v l) :
    Calls Try.prog 44 #[v, .func (.func F) #[] #[.pointer (some ⟨gr, 0, none⟩)]] w fun e w' => e = .returned (.int .i64 (idxH l q)) ∧ Below w.heap.size w w' := by
  obtain ⟨A3, cap3, rfl, hl3, hm3, _⟩ := hv.form
  have hlen : l.length ≤ 9223372036854775807 := by unfold maxLen at hm3; omega
  have hgl := hg.lt
  have HCK : Hid (∀ W, Below w.heap.size w W → KB W gr ty cs) := fun W h => hg.below h hgl
  have HN : Hid ((∀ (i : Nat) (hi : i < l.length), q l[i] = false) → idxH l q = -1) := fun h => idxH_none h
  have HY : Hid (∀ (j : Nat) (hj : j < l.length), (∀ (i : Nat) (hi : i < l.length), i < j → q l[i] = false) → q l[j] = true → idxH l q = (j : Int)) := fun j hj h1 h2 => idxH_some hj h1 h2
  clear hg
  obtain ⟨D, hD⟩ : ∃ D : Ending → World → Prop, D = fun e w' => e = .returned (.int .i64 (idxH l q)) ∧ Below w.heap.size w w' := ⟨_, rfl⟩
  have HD : Hid (∀ (i : Int) W, idxH l q = i → Below w.heap.size w W → D (.returned (.int .i64 i)) W) := fun i W h hb => by rw [hD]; exact ⟨by rw [h], hb⟩
  rw [← hD]
  clear hD
  generalize idxH l q = r at *
  go_enter Try.func44, Try.ntmps44
  go_wp2_with fail
  go_loopw [8] (fun iv wr => ∃ j : Nat, j ≤ l.length ∧ iv = .int .i64 j ∧ Hid (∀ (i : Nat) (hi : i < l.length), i < j → q l[i] = false) ∧ Below w.heap.size w wr) (fun iv _ => l.length - (intOf iv).toNat)
  case atStart => exact ⟨0, by omega, rfl, fun i _ h => absurd h (Nat.not_lt_zero _), Below.refl _ _⟩
  case round =>
    obtain ⟨j, hj, rfl, hall, B⟩ := hrel
    by_cases hlt : j < l.length
    · have hltI : (j : Int) < (l.length : Int) := by omega
      obtain ⟨b, o, e0, e1, e2, e3, e4, e5, e6, rfl, hb, k0, k1, k2, k3, k4, k5, k6, hx⟩ := hold_atb hv rfl B j hlt
      have HY2 := Lib.hid (fun h => HY.out j hlt hall.out h)
      have HN2 : Hid (q l[j] = false → ∀ (i : Nat) (hi : i < l.length), i < j + 1 → q l[i] = false) := fun h i hi hij => by
        rcases Nat.lt_or_ge i j with h' | h'
        · exact hall.out i hi h'
        · obtain rfl : i = j := by omega
          exact h
      have hc := hF l[j] _ wr (HCK.out wr B) ⟨_, _, _, _, _, _, _, rfl, hx⟩
      obtain ⟨l0, i1, l2, i3, i4, X5, n5, z5, b6, rfl, rfl, rfl, rfl, rfl, rfl, rfl⟩ := hx.form
      unfold strV at *
      generalize (⟨l0.toArray⟩ : ByteArray) = s0 at *
      generalize (⟨l2.toArray⟩ : ByteArray) = s2 at *
      clear hx hv HN hall hF
      generalize q l[j] = p at *
      go_wp2_with fail
      refine hc.mono ?_
      rintro e w5 ⟨rfl, b5⟩
      have B5 := B.trans (b5.mono B.size)
      clear hc b5 B k0 k1 k2 k3 k4 k5 k6
      cases p with
      | false =>
        have hn := Lib.hid (HN2.out rfl)
        clear HN2 HY2
        go_wp2_with fail
        go_roundw
        case rel => exact ⟨j + 1, by omega, by go_num, hn, B5⟩
        case measure => simp [intOf]; omega
      | true =>
        have hr := HY2.out rfl
        have hd := HD.out (j : Int) w5 hr B5
        clear HN2 HY2 HY hr HD
        go_wp2_with fail
        first | exact hd | (go_ret; exact hd)
    · have hr : r = -1 := HN.out fun i hi => hall.out i hi (by omega)
      have hd := HD.out (-1) wr hr B
      clear HN HY hall hF hr HD
      go_wp2_with fail
      first | exact hd | (go_ret; exact hd)
theorem hcon_any (S : Nat → Prop) (F gr ty f : Nat) (cs : Array Value) (q : Hl f → Bool) (hrun : ∀ (args : Array Value) (W : World), (callFunc F args).run Try.prog W = .ok (.enter F args) W) (hF : TellsH S F gr ty f cs q) (l : List (Hl f)) (v : Value) (w : World) (hg : KB w gr ty cs) (hv : HS w S f v l) :
    Calls Try.prog 38 #[v, .func (.func F) #[] #[.pointer (some ⟨gr, 0, none⟩)]] w fun e w' => e = .returned (.bool (l.any q)) ∧ Below w.heap.size w w' := by
  have hc := hidx_any S F gr ty f cs q hrun hF l v w hg hv
  obtain ⟨A3, cap3, rfl, hl3, hm3, _⟩ := hv.form
  rw [← idxH_any l q]
  clear hv hF hg
  generalize idxH l q = i at *
  go_enter Try.func38, Try.ntmps38
  go_wp2_with fail
  refine hc.mono ?_
  rintro e w5 ⟨rfl, b5⟩
  clear hc hrun
  go_wp2_with fail
  go_ret
  exact ⟨rfl, b5⟩
set_option maxHeartbeats 2000000 in
theorem hclo1 (S : Nat → Prop) (f gr : Nat) (c : List UInt8) : TellsH S 45 gr 9 f #[strV c] (fun h => decide (h.id = c)) := by
  intro t v W hg hv
  obtain ⟨c0, c1, c2, c3, c4, c5, c6, rfl, hx⟩ := hv
  have h0 := hx.1
  obtain ⟨l0, i1, l2, i3, i4, X5, n5, z5, b6, r0, rfl, rfl, rfl, rfl, rfl, rfl⟩ := hx.form
  clear r0
  subst h0
  have B0 := (Below.refl W.heap.size W).alloc (Nat.le_refl _) (.cells #[strV t.id, .int .i64 i1, strV l2, .int .i64 i3, .int .i64 i4, .slice X5 n5 z5, .bool b6] 47)
  have hgl := hg.lt
  have q0 : W.cell? ⟨gr, 0, none⟩ = some (strV c) := hg.cell 0
  show Calls _ _ _ _ fun e w' => e = .returned (.bool (decide (t.id = c))) ∧ Below W.heap.size W w'
  obtain ⟨s, hs⟩ : ∃ s : ByteArray, s = ⟨t.id.toArray⟩ := ⟨_, rfl⟩
  obtain ⟨sc, hsc⟩ : ∃ s : ByteArray, s = ⟨c.toArray⟩ := ⟨_, rfl⟩
  have hv1 : strV t.id = .string s := by rw [hs]; rfl
  have hv2 : strV c = .string sc := by rw [hsc]; rfl
  rw [hv1] at B0 ⊢
  rw [hv2] at q0
  have gq := zeq_txt s sc _ _ hs hsc
  clear hs hsc hx hg hv1 hv2
  unfold strV at *
  generalize (⟨l2.toArray⟩ : ByteArray) = s2 at *
  generalize decide (t.id = c) = r at *
  go_enter Try.func45, Try.ntmps45
  go_wp2_with fail
  go_ret
  exact ⟨rfl, B0⟩
set_option maxHeartbeats 2000000 in
theorem hfirst_any (S : Nat → Prop) (f : Nat) (l : List (Hl f)) (c : List UInt8) (v : Value) (w : World) (hv : HS w S f v l) :
    Calls Try.prog 24 #[v, strV c] w fun e w' => e = .returned (.int .i64 (findH l c)) ∧ Below w.heap.size w w' := by
  have B0 := (Below.refl w.heap.size w).alloc (Nat.le_refl _) (.cells #[strV c] 9)
  have hc := hidx_any S 45 w.heap.size 9 f #[strV c] (fun h => decide (h.id = c)) (enters_of Try.func45 (by kernel_rfl) rfl) (hclo1 S f _ c) l v (w.alloc (.cells #[strV c] 9)) (KB.new _ _ _) (hv.below' B0)
  have hr : findH l c = idxH l (fun h => decide (h.id = c)) := rfl
  rw [hr]
  obtain ⟨A3, cap3, rfl, hl3, hm3, _⟩ := hv.form
  unfold strV at *
  clear hv hr
  generalize (⟨c.toArray⟩ : ByteArray) = s at *
  generalize idxH l _ = r at *
  go_enter Try.func24, Try.ntmps24
  go_wp2_with fail
  refine hc.mono ?_
  rintro e w5 ⟨rfl, b5⟩
  have B5 := B0.trans (b5.mono B0.size)
  clear hc
  go_wp2_with fail
  go_ret
  exact ⟨rfl, B5⟩
set_option maxHeartbeats 4000000 in
theorem hholds_any (S : Nat → Prop) (f : Nat) (t : Hl f) (rc : Rc) (v vr : Value) (hrc : RcV vr rc) (w : World) (hv : HVv w S f v t) :
    Calls Try.prog 36 #[v, vr] w fun e w' => e = .returned (.bool (holdsH rc t)) ∧ Below w.heap.size w w' := by
  have hm := zpmatch_any S rc vr hrc f t.sc
  obtain ⟨rid, rst, rfl⟩ := hrc
  obtain ⟨c0, c1, c2, c3, c4, c5, c6, rfl, hx⟩ := hv
  have h6 := hx.2.2.2
  have hz := hx.2.2.1
  obtain ⟨l0, i1, l2, i3, i4, X5, n5, z5, b6, rfl, rfl, rfl, rfl, rfl, rfl, r6⟩ := hx.form
  clear r6 hx
  subst h6
  obtain ⟨K0, R0, B0⟩ := ztwo_boxes w #[strV l0, .int .i64 i1, strV l2, .int .i64 i3, .int .i64 i4, .slice X5 n5 z5, .bool t.act] #[strV rid, strV rc.cse, strV rc.sub, strV rc.cls, .int .i64 rc.tick, .int .i64 rst] 47 40
  have hc := hm _ _ ⟨_, _, _, _, _, rfl, hz.below' B0⟩
  have hr : holdsH rc t = (t.act && matchS rc f t.sc) := rfl
  rw [hr]
  clear hm hz hr
  generalize matchS rc f t.sc = m at *
  generalize t.act = ac at *
  unfold strV at *
  generalize (⟨l0.toArray⟩ : ByteArray) = s0 at *
  generalize (⟨l2.toArray⟩ : ByteArray) = s2 at *
  generalize (⟨rid.toArray⟩ : ByteArray) = q0 at *
  generalize (⟨rc.cse.toArray⟩ : ByteArray) = q1 at *
  generalize (⟨rc.sub.toArray⟩ : ByteArray) = q2 at *
  generalize (⟨rc.cls.toArray⟩ : ByteArray) = q3 at *
  generalize rc.tick = tk at *
  have HC := Lib.hid hc
  clear hc K0 R0
  cases ac with
  | false =>
    clear HC
    go_enter Try.func36, Try.ntmps36
    go_wp2_with fail
    go_ret
    exact ⟨by simp, B0⟩
  | true =>
    go_enter Try.func36, Try.ntmps36
    go_wp2_with fail
    refine HC.out.mono ?_
    rintro e w5 ⟨rfl, b5⟩
    have B5 := B0.trans (b5.mono B0.size)
    clear HC
    go_wp2_with fail
    go_ret
    exact ⟨by simp, B5⟩
set_option maxHeartbeats 2000000 in
theorem hclo2 (S : Nat → Prop) (f gr : Nat) (rc : Rc) (rid : List UInt8) (rst : Int) : TellsH S 39 gr 40 f #[strV rid, strV rc.cse, strV rc.sub, strV rc.cls, .int .i64 rc.tick, .int .i64 rst] (holdsH rc) := by
  intro t v W hg hv
  obtain ⟨c0, c1, c2, c3, c4, c5, c6, rfl, hx⟩ := hv
  have hgl := hg.lt
  obtain ⟨l0, i1, l2, i3, i4, X5, n5, z5, b6, rfl, rfl, rfl, rfl, rfl, rfl, rfl⟩ := hx.form
  have B0 := (Below.refl W.heap.size W).alloc (Nat.le_refl _) (.cells #[strV l0, .int .i64 i1, strV l2, .int .i64 i3, .int .i64 i4, .slice X5 n5 z5, .bool b6] 47)
  have hc := Lib.hid (hholds_any S f t rc _ _ ⟨rid, rst, rfl⟩ _ ⟨_, _, _, _, _, _, _, rfl, hx.below' B0⟩)
  have c0 : W.cell? ⟨gr, 0, none⟩ = some (strV rid) := hg.cell 0
  have c1 : W.cell? ⟨gr, 1, none⟩ = some (strV rc.cse) := hg.cell 1
  have c2 : W.cell? ⟨gr, 2, none⟩ = some (strV rc.sub) := hg.cell 2
  have c3 : W.cell? ⟨gr, 3, none⟩ = some (strV rc.cls) := hg.cell 3
  have c4 : W.cell? ⟨gr, 4, none⟩ = some (.int .i64 rc.tick) := hg.cell 4
  have c5 : W.cell? ⟨gr, 5, none⟩ = some (.int .i64 rst) := hg.cell 5
  have hc' := hc.out
  clear hg hx hc
  unfold strV at *
  generalize (⟨l0.toArray⟩ : ByteArray) = s0 at *
  generalize (⟨l2.toArray⟩ : ByteArray) = s2 at *
  generalize (⟨rid.toArray⟩ : ByteArray) = q0 at *
  generalize (⟨rc.cse.toArray⟩ : ByteArray) = q1 at *
  generalize (⟨rc.sub.toArray⟩ : ByteArray) = q2 at *
  generalize (⟨rc.cls.toArray⟩ : ByteArray) = q3 at *
  generalize rc.tick = tk at *
  generalize holdsH rc t = r at *
  have HC := Lib.hid hc'
  clear hc'
  go_enter Try.func39, Try.ntmps39
  go_wp2_with fail
  refine HC.out.mono ?_
  rintro e w5 ⟨rfl, b5⟩
  have B5 := B0.trans (b5.mono B0.size)
  clear HC c0 c1 c2 c3 c4 c5
  go_wp2_with fail
  go_ret
  exact ⟨rfl, B5⟩
set_option maxHeartbeats 2000000 in
theorem hheld_any (S : Nat → Prop) (f : Nat) (l : List (Hl f)) (rc : Rc) (v vr : Value) (hrc : RcV vr rc) (w : World) (hv : HS w S f v l) :
    Calls Try.prog 20 #[v, vr] w fun e w' => e = .returned (.bool (heldH rc l)) ∧ Below w.heap.size w w' := by
  obtain ⟨rid, rst, rfl⟩ := hrc
  have B0 := (Below.refl w.heap.size w).alloc (Nat.le_refl _) (.cells #[strV rid, strV rc.cse, strV rc.sub, strV rc.cls, .int .i64 rc.tick, .int .i64 rst] 40)
  have hc := hcon_any S 39 w.heap.size 40 f _ (holdsH rc) (enters_of Try.func39 (by kernel_rfl) rfl) (hclo2 S f _ rc rid rst) l v (w.alloc (.cells #[strV rid, strV rc.cse, strV rc.sub, strV rc.cls, .int .i64 rc.tick, .int .i64 rst] 40)) (KB.new _ _ _) (hv.below' B0)
  have hr : heldH rc l = l.any (holdsH rc) := rfl
  rw [hr]
  obtain ⟨A3, cap3, rfl, hl3, hm3, _⟩ := hv.form
  clear hv hr
  generalize l.any (holdsH rc) = r at *
  unfold strV at *
  generalize (⟨rid.toArray⟩ : ByteArray) = q0 at *
  generalize (⟨rc.cse.toArray⟩ : ByteArray) = q1 at *
  generalize (⟨rc.sub.toArray⟩ : ByteArray) = q2 at *
  generalize (⟨rc.cls.toArray⟩ : ByteArray) = q3 at *
  generalize rc.tick = tk at *
  go_enter Try.func20, Try.ntmps20
  go_wp2_with fail
  refine hc.mono ?_
  rintro e w5 ⟨rfl, b5⟩
  have B5 := B0.trans (b5.mono B0.size)
  clear hc
  go_wp2_with fail
  go_ret
  exact ⟨rfl, B5⟩
end
section
open Go.RowKit
def signs : ByteArray := { data := #[46, 45, 95] }
theorem signs_size : signs.size = 3 := rfl
def idxS (r : Int) : Int := if r = 46 then 0 else if r = 45 then 1 else if r = 95 then 2 else -1
theorem idx_fin : ∀ r : Fin 128, Lib.indexByte signs.data.toList ((r.val : Int)).toNat.toUInt8 = idxS (r.val : Int) := by decide +kernel
theorem idx_small (r : Int) (h0 : 0 ≤ r) (h1 : r < 128) : Lib.indexByte signs.data.toList r.toNat.toUInt8 = idxS r := by
  have := idx_fin ⟨r.toNat, by omega⟩
  simp only [Int.toNat_natCast] at this
  have e : ((r.toNat : Nat) : Int) = r := by omega
  rw [e] at this
  exact this
theorem idx_big (r : Int) (h1 : 128 ≤ r) : idxS r = -1 := by
  unfold idxS
  rw [if_neg (by omega), if_neg (by omega), if_neg (by omega)]
theorem signs_low : ∀ b ∈ signs.data.toList, b.toNat < 128 := by decide
theorem signs_dec : ∀ p : Fin 3, Utf8.decode signs p.val = ((signs.data.toList.getD p.val 0).toNat, 1) := by decide +kernel
theorem signs_not : ∀ p : Fin 3, ¬ (((signs.data.toList.getD p.val 0).toNat : Nat) : Int) = 65533 := by decide
theorem byte_index (s : ByteArray) (c : Int) (w : World) :
    Calls Try.prog 59 #[.string s, .int .u8 c] w fun e w' => e = .returned (.int .i64 (Lib.indexByte s.data.toList c.toNat.toUInt8)) ∧ w' = w :=
  Any.strings_IndexByte Try.laysIndexByte s c w
theorem valid_rune (r : Int) (w : World) :
    Calls Try.prog 60 #[.int .i32 r] w fun e w' => e = .returned (.bool (Lib.validRune r)) ∧ w' = w :=
  Any.utf8_ValidRune Try.laysValidRune r w
theorem index_low (r : Int) (h0 : 0 ≤ r) (h1 : r < 128) (w : World) :
    Calls Try.prog 51 #[.string signs, .int .i32 r] w fun e w' => e = .returned (.int .i64 (idxS r)) ∧ Below w.heap.size w w' := by
  have hb := byte_index signs r w
  rw [idx_small r h0 h1] at hb
  have hw : IntKind.u8.wrap r = r := by rw [IntKind.wrap_u8]; omega
  go_enter Try.func51, Try.ntmps51
  go_wp2_with (go_at_call 59; refine hb.mono ?_; rintro e w' ⟨rfl, rfl⟩)
  go_ret
  exact ⟨rfl, Below.refl _ _⟩
set_option maxHeartbeats 1000000 in
theorem index_error (w : World) :
    Calls Try.prog 51 #[.string signs, .int .i32 65533] w fun e w' => e = .returned (.int .i64 (-1)) ∧ Below w.heap.size w w' := by
  go_enter Try.func51, Try.ntmps51
  go_wp2
  go_loopg [] 4 (fun gf wx => ∃ pos : Nat, pos ≤ 3 ∧ wx.heap[w.heap.size]? = some (.stringIter signs pos) ∧ Below w.heap.size w wx ∧ gf + pos = 4)
  case atStart => exact ⟨0, by omega, World.iter_heap w signs 0, (Below.refl _ w).alloc (Nat.le_refl _) _, rfl⟩
  case round =>
    obtain ⟨pos, hp3, hit, hbw, hfu⟩ := hrel
    by_cases hps : pos < 3
    · have hnx : ∀ ty, (Instr.next (.pointer (some ⟨w.heap.size, 0, none⟩)) true ty).run Try.prog wr = _ := fun ty => Lib.run_next_any_at wr w.heap.size signs pos ty hit hps
      have hd := signs_dec ⟨pos, hps⟩
      have hnot := signs_not ⟨pos, hps⟩
      simp only at hd hnot
      rw [hd] at hnx
      obtain ⟨R, hR⟩ : ∃ R : Int, (((signs.data.toList.getD pos 0).toNat : Nat) : Int) = R := ⟨_, rfl⟩
      simp only [hR] at hnx hnot
      have hit2 := Lib.iterAt_heap wr w.heap.size signs pos (pos + 1) hit
      have hbw2 := Lib.below_iterAt hbw (k := w.heap.size) (Nat.le_refl _) signs (pos + 1)
      obtain ⟨W, hWd⟩ : ∃ W, wr.iterAt w.heap.size signs (pos + 1) = W := ⟨_, rfl⟩
      rw [hWd] at hnx hit2 hbw2
      clear hd hR hWd
      go_wp2
      go_roundg (gk - 1)
      case measure => omega
      case rel => exact ⟨pos + 1, by omega, hit2, hbw2, by omega⟩
    · have hnx : ∀ ty, (Instr.next (.pointer (some ⟨w.heap.size, 0, none⟩)) true ty).run Try.prog wr = _ := fun ty => Lib.run_next_end_at wr w.heap.size signs pos ty hit hps
      go_wp2
      go_ret
      exact ⟨rfl, hbw⟩
theorem index_bad (r : Int) (h0 : 128 ≤ r) (h1 : ¬ r = 65533) (h2 : Lib.validRune r = false) (w : World) :
    Calls Try.prog 51 #[.string signs, .int .i32 r] w fun e w' => e = .returned (.int .i64 (-1)) ∧ Below w.heap.size w w' := by
  have hb := valid_rune r w
  rw [h2] at hb
  have h3 : ¬ r < 128 := by omega
  have h4 : 0 ≤ r := by omega
  clear h0
  go_enter Try.func51, Try.ntmps51
  go_wp2_with (go_at_call 60; refine hb.mono ?_; rintro e w' ⟨rfl, rfl⟩)
  go_ret
  exact ⟨rfl, Below.refl _ _⟩
theorem none_index (a e : Nat) (y : Int) (h0 : 128 ≤ y) (h1 : y ≤ 255) (w : World) :
    Calls Try.prog 59 #[.string (signs.extract a e), .int .u8 y] w fun e w' => e = .returned (.int .i64 (-1)) ∧ w' = w := by
  have hb := byte_index (signs.extract a e) y w
  rw [← Lib.firstIdx_eq, firstIdx_ascii signs a e _ signs_low (by simp; omega)] at hb
  exact hb
theorem last_byte {rs : ByteArray} {K : Nat} (hK : rs.size = K + 1) (h : ∀ h : rs.size - 1 < rs.size, 128 ≤ (rs[rs.size - 1]'h).toNat) :
    ∃ y : Int, 128 ≤ y ∧ y ≤ 255 ∧ ∀ W : World, (Instr.index 9 (.string rs) (.int .i64 (K : Int))).run Try.prog W = .ok (.int .u8 y) W := by
  have hlt : rs.size - 1 < rs.size := by omega
  have hy := h hlt
  have e : rs.size - 1 = K := by omega
  simp only [e] at hy
  have := (rs[K]'(by omega)).toNat_lt
  refine ⟨((rs[K]'(by omega)).toNat : Int), by omega, by omega, fun W => ?_⟩
  rw [run_index_string W 9 rs .i64 (K : Int) Try.underlying9, dif_pos ⟨by omega, by omega⟩]
  simp only [Int.toNat_natCast]
theorem sign_at (K : Nat) (hK : K < 3) : ∀ W : World, (Instr.index 9 (.string signs) (.int .i64 (K : Int))).run Try.prog W = .ok (.int .u8 ((signs.data.toList.getD K 0).toNat : Int)) W := fun W => by
  rw [run_index_string W 9 signs .i64 (K : Int) Try.underlying9, dif_pos ⟨by omega, by rw [signs_size]; omega⟩]
  match K, hK with
  | 0, _ => rfl
  | 1, _ => rfl
  | 2, _ => rfl
theorem sign_from (K : Nat) (hK : K ≤ 3) : ∀ W : World, (Instr.slice 9 (.string signs) (some (.int .i64 (K : Int))) none none).run Try.prog W = .ok (.string (signs.extract K signs.size)) W := fun W => by
  rw [run_slice_string_from_if W 9 signs .i64 (K : Int) Try.underlying9, if_pos ⟨by omega, by rw [signs_size]; omega⟩]
  simp only [Int.toNat_natCast]
set_option maxHeartbeats 2000000 in
theorem index_high (r : Int) (h0 : 128 ≤ r) (h1 : ¬ r = 65533) (h2 : Lib.validRune r = true) (w : World) :
    Calls Try.prog 51 #[.string signs, .int .i32 r] w fun e w' => e = .returned (.int .i64 (-1)) ∧ Below w.heap.size w w' := by
  have hb := valid_rune r w
  have hv : Utf8.valid r = true := by
    unfold Lib.validRune at h2
    have := of_decide_eq_true h2
    unfold Utf8.valid
    rcases this with h | h <;> simp <;> omega
  rw [h2] at hb
  clear h2
  obtain ⟨f1, f2, f3⟩ := encode_facts r hv h0
  have hc := run_convert_int_string (P := Try.prog) w 21 9 .i32 r (by rw [Try.underlying21]; rfl) Try.underlying9
  obtain ⟨rs, hrs⟩ : ∃ s, Utf8.encode r = s := ⟨_, rfl⟩
  rw [hrs] at f1 f2 f3 hc
  have h3 : ¬ r < 128 := by omega
  have h4 : 0 ≤ r := by omega
  clear h0 hv hrs
  rcases (show rs.size = 1 + 1 ∨ rs.size = 2 + 1 ∨ rs.size = 3 + 1 by omega) with hK | hK | hK
  · obtain ⟨y, y0, y1, hy⟩ := last_byte hK f3
    have hsg := sign_at 1 (by omega)
    have hwr : IntKind.i64.wrap 2 = 2 := by decide
    have hsl : ∀ W : World, (Instr.slice 9 (.string signs) (some (.int .i64 2)) none none).run Try.prog W = .ok (.string (signs.extract 2 signs.size)) W := sign_from 2 (by omega)
    have hz : (rs.size : Int) = 2 := by omega
    have hn := none_index 2 signs.size y y0 y1
    have hzs : (signs.size : Int) = 3 := rfl
    have hne : ((45 : Int) != y) = true := by simp; omega
    change ∀ W : World, (Instr.index 9 (.string rs) (.int .i64 1)).run Try.prog W = .ok (.int .u8 y) W at hy
    change ∀ W : World, (Instr.index 9 (.string signs) (.int .i64 1)).run Try.prog W = .ok (.int .u8 45) W at hsg
    clear f1 f2 f3 hK y0 y1
    go_enter Try.func51, Try.ntmps51
    go_wp2_with (go_at_call 60; refine hb.mono ?_; rintro e w' ⟨rfl, rfl⟩)
    refine wp_scope_straight ?_
    go_wp2
    go_loop [9] (fun i => i = .int .i64 1) (fun i => 0)
    case atStart => rfl
    case round =>
      go_wp2
      refine wp_scope_straight ?_
      go_wp2
      go_quiet (fail)
      have bq := Below_drawn (Below.refl w'.heap.size w') nq
      generalize w'.drewN nq = w2 at bq ⊢
      go_wp2
      go_quiet (first | (go_at_call 59; exact Calls.quiet_of_same (hn _)) | fail)
      have bq2 := Below_drawn bq nq
      go_wp2
      rw [Exit.noGoto_ret]
      go_wp2
      rw [Exit.noGoto_ret]
      go_wp2
      go_ret
      exact ⟨rfl, bq2⟩
  · obtain ⟨y, y0, y1, hy⟩ := last_byte hK f3
    have hsg := sign_at 2 (by omega)
    have hwr : IntKind.i64.wrap 3 = 3 := by decide
    have hsl : ∀ W : World, (Instr.slice 9 (.string signs) (some (.int .i64 3)) none none).run Try.prog W = .ok (.string (signs.extract 3 signs.size)) W := sign_from 3 (by omega)
    have hz : (rs.size : Int) = 3 := by omega
    have hn := none_index 3 signs.size y y0 y1
    have hzs : (signs.size : Int) = 3 := rfl
    have hne : ((95 : Int) != y) = true := by simp; omega
    change ∀ W : World, (Instr.index 9 (.string rs) (.int .i64 2)).run Try.prog W = .ok (.int .u8 y) W at hy
    change ∀ W : World, (Instr.index 9 (.string signs) (.int .i64 2)).run Try.prog W = .ok (.int .u8 95) W at hsg
    clear f1 f2 f3 hK y0 y1
    go_enter Try.func51, Try.ntmps51
    go_wp2_with (go_at_call 60; refine hb.mono ?_; rintro e w' ⟨rfl, rfl⟩)
    refine wp_scope_straight ?_
    go_wp2
    go_loop [9] (fun i => i = .int .i64 2) (fun i => 0)
    case atStart => rfl
    case round =>
      go_wp2
      refine wp_scope_straight ?_
      go_wp2
      go_quiet (fail)
      have bq := Below_drawn (Below.refl w'.heap.size w') nq
      generalize w'.drewN nq = w2 at bq ⊢
      go_wp2
      go_quiet (first | (go_at_call 59; exact Calls.quiet_of_same (hn _)) | fail)
      have bq2 := Below_drawn bq nq
      go_wp2
      rw [Exit.noGoto_ret]
      go_wp2
      rw [Exit.noGoto_ret]
      go_wp2
      go_ret
      exact ⟨rfl, bq2⟩
  · have hz : (rs.size : Int) = 4 := by omega
    have hzs : (signs.size : Int) = 3 := rfl
    clear f1 f2 f3 hK
    go_enter Try.func51, Try.ntmps51
    go_wp2_with (go_at_call 60; refine hb.mono ?_; rintro e w' ⟨rfl, rfl⟩)
    refine wp_scope_straight ?_
    go_wp2
    go_loop [9] (fun i => i = .int .i64 3) (fun i => 0)
    case atStart => rfl
    case round =>
      go_wp2
      go_ret
      exact ⟨rfl, Below.refl _ _⟩
theorem index_rune (r : Int) (h0 : 0 ≤ r) (w : World) :
    Calls Try.prog 51 #[.string signs, .int .i32 r] w fun e w' => e = .returned (.int .i64 (idxS r)) ∧ Below w.heap.size w w' := by
  by_cases h1 : r < 128
  · exact index_low r h0 h1 w
  · rw [idx_big r (by omega)]
    by_cases h2 : r = 65533
    · subst h2
      exact index_error w
    · cases h3 : Lib.validRune r with
      | true => exact index_high r (by omega) h2 h3 w
      | false => exact index_bad r (by omega) h2 h3 w
theorem contains_rune (r : Int) (h0 : 0 ≤ r) (w : World) :
    Calls Try.prog 41 #[.string signs, .int .i32 r] w fun e w' => e = .returned (.bool (decide (0 ≤ idxS r))) ∧ Below w.heap.size w w' := by
  have hc := index_rune r h0 w
  generalize idxS r = z at hc ⊢
  go_enter Try.func41, Try.ntmps41
  go_wp2_with (go_at_call 51; refine hc.mono ?_; rintro e w' ⟨rfl, b⟩)
  go_ret
  exact ⟨rfl, b⟩
end
end Go.Proofs.Ytdkmjdcddldjgaa
