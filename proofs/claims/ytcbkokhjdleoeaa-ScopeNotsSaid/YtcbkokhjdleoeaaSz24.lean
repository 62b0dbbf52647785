/-
  SdC: The program's Match (layer 20), over the loaded program: its contract. No condition.
  ScT: The law's num and not (layer 20), over the loaded program: each one's contract. No condition.
  SdR: live: the page's example (layer 20), over the loaded program. No condition.
-/
import Derived.Test.YtcbkokhjdleoeaaSz23
import Derived.Shelf.Abstract
import Derived.Test.YtcbkokhjdleoeaaSz09
import Derived.Test.YtcbkokhjdleoeaaSz22
import Derived.Test.YtcbkokhjdleoeaaSz06
set_option linter.unusedVariables false
set_option maxRecDepth 100000
namespace Go.Proofs.Ytcbkokhjdleoeaa
section
open Go.RowKit
def MatchIh (S : Nat → Prop) (f : Nat) (vr : Value) (p : Sc f → Bool) : Prop :=
  ∀ (x : Sc f) (v : Value) (w : World), ZV w S f v x → Calls Try.prog 19 #[v, vr] w fun e w' => e = .returned (.bool (p x)) ∧ Below w.heap.size w w'
set_option maxHeartbeats 2000000 in
theorem zpclo1 (S : Nat → Prop) (f gr : Nat) (s0 s1 s2 s3 : ByteArray) (tick st : Int) (p : Sc f → Bool) (ih : MatchIh S f (.agg #[.string s0, .string s1, .string s2, .string s3, .int .i64 tick, .int .i64 st]) p) :
    TellsZ S 35 gr f #[.string s0, .string s1, .string s2, .string s3, .int .i64 tick, .int .i64 st] (fun t => !p t) := by
  intro t v W hg hv
  have hgl := hg.lt
  have c0 : W.cell? ⟨gr, 0, none⟩ = some (.string s0) := hg.cell 0
  have c1 : W.cell? ⟨gr, 1, none⟩ = some (.string s1) := hg.cell 1
  have c2 : W.cell? ⟨gr, 2, none⟩ = some (.string s2) := hg.cell 2
  have c3 : W.cell? ⟨gr, 3, none⟩ = some (.string s3) := hg.cell 3
  have c4 : W.cell? ⟨gr, 4, none⟩ = some (.int .i64 tick) := hg.cell 4
  have c5 : W.cell? ⟨gr, 5, none⟩ = some (.int .i64 st) := hg.cell 5
  obtain ⟨i0, l1, i2, i3, X4, n4, z4, rfl⟩ := hv.form
  have hc := ih t _ _ (hv.alloc (.cells #[.int .i64 i0, strV l1, .int .i64 i2, .int .i64 i3, .slice X4 n4 z4] 24))
  show Calls _ _ _ _ fun e w' => e = .returned (.bool (!p t)) ∧ Below W.heap.size W w'
  have B0 := (Below.refl W.heap.size W).alloc (Nat.le_refl _) (.cells #[.int .i64 i0, strV l1, .int .i64 i2, .int .i64 i3, .slice X4 n4 z4] 24)
  unfold strV at *
  generalize (⟨l1.toArray⟩ : ByteArray) = s at *
  generalize p t = b at *
  clear hv hg ih
  go_enter Try.func35, Try.ntmps35
  go_wp2_with fail
  refine hc.mono ?_
  rintro e w5 ⟨rfl, b5⟩
  have B5 := B0.trans (b5.mono B0.size)
  clear hc
  go_wp2_with fail
  go_ret
  exact ⟨rfl, B5⟩
set_option maxHeartbeats 2000000 in
theorem zpclo2 (S : Nat → Prop) (f gr : Nat) (s0 s1 s2 s3 : ByteArray) (tick st : Int) (p : Sc f → Bool) (ih : MatchIh S f (.agg #[.string s0, .string s1, .string s2, .string s3, .int .i64 tick, .int .i64 st]) p) :
    TellsZ S 36 gr f #[.string s0, .string s1, .string s2, .string s3, .int .i64 tick, .int .i64 st] p := by
  intro t v W hg hv
  have hgl := hg.lt
  have c0 : W.cell? ⟨gr, 0, none⟩ = some (.string s0) := hg.cell 0
  have c1 : W.cell? ⟨gr, 1, none⟩ = some (.string s1) := hg.cell 1
  have c2 : W.cell? ⟨gr, 2, none⟩ = some (.string s2) := hg.cell 2
  have c3 : W.cell? ⟨gr, 3, none⟩ = some (.string s3) := hg.cell 3
  have c4 : W.cell? ⟨gr, 4, none⟩ = some (.int .i64 tick) := hg.cell 4
  have c5 : W.cell? ⟨gr, 5, none⟩ = some (.int .i64 st) := hg.cell 5
  obtain ⟨i0, l1, i2, i3, X4, n4, z4, rfl⟩ := hv.form
  have hc := ih t _ _ (hv.alloc (.cells #[.int .i64 i0, strV l1, .int .i64 i2, .int .i64 i3, .slice X4 n4 z4] 24))
  have B0 := (Below.refl W.heap.size W).alloc (Nat.le_refl _) (.cells #[.int .i64 i0, strV l1, .int .i64 i2, .int .i64 i3, .slice X4 n4 z4] 24)
  unfold strV at *
  generalize (⟨l1.toArray⟩ : ByteArray) = s at *
  generalize p t = b at *
  clear hv hg ih
  go_enter Try.func36, Try.ntmps36
  go_wp2_with fail
  refine hc.mono ?_
  rintro e w5 ⟨rfl, b5⟩
  have B5 := B0.trans (b5.mono B0.size)
  clear hc
  go_wp2_with fail
  go_ret
  exact ⟨rfl, B5⟩
theorem zall_not {α : Type} (p : α → Bool) (l : List α) : (!(l.any fun t => !p t)) = l.all p := by
  rw [List.any_eq_not_all_not, Bool.not_not]
  congr 1
  funext x
  simp
theorem zhead_any {α : Type} (p : α → Bool) : ∀ (l : List α), ((l.take 1).any p) = (l.head?.map p).getD false
  | [] => rfl
  | a :: l => by simp
set_option maxHeartbeats 8000000 in
theorem zpmatch_any (S : Nat → Prop) (rc : Rc) (vr : Value) (hrc : RcV vr rc) : ∀ (f : Nat), MatchIh S f vr (matchS rc f) := by
  obtain ⟨id, st, rfl⟩ := hrc
  intro f
  induction f with
  | zero => intro x; exact nomatch x
  | succ f ih =>
    intro x v w hx
    obtain ⟨c0, c1, c2, c3, c4, rfl, rfl, _, rfl, _, rfl, _, rfl, _, hks⟩ := hx
    obtain ⟨A3, cap3, e3, hl3, hm3⟩ := hks.form
    obtain ⟨k, d, n, o, ks⟩ := (x : Ns (Sc f))
    simp only at e3 hks hl3
    subst e3
    have hlen : ks.length ≤ 9223372036854775807 := by unfold maxLen at hm3; omega
    have hcapI : (cap3 : Int) ≤ 9223372036854775807 := by unfold maxLen at hm3; omega
    have hr := match_eq rc f (⟨k, d, n, o, ks⟩ : Ns (Sc f))
    rw [hr]
    clear hr
    dsimp only
    obtain ⟨cse, sub, cls, tick⟩ := rc
    dsimp only at ih ⊢
    generalize hp : matchS (⟨cse, sub, cls, tick⟩ : Rc) f = p at *
    clear hp
    unfold strV at *
    obtain ⟨s, hs⟩ : ∃ s : ByteArray, s = ⟨d.toArray⟩ := ⟨_, rfl⟩
    obtain ⟨s1, hs1⟩ : ∃ s : ByteArray, s = ⟨cse.toArray⟩ := ⟨_, rfl⟩
    obtain ⟨s2, hs2⟩ : ∃ s : ByteArray, s = ⟨sub.toArray⟩ := ⟨_, rfl⟩
    obtain ⟨s3, hs3⟩ : ∃ s : ByteArray, s = ⟨cls.toArray⟩ := ⟨_, rfl⟩
    obtain ⟨s0, hs0⟩ : ∃ s : ByteArray, s = ⟨id.toArray⟩ := ⟨_, rfl⟩
    rw [← hs1, ← hs2, ← hs3, ← hs0] at ih
    rw [← hs, ← hs1, ← hs2, ← hs3, ← hs0]
    have q1 := zeq_txt s1 s cse d hs1 hs
    have q2 := zeq_txt s2 s sub d hs2 hs
    have q3 := zeq_txt s3 s cls d hs3 hs
    clear hs hs1 hs2 hs3 hs0
    generalize decide (cse = d) = b1 at *
    generalize decide (sub = d) = b2 at *
    generalize decide (cls = d) = b3 at *
    obtain ⟨kx, ky, B0⟩ := ztwo_boxes w #[.int .i64 k, .string s, .int .i64 n, .int .i64 o, .slice A3 ks.length cap3] #[.string s0, .string s1, .string s2, .string s3, .int .i64 tick, .int .i64 st] 24 43
    have hc1 := zpcon_any S 35 (w.heap.size + 1) f _ (fun t => !p t) (enters_of Try.func35 (by kernel_rfl) rfl) (zpclo1 S f _ s0 s1 s2 s3 tick st p ih) ks _ _ ky (ZS.past hks B0)
    by_cases h1 : k = 1
    · subst h1
      rw [if_pos rfl]
      clear q1 q2 q3 ih hc1
      go_enter Try.func19, Try.ntmps19
      go_wp2_with fail
      go_ret
      exact ⟨rfl, B0⟩
    have g1 : (k == 1) = false := beq_eq_false_iff_ne.2 h1
    rw [if_neg h1]
    by_cases h2 : k = 2
    · subst h2
      rw [if_pos rfl]
      clear q2 q3 ih hc1
      go_enter Try.func19, Try.ntmps19
      go_wp2_with fail
      go_ret
      exact ⟨by first | rfl | simp [q1], B0⟩
    have g2 : (k == 2) = false := beq_eq_false_iff_ne.2 h2
    rw [if_neg h2]
    by_cases h3 : k = 3
    · subst h3
      rw [if_pos rfl]
      clear q1 q3 ih hc1
      go_enter Try.func19, Try.ntmps19
      go_wp2_with fail
      go_ret
      exact ⟨by first | rfl | simp [q2], B0⟩
    have g3 : (k == 3) = false := beq_eq_false_iff_ne.2 h3
    rw [if_neg h3]
    by_cases h4 : k = 4
    · subst h4
      rw [if_pos rfl]
      clear q1 q2 ih hc1
      go_enter Try.func19, Try.ntmps19
      go_wp2_with fail
      go_ret
      exact ⟨by first | rfl | simp [q3], B0⟩
    have g4 : (k == 4) = false := beq_eq_false_iff_ne.2 h4
    rw [if_neg h4]
    clear q1 q2 q3
    by_cases h5 : k = 5
    · subst h5
      rw [if_pos rfl]
      clear ih hc1
      by_cases a1 : n ≤ tick
      · have E1 : decide (n ≤ tick) = true := decide_eq_true a1
        by_cases a2 : tick ≤ o
        · have E2 : decide (tick ≤ o) = true := decide_eq_true a2
          rw [decide_eq_true (show n ≤ tick ∧ tick ≤ o from ⟨a1, a2⟩)]
          go_enter Try.func19, Try.ntmps19
          go_wp2_with fail
          go_ret
          exact ⟨rfl, B0⟩
        · have E2 : decide (tick ≤ o) = false := decide_eq_false a2
          rw [decide_eq_false (show ¬ (n ≤ tick ∧ tick ≤ o) from fun h => a2 h.2)]
          go_enter Try.func19, Try.ntmps19
          go_wp2_with fail
          go_ret
          exact ⟨rfl, B0⟩
      · have E1 : decide (n ≤ tick) = false := decide_eq_false a1
        rw [decide_eq_false (show ¬ (n ≤ tick ∧ tick ≤ o) from fun h => a1 h.1)]
        go_enter Try.func19, Try.ntmps19
        go_wp2_with fail
        go_ret
        exact ⟨rfl, B0⟩
    have g5 : (k == 5) = false := beq_eq_false_iff_ne.2 h5
    rw [if_neg h5]
    by_cases h6 : k = 6
    · subst h6
      rw [if_pos rfl, ← zall_not]
      clear ih hks hl3
      generalize (ks.any fun t => !p t) = b at *
      generalize ks.length = kl at *
      go_enter Try.func19, Try.ntmps19
      go_wp2_with fail
      refine hc1.mono ?_
      rintro e w5 ⟨rfl, b5⟩
      have B5 := B0.trans (b5.mono B0.size)
      clear hc1
      go_wp2_with fail
      go_ret
      exact ⟨rfl, B5⟩
    have g6 : (k == 6) = false := beq_eq_false_iff_ne.2 h6
    rw [if_neg h6]
    clear hc1
    by_cases h7 : k = 7
    · subst h7
      rw [if_pos rfl]
      have hc2 := zpcon_any S 36 (w.heap.size + 1) f _ p (enters_of Try.func36 (by kernel_rfl) rfl) (zpclo2 S f _ s0 s1 s2 s3 tick st p ih) ks _ _ ky (ZS.past hks B0)
      clear ih hks hl3
      generalize ks.any p = b at *
      generalize ks.length = kl at *
      go_enter Try.func19, Try.ntmps19
      go_wp2_with fail
      refine hc2.mono ?_
      rintro e w5 ⟨rfl, b5⟩
      have B5 := B0.trans (b5.mono B0.size)
      clear hc2
      cases b <;> (go_wp2_with fail; go_ret; exact ⟨rfl, B5⟩)
    have g7 : (k == 7) = false := beq_eq_false_iff_ne.2 h7
    rw [if_neg h7]
    by_cases h8 : k = 8
    · subst h8
      rw [if_pos rfl, ← zhead_any]
      by_cases hk0 : ks.length = 0
      · have hml : 0 ≤ ks.length := Nat.zero_le _
        obtain ⟨kx2, ky2, B2⟩ := ztwo_boxes w #[.int .i64 8, .string s, .int .i64 n, .int .i64 o, .slice A3 0 cap3] #[.string s0, .string s1, .string s2, .string s3, .int .i64 tick, .int .i64 st] 24 43
        have hc2 := zpcon_any S 36 (w.heap.size + 1) f _ p (enters_of Try.func36 (by kernel_rfl) rfl) (zpclo2 S f _ s0 s1 s2 s3 tick st p ih) (ks.take 0) _ _ ky2 ((ZS.past hks B2).take 0 hml)
        have tk : ks.take 0 = ks.take 1 := by rw [List.eq_nil_of_length_eq_zero hk0]; rfl
        rw [tk] at hc2
        rw [hk0] at kx ky hlen hl3 B0 ⊢
        clear tk hk0
        generalize (ks.take 1).any p = b at *
        clear ih hks hml
        go_enter Try.func19, Try.ntmps19
        go_wp2_with fail
        refine hc2.mono ?_
        rintro e w5 ⟨rfl, b5⟩
        have B5 := B2.trans (b5.mono B2.size)
        clear hc2
        cases b <;> (go_wp2_with fail; go_ret; exact ⟨rfl, B5⟩)
      by_cases hk1 : ks.length = 1
      · have hml : 1 ≤ ks.length := by omega
        obtain ⟨kx2, ky2, B2⟩ := ztwo_boxes w #[.int .i64 8, .string s, .int .i64 n, .int .i64 o, .slice A3 1 cap3] #[.string s0, .string s1, .string s2, .string s3, .int .i64 tick, .int .i64 st] 24 43
        have hc2 := zpcon_any S 36 (w.heap.size + 1) f _ p (enters_of Try.func36 (by kernel_rfl) rfl) (zpclo2 S f _ s0 s1 s2 s3 tick st p ih) (ks.take 1) _ _ ky2 ((ZS.past hks B2).take 1 hml)
        rw [hk1] at kx ky hlen hl3 B0 ⊢
        have gl : (1 : Int) ≤ (cap3 : Int) := by omega
        clear hk0 hk1
        generalize (ks.take 1).any p = b at *
        clear ih hks hml
        go_enter Try.func19, Try.ntmps19
        go_wp2_with fail
        refine hc2.mono ?_
        rintro e w5 ⟨rfl, b5⟩
        have B5 := B2.trans (b5.mono B2.size)
        clear hc2
        cases b <;> (go_wp2_with fail; go_ret; exact ⟨rfl, B5⟩)
      · have hml : 1 ≤ ks.length := by omega
        obtain ⟨kx2, ky2, B2⟩ := ztwo_boxes w #[.int .i64 8, .string s, .int .i64 n, .int .i64 o, .slice A3 1 cap3] #[.string s0, .string s1, .string s2, .string s3, .int .i64 tick, .int .i64 st] 24 43
        have hc2 := zpcon_any S 36 (w.heap.size + 1) f _ p (enters_of Try.func36 (by kernel_rfl) rfl) (zpclo2 S f _ s0 s1 s2 s3 tick st p ih) (ks.take 1) _ _ ky2 ((ZS.past hks B2).take 1 hml)
        have g0 : (1 : Int) ≤ (ks.length : Int) := by omega
        have g00 : (1 : Int) < (ks.length : Int) := by omega
        have gm : min (ks.length : Int) 1 = 1 := by omega
        have gl : (1 : Int) ≤ (cap3 : Int) := by omega
        generalize ks.length = kl at *
        clear hk0 hk1
        generalize (ks.take 1).any p = b at *
        clear ih hks hml
        go_enter Try.func19, Try.ntmps19
        go_wp2_with fail
        refine hc2.mono ?_
        rintro e w5 ⟨rfl, b5⟩
        have B5 := B2.trans (b5.mono B2.size)
        clear hc2
        cases b <;> (go_wp2_with fail; go_ret; exact ⟨rfl, B5⟩)
    have g8 : (k == 8) = false := beq_eq_false_iff_ne.2 h8
    rw [if_neg h8]
    clear ih
    go_enter Try.func19, Try.ntmps19
    go_wp2_with fail
    go_ret
    exact ⟨rfl, B0⟩
end
section
open Go.RowKit
theorem zlnum_any (e : Int) (he : I64 e) (w : World) : Calls Try.prog 13 #[.int .i64 e] w fun r w' => r = .returned (.int .i64 e) ∧ w' = w := by
  have W1 : wrap64 e = e := IntWalk.wrap64_in _ (by unfold I64 at he; omega)
  go_enter Try.func13, Try.ntmps13
  go_wp2_with fail
  go_ret
  exact ⟨rfl, rfl⟩
set_option maxHeartbeats 2000000 in
theorem zlnot_any (S : Nat → Prop) (f : Nat) (t : Sc f) (v : Value) (w : World) (hv : ZV w S f v t) :
    Calls Try.prog 21 #[v] w fun e w' => ∃ u, e = .returned u ∧ ZV w' (fun b => S b ∨ w.heap.size ≤ b) (f + 1) u (notS t) ∧ Below w.heap.size w w' := by
  obtain ⟨c0, c1, c2, c3, c4, rfl, ht⟩ := hv
  obtain ⟨i0, l1, i2, i3, X4, n4, z4, rfl, rfl, rfl, rfl, rfl⟩ := ht.form
  unfold strV at *
  go_enter Try.func21, Try.ntmps21
  go_wp2_with fail
  have kr : KB (((w.alloc (.cells #[.int .i64 i0, .string ⟨l1.toArray⟩, .int .i64 i2, .int .i64 i3, .slice X4 n4 z4] 24)).alloc (.cells #[.int .i64 8, .string ⟨#[]⟩, .int .i64 0, .int .i64 0, .slice (some ⟨w.heap.size + 1 + 1, 0, none⟩) 1 1] 24)).alloc (.cells #[.int .i64 i0, .string ⟨l1.toArray⟩, .int .i64 i2, .int .i64 i3, .slice X4 n4 z4] 24)) (w.heap.size + 1) 24 #[.int .i64 8, .string ⟨#[]⟩, .int .i64 0, .int .i64 0, .slice (some ⟨w.heap.size + 1 + 1, 0, none⟩) 1 1] := by
    have h := (KB.new (w.alloc (.cells #[.int .i64 i0, .string ⟨l1.toArray⟩, .int .i64 i2, .int .i64 i3, .slice X4 n4 z4] 24)) 24 #[.int .i64 8, .string ⟨#[]⟩, .int .i64 0, .int .i64 0, .slice (some ⟨w.heap.size + 1 + 1, 0, none⟩) 1 1]).alloc (.cells #[.int .i64 i0, .string ⟨l1.toArray⟩, .int .i64 i2, .int .i64 i3, .slice X4 n4 z4] 24)
    rwa [World.size_alloc] at h
  have kk : KB (((w.alloc (.cells #[.int .i64 i0, .string ⟨l1.toArray⟩, .int .i64 i2, .int .i64 i3, .slice X4 n4 z4] 24)).alloc (.cells #[.int .i64 8, .string ⟨#[]⟩, .int .i64 0, .int .i64 0, .slice (some ⟨w.heap.size + 1 + 1, 0, none⟩) 1 1] 24)).alloc (.cells #[.int .i64 i0, .string ⟨l1.toArray⟩, .int .i64 i2, .int .i64 i3, .slice X4 n4 z4] 24)) (w.heap.size + 1 + 1) 24 #[.int .i64 i0, .string ⟨l1.toArray⟩, .int .i64 i2, .int .i64 i3, .slice X4 n4 z4] := by
    have h := KB.new ((w.alloc (.cells #[.int .i64 i0, .string ⟨l1.toArray⟩, .int .i64 i2, .int .i64 i3, .slice X4 n4 z4] 24)).alloc (.cells #[.int .i64 8, .string ⟨#[]⟩, .int .i64 0, .int .i64 0, .slice (some ⟨w.heap.size + 1 + 1, 0, none⟩) 1 1] 24)) 24 #[.int .i64 i0, .string ⟨l1.toArray⟩, .int .i64 i2, .int .i64 i3, .slice X4 n4 z4]
    rwa [World.size_alloc, World.size_alloc] at h
  have B3 : Below w.heap.size w (((w.alloc (.cells #[.int .i64 i0, .string ⟨l1.toArray⟩, .int .i64 i2, .int .i64 i3, .slice X4 n4 z4] 24)).alloc (.cells #[.int .i64 8, .string ⟨#[]⟩, .int .i64 0, .int .i64 0, .slice (some ⟨w.heap.size + 1 + 1, 0, none⟩) 1 1] 24)).alloc (.cells #[.int .i64 i0, .string ⟨l1.toArray⟩, .int .i64 i2, .int .i64 i3, .slice X4 n4 z4] 24)) := (((Below.refl w.heap.size w).alloc (Nat.le_refl _) _).alloc (by simp) _).alloc (by simp; omega) _
  generalize ((w.alloc (.cells #[.int .i64 i0, .string ⟨l1.toArray⟩, .int .i64 i2, .int .i64 i3, .slice X4 n4 z4] 24)).alloc (.cells #[.int .i64 8, .string ⟨#[]⟩, .int .i64 0, .int .i64 0, .slice (some ⟨w.heap.size + 1 + 1, 0, none⟩) 1 1] 24)).alloc (.cells #[.int .i64 i0, .string ⟨l1.toArray⟩, .int .i64 i2, .int .i64 i3, .slice X4 n4 z4] 24) = w3 at *
  have hz : ZX w3 (fun b => S b ∨ w.heap.size ≤ b) f t (.int .i64 i0) (.string ⟨l1.toArray⟩) (.int .i64 i2) (.int .i64 i3) (.slice X4 n4 z4) := ht.keepS B3.size (fun b _ hlt => B3.block b hlt) fun b hb => .inl hb
  have hsl : ZS w3 (fun b => S b ∨ w.heap.size ≤ b) (ZX w3 (fun b => S b ∨ w.heap.size ≤ b) f) (.slice (some ⟨w.heap.size + 1 + 1, 0, none⟩) 1 1) [t] :=
    ⟨_, 1, rfl, Nat.le_refl _, by unfold maxLen; omega, (fun h => by cases h), fun _ => ⟨w.heap.size + 1 + 1, 0, rfl, .inr (by omega), kk.lt, fun i u hi => by
      match i, hi with
      | 0, hi =>
        simp at hi
        subst hi
        exact ⟨_, _, _, _, _, kk.cell 0, kk.cell 1, kk.cell 2, kk.cell 3, kk.cell 4, hz⟩⟩⟩
  refine bodyPost_ret (results_cell_row (P := Try.prog) rfl _ _ (w.heap.size + 1) _ _ (0, 0) _ rfl kr Try.underlying24 rfl (by kernel_rfl)) rfl
    ⟨_, rfl, ⟨_, _, _, _, _, rfl, rfl, (by decide : -9223372036854775808 ≤ (8 : Int) ∧ (8 : Int) ≤ 9223372036854775807), rfl, Nat.zero_le _, rfl, (by decide : -9223372036854775808 ≤ (0 : Int) ∧ (0 : Int) ≤ 9223372036854775807), rfl, (by decide : -9223372036854775808 ≤ (0 : Int) ∧ (0 : Int) ≤ 9223372036854775807), hsl⟩, B3⟩
end
section
open Go.RowKit
def exZ : Sc 2 := (⟨8, [], 0, 0, [(⟨2, [97], 0, 0, []⟩ : Ns (Sc 0))]⟩ : Ns (Sc 1))
theorem exZ_put : putSc 2 exZ = ([8, 2, 1, 1, 97], 0) := by decide +kernel
theorem exZ_yes : matchS ⟨[98], [], [], 0⟩ 2 exZ = true := by decide +kernel
theorem exZ_no : matchS ⟨[97], [], [], 0⟩ 2 exZ = false := by decide +kernel
def Yes20 (w : World) (e : Ending) (w' : World) : Prop := e = .returned (.bool true) ∧ Below w.heap.size w w'
theorem exZ_here (w w' : World) (g : Nat) (k : KB w' g 24 #[.int .i64 2, .string ⟨#[97]⟩, .int .i64 0, .int .i64 0, .slice none 0 0]) :
    ZV w' (fun b => b < w'.heap.size) 2 (.agg #[.int .i64 8, .string ⟨#[]⟩, .int .i64 0, .int .i64 0, .slice (some ⟨g, 0, none⟩) 1 1]) exZ := by
  have i2 : I64 2 := by unfold I64; decide
  have i8 : I64 8 := by unfold I64; decide
  have i0 : I64 0 := by unfold I64; decide
  have hs : ZS w' (fun b => b < w'.heap.size) (ZX w' (fun b => b < w'.heap.size) 1) (.slice (some ⟨g, 0, none⟩) 1 1) [(⟨2, [97], 0, 0, []⟩ : Ns (Sc 0))] :=
    ⟨_, 1, rfl, Nat.le_refl _, by unfold maxLen; omega, (fun h => by cases h), fun _ => ⟨g, 0, rfl, k.lt, k.lt, fun i u hi => by
      match i, hi with
      | 0, hi =>
        obtain rfl := Option.some.inj hi
        exact ⟨_, _, _, _, _, k.cell 0, k.cell 1, k.cell 2, k.cell 3, k.cell 4, rfl, i2, rfl, (by decide : ([97] : List UInt8).length ≤ maxLen), rfl, i0, rfl, i0, ZS.nil _ _ _⟩⟩⟩
  exact ⟨_, _, _, _, _, rfl, rfl, i8, rfl, Nat.zero_le _, rfl, i0, rfl, i0, hs⟩
set_option maxHeartbeats 4000000 in
theorem live20_any (w : World) : Calls Try.prog 9 #[] w (Yes20 w) := by
  obtain ⟨ka, kb, B0⟩ := ztwo_boxes w #[.int .i64 2, .string ⟨#[97]⟩, .int .i64 0, .int .i64 0, .slice none 0 0] #[.int .i64 8, .string ⟨#[]⟩, .int .i64 0, .int .i64 0, .slice (some ⟨w.heap.size, 0, none⟩) 1 1] 24 24
  have hv := exZ_here w _ _ ka
  have hp := zpput_any _ 2 exZ _ _ (fun b h => h) hv
  rw [exZ_put] at hp
  have HM1 : Hid (∀ W, KB W w.heap.size 24 #[.int .i64 2, .string ⟨#[97]⟩, .int .i64 0, .int .i64 0, .slice none 0 0] → Calls Try.prog 19 #[.agg #[.int .i64 8, .string ⟨#[]⟩, .int .i64 0, .int .i64 0, .slice (some ⟨w.heap.size, 0, none⟩) 1 1], .agg #[.string ⟨#[]⟩, .string ⟨#[98]⟩, .string ⟨#[]⟩, .string ⟨#[]⟩, .int .i64 0, .int .i64 0]] W fun e w' => e = .returned (.bool true) ∧ Below W.heap.size W w') := fun W k => by
    have := zpmatch_any _ ⟨[98], [], [], 0⟩ (.agg #[.string ⟨#[]⟩, .string ⟨#[98]⟩, .string ⟨#[]⟩, .string ⟨#[]⟩, .int .i64 0, .int .i64 0]) ⟨[], 0, rfl⟩ 2 exZ _ W (exZ_here w W _ k)
    rwa [exZ_yes] at this
  have HM2 : Hid (∀ W, KB W w.heap.size 24 #[.int .i64 2, .string ⟨#[97]⟩, .int .i64 0, .int .i64 0, .slice none 0 0] → Calls Try.prog 19 #[.agg #[.int .i64 8, .string ⟨#[]⟩, .int .i64 0, .int .i64 0, .slice (some ⟨w.heap.size, 0, none⟩) 1 1], .agg #[.string ⟨#[]⟩, .string ⟨#[97]⟩, .string ⟨#[]⟩, .string ⟨#[]⟩, .int .i64 0, .int .i64 0]] W fun e w' => e = .returned (.bool false) ∧ Below W.heap.size W w') := fun W k => by
    have := zpmatch_any _ ⟨[97], [], [], 0⟩ (.agg #[.string ⟨#[]⟩, .string ⟨#[97]⟩, .string ⟨#[]⟩, .string ⟨#[]⟩, .int .i64 0, .int .i64 0]) ⟨[], 0, rfl⟩ 2 exZ _ W (exZ_here w W _ k)
    rwa [exZ_no] at this
  clear hv
  go_enter Try.func9, Try.ntmps9
  go_wp2_with fail
  refine hp.mono ?_
  rintro e w1 ⟨v1, rfl, o1, b1⟩
  have ka1 := ka.below b1 ka.lt
  have kb1 := kb.below b1 kb.lt
  have B1 := B0.trans (b1.mono B0.size)
  have x1 := own_BS o1
  obtain ⟨A1, c1, rfl, _⟩ := x1.form
  clear hp ka kb B0 b1 o1
  go_wp2_with fail
  refine (zlnum_any 0 (by unfold I64; decide) _).mono ?_
  rintro e w' ⟨rfl, rfl⟩
  have x2 := BS.lit w' 5 [8, 2, 1, 1, 97] (by simp [maxLen])
  have x3 := x1.alloc (.cells (([8, 2, 1, 1, 97] : List UInt8).map bv).toArray 5)
  have B2 := B1.alloc B1.size (.cells (([8, 2, 1, 1, 97] : List UInt8).map bv).toArray 5)
  have ka2 := ka1.alloc (.cells (([8, 2, 1, 1, 97] : List UInt8).map bv).toArray 5)
  have kb2 := kb1.alloc (.cells (([8, 2, 1, 1, 97] : List UInt8).map bv).toArray 5)
  clear x1 B1 ka1 kb1
  go_wp2_with fail
  refine (same_to _ _ _ _ _ _ x3 x2).mono ?_
  rintro e w2 ⟨rfl, b2⟩
  have B3 := B2.trans (b2.mono B2.size)
  have ka3 := ka2.below b2 ka2.lt
  have kb3 := kb2.below b2 kb2.lt
  clear x2 x3 b2 B2 ka2 kb2
  have q0 := kb3.cell 0
  have q1 := kb3.cell 1
  have q2 := kb3.cell 2
  have q3 := kb3.cell 3
  have q4 := kb3.cell 4
  simp only [List.getElem?_toArray, List.getElem?_cons_zero, List.getElem?_cons_succ] at q0 q1 q2 q3 q4
  go_wp2_with fail
  refine (HM1.out _ ka3).mono ?_
  rintro e w3 ⟨rfl, b3⟩
  have B4 := B3.trans (b3.mono B3.size)
  have ka4 := ka3.below b3 ka3.lt
  have kb4 := kb3.below b3 kb3.lt
  clear HM1 b3 B3 ka3 kb3 q0 q1 q2 q3 q4
  have q0 := kb4.cell 0
  have q1 := kb4.cell 1
  have q2 := kb4.cell 2
  have q3 := kb4.cell 3
  have q4 := kb4.cell 4
  simp only [List.getElem?_toArray, List.getElem?_cons_zero, List.getElem?_cons_succ] at q0 q1 q2 q3 q4
  go_wp2_with fail
  refine (HM2.out _ ka4).mono ?_
  rintro e w4 ⟨rfl, b4⟩
  have B5 := B4.trans (b4.mono B4.size)
  clear HM2 b4 B4 ka4 kb4 q0 q1 q2 q3 q4
  go_wp2_with fail
  go_ret
  exact ⟨rfl, B5⟩
end
end Go.Proofs.Ytcbkokhjdleoeaa
