/-
  The document's reading of a term, over the loaded program: its contract. No condition but the sizes that it names.
-/
import Derived.Test.YtmepcdljobdigaaDoorTermH
import Derived.Test.YtmepcdljobdigaaDoorRefB
namespace Go.Proofs.YtmepcdljobdigaaDoor
open Go.RowKit
set_option linter.unusedVariables false

theorem put_four {w : World} {g : Nat} {t : TypeId} {a b c d x y z u : Value} (h : KB w g t #[a, b, c, d]) : KB ((((w.setCell ⟨g, 0, none⟩ x).setCell ⟨g, 1, none⟩ y).setCell ⟨g, 2, none⟩ z).setCell ⟨g, 3, none⟩ u) g t #[x, y, z, u] :=
  (((h.put 0 x).put 1 y).put 2 z).put 3 u
theorem grown_four (w : World) (g : Nat) (x y z u : Value) : w.grownBy ((((w.setCell ⟨g, 0, none⟩ x).setCell ⟨g, 1, none⟩ y).setCell ⟨g, 2, none⟩ z).setCell ⟨g, 3, none⟩ u) (some g) :=
  grown_trans (grown_trans (grown_trans (grown_set _ _ _ _) (grown_set _ _ _ _)) (grown_set _ _ _ _)) (grown_set _ _ _ _)

theorem KB.far {w : World} {g h i : Nat} {t : TypeId} {cs : Array Value} {v : Value} (k : KB w g t cs) (hne : h ≠ g) : KB (w.setCell ⟨h, i, none⟩ v) g t cs :=
  k.keep (Below.heap_setCell w ⟨h, i, none⟩ v g hne.symm)

theorem RR.far {w : World} {g h i : Nat} {S : Nat → Prop} {st : Option (List UInt8)} {u : Value} (r : RR w g S st) (hne : h ≠ g) (hS : ¬ S h) : RR (w.setCell ⟨h, i, none⟩ u) g S st := by
  obtain ⟨v, l, h1, h2, h3, h4⟩ := r
  exact ⟨v, l, h1.far hne, h2.setCell hS u, h3, h4⟩

theorem RR.alloc {w : World} {g : Nat} {S : Nat → Prop} {st : Option (List UInt8)} (r : RR w g S st) (o : Obj) : RR (w.alloc o) g S st := r.below ((Below.refl _ _).alloc (Nat.le_refl _) o)

theorem zero_TV (w : World) (S : Nat → Prop) (f : Nat) : TV w S (f + 1) (.agg #[.int .i64 0, .int .u64 0, .slice none 0 0, .slice none 0 0]) (zeroN : Nd (Tm f)) :=
  ⟨_, _, _, _, rfl, rfl, by unfold I64; simp [zeroN], rfl, by simp [zeroN], BS.nil _ _, ⟨none, 0, rfl, by simp [zeroN], by simp [maxLen], fun _ => rfl, fun h => absurd h (by simp [zeroN])⟩⟩

theorem grown_new {a b c : World} {row : Option Nat} {h : Nat} (p : a.grownBy b row) (q : b.grownBy c (some h)) (hh : a.heap.size ≤ h) : a.grownBy c row :=
  ⟨q.os.trans p.os, q.tape.trans p.tape, q.output.trans p.output, Nat.le_trans p.size q.size, fun k hk hr => (q.block k (Nat.lt_of_lt_of_le hk p.size) (by simp; omega)).trans (p.block k hk hr)⟩

/-- What is told behind a call that reads a term. -/
def ReadPost (w : World) (g : Nat) (S : Nat → Prop) (d : Nat) (st : Option (List UInt8)) (e : Ending) (w' : World) : Prop :=
  ∃ v, e = .returned v ∧ RR w' g S (readT d st).1 ∧ TV w' (fun b => w.heap.size ≤ b ∧ b < w'.heap.size) (d + 1) v (readT d st).2 ∧ w.grownBy w' (some g)

/-- The ways in which it fails: nothing left, too deep, no such kind. -/
theorem read_fails (S : Nat → Prop) (d : Nat) (g : Nat) (st st' : Option (List UInt8)) (lst : List UInt8) (w : World) (h : RR w g S st) (hS : ∀ b, S b → b < w.heap.size) (hl : (st.getD []).length ≤ 140737488355328) (hd : d ≤ 1000000)
    (hp : passed 1 st = (st', lst)) (hx : readT d st = (none, zeroN))
    (hc : st' = none ∨ (∃ l b, st' = some l ∧ lst = [b] ∧ (d = 0 ∨ (0 < d ∧ kidsN (b.toNat : Int) < 0)))) :
    Calls Tryd.prog 45 #[.pointer (some ⟨g, 0, none⟩), .int .i64 d] w (ReadPost w g S d st) := by
  unfold ReadPost
  rw [hx]
  clear hx
  have hg := h.lt
  have K := KB.new w 26 #[.int .i64 0, .int .u64 0, .slice none 0 0, .slice none 0 0]
  have G := grown_of_below ((Below.refl w.heap.size w).alloc (Nat.le_refl _) (.cells #[.int .i64 0, .int .u64 0, .slice none 0 0, .slice none 0 0] 26)) (some g)
  have ht := rtake_to 1 g S st _ st' lst (h.alloc (.cells #[.int .i64 0, .int .u64 0, .slice none 0 0, .slice none 0 0] 26)) hl hp
  have hz := zero_TV
  rcases hc with rfl | ⟨l, b, rfl, rfl, hc⟩
  · go_enter Tryd.func45, Tryd.ntmps45
    go_wp2_with fail
    refine ht.mono ?_
    rintro e w1 ⟨A, c, rfl, hr1, hb1, hg1⟩
    have K1 := K.grown hg1 (by simp; omega)
    have G1 := grown_trans G hg1
    obtain ⟨q1, q2⟩ := hr1.bad
    clear ht K G
    have hne : ¬ w.heap.size = g := by omega
    have hne2 : ¬ g = w.heap.size := by omega
    have c0 : w1.cell? ⟨w.heap.size, 0, none⟩ = some (.int .i64 0) := K1.cell 0
    have c1 : w1.cell? ⟨w.heap.size, 1, none⟩ = some (.int .u64 0) := K1.cell 1
    have c2 : w1.cell? ⟨w.heap.size, 2, none⟩ = some (.slice none 0 0) := K1.cell 2
    have c3 : w1.cell? ⟨w.heap.size, 3, none⟩ = some (.slice none 0 0) := K1.cell 3
    have f0 := K1.free 0
    have f1 := K1.free 1
    have f2 := K1.free 2
    have f3 := K1.free 3
    have F := hr1.fails
    have KF := K1.far (h := g) (i := 1) (v := .bool true) hne2
    have hSg : ¬ S w.heap.size := fun h => Nat.lt_irrefl _ (hS _ h)
    have G2 := grown_trans G1 (grown_set w1 g 1 (.bool true))
    clear hr1 hb1 h hz
    go_wp2_with fail
    refine bodyPost_ret (results_cell_row (P := Tryd.prog) rfl _ _ w.heap.size _ _ (0, 0) _ rfl (put_four KF) Tryd.underlying26 rfl (by kernel_rfl)) rfl
      ⟨_, rfl, (((F.far hne hSg).far hne hSg).far hne hSg).far hne hSg, zero_TV _ _ _, grown_new G2 (grown_four _ _ _ _ _ _) (Nat.le_refl _)⟩
  · rcases hc with rfl | ⟨hd0, hk⟩
    · go_enter Tryd.func45, Tryd.ntmps45
      go_wp2_with fail
      refine ht.mono ?_
      rintro e w1 ⟨A, c, rfl, hr1, hb1, hg1⟩
      have K1 := K.grown hg1 (by simp; omega)
      have G1 := grown_trans G hg1
      obtain ⟨q1, q2⟩ := hr1.good
      clear ht K G
      have hne : ¬ w.heap.size = g := by omega
      have hne2 : ¬ g = w.heap.size := by omega
      have c0 : w1.cell? ⟨w.heap.size, 0, none⟩ = some (.int .i64 0) := K1.cell 0
      have c1 : w1.cell? ⟨w.heap.size, 1, none⟩ = some (.int .u64 0) := K1.cell 1
      have c2 : w1.cell? ⟨w.heap.size, 2, none⟩ = some (.slice none 0 0) := K1.cell 2
      have c3 : w1.cell? ⟨w.heap.size, 3, none⟩ = some (.slice none 0 0) := K1.cell 3
      have f0 := K1.free 0
      have f1 := K1.free 1
      have f2 := K1.free 2
      have f3 := K1.free 3
      have F := hr1.fails
      have KF := K1.far (h := g) (i := 1) (v := .bool true) hne2
      have hSg : ¬ S w.heap.size := fun h => Nat.lt_irrefl _ (hS _ h)
      have G2 := grown_trans G1 (grown_set w1 g 1 (.bool true))
      clear hr1 hb1 h hz
      go_wp2_with fail
      refine bodyPost_ret (results_cell_row (P := Tryd.prog) rfl _ _ w.heap.size _ _ (0, 0) _ rfl (put_four KF) Tryd.underlying26 rfl (by kernel_rfl)) rfl
        ⟨_, rfl, (((F.far hne hSg).far hne hSg).far hne hSg).far hne hSg, zero_TV _ _ _, grown_new G2 (grown_four _ _ _ _ _ _) (Nat.le_refl _)⟩
    · have hkid := kids_any (b.toNat : Int)
      have hu := b.toNat_lt
      have W2 : wrap64 (b.toNat : Int) = (b.toNat : Int) := IntWalk.wrap64_in _ (by omega)
      have g1 : decide ((d : Int) < 1) = false := decide_eq_false (by omega)
      generalize kidsN (b.toNat : Int) = kn at *
      have g2 := decide_eq_true hk
      go_enter Tryd.func45, Tryd.ntmps45
      go_wp2_with fail
      refine ht.mono ?_
      rintro e w1 ⟨A, c, rfl, hr1, hb1, hg1⟩
      have K1 := K.grown hg1 (by simp; omega)
      have G1 := grown_trans G hg1
      obtain ⟨q1, q2⟩ := hr1.good
      have hbyte : ∃ bb oo, A = some ⟨bb, oo, none⟩ ∧ w1.cell? ⟨bb, oo, none⟩ = some (.int .u8 (b.toNat : Int)) := by
        obtain ⟨bb, oo, e1, _, _, hx⟩ := hb1.at_ (by simp)
        exact ⟨bb, oo, e1, by have := hx 0 b rfl; simpa using this⟩
      obtain ⟨bb, oo, rfl, hcell⟩ := hbyte
      clear ht K G
      have hne : ¬ w.heap.size = g := by omega
      have hne2 : ¬ g = w.heap.size := by omega
      have c0 : w1.cell? ⟨w.heap.size, 0, none⟩ = some (.int .i64 0) := K1.cell 0
      have c1 : w1.cell? ⟨w.heap.size, 1, none⟩ = some (.int .u64 0) := K1.cell 1
      have c2 : w1.cell? ⟨w.heap.size, 2, none⟩ = some (.slice none 0 0) := K1.cell 2
      have c3 : w1.cell? ⟨w.heap.size, 3, none⟩ = some (.slice none 0 0) := K1.cell 3
      have f0 := K1.free 0
      have f1 := K1.free 1
      have f2 := K1.free 2
      have f3 := K1.free 3
      have F := hr1.fails
      have KF := K1.far (h := g) (i := 1) (v := .bool true) hne2
      have hSg : ¬ S w.heap.size := fun h => Nat.lt_irrefl _ (hS _ h)
      have G2 := grown_trans G1 (grown_set w1 g 1 (.bool true))
      clear hr1 hb1 h hz
      go_wp2_with fail
      refine (hkid _).mono ?_
      rintro e w' ⟨rfl, rfl⟩
      go_wp2_with fail
      refine bodyPost_ret (results_cell_row (P := Tryd.prog) rfl _ _ w.heap.size _ _ (0, 0) _ rfl (put_four KF) Tryd.underlying26 rfl (by kernel_rfl)) rfl
        ⟨_, rfl, (((F.far hne hSg).far hne hSg).far hne hSg).far hne hSg, zero_TV _ _ _, grown_new G2 (grown_four _ _ _ _ _ _) (Nat.le_refl _)⟩
end Go.Proofs.YtmepcdljobdigaaDoor
