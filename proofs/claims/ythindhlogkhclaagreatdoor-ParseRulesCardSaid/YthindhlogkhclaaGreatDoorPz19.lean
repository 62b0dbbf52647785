/-
  PbA: The document's state of reading (layer 18), over the loaded program: burn, is, next, here: their contracts. No condition but what each names.
-/
import Derived.Test.YthindhlogkhclaaGreatDoorPz05
import Derived.Test.YthindhlogkhclaaGreatDoorPz16
import Derived.Test.YthindhlogkhclaaGreatDoorPz07
import Derived.Test.YthindhlogkhclaaGreatDoorPz10
import Derived.Test.YthindhlogkhclaaGreatDoorHeld
import Derived.Test.YthindhlogkhclaaGreatDoorPz18
set_option linter.unusedVariables false
set_option maxRecDepth 100000
namespace Go.Proofs.YthindhlogkhclaaGreatDoor
section
open Go.RowKit
def Sd (w : World) (p : Nat) (n : Int) (L : List Tk) (s : Ps) : Prop :=
  ∃ (v : Value) (at_ : Nat), KB w p 59 #[v, .int .i64 (at_ : Int), .int .i64 n, .int .i64 s.fuel, .int .i64 s.e, .int .i64 s.used] ∧ TS w (fun b => b < p) v L ∧ at_ ≤ L.length ∧ s.rest = L.drop at_ ∧
    I64 s.fuel ∧ 0 ≤ s.used ∧ I64 (s.fuel + s.used) ∧ (s.used = 0 ∨ 0 ≤ s.fuel)
section
variable {w w' : World} {p : Nat} {n : Int} {L : List Tk} {s : Ps}
theorem Sd.lt (h : Sd w p n L s) : p < w.heap.size := by obtain ⟨v, a, k, _⟩ := h; exact k.lt
theorem Sd.keep (h : Sd w p n L s) (hs : w.heap.size ≤ w'.heap.size) (hk : ∀ b, b ≤ p → w'.heap[b]? = w.heap[b]?) : Sd w' p n L s := by
  obtain ⟨v, a, k, ht, r⟩ := h
  exact ⟨v, a, k.keep (hk p (Nat.le_refl _)), ht.keep hs fun b sb _ => hk b (Nat.le_of_lt sb), r⟩
theorem Sd.below (h : Sd w p n L s) (b : Below w.heap.size w w') : Sd w' p n L s := h.keep b.size fun i hi => b.block i (Nat.lt_of_le_of_lt hi h.lt)
theorem Sd.drewN (h : Sd w p n L s) (k : Nat) : Sd (w.drewN k) p n L s := h
theorem Sd.alloc (h : Sd w p n L s) (o : Obj) : Sd (w.alloc o) p n L s := h.below ((Below.refl _ _).alloc (Nat.le_refl _) o)
theorem Sd.setCell (h : Sd w p n L s) {a : Addr} (ha : p < a.block) (u : Value) : Sd (w.setCell a u) p n L s :=
  h.keep (by simp [World.setCell]) fun b hb => Below.heap_setCell w a u b (by omega)
theorem Sd.four (h : Sd w p n L s) {g : Nat} (hg : p < g) (x y z u : Value) : Sd ((((w.setCell ⟨g, 0, none⟩ x).setCell ⟨g, 1, none⟩ y).setCell ⟨g, 2, none⟩ z).setCell ⟨g, 3, none⟩ u) p n L s :=
  (((h.setCell (a := ⟨g, 0, none⟩) hg x).setCell (a := ⟨g, 1, none⟩) hg y).setCell (a := ⟨g, 2, none⟩) hg z).setCell (a := ⟨g, 3, none⟩) hg u
theorem Sd.own (h : Sd w p n L s) {r : Option Nat} (g : w.grownBy w' r) (hr : ∀ k, r = some k → p < k) : Sd w' p n L s :=
  h.keep g.size fun b hb => g.block b (Nat.lt_of_le_of_lt hb h.lt) (fun e => by have := hr b e.symm; omega)
theorem Sd.head (h : Sd w p n L s) {t : Tk} {r : List Tk} (hr : s.rest = t :: r) : ∃ (b o c a : Nat), KB w p 59 #[.slice (some ⟨b, o, none⟩) L.length c, .int .i64 (a : Int), .int .i64 n, .int .i64 s.fuel, .int .i64 s.e, .int .i64 s.used] ∧ b < p ∧ b < w.heap.size ∧ a < L.length ∧ L.length ≤ maxLen ∧
    w.cell? ⟨b, o + a * 4, none⟩ = some (.int .i64 (t.kind : Int)) ∧ w.cell? ⟨b, o + a * 4 + 1, none⟩ = some (strV t.text) ∧ w.cell? ⟨b, o + a * 4 + 2, none⟩ = some (.int .i64 t.n) ∧ w.cell? ⟨b, o + a * 4 + 3, none⟩ = some (.int .i64 (t.at_ : Int)) ∧ r = L.drop (a + 1) := by
  obtain ⟨v, a, k, ht, ha, hd, _⟩ := h
  obtain ⟨A, c, rfl, hlc, hcm⟩ := ht.form
  rw [hr] at hd
  have hal : a < L.length := by
    rcases Nat.lt_or_ge a L.length with h | h
    · exact h
    · rw [List.drop_eq_nil_of_le h] at hd; cases hd
  obtain ⟨b, o, rfl, hbp, hb1, hcs⟩ := ht.at_ (by omega)
  have hg : L[a]? = some t := by
    have := congrArg (fun l => l[0]?) hd
    simp only [List.getElem?_drop, Nat.add_zero] at this
    exact this.symm
  obtain ⟨c0, c1, c2, c3⟩ := hcs a t hg
  refine ⟨b, o, c, a, k, hbp, hb1, hal, by omega, c0, c1, c2, c3, ?_⟩
  rw [← List.drop_drop, ← hd]; rfl
theorem Sd.none_left (h : Sd w p n L s) (hr : s.rest = []) : ∃ A c, KB w p 59 #[.slice A L.length c, .int .i64 (L.length : Int), .int .i64 n, .int .i64 s.fuel, .int .i64 s.e, .int .i64 s.used] ∧ L.length ≤ maxLen := by
  obtain ⟨v, a, k, ht, ha, hd, _⟩ := h
  obtain ⟨A, c, rfl, hlc, hcm⟩ := ht.form
  rw [hr] at hd
  have : a = L.length := by
    have := congrArg List.length hd
    rw [List.length_drop] at this
    simp at this
    omega
  subst this
  exact ⟨A, c, k, by omega⟩
end
theorem burn18_any (p : Nat) (n : Int) (L : List Tk) (s : Ps) (w : World) (h : Sd w p n L s) :
    Calls Tryz.prog 76 #[.pointer (some ⟨p, 0, none⟩)] w fun e w' => e = .returned (.tuple #[]) ∧ Sd w' p n L (burnP s) ∧ w.grownBy w' (some p) := by
  have HS := Lib.hid h
  obtain ⟨v, a, k, ht, ha, hd, hi, hu, hsum, hlow⟩ := h
  have hp := k.lt
  have q3 : w.cell? ⟨p, 3, none⟩ = some (.int .i64 s.fuel) := k.cell 3
  have q4 : w.cell? ⟨p, 4, none⟩ = some (.int .i64 s.e) := k.cell 4
  have q5 : w.cell? ⟨p, 5, none⟩ = some (.int .i64 s.used) := k.cell 5
  have f3 := k.free 3
  have f4 := k.free 4
  have f5 := k.free 5
  by_cases he : s.e = 0
  · rw [he] at q4 k
    by_cases hlt : s.fuel < 1
    · have hst : Sd (w.setCell ⟨p, 4, none⟩ (.int .i64 14)) p n L (burnP s) := by
        rw [burn_out he hlt]
        exact ⟨v, a, k.put 4 _, ht.but (grown_set w p 4 _), ha, hd, hi, hu, hsum, hlow⟩
      have hg := grown_set w p 4 (.int .i64 14)
      have e1 : decide (s.fuel < 1) = true := decide_eq_true hlt
      clear k ht ha hd hi hu hsum hlow HS he
      generalize s.fuel = F at *
      generalize s.used = U at *
      go_enter Tryz.func76, Tryz.ntmps76
      go_wp2_with fail
      go_end0
      exact ⟨rfl, hst, hg⟩
    · have hst : Sd ((w.setCell ⟨p, 3, none⟩ (.int .i64 (s.fuel - 1))).setCell ⟨p, 5, none⟩ (.int .i64 (s.used + 1))) p n L (burnP s) := by
        rw [burn_ok he hlt]
        refine ⟨v, a, (k.put 3 _).put 5 _, (ht.but (grown_set w p 3 _)).but (grown_set _ p 5 _), ha, hd, ?_, ?_, ?_, ?_⟩
        · show I64 (s.fuel - 1); unfold I64 at hi ⊢; omega
        · show 0 ≤ s.used + 1; omega
        · show I64 (s.fuel - 1 + (s.used + 1)); unfold I64 at hsum ⊢; omega
        · right; show 0 ≤ s.fuel - 1; omega
      have hg := grown_trans (grown_set w p 3 (.int .i64 (s.fuel - 1))) (grown_set _ p 5 (.int .i64 (s.used + 1)))
      have e1 : decide (s.fuel < 1) = false := decide_eq_false hlt
      have I1 : IntKind.i64.wrap (s.fuel - 1) = s.fuel - 1 := by rw [IntKind.wrap_i64]; unfold I64 at hi; omega
      have I2 : wrap64 (s.fuel - 1) = s.fuel - 1 := IntWalk.wrap64_in _ (by unfold I64 at hi; omega)
      have I3 : IntKind.i64.wrap (s.used + 1) = s.used + 1 := by rw [IntKind.wrap_i64]; unfold I64 at hsum; omega
      have I4 : wrap64 (s.used + 1) = s.used + 1 := IntWalk.wrap64_in _ (by unfold I64 at hsum; omega)
      clear k ht ha hd hi hu hsum hlow HS he hlt
      generalize s.fuel = F at *
      generalize s.used = U at *
      go_enter Tryz.func76, Tryz.ntmps76
      go_wp2_with fail
      go_end0
      exact ⟨rfl, hst, hg⟩
  · have hst : Sd w p n L (burnP s) := by rw [burn_err he]; exact HS.out
    have g2 : (s.e == 0) = false := beq_eq_false_iff_ne.2 he
    clear k ht ha hd hi hu hsum hlow HS
    generalize s.e = e at *
    go_enter Tryz.func76, Tryz.ntmps76
    go_wp2_with fail
    go_end0
    exact ⟨rfl, hst, World.grownBy.refl w _⟩
set_option maxHeartbeats 8000000 in
theorem is18_any (p : Nat) (n : Int) (L : List Tk) (s : Ps) (k : Nat) (wd : List UInt8) (w : World) (h : Sd w p n L s) :
    Calls Tryz.prog 41 #[.pointer (some ⟨p, 0, none⟩), .int .i64 (k : Int), strV wd] w fun e w' => e = .returned (.bool (isP k wd s)) ∧ ∃ m, w' = w.drewN m := by
  have hp := h.lt
  obtain ⟨zw, hzw⟩ : ∃ z : ByteArray, z = ⟨wd.toArray⟩ := ⟨_, rfl⟩
  have hwv : strV wd = .string zw := by unfold strV; rw [hzw]
  rw [hwv]
  by_cases he : s.e = 0
  case neg =>
    rw [is_err he]
    obtain ⟨v, a, kb, ht, _⟩ := h
    obtain ⟨A, c, rfl, _⟩ := ht.form
    have q0 : w.cell? ⟨p, 0, none⟩ = some (.slice A L.length c) := kb.cell 0
    have q1 : w.cell? ⟨p, 1, none⟩ = some (.int .i64 (a : Int)) := kb.cell 1
    have q4 : w.cell? ⟨p, 4, none⟩ = some (.int .i64 s.e) := kb.cell 4
    have g2 : (s.e == 0) = false := beq_eq_false_iff_ne.2 he
    obtain ⟨ll, hll⟩ : ∃ ll, ll = L.length := ⟨_, rfl⟩
    rw [← hll] at q0
    have hS : (fun W : World => W.cell? ⟨p, 0, none⟩ = some (.slice A ll c) ∧ W.cell? ⟨p, 1, none⟩ = some (.int .i64 (a : Int)) ∧ W.cell? ⟨p, 4, none⟩ = some (.int .i64 s.e)) w.drew := ⟨q0, q1, q4⟩
    clear kb ht hll hwv hzw q0 q1 q4
    generalize s.e = e at *
    go_enter Tryz.func41, Tryz.ntmps41
    go_wp2_with fail
    rename_i KK hKK
    have HKK := Lib.hid hKK
    clear hKK
    refine wp_region_held_drew (S := (fun W => W.cell? ⟨p, 0, none⟩ = some (.slice A ll c) ∧ W.cell? ⟨p, 1, none⟩ = some (.int .i64 (a : Int)) ∧ W.cell? ⟨p, 4, none⟩ = some (.int .i64 e))) (by kernel_rfl) hS (fun hHeld => ?_)
    refine hyY (some 7) 0 rfl hHeld ?_; go_frame
    refine hyY (some 8) 1 rfl hHeld ?_; go_frame
    refine hyY (some 9) 2 rfl hHeld ?_; go_frame
    refine hyY (some 10) 3 rfl hHeld ?_; go_frame
    refine hyY (some 11) 4 rfl hHeld ?_; go_frame
    refine hyY (some 12) 5 rfl hHeld ?_; go_frame
    refine hyN (some 13) 6 rfl hHeld ?_; go_frame
    refine hyN (some 14) 7 rfl hHeld ?_; go_frame
    refine hyN (some 15) 8 rfl hHeld ?_; go_frame
    refine hyN (some 16) 9 rfl hHeld ?_; go_frame
    refine hyN (some 17) 10 rfl hHeld ?_; go_frame
    refine hyN (some 18) 11 rfl hHeld ?_; go_frame
    refine hyN (some 19) 12 rfl hHeld ?_; go_frame
    refine hyN (some 20) 13 rfl hHeld ?_; go_frame
    refine hyN (some 21) 14 rfl hHeld ?_; go_frame
    refine hyN (some 22) 15 rfl hHeld ?_; go_frame
    refine hyY (some 23) 16 rfl hHeld ?_; go_frame
    refine hyY (some 24) 17 rfl hHeld ?_; go_frame
    refine hyN (some 25) 18 rfl hHeld ?_; go_frame
    refine hyN (some 26) 19 rfl hHeld ?_; go_frame
    refine hyN (some 27) 20 rfl hHeld ?_; go_frame
    refine hyN (some 28) 21 rfl hHeld ?_; go_frame
    refine hyN (some 29) 22 rfl hHeld ?_; go_frame
    refine hyN (some 30) 23 rfl hHeld ?_; go_frame
    refine hyN (some 31) 24 rfl hHeld ?_; go_frame
    refine hyN (some 32) 25 rfl hHeld ?_; go_frame
    refine hyN (some 33) 26 rfl hHeld ?_; go_frame
    refine hyN (some 34) 27 rfl hHeld ?_; go_frame
    refine hyN (some 35) 28 rfl hHeld ?_; go_frame
    refine hyN (some 36) 29 rfl hHeld ?_; go_frame
    refine hyN (some 37) 30 rfl hHeld ?_; go_frame
    refine hyY (some 38) 31 rfl hHeld ?_; go_frame
    refine hyY (some 39) 32 rfl hHeld ?_; go_frame
    refine hyN (some 40) 33 rfl hHeld ?_; go_frame
    refine hyN (some 41) 34 rfl hHeld ?_; go_frame
    refine hyN (some 42) 35 rfl hHeld ?_; go_frame
    refine hyN (some 43) 36 rfl hHeld ?_; go_frame
    refine hyN (some 44) 37 rfl hHeld ?_; go_frame
    refine hyN (some 45) 38 rfl hHeld ?_; go_frame
    refine hyN (some 46) 39 rfl hHeld ?_; go_frame
    refine hyN (some 47) 40 rfl hHeld ?_; go_frame
    refine hyN (some 48) 41 rfl hHeld ?_; go_frame
    refine hyN (some 49) 42 rfl hHeld ?_; go_frame
    refine hyN (some 50) 43 rfl hHeld ?_; go_frame
    refine hyN (some 51) 44 rfl hHeld ?_; go_frame
    refine hyN (some 52) 45 rfl hHeld ?_; go_frame
    refine hyN (some 53) 46 rfl hHeld ?_; go_frame
    refine hyN (some 54) 47 rfl hHeld ?_; go_frame
    refine hyN (some 55) 48 rfl hHeld ?_; go_frame
    refine hyN (some 56) 49 rfl hHeld ?_; go_frame
    refine hyY (some 57) 50 rfl hHeld ?_; go_frame
    refine hyY (some 6) 51 rfl hHeld ?_; go_frame
    refine wpAnyH_done (by kernel_rfl) ?_ _
    have hKK := HKK.out
    go_wp2_with fail
    go_ret
    exact ⟨rfl, 1, rfl⟩
  cases hr : s.rest with
  | nil =>
    rw [is_nil hr]
    obtain ⟨A, c, kb, hlm⟩ := h.none_left hr
    rw [he] at kb
    have q0 : w.cell? ⟨p, 0, none⟩ = some (.slice A L.length c) := kb.cell 0
    have q1 : w.cell? ⟨p, 1, none⟩ = some (.int .i64 (L.length : Int)) := kb.cell 1
    have q4 : w.cell? ⟨p, 4, none⟩ = some (.int .i64 0) := kb.cell 4
    obtain ⟨ll, hll⟩ : ∃ ll, ll = L.length := ⟨_, rfl⟩
    rw [← hll] at q0 q1 hlm
    obtain ⟨a, ha⟩ : ∃ a, a = ll := ⟨_, rfl⟩
    rw [← ha] at q1
    have hS : (fun W : World => W.cell? ⟨p, 0, none⟩ = some (.slice A ll c) ∧ W.cell? ⟨p, 1, none⟩ = some (.int .i64 (a : Int)) ∧ W.cell? ⟨p, 4, none⟩ = some (.int .i64 0)) w.drew := ⟨q0, q1, q4⟩
    have hl : ¬ ((a : Int) < (ll : Int)) := by omega
    have hl2 : decide ((a : Int) < (ll : Int)) = false := decide_eq_false hl
    have hl3 : ¬ a < ll := by omega
    have hl4 : ll ≤ a := by omega
    clear kb hll hwv hzw q0 q1 q4 ha
    go_enter Tryz.func41, Tryz.ntmps41
    go_wp2_with fail
    rename_i KK hKK
    have HKK := Lib.hid hKK
    clear hKK
    refine wp_region_held_drew (S := (fun W => W.cell? ⟨p, 0, none⟩ = some (.slice A ll c) ∧ W.cell? ⟨p, 1, none⟩ = some (.int .i64 (a : Int)) ∧ W.cell? ⟨p, 4, none⟩ = some (.int .i64 0))) (by kernel_rfl) hS (fun hHeld => ?_)
    refine hyY (some 7) 0 rfl hHeld ?_; go_frame
    refine hyY (some 8) 1 rfl hHeld ?_; go_frame
    refine hyY (some 9) 2 rfl hHeld ?_; go_frame
    refine hyY (some 10) 3 rfl hHeld ?_; go_frame
    refine hyY (some 11) 4 rfl hHeld ?_; go_frame
    refine hyY (some 12) 5 rfl hHeld ?_; go_frame
    refine hyY (some 13) 6 rfl hHeld ?_; go_frame
    refine hyY (some 14) 7 rfl hHeld ?_; go_frame
    refine hyY (some 15) 8 rfl hHeld ?_; go_frame
    refine hyY (some 16) 9 rfl hHeld ?_; go_frame
    refine hyY (some 17) 10 rfl hHeld ?_; go_frame
    refine hyY (some 18) 11 rfl hHeld ?_; go_frame
    refine hyY (some 19) 12 rfl hHeld ?_; go_frame
    refine hyY (some 20) 13 rfl hHeld ?_; go_frame
    refine hyY (some 21) 14 rfl hHeld ?_; go_frame
    refine hyY (some 22) 15 rfl hHeld ?_; go_frame
    refine hyY (some 23) 16 rfl hHeld ?_; go_frame
    refine hyY (some 24) 17 rfl hHeld ?_; go_frame
    refine hyN (some 25) 18 rfl hHeld ?_; go_frame
    refine hyN (some 26) 19 rfl hHeld ?_; go_frame
    refine hyN (some 27) 20 rfl hHeld ?_; go_frame
    refine hyN (some 28) 21 rfl hHeld ?_; go_frame
    refine hyN (some 29) 22 rfl hHeld ?_; go_frame
    refine hyN (some 30) 23 rfl hHeld ?_; go_frame
    refine hyN (some 31) 24 rfl hHeld ?_; go_frame
    refine hyN (some 32) 25 rfl hHeld ?_; go_frame
    refine hyN (some 33) 26 rfl hHeld ?_; go_frame
    refine hyN (some 34) 27 rfl hHeld ?_; go_frame
    refine hyN (some 35) 28 rfl hHeld ?_; go_frame
    refine hyN (some 36) 29 rfl hHeld ?_; go_frame
    refine hyN (some 37) 30 rfl hHeld ?_; go_frame
    refine hyY (some 38) 31 rfl hHeld ?_; go_frame
    refine hyY (some 39) 32 rfl hHeld ?_; go_frame
    refine hyN (some 40) 33 rfl hHeld ?_; go_frame
    refine hyN (some 41) 34 rfl hHeld ?_; go_frame
    refine hyN (some 42) 35 rfl hHeld ?_; go_frame
    refine hyN (some 43) 36 rfl hHeld ?_; go_frame
    refine hyN (some 44) 37 rfl hHeld ?_; go_frame
    refine hyN (some 45) 38 rfl hHeld ?_; go_frame
    refine hyN (some 46) 39 rfl hHeld ?_; go_frame
    refine hyN (some 47) 40 rfl hHeld ?_; go_frame
    refine hyN (some 48) 41 rfl hHeld ?_; go_frame
    refine hyN (some 49) 42 rfl hHeld ?_; go_frame
    refine hyN (some 50) 43 rfl hHeld ?_; go_frame
    refine hyN (some 51) 44 rfl hHeld ?_; go_frame
    refine hyN (some 52) 45 rfl hHeld ?_; go_frame
    refine hyN (some 53) 46 rfl hHeld ?_; go_frame
    refine hyN (some 54) 47 rfl hHeld ?_; go_frame
    refine hyN (some 55) 48 rfl hHeld ?_; go_frame
    refine hyN (some 56) 49 rfl hHeld ?_; go_frame
    refine hyY (some 57) 50 rfl hHeld ?_; go_frame
    refine hyY (some 6) 51 rfl hHeld ?_; go_frame
    refine wpAnyH_done (by kernel_rfl) ?_ _
    have hKK := HKK.out
    go_wp2_with fail
    go_ret
    exact ⟨rfl, 1, rfl⟩
  | cons t r =>
    obtain ⟨b, o, c, a, kb, hbp, hbw, hal, hlm, c0, c1, c2, c3, _⟩ := h.head hr
    rw [he] at kb
    have q0 : w.cell? ⟨p, 0, none⟩ = some (.slice (some ⟨b, o, none⟩) L.length c) := kb.cell 0
    have q1 : w.cell? ⟨p, 1, none⟩ = some (.int .i64 (a : Int)) := kb.cell 1
    have q4 : w.cell? ⟨p, 4, none⟩ = some (.int .i64 0) := kb.cell 4
    have hisp : isP k wd s = fitT k wd t := by unfold isP; rw [hr, he]; simp
    rw [hisp]
    obtain ⟨tt, htt⟩ : ∃ z : ByteArray, z = ⟨t.text.toArray⟩ := ⟨_, rfl⟩
    have htv : strV t.text = .string tt := by unfold strV; rw [htt]
    rw [htv] at c1
    have gq := eq_txt tt zw _ _ htt hzw
    have ge := eq_txt zw ⟨#[]⟩ wd [] hzw rfl
    have fit : fitT k wd t = (decide (t.kind = k) && (decide (wd = []) || decide (t.text = wd))) := rfl
    rw [fit]
    obtain ⟨ll, hll⟩ : ∃ ll, ll = L.length := ⟨_, rfl⟩
    rw [← hll] at q0 hal hlm
    have hl : ((a : Int) < (ll : Int)) := by omega
    have hl2 : decide ((a : Int) < (ll : Int)) = true := decide_eq_true hl
    have nil2 : (⟨#[]⟩ : ByteArray).toList = [] := by rw [Lib.toList_data]
    clear kb hll hisp fit c2 c3 h
    obtain ⟨tk, htk⟩ : ∃ tk : Int, tk = (t.kind : Int) := ⟨_, rfl⟩
    obtain ⟨kk, hkk⟩ : ∃ kk : Int, kk = (k : Int) := ⟨_, rfl⟩
    rw [← htk] at c0
    rw [← hkk]
    have hS : (fun W : World => W.cell? ⟨p, 0, none⟩ = some (.slice (some ⟨b, o, none⟩) ll c) ∧ W.cell? ⟨p, 1, none⟩ = some (.int .i64 (a : Int)) ∧ W.cell? ⟨p, 4, none⟩ = some (.int .i64 0) ∧ W.cell? ⟨b, o + a * 4, none⟩ = some (.int .i64 tk) ∧ W.cell? ⟨b, o + a * 4 + 1, none⟩ = some (.string tt)) w.drew := ⟨q0, q1, q4, c0, c1⟩
    by_cases hk : t.kind = k
    case neg =>
      rw [decide_eq_false hk, Bool.false_and]
      have gk : ¬ tk = kk := by omega
      have gk2 : (tk == kk) = false := beq_eq_false_iff_ne.2 gk
      clear hk htk hkk gq ge hwv hzw htv htt q0 q1 q4 c0 c1 hr he
      go_enter Tryz.func41, Tryz.ntmps41
      go_wp2_with fail
      rename_i KK hKK
      have HKK := Lib.hid hKK
      clear hKK
      refine wp_region_held_drew (S := (fun W => W.cell? ⟨p, 0, none⟩ = some (.slice (some ⟨b, o, none⟩) ll c) ∧ W.cell? ⟨p, 1, none⟩ = some (.int .i64 (a : Int)) ∧ W.cell? ⟨p, 4, none⟩ = some (.int .i64 0) ∧ W.cell? ⟨b, o + a * 4, none⟩ = some (.int .i64 tk) ∧ W.cell? ⟨b, o + a * 4 + 1, none⟩ = some (.string tt))) (by kernel_rfl) hS (fun hHeld => ?_)
      refine hyY (some 7) 0 rfl hHeld ?_; go_frame
      refine hyY (some 8) 1 rfl hHeld ?_; go_frame
      refine hyY (some 9) 2 rfl hHeld ?_; go_frame
      refine hyY (some 10) 3 rfl hHeld ?_; go_frame
      refine hyY (some 11) 4 rfl hHeld ?_; go_frame
      refine hyY (some 12) 5 rfl hHeld ?_; go_frame
      refine hyY (some 13) 6 rfl hHeld ?_; go_frame
      refine hyY (some 14) 7 rfl hHeld ?_; go_frame
      refine hyY (some 15) 8 rfl hHeld ?_; go_frame
      refine hyY (some 16) 9 rfl hHeld ?_; go_frame
      refine hyY (some 17) 10 rfl hHeld ?_; go_frame
      refine hyY (some 18) 11 rfl hHeld ?_; go_frame
      refine hyY (some 19) 12 rfl hHeld ?_; go_frame
      refine hyY (some 20) 13 rfl hHeld ?_; go_frame
      refine hyY (some 21) 14 rfl hHeld ?_; go_frame
      refine hyY (some 22) 15 rfl hHeld ?_; go_frame
      refine hyY (some 23) 16 rfl hHeld ?_; go_frame
      refine hyY (some 24) 17 rfl hHeld ?_; go_frame
      refine hyY (some 25) 18 rfl hHeld ?_; go_frame
      refine hyY (some 26) 19 rfl hHeld ?_; go_frame
      refine hyY (some 27) 20 rfl hHeld ?_; go_frame
      refine hyY (some 28) 21 rfl hHeld ?_; go_frame
      refine hyY (some 29) 22 rfl hHeld ?_; go_frame
      refine hyY (some 30) 23 rfl hHeld ?_; go_frame
      refine hyY (some 31) 24 rfl hHeld ?_; go_frame
      refine hyY (some 32) 25 rfl hHeld ?_; go_frame
      refine hyY (some 33) 26 rfl hHeld ?_; go_frame
      refine hyY (some 34) 27 rfl hHeld ?_; go_frame
      refine hyY (some 35) 28 rfl hHeld ?_; go_frame
      refine hyY (some 36) 29 rfl hHeld ?_; go_frame
      refine hyY (some 37) 30 rfl hHeld ?_; go_frame
      refine hyY (some 38) 31 rfl hHeld ?_; go_frame
      refine hyY (some 39) 32 rfl hHeld ?_; go_frame
      refine hyN (some 40) 33 rfl hHeld ?_; go_frame
      refine hyN (some 41) 34 rfl hHeld ?_; go_frame
      refine hyN (some 42) 35 rfl hHeld ?_; go_frame
      refine hyN (some 43) 36 rfl hHeld ?_; go_frame
      refine hyN (some 44) 37 rfl hHeld ?_; go_frame
      refine hyN (some 45) 38 rfl hHeld ?_; go_frame
      refine hyN (some 46) 39 rfl hHeld ?_; go_frame
      refine hyN (some 47) 40 rfl hHeld ?_; go_frame
      refine hyN (some 48) 41 rfl hHeld ?_; go_frame
      refine hyN (some 49) 42 rfl hHeld ?_; go_frame
      refine hyN (some 50) 43 rfl hHeld ?_; go_frame
      refine hyN (some 51) 44 rfl hHeld ?_; go_frame
      refine hyN (some 52) 45 rfl hHeld ?_; go_frame
      refine hyN (some 53) 46 rfl hHeld ?_; go_frame
      refine hyN (some 54) 47 rfl hHeld ?_; go_frame
      refine hyN (some 55) 48 rfl hHeld ?_; go_frame
      refine hyN (some 56) 49 rfl hHeld ?_; go_frame
      refine hyY (some 57) 50 rfl hHeld ?_; go_frame
      refine hyY (some 6) 51 rfl hHeld ?_; go_frame
      refine wpAnyH_done (by kernel_rfl) ?_ _
      have hKK := HKK.out
      go_wp2_with fail
      go_ret
      exact ⟨rfl, 1, rfl⟩
    have gk : tk = kk := by omega
    have gk2 : (tk == kk) = true := by rw [gk]; exact beq_self_eq_true _
    rw [decide_eq_true hk, Bool.true_and]
    by_cases hn : wd = []
    · rw [decide_eq_true hn, Bool.true_or]
      rw [decide_eq_true hn] at ge
      have ge1 : zw.toList = [] := by rw [nil2] at ge; simpa using ge
      have ge2 : (zw.toList == []) = true := by rw [ge1]; rfl
      have ge3 : zw.toList.isEmpty = true := by rw [ge1]; rfl
      clear hk htk hkk hwv hzw htv htt q0 q1 q4 c0 c1 hr he gq
      subst gk
      go_enter Tryz.func41, Tryz.ntmps41
      go_wp2_with fail
      rename_i KK hKK
      have HKK := Lib.hid hKK
      clear hKK
      refine wp_region_held_drew (S := (fun W => W.cell? ⟨p, 0, none⟩ = some (.slice (some ⟨b, o, none⟩) ll c) ∧ W.cell? ⟨p, 1, none⟩ = some (.int .i64 (a : Int)) ∧ W.cell? ⟨p, 4, none⟩ = some (.int .i64 0) ∧ W.cell? ⟨b, o + a * 4, none⟩ = some (.int .i64 tk) ∧ W.cell? ⟨b, o + a * 4 + 1, none⟩ = some (.string tt))) (by kernel_rfl) hS (fun hHeld => ?_)
      refine hyY (some 7) 0 rfl hHeld ?_; go_frame
      refine hyY (some 8) 1 rfl hHeld ?_; go_frame
      refine hyY (some 9) 2 rfl hHeld ?_; go_frame
      refine hyY (some 10) 3 rfl hHeld ?_; go_frame
      refine hyY (some 11) 4 rfl hHeld ?_; go_frame
      refine hyY (some 12) 5 rfl hHeld ?_; go_frame
      refine hyY (some 13) 6 rfl hHeld ?_; go_frame
      refine hyY (some 14) 7 rfl hHeld ?_; go_frame
      refine hyY (some 15) 8 rfl hHeld ?_; go_frame
      refine hyY (some 16) 9 rfl hHeld ?_; go_frame
      refine hyY (some 17) 10 rfl hHeld ?_; go_frame
      refine hyY (some 18) 11 rfl hHeld ?_; go_frame
      refine hyY (some 19) 12 rfl hHeld ?_; go_frame
      refine hyY (some 20) 13 rfl hHeld ?_; go_frame
      refine hyY (some 21) 14 rfl hHeld ?_; go_frame
      refine hyY (some 22) 15 rfl hHeld ?_; go_frame
      refine hyY (some 23) 16 rfl hHeld ?_; go_frame
      refine hyY (some 24) 17 rfl hHeld ?_; go_frame
      refine hyY (some 25) 18 rfl hHeld ?_; go_frame
      refine hyY (some 26) 19 rfl hHeld ?_; go_frame
      refine hyY (some 27) 20 rfl hHeld ?_; go_frame
      refine hyY (some 28) 21 rfl hHeld ?_; go_frame
      refine hyY (some 29) 22 rfl hHeld ?_; go_frame
      refine hyY (some 30) 23 rfl hHeld ?_; go_frame
      refine hyY (some 31) 24 rfl hHeld ?_; go_frame
      refine hyY (some 32) 25 rfl hHeld ?_; go_frame
      refine hyY (some 33) 26 rfl hHeld ?_; go_frame
      refine hyY (some 34) 27 rfl hHeld ?_; go_frame
      refine hyY (some 35) 28 rfl hHeld ?_; go_frame
      refine hyY (some 36) 29 rfl hHeld ?_; go_frame
      refine hyY (some 37) 30 rfl hHeld ?_; go_frame
      refine hyY (some 38) 31 rfl hHeld ?_; go_frame
      refine hyY (some 39) 32 rfl hHeld ?_; go_frame
      refine hyY (some 40) 33 rfl hHeld ?_; go_frame
      refine hyY (some 41) 34 rfl hHeld ?_; go_frame
      refine hyY (some 42) 35 rfl hHeld ?_; go_frame
      refine hyN (some 43) 36 rfl hHeld ?_; go_frame
      refine hyN (some 44) 37 rfl hHeld ?_; go_frame
      refine hyN (some 45) 38 rfl hHeld ?_; go_frame
      refine hyN (some 46) 39 rfl hHeld ?_; go_frame
      refine hyN (some 47) 40 rfl hHeld ?_; go_frame
      refine hyN (some 48) 41 rfl hHeld ?_; go_frame
      refine hyN (some 49) 42 rfl hHeld ?_; go_frame
      refine hyN (some 50) 43 rfl hHeld ?_; go_frame
      refine hyN (some 51) 44 rfl hHeld ?_; go_frame
      refine hyN (some 52) 45 rfl hHeld ?_; go_frame
      refine hyN (some 53) 46 rfl hHeld ?_; go_frame
      refine hyN (some 54) 47 rfl hHeld ?_; go_frame
      refine hyN (some 55) 48 rfl hHeld ?_; go_frame
      refine hyY (some 56) 49 rfl hHeld ?_; go_frame
      refine hyY (some 57) 50 rfl hHeld ?_; go_frame
      refine hyY (some 6) 51 rfl hHeld ?_; go_frame
      refine wpAnyH_done (by kernel_rfl) ?_ _
      have hKK := HKK.out
      go_wp2_with fail
      go_ret
      exact ⟨rfl, 1, rfl⟩
    rw [decide_eq_false hn, Bool.false_or]
    rw [decide_eq_false hn] at ge
    have ge1 : ¬ zw.toList = [] := by rw [nil2] at ge; simpa using ge
    have ge2 : (zw.toList == []) = false := beq_eq_false_iff_ne.2 ge1
    have ge3 : zw.toList.isEmpty = false := by cases hq : zw.toList.isEmpty with
      | false => rfl
      | true => exact absurd (List.isEmpty_iff.1 hq) ge1
    obtain ⟨fb, hfb⟩ : ∃ fb, fb = decide (t.text = wd) := ⟨_, rfl⟩
    rw [← hfb] at gq ⊢
    clear hk htk hkk hwv hzw htv htt q0 q1 q4 c0 c1 hr he hfb
    subst gk
    cases fb with
    | true =>
      have gq2 : tt.toList = zw.toList := by simpa using gq
      go_enter Tryz.func41, Tryz.ntmps41
      go_wp2_with fail
      rename_i KK hKK
      have HKK := Lib.hid hKK
      clear hKK
      refine wp_region_held_drew (S := (fun W => W.cell? ⟨p, 0, none⟩ = some (.slice (some ⟨b, o, none⟩) ll c) ∧ W.cell? ⟨p, 1, none⟩ = some (.int .i64 (a : Int)) ∧ W.cell? ⟨p, 4, none⟩ = some (.int .i64 0) ∧ W.cell? ⟨b, o + a * 4, none⟩ = some (.int .i64 tk) ∧ W.cell? ⟨b, o + a * 4 + 1, none⟩ = some (.string tt))) (by kernel_rfl) hS (fun hHeld => ?_)
      refine hyY (some 7) 0 rfl hHeld ?_; go_frame
      refine hyY (some 8) 1 rfl hHeld ?_; go_frame
      refine hyY (some 9) 2 rfl hHeld ?_; go_frame
      refine hyY (some 10) 3 rfl hHeld ?_; go_frame
      refine hyY (some 11) 4 rfl hHeld ?_; go_frame
      refine hyY (some 12) 5 rfl hHeld ?_; go_frame
      refine hyY (some 13) 6 rfl hHeld ?_; go_frame
      refine hyY (some 14) 7 rfl hHeld ?_; go_frame
      refine hyY (some 15) 8 rfl hHeld ?_; go_frame
      refine hyY (some 16) 9 rfl hHeld ?_; go_frame
      refine hyY (some 17) 10 rfl hHeld ?_; go_frame
      refine hyY (some 18) 11 rfl hHeld ?_; go_frame
      refine hyY (some 19) 12 rfl hHeld ?_; go_frame
      refine hyY (some 20) 13 rfl hHeld ?_; go_frame
      refine hyY (some 21) 14 rfl hHeld ?_; go_frame
      refine hyY (some 22) 15 rfl hHeld ?_; go_frame
      refine hyY (some 23) 16 rfl hHeld ?_; go_frame
      refine hyY (some 24) 17 rfl hHeld ?_; go_frame
      refine hyY (some 25) 18 rfl hHeld ?_; go_frame
      refine hyY (some 26) 19 rfl hHeld ?_; go_frame
      refine hyY (some 27) 20 rfl hHeld ?_; go_frame
      refine hyY (some 28) 21 rfl hHeld ?_; go_frame
      refine hyY (some 29) 22 rfl hHeld ?_; go_frame
      refine hyY (some 30) 23 rfl hHeld ?_; go_frame
      refine hyY (some 31) 24 rfl hHeld ?_; go_frame
      refine hyY (some 32) 25 rfl hHeld ?_; go_frame
      refine hyY (some 33) 26 rfl hHeld ?_; go_frame
      refine hyY (some 34) 27 rfl hHeld ?_; go_frame
      refine hyY (some 35) 28 rfl hHeld ?_; go_frame
      refine hyY (some 36) 29 rfl hHeld ?_; go_frame
      refine hyY (some 37) 30 rfl hHeld ?_; go_frame
      refine hyY (some 38) 31 rfl hHeld ?_; go_frame
      refine hyY (some 39) 32 rfl hHeld ?_; go_frame
      refine hyY (some 40) 33 rfl hHeld ?_; go_frame
      refine hyY (some 41) 34 rfl hHeld ?_; go_frame
      refine hyY (some 42) 35 rfl hHeld ?_; go_frame
      refine hyY (some 43) 36 rfl hHeld ?_; go_frame
      refine hyY (some 44) 37 rfl hHeld ?_; go_frame
      refine hyY (some 45) 38 rfl hHeld ?_; go_frame
      refine hyY (some 46) 39 rfl hHeld ?_; go_frame
      refine hyY (some 47) 40 rfl hHeld ?_; go_frame
      refine hyY (some 48) 41 rfl hHeld ?_; go_frame
      refine hyY (some 49) 42 rfl hHeld ?_; go_frame
      refine hyY (some 50) 43 rfl hHeld ?_; go_frame
      refine hyY (some 51) 44 rfl hHeld ?_; go_frame
      refine hyY (some 52) 45 rfl hHeld ?_; go_frame
      refine hyY (some 53) 46 rfl hHeld ?_; go_frame
      refine hyY (some 54) 47 rfl hHeld ?_; go_frame
      refine hyY (some 55) 48 rfl hHeld ?_; go_frame
      refine hyY (some 56) 49 rfl hHeld ?_; go_frame
      refine hyY (some 57) 50 rfl hHeld ?_; go_frame
      refine hyY (some 6) 51 rfl hHeld ?_; go_frame
      refine wpAnyH_done (by kernel_rfl) ?_ _
      have hKK := HKK.out
      go_wp2_with fail
      go_ret
      exact ⟨rfl, 1, rfl⟩
    | false =>
      have gq2 : ¬ tt.toList = zw.toList := by simpa using gq
      go_enter Tryz.func41, Tryz.ntmps41
      go_wp2_with fail
      rename_i KK hKK
      have HKK := Lib.hid hKK
      clear hKK
      refine wp_region_held_drew (S := (fun W => W.cell? ⟨p, 0, none⟩ = some (.slice (some ⟨b, o, none⟩) ll c) ∧ W.cell? ⟨p, 1, none⟩ = some (.int .i64 (a : Int)) ∧ W.cell? ⟨p, 4, none⟩ = some (.int .i64 0) ∧ W.cell? ⟨b, o + a * 4, none⟩ = some (.int .i64 tk) ∧ W.cell? ⟨b, o + a * 4 + 1, none⟩ = some (.string tt))) (by kernel_rfl) hS (fun hHeld => ?_)
      refine hyY (some 7) 0 rfl hHeld ?_; go_frame
      refine hyY (some 8) 1 rfl hHeld ?_; go_frame
      refine hyY (some 9) 2 rfl hHeld ?_; go_frame
      refine hyY (some 10) 3 rfl hHeld ?_; go_frame
      refine hyY (some 11) 4 rfl hHeld ?_; go_frame
      refine hyY (some 12) 5 rfl hHeld ?_; go_frame
      refine hyY (some 13) 6 rfl hHeld ?_; go_frame
      refine hyY (some 14) 7 rfl hHeld ?_; go_frame
      refine hyY (some 15) 8 rfl hHeld ?_; go_frame
      refine hyY (some 16) 9 rfl hHeld ?_; go_frame
      refine hyY (some 17) 10 rfl hHeld ?_; go_frame
      refine hyY (some 18) 11 rfl hHeld ?_; go_frame
      refine hyY (some 19) 12 rfl hHeld ?_; go_frame
      refine hyY (some 20) 13 rfl hHeld ?_; go_frame
      refine hyY (some 21) 14 rfl hHeld ?_; go_frame
      refine hyY (some 22) 15 rfl hHeld ?_; go_frame
      refine hyY (some 23) 16 rfl hHeld ?_; go_frame
      refine hyY (some 24) 17 rfl hHeld ?_; go_frame
      refine hyY (some 25) 18 rfl hHeld ?_; go_frame
      refine hyY (some 26) 19 rfl hHeld ?_; go_frame
      refine hyY (some 27) 20 rfl hHeld ?_; go_frame
      refine hyY (some 28) 21 rfl hHeld ?_; go_frame
      refine hyY (some 29) 22 rfl hHeld ?_; go_frame
      refine hyY (some 30) 23 rfl hHeld ?_; go_frame
      refine hyY (some 31) 24 rfl hHeld ?_; go_frame
      refine hyY (some 32) 25 rfl hHeld ?_; go_frame
      refine hyY (some 33) 26 rfl hHeld ?_; go_frame
      refine hyY (some 34) 27 rfl hHeld ?_; go_frame
      refine hyY (some 35) 28 rfl hHeld ?_; go_frame
      refine hyY (some 36) 29 rfl hHeld ?_; go_frame
      refine hyY (some 37) 30 rfl hHeld ?_; go_frame
      refine hyY (some 38) 31 rfl hHeld ?_; go_frame
      refine hyY (some 39) 32 rfl hHeld ?_; go_frame
      refine hyY (some 40) 33 rfl hHeld ?_; go_frame
      refine hyY (some 41) 34 rfl hHeld ?_; go_frame
      refine hyY (some 42) 35 rfl hHeld ?_; go_frame
      refine hyY (some 43) 36 rfl hHeld ?_; go_frame
      refine hyY (some 44) 37 rfl hHeld ?_; go_frame
      refine hyY (some 45) 38 rfl hHeld ?_; go_frame
      refine hyY (some 46) 39 rfl hHeld ?_; go_frame
      refine hyY (some 47) 40 rfl hHeld ?_; go_frame
      refine hyY (some 48) 41 rfl hHeld ?_; go_frame
      refine hyY (some 49) 42 rfl hHeld ?_; go_frame
      refine hyY (some 50) 43 rfl hHeld ?_; go_frame
      refine hyY (some 51) 44 rfl hHeld ?_; go_frame
      refine hyY (some 52) 45 rfl hHeld ?_; go_frame
      refine hyY (some 53) 46 rfl hHeld ?_; go_frame
      refine hyY (some 54) 47 rfl hHeld ?_; go_frame
      refine hyY (some 55) 48 rfl hHeld ?_; go_frame
      refine hyY (some 56) 49 rfl hHeld ?_; go_frame
      refine hyY (some 57) 50 rfl hHeld ?_; go_frame
      refine hyY (some 6) 51 rfl hHeld ?_; go_frame
      refine wpAnyH_done (by kernel_rfl) ?_ _
      have hKK := HKK.out
      go_wp2_with fail
      go_ret
      exact ⟨rfl, 1, rfl⟩
end
end Go.Proofs.YthindhlogkhclaaGreatDoor
