/-
  Which inodes may be: the document's May (layer 12), over the loaded program. No condition but sizes that the contract names.
-/
import Derived.Test.YtgahnjhibpcbaaaInR
namespace Go.Proofs.Ytgahnjhibpcbaaa
open Go.RowKit
set_option maxRecDepth 100000
set_option linter.unusedVariables false

set_option maxHeartbeats 1000000 in
theorem may_name {X : Value} {nm : List UInt8} {z n : Int} {A : Option Addr} {L : List Int} {c : Nat} (w : World) (hX : X = strV nm) (hnl : nm.length ≤ maxLen) (hz : I64 z) (hL : IS w (fun b => b < w.heap.size) (.slice A L.length c) L) (hc : L.length ≤ c) (hcm : c ≤ maxLen) (h1 : nameS nm = false) :
    Calls Try.prog 23 #[.agg #[X, .int .i64 z, .slice A L.length c], .int .i64 n] w fun e w' => e = .returned (.bool false) ∧ Below w.heap.size w w' := by
  have hname := rname_any nm hnl
  rw [← hX] at hname
  have B0 := (Below.refl w.heap.size w).alloc (Nat.le_refl _) (.cells #[X, .int .i64 z, .slice A L.length c] 24)
  rw [h1] at hname
  clear hX
  go_enter Try.func23, Try.ntmps23
  go_wp2_with (go_at_call 14; refine (hname _).mono ?_; rintro e w' ⟨rfl, rfl⟩)
  go_ret
  exact ⟨rfl, B0⟩

set_option maxHeartbeats 1000000 in
theorem may_below {X : Value} {nm : List UInt8} {z n : Int} {A : Option Addr} {L : List Int} {c : Nat} (w : World) (hX : X = strV nm) (hnl : nm.length ≤ maxLen) (hz : I64 z) (hL : IS w (fun b => b < w.heap.size) (.slice A L.length c) L) (hc : L.length ≤ c) (hcm : c ≤ maxLen) (h1 : nameS nm = true) (h2 : n < 0) :
    Calls Try.prog 23 #[.agg #[X, .int .i64 z, .slice A L.length c], .int .i64 n] w fun e w' => e = .returned (.bool false) ∧ Below w.heap.size w w' := by
  have hname := rname_any nm hnl
  rw [← hX] at hname
  have B0 := (Below.refl w.heap.size w).alloc (Nat.le_refl _) (.cells #[X, .int .i64 z, .slice A L.length c] 24)
  rw [h1] at hname
  have E0 : decide (n < 0) = true := decide_eq_true (by omega)
  clear hX
  go_enter Try.func23, Try.ntmps23
  go_wp2_with (go_at_call 14; refine (hname _).mono ?_; rintro e w' ⟨rfl, rfl⟩)
  go_ret
  exact ⟨rfl, B0⟩

set_option maxHeartbeats 1000000 in
theorem may_over {X : Value} {nm : List UInt8} {z n : Int} {A : Option Addr} {L : List Int} {c : Nat} (w : World) (hX : X = strV nm) (hnl : nm.length ≤ maxLen) (hz : I64 z) (hL : IS w (fun b => b < w.heap.size) (.slice A L.length c) L) (hc : L.length ≤ c) (hcm : c ≤ maxLen) (h1 : nameS nm = true) (h2 : ¬ n < 0) (h3 : 1024 < n) :
    Calls Try.prog 23 #[.agg #[X, .int .i64 z, .slice A L.length c], .int .i64 n] w fun e w' => e = .returned (.bool false) ∧ Below w.heap.size w w' := by
  have hname := rname_any nm hnl
  rw [← hX] at hname
  have B0 := (Below.refl w.heap.size w).alloc (Nat.le_refl _) (.cells #[X, .int .i64 z, .slice A L.length c] 24)
  rw [h1] at hname
  have E0 : decide (n < 0) = false := decide_eq_false (by omega)
  have E1 : decide ((1024 : Int) < n) = true := decide_eq_true (by omega)
  clear hX
  go_enter Try.func23, Try.ntmps23
  go_wp2_with (go_at_call 14; refine (hname _).mono ?_; rintro e w' ⟨rfl, rfl⟩)
  go_ret
  exact ⟨rfl, B0⟩

set_option maxHeartbeats 1000000 in
theorem may_neg {X : Value} {nm : List UInt8} {z n : Int} {A : Option Addr} {L : List Int} {c : Nat} (w : World) (hX : X = strV nm) (hnl : nm.length ≤ maxLen) (hz : I64 z) (hL : IS w (fun b => b < w.heap.size) (.slice A L.length c) L) (hc : L.length ≤ c) (hcm : c ≤ maxLen) (h1 : nameS nm = true) (h2 : ¬ n < 0) (h3 : ¬ 1024 < n) (h4 : z < 0) :
    Calls Try.prog 23 #[.agg #[X, .int .i64 z, .slice A L.length c], .int .i64 n] w fun e w' => e = .returned (.bool false) ∧ Below w.heap.size w w' := by
  have hname := rname_any nm hnl
  rw [← hX] at hname
  have B0 := (Below.refl w.heap.size w).alloc (Nat.le_refl _) (.cells #[X, .int .i64 z, .slice A L.length c] 24)
  rw [h1] at hname
  have E0 : decide (n < 0) = false := decide_eq_false (by omega)
  have E1 : decide ((1024 : Int) < n) = false := decide_eq_false (by omega)
  have E2 : decide (z < 0) = true := decide_eq_true (by omega)
  clear hX
  go_enter Try.func23, Try.ntmps23
  go_wp2_with (go_at_call 14; refine (hname _).mono ?_; rintro e w' ⟨rfl, rfl⟩)
  go_ret
  exact ⟨rfl, B0⟩

set_option maxHeartbeats 1000000 in
theorem may_great {X : Value} {nm : List UInt8} {z n : Int} {A : Option Addr} {L : List Int} {c : Nat} (w : World) (hX : X = strV nm) (hnl : nm.length ≤ maxLen) (hz : I64 z) (hL : IS w (fun b => b < w.heap.size) (.slice A L.length c) L) (hc : L.length ≤ c) (hcm : c ≤ maxLen) (h1 : nameS nm = true) (h2 : ¬ n < 0) (h3 : ¬ 1024 < n) (h4 : ¬ z < 0) (h5 : 24576 < z) :
    Calls Try.prog 23 #[.agg #[X, .int .i64 z, .slice A L.length c], .int .i64 n] w fun e w' => e = .returned (.bool false) ∧ Below w.heap.size w w' := by
  have hname := rname_any nm hnl
  rw [← hX] at hname
  have B0 := (Below.refl w.heap.size w).alloc (Nat.le_refl _) (.cells #[X, .int .i64 z, .slice A L.length c] 24)
  rw [h1] at hname
  have E0 : decide (n < 0) = false := decide_eq_false (by omega)
  have E1 : decide ((1024 : Int) < n) = false := decide_eq_false (by omega)
  have E2 : decide (z < 0) = false := decide_eq_false (by omega)
  have E3 : decide ((24576 : Int) < z) = true := decide_eq_true (by omega)
  clear hX
  go_enter Try.func23, Try.ntmps23
  go_wp2_with (go_at_call 14; refine (hname _).mono ?_; rintro e w' ⟨rfl, rfl⟩)
  go_ret
  exact ⟨rfl, B0⟩

set_option maxHeartbeats 1000000 in
theorem may_bits {X : Value} {nm : List UInt8} {z n : Int} {A : Option Addr} {L : List Int} {c : Nat} (w : World) (hX : X = strV nm) (hnl : nm.length ≤ maxLen) (hz : I64 z) (hL : IS w (fun b => b < w.heap.size) (.slice A L.length c) L) (hc : L.length ≤ c) (hcm : c ≤ maxLen) (h1 : nameS nm = true) (h2 : ¬ n < 0) (h3 : ¬ 1024 < n) (h4 : ¬ z < 0) (h5 : ¬ 24576 < z) :
    Calls Try.prog 23 #[.agg #[X, .int .i64 z, .slice A L.length c], .int .i64 n] w fun e w' => e = .returned (.bool ((bitsS L n).2 && decide ((L.length : Int) = pagesS z))) ∧ Below w.heap.size w w' := by
  have hname := rname_any nm hnl
  rw [← hX] at hname
  have B0 := (Below.refl w.heap.size w).alloc (Nat.le_refl _) (.cells #[X, .int .i64 z, .slice A L.length c] 24)
  rw [h1] at hname
  have E0 : decide (n < 0) = false := decide_eq_false (by omega)
  have E1 : decide ((1024 : Int) < n) = false := decide_eq_false (by omega)
  have E2 : decide (z < 0) = false := decide_eq_false (by omega)
  have E3 : decide ((24576 : Int) < z) = false := decide_eq_false (by omega)
  have hbits := fun W h => rbits_any (.slice A L.length c) L n W h
  have hL1 := (hL.alloc (.cells #[X, .int .i64 z, .slice A L.length c] 24)).mono (S' := fun b => b < (w.alloc (.cells #[X, .int .i64 z, .slice A L.length c] 24)).heap.size) fun b hb => by simp; omega
  have K0 := KB.new w 24 #[X, .int .i64 z, .slice A L.length c]
  have hpages := fun W => (rpages_any z hz W).mono fun e w' h => (⟨h.1, h.2.symm⟩ : e = .returned (.int .i64 (pagesS z)) ∧ w' = W)
  have hp : decide ((L.length : Int) = pagesS z) = ((L.length : Int) == pagesS z) := by
    by_cases h : (L.length : Int) = pagesS z
    · rw [decide_eq_true h]; exact (beq_iff_eq.2 h).symm
    · rw [decide_eq_false h]; exact (beq_eq_false_iff_ne.2 h).symm
  rw [hp]
  clear hp hL
  generalize bitsS L n = r at hbits ⊢
  obtain ⟨rb, rok⟩ := r
  generalize pagesS z = P at hpages ⊢
  clear hX
  go_enter Try.func23, Try.ntmps23
  go_wp2_with (go_at_call 14; refine (hname _).mono ?_; rintro e w' ⟨rfl, rfl⟩)
  generalize w.alloc (.cells #[X, .int .i64 z, .slice A L.length c] 24) = w1 at B0 hL1 K0 ⊢
  refine (hbits _ hL1).mono ?_
  rintro e w2 ⟨v2, rfl, _, b2⟩
  have K2 := K0.below b2 K0.lt
  have B2 := B0.trans (b2.mono B0.size)
  have c1 : w2.cell? ⟨w.heap.size, 1, none⟩ = some (.int .i64 z) := K2.cell 1
  have c2 : w2.cell? ⟨w.heap.size, 2, none⟩ = some (.slice A L.length c) := K2.cell 2
  clear b2 K0 B0 hL1 hbits hname K2
  cases rok with
  | false =>
    go_wp2_with fail
    go_quiet (fail)
    have B3 := Below_drawn B2 nq
    go_wp2
    go_ret
    exact ⟨rfl, B3⟩
  | true =>
    go_wp2_with fail
    go_quiet (first | (go_at_call 48; exact Calls.quiet_of_same (hpages _)) | fail)
    have B3 := Below_drawn B2 nq
    go_wp2
    go_ret
    exact ⟨rfl, B3⟩

/-- May. -/
theorem may_any (v : Value) (x : Ino) (n : Int) (w : World) (h : IV w (fun b => b < w.heap.size) v x) :
    Calls Try.prog 23 #[v, .int .i64 n] w fun e w' => e = .returned (.bool (fitS x n)) ∧ Below w.heap.size w w' := by
  obtain ⟨a, rfl, ha, hz, hl⟩ := h
  obtain ⟨A, c, rfl, hc, hcm, _⟩ := ha.form
  have hno : ¬ fitS x n = true → fitS x n = false := fun h => by simpa using h
  rw [fit_iff] at hno
  cases h1 : nameS x.name with
  | false =>
    rw [hno fun h => by rw [h.1] at h1; cases h1]
    exact may_name w rfl hl hz ha hc hcm h1
  | true =>
    by_cases h2 : n < 0
    · rw [hno fun h => by omega]
      exact may_below w rfl hl hz ha hc hcm h1 h2
    · by_cases h3 : 1024 < n
      · rw [hno fun h => by omega]
        exact may_over w rfl hl hz ha hc hcm h1 h2 h3
      · by_cases h4 : x.size < 0
        · rw [hno fun h => by omega]
          exact may_neg w rfl hl hz ha hc hcm h1 h2 h3 h4
        · by_cases h5 : 24576 < x.size
          · rw [hno fun h => by omega]
            exact may_great w rfl hl hz ha hc hcm h1 h2 h3 h4 h5
          · have e : fitS x n = ((bitsS x.at_ n).2 && decide ((x.at_.length : Int) = pagesS x.size)) := by
              unfold fitS
              rw [h1, decide_eq_true (p := 0 ≤ n ∧ n ≤ 1024) ⟨by omega, by omega⟩, decide_eq_true (p := 0 ≤ x.size ∧ x.size ≤ 24576) ⟨by omega, by omega⟩, Bool.true_and, Bool.true_and, Bool.true_and, Bool.and_comm]
            rw [e]
            exact may_bits w rfl hl hz ha hc hcm h1 h2 h3 h4 h5
end Go.Proofs.Ytgahnjhibpcbaaa
