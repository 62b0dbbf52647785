/-
  DeriveClosesW: DeriveCloses: the closure of every terms: the law's walk. No condition but that the table lies as the row says.
-/
import Derived.Test.YthgaljgelngmaaaDoorDv44
import Derived.Test.YthgaljgelngmaaaDoorDv45
import Derived.Test.YthgaljgelngmaaaDoorDv01

section
namespace Go.Proofs.YthgaljgelngmaaaDoor
open Go.RowKit
set_option linter.unusedVariables false

theorem errT_64 (f : Nat) (l : List (Tm f)) : I64 (errT f l) := by
  unfold I64
  rcases errT_cases f l with h | h | h <;> omega

/-- Two lists in memory that read as the same terms are the same. -/
theorem sameAll_ks (f : Nat) (l : List (Tm f)) (v v' : Value) (w : World) (hu : KS w (fun b => b < w.heap.size) (TM w (fun b => b < w.heap.size) f) v l) (hk : KS w (fun b => b < w.heap.size) (TM w (fun b => b < w.heap.size) f) v' l) :
    Calls Tryd.prog 10 #[v, v'] w fun e w' => e = .returned (.bool true) ∧ Below w.heap.size w w' := by
  have hU : KU w (fun b => b < w.heap.size) v (l.map fun t => (⟨f, t⟩ : UT)) := KS.map (fun t => (⟨f, t⟩ : UT)) hu (Nat.le_refl _) (fun _ _ _ => rfl) (fun _ h => h) fun t c0 c1 c2 c3 h => h
  refine sameAll_yes _ _ f _ l v v' w hU hk ?_
  have : ∀ l : List (Tm f), RL (fun (u : UT) (x : Tm f) => sim u.1 f u.2 x) (l.map fun t => (⟨f, t⟩ : UT)) l := by
    intro l
    induction l with
    | nil => trivial
    | cons t l ih => exact ⟨sim_refl f t, ih⟩
  exact this l
theorem closed_ks {f : Nat} {l : List (Tm f)} {w w' : World} {u : Value} {E : Int} (h : Closed f l w u E) (hb : Below w.heap.size w w') : ∃ ks : List (Tm f), (ks = if E = 0 then cloT f l else []) ∧ KS w' (fun b => b < w'.heap.size) (TM w' (fun b => b < w'.heap.size) f) u ks := by
  refine ⟨_, rfl, ?_⟩
  by_cases hE : E = 0
  · rw [if_pos hE]
    have := KS.map (w' := w') (S' := fun b => b < w'.heap.size) (E' := TM w' (fun b => b < w'.heap.size) f) id (h.1 hE) hb.size (fun b hl _ => hb.block b hl) (fun b hl => Nat.lt_of_lt_of_le hl hb.size) fun u d0 d1 d2 d3 hu => TM.keepS f u d0 d1 d2 d3 hu hb.size (fun b hl _ => hb.block b hl) fun b hl => Nat.lt_of_lt_of_le hl hb.size
    rwa [List.map_id] at this
  · rw [if_neg hE]
    have := h.2 hE
    subst this
    exact ⟨none, 0, rfl, by simp, by simp [maxLen], fun _ => rfl, fun h => absurd h (by simp)⟩
theorem ks_form {w : World} {S : Nat → Prop} {f : Nat} {v : Value} {ks : List (Tm f)} (h : KS w S (TM w S f) v ks) : ∃ A n c, v = .slice A n c := by
  obtain ⟨A, c, e, _⟩ := h
  exact ⟨A, _, c, e⟩

set_option maxHeartbeats 4000000 in
theorem deriveCloses_any (S : Nat → Prop) (f : Nat) (l : List (Tm f)) (v : Value) (w : World) (hS : ∀ b, S b → b < w.heap.size) (hsh : Shp w) (hl : KS w S (TM w S f) v l) :
    Calls Tryd.prog 3 #[v] w fun e w' => e = .returned (.bool true) ∧ Below w.heap.size w w' := by
  have hsm := small6_any S f l v w hl
  obtain ⟨A, c, rfl, _⟩ := id hl
  go_enter Tryd.func3, Tryd.ntmps3
  go_wp2_with fail
  refine hsm.mono ?_
  rintro e w1 ⟨b, rfl, _, b1⟩
  clear hsm
  have hl1 := hl.keep b1.size fun b _ hb => b1.block b hb
  have hsh1 := hsh.below b1
  have hS1 := fun b hb => Nat.lt_of_lt_of_le (hS b hb) b1.size
  cases b with
  | false =>
    clear hl hl1
    go_wp2_with fail
    refine (dlive_any w1 hsh1).mono ?_
    rintro e w2 ⟨rfl, b2⟩
    have B2 := b1.trans (b2.mono b1.size)
    go_wp2_with fail
    go_ret
    exact ⟨rfl, B2⟩
  | true =>
    have hc := closure_any S f l (.slice A l.length c) w1 hS1 hsh1 hl1
    have hE64 := errT_64 f l
    have HR := Lib.hid (fun (w2 : World) (b2 : Below w1.heap.size w1 w2) => rclosure_any S f l (.slice A l.length c) w2 (fun b hb => Nat.lt_of_lt_of_le (hS1 b hb) b2.size) (hl1.keep b2.size fun b _ hb => b2.block b hb))
    generalize errT f l = E at *
    clear hl hl1
    go_wp2_with fail
    refine hc.mono ?_
    rintro e w2 ⟨u, rfl, hcl, b2⟩
    have B2 := b1.trans (b2.mono b1.size)
    have hr := HR.out w2 b2
    have hsh2 := hsh1.below b2
    clear hc HR
    go_wp2_with fail
    refine hr.mono ?_
    rintro e w3 ⟨u', rfl, hcl', b3⟩
    have B3 := B2.trans (b3.mono B2.size)
    have hsh3 := hsh2.below b3
    obtain ⟨ks, hks, k1⟩ := closed_ks hcl b3
    obtain ⟨ks', hks', k2⟩ := closed_ks hcl' (Below.refl _ _)
    rw [← hks] at hks'
    subst hks'
    have hsa := sameAll_ks f _ u u' w3 k1 k2
    obtain ⟨A1, n1, c1, rfl⟩ := ks_form k1
    obtain ⟨A2, n2, c2, rfl⟩ := ks_form k2
    clear hr hcl hcl' k1 k2
    go_wp2_with fail
    refine hsa.mono ?_
    rintro e w4 ⟨rfl, b4⟩
    have B4 := B3.trans (b4.mono B3.size)
    have hsh4 := hsh3.below b4
    clear hsa
    go_wp2_with fail
    refine (num6_any E w4 hE64).mono ?_
    rintro e w5 ⟨rfl, rfl⟩
    go_wp2_with fail
    refine (dlive_any w4 hsh4).mono ?_
    rintro e w6 ⟨rfl, b6⟩
    have B6 := B4.trans (b6.mono B4.size)
    go_wp2_with fail
    go_ret
    exact ⟨rfl, B6⟩

theorem deriveCloses_law {H : Type} (enc : TypeId × Value → H) (W : World) (base : Nat) (hsh : Shp W) (v0 : Value) (d0 : DataW H) (p0 : List MemPlace) (hv0 : Value.okWide Tryd.prog W .any base 22 v0) (h0 : DataW.Trod enc Tryd.prog W 0 (fun _ => true) true 22 v0 d0 p0) :
    Calls Tryd.prog 3 #[v0] W fun e w' => e = .returned (.bool true) ∧ Below W.heap.size W w' := by
  obtain ⟨n, hn⟩ := open_terms hv0 h0
  obtain ⟨ks, hk⟩ := hn n (Nat.le_refl _)
  exact deriveCloses_any _ n ks v0 W (fun b h => h) hsh hk
end Go.Proofs.YthgaljgelngmaaaDoor
end
