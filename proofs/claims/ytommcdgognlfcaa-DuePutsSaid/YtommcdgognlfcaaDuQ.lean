/-
  The program's Miles and Put, the document's Miles, Put and SameMiles (layer 19), over the loaded program: each one's contract. No condition but what each theorem names.
-/
import Derived.Test.YtommcdgognlfcaaDuO
import Derived.Test.YtommcdgognlfcaaBase
namespace Go.Proofs.Ytommcdgognlfcaa
open Go.RowKit
set_option maxRecDepth 100000
set_option linter.unusedVariables false

/-- Two slices in a row of slices. -/
theorem two_lists (w : World) (a b : Value) (t : TypeId) : KB (w.alloc (.cells #[a, b] t)) w.heap.size t #[a, b] := KB.new w t #[a, b]

set_option maxHeartbeats 4000000 in
/-- The program's Miles. -/
theorem miles19_any (S : Nat → Prop) (a0 a1 a2 a3 cid : ByteArray) (t st : Int) (ht : I64 t) (vm : Value) (ms : List Ml) (w : World) (hm : ML w S vm ms) (hl : ms.length ≤ 50) (hn : ∀ m ∈ ms, m.1.length ≤ 140737488355328) :
    Calls Try.prog 15 #[.agg #[.string a0, .string a1, .string a2, .string a3, .int .i64 t, .int .i64 st], .agg #[.string cid, vm]] w (OwnMs w (milesM t ms)) := by
  obtain ⟨Am, capm, rfl, hlm, hmm⟩ := hm.form
  obtain ⟨w2, hw2⟩ : ∃ w2, w2 = (w.alloc (.cells #[.string a0, .string a1, .string a2, .string a3, .int .i64 t, .int .i64 st] 33)).alloc (.cells #[.string cid, .slice Am ms.length capm] 35) := ⟨_, rfl⟩
  obtain ⟨w3, hw3⟩ : ∃ w3, w3 = w2.alloc (.cells #[.string ⟨#[105, 110, 103, 101, 115, 116]⟩, .int .i64 t] 43) := ⟨_, rfl⟩
  obtain ⟨w4, hw4⟩ : ∃ w4, w4 = w3.alloc (.cells #[.slice (some ⟨w.heap.size + 2, 0, none⟩) 1 1, .slice Am ms.length capm] 25) := ⟨_, rfl⟩
  have s2 : w2.heap.size = w.heap.size + 2 := by rw [hw2]; simp
  have s3 : w3.heap.size = w.heap.size + 3 := by rw [hw3]; simp [s2]
  have s4 : w4.heap.size = w.heap.size + 4 := by rw [hw4]; simp [s3]
  have B2 : Below w.heap.size w w2 := by rw [hw2]; exact ((Below.refl _ _).alloc (Nat.le_refl _) _).alloc (by simp) _
  have B3 : Below w.heap.size w w3 := by rw [hw3]; exact B2.alloc (by omega) _
  have B4 : Below w.heap.size w w4 := by rw [hw4]; exact B3.alloc (by omega) _
  have km : KB w3 (w.heap.size + 2) 43 #[.string ⟨#[105, 110, 103, 101, 115, 116]⟩, .int .i64 t] := by
    have := KB.new w2 43 #[.string ⟨#[105, 110, 103, 101, 115, 116]⟩, .int .i64 t]
    rw [← hw3, s2] at this; exact this
  have kl : KB w4 (w.heap.size + 3) 25 #[.slice (some ⟨w.heap.size + 2, 0, none⟩) 1 1, .slice Am ms.length capm] := by
    have := KB.new w3 25 #[.slice (some ⟨w.heap.size + 2, 0, none⟩) 1 1, .slice Am ms.length capm]
    rw [← hw4, s3] at this; exact this
  have h1 : ML w4 (fun b => b = w.heap.size + 2) (.slice (some ⟨w.heap.size + 2, 0, none⟩) 1 1) [([105, 110, 103, 101, 115, 116], t)] := by
    have k4 : KB w4 (w.heap.size + 2) 43 #[.string ⟨#[105, 110, 103, 101, 115, 116]⟩, .int .i64 t] := by rw [hw4]; exact km.alloc _
    exact ml_one (m := ([105, 110, 103, 101, 115, 116], t)) k4 rfl ht (by show (6 : Nat) ≤ maxLen; unfold maxLen; omega)
  have hh := ownm_any (w.heap.size + 3) _ S _ _ _ _ [([105, 110, 103, 101, 115, 116], t)] ms w4 kl h1 (hm.below' B4) (by simp) (by omega) (fun m hx => by
    cases hx with
    | head => show (6 : Nat) ≤ _; omega
    | tail _ hx => exact hn m hx)
  obtain ⟨D, hD⟩ : ∃ D, D = OwnMs w (milesM t ms) := ⟨_, rfl⟩
  rw [← hD]
  have HD : Hid (∀ v W, W.ownsRow w4.heap.size 43 2 v ([([105, 110, 103, 101, 115, 116], t)] ++ ms).length (flatM ([([105, 110, 103, 101, 115, 116], t)] ++ ms)) → Below w4.heap.size w4 W → D (.returned v) W) := fun v W h1 h2 => by
    rw [hD]; exact ⟨v, rfl, own_base h1 (by omega), B4.trans (h2.mono (by omega))⟩
  have HW : Hid (w4 = ((((w.alloc (.cells #[.string a0, .string a1, .string a2, .string a3, .int .i64 t, .int .i64 st] 33)).alloc (.cells #[.string cid, .slice Am ms.length capm] 35)).alloc (.cells #[.string ⟨#[105, 110, 103, 101, 115, 116]⟩, .int .i64 t] 43)).alloc (.cells #[.slice (some ⟨w.heap.size + 2, 0, none⟩) 1 1, .slice Am ms.length capm] 25))) := by show _ = _; rw [hw4, hw3, hw2]
  have HH := Lib.hid hh
  clear hh hD h1 km kl hw2 hw3 hw4 s2 s3 B2 B3 B4 hn hm
  go_enter Try.func15, Try.ntmps15
  go_wp2_with fail
  rw [← HW.out]
  have hh := HH.out
  clear HH
  refine hh.mono ?_
  rintro e w5 ⟨v, rfl, how, b5⟩
  have hfin := HD.out v w5 how b5
  clear hh HW HD how b5
  go_wp2_with fail
  exact hfin

/-- What Put answers. -/
def PutAs (w : World) (r : List Ml × Bool) (e : Ending) (w' : World) : Prop := ∃ v, e = .returned (.tuple #[v, .bool r.2]) ∧ ML w' (fun b => w.heap.size ≤ b ∧ b < w'.heap.size) v r.1 ∧ Below w.heap.size w w'
set_option maxHeartbeats 4000000 in
/-- The program's Put. -/
theorem put19_any (S : Nat → Prop) (m : Ml) (hmi : I64 m.2) (hml : m.1.length ≤ 140737488355328) (vm : Value) (ms : List Ml) (w : World) (hm : ML w S vm ms) (hl : ms.length ≤ 50) (hn : ∀ m ∈ ms, m.1.length ≤ 140737488355328) :
    Calls Try.prog 17 #[vm, .agg #[strV m.1, .int .i64 m.2]] w (PutAs w (putM ms m)) := by
  have hgood := ml_good hm
  obtain ⟨Am, capm, rfl, hlm, hmm⟩ := hm.form
  obtain ⟨D, hD⟩ : ∃ D, D = PutAs w (putM ms m) := ⟨_, rfl⟩
  rw [← hD]
  have HNO : Hid ((8 ≤ ms.length ∨ 0 ≤ placeM ms m.1) → ∀ W, Below w.heap.size w W → D (.returned (.tuple #[.slice none 0 0, .bool false])) W) := fun h W hb => by
    rw [hD, put_place, if_pos h]; exact ⟨_, rfl, ML.nil _ _, hb⟩
  have HYES : Hid (¬ (8 ≤ ms.length ∨ 0 ≤ placeM ms m.1) → ∀ v W, W.ownsRow w.heap.size 43 2 v (ms ++ [m]).length (flatM (ms ++ [m])) → Below w.heap.size w W → D (.returned (.tuple #[v, .bool true])) W) := fun h v W ho hb => by
    rw [hD, put_place, if_neg h]
    exact ⟨_, rfl, ML_own ho fun x hx => by
      rcases List.mem_append.1 hx with hx | hx
      · exact hgood x hx
      · rw [List.mem_singleton] at hx
        rw [hx]; exact ⟨hmi, by unfold maxLen; omega⟩, hb⟩
  clear hD hgood
  obtain ⟨w1, hw1⟩ : ∃ w1, w1 = w.alloc (.cells #[strV m.1, .int .i64 m.2] 43) := ⟨_, rfl⟩
  have s1 : w1.heap.size = w.heap.size + 1 := by rw [hw1]; simp
  have B1 : Below w.heap.size w w1 := by rw [hw1]; exact (Below.refl _ _).alloc (Nat.le_refl _) _
  have K1 : KB w1 w.heap.size 43 #[strV m.1, .int .i64 m.2] := by rw [hw1]; exact KB.new _ _ _
  have HP := Lib.hid (placem_any S ms m.1 _ w1 (hm.below' B1))
  have HOWN : Hid (∀ W, Below w.heap.size w W → Calls Try.prog 29 #[.slice (some ⟨W.heap.size + 1, 0, none⟩) 2 2] ((W.alloc (.cells #[strV m.1, .int .i64 m.2] 43)).alloc (.cells #[.slice Am ms.length capm, .slice (some ⟨W.heap.size, 0, none⟩) 1 1] 25)) fun e w' => ∃ v, e = .returned v ∧ w'.ownsRow w.heap.size 43 2 v (ms ++ [m]).length (flatM (ms ++ [m])) ∧ Below w.heap.size w w') := fun W hb => by
    have km := KB.new W 43 #[strV m.1, .int .i64 m.2]
    have kl := KB.new (W.alloc (.cells #[strV m.1, .int .i64 m.2] 43)) 25 #[.slice Am ms.length capm, .slice (some ⟨W.heap.size, 0, none⟩) 1 1]
    rw [World.size_alloc] at kl
    have hb2 : Below w.heap.size w ((W.alloc (.cells #[strV m.1, .int .i64 m.2] 43)).alloc (.cells #[.slice Am ms.length capm, .slice (some ⟨W.heap.size, 0, none⟩) 1 1] 25)) := (hb.alloc hb.size _).alloc (by have := hb.size; simp; omega) _
    have h1 := ml_one (S := fun b => b = W.heap.size) (m := m) (km.alloc (.cells #[.slice Am ms.length capm, .slice (some ⟨W.heap.size, 0, none⟩) 1 1] 25)) rfl hmi (by unfold maxLen; omega)
    refine (ownm_any (W.heap.size + 1) S _ _ _ _ _ ms [m] _ kl (hm.below' hb2) h1 (by omega) (by simp) (fun x hx => by
      rcases List.mem_append.1 hx with hx | hx
      · exact hn x hx
      · rw [List.mem_singleton] at hx; rw [hx]; exact hml)).mono ?_
    rintro e w' ⟨v, rfl, h2, h3⟩
    exact ⟨v, rfl, own_base h2 (by have := hb2.size; omega), hb2.trans (h3.mono hb2.size)⟩
  clear hm hn hml hmi
  have HW1 := Lib.hid hw1
  clear hw1
  generalize placeM ms m.1 = pl at *
  generalize m.2 = t at *
  unfold strV at *
  generalize (⟨m.1.toArray⟩ : ByteArray) = s at *
  go_enter Try.func17, Try.ntmps17
  by_cases h8 : 8 ≤ ms.length
  · have d : decide ((8 : Int) ≤ (ms.length : Int)) = true := decide_eq_true (by omega)
    have d' : decide (8 ≤ ms.length) = true := decide_eq_true h8
    have hfin := HNO.out (.inl h8) w1 B1
    clear HNO HYES HOWN HP
    go_wp2_with fail
    rw [← HW1.out]
    exact hfin
  · have d : decide ((8 : Int) ≤ (ms.length : Int)) = false := decide_eq_false (by omega)
    have d' : decide (8 ≤ ms.length) = false := decide_eq_false h8
    have hp := HP.out
    clear HP
    go_wp2_with fail
    rw [← HW1.out]
    refine hp.mono ?_
    rintro e w5 ⟨rfl, b5⟩
    have B5 := B1.trans (b5.mono B1.size)
    have K5 := K1.below b5 K1.lt
    clear hp b5 K1 B1
    have r0 := K5.cell 0
    have r1 := K5.cell 1
    by_cases hpl : 0 ≤ pl
    · have hfin := HNO.out (.inr hpl) w5 B5
      have e : decide (0 ≤ pl) = true := decide_eq_true hpl
      clear HNO HYES HOWN
      go_wp2_with fail
      exact hfin
    · have e : decide (0 ≤ pl) = false := decide_eq_false hpl
      have ho := HOWN.out w5 B5
      have HY := Lib.hid (HYES.out (fun h => h.elim h8 hpl))
      clear HNO HYES HOWN
      go_wp2_with fail
      refine ho.mono ?_
      rintro e w6 ⟨v, rfl, how, b6⟩
      have hfin := HY.out v w6 how b6
      clear ho HY how b6
      go_wp2_with fail
      exact hfin
end Go.Proofs.Ytommcdgognlfcaa
