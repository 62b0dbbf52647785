/-
  The law DueOf over the loaded program: when a record is due, for what, and which milestones it has, is told as the document says. No condition but that names are of a length that a machine can have.
-/
import Derived.Test.YtommcdgognlfcaaDuL
import Derived.Test.YtommcdgognlfcaaDuF
import Derived.Test.YtommcdgognlfcaaDuG
import Derived.Test.YtommcdgognlfcaaDuU
import Derived.Test.YtommcdgognlfcaaDuZ
namespace Go.Proofs.Ytommcdgognlfcaa
open Go.RowKit Go.ChangeShapes Go.WideShapes Go.Joins
set_option maxRecDepth 100000
set_option linter.unusedVariables false

set_option maxHeartbeats 8000000 in
theorem of_law (S Sm : Nat → Prop) (k : Nat) (l : List (Rl (k + 1))) (cl : List UInt8) (a0 a1 a2 cid : ByteArray) (t st : Int) (ht : I64 t) (v vm : Value) (ms : List Ml) (w : World) (hS : ∀ b, S b → b < w.heap.size) (hv : RS w S (k + 1) v l)
    (hm : ML w Sm vm ms) (hn : ∀ m ∈ ms, m.1.length ≤ 140737488355328) :
    Calls Try.prog 4 #[v, .agg #[.string a0, .string a1, .string a2, strV cl, .int .i64 t, .int .i64 st], .agg #[.string cid, vm]] w fun e w' => e = .returned (.bool true) ∧ Below w.heap.size w w' := by
  have hgood := miles_good ht (ml_good hm)
  obtain ⟨Am, capm, rfl, hlm, hmm⟩ := hm.form
  obtain ⟨A3, cap3, rfl, hl3, hm3⟩ := hv.form
  have hlen : ms.length ≤ 9223372036854775807 := by unfold maxLen at hmm; omega
  obtain ⟨w2, hw2⟩ : ∃ w2, w2 = (w.alloc (.cells #[.string a0, .string a1, .string a2, strV cl, .int .i64 t, .int .i64 st] 33)).alloc (.cells #[.string cid, .slice Am ms.length capm] 35) := ⟨_, rfl⟩
  have s2 : w2.heap.size = w.heap.size + 2 := by rw [hw2]; simp
  have B2 : Below w.heap.size w w2 := by rw [hw2]; exact ((Below.refl _ _).alloc (Nat.le_refl _) _).alloc (by simp) _
  have k1 : KB w2 w.heap.size 33 #[.string a0, .string a1, .string a2, strV cl, .int .i64 t, .int .i64 st] := by rw [hw2]; exact (KB.new _ _ _).alloc _
  have k2 : KB w2 (w.heap.size + 1) 35 #[.string cid, .slice Am ms.length capm] := by
    have := KB.new (w.alloc (.cells #[.string a0, .string a1, .string a2, strV cl, .int .i64 t, .int .i64 st] 33)) 35 #[.string cid, .slice Am ms.length capm]
    rw [World.size_alloc] at this
    rw [hw2]; exact this
  have HSM : Hid (Calls Try.prog 11 #[.slice A3 l.length cap3] w2 (SmallAs (k + 1) l w2)) := rsmall_any S (k + 1) l _ w2 (hv.below' B2)
  have HP : Hid (SmallOk (k + 1) l → ms.length ≤ 50 → ∀ W, Below w.heap.size w W → Calls Try.prog 12 #[.slice A3 l.length cap3, .agg #[.string a0, .string a1, .string a2, strV cl, .int .i64 t, .int .i64 st], .agg #[.string cid, .slice Am ms.length capm]] W (OfAs W (dueO (k + 1) (seekR (k + 1) l cl) (milesM t ms)))) := fun hok hl W hb =>
    of19_any S Sm k l cl a0 a1 a2 cid t st ht _ _ ms W (fun b h => Nat.lt_of_lt_of_le (hS b h) hb.size) hok (hv.below' hb) (hm.below' hb) hl hn
  have HR : Hid (SmallOk (k + 1) l → ms.length ≤ 50 → ∀ W, Below w.heap.size w W → Calls Try.prog 13 #[.slice A3 l.length cap3, .agg #[.string a0, .string a1, .string a2, strV cl, .int .i64 t, .int .i64 st], .agg #[.string cid, .slice Am ms.length capm]] W (OfAs W (dueO (k + 1) (seekR (k + 1) l cl) (milesM t ms)))) := fun hok hl W hb =>
    rof19_any S Sm k l cl a0 a1 a2 cid t st ht _ _ ms W (fun b h => Nat.lt_of_lt_of_le (hS b h) hb.size) hok (hv.below' hb) (hm.below' hb) hl hn
  have HM : Hid (ms.length ≤ 50 → ∀ W, Below w.heap.size w W → Calls Try.prog 15 #[.agg #[.string a0, .string a1, .string a2, strV cl, .int .i64 t, .int .i64 st], .agg #[.string cid, .slice Am ms.length capm]] W (OwnMs W (milesM t ms))) := fun hl W hb => miles19_any Sm a0 a1 a2 ⟨cl.toArray⟩ cid t st ht _ ms W (hm.below' hb) hl hn
  have HN : Hid (ms.length ≤ 50 → ∀ W, Below w.heap.size w W → Calls Try.prog 16 #[.agg #[.string a0, .string a1, .string a2, strV cl, .int .i64 t, .int .i64 st], .agg #[.string cid, .slice Am ms.length capm]] W (OwnMs W (milesM t ms))) := fun hl W hb => rmiles19_any Sm a0 a1 a2 ⟨cl.toArray⟩ cid t st ht _ ms W (hm.below' hb) hl
  have HSAME : Hid (∀ W B B' va vb, W.ownsRow B 43 2 va (milesM t ms).length (flatM (milesM t ms)) → W.ownsRow B' 43 2 vb (milesM t ms).length (flatM (milesM t ms)) → Calls Try.prog 14 #[va, vb] W fun e w' => e = .returned (.bool true) ∧ Below W.heap.size W w') := fun W B B' va vb h1 h2 => by
    have := samem_any _ _ (milesM t ms) (milesM t ms) va vb W (ML_own h1 hgood) (ML_own h2 hgood)
    rw [decide_eq_true rfl] at this
    exact this
  have HLIVE : Hid (∀ W, Below w.heap.size w W → Calls Try.prog 8 #[] W fun e w' => e = .returned (.bool true) ∧ Below w.heap.size w w') := fun W hb => (live19_any W).mono fun e w' h => ⟨h.1, hb.trans (h.2.mono hb.size)⟩
  clear hgood hv hm hn hS
  have HW2 := Lib.hid hw2
  clear hw2
  generalize dueO (k + 1) (seekR (k + 1) l cl) (milesM t ms) = r at *
  generalize milesM t ms = mq at *
  unfold strV at *
  generalize (⟨cl.toArray⟩ : ByteArray) = sc at *
  obtain ⟨tk, ac, kn⟩ := r
  go_enter Try.func4, Try.ntmps4
  go_wp2_with fail
  rw [← HW2.out]
  have hsm := HSM.out
  clear HSM
  refine hsm.mono ?_
  rintro e w5 ⟨b, rfl, hok, b5⟩
  have HOK := Lib.hid hok
  have B5 := B2.trans (b5.mono (by omega))
  have K1 := k1.below b5 (by omega)
  have K2 := k2.below b5 (by omega)
  have hs5 : w.heap.size + 2 ≤ w5.heap.size := by have := b5.size; omega
  clear hsm hok b5 k1 k2 B2 HW2 s2
  have q1 := K2.cell 1
  cases b with
  | false =>
    have hl := HLIVE.out w5 B5
    clear HOK HP HR HM HN HSAME HLIVE
    go_wp2_with fail
    refine hl.mono ?_
    rintro e w6 ⟨rfl, B6⟩
    go_wp2_with fail
    go_ret
    exact ⟨rfl, B6⟩
  | true =>
    by_cases h50 : 50 < ms.length
    · have d : decide ((50 : Int) < (ms.length : Int)) = true := decide_eq_true (by omega)
      have d' : decide (50 < ms.length) = true := decide_eq_true h50
      have hl := HLIVE.out w5 B5
      clear HOK HP HR HM HN HSAME HLIVE
      go_wp2_with fail
      refine hl.mono ?_
      rintro e w6 ⟨rfl, B6⟩
      go_wp2_with fail
      go_ret
      exact ⟨rfl, B6⟩
    have d : decide ((50 : Int) < (ms.length : Int)) = false := decide_eq_false (by omega)
    have d' : decide (50 < ms.length) = false := decide_eq_false h50
    have hl50 : ms.length ≤ 50 := by omega
    have hp := HP.out (HOK.out rfl) hl50 w5 B5
    have HR' := Lib.hid (HR.out (HOK.out rfl) hl50)
    have HM' := Lib.hid (HM.out hl50)
    have HN' := Lib.hid (HN.out hl50)
    clear HP HR HM HN HOK hl50
    have r0 := K1.cell 0
    have r1 := K1.cell 1
    have r2 := K1.cell 2
    have r3 := K1.cell 3
    have r4 := K1.cell 4
    have r5 := K1.cell 5
    have c0 := K2.cell 0
    go_wp2_with fail
    refine hp.mono ?_
    rintro e w6 ⟨rfl, b6⟩
    have B6 := B5.trans (b6.mono B5.size)
    have K6 := K1.below b6 (by omega)
    have J6 := K2.below b6 (by omega)
    have hs6 : w.heap.size + 2 ≤ w6.heap.size := by have := b6.size; omega
    have hr := HR'.out w6 B6
    clear hp b6 r0 r1 r2 r3 r4 r5 c0 q1 K1 K2 B5 HR' hs5 d d' h50
    have r0 := K6.cell 0
    have r1 := K6.cell 1
    have r2 := K6.cell 2
    have r3 := K6.cell 3
    have r4 := K6.cell 4
    have r5 := K6.cell 5
    have c0 := J6.cell 0
    have c1 := J6.cell 1
    go_wp2_with fail
    refine hr.mono ?_
    rintro e w7 ⟨rfl, b7⟩
    have B7 := B6.trans (b7.mono B6.size)
    have K7 := K6.below b7 (by omega)
    have J7 := J6.below b7 (by omega)
    have hs7 : w.heap.size + 2 ≤ w7.heap.size := by have := b7.size; omega
    clear hr b7 r0 r1 r2 r3 r4 r5 c0 c1 K6 J6 B6 hs6
    have HC : Hid (∀ W, Below w7.heap.size w7 W → (W.cell? ⟨w.heap.size, 0, none⟩ = some (.string a0) ∧ W.cell? ⟨w.heap.size, 1, none⟩ = some (.string a1) ∧ W.cell? ⟨w.heap.size, 2, none⟩ = some (.string a2) ∧ W.cell? ⟨w.heap.size, 3, none⟩ = some (.string sc) ∧ W.cell? ⟨w.heap.size, 4, none⟩ = some (.int .i64 t) ∧ W.cell? ⟨w.heap.size, 5, none⟩ = some (.int .i64 st)) ∧
        (W.cell? ⟨w.heap.size + 1, 0, none⟩ = some (.string cid) ∧ W.cell? ⟨w.heap.size + 1, 1, none⟩ = some (.slice Am ms.length capm))) := fun W hb => by
      have q1 := K7.below hb K7.lt
      have q2 := J7.below hb J7.lt
      exact ⟨⟨q1.cell 0, q1.cell 1, q1.cell 2, q1.cell 3, q1.cell 4, q1.cell 5⟩, ⟨q2.cell 0, q2.cell 1⟩⟩
    have HBW : Hid (∀ W, Below w7.heap.size w7 W → Below w.heap.size w W) := fun W hb => B7.trans (hb.mono (by omega))
    have BL : Below w7.heap.size w7 w7.drew := (Below.refl _ _).drew
    clear K7 J7 B7 hs7
    go_wp2_with fail
    rename_i KK hKK
    have HKK := Lib.hid hKK
    clear hKK
    refine wp_region_held_drew (S := (fun W => (W.cell? ⟨w.heap.size, 0, none⟩ = some (.string a0) ∧ W.cell? ⟨w.heap.size, 1, none⟩ = some (.string a1) ∧ W.cell? ⟨w.heap.size, 2, none⟩ = some (.string a2) ∧ W.cell? ⟨w.heap.size, 3, none⟩ = some (.string sc) ∧ W.cell? ⟨w.heap.size, 4, none⟩ = some (.int .i64 t) ∧ W.cell? ⟨w.heap.size, 5, none⟩ = some (.int .i64 st)) ∧ (W.cell? ⟨w.heap.size + 1, 0, none⟩ = some (.string cid) ∧ W.cell? ⟨w.heap.size + 1, 1, none⟩ = some (.slice Am ms.length capm)))) (by kernel_rfl) (HC.out _ BL) (fun hHeld => ?_)
    generalize w7.drew = wd at *
    refine hyY (some 39) 0 rfl hHeld ?_; go_frame
    refine hyY (some 40) 1 rfl hHeld ?_; go_frame
    refine hyY (some 41) 2 rfl hHeld ?_; go_frame
    refine hyY (some 42) 3 rfl hHeld ?_; go_frame
    refine hyY (some 43) 4 rfl hHeld ?_; go_frame
    refine hyY (some 44) 5 rfl hHeld ?_; go_frame
    refine hyY (some 45) 6 rfl hHeld ?_; go_frame
    refine hyY (some 46) 7 rfl hHeld ?_; go_frame
    refine hyY (some 47) 8 rfl hHeld ?_; go_frame
    refine hyY (some 48) 9 rfl hHeld ?_; go_frame
    refine hyY (some 49) 10 rfl hHeld ?_; go_frame
    refine hyY (some 50) 11 rfl hHeld ?_; go_frame
    refine hyY (some 51) 12 rfl hHeld ?_; go_frame
    refine hyY (some 52) 13 rfl hHeld ?_; go_frame
    refine hyY (some 53) 14 rfl hHeld ?_; go_frame
    refine hyY (some 54) 15 rfl hHeld ?_; go_frame
    refine hyY (some 56) 17 rfl hHeld ?_; go_frame
    refine hyY (some 57) 18 rfl hHeld ?_; go_frame
    refine hyO (some 55) 16 rfl (fun K hK => ?_)
    go_simp
    go_at_call 15
    refine (HM'.out _ (HBW.out _ BL)).mono ?_
    rintro e w8 ⟨v8, rfl, o8, b8⟩
    replace BL := BL.trans (b8.mono BL.size)
    go_wp2_with fail
    refine hK.out _ _ ?_ (fun hH2 => ?_)
    · exact HC.out _ BL
    clear hHeld hK K; have hHeld := hH2; clear hH2; try go_frame
    refine hyO (some 58) 19 rfl (fun K hK => ?_)
    go_simp
    go_at_call 16
    refine (HN'.out _ (HBW.out _ BL)).mono ?_
    rintro e w9 ⟨v9, rfl, o9, b9⟩
    replace BL := BL.trans (b9.mono BL.size)
    have hsame := HSAME.out w9 _ _ v8 v9 (own_past b9 o8) o9
    go_wp2_with fail
    refine hK.out _ _ ?_ (fun hH2 => ?_)
    · exact HC.out _ BL
    clear hHeld hK K; have hHeld := hH2; clear hH2; try go_frame
    refine hyO (some 59) 20 rfl (fun K hK => ?_)
    go_simp
    go_at_call 14
    refine hsame.mono ?_
    rintro e w10 ⟨rfl, b10⟩
    replace BL := BL.trans (b10.mono BL.size)
    go_wp2_with fail
    refine hK.out _ _ ?_ (fun hH2 => ?_)
    · exact HC.out _ BL
    clear hHeld hK K; have hHeld := hH2; clear hH2; try go_frame
    refine hyY (some 60) 21 rfl hHeld ?_; go_frame
    refine hyY (some 61) 22 rfl hHeld ?_; go_frame
    refine hyO (some 62) 23 rfl (fun K hK => ?_)
    go_simp
    go_at_call 8
    have BB := HBW.out _ BL
    refine (live19_any _).mono ?_
    rintro e w11 ⟨rfl, b11⟩
    replace BL := BL.trans (b11.mono BL.size)
    go_wp2_with fail
    refine hK.out _ _ ?_ (fun hH2 => ?_)
    · exact HC.out _ BL
    clear hHeld hK K; have hHeld := hH2; clear hH2; try go_frame
    refine hyY (some 63) 24 rfl hHeld ?_; go_frame
    refine hyY (some 6) 25 rfl hHeld ?_; go_frame
    refine wpAnyH_done (by kernel_rfl) ?_ _
    have hKK := HKK.out
    have B11 := HBW.out _ BL
    clear HC HBW BL hHeld HKK HLIVE HM' HN' HSAME o8 o9 b8 b9 b10 b11 hsame BB
    go_wp2_with fail
    go_ret
    exact ⟨rfl, B11⟩

theorem dueOf_law {H : Type} (enc : TypeId × Value → H) (W : World) (base : Nat)
    (v0 : Value) (d0 : DataW H) (p0 : List MemPlace) (v1 : Value) (d1 : DataW H) (p1 : List MemPlace) (v2 : Value) (d2 : DataW H) (p2 : List MemPlace)
    (k0 : Value.okWide Try.prog W .any base 31 v0) (k1 : Value.okWide Try.prog W .any base 33 v1) (k2 : Value.okWide Try.prog W .any base 35 v2)
    (h0 : DataW.Trod enc Try.prog W 0 (fun _ => true) true 31 v0 d0 p0) (h1 : DataW.Trod enc Try.prog W 0 (fun _ => true) true 33 v1 d1 p1) (h2 : DataW.Trod enc Try.prog W 0 (fun _ => true) true 35 v2 d2 p2)
    (z0 : ∀ n ∈ d0.weights Try.prog 31, n ≤ reachBytes) (z1 : ∀ n ∈ d1.weights Try.prog 33, n ≤ reachBytes) (z2 : ∀ n ∈ d2.weights Try.prog 35, n ≤ reachBytes) :
    Calls Try.prog 4 #[v0, v1, v2] W fun e W' => e = .returned (.bool true) ∧ Below W.heap.size W W' := by
  obtain ⟨n0, hn0⟩ := open_rules k0 h0
  obtain ⟨l, hl⟩ := hn0 (n0 + 1) (by omega)
  obtain ⟨a0, a1, a2, cl, t, st, rfl, ht⟩ := open_rec k1 h1
  obtain ⟨id, vm, ms, rfl, hm, hn⟩ := open_case k2 h2 z2
  exact of_law _ _ n0 l cl a0 a1 a2 id t st ht v0 vm ms W (fun b h => h) hl hm hn
end Go.Proofs.Ytommcdgognlfcaa
