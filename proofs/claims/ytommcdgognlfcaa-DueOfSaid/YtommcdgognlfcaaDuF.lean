/-
  The program's Of (layer 19), over the loaded program: its contract. No condition but what it names.
-/
import Derived.Test.YtommcdgognlfcaaDuT
import Derived.Test.YtommcdgognlfcaaDuS
import Derived.Test.YtommcdgognlfcaaRvF
import Derived.Test.YtommcdgognlfcaaRuD
import Derived.Test.YtommcdgognlfcaaHeld
namespace Go.Proofs.Ytommcdgognlfcaa
open Go.RowKit
set_option maxRecDepth 100000
set_option linter.unusedVariables false

theorem seek_mem {f : Nat} {l : List (Rl f)} {c : List UInt8} {r : Rl f} (h : seekR f l c = some r) : r ∈ l := by
  unfold seekR at h
  split at h
  · exact List.mem_of_getElem? h
  · split at h
    · exact List.mem_of_getElem? h
    · cases h
theorem miles_good {t : Int} {ms : List Ml} (ht : I64 t) (h : ∀ m ∈ ms, I64 m.2 ∧ m.1.length ≤ maxLen) : ∀ m ∈ milesM t ms, I64 m.2 ∧ m.1.length ≤ maxLen := fun m hm => by
  cases hm with
  | head => exact ⟨ht, by show (6 : Nat) ≤ maxLen; unfold maxLen; omega⟩
  | tail _ hm => exact h m hm
/-- What Of answers. -/
def OfAs (w : World) (r : Int × Int × Bool) (e : Ending) (w' : World) : Prop := e = .returned (.tuple #[.int .i64 r.1, .int .i64 r.2.1, .bool r.2.2]) ∧ Below w.heap.size w w'

set_option maxHeartbeats 8000000 in
/-- The program's Of. -/
theorem of19_any (S Sm : Nat → Prop) (k : Nat) (l : List (Rl (k + 1))) (cl : List UInt8) (a0 a1 a2 cid : ByteArray) (t st : Int) (ht : I64 t) (v vm : Value) (ms : List Ml) (w : World) (hS : ∀ b, S b → b < w.heap.size) (hok : SmallOk (k + 1) l) (hv : RS w S (k + 1) v l)
    (hm : ML w Sm vm ms) (hl : ms.length ≤ 50) (hn : ∀ m ∈ ms, m.1.length ≤ 140737488355328) :
    Calls Try.prog 12 #[v, .agg #[.string a0, .string a1, .string a2, strV cl, .int .i64 t, .int .i64 st], .agg #[.string cid, vm]] w (OfAs w (dueO (k + 1) (seekR (k + 1) l cl) (milesM t ms))) := by
  have hgood := miles_good ht (ml_good hm)
  obtain ⟨Am, capm, rfl, hlm, hmm⟩ := hm.form
  obtain ⟨A3, cap3, rfl, hl3, hm3⟩ := hv.form
  have hfew := fun r (h : seekR (k + 1) l cl = some r) => (hok.2 r (seek_mem h)).2
  obtain ⟨w2, hw2⟩ : ∃ w2, w2 = (w.alloc (.cells #[.string a0, .string a1, .string a2, strV cl, .int .i64 t, .int .i64 st] 33)).alloc (.cells #[.string cid, .slice Am ms.length capm] 35) := ⟨_, rfl⟩
  have s2 : w2.heap.size = w.heap.size + 2 := by rw [hw2]; simp
  have B2 : Below w.heap.size w w2 := by rw [hw2]; exact ((Below.refl _ _).alloc (Nat.le_refl _) _).alloc (by simp) _
  have k1 : KB w2 w.heap.size 33 #[.string a0, .string a1, .string a2, strV cl, .int .i64 t, .int .i64 st] := by rw [hw2]; exact (KB.new _ _ _).alloc _
  have k2 : KB w2 (w.heap.size + 1) 35 #[.string cid, .slice Am ms.length capm] := by
    have := KB.new (w.alloc (.cells #[.string a0, .string a1, .string a2, strV cl, .int .i64 t, .int .i64 st] 33)) 35 #[.string cid, .slice Am ms.length capm]
    rw [World.size_alloc] at this
    rw [hw2]; exact this
  have hfi := find_any S (k + 1) l cl _ w2 (fun b h => by have := hS b h; omega) (fun r hr => ⟨by have := (hok.2 r hr).1; omega, (hok.2 r hr).2⟩) (hv.below' B2)
  obtain ⟨D, hD⟩ : ∃ D, D = OfAs w (dueO (k + 1) (seekR (k + 1) l cl) (milesM t ms)) := ⟨_, rfl⟩
  rw [← hD]
  have HM : Hid (∀ W, Below w.heap.size w W → Calls Try.prog 15 #[.agg #[.string a0, .string a1, .string a2, strV cl, .int .i64 t, .int .i64 st], .agg #[.string cid, .slice Am ms.length capm]] W (OwnMs W (milesM t ms))) := fun W hb => miles19_any Sm a0 a1 a2 ⟨cl.toArray⟩ cid t st ht _ ms W (hm.below' hb) hl hn
  have HNONE : Hid (seekR (k + 1) l cl = none → ∀ W, Below w.heap.size w W → D (.returned (.tuple #[.int .i64 0, .int .i64 0, .bool false])) W) := fun h W hb => by
    rw [hD, h]; exact ⟨rfl, hb⟩
  have HSOME : Hid (∀ r, seekR (k + 1) l cl = some r → ∀ W, Below w.heap.size w W → ((whenX (milesM t ms) (k + 1) r.when_).2 = false → D (.returned (.tuple #[.int .i64 0, .int .i64 0, .bool false])) W) ∧ ((whenX (milesM t ms) (k + 1) r.when_).2 = true → D (.returned (.tuple #[.int .i64 (whenX (milesM t ms) (k + 1) r.when_).1, .int .i64 r.act, .bool true])) W)) := fun r h W hb => by
    rw [hD, h]
    unfold dueO
    dsimp only
    refine ⟨fun h9 => ?_, fun h9 => ?_⟩
    · rw [if_neg (by rw [h9]; decide)]; exact ⟨rfl, hb⟩
    · rw [if_pos h9]; exact ⟨rfl, hb⟩
  have HWH : Hid (∀ r, seekR (k + 1) l cl = some r → ∀ (W : World) (Sx : Nat → Prop) (vx vq : Value) (B : Nat), EV W Sx (k + 1) vx r.when_ → W.ownsRow B 43 2 vq (milesM t ms).length (flatM (milesM t ms)) → Calls Try.prog 9 #[vx, vq] W (WhenAs W (whenX (milesM t ms) (k + 1) r.when_))) := fun r h W Sx vx vq B hx ho => when19_any Sx _ _ _ (k + 1) r.when_ _ W (hfew r h) (ML_own ho hgood) hx
  clear hD hgood hv hok hm hn hS hfew
  have HW2 := Lib.hid hw2
  clear hw2
  generalize milesM t ms = mq at *
  unfold strV at *
  generalize (⟨cl.toArray⟩ : ByteArray) = sc at *
  have HFI := Lib.hid hfi
  clear hfi
  go_enter Try.func12, Try.ntmps12
  go_wp2_with fail
  rw [← HW2.out]
  have hfi := HFI.out
  clear HFI
  refine hfi.mono ?_
  intro e w5 hfo
  obtain ⟨s0, s3, i1, i2, i5, X4, n4, z4, rfl, hrx, b5⟩ := found_six hfo
  have B5 := B2.trans (b5.mono (by omega))
  have K1 := k1.below b5 (by omega)
  have K2 := k2.below b5 (by omega)
  have hs5 : w.heap.size + 2 ≤ w5.heap.size := by have := b5.size; omega
  clear hfi hfo b5 k1 k2 B2 HW2
  cases hseek : seekR (k + 1) l cl with
  | none =>
    have HF := Lib.hid (HNONE.out hseek)
    clear HNONE HSOME HWH HM hseek hrx
    have hfin := HF.out (w5.alloc (.cells #[.string s0, .int .i64 i1, .int .i64 i2, .string s3, .slice X4 n4 z4, .int .i64 i5] 49)) (B5.alloc B5.size _)
    clear HF
    go_wp2_with fail
    go_ret3
    exact hfin
  | some r =>
    rw [hseek] at hrx
    have HF := Lib.hid (HSOME.out r hseek)
    have HWR := Lib.hid (HWH.out r hseek)
    clear HNONE HSOME HWH hseek
    have hex := hrx.2.2.1
    have hact := hrx.2.2.2.1
    simp only [Option.getD_some] at hex hact
    injection hact with _ hact
    subst hact
    clear hrx
    obtain ⟨w6, hw6⟩ : ∃ w6, w6 = w5.alloc (.cells #[.string s0, .int .i64 i1, .int .i64 i2, .string s3, .slice X4 n4 z4, .int .i64 r.act] 49) := ⟨_, rfl⟩
    have K3 : KB w6 w5.heap.size 49 #[.string s0, .int .i64 i1, .int .i64 i2, .string s3, .slice X4 n4 z4, .int .i64 r.act] := by rw [hw6]; exact KB.new _ _ _
    have K1' : KB w6 w.heap.size 33 #[.string a0, .string a1, .string a2, .string sc, .int .i64 t, .int .i64 st] := by rw [hw6]; exact K1.alloc _
    have K2' : KB w6 (w.heap.size + 1) 35 #[.string cid, .slice Am ms.length capm] := by rw [hw6]; exact K2.alloc _
    have s6 : w6.heap.size = w5.heap.size + 1 := by rw [hw6]; simp
    have B6 : Below w.heap.size w w6 := by rw [hw6]; exact B5.alloc B5.size _
    have hex6 : EX w6 (fun b => b < w5.heap.size) (k + 1) r.when_ (.int .i64 i1) (.int .i64 i2) (.string s3) (.slice X4 n4 z4) := by rw [hw6]; exact hex.alloc _
    have HC : Hid (∀ W, Below w6.heap.size w6 W → (W.cell? ⟨w5.heap.size, 1, none⟩ = some (.int .i64 i1) ∧ W.cell? ⟨w5.heap.size, 2, none⟩ = some (.int .i64 i2) ∧ W.cell? ⟨w5.heap.size, 3, none⟩ = some (.string s3) ∧ W.cell? ⟨w5.heap.size, 4, none⟩ = some (.slice X4 n4 z4)) ∧
        (W.cell? ⟨w.heap.size, 0, none⟩ = some (.string a0) ∧ W.cell? ⟨w.heap.size, 1, none⟩ = some (.string a1) ∧ W.cell? ⟨w.heap.size, 2, none⟩ = some (.string a2) ∧ W.cell? ⟨w.heap.size, 3, none⟩ = some (.string sc) ∧ W.cell? ⟨w.heap.size, 4, none⟩ = some (.int .i64 t) ∧ W.cell? ⟨w.heap.size, 5, none⟩ = some (.int .i64 st)) ∧
        (W.cell? ⟨w.heap.size + 1, 0, none⟩ = some (.string cid) ∧ W.cell? ⟨w.heap.size + 1, 1, none⟩ = some (.slice Am ms.length capm))) := fun W hb => by
      have q1 := K1'.below hb K1'.lt
      have q2 := K2'.below hb K2'.lt
      have q3 := K3.below hb K3.lt
      exact ⟨⟨q3.cell 1, q3.cell 2, q3.cell 3, q3.cell 4⟩, ⟨q1.cell 0, q1.cell 1, q1.cell 2, q1.cell 3, q1.cell 4, q1.cell 5⟩, ⟨q2.cell 0, q2.cell 1⟩⟩
    have HA5 : Hid (∀ W, Below w6.heap.size w6 W → W.cell? ⟨w5.heap.size, 5, none⟩ = some (.int .i64 r.act)) := fun W hb => (K3.below hb K3.lt).cell 5
    have HEX : Hid (∀ W, Below w6.heap.size w6 W → EV W (fun b => b < w5.heap.size) (k + 1) (.agg #[.int .i64 i1, .int .i64 i2, .string s3, .slice X4 n4 z4]) r.when_) := fun W hb => ⟨_, _, _, _, rfl, hex6.below' hb⟩
    have HBW : Hid (∀ W, Below w6.heap.size w6 W → Below w.heap.size w W) := fun W hb => B6.trans (hb.mono (by omega))
    have BL : Below w6.heap.size w6 w6.drew := (Below.refl _ _).drew
    have HW6 := Lib.hid hw6
    clear hw6 K1 K2 K1' K2' K3 hex hex6 B5 B6 hs5 s6
    generalize r.act = ac at *
    generalize whenX mq (k + 1) r.when_ = rw at *
    generalize r.when_ = wh at *
    obtain ⟨tk, kn⟩ := rw
    go_wp2_with fail
    rw [← HW6.out]
    rename_i KK hKK
    have HKK := Lib.hid hKK
    clear hKK
    refine wp_region_held_drew (S := (fun W => (W.cell? ⟨w5.heap.size, 1, none⟩ = some (.int .i64 i1) ∧ W.cell? ⟨w5.heap.size, 2, none⟩ = some (.int .i64 i2) ∧ W.cell? ⟨w5.heap.size, 3, none⟩ = some (.string s3) ∧ W.cell? ⟨w5.heap.size, 4, none⟩ = some (.slice X4 n4 z4)) ∧ (W.cell? ⟨w.heap.size, 0, none⟩ = some (.string a0) ∧ W.cell? ⟨w.heap.size, 1, none⟩ = some (.string a1) ∧ W.cell? ⟨w.heap.size, 2, none⟩ = some (.string a2) ∧ W.cell? ⟨w.heap.size, 3, none⟩ = some (.string sc) ∧ W.cell? ⟨w.heap.size, 4, none⟩ = some (.int .i64 t) ∧ W.cell? ⟨w.heap.size, 5, none⟩ = some (.int .i64 st)) ∧ (W.cell? ⟨w.heap.size + 1, 0, none⟩ = some (.string cid) ∧ W.cell? ⟨w.heap.size + 1, 1, none⟩ = some (.slice Am ms.length capm)))) (by kernel_rfl) (HC.out _ BL) (fun hHeld => ?_)
    generalize w6.drew = wd at *
    refine hyY (some 21) 0 rfl hHeld ?_; go_frame
    refine hyY (some 22) 1 rfl hHeld ?_; go_frame
    refine hyY (some 23) 2 rfl hHeld ?_; go_frame
    refine hyY (some 24) 3 rfl hHeld ?_; go_frame
    refine hyO (some 25) 4 rfl (fun K hK => ?_)
    go_simp
    go_at_call 15
    refine (HM.out _ (HBW.out _ BL)).mono ?_
    rintro e w7 ⟨v7, rfl, o7, b7⟩
    replace BL := BL.trans (b7.mono BL.size)
    have hwh := HWR.out w7 _ _ v7 _ (HEX.out w7 BL) o7
    go_wp2_with fail
    refine hK.out _ _ ?_ (fun hH2 => ?_)
    · exact HC.out _ BL
    clear hHeld hK K; have hHeld := hH2; clear hH2; try go_frame
    refine hyO (some 26) 5 rfl (fun K hK => ?_)
    go_simp
    go_at_call 9
    refine hwh.mono ?_
    rintro e w8 ⟨rfl, b8⟩
    replace BL := BL.trans (b8.mono BL.size)
    go_wp2_with fail
    refine hK.out _ _ ?_ (fun hH2 => ?_)
    · exact HC.out _ BL
    clear hHeld hK K; have hHeld := hH2; clear hH2; try go_frame
    refine hyY (some 20) 6 rfl hHeld ?_; go_frame
    refine hyY (some 27) 7 rfl hHeld ?_; go_frame
    refine hyY (some 28) 8 rfl hHeld ?_; go_frame
    refine hyY (some 6) 9 rfl hHeld ?_; go_frame
    refine hyY (some 8) 10 rfl hHeld ?_; go_frame
    refine wpAnyH_done (by kernel_rfl) ?_ _
    have hKK := HKK.out
    have B8 := HBW.out _ BL
    have q5 := HA5.out _ BL
    have HFF := Lib.hid (HF.out w8 B8)
    have HFD := Lib.hid (fun n => HF.out (w8.drewN n) (Below_drawn B8 n))
    clear HF HWR HEX HC HBW HM HA5 HKK o7 b7 b8 hwh BL hHeld HW6
    cases kn with
    | false =>
      have hfin := HFF.out.1 rfl
      clear HFF HFD
      go_wp2_with fail
      go_ret3
      exact hfin
    | true =>
      have HF2 := Lib.hid (fun n => (HFD.out n).2 rfl)
      clear HFF HFD
      go_wp2_with fail
      go_quiet (fail)
      have hfin := HF2.out nq
      clear HF2
      go_wp2_with fail
      go_ret3
      exact hfin
end Go.Proofs.Ytommcdgognlfcaa
