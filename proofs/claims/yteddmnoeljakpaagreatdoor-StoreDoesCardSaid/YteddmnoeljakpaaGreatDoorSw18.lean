/-
  WaQ: What Commit does, step by step, over the loaded program: its five functions. No condition but what each theorem names (the table roots among it).
  WaR: What Commit's steps do together, over the loaded program. No condition but what it names (the table roots among it).
  WaT: Commit, over the loaded program: its contract. No condition but what each theorem names (the table roots among it).
  WaU: What the statements of layer 10 rest on, plainly: a new disk; a Commit on a disk whose log is zero; a patch alone. No program, no condition.
-/
import Derived.Test.YteddmnoeljakpaaGreatDoorSw17
import Derived.Deep.RegionHeld3
import Derived.Test.YteddmnoeljakpaaGreatDoorSw11
set_option linter.unusedVariables false
set_option maxRecDepth 100000
namespace Go.Proofs.YteddmnoeljakpaaGreatDoor
section
open Go.RowKit
theorem PS.lt {w : World} {S : Nat → Prop} {v : Value} {ps : List Pt} (h : PS w S v ps) : PS w (fun b => S b ∧ b < w.heap.size) v ps := by
  obtain ⟨A, c, e, hl, hc, hn, hx⟩ := h
  refine ⟨A, c, e, hl, hc, hn, fun h0 => ?_⟩
  obtain ⟨b, o, ea, sb, hb, hx⟩ := hx h0
  refine ⟨b, o, ea, ⟨sb, hb⟩, hb, fun j q hj => ?_⟩
  obtain ⟨h1, x, h2, h3⟩ := hx j q hj
  exact ⟨h1, x, h2, h3.lt⟩
section
variable {w : World} {lg n b2 b3 b6 : Nat} {p : DA} {br : Bool} {s : Dk}
set_option maxHeartbeats 1000000 in
theorem commit1_any {vL : Value} {L : List (List UInt8)} (h2 : KB w b2 79 #[.pointer (some ⟨lg, 0, none⟩)]) (h6 : KB w b6 100 #[vL]) (o2 : ¬ p.has b2) (o6 : ¬ p.has b6) (hg : LG w lg p n br) (hgp : ¬ p.has lg) (hd : DS w p s) (hL : LS w (Off p w) vL L) (hl : L.length ≤ 100000) (hfit : Fit s.safe.length (rowP 1 L)) :
    Calls Tryz.prog 85 #[.pointer (some ⟨b2, 0, none⟩), .pointer (some ⟨b6, 0, none⟩)] w fun e w' => e = .returned (.int .i64 (doD (rowP 1 L) s).2) ∧ DS w' p (doD (rowP 1 L) s).1 ∧ KeepP (Off p w) w w' := by
  have HNQ : Hid (∀ x, w.heap.size ≤ x → ¬ p.has x) := fun x hx h => by have := hd.lt x h; omega
  have hrow := fun (W : World) (h : LS W (Off p w) vL L) => row_any 1 (by omega) _ vL L W h (by omega)
  have hw := fun (v : Value) (W : World) (hgW : LG W lg p n br) (hdW : DS W p s) (h : PS W (Off p W) v (rowP 1 L)) => lwrite_any v _ W hgW hgp hdW h hfit
  have HW := Lib.hid hw
  obtain ⟨AL, cL, rfl, hc6, hc6m⟩ := hL.form
  have HC : Hid (∀ W, KeepP (Off p w) w W → W.cell? ⟨b2, 0, none⟩ = some (.pointer (some ⟨lg, 0, none⟩)) ∧ W.cell? ⟨b6, 0, none⟩ = some (.slice AL L.length cL)) := by
    intro W hk
    exact ⟨(h2.keepP hk ⟨h2.lt, o2⟩).cell 0, (h6.keepP hk ⟨h6.lt, o6⟩).cell 0⟩
  clear h2 h6 hfit hw
  generalize doD (rowP 1 L) s = R at *
  go_enter Tryz.func85, Tryz.ntmps85
  go_wp2_with fail
  refine wp_region_held_drew (S := (fun W => W.cell? ⟨b2, 0, none⟩ = some (.pointer (some ⟨lg, 0, none⟩)) ∧ W.cell? ⟨b6, 0, none⟩ = some (.slice AL L.length cL))) (by kernel_rfl) (HC.out _ ((KeepP.refl _ w).drewN 1)) (fun hHeld => ?_)
  refine hyY (some 3) 0 rfl hHeld ?_; go_frame
  refine hyY (some 4) 1 rfl hHeld ?_; go_frame
  refine hyO (some 5) 2 rfl (fun K hK => ?_)
  go_simp
  go_at_call 87
  refine (hrow _ (hL.drewN 1)).mono ?_
  rintro e w2 ⟨v2, rfl, ps2, b2⟩
  have BL2 : Below w.heap.size w w2 := (Below_drawn (Below.refl w.heap.size w) 1).trans b2
  have pq2 := ps2.lt.mono (S' := Off p w2) fun x hx => ⟨hx.2, by
    rcases hx.1 with h1 | h1
    · exact h1.1.2
    · exact HNQ.out x (by rw [h1]; exact Nat.le_refl _)⟩
  have hw2 := HW.out v2 w2 (KB.below hg BL2 (KB.lt hg)) (hd.below BL2) pq2
  have KQ2 := KeepP.of_below (P := Off p w) BL2 fun x hx => hx.1
  obtain ⟨A2, c2, rfl, _⟩ := ps2.form
  clear ps2 pq2 hrow b2
  go_wp2_with fail
  refine hK.out _ _ ?_ (fun hH2 => ?_)
  · exact HC.out _ (by assumption)
  clear hHeld hK K; have hHeld := hH2; clear hH2; try go_frame
  refine hyO (some 6) 3 rfl (fun K hK => ?_)
  go_simp
  go_at_call 86
  refine hw2.mono ?_
  rintro e wz ⟨rfl, dz, kz⟩
  have KQ9 := KQ2.trans (kz.mono (Q := Off p w) fun x hx => ⟨Nat.lt_of_lt_of_le hx.1 BL2.size, hx.2⟩)
  go_wp2_with fail
  refine hK.out _ _ ?_ (fun hH2 => ?_)
  · exact HC.out _ (by assumption)
  clear hHeld hK K; have hHeld := hH2; clear hH2; try go_frame
  refine hyY (some 2) 4 rfl hHeld ?_; go_frame
  refine wpAnyH_done (by kernel_rfl) ?_ _
  go_wp2_with fail
  go_ret
  exact ⟨rfl, dz, KQ9⟩
set_option maxHeartbeats 1000000 in
theorem commit5_any {vL : Value} {L : List (List UInt8)} (h2 : KB w b2 79 #[.pointer (some ⟨lg, 0, none⟩)]) (h6 : KB w b6 100 #[vL]) (o2 : ¬ p.has b2) (o6 : ¬ p.has b6) (hg : LG w lg p n br) (hgp : ¬ p.has lg) (hd : DS w p s) (hL : LS w (Off p w) vL L) (hl : L.length ≤ 100000) (hfit : Fit s.safe.length (rowP 1 L)) :
    Calls Tryz.prog 92 #[.pointer (some ⟨b2, 0, none⟩), .pointer (some ⟨b6, 0, none⟩)] w fun e w' => e = .returned (.int .i64 (doD (rowP 1 L) s).2) ∧ DS w' p (doD (rowP 1 L) s).1 ∧ KeepP (Off p w) w w' := by
  have HNQ : Hid (∀ x, w.heap.size ≤ x → ¬ p.has x) := fun x hx h => by have := hd.lt x h; omega
  have hrow := fun (W : World) (h : LS W (Off p w) vL L) => row_any 1 (by omega) _ vL L W h (by omega)
  have hw := fun (v : Value) (W : World) (hgW : LG W lg p n br) (hdW : DS W p s) (h : PS W (Off p W) v (rowP 1 L)) => lwrite_any v _ W hgW hgp hdW h hfit
  have HW := Lib.hid hw
  obtain ⟨AL, cL, rfl, hc6, hc6m⟩ := hL.form
  have HC : Hid (∀ W, KeepP (Off p w) w W → W.cell? ⟨b2, 0, none⟩ = some (.pointer (some ⟨lg, 0, none⟩)) ∧ W.cell? ⟨b6, 0, none⟩ = some (.slice AL L.length cL)) := by
    intro W hk
    exact ⟨(h2.keepP hk ⟨h2.lt, o2⟩).cell 0, (h6.keepP hk ⟨h6.lt, o6⟩).cell 0⟩
  clear h2 h6 hfit hw
  generalize doD (rowP 1 L) s = R at *
  go_enter Tryz.func92, Tryz.ntmps92
  go_wp2_with fail
  refine wp_region_held_drew (S := (fun W => W.cell? ⟨b2, 0, none⟩ = some (.pointer (some ⟨lg, 0, none⟩)) ∧ W.cell? ⟨b6, 0, none⟩ = some (.slice AL L.length cL))) (by kernel_rfl) (HC.out _ ((KeepP.refl _ w).drewN 1)) (fun hHeld => ?_)
  refine hyY (some 3) 0 rfl hHeld ?_; go_frame
  refine hyY (some 4) 1 rfl hHeld ?_; go_frame
  refine hyO (some 5) 2 rfl (fun K hK => ?_)
  go_simp
  go_at_call 87
  refine (hrow _ (hL.drewN 1)).mono ?_
  rintro e w2 ⟨v2, rfl, ps2, b2⟩
  have BL2 : Below w.heap.size w w2 := (Below_drawn (Below.refl w.heap.size w) 1).trans b2
  have pq2 := ps2.lt.mono (S' := Off p w2) fun x hx => ⟨hx.2, by
    rcases hx.1 with h1 | h1
    · exact h1.1.2
    · exact HNQ.out x (by rw [h1]; exact Nat.le_refl _)⟩
  have hw2 := HW.out v2 w2 (KB.below hg BL2 (KB.lt hg)) (hd.below BL2) pq2
  have KQ2 := KeepP.of_below (P := Off p w) BL2 fun x hx => hx.1
  obtain ⟨A2, c2, rfl, _⟩ := ps2.form
  clear ps2 pq2 hrow b2
  go_wp2_with fail
  refine hK.out _ _ ?_ (fun hH2 => ?_)
  · exact HC.out _ (by assumption)
  clear hHeld hK K; have hHeld := hH2; clear hH2; try go_frame
  refine hyO (some 6) 3 rfl (fun K hK => ?_)
  go_simp
  go_at_call 86
  refine hw2.mono ?_
  rintro e wz ⟨rfl, dz, kz⟩
  have KQ9 := KQ2.trans (kz.mono (Q := Off p w) fun x hx => ⟨Nat.lt_of_lt_of_le hx.1 BL2.size, hx.2⟩)
  go_wp2_with fail
  refine hK.out _ _ ?_ (fun hH2 => ?_)
  · exact HC.out _ (by assumption)
  clear hHeld hK K; have hHeld := hH2; clear hH2; try go_frame
  refine hyY (some 2) 4 rfl hHeld ?_; go_frame
  refine wpAnyH_done (by kernel_rfl) ?_ _
  go_wp2_with fail
  go_ret
  exact ⟨rfl, dz, KQ9⟩
set_option maxHeartbeats 1000000 in
theorem commit2_any {vL : Value} {L : List (List UInt8)} {k : Nat} {AP : Option Addr} {cP : Nat} (h2 : KB w b2 79 #[.pointer (some ⟨lg, 0, none⟩)]) (h3 : KB w b3 88 #[.slice AP k cP]) (h6 : KB w b6 100 #[vL]) (o2 : ¬ p.has b2) (o3 : ¬ p.has b3) (o6 : ¬ p.has b6) (hg : LG w lg p n br) (hgp : ¬ p.has lg) (hd : DS w p s) (ht : Tab w)
    (hL : LS w (Off p w) vL L) (hk : k < 65536) (hlen : (catB L).length < 100000000000000000) :
    Calls Tryz.prog 88 #[.pointer (some ⟨b2, 0, none⟩), .pointer (some ⟨b3, 0, none⟩), .pointer (some ⟨b6, 0, none⟩)] w fun e w' => e = .returned (.int .i64 (doD (rowP 0 [headL k L]) s).2) ∧ DS w' p (doD (rowP 0 [headL k L]) s).1 ∧ KeepP (Off p w) w w' := by
  have HNQ : Hid (∀ x, w.heap.size ≤ x → ¬ p.has x) := fun x hx h => by have := hd.lt x h; omega
  have hhead := fun (W : World) (h : LS W (Off p w) vL L) (ht : Tab W) => head_any k hk _ vL L W h ht hlen
  have HHL := headL_len k L
  generalize headL k L = H at *
  have hrow := fun (S : Nat → Prop) (v : Value) (W : World) (h : LS W S v [H]) => row_any 0 (by omega) S v [H] W h (by simp)
  have hfit : Fit s.safe.length (rowP 0 [H]) := by
    intro q hq
    obtain ⟨j, hj, e⟩ := rowP_mem hq
    have hj0 := (List.getElem?_eq_some_iff.1 hj).1
    have h1 := hd.ok.some_
    simp at hj0
    subst hj0
    simp at hj
    rw [e, ← hj]
    exact ⟨by simp, by simp; omega, HHL⟩
  have hw := fun (v : Value) (W : World) (hgW : LG W lg p n br) (hdW : DS W p s) (h : PS W (Off p W) v (rowP 0 [H])) => lwrite_any v _ W hgW hgp hdW h hfit
  have HW := Lib.hid hw
  have HL := Lib.hid HHL
  obtain ⟨AL, cL, rfl, hc6, hc6m⟩ := hL.form
  have HC : Hid (∀ W, KeepP (Off p w) w W → W.cell? ⟨b2, 0, none⟩ = some (.pointer (some ⟨lg, 0, none⟩)) ∧ W.cell? ⟨b3, 0, none⟩ = some (.slice AP k cP) ∧ W.cell? ⟨b6, 0, none⟩ = some (.slice AL L.length cL)) := by
    intro W hk
    exact ⟨(h2.keepP hk ⟨h2.lt, o2⟩).cell 0, (h3.keepP hk ⟨h3.lt, o3⟩).cell 0, (h6.keepP hk ⟨h6.lt, o6⟩).cell 0⟩
  clear h2 h3 h6 hfit hw HHL hlen
  generalize doD (rowP 0 [H]) s = R at *
  go_enter Tryz.func88, Tryz.ntmps88
  go_wp2_with fail
  refine wp_region_held_drew (S := (fun W => W.cell? ⟨b2, 0, none⟩ = some (.pointer (some ⟨lg, 0, none⟩)) ∧ W.cell? ⟨b3, 0, none⟩ = some (.slice AP k cP) ∧ W.cell? ⟨b6, 0, none⟩ = some (.slice AL L.length cL))) (by kernel_rfl) (HC.out _ ((KeepP.refl _ w).drewN 1)) (fun hHeld => ?_)
  refine hyY (some 4) 0 rfl hHeld ?_; go_frame
  refine hyY (some 5) 1 rfl hHeld ?_; go_frame
  refine hyY (some 6) 2 rfl hHeld ?_; go_frame
  refine hyY (some 7) 3 rfl hHeld ?_; go_frame
  refine hyO (some 8) 4 rfl (fun K hK => ?_)
  go_simp
  go_at_call 89
  refine (hhead _ (hL.drewN 1) (ht.keep (Nat.le_refl _) rfl)).mono ?_
  rintro e w2 ⟨v2, rfl, how2, b2⟩
  have bs2 := own_BS how2
  obtain ⟨A2, c2, rfl, _⟩ := bs2.form
  have BL2 : Below w.heap.size w w2 := (Below_drawn (Below.refl w.heap.size w) 1).trans b2
  have KQ2 := KeepP.of_below (P := Off p w) BL2 fun x hx => hx.1
  clear how2 hhead b2
  go_wp2_with fail
  refine hK.out _ _ ?_ (fun hH2 => ?_)
  · exact HC.out _ (by assumption)
  clear hHeld hK K; have hHeld := hH2; clear hH2; try go_frame
  refine hyO (some 9) 5 rfl (fun K hK => ?_)
  go_simp
  have L3 := LS.one (t := 55) bs2
  have B3 := (Below.refl w2.heap.size w2).alloc (Nat.le_refl _) (.cells #[.slice A2 H.length c2] 55)
  have BL3 := BL2.trans (B3.mono BL2.size)
  have KQ3 := KeepP.of_below (P := Off p w) BL3 fun x hx => hx.1
  refine hK.out _ _ ?_ (fun hH2 => ?_)
  · exact HC.out _ (by assumption)
  clear hHeld hK K; have hHeld := hH2; clear hH2; try go_frame
  refine hyO (some 10) 6 rfl (fun K hK => ?_)
  go_simp
  go_at_call 87
  refine (hrow _ _ _ L3).mono ?_
  rintro e w4 ⟨v4, rfl, ps4, b4⟩
  have BL4 := BL3.trans (b4.mono BL3.size)
  have pq4 := ps4.lt.mono (S' := Off p w4) fun x hx => ⟨hx.2, HNQ.out x (by
    have h1 := BL2.size
    have h2 := BL3.size
    rcases hx.1 with ⟨h3 | h3, h4⟩ | h3
    · exact h3.1
    · rw [h3]; exact h1
    · rw [h3]; exact h2)⟩
  have hw4 := HW.out v4 w4 (KB.below hg BL4 (KB.lt hg)) (hd.below BL4) pq4
  have KQ4 := KeepP.of_below (P := Off p w) BL4 fun x hx => hx.1
  obtain ⟨A4, c4, rfl, _⟩ := ps4.form
  clear ps4 pq4 hrow L3 bs2 b4 B3
  go_wp2_with fail
  refine hK.out _ _ ?_ (fun hH2 => ?_)
  · exact HC.out _ (by assumption)
  clear hHeld hK K; have hHeld := hH2; clear hH2; try go_frame
  refine hyO (some 11) 7 rfl (fun K hK => ?_)
  go_simp
  go_at_call 86
  refine hw4.mono ?_
  rintro e wz ⟨rfl, dz, kz⟩
  have KQ9 := KQ4.trans (kz.mono (Q := Off p w) fun x hx => ⟨Nat.lt_of_lt_of_le hx.1 BL4.size, hx.2⟩)
  go_wp2_with fail
  refine hK.out _ _ ?_ (fun hH2 => ?_)
  · exact HC.out _ (by assumption)
  clear hHeld hK K; have hHeld := hH2; clear hH2; try go_frame
  refine hyY (some 3) 8 rfl hHeld ?_; go_frame
  refine wpAnyH_done (by kernel_rfl) ?_ _
  go_wp2_with fail
  go_ret
  exact ⟨rfl, dz, KQ9⟩
theorem commit3_any {vP : Value} {ps : List Pt} (h2 : KB w b2 79 #[.pointer (some ⟨lg, 0, none⟩)]) (h3 : KB w b3 88 #[vP]) (hg : LG w lg p n br) (hgp : ¬ p.has lg) (hd : DS w p s) (h : PS w (Off p w) vP ps) (hfit : Fit s.safe.length ps) :
    Calls Tryz.prog 90 #[.pointer (some ⟨b2, 0, none⟩), .pointer (some ⟨b3, 0, none⟩)] w fun e w' => e = .returned (.int .i64 (doD ps s).2) ∧ DS w' p (doD ps s).1 ∧ KeepP (Off p w) w w' := by
  have c2 : w.cell? ⟨b2, 0, none⟩ = some (.pointer (some ⟨lg, 0, none⟩)) := h2.cell 0
  have c3 : w.cell? ⟨b3, 0, none⟩ = some vP := h3.cell 0
  have hw := lwrite_any vP ps w hg hgp hd h hfit
  obtain ⟨A, c, rfl, _⟩ := h.form
  generalize ps.length = m at *
  go_enter Tryz.func90, Tryz.ntmps90
  go_wp2_with fail
  refine hw.mono ?_
  rintro e w1 ⟨rfl, d1, k1⟩
  go_wp2_with fail
  go_ret
  exact ⟨rfl, d1, k1⟩
set_option maxHeartbeats 1000000 in
theorem commit4_any (h2 : KB w b2 79 #[.pointer (some ⟨lg, 0, none⟩)]) (o2 : ¬ p.has b2) (hg : LG w lg p n br) (hgp : ¬ p.has lg) (hd : DS w p s) :
    Calls Tryz.prog 91 #[.pointer (some ⟨b2, 0, none⟩)] w fun e w' => e = .returned (.int .i64 (doD (rowP 0 [zs 256]) s).2) ∧ DS w' p (doD (rowP 0 [zs 256]) s).1 ∧ KeepP (Off p w) w w' := by
  have HNQ : Hid (∀ x, w.heap.size ≤ x → ¬ p.has x) := fun x hx h => by have := hd.lt x h; omega
  have hrow := fun (S : Nat → Prop) (v : Value) (W : World) (h : LS W S v [zs 256]) => row_any 0 (by omega) S v [zs 256] W h (by simp)
  have hfit : Fit s.safe.length (rowP 0 [zs 256]) := by
    intro q hq
    obtain ⟨j, hj, e⟩ := rowP_mem hq
    have hj0 := (List.getElem?_eq_some_iff.1 hj).1
    have h1 := hd.ok.some_
    simp at hj0
    subst hj0
    have hj1 : zs 256 = q.2 := by simpa using hj
    rw [e, ← hj1]
    exact ⟨by simp, by simp; omega, zs_len 256⟩
  have hw := fun (v : Value) (W : World) (hgW : LG W lg p n br) (hdW : DS W p s) (h : PS W (Off p W) v (rowP 0 [zs 256])) => lwrite_any v _ W hgW hgp hdW h hfit
  have HW := Lib.hid hw
  have HC : Hid (∀ W, KeepP (Off p w) w W → W.cell? ⟨b2, 0, none⟩ = some (.pointer (some ⟨lg, 0, none⟩))) := by
    intro W hk
    exact (h2.keepP hk ⟨h2.lt, o2⟩).cell 0
  clear h2 hfit hw
  generalize doD (rowP 0 [zs 256]) s = R at *
  go_enter Tryz.func91, Tryz.ntmps91
  go_wp2_with fail
  refine wp_region_held_drew (S := (fun W => W.cell? ⟨b2, 0, none⟩ = some (.pointer (some ⟨lg, 0, none⟩)))) (by kernel_rfl) (HC.out _ ((KeepP.refl _ w).drewN 1)) (fun hHeld => ?_)
  refine hyY (some 2) 0 rfl hHeld ?_; go_frame
  refine hyO (some 3) 1 rfl (fun K hK => ?_)
  go_simp
  go_at_call 81
  refine (zero_any _).mono ?_
  rintro e w2 ⟨rfl, k2, b2⟩
  have bs2 := kb_256 k2 (zs_len 256)
  have BL2 : Below w.heap.size w w2 := (Below_drawn (Below.refl w.heap.size w) 1).trans b2
  have KQ2 := KeepP.of_below (P := Off p w) BL2 fun x hx => hx.1
  clear k2 b2
  go_wp2_with fail
  refine hK.out _ _ ?_ (fun hH2 => ?_)
  · exact HC.out _ (by assumption)
  clear hHeld hK K; have hHeld := hH2; clear hH2; try go_frame
  refine hyO (some 4) 2 rfl (fun K hK => ?_)
  go_simp
  have L3 := LS.one (t := 55) bs2
  have B3 := (Below.refl w2.heap.size w2).alloc (Nat.le_refl _) (.cells #[.slice (some ⟨w.heap.size, 0, none⟩) 256 256] 55)
  have BL3 := BL2.trans (B3.mono BL2.size)
  have KQ3 := KeepP.of_below (P := Off p w) BL3 fun x hx => hx.1
  refine hK.out _ _ ?_ (fun hH2 => ?_)
  · exact HC.out _ (by assumption)
  clear hHeld hK K; have hHeld := hH2; clear hH2; try go_frame
  refine hyO (some 5) 3 rfl (fun K hK => ?_)
  go_simp
  go_at_call 87
  refine (hrow _ _ _ L3).mono ?_
  rintro e w4 ⟨v4, rfl, ps4, b4⟩
  have BL4 := BL3.trans (b4.mono BL3.size)
  have pq4 := ps4.lt.mono (S' := Off p w4) fun x hx => ⟨hx.2, HNQ.out x (by
    have h1 := BL2.size
    have h2 := BL3.size
    rcases hx.1 with ⟨h3 | h3, h4⟩ | h3
    · rw [h3]; exact Nat.le_refl _
    · rw [h3]; exact h1
    · rw [h3]; exact h2)⟩
  have hw4 := HW.out v4 w4 (KB.below hg BL4 (KB.lt hg)) (hd.below BL4) pq4
  have KQ4 := KeepP.of_below (P := Off p w) BL4 fun x hx => hx.1
  obtain ⟨A4, c4, rfl, _⟩ := ps4.form
  clear ps4 pq4 hrow L3 bs2 b4 B3
  go_wp2_with fail
  refine hK.out _ _ ?_ (fun hH2 => ?_)
  · exact HC.out _ (by assumption)
  clear hHeld hK K; have hHeld := hH2; clear hH2; try go_frame
  refine hyO (some 6) 4 rfl (fun K hK => ?_)
  go_simp
  go_at_call 86
  refine hw4.mono ?_
  rintro e wz ⟨rfl, dz, kz⟩
  have KQ9 := KQ4.trans (kz.mono (Q := Off p w) fun x hx => ⟨Nat.lt_of_lt_of_le hx.1 BL4.size, hx.2⟩)
  go_wp2_with fail
  refine hK.out _ _ ?_ (fun hH2 => ?_)
  · exact HC.out _ (by assumption)
  clear hHeld hK K; have hHeld := hH2; clear hH2; try go_frame
  refine hyY (some 1) 5 rfl hHeld ?_; go_frame
  refine wpAnyH_done (by kernel_rfl) ?_ _
  go_wp2_with fail
  go_ret
  exact ⟨rfl, dz, KQ9⟩
end
end
section
open Go.RowKit
theorem LS.off {w w' : World} {p : DA} {v : Value} {ls : List (List UInt8)} (h : LS w (Off p w) v ls) (k : KeepP (Off p w) w w') : LS w' (Off p w') v ls :=
  (h.keep k.size fun b sb _ => k.block b sb).mono fun b sb => ⟨Nat.lt_of_lt_of_le sb.1 k.size, sb.2⟩
def comD (ps : List Pt) : List (Dk → Dk × Int) :=
  [doD (rowP 1 (entriesL ps)), doD (rowP 0 [headL ps.length (entriesL ps)]), doD ps, doD (rowP 0 [zs 256]), doD (rowP 1 ((entriesL ps).map fun _ => zs 256))]
theorem commitD_seq (ps : List Pt) (s : Dk) : commitD ps s = seqD (comD ps) s := rfl
def comFs (b2 b3 b6 b7 : Nat) : List Fn2 :=
  [(85, #[.pointer (some ⟨b2, 0, none⟩), .pointer (some ⟨b6, 0, none⟩)]), (88, #[.pointer (some ⟨b2, 0, none⟩), .pointer (some ⟨b3, 0, none⟩), .pointer (some ⟨b6, 0, none⟩)]),
   (90, #[.pointer (some ⟨b2, 0, none⟩), .pointer (some ⟨b3, 0, none⟩)]), (91, #[.pointer (some ⟨b2, 0, none⟩)]),
   (92, #[.pointer (some ⟨b2, 0, none⟩), .pointer (some ⟨b7, 0, none⟩)])]
theorem comFs_run (b2 b3 b6 b7 : Nat) : ∀ q ∈ comFs b2 b3 b6 b7, Runs q := by
  intro q hq args w
  simp [comFs] at hq
  rcases hq with rfl | rfl | rfl | rfl | rfl
  · exact enters_of Tryz.func85 (by kernel_rfl) rfl args w
  · exact enters_of Tryz.func88 (by kernel_rfl) rfl args w
  · exact enters_of Tryz.func90 (by kernel_rfl) rfl args w
  · exact enters_of Tryz.func91 (by kernel_rfl) rfl args w
  · exact enters_of Tryz.func92 (by kernel_rfl) rfl args w
structure CA where
  b : Nat
  b2 : Nat
  b3 : Nat
  b6 : Nat
  b7 : Nat
  lg : Nat
structure CC (w W : World) (p : DA) (a : CA) (n : Nat) (ps : List Pt) (vP vL vZ : Value) : Prop where
  kf : KB W a.b 139 ((comFs a.b2 a.b3 a.b6 a.b7).map fnV).toArray
  k2 : KB W a.b2 79 #[.pointer (some ⟨a.lg, 0, none⟩)]
  k3 : KB W a.b3 88 #[vP]
  k6 : KB W a.b6 100 #[vL]
  k7 : KB W a.b7 100 #[vZ]
  lg : LG W a.lg p n false
  tab : Tab W
  hP : PS W (Off p W) vP ps
  hL : LS W (Off p W) vL (entriesL ps)
  hZ : LS W (Off p W) vZ ((entriesL ps).map fun _ => zs 256)
  kp : KeepP (Off p w) w W
structure CN (p : DA) (a : CA) : Prop where
  nb : ¬ p.has a.b
  n2 : ¬ p.has a.b2
  n3 : ¬ p.has a.b3
  n6 : ¬ p.has a.b6
  n7 : ¬ p.has a.b7
  nl : ¬ p.has a.lg
  nt : ¬ p.has 1
theorem CC.step {w W W' : World} {p : DA} {a : CA} {n : Nat} {ps : List Pt} {vP vL vZ : Value} (h : CC w W p a n ps vP vL vZ) (c : CN p a) (k : KeepP (Off p W) W W') : CC w W' p a n ps vP vL vZ :=
  ⟨h.kf.keepP k ⟨h.kf.lt, c.nb⟩, h.k2.keepP k ⟨h.k2.lt, c.n2⟩, h.k3.keepP k ⟨h.k3.lt, c.n3⟩, h.k6.keepP k ⟨h.k6.lt, c.n6⟩, h.k7.keepP k ⟨h.k7.lt, c.n7⟩, h.lg.keepP k ⟨KB.lt h.lg, c.nl⟩,
    h.tab.keep k.size (k.block _ ⟨h.tab.1, c.nt⟩), h.hP.off k, h.hL.off k, h.hZ.off k, h.kp.trans (k.mono fun x hx => ⟨Nat.lt_of_lt_of_le hx.1 h.kp.size, hx.2⟩)⟩
def IC (w : World) (p : DA) (a : CA) (n : Nat) (ps : List Pt) (vP vL vZ : Value) (s : Dk) (j : Nat) (W : World) : Prop :=
  CC w W p a n ps vP vL vZ ∧ ∃ t : Dk, DS W p t ∧ t.safe.length = s.safe.length ∧ seqD ((comD ps).drop j) t = seqD (comD ps) s
def EC (w : World) (p : DA) (a : CA) (n : Nat) (ps : List Pt) (vP vL vZ : Value) (s : Dk) (x : Int) (W : World) : Prop :=
  CC w W p a n ps vP vL vZ ∧ x = (commitD ps s).2 ∧ DS W p (commitD ps s).1
theorem catB_small {L : List (List UInt8)} (h : ∀ l ∈ L, l.length = 256) (hl : L.length ≤ 100000) : (catB L).length < 100000000000000000 := by
  have := catB_256 h
  omega
theorem rowP_fit {N at_ : Nat} {L : List (List UInt8)} (h : ∀ l ∈ L, l.length = 256) (hN : at_ + L.length ≤ N) : Fit N (rowP at_ L) := by
  intro q hq
  obtain ⟨j, hj, e⟩ := rowP_mem hq
  have := (List.getElem?_eq_some_iff.1 hj).1
  exact ⟨by omega, by omega, h _ (List.mem_of_getElem? hj)⟩
set_option maxHeartbeats 1000000 in
theorem commit_steps {w W : World} {p : DA} {a : CA} {n : Nat} {ps : List Pt} {vP vL vZ : Value} {s : Dk} (c : CN p a) (hcc : CC w W p a n ps vP vL vZ) (hd : DS W p s) (hf : Fine n s.safe.length ps) :
    Calls Tryz.prog 84 #[.slice (some ⟨a.b, 0, none⟩) 5 5] W fun e W' => ∃ x : Int, e = .returned (.int .i64 x) ∧ (x = 0 → IC w p a n ps vP vL vZ s 5 W') ∧ (x ≠ 0 → EC w p a n ps vP vL vZ s x W') := by
  have h256 := entries_256 (p := ps) fun v hv => (takes_at hf.takes hv).2.2
  have hlen := hf.len
  have hlog := hf.log
  have hfew := hf.few
  refine inOrder_any (comFs a.b2 a.b3 a.b6 a.b7) a.b W (IC w p a n ps vP vL vZ s) (EC w p a n ps vP vL vZ s) (by simp [comFs]) ⟨hcc, s, hd, rfl, rfl⟩ (comFs_run _ _ _ _) (fun j W h => h.1.kf) ?_
  intro j q W hq hI
  obtain ⟨cc, t, d, hl, hs⟩ := hI
  have done : ∀ (f : Dk → Dk × Int) (r : List (Dk → Dk × Int)) (e : Ending) (W' : World), (comD ps).drop j = f :: r → (comD ps).drop (j + 1) = r → (f t).1.safe.length = t.safe.length → e = .returned (.int .i64 (f t).2) ∧ DS W' p (f t).1 ∧ KeepP (Off p W) W W' →
      ∃ x : Int, e = .returned (.int .i64 x) ∧ (x = 0 → IC w p a n ps vP vL vZ s (j + 1) W') ∧ (x ≠ 0 → EC w p a n ps vP vL vZ s x W') := by
    rintro f r e W' h1 h2 h3 ⟨rfl, d1, k1⟩
    rw [h1, seqD_one] at hs
    refine ⟨_, rfl, fun hx => ⟨cc.step c k1, _, d1, h3.trans hl, ?_⟩, fun hx => ⟨cc.step c k1, ?_, ?_⟩⟩
    · rw [h2, ← hs, if_pos hx]
    · rw [commitD_seq, ← hs, if_neg hx]
    · rw [commitD_seq, ← hs, if_neg hx]; exact d1
  match j, hq with
  | 0, hq =>
    obtain rfl : (85, #[.pointer (some ⟨a.b2, 0, none⟩), .pointer (some ⟨a.b6, 0, none⟩)]) = q := Option.some.inj hq
    exact (commit1_any cc.k2 cc.k6 c.n2 c.n6 cc.lg c.nl d cc.hL (by omega) (rowP_fit h256 (by omega))).mono fun e W' h => done _ _ e W' rfl rfl (doD_len _ _) h
  | 1, hq =>
    obtain rfl : (88, #[.pointer (some ⟨a.b2, 0, none⟩), .pointer (some ⟨a.b3, 0, none⟩), .pointer (some ⟨a.b6, 0, none⟩)]) = q := Option.some.inj hq
    obtain ⟨AP, cP, e, _⟩ := cc.hP.form
    have k3 := cc.k3
    rw [e] at k3
    have hk : ps.length < 65536 := by have := room_fits hf.room; omega
    exact (commit2_any cc.k2 k3 cc.k6 c.n2 c.n3 c.n6 cc.lg c.nl d cc.tab cc.hL hk (catB_small h256 (by omega))).mono fun e W' h => done _ _ e W' rfl rfl (doD_len _ _) h
  | 2, hq =>
    obtain rfl : (90, #[.pointer (some ⟨a.b2, 0, none⟩), .pointer (some ⟨a.b3, 0, none⟩)]) = q := Option.some.inj hq
    exact (commit3_any cc.k2 cc.k3 cc.lg c.nl d cc.hP (by rw [hl]; exact takes_fit hf.takes)).mono fun e W' h => done _ _ e W' rfl rfl (doD_len _ _) h
  | 3, hq =>
    obtain rfl : (91, #[.pointer (some ⟨a.b2, 0, none⟩)]) = q := Option.some.inj hq
    exact (commit4_any cc.k2 c.n2 cc.lg c.nl d).mono fun e W' h => done _ _ e W' rfl rfl (doD_len _ _) h
  | 4, hq =>
    obtain rfl : (92, #[.pointer (some ⟨a.b2, 0, none⟩), .pointer (some ⟨a.b7, 0, none⟩)]) = q := Option.some.inj hq
    exact (commit5_any cc.k2 cc.k7 c.n2 c.n7 cc.lg c.nl d cc.hZ (by rw [List.length_map]; omega) (rowP_fit (fun l hl => by obtain ⟨_, _, rfl⟩ := List.mem_map.1 hl; exact zs_len 256) (by rw [List.length_map]; omega))).mono fun e W' h => done _ _ e W' rfl rfl (doD_len _ _) h
  | j + 5, hq => simp [comFs] at hq
end
section
open Go.RowKit
section
variable {w : World} {lg n : Nat} {p : DA} {br : Bool} {s : Dk}
theorem commit_no (v : Value) (ps : List Pt) (hn : n ≤ 100000) (hg : LG w lg p n br) (hd : DS w p s) (h : PS w (Off p w) v ps) (hno : chkP br n s.safe.length ps ≠ 0 ∨ ps.length = 0) :
    Calls Tryz.prog 53 #[.pointer (some ⟨lg, 0, none⟩), v] w fun e w' => e = .returned (.int .i64 (chkP br n s.safe.length ps)) ∧ Below w.heap.size w w' := by
  obtain ⟨A, c, rfl, _⟩ := h.form
  have B0 := ((Below.refl w.heap.size w).alloc (Nat.le_refl _) (.cells #[.pointer (some ⟨lg, 0, none⟩)] 79)).alloc (by simp) (.cells #[.slice A ps.length c] 88)
  have K3 := KB.new (w.alloc (.cells #[.pointer (some ⟨lg, 0, none⟩)] 79)) 88 #[.slice A ps.length c]
  rw [World.size_alloc] at K3
  have hch := lcheck_any (Off p w) _ ps hn (hg.below B0) (hd.below B0) (h.below' B0)
  generalize chkP br n s.safe.length ps = x at *
  by_cases hx : x = 0
  · subst hx
    have h0 : ps.length = 0 := by
      rcases hno with h | h
      · exact absurd rfl h
      · exact h
    clear hno h
    generalize ps.length = m at *
    subst h0
    go_enter Tryz.func53, Tryz.ntmps53
    go_wp2_with fail
    refine hch.mono ?_
    rintro e w1 ⟨rfl, b1⟩
    have c3 : w1.cell? ⟨w.heap.size + 1, 0, none⟩ = some (.slice A 0 c) := (K3.below b1 K3.lt).cell 0
    go_wp2_with fail
    go_ret
    exact ⟨rfl, B0.trans (b1.mono B0.size)⟩
  · have hx1 : (x != 0) = true := by simpa using hx
    have hx2 : (x == 0) = false := by simpa using hx
    clear hno h
    go_enter Tryz.func53, Tryz.ntmps53
    go_wp2_with fail
    refine hch.mono ?_
    rintro e w1 ⟨rfl, b1⟩
    clear hx
    go_wp2_with fail
    go_ret
    exact ⟨rfl, B0.trans (b1.mono B0.size)⟩
set_option maxHeartbeats 4000000 in
theorem commit_go (v : Value) (ps : List Pt) (hg : LG w lg p n false) (hgp : ¬ p.has lg) (hd : DS w p s) (h : PS w (Off p w) v ps) (hf : Fine n s.safe.length ps) (h1 : 1 ≤ ps.length) (ht : Tab w) (htp : ¬ p.has 1) :
    Calls Tryz.prog 53 #[.pointer (some ⟨lg, 0, none⟩), v] w fun e w' => e = .returned (.int .i64 (commitD ps s).2) ∧ DS w' p (commitD ps s).1 ∧ LG w' lg p n (decide ((commitD ps s).2 ≠ 0)) ∧ KeepP (fun x => Off p w x ∧ x ≠ lg) w w' := by
  obtain ⟨A, c, rfl, _⟩ := h.form
  have hlog := hf.log
  have hfew := hf.few
  have B0 := ((Below.refl w.heap.size w).alloc (Nat.le_refl _) (.cells #[.pointer (some ⟨lg, 0, none⟩)] 79)).alloc (by simp) (.cells #[.slice A ps.length c] 88)
  have K2 := (KB.new w 79 #[.pointer (some ⟨lg, 0, none⟩)]).alloc (.cells #[.slice A ps.length c] 88)
  have K3 := KB.new (w.alloc (.cells #[.pointer (some ⟨lg, 0, none⟩)] 79)) 88 #[.slice A ps.length c]
  rw [World.size_alloc] at K3
  have hch := lcheck_any (Off p w) _ ps (by omega) (hg.below B0) (hd.below B0) (h.below' B0)
  have hck : chkP false n s.safe.length ps = 0 := by unfold chkP; rw [if_neg (by simp), if_pos hf.takes, if_neg (by have := hf.room; omega)]
  rw [hck] at hch
  have hr := room_fits hf.room
  have hent := fun (W : World) (hW : PS W (Off p w) (.slice A ps.length c) ps) => entries_any (Off p w) _ ps W hW (fun q hq => by have := takes_at hf.takes hq; omega) (by omega)
  have HENT := Lib.hid hent
  have hlt := hd.lt
  have HNQ : Hid (∀ x, w.heap.size ≤ x → ¬ p.has x) := fun x hx hh => by have := hlt x hh; omega
  have D0 : decide ((ps.length : Int) = 0) = false := by simp; intro e; rw [e] at h1; simp at h1
  have D0' : ((ps.length : Int) == 0) = false := by simp; intro e; rw [e] at h1; simp at h1
  have D0'' : ¬ (ps.length : Int) = 0 := by omega
  have hst := fun (W : World) (a : CA) (vL vZ : Value) (cn : CN p a) (hcc : CC w W p a n ps (.slice A ps.length c) vL vZ) (hdW : DS W p s) => commit_steps cn hcc hdW hf
  have HST := Lib.hid hst
  have hel := hf.len
  have HH := Lib.hid h
  clear hent hst hck hr h
  go_enter Tryz.func53, Tryz.ntmps53
  go_wp2_with fail
  refine hch.mono ?_
  rintro e w1 ⟨rfl, b1⟩
  have k2 := K2.below b1 K2.lt
  have k3 := K3.below b1 K3.lt
  have B1 := B0.trans (b1.mono B0.size)
  have c3 : w1.cell? ⟨w.heap.size + 1, 0, none⟩ = some (.slice A ps.length c) := k3.cell 0
  clear hch b1 K2 K3 B0
  go_wp2_with fail
  refine (HENT.out w1 (HH.out.below' B1)).mono ?_
  rintro e w2 ⟨vL, rfl, hL, b2⟩
  have k22 := k2.below b2 k2.lt
  have k32 := k3.below b2 k3.lt
  have B2 := B1.trans (b2.mono B1.size)
  obtain ⟨AL, cL, rfl, _⟩ := hL.form
  obtain ⟨m, hm⟩ : ∃ m, m = (entriesL ps).length := ⟨_, rfl⟩
  rw [← hm] at hel hL ⊢
  obtain ⟨C, hC, hmk⟩ := make_rows (w2.alloc (.cells #[.slice AL m cL] 100)) m (by omega)
  rw [World.size_alloc] at hmk
  have k6 : KB (((w2.alloc (.cells #[.slice AL m cL] 100)).alloc (.cells C 55)).alloc (.cells #[.slice (some ⟨w2.heap.size + 1, 0, none⟩) m m] 100)) w2.heap.size 100 #[.slice AL m cL] := ((KB.new _ _ _).alloc _).alloc _
  have kr : KB (((w2.alloc (.cells #[.slice AL m cL] 100)).alloc (.cells C 55)).alloc (.cells #[.slice (some ⟨w2.heap.size + 1, 0, none⟩) m m] 100)) (w2.heap.size + 1) 55 (([] : List Value) ++ List.replicate (m - 0) nilB).toArray := by
    have := KB.new (w2.alloc (.cells #[.slice AL m cL] 100)) 55 C
    rw [World.size_alloc] at this
    rw [← hC]
    exact this.alloc _
  have k7 : KB (((w2.alloc (.cells #[.slice AL m cL] 100)).alloc (.cells C 55)).alloc (.cells #[.slice (some ⟨w2.heap.size + 1, 0, none⟩) m m] 100)) (w2.heap.size + 1 + 1) 100 #[.slice (some ⟨w2.heap.size + 1, 0, none⟩) m m] := by
    have := KB.new ((w2.alloc (.cells #[.slice AL m cL] 100)).alloc (.cells C 55)) 100 #[.slice (some ⟨w2.heap.size + 1, 0, none⟩) m m]
    rw [World.size_alloc, World.size_alloc] at this
    exact this
  have B3 := (((Below.refl w2.heap.size w2).alloc (Nat.le_refl _) (.cells #[.slice AL m cL] 100)).alloc (by simp) (.cells C 55)).alloc (by simp; omega) (.cells #[.slice (some ⟨w2.heap.size + 1, 0, none⟩) m m] 100)
  have HM := Lib.hid hm
  have hml : m ≤ 1024 := by omega
  have hmi : m ≤ 9223372036854775807 := by omega
  clear hC k2 k3 b2 hm c3
  go_wp2_with fail
  go_loopw [28] (fun iv wr => ∃ (k : Nat) (vs : List Value), k ≤ m ∧ iv = .int .i64 k ∧ vs.length = k ∧ KB wr (w2.heap.size + 1) 55 (vs ++ List.replicate (m - k) nilB).toArray ∧ OW wr (w2.heap.size + 1 + 1 + 1) vs (List.replicate k (zs 256)) ∧ KB wr w2.heap.size 100 #[.slice AL m cL] ∧ KB wr (w2.heap.size + 1 + 1) 100 #[.slice (some ⟨w2.heap.size + 1, 0, none⟩) m m] ∧ Below w2.heap.size w2 wr) (fun iv _ => m - (intOf iv).toNat)
  case atStart => exact ⟨0, [], by omega, rfl, rfl, kr, OW.nil _ _, k6, k7, B3⟩
  case round =>
    clear kr k6 k7 B3 hmk
    obtain ⟨k, vs, hk, rfl, hvl, kr, ow, k6, k7, bl⟩ := hrel
    by_cases hlt2 : k < m
    · have HROW := Lib.hid (row_at (n := m) hvl hlt2)
      have HSET := fun x => Lib.hid (row_set (n := m) hvl hlt2 x)
      have HVL := Lib.hid hvl
      have hs1 := bl.size
      have hs2 := k7.lt
      clear hvl
      go_wp2_with fail
      refine wp_region_held_drew (S := (fun W => W.cell? ⟨w2.heap.size + 1 + 1, 0, none⟩ = some (.slice (some ⟨w2.heap.size + 1, 0, none⟩) m m))) (by kernel_rfl) ((k7.drewN 1).cell 0) (fun hHeld => ?_)
      refine hyY (some 31) 0 rfl hHeld ?_; go_frame
      refine hyY (some 32) 1 rfl hHeld ?_; go_frame
      refine hyO (some 33) 2 rfl (fun K hK => ?_)
      go_simp
      go_at_call 81
      refine (zero_any _).mono ?_
      rintro e w5 ⟨rfl, kz, b5⟩
      have BL5 := (Below_drawn (Below.refl wr.heap.size wr) 1).trans b5
      have kr5 := kr.below BL5 kr.lt
      have k75 := k7.below BL5 k7.lt
      have cc5 := kr5.cell k
      have ff5 := kr5.free k
      rw [HROW.out] at cc5
      have q5 : w5.cell? ⟨w2.heap.size + 1 + 1, 0, none⟩ = some (.slice (some ⟨w2.heap.size + 1, 0, none⟩) m m) := k75.cell 0
      go_wp2_with fail
      refine hK.out _ _ ?_ (fun hH2 => ?_)
      · first | exact q5 | (rw [World.cell?_setCell_ne]; exact q5; simp) | (exact (World.cell?_of_block (w := w5) (Below.heap_setCell _ ⟨w2.heap.size + 1, k, none⟩ _ _ (by simp))).trans q5)
      clear hHeld hK K; have hHeld := hH2; clear hH2; try go_frame
      refine hyY (some 34) 3 rfl hHeld ?_; go_frame
      refine hyO none 4 rfl (fun K hK => ?_)
      go_simp
      refine hK.out _ _ ?_ (fun hH2 => ?_)
      · first | exact q5 | (rw [World.cell?_setCell_ne]; exact q5; simp) | (exact (World.cell?_of_block (w := w5) (Below.heap_setCell _ ⟨w2.heap.size + 1, k, none⟩ _ _ (by simp))).trans q5)
      clear hHeld hK K; have hHeld := hH2; clear hH2; try go_frame
      refine wpAnyH_done (by kernel_rfl) ?_ _
      have kk6 := kr5.put k (.slice (some ⟨wr.heap.size, 0, none⟩) 256 256)
      rw [(HSET _).out] at kk6
      have ow5 : OW w5 (w2.heap.size + 1 + 1 + 1) vs (List.replicate k (zs 256)) := ow.keep fun b h1 h2 => BL5.block b h2
      have how5 : w5.ownsRow (w2.heap.size + 1 + 1 + 1) 5 1 (.slice (some ⟨wr.heap.size, 0, none⟩) 256 256) (zs 256).length ((zs 256).map bv) := by
        have := kz.own (B := w2.heap.size + 1 + 1 + 1) (by show _ ≤ wr.heap.size; omega) (by rw [zs_len]; simp [maxLen])
        rw [zs_len] at this ⊢
        exact this
      have V6 : OW (w5.setCell ⟨w2.heap.size + 1, k, none⟩ (.slice (some ⟨wr.heap.size, 0, none⟩) 256 256)) (w2.heap.size + 1 + 1 + 1) (vs ++ [.slice (some ⟨wr.heap.size, 0, none⟩) 256 256]) (List.replicate (k + 1) (zs 256)) := by
        rw [List.replicate_succ']
        exact (ow5.append (OW.one how5)).keep fun b h1 h2 => Below.heap_setCell _ ⟨w2.heap.size + 1, k, none⟩ _ b (by show b ≠ w2.heap.size + 1; omega)
      have k66 := (k6.below BL5 k6.lt).keep (w' := w5.setCell ⟨w2.heap.size + 1, k, none⟩ (.slice (some ⟨wr.heap.size, 0, none⟩) 256 256)) (Below.heap_setCell _ ⟨w2.heap.size + 1, k, none⟩ _ _ (by show w2.heap.size ≠ w2.heap.size + 1; omega))
      have k76 := k75.keep (w' := w5.setCell ⟨w2.heap.size + 1, k, none⟩ (.slice (some ⟨wr.heap.size, 0, none⟩) 256 256)) (Below.heap_setCell _ ⟨w2.heap.size + 1, k, none⟩ _ _ (by show w2.heap.size + 1 + 1 ≠ w2.heap.size + 1; omega))
      have B6 := (bl.trans (BL5.mono hs1)).setCell (p := ⟨w2.heap.size + 1, k, none⟩) (by show _ ≤ w2.heap.size + 1; omega) (.slice (some ⟨wr.heap.size, 0, none⟩) 256 256)
      clear hHeld HSET HROW kr5 k75 cc5 ff5 q5 kz BL5 ow5 how5 kr ow k6 k7 bl
      go_wp2_with fail
      go_roundw
      case rel => exact ⟨k + 1, _, by omega, by go_num, by rw [List.length_append, HVL.out]; rfl, kk6, V6, k66, k76, B6⟩
      case measure => simp [intOf]; omega
    · obtain rfl : k = m := by omega
      rw [Nat.sub_self, List.replicate_zero, List.append_nil] at kr
      have hls : LS wr (fun b => w2.heap.size ≤ b ∧ b < wr.heap.size) (.slice (some ⟨w2.heap.size + 1, 0, none⟩) (List.replicate k (zs 256)).length (List.replicate k (zs 256)).length) (List.replicate k (zs 256)) :=
        LS_of_kb kr ow.reads (fun b hb => ⟨by omega, hb.2⟩) ⟨by omega, kr.lt⟩ (by rw [hvl]; simp [maxLen]; omega)
      rw [List.length_replicate] at hls
      have hzl : List.replicate k (zs 256) = (entriesL ps).map fun _ => zs 256 := by rw [HM.out]; exact List.map_const'.symm
      rw [hzl] at hls
      have BLr := B2.trans (bl.mono B2.size)
      have hs2 := B2.size
      have B4 := (Below.refl wr.heap.size wr).alloc (Nat.le_refl _) (.cells ((comFs w.heap.size (w.heap.size + 1) w2.heap.size (w2.heap.size + 1 + 1)).map fnV).toArray 139)
      have BL4 := BLr.trans (B4.mono BLr.size)
      have hlm : LG w lg p n false := hg
      have hcn : CN p ⟨wr.heap.size, w.heap.size, w.heap.size + 1, w2.heap.size, w2.heap.size + 1 + 1, lg⟩ := ⟨HNQ.out _ BLr.size, HNQ.out _ (Nat.le_refl _), HNQ.out _ (by show _ ≤ w.heap.size + 1; omega), HNQ.out _ hs2, HNQ.out _ (by show _ ≤ w2.heap.size + 1 + 1; omega), hgp, htp⟩
      have hs4 := BL4.size
      have hcc : CC w (wr.alloc (.cells ((comFs w.heap.size (w.heap.size + 1) w2.heap.size (w2.heap.size + 1 + 1)).map fnV).toArray 139)) p ⟨wr.heap.size, w.heap.size, w.heap.size + 1, w2.heap.size, w2.heap.size + 1 + 1, lg⟩ n ps (.slice A ps.length c) (.slice AL k cL) (.slice (some ⟨w2.heap.size + 1, 0, none⟩) k k) := by
        refine ⟨KB.new _ _ _, (k22.below bl k22.lt).alloc _, (k32.below bl k32.lt).alloc _, k6.alloc _, k7.alloc _, hg.below BL4, ht.below BL4, ?_, ?_, ?_, KeepP.of_below BL4 fun x hx => hx.1⟩
        · exact HH.out.off_below BL4
        · exact (hL.keep (w' := wr.alloc (.cells ((comFs w.heap.size (w.heap.size + 1) w2.heap.size (w2.heap.size + 1 + 1)).map fnV).toArray 139)) (Nat.le_trans bl.size B4.size) fun b _ hb => (B4.block b (Nat.lt_of_lt_of_le hb bl.size)).trans (bl.block b hb)).mono fun b sb => by
            rcases sb with sb | sb
            · exact ⟨Nat.lt_of_lt_of_le sb.1.1 hs4, sb.1.2⟩
            · exact ⟨by have := bl.size; have := B4.size; omega, HNQ.out b (by have := B1.size; omega)⟩
        · exact (hls.below' B4).mono fun b sb => ⟨Nat.lt_of_lt_of_le sb.2 B4.size, HNQ.out b (by omega)⟩
      have hst := HST.out _ _ _ _ hcn hcc (hd.below BL4)
      have HCN := Lib.hid hcn
      have hsw := B1.size
      dsimp only at hst
      clear hcc hcn HST HENT hls hzl kr ow k6 k7 hL k22 k32 hvl B4 BL4 BLr
      go_wp2_with fail
      refine hst.mono ?_
      rintro e w5 ⟨x, rfl, h1x, h2x⟩
      have hfin : CC w w5 p ⟨wr.heap.size, w.heap.size, w.heap.size + 1, w2.heap.size, w2.heap.size + 1 + 1, lg⟩ n ps (.slice A ps.length c) (.slice AL k cL) (.slice (some ⟨w2.heap.size + 1, 0, none⟩) k k) ∧ x = (commitD ps s).2 ∧ DS w5 p (commitD ps s).1 := by
        by_cases hx : x = 0
        · obtain ⟨cc, t, d, _, hseq⟩ := h1x hx
          have e5 : (t, (0 : Int)) = commitD ps s := hseq
          rw [← e5]
          exact ⟨cc, hx, d⟩
        · exact h2x hx
      obtain ⟨cc, hx, d⟩ := hfin
      have q2 : w5.cell? ⟨w.heap.size, 0, none⟩ = some (.pointer (some ⟨lg, 0, none⟩)) := cc.k2.cell 0
      have q3 : w5.cell? ⟨lg, 2, none⟩ = some (.bool false) := cc.lg.c2
      have f3 : w5.frozen? ⟨lg, 2, none⟩ = false := KB.free cc.lg 2
      have HCC := Lib.hid cc
      have HX := Lib.hid hx
      have HD := Lib.hid d
      clear h1x h2x hst cc hx d
      go_wp2_with fail
      go_ret
      have hk := KB.put HCC.out.lg 2 (.bool (x != 0))
      have hxx : decide (x ≠ 0) = (x != 0) := by by_cases h0 : x = 0 <;> simp [h0]
      refine ⟨by rw [← HX.out]; rfl, HD.out.keep fun y hy => Below.heap_setCell _ ⟨lg, 2, none⟩ _ y (fun e => hgp (by have e' : y = lg := e; rw [← e']; exact hy)), by rw [← HX.out, hxx]; exact hk, (HCC.out.kp.mono fun y hy => hy.1).set ⟨lg, 2, none⟩ (fun h => h.2 rfl) _⟩
end
end
section
open Go.RowKit
section
variable {n N : Nat} {p : List Pt} {W0 W : Nat → List UInt8} {s : Dk}
theorem Allow.seqD {Al : Nat → List UInt8 → Prop} : ∀ (fs : List (Dk → Dk × Int)) {s : Dk}, (∀ f ∈ fs, ∀ t, t.safe.length = s.safe.length → Allow Al t → Allow Al (f t).1 ∧ (f t).1.safe.length = t.safe.length) → Allow Al s → Allow Al (seqD fs s).1
  | [], s, _, h => h
  | f :: fs, s, hf, h => by
    rw [seqD_one]
    obtain ⟨h1, h2⟩ := hf f (by simp) s rfl h
    split
    · exact Allow.seqD fs (fun g hg t ht => hf g (by simp [hg]) t (ht.trans h2)) h1
    · exact h1
theorem commit_stands (h : Fine n N p) (hl : s.safe.length = N) (hs : Stands n N W0 s) (hc : (commitD p s).2 = 0) : Stands n N (W1 p W0) (commitD p s).1 := by
  have hlog := h.log
  have hlen := h.len
  have ha : Allow (AlZ n W0) s := Allow.of_now hs.1 fun i hi => ⟨fun e => by subst e; exact hs.2.1 0 (Nat.zero_le _), fun e => hs.2.2 i e (by omega)⟩
  obtain ⟨_, h2⟩ := commit_good h hl hs.1 ha
  obtain ⟨c, a, hz⟩ := h2 hc
  have hq : Allow (fun i v => (entriesL p).length < i ∧ i ≤ n → v = zs 256) (commitD p s).1 := by
    rw [commitD_seq]
    refine Allow.seqD _ (fun f hf t ht hat => ?_) (Allow.of_now hs.1 fun i hi e => hs.2.1 i e.2)
    simp [comD] at hf
    rcases hf with rfl | rfl | rfl | rfl | rfl
    · refine ⟨hat.doD fun q hq _ => ?_, doD_len _ _⟩
      obtain ⟨j, hj, e⟩ := rowP_mem hq
      have := (List.getElem?_eq_some_iff.1 hj).1
      rw [e, Int.toNat_natCast]
      intro hh; omega
    · refine ⟨hat.doD fun q hq _ => ?_, doD_len _ _⟩
      obtain ⟨j, hj, e⟩ := rowP_mem hq
      have := (List.getElem?_eq_some_iff.1 hj).1
      simp at this
      rw [e, Int.toNat_natCast]
      intro hh; omega
    · refine ⟨hat.doD fun q hq _ => ?_, doD_len _ _⟩
      have := h.behind hq
      intro hh; omega
    · refine ⟨hat.doD fun q hq _ => ?_, doD_len _ _⟩
      obtain ⟨j, hj, e⟩ := rowP_mem hq
      have := (List.getElem?_eq_some_iff.1 hj).1
      simp at this
      rw [e, Int.toNat_natCast]
      intro hh; omega
    · refine ⟨hat.doD fun q hq _ => ?_, doD_len _ _⟩
      obtain ⟨j, hj, e⟩ := rowP_mem hq
      have := (List.getElem?_eq_some_iff.1 hj).1
      rw [List.length_map] at this
      rw [e, Int.toNat_natCast]
      intro hh; omega
  have hL : (commitD p s).1.safe.length = N := by rw [commitD_len]; exact hl
  refine ⟨c, fun i hi => ?_, fun i h1 h2 => (a i _ (may_now (by omega))).2 h1⟩
  rcases Nat.eq_zero_or_pos i with h0 | h0
  · subst h0
    exact (a 0 _ (may_now (by omega))).1 rfl
  · by_cases he : i ≤ (entriesL p).length
    · exact hz i h0 he
    · exact hq i _ (may_now (by omega)) ⟨by omega, hi⟩
end
theorem crashed_lenW (s : Dk) (ks : List Bool) : (s.crashed ks).safe.length = s.safe.length := over_len _ _
theorem blank_len (N : Nat) : (blank N).safe.length = N := by simp [blank]
theorem blank_now {N i : Nat} (h : i < N) : (blank N).now i = zs 256 := by
  show (none : Option (List UInt8)).getD ((List.replicate N z256).getD i []) = _
  rw [Option.getD_none, List.getD_eq_getElem?_getD, List.getElem?_replicate, if_pos h]
  rfl
theorem blank_stands {n N : Nat} (h : n < N) : Stands n N (fun _ => zs 256) (blank N) := ⟨fun _ => rfl, fun i hi => blank_now (by omega), fun i h1 h2 => blank_now h2⟩
theorem blank_fuse (N : Nat) : (blank N).fuse = -1 := rfl
end
end Go.Proofs.YteddmnoeljakpaaGreatDoor
