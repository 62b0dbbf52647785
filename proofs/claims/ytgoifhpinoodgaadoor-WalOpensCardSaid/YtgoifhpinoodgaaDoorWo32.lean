/-
  WaQ: What Commit does, step by step, over the loaded program: its five functions. No condition but what each theorem names (the table roots among it).
-/
import Derived.Test.YtgoifhpinoodgaaDoorWo31
import Derived.Deep.RegionHeld3

section
namespace Go.Proofs.YtgoifhpinoodgaaDoor
open Go.RowKit
set_option maxRecDepth 100000
set_option linter.unusedVariables false

theorem PS.lt {w : World} {S : Nat → Prop} {v : Value} {ps : List Pt} (h : PS w S v ps) : PS w (fun b => S b ∧ b < w.heap.size) v ps := by
  obtain ⟨A, c, e, hl, hc, hn, hx⟩ := h
  refine ⟨A, c, e, hl, hc, hn, fun h0 => ?_⟩
  obtain ⟨b, o, ea, sb, hb, hx⟩ := hx h0
  refine ⟨b, o, ea, ⟨sb, hb⟩, hb, fun j q hj => ?_⟩
  obtain ⟨h1, x, h2, h3⟩ := hx j q hj
  exact ⟨h1, x, h2, h3.lt⟩

section
variable {w : World} {lg n b2 b3 b6 : Nat} {p : DA} {br : Bool} {s : Dk}
set_option maxHeartbeats 1000000 in
theorem commit1_any {vL : Value} {L : List (List UInt8)} (h2 : KB w b2 47 #[.pointer (some ⟨lg, 0, none⟩)]) (h6 : KB w b6 33 #[vL]) (o2 : ¬ p.has b2) (o6 : ¬ p.has b6) (hg : LG w lg p n br) (hgp : ¬ p.has lg) (hd : DS w p s) (hL : LS w (Off p w) vL L) (hl : L.length ≤ 100000) (hfit : Fit s.safe.length (rowP 1 L)) :
    Calls Tryd.prog 50 #[.pointer (some ⟨b2, 0, none⟩), .pointer (some ⟨b6, 0, none⟩)] w fun e w' => e = .returned (.int .i64 (doD (rowP 1 L) s).2) ∧ DS w' p (doD (rowP 1 L) s).1 ∧ KeepP (Off p w) w w' := by
  have HNQ : Hid (∀ x, w.heap.size ≤ x → ¬ p.has x) := fun x hx h => by have := hd.lt x h; omega
  have hrow := fun (W : World) (h : LS W (Off p w) vL L) => row_any 1 (by omega) _ vL L W h (by omega)
  have hw := fun (v : Value) (W : World) (hgW : LG W lg p n br) (hdW : DS W p s) (h : PS W (Off p W) v (rowP 1 L)) => lwrite_any v _ W hgW hgp hdW h hfit
  have HW := Lib.hid hw
  obtain ⟨AL, cL, rfl, hc6, hc6m⟩ := hL.form
  have HC : Hid (∀ W, KeepP (Off p w) w W → W.cell? ⟨b2, 0, none⟩ = some (.pointer (some ⟨lg, 0, none⟩)) ∧ W.cell? ⟨b6, 0, none⟩ = some (.slice AL L.length cL)) := by
    intro W hk
    exact ⟨(h2.keepP hk ⟨h2.lt, o2⟩).cell 0, (h6.keepP hk ⟨h6.lt, o6⟩).cell 0⟩
  clear h2 h6 hfit hw
  generalize doD (rowP 1 L) s = R at *
  go_enter Tryd.func50, Tryd.ntmps50
  go_wp2_with fail
  refine wp_region_held_drew (S := (fun W => W.cell? ⟨b2, 0, none⟩ = some (.pointer (some ⟨lg, 0, none⟩)) ∧ W.cell? ⟨b6, 0, none⟩ = some (.slice AL L.length cL))) (by kernel_rfl) (HC.out _ ((KeepP.refl _ w).drewN 1)) (fun hHeld => ?_)
  refine held_yes (o := ⟨some 3, _, _, _, _, _⟩) (v := ?_) 0 rfl (by kernel_rfl) (by kernel_rfl) (by kernel_rfl) (fun _ _ _ h => h) (by rfl) hHeld (fun w hSw => ?_) ?_
  rotate_left
  · (try dsimp only at hSw)
    go_simp
    with_reducible rfl
  go_frame
  refine held_yes (o := ⟨some 4, _, _, _, _, _⟩) (v := ?_) 1 rfl (by kernel_rfl) (by kernel_rfl) (by kernel_rfl) (fun _ _ _ h => h) (by rfl) hHeld (fun w hSw => ?_) ?_
  rotate_left
  · (try dsimp only at hSw)
    go_simp
    with_reducible rfl
  go_frame
  refine held_one (o := ⟨some 5, _, _, _, _, _⟩) 2 (by kernel_rfl) rfl (by rfl) (fun K hK => ?_)
  go_simp
  go_at_call 51
  refine (hrow _ (hL.drewN 1)).mono ?_
  rintro e w2 ⟨v2, rfl, ps2, b2⟩
  have BL2 : Below w.heap.size w w2 := (Below_drawn (Below.refl w.heap.size w) 1).trans b2
  have pq2 := ps2.lt.mono (S' := Off p w2) fun x hx => ⟨hx.2, by
    rcases hx.1 with h1 | h1
    · exact h1.1.2
    · exact HNQ.out x (by rw [h1]; exact Nat.le_refl _)⟩
  have hw2 := HW.out v2 w2 (KB.below hg BL2 (KB.lt hg)) (hd.below BL2) pq2
  have KQ2 := KeepP.of_below (P := Off p w) BL2 fun x hx => hx.1
  obtain ⟨A2, c2, rfl, _⟩ := ps2.form
  clear ps2 pq2 hrow b2
  go_wp2_with fail
  refine hK.out _ _ ?_ (fun hH2 => ?_)
  · exact HC.out _ (by assumption)
  clear hHeld hK K
  have hHeld := hH2
  clear hH2
  try go_frame
  refine held_one (o := ⟨some 6, _, _, _, _, _⟩) 3 (by kernel_rfl) rfl (by rfl) (fun K hK => ?_)
  go_simp
  go_at_call 43
  refine hw2.mono ?_
  rintro e wz ⟨rfl, dz, kz⟩
  have KQ9 := KQ2.trans (kz.mono (Q := Off p w) fun x hx => ⟨Nat.lt_of_lt_of_le hx.1 BL2.size, hx.2⟩)
  go_wp2_with fail
  refine hK.out _ _ ?_ (fun hH2 => ?_)
  · exact HC.out _ (by assumption)
  clear hHeld hK K
  have hHeld := hH2
  clear hH2
  try go_frame
  refine held_yes (o := ⟨some 2, _, _, _, _, _⟩) (v := ?_) 4 rfl (by kernel_rfl) (by kernel_rfl) (by kernel_rfl) (fun _ _ _ h => h) (by rfl) hHeld (fun w hSw => ?_) ?_
  rotate_left
  · (try dsimp only at hSw)
    go_simp
    with_reducible rfl
  go_frame
  refine wpAnyH_done (by kernel_rfl) ?_ _
  go_wp2_with fail
  go_ret
  exact ⟨rfl, dz, KQ9⟩

set_option maxHeartbeats 1000000 in
theorem commit5_any {vL : Value} {L : List (List UInt8)} (h2 : KB w b2 47 #[.pointer (some ⟨lg, 0, none⟩)]) (h6 : KB w b6 33 #[vL]) (o2 : ¬ p.has b2) (o6 : ¬ p.has b6) (hg : LG w lg p n br) (hgp : ¬ p.has lg) (hd : DS w p s) (hL : LS w (Off p w) vL L) (hl : L.length ≤ 100000) (hfit : Fit s.safe.length (rowP 1 L)) :
    Calls Tryd.prog 56 #[.pointer (some ⟨b2, 0, none⟩), .pointer (some ⟨b6, 0, none⟩)] w fun e w' => e = .returned (.int .i64 (doD (rowP 1 L) s).2) ∧ DS w' p (doD (rowP 1 L) s).1 ∧ KeepP (Off p w) w w' := by
  have HNQ : Hid (∀ x, w.heap.size ≤ x → ¬ p.has x) := fun x hx h => by have := hd.lt x h; omega
  have hrow := fun (W : World) (h : LS W (Off p w) vL L) => row_any 1 (by omega) _ vL L W h (by omega)
  have hw := fun (v : Value) (W : World) (hgW : LG W lg p n br) (hdW : DS W p s) (h : PS W (Off p W) v (rowP 1 L)) => lwrite_any v _ W hgW hgp hdW h hfit
  have HW := Lib.hid hw
  obtain ⟨AL, cL, rfl, hc6, hc6m⟩ := hL.form
  have HC : Hid (∀ W, KeepP (Off p w) w W → W.cell? ⟨b2, 0, none⟩ = some (.pointer (some ⟨lg, 0, none⟩)) ∧ W.cell? ⟨b6, 0, none⟩ = some (.slice AL L.length cL)) := by
    intro W hk
    exact ⟨(h2.keepP hk ⟨h2.lt, o2⟩).cell 0, (h6.keepP hk ⟨h6.lt, o6⟩).cell 0⟩
  clear h2 h6 hfit hw
  generalize doD (rowP 1 L) s = R at *
  go_enter Tryd.func56, Tryd.ntmps56
  go_wp2_with fail
  refine wp_region_held_drew (S := (fun W => W.cell? ⟨b2, 0, none⟩ = some (.pointer (some ⟨lg, 0, none⟩)) ∧ W.cell? ⟨b6, 0, none⟩ = some (.slice AL L.length cL))) (by kernel_rfl) (HC.out _ ((KeepP.refl _ w).drewN 1)) (fun hHeld => ?_)
  refine held_yes (o := ⟨some 3, _, _, _, _, _⟩) (v := ?_) 0 rfl (by kernel_rfl) (by kernel_rfl) (by kernel_rfl) (fun _ _ _ h => h) (by rfl) hHeld (fun w hSw => ?_) ?_
  rotate_left
  · (try dsimp only at hSw)
    go_simp
    with_reducible rfl
  go_frame
  refine held_yes (o := ⟨some 4, _, _, _, _, _⟩) (v := ?_) 1 rfl (by kernel_rfl) (by kernel_rfl) (by kernel_rfl) (fun _ _ _ h => h) (by rfl) hHeld (fun w hSw => ?_) ?_
  rotate_left
  · (try dsimp only at hSw)
    go_simp
    with_reducible rfl
  go_frame
  refine held_one (o := ⟨some 5, _, _, _, _, _⟩) 2 (by kernel_rfl) rfl (by rfl) (fun K hK => ?_)
  go_simp
  go_at_call 51
  refine (hrow _ (hL.drewN 1)).mono ?_
  rintro e w2 ⟨v2, rfl, ps2, b2⟩
  have BL2 : Below w.heap.size w w2 := (Below_drawn (Below.refl w.heap.size w) 1).trans b2
  have pq2 := ps2.lt.mono (S' := Off p w2) fun x hx => ⟨hx.2, by
    rcases hx.1 with h1 | h1
    · exact h1.1.2
    · exact HNQ.out x (by rw [h1]; exact Nat.le_refl _)⟩
  have hw2 := HW.out v2 w2 (KB.below hg BL2 (KB.lt hg)) (hd.below BL2) pq2
  have KQ2 := KeepP.of_below (P := Off p w) BL2 fun x hx => hx.1
  obtain ⟨A2, c2, rfl, _⟩ := ps2.form
  clear ps2 pq2 hrow b2
  go_wp2_with fail
  refine hK.out _ _ ?_ (fun hH2 => ?_)
  · exact HC.out _ (by assumption)
  clear hHeld hK K
  have hHeld := hH2
  clear hH2
  try go_frame
  refine held_one (o := ⟨some 6, _, _, _, _, _⟩) 3 (by kernel_rfl) rfl (by rfl) (fun K hK => ?_)
  go_simp
  go_at_call 43
  refine hw2.mono ?_
  rintro e wz ⟨rfl, dz, kz⟩
  have KQ9 := KQ2.trans (kz.mono (Q := Off p w) fun x hx => ⟨Nat.lt_of_lt_of_le hx.1 BL2.size, hx.2⟩)
  go_wp2_with fail
  refine hK.out _ _ ?_ (fun hH2 => ?_)
  · exact HC.out _ (by assumption)
  clear hHeld hK K
  have hHeld := hH2
  clear hH2
  try go_frame
  refine held_yes (o := ⟨some 2, _, _, _, _, _⟩) (v := ?_) 4 rfl (by kernel_rfl) (by kernel_rfl) (by kernel_rfl) (fun _ _ _ h => h) (by rfl) hHeld (fun w hSw => ?_) ?_
  rotate_left
  · (try dsimp only at hSw)
    go_simp
    with_reducible rfl
  go_frame
  refine wpAnyH_done (by kernel_rfl) ?_ _
  go_wp2_with fail
  go_ret
  exact ⟨rfl, dz, KQ9⟩

set_option maxHeartbeats 1000000 in
theorem commit2_any {vL : Value} {L : List (List UInt8)} {k : Nat} {AP : Option Addr} {cP : Nat} (h2 : KB w b2 47 #[.pointer (some ⟨lg, 0, none⟩)]) (h3 : KB w b3 25 #[.slice AP k cP]) (h6 : KB w b6 33 #[vL]) (o2 : ¬ p.has b2) (o3 : ¬ p.has b3) (o6 : ¬ p.has b6) (hg : LG w lg p n br) (hgp : ¬ p.has lg) (hd : DS w p s) (ht : Tab w)
    (hL : LS w (Off p w) vL L) (hk : k < 65536) (hlen : (catB L).length < 100000000000000000) :
    Calls Tryd.prog 52 #[.pointer (some ⟨b2, 0, none⟩), .pointer (some ⟨b3, 0, none⟩), .pointer (some ⟨b6, 0, none⟩)] w fun e w' => e = .returned (.int .i64 (doD (rowP 0 [headL k L]) s).2) ∧ DS w' p (doD (rowP 0 [headL k L]) s).1 ∧ KeepP (Off p w) w w' := by
  have HNQ : Hid (∀ x, w.heap.size ≤ x → ¬ p.has x) := fun x hx h => by have := hd.lt x h; omega
  have hhead := fun (W : World) (h : LS W (Off p w) vL L) (ht : Tab W) => head_any k hk _ vL L W h ht hlen
  have HHL := headL_len k L
  generalize headL k L = H at *
  have hrow := fun (S : Nat → Prop) (v : Value) (W : World) (h : LS W S v [H]) => row_any 0 (by omega) S v [H] W h (by simp)
  have hfit : Fit s.safe.length (rowP 0 [H]) := by
    intro q hq
    obtain ⟨j, hj, e⟩ := rowP_mem hq
    have hj0 := (List.getElem?_eq_some_iff.1 hj).1
    have h1 := hd.ok.some_
    simp at hj0
    subst hj0
    simp at hj
    rw [e, ← hj]
    exact ⟨by simp, by simp; omega, HHL⟩
  have hw := fun (v : Value) (W : World) (hgW : LG W lg p n br) (hdW : DS W p s) (h : PS W (Off p W) v (rowP 0 [H])) => lwrite_any v _ W hgW hgp hdW h hfit
  have HW := Lib.hid hw
  have HL := Lib.hid HHL
  obtain ⟨AL, cL, rfl, hc6, hc6m⟩ := hL.form
  have HC : Hid (∀ W, KeepP (Off p w) w W → W.cell? ⟨b2, 0, none⟩ = some (.pointer (some ⟨lg, 0, none⟩)) ∧ W.cell? ⟨b3, 0, none⟩ = some (.slice AP k cP) ∧ W.cell? ⟨b6, 0, none⟩ = some (.slice AL L.length cL)) := by
    intro W hk
    exact ⟨(h2.keepP hk ⟨h2.lt, o2⟩).cell 0, (h3.keepP hk ⟨h3.lt, o3⟩).cell 0, (h6.keepP hk ⟨h6.lt, o6⟩).cell 0⟩
  clear h2 h3 h6 hfit hw HHL hlen
  generalize doD (rowP 0 [H]) s = R at *
  go_enter Tryd.func52, Tryd.ntmps52
  go_wp2_with fail
  refine wp_region_held_drew (S := (fun W => W.cell? ⟨b2, 0, none⟩ = some (.pointer (some ⟨lg, 0, none⟩)) ∧ W.cell? ⟨b3, 0, none⟩ = some (.slice AP k cP) ∧ W.cell? ⟨b6, 0, none⟩ = some (.slice AL L.length cL))) (by kernel_rfl) (HC.out _ ((KeepP.refl _ w).drewN 1)) (fun hHeld => ?_)
  refine held_yes (o := ⟨some 4, _, _, _, _, _⟩) (v := ?_) 0 rfl (by kernel_rfl) (by kernel_rfl) (by kernel_rfl) (fun _ _ _ h => h) (by rfl) hHeld (fun w hSw => ?_) ?_
  rotate_left
  · (try dsimp only at hSw)
    go_simp
    with_reducible rfl
  go_frame
  refine held_yes (o := ⟨some 5, _, _, _, _, _⟩) (v := ?_) 1 rfl (by kernel_rfl) (by kernel_rfl) (by kernel_rfl) (fun _ _ _ h => h) (by rfl) hHeld (fun w hSw => ?_) ?_
  rotate_left
  · (try dsimp only at hSw)
    go_simp
    with_reducible rfl
  go_frame
  refine held_yes (o := ⟨some 6, _, _, _, _, _⟩) (v := ?_) 2 rfl (by kernel_rfl) (by kernel_rfl) (by kernel_rfl) (fun _ _ _ h => h) (by rfl) hHeld (fun w hSw => ?_) ?_
  rotate_left
  · (try dsimp only at hSw)
    go_simp
    with_reducible rfl
  go_frame
  refine held_yes (o := ⟨some 7, _, _, _, _, _⟩) (v := ?_) 3 rfl (by kernel_rfl) (by kernel_rfl) (by kernel_rfl) (fun _ _ _ h => h) (by rfl) hHeld (fun w hSw => ?_) ?_
  rotate_left
  · (try dsimp only at hSw)
    go_simp
    with_reducible rfl
  go_frame
  refine held_one (o := ⟨some 8, _, _, _, _, _⟩) 4 (by kernel_rfl) rfl (by rfl) (fun K hK => ?_)
  go_simp
  go_at_call 53
  refine (hhead _ (hL.drewN 1) (ht.keep (Nat.le_refl _) rfl)).mono ?_
  rintro e w2 ⟨v2, rfl, how2, b2⟩
  have bs2 := own_BS how2
  obtain ⟨A2, c2, rfl, _⟩ := bs2.form
  have BL2 : Below w.heap.size w w2 := (Below_drawn (Below.refl w.heap.size w) 1).trans b2
  have KQ2 := KeepP.of_below (P := Off p w) BL2 fun x hx => hx.1
  clear how2 hhead b2
  go_wp2_with fail
  refine hK.out _ _ ?_ (fun hH2 => ?_)
  · exact HC.out _ (by assumption)
  clear hHeld hK K
  have hHeld := hH2
  clear hH2
  try go_frame
  refine held_one (o := ⟨some 9, _, _, _, _, _⟩) 5 (by kernel_rfl) rfl (by rfl) (fun K hK => ?_)
  go_simp
  have L3 := LS.one (t := 34) bs2
  have B3 := (Below.refl w2.heap.size w2).alloc (Nat.le_refl _) (.cells #[.slice A2 H.length c2] 34)
  have BL3 := BL2.trans (B3.mono BL2.size)
  have KQ3 := KeepP.of_below (P := Off p w) BL3 fun x hx => hx.1
  refine hK.out _ _ ?_ (fun hH2 => ?_)
  · exact HC.out _ (by assumption)
  clear hHeld hK K
  have hHeld := hH2
  clear hH2
  try go_frame
  refine held_one (o := ⟨some 10, _, _, _, _, _⟩) 6 (by kernel_rfl) rfl (by rfl) (fun K hK => ?_)
  go_simp
  go_at_call 51
  refine (hrow _ _ _ L3).mono ?_
  rintro e w4 ⟨v4, rfl, ps4, b4⟩
  have BL4 := BL3.trans (b4.mono BL3.size)
  have pq4 := ps4.lt.mono (S' := Off p w4) fun x hx => ⟨hx.2, HNQ.out x (by
    have h1 := BL2.size
    have h2 := BL3.size
    rcases hx.1 with ⟨h3 | h3, h4⟩ | h3
    · exact h3.1
    · rw [h3]; exact h1
    · rw [h3]; exact h2)⟩
  have hw4 := HW.out v4 w4 (KB.below hg BL4 (KB.lt hg)) (hd.below BL4) pq4
  have KQ4 := KeepP.of_below (P := Off p w) BL4 fun x hx => hx.1
  obtain ⟨A4, c4, rfl, _⟩ := ps4.form
  clear ps4 pq4 hrow L3 bs2 b4 B3
  go_wp2_with fail
  refine hK.out _ _ ?_ (fun hH2 => ?_)
  · exact HC.out _ (by assumption)
  clear hHeld hK K
  have hHeld := hH2
  clear hH2
  try go_frame
  refine held_one (o := ⟨some 11, _, _, _, _, _⟩) 7 (by kernel_rfl) rfl (by rfl) (fun K hK => ?_)
  go_simp
  go_at_call 43
  refine hw4.mono ?_
  rintro e wz ⟨rfl, dz, kz⟩
  have KQ9 := KQ4.trans (kz.mono (Q := Off p w) fun x hx => ⟨Nat.lt_of_lt_of_le hx.1 BL4.size, hx.2⟩)
  go_wp2_with fail
  refine hK.out _ _ ?_ (fun hH2 => ?_)
  · exact HC.out _ (by assumption)
  clear hHeld hK K
  have hHeld := hH2
  clear hH2
  try go_frame
  refine held_yes (o := ⟨some 3, _, _, _, _, _⟩) (v := ?_) 8 rfl (by kernel_rfl) (by kernel_rfl) (by kernel_rfl) (fun _ _ _ h => h) (by rfl) hHeld (fun w hSw => ?_) ?_
  rotate_left
  · (try dsimp only at hSw)
    go_simp
    with_reducible rfl
  go_frame
  refine wpAnyH_done (by kernel_rfl) ?_ _
  go_wp2_with fail
  go_ret
  exact ⟨rfl, dz, KQ9⟩

theorem commit3_any {vP : Value} {ps : List Pt} (h2 : KB w b2 47 #[.pointer (some ⟨lg, 0, none⟩)]) (h3 : KB w b3 25 #[vP]) (hg : LG w lg p n br) (hgp : ¬ p.has lg) (hd : DS w p s) (h : PS w (Off p w) vP ps) (hfit : Fit s.safe.length ps) :
    Calls Tryd.prog 54 #[.pointer (some ⟨b2, 0, none⟩), .pointer (some ⟨b3, 0, none⟩)] w fun e w' => e = .returned (.int .i64 (doD ps s).2) ∧ DS w' p (doD ps s).1 ∧ KeepP (Off p w) w w' := by
  have c2 : w.cell? ⟨b2, 0, none⟩ = some (.pointer (some ⟨lg, 0, none⟩)) := h2.cell 0
  have c3 : w.cell? ⟨b3, 0, none⟩ = some vP := h3.cell 0
  have hw := lwrite_any vP ps w hg hgp hd h hfit
  obtain ⟨A, c, rfl, _⟩ := h.form
  generalize ps.length = m at *
  go_enter Tryd.func54, Tryd.ntmps54
  go_wp2_with fail
  refine hw.mono ?_
  rintro e w1 ⟨rfl, d1, k1⟩
  go_wp2_with fail
  go_ret
  exact ⟨rfl, d1, k1⟩

set_option maxHeartbeats 1000000 in
theorem commit4_any (h2 : KB w b2 47 #[.pointer (some ⟨lg, 0, none⟩)]) (o2 : ¬ p.has b2) (hg : LG w lg p n br) (hgp : ¬ p.has lg) (hd : DS w p s) :
    Calls Tryd.prog 55 #[.pointer (some ⟨b2, 0, none⟩)] w fun e w' => e = .returned (.int .i64 (doD (rowP 0 [zs 256]) s).2) ∧ DS w' p (doD (rowP 0 [zs 256]) s).1 ∧ KeepP (Off p w) w w' := by
  have HNQ : Hid (∀ x, w.heap.size ≤ x → ¬ p.has x) := fun x hx h => by have := hd.lt x h; omega
  have hrow := fun (S : Nat → Prop) (v : Value) (W : World) (h : LS W S v [zs 256]) => row_any 0 (by omega) S v [zs 256] W h (by simp)
  have hfit : Fit s.safe.length (rowP 0 [zs 256]) := by
    intro q hq
    obtain ⟨j, hj, e⟩ := rowP_mem hq
    have hj0 := (List.getElem?_eq_some_iff.1 hj).1
    have h1 := hd.ok.some_
    simp at hj0
    subst hj0
    have hj1 : zs 256 = q.2 := by simpa using hj
    rw [e, ← hj1]
    exact ⟨by simp, by simp; omega, zs_len 256⟩
  have hw := fun (v : Value) (W : World) (hgW : LG W lg p n br) (hdW : DS W p s) (h : PS W (Off p W) v (rowP 0 [zs 256])) => lwrite_any v _ W hgW hgp hdW h hfit
  have HW := Lib.hid hw
  have HC : Hid (∀ W, KeepP (Off p w) w W → W.cell? ⟨b2, 0, none⟩ = some (.pointer (some ⟨lg, 0, none⟩))) := by
    intro W hk
    exact (h2.keepP hk ⟨h2.lt, o2⟩).cell 0
  clear h2 hfit hw
  generalize doD (rowP 0 [zs 256]) s = R at *
  go_enter Tryd.func55, Tryd.ntmps55
  go_wp2_with fail
  refine wp_region_held_drew (S := (fun W => W.cell? ⟨b2, 0, none⟩ = some (.pointer (some ⟨lg, 0, none⟩)))) (by kernel_rfl) (HC.out _ ((KeepP.refl _ w).drewN 1)) (fun hHeld => ?_)
  refine held_yes (o := ⟨some 2, _, _, _, _, _⟩) (v := ?_) 0 rfl (by kernel_rfl) (by kernel_rfl) (by kernel_rfl) (fun _ _ _ h => h) (by rfl) hHeld (fun w hSw => ?_) ?_
  rotate_left
  · (try dsimp only at hSw)
    go_simp
    with_reducible rfl
  go_frame
  refine held_one (o := ⟨some 3, _, _, _, _, _⟩) 1 (by kernel_rfl) rfl (by rfl) (fun K hK => ?_)
  go_simp
  go_at_call 49
  refine (zero_any _).mono ?_
  rintro e w2 ⟨rfl, k2, b2⟩
  have bs2 := kb_256 k2 (zs_len 256)
  have BL2 : Below w.heap.size w w2 := (Below_drawn (Below.refl w.heap.size w) 1).trans b2
  have KQ2 := KeepP.of_below (P := Off p w) BL2 fun x hx => hx.1
  clear k2 b2
  go_wp2_with fail
  refine hK.out _ _ ?_ (fun hH2 => ?_)
  · exact HC.out _ (by assumption)
  clear hHeld hK K
  have hHeld := hH2
  clear hH2
  try go_frame
  refine held_one (o := ⟨some 4, _, _, _, _, _⟩) 2 (by kernel_rfl) rfl (by rfl) (fun K hK => ?_)
  go_simp
  have L3 := LS.one (t := 34) bs2
  have B3 := (Below.refl w2.heap.size w2).alloc (Nat.le_refl _) (.cells #[.slice (some ⟨w.heap.size, 0, none⟩) 256 256] 34)
  have BL3 := BL2.trans (B3.mono BL2.size)
  have KQ3 := KeepP.of_below (P := Off p w) BL3 fun x hx => hx.1
  refine hK.out _ _ ?_ (fun hH2 => ?_)
  · exact HC.out _ (by assumption)
  clear hHeld hK K
  have hHeld := hH2
  clear hH2
  try go_frame
  refine held_one (o := ⟨some 5, _, _, _, _, _⟩) 3 (by kernel_rfl) rfl (by rfl) (fun K hK => ?_)
  go_simp
  go_at_call 51
  refine (hrow _ _ _ L3).mono ?_
  rintro e w4 ⟨v4, rfl, ps4, b4⟩
  have BL4 := BL3.trans (b4.mono BL3.size)
  have pq4 := ps4.lt.mono (S' := Off p w4) fun x hx => ⟨hx.2, HNQ.out x (by
    have h1 := BL2.size
    have h2 := BL3.size
    rcases hx.1 with ⟨h3 | h3, h4⟩ | h3
    · rw [h3]; exact Nat.le_refl _
    · rw [h3]; exact h1
    · rw [h3]; exact h2)⟩
  have hw4 := HW.out v4 w4 (KB.below hg BL4 (KB.lt hg)) (hd.below BL4) pq4
  have KQ4 := KeepP.of_below (P := Off p w) BL4 fun x hx => hx.1
  obtain ⟨A4, c4, rfl, _⟩ := ps4.form
  clear ps4 pq4 hrow L3 bs2 b4 B3
  go_wp2_with fail
  refine hK.out _ _ ?_ (fun hH2 => ?_)
  · exact HC.out _ (by assumption)
  clear hHeld hK K
  have hHeld := hH2
  clear hH2
  try go_frame
  refine held_one (o := ⟨some 6, _, _, _, _, _⟩) 4 (by kernel_rfl) rfl (by rfl) (fun K hK => ?_)
  go_simp
  go_at_call 43
  refine hw4.mono ?_
  rintro e wz ⟨rfl, dz, kz⟩
  have KQ9 := KQ4.trans (kz.mono (Q := Off p w) fun x hx => ⟨Nat.lt_of_lt_of_le hx.1 BL4.size, hx.2⟩)
  go_wp2_with fail
  refine hK.out _ _ ?_ (fun hH2 => ?_)
  · exact HC.out _ (by assumption)
  clear hHeld hK K
  have hHeld := hH2
  clear hH2
  try go_frame
  refine held_yes (o := ⟨some 1, _, _, _, _, _⟩) (v := ?_) 5 rfl (by kernel_rfl) (by kernel_rfl) (by kernel_rfl) (fun _ _ _ h => h) (by rfl) hHeld (fun w hSw => ?_) ?_
  rotate_left
  · (try dsimp only at hSw)
    go_simp
    with_reducible rfl
  go_frame
  refine wpAnyH_done (by kernel_rfl) ?_ _
  go_wp2_with fail
  go_ret
  exact ⟨rfl, dz, KQ9⟩

end
end Go.Proofs.YtgoifhpinoodgaaDoor
end
