/-
  SuP: StoreNil's law, over the loaded program. No condition but the table roots.
-/
import Derived.Test.YteddmnoeljakpaaGreatDoorSw45
set_option linter.unusedVariables false
set_option maxRecDepth 100000
namespace Go.Proofs.YteddmnoeljakpaaGreatDoor
section
open Go.RowKit
set_option maxHeartbeats 8000000 in
theorem store_nil (c : CI) (nn : ByteArray) (n : Int) (w : World) (ht : Tab w) : Calls Tryz.prog 6 #[cfgV c, .string nn, .int .i64 n] w (Yes13 w) := by
  have B0 := (Below.refl w.heap.size w).alloc (Nat.le_refl _) (.cells #[.int .i64 c.log, .int .i64 c.files, .int .i64 c.slots, .int .i64 c.data] 23)
  have K0 := KB.new w 23 #[.int .i64 c.log, .int .i64 c.files, .int .i64 c.slots, .int .i64 c.data]
  have HLV := Lib.hid (fun W (h : Tab W) => live13_any W h)
  have HT := Lib.hid ht
  clear ht
  by_cases hlen : 200 < nn.size
  · have D : decide ((200 : Int) < (nn.size : Int)) = true := decide_eq_true (by omega)
    have D' : decide (200 < nn.size) = true := decide_eq_true hlen
    have hlv := HLV.out _ (HT.out.below B0)
    clear hlen K0
    unfold cfgV
    go_enter Tryz.func6, Tryz.ntmps6
    go_wp2_with fail
    refine hlv.mono ?_
    rintro e w1 ⟨rfl, b1⟩
    have B1 := B0.trans (b1.mono B0.size)
    clear hlv
    go_wp2_with fail
    go_ret
    exact ⟨rfl, B1⟩
  · have D : decide ((200 : Int) < (nn.size : Int)) = false := decide_eq_false (by omega)
    have D' : decide (200 < nn.size) = false := decide_eq_false hlen
    have r0 := K0.cell 0
    have r1 := K0.cell 1
    have r2 := K0.cell 2
    have r3 := K0.cell 3
    have hrn := fun W => sread_nil W (.string nn)
    have hfn := fun W => sfree_nil W
    have hon := fun W => sopen_nil W c
    have HMY := Lib.hid (fun W => rmay_any c W)
    have HSZ := Lib.hid (fun W => rsize_any c W)
    have HNU := Lib.hid (fun x W => num13_any x W)
    have HDN := Lib.hid (fun W v => sdo_nil W v)
    have HTN := Lib.hid (fun W v => stry_nil W v)
    have HLN := Lib.hid (fun W => slist_nil W)
    have HSO := Lib.hid (fun (W : World) (p : DA) (s : Dk) (h : DS W p s) (hne : (s.safe.length : Int) ≠ c.size) => sopen_size h c hne)
    unfold cfgV at *
    clear hlen
    go_enter Tryz.func6, Tryz.ntmps6
    go_wp2_with (first | (go_at_call 29; refine (hrn _).mono ?_; rintro e w' ⟨rfl, rfl⟩) | (go_at_call 31; refine (hfn _).mono ?_; rintro e w' ⟨rfl, rfl⟩))
    refine (hon _).mono ?_
    rintro e w1 ⟨rfl, b1⟩
    have B1 := B0.trans (b1.mono B0.size)
    have K1 := K0.below b1 K0.lt
    clear hrn hfn hon B0 K0 b1 r0 r1 r2 r3
    by_cases hn : n < 1 ∨ 1024 < n
    · have hnn := new_no n w1 hn
      have hnu := HNU.out
      clear hn
      go_wp2_with fail
      refine hnn.mono ?_
      rintro e w2 ⟨rfl, rfl⟩
      clear hnn K1
      have hlv := HLV.out _ (HT.out.below (B1.alloc B1.size (.cells #[.string nn, .slice none 0 0, .bool false] 71)))
      have BT := B1.alloc B1.size (.cells #[.string nn, .slice none 0 0, .bool false] 71)
      have hnu := HNU.out
      have hdn := HDN.out
      have htn := HTN.out
      have hln := HLN.out
      go_wp2_with (first | (go_at_call 9; refine (hnu _ _).mono ?_; rintro e w' ⟨rfl, rfl⟩) | (go_at_call 18; refine (hdn _ _).mono ?_; rintro e w' ⟨rfl, rfl⟩) | (go_at_call 17; refine (htn _ _).mono ?_; rintro e w' ⟨rfl, rfl⟩) | (go_at_call 27; refine (hln _).mono ?_; rintro e w' ⟨rfl, rfl⟩))
      refine hlv.mono ?_
      rintro e wT ⟨rfl, bT⟩
      have BZ := BT.trans (bT.mono BT.size)
      clear hlv hnu hdn htn hln
      go_wp2_with fail
      go_ret
      exact ⟨rfl, BZ⟩
    · obtain ⟨N, rfl⟩ : ∃ N : Nat, n = (N : Int) := ⟨n.toNat, by omega⟩
      have hnn := new_made N w1 (by omega) (by omega)
      have HN1 : Hid (1 ≤ N) := by show _ ≤ _; omega
      clear hn
      go_wp2_with fail
      refine hnn.mono ?_
      rintro e w2 ⟨p, rfl, d2, fp, b2⟩
      have B2 := B1.trans (b2.mono B1.size)
      have K2 := K1.below b2 K1.lt
      have r0 := K2.cell 0
      have r1 := K2.cell 1
      have r2 := K2.cell 2
      have r3 := K2.cell 3
      have HD2 := Lib.hid d2
      have hmy := HMY.out w2
      have hnu := HNU.out
      clear hnn b2 d2 K1
      have HOP : Hid (∀ W, Below w2.heap.size w2 W → (N : Int) ≠ c.size → Calls Tryz.prog 22 #[.pointer (some ⟨p.d, 0, none⟩), .agg #[.int .i64 c.log, .int .i64 c.files, .int .i64 c.slots, .int .i64 c.data]] W fun e w' => e = .returned (.tuple #[.pointer none, .int .i64 1]) ∧ Below W.heap.size W w') := fun W b hne => HSO.out W p _ (HD2.out.below b) (by rw [blank_len]; exact hne)
      by_cases hm : c.may
      · rw [decide_eq_true hm] at hmy
        have hsz := fun W => HSZ.out W
        by_cases hq : c.size = (N : Int)
        · rw [hq] at hsz
          have D1 : ((N : Int) != (N : Int)) = false := by simp
          clear hm hq
          go_wp2_with (go_at_call 9; refine (hnu _ _).mono ?_; rintro e w' ⟨rfl, rfl⟩)
          refine hmy.mono ?_
          rintro e w3 ⟨rfl, b3⟩
          have B3 := B2.trans (b3.mono B2.size)
          have K3 := K2.below b3 K2.lt
          have s0 := K3.cell 0
          have s1 := K3.cell 1
          have s2 := K3.cell 2
          have s3 := K3.cell 3
          clear hmy b3 K2 r0 r1 r2 r3
          go_wp2_with (go_at_call 9; refine (hnu _ _).mono ?_; rintro e w' ⟨rfl, rfl⟩)
          refine (hsz _).mono ?_
          rintro e w4 ⟨rfl, b4⟩
          have B4 := B3.trans (b4.mono B3.size)
          clear hsz b4 K3 s0 s1 s2 s3
          have hlv := HLV.out _ (HT.out.below (B4.alloc B4.size (.cells #[.string nn, .slice none 0 0, .bool false] 71)))
          have BT := B4.alloc B4.size (.cells #[.string nn, .slice none 0 0, .bool false] 71)
          have hnu := HNU.out
          have hdn := HDN.out
          have htn := HTN.out
          have hln := HLN.out
          go_wp2_with (first | (go_at_call 9; refine (hnu _ _).mono ?_; rintro e w' ⟨rfl, rfl⟩) | (go_at_call 18; refine (hdn _ _).mono ?_; rintro e w' ⟨rfl, rfl⟩) | (go_at_call 17; refine (htn _ _).mono ?_; rintro e w' ⟨rfl, rfl⟩) | (go_at_call 27; refine (hln _).mono ?_; rintro e w' ⟨rfl, rfl⟩))
          refine hlv.mono ?_
          rintro e wT ⟨rfl, bT⟩
          have BZ := BT.trans (bT.mono BT.size)
          clear hlv hnu hdn htn hln
          go_wp2_with fail
          go_ret
          exact ⟨rfl, BZ⟩
        · have D1 : (c.size != (N : Int)) = true := by simpa using hq
          have HQ := Lib.hid hq
          clear hm hq
          generalize hcz : c.size = cz at *
          clear hcz
          go_wp2_with (go_at_call 9; refine (hnu _ _).mono ?_; rintro e w' ⟨rfl, rfl⟩)
          refine hmy.mono ?_
          rintro e w3 ⟨rfl, b3⟩
          have B3 := B2.trans (b3.mono B2.size)
          have K3 := K2.below b3 K2.lt
          have HB3 := Lib.hid b3
          have s0 := K3.cell 0
          have s1 := K3.cell 1
          have s2 := K3.cell 2
          have s3 := K3.cell 3
          clear hmy b3 K2 r0 r1 r2 r3
          go_wp2_with (go_at_call 9; refine (hnu _ _).mono ?_; rintro e w' ⟨rfl, rfl⟩)
          refine (hsz _).mono ?_
          rintro e w4 ⟨rfl, b4⟩
          have B4 := B3.trans (b4.mono B3.size)
          have K4 := K3.below b4 K3.lt
          have HB4 := Lib.hid (HB3.out.trans (b4.mono HB3.out.size))
          have t0 := K4.cell 0
          have t1 := K4.cell 1
          have t2 := K4.cell 2
          have t3 := K4.cell 3
          have hop := HOP.out w4 HB4.out (fun e => HQ.out e.symm)
          clear hsz b4 K3 s0 s1 s2 s3
          go_wp2_with (go_at_call 9; refine (hnu _ _).mono ?_; rintro e w' ⟨rfl, rfl⟩)
          refine hop.mono ?_
          rintro e w5 ⟨rfl, b5⟩
          have B5 := B4.trans (b5.mono B4.size)
          clear hop b5 K4 t0 t1 t2 t3
          have hlv := HLV.out _ (HT.out.below (B5.alloc B5.size (.cells #[.string nn, .slice none 0 0, .bool false] 71)))
          have BT := B5.alloc B5.size (.cells #[.string nn, .slice none 0 0, .bool false] 71)
          have hnu := HNU.out
          have hdn := HDN.out
          have htn := HTN.out
          have hln := HLN.out
          go_wp2_with (first | (go_at_call 9; refine (hnu _ _).mono ?_; rintro e w' ⟨rfl, rfl⟩) | (go_at_call 18; refine (hdn _ _).mono ?_; rintro e w' ⟨rfl, rfl⟩) | (go_at_call 17; refine (htn _ _).mono ?_; rintro e w' ⟨rfl, rfl⟩) | (go_at_call 27; refine (hln _).mono ?_; rintro e w' ⟨rfl, rfl⟩))
          refine hlv.mono ?_
          rintro e wT ⟨rfl, bT⟩
          have BZ := BT.trans (bT.mono BT.size)
          clear hlv hnu hdn htn hln
          go_wp2_with fail
          go_ret
          exact ⟨rfl, BZ⟩
      · rw [decide_eq_false hm] at hmy
        have HQ : Hid ((N : Int) ≠ c.size) := by show _ ≠ _; unfold CI.size; rw [if_neg hm]; have := HN1.out; omega
        clear hm
        generalize c.size = cz at *
        go_wp2_with (go_at_call 9; refine (hnu _ _).mono ?_; rintro e w' ⟨rfl, rfl⟩)
        refine hmy.mono ?_
        rintro e w3 ⟨rfl, b3⟩
        have B3 := B2.trans (b3.mono B2.size)
        have K3 := K2.below b3 K2.lt
        have s0 := K3.cell 0
        have s1 := K3.cell 1
        have s2 := K3.cell 2
        have s3 := K3.cell 3
        have hop := HOP.out w3 b3 HQ.out
        clear hmy b3 K2 r0 r1 r2 r3
        go_wp2_with (go_at_call 9; refine (hnu _ _).mono ?_; rintro e w' ⟨rfl, rfl⟩)
        refine hop.mono ?_
        rintro e w5 ⟨rfl, b5⟩
        have B5 := B3.trans (b5.mono B3.size)
        clear hop b5 K3 s0 s1 s2 s3
        have hlv := HLV.out _ (HT.out.below (B5.alloc B5.size (.cells #[.string nn, .slice none 0 0, .bool false] 71)))
        have BT := B5.alloc B5.size (.cells #[.string nn, .slice none 0 0, .bool false] 71)
        have hnu := HNU.out
        have hdn := HDN.out
        have htn := HTN.out
        have hln := HLN.out
        go_wp2_with (first | (go_at_call 9; refine (hnu _ _).mono ?_; rintro e w' ⟨rfl, rfl⟩) | (go_at_call 18; refine (hdn _ _).mono ?_; rintro e w' ⟨rfl, rfl⟩) | (go_at_call 17; refine (htn _ _).mono ?_; rintro e w' ⟨rfl, rfl⟩) | (go_at_call 27; refine (hln _).mono ?_; rintro e w' ⟨rfl, rfl⟩))
        refine hlv.mono ?_
        rintro e wT ⟨rfl, bT⟩
        have BZ := BT.trans (bT.mono BT.size)
        clear hlv hnu hdn htn hln
        go_wp2_with fail
        go_ret
        exact ⟨rfl, BZ⟩
end
end Go.Proofs.YteddmnoeljakpaaGreatDoor
