/-
  WaC: Patches checked, and written, over the loaded program: check, write: each one's contract. No condition but what each theorem names.
-/
import Derived.Test.YtgoifhpinoodgaaDoorWo23
import Derived.Deep.RegionHeld3

section
namespace Go.Proofs.YtgoifhpinoodgaaDoor
open Go.RowKit
set_option maxRecDepth 100000
set_option linter.unusedVariables false

/-- What a Commit of ps is answered ahead of anything. -/
def chkP (br : Bool) (n : Nat) (N : Int) (ps : List Pt) : Int := if br = true then 8 else if takesB n N ps = true then (if roomN n < ps.length then 4 else 0) else 1
section
variable {w : World} {g n : Nat} {p : DA} {br : Bool} {s : Dk}
theorem LG.below {w' : World} (h : LG w g p n br) (hb : Below w.heap.size w w') : LG w' g p n br := KB.below h hb (KB.lt h)
theorem LG.keepP {w' : World} {P : Nat → Prop} (h : LG w g p n br) (k : KeepP P w w') (hp : P g) : LG w' g p n br := KB.keepP h k hp

theorem lcheck_any (S : Nat → Prop) (v : Value) (ps : List Pt) (hn : n ≤ 100000) (hg : LG w g p n br) (hd : DS w p s) (h : PS w S v ps) :
    Calls Tryd.prog 47 #[.pointer (some ⟨g, 0, none⟩), v] w fun e w' => e = .returned (.int .i64 (chkP br n s.safe.length ps)) ∧ Below w.heap.size w w' := by
  have hm := lmade_any hg
  have c2 := hg.c2
  have ht := takes_any S v ps w hg hd h
  obtain ⟨A, c, rfl, hc, hcm, hn0⟩ := h.form
  have hgb := fun (w' : World) (hb : Below w.heap.size w w') => (hg.below hb).c1
  have hr := fun w => room_any n w hn
  unfold chkP
  generalize takesB n s.safe.length ps = t at *
  generalize roomN n = r at *
  generalize ps.length = m at *
  cases br with
  | true =>
    rw [if_pos rfl]
    go_enter Tryd.func47, Tryd.ntmps47
    go_wp2_with (go_at_call 58; refine hm.mono ?_; rintro e w' ⟨rfl, rfl⟩)
    go_ret
    exact ⟨rfl, Below.refl _ _⟩
  | false =>
    rw [if_neg (by simp)]
    cases t with
    | false =>
      rw [if_neg (by simp)]
      go_enter Tryd.func47, Tryd.ntmps47
      go_wp2_with (first
        | (go_at_call 58; refine hm.mono ?_; rintro e w' ⟨rfl, rfl⟩)
        | (go_at_call 65; refine ht.mono ?_; rintro e w1 ⟨rfl, b1⟩))
      go_ret
      exact ⟨rfl, b1⟩
    | true =>
      rw [if_pos rfl]
      by_cases hk : r < m
      · rw [if_pos hk]
        have D1 : decide ((r : Int) < (m : Int)) = true := by simp; omega
        go_enter Tryd.func47, Tryd.ntmps47
        go_wp2_with (first
          | (go_at_call 58; refine hm.mono ?_; rintro e w' ⟨rfl, rfl⟩)
          | (go_at_call 65; refine ht.mono ?_; rintro e w1 ⟨rfl, b1⟩; have q1 := hgb w1 b1)
          | (go_at_call 24; refine (hr _).mono ?_; rintro e w' ⟨rfl, rfl⟩))
        go_ret
        exact ⟨rfl, b1⟩
      · rw [if_neg hk]
        have D1 : decide ((r : Int) < (m : Int)) = false := by simp; omega
        go_enter Tryd.func47, Tryd.ntmps47
        go_wp2_with (first
          | (go_at_call 58; refine hm.mono ?_; rintro e w' ⟨rfl, rfl⟩)
          | (go_at_call 65; refine ht.mono ?_; rintro e w1 ⟨rfl, b1⟩; have q1 := hgb w1 b1)
          | (go_at_call 24; refine (hr _).mono ?_; rintro e w' ⟨rfl, rfl⟩))
        go_ret
        exact ⟨rfl, b1⟩
theorem lcheck_nil (v : Value) (w : World) : Calls Tryd.prog 47 #[.pointer none, v] w fun e w' => e = .returned (.int .i64 9) ∧ w = w' := by
  go_enter Tryd.func47, Tryd.ntmps47
  go_wp2_with (go_at_call 58; refine (lmade_nil _).mono ?_; rintro e w' ⟨rfl, rfl⟩)
  go_ret
  exact ⟨rfl, rfl⟩
end

theorem wsD_dead {ps : List Pt} {s : Dk} (h : s.fuse = 0) : wsD s ps = (s, 8) := by
  cases ps <;> (unfold wsD; rw [if_pos h])
theorem wsD_live {q : Pt} {r : List Pt} {s : Dk} (h : s.fuse ≠ 0) : wsD s (q :: r) = wsD (wrD s q.1.toNat q.2) r := by
  rw [wsD, if_neg h]
theorem wsD_end {s : Dk} (h : s.fuse ≠ 0) : wsD s [] = (s.flushed, 0) := by unfold wsD; rw [if_neg h]

set_option maxHeartbeats 2000000 in
/-- write. -/
theorem lwrite_any {g n : Nat} {p : DA} {br : Bool} {s : Dk} (v : Value) (ps : List Pt) (w : World) (hg : LG w g p n br) (hgp : ¬ p.has g) (hd : DS w p s) (h : PS w (Off p w) v ps) (hfit : Fit s.safe.length ps) :
    Calls Tryd.prog 43 #[.pointer (some ⟨g, 0, none⟩), v] w fun e w' => e = .returned (.int .i64 (doD ps s).2) ∧ DS w' p (doD ps s).1 ∧ KeepP (Off p w) w w' := by
  obtain ⟨A, c, rfl, hc, hcm, hn0⟩ := h.form
  by_cases h0 : ps.length = 0
  · have e : doD ps s = (s, 0) := if_pos h0
    rw [e]
    generalize ps.length = m at *
    subst h0
    go_enter Tryd.func43, Tryd.ntmps43
    go_wp2
    go_ret
    exact ⟨rfl, hd, KeepP.refl _ _⟩
  · have e : doD ps s = wsD s ps := if_neg h0
    rw [e]
    clear e
    have D0 : decide ((ps.length : Int) = 0) = false := by simp; intro e; rw [e] at h0; simp at h0
    have D0' : ((ps.length : Int) == 0) = false := by simp; intro e; rw [e] at h0; simp at h0
    obtain ⟨R, hR⟩ : ∃ R, R = wsD s ps := ⟨_, rfl⟩
    have HR : Hid (wsD s (ps.drop 0) = R) := by show _ = _; rw [hR]; rfl
    rw [← hR]
    have hlen : ps.length ≤ 9223372036854775807 := by unfold maxLen at hcm; omega
    have hoff : Off p w g := ⟨KB.lt hg, hgp⟩
    have HF : Hid (∀ (k : Nat) (a : Int) (l : List UInt8), ps[k]? = some (a, l) → 0 ≤ a ∧ a < (s.safe.length : Int) ∧ l.length = 256) := fun k a l hk => hfit _ (List.mem_of_getElem? hk)
    have HD : Hid (∀ (k : Nat) (a : Int) (l : List UInt8), ps[k]? = some (a, l) → ps.drop k = (a, l) :: ps.drop (k + 1)) := fun k a l hk => by
      obtain ⟨h1, h2⟩ := List.getElem?_eq_some_iff.1 hk
      rw [List.drop_eq_getElem_cons h1, h2]
    have HE : Hid (ps.drop ps.length = []) := by show _ = _; simp
    clear hR hfit
    go_enter Tryd.func43, Tryd.ntmps43
    go_wp2
    go_loopw [13] (fun iv wr => ∃ (k : Nat) (s' : Dk), k ≤ ps.length ∧ iv = .int .i64 k ∧ Hid (wsD s' (ps.drop k) = R) ∧ Hid (s'.safe.length = s.safe.length) ∧ DS wr p s' ∧ KeepP (Off p w) w wr) (fun iv _ => ps.length - (intOf iv).toNat)
    case atStart => exact ⟨0, s, by omega, rfl, HR, rfl, hd, KeepP.refl _ _⟩
    case round =>
      obtain ⟨k, s', hk, rfl, HS, HN, ds, kp⟩ := hrel
      have hgr := hg.keepP kp hoff
      by_cases hlt : k < ps.length
      · obtain ⟨b, o, rfl, sb, hbl, hx⟩ := (h.keepS kp.size (fun b sb _ => kp.block b sb) fun _ h => h).at_ (by omega)
        obtain ⟨⟨a, l⟩, hv⟩ : ∃ q, ps[k]? = some q := ⟨_, List.getElem?_eq_getElem hlt⟩
        obtain ⟨k0, X, z, k1, hbs⟩ := hx k _ hv
        obtain ⟨f1, f2, f3⟩ := HF.out k a l hv
        have HX := Lib.hid (HD.out k a l hv)
        dsimp only at k0 k1 hbs
        obtain ⟨i, rfl⟩ := Int.eq_ofNat_of_zero_le f1
        have hbs1 := hbs.alloc (.cells #[.int .i64 (i : Int), .slice X l.length z] 55)
        have ds1 := ds.below ((Below.refl wr.heap.size wr).alloc (Nat.le_refl _) (.cells #[.int .i64 (i : Int), .slice X l.length z] 55))
        have kp1 := kp.new (.cells #[.int .i64 (i : Int), .slice X l.length z] 55) fun x hx => hx.1
        have kw := KB.new wr 55 #[.int .i64 (i : Int), .slice X l.length z]
        have q0 : (wr.alloc (.cells #[.int .i64 (i : Int), .slice X l.length z] 55)).cell? ⟨wr.heap.size, 0, none⟩ = some (.int .i64 (i : Int)) := kw.cell 0
        have q1 : (wr.alloc (.cells #[.int .i64 (i : Int), .slice X l.length z] 55)).cell? ⟨wr.heap.size, 1, none⟩ = some (.slice X l.length z) := kw.cell 1
        have qg : (wr.alloc (.cells #[.int .i64 (i : Int), .slice X l.length z] 55)).cell? ⟨g, 0, none⟩ = some (.pointer (some ⟨p.d, 0, none⟩)) := LG.c0 (KB.alloc hgr (.cells #[.int .i64 (i : Int), .slice X l.length z] 55))
        have hiN : i < s'.safe.length := by have := HN.out; omega
        have HI := Lib.hid hiN
        have HL := Lib.hid f3
        clear hx hv f1 f2 hiN
        by_cases hf : s'.fuse = 0
        · have hw := fun (W : World) (h : DS W p s') => write_chk h (i : Int) (by simp [chk, hf]) (.slice X l.length z)
          rw [show chk s' (i : Int) = 8 from by simp [chk, hf]] at hw
          have HRR : Hid (R = (s', 8)) := by show _ = _; rw [← HS.out, wsD_dead hf]
          generalize l.length = m at *
          clear hf hbs hbs1 f3 HL HX HF HD HE
          go_wp2_with fail
          generalize wr.alloc (.cells #[.int .i64 (i : Int), .slice X m z] 55) = w2 at *
          go_region_held3 (fun w' => w'.cell? ⟨g, 0, none⟩ = some (.pointer (some ⟨p.d, 0, none⟩)) ∧ w'.cell? ⟨wr.heap.size, 0, none⟩ = some (.int .i64 (i : Int)) ∧ w'.cell? ⟨wr.heap.size, 1, none⟩ = some (.slice X m z))
            (first | exact ⟨qg, q0, q1⟩ | go_keep)
            (first | (go_at_call 11; refine (hw _ (ds1.drewN 1)).mono ?_; rintro e w' ⟨rfl, rfl⟩) | fail)
          go_wp2_with fail
          go_ret
          rw [HRR.out]
          exact ⟨rfl, ds1.drewN 1, kp1.drewN 1⟩
        · have hw := fun (W : World) (h : DS W p s') (hb : BS W (Off p w) (.slice X l.length z) l) => write_ok h i HI.out hf (Off p w) (.slice X l.length z) l hb HL.out
          have HSS : Hid (wsD (wrD s' i l) (ps.drop (k + 1)) = R) := by
            show _ = _
            rw [← HS.out, HX.out, wsD_live hf]
            rfl
          have HN2 : Hid ((wrD s' i l).safe.length = s.safe.length) := HN.out
          have hkp := fun (W : World) (h : KeepP (Off p (wr.alloc (.cells #[.int .i64 (i : Int), .slice X l.length z] 55)).drew) (wr.alloc (.cells #[.int .i64 (i : Int), .slice X l.length z] 55)).drew W) => (kp1.drewN 1).trans (h.mono (Q := Off p w) fun x hx => ⟨Nat.lt_of_lt_of_le hx.1 kp1.size, hx.2⟩)
          have HKP := Lib.hid hkp
          have HC : Hid (∀ W, KeepP (Off p (wr.alloc (.cells #[.int .i64 (i : Int), .slice X l.length z] 55)).drew) (wr.alloc (.cells #[.int .i64 (i : Int), .slice X l.length z] 55)).drew W → W.cell? ⟨g, 0, none⟩ = some (.pointer (some ⟨p.d, 0, none⟩)) ∧ W.cell? ⟨wr.heap.size, 0, none⟩ = some (.int .i64 (i : Int)) ∧ W.cell? ⟨wr.heap.size, 1, none⟩ = some (.slice X l.length z)) := by
            intro W hk
            have b1 := hk.block g ⟨Nat.lt_of_lt_of_le hoff.1 kp1.size, hgp⟩
            have b2 := hk.block wr.heap.size ⟨kw.lt, fun hx => by have := ds.lt _ hx; omega⟩
            exact ⟨(World.cell?_of_block b1).trans qg, (World.cell?_of_block b2).trans q0, (World.cell?_of_block b2).trans q1⟩
          clear hf hkp f3 HS HN HX HF HD HE
          go_wp2_with fail
          generalize wr.alloc (.cells #[.int .i64 (i : Int), .slice X l.length z] 55) = w2 at *
          go_region_held3 (fun w' => w'.cell? ⟨g, 0, none⟩ = some (.pointer (some ⟨p.d, 0, none⟩)) ∧ w'.cell? ⟨wr.heap.size, 0, none⟩ = some (.int .i64 (i : Int)) ∧ w'.cell? ⟨wr.heap.size, 1, none⟩ = some (.slice X l.length z))
            (first | exact ⟨qg, q0, q1⟩ | exact HC.out _ k4 | go_keep)
            (first | (go_at_call 11; refine (hw _ (ds1.drewN 1) (hbs1.drewN 1)).mono ?_; rintro e w4 ⟨rfl, d4, k4⟩) | fail)
          go_wp2_with fail
          go_roundw
          case rel => exact ⟨k + 1, _, by omega, by go_num, HSS, HN2, d4, HKP.out _ k4⟩
          case measure => simp [intOf]; omega
      · obtain rfl : k = ps.length := by omega
        have HS2 : Hid (wsD s' [] = R) := by show _ = _; rw [← HS.out, HE.out]
        have c0 := hgr.c0
        clear HS HN HF HD HE
        by_cases hf : s'.fuse = 0
        · have HRR : Hid (R = (s', 8)) := by show _ = _; rw [← HS2.out, wsD_dead hf]
          have hw := flush_dead ds hf
          clear hf
          go_wp2_with (go_at_call 14; refine hw.mono ?_; rintro e w' ⟨rfl, rfl⟩)
          go_ret
          rw [HRR.out]
          exact ⟨rfl, ds, kp⟩
        · have HRR : Hid (R = (s'.flushed, 0)) := by show _ = _; rw [← HS2.out, wsD_end hf]
          have hw := flush_ok ds hf
          clear hf
          go_wp2_with (go_at_call 14; refine hw.mono ?_; rintro e w4 ⟨rfl, d4, k4⟩)
          go_ret
          rw [HRR.out]
          exact ⟨rfl, d4, kp.trans (k4.mono fun x hx => ⟨Nat.lt_of_lt_of_le hx.1 kp.size, hx.2⟩)⟩
end Go.Proofs.YtgoifhpinoodgaaDoor
end
