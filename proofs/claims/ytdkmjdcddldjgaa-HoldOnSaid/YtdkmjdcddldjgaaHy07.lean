/-
  HdO: The document's On (layer 22), over the loaded program: its contract. No condition but the size that it names.
-/
import Derived.Test.YtdkmjdcddldjgaaHy04
import Derived.Test.YtdkmjdcddldjgaaHy06
import Derived.Test.YtdkmjdcddldjgaaHy05
set_option linter.unusedVariables false
set_option maxRecDepth 100000
namespace Go.Proofs.Ytdkmjdcddldjgaa
section
open Go.RowKit Go.ChangeShapes Go.WideShapes Go.Joins
theorem own_low {w : World} {base base' e size n : Nat} {v : Value} {xs : List Value} (h : w.ownsRow base e size v n xs) (hb : base' ≤ base) : w.ownsRow base' e size v n xs := by
  obtain ⟨h1, h2⟩ := h
  rcases h2 with h2 | ⟨g, cap, cur, ev, hg, r⟩
  · exact ⟨h1, .inl h2⟩
  · exact ⟨h1, .inr ⟨g, cap, cur, ev, Nat.le_trans hb hg, r⟩⟩
def IdsAs (w : World) (ns : List (List UInt8)) (e : Ending) (w' : World) : Prop := ∃ v, e = .returned v ∧ w'.ownsRow w.heap.size 9 1 v ns.length (ns.map strV) ∧ Below w.heap.size w w'
set_option maxHeartbeats 8000000 in
theorem xhon_any (S : Nat → Prop) (f : Nat) (l : List (Hl f)) (hl : l.length ≤ 1000) (rc : Rc) (v vr : Value) (hrc : RcV vr rc) (w : World) (hv : HS w S f v l) :
    Calls Try.prog 17 #[v, vr] w (IdsAs w (onH rc l)) := by
  have HMA := Lib.hid (fun x u W h => zrmatch_any S rc vr hrc f x u W h)
  obtain ⟨rid, rst, rfl⟩ := hrc
  obtain ⟨A, cap, rfl, hl3, hm3, _⟩ := hv.form
  have hlen : l.length ≤ 9223372036854775807 := by unfold maxLen at hm3; omega
  obtain ⟨r0, hr0⟩ : ∃ s : ByteArray, strV rid = .string s := ⟨_, rfl⟩
  obtain ⟨r1, hr1⟩ : ∃ s : ByteArray, strV rc.cse = .string s := ⟨_, rfl⟩
  obtain ⟨r2, hr2⟩ : ∃ s : ByteArray, strV rc.sub = .string s := ⟨_, rfl⟩
  obtain ⟨r3, hr3⟩ : ∃ s : ByteArray, strV rc.cls = .string s := ⟨_, rfl⟩
  have hma := HMA.out
  rw [hr0, hr1, hr2, hr3] at hma ⊢
  replace HMA := Lib.hid hma
  clear hma hr0 hr1 hr2 hr3
  obtain ⟨tk, htk⟩ : ∃ t, t = rc.tick := ⟨_, rfl⟩
  have hma := HMA.out
  rw [← htk] at hma ⊢
  replace HMA := Lib.hid hma
  clear hma htk
  have HDONE : Hid (∀ (W : World) (v : Value), W.ownsRow (w.heap.size + 1) 9 1 v (onH rc (l.take l.length)).length ((onH rc (l.take l.length)).map strV) → Below w.heap.size w W → IdsAs w (onH rc l) (.returned v) W) := fun W v h hb => by
    rw [List.take_length] at h
    exact ⟨v, rfl, own_low h (by omega), hb⟩
  have HS1 : Hid (∀ (j : Nat) (hj : j < l.length), (l[j].act && matchS rc f l[j].sc) = true → onH rc (l.take (j + 1)) = onH rc (l.take j) ++ [l[j].id]) := fun j hj h => by rw [on_step rc l hj, if_pos (show holdsH rc l[j] = true from h)]
  have HS2 : Hid (∀ (j : Nat) (hj : j < l.length), (l[j].act && matchS rc f l[j].sc) = false → onH rc (l.take (j + 1)) = onH rc (l.take j)) := fun j hj h => by rw [on_step rc l hj, if_neg (by rw [show holdsH rc l[j] = false from h]; decide)]
  have HIR : Hid (onH rc (l.take 0) = []) := rfl
  have K0 := KB.new w 40 #[.string r0, .string r1, .string r2, .string r3, .int .i64 tk, .int .i64 rst]
  have B0 := (Below.refl w.heap.size w).alloc (Nat.le_refl _) (.cells #[.string r0, .string r1, .string r2, .string r3, .int .i64 tk, .int .i64 rst] 40)
  have HAT := Lib.hid (fun W (hb : Below w.heap.size w W) j (hj : j < l.length) => hold_atb hv rfl hb j hj)
  have HZ : Hid (∀ W, Below w.heap.size w W → ∀ j (hj : j < l.length) e1 e2 e3 e4 e5, ZX W S f l[j].sc e1 e2 e3 e4 e5 → Calls Try.prog 35 #[.agg #[e1, e2, e3, e4, e5], .agg #[.string r0, .string r1, .string r2, .string r3, .int .i64 tk, .int .i64 rst]] W.drew fun e w' => e = .returned (.bool (matchS rc f l[j].sc)) ∧ Below W.drew.heap.size W.drew w') := fun W hb j hj e1 e2 e3 e4 e5 hz =>
    HMA.out l[j].sc _ W.drew ⟨_, _, _, _, _, rfl, hz.below' (Below_drawn (Below.refl _ _) 1)⟩
  have hown : (w.alloc (.cells #[.string r0, .string r1, .string r2, .string r3, .int .i64 tk, .int .i64 rst] 40)).ownsRow (w.heap.size + 1) 9 1 (.slice none 0 0) ([] : List (List UInt8)).length (([] : List (List UInt8)).map strV) := World.ownsRow_nil _ _ _ _
  obtain ⟨P, hP⟩ : ∃ P : Ending → World → Prop, P = IdsAs w (onH rc l) := ⟨_, rfl⟩
  rw [← hP] at HDONE ⊢
  clear hv hP HMA hl3 hm3
  go_enter Try.func17, Try.ntmps17
  go_wp2_with fail
  go_loopw [5, 6] (fun ov iv wr => ∃ (j : Nat) (out : List (List UInt8)), j ≤ l.length ∧ iv = .int .i64 j ∧ out.length ≤ j ∧ Hid (onH rc (l.take j) = out) ∧ wr.ownsRow (w.heap.size + 1) 9 1 ov out.length (out.map strV) ∧ KB wr w.heap.size 40 #[.string r0, .string r1, .string r2, .string r3, .int .i64 tk, .int .i64 rst] ∧ Below w.heap.size w wr) (fun _ iv _ => l.length - (intOf iv).toNat)
  case atStart => exact ⟨0, [], by omega, rfl, by simp, HIR, hown, K0, B0⟩
  case round =>
    clear hown K0 B0 HIR
    obtain ⟨j, out, hj, rfl, hol, hout, how, K, B⟩ := hrel
    obtain ⟨A7, c7, rfl⟩ := zown_form how
    by_cases hlt : j < l.length
    · have hltI : (j : Int) < (l.length : Int) := by omega
      obtain ⟨b1, o1, e0, e1, e2, e3, e4, e5, e6, rfl, hb1, k0, k1, k2, k3, k4, k5, k6, h0, _, hz, h6⟩ := HAT.out _ B j hlt
      have hc := Lib.hid (HZ.out wr B j hlt _ _ _ _ _ hz)
      have HY := Lib.hid (HS1.out j hlt)
      have HNO := Lib.hid (HS2.out j hlt)
      obtain ⟨s, hs⟩ : ∃ s : ByteArray, s = ⟨l[j].id.toArray⟩ := ⟨_, rfl⟩
      have g0 : e0 = .string s := by rw [h0, hs]; rfl
      have hsv : strV l[j].id = .string s := by rw [hs]; rfl
      obtain ⟨i1, l2, i3, i4, X5, n5, z5, rfl, rfl, rfl, rfl, rfl⟩ := hz.form
      obtain ⟨s2, hs2⟩ : ∃ s : ByteArray, strV l2 = .string s := ⟨_, rfl⟩
      have hc' := hc.out
      rw [hs2] at k2 hc'
      replace hc := Lib.hid hc'
      subst g0 h6
      have B' : Below w.heap.size w wr.drew := Below_drawn B 1
      have K' : KB wr.drew w.heap.size 40 #[.string r0, .string r1, .string r2, .string r3, .int .i64 tk, .int .i64 rst] := K
      have how' : wr.drew.ownsRow (w.heap.size + 1) 9 1 (.slice A7 out.length c7) out.length (out.map strV) := how
      have hl1 : b1 < wr.drew.heap.size := Nat.lt_of_lt_of_le hb1 B.size
      have hl2 := K'.lt
      have p0 := K'.cell 0
      have p1 := K'.cell 1
      have p2 := K'.cell 2
      have p3 := K'.cell 3
      have p4 := K'.cell 4
      have p5 := K'.cell 5
      have HID := Lib.hid hsv
      generalize l[j].id = idj at *
      generalize l[j].act = ac at *
      generalize matchS rc f l[j].sc = t at *
      have HC : Hid (∀ W, Below wr.drew.heap.size wr.drew W → W.cell? ⟨b1, o1 + j * 7, none⟩ = some (.string s) ∧ W.cell? ⟨b1, o1 + j * 7 + 1, none⟩ = some (.int .i64 i1) ∧ W.cell? ⟨b1, o1 + j * 7 + 2, none⟩ = some (.string s2) ∧ W.cell? ⟨b1, o1 + j * 7 + 3, none⟩ = some (.int .i64 i3) ∧ W.cell? ⟨b1, o1 + j * 7 + 4, none⟩ = some (.int .i64 i4) ∧ W.cell? ⟨b1, o1 + j * 7 + 5, none⟩ = some (.slice X5 n5 z5) ∧ W.cell? ⟨b1, o1 + j * 7 + 6, none⟩ = some (.bool ac) ∧ W.cell? ⟨w.heap.size, 0, none⟩ = some (.string r0) ∧ W.cell? ⟨w.heap.size, 1, none⟩ = some (.string r1) ∧ W.cell? ⟨w.heap.size, 2, none⟩ = some (.string r2) ∧ W.cell? ⟨w.heap.size, 3, none⟩ = some (.string r3) ∧ W.cell? ⟨w.heap.size, 4, none⟩ = some (.int .i64 tk) ∧ W.cell? ⟨w.heap.size, 5, none⟩ = some (.int .i64 rst)) := fun W hb => ⟨zfar hb hl1 k0, zfar hb hl1 k1, zfar hb hl1 k2, zfar hb hl1 k3, zfar hb hl1 k4, zfar hb hl1 k5, zfar hb hl1 k6, zfar hb hl2 p0, zfar hb hl2 p1, zfar hb hl2 p2, zfar hb hl2 p3, zfar hb hl2 p4, zfar hb hl2 p5⟩
      clear k0 k1 k2 k3 k4 k5 k6 p0 p1 p2 p3 p4 p5 hc' hz hs hs2 h0 hsv HAT HZ HS1 HS2 K how B hb1 HDONE
      cases ac with
      | false =>
        have hn := HNO.out rfl
        have HM : Hid (onH rc (l.take (j + 1)) = out) := hn.trans hout.out
        clear HY HNO hn hc hout HID
        go_wp2_with fail
        rename_i KK hKK
        have HKK := Lib.hid hKK
        clear hKK
        refine wp_region_held_drew (S := (fun W => W.cell? ⟨b1, o1 + j * 7, none⟩ = some (.string s) ∧ W.cell? ⟨b1, o1 + j * 7 + 1, none⟩ = some (.int .i64 i1) ∧ W.cell? ⟨b1, o1 + j * 7 + 2, none⟩ = some (.string s2) ∧ W.cell? ⟨b1, o1 + j * 7 + 3, none⟩ = some (.int .i64 i3) ∧ W.cell? ⟨b1, o1 + j * 7 + 4, none⟩ = some (.int .i64 i4) ∧ W.cell? ⟨b1, o1 + j * 7 + 5, none⟩ = some (.slice X5 n5 z5) ∧ W.cell? ⟨b1, o1 + j * 7 + 6, none⟩ = some (.bool false) ∧ W.cell? ⟨w.heap.size, 0, none⟩ = some (.string r0) ∧ W.cell? ⟨w.heap.size, 1, none⟩ = some (.string r1) ∧ W.cell? ⟨w.heap.size, 2, none⟩ = some (.string r2) ∧ W.cell? ⟨w.heap.size, 3, none⟩ = some (.string r3) ∧ W.cell? ⟨w.heap.size, 4, none⟩ = some (.int .i64 tk) ∧ W.cell? ⟨w.heap.size, 5, none⟩ = some (.int .i64 rst))) (by kernel_rfl) (HC.out _ (Below.refl _ _)) (fun hHeld => ?_)
        refine hyY (some 13) 0 rfl hHeld ?_; go_frame
        refine hyY (some 14) 1 rfl hHeld ?_; go_frame
        refine hyY (some 15) 2 rfl hHeld ?_; go_frame
        refine hyY (some 16) 3 rfl hHeld ?_; go_frame
        refine hyY (some 17) 4 rfl hHeld ?_; go_frame
        refine hyY (some 18) 5 rfl hHeld ?_; go_frame
        refine hyN (some 19) 6 rfl hHeld ?_; go_frame
        refine hyN (some 20) 7 rfl hHeld ?_; go_frame
        refine hyN (some 21) 8 rfl hHeld ?_; go_frame
        refine hyN (some 22) 9 rfl hHeld ?_; go_frame
        refine hyN (some 23) 10 rfl hHeld ?_; go_frame
        refine hyN (some 24) 11 rfl hHeld ?_; go_frame
        refine hyN (some 25) 12 rfl hHeld ?_; go_frame
        refine hyY (some 26) 13 rfl hHeld ?_; go_frame
        refine wpAnyH_done (by kernel_rfl) ?_ _
        skip
        have hKK := HKK.out
        clear HC hHeld
        go_wp2_with fail
        go_roundw
        case rel => exact ⟨j + 1, out, by omega, by go_num, by omega, HM, how', K', B'⟩
        case measure => simp [intOf]; omega
      | true =>
        go_wp2_with fail
        rename_i KK hKK
        have HKK := Lib.hid hKK
        clear hKK
        refine wp_region_held_drew (S := (fun W => W.cell? ⟨b1, o1 + j * 7, none⟩ = some (.string s) ∧ W.cell? ⟨b1, o1 + j * 7 + 1, none⟩ = some (.int .i64 i1) ∧ W.cell? ⟨b1, o1 + j * 7 + 2, none⟩ = some (.string s2) ∧ W.cell? ⟨b1, o1 + j * 7 + 3, none⟩ = some (.int .i64 i3) ∧ W.cell? ⟨b1, o1 + j * 7 + 4, none⟩ = some (.int .i64 i4) ∧ W.cell? ⟨b1, o1 + j * 7 + 5, none⟩ = some (.slice X5 n5 z5) ∧ W.cell? ⟨b1, o1 + j * 7 + 6, none⟩ = some (.bool true) ∧ W.cell? ⟨w.heap.size, 0, none⟩ = some (.string r0) ∧ W.cell? ⟨w.heap.size, 1, none⟩ = some (.string r1) ∧ W.cell? ⟨w.heap.size, 2, none⟩ = some (.string r2) ∧ W.cell? ⟨w.heap.size, 3, none⟩ = some (.string r3) ∧ W.cell? ⟨w.heap.size, 4, none⟩ = some (.int .i64 tk) ∧ W.cell? ⟨w.heap.size, 5, none⟩ = some (.int .i64 rst))) (by kernel_rfl) (HC.out _ (Below.refl _ _)) (fun hHeld => ?_)
        refine hyY (some 13) 0 rfl hHeld ?_; go_frame
        refine hyY (some 14) 1 rfl hHeld ?_; go_frame
        refine hyY (some 15) 2 rfl hHeld ?_; go_frame
        refine hyY (some 16) 3 rfl hHeld ?_; go_frame
        refine hyY (some 17) 4 rfl hHeld ?_; go_frame
        refine hyY (some 18) 5 rfl hHeld ?_; go_frame
        refine hyY (some 19) 6 rfl hHeld ?_; go_frame
        refine hyY (some 20) 7 rfl hHeld ?_; go_frame
        refine hyY (some 21) 8 rfl hHeld ?_; go_frame
        refine hyY (some 22) 9 rfl hHeld ?_; go_frame
        refine hyY (some 23) 10 rfl hHeld ?_; go_frame
        refine hyY (some 24) 11 rfl hHeld ?_; go_frame
        refine hyO (some 25) 12 rfl (fun K hK => ?_)
        go_simp
        go_at_call 35
        refine hc.out.mono ?_
        rintro e w5 ⟨rfl, b5⟩
        go_wp2_with fail
        refine hK.out _ _ ?_ (fun hH2 => ?_)
        · exact HC.out _ b5
        clear hHeld hK K; have hHeld := hH2; clear hH2; try go_frame
        refine hyY (some 26) 13 rfl hHeld ?_; go_frame
        refine wpAnyH_done (by kernel_rfl) ?_ _
        skip
        have hKK := HKK.out
        obtain ⟨k0, _⟩ := HC.out _ b5
        have K5 := K'.below b5 hl2
        have B5 := B'.trans (b5.mono B'.size)
        have how5 := own_past b5 how'
        clear hc HC hHeld K' B' how' b5 hl1 hl2
        cases t with
        | false =>
          have hn := HNO.out rfl
          have HM : Hid (onH rc (l.take (j + 1)) = out) := hn.trans hout.out
          clear HY HNO hn hout HID
          go_wp2_with fail
          go_roundw
          case rel => exact ⟨j + 1, out, by omega, by go_num, by omega, HM, how5, K5, B5⟩
          case measure => simp [intOf]; omega
        | true =>
          have hn := HY.out rfl
          have HM : Hid (onH rc (l.take (j + 1)) = out ++ [idj]) := by rw [← hout.out]; exact hn
          have kx : (w5.alloc (.cells #[.string s] 9)).cell? ⟨w5.heap.size, 0, none⟩ = some (strV idj) := by rw [HID.out]; exact (KB.new w5 9 #[.string s]).cell 0
          have hs1 := K5.lt
          have A1 := (Below.refl w5.heap.size w5).alloc (Nat.le_refl _) (.cells #[.string s] 9)
          have how1 := own_past A1 how5
          have B1 := B5.trans (A1.mono B5.size)
          have K1 := K5.below A1 hs1
          have hs2 : w.heap.size + 1 ≤ (w5.alloc (.cells #[.string s] 9)).heap.size := Nat.le_trans hs1 A1.size
          have hol2 : out.length ≤ 1000000000 := by omega
          have hl2 : (out ++ [idj]).length ≤ j + 1 := by simp; omega
          clear HY HNO hn hout HID A1 how5 B5 K5
          go_wp2_with (at_builtin; refine wpList_growW _ rfl _ _ rfl (w.heap.size + 1) _ out rfl how1 ⟨w5.heap.size, 0, none⟩ 1 idj rfl kx hol2 hs2 ?_; intro v3 w3 how3 g3 ho3)
          go_roundw
          case rel => exact ⟨j + 1, _, by omega, by go_num, hl2, HM, how3, K1.grown g3 (fun e => by have := own_ge how1 _ e; omega), B1.grown g3 (by omega) fun g e => by have := own_ge how1 g e; omega⟩
          case measure => simp [intOf]; omega
    · obtain rfl : j = l.length := by omega
      have hfin := HDONE.out wr _ (by rw [hout.out]; exact how) B
      clear HDONE HAT HZ HS1 HS2 hout how K B
      go_wp2_with fail
      exact hfin
end
end Go.Proofs.Ytdkmjdcddldjgaa
