/-
  WbG: The document's own Logged (layer 10), over the loaded program: its contract. No condition but what it names.
-/
import Derived.Test.YtgoifhpinoodgaaDoorWo37
import Derived.Test.YtgoifhpinoodgaaDoorWo39
import Derived.Test.YtgoifhpinoodgaaDoorWo41
import Derived.Test.YtgoifhpinoodgaaDoorWo27
import Derived.Deep.RegionHeld3

section
namespace Go.Proofs.YtgoifhpinoodgaaDoor
open Go.RowKit
set_option maxRecDepth 100000
set_option linter.unusedVariables false

theorem rfixed_two (x : Nat) (hx : x < 65536) (w : World) : Calls Tryd.prog 26 #[.int .u64 (x : Int), .int .i64 2] w fun e w' => Fresh w e w' (numB x) := by
  have h := fixed_any x 2 w (by omega) (by omega)
  rw [fixB_two x hx] at h
  exact h

/-- What Logged hands back. -/
def LoggedAs (w : World) (L : List (List UInt8)) (l : List UInt8) (e : Ending) (w' : World) : Prop :=
  ∃ v u, e = .returned (.tuple #[v, u]) ∧ LS w' (fun x => w.heap.size ≤ x ∧ x < w'.heap.size) v L ∧ BS w' (fun x => w.heap.size ≤ x ∧ x < w'.heap.size) u l ∧ Below w.heap.size w w'

set_option maxHeartbeats 4000000 in
/-- Logged. -/
theorem rlogged_any (S : Nat → Prop) (v : Value) (ps : List Pt) (w : World) (h : PS w S v ps) (hp : ∀ q ∈ ps, 0 ≤ q.1 ∧ q.1 < 65536 ∧ q.2.length = 256) (hl : ps.length ≤ 1024) :
    Calls Tryd.prog 10 #[v] w (LoggedAs w (entriesL ps) (headL ps.length (entriesL ps))) := by
  obtain ⟨A, c, rfl, hlc, hcm, hn0⟩ := h.form
  have HP : Hid (∀ (k : Nat) (a : Int) (l : List UInt8), ps[k]? = some (a, l) → 0 ≤ a ∧ a < 65536 ∧ l.length = 256) := fun k a l hk => hp _ (List.mem_of_getElem? hk)
  have HL := Lib.hid hl
  obtain ⟨M, hM⟩ : ∃ M, M = listsN ps.length := ⟨_, rfl⟩
  have HM : Hid (120 * M < ps.length + 120 ∧ ps.length ≤ 120 * M ∧ M ≤ 9) := by subst hM; show _ ∧ _ ∧ _; unfold listsN; omega
  obtain ⟨EL, hEL⟩ : ∃ EL, EL = entriesL ps := ⟨_, rfl⟩
  have HE : Hid (EL = ((List.range M).map fun i => secL (partL ps i)) ++ ps.map (·.2)) := by show _ = _; rw [hEL, hM]; rfl
  have HEL : Hid (EL.length = M + ps.length) := by show _ = _; rw [hEL, entries_len, hM]
  have HE2 : Hid (∀ l ∈ EL, l.length = 256) := by show ∀ l ∈ EL, _; rw [hEL]; exact entries_256 fun v hv => (hp v hv).2.2
  rw [← hEL]
  have hlen : ps.length ≤ 9223372036854775807 := by omega
  have hl24 : ps.length ≤ 1024 := hl
  have hM9 : M ≤ 9 := HM.out.2.2
  have HH := Lib.hid h
  have WP : IntKind.u64.wrap ((ps.length : Nat) : Int) = (ps.length : Nat) := by rw [IntWalk.u64_in _ (by omega)]
  have HNN : Hid (ps.length < 65536) := by show _ < _; omega
  clear hM hp hl hEL h
  go_enter Tryd.func10, Tryd.ntmps10
  go_wp2_with fail
  go_loopw [4, 5] (fun av iv wr => ∃ (i : Nat) (vs : List Value), i ≤ M ∧ iv = .int .i64 (120 * (i : Int)) ∧ wr.ownsRow w.heap.size 34 1 av vs.length vs ∧ VS wr (MineO (fun _ => False) w.heap.size av wr) vs ((List.range i).map fun i => secL (partL ps i)) ∧ Below w.heap.size w wr) (fun _ iv _ => 120 * M - (intOf iv).toNat)
  case atStart => exact ⟨0, [], by omega, rfl, World.ownsRow_nil _ _ _ _, ⟨rfl, fun i v l hv _ => by simp at hv⟩, Below.refl _ _⟩
  case round =>
    obtain ⟨i, vs, hi, rfl, how, vv, bl⟩ := hrel
    by_cases hlt : i < M
    · have hm := HM.out
      have h1 : 120 * i < ps.length := by omega
      have D1 : decide (120 * (i : Int) < (ps.length : Int)) = true := decide_eq_true (by omega)
      obtain ⟨m, hm1⟩ : ∃ m, m = (partL ps i).length := ⟨_, rfl⟩
      have hmm : m = min 120 (ps.length - 120 * i) := by rw [hm1, partL_len]
      have HPA : Hid (∀ (j : Nat), j < m → ∃ (a : Int) (l : List UInt8), (partL ps i)[j]? = some (a, l) ∧ ps[120 * i + j]? = some (a, l) ∧ 0 ≤ a ∧ a < 65536) := fun j hj => by
        have hjl : j < (partL ps i).length := by omega
        have e : (partL ps i)[j]? = ps[120 * i + j]? := by
          unfold partL
          rw [List.getElem?_take, if_pos (by omega), List.getElem?_drop]
        obtain ⟨⟨a, l⟩, hv⟩ : ∃ q, (partL ps i)[j]? = some q := ⟨_, List.getElem?_eq_getElem hjl⟩
        rw [hv] at e
        obtain ⟨p0, p1, _⟩ := HP.out _ a l e.symm
        exact ⟨a, l, hv, e.symm, p0, p1⟩
      have HVV := Lib.hid vv
      have HMM := Lib.hid hm1
      clear hm vv hm1
      go_wp2_with fail
      obtain ⟨w0, hw0⟩ : ∃ w0 : World, w0 = wr := ⟨_, rfl⟩
      rw [← hw0] at how bl HVV ⊢
      clear hw0
      go_loopw [6, 7] (fun bo jv wr => ∃ j : Nat, j ≤ m ∧ jv = .int .i64 (120 * (i : Int) + (j : Int)) ∧ wr.ownsRow w0.heap.size 5 1 bo (bodyL ((partL ps i).take j)).length ((bodyL ((partL ps i).take j)).map bv) ∧ Below w0.heap.size w0 wr) (fun _ jv _ => 120 * i + m - (intOf jv).toNat)
      case atStart => exact ⟨0, by omega, rfl, World.ownsRow_nil _ _ _ _, Below.refl _ _⟩
      case round =>
        obtain ⟨j, hj, rfl, hob, blj⟩ := hrel
        by_cases hjt : j < m
        · obtain ⟨a, l, hv, hvp, a1, a2⟩ := HPA.out j hjt
          obtain ⟨b, o, rfl, _, hb, hx⟩ := (HH.out.below' (bl.trans (blj.mono bl.size))).at_ (by omega)
          obtain ⟨k0, X, z, k1, _⟩ := hx _ _ hvp
          dsimp only at k0 k1
          obtain ⟨x, rfl⟩ := Int.eq_ofNat_of_zero_le a1
          have HB := Lib.hid (body_succ hv)
          rw [Int.toNat_natCast] at HB
          have hblen := bodyL_len ((partL ps i).take j)
          have hbl2 : (bodyL ((partL ps i).take j)).length ≤ 240 := by rw [hblen, List.length_take]; have := partL_le ps i; omega
          have HBL := Lib.hid hbl2
          have D2 : decide (120 * (i : Int) + (j : Int) < (ps.length : Int)) = true := decide_eq_true (by omega)
          have D3 : decide (120 * (i : Int) + (j : Int) < 120 * (i : Int) + 120) = true := decide_eq_true (by omega)
          have D4 : decide ((j : Int) < 120) = true := decide_eq_true (by omega)
          have D5 : (120 * (i : Int) + (j : Int)).toNat = 120 * i + j := by omega
          have D6 : (0 : Int) ≤ 120 * (i : Int) + (j : Int) := by omega
          have D7 : 120 * (i : Int) + (j : Int) < (ps.length : Int) := by omega
          have D8 : 120 * (i : Int) + 120 < 10000 := by omega
          have hx2 : x < 65536 := by omega
          have W1 : IntKind.u64.wrap (x : Int) = x := by rw [IntWalk.u64_in _ (by omega)]
          clear hx hv hblen hbl2 a1 hvp k1
          generalize bodyL ((partL ps i).take j) = bd at *
          go_wp2_with fail
          refine (rfixed_two x hx2 _).mono ?_
          rintro e w2 ⟨v2, rfl, how2, b2⟩
          have hob2 := own_past b2 hob
          have blj2 := blj.trans (b2.mono blj.size)
          have bs2 := own_BS how2
          obtain ⟨A2, c2, rfl, _⟩ := bs2.form
          obtain ⟨i0, ib, hz0, hz1, hz2⟩ := info_parts info_byte
          have hsz2 := blj2.size
          clear hob how2 blj b2
          go_wp2_with (at_builtin; refine wpList_grow _ rfl _ _ _ rfl w0.heap.size 5 i0 Tryd.underlying34 ib hz0 hz1 hz2 u6 bd rfl hob2 _ _ (numB x) rfl bs2 (by have := HBL.out; simp [numB]; omega) hsz2 ?_; intro v3 w3 how3 g3 _)
          go_roundw
          case rel =>
            refine ⟨j + 1, by omega, by go_num, ?_, blj2.grown g3 hsz2 fun g e => own_ge hob2 g e⟩
            rw [HB.out]
            exact how3
          case measure => simp [intOf]; omega
        · obtain rfl : j = m := by omega
          have e : (partL ps i).take j = partL ps i := List.take_of_length_le (by rw [← HMM.out]; exact Nat.le_refl _)
          rw [e] at hob
          have hbs := own_BS hob
          have hput := fun (W : World) (h : BS W (fun b => w0.heap.size ≤ b ∧ b < wr.heap.size) u6 (bodyL (partL ps i))) => rput_sect 2 _ u6 (bodyL (partL ps i)) W h
          have hgood : putS 2 (bodyL (partL ps i)) = (secL (partL ps i), 0) := by
            refine Prod.ext rfl (put2_ok ?_)
            rw [bodyL_len]
            have := partL_le ps i
            omega
          rw [hgood] at hput
          obtain ⟨A5, c5, e5, _⟩ := hbs.form
          have HRS : Hid ((List.range (i + 1)).map (fun i => secL (partL ps i)) = (List.range i).map (fun i => secL (partL ps i)) ++ [secL (partL ps i)]) := by
            show _ = _
            rw [List.range_succ, List.map_append]
            rfl
          have BL := bl.trans (blj.mono bl.size)
          have how1 := own_past blj how
          have vv1 := HVV.out.mine blj
          have HVL : Hid (vs.length + 1 ≤ 1000000000) := by show _ ≤ _; have := vv1.1; simp at this; omega
          have hend : ¬ (120 * i + j < ps.length ∧ 120 * i + j < 120 * i + 120) := by omega
          clear hgood hob HVV how bl blj e HPA HMM hmm
          generalize secL (partL ps i) = sc at *
          generalize bodyL (partL ps i) = bd at *
          subst e5
          by_cases hq : 120 * i + j < ps.length
          · have D2 : decide (120 * (i : Int) + (j : Int) < (ps.length : Int)) = true := decide_eq_true (by omega)
            have D3 : decide (120 * (i : Int) + (j : Int) < 120 * (i : Int) + 120) = false := decide_eq_false (by omega)
            have D4 : decide ((j : Int) < 120) = false := decide_eq_false (by omega)
            have D8 : 120 * (i : Int) + 120 < 10000 := by omega
            go_wp2_with fail
            refine (hput _ hbs).mono ?_
            rintro e w2 ⟨v2, rfl, how2, b2⟩
            have BL2 := BL.trans (b2.mono BL.size)
            have how3 := own_past b2 how1
            have vv3 := vv1.mine b2
            have bs2 := own_BS how2
            have hs := BL.size
            have vv4 := vv3.append (VS.one (bs2.mono (S' := MineO (fun _ => False) w.heap.size u4 w2) fun x hx => .inr ⟨by omega, hx.2, fun e => by have := own_lt how1 e; omega⟩))
            rw [← HRS.out] at vv4
            obtain ⟨A2, c2, rfl, _⟩ := bs2.form
            have hat := onev_at w2 34 (.slice A2 sc.length c2)
            have B4 := (Below.refl w2.heap.size w2).alloc (Nat.le_refl _) (.cells #[.slice A2 sc.length c2] 34)
            have how4 := own_past B4 how3
            have vv5 := vv4.mine B4
            have BL4 := BL2.trans (B4.mono BL2.size)
            have hs4 := BL4.size
            clear hput hbs how1 vv1 how2 b2 how3 vv3 bs2 vv4 BL BL2 B4 hend
            go_wp2_with (at_builtin; refine wpList_growL _ rfl _ _ rfl w.heap.size u4 vs rfl how4 ⟨w2.heap.size, 0, none⟩ 1 1 [.slice A2 sc.length c2] rfl rfl hat (by intro u hu; simp at hu; subst hu; rfl) HVL.out hs4 ?_; intro v5 w5 how5 g5 ho5)
            go_roundw
            case rel => exact ⟨i + 1, _, by omega, by go_num, how5, vv5.minegrow how4 g5 ho5 hs4, BL4.grown g5 hs4 fun g e => own_ge how4 g e⟩
            case measure => simp [intOf]; omega
          · have D2 : decide (120 * (i : Int) + (j : Int) < (ps.length : Int)) = false := decide_eq_false (by omega)
            go_wp2_with fail
            refine (hput _ hbs).mono ?_
            rintro e w2 ⟨v2, rfl, how2, b2⟩
            have BL2 := BL.trans (b2.mono BL.size)
            have how3 := own_past b2 how1
            have vv3 := vv1.mine b2
            have bs2 := own_BS how2
            have hs := BL.size
            have vv4 := vv3.append (VS.one (bs2.mono (S' := MineO (fun _ => False) w.heap.size u4 w2) fun x hx => .inr ⟨by omega, hx.2, fun e => by have := own_lt how1 e; omega⟩))
            rw [← HRS.out] at vv4
            obtain ⟨A2, c2, rfl, _⟩ := bs2.form
            have hat := onev_at w2 34 (.slice A2 sc.length c2)
            have B4 := (Below.refl w2.heap.size w2).alloc (Nat.le_refl _) (.cells #[.slice A2 sc.length c2] 34)
            have how4 := own_past B4 how3
            have vv5 := vv4.mine B4
            have BL4 := BL2.trans (B4.mono BL2.size)
            have hs4 := BL4.size
            clear hput hbs how1 vv1 how2 b2 how3 vv3 bs2 vv4 BL BL2 B4 hend
            go_wp2_with (at_builtin; refine wpList_growL _ rfl _ _ rfl w.heap.size u4 vs rfl how4 ⟨w2.heap.size, 0, none⟩ 1 1 [.slice A2 sc.length c2] rfl rfl hat (by intro u hu; simp at hu; subst hu; rfl) HVL.out hs4 ?_; intro v5 w5 how5 g5 ho5)
            go_roundw
            case rel => exact ⟨i + 1, _, by omega, by go_num, how5, vv5.minegrow how4 g5 ho5 hs4, BL4.grown g5 hs4 fun g e => own_ge how4 g e⟩
            case measure => simp [intOf]; omega
    · obtain rfl : i = M := by omega
      have D1 : decide (120 * (i : Int) < (ps.length : Int)) = false := decide_eq_false (by have := HM.out; omega)
      clear HM
      go_wp2_with fail
      go_loopw [4, 10] (fun av iv wr => ∃ (k : Nat) (vs : List Value), k ≤ ps.length ∧ iv = .int .i64 k ∧ wr.ownsRow w.heap.size 34 1 av vs.length vs ∧ VS wr (MineO (fun _ => False) w.heap.size av wr) vs (((List.range i).map fun i => secL (partL ps i)) ++ (ps.take k).map (·.2)) ∧ Below w.heap.size w wr) (fun _ iv _ => ps.length - (intOf iv).toNat)
      case atStart => exact ⟨0, vs, by omega, rfl, how, by rw [List.take_zero, List.map_nil, List.append_nil]; exact vv, bl⟩
      case round =>
        clear how vv bl
        obtain ⟨k, vs, hk, rfl, how, vv, bl⟩ := hrel
        by_cases hlt : k < ps.length
        · obtain ⟨b, o, rfl, sb, hb, hx⟩ := (HH.out.below' bl).at_ (by omega)
          obtain ⟨⟨a, l⟩, hv⟩ : ∃ q, ps[k]? = some q := ⟨_, List.getElem?_eq_getElem hlt⟩
          obtain ⟨k0, X, z, k1, hbs⟩ := hx k _ hv
          dsimp only at k0 k1 hbs
          have hcp := copy_any _ _ l wr hbs (by have := (HP.out k a l hv).2.2; omega)
          have HT : Hid ((ps.take (k + 1)).map (·.2) = (ps.take k).map (·.2) ++ [l]) := by
            show _ = _
            rw [List.take_add_one, hv, List.map_append]
            rfl
          have HVL : Hid (vs.length + 1 ≤ 1000000000) := by
            show _ ≤ _
            have := vv.1
            rw [List.length_append, List.length_map, List.length_map, List.length_range, List.length_take] at this
            have := HL.out
            omega
          clear hx k0 hv hbs
          go_wp2_with fail
          refine hcp.mono ?_
          rintro e w3 ⟨v3, rfl, how3, b3⟩
          have hs := bl.size
          have B3 := bl.trans (b3.mono hs)
          have bs3 := own_BS how3
          obtain ⟨A3, c3, rfl, _⟩ := bs3.form
          have vv3 := (vv.mine b3).append (VS.one (bs3.mono (S' := MineO (fun _ => False) w.heap.size u4 w3) fun x hx => .inr ⟨by omega, hx.2, fun e => by have := own_lt how e; omega⟩))
          rw [List.append_assoc, ← HT.out] at vv3
          have how3' := own_past b3 how
          have hat := onev_at w3 34 (.slice A3 l.length c3)
          have B4 := (Below.refl w3.heap.size w3).alloc (Nat.le_refl _) (.cells #[.slice A3 l.length c3] 34)
          have how4 := own_past B4 how3'
          have vv4 := vv3.mine B4
          have BL4 := B3.trans (B4.mono B3.size)
          have hs4 := BL4.size
          clear hcp how3 b3 bs3 vv3 vv how how3' B4 HT k1
          go_wp2_with (at_builtin; refine wpList_growL _ rfl _ _ rfl w.heap.size u4 vs rfl how4 ⟨w3.heap.size, 0, none⟩ 1 1 [.slice A3 l.length c3] rfl rfl hat (by intro u hu; simp at hu; subst hu; rfl) HVL.out hs4 ?_; intro v5 w5 how5 g5 ho5)
          go_roundw
          case rel => exact ⟨k + 1, _, by omega, by go_num, how5, vv4.minegrow how4 g5 ho5 hs4, BL4.grown g5 hs4 fun g e => own_ge how4 g e⟩
          case measure => simp [intOf]; omega
        · obtain rfl : k = ps.length := by omega
          rw [List.take_length, ← HE.out] at vv
          have hls := LS_of_own (S := fun x => w.heap.size ≤ x ∧ x < wr.heap.size) how (vv.mono fun x hx => by
            rcases hx with hx | hx
            · exact absurd hx.1 id
            · exact ⟨hx.1, hx.2.1⟩) fun x h1 h2 => ⟨h1, h2⟩
          obtain ⟨A4, c4, e4, _⟩ := hls.form
          have hvl := vv.1
          have hel : EL.length ≤ 1033 := by have := HEL.out; omega
          have hel63 : EL.length ≤ 9223372036854775807 := by omega
          have HVL2 := Lib.hid hvl
          subst e4
          obtain ⟨ws, hws⟩ : ∃ ws : World, ws = wr := ⟨_, rfl⟩
          rw [← hws] at bl hls ⊢
          have HLS := Lib.hid hls
          clear vv how HE hws hls hvl
          go_wp2_with fail
          go_loopw [11, 12] (fun bo jv wr => ∃ j : Nat, j ≤ EL.length ∧ jv = .int .i64 j ∧ wr.ownsRow ws.heap.size 5 1 bo (catB (EL.take j)).length ((catB (EL.take j)).map bv) ∧ Below ws.heap.size ws wr) (fun _ jv _ => EL.length - (intOf jv).toNat)
          case atStart => exact ⟨0, by omega, rfl, World.ownsRow_nil _ _ _ _, Below.refl _ _⟩
          case round =>
            obtain ⟨j, hj, rfl, hob, blj⟩ := hrel
            by_cases hjt : j < EL.length
            · obtain ⟨b, o, rfl, _, hb, hx⟩ := (HLS.out.below' blj).at_ (by omega)
              have HC := Lib.hid (catB_take_succ EL j hjt)
              obtain ⟨X, z, k0, bs⟩ := hx j _ (List.getElem?_eq_getElem hjt)
              have hb6 : (catB (EL.take j)).length + EL[j].length ≤ 1000000 := by
                have h1 := catB_256 HE2.out
                have h2 := catB_get_le EL j hjt
                omega
              have HB6 := Lib.hid hb6
              clear hx hb6
              generalize catB (EL.take j) = bd at *
              generalize EL[j] = rowj at *
              obtain ⟨i0, ib, hz0, hz1, hz2⟩ := info_parts info_byte
              have hszj := blj.size
              go_wp2_with (at_builtin; refine wpList_grow _ rfl _ _ _ rfl ws.heap.size 5 i0 Tryd.underlying34 ib hz0 hz1 hz2 u11 bd rfl hob _ _ rowj rfl bs (by have := HB6.out; omega) hszj ?_; intro v3 w3 how3 g3 _)
              go_roundw
              case rel =>
                refine ⟨j + 1, by omega, by go_num, ?_, blj.grown g3 hszj fun g e => own_ge hob g e⟩
                rw [HC.out]
                exact how3
              case measure => simp [intOf]; omega
            · obtain rfl : j = EL.length := by omega
              rw [List.take_length] at hob
              have hbs := own_BS hob
              have hof := rof_any _ _ (catB EL) wr hbs (by have h1 := catB_256 HE2.out; omega)
              have hput := fun (W : World) (S : Nat → Prop) (v : Value) (h : BS W S v (numB ps.length ++ sumB (catB EL))) => rput_sect 1 S v _ W h
              have hgood : putS 1 (numB ps.length ++ sumB (catB EL)) = (headL ps.length EL, 0) := Prod.ext rfl (put1_ok (by rw [head_body]; omega))
              rw [hgood] at hput
              obtain ⟨ss, hss⟩ : ∃ ss, ss = sumB (catB EL) := ⟨_, rfl⟩
              have HSL : Hid (ss.length = 32) := by show _ = _; rw [hss, sumB_length]
              rw [← hss] at hof hput
              have HSM : Hid ((ss.map bv).length = 32) := by show _ = _; rw [List.length_map]; exact HSL.out
              have HFX : Hid (∀ W : World, Calls Tryd.prog 26 #[.int .u64 (ps.length : Int), .int .i64 2] W fun e w' => Fresh W e w' (numB ps.length)) := fun W => rfixed_two _ HNN.out W
              have HNB : Hid ((numB ps.length).length = 2) := rfl
              obtain ⟨Ab, cb, eb, _⟩ := hbs.form
              have hls1 := HLS.out.below' blj
              have BL := bl.trans (blj.mono bl.size)
              have hsw := blj.size
              generalize headL ps.length EL = R at *
              generalize numB ps.length = nb at *
              generalize catB EL = tx at *
              obtain ⟨i0, ib, hz0, hz1, hz2⟩ := info_parts info_byte
              clear hgood hss hob HLS HE2 HP HH HL HEL blj
              subst eb
              go_wp2_with fail
              refine hof.mono ?_
              rintro e w1 ⟨rfl, b1⟩
              have K0 : KB (w1.alloc (.cells (z32.map bv).toArray 71)) w1.heap.size 71 (z32.map bv).toArray := KB.new _ _ _
              have B1 := BL.trans (b1.mono BL.size)
              have B0 := B1.alloc B1.size (.cells (z32.map bv).toArray 71)
              have hls2 := (hls1.below' b1).below' ((Below.refl w1.heap.size w1).alloc (Nat.le_refl _) (.cells (z32.map bv).toArray 71))
              have hw1 := b1.size
              have hw2 := B1.size
              go_wp2_with (rw [row32]; refine wpList_store_kb rfl 71 (.tmp 13) (.tmp 81) rfl w1.heap.size (ss.map bv) rfl rfl 71 _ K0 32 (by kernel_rfl) z32_length HSM.out (bytes_one _) ?_; intro w2 k2 g2)
              have hls2' := hls2.keep g2.size fun b sb hlt => g2.block b hlt fun e => by injection e with e; have := sb.2; omega
              have B2 := B0.grown g2 B0.size fun g e => by injection e with e; have := b1.size; omega
              obtain ⟨w3, hw3⟩ : ∃ w3, w3 = w2.drew := ⟨_, rfl⟩
              have K3 : KB w3 w1.heap.size 71 (ss.map bv).toArray := by rw [hw3]; exact k2.drewN 1
              have B3 : Below w.heap.size w w3 := by rw [hw3]; exact Below_drawn B2 1
              have hls3 : LS w3 (fun x => w.heap.size ≤ x ∧ x < ws.heap.size) (.slice A4 EL.length c4) EL := by rw [hw3]; exact LS.drewN hls2' 1
              have hw13 : w1.heap.size ≤ w3.heap.size := by have := K3.lt; omega
              have B30 := B3
              clear hof b1 K0 B0 k2 g2 B2 hls1 hls2 hls2' hbs
              go_frame
              refine wp_region_held_drew (S := (fun _ => True)) (by kernel_rfl) trivial (fun hHeld => ?_)
              rw [← hw3]
              clear hw3
              refine held_yes (o := ⟨some 83, _, _, _, _, _⟩) (v := ?_) 0 rfl (by kernel_rfl) (by kernel_rfl) (by kernel_rfl) (fun _ _ _ h => h) (by rfl) hHeld (fun w hSw => ?_) ?_
              rotate_left
              · (try dsimp only at hSw)
                go_simp
                with_reducible rfl
              go_frame
              refine held_yes (o := ⟨some 84, _, _, _, _, _⟩) (v := ?_) 1 rfl (by kernel_rfl) (by kernel_rfl) (by kernel_rfl) (fun _ _ _ h => h) (by rfl) hHeld (fun w hSw => ?_) ?_
              rotate_left
              · (try dsimp only at hSw)
                go_simp
                with_reducible rfl
              go_frame
              refine held_yes (o := ⟨some 85, _, _, _, _, _⟩) (v := ?_) 2 rfl (by kernel_rfl) (by kernel_rfl) (by kernel_rfl) (fun _ _ _ h => h) (by rfl) hHeld (fun w hSw => ?_) ?_
              rotate_left
              · (try dsimp only at hSw)
                go_simp
                with_reducible rfl
              go_frame
              refine held_yes (o := ⟨some 87, _, _, _, _, _⟩) (v := ?_) 4 rfl (by kernel_rfl) (by kernel_rfl) (by kernel_rfl) (fun _ _ _ h => h) (by rfl) hHeld (fun w hSw => ?_) ?_
              rotate_left
              · (try dsimp only at hSw)
                go_simp
                with_reducible rfl
              go_frame
              refine held_one (o := ⟨some 86, _, _, _, _, _⟩) 3 (by kernel_rfl) rfl (by rfl) (fun K hK => ?_)
              go_simp
              go_at_call 26
              refine (HFX.out _).mono ?_
              rintro e w5 ⟨v5, rfl, how5, b5⟩
              replace K3 := K3.below b5 K3.lt
              have Q5 := K3.bs (n := 32) HSL.out (by simp [maxLen])
              replace B3 := B3.trans (b5.mono B3.size)
              have hls5 := hls3.below' b5
              have hs5 := b5.size
              clear b5
              go_wp2_with fail
              refine hK.out _ _ ?_ (fun hH2 => ?_)
              · trivial
              clear hHeld hK K
              have hHeld := hH2
              clear hH2
              try go_frame
              refine held_one (o := ⟨some 88, _, _, _, _, _⟩) 5 (by kernel_rfl) rfl (by rfl) (fun K hK => ?_)
              refine wp_grow _ _ _ rfl w3.heap.size 5 i0 Tryd.underlying34 ib hz0 hz1 hz2 v5 nb rfl how5 _ _ ss rfl Q5 (by have := HSL.out; have := HNB.out; omega) hs5 ?_
              intro v6 w6 how6 g6 _
              have b6 := B3.grown g6 B3.size fun g e => by have := own_ge how5 g e; have := B30.size; omega
              have hls6 := hls5.keep g6.size fun b sb hlt => g6.block b hlt fun e => by have := own_ge how5 b e.symm; have := sb.2; omega
              have q6 := own_BS how6
              refine hK.out _ _ ?_ (fun hH2 => ?_)
              · trivial
              clear hHeld hK K
              have hHeld := hH2
              clear hH2
              try go_frame
              refine held_one (o := ⟨some 89, _, _, _, _, _⟩) 6 (by kernel_rfl) rfl (by rfl) (fun K hK => ?_)
              go_simp
              go_at_call 27
              refine (hput _ _ _ q6).mono ?_
              rintro e w7 ⟨v7, rfl, how7, b7⟩
              go_wp2_with fail
              refine hK.out _ _ ?_ (fun hH2 => ?_)
              · trivial
              clear hHeld hK K
              have hHeld := hH2
              clear hH2
              try go_frame
              refine held_yes (o := ⟨some 82, _, _, _, _, _⟩) (v := ?_) 7 rfl (by kernel_rfl) (by kernel_rfl) (by kernel_rfl) (fun _ _ _ h => h) (by rfl) hHeld (fun w hSw => ?_) ?_
              rotate_left
              · (try dsimp only at hSw)
                go_simp
                with_reducible rfl
              go_frame
              refine held_yes (o := ⟨some 90, _, _, _, _, _⟩) (v := ?_) 8 rfl (by kernel_rfl) (by kernel_rfl) (by kernel_rfl) (fun _ _ _ h => h) (by rfl) hHeld (fun w hSw => ?_) ?_
              rotate_left
              · (try dsimp only at hSw)
                go_simp
                with_reducible rfl
              go_frame
              refine held_yes (o := ⟨some 14, _, _, _, _, _⟩) (v := ?_) 10 rfl (by kernel_rfl) (by kernel_rfl) (by kernel_rfl) (fun _ _ _ h => h) (by rfl) hHeld (fun w hSw => ?_) ?_
              rotate_left
              · (try dsimp only at hSw)
                go_simp
                with_reducible rfl
              go_frame
              refine held_yes (o := ⟨some 91, _, _, _, _, _⟩) (v := ?_) 9 rfl (by kernel_rfl) (by kernel_rfl) (by kernel_rfl) (fun _ _ _ h => h) (by rfl) hHeld (fun w hSw => ?_) ?_
              rotate_left
              · (try dsimp only at hSw)
                go_simp
                with_reducible rfl
              go_frame
              refine held_yes (o := ⟨some 15, _, _, _, _, _⟩) (v := ?_) 11 rfl (by kernel_rfl) (by kernel_rfl) (by kernel_rfl) (fun _ _ _ h => h) (by rfl) hHeld (fun w hSw => ?_) ?_
              rotate_left
              · (try dsimp only at hSw)
                go_simp
                with_reducible rfl
              go_frame
              refine wpAnyH_done (by kernel_rfl) ?_ _
              have BF := b6.trans (b7.mono b6.size)
              have hls7 := hls6.below' b7
              have hs6 := b6.size
              have hs7 := BF.size
              have h67 := b7.size
              have hg6 := g6.size
              have q7 := (own_BS how7).mono (S' := fun x => w.heap.size ≤ x ∧ x < w7.heap.size) fun x hx => ⟨by have := hx.1; omega, hx.2⟩
              go_wp2
              go_ret2
              exact ⟨_, _, rfl, hls7.mono fun x hx => ⟨hx.1, by have := hx.2; omega⟩, q7, BF⟩
end Go.Proofs.YtgoifhpinoodgaaDoor
end
