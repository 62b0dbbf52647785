/-
  WaH: told, over the loaded program: the patches that a log tells. No condition but what it names (the table roots among it).
-/
import Derived.Test.YteddmnoeljakpaaGreatDoorSw15
set_option linter.unusedVariables false
set_option maxRecDepth 100000
namespace Go.Proofs.YteddmnoeljakpaaGreatDoor
section
open Go.RowKit
theorem LS.part {w : World} {S : Nat → Prop} {b o c n : Nat} {ls : List (List UInt8)} (h : LS w S (.slice (some ⟨b, o, none⟩) n c) ls) (lo m : Nat) (hm : lo + m ≤ ls.length) (hc : lo < c) : LS w S (.slice (some ⟨b, o + lo, none⟩) m (c - lo)) ((ls.drop lo).take m) := by
  have hl : ((ls.drop lo).take m).length = m := by rw [List.length_take, List.length_drop]; omega
  obtain ⟨A', c', e, hlc, hcm, hx⟩ := h
  injection e with e1 e2 e3
  subst e1 e2 e3
  refine ⟨_, c - lo, by rw [hl], by rw [hl]; omega, by omega, fun h0 => ?_⟩
  rw [hl] at h0
  obtain ⟨b', o', ea, sb, hb, hx⟩ := hx (by omega)
  injection ea with ea
  injection ea with ea eo
  subst ea eo
  refine ⟨b, o + lo, rfl, sb, hb, fun j q hj => ?_⟩
  have hjm : j < m := by have := (List.getElem?_eq_some_iff.1 hj).1; omega
  rw [List.getElem?_take, if_pos hjm, List.getElem?_drop] at hj
  have := hx (lo + j) q hj
  rw [show o + lo + j = o + (lo + j) by omega]
  exact this
def lenOf : Value → Nat
  | .slice _ n _ => n
  | _ => 0
theorem BS.mine {B : Nat} {v u : Value} {w w' : World} {l : List UInt8} (h : BS w (Mine B v w) u l) (hb : Below w.heap.size w w') : BS w' (Mine B v w') u l :=
  (h.below' hb).mono fun b sb => ⟨sb.1, Nat.lt_of_lt_of_le sb.2.1 hb.size, sb.2.2⟩
theorem BS.minegrow {B : Nat} {v v' u : Value} {w w' : World} {l : List UInt8} (h : BS w (Mine B v w) u l) (hg : w.grownBy w' v.ownBlock) (ho : v'.ownBlock = v.ownBlock ∨ v'.ownBlock = some w.heap.size) : BS w' (Mine B v' w') u l :=
  (h.keep hg.size fun b sb hlt => hg.block b hlt fun e => sb.2.2 e.symm).mono fun b sb => ⟨sb.1, Nat.lt_of_lt_of_le sb.2.1 hg.size, by
    rcases ho with ho | ho
    · rw [ho]; exact sb.2.2
    · rw [ho]; intro e; injection e with e; have := sb.2.1; omega⟩
theorem own_form {w : World} {B e size n : Nat} {v : Value} {xs : List Value} (h : w.ownsRow B e size v n xs) : ∃ A c, v = .slice A n c := by
  obtain ⟨_, h2⟩ := h
  rcases h2 with ⟨rfl, h0⟩ | ⟨g', c, cur, rfl, _⟩
  · exact ⟨none, 0, by rw [h0]⟩
  · exact ⟨_, _, rfl⟩
theorem LS.both {w : World} {S : Nat → Prop} {v : Value} {ls : List (List UInt8)} (h : LS w S v ls) : LS w (fun b => S b ∧ b < w.heap.size) v ls := by
  obtain ⟨A, c, e, hl, hc, hx⟩ := h
  refine ⟨A, c, e, hl, hc, fun h0 => ?_⟩
  obtain ⟨b, o, ea, sb, hb, hx⟩ := hx h0
  refine ⟨b, o, ea, ⟨sb, hb⟩, hb, fun j l hj => ?_⟩
  obtain ⟨x, h1, h2⟩ := hx j l hj
  exact ⟨x, h1, h2.lt⟩
theorem LS.drewN {w : World} {S : Nat → Prop} {v : Value} {ls : List (List UInt8)} (h : LS w S v ls) (n : Nat) : LS (w.drewN n) S v ls := h
def zipW (ns : List Nat) (D : List (List UInt8)) : List Pt := List.zipWith (fun (n : Nat) b => ((n : Int), b)) ns D
theorem zipW_len (ns : List Nat) (D : List (List UInt8)) (h : ns.length ≤ D.length) : (zipW ns D).length = ns.length := by unfold zipW; rw [List.length_zipWith]; omega
theorem zipW_snoc {ns : List Nat} {D : List (List UInt8)} {d : List UInt8} (x : Nat) (h : D[ns.length]? = some d) : zipW (ns ++ [x]) D = zipW ns D ++ [((x : Int), d)] := by
  have hl := (List.getElem?_eq_some_iff.1 h).1
  apply List.ext_getElem?
  intro i
  unfold zipW
  rw [List.getElem?_zipWith]
  rcases Nat.lt_trichotomy i ns.length with hi | hi | hi
  · rw [List.getElem?_append_left hi, List.getElem?_append_left (by rw [List.length_zipWith]; omega), List.getElem?_zipWith]
  · subst hi
    rw [List.getElem?_append_right (Nat.le_refl _), List.getElem?_append_right (by rw [List.length_zipWith]; omega), List.length_zipWith, Nat.sub_self, h, Nat.min_eq_left (by omega), Nat.sub_self]
    rfl
  · rw [List.getElem?_append_right (by omega), List.getElem?_append_right (by rw [List.length_zipWith]; omega), List.length_zipWith, List.getElem?_eq_none (l := [x]) (by simp; omega), List.getElem?_eq_none (l := [((x : Int), d)]) (by simp; omega)]
theorem pairs_two {l : List UInt8} (h : 2 ≤ l.length) : pairsP l = numP l :: pairsP (l.drop 2) := by
  match l, h with
  | a :: b :: r, _ => rfl
theorem catB_256 : ∀ {ls : List (List UInt8)}, (∀ l ∈ ls, l.length = 256) → (catB ls).length ≤ 256 * ls.length
  | [], _ => by simp [catB]
  | l :: ls, h => by
    have h1 := catB_256 (ls := ls) fun m hm => h m (by simp [hm])
    have h2 := h l (by simp)
    unfold catB at h1 ⊢
    rw [List.flatten_cons, List.length_append, List.length_cons]
    omega
def restL (k : Nat) (logged : List (List UInt8)) : List Pt :=
  match listL k 0 (logged.take (listsN k)) with
  | none => []
  | some ns => zipW ns (logged.drop (listsN k))
theorem toldL_one {log : List (List UInt8)} (h : (getS (log.getD 0 [])).1 ≠ 1 ∨ (getS (log.getD 0 [])).2.1.length ≠ 34) : toldL log = [] := if_pos h
theorem toldL_two {log : List (List UInt8)} (h : ¬ ((getS (log.getD 0 [])).1 ≠ 1 ∨ (getS (log.getD 0 [])).2.1.length ≠ 34)) (h2 : roomN (log.length - 1) < numP (getS (log.getD 0 [])).2.1) : toldL log = [] := by
  unfold toldL
  dsimp only
  rw [if_neg h, if_pos h2]
theorem toldL_three {log : List (List UInt8)} (h : ¬ ((getS (log.getD 0 [])).1 ≠ 1 ∨ (getS (log.getD 0 [])).2.1.length ≠ 34)) (h2 : ¬ roomN (log.length - 1) < numP (getS (log.getD 0 [])).2.1)
    (h3 : sumB (catB ((log.drop 1).take (listsN (numP (getS (log.getD 0 [])).2.1) + numP (getS (log.getD 0 [])).2.1))) ≠ (getS (log.getD 0 [])).2.1.drop 2) : toldL log = [] := by
  unfold toldL
  dsimp only
  rw [if_neg h, if_neg h2, if_pos h3]
theorem toldL_four {log : List (List UInt8)} (h : ¬ ((getS (log.getD 0 [])).1 ≠ 1 ∨ (getS (log.getD 0 [])).2.1.length ≠ 34)) (h2 : ¬ roomN (log.length - 1) < numP (getS (log.getD 0 [])).2.1)
    (h3 : ¬ sumB (catB ((log.drop 1).take (listsN (numP (getS (log.getD 0 [])).2.1) + numP (getS (log.getD 0 [])).2.1))) ≠ (getS (log.getD 0 [])).2.1.drop 2) :
    toldL log = restL (numP (getS (log.getD 0 [])).2.1) ((log.drop 1).take (listsN (numP (getS (log.getD 0 [])).2.1) + numP (getS (log.getD 0 [])).2.1)) := by
  unfold toldL
  dsimp only
  rw [if_neg h, if_neg h2, if_neg h3]
  rfl
set_option maxHeartbeats 4000000 in
theorem told_any (S : Nat → Prop) (v : Value) (log : List (List UInt8)) (w : World) (h : LS w S v log) (ht : Tab w) (h2 : 2 ≤ log.length) (hl : log.length ≤ 1025) (h256 : ∀ l ∈ log, l.length = 256) :
    Calls Tryz.prog 124 #[v] w fun e w' => ∃ v', e = .returned v' ∧ PS w' (fun x => (S x ∧ x < w.heap.size) ∨ (w.heap.size ≤ x ∧ x < w'.heap.size)) v' (toldL log) ∧ Below w.heap.size w w' := by
  obtain ⟨A, c, rfl, hlc, hcm⟩ := h.form
  obtain ⟨b, o, rfl, sb, hb, hx⟩ := h.at_ (by omega)
  obtain ⟨s0, hv⟩ : ∃ l, log[0]? = some l := ⟨_, List.getElem?_eq_getElem (by omega)⟩
  obtain ⟨X, z, k0, hbs⟩ := hx 0 s0 hv
  rw [Nat.add_zero] at k0
  have hget := get_sect S _ s0 w hbs
  have hgd : log.getD 0 [] = s0 := by rw [List.getD_eq_getElem?_getD, hv]; rfl
  obtain ⟨R, hR⟩ : ∃ R, R = toldL log := ⟨_, rfl⟩
  have HR := Lib.hid hR
  rw [← hR]
  have D0 : decide ((0 : Int) < (log.length : Int)) = true := by simp; omega
  have D1 : (0 : Int) < (log.length : Int) := by omega
  obtain ⟨G, hG⟩ : ∃ G, G = getS s0 := ⟨_, rfl⟩
  rw [← hG] at hget
  have HG := Lib.hid hG
  have HGD := Lib.hid hgd
  have hnil := fun (w' : World) (hw : Below w.heap.size w w') => PS.nil w' (fun x => (S x ∧ x < w.heap.size) ∨ (w.heap.size ≤ x ∧ x < w'.heap.size))
  clear hR hgd hG hx hbs hv
  go_enter Tryz.func124, Tryz.ntmps124
  go_wp2_with fail
  refine hget.mono ?_
  rintro e w1 ⟨v1, rfl, how1, b1⟩
  obtain ⟨kd, bd, er⟩ := G
  dsimp only at how1 HG
  have hbd := own_BS how1
  obtain ⟨A1, c1, rfl, hc1, hc1m, _⟩ := hbd.form
  clear hget how1 k0
  by_cases d1 : kd = 1
  case neg =>
    have hr : R = [] := by rw [HR.out]; exact toldL_one (.inl (by rw [HGD.out, ← HG.out]; exact d1))
    subst hr
    have D2 : decide (kd = 1) = false := decide_eq_false d1
    have D3 : (kd != 1) = true := by simp [d1]
    go_wp2_with fail
    go_ret
    exact ⟨_, rfl, hnil _ b1, b1⟩
  subst d1
  by_cases d2 : bd.length = 34
  case neg =>
    have hr : R = [] := by rw [HR.out]; exact toldL_one (.inr (by rw [HGD.out, ← HG.out]; exact d2))
    subst hr
    have D3 : ((bd.length : Int) != 34) = true := by simp; omega
    have D4 : ¬ (bd.length : Int) = 34 := by omega
    clear d2
    go_wp2_with fail
    go_ret
    exact ⟨_, rfl, hnil _ b1, b1⟩
  have hno := numberOf_any _ _ bd (by omega) _ hbd
  obtain ⟨k, hk⟩ : ∃ k, k = numP bd := ⟨_, rfl⟩
  rw [← hk] at hno
  have HK := Lib.hid hk
  have H1 : Hid (¬ ((getS (log.getD 0 [])).1 ≠ 1 ∨ (getS (log.getD 0 [])).2.1.length ≠ 34)) := by
    show ¬ _
    rw [HGD.out, ← HG.out]
    simp [d2]
  have HB : Hid ((getS (log.getD 0 [])).2.1 = bd) := by show _ = _; rw [HGD.out, ← HG.out]
  rw [d2] at hno hbd
  obtain ⟨ba, oa, rfl, _⟩ := hbd.at_ (by omega)
  have hb2 := hbd.drop (l := bd) 2 (by omega)
  rw [if_neg (show ¬ c1 = 2 by rw [d2] at hc1; omega)] at hb2
  generalize bd.length = m34 at *
  subst d2
  have hrm := fun w => room_any (log.length - 1) w (by omega)
  rw [show ((log.length - 1 : Nat) : Int) = (log.length : Int) - 1 by omega] at hrm
  clear hk HG HGD
  go_wp2_with fail
  refine hno.mono ?_
  rintro e w2 ⟨rfl, b2⟩
  have B2 := b1.trans (b2.mono b1.size)
  have hb22 := hb2.below' b2
  clear hno hbd hb2 b1 b2
  obtain ⟨rm, hrmm⟩ : ∃ rm, rm = roomN (log.length - 1) := ⟨_, rfl⟩
  rw [← hrmm] at hrm
  by_cases d3 : rm < k
  case pos =>
    have hr : R = [] := by rw [HR.out]; exact toldL_two H1.out (by rw [HB.out, ← HK.out, ← hrmm]; exact d3)
    subst hr
    have D3 : decide ((rm : Int) < (k : Int)) = true := by simp; omega
    have D3' : decide (rm < k) = true := decide_eq_true d3
    clear hrmm d3 hb22
    go_wp2_with (go_at_call 50; refine (hrm _).mono ?_; rintro e w' ⟨rfl, rfl⟩)
    go_ret
    exact ⟨_, rfl, hnil _ B2, B2⟩
  have D3 : decide ((rm : Int) < (k : Int)) = false := by simp; omega
  have D3' : decide (rm < k) = false := decide_eq_false d3
  have hfits := room_fits (k := k) (n := log.length - 1) (by omega)
  have H2 : Hid (¬ roomN (log.length - 1) < numP (getS (log.getD 0 [])).2.1) := by
    show ¬ _
    rw [HB.out, ← HK.out, ← hrmm]
    exact d3
  clear hrmm d3
  have hli := fun w => lists_any k w (by omega)
  obtain ⟨M, hM⟩ : ∃ M, M = listsN k := ⟨_, rfl⟩
  have hMb : 120 * M < k + 120 ∧ k ≤ 120 * M := by subst hM; unfold listsN; omega
  have HM := Lib.hid hM
  rw [← hM] at hli hfits
  clear hM
  obtain ⟨T1, hT1⟩ : ∃ T1 : Nat, (1 : Int) + (M : Int) + (k : Int) = (T1 : Int) := ⟨1 + M + k, by omega⟩
  obtain ⟨T, hT⟩ : ∃ T, T = T1 - 1 := ⟨_, rfl⟩
  have hT' : T = M + k := by omega
  have t1 : (1 : Int) ≤ (T1 : Int) := by omega
  have t2 : (T1 : Int) ≤ (c : Int) := by omega
  have t3 : ¬ (c : Int) = 1 := by omega
  have hM1 : M ≤ 1024 := by omega
  have hk1 : k ≤ 1024 := by omega
  have hpart := (h.below' B2).part 1 T (by omega) (by omega)
  obtain ⟨lg, hlg⟩ : ∃ lg, lg = (log.drop 1).take T := ⟨_, rfl⟩
  have hlgl : lg.length = T := by rw [hlg, List.length_take, List.length_drop]; omega
  have hcat : (catB lg).length < 100000000000000000 := by
    have h3 : ∀ l ∈ lg, l.length = 256 := fun l hl => h256 l (List.mem_of_mem_drop (List.mem_of_mem_take (hlg ▸ hl)))
    have h4 : (catB lg).length ≤ 256 * lg.length := catB_256 h3
    omega
  have HLGE := Lib.hid hlg
  have H3 : Hid ((log.drop 1).take (listsN (numP (getS (log.getD 0 [])).2.1) + numP (getS (log.getD 0 [])).2.1) = lg) := by
    show _ = _
    rw [HB.out, ← HK.out, ← HM.out, hlg, hT']
  have H4 : Hid (numP (getS (log.getD 0 [])).2.1 = k) := by show _ = _; rw [HB.out, ← HK.out]
  rw [← hlg] at hpart
  have hof := of_any _ lg w2 hpart.lt (ht.below B2) hcat
  obtain ⟨ss, hss⟩ : ∃ ss, ss = sumB (catB lg) := ⟨_, rfl⟩
  rw [← hss] at hof
  have HSS := Lib.hid hss
  have HSL : Hid (ss.length = 32) := by show _ = _; rw [hss, sumB_length]
  have HSM : Hid ((ss.map bv).length = 32) := by show _ = _; rw [List.length_map]; exact HSL.out
  have HLG := Lib.hid hlgl
  have HT := Lib.hid hT'
  subst hT
  have HFIT := Lib.hid hfits
  have HMB := Lib.hid hMb
  have HLL := Lib.hid hl
  clear hss hlg hcat hT' hlgl hfits hMb
  go_wp2_with (first
    | (go_at_call 50; refine (hrm _).mono ?_; rintro e w' ⟨rfl, rfl⟩)
    | (go_at_call 120; refine (hli _).mono ?_; rintro e w' ⟨rfl, rfl⟩)
    | fail)
  refine hof.mono ?_
  rintro e w3 ⟨rfl, b3⟩
  have K0 : KB (w3.alloc (.cells (z32.map bv).toArray 171)) w3.heap.size 171 (z32.map bv).toArray := KB.new _ _ _
  have B0 := b3.alloc b3.size (.cells (z32.map bv).toArray 171)
  go_wp2_with (rw [row32]; refine wpList_store_kb rfl 171 (.tmp 9) (.tmp 48) rfl w3.heap.size (ss.map bv) rfl rfl 171 _ K0 32 (by kernel_rfl) z32_length HSM.out (bytes_one _) ?_; intro w4 k4 g4)
  have b4 := B0.grown g4 B0.size fun g e => by injection e with e; have := b3.size; omega
  have B4 := B2.trans (b4.mono B2.size)
  have hb24 := hb22.below' b4
  have hls := hpart.below' b4
  have hq : BS w4 (fun b => b = w3.heap.size) (.slice (some ⟨w3.heap.size, 0, none⟩) 32 32) ss := k4.bs HSL.out (by simp [maxLen])
  have heq := fun (n : Nat) => (equal_any _ _ _ _ ss (bd.drop 2) (w4.drewN n) (hq.drewN n) (hb24.drewN n)).mono (R' := fun e w' => e = .returned (.bool (decide (ss = bd.drop 2))) ∧ w' = w4.drewN n) (fun e w' h => ⟨h.1, h.2.symm⟩)
  clear hof b3 K0 B0 k4 g4 b4 hb22 hpart hq hb24
  by_cases d4 : ss = bd.drop 2
  case neg =>
    have hr : R = [] := by rw [HR.out]; exact toldL_three H1.out H2.out (by rw [H3.out, HB.out, ← HSS.out]; exact d4)
    subst hr
    rw [decide_eq_false d4] at heq
    go_frame
    go_quiet (first | (go_at_call 125; exact Calls.quiet_of_same (heq _)) | fail)
    go_wp2_with fail
    go_ret
    exact ⟨_, rfl, hnil _ (Below_drawn B4 _), Below_drawn B4 _⟩
  rw [decide_eq_true d4] at heq
  have HR2 : Hid (R = restL k lg) := by
    show _ = _
    rw [HR.out, toldL_four H1.out H2.out (by rw [H3.out, HB.out, ← HSS.out]; exact fun h => h d4), H3.out, H4.out]
  clear d4 HR H1 H2 H3 H4 HB HK HSS
  go_frame
  go_quiet (first | (go_at_call 125; exact Calls.quiet_of_same (heq _)) | fail)
  have B5 := Below_drawn B4 nq
  have hls5 := hls.drewN nq
  clear heq B4 hls
  generalize w4.drewN nq = w5 at *
  have hLS0 : LS w (fun x => S x ∧ x < w.heap.size) (.slice (some ⟨b, o + 1, none⟩) (T1 - 1) (c - 1)) lg := by rw [HLGE.out]; exact (h.both).part 1 (T1 - 1) (by have := HFIT.out; have := HT.out; omega) (by omega)
  have HTL : Hid ((lg.take M).length = M) := by show _ = _; rw [List.length_take, HLG.out, HT.out]; omega
  have HR3 : Hid (R = match listL k 0 (lg.take M) with | none => [] | some ns => zipW ns (lg.drop M)) := by show _ = _; rw [HR2.out, HM.out]; rfl
  have hMc : (M : Int) ≤ (c : Int) - 1 := by have := HFIT.out; omega
  clear HR2 hls5 h256 HSM HSL
  go_wp2_with fail
  go_loopw [10, 58] (fun pv iv wr => ∃ (i : Nat) (qs : List Two2) (ns : List Nat), i ≤ M ∧ iv = .int .i64 i ∧ wr.ownsRow w.heap.size 132 2 pv qs.length (flatW qs) ∧ PT wr (fun x => S x ∧ x < w.heap.size) qs (zipW ns (lg.drop M)) ∧ Hid (ns.length = min (120 * i) k) ∧ Hid (listL k 0 (lg.take M) = (listL k i ((lg.take M).drop i)).map (ns ++ ·)) ∧ Below w.heap.size w wr) (fun _ iv _ => M - (intOf iv).toNat)
  case atStart => exact ⟨0, [], [], by omega, rfl, World.ownsRow_nil _ _ _ _, PT.nil _ _, by show _ = _; simp, by show _ = _; simp, B5⟩
  case round =>
    obtain ⟨i, qs, ns, hi, rfl, how, pt, HNL, HLL2, bl⟩ := hrel
    clear B5
    by_cases hlt : i < M
    · have hlsr := hLS0.keep bl.size fun b hb _ => bl.block b hb.2
      have OL : Hid (∀ x, u10.ownBlock = some x → x < wr.heap.size) := fun x e => own_lt how e
      obtain ⟨si, hsi⟩ : ∃ si, lg[i]? = some si := ⟨_, List.getElem?_eq_getElem (by have := HLG.out; have := HT.out; omega)⟩
      obtain ⟨b', o', ea, _, _, hx⟩ := hlsr.at_ (by have := HLG.out; have := HT.out; omega)
      injection ea with ea
      injection ea with ea eo
      subst ea eo
      obtain ⟨XS, zS, kS, hbs⟩ := hx i si hsi
      have hget := get_sect _ _ si wr hbs
      have HDR : Hid ((lg.take M).drop i = si :: (lg.take M).drop (i + 1)) := by
        show _ = _
        rw [List.drop_eq_getElem_cons (by rw [HTL.out]; exact hlt)]
        congr 1
        rw [List.getElem_take]
        exact (List.getElem?_eq_some_iff.1 hsi).2
      obtain ⟨G, hG⟩ : ∃ G, G = getS si := ⟨_, rfl⟩
      rw [← hG] at hget
      have HG := Lib.hid hG
      have d120 : 120 * i < k := by have := HMB.out; omega
      obtain ⟨q, hq⟩ : ∃ q : Nat, q = min 120 (k - 120 * i) := ⟨_, rfl⟩
      have hq2 : min (120 : Int) ((k : Int) - 120 * (i : Int)) = (q : Int) := by omega
      have HQ : Hid (q = min 120 (k - 120 * i)) := hq
      have hq3 : q ≤ 120 := by omega
      have HD120 := Lib.hid d120
      clear hG hx hbs hsi hq d120
      go_wp2_with fail
      refine hget.mono ?_
      rintro e w6 ⟨v6, rfl, how6, b6⟩
      obtain ⟨kd, bd, er⟩ := G
      dsimp only at how6 HG
      have hbd := own_BS how6
      obtain ⟨A6, c6, rfl, hc6, hc6m, hn6⟩ := hbd.form
      have how' := own_past b6 how
      have pt' := pt.keepS (S' := fun x => S x ∧ x < w.heap.size) b6.size (fun b hb _ => b6.block b (Nat.lt_of_lt_of_le hb.2 bl.size)) fun b hb => hb
      have BL := bl.trans (b6.mono bl.size)
      clear hget how6 kS how pt
      by_cases e1 : kd = 2
      case neg =>
        have hr : R = [] := by
          rw [HR3.out, HLL2.out, HDR.out, listL, ← HG.out, if_neg fun h => e1 h.1]
          rfl
        subst hr
        have D5 : decide (kd = 2) = false := decide_eq_false e1
        have D6 : (kd != 2) = true := by simp [e1]
        go_wp2_with fail
        go_ret
        exact ⟨_, rfl, hnil _ BL, BL⟩
      subst e1
      by_cases e2 : bd.length = 2 * q
      case neg =>
        have hr : R = [] := by
          rw [HR3.out, HLL2.out, HDR.out, listL, ← HG.out, if_neg fun h => e2 (by rw [HQ.out]; exact h.2)]
          rfl
        subst hr
        have D5 : ¬ (bd.length : Int) = 2 * (q : Int) := by omega
        have D6 : ((bd.length : Int) != 2 * (q : Int)) = true := by simp; omega
        clear e2
        go_wp2_with fail
        go_ret
        exact ⟨_, rfl, hnil _ BL, BL⟩
      have HLL3 : Hid (listL k 0 (lg.take M) = (listL k (i + 1) ((lg.take M).drop (i + 1))).map ((ns ++ pairsP bd) ++ ·)) := by
        show _ = _
        rw [HLL2.out, HDR.out, listL, ← HG.out, if_pos ⟨rfl, by rw [← HQ.out]; exact e2⟩, Option.map_map]
        congr 1
        funext x
        simp
      have D5 : ((2 * (q : Int)) != 2 * (q : Int)) = false := by simp
      have e3 : (bd.length : Int) = 2 * (q : Int) := by omega
      have HE3 := Lib.hid e2
      clear HLL2 HDR HG
      have hsep : ∀ x, wr.heap.size ≤ x → u10.ownBlock ≠ some x := fun x hx e => by have := OL.out x e; omega
      have hbr0 : BS w6 (Mine 0 u10 w6) (.slice A6 bd.length c6) bd := hbd.mono fun x hx => ⟨Nat.zero_le _, hx.2, hsep x hx.1⟩
      clear hbd hlsr b6 bl hsep OL
      go_wp2_with fail
      go_loopw [10, 14] (fun pv bv wr => ∃ (j : Nat) (r : List UInt8) (qs : List Two2) (ns' : List Nat), j ≤ q ∧ r.length = 2 * (q - j) ∧ BS wr (Mine 0 pv wr) bv r ∧ wr.ownsRow w.heap.size 132 2 pv qs.length (flatW qs) ∧ PT wr (fun x => S x ∧ x < w.heap.size) qs (zipW ns' (lg.drop M)) ∧ Hid (ns'.length = ns.length + j) ∧ Hid (ns ++ pairsP bd = ns' ++ pairsP r) ∧ Below w.heap.size w wr) (fun _ bv _ => lenOf bv)
      case atStart => exact ⟨0, bd, qs, ns, by omega, by omega, by rw [← HE3.out]; exact hbr0, how', pt', by show _ = _; omega, rfl, BL⟩
      case round =>
        obtain ⟨j, r, qs, ns', hj, hr, hbr, how, pt, HN2, HPR, bl⟩ := hrel
        clear hbr0 how' pt' BL D5 e3
        obtain ⟨A7, c7, rfl, hc7, hc7m, _⟩ := hbr.form
        by_cases hjq : j < q
        · obtain ⟨bb, ob, rfl, _⟩ := hbr.at_ (by omega)
          have hr2 : 2 ≤ r.length := by omega
          have hno := fun (W : World) (h : BS W (Mine 0 u10 wr) (.slice (some ⟨bb, ob, none⟩) r.length c7) r) => numberOf_any _ _ r hr2 W h
          have HPR2 : Hid (ns ++ pairsP bd = (ns' ++ [numP r]) ++ pairsP (r.drop 2)) := by
            show _ = _
            rw [HPR.out, pairs_two hr2, List.append_assoc]
            rfl
          have hql : qs.length = ns'.length := by
            rw [pt.1, zipW_len]
            rw [List.length_drop, HLG.out, HT.out]
            have := HN2.out
            have := HNL.out
            have := HQ.out
            have := HD120.out
            omega
          have hlt2 : ns'.length < k := by
            have := HN2.out
            have := HNL.out
            have := HQ.out
            have := HD120.out
            omega
          obtain ⟨lD, hlD⟩ : ∃ lD, lg[M + ns'.length]? = some lD := ⟨_, List.getElem?_eq_getElem (by have := HLG.out; have := HT.out; omega)⟩
          obtain ⟨y, hy⟩ : ∃ y : Nat, (M : Int) + (qs.length : Int) = (y : Int) := ⟨M + qs.length, by omega⟩
          have hyM : y = M + ns'.length := by omega
          have hy2 : (y : Int) < ((T1 - 1 : Nat) : Int) := by have := HT.out; omega
          have hy3 : (0 : Int) ≤ (y : Int) := by omega
          have hyw : IntKind.i64.wrap (y : Int) = (y : Int) := by rw [IntWalk.i64_in _ (by omega)]
          have hyn : (y : Int).toNat = y := Int.toNat_natCast y
          obtain ⟨b', o', ea, sb', hb', hx⟩ := hLS0.at_ (by have := HLG.out; have := HT.out; omega)
          injection ea with ea
          injection ea with ea eo
          subst ea eo
          obtain ⟨XD, zD, kD, hbD⟩ := hx _ lD hlD
          rw [← hyM] at kD
          have HK : Hid (∀ W, Below w.heap.size w W → W.cell? ⟨b, o + 1 + y, none⟩ = some (.slice XD lD.length zD)) := fun W hW => (World.cell?_of_block (w := w) (hW.block b hb)).trans kD
          have HZ : Hid (zipW (ns' ++ [numP r]) (lg.drop M) = zipW ns' (lg.drop M) ++ [(((numP r : Nat) : Int), lD)]) := zipW_snoc _ (by rw [List.getElem?_drop]; exact hlD)
          have HQL : Hid (qs.length + [(((numP r : Nat) : Int), Value.slice XD lD.length zD)].length ≤ 1000000000) := by show _ ≤ _; rw [hql]; simp; omega
          have hN3 : Hid ((ns' ++ [numP r]).length = ns.length + (j + 1)) := by show _ = _; rw [List.length_append, HN2.out]; rfl
          have hDrop : (r.drop 2).length = 2 * (q - (j + 1)) := by rw [List.length_drop]; omega
          have HDR := Lib.hid hDrop
          have HBD := Lib.hid hbD
          have hM2 : M ≤ 1024 := hM1
          have hqb : qs.length ≤ 1024 := by omega
          have D7 : decide ((0 : Int) < (r.length : Int)) = true := by simp; omega
          have D8 : (0 : Int) < (r.length : Int) := by omega
          have x0 : (2 : Int) ≤ (r.length : Int) := by omega
          have x1 : (r.length : Int) ≤ (c7 : Int) := by omega
          have HRL := Lib.hid hr
          obtain ⟨AP, cP, hAP⟩ := own_form how
          subst hAP
          clear hx hlD hb' sb' hyM hql hlt2 hDrop hbD kD HPR HN2 hr e2
          go_wp2_with fail
          refine wp_region_held_drew (S := (fun W => W.cell? ⟨b, o + 1 + y, none⟩ = some (.slice XD lD.length zD))) (by kernel_rfl) (HK.out _ (Below_drawn bl 1)) (fun hHeld => ?_)
          refine hyY (some 87) 0 rfl hHeld ?_; go_frame
          refine hyY (some 88) 1 rfl hHeld ?_; go_frame
          refine hyY (some 90) 3 rfl hHeld ?_; go_frame
          refine hyY (some 91) 4 rfl hHeld ?_; go_frame
          refine hyY (some 92) 5 rfl hHeld ?_; go_frame
          refine hyY (some 93) 6 rfl hHeld ?_; go_frame
          refine hyY (some 94) 7 rfl hHeld ?_; go_frame
          refine hyY (some 95) 8 rfl hHeld ?_; go_frame
          refine hyY (some 96) 9 rfl hHeld ?_; go_frame
          refine hyO (some 89) 2 rfl (fun K hK => ?_)
          go_simp
          go_at_call 162
          refine (hno _ (hbr.drewN 1)).mono ?_
          rintro e w7 ⟨rfl, b7⟩
          have BL7 : Below w.heap.size w w7 := (Below_drawn bl 1).trans (b7.mono bl.size)
          have hbr7 := (hbr.drewN 1).mine b7
          have how7 := own_past b7 how
          have pt7 := pt.keepS (S' := fun x => S x ∧ x < w.heap.size) b7.size (fun b hb _ => b7.block b (Nat.lt_of_lt_of_le hb.2 bl.size)) fun b hb => hb
          clear b7
          go_wp2_with fail
          refine hK.out _ _ ?_ (fun hH2 => ?_)
          · exact HK.out _ (by assumption)
          clear hHeld hK K; have hHeld := hH2; clear hH2; try go_frame
          refine hyY (some 97) 10 rfl hHeld ?_; go_frame
          refine hyO (some 98) 11 rfl (fun K hK => ?_)
          go_simp
          have B8 := (Below.refl w7.heap.size w7).alloc (Nat.le_refl _) (.cells #[.int .i64 (numP r : Nat), .slice XD lD.length zD] 132)
          have BL8 := BL7.trans (B8.mono BL7.size)
          have how8 := own_past B8 how7
          have hbr8 := hbr7.mine B8
          have hs8 := BL8.size
          have hat := onep_at w7 132 (numP r : Nat) (.slice XD lD.length zD)
          have pt8 := pt7.keepS (S' := fun x => S x ∧ x < w.heap.size) B8.size (fun b hb _ => B8.block b (Nat.lt_of_lt_of_le hb.2 BL7.size)) fun b hb => hb
          refine hK.out _ _ ?_ (fun hH2 => ?_)
          · exact HK.out _ (by assumption)
          clear hHeld hK K; have hHeld := hH2; clear hH2; try go_frame
          refine hyO (some 99) 12 rfl (fun K hK => ?_)
          refine wp_growP _ _ rfl w.heap.size (.slice AP qs.length cP) qs rfl how8 ⟨w7.heap.size, 0, none⟩ 1 1 [((numP r : Nat), .slice XD lD.length zD)] rfl rfl hat (by intro u hu; simp [flatW, two2] at hu; rcases hu with rfl | rfl <;> rfl) HQL.out hs8 ?_
          intro v9 w9 how9 g9 ho9
          have BL9 := BL8.grown g9 hs8 fun g e => own_ge how8 g e
          have hbr9 := hbr8.minegrow g9 ho9
          have pt9 := pt8.keepS (S' := fun x => S x ∧ x < w.heap.size) g9.size (fun b hb hlt => g9.block b hlt fun e => by have := own_ge how8 b e.symm; have := hb.2; omega) fun b hb => hb
          refine hK.out _ _ ?_ (fun hH2 => ?_)
          · exact HK.out _ (by assumption)
          clear hHeld hK K; have hHeld := hH2; clear hH2; try go_frame
          refine hyY (some 10) 13 rfl hHeld ?_; go_frame
          refine wpAnyH_done (by kernel_rfl) ?_ _
          have hbD9 := HBD.out.below BL9 fun b hb => hb.2
          have ptF := pt9.append (PT.one (a := ((numP r : Nat) : Int)) hbD9)
          rw [← HZ.out] at ptF
          have hbF := hbr9.drop 2 hr2
          clear hbr9 pt9 hbr8 hbr7 pt8 pt7 how7 how8 B8 hat hbr how pt hno hHeld HK HZ HBD hbD9 g9 ho9
          by_cases hc2 : c7 = 2
          · subst hc2
            rw [if_pos rfl, show r.length - 2 = 0 by omega] at hbF
            go_wp2_with fail
            go_roundw
            case rel => exact ⟨j + 1, r.drop 2, _, ns' ++ [numP r], by omega, HDR.out, hbF, how9, ptF, hN3, HPR2, BL9⟩
            case measure => simp [lenOf]; omega
          · rw [if_neg hc2] at hbF
            have x2 : ¬ (c7 : Int) = 2 := by omega
            go_wp2_with fail
            go_roundw
            case rel => exact ⟨j + 1, r.drop 2, _, ns' ++ [numP r], by omega, HDR.out, hbF, how9, ptF, hN3, HPR2, BL9⟩
            case measure => simp [lenOf]; omega
        · obtain rfl : j = q := by omega
          have hr0 : r = [] := List.eq_nil_of_length_eq_zero (by omega)
          subst hr0
          have hnn : ns ++ pairsP bd = ns' := by rw [HPR.out]; simp [pairsP]
          have HN4 : Hid (ns'.length = min (120 * (i + 1)) k) := by
            have := HN2.out
            have := HNL.out
            have := HQ.out
            have := HD120.out
            show _ = _
            omega
          rw [hnn] at HLL3
          clear hnn HPR HN2 HNL HQ HD120 hbr
          go_wp2_with fail
          go_roundw
          case rel => exact ⟨i + 1, qs, ns', by omega, by go_num, how, pt, HN4, HLL3, bl⟩
          case measure => simp [intOf]; omega
    · obtain rfl : i = M := by omega
      have hd : (lg.take i).drop i = [] := List.drop_of_length_le (by rw [HTL.out]; exact Nat.le_refl _)
      have hRR : R = zipW ns (lg.drop i) := by
        rw [HR3.out, HLL2.out, hd]
        simp [listL]
      rw [← hRR] at pt
      have hp := PS_of_own (S := fun x => (S x ∧ x < w.heap.size) ∨ (w.heap.size ≤ x ∧ x < wr.heap.size)) how (pt.mono fun x hx => .inl hx) fun x h1 h2 => .inr ⟨h1, h2⟩
      clear hd hRR HR3 HLL2 how pt hLS0
      go_wp2_with fail
      go_ret
      exact ⟨_, rfl, hp, bl⟩
end
end Go.Proofs.YteddmnoeljakpaaGreatDoor
