/-
  StY: Do, over the loaded program: its contract. No condition but what each theorem names.
-/
import Derived.Test.YteddmnoeljakpaaGreatDoorSw37
set_option linter.unusedVariables false
set_option maxRecDepth 100000
namespace Go.Proofs.YteddmnoeljakpaaGreatDoor
section
open Go.RowKit
section
variable {w : World} {a : SA} {c : CI} {fl : List Fe} {s : Dk} {br : Bool}
theorem sdo_nil (w : World) (v : Value) : Calls Tryz.prog 18 #[.pointer none, v] w fun e w' => e = .returned (.int .i64 9) ∧ w = w' := by
 have hm := stry_nil w v
 go_enter Tryz.func18, Tryz.ntmps18
 go_wp2_with fail
 refine hm.mono ?_
 rintro e w' ⟨rfl, rfl⟩
 go_wp2_with fail
 go_ret
 exact ⟨rfl, rfl⟩
theorem sdo_no (h : ST w a c (nodesF fl) s br) (S : Nat → Prop) (v : Value) (l : List Fi) (hv : FS w S v l) (hl : l.length ≤ 1000000) (hr : tryN c (nodesF fl) br l ≠ 0) :
  Calls Tryz.prog 18 #[.pointer (some ⟨a.sg, 0, none⟩), v] w (DoAs w a c fl s br l) := by
 have hd : doF c fl br l s = (s, tryN c (nodesF fl) br l, fl) := if_pos hr
 unfold DoAs
 rw [hd]
 have ht := stry_any h S v l hv hl
 have HH := Lib.hid h
 have HR := Lib.hid hr
 generalize tryN c (nodesF fl) br l = R at *
 have hdc : decide (R = 0) = false := decide_eq_false hr
 obtain ⟨A, cp, rfl, _⟩ := hv.form
 clear h hv hd
 go_enter Tryz.func18, Tryz.ntmps18
 go_wp2_with fail
 refine ht.mono ?_
 rintro e w1 ⟨rfl, b1⟩
 go_wp2_with fail
 go_ret
 exact ⟨rfl, ⟨br, HH.out.below b1, fun e => absurd e HR.out, fun _ => rfl⟩, KeepP.of_below b1 fun x hx => hx.1⟩
set_option maxHeartbeats 16000000 in
theorem sdo_go (h : ST w a c (nodesF fl) s br) (gf : Fine13 c.cn fl) (S : Nat → Prop) (v : Value) (l : List Fi) (hv : FS w S v l) (hS : ∀ b, S b → ¬ a.has b) (hl : l.length ≤ 1000000) (hr : tryN c (nodesF fl) br l = 0) :
  Calls Tryz.prog 18 #[.pointer (some ⟨a.sg, 0, none⟩), v] w (DoAs w a c fl s br l) := by
 obtain ⟨rfl, hcan, hcost⟩ := can_of_try gf hr
 have hpl := patsH_len hcan
 obtain ⟨HS, hHS⟩ : ∃ HS, HS = chsM (mapF fl) (tkF c.cn fl) (usF c.cn fl) l := ⟨_, rfl⟩
 have hd : doF c fl false l s = ((comA c.cn.log s.safe.length (patsH c.cn HS) s).1, (comA c.cn.log s.safe.length (patsH c.cn HS) s).2, if (comA c.cn.log s.safe.length (patsH c.cn HS) s).2 = 0 then nextF c.cn fl l else fl) := by
  rw [hHS]; exact if_neg (by simp [hr])
 obtain ⟨D, hD⟩ : ∃ D, D = DoAs w a c fl s false l := ⟨_, rfl⟩
 rw [← hD]
 have HD : Hid (∀ e w', (e = .returned (.int .i64 (comA c.cn.log s.safe.length (patsH c.cn HS) s).2) ∧ (∃ br', ST w' a c (nodesF (if (comA c.cn.log s.safe.length (patsH c.cn HS) s).2 = 0 then nextF c.cn fl l else fl)) (comA c.cn.log s.safe.length (patsH c.cn HS) s).1 br' ∧ ((comA c.cn.log s.safe.length (patsH c.cn HS) s).2 = 0 → br' = false)) ∧ KeepP (OffS a w) w w') → D e w') := by
  intro e w' hh
  rw [hD]
  unfold DoAs
  rw [hd]
  obtain ⟨h1, ⟨br', h2, h3⟩, h4⟩ := hh
  exact ⟨h1, ⟨br', h2, h3, fun e => absurd hr e⟩, h4⟩
 have ht := stry_any h S v l hv hl
 have hcg := fun W (b : Below w.heap.size w W) => changes_any (h.below b) S v l (hv.below' b) hS hl hcan.size (by rw [map_nodes, tk_nodes]; exact hcan.fresh)
 rw [map_nodes, tk_nodes, us_nodes, ← hHS] at hcg
 have HCH := Lib.hid (fun x (hx : x ∈ HS) => chs_fit gf hcan x (by rw [← hHS]; exact hx))
 have HAP := Lib.hid (fun n => app_next gf hcan n)
 have hnf := next_fine gf hcan
 have HRP : Hid (rightP c.cn.log s.safe.length (patsH c.cn HS) = 0) := by
  show _ = _
  have h1 := pats_takes h.may.ok gf hcan
  rw [← hHS] at h1
  rw [h.len_nat]
  unfold rightP
  rw [if_pos h1, if_neg (by rw [hHS, hpl]; omega)]
 rw [← hHS] at HAP hpl
 have HPL : Hid ((patsH c.cn HS).length ≤ 1000) := by
  show _ ≤ _
  have := room_le c.cn.log
  have := h.may.ok.log2
  omega
 have HLN : Hid (HS.length ≤ 1000) := by show _ ≤ _; have := patsH_many c.cn HS; have := HPL.out; omega
 have HCG := Lib.hid hcg
 have HH := Lib.hid h
 have HGF := Lib.hid gf
 have HNF := Lib.hid hnf
 rw [hr] at ht
 have HR := Lib.hid hr
 obtain ⟨A, cp, rfl, _⟩ := hv.form
 clear hD h hv hd hcg hpl hHS hcan hnf gf hcost hS
 go_enter Tryz.func18, Tryz.ntmps18
 go_wp2_with fail
 refine ht.mono ?_
 rintro e w1 ⟨rfl, b1⟩
 have hcg := HCG.out w1 b1
 clear ht HCG
 go_wp2_with fail
 refine hcg.mono ?_
 rintro e w2 ⟨g, qs, rfl, hg, kg, ht, b2⟩
 have B2 := b1.trans (b2.mono b1.size)
 have hsw1 : w.heap.size ≤ g := Nat.le_trans b1.size hg
 have hlt2 := kg.lt
 have hln63 : HS.length ≤ 9223372036854775807 := by have := HLN.out; omega
 have hql := ht.1
 clear hcg b1 b2
 go_wp2_with fail
 go_loopw [7, 24] (fun v iv wr => ∃ (k : Nat) (us : List Two2), k ≤ HS.length ∧ iv = .int .i64 (k : Int) ∧ wr.ownsRow w2.heap.size 132 2 v us.length (flatW us) ∧ PT wr (Mine w2.heap.size v wr) us (patsH c.cn (HS.take k)) ∧ Below w2.heap.size w2 wr) (fun _ iv _ => HS.length - (intOf iv).toNat)
 case atStart => exact ⟨0, [], by omega, rfl, World.ownsRow_nil _ _ _ _, PT.nil _ _, Below.refl _ _⟩
 case round =>
  obtain ⟨k, us, hk, rfl, how, pt, bl⟩ := hrel
  have BW := B2.trans (bl.mono B2.size)
  have hh := HH.out.below BW
  by_cases hlt : k < HS.length
  ·obtain ⟨H, hHk⟩ : ∃ H, HS[k]? = some H := ⟨_, List.getElem?_eq_getElem hlt⟩
   obtain ⟨q, hqk⟩ : ∃ q, qs[k]? = some q := ⟨_, List.getElem?_eq_getElem (by omega)⟩
   have hq8 := (ht.2 k q H hqk hHk).keep (w' := wr) (S' := fun b => b < wr.heap.size) bl.size (fun b _ hb => bl.block b hb) fun b hb => Nat.lt_of_lt_of_le hb.1 bl.size
   have hin := HCH.out H (List.mem_of_getElem? hHk)
   have kgr := kg.below bl kg.lt
   have hcell : ∀ j, j < 8 → wr.cell? ⟨g, k * 8 + j, none⟩ = (eight q)[j]? := fun j hj => by
    rw [kgr.cell, List.getElem?_toArray]
    exact flat8_at qs k q hqk j hj
   have HTK : Hid (patsH c.cn (HS.take (k + 1)) = patsH c.cn (HS.take k) ++ patH c.cn H) := by
    show _ = _
    rw [← patsH_snoc]
    congr 1
    obtain ⟨hk2, e⟩ := List.getElem?_eq_some_iff.1 hHk
    rw [List.take_succ_eq_append_getElem hk2, e]
   have ql := pt.1
   have HLEN : Hid (us.length + (patH c.cn H).length ≤ 1000000000) := by
    show _ ≤ _
    have h1 := patsH_take (c := c.cn) (hs := HS) (k := k + 1)
    rw [HTK.out, List.length_append, ← ql] at h1
    have := HPL.out
    omega
   obtain ⟨nm, bx, gone, place, nm2, sz, ax, lx⟩ := q
   have hq9 := hq8
   obtain ⟨k1, ⟨X, z, k2, _⟩, k3, k4, k5, k6, ⟨Y, y, k7, _⟩, ⟨Z, u, k8, _⟩⟩ := hq8
   simp only at k1 k2 k3 k4 k5 k6 k7 k8
   rw [k2, k7, k8] at hcell hq9
   have e0 : wr.cell? ⟨g, k * 8 + 0, none⟩ = some (.string nm) := hcell 0 (by omega)
   have e1 : wr.cell? ⟨g, k * 8 + 1, none⟩ = some (.slice X H.to.b.length z) := hcell 1 (by omega)
   have e2 : wr.cell? ⟨g, k * 8 + 2, none⟩ = some (.bool gone) := hcell 2 (by omega)
   have e3 : wr.cell? ⟨g, k * 8 + 3, none⟩ = some (.int .i64 place) := hcell 3 (by omega)
   have e4 : wr.cell? ⟨g, k * 8 + 4, none⟩ = some (.string nm2) := hcell 4 (by omega)
   have e5 : wr.cell? ⟨g, k * 8 + 5, none⟩ = some (.int .i64 sz) := hcell 5 (by omega)
   have e6 : wr.cell? ⟨g, k * 8 + 6, none⟩ = some (.slice Y H.at_.length y) := hcell 6 (by omega)
   have e7 : wr.cell? ⟨g, k * 8 + 7, none⟩ = some (.slice Z H.loses.length u) := hcell 7 (by omega)
   rw [Nat.add_zero] at e0
   have Kn := KB.new wr 95 #[.string nm, .slice X H.to.b.length z, .bool gone, .int .i64 place, .string nm2, .int .i64 sz, .slice Y H.at_.length y, .slice Z H.loses.length u]
   have Bn := (Below.refl wr.heap.size wr).alloc (Nat.le_refl _) (.cells #[.string nm, .slice X H.to.b.length z, .bool gone, .int .i64 place, .string nm2, .int .i64 sz, .slice Y H.at_.length y, .slice Z H.loses.length u] 95)
   have hpa := patches_any (hh.below Bn) _ H (hq9.keep (S' := fun b => b < (wr.alloc (.cells #[.string nm, .slice X H.to.b.length z, .bool gone, .int .i64 place, .string nm2, .int .i64 sz, .slice Y H.at_.length y, .slice Z H.loses.length u] 95)).heap.size) Bn.size (fun b _ hb => Bn.block b hb) fun b hb => Nat.lt_of_lt_of_le hb Bn.size) hin
   have f0 := Kn.cell 0
   have f1 := Kn.cell 1
   have f2 := Kn.cell 2
   have f3 := Kn.cell 3
   have f4 := Kn.cell 4
   have f5 := Kn.cell 5
   have f6 := Kn.cell 6
   have f7 := Kn.cell 7
   have how1 := own_past Bn how
   have pt1 := pt.mine Bn
   have BL1 := bl.trans (Bn.mono bl.size)
   have hltI : (k : Int) < (HS.length : Int) := by omega
   generalize H.to.b.length = n1 at *
   generalize H.at_.length = n2 at *
   generalize H.loses.length = n3 at *
   unfold eight at hpa
   have hpos := patH_pos c.cn H
   generalize patH c.cn H = PH at *
   clear how pt hq9 hcell ql hin hqk hHk kgr Kn Bn k1 k3 k4 k5 k6
   go_wp2_with fail
   refine hpa.mono ?_
   rintro e w3 ⟨v3, rfl, p3, b3⟩
   obtain ⟨pb, po, pc, us2, rfl, hu2, _, hrow, pt2⟩ := p3.rows hpos
   have how3 := own_past b3 how1
   have pt3 := pt1.mine b3
   have BL3 := BL1.trans (b3.mono BL1.size)
   have hone := pt2.cells1
   have hs3 := b3.size
   have hs2 := bl.size
   have hsn : wr.heap.size ≤ (wr.alloc (.cells #[.string nm, .slice X n1 z, .bool gone, .int .i64 place, .string nm2, .int .i64 sz, .slice Y n2 y, .slice Z n3 u] 95)).heap.size := by simp
   have pt4 := pt3.append (pt2.mono (S' := Mine w2.heap.size u7 w3) fun b hb => ⟨by have := hb.1; omega, hb.2, fun e => by have := own_lt how1 e; have := hb.1; omega⟩)
   rw [← HTK.out] at pt4
   have HL2 : Hid (us.length + us2.length ≤ 1000000000) := by show _ ≤ _; rw [hu2]; exact HLEN.out
   have HU3 := Lib.hid hu2.symm
   clear hu2
   clear how1 pt1 pt2 pt3 p3 hpa
   go_wp2_with (at_builtin; go_loud (refine wpList_growP _ rfl _ _ rfl w2.heap.size u7 us rfl how3 ⟨pb, po, none⟩ pc _ us2 rfl HU3.out hrow hone HL2.out BL3.size ?_); intro v7 w7 how7 g7 ho7)
   go_roundw
   case rel => exact ⟨k + 1, _, by omega, by go_num, how7, pt4.minegrow g7 ho7, BL3.grown g7 BL3.size fun g e => own_ge how3 g e⟩
   case measure => simp [intOf]; omega
  ·obtain rfl : k = HS.length := by omega
   rw [List.take_length] at pt
   have hp := PS_of_own (S := Off a.p wr) how (pt.mono fun x hx => ⟨hx.2.1, fun e => by have := HH.out.ds.lt x e; have := hx.1; have := B2.size; omega⟩) fun x h1 h2 => ⟨h2, fun e => by have := HH.out.ds.lt x e; have := B2.size; omega⟩
   have hlg : LG wr a.lg a.p c.cn.log false := hh.lg
   have hcm := commit_all u7 (patsH c.cn HS) hlg hh.sn.pl hh.ds hp (by rw [hh.len_nat]; show c.cn.log < _; unfold Cn.size; omega) hh.tab fun e => hh.sn.pt (.inl e)
   have c1 := hh.c1
   have hform := hp.form
   have HMA : ∀ x, ¬ a.has x → x < wr.heap.size → Off a.p wr x ∧ x ≠ a.lg := fun x hx hlt => ⟨⟨hlt, fun e => hx (.inl e)⟩, fun e => hx (.inr (.inr (.inl e)))⟩
   have HKW : Hid (∀ x, OffS a w x → Off a.p wr x ∧ x ≠ a.lg) := fun x hx => HMA x hx.2 (Nat.lt_of_lt_of_le hx.1 BW.size)
   obtain ⟨A7, cp7, rfl, _⟩ := hform
   have HCL : Hid ((comA c.cn.log s.safe.length (patsH c.cn HS) s).1.safe.length = s.safe.length) := comA_len
   generalize (comA c.cn.log s.safe.length (patsH c.cn HS) s).1 = s4 at *
   generalize (comA c.cn.log s.safe.length (patsH c.cn HS) s).2 = R at *
   generalize (patsH c.cn HS).length = pn at *
   clear how pt hp
   go_wp2_with fail
   refine hcm.mono ?_
   rintro e w4 ⟨rfl, d4, ⟨br4, l4, hbr4⟩, k4⟩
   have h4 := hh.commit d4 l4 k4 HCL.out
   clear hcm c1 d4 l4
   by_cases hz : R = 0
   ·subst hz
    have kg4 := (kg.below bl kg.lt).keepP k4 (HMA g (fun e => by have := HH.out.lt g e; have := B2.size; have := hg; omega) (by have := bl.size; omega))
    have ht4 : HT w4 (fun b => b < w2.heap.size ∧ b ≠ g ∧ ¬ a.has b) qs HS := (ht.keep (S' := fun b => b < w2.heap.size ∧ b ≠ g ∧ ¬ a.has b) bl.size (fun b _ hb => bl.block b hb) fun b hb => hb).keep k4.size (fun b hb hlt => k4.block b (HMA b hb.2.2 hlt)) fun b hb => hb
    have hs24 : w2.heap.size ≤ w4.heap.size := Nat.le_trans bl.size k4.size
    have H4 := Lib.hid h4
    have K4 := (KeepP.of_below BW fun x (hx : OffS a w x) => hx.1).trans (k4.mono fun x hx => HKW.out x hx)
    have hgw : ∀ x, a.has x → x < g := fun x hx => by have := HH.out.lt x hx; have := hsw1; omega
    have HGW := Lib.hid hgw
    clear HMA HKW k4 bl kg ht h4 hh B2 hgw
    obtain ⟨wc, hwc⟩ : ∃ wc, wc = wr := ⟨_, rfl⟩
    subst hwc
    go_wp2_with fail
    go_loopw [45] (fun iv wr => ∃ (k : Nat), k ≤ HS.length ∧ iv = .int .i64 (k : Int) ∧ MF wr a.m (OffS a wr) (appN (nodesF fl) (HS.take k)) ∧ KeepP (fun x => x < w4.heap.size ∧ x ≠ a.m) w4 wr) (fun iv _ => HS.length - (intOf iv).toNat)
    case atStart => exact ⟨0, by omega, rfl, H4.out.mf, KeepP.refl _ _⟩
    case round =>
     obtain ⟨k, hk, rfl, hmf, kp⟩ := hrel
     have hmlt := H4.out.mf.lt
     have hsgl : a.sg < w4.heap.size ∧ a.sg ≠ a.m := ⟨H4.out.kb.lt, H4.out.sn.sm⟩
     have hgl : g < w4.heap.size ∧ g ≠ a.m := ⟨kg4.lt, fun e => by have := HGW.out a.m (.inr (.inr (.inr rfl))); omega⟩
     by_cases hlt : k < HS.length
     ·obtain ⟨H, hHk⟩ : ∃ H, HS[k]? = some H := ⟨_, List.getElem?_eq_getElem hlt⟩
      obtain ⟨q, hqk⟩ : ∃ q, qs[k]? = some q := ⟨_, List.getElem?_eq_getElem (by omega)⟩
      have hq8 := (ht4.2 k q H hqk hHk).keep (w' := wr) (S' := fun b => b < w2.heap.size ∧ ¬ a.has b) kp.size (fun b hb hlt => kp.block b ⟨hlt, fun e => hb.2.2 (.inr (.inr (.inr e)))⟩) fun b hb => ⟨hb.1, hb.2.2⟩
      have hin := HCH.out H (List.mem_of_getElem? hHk)
      have kgr := kg4.keepP kp hgl
      have hcell : ∀ j, j < 8 → wr.cell? ⟨g, k * 8 + j, none⟩ = (eight q)[j]? := fun j hj => by
       rw [kgr.cell, List.getElem?_toArray]
       exact flat8_at qs k q hqk j hj
      have HTK : Hid (HS.take (k + 1) = HS.take k ++ [H]) := by
       show _ = _
       obtain ⟨hk2, e⟩ := List.getElem?_eq_some_iff.1 hHk
       rw [List.take_succ_eq_append_getElem hk2, e]
      obtain ⟨nm, bx, gone, place, nm2, sz, ax, lx⟩ := q
      obtain ⟨k1, ⟨X, z, k2, _⟩, k3, k4, k5, k6, ⟨Y, y, k7, hat⟩, ⟨Z, u, k8, _⟩⟩ := hq8
      simp only at k1 k2 k3 k4 k5 k6 k7 k8
      subst k1 k2 k3 k4 k5 k6 k7 k8
      have e0 : wr.cell? ⟨g, k * 8 + 0, none⟩ = some (.string ⟨H.to.name.toArray⟩) := hcell 0 (by omega)
      have e1 : wr.cell? ⟨g, k * 8 + 1, none⟩ = some (.slice X H.to.b.length z) := hcell 1 (by omega)
      have e2 : wr.cell? ⟨g, k * 8 + 2, none⟩ = some (.bool H.to.gone) := hcell 2 (by omega)
      have e3 : wr.cell? ⟨g, k * 8 + 3, none⟩ = some (.int .i64 (H.place : Int)) := hcell 3 (by omega)
      have e4 : wr.cell? ⟨g, k * 8 + 4, none⟩ = some (.string ⟨H.to.name.toArray⟩) := hcell 4 (by omega)
      have e5 : wr.cell? ⟨g, k * 8 + 5, none⟩ = some (.int .i64 (H.to.b.length : Int)) := hcell 5 (by omega)
      have e6 : wr.cell? ⟨g, k * 8 + 6, none⟩ = some (.slice Y H.at_.length y) := hcell 6 (by omega)
      have e7 : wr.cell? ⟨g, k * 8 + 7, none⟩ = some (.slice Z H.loses.length u) := hcell 7 (by omega)
      rw [Nat.add_zero] at e0
      have Kn := KB.new wr 95 #[.string ⟨H.to.name.toArray⟩, .slice X H.to.b.length z, .bool H.to.gone, .int .i64 (H.place : Int), .string ⟨H.to.name.toArray⟩, .int .i64 (H.to.b.length : Int), .slice Y H.at_.length y, .slice Z H.loses.length u]
      have Bn := (Below.refl wr.heap.size wr).alloc (Nat.le_refl _) (.cells #[.string ⟨H.to.name.toArray⟩, .slice X H.to.b.length z, .bool H.to.gone, .int .i64 (H.place : Int), .string ⟨H.to.name.toArray⟩, .int .i64 (H.to.b.length : Int), .slice Y H.at_.length y, .slice Z H.loses.length u] 95)
      have BnD : Below wr.heap.size wr (wr.alloc (.cells #[.string ⟨H.to.name.toArray⟩, .slice X H.to.b.length z, .bool H.to.gone, .int .i64 (H.place : Int), .string ⟨H.to.name.toArray⟩, .int .i64 (H.to.b.length : Int), .slice Y H.at_.length y, .slice Z H.loses.length u] 95)).drew := Below_drawn Bn 1
      obtain ⟨W1, hW1⟩ : ∃ W1, W1 = wr.alloc (.cells #[.string ⟨H.to.name.toArray⟩, .slice X H.to.b.length z, .bool H.to.gone, .int .i64 (H.place : Int), .string ⟨H.to.name.toArray⟩, .int .i64 (H.to.b.length : Int), .slice Y H.at_.length y, .slice Z H.loses.length u] 95) := ⟨_, rfl⟩
      have hmfW : MF W1.drew a.m (OffS a W1.drew) (appN (nodesF fl) (HS.take k)) := by
       rw [hW1]
       exact hmf.keep BnD.size (BnD.block _ hmf.lt) (fun b _ hb => BnD.block b hb) fun b hb => ⟨Nat.lt_of_lt_of_le hb.1 BnD.size, hb.2⟩
      have hno : ¬ OffS a W1.drew a.m := fun e => e.2 (.inr (.inr (.inr rfl)))
      have hltI : (k : Int) < (HS.length : Int) := by omega
      have f0 := Kn.cell 0
      have f2 := Kn.cell 2
      have f3 := Kn.cell 3
      have f4 := Kn.cell 4
      have f5 := Kn.cell 5
      have f6 := Kn.cell 6
      have KW : KeepP (fun x => x < w4.heap.size ∧ x ≠ a.m) w4 W1.drew := by rw [hW1]; exact kp.trans ((KeepP.of_below BnD fun x hx => hx).mono fun x hx => Nat.lt_of_lt_of_le hx.1 kp.size)
      have hatW : IS W1.drew (OffS a W1.drew) (.slice Y H.at_.length y) H.at_ := by
       rw [hW1]
       exact (hat.below' BnD).mono fun b hb => ⟨by have := hb.1; have := BnD.size; have := kp.size; omega, hb.2⟩
      have c6 : W1.drew.cell? ⟨a.sg, 6, none⟩ = some (.map (some a.m)) := (World.cell?_of_block (KW.block _ hsgl)).trans H4.out.c6
      have hnew : W1.drew.cell? ⟨wr.heap.size, 0, none⟩ = some (.string ⟨H.to.name.toArray⟩) ∧ W1.drew.cell? ⟨wr.heap.size, 3, none⟩ = some (.int .i64 (H.place : Int)) ∧ W1.drew.cell? ⟨wr.heap.size, 4, none⟩ = some (.string ⟨H.to.name.toArray⟩) ∧ W1.drew.cell? ⟨wr.heap.size, 5, none⟩ = some (.int .i64 (H.to.b.length : Int)) ∧ W1.drew.cell? ⟨wr.heap.size, 6, none⟩ = some (.slice Y H.at_.length y) := by rw [hW1]; exact ⟨f0, f3, f4, f5, f6⟩
      have HIN := Lib.hid hin
      have HMF := Lib.hid hmfW
      have HAT := Lib.hid hatW
      clear hin hcell kgr hHk hqk hmf hat Bn BnD Kn hmfW hatW
      obtain ⟨gn, hgn⟩ : ∃ gn, gn = H.to.gone := ⟨_, rfl⟩
      rw [← hgn] at e2 f2 hW1
      rw [← hgn] at f0 f3 f4 f5 f6
      have HGN := Lib.hid hgn
      have HW1 := Lib.hid hW1
      clear hgn hW1
      cases gn with
      | true =>
       obtain ⟨w6, hdel, hm6, g6⟩ := HMF.out.del (n := H.to.name) HIN.out.name hno 0
       unfold strV at hdel
       have HM6 := Lib.hid hm6
       have HG6 := Lib.hid g6
       have hwn : wr.heap.size < W1.drew.heap.size := by rw [HW1.out]; show _ < (wr.alloc _).heap.size; simp
       have hS6 : ∀ i v, W1.drew.cell? ⟨wr.heap.size, i, none⟩ = some v → w6.cell? ⟨wr.heap.size, i, none⟩ = some v := fun i v hv => (World.cell?_of_block (g6.block wr.heap.size hwn fun e => by injection e with e; have := kp.size; omega)).trans hv
       have c66 : w6.cell? ⟨a.sg, 6, none⟩ = some (.map (some a.m)) := (World.cell?_of_block (g6.block a.sg (by have := KW.size; omega) fun e => by injection e with e; exact hsgl.2 e)).trans c6
       have HS6 := Lib.hid hS6
       have HC66 := Lib.hid c66
       have HKW := Lib.hid KW
       clear hm6 g6 KW hS6 c66
       go_wp2_with fail
       rename_i KK hKK
       have HKK := Lib.hid hKK
       clear hKK
       generalize wr.alloc (.cells #[.string ⟨H.to.name.toArray⟩, .slice X H.to.b.length z, .bool true, .int .i64 (H.place : Int), .string ⟨H.to.name.toArray⟩, .int .i64 (H.to.b.length : Int), .slice Y H.at_.length y, .slice Z H.loses.length u] 95) = W2 at *
       obtain rfl : W1 = W2 := HW1.out
       clear HW1
       refine wp_region_held_drew (S := (fun W => W.cell? ⟨a.sg, 6, none⟩ = some (.map (some a.m)) ∧ W.cell? ⟨wr.heap.size, 0, none⟩ = some (.string ⟨H.to.name.toArray⟩))) (by kernel_rfl) ⟨c6, hnew.1⟩ (fun hHeld => ?_)
       refine hyY (some 52) 0 rfl hHeld ?_; go_frame
       refine hyY (some 53) 1 rfl hHeld ?_; go_frame
       refine hyY (some 54) 2 rfl hHeld ?_; go_frame
       refine hyY (some 55) 3 rfl hHeld ?_; go_frame
       refine hyY (some 56) 4 rfl hHeld ?_; go_frame
       refine hyY (some 57) 5 rfl hHeld ?_; go_frame
       refine hyY (some 58) 6 rfl hHeld ?_; go_frame
       refine hyO none 7 rfl (fun K hK => ?_)
       go_simp
       refine hK.out _ _ ?_ (fun hH2 => ?_)
       ·exact ⟨HC66.out, HS6.out _ _ hnew.1⟩
       clear hHeld hK K; have hHeld := hH2; clear hH2; try go_frame
       refine wpAnyH_done (by kernel_rfl) ?_ _
       have hKK := HKK.out
       go_wp2_with fail
       go_roundw
       case rel =>
        refine ⟨k + 1, by omega, by go_num, ?_, HKW.out.grown HG6.out (fun g e hx => by injection e with e; exact hx.2 e.symm) fun x hx => hx.1⟩
        rw [HTK.out, app_snoc, if_pos HGN.out.symm]
        exact HM6.out.keep (Nat.le_refl _) rfl (fun _ _ _ => rfl) fun b hb => ⟨Nat.lt_of_lt_of_le hb.1 HG6.out.size, hb.2⟩
       case measure => simp [intOf]; omega
      | false =>
       have hv : NV W1.drew (OffS a W1.drew) (.agg #[.int .i64 (H.place : Int), .string ⟨H.to.name.toArray⟩, .int .i64 (H.to.b.length : Int), .slice Y H.at_.length y]) (H.place, H.fe.ino) := ⟨_, rfl, HAT.out, ⟨by show _ ≤ (H.to.b.length : Int); omega, by show (H.to.b.length : Int) ≤ _; have := HIN.out.size; omega⟩, HIN.out.name, by have := HIN.out.place; have := H4.out.may.ok.files2; show H.place ≤ _; omega⟩
       obtain ⟨w6, hput, hm6, g6⟩ := HMF.out.put (by have := app_le (nodesF fl) (HS.take k); rw [List.length_take] at this; have := H4.out.few; have := H4.out.may.ok.files2; have := HLN.out; unfold maxLen; omega) hv hno hno fun _ h => h
       unfold strV at hput
       have HM6 := Lib.hid hm6
       have HG6 := Lib.hid g6
       have hwn : wr.heap.size < W1.drew.heap.size := by rw [HW1.out]; show _ < (wr.alloc _).heap.size; simp
       have hS6 : ∀ i v, W1.drew.cell? ⟨wr.heap.size, i, none⟩ = some v → w6.cell? ⟨wr.heap.size, i, none⟩ = some v := fun i v hv => (World.cell?_of_block (g6.block wr.heap.size hwn fun e => by injection e with e; have := kp.size; omega)).trans hv
       have c66 : w6.cell? ⟨a.sg, 6, none⟩ = some (.map (some a.m)) := (World.cell?_of_block (g6.block a.sg (by have := KW.size; omega) fun e => by injection e with e; exact hsgl.2 e)).trans c6
       have HS6 := Lib.hid hS6
       have HC66 := Lib.hid c66
       have HKW := Lib.hid KW
       clear hm6 g6 KW hv hS6 c66
       have hput2 : (Instr.mapUpdate 80 (.map (some a.m)) (.string ⟨H.to.name.toArray⟩) (.agg #[.int .i64 (H.place : Int), .string ⟨H.to.name.toArray⟩, .int .i64 (H.to.b.length : Int), .slice Y H.at_.length y])).run Tryz.prog W1.drew = .ok () w6 := hput
       clear hput
       go_wp2_with fail
       rename_i KK hKK
       have HKK := Lib.hid hKK
       clear hKK
       generalize wr.alloc (.cells #[.string ⟨H.to.name.toArray⟩, .slice X H.to.b.length z, .bool false, .int .i64 (H.place : Int), .string ⟨H.to.name.toArray⟩, .int .i64 (H.to.b.length : Int), .slice Y H.at_.length y, .slice Z H.loses.length u] 95) = W2 at *
       obtain rfl : W1 = W2 := HW1.out
       clear HW1
       refine wp_region_held_drew (S := (fun W => W.cell? ⟨a.sg, 6, none⟩ = some (.map (some a.m)) ∧ W.cell? ⟨wr.heap.size, 0, none⟩ = some (.string ⟨H.to.name.toArray⟩) ∧ W.cell? ⟨wr.heap.size, 3, none⟩ = some (.int .i64 (H.place : Int)) ∧ W.cell? ⟨wr.heap.size, 4, none⟩ = some (.string ⟨H.to.name.toArray⟩) ∧ W.cell? ⟨wr.heap.size, 5, none⟩ = some (.int .i64 (H.to.b.length : Int)) ∧ W.cell? ⟨wr.heap.size, 6, none⟩ = some (.slice Y H.at_.length y))) (by kernel_rfl) ⟨c6, hnew⟩ (fun hHeld => ?_)
       refine hyY (some 59) 0 rfl hHeld ?_; go_frame
       refine hyY (some 60) 1 rfl hHeld ?_; go_frame
       refine hyY (some 61) 2 rfl hHeld ?_; go_frame
       refine hyY (some 62) 3 rfl hHeld ?_; go_frame
       refine hyY (some 63) 4 rfl hHeld ?_; go_frame
       refine hyY (some 64) 5 rfl hHeld ?_; go_frame
       refine hyY (some 65) 6 rfl hHeld ?_; go_frame
       refine hyY (some 66) 7 rfl hHeld ?_; go_frame
       refine hyY (some 67) 8 rfl hHeld ?_; go_frame
       refine hyO none 9 rfl (fun K hK => ?_)
       go_simp
       refine hK.out _ _ ?_ (fun hH2 => ?_)
       ·exact ⟨HC66.out, HS6.out _ _ hnew.1, HS6.out _ _ hnew.2.1, HS6.out _ _ hnew.2.2.1, HS6.out _ _ hnew.2.2.2.1, HS6.out _ _ hnew.2.2.2.2⟩
       clear hHeld hK K; have hHeld := hH2; clear hH2; try go_frame
       refine wpAnyH_done (by kernel_rfl) ?_ _
       have hKK := HKK.out
       go_wp2_with fail
       go_roundw
       case rel =>
        refine ⟨k + 1, by omega, by go_num, ?_, HKW.out.grown HG6.out (fun g e hx => by injection e with e; exact hx.2 e.symm) fun x hx => hx.1⟩
        rw [HTK.out, app_snoc, if_neg (by rw [← HGN.out]; simp)]
        exact HM6.out.keep (Nat.le_refl _) rfl (fun _ _ _ => rfl) fun b hb => ⟨Nat.lt_of_lt_of_le hb.1 HG6.out.size, hb.2⟩
       case measure => simp [intOf]; omega
     ·obtain rfl : k = HS.length := by omega
      rw [List.take_length] at hmf
      have hfin := H4.out.remap kp (hmf.like (by rw [nodes_names]; exact HNF.out.names) HAP.out) (fit_nodes H4.out.may HNF.out) (few_nodes HNF.out)
      go_wp2_with fail
      have hs4 := K4.size
      exact HD.out _ _ ⟨rfl, ⟨br4, by rw [if_pos trivial]; exact hfin, fun _ => hbr4 HRP.out.symm⟩, K4.trans (kp.mono fun x hx => ⟨by have := hx.1; omega, fun e => hx.2 (.inr (.inr (.inr e)))⟩)⟩
   ·have hdz : decide (R = 0) = false := decide_eq_false hz
    have HZ := Lib.hid hz
    go_wp2_with fail
    refine HD.out _ _ ⟨rfl, ⟨br4, ?_, fun e => absurd e HZ.out⟩, (KeepP.of_below BW fun x hx => hx.1).trans (k4.mono fun x hx => HKW.out x hx)⟩
    rw [if_neg HZ.out]
    exact h4
theorem sdo_any (h : ST w a c (nodesF fl) s br) (gf : Fine13 c.cn fl) (S : Nat → Prop) (v : Value) (l : List Fi) (hv : FS w S v l) (hS : ∀ b, S b → ¬ a.has b) (hl : l.length ≤ 1000000) :
  Calls Tryz.prog 18 #[.pointer (some ⟨a.sg, 0, none⟩), v] w (DoAs w a c fl s br l) := by
 by_cases hr : tryN c (nodesF fl) br l = 0
 ·exact sdo_go h gf S v l hv hS hl hr
 ·exact sdo_no h S v l hv hl hr
end
end
end Go.Proofs.YteddmnoeljakpaaGreatDoor
