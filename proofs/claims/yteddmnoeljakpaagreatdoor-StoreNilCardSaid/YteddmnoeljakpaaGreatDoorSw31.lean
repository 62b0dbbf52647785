/-
  StT: What becomes of each of a list, over the loaded program: changes: its contract. No condition but what each theorem names.
-/
import Derived.Test.YteddmnoeljakpaaGreatDoorSw30
import Derived.Test.YteddmnoeljakpaaGreatDoorSw12
set_option linter.unusedVariables false
set_option maxRecDepth 100000
namespace Go.Proofs.YteddmnoeljakpaaGreatDoor
section
open Go.RowKit
section
variable {w : World} {a : SA} {c : CI} {nl : List Nd} {s : Dk} {br : Bool}
def tkZ (c : CI) (nl : List Nd) : List Bool := (List.range c.cn.files).map (tkN nl)
def usZ (c : CI) (nl : List Nd) : List Bool := (List.range c.cn.data).map (usN nl)
theorem tkZ_len (c : CI) (nl : List Nd) : (tkZ c nl).length = c.cn.files := by simp [tkZ]
theorem usZ_len (c : CI) (nl : List Nd) : (usZ c nl).length = c.cn.data := by simp [usZ]
def ChgAs (a : SA) (w : World) (hs : List Ch) (e : Ending) (w' : World) : Prop :=
 ∃ g qs, e = .returned (.slice (some ⟨g, 0, none⟩) hs.length hs.length) ∧ w.heap.size ≤ g ∧ KB w' g 95 (flat8 qs).toArray ∧ HT w' (fun b => b < w'.heap.size ∧ b ≠ g ∧ ¬ a.has b) qs hs ∧ Below w.heap.size w w'
theorem ST.lt (h : ST w a c nl s br) : ∀ b, a.has b → b < w.heap.size := by
 rintro b (hb | rfl | rfl | rfl)
 ·exact h.ds.lt b hb
 ·exact h.kb.lt
 ·exact KB.lt h.lg
 ·exact h.mf.lt
set_option maxHeartbeats 16000000 in
theorem changes_any (h : ST w a c nl s br) (S : Nat → Prop) (v : Value) (l : List Fi) (hv : FS w S v l) (hS : ∀ b, S b → ¬ a.has b) (hl : l.length ≤ 1000000) (hb : ∀ f ∈ l, f.b.length ≤ 24576) (hfr : freshC (mapN nl) l ≤ freeC (tkZ c nl)) :
  Calls Tryz.prog 51 #[.pointer (some ⟨a.sg, 0, none⟩), v] w (ChgAs a w (chsM (mapN nl) (tkZ c nl) (usZ c nl) l)) := by
 obtain ⟨A, cp, rfl, hlc, hcm⟩ := hv.form
 have hlen : (chsM (mapN nl) (tkZ c nl) (usZ c nl) l).length = l.length := by
  have := congrArg List.length (chsM_to (mapN nl) l (tkZ c nl) (usZ c nl))
  rwa [List.length_map] at this
 have hfew := h.had_few
 have hmf := h.mf
 have hok := h.may.ok
 have hC : ∀ W, Below w.heap.size w W → W.cell? ⟨a.sg, 6, none⟩ = some (.map (some a.m)) := fun W b => (h.below b).c6
 have htk := taken_any h
 have HSA := Lib.hid hS
 have HLA : Hid (∀ b, a.has b → b < w.heap.size) := h.lt
 have hus := fun (W : World) (b : Below w.heap.size w W) => used_any (h.below b)
 have HUS := Lib.hid hus
 obtain ⟨HSR, hHSR⟩ : ∃ HSR, HSR = chsM (mapN nl) (tkZ c nl) (usZ c nl) l := ⟨_, rfl⟩
 rw [← hHSR] at hlen ⊢
 have HR := Lib.hid hHSR
 have HLEN := Lib.hid hlen
 have HB := Lib.hid hb
 have HM0 := Lib.hid (mid_start (m := mapN nl) (us := usZ c nl) hfr)
 have HF64 := Lib.hid hok.files2
 have HD800 := Lib.hid hok.data2
 have HTL := Lib.hid (tkZ_len c nl)
 have HUL := Lib.hid (usZ_len c nl)
 have hl63 : l.length ≤ 9223372036854775807 := by omega
 clear hS h hb hfr hHSR hlen hus hok
 have HL := Lib.hid hl
 go_enter Tryz.func51, Tryz.ntmps51
 go_wp2_with fail
 refine htk.mono ?_
 rintro e w1 ⟨rfl, k1, b1⟩
 have hus1 := HUS.out w1 b1
 clear htk HUS
 go_wp2_with fail
 refine hus1.mono ?_
 rintro e w2 ⟨rfl, k2, b2⟩
 have B2 := b1.trans (b2.mono b1.size)
 have k1' : KB w2 w.heap.size 4 (boolsA (tkZ c nl)) := k1.below b2 k1.lt
 have k2' : KB w2 w1.heap.size 4 (boolsA (usZ c nl)) := k2
 have n12 : w.heap.size < w1.heap.size := k1.lt
 have n2 : w1.heap.size < w2.heap.size := k2.lt
 obtain ⟨C, hCm, hmk⟩ := make_changes w2 l.length HL.out
 have K3 : KB (w2.alloc (.cells C 95)) w2.heap.size 95 (flat8 ([] ++ List.replicate (l.length - 0) z8)).toArray := by rw [hCm]; exact KB.new _ _ _
 have k13 := k1'.alloc (.cells C 95)
 have k23 := k2'.alloc (.cells C 95)
 have B3 := B2.alloc B2.size (.cells C 95)
 clear hus1 k1 k2 k1' k2' b1 b2 hCm
 go_wp2_with fail
 generalize w2.alloc (.cells C 95) = w3 at *
 clear hmk
 have ng : w1.heap.size < w2.heap.size := n2
 generalize w1.heap.size = usb at *
 have g3 : w2.heap.size < w3.heap.size := K3.lt
 generalize w2.heap.size = g at *
 go_loopw [26] (fun xv wr => ∃ (k : Nat) (dn : List Ch) (tk us : List Bool) (qs : List H8), k ≤ l.length ∧ xv = .int .i64 k ∧ Hid (MidC (mapN nl) (tkZ c nl) (usZ c nl) l k dn tk us) ∧ KB wr w.heap.size 4 (boolsA tk) ∧ KB wr usb 4 (boolsA us) ∧ qs.length = k ∧
  KB wr g 95 (flat8 (qs ++ List.replicate (l.length - k) z8)).toArray ∧ HT wr (fun b => b < wr.heap.size ∧ b ≠ w.heap.size ∧ b ≠ usb ∧ b ≠ g ∧ ¬ a.has b) qs dn ∧ Below w.heap.size w wr) (fun xv _ => l.length - (intOf xv).toNat)
 case atStart => exact ⟨0, [], _, _, [], by omega, rfl, HM0, k13, k23, rfl, K3, HT.nil _ _, B3⟩
 case round =>
  obtain ⟨k, dn, tk, us, qs, hk, rfl, hmid, kt, ku, hql, kg, ht, bl⟩ := hrel
  clear K3 k13 k23 B3 HM0
  by_cases hlt : k < l.length
  ·obtain ⟨b, o, rfl, sb, hbl, hx⟩ := hv.at_ (by omega)
   obtain ⟨f, hf⟩ : ∃ f, l[k]? = some f := ⟨_, List.getElem?_eq_getElem hlt⟩
   obtain ⟨j0, hnm, ⟨X, z, j1, hbs⟩, j2⟩ := hx k f hf
   have hkb := bl.block b hbl
   have k0 := (World.cell?_of_block (w := w) hkb).trans j0
   have k1 := (World.cell?_of_block (w := w) hkb).trans j1
   have k2 := (World.cell?_of_block (w := w) hkb).trans j2
   obtain ⟨qn, zz, A2, cp2, his, hlk⟩ := hmf.file hnm
   have hf24 := HB.out f (List.mem_of_getElem? hf)
   obtain ⟨hmid2, hfree⟩ := mid_step hmid.out hf
   have HMID2 := Lib.hid hmid2
   have htl : tk.length = c.cn.files := by rw [hmid.out.2.2.1, HTL.out]
   have hul : us.length = c.cn.data := by rw [hmid.out.2.2.2.1, HUL.out]
   have hhd := hfew f.name
   have hpg := fun W => pages_any (f.b.length : Int) ⟨by omega, by omega⟩ W
   rw [pages_nat] at hpg
   have hpp : pagesN f.b.length ≤ 96 := by unfold pagesN; omega
   have hltI : (k : Int) < (l.length : Int) := by omega
   have hms : (mapN nl f.name = none ∧ (lookN nl f.name).isSome = false) ∨ (∃ x, mapN nl f.name = some x ∧ x.1 = placeN nl f.name ∧ (lookN nl f.name).isSome = true) := by
    unfold mapN placeN
    cases hln : lookN nl f.name with
    | none => exact .inl ⟨rfl, rfl⟩
    | some q => exact .inr ⟨_, rfl, rfl, rfl⟩
   obtain ⟨H, hH⟩ : ∃ H, H = chM (mapN nl) tk us f := ⟨_, rfl⟩
   rw [← hH] at HMID2
   have HH := Lib.hid hH
   have HHAD := Lib.hid (had_map nl f.name)
   generalize hth : (lookN nl f.name).isSome = th at *
   have HF := Lib.hid hf
   obtain ⟨hadL, hhadL⟩ : ∃ L, L = hadN nl f.name := ⟨_, rfl⟩
   rw [← hhadL] at his hlk hhd HHAD
   generalize hhdl : hadL.length = hd at *
   generalize hpl : placeN nl f.name = pl at *
   obtain ⟨pg, hpgn⟩ : ∃ n, n = pagesN f.b.length := ⟨_, rfl⟩
   rw [← hpgn] at hpg hpp
   obtain ⟨fb, hfb⟩ : ∃ n, n = f.b.length := ⟨_, rfl⟩
   rw [← hfb] at hf24 hpg hbs k1
   have HFB := Lib.hid hfb
   have HPG := Lib.hid hpgn
   have HHL := Lib.hid hhdl
   have HHN := Lib.hid hhadL
   clear hfb hpgn hhdl hhadL
   obtain ⟨fg, hfg⟩ : ∃ n, n = f.gone := ⟨_, rfl⟩
   rw [← hfg] at k2
   have HFG := Lib.hid hfg
   unfold strV at hlk k0
   obtain ⟨fn, hfn⟩ : ∃ n : ByteArray, n = ⟨f.name.toArray⟩ := ⟨_, rfl⟩
   rw [← hfn] at hlk k0
   have HFN := Lib.hid hfn
   have HMS := Lib.hid hms
   clear hx hf hnm j0 j1 j2 hkb hfg hfn hH hms hmid2 hmid hth
   have K1 := KB.new wr 71 #[.string fn, .slice X fb z, .bool fg]
   have B1 := bl.alloc bl.size (.cells #[.string fn, .slice X fb z, .bool fg] 71)
   have kt1 := kt.alloc (.cells #[.string fn, .slice X fb z, .bool fg] 71)
   have ku1 := ku.alloc (.cells #[.string fn, .slice X fb z, .bool fg] 71)
   have kg1 := kg.alloc (.cells #[.string fn, .slice X fb z, .bool fg] 71)
   have ht1 := ht.keep (w' := wr.alloc (.cells #[.string fn, .slice X fb z, .bool fg] 71)) (S' := fun b => b < wr.heap.size ∧ b ≠ w.heap.size ∧ b ≠ usb ∧ b ≠ g ∧ ¬ a.has b) (by simp) (fun b hb _ => Below.heap_alloc wr _ b hb.1) (fun b hb => hb)
   have hszr := bl.size
   have ltt := kt.lt
   have ltu := ku.lt
   have ltg := kg.lt
   clear kt ku kg ht
   go_wp2_with fail
   rename_i KK hKK
   have HKK := Lib.hid hKK
   clear hKK
   have HC : Hid (∀ W, KB W wr.heap.size 71 #[.string fn, .slice X fb z, .bool fg] → Below w.heap.size w W → W.cell? ⟨a.sg, 6, none⟩ = some (.map (some a.m)) ∧ W.cell? ⟨wr.heap.size, 0, none⟩ = some (.string fn) ∧ (Instr.lookup 80 (.map (some a.m)) (.string fn) true).run Tryz.prog W = .ok (.tuple #[.agg #[.int .i64 (pl : Int), .string qn, .int .i64 zz, .slice A2 hd cp2], .bool th]) W) :=
    fun W k b => ⟨hC W b, k.cell 0, (hlk W b).1⟩
   clear hlk
   generalize hwq : wr.alloc (.cells #[.string fn, .slice X fb z, .bool fg] 71) = wq at *
   have hsz1 := B1.size
   have hw1 := K1.lt
   have K2 : ∀ o, KB (wq.alloc o).drew wr.heap.size 71 #[.string fn, .slice X fb z, .bool fg] := fun o => (K1.alloc o).drewN 1
   have B2 : ∀ o, Below w.heap.size w (wq.alloc o).drew := fun o => Below_drawn (B1.alloc hsz1 o) 1
   have K1d := K1.drewN 1
   have B1d := Below_drawn B1 1
   refine wp_region_held_drew (S := (fun W => W.cell? ⟨a.sg, 6, none⟩ = some (.map (some a.m)) ∧ W.cell? ⟨wr.heap.size, 0, none⟩ = some (.string fn) ∧ (Instr.lookup 80 (.map (some a.m)) (.string fn) true).run Tryz.prog W = .ok (.tuple #[.agg #[.int .i64 (pl : Int), .string qn, .int .i64 zz, .slice A2 hd cp2], .bool th]) W)) (by kernel_rfl) (HC.out _ K1d B1d) (fun hHeld => ?_)
   refine hyY (some 32) 0 rfl hHeld ?_; go_frame
   refine hyY (some 33) 1 rfl hHeld ?_; go_frame
   refine hyY (some 34) 2 rfl hHeld ?_; go_frame
   refine hyY (some 35) 3 rfl hHeld ?_; go_frame
   refine hyY (some 36) 4 rfl hHeld ?_; go_frame
   refine hyY (some 37) 5 rfl hHeld ?_; go_frame
   refine hyY (some 38) 6 rfl hHeld ?_; go_frame
   refine hyY (some 31) 7 rfl hHeld ?_; go_frame
   refine hyY (some 39) 8 rfl hHeld ?_; go_frame
   refine hyY (some 40) 9 rfl hHeld ?_; go_frame
   refine hyO (some 10) 10 rfl (fun K hK => ?_)
   go_simp
   refine hK.out _ _ ?_ (fun hH2 => ?_)
   ·first | exact HC.out _ K1d B1d | exact HC.out _ (K2 _) (B2 _)
   clear hHeld hK K; have hHeld := hH2; clear hH2; try go_frame
   refine hyO none 11 rfl (fun K hK => ?_)
   go_simp
   refine hK.out _ _ ?_ (fun hH2 => ?_)
   ·first | exact HC.out _ K1d B1d | exact HC.out _ (K2 _) (B2 _)
   clear hHeld hK K; have hHeld := hH2; clear hH2; try go_frame
   refine hyY (some 11) 12 rfl hHeld ?_; go_frame
   refine wpAnyH_done (by kernel_rfl) ?_ _
   have hKK := HKK.out
   have K5 := K2 (.cells #[.int .i64 (pl : Int), .string qn, .int .i64 zz, .slice A2 hd cp2] 93)
   have B5 := B2 (.cells #[.int .i64 (pl : Int), .string qn, .int .i64 zz, .slice A2 hd cp2] 93)
   have Kf : KB (wq.alloc (.cells #[.int .i64 (pl : Int), .string qn, .int .i64 zz, .slice A2 hd cp2] 93)).drew wq.heap.size 93 #[.int .i64 (pl : Int), .string qn, .int .i64 zz, .slice A2 hd cp2] := (KB.new wq _ _).drewN 1
   have kt5 : KB (wq.alloc (.cells #[.int .i64 (pl : Int), .string qn, .int .i64 zz, .slice A2 hd cp2] 93)).drew w.heap.size 4 (boolsA tk) := (kt1.alloc _).drewN 1
   have ku5 : KB (wq.alloc (.cells #[.int .i64 (pl : Int), .string qn, .int .i64 zz, .slice A2 hd cp2] 93)).drew usb 4 (boolsA us) := (ku1.alloc _).drewN 1
   have kg5 : KB (wq.alloc (.cells #[.int .i64 (pl : Int), .string qn, .int .i64 zz, .slice A2 hd cp2] 93)).drew g 95 (flat8 (qs ++ List.replicate (l.length - k) z8)).toArray := (kg1.alloc _).drewN 1
   have ht5 : HT (wq.alloc (.cells #[.int .i64 (pl : Int), .string qn, .int .i64 zz, .slice A2 hd cp2] 93)).drew (fun b => b < wr.heap.size ∧ b ≠ w.heap.size ∧ b ≠ usb ∧ b ≠ g ∧ ¬ a.has b) qs dn := ht1.keep (by simp) (fun b hb hlt => Below.heap_alloc wq _ b hlt) fun b hb => hb
   have hq5 : wq.heap.size < (wq.alloc (.cells #[.int .i64 (pl : Int), .string qn, .int .i64 zz, .slice A2 hd cp2] 93)).drew.heap.size := Kf.lt
   clear K1 K2 B2 K1d B1d B1 hHeld HC kt1 ku1 kg1 ht1
   generalize (wq.alloc (.cells #[.int .i64 (pl : Int), .string qn, .int .i64 zz, .slice A2 hd cp2] 93)).drew = w5 at *
   cases th with
   | true =>
    obtain ⟨x, hm1, hm2, _⟩ := HMS.out.resolve_left (fun h => by cases h.2)
    have htk2 : takeM (mapN nl) tk f.name = tk := by unfold takeM; rw [hm1]
    have hpl2 : H.place = pl := by rw [HH.out]; show placeM _ _ _ = _; unfold placeM; rw [hm1]; exact hm2
    rw [htk2] at HMID2
    have K6 := K5
    have hpI : ((pl : Nat) : Int) = (H.place : Int) := by rw [hpl2]
    rw [hpI] at Kf
    have HK := Lib.hid hpI
    clear hm1 hm2 htk2 hpl2 hpI K5 hfree
    obtain ⟨w6, hw6⟩ : ∃ w6, w6 = w5 := ⟨_, rfl⟩
    subst hw6
    have ku6 := ku5
    have kt6 := kt5
    have kg6 := kg5
    have ht6 := ht5
    have B6 := B5
    have hq6 := hq5
    obtain ⟨tk2, htk2⟩ : ∃ t, t = tk := ⟨_, rfl⟩
    rw [← htk2] at HMID2 kt6
    clear ku5 kt5 kg5 ht5 B5 hq5 htk2
    have eml : min (hd : Int) (pg : Int) = ((min hd pg : Nat) : Int) := by omega
    have hkp : min hd pg ≤ hd := Nat.min_le_left _ _
    have hkq : min hd pg ≤ pg := Nat.min_le_right _ _
    have esb : IntKind.i64.wrap ((pg : Int) - ((min hd pg : Nat) : Int)) = ((pg - min hd pg : Nat) : Int) := by rw [IntKind.wrap_i64]; omega
    have HMN := Lib.hid eml
    generalize hkpn : min hd pg = kp at *
    go_wp2_with fail
    rename_i KK2 hKK2
    have HKK2 := Lib.hid hKK2
    clear hKK2
    have HC2 : w6.drew.cell? ⟨wr.heap.size, 1, none⟩ = some (.slice X fb z) ∧ w6.drew.cell? ⟨wq.heap.size, 3, none⟩ = some (.slice A2 hd cp2) := ⟨(K6.drewN 1).cell 1, (Kf.drewN 1).cell 3⟩
    refine wp_region_held_drew (S := (fun W => W.cell? ⟨wr.heap.size, 1, none⟩ = some (.slice X fb z) ∧ W.cell? ⟨wq.heap.size, 3, none⟩ = some (.slice A2 hd cp2))) (by kernel_rfl) HC2 (fun hHeld => ?_)
    refine hyY (some 48) 0 rfl hHeld ?_; go_frame
    refine hyY (some 49) 1 rfl hHeld ?_; go_frame
    refine hyY (some 50) 2 rfl hHeld ?_; go_frame
    refine hyY (some 51) 3 rfl hHeld ?_; go_frame
    refine hyY (some 52) 4 rfl hHeld ?_; go_frame
    refine hyY (some 53) 5 rfl hHeld ?_; go_frame
    refine hyO (some 54) 6 rfl (fun K hK => ?_)
    go_simp
    go_at_call 74
    refine (hpg _).mono ?_
    rintro e w' ⟨rfl, rfl⟩
    go_wp2_with fail
    refine hK.out _ _ ?_ (fun hH2 => ?_)
    ·exact hHeld
    clear hHeld hK K; have hHeld := hH2; clear hH2; try go_frame
    refine hyY (some 12) 7 rfl hHeld ?_; go_frame
    refine hyY (some 13) 8 rfl hHeld ?_; go_frame
    refine wpAnyH_done (by kernel_rfl) ?_ _
    have hKK2 := HKK2.out
    obtain ⟨ku7, kg7, kt7⟩ : KB w6.drew usb 4 (boolsA us) ∧ KB w6.drew g 95 (flat8 (qs ++ List.replicate (l.length - k) z8)).toArray ∧ KB w6.drew w.heap.size 4 (boolsA tk2) := ⟨ku6.drewN 1, kg6.drewN 1, kt6.drewN 1⟩
    have ht7 : HT w6.drew (fun b => b < wr.heap.size ∧ b ≠ w.heap.size ∧ b ≠ usb ∧ b ≠ g ∧ ¬ a.has b) qs dn := ht6.keep (Nat.le_refl _) (fun _ _ _ => rfl) fun _ h => h
    have K7 : KB w6.drew wr.heap.size 71 #[.string fn, .slice X fb z, .bool fg] := K6.drewN 1
    have Kf7 : KB w6.drew wq.heap.size 93 #[.int .i64 (H.place : Int), .string qn, .int .i64 zz, .slice A2 hd cp2] := Kf.drewN 1
    have B7 : Below w.heap.size w w6.drew := Below_drawn B6 1
    have his7 : IS w6.drew (OffS a w) (.slice A2 hd cp2) hadL := his.below' (Below_drawn B6 1)
    have hcpx : hd ≤ cp2 ∧ cp2 ≤ maxLen := by
     obtain ⟨_, _, e, h1, h2, _⟩ := his.form
     injection e with e1 e2 e3
     rw [HHL.out] at h1
     omega
    have hst := fun W => run_slice_to W A2 hd cp2 kp hkp hcpx.1
    have HST := Lib.hid hst
    clear ku6 kg6 kt6 ht6 K6 Kf B6 HC2 hHeld
    generalize w6.drew = w7 at *
    have hq7 : wq.heap.size < w7.heap.size := Kf7.lt
    go_wp2_with fail
    rename_i KK3 hKK3
    have HKK3 := Lib.hid hKK3
    clear hKK3
    have hgive := fun W (k : KB W usb 4 (boolsA us)) => give_any usb c.cn.data us (pg - kp) W k hul (by have := HD800.out; omega) (by omega)
    have HGV := Lib.hid hgive
    clear hgive
    obtain ⟨NW, hNW⟩ : ∃ N, N = giveL us (pg - kp) := ⟨_, rfl⟩
    rw [← hNW] at HGV
    have HNW := Lib.hid hNW
    have hNl : NW.length ≤ 800 := by
     rw [hNW]
     have := giveL_le us (pg - kp)
     have := HD800.out
     omega
    have HNL := Lib.hid hNl
    have htkl : (hadL.take kp).length = kp := by rw [List.length_take, HHL.out]; omega
    have HTKL := Lib.hid htkl
    clear hNW hNl htkl
    have hst8 : (Instr.slice 89 (.slice A2 hd cp2) none (some (.int .i64 (kp : Int))) none).run Tryz.prog w7.drew = .ok (.slice A2 kp cp2) w7.drew := hst _
    have hHT : (fun _ : World => True) w7.drew := trivial
    refine wp_region_held_drew (S := (fun W => (Instr.slice 89 (.slice A2 hd cp2) none (some (.int .i64 (kp : Int))) none).run Tryz.prog W = .ok (.slice A2 kp cp2) W)) (by kernel_rfl) (HST.out _) (fun hHeld => ?_)
    refine hyY (some 59) 0 rfl hHeld ?_; go_frame
    refine hyY (some 60) 1 rfl hHeld ?_; go_frame
    refine hyY (some 61) 2 rfl hHeld ?_; go_frame
    refine hyY (some 62) 3 rfl hHeld ?_; go_frame
    refine hyY (some 63) 4 rfl hHeld ?_; go_frame
    refine hyY (some 64) 5 rfl hHeld ?_; go_frame
    refine hyY (some 65) 6 rfl hHeld ?_; go_frame
    refine hyO (some 66) 7 rfl (fun K hK => ?_)
    go_simp
    go_at_call 76
    refine (HGV.out _ (ku7.drewN 1)).mono ?_
    rintro e w8 ⟨v8, rfl, o8, ku8, P8⟩
    have x8 := own_IS o8
    obtain ⟨A8, c8, rfl, _⟩ := x8.form
    go_wp2_with fail
    refine hK.out _ _ ?_ (fun hH2 => ?_)
    ·exact HST.out _
    clear hHeld hK K; have hHeld := hH2; clear hH2; try go_frame
    refine hyO (some 67) 8 rfl (fun K hK => ?_)
    go_simp
    refine hK.out _ _ ?_ (fun hH2 => ?_)
    ·exact HST.out _
    clear hHeld hK K; have hHeld := hH2; clear hH2; try go_frame
    refine hyO (some 68) 9 rfl (fun K hK => ?_)
    go_simp
    go_at_call 77
    have kc8 := KB.new w8 89 #[.slice A2 kp cp2, .slice A8 NW.length c8]
    have hs8 := P8.size
    have h81 : IS (w8.alloc (.cells #[.slice A2 kp cp2, .slice A8 NW.length c8] 89)) (OffS a w) (.slice A2 kp cp2) (hadL.take kp) := ((his7.keep hs8 (fun b hb hlt => P8.block b ⟨hlt, fun e => by have := hb.1; omega⟩)).alloc _).take kp (by rw [HHL.out]; exact hkp)
    refine (concat_two HTKL.out rfl kc8 h81 (x8.alloc _) (by omega) (by have := HNL.out; omega)).mono ?_
    rintro e w9 ⟨v9, rfl, o9, b9⟩
    have hs9 := b9.size
    have P9 : KeepP (fun x => x < w7.heap.size ∧ x ≠ usb) w7 w9 := KeepP.trans (a := w7) (b := w8) ⟨P8.os, P8.tape, P8.output, hs8, P8.block⟩ (KeepP.of_below ((Below.refl w8.heap.size w8).alloc (Nat.le_refl _) (.cells #[.slice A2 kp cp2, .slice A8 NW.length c8] 89) |>.trans (b9.mono (by simp))) fun x hx => Nat.lt_of_lt_of_le hx.1 hs8)
    have ku9 : KB w9 usb 4 (boolsA (markL us NW)) := (ku8.alloc _).below b9 (ku8.alloc _).lt
    have o9' : w9.ownsRow w7.heap.size 3 1 v9 (hadL.take kp ++ NW).length ((hadL.take kp ++ NW).map iv) := own_base o9 (Nat.le_trans (show w7.heap.size ≤ w8.heap.size from hs8) (by simp))
    clear b9 o9 ku8 kc8 h81 x8 P8 o8
    go_wp2_with fail
    refine hK.out _ _ ?_ (fun hH2 => ?_)
    ·exact HST.out _
    clear hHeld hK K; have hHeld := hH2; clear hH2; try go_frame
    refine hyY (some 15) 10 rfl hHeld ?_; go_frame
    refine wpAnyH_done (by kernel_rfl) ?_ _
    have hKK3 := HKK3.out
    obtain ⟨Z, hZ⟩ : ∃ Z, Z = hadL.take kp ++ NW := ⟨_, rfl⟩
    rw [← hZ] at o9'
    have hZl : Z.length ≤ 100000 := by
     rw [hZ, List.length_append, HTKL.out]
     have := HNL.out
     omega
    have HZ := Lib.hid hZ
    obtain ⟨A9, c9, rfl, hc9, hm9, _⟩ := (own_IS o9').form
    have hne9 : ∀ gg, (Value.slice A9 Z.length c9).ownBlock = some gg → w7.heap.size ≤ gg := fun gg hgg => own_ge o9' gg hgg
    have hso := sort_any w7.heap.size _ Z w9 o9' (by omega)
    have hs79 := P9.size
    have B7s := B7.size
    clear hZ hHeld hHT hst8
    go_wp2_with fail
    refine hso.mono ?_
    rintro e w10 ⟨rfl, o10, g10⟩
    have P10 : KeepP (fun x => x < w7.heap.size ∧ x ≠ usb) w7 w10 := P9.grown g10 (fun gg e hx => by have := hne9 gg e; have := hx.1; omega) fun x hx => hx.1
    have ku10 := ku9.grown g10 (fun e => by have := hne9 usb e; have := ku7.lt; omega)
    have hs10 := P10.size
    have K10 := K7.keepP P10 ⟨K7.lt, by omega⟩
    have Kf10 := Kf7.keepP P10 ⟨Kf7.lt, by omega⟩
    have kg10 := kg7.keepP P10 ⟨kg7.lt, by omega⟩
    have kt10 := kt7.keepP P10 ⟨kt7.lt, by omega⟩
    have B10 : Below w.heap.size w w10 := B7.trans (P10.to_below (B := w.heap.size) fun x (hx : x < w.heap.size) => ⟨by have := B7.size; omega, fun e => by omega⟩)
    have ht10 := ht7.keep (w' := w10) (S' := fun b => b < wr.heap.size ∧ b ≠ w.heap.size ∧ b ≠ usb ∧ b ≠ g ∧ ¬ a.has b) hs10 (fun b hb hlt => P10.block b ⟨hlt, hb.2.2.1⟩) fun b hb => hb
    have his10 := his7.keep hs10 (fun b hb hlt => P10.block b ⟨hlt, fun e => by have := hb.1; omega⟩)
    clear hso P9 ku9 o9' g10 K7 Kf7 kg7 kt7 B7 ht7 his7 ku7
    have q0 := K10.cell 0
    have q1 := K10.cell 1
    have B11 := B10.alloc B10.size (.cells #[.string fn, .int .i64 (fb : Int), .slice A9 Z.length c9] 91)
    have Kn := KB.new w10 91 #[.string fn, .int .i64 (fb : Int), .slice A9 Z.length c9]
    have hsl := fun W => run_slice_from W A2 hd cp2 kp hkp hcpx.1
    have hisL := his10.from_ HHL.out kp hkp
    obtain ⟨AL, hAL⟩ : ∃ AL, AL = (if cp2 = kp then A2 else A2.map (·.add kp)) := ⟨_, rfl⟩
    rw [← hAL] at hsl hisL
    obtain ⟨nL, hnL⟩ : ∃ n, n = hd - kp := ⟨_, rfl⟩
    obtain ⟨cL, hcL⟩ : ∃ n, n = cp2 - kp := ⟨_, rfl⟩
    rw [← hnL, ← hcL] at hsl hisL
    have x10 := own_IS o10
    have HQ : Hid (H8ok (w10.alloc (.cells #[.string fn, .int .i64 (fb : Int), .slice A9 Z.length c9] 91)) (fun b => b < w10.heap.size ∧ b ≠ w.heap.size ∧ b ≠ usb ∧ b ≠ g ∧ ¬ a.has b) ⟨fn, .slice X fb z, fg, (H.place : Int), fn, (fb : Int), .slice A9 Z.length c9, .slice AL nL cL⟩ H) := by
     have hto : H.to = f := by rw [HH.out]; rfl
     have hat : sortI Z = H.at_ := by
      rw [HH.out]
      show sortI Z = sortI ((hadM (mapN nl) f.name).take (keepN (mapN nl) f) ++ newM (mapN nl) us f)
      have e1 : keepN (mapN nl) f = kp := by unfold keepN; rw [HHAD.out, HHL.out, ← HPG.out, hkpn]
      have e2 : newM (mapN nl) us f = NW := by unfold newM; rw [e1, ← HPG.out, HNW.out]
      rw [e1, e2, HHAD.out, HZ.out]
     have hlo : hadL.drop kp = H.loses := by
      rw [HH.out]
      show hadL.drop kp = (hadM (mapN nl) f.name).drop (keepN (mapN nl) f)
      have e1 : keepN (mapN nl) f = kp := by unfold keepN; rw [HHAD.out, HHL.out, ← HPG.out, hkpn]
      rw [e1, HHAD.out]
     have hZl : H.at_.length = Z.length := by rw [← hat, sortI_len]
     have hLl : H.loses.length = nL := by rw [← hlo, List.length_drop, HHL.out, hnL]
     have hw : w.heap.size ≤ w10.heap.size := B10.size
     refine ⟨by rw [hto]; exact HFN.out, ⟨X, z, by rw [hto, ← HFB.out], ?_⟩, by rw [hto]; exact HFG.out, rfl, by rw [hto]; exact HFN.out, by rw [hto, ← HFB.out], ⟨A9, c9, by rw [hZl], ?_⟩, ⟨AL, cL, by rw [hLl], ?_⟩⟩
     ·rw [hto, ← HFB.out]
      exact ((hbs.lt.below' B10).alloc _).mono fun b hb => ⟨Nat.lt_of_lt_of_le hb.2 hw, by omega, by omega, by omega, HSA.out b hb.1⟩
     ·rw [← hat]
      have e3 : (sortI Z).length = Z.length := sortI_len Z
      rw [e3]
      exact (x10.alloc _).mono fun b hb => ⟨hb.2, by omega, by omega, by omega, fun hh => by have := HLA.out b hh; have := hb.1; have := B7s; omega⟩
     ·rw [hLl, ← hlo]
      exact (hisL.alloc _).mono fun b hb => ⟨by have := hb.1; omega, by have := hb.1; omega, by have := hb.1; omega, by have := hb.1; omega, hb.2⟩
    clear o10 x10 hisL his10 hAL hnL hcL hcpx HST hst
    go_wp2_with fail
    have ht11 := ht10.keep (w' := w10.alloc (.cells #[.string fn, .int .i64 (fb : Int), .slice A9 Z.length c9] 91)) (S' := fun b => b < wr.heap.size ∧ b ≠ w.heap.size ∧ b ≠ usb ∧ b ≠ g ∧ ¬ a.has b) (by simp) (fun b hb hlt => Below.heap_alloc w10 _ b hlt) fun b hb => hb
    have K11 := K10.alloc (.cells #[.string fn, .int .i64 (fb : Int), .slice A9 Z.length c9] 91)
    have Kf11 := Kf10.alloc (.cells #[.string fn, .int .i64 (fb : Int), .slice A9 Z.length c9] 91)
    have kg11 := kg10.alloc (.cells #[.string fn, .int .i64 (fb : Int), .slice A9 Z.length c9] 91)
    have kt11 := kt10.alloc (.cells #[.string fn, .int .i64 (fb : Int), .slice A9 Z.length c9] 91)
    have ku11 := ku10.alloc (.cells #[.string fn, .int .i64 (fb : Int), .slice A9 Z.length c9] 91)
    have hs11 : w10.heap.size < (w10.alloc (.cells #[.string fn, .int .i64 (fb : Int), .slice A9 Z.length c9] 91)).heap.size := Kn.lt
    clear K10 Kf10 kg10 kt10 ku10 ht10 B10
    generalize w10.alloc (.cells #[.string fn, .int .i64 (fb : Int), .slice A9 Z.length c9] 91) = w11 at *
    refine wp_still_tail 12 (by kernel_rfl) (by kernel_rfl) (fun W => W = w11.drew) rfl ?_
    rintro W5 rfl
    have K12 : KB w11.drew wr.heap.size 71 #[.string fn, .slice X fb z, .bool fg] := K11.drewN 1
    have Kf12 : KB w11.drew wq.heap.size 93 #[.int .i64 (H.place : Int), .string qn, .int .i64 zz, .slice A2 hd cp2] := Kf11.drewN 1
    have Kn12 : KB w11.drew w10.heap.size 91 #[.string fn, .int .i64 (fb : Int), .slice A9 Z.length c9] := Kn.drewN 1
    have hsl12 := hsl w11.drew
    have y0 := K12.cell 0
    have y1 := K12.cell 1
    have y2 := K12.cell 2
    have y3 := Kf12.cell 0
    have y4 := Kn12.cell 0
    have y5 := Kn12.cell 1
    have y6 := Kn12.cell 2
    have HNM : Hid (newM (mapN nl) us f = NW) := by
     have e1 : keepN (mapN nl) f = kp := by unfold keepN; rw [HHAD.out, HHL.out, ← HPG.out, hkpn]
     show _ = _
     unfold newM; rw [e1, ← HPG.out, HNW.out]
    obtain ⟨q8, hq8⟩ : ∃ q : H8, q = ⟨fn, .slice X fb z, fg, (H.place : Int), fn, (fb : Int), .slice A9 Z.length c9, .slice AL nL cL⟩ := ⟨_, rfl⟩
    rw [← hq8] at HQ
    have HKG : Hid (KB w11.drew g 95 (flat8 (qs ++ List.replicate ((l.length - (k + 1)) + 1) z8)).toArray) := by rw [show (l.length - (k + 1)) + 1 = l.length - k by omega]; exact kg11.drewN 1
    have hfit : k * 8 + 8 ≤ (flat8 (qs ++ List.replicate ((l.length - (k + 1)) + 1) z8)).length := by rw [flat8_len, List.length_append, List.length_replicate, hql]; omega
    have HSP : Hid (splice (flat8 (qs ++ List.replicate ((l.length - (k + 1)) + 1) z8)) (k * 8) (eight q8) = flat8 ((qs ++ [q8]) ++ List.replicate (l.length - (k + 1)) z8)) := by
     show _ = _
     rw [← hql]
     exact splice_eight qs _ q8
    have hon : ∀ v ∈ eight q8, v.oneCell' = true := by
     subst hq8
     intro u hu
     simp [eight] at hu
     rcases hu with rfl | rfl | rfl | rfl | rfl | rfl | rfl | rfl <;> rfl
    clear K12 Kf12 Kn12 K11 Kf11 Kn kg11 hsl
    simp only [List.take_succ_cons, List.take_zero, List.drop_succ_cons, List.drop_zero]
    repeat still_step
    refine wpStill_nil ?_
    go_wp2_with (refine wpList_store_part rfl 95 (.tmp 89) (.tmp 88) rfl g (k * 8) (eight q8) rfl (by subst hq8; rfl) _ _ HKG.out 8 (by kernel_rfl) rfl hfit hon ?_; intro w13 k13 g13)
    go_roundw
    case rel =>
     rw [HSP.out] at k13
     rw [HNM.out] at HMID2
     have hs13 := g13.size
     have hsd : w11.drew.heap.size = w11.heap.size := rfl
     have hw10 : wr.heap.size ≤ w10.heap.size := by omega
     refine ⟨k + 1, dn ++ [H], tk2, markL us NW, qs ++ [q8], by omega, by go_num, HMID2, (kt11.drewN 1).grown g13 (fun e => by injection e with e; omega), (ku11.drewN 1).grown g13 (fun e => by injection e with e; omega), by simp [hql], k13, ?_, (Below_drawn B11 1).grown g13 B11.size fun gg e => by injection e with e; omega⟩
     refine HT.snoc ?_ ?_
     ·exact ht11.keep (by omega) (fun b hb hlt => g13.block b hlt fun e => by injection e with e; exact hb.2.2.2.1 e) fun b hb => ⟨by have := hb.1; omega, hb.2⟩
     ·exact HQ.out.keep (by omega) (fun b hb hlt => g13.block b hlt fun e => by injection e with e; exact hb.2.2.2.1 e) fun b hb => ⟨by have := hb.1; omega, hb.2⟩
    case measure => simp [intOf]; omega
   | false =>
    obtain ⟨hm1, _⟩ := HMS.out.resolve_right (fun ⟨x, _, _, h⟩ => by cases h)
    have hf1 := hfree hm1
    obtain ⟨z1, hz1⟩ : ∃ z, giveL tk 1 = [z] := List.length_eq_one_iff.1 (giveL_len hf1)
    have hz2 := giveL_free (us := tk) (n := 1) (z := z1) (by rw [hz1]; simp)
    obtain ⟨xn, rfl⟩ : ∃ xn : Nat, z1 = (xn : Int) := ⟨z1.toNat, by have := hz2.1; omega⟩
    have htk2 : takeM (mapN nl) tk f.name = markL tk [(xn : Int)] := by unfold takeM; rw [hm1]; show markL tk (giveL tk 1) = _; rw [hz1]
    have hpl2 : H.place = xn := by rw [HH.out]; show placeM _ _ _ = _; unfold placeM; rw [hm1]; show ((giveL tk 1).headD 0).toNat = xn; rw [hz1]; simp
    rw [htk2] at HMID2
    have hpI : ((xn : Nat) : Int) = (H.place : Int) := by rw [hpl2]
    have hg0 := give_any w.heap.size c.cn.files tk 1 w5 kt5 htl (by have := HF64.out; omega) (by omega)
    rw [hz1] at hg0
    obtain ⟨tk2, htk2'⟩ : ∃ t, t = markL tk [(xn : Int)] := ⟨_, rfl⟩
    rw [← htk2'] at HMID2 hg0
    clear hm1 hf1 hz1 hz2 htk2 hpl2 hfree htk2'
    have eml : min (hd : Int) (pg : Int) = ((min hd pg : Nat) : Int) := by omega
    have hkp : min hd pg ≤ hd := Nat.min_le_left _ _
    have hkq : min hd pg ≤ pg := Nat.min_le_right _ _
    have esb : IntKind.i64.wrap ((pg : Int) - ((min hd pg : Nat) : Int)) = ((pg - min hd pg : Nat) : Int) := by rw [IntKind.wrap_i64]; omega
    have HMN := Lib.hid eml
    generalize hkpn : min hd pg = kp at *
    go_wp2_with fail
    refine hg0.mono ?_
    rintro e wg ⟨vg, rfl, og, ktg, Pg⟩
    have xg := own_IS og
    obtain ⟨Ag, cg, rfl, hcg1, hcg2, _⟩ := xg.form
    obtain ⟨bg, o2, rfl, _, _, hxg⟩ := xg.at_ (by simp)
    have z0 : wg.cell? ⟨bg, o2, none⟩ = some (.int .i64 (H.place : Int)) := by have := hxg 0 (xn : Int) rfl; rw [hpI] at this; exact this
    have hszg := Pg.size
    have g6 := grown_set wg wq.heap.size 0 (.int .i64 (H.place : Int))
    have K6 := (K5.keepP Pg ⟨K5.lt, by omega⟩).grown g6 (fun e => by injection e with e; omega)
    have Kfg := Kf.keepP Pg ⟨Kf.lt, by omega⟩
    have ff := Kfg.free 0
    have fc := Kfg.cell 0
    have ku6 := (ku5.keepP Pg ⟨ku5.lt, by omega⟩).grown g6 (fun e => by injection e with e; omega)
    have kg6 := (kg5.keepP Pg ⟨kg5.lt, by omega⟩).grown g6 (fun e => by injection e with e; omega)
    have kt6 := ktg.grown g6 (fun e => by injection e with e; omega)
    have ht6 : HT (wg.setCell ⟨wq.heap.size, 0, none⟩ (.int .i64 (H.place : Int))) (fun b => b < wr.heap.size ∧ b ≠ w.heap.size ∧ b ≠ usb ∧ b ≠ g ∧ ¬ a.has b) qs dn := (ht5.keep (S' := fun b => b < wr.heap.size ∧ b ≠ w.heap.size ∧ b ≠ usb ∧ b ≠ g ∧ ¬ a.has b) Pg.size (fun b hb hlt => Pg.block b ⟨hlt, hb.2.1⟩) fun b hb => hb).keep g6.size (fun b hb hlt => g6.block b hlt fun e => by injection e with e; have := hb.1; omega) fun b hb => hb
    have B6 : Below w.heap.size w (wg.setCell ⟨wq.heap.size, 0, none⟩ (.int .i64 (H.place : Int))) := (B5.trans (Pg.to_below (B := w.heap.size) fun x hx => ⟨by have := B5.size; omega, by omega⟩)).grown g6 (by have := B5.size; omega) fun gg e => by injection e with e; omega
    have hq6 : wq.heap.size < (wg.setCell ⟨wq.heap.size, 0, none⟩ (.int .i64 (H.place : Int))).heap.size := by have := g6.size; omega
    have Kf' : KB (wg.setCell ⟨wq.heap.size, 0, none⟩ (.int .i64 (H.place : Int))) wq.heap.size 93 #[.int .i64 (H.place : Int), .string qn, .int .i64 zz, .slice A2 hd cp2] := Kfg.put 0 (.int .i64 (H.place : Int))
    clear K5 Kf Kfg ku5 kg5 kt5 ht5 B5 hg0 Pg ktg g6 og xg hxg hpI hq5
    go_wp2_with fail
    generalize wg.setCell ⟨wq.heap.size, 0, none⟩ (.int .i64 (H.place : Int)) = w6 at *
    have Kf := Kf'
    clear Kf' z0 ff fc hszg
    rename_i KK2 hKK2
    have HKK2 := Lib.hid hKK2
    clear hKK2
    have HC2 : w6.drew.cell? ⟨wr.heap.size, 1, none⟩ = some (.slice X fb z) ∧ w6.drew.cell? ⟨wq.heap.size, 3, none⟩ = some (.slice A2 hd cp2) := ⟨(K6.drewN 1).cell 1, (Kf.drewN 1).cell 3⟩
    refine wp_region_held_drew (S := (fun W => W.cell? ⟨wr.heap.size, 1, none⟩ = some (.slice X fb z) ∧ W.cell? ⟨wq.heap.size, 3, none⟩ = some (.slice A2 hd cp2))) (by kernel_rfl) HC2 (fun hHeld => ?_)
    refine hyY (some 48) 0 rfl hHeld ?_; go_frame
    refine hyY (some 49) 1 rfl hHeld ?_; go_frame
    refine hyY (some 50) 2 rfl hHeld ?_; go_frame
    refine hyY (some 51) 3 rfl hHeld ?_; go_frame
    refine hyY (some 52) 4 rfl hHeld ?_; go_frame
    refine hyY (some 53) 5 rfl hHeld ?_; go_frame
    refine hyO (some 54) 6 rfl (fun K hK => ?_)
    go_simp
    go_at_call 74
    refine (hpg _).mono ?_
    rintro e w' ⟨rfl, rfl⟩
    go_wp2_with fail
    refine hK.out _ _ ?_ (fun hH2 => ?_)
    ·exact hHeld
    clear hHeld hK K; have hHeld := hH2; clear hH2; try go_frame
    refine hyY (some 12) 7 rfl hHeld ?_; go_frame
    refine hyY (some 13) 8 rfl hHeld ?_; go_frame
    refine wpAnyH_done (by kernel_rfl) ?_ _
    have hKK2 := HKK2.out
    obtain ⟨ku7, kg7, kt7⟩ : KB w6.drew usb 4 (boolsA us) ∧ KB w6.drew g 95 (flat8 (qs ++ List.replicate (l.length - k) z8)).toArray ∧ KB w6.drew w.heap.size 4 (boolsA tk2) := ⟨ku6.drewN 1, kg6.drewN 1, kt6.drewN 1⟩
    have ht7 : HT w6.drew (fun b => b < wr.heap.size ∧ b ≠ w.heap.size ∧ b ≠ usb ∧ b ≠ g ∧ ¬ a.has b) qs dn := ht6.keep (Nat.le_refl _) (fun _ _ _ => rfl) fun _ h => h
    have K7 : KB w6.drew wr.heap.size 71 #[.string fn, .slice X fb z, .bool fg] := K6.drewN 1
    have Kf7 : KB w6.drew wq.heap.size 93 #[.int .i64 (H.place : Int), .string qn, .int .i64 zz, .slice A2 hd cp2] := Kf.drewN 1
    have B7 : Below w.heap.size w w6.drew := Below_drawn B6 1
    have his7 : IS w6.drew (OffS a w) (.slice A2 hd cp2) hadL := his.below' (Below_drawn B6 1)
    have hcpx : hd ≤ cp2 ∧ cp2 ≤ maxLen := by
     obtain ⟨_, _, e, h1, h2, _⟩ := his.form
     injection e with e1 e2 e3
     rw [HHL.out] at h1
     omega
    have hst := fun W => run_slice_to W A2 hd cp2 kp hkp hcpx.1
    have HST := Lib.hid hst
    clear ku6 kg6 kt6 ht6 K6 Kf B6 HC2 hHeld
    generalize w6.drew = w7 at *
    have hq7 : wq.heap.size < w7.heap.size := Kf7.lt
    go_wp2_with fail
    rename_i KK3 hKK3
    have HKK3 := Lib.hid hKK3
    clear hKK3
    have hgive := fun W (k : KB W usb 4 (boolsA us)) => give_any usb c.cn.data us (pg - kp) W k hul (by have := HD800.out; omega) (by omega)
    have HGV := Lib.hid hgive
    clear hgive
    obtain ⟨NW, hNW⟩ : ∃ N, N = giveL us (pg - kp) := ⟨_, rfl⟩
    rw [← hNW] at HGV
    have HNW := Lib.hid hNW
    have hNl : NW.length ≤ 800 := by
     rw [hNW]
     have := giveL_le us (pg - kp)
     have := HD800.out
     omega
    have HNL := Lib.hid hNl
    have htkl : (hadL.take kp).length = kp := by rw [List.length_take, HHL.out]; omega
    have HTKL := Lib.hid htkl
    clear hNW hNl htkl
    have hst8 : (Instr.slice 89 (.slice A2 hd cp2) none (some (.int .i64 (kp : Int))) none).run Tryz.prog w7.drew = .ok (.slice A2 kp cp2) w7.drew := hst _
    have hHT : (fun _ : World => True) w7.drew := trivial
    refine wp_region_held_drew (S := (fun W => (Instr.slice 89 (.slice A2 hd cp2) none (some (.int .i64 (kp : Int))) none).run Tryz.prog W = .ok (.slice A2 kp cp2) W)) (by kernel_rfl) (HST.out _) (fun hHeld => ?_)
    refine hyY (some 59) 0 rfl hHeld ?_; go_frame
    refine hyY (some 60) 1 rfl hHeld ?_; go_frame
    refine hyY (some 61) 2 rfl hHeld ?_; go_frame
    refine hyY (some 62) 3 rfl hHeld ?_; go_frame
    refine hyY (some 63) 4 rfl hHeld ?_; go_frame
    refine hyY (some 64) 5 rfl hHeld ?_; go_frame
    refine hyY (some 65) 6 rfl hHeld ?_; go_frame
    refine hyO (some 66) 7 rfl (fun K hK => ?_)
    go_simp
    go_at_call 76
    refine (HGV.out _ (ku7.drewN 1)).mono ?_
    rintro e w8 ⟨v8, rfl, o8, ku8, P8⟩
    have x8 := own_IS o8
    obtain ⟨A8, c8, rfl, _⟩ := x8.form
    go_wp2_with fail
    refine hK.out _ _ ?_ (fun hH2 => ?_)
    ·exact HST.out _
    clear hHeld hK K; have hHeld := hH2; clear hH2; try go_frame
    refine hyO (some 67) 8 rfl (fun K hK => ?_)
    go_simp
    refine hK.out _ _ ?_ (fun hH2 => ?_)
    ·exact HST.out _
    clear hHeld hK K; have hHeld := hH2; clear hH2; try go_frame
    refine hyO (some 68) 9 rfl (fun K hK => ?_)
    go_simp
    go_at_call 77
    have kc8 := KB.new w8 89 #[.slice A2 kp cp2, .slice A8 NW.length c8]
    have hs8 := P8.size
    have h81 : IS (w8.alloc (.cells #[.slice A2 kp cp2, .slice A8 NW.length c8] 89)) (OffS a w) (.slice A2 kp cp2) (hadL.take kp) := ((his7.keep hs8 (fun b hb hlt => P8.block b ⟨hlt, fun e => by have := hb.1; omega⟩)).alloc _).take kp (by rw [HHL.out]; exact hkp)
    refine (concat_two HTKL.out rfl kc8 h81 (x8.alloc _) (by omega) (by have := HNL.out; omega)).mono ?_
    rintro e w9 ⟨v9, rfl, o9, b9⟩
    have hs9 := b9.size
    have P9 : KeepP (fun x => x < w7.heap.size ∧ x ≠ usb) w7 w9 := KeepP.trans (a := w7) (b := w8) ⟨P8.os, P8.tape, P8.output, hs8, P8.block⟩ (KeepP.of_below ((Below.refl w8.heap.size w8).alloc (Nat.le_refl _) (.cells #[.slice A2 kp cp2, .slice A8 NW.length c8] 89) |>.trans (b9.mono (by simp))) fun x hx => Nat.lt_of_lt_of_le hx.1 hs8)
    have ku9 : KB w9 usb 4 (boolsA (markL us NW)) := (ku8.alloc _).below b9 (ku8.alloc _).lt
    have o9' : w9.ownsRow w7.heap.size 3 1 v9 (hadL.take kp ++ NW).length ((hadL.take kp ++ NW).map iv) := own_base o9 (Nat.le_trans (show w7.heap.size ≤ w8.heap.size from hs8) (by simp))
    clear b9 o9 ku8 kc8 h81 x8 P8 o8
    go_wp2_with fail
    refine hK.out _ _ ?_ (fun hH2 => ?_)
    ·exact HST.out _
    clear hHeld hK K; have hHeld := hH2; clear hH2; try go_frame
    refine hyY (some 15) 10 rfl hHeld ?_; go_frame
    refine wpAnyH_done (by kernel_rfl) ?_ _
    have hKK3 := HKK3.out
    obtain ⟨Z, hZ⟩ : ∃ Z, Z = hadL.take kp ++ NW := ⟨_, rfl⟩
    rw [← hZ] at o9'
    have hZl : Z.length ≤ 100000 := by
     rw [hZ, List.length_append, HTKL.out]
     have := HNL.out
     omega
    have HZ := Lib.hid hZ
    obtain ⟨A9, c9, rfl, hc9, hm9, _⟩ := (own_IS o9').form
    have hne9 : ∀ gg, (Value.slice A9 Z.length c9).ownBlock = some gg → w7.heap.size ≤ gg := fun gg hgg => own_ge o9' gg hgg
    have hso := sort_any w7.heap.size _ Z w9 o9' (by omega)
    have hs79 := P9.size
    have B7s := B7.size
    clear hZ hHeld hHT hst8
    go_wp2_with fail
    refine hso.mono ?_
    rintro e w10 ⟨rfl, o10, g10⟩
    have P10 : KeepP (fun x => x < w7.heap.size ∧ x ≠ usb) w7 w10 := P9.grown g10 (fun gg e hx => by have := hne9 gg e; have := hx.1; omega) fun x hx => hx.1
    have ku10 := ku9.grown g10 (fun e => by have := hne9 usb e; have := ku7.lt; omega)
    have hs10 := P10.size
    have K10 := K7.keepP P10 ⟨K7.lt, by omega⟩
    have Kf10 := Kf7.keepP P10 ⟨Kf7.lt, by omega⟩
    have kg10 := kg7.keepP P10 ⟨kg7.lt, by omega⟩
    have kt10 := kt7.keepP P10 ⟨kt7.lt, by omega⟩
    have B10 : Below w.heap.size w w10 := B7.trans (P10.to_below (B := w.heap.size) fun x (hx : x < w.heap.size) => ⟨by have := B7.size; omega, fun e => by omega⟩)
    have ht10 := ht7.keep (w' := w10) (S' := fun b => b < wr.heap.size ∧ b ≠ w.heap.size ∧ b ≠ usb ∧ b ≠ g ∧ ¬ a.has b) hs10 (fun b hb hlt => P10.block b ⟨hlt, hb.2.2.1⟩) fun b hb => hb
    have his10 := his7.keep hs10 (fun b hb hlt => P10.block b ⟨hlt, fun e => by have := hb.1; omega⟩)
    clear hso P9 ku9 o9' g10 K7 Kf7 kg7 kt7 B7 ht7 his7 ku7
    have q0 := K10.cell 0
    have q1 := K10.cell 1
    have B11 := B10.alloc B10.size (.cells #[.string fn, .int .i64 (fb : Int), .slice A9 Z.length c9] 91)
    have Kn := KB.new w10 91 #[.string fn, .int .i64 (fb : Int), .slice A9 Z.length c9]
    have hsl := fun W => run_slice_from W A2 hd cp2 kp hkp hcpx.1
    have hisL := his10.from_ HHL.out kp hkp
    obtain ⟨AL, hAL⟩ : ∃ AL, AL = (if cp2 = kp then A2 else A2.map (·.add kp)) := ⟨_, rfl⟩
    rw [← hAL] at hsl hisL
    obtain ⟨nL, hnL⟩ : ∃ n, n = hd - kp := ⟨_, rfl⟩
    obtain ⟨cL, hcL⟩ : ∃ n, n = cp2 - kp := ⟨_, rfl⟩
    rw [← hnL, ← hcL] at hsl hisL
    have x10 := own_IS o10
    have HQ : Hid (H8ok (w10.alloc (.cells #[.string fn, .int .i64 (fb : Int), .slice A9 Z.length c9] 91)) (fun b => b < w10.heap.size ∧ b ≠ w.heap.size ∧ b ≠ usb ∧ b ≠ g ∧ ¬ a.has b) ⟨fn, .slice X fb z, fg, (H.place : Int), fn, (fb : Int), .slice A9 Z.length c9, .slice AL nL cL⟩ H) := by
     have hto : H.to = f := by rw [HH.out]; rfl
     have hat : sortI Z = H.at_ := by
      rw [HH.out]
      show sortI Z = sortI ((hadM (mapN nl) f.name).take (keepN (mapN nl) f) ++ newM (mapN nl) us f)
      have e1 : keepN (mapN nl) f = kp := by unfold keepN; rw [HHAD.out, HHL.out, ← HPG.out, hkpn]
      have e2 : newM (mapN nl) us f = NW := by unfold newM; rw [e1, ← HPG.out, HNW.out]
      rw [e1, e2, HHAD.out, HZ.out]
     have hlo : hadL.drop kp = H.loses := by
      rw [HH.out]
      show hadL.drop kp = (hadM (mapN nl) f.name).drop (keepN (mapN nl) f)
      have e1 : keepN (mapN nl) f = kp := by unfold keepN; rw [HHAD.out, HHL.out, ← HPG.out, hkpn]
      rw [e1, HHAD.out]
     have hZl : H.at_.length = Z.length := by rw [← hat, sortI_len]
     have hLl : H.loses.length = nL := by rw [← hlo, List.length_drop, HHL.out, hnL]
     have hw : w.heap.size ≤ w10.heap.size := B10.size
     refine ⟨by rw [hto]; exact HFN.out, ⟨X, z, by rw [hto, ← HFB.out], ?_⟩, by rw [hto]; exact HFG.out, rfl, by rw [hto]; exact HFN.out, by rw [hto, ← HFB.out], ⟨A9, c9, by rw [hZl], ?_⟩, ⟨AL, cL, by rw [hLl], ?_⟩⟩
     ·rw [hto, ← HFB.out]
      exact ((hbs.lt.below' B10).alloc _).mono fun b hb => ⟨Nat.lt_of_lt_of_le hb.2 hw, by omega, by omega, by omega, HSA.out b hb.1⟩
     ·rw [← hat]
      have e3 : (sortI Z).length = Z.length := sortI_len Z
      rw [e3]
      exact (x10.alloc _).mono fun b hb => ⟨hb.2, by omega, by omega, by omega, fun hh => by have := HLA.out b hh; have := hb.1; have := B7s; omega⟩
     ·rw [hLl, ← hlo]
      exact (hisL.alloc _).mono fun b hb => ⟨by have := hb.1; omega, by have := hb.1; omega, by have := hb.1; omega, by have := hb.1; omega, hb.2⟩
    clear o10 x10 hisL his10 hAL hnL hcL hcpx HST hst
    go_wp2_with fail
    have ht11 := ht10.keep (w' := w10.alloc (.cells #[.string fn, .int .i64 (fb : Int), .slice A9 Z.length c9] 91)) (S' := fun b => b < wr.heap.size ∧ b ≠ w.heap.size ∧ b ≠ usb ∧ b ≠ g ∧ ¬ a.has b) (by simp) (fun b hb hlt => Below.heap_alloc w10 _ b hlt) fun b hb => hb
    have K11 := K10.alloc (.cells #[.string fn, .int .i64 (fb : Int), .slice A9 Z.length c9] 91)
    have Kf11 := Kf10.alloc (.cells #[.string fn, .int .i64 (fb : Int), .slice A9 Z.length c9] 91)
    have kg11 := kg10.alloc (.cells #[.string fn, .int .i64 (fb : Int), .slice A9 Z.length c9] 91)
    have kt11 := kt10.alloc (.cells #[.string fn, .int .i64 (fb : Int), .slice A9 Z.length c9] 91)
    have ku11 := ku10.alloc (.cells #[.string fn, .int .i64 (fb : Int), .slice A9 Z.length c9] 91)
    have hs11 : w10.heap.size < (w10.alloc (.cells #[.string fn, .int .i64 (fb : Int), .slice A9 Z.length c9] 91)).heap.size := Kn.lt
    clear K10 Kf10 kg10 kt10 ku10 ht10 B10
    generalize w10.alloc (.cells #[.string fn, .int .i64 (fb : Int), .slice A9 Z.length c9] 91) = w11 at *
    refine wp_still_tail 12 (by kernel_rfl) (by kernel_rfl) (fun W => W = w11.drew) rfl ?_
    rintro W5 rfl
    have K12 : KB w11.drew wr.heap.size 71 #[.string fn, .slice X fb z, .bool fg] := K11.drewN 1
    have Kf12 : KB w11.drew wq.heap.size 93 #[.int .i64 (H.place : Int), .string qn, .int .i64 zz, .slice A2 hd cp2] := Kf11.drewN 1
    have Kn12 : KB w11.drew w10.heap.size 91 #[.string fn, .int .i64 (fb : Int), .slice A9 Z.length c9] := Kn.drewN 1
    have hsl12 := hsl w11.drew
    have y0 := K12.cell 0
    have y1 := K12.cell 1
    have y2 := K12.cell 2
    have y3 := Kf12.cell 0
    have y4 := Kn12.cell 0
    have y5 := Kn12.cell 1
    have y6 := Kn12.cell 2
    have HNM : Hid (newM (mapN nl) us f = NW) := by
     have e1 : keepN (mapN nl) f = kp := by unfold keepN; rw [HHAD.out, HHL.out, ← HPG.out, hkpn]
     show _ = _
     unfold newM; rw [e1, ← HPG.out, HNW.out]
    obtain ⟨q8, hq8⟩ : ∃ q : H8, q = ⟨fn, .slice X fb z, fg, (H.place : Int), fn, (fb : Int), .slice A9 Z.length c9, .slice AL nL cL⟩ := ⟨_, rfl⟩
    rw [← hq8] at HQ
    have HKG : Hid (KB w11.drew g 95 (flat8 (qs ++ List.replicate ((l.length - (k + 1)) + 1) z8)).toArray) := by rw [show (l.length - (k + 1)) + 1 = l.length - k by omega]; exact kg11.drewN 1
    have hfit : k * 8 + 8 ≤ (flat8 (qs ++ List.replicate ((l.length - (k + 1)) + 1) z8)).length := by rw [flat8_len, List.length_append, List.length_replicate, hql]; omega
    have HSP : Hid (splice (flat8 (qs ++ List.replicate ((l.length - (k + 1)) + 1) z8)) (k * 8) (eight q8) = flat8 ((qs ++ [q8]) ++ List.replicate (l.length - (k + 1)) z8)) := by
     show _ = _
     rw [← hql]
     exact splice_eight qs _ q8
    have hon : ∀ v ∈ eight q8, v.oneCell' = true := by
     subst hq8
     intro u hu
     simp [eight] at hu
     rcases hu with rfl | rfl | rfl | rfl | rfl | rfl | rfl | rfl <;> rfl
    clear K12 Kf12 Kn12 K11 Kf11 Kn kg11 hsl
    simp only [List.take_succ_cons, List.take_zero, List.drop_succ_cons, List.drop_zero]
    repeat still_step
    refine wpStill_nil ?_
    go_wp2_with (refine wpList_store_part rfl 95 (.tmp 89) (.tmp 88) rfl g (k * 8) (eight q8) rfl (by subst hq8; rfl) _ _ HKG.out 8 (by kernel_rfl) rfl hfit hon ?_; intro w13 k13 g13)
    go_roundw
    case rel =>
     rw [HSP.out] at k13
     rw [HNM.out] at HMID2
     have hs13 := g13.size
     have hsd : w11.drew.heap.size = w11.heap.size := rfl
     have hw10 : wr.heap.size ≤ w10.heap.size := by omega
     refine ⟨k + 1, dn ++ [H], tk2, markL us NW, qs ++ [q8], by omega, by go_num, HMID2, (kt11.drewN 1).grown g13 (fun e => by injection e with e; omega), (ku11.drewN 1).grown g13 (fun e => by injection e with e; omega), by simp [hql], k13, ?_, (Below_drawn B11 1).grown g13 B11.size fun gg e => by injection e with e; omega⟩
     refine HT.snoc ?_ ?_
     ·exact ht11.keep (by omega) (fun b hb hlt => g13.block b hlt fun e => by injection e with e; exact hb.2.2.2.1 e) fun b hb => ⟨by have := hb.1; omega, hb.2⟩
     ·exact HQ.out.keep (by omega) (fun b hb hlt => g13.block b hlt fun e => by injection e with e; exact hb.2.2.2.1 e) fun b hb => ⟨by have := hb.1; omega, hb.2⟩
    case measure => simp [intOf]; omega
  ·obtain rfl : k = l.length := by omega
   have hd := mid_end hmid.out
   have e := HR.out
   rw [hd] at e
   subst e
   have hn : l.length - l.length = 0 := by omega
   rw [hn, List.replicate_zero, List.append_nil] at kg
   clear hmid hd
   go_wp2_with fail
   go_ret
   refine ⟨g, qs, by rw [HLEN.out]; rfl, by omega, kg, ht.keep (Nat.le_refl _) (fun _ _ _ => rfl) fun b hb => ⟨hb.1, hb.2.2.2⟩, bl⟩
end
end
end Go.Proofs.YteddmnoeljakpaaGreatDoor
