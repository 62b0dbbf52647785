/-
  SvC: like and clean of the law, of any list, over the loaded program. No condition but what each theorem names.
-/
import Derived.Test.YteddmnoeljakpaaGreatDoorSw47
import Derived.Test.YteddmnoeljakpaaGreatDoorSw48
import Derived.Test.YteddmnoeljakpaaGreatDoorSw12
set_option linter.unusedVariables false
set_option maxRecDepth 100000
namespace Go.Proofs.YteddmnoeljakpaaGreatDoor
section
open Go.RowKit
def LikeAs (w : World) (fl : List Fe) (l : List Fi) (e : Ending) (w' : World) : Prop := ∃ b : Bool, e = .returned (.bool b) ∧ (l = filesF fl → b = true) ∧ Below w.heap.size w w'
section
variable {w : World} {p : DA} {c : CI} {fl : List Fe} {s : Dk}
set_option maxHeartbeats 8000000 in
theorem clean_is (h : DS w p s) (hm : c.may) (hr : Rest c fl s) (S : Nat → Prop) (v : Value) (l : List Fi) (hlen : l.length ≤ 64) (hsm : ∀ f ∈ l, f.b.length ≤ 24576) (hv : FS w S v l) :
  Calls Tryz.prog 21 #[.pointer (some ⟨p.d, 0, none⟩), cfgV c, v] w (fun e w' => e = .returned (.bool (decide (someK c.cn s c.cn.data ≤ pagesL l))) ∧ Below w.heap.size w w') := by
 obtain ⟨R, hR⟩ : ∃ R, R = decide (someK c.cn s c.cn.data ≤ pagesL l) := ⟨_, rfl⟩
 rw [← hR]
 have HR4 := Lib.hid hR
 clear hR
 obtain ⟨A, cp, rfl, hlc, hcm⟩ := hv.form
 have B0 := (Below.refl w.heap.size w).alloc (Nat.le_refl _) (.cells #[.int .i64 c.log, .int .i64 c.files, .int .i64 c.slots, .int .i64 c.data] 23)
 have K0 := KB.new w 23 #[.int .i64 c.log, .int .i64 c.files, .int .i64 c.slots, .int .i64 c.data]
 have him := image_any (h.below B0)
 have hdt := fun W => data_st hm W
 have hsz := fun W => rsize_any c W
 rw [show c.size = (c.cn.size : Int) by unfold CI.size; rw [if_pos hm, sum_cn hm]] at hsz
 have HSZ := Lib.hid hsz
 have HUS := Lib.hid (fun W (b : Below w.heap.size w W) => rused_any S _ l W (hv.below' b) (by omega) fun f hf => by have := hsm f hf; omega)
 have HAT : Hid (∀ i, i < c.cn.size → s.safe[i]? = some (s.now i)) := fun i hi => calm_at hr.stands.1 (by rw [hr.len]; exact hi)
 have HZ : Hid (∀ i, i ≤ c.cn.log → s.now i = zs 256) := hr.stands.2.1
 have HSS := Lib.hid (someK_succ c.cn s)
 have hcd := data_cn hm
 have hlog : c.log = (c.cn.log : Int) := by have := hm.1.1.1; unfold CI.cn; simp only; omega
 have hbs : (c.cn.base : Int) = 1 + c.log + c.files + c.slots := by
  obtain ⟨⟨⟨a1, a2⟩, ⟨b1, b2⟩, ⟨c1, c2⟩, d1, d2⟩, e⟩ := hm
  unfold Cn.base CI.cn
  simp only
  omega
 obtain ⟨⟨⟨a1, a2⟩, ⟨b1, b2⟩, ⟨c1, c2⟩, d1, d2⟩, _⟩ := id hm
 have e1 : IntKind.i64.wrap (1 + c.log) = 1 + c.log := by rw [IntKind.wrap_i64]; omega
 have e2 : IntKind.i64.wrap (1 + c.log + c.files) = 1 + c.log + c.files := by rw [IntKind.wrap_i64]; omega
 have e3 : IntKind.i64.wrap (1 + c.log + c.files + c.slots) = (c.cn.base : Int) := by rw [IntKind.wrap_i64]; omega
 have HB : Hid (c.cn.log < c.cn.size ∧ c.cn.size ≤ 1024 ∧ c.cn.base + c.cn.data = c.cn.size ∧ c.cn.log ≤ 400 ∧ c.cn.data ≤ 800) := ⟨(cn_log _ hm.ok).1, (cn_log _ hm.ok).2, by unfold Cn.base Cn.size; rfl, hm.ok.log2, hm.ok.data2⟩
 have D2 : ((c.cn.data : Int) != c.data) = false := by rw [hcd]; simp
 have HLOG := Lib.hid hlog
 have hln := hr.len
 have HLN := Lib.hid hln
 unfold Told44 at him
 rw [hln] at him
 clear hlog hbs a1 a2 b1 b2 c1 c2 d1 d2 hm hr hsm hsz h hln hcd
 unfold cfgV at *
 go_enter Tryz.func21, Tryz.ntmps21
 go_wp2_with fail
 refine him.mono ?_
 rintro e w1 ⟨vs, rfl, kv, ov, b1⟩
 have hls := Told44.ls kv ov (by rw [HLN.out]; have := HB.out.2.1; unfold maxLen; omega)
 rw [HLN.out] at hls
 have B1 := B0.trans (b1.mono B0.size)
 have K1 := K0.below b1 K0.lt
 have HSP : Hid (∀ W, Below w1.heap.size w1 W → ∀ i x, i < c.cn.size → s.now i = x → ∃ X z, W.cell? ⟨(w.alloc (.cells #[.int .i64 c.log, .int .i64 c.files, .int .i64 c.slots, .int .i64 c.data] 23)).heap.size, i, none⟩ = some (.slice X x.length z) ∧ BS W (fun b => (w.alloc (.cells #[.int .i64 c.log, .int .i64 c.files, .int .i64 c.slots, .int .i64 c.data] 23)).heap.size ≤ b ∧ b < w1.heap.size) (.slice X x.length z) x) := by
  intro W bW i x hi hx
  obtain ⟨b, o, e, _, hbl, hy⟩ := (hls.below' bW).at_ (by rw [HLN.out]; omega)
  injection e with e
  injection e with e1 e2
  obtain ⟨X, z, h1, h2⟩ := hy i x (by rw [← hx]; exact HAT.out i hi)
  subst e1 e2
  rw [Nat.zero_add] at h1
  exact ⟨X, z, h1, h2⟩
 have hig : ∀ x, (w.alloc (.cells #[.int .i64 c.log, .int .i64 c.files, .int .i64 c.slots, .int .i64 c.data] 23)).heap.size = x → True := fun _ _ => trivial
 clear hls kv ov him hig
 generalize (w.alloc (.cells #[.int .i64 c.log, .int .i64 c.files, .int .i64 c.slots, .int .i64 c.data] 23)).heap.size = ig at *
 have r0 := K1.cell 0
 have r1 := K1.cell 1
 have r2 := K1.cell 2
 have r3 := K1.cell 3
 have HK1 := Lib.hid K1
 have hsz1 := K1.lt
 clear K0 K1 b1 B0
 go_wp2_with fail
 refine (hdt _).mono ?_
 rintro e w2 ⟨rfl, b2⟩
 have B2 := B1.trans (b2.mono B1.size)
 have K2 := HK1.out.below b2 hsz1
 have s0 := K2.cell 0
 have s1 := K2.cell 1
 have s2 := K2.cell 2
 have s3 := K2.cell 3
 have hsz2 := HSZ.out w2
 clear hdt r0 r1 r2 r3 HSZ
 go_wp2_with fail
 refine hsz2.mono ?_
 rintro e w3 ⟨rfl, b3⟩
 have b13 := b2.trans (b3.mono b2.size)
 have B3 := B2.trans (b3.mono B2.size)
 have K3 := K2.below b3 K2.lt
 have t0 : w3.cell? ⟨w.heap.size, 0, none⟩ = some (.int .i64 c.log) := K3.cell 0
 have t1 : w3.cell? ⟨w.heap.size, 1, none⟩ = some (.int .i64 c.files) := K3.cell 1
 have t2 : w3.cell? ⟨w.heap.size, 2, none⟩ = some (.int .i64 c.slots) := K3.cell 2
 have t3 : w3.cell? ⟨w.heap.size, 3, none⟩ = some (.int .i64 c.data) := K3.cell 3
 clear hsz2 s0 s1 s2 s3 K2
 go_wp2_with fail
 rename_i KK hKK
 have HKK := Lib.hid hKK
 clear hKK
 obtain ⟨C, hC, hmk⟩ := make_256 w3.drew
 have KZ : KB (w3.alloc (.cells C 5)).drew w3.heap.size 5 ((zs 256).map bv).toArray := by rw [hC]; exact (KB.new w3 5 _).drewN 1
 clear hC
 have hbz := kb_256 KZ (zs_len 256)
 have BZ : Below w3.heap.size w3 (w3.alloc (.cells C 5)).drew := Below_drawn ((Below.refl _ w3).alloc (Nat.le_refl _) _) 1
 have KC : KB (w3.alloc (.cells C 5)).drew w.heap.size 23 #[.int .i64 c.log, .int .i64 c.files, .int .i64 c.slots, .int .i64 c.data] := K3.below BZ K3.lt
 refine wp_region_held_drew (S := (fun _ => True)) (by kernel_rfl) trivial (fun hHeld => ?_)
 refine hyY (some 10) 1 rfl hHeld ?_; go_frame
 refine hyO (some 45) 0 rfl (fun K hK => ?_)
 go_simp
 refine hK.out _ _ ?_ (fun hH2 => ?_)
 ·trivial
 clear hHeld hK K; have hHeld := hH2; clear hH2; try go_frame
 refine hyY (some 11) 2 rfl hHeld ?_; go_frame
 refine wpAnyH_done (by kernel_rfl) ?_ _
 have hKK := HKK.out
 have B5 := B3.trans (BZ.mono B3.size)
 have b15 := b13.trans (BZ.mono b13.size)
 have hsz5 := KC.lt
 have hsz6 := hbz.lt
 clear hmk K3 KZ BZ t0 t1 t2 t3 b13 b2 b3
 generalize (w3.alloc (.cells C 5)).drew = w5 at *
 have q0 : w5.cell? ⟨w.heap.size, 0, none⟩ = some (.int .i64 (c.cn.log : Int)) := by rw [← HLOG.out]; exact KC.cell 0
 have HZB := Lib.hid hbz
 have HKC := Lib.hid KC
 have HB5 := Lib.hid B5
 have hz256 := zs_len 256
 clear hbz KC q0 hz256
 go_wp2_with fail
 go_loopw [12] (fun iv wr => ∃ k : Nat, k ≤ c.cn.log + 1 ∧ iv = .int .i64 (k : Int) ∧ Below w5.heap.size w5 wr) (fun iv _ => c.cn.log + 1 - (intOf iv).toNat)
 case atStart => exact ⟨0, by omega, rfl, Below.refl _ _⟩
 case round =>
  obtain ⟨k, hk, rfl, bl⟩ := hrel
  have KR := HKC.out.below bl hsz5
  have q0 : wr.cell? ⟨w.heap.size, 0, none⟩ = some (.int .i64 (c.cn.log : Int)) := by rw [← HLOG.out]; exact KR.cell 0
  by_cases hlt : k ≤ c.cn.log
  ·have D : decide ((k : Int) ≤ (c.cn.log : Int)) = true := decide_eq_true (by omega)
   have D' : decide (k ≤ c.cn.log) = true := decide_eq_true hlt
   have hkI : (k : Int) < (c.cn.size : Int) := by have := HB.out; omega
   obtain ⟨X, z, h1, h2⟩ := HSP.out wr (b15.trans (bl.mono b15.size)) k (zs 256) (by have := HB.out; omega) (HZ.out k hlt)
   rw [zs_len] at h1 h2
   have hsm := same_to _ _ _ _ (zs 256) wr h2 (HZB.out.below' bl)
   have HBL := Lib.hid bl
   have HLT := Lib.hid hlt
   clear h2 hlt bl
   go_wp2_with fail
   refine hsm.mono ?_
   rintro e wa ⟨rfl, ba⟩
   have BA := HBL.out.trans (ba.mono HBL.out.size)
   clear hsm
   go_wp2_with fail
   go_roundw
   case rel =>
    have hb := HB.out
    have hl := HLT.out
    exact ⟨k + 1, by omega, by rw [IntWalk.wrap64_in _ (by omega)]; rfl, BA⟩
   case measure =>
    have hb := HB.out
    have hl := HLT.out
    rw [IntWalk.wrap64_in _ (by omega)]
    simp [intOf]; omega
  ·have D : decide ((k : Int) ≤ (c.cn.log : Int)) = false := decide_eq_false (by omega)
   have D' : decide (k ≤ c.cn.log) = false := decide_eq_false hlt
   clear hlt hk
   obtain ⟨w6, hw6⟩ : ∃ w6, w6 = wr := ⟨_, rfl⟩
   subst hw6
   have B6 := HB5.out.trans (bl.mono HB5.out.size)
   have b16 := b15.trans (bl.mono b15.size)
   have HZ6 := Lib.hid (HZB.out.below' bl)
   have hdI : (c.cn.base : Int) + (c.cn.data : Int) = (c.cn.size : Int) := by have := HB.out; omega
   have HDI := Lib.hid hdI
   clear hdI KR bl
   go_wp2_with fail
   go_loopw [10, 13] (fun nv iv wr => ∃ k : Nat, k ≤ c.cn.data ∧ iv = .int .i64 (k : Int) ∧ nv = .int .i64 (someK c.cn s k : Int) ∧ Below w6.heap.size w6 wr) (fun _ iv _ => c.cn.data - (intOf iv).toNat)
   case atStart => exact ⟨0, by omega, rfl, rfl, Below.refl _ _⟩
   case round =>
    obtain ⟨k, hk, rfl, rfl, bl⟩ := hrel
    by_cases hlt : k < c.cn.data
    ·have hltI : (k : Int) < (c.cn.data : Int) := by omega
     have ewk : IntKind.i64.wrap ((c.cn.base : Int) + (k : Int)) = ((c.cn.base + k : Nat) : Int) := by rw [IntKind.wrap_i64]; have := HB.out; omega
     have hkI : ((c.cn.base + k : Nat) : Int) < (c.cn.size : Int) := by have := HB.out; omega
     obtain ⟨x, hx⟩ : ∃ x, s.now (c.cn.base + k) = x := ⟨_, rfl⟩
     obtain ⟨X, z, h1, h2⟩ := HSP.out wr (b16.trans (bl.mono b16.size)) (c.cn.base + k) x (by have := HB.out; omega) hx
     have hsm := same_is _ _ _ _ x (zs 256) wr h2 (HZ6.out.below' bl)
     have HS := Lib.hid (HSS.out k)
     have hsl := someK_le c.cn s k
     have HBL := Lib.hid bl
     rw [hx] at HS
     clear h2 bl hx
     generalize hsk : someK c.cn s k = sk at *
     have HSK := Lib.hid hsk
     have HSL := Lib.hid hsl
     clear hsk hsl
     by_cases hz : x = zs 256
     ·rw [decide_eq_true hz] at hsm
      have HS2 : Hid (someK c.cn s (k + 1) = sk) := by show _ = _; rw [HS.out, if_pos hz, Nat.add_zero]
      clear hz
      generalize x.length = xl at *
      go_wp2_with fail
      refine hsm.mono ?_
      rintro e wa ⟨rfl, ba⟩
      have BA := HBL.out.trans (ba.mono HBL.out.size)
      clear hsm
      go_wp2_with fail
      go_roundw
      case rel =>
       have hb := HB.out
       exact ⟨k + 1, by omega, by rw [IntWalk.wrap64_in _ (by omega)]; rfl, by rw [HS2.out], BA⟩
      case measure =>
       have hb := HB.out
       rw [IntWalk.wrap64_in _ (by omega)]
       simp [intOf]; omega
     ·rw [decide_eq_false hz] at hsm
      have HS2 : Hid (someK c.cn s (k + 1) = sk + 1) := by show _ = _; rw [HS.out, if_neg hz]
      clear hz
      generalize x.length = xl at *
      go_wp2_with fail
      refine hsm.mono ?_
      rintro e wa ⟨rfl, ba⟩
      have BA := HBL.out.trans (ba.mono HBL.out.size)
      clear hsm
      go_wp2_with fail
      go_roundw
      case rel =>
       have hb := HB.out
       have hs := HSL.out
       exact ⟨k + 1, by omega, by rw [IntWalk.wrap64_in _ (by omega)]; rfl, by rw [HS2.out, IntWalk.wrap64_in _ (by omega)]; rfl, BA⟩
      case measure =>
       have hb := HB.out
       rw [IntWalk.wrap64_in _ (by omega)]
       simp [intOf]; omega
    ·obtain rfl : k = c.cn.data := by omega
     have BR := B6.trans (bl.mono B6.size)
     have hus := HUS.out wr BR
     have D4 := HR4.out.symm
     generalize someK c.cn s c.cn.data = sk at *
     generalize pagesL l = PL at *
     go_wp2_with (go_at_call 39; refine hus.mono ?_; rintro e w' ⟨rfl, rfl⟩)
     go_ret
     exact ⟨rfl, BR⟩
end
section
variable {w : World} {a : SA} {c : CI} {fl : List Fe} {s : Dk} {br : Bool}
set_option maxHeartbeats 8000000 in
theorem like_some (h : ST w a c (nodesF fl) s br) (hr : Rest c fl s) (hf : s.fuse ≠ 0) (S : Nat → Prop) (v : Value) (l : List Fi) (hlen : l.length ≤ 64) (hsm : ∀ f ∈ l, f.b.length ≤ 24576) (hv : FS w S v l) :
  Calls Tryz.prog 20 #[.pointer (some ⟨a.sg, 0, none⟩), cfgV c, v] w (LikeAs w fl l) := by
 obtain ⟨A, cp, rfl, hlc, hcm⟩ := hv.form
 have hlenF : (filesF fl).length ≤ 64 := by rw [files_len]; exact fine_few hr h.may
 have hsmF := fine_small hr
 have B0 := (Below.refl w.heap.size w).alloc (Nat.le_refl _) (.cells #[.int .i64 c.log, .int .i64 c.files, .int .i64 c.slots, .int .i64 c.data] 23)
 have K0 := KB.new w 23 #[.int .i64 c.log, .int .i64 c.files, .int .i64 c.slots, .int .i64 c.data]
 have HFR := Lib.hid (fun W (b : Below w.heap.size w W) => sfree_rest (h.below b) hr)
 have HLS := Lib.hid (fun W (b : Below w.heap.size w W) => slist_rest (h.below b))
 have HNM := Lib.hid (fun W (b : Below w.heap.size w W) => rnames_any S _ l W (hv.below' b) (by omega))
 have HUS := Lib.hid (fun W (b : Below w.heap.size w W) => rused_any S _ l W (hv.below' b) (by omega) fun f hf => by have := hsm f hf; omega)
 have HRD := Lib.hid (fun W (b : Below w.heap.size w W) x (hx : x ∈ fl) => sread_rest (h.below b) hr hf hx)
 have HGO := Lib.hid (fun W (b : Below w.heap.size w W) => sread_gone (h.below b) (n := noneN) (by decide) fun x hx e => by
  have := (name_iff _).1 (hr.fine.each x hx).name
  rw [e] at this
  have := this.2.1
  simp [noneN] at this)
 have HV := Lib.hid hv
 have HNU := Lib.hid (fun x W => num13_any x W)
 have hnl : namesL (filesF fl) = namesL l → (filesF fl).length = l.length := fun e => by
  have := congrArg List.length e
  rwa [names_len, names_len] at this
 have hbnd : -9223372036854775808 ≤ c.files - (l.length : Int) ∧ c.files - (l.length : Int) ≤ 9223372036854775807 ∧ -9223372036854775808 ≤ c.data - (pagesL l : Int) ∧ c.data - (pagesL l : Int) ≤ 9223372036854775807 := by
  have h1 := pagesL_le (l := l) fun f hf => by have := hsm f hf; omega
  obtain ⟨⟨⟨a1, a2⟩, ⟨b1, b2⟩, ⟨c1, c2⟩, d1, d2⟩, e⟩ := h.may
  omega
 obtain ⟨FF, hFF⟩ : ∃ x, x = c.files - (l.length : Int) := ⟨_, rfl⟩
 obtain ⟨GG, hGG⟩ : ∃ x, x = c.files - ((filesF fl).length : Int) := ⟨_, rfl⟩
 obtain ⟨DD, hDD⟩ : ∃ x, x = c.data - (pagesL l : Int) := ⟨_, rfl⟩
 obtain ⟨EE, hEE⟩ : ∃ x, x = c.data - (pagesL (filesF fl) : Int) := ⟨_, rfl⟩
 have ew1 : IntKind.i64.wrap (c.files - (l.length : Int)) = FF := by rw [IntKind.wrap_i64]; omega
 have ew2 : IntKind.i64.wrap (c.data - (pagesL l : Int)) = DD := by rw [IntKind.wrap_i64]; omega
 have hfr := HFR.out _ B0
 rw [← files_len fl, ← hGG, ← hEE] at hfr
 have HAT : Hid (namesL (filesF fl) = namesL l → ∀ (i : Nat) (f : Fi), l[i]? = some f → ∃ x ∈ fl, x.name = f.name) := fun e i f hf => by
  have hx : f.name ∈ namesL l := (List.mergeSort_perm _ leB).mem_iff.2 (List.mem_map.2 ⟨f, List.mem_of_getElem? hf, rfl⟩)
  rw [← e] at hx
  obtain ⟨y, hy, ey⟩ := List.mem_map.1 ((List.mergeSort_perm _ leB).mem_iff.1 hx)
  obtain ⟨x, hx, rfl⟩ := List.mem_map.1 hy
  exact ⟨x, hx, ey⟩
 have HX1 : Hid (l = filesF fl → namesL (filesF fl) = namesL l) := fun e => by rw [e]
 have HX2 : Hid (l = filesF fl → EE = DD) := fun e => by rw [hEE, hDD, e]
 have HX3 : Hid (l = filesF fl → ∀ (i : Nat) (f : Fi) (x : Fe), l[i]? = some f → x ∈ fl → x.name = f.name → x.b = f.b) := fun e i f x hf hx en => by
  rw [e] at hf
  obtain ⟨y, hy, e1, e2⟩ := files_at hf
  rw [← e2, hr.fine.name x hx y hy (en.trans e1.symm)]
 have HNL := Lib.hid (names_len l)
 have HNF := Lib.hid (names_len (filesF fl))
 have HLF := Lib.hid hlenF
 have HFG : Hid (namesL (filesF fl) = namesL l → GG = FF) := fun e => by rw [hGG, hFF, hnl e]
 clear hFF hDD hGG hEE hbnd h hr hf hsm HFR hnl hlenF hsmF
 obtain ⟨NF, hNF⟩ : ∃ x, x = namesL (filesF fl) := ⟨_, rfl⟩
 rw [← hNF] at HAT HNF HFG HX1
 have HLS : Hid (∀ W, Below w.heap.size w W → Calls Tryz.prog 27 #[.pointer (some ⟨a.sg, 0, none⟩)] W fun e w' => ∃ v, e = .returned v ∧ w'.ownsRow W.heap.size 9 1 v NF.length (NF.map strV) ∧ Below W.heap.size W w') := fun W b => by rw [hNF]; exact HLS.out W b
 clear hNF
 have hl63 : l.length ≤ 9223372036854775807 := by omega
 generalize hpl : pagesL l = PL at *
 clear hpl
 unfold cfgV
 go_enter Tryz.func20, Tryz.ntmps20
 go_wp2_with fail
 refine hfr.mono ?_
 rintro e w1 ⟨rfl, b1⟩
 have B1 := B0.trans (b1.mono B0.size)
 have K1 := K0.below b1 K0.lt
 have hsz := K1.lt
 have BD : Below w.heap.size w w1.drew := Below_drawn B1 1
 have KD : KB w1.drew w.heap.size 23 #[.int .i64 c.log, .int .i64 c.files, .int .i64 c.slots, .int .i64 c.data] := K1.drewN 1
 have HC : Hid (∀ W, Below w1.drew.heap.size w1.drew W → W.cell? ⟨w.heap.size, 1, none⟩ = some (.int .i64 c.files) ∧ W.cell? ⟨w.heap.size, 3, none⟩ = some (.int .i64 c.data)) := fun W b => ⟨(KD.below b KD.lt).cell 1, (KD.below b KD.lt).cell 3⟩
 have HBD := Lib.hid BD
 have hls := HLS.out _ BD
 clear hfr b1 K0 K1 B0 B1
 go_wp2_with fail
 rename_i KK hKK
 have HKK := Lib.hid hKK
 clear hKK
 by_cases hnn : NF = namesL l
 ·have hfg := HFG.out hnn
  subst hfg
  have DF : (GG != GG) = false := by simp
  have hat := HAT.out hnn
  have HAT := Lib.hid hat
  clear hat
  by_cases hdd : EE = DD
  ·subst hdd
   have DE : (EE != EE) = false := by simp
   refine wp_region_held_drew (S := (fun W => W.cell? ⟨w.heap.size, 1, none⟩ = some (.int .i64 c.files) ∧ W.cell? ⟨w.heap.size, 3, none⟩ = some (.int .i64 c.data))) (by kernel_rfl) (HC.out _ (Below.refl _ _)) (fun hHeld => ?_)
   refine hyY (some 19) 0 rfl hHeld ?_; go_frame
   refine hyY (some 21) 2 rfl hHeld ?_; go_frame
   refine hyO (some 20) 1 rfl (fun K hK => ?_)
   go_simp
   go_at_call 27
   refine hls.mono ?_
   rintro e w2 ⟨v2, rfl, o2, b2⟩
   have cs2 := CS.of_own o2
   have hnm := HNM.out w2 (HBD.out.trans (b2.mono HBD.out.size))
   go_wp2_with fail
   refine hK.out _ _ ?_ (fun hH2 => ?_)
   ·first | exact hHeld | exact HC.out _ b4 | exact HC.out _ b3 | exact HC.out _ b2
   clear hHeld hK K; have hHeld := hH2; clear hH2; try go_frame
   refine hyO (some 22) 3 rfl (fun K hK => ?_)
   go_simp
   go_at_call 55
   refine hnm.mono ?_
   rintro e w3 ⟨v3, rfl, o3, b3'⟩
   have cs3 := CS.of_own o3
   have b3 := b2.trans (b3'.mono b2.size)
   have hsn := rsamenames_any _ _ _ _ NF (namesL l) w3 (cs2.below' b3') cs3 (by rw [HNF.out]; have := HLF.out; omega) (by rw [HNL.out]; omega)
   rw [decide_eq_true hnn] at hsn
   go_wp2_with fail
   refine hK.out _ _ ?_ (fun hH2 => ?_)
   ·first | exact hHeld | exact HC.out _ b4 | exact HC.out _ b3 | exact HC.out _ b2
   clear hHeld hK K; have hHeld := hH2; clear hH2; try go_frame
   refine hyO (some 23) 4 rfl (fun K hK => ?_)
   go_simp
   go_at_call 28
   refine hsn.mono ?_
   rintro e w4 ⟨rfl, b4'⟩
   have b4 := b3.trans (b4'.mono b3.size)
   have hus := HUS.out w4 (HBD.out.trans (b4.mono HBD.out.size))
   go_wp2_with fail
   refine hK.out _ _ ?_ (fun hH2 => ?_)
   ·first | exact hHeld | exact HC.out _ b4 | exact HC.out _ b3 | exact HC.out _ b2
   clear hHeld hK K; have hHeld := hH2; clear hH2; try go_frame
   refine hyY (some 24) 5 rfl hHeld ?_; go_frame
   refine hyY (some 25) 6 rfl hHeld ?_; go_frame
   refine hyY (some 26) 7 rfl hHeld ?_; go_frame
   refine hyY (some 27) 8 rfl hHeld ?_; go_frame
   refine hyY (some 28) 9 rfl hHeld ?_; go_frame
   refine hyY (some 29) 10 rfl hHeld ?_; go_frame
   refine hyY (some 30) 11 rfl hHeld ?_; go_frame
   refine hyY (some 31) 12 rfl hHeld ?_; go_frame
   refine hyY (some 32) 13 rfl hHeld ?_; go_frame
   refine hyY (some 33) 14 rfl hHeld ?_; go_frame
   refine hyY (some 34) 15 rfl hHeld ?_; go_frame
   refine hyY (some 35) 16 rfl hHeld ?_; go_frame
   refine hyY (some 36) 17 rfl hHeld ?_; go_frame
   refine hyY (some 37) 18 rfl hHeld ?_; go_frame
   refine hyY (some 38) 19 rfl hHeld ?_; go_frame
   refine hyO (some 39) 20 rfl (fun K hK => ?_)
   go_simp
   go_at_call 39
   refine hus.mono ?_
   rintro e w5 ⟨rfl, rfl⟩
   go_wp2_with fail
   refine hK.out _ _ ?_ (fun hH2 => ?_)
   ·first | exact hHeld | exact HC.out _ b4 | exact HC.out _ b3 | exact HC.out _ b2
   clear hHeld hK K; have hHeld := hH2; clear hH2; try go_frame
   refine hyY (some 40) 21 rfl hHeld ?_; go_frame
   refine hyY (some 41) 22 rfl hHeld ?_; go_frame
   refine hyY (some 42) 23 rfl hHeld ?_; go_frame
   refine wpAnyH_done (by kernel_rfl) ?_ _
   have hKK := HKK.out
   have B4 := HBD.out.trans (b4.mono HBD.out.size)
   clear hus hsn hnm hls b2 b3 b3' b4 b4' cs2 cs3 o2 o3 hHeld HC HBD BD KD
   go_wp2_with fail
   have hB4 := Lib.hid B4
   have hnu := HNU.out
   go_loopw [9] (fun iv wr => ∃ k : Nat, k ≤ l.length ∧ iv = .int .i64 (k : Int) ∧ Below w.heap.size w wr) (fun iv _ => l.length - (intOf iv).toNat)
   case atStart => exact ⟨0, by omega, rfl, B4⟩
   case round =>
    clear B4
    obtain ⟨k, hk, rfl, bl⟩ := hrel
    by_cases hlt : k < l.length
    ·have hltI : (k : Int) < (l.length : Int) := by omega
     obtain ⟨b, o, rfl, sb, hbl, hx⟩ := HV.out.at_ (by omega)
     obtain ⟨f, hf⟩ : ∃ f, l[k]? = some f := ⟨_, List.getElem?_eq_getElem hlt⟩
     obtain ⟨j0, hnm, ⟨X, z, j1, hbs⟩, _⟩ := hx k f hf
     obtain ⟨x, hx2, en⟩ := HAT.out k f hf
     have hrd := HRD.out wr bl x hx2
     rw [en] at hrd
     have HFK := Lib.hid hf
     have HXF := Lib.hid hx2
     have HEN := Lib.hid en
     have q0 := (World.cell?_of_block (w := w) (bl.block b hbl)).trans j0
     clear hx hf en hx2
     unfold strV at q0 hrd
     generalize (⟨f.name.toArray⟩ : ByteArray) = fn at *
     go_wp2_with fail
     refine hrd.mono ?_
     rintro e wa ⟨va, rfl, xa, ba⟩
     have BA := bl.trans (ba.mono bl.size)
     have q1 := (World.cell?_of_block (w := w) (BA.block b hbl)).trans j1
     obtain ⟨Aa, ca, rfl, _⟩ := xa.form
     have hsm := same_is _ _ _ _ x.b f.b wa xa (hbs.below' BA)
     clear hrd ba
     generalize f.b.length = fb at *
     generalize x.b.length = xb at *
     go_wp2_with (go_at_call 9; refine (hnu _ _).mono ?_; rintro e w' ⟨rfl, rfl⟩)
     refine hsm.mono ?_
     rintro e wb ⟨rfl, bb⟩
     have BB := BA.trans (bb.mono BA.size)
     clear hsm
     obtain ⟨sm, hsm2⟩ : ∃ sm, sm = decide (x.b = f.b) := ⟨_, rfl⟩
     rw [← hsm2]
     have HSM := Lib.hid hsm2
     clear hsm2
     cases sm with
     | true =>
      go_wp2_with fail
      go_roundw
      case rel => exact ⟨k + 1, by omega, by go_num, BB⟩
      case measure => simp [intOf]; omega
     | false =>
      go_wp2_with fail
      go_ret
      exact ⟨false, rfl, fun e => by have := HSM.out; exact absurd (HX3.out e k f x HFK.out HXF.out HEN.out) (by simpa using this.symm), BB⟩
    ·obtain rfl : k = l.length := by omega
     have hgo := HGO.out wr bl
     unfold strV noneN at hgo
     go_wp2_with fail
     refine hgo.mono ?_
     rintro e wc ⟨rfl, bc⟩
     have BC := bl.trans (bc.mono bl.size)
     clear hgo
     go_wp2_with (go_at_call 9; refine (hnu _ _).mono ?_; rintro e w' ⟨rfl, rfl⟩)
     go_ret
     exact ⟨true, rfl, fun _ => rfl, BC⟩
  ·have DE : (EE != DD) = true := by simpa using hdd
   refine wp_region_held_drew (S := (fun W => W.cell? ⟨w.heap.size, 1, none⟩ = some (.int .i64 c.files) ∧ W.cell? ⟨w.heap.size, 3, none⟩ = some (.int .i64 c.data))) (by kernel_rfl) (HC.out _ (Below.refl _ _)) (fun hHeld => ?_)
   refine hyY (some 19) 0 rfl hHeld ?_; go_frame
   refine hyY (some 21) 2 rfl hHeld ?_; go_frame
   refine hyO (some 20) 1 rfl (fun K hK => ?_)
   go_simp
   go_at_call 27
   refine hls.mono ?_
   rintro e w2 ⟨v2, rfl, o2, b2⟩
   have cs2 := CS.of_own o2
   have hnm := HNM.out w2 (HBD.out.trans (b2.mono HBD.out.size))
   go_wp2_with fail
   refine hK.out _ _ ?_ (fun hH2 => ?_)
   ·first | exact hHeld | exact HC.out _ b4 | exact HC.out _ b3 | exact HC.out _ b2
   clear hHeld hK K; have hHeld := hH2; clear hH2; try go_frame
   refine hyO (some 22) 3 rfl (fun K hK => ?_)
   go_simp
   go_at_call 55
   refine hnm.mono ?_
   rintro e w3 ⟨v3, rfl, o3, b3'⟩
   have cs3 := CS.of_own o3
   have b3 := b2.trans (b3'.mono b2.size)
   have hsn := rsamenames_any _ _ _ _ NF (namesL l) w3 (cs2.below' b3') cs3 (by rw [HNF.out]; have := HLF.out; omega) (by rw [HNL.out]; omega)
   rw [decide_eq_true hnn] at hsn
   go_wp2_with fail
   refine hK.out _ _ ?_ (fun hH2 => ?_)
   ·first | exact hHeld | exact HC.out _ b4 | exact HC.out _ b3 | exact HC.out _ b2
   clear hHeld hK K; have hHeld := hH2; clear hH2; try go_frame
   refine hyO (some 23) 4 rfl (fun K hK => ?_)
   go_simp
   go_at_call 28
   refine hsn.mono ?_
   rintro e w4 ⟨rfl, b4'⟩
   have b4 := b3.trans (b4'.mono b3.size)
   have hus := HUS.out w4 (HBD.out.trans (b4.mono HBD.out.size))
   go_wp2_with fail
   refine hK.out _ _ ?_ (fun hH2 => ?_)
   ·first | exact hHeld | exact HC.out _ b4 | exact HC.out _ b3 | exact HC.out _ b2
   clear hHeld hK K; have hHeld := hH2; clear hH2; try go_frame
   refine hyY (some 24) 5 rfl hHeld ?_; go_frame
   refine hyY (some 25) 6 rfl hHeld ?_; go_frame
   refine hyY (some 26) 7 rfl hHeld ?_; go_frame
   refine hyY (some 27) 8 rfl hHeld ?_; go_frame
   refine hyY (some 28) 9 rfl hHeld ?_; go_frame
   refine hyY (some 29) 10 rfl hHeld ?_; go_frame
   refine hyY (some 30) 11 rfl hHeld ?_; go_frame
   refine hyY (some 31) 12 rfl hHeld ?_; go_frame
   refine hyY (some 32) 13 rfl hHeld ?_; go_frame
   refine hyY (some 33) 14 rfl hHeld ?_; go_frame
   refine hyY (some 34) 15 rfl hHeld ?_; go_frame
   refine hyY (some 35) 16 rfl hHeld ?_; go_frame
   refine hyY (some 36) 17 rfl hHeld ?_; go_frame
   refine hyY (some 37) 18 rfl hHeld ?_; go_frame
   refine hyY (some 38) 19 rfl hHeld ?_; go_frame
   refine hyO (some 39) 20 rfl (fun K hK => ?_)
   go_simp
   go_at_call 39
   refine hus.mono ?_
   rintro e w5 ⟨rfl, rfl⟩
   go_wp2_with fail
   refine hK.out _ _ ?_ (fun hH2 => ?_)
   ·first | exact hHeld | exact HC.out _ b4 | exact HC.out _ b3 | exact HC.out _ b2
   clear hHeld hK K; have hHeld := hH2; clear hH2; try go_frame
   refine hyY (some 40) 21 rfl hHeld ?_; go_frame
   refine hyY (some 41) 22 rfl hHeld ?_; go_frame
   refine hyY (some 42) 23 rfl hHeld ?_; go_frame
   refine wpAnyH_done (by kernel_rfl) ?_ _
   have hKK := HKK.out
   have B4 := HBD.out.trans (b4.mono HBD.out.size)
   go_wp2_with fail
   go_ret
   exact ⟨false, rfl, fun e => absurd (HX2.out e) hdd, B4⟩
 ·have hnn2 := hnn
  refine wp_region_held_drew (S := (fun W => W.cell? ⟨w.heap.size, 1, none⟩ = some (.int .i64 c.files) ∧ W.cell? ⟨w.heap.size, 3, none⟩ = some (.int .i64 c.data))) (by kernel_rfl) (HC.out _ (Below.refl _ _)) (fun hHeld => ?_)
  refine hyY (some 19) 0 rfl hHeld ?_; go_frame
  refine hyY (some 21) 2 rfl hHeld ?_; go_frame
  refine hyO (some 20) 1 rfl (fun K hK => ?_)
  go_simp
  go_at_call 27
  refine hls.mono ?_
  rintro e w2 ⟨v2, rfl, o2, b2⟩
  have cs2 := CS.of_own o2
  have hnm := HNM.out w2 (HBD.out.trans (b2.mono HBD.out.size))
  go_wp2_with fail
  refine hK.out _ _ ?_ (fun hH2 => ?_)
  ·first | exact hHeld | exact HC.out _ b4 | exact HC.out _ b3 | exact HC.out _ b2
  clear hHeld hK K; have hHeld := hH2; clear hH2; try go_frame
  refine hyO (some 22) 3 rfl (fun K hK => ?_)
  go_simp
  go_at_call 55
  refine hnm.mono ?_
  rintro e w3 ⟨v3, rfl, o3, b3'⟩
  have cs3 := CS.of_own o3
  have b3 := b2.trans (b3'.mono b2.size)
  have hsn := rsamenames_any _ _ _ _ NF (namesL l) w3 (cs2.below' b3') cs3 (by rw [HNF.out]; have := HLF.out; omega) (by rw [HNL.out]; omega)
  rw [decide_eq_false hnn] at hsn
  go_wp2_with fail
  refine hK.out _ _ ?_ (fun hH2 => ?_)
  ·first | exact hHeld | exact HC.out _ b4 | exact HC.out _ b3 | exact HC.out _ b2
  clear hHeld hK K; have hHeld := hH2; clear hH2; try go_frame
  refine hyO (some 23) 4 rfl (fun K hK => ?_)
  go_simp
  go_at_call 28
  refine hsn.mono ?_
  rintro e w4 ⟨rfl, b4'⟩
  have b4 := b3.trans (b4'.mono b3.size)
  go_wp2_with fail
  refine hK.out _ _ ?_ (fun hH2 => ?_)
  ·first | exact hHeld | exact HC.out _ b4 | exact HC.out _ b3 | exact HC.out _ b2
  clear hHeld hK K; have hHeld := hH2; clear hH2; try go_frame
  refine hyY (some 24) 5 rfl hHeld ?_; go_frame
  refine hyY (some 25) 6 rfl hHeld ?_; go_frame
  refine hyN (some 26) 7 rfl hHeld ?_; go_frame
  refine hyN (some 27) 8 rfl hHeld ?_; go_frame
  refine hyN (some 28) 9 rfl hHeld ?_; go_frame
  refine hyN (some 29) 10 rfl hHeld ?_; go_frame
  refine hyN (some 30) 11 rfl hHeld ?_; go_frame
  refine hyN (some 31) 12 rfl hHeld ?_; go_frame
  refine hyN (some 32) 13 rfl hHeld ?_; go_frame
  refine hyY (some 33) 14 rfl hHeld ?_; go_frame
  refine hyY (some 34) 15 rfl hHeld ?_; go_frame
  refine hyN (some 35) 16 rfl hHeld ?_; go_frame
  refine hyN (some 36) 17 rfl hHeld ?_; go_frame
  refine hyN (some 37) 18 rfl hHeld ?_; go_frame
  refine hyN (some 38) 19 rfl hHeld ?_; go_frame
  refine hyN (some 39) 20 rfl hHeld ?_; go_frame
  refine hyN (some 40) 21 rfl hHeld ?_; go_frame
  refine hyN (some 41) 22 rfl hHeld ?_; go_frame
  refine hyY (some 42) 23 rfl hHeld ?_; go_frame
  refine wpAnyH_done (by kernel_rfl) ?_ _
  have hKK := HKK.out
  have B4 := HBD.out.trans (b4.mono HBD.out.size)
  go_wp2_with fail
  go_ret
  exact ⟨false, rfl, fun e => absurd (HX1.out e) hnn, B4⟩
theorem like_any (h : ST w a c (nodesF fl) s br) (hr : Rest c fl s) (hf : s.fuse ≠ 0) (S : Nat → Prop) (v : Value) (hv : FS w S v (filesF fl)) :
  Calls Tryz.prog 20 #[.pointer (some ⟨a.sg, 0, none⟩), cfgV c, v] w (Yes13 w) :=
 (like_some h hr hf S v (filesF fl) (by rw [files_len]; exact fine_few hr h.may) (fine_small hr) hv).mono fun e w' ⟨b, e1, e2, e3⟩ => ⟨by rw [e1, e2 rfl], e3⟩
theorem clean_any {p : DA} (h : DS w p s) (hm : c.may) (hr : Rest c fl s) (S : Nat → Prop) (v : Value) (hv : FS w S v (filesF fl)) :
  Calls Tryz.prog 21 #[.pointer (some ⟨p.d, 0, none⟩), cfgV c, v] w (Yes13 w) :=
 (clean_is h hm hr S v (filesF fl) (by rw [files_len]; exact fine_few hr hm) (fine_small hr) hv).mono fun e w' ⟨e1, e2⟩ => ⟨by rw [e1, decide_eq_true (by rw [files_pages]; exact some_used hr)], e2⟩
end
end
end Go.Proofs.YteddmnoeljakpaaGreatDoor
