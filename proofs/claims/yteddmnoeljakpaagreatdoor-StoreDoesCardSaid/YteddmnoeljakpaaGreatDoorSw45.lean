/-
  SuN: A store at rest: Read of its files; begin, live of the law, over the loaded program. No condition but the table roots.
  SuO: live of the law, over the loaded program: the page's example. No condition but the table roots.
-/
import Derived.Test.YteddmnoeljakpaaGreatDoorSw44
import Derived.Test.YteddmnoeljakpaaGreatDoorSw11
import Derived.Test.YteddmnoeljakpaaGreatDoorSw33
set_option linter.unusedVariables false
set_option maxRecDepth 100000
namespace Go.Proofs.YteddmnoeljakpaaGreatDoor
section
open Go.RowKit
section
variable {w : World} {a : SA} {c : CI} {fl : List Fe} {s : Dk} {br : Bool}
theorem read_rest (hm : c.may) (hr : Rest c fl s) {x : Fe} (hx : x ∈ fl) : readN c s (ndF x) = x.b := by
  have e : rawN c s x.at_ = readF c.cn s.now x.at_ := by
    unfold rawN readF
    rw [List.flatMap_def, List.flatMap_def]
    congr 1
    refine List.map_congr_left fun z hz => ?_
    have := okB_mem (hr.fine.each x hx).at_ hz
    rw [show ((c.cn.base : Int) + z).toNat = c.cn.base + z.toNat by omega]
  have := readF_img hr.fine hx (W := s.now) fun i h1 h2 => hr.stands.2.2 i (by unfold Cn.base at h1; omega) h2
  unfold readN
  show (rawN c s x.at_).take ((x.b.length : Int)).toNat = x.b
  rw [e, Int.toNat_natCast]
  exact this
theorem sread_rest (h : ST w a c (nodesF fl) s br) (hr : Rest c fl s) (hf : s.fuse ≠ 0) {x : Fe} (hx : x ∈ fl) : Calls Tryz.prog 29 #[.pointer (some ⟨a.sg, 0, none⟩), strV x.name] w fun e w' =>
    ∃ v, e = .returned (.tuple #[v, .int .i64 0]) ∧ BS w' (fun b => w.heap.size ≤ b) v x.b ∧ Below w.heap.size w w' := by
  have hl := look_fe hr.fine.names hx
  have := sread_some h hf (may_name (hr.fine.each x hx).name) hl
  rw [read_rest h.may hr hx] at this
  exact this
theorem sread_gone (h : ST w a c (nodesF fl) s br) {n : List UInt8} (hn : n.length ≤ maxLen) (hno : ∀ x ∈ fl, x.name ≠ n) : Calls Tryz.prog 29 #[.pointer (some ⟨a.sg, 0, none⟩), strV n] w fun e w' =>
    e = .returned (.tuple #[.slice none 0 0, .int .i64 5]) ∧ Below w.heap.size w w' := sread_none h hn (look_fe_none hno)
theorem sfree_rest (h : ST w a c (nodesF fl) s br) (hr : Rest c fl s) : Calls Tryz.prog 31 #[.pointer (some ⟨a.sg, 0, none⟩)] w fun e w' =>
    e = .returned (.tuple #[.int .i64 (c.files - (fl.length : Int)), .int .i64 (c.data - (pagesL (filesF fl) : Int))]) ∧ Below w.heap.size w w' := by
  have := sfree_any h
  have hcf : (c.cn.files : Int) = c.files := by
    have := h.may.1.2.1.1
    unfold CI.cn
    simp only
    omega
  rw [usC_nodes hr.fine, nodes_len, hcf, data_cn h.may, ← files_pages] at this
  exact this
theorem slist_rest (h : ST w a c (nodesF fl) s br) : Calls Tryz.prog 27 #[.pointer (some ⟨a.sg, 0, none⟩)] w fun e w' =>
    ∃ v, e = .returned v ∧ w'.ownsRow w.heap.size 9 1 v (namesL (filesF fl)).length ((namesL (filesF fl)).map strV) ∧ Below w.heap.size w w' := by
  have := slist_any h
  rw [names_nodes] at this
  exact this
end
theorem img_none (c : Cn) (i : Nat) : imgF c [] i = zs 256 := rfl
theorem rest_blank {c : CI} (hm : c.may) : Rest c [] (blank c.cn.size) := by
  refine ⟨Fine13.nil _, blank_len _, ?_⟩
  have := blank_stands (n := c.cn.log) (N := c.cn.size) (cn_log _ hm.ok).1
  exact ⟨this.1, this.2.1, fun i h1 h2 => by rw [this.2.2 i h1 h2, img_none]⟩
theorem num13_any (x : Int) (w : World) : Calls Tryz.prog 9 #[.int .i64 x] w fun e w' => e = .returned (.int .i64 x) ∧ w = w' := by
  go_enter Tryz.func9, Tryz.ntmps9
  go_wp2
  go_ret
  exact ⟨rfl, rfl⟩
theorem begin_any (c : CI) (hm : c.may) (w : World) (ht : Tab w) : Calls Tryz.prog 15 #[cfgV c] w fun e w' =>
    ∃ a : SA, e = .returned (.tuple #[.pointer (some ⟨a.p.d, 0, none⟩), .pointer (some ⟨a.sg, 0, none⟩), .bool true]) ∧ ST w' a c [] (blank c.cn.size) false ∧ (∀ x, a.has x → w.heap.size ≤ x) ∧ Below w.heap.size w w' := by
  have B0 := (Below.refl w.heap.size w).alloc (Nat.le_refl _) (.cells #[.int .i64 c.log, .int .i64 c.files, .int .i64 c.slots, .int .i64 c.data] 23)
  have K0 := KB.new w 23 #[.int .i64 c.log, .int .i64 c.files, .int .i64 c.slots, .int .i64 c.data]
  have hsz := fun W => ssize_any c W
  have hcs : c.size = (c.cn.size : Int) := by unfold CI.size; rw [if_pos hm, sum_cn hm]
  rw [hcs] at hsz
  have HN : Hid (1 ≤ c.cn.size ∧ c.cn.size ≤ 1024) := ⟨by unfold Cn.size; omega, (cn_log _ hm.ok).2⟩
  have HT := Lib.hid ht
  have HM := Lib.hid hm
  have HNU := Lib.hid (fun x W => num13_any x W)
  clear ht hcs
  unfold cfgV at *
  go_enter Tryz.func15, Tryz.ntmps15
  go_wp2_with fail
  refine (hsz _).mono ?_
  rintro e w1 ⟨rfl, b1⟩
  have B1 := B0.trans (b1.mono B0.size)
  have K1 := K0.below b1 K0.lt
  have hnw := new_made c.cn.size w1 HN.out.1 HN.out.2
  clear hsz B0 K0 b1
  go_wp2_with fail
  refine hnw.mono ?_
  rintro e w2 ⟨p, rfl, d2, fp, b2⟩
  have B2 := B1.trans (b2.mono B1.size)
  have K2 := K1.below b2 K1.lt
  have hs12 := B1.size
  have r0 := K2.cell 0
  have r1 := K2.cell 1
  have r2 := K2.cell 2
  have r3 := K2.cell 3
  have hr0 := HT.out.1
  have hop := sopen_rest d2 HM.out (rest_blank HM.out) (by rw [blank_fuse]; decide) (HT.out.below B2) (fun e => by have := fp _ e; omega)
  unfold cfgV at hop
  clear hnw d2 b2 B1 K1 hm
  go_wp2_with fail
  refine hop.mono ?_
  rintro e w3 ⟨a, rfl, rfl, hst, hha, hk⟩
  have hs2 := B2.size
  have HB : Hid (Below w.heap.size w w3) := B2.trans (hk.to_below (B := w.heap.size) fun x hx => ⟨by omega, fun e => by have := fp x e; omega⟩)
  have HST := Lib.hid hst
  have HHA : Hid (∀ x, a.has x → w.heap.size ≤ x) := fun x hx => by
    rcases hha x hx with e | e
    · have := fp x e; omega
    · omega
  clear hop hst hha hk K2 r0 r1 r2 r3
  have hnu := HNU.out
  go_wp2_with (go_at_call 9; refine (hnu _ _).mono ?_; rintro e w' ⟨rfl, rfl⟩)
  go_ret3
  exact ⟨a, rfl, HST.out, HHA.out, HB.out⟩
end
section
open Go.RowKit
def Yes13 (w : World) (e : Ending) (w' : World) : Prop := e = .returned (.bool true) ∧ Below w.heap.size w w'
def ex13 : CI := ⟨6, 2, 0, 4⟩
def exF : Fi := ⟨[97], List.replicate 300 0, false⟩
theorem ex_may : ex13.may := by decide
theorem ex_try : tryN ex13 (nodesF []) false [exF] = 0 := by decide +kernel
theorem one_file {fl : List Fe} (h : filesF fl = [exF]) : ∃ x, fl = [x] ∧ x.name = [97] ∧ x.b = List.replicate 300 0 := by
  match fl, h with
  | [x], h =>
    have h1 : [fiF x] = [exF] := h
    have h2 : fiF x = exF := List.cons.inj h1 |>.1
    unfold fiF exF at h2
    injection h2 with h3 h4
    exact ⟨x, rfl, h3, h4⟩
  | [], h => cases h
  | x :: y :: r, h =>
    have := congrArg List.length h
    simp [filesF] at this
theorem ex_next : filesF (nextF ex13.cn [] [exF]) = [exF] := by
  rw [files_next]
  rfl
theorem ex_pages : pagesL [exF] = 2 := by decide +kernel
theorem ex_names : namesL [exF] = [[97]] := by
  unfold namesL
  simp [exF]
theorem FS.one {w : World} {S S' : Nat → Prop} {f : Fi} {X : Option Addr} {z : Nat} {t : TypeId} (hn : f.name.length ≤ maxLen) (h : BS w S (.slice X f.b.length z) f.b) (hS : ∀ b, S b → b < w.heap.size → S' b) (hg : S' w.heap.size) :
    FS (w.alloc (.cells #[strV f.name, .slice X f.b.length z, .bool f.gone] t)) S' (.slice (some ⟨w.heap.size, 0, none⟩) 1 1) [f] := by
  have K := KB.new w t #[strV f.name, .slice X f.b.length z, .bool f.gone]
  refine ⟨_, 1, rfl, Nat.le_refl _, by unfold maxLen; omega, fun _ => ⟨w.heap.size, 0, rfl, hg, K.lt, fun j g hj => ?_⟩⟩
  match j, hj with
  | 0, hj =>
    obtain rfl := Option.some.inj hj
    exact ⟨K.cell 0, hn, ⟨X, z, K.cell 1, (h.lt.alloc _).mono fun b hb => hS b hb.1 hb.2⟩, K.cell 2⟩
theorem make_300 (w : World) : ∃ C, C = ((List.replicate 300 (0 : UInt8)).map bv).toArray ∧ (Instr.makeSlice 55 (.int .i64 300) (.int .i64 300)).run Tryz.prog w = .ok (.slice (some ⟨w.heap.size, 0, none⟩) 300 300) (w.alloc (.cells C 5)) := ⟨_, rfl, make_bytes w 300 (by omega)⟩
set_option maxHeartbeats 4000000 in
theorem live13_any (w : World) (ht : Tab w) : Calls Tryz.prog 12 #[] w (Yes13 w) := by
  have B0 := (Below.refl w.heap.size w).alloc (Nat.le_refl _) (.cells #[.int .i64 6, .int .i64 2, .int .i64 0, .int .i64 4] 23)
  have K0 := KB.new w 23 #[.int .i64 6, .int .i64 2, .int .i64 0, .int .i64 4]
  have hsz : ∀ W, Calls Tryz.prog 11 #[.agg #[.int .i64 6, .int .i64 2, .int .i64 0, .int .i64 4]] W fun e w' => e = .returned (.int .i64 13) ∧ Below W.heap.size W w' := fun W => ssize_any ex13 W
  have HT := Lib.hid ht
  have HNU := Lib.hid (fun x W => num13_any x W)
  have r0 := K0.cell 0
  have r1 := K0.cell 1
  have r2 := K0.cell 2
  have r3 := K0.cell 3
  have hr0 := ht.1
  clear ht
  go_enter Tryz.func12, Tryz.ntmps12
  go_wp2_with fail
  refine (hsz _).mono ?_
  rintro e w1 ⟨rfl, b1⟩
  have B1 := B0.trans (b1.mono B0.size)
  have K1 := K0.below b1 K0.lt
  have hnw := new_made 13 w1 (by omega) (by omega)
  clear hsz B0 K0 b1 r0 r1 r2 r3
  go_wp2_with fail
  refine hnw.mono ?_
  rintro e w2 ⟨p, rfl, d2, fp, b2⟩
  have B2 := B1.trans (b2.mono B1.size)
  have K2 := K1.below b2 K1.lt
  have hs12 := B1.size
  have r0 := K2.cell 0
  have r1 := K2.cell 1
  have r2 := K2.cell 2
  have r3 := K2.cell 3
  have hop : Calls Tryz.prog 22 #[.pointer (some ⟨p.d, 0, none⟩), .agg #[.int .i64 6, .int .i64 2, .int .i64 0, .int .i64 4]] w2 _ := sopen_rest (c := ex13) (fl := []) d2 ex_may (rest_blank ex_may) (by rw [blank_fuse]; decide) (HT.out.below B2) (fun e => by have := fp _ e; omega)
  clear hnw d2 b2 B1 K1
  go_wp2_with fail
  refine hop.mono ?_
  rintro e w3 ⟨a, rfl, rfl, hst, hha, hk⟩
  have hs2 := B2.size
  have B3 : Below w.heap.size w w3 := B2.trans (hk.to_below (B := w.heap.size) fun x hx => ⟨by omega, fun e => by have := fp x e; omega⟩)
  have HHA : Hid (∀ x, a.has x → w.heap.size ≤ x) := fun x hx => by
    rcases hha x hx with e | e
    · have := fp x e; omega
    · omega
  obtain ⟨C, hC, hmk⟩ := make_300 w3
  have KC := KB.new w3 5 C
  have hbs : BS (w3.alloc (.cells C 5)) (fun b => b = w3.heap.size) (.slice (some ⟨w3.heap.size, 0, none⟩) 300 300) (List.replicate 300 0) := by rw [hC]; exact (KB.new w3 5 _).bsA (by simp) (by unfold maxLen; omega)
  have hfs := FS.one (S' := fun b => w3.heap.size ≤ b) (f := exF) (z := 300) (t := 71) (by simp [exF, maxLen]) hbs (fun b hb _ => by have : b = w3.heap.size := hb; omega) (by simp)
  have hal := hst.lt
  have hdo := sdo_any ((hst.alloc (.cells C 5)).alloc (.cells #[strV exF.name, .slice (some ⟨w3.heap.size, 0, none⟩) exF.b.length 300, .bool exF.gone] 71)) (Fine13.nil _) _ _ _ hfs (fun b hb e => by have := hal b e; have : w3.heap.size ≤ b := hb; omega) (by simp)
  obtain ⟨e1, e2, e3, e4⟩ := do_rest (c := ex13) (fl := []) (s := blank 13) ex_may (rest_blank ex_may) (blank_fuse _) [exF]
  rw [ex_try] at e1
  rw [ex_try, if_pos rfl] at e4
  unfold DoAs at hdo
  rw [e1, e4] at hdo
  rw [e4] at e3
  obtain ⟨x, hx, hxn, hxb⟩ := one_file ex_next
  have HFF := Lib.hid (ex_next)
  rw [hx] at hdo e3 HFF
  generalize (doF ex13 [] false [exF] (blank 13)).1 = s4 at *
  have HR := Lib.hid e3
  have HF := Lib.hid e2
  have HXN := Lib.hid hxn
  have HXB := Lib.hid hxb
  have B5 := (B3.alloc B3.size (.cells C 5)).trans ((Below.refl _ _).alloc (Nat.le_refl _) (.cells #[.string ⟨#[97]⟩, .slice (some ⟨w3.heap.size, 0, none⟩) 300 300, .bool false] 71) |>.mono (by have := B3.size; simp; omega))
  have HDO : Hid (Calls Tryz.prog 18 #[.pointer (some ⟨a.sg, 0, none⟩), .slice (some ⟨(w3.alloc (.cells C 5)).heap.size, 0, none⟩) 1 1] ((w3.alloc (.cells C 5)).alloc (.cells #[.string ⟨#[97]⟩, .slice (some ⟨w3.heap.size, 0, none⟩) 300 300, .bool false] 71)) _) := hdo
  have hdo2 := HDO.out
  rw [World.size_alloc] at hdo2
  clear hop hst hha hk K2 r0 r1 r2 r3 hdo HDO e1 e2 e3 e4 hx hxn hxb hfs hbs hC KC
  go_wp2_with fail
  refine hdo2.mono ?_
  rintro e w6 ⟨rfl, ⟨br, hst, hbr, _⟩, hk⟩
  have hk : KeepP (OffS a ((w3.alloc (.cells C 5)).alloc (.cells #[.string ⟨#[97]⟩, .slice (some ⟨w3.heap.size, 0, none⟩) 300 300, .bool false] 71))) ((w3.alloc (.cells C 5)).alloc (.cells #[.string ⟨#[97]⟩, .slice (some ⟨w3.heap.size, 0, none⟩) 300 300, .bool false] 71)) w6 := hk
  have B6 : Below w.heap.size w w6 := B5.trans (hk.to_below (B := w.heap.size) fun y hy => ⟨by have := B5.size; omega, fun e => by have := HHA.out y e; omega⟩)
  have hrd := sread_rest hst HR.out (by rw [HF.out]; decide) (List.mem_singleton_self x)
  rw [HXN.out, HXB.out] at hrd
  unfold strV at hrd
  have hrd2 : Calls Tryz.prog 29 #[.pointer (some ⟨a.sg, 0, none⟩), .string ⟨#[97]⟩] w6 fun e w' => ∃ A c, e = .returned (.tuple #[.slice A 300 c, .int .i64 0]) ∧ Below w6.heap.size w6 w' := hrd.mono fun e w' h => by
    obtain ⟨v, h1, h2, h3⟩ := h
    obtain ⟨A, c, h4, _⟩ := h2.form
    rw [List.length_replicate] at h4
    exact ⟨A, c, by rw [h1, h4], h3⟩
  have HST := Lib.hid hst
  clear hmk hdo2 hst hbr hk hal hrd
  go_wp2_with fail
  refine hrd2.mono ?_
  rintro e w7 ⟨A7, c7, rfl, b7⟩
  have B7 := B6.trans (b7.mono B6.size)
  have HST7 := Lib.hid (HST.out.below b7)
  have hfr := sfree_rest HST7.out HR.out
  rw [HFF.out, ex_pages] at hfr
  have hfr2 : Calls Tryz.prog 31 #[.pointer (some ⟨a.sg, 0, none⟩)] w7 fun e w' => e = .returned (.tuple #[.int .i64 1, .int .i64 2]) ∧ Below w7.heap.size w7 w' := hfr
  clear hrd2 b7 hfr
  go_wp2_with fail
  refine hfr2.mono ?_
  rintro e w8 ⟨rfl, b8⟩
  have B8 := B7.trans (b8.mono B7.size)
  have HST8 := Lib.hid (HST7.out.below b8)
  have hls := slist_rest HST8.out
  rw [HFF.out, ex_names] at hls
  have hnu := HNU.out
  clear hfr2 b8
  go_wp2_with (go_at_call 9; refine (hnu _ _).mono ?_; rintro e w' ⟨rfl, rfl⟩)
  refine hls.mono ?_
  rintro e w9 ⟨v9, rfl, o9, b9⟩
  have B9 := B8.trans (b9.mono B8.size)
  have cs9 := CS.of_own o9
  have KA := KB.new w9 9 #[.string ⟨#[97]⟩]
  have BA := (Below.refl w9.heap.size w9).alloc (Nat.le_refl _) (.cells #[.string ⟨#[97]⟩] 9)
  have csA := cs9.below' BA
  have csB : CS (w9.alloc (.cells #[.string ⟨#[97]⟩] 9)) (fun b => b = w9.heap.size) (.slice (some ⟨w9.heap.size, 0, none⟩) 1 1) ([[97]].map strV) :=
    ⟨_, 1, rfl, Nat.le_refl _, by unfold maxLen; omega, fun _ => ⟨w9.heap.size, 0, rfl, rfl, KA.lt, fun j u hj => by
      match j, hj with
      | 0, hj =>
        simp at hj
        subst hj
        exact KA.cell 0⟩⟩
  have hsn := rsamenames_any _ _ _ _ [[97]] [[97]] _ csA csB (by simp) (by simp)
  rw [decide_eq_true rfl] at hsn
  have BB := B9.trans (BA.mono B9.size)
  clear hls o9 b9 cs9 csA csB KA BA hnu
  go_wp2_with fail
  refine hsn.mono ?_
  rintro e wB ⟨rfl, bB⟩
  have hsB := BB.size
  go_wp2_with fail
  go_ret
  exact ⟨rfl, BB.trans (bB.mono hsB)⟩
end
end Go.Proofs.YteddmnoeljakpaaGreatDoor
