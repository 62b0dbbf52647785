/-
  StV: What a change writes, over the loaded program: patches: its contract. No condition but what each theorem names.
  StQ: What Try answers, over the loaded program: its contract. No condition but what each theorem names.
  StE: What the patches of a Do make of the sectors, plainly; how many sectors files have, and how many are free. No program, no condition.
-/
import Derived.Test.YteddmnoeljakpaaGreatDoorSw35
import Derived.Test.YteddmnoeljakpaaGreatDoorSw14
import Derived.Test.YteddmnoeljakpaaGreatDoorSw12
import Derived.Test.YteddmnoeljakpaaGreatDoorSw30
import Derived.Test.YteddmnoeljakpaaGreatDoorSw32
set_option linter.unusedVariables false
set_option maxRecDepth 100000
namespace Go.Proofs.YteddmnoeljakpaaGreatDoor
section
open Go.RowKit
section
variable {w : World} {a : SA} {c : CI} {nl : List Nd} {s : Dk} {br : Bool}
def PchAs (w : World) (ps : List Pt) (e : Ending) (w' : World) : Prop := ∃ v, e = .returned v ∧ PS w' (fun b => w.heap.size ≤ b ∧ b < w'.heap.size) v ps ∧ Below w.heap.size w w'
theorem own_kbP {w : World} {g B n : Nat} {qs : List Two2} (h : KB w g 132 (flatW qs).toArray) (hB : B ≤ g) (hn : qs.length = n) (hm : n ≤ maxLen) : w.ownsRow B 132 2 (.slice (some ⟨g, 0, none⟩) n n) n (flatW qs) := by
  subst hn
  refine ⟨flatW_length _, .inr ⟨g, _, _, rfl, hB, h, Nat.le_refl _, hm, by simp [flatW_length], ?_⟩⟩
  rw [← flatW_length]
  simp
structure ChIn (c : Cn) (H : Ch) : Prop where
  place : H.place < c.files
  name : H.to.name.length ≤ maxLen
  size : H.to.b.length ≤ 24576
  len : H.at_.length = pagesN H.to.b.length
  at_ : ∀ z ∈ H.at_, 0 ≤ z ∧ z < c.data
  loses : ∀ z ∈ H.loses, 0 ≤ z ∧ z < c.data
  few : H.loses.length ≤ 1000
theorem patB_len {c : Cn} {at_ : List Int} {b : List UInt8} (h : at_.length = pagesN b.length) : (patB c at_ b).length = pagesN b.length := by
  unfold patB
  rw [List.length_map, List.length_zip, cutS_len, h, Nat.min_self]
theorem patB_succ {c : Cn} {at_ : List Int} {b : List UInt8} {k : Nat} {z : Int} {l : List UInt8} (h1 : at_[k]? = some z) (h2 : (cutS b)[k]? = some l) : (patB c at_ b).take (k + 1) = (patB c at_ b).take k ++ [((c.base : Int) + z, l)] := by
  have e : (patB c at_ b)[k]? = some ((c.base : Int) + z, l) := by
    unfold patB
    rw [List.getElem?_map, show (at_.zip (cutS b))[k]? = some (z, l) from List.getElem?_zip_eq_some.2 ⟨h1, h2⟩]
    rfl
  obtain ⟨hk, e2⟩ := List.getElem?_eq_some_iff.1 e
  rw [List.take_succ_eq_append_getElem hk, e2]
theorem zerP_succ {c : Cn} {l : List Int} {k : Nat} {z : Int} (h : l[k]? = some z) : zerP c (l.take (k + 1)) = zerP c (l.take k) ++ [((c.base : Int) + z, zs 256)] := by
  obtain ⟨hk, e⟩ := List.getElem?_eq_some_iff.1 h
  rw [List.take_succ_eq_append_getElem hk, e]
  unfold zerP
  rw [List.map_append]
  rfl
set_option maxHeartbeats 16000000 in
theorem patches_any (h : ST w a c nl s br) (q : H8) (H : Ch) (k : H8ok w (fun b => b < w.heap.size) q H) (hi : ChIn c.cn H) :
    Calls Tryz.prog 52 #[.pointer (some ⟨a.sg, 0, none⟩), .agg (eight q).toArray] w (PchAs w (patH c.cn H)) := by
  have hdt := fun W => data_st h.may W
  have hnd := fun W => nodes_st h.may W
  have hbase : c.cn.base ≤ 1024 ∧ c.cn.files ≤ 64 ∧ c.cn.nodes ≤ 1024 ∧ c.cn.data ≤ 800 := by
    have := h.may.ok
    have := this.all
    have := h.may.ok.files2
    have := h.may.ok.data2
    unfold Cn.base Cn.nodes
    omega
  obtain ⟨nm, bx, gone, place, nm2, sz, ax, lx⟩ := q
  have hq := k
  obtain ⟨k1, ⟨X, z, k2, hbx⟩, k3, k4, k5, k6, ⟨Y, y, k7, hat⟩, ⟨Z, u, k8, hlo⟩⟩ := k
  simp only at k1 k2 k3 k4 k5 k6 k7 k8
  subst k1 k2 k3 k4 k5 k6 k7 k8
  have hns := fun W (b : Below w.heap.size w W) => nodeSector_any (h.below b) _ H (hq.keep b.size (fun x _ hx => b.block x hx) fun x (hx : x < w.heap.size) => Nat.lt_of_lt_of_le hx b.size) (by rw [hi.len]; have := hi.size; unfold pagesN; omega) hi.size hi.name
  have HNS : Hid (∀ W, Below w.heap.size w W → Calls Tryz.prog 79 #[.pointer (some ⟨a.sg, 0, none⟩), .agg #[.string ⟨H.to.name.toArray⟩, .slice X H.to.b.length z, .bool H.to.gone, .int .i64 (H.place : Int), .string ⟨H.to.name.toArray⟩, .int .i64 (H.to.b.length : Int), .slice Y H.at_.length y, .slice Z H.loses.length u]] W (NsAs W (headS c.cn H))) := hns
  show Calls _ _ #[_, .agg #[.string ⟨H.to.name.toArray⟩, .slice X H.to.b.length z, .bool H.to.gone, .int .i64 (H.place : Int), .string ⟨H.to.name.toArray⟩, .int .i64 (H.to.b.length : Int), .slice Y H.at_.length y, .slice Z H.loses.length u]] w _
  obtain ⟨al, hal⟩ : ∃ n, n = H.at_.length := ⟨_, rfl⟩
  obtain ⟨ll, hll⟩ : ∃ n, n = H.loses.length := ⟨_, rfl⟩
  obtain ⟨fb, hfb⟩ : ∃ n, n = H.to.b.length := ⟨_, rfl⟩
  obtain ⟨fn, hfn⟩ : ∃ n : ByteArray, n = ⟨H.to.name.toArray⟩ := ⟨_, rfl⟩
  obtain ⟨hg, hhg⟩ : ∃ n, n = H.to.gone := ⟨_, rfl⟩
  rw [← hal] at hat HNS ⊢
  rw [← hll] at hlo HNS ⊢
  rw [← hfb] at hbx HNS ⊢
  rw [← hfn] at HNS ⊢
  rw [← hhg] at HNS ⊢
  obtain ⟨HS, hHS⟩ : ∃ l, l = headS c.cn H := ⟨_, rfl⟩
  rw [← hHS] at HNS
  have HHS := Lib.hid hHS
  have HAL := Lib.hid hal
  have HLL := Lib.hid hll
  have HFB := Lib.hid hfb
  have HI := Lib.hid hi
  clear hns hq hal hll hfb hfn hhg hHS
  have hpI : IntKind.i64.wrap ((c.cn.nodes : Int) + (H.place : Int)) = ((c.cn.nodes : Int) + (H.place : Int)) := by have := hi.place; rw [IntKind.wrap_i64]; omega
  have K0 := KB.new w 95 #[.string fn, .slice X fb z, .bool hg, .int .i64 (H.place : Int), .string fn, .int .i64 (fb : Int), .slice Y al y, .slice Z ll u]
  have B0 := (Below.refl w.heap.size w).alloc (Nat.le_refl _) (.cells #[.string fn, .slice X fb z, .bool hg, .int .i64 (H.place : Int), .string fn, .int .i64 (fb : Int), .slice Y al y, .slice Z ll u] 95)
  have h0 := h.alloc (.cells #[.string fn, .slice X fb z, .bool hg, .int .i64 (H.place : Int), .string fn, .int .i64 (fb : Int), .slice Y al y, .slice Z ll u] 95)
  have c2 := h0.c2
  have c3 := h0.c3
  have c4 := h0.c4
  have c5 := h0.c5
  have HST := Lib.hid h
  clear hi h h0
  go_enter Tryz.func52, Tryz.ntmps52
  go_wp2_with fail
  refine (hdt _).mono ?_
  rintro e w1 ⟨rfl, b1⟩
  have K1 := K0.below b1 K0.lt
  have B1 := B0.trans (b1.mono B0.size)
  have hs01 := b1.size
  clear c2 c3 c4 c5 hdt K0 B0 b1
  have hsz := K1.lt
  clear hs01
  have HC : Hid (∀ W, Below w1.heap.size w1 W → W.cell? ⟨a.sg, 2, none⟩ = some (.int .i64 c.log) ∧ W.cell? ⟨a.sg, 3, none⟩ = some (.int .i64 c.files) ∧ W.cell? ⟨a.sg, 4, none⟩ = some (.int .i64 c.slots) ∧ W.cell? ⟨a.sg, 5, none⟩ = some (.int .i64 c.data) ∧
      W.cell? ⟨w.heap.size, 0, none⟩ = some (.string fn) ∧ W.cell? ⟨w.heap.size, 1, none⟩ = some (.slice X fb z) ∧ W.cell? ⟨w.heap.size, 2, none⟩ = some (.bool hg) ∧ W.cell? ⟨w.heap.size, 3, none⟩ = some (.int .i64 (H.place : Int)) ∧
      W.cell? ⟨w.heap.size, 4, none⟩ = some (.string fn) ∧ W.cell? ⟨w.heap.size, 5, none⟩ = some (.int .i64 (fb : Int)) ∧ W.cell? ⟨w.heap.size, 6, none⟩ = some (.slice Y al y) ∧ W.cell? ⟨w.heap.size, 7, none⟩ = some (.slice Z ll u)) :=
    fun W b => have hW := HST.out.below (B1.trans (b.mono B1.size)); have K := K1.below b K1.lt; ⟨hW.c2, hW.c3, hW.c4, hW.c5, K.cell 0, K.cell 1, K.cell 2, K.cell 3, K.cell 4, K.cell 5, K.cell 6, K.cell 7⟩
  have HND := Lib.hid hnd
  have BD := Below_drawn (Below.refl w1.heap.size w1) 1
  clear hnd
  go_wp2_with fail
  rename_i KK hKK
  have HKK := Lib.hid hKK
  clear hKK
  refine wp_region_held_drew (S := (fun W => W.cell? ⟨a.sg, 2, none⟩ = some (.int .i64 c.log) ∧ W.cell? ⟨a.sg, 3, none⟩ = some (.int .i64 c.files) ∧ W.cell? ⟨a.sg, 4, none⟩ = some (.int .i64 c.slots) ∧ W.cell? ⟨a.sg, 5, none⟩ = some (.int .i64 c.data) ∧ W.cell? ⟨w.heap.size, 0, none⟩ = some (.string fn) ∧ W.cell? ⟨w.heap.size, 1, none⟩ = some (.slice X fb z) ∧ W.cell? ⟨w.heap.size, 2, none⟩ = some (.bool hg) ∧ W.cell? ⟨w.heap.size, 3, none⟩ = some (.int .i64 (H.place : Int)) ∧ W.cell? ⟨w.heap.size, 4, none⟩ = some (.string fn) ∧ W.cell? ⟨w.heap.size, 5, none⟩ = some (.int .i64 (fb : Int)) ∧ W.cell? ⟨w.heap.size, 6, none⟩ = some (.slice Y al y) ∧ W.cell? ⟨w.heap.size, 7, none⟩ = some (.slice Z ll u))) (by kernel_rfl) (HC.out _ BD) (fun hHeld => ?_)
  refine hyY (some 20) 0 rfl hHeld ?_; go_frame
  refine hyY (some 21) 1 rfl hHeld ?_; go_frame
  refine hyY (some 22) 2 rfl hHeld ?_; go_frame
  refine hyY (some 23) 3 rfl hHeld ?_; go_frame
  refine hyY (some 25) 5 rfl hHeld ?_; go_frame
  refine hyY (some 26) 6 rfl hHeld ?_; go_frame
  refine hyY (some 27) 7 rfl hHeld ?_; go_frame
  refine hyY (some 29) 9 rfl hHeld ?_; go_frame
  refine hyY (some 30) 10 rfl hHeld ?_; go_frame
  refine hyO (some 24) 4 rfl (fun K hK => ?_)
  go_simp
  go_at_call 33
  refine (HND.out _).mono ?_
  rintro e w2 ⟨rfl, b2⟩
  go_wp2_with fail
  refine hK.out _ _ ?_ (fun hH2 => ?_)
  · first | exact HC.out _ BD | exact HC.out _ (BD.trans b2) | exact HC.out _ BD3 | exact HC.out _ BD4
  clear hHeld hK K; have hHeld := hH2; clear hH2; try go_frame
  refine hyY (some 28) 8 rfl hHeld ?_; go_frame
  refine hyO (some 31) 11 rfl (fun K hK => ?_)
  go_simp
  go_at_call 79
  have BD2 := BD.trans (b2.mono BD.size)
  refine (HNS.out _ (B1.trans (BD2.mono B1.size))).mono ?_
  rintro e w3 ⟨A3, c3, rfl, x3, b3⟩
  have BD3 := BD2.trans (b3.mono BD2.size)
  go_wp2_with fail
  refine hK.out _ _ ?_ (fun hH2 => ?_)
  · first | exact HC.out _ BD | exact HC.out _ (BD.trans b2) | exact HC.out _ BD3 | exact HC.out _ BD4
  clear hHeld hK K; have hHeld := hH2; clear hH2; try go_frame
  refine hyY (some 32) 12 rfl hHeld ?_; go_frame
  refine hyO (some 33) 13 rfl (fun K hK => ?_)
  go_simp
  have BD4 := BD3.alloc BD3.size (.cells #[.int .i64 ((c.cn.nodes : Int) + (H.place : Int)), .slice A3 HS.length c3] 132)
  refine hK.out _ _ ?_ (fun hH2 => ?_)
  · first | exact HC.out _ BD | exact HC.out _ (BD.trans b2) | exact HC.out _ BD3 | exact HC.out _ BD4
  clear hHeld hK K; have hHeld := hH2; clear hH2; try go_frame
  refine hyY (some 7) 14 rfl hHeld ?_; go_frame
  refine wpAnyH_done (by kernel_rfl) ?_ _
  have hKK := HKK.out
  have KP := KB.new w3 132 #[.int .i64 ((c.cn.nodes : Int) + (H.place : Int)), .slice A3 HS.length c3]
  have hs2 := b2.size
  have hsD : w1.heap.size ≤ w1.drew.heap.size := BD.size
  have hsE : (w1.drewN 1).heap.size = w1.heap.size := rfl
  have hs3 := BD3.size
  have how4 := own_kbP (n := 1) (qs := [(((c.cn.nodes : Int) + (H.place : Int)), .slice A3 HS.length c3)]) KP (B := w1.heap.size) hs3 rfl (by unfold maxLen; omega)
  have x4 : BS (w3.alloc (.cells #[.int .i64 ((c.cn.nodes : Int) + (H.place : Int)), .slice A3 HS.length c3] 132)) (Mine w1.heap.size (.slice (some ⟨w3.heap.size, 0, none⟩) 1 1) (w3.alloc (.cells #[.int .i64 ((c.cn.nodes : Int) + (H.place : Int)), .slice A3 HS.length c3] 132))) (.slice A3 HS.length c3) HS :=
    (x3.alloc _).mono fun b hb => ⟨by have := hb.1; omega, by have := hb.2; have := KP.lt; omega, fun e => by have := hb.2; simp [Value.ownBlock] at e; omega⟩
  have pt4 := PT.one (a := ((c.cn.nodes : Int) + (H.place : Int))) x4
  have hKP := KP.lt
  have K4 := K1.below BD4 K1.lt
  have B4 := B1.trans (BD4.mono B1.size)
  clear x3 x4 KP BD3 BD b2 b3 hHeld HNS HND hpI
  generalize w3.alloc (.cells #[.int .i64 ((c.cn.nodes : Int) + (H.place : Int)), .slice A3 HS.length c3] 132) = w4 at *
  have e1 := K4.cell 1
  have hcut := cut_any (.slice X fb z) H.to.b (by have := HI.out.size; omega) w4 ((hbx.below' B4).mono fun b hb => Nat.lt_of_lt_of_le hb B4.size)
  have HCL : Hid ((cutS H.to.b).length ≤ 96) := by show _ ≤ _; rw [cutS_len]; have := HI.out.size; unfold pagesN; omega
  have HPL : Hid ((patB c.cn H.at_ H.to.b).length = (cutS H.to.b).length) := by show _ = _; rw [patB_len HI.out.len, cutS_len]
  have HAC : Hid (al = (cutS H.to.b).length) := by show _ = _; rw [HAL.out, HI.out.len, cutS_len]
  obtain ⟨CL, hCL⟩ : ∃ l, l = cutS H.to.b := ⟨_, rfl⟩
  rw [← hCL] at hcut HCL HPL HAC
  have HCC := Lib.hid hCL
  clear hCL
  go_wp2_with fail
  refine hcut.mono ?_
  rintro e w5 ⟨v5, rfl, ra, b5⟩
  obtain ⟨A5, c5, rfl⟩ := ra.len
  have hls := ra.ls
  have how5 := own_past b5 how4
  have pt5 := pt4.mine b5
  have BD5 := BD4.trans (b5.mono BD4.size)
  have hs45 := b5.size
  have hs14 := BD4.size
  have hCL63 : CL.length ≤ 9223372036854775807 := by have := HCL.out; omega
  clear ra hcut how4 pt4 K4 e1 BD4 B4 b5
  go_wp2_with fail
  go_loopw [7, 39] (fun v iv wr => ∃ (k : Nat) (qs : List Two2), k ≤ CL.length ∧ iv = .int .i64 (k : Int) ∧ wr.ownsRow w1.heap.size 132 2 v qs.length (flatW qs) ∧ PT wr (Mine w1.heap.size v wr) qs ((((c.cn.nodes : Int) + (H.place : Int)), HS) :: (patB c.cn H.at_ H.to.b).take k) ∧
    (∀ g, v.ownBlock = some g → g < w4.heap.size ∨ w5.heap.size ≤ g) ∧ LS wr (fun x => w4.heap.size ≤ x ∧ x < w5.heap.size) (.slice A5 CL.length c5) CL ∧ w5.heap.size ≤ wr.heap.size ∧ Below w1.heap.size w1 wr) (fun _ iv _ => CL.length - (intOf iv).toNat)
  case atStart => exact ⟨0, _, by omega, rfl, how5, pt5, fun g e => .inl (by simp [Value.ownBlock] at e; omega), hls, Nat.le_refl _, BD5⟩
  case round =>
    obtain ⟨k, qs, hk, rfl, how, pt, hown, hl, hs5, bl⟩ := hrel
    clear how5 pt5 hls BD5
    have K := K1.below bl K1.lt
    have BW := B1.trans (bl.mono B1.size)
    by_cases hlt : k < CL.length
    · obtain ⟨b, o, rfl, sb, hb, hx⟩ := hl.at_ (by omega)
      obtain ⟨l, hlk⟩ : ∃ l, CL[k]? = some l := ⟨_, List.getElem?_eq_getElem hlt⟩
      obtain ⟨X2, z2, j0, hbs⟩ := hx k l hlk
      obtain ⟨b2, o2, rfl, _, _, hx2⟩ := (hat.below' BW).at_ (by rw [← HAL.out, HAC.out]; omega)
      obtain ⟨zi, hzk⟩ : ∃ zi, H.at_[k]? = some zi := ⟨_, List.getElem?_eq_getElem (by rw [← HAL.out, HAC.out]; exact hlt)⟩
      have j1 := hx2 k zi hzk
      have hzr := HI.out.at_ zi (List.mem_of_getElem? hzk)
      have HPS := Lib.hid (patB_succ (c := c.cn) (b := H.to.b) hzk (by rw [← HCC.out]; exact hlk))
      have ew : IntKind.i64.wrap ((c.cn.base : Int) + zi) = (c.cn.base : Int) + zi := by rw [IntKind.wrap_i64]; omega
      have ql := pt.1
      have HLEN : Hid (qs.length + 1 ≤ 1000000000) := by show _ ≤ _; rw [ql, List.length_cons, List.length_take]; have := HCL.out; omega
      have e6 := K.cell 6
      have hbs2 := hbs.mono (S' := Mine w1.heap.size u7 wr) fun x hx => ⟨by have := hx.1; omega, by have := hx.2; omega, fun e => by have := hown x e; have := hx.1; have := hx.2; omega⟩
      have pt6 := pt.append (PT.one (a := (c.cn.base : Int) + zi) hbs2)
      have hkI : (k : Int) < (CL.length : Int) := by omega
      have hkA : (k : Int) < (al : Int) := by rw [HAC.out]; omega
      have B6 := (Below.refl wr.heap.size wr).alloc (Nat.le_refl _) (.cells #[.int .i64 ((c.cn.base : Int) + zi), .slice X2 l.length z2] 132)
      have how6 := own_past B6 how
      have pt7 := pt6.mine B6
      have hl6 := hl.below' B6
      have hat6 := onep_at wr 132 ((c.cn.base : Int) + zi) (.slice X2 l.length z2)
      have BL6 := bl.trans (B6.mono bl.size)
      have hs6 := B6.size
      clear hx hlk hbs hx2 hzk hzr ql hbs2 pt6 pt how hl
      go_wp2_with (at_builtin; go_loud (refine wpList_growP _ rfl _ _ rfl w1.heap.size u7 qs rfl how6 ⟨wr.heap.size, 0, none⟩ 1 1 [((c.cn.base : Int) + zi, .slice X2 l.length z2)] rfl rfl hat6 (by intro u hu; simp [flatW, two2] at hu; rcases hu with rfl | rfl <;> rfl) HLEN.out (by simp; omega) ?_); intro v7 w7 how7 g7 ho7)
      go_roundw
      case rel =>
        have hs7 := g7.size
        refine ⟨k + 1, _, by omega, by go_num, how7, ?_, fun g e => ?_, hl6.keep hs7 (fun b sb hb => g7.block b hb fun e => by have := hown b e.symm; have := sb.1; have := sb.2; omega) , by omega, BL6.grown g7 BL6.size fun g e => own_ge how6 g e⟩
        · rw [HPS.out, ← List.cons_append]
          exact pt7.minegrow g7 ho7
        · rcases ho7 with ho | ho
          · rw [ho] at e; exact hown g e
          · rw [ho] at e; injection e with e; right; omega
      case measure => simp [intOf]; omega
    · obtain rfl : k = CL.length := by omega
      rw [show (patB c.cn H.at_ H.to.b).take CL.length = patB c.cn H.at_ H.to.b by rw [← HPL.out]; exact List.take_length] at pt
      have e7 := K.cell 7
      have HLF : Hid (ll ≤ 1000) := by show _ ≤ _; rw [HLL.out]; exact HI.out.few
      have HPT : Hid (qs.length ≤ 97) := by show _ ≤ _; rw [pt.1, List.length_cons, HPL.out]; have := HCL.out; omega
      have hll63 : ll ≤ 9223372036854775807 := by have := HLF.out; omega
      have hlo5 := hlo.below' BW
      clear hl hown
      obtain ⟨w6, hw6⟩ : ∃ w6, w6 = wr := ⟨_, rfl⟩
      subst hw6
      go_wp2_with fail
      go_loopw [7, 62] (fun v iv wt => ∃ (k : Nat) (qs : List Two2), k ≤ ll ∧ iv = .int .i64 (k : Int) ∧ wt.ownsRow w1.heap.size 132 2 v qs.length (flatW qs) ∧ PT wt (Mine w1.heap.size v wt) qs (((((c.cn.nodes : Int) + (H.place : Int)), HS) :: patB c.cn H.at_ H.to.b) ++ zerP c.cn (H.loses.take k)) ∧
        qs.length = 1 + CL.length + k ∧ w6.heap.size ≤ wt.heap.size ∧ Below w1.heap.size w1 wt) (fun _ iv _ => ll - (intOf iv).toNat)
      case atStart => exact ⟨0, qs, by omega, rfl, how, by rw [List.take_zero]; simpa [zerP] using pt, by rw [pt.1, List.length_cons, HPL.out]; omega, Nat.le_refl _, bl⟩
      case round =>
        obtain ⟨k, qs, hk, rfl, how, pt, hql, hst, bl⟩ := hrel
        have BW2 := B1.trans (bl.mono B1.size)
        by_cases hlt : k < ll
        · obtain ⟨b2, o2, rfl, _, _, hx2⟩ := (hlo.below' BW2).at_ (by rw [← HLL.out]; omega)
          obtain ⟨zi, hzk⟩ : ∃ zi, H.loses[k]? = some zi := ⟨_, List.getElem?_eq_getElem (by rw [← HLL.out]; exact hlt)⟩
          have j1 := hx2 k zi hzk
          have hzr := HI.out.loses zi (List.mem_of_getElem? hzk)
          have HZS := Lib.hid (zerP_succ (c := c.cn) hzk)
          have ew : IntKind.i64.wrap ((c.cn.base : Int) + zi) = (c.cn.base : Int) + zi := by rw [IntKind.wrap_i64]; omega
          have HLEN : Hid (qs.length + 1 ≤ 1000000000) := by show _ ≤ _; have := HCL.out; have := HLF.out; omega
          have hkI : (k : Int) < (ll : Int) := by omega
          clear hx2 hzk hzr
          go_wp2_with fail
          refine (zero_any wr).mono ?_
          rintro e wz ⟨rfl, kz, bz⟩
          have hbz := kb_256 kz (zs_len 256)
          have how3 := own_past bz how
          have hsz3 := bz.size
          have hst1 := bl.size
          have hne : Mine w1.heap.size u7 wz wr.heap.size := ⟨hst1, kz.lt, fun e => by have := own_lt how e; omega⟩
          have pt3 := (pt.mine bz).append (PT.one (a := (c.cn.base : Int) + zi) (hbz.mono (S' := Mine w1.heap.size u7 wz) fun b hb => by subst hb; exact hne))
          rw [List.append_assoc, ← HZS.out] at pt3
          have B6 := (Below.refl wz.heap.size wz).alloc (Nat.le_refl _) (.cells #[.int .i64 ((c.cn.base : Int) + zi), .slice (some ⟨wr.heap.size, 0, none⟩) 256 256] 132)
          have how6 := own_past B6 how3
          have pt7 := pt3.mine B6
          have hat6 := onep_at wz 132 ((c.cn.base : Int) + zi) (.slice (some ⟨wr.heap.size, 0, none⟩) 256 256)
          have BL6 := (bl.trans (bz.mono bl.size)).trans (B6.mono (by omega))
          have hs6 := B6.size
          clear hbz hne pt3 pt how how3 kz bz
          go_wp2_with (at_builtin; go_loud (refine wpList_growP _ rfl _ _ rfl w1.heap.size u7 qs rfl how6 ⟨wz.heap.size, 0, none⟩ 1 1 [((c.cn.base : Int) + zi, .slice (some ⟨wr.heap.size, 0, none⟩) 256 256)] rfl rfl hat6 (by intro u hu; simp [flatW, two2] at hu; rcases hu with rfl | rfl <;> rfl) HLEN.out (by omega) ?_); intro v7 w7 how7 g7 ho7)
          go_roundw
          case rel =>
            have hs7 := g7.size
            refine ⟨k + 1, _, by omega, by go_num, how7, pt7.minegrow g7 ho7, by simp; omega, by omega, BL6.grown g7 BL6.size fun g e => own_ge how6 g e⟩
          case measure => simp [intOf]; omega
        · obtain rfl : k = ll := by omega
          rw [show H.loses.take k = H.loses by rw [HLL.out]; exact List.take_length] at pt
          have hp := PS_of_own (S := fun b => w.heap.size ≤ b ∧ b < wr.heap.size) how (pt.mono fun x hx => ⟨by have := hx.1; omega, hx.2.1⟩) fun x h1 h2 => ⟨by omega, h2⟩
          have hpe : (((((c.cn.nodes : Int) + (H.place : Int)), HS) :: patB c.cn H.at_ H.to.b) ++ zerP c.cn H.loses) = patH c.cn H := by
            unfold patH
            rw [HHS.out, Int.natCast_add]
            rfl
          rw [hpe] at hp
          go_wp2_with fail
          go_ret
          exact ⟨_, rfl, hp, BW2⟩
end
end
section
open Go.RowKit
def fitB (c : CI) (nl : List Nd) (l : List Fi) : Bool := decide ((freshC (mapN nl) l : Int) ≤ (c.cn.files : Int) - (nl.length : Int)) && decide ((growC (mapN nl) l : Int) ≤ (c.cn.data : Int) - (usC c nl : Int))
def tryN (c : CI) (nl : List Nd) (br : Bool) (l : List Fi) : Int :=
  if br = true then 8 else if argsB l = false then 1 else if (l.any fun f => longF f) = true then 3 else if (l.any fun f => missF nl f) = true then 5 else if fitB c nl l = false then 7 else if roomN c.cn.log < costC (mapN nl) l then 4 else 0
theorem stry_nil (w : World) (v : Value) : Calls Tryz.prog 17 #[.pointer none, v] w fun e w' => e = .returned (.int .i64 9) ∧ w = w' := by
  have hm := smade_nil w
  go_enter Tryz.func17, Tryz.ntmps17
  go_wp2_with (go_at_call 42; refine hm.mono ?_; rintro e w' ⟨rfl, rfl⟩)
  go_ret
  exact ⟨rfl, rfl⟩
section
variable {w : World} {a : SA} {c : CI} {nl : List Nd} {s : Dk} {br : Bool}
theorem ST.log_nat (h : ST w a c nl s br) : c.log = (c.cn.log : Int) := by
  have := h.may.1.1.1
  unfold CI.cn
  simp only
  omega
set_option maxHeartbeats 4000000 in
theorem stry_any (h : ST w a c nl s br) (S : Nat → Prop) (v : Value) (l : List Fi) (hv : FS w S v l) (hl : l.length ≤ 1000000) :
    Calls Tryz.prog 17 #[.pointer (some ⟨a.sg, 0, none⟩), v] w fun e w' => e = .returned (.int .i64 (tryN c nl br l)) ∧ Below w.heap.size w w' := by
  obtain ⟨A, cp, rfl, hlc, hcm⟩ := hv.form
  obtain ⟨R, hR⟩ : ∃ R, R = tryN c nl br l := ⟨_, rfl⟩
  rw [← hR]
  unfold tryN at hR
  have hm := smade_any h
  have c1 := h.c1
  have hbr := broken_any h.lg
  have hmb := maybe_any S _ l hl w hv
  cases br with
  | true =>
    rw [if_pos rfl] at hR
    subst hR
    go_enter Tryz.func17, Tryz.ntmps17
    go_wp2_with (first | (go_at_call 42; refine hm.mono ?_; rintro e w' ⟨rfl, rfl⟩) | (go_at_call 43; refine hbr.mono ?_; rintro e w' ⟨rfl, rfl⟩))
    go_ret
    exact ⟨rfl, Below.refl _ _⟩
  | false =>
    rw [if_neg (by simp)] at hR
    cases ha : argsB l with
    | false =>
      rw [ha, if_pos rfl] at hR
      rw [ha] at hmb
      subst hR
      go_enter Tryz.func17, Tryz.ntmps17
      go_wp2_with (first | (go_at_call 42; refine hm.mono ?_; rintro e w' ⟨rfl, rfl⟩) | (go_at_call 43; refine hbr.mono ?_; rintro e w' ⟨rfl, rfl⟩) | (go_at_call 44; refine hmb.mono ?_; rintro e w2 ⟨rfl, B2⟩))
      go_ret
      exact ⟨rfl, B2⟩
    | true =>
      rw [ha, if_neg (by simp)] at hR
      rw [ha] at hmb
      have hlo := fun (W : World) (b : Below w.heap.size w W) => contains_long (w := W) S _ l (hv.below' b)
      have hmi := fun (W : World) (b : Below w.heap.size w W) => contains_misses (h.below b) S _ l (hv.below' b)
      have HLO := Lib.hid hlo
      have HMI := Lib.hid hmi
      have c2 := h.c2
      rw [h.log_nat] at c2
      have hlog := h.may.ok.log2
      have hsg := h.kb.lt
      have hfi := fun (hb : ∀ f ∈ l, f.b.length ≤ 24576) (W : World) (b : Below w.heap.size w W) => fits_any (h.below b) S _ l (hv.below' b) hl hb
      have hco := fun (hb : ∀ f ∈ l, f.b.length ≤ 24576) (W : World) (b : Below w.heap.size w W) => cost_any (h.below b) S _ l (hv.below' b) hl hb
      have hlong : (l.any fun f => longF f) = false → ∀ f ∈ l, f.b.length ≤ 24576 := fun h f hf => by
        rw [List.any_eq_false] at h
        have := h f hf
        unfold longF at this
        simp at this
        omega
      have HFI := Lib.hid hfi
      have HCO := Lib.hid hco
      have HLG := Lib.hid hlong
      clear hlo hmi hfi hco hlong h hv
      go_enter Tryz.func17, Tryz.ntmps17
      go_wp2_with (first | (go_at_call 42; refine hm.mono ?_; rintro e w' ⟨rfl, rfl⟩) | (go_at_call 43; refine hbr.mono ?_; rintro e w' ⟨rfl, rfl⟩) | (go_at_call 44; refine hmb.mono ?_; rintro e w2 ⟨rfl, B2⟩; have hlo2 := HLO.out w2 B2))
      refine hlo2.mono ?_
      rintro e w3 ⟨rfl, b3⟩
      have B3 := B2.trans (b3.mono B2.size)
      have hmi3 := HMI.out w3 B3
      clear hm hbr hmb hlo2 b3 B2 HLO HMI
      cases hL : (l.any fun f => longF f) with
      | true =>
        rw [hL, if_pos rfl] at hR
        subst hR
        go_wp2_with fail
        go_ret
        exact ⟨rfl, B3⟩
      | false =>
        rw [hL, if_neg (by simp)] at hR
        have hb := HLG.out hL
        have HB := Lib.hid hb
        clear hb hL
        go_wp2_with fail
        refine hmi3.mono ?_
        rintro e w4 ⟨rfl, b4⟩
        have B4 := B3.trans (b4.mono B3.size)
        have hfi4 := HFI.out HB.out w4 B4
        clear hmi3 b4 B3 HFI HLG
        cases hM : (l.any fun f => missF nl f) with
        | true =>
          rw [hM, if_pos rfl] at hR
          subst hR
          go_wp2_with fail
          go_ret
          exact ⟨rfl, B4⟩
        | false =>
          rw [hM, if_neg (by simp)] at hR
          rw [show (decide ((freshC (mapN nl) l : Int) ≤ (c.cn.files : Int) - (nl.length : Int)) && decide ((growC (mapN nl) l : Int) ≤ (c.cn.data : Int) - (usC c nl : Int))) = fitB c nl l from rfl] at hfi4
          clear hM
          go_wp2_with fail
          refine hfi4.mono ?_
          rintro e w5 ⟨rfl, b5⟩
          have B5 := B4.trans (b5.mono B4.size)
          clear hfi4 b5 B4
          cases hF : fitB c nl l with
          | false =>
            rw [hF, if_pos rfl] at hR
            subst hR
            go_wp2_with fail
            go_ret
            exact ⟨rfl, B5⟩
          | true =>
            rw [hF, if_neg (by simp)] at hR
            clear hF
            have hco5 := HCO.out HB.out w5.drew (Below_drawn B5 1)
            have hrm := fun W => room_any c.cn.log W (by omega)
            clear HCO HB
            generalize costC (mapN nl) l = K at *
            generalize roomN c.cn.log = M at *
            generalize (c.cn.log : Nat) = lg at *
            go_wp2_with fail
            rename_i KK hKK
            have HKK := Lib.hid hKK
            clear hKK
            have B := Below_drawn (Below.refl w5.heap.size w5) 1
            have hC : ∀ W, Below w5.heap.size w5 W → W.cell? ⟨a.sg, 0, none⟩ = w5.cell? ⟨a.sg, 0, none⟩ ∧ W.cell? ⟨a.sg, 2, none⟩ = some (.int .i64 (lg : Int)) := fun W b => by
              have hl5 : a.sg < w5.heap.size := Nat.lt_of_lt_of_le hsg B5.size
              exact ⟨World.cell?_of_block (w := w5) (b.block _ hl5), (World.cell?_of_block (w := w5) (b.block _ hl5)).trans ((World.cell?_of_block (w := w) (B5.block _ hsg)).trans c2)⟩
            have HC : Hid (∀ W, Below w5.heap.size w5 W → W.cell? ⟨a.sg, 2, none⟩ = some (.int .i64 (lg : Int))) := fun W b => (hC W b).2
            clear hC c2 c1
            refine wp_region_held_drew (S := (fun W => W.cell? ⟨a.sg, 2, none⟩ = some (.int .i64 (lg : Int)))) (by kernel_rfl) (HC.out _ B) (fun hHeld => ?_)
            refine hyY (some 33) 0 rfl hHeld ?_; go_frame
            refine hyY (some 34) 1 rfl hHeld ?_; go_frame
            refine hyY (some 36) 3 rfl hHeld ?_; go_frame
            refine hyY (some 37) 4 rfl hHeld ?_; go_frame
            refine hyY (some 38) 5 rfl hHeld ?_; go_frame
            refine hyY (some 39) 6 rfl hHeld ?_; go_frame
            refine hyY (some 40) 7 rfl hHeld ?_; go_frame
            refine hyO (some 35) 2 rfl (fun K hK => ?_)
            go_simp
            go_at_call 49
            refine hco5.mono ?_
            rintro e w6 ⟨rfl, b6⟩
            replace B := B.trans b6
            clear b6
            go_wp2_with fail
            refine hK.out _ _ ?_ (fun hH2 => ?_)
            · exact HC.out _ B
            clear hHeld hK K; have hHeld := hH2; clear hH2; try go_frame
            refine hyO (some 41) 8 rfl (fun K hK => ?_)
            go_simp
            go_at_call 50
            refine (hrm _).mono ?_
            rintro e w' ⟨rfl, rfl⟩
            go_wp2_with fail
            refine hK.out _ _ ?_ (fun hH2 => ?_)
            · exact HC.out _ B
            clear hHeld hK K; have hHeld := hH2; clear hH2; try go_frame
            refine hyY (some 42) 9 rfl hHeld ?_; go_frame
            refine hyY (some 32) 10 rfl hHeld ?_; go_frame
            refine wpAnyH_done (by kernel_rfl) ?_ _
            have hKK := HKK.out
            have B6 := B5.trans (B.mono B5.size)
            by_cases hlt : M < K
            · rw [if_pos hlt] at hR
              subst hR
              have D : decide ((M : Int) < (K : Int)) = true := decide_eq_true (by omega)
              go_wp2_with fail
              go_ret
              exact ⟨rfl, B6⟩
            · rw [if_neg hlt] at hR
              subst hR
              have D : decide ((M : Int) < (K : Int)) = false := decide_eq_false (by omega)
              go_wp2_with fail
              go_ret
              exact ⟨rfl, B6⟩
end
end
section
open Go.RowKit
section
variable {c : Cn} {fl : List Fe} {l : List Fi}
theorem pat_next (hc : c.ok) (gf : Fine13 c fl) (g : Can13 c fl l) {h : Ch} (hh : h ∈ chsM (mapF fl) (tkF c fl) (usF c fl) l) {p : Pt} (hp : p ∈ patH c h) : imgF c (nextF c fl l) p.1.toNat = p.2 := by
  have g1 := (can_gets g).1 h hh
  have gn := next_fine gf g
  have hpl := gets_place gf g1
  rcases mem_patH.1 hp with rfl | hp | ⟨z, hz, rfl⟩
  · show imgF c _ ((c.nodes + h.place : Nat) : Int).toNat = headS c h
    rw [Int.toNat_natCast]
    unfold headS
    cases hg : h.to.gone with
    | true =>
      rw [if_pos rfl]
      refine img_free gn hpl fun x hx e => ?_
      rcases mem_next.1 hx with ⟨hx, nx⟩ | ⟨k, hk, hkg, rfl⟩
      · rw [hasN_iff.2 ⟨_, chs_in h hh, place_old gf g hh hx e⟩] at nx
        cases nx
      · obtain rfl := place_ne gf g hk hh e
        rw [hg] at hkg
        cases hkg
    | false =>
      rw [if_neg (by simp)]
      exact img_node gn (x := h.fe) (mem_next.2 (.inr ⟨h, hh, hg, rfl⟩))
  · obtain ⟨j, z, b, h1, h2, rfl⟩ := mem_patB hp
    cases hg : h.to.gone with
    | true =>
      have hb := g.bare _ (chs_in h hh) hg
      rw [hb] at h2
      have : (cutS ([] : List UInt8)).length = 0 := by rw [cutS_len]; rfl
      have := (List.getElem?_eq_some_iff.1 h2).1
      omega
    | false => exact img_data gn (x := h.fe) (mem_next.2 (.inr ⟨h, hh, hg, rfl⟩)) h1 h2
  · have hz0 := sec_pos gf g1 (.inr hz)
    have e : ((c.base : Int) + z).toNat = c.base + z.toNat := by omega
    show imgF c _ ((c.base : Int) + z).toNat = zs 256
    rw [e]
    refine img_spare gn fun x hx hm => ?_
    rw [show ((z.toNat : Nat) : Int) = z by omega] at hm
    rcases mem_next.1 hx with ⟨hx, nx⟩ | ⟨k, hk, hkg, rfl⟩
    · rw [hasN_iff.2 ⟨_, chs_in h hh, sector_old gf g hh hx (.inr hz) hm⟩] at nx
      cases nx
    · obtain rfl := sector_ne gf g hk hh (.inl hm) (.inr hz)
      exact (gets_loses gf g1 hz).2 hm
theorem patH_mem_num {h : Ch} (g1 : Gets (mapF fl) (tkF c fl) (usF c fl) h) {a : Int} (ha : a ∈ numsH c h) : ∃ p ∈ patH c h, p.1 = a := by
  rw [← patH_nums g1] at ha
  obtain ⟨p, hp, e⟩ := List.mem_map.1 ha
  exact ⟨p, hp, e⟩
theorem img_stays (gf : Fine13 c fl) (g : Can13 c fl l) {i : Nat} (h0 : c.log < i) (hi : i < c.size) (hno : ∀ h ∈ chsM (mapF fl) (tkF c fl) (usF c fl) l, (i : Int) ∉ numsH c h) : imgF c (nextF c fl l) i = imgF c fl i := by
  have gn := next_fine gf g
  have key : ∀ x ∈ fl, (i = c.nodes + x.place ∨ ∃ z ∈ x.at_, (i : Int) = (c.base : Int) + z) → x ∈ nextF c fl l := by
    intro x hx hw
    refine mem_next.2 (.inl ⟨hx, ?_⟩)
    cases hn : hasN l x.name with
    | false => rfl
    | true =>
      obtain ⟨f, hf, ef⟩ := hasN_iff.1 hn
      obtain ⟨h, hh, rfl⟩ := chs_of (c := c) (fl := fl) hf
      have g1 := (can_gets g).1 h hh
      refine absurd (mem_numsH.2 ?_) (hno h hh)
      rcases hw with hw | ⟨z, hz, hw⟩
      · refine .inl ?_
        rcases g1.place with ⟨q, hq, e1⟩ | ⟨hn, _⟩
        · obtain ⟨y, hy, ey, rfl⟩ := mapF_some hq
          have := gf.name x hx y hy (ef.symm.trans ey.symm)
          subst this
          rw [e1, hw]
        · exact absurd ef.symm (mapF_none hn x hx)
      · refine .inr ⟨z, gets_kept g1 ?_, hw⟩
        rw [ef, had_of gf.names hx]
        exact hz
  have back : ∀ x ∈ nextF c fl l, (i = c.nodes + x.place ∨ ∃ z ∈ x.at_, (i : Int) = (c.base : Int) + z) → x ∈ fl := by
    intro x hx hw
    rcases mem_next.1 hx with ⟨hx, _⟩ | ⟨h, hh, _, rfl⟩
    · exact hx
    · refine absurd (mem_numsH.2 ?_) (hno h hh)
      rcases hw with hw | ⟨z, hz, hw⟩
      · exact .inl (by rw [hw]; rfl)
      · exact .inr ⟨z, .inl hz, hw⟩
  have spot : ∀ {fm : List Fe} (gm : Fine13 c fm) (hn : ∀ x ∈ fm, ¬ (i = c.nodes + x.place ∨ ∃ z ∈ x.at_, (i : Int) = (c.base : Int) + z)), imgF c fm i = zs 256 := by
    intro fm gm hn
    refine img_no fun p hp e => ?_
    obtain ⟨x, hx, hp⟩ := List.mem_flatMap.1 hp
    refine hn x hx ?_
    rcases List.mem_cons.1 hp with rfl | hp
    · exact .inl (by rw [← e]; exact Int.toNat_natCast _)
    · obtain ⟨j, z, b, h1, h2, rfl⟩ := mem_patB hp
      have hm := List.mem_of_getElem? h1
      have hz := okB_mem (gm.each x hx).at_ hm
      refine .inr ⟨z, hm, ?_⟩
      have e' : ((c.base : Int) + z).toNat = i := e
      omega
  have same : ∀ x ∈ fl, x ∈ nextF c fl l → (i = c.nodes + x.place ∨ ∃ z ∈ x.at_, (i : Int) = (c.base : Int) + z) → imgF c (nextF c fl l) i = imgF c fl i := by
    intro x hx hx' hw
    rcases hw with hw | ⟨z, hz, hw⟩
    · rw [hw, img_node gf hx, img_node gn hx']
    · obtain ⟨j, hj⟩ := List.mem_iff_getElem?.1 hz
      have hjl := (List.getElem?_eq_some_iff.1 hj).1
      have hl := (gf.each x hx).len
      have hb : (cutS x.b)[j]? = some ((cutS x.b)[j]'(by rw [cutS_len]; omega)) := List.getElem?_eq_getElem _
      have e1 := img_data gf hx hj hb
      have e2 := img_data gn hx' hj hb
      have e3 : ((c.base : Int) + z).toNat = i := by omega
      rw [e3] at e1 e2
      rw [e1, e2]
  by_cases hw : ∃ x ∈ fl, i = c.nodes + x.place ∨ ∃ z ∈ x.at_, (i : Int) = (c.base : Int) + z
  · obtain ⟨x, hx, hw⟩ := hw
    exact same x hx (key x hx hw) hw
  · rw [spot gf fun x hx h => hw ⟨x, hx, h⟩, spot gn fun x hx h => hw ⟨x, back x hx h, h⟩]
theorem pats_make (hc : c.ok) (gf : Fine13 c fl) (g : Can13 c fl l) {i : Nat} (h0 : c.log < i) (hi : i < c.size) :
    W1 (patsH c (chsM (mapF fl) (tkF c fl) (usF c fl) l)) (imgF c fl) i = imgF c (nextF c fl l) i := by
  unfold W1
  rcases lastP_mem (patsH c (chsM (mapF fl) (tkF c fl) (usF c fl) l)) i (imgF c fl i) with ⟨e, hno⟩ | ⟨p, hp, e1, e2⟩
  · rw [e]
    refine (img_stays gf g h0 hi fun h hh hm => ?_).symm
    obtain ⟨p, hp, e⟩ := patH_mem_num ((can_gets g).1 h hh) hm
    exact hno p (List.mem_flatMap.2 ⟨h, hh, hp⟩) (by rw [e]; exact Int.toNat_natCast i)
  · obtain ⟨h, hh, hp⟩ := List.mem_flatMap.1 hp
    rw [e2, ← pat_next hc gf g hh hp, e1]
def pagesF (fl : List Fe) : Nat := (fl.map fun x => pagesN x.b.length).sum
theorem nodup_len {a b : List Nat} (ha : a.Nodup) (hb : b.Nodup) (h : ∀ x, x ∈ a ↔ x ∈ b) : a.length = b.length := ((List.perm_ext_iff_of_nodup ha hb).2 h).length_eq
theorem selK_nodup (f : Nat → Bool) (k : Nat) : (selK f k).Nodup := (selK_pair f k).imp fun {a b} h => by omega
theorem used_us (gf : Fine13 c fl) : countS (usF c fl) = pagesF fl := by
  unfold countS
  rw [usF_len]
  have e : pagesF fl = (fl.flatMap fun x => x.at_.map Int.toNat).length := by
    unfold pagesF
    rw [List.length_flatMap]
    congr 1
    refine List.map_congr_left fun x hx => ?_
    rw [List.length_map, (gf.each x hx).len]
  rw [e]
  refine nodup_len (selK_nodup _ _) (nodup_flat (nodup_of_map gf.names) (fun x hx => ?_) fun x hx y hy j h1 h2 => ?_) fun j => ?_
  · have ho := (gf.each x hx).at_
    refine List.pairwise_map.2 ((okB_pair ho).imp_of_mem fun {a b} ha hb h e => ?_)
    have := okB_mem ho ha
    have := okB_mem ho hb
    omega
  · obtain ⟨a, ha, rfl⟩ := List.mem_map.1 h1
    obtain ⟨b, hb, e⟩ := List.mem_map.1 h2
    have := okB_mem (gf.each x hx).at_ ha
    have := okB_mem (gf.each y hy).at_ hb
    obtain rfl : a = b := by omega
    exact gf.at_ x hx y hy a ha hb
  · rw [mem_selK, List.mem_flatMap]
    have hu : ∀ (hj : j < c.data), usedF (usF c fl) j = fl.any fun x => decide ((j : Int) ∈ x.at_) := by
      intro hj
      unfold usedF usF
      rw [List.getD_eq_getElem?_getD, List.getElem?_map, List.getElem?_range hj]
      rfl
    constructor
    · rintro ⟨hj, h⟩
      rw [hu hj, List.any_eq_true] at h
      obtain ⟨x, hx, h⟩ := h
      exact ⟨x, hx, List.mem_map.2 ⟨_, of_decide_eq_true h, Int.toNat_natCast j⟩⟩
    · rintro ⟨x, hx, h⟩
      obtain ⟨a, ha, rfl⟩ := List.mem_map.1 h
      have hb := okB_mem (gf.each x hx).at_ ha
      have hj : a.toNat < c.data := by omega
      refine ⟨hj, ?_⟩
      rw [hu hj, List.any_eq_true]
      exact ⟨x, hx, decide_eq_true (by rwa [show ((a.toNat : Nat) : Int) = a by omega])⟩
theorem free_us_len (gf : Fine13 c fl) : freeC (usF c fl) + pagesF fl = c.data := by
  have := free_used (us := usF c fl) (usF c fl).length (Nat.le_refl _)
  have h2 := used_us gf
  unfold countS at h2
  unfold freeC
  rw [h2, usF_len] at this
  rw [usF_len]
  exact this
theorem used_tk (gf : Fine13 c fl) : countS (tkF c fl) = fl.length := by
  unfold countS
  rw [tkF_len]
  have e : fl.length = (fl.map (·.place)).length := by rw [List.length_map]
  rw [e]
  refine nodup_len (selK_nodup _ _) ?_ fun j => ?_
  · refine List.pairwise_map.2 (List.Pairwise.imp_of_mem (fun {a b} ha hb hne e => hne (gf.place a ha b hb e)) (nodup_of_map gf.names))
  · rw [mem_selK, List.mem_map]
    have hu : ∀ (hj : j < c.files), usedF (tkF c fl) j = fl.any fun x => decide (x.place = j) := by
      intro hj
      unfold usedF tkF
      rw [List.getD_eq_getElem?_getD, List.getElem?_map, List.getElem?_range hj]
      rfl
    constructor
    · rintro ⟨hj, h⟩
      rw [hu hj, List.any_eq_true] at h
      obtain ⟨x, hx, h⟩ := h
      exact ⟨x, hx, of_decide_eq_true h⟩
    · rintro ⟨x, hx, rfl⟩
      have hj := (gf.each x hx).place
      exact ⟨hj, by rw [hu hj, List.any_eq_true]; exact ⟨x, hx, decide_eq_true rfl⟩⟩
theorem free_tk_len (gf : Fine13 c fl) : freeC (tkF c fl) + fl.length = c.files := by
  have := free_used (us := tkF c fl) (tkF c fl).length (Nat.le_refl _)
  have h2 := used_tk gf
  unfold countS at h2
  unfold freeC
  rw [h2, tkF_len] at this
  rw [tkF_len]
  exact this
end
end
end Go.Proofs.YteddmnoeljakpaaGreatDoor
