/-
  PbD: The document's term (layer 18), over the loaded program: its contract, for every way of reading whose contract is known. No condition but what it names.
-/
import Derived.Test.YthindhlogkhclaaGreatDoorPz21
import Derived.Test.YthindhlogkhclaaGreatDoorPz25
set_option linter.unusedVariables false
set_option maxRecDepth 100000
namespace Go.Proofs.YthindhlogkhclaaGreatDoor
section
open Go.RowKit
set_option maxHeartbeats 32000000 in
theorem termd_any (p : Nat) (n : Int) (L : List Tk) (hL : L.length ≤ 1000000) {k : Nat} (f : Ps → Ex k × Ps) (hway : Way f) (d : Int) 
    (hone : ∀ (s : Ps) (W : World), Sd W p n L s → Calls Tryz.prog 93 #[.pointer (some ⟨p, 0, none⟩), .int .i64 d] W (GotD p n L f s W)) (s : Ps) (w : World) (h : Sd w p n L s) :
    Calls Tryz.prog 77 #[.pointer (some ⟨p, 0, none⟩), .int .i64 d] w (GotD p n L (fun s => (packP k 3 (manyP f andP s).1, (manyP f andP s).2)) s w) := by
  have hp := h.lt
  have HO : Hid (∀ (s : Ps) (W : World), Sd W p n L s → Calls Tryz.prog 93 #[.pointer (some ⟨p, 0, none⟩), .int .i64 d] W (GotD p n L f s W)) := hone
  unfold GotD at HO
  have HLF : Hid (s.rest.length ≤ 1000000) := by
    obtain ⟨v, a, k, ht, ha, hd, _⟩ := h
    show _ ≤ _
    rw [hd, List.length_drop]; omega
  have HV0 : Hid (∃ v0, v0 = (w.alloc (.cells #[.int .i64 0, .int .i64 0, .string ⟨#[]⟩, .slice none 0 0] 42)).alloc (.cells #[.int .i64 3, .int .i64 0, .string ⟨#[]⟩, .slice none 0 0] 42) ∧ KB v0 w.heap.size 42 #[.int .i64 0, .int .i64 0, .string ⟨#[]⟩, .slice none 0 0] ∧ KB v0 (w.heap.size + 1) 42 #[.int .i64 3, .int .i64 0, .string ⟨#[]⟩, .slice none 0 0] ∧ Sd v0 p n L s ∧ w.grownBy v0 (some p) ∧ v0.heap.size = w.heap.size + 2) := by
    obtain ⟨K0, R0, b0⟩ := two_boxes w #[.int .i64 0, .int .i64 0, .string ⟨#[]⟩, .slice none 0 0] #[.int .i64 3, .int .i64 0, .string ⟨#[]⟩, .slice none 0 0] 42
    exact ⟨_, rfl, K0, R0, h.below b0, grown_of_below b0 _, by simp⟩
  obtain ⟨w2, hw2, r2, x2, h2, g2, zs2⟩ := HV0.out
  have R2 := Lib.hid r2
  have X2 := Lib.hid x2
  have H2 := Lib.hid h2
  have G2 := Lib.hid g2
  have s2 : w.heap.size + 2 ≤ w2.heap.size := by omega
  have HVV := Lib.hid hw2
  obtain ⟨D, hD⟩ : ∃ D, D = GotD p n L (fun s => (packP k 3 (manyP f andP s).1, (manyP f andP s).2)) s w := ⟨_, rfl⟩
  rw [← hD]
  have HDD : Hid (∀ W i0 i1 z2 X3 n3 z3, EX W (fun b => w.heap.size ≤ b) (k + 1) (packP k 3 (manyP f andP s).1) (.int .i64 i0) (.int .i64 i1) (.string z2) (.slice X3 n3 z3) → Sd W p n L (manyP f andP s).2 → w.grownBy W (some p) →
    D (.returned (.agg #[.int .i64 i0, .int .i64 i1, .string z2, .slice X3 n3 z3])) W) := fun W i0 i1 z2 X3 n3 z3 h1 h2 h3 => by rw [hD]; exact ⟨i0, i1, z2, X3, n3, z3, rfl, h1, h2, h3⟩
  clear hD HV0 r2 x2 h2 g2 zs2 hw2 h hone
  obtain ⟨s1, hs1⟩ : ∃ s1, s1 = s := ⟨_, rfl⟩
  rw [← hs1] at H2 HDD HLF
  clear hs1
  go_enter Tryz.func77, Tryz.ntmps77
  go_wp2_with fail
  rw [← HVV.out]
  clear HVV
  have HD : Hid (∀ W i0 i1 z2 X3 n3 z3, EX W (fun b => w.heap.size ≤ b) (k + 1) (packP k 3 (manyP f andP s1).1) (.int .i64 i0) (.int .i64 i1) (.string z2) (.slice X3 n3 z3) → Sd W p n L (manyP f andP s1).2 → w.grownBy W (some p) →
      D (.returned (.agg #[.int .i64 i0, .int .i64 i1, .string z2, .slice X3 n3 z3])) W) := HDD
  obtain ⟨M, hM⟩ : ∃ M, M = manyP f andP s1 := ⟨_, rfl⟩
  have HM1 : Hid (moreP f andP s1.rest.length [(f s1).1] (f s1).2 = M) := hM.symm
  rw [← hM] at HD
  clear hM HDD
  have HS1F : Hid ((f s1).2.rest.length ≤ s1.rest.length) := hway.front s1
  obtain ⟨l, hl⟩ : ∃ l : List (Ex k), l = [] := ⟨_, rfl⟩
  obtain ⟨qs, hqs⟩ : ∃ qs : List QuX, qs = [] := ⟨_, rfl⟩
  obtain ⟨kv, hkv⟩ : ∃ kv : Value, kv = .slice none 0 0 := ⟨_, rfl⟩
  have HL0 : Hid (l = [] ∧ qs = []) := ⟨hl, hqs⟩
  have hql : qs.length ≤ 1000000000 := by rw [hqs]; simp
  have RD : Hid (KB w2.drew w.heap.size 42 #[.int .i64 0, .int .i64 0, .string ⟨#[]⟩, .slice none 0 0]) := R2.out
  have XD : Hid (KB w2.drew (w.heap.size + 1) 42 #[.int .i64 3, .int .i64 0, .string ⟨#[]⟩, kv]) := by show KB _ _ _ _; rw [hkv]; exact X2.out
  have HSD : Hid (Sd w2.drew p n L s1) := H2.out
  have GD : Hid (w.grownBy w2.drew (some p)) := grown_trans G2.out ⟨rfl, rfl, rfl, Nat.le_refl _, fun _ _ _ => rfl⟩
  have howD : Hid (w2.drew.ownsRow (w.heap.size + 2) 42 4 kv qs.length (flatX qs)) := by show World.ownsRow _ _ _ _ _ _ _; rw [hkv, hqs]; exact ⟨rfl, .inl ⟨rfl, rfl⟩⟩
  have HQD : Hid (QX w2.drew (SR (w.heap.size + 2) kv w2.drew.heap.size) k qs l) := by show QX _ _ _ _ _; rw [hqs, hl]; exact QX.nil _ _ _
  have sD : (w.heap.size + 2) ≤ w2.drew.heap.size := s2
  have qD : w2.drew.cell? ⟨w.heap.size + 1, 3, none⟩ = some kv := XD.out.cell 3
  have xD := XD.out.lt
  rename_i KK hKK
  have HKK := Lib.hid hKK
  clear hKK hl hqs hkv R2 X2 H2 G2 s2
  refine wp_region_held_drew (S := (fun _ : World => True)) (by kernel_rfl) trivial (fun hHeld => ?_)
  generalize w2.drew = v2 at *
  refine hyY (some 7) 0 rfl hHeld ?_; go_frame
  refine hyY (some 9) 2 rfl hHeld ?_; go_frame
  refine hyY (some 10) 3 rfl hHeld ?_; go_frame
  refine held_two (o := ⟨some 8, _, _, _, _, _⟩) (p := ⟨some 11, _, _, _, _, _⟩) 1 4 (by kernel_rfl) rfl rfl (by rfl) (by rfl) (fun K hK => ?_) (fun K hK => ?_)
  · go_simp
    refine hK.out _ _ ?_ (fun hH2 => ?_)
    · trivial
    clear hHeld hK K; have hHeld := hH2; clear hH2; try go_frame
    refine hyO (some 11) 4 rfl (fun K hK => ?_)
    go_simp
    go_at_call 93
    refine (HO.out s1 v2 HSD.out).mono ?_
    rintro e w5 ⟨j0, j1, y2, Y3, m3, t3, rfl, hx5, h5, g5⟩
    have s5 : v2.heap.size ≤ w5.heap.size := g5.size
    have R5 := RD.out.but g5 hp
    have X5 := XD.out.but g5 (by omega)
    have q5 : w5.cell? ⟨w.heap.size + 1, 3, none⟩ = some kv := X5.cell 3
    have how5 := own_but g5 (by omega) howD.out
    go_wp2_with fail
    refine hK.out _ _ ?_ (fun hH2 => ?_)
    · trivial
    clear hHeld hK K; have hHeld := hH2; clear hH2; try go_frame
    refine hyO (some 12) 5 rfl (fun K hK => ?_)
    go_simp
    have b6 := (Below.refl w5.heap.size w5).alloc (Nat.le_refl _) (.cells #[.int .i64 j0, .int .i64 j1, .string y2, .slice Y3 m3 t3] 42)
    have kat := KB.new w5 42 #[.int .i64 j0, .int .i64 j1, .string y2, .slice Y3 m3 t3]
    have how6 := own_past b6 how5
    have R6 := R5.alloc (.cells #[.int .i64 j0, .int .i64 j1, .string y2, .slice Y3 m3 t3] 42)
    have X6 := X5.alloc (.cells #[.int .i64 j0, .int .i64 j1, .string y2, .slice Y3 m3 t3] 42)
    have hsz6 : (w5.alloc (.cells #[.int .i64 j0, .int .i64 j1, .string y2, .slice Y3 m3 t3] 42)).heap.size = w5.heap.size + 1 := by simp
    have q6 : (w5.alloc (.cells #[.int .i64 j0, .int .i64 j1, .string y2, .slice Y3 m3 t3] 42)).cell? ⟨w.heap.size + 1, 3, none⟩ = some kv := X6.cell 3
    have B6 := grown_trans g5 (grown_of_below b6 (some p))
    have hat : ∀ i u, (quadX ((.int .i64 j0, .int .i64 j1, .string y2, .slice Y3 m3 t3) : QuX))[i]? = some u → (w5.alloc (.cells #[.int .i64 j0, .int .i64 j1, .string y2, .slice Y3 m3 t3] 42)).cell? ((⟨w5.heap.size, 0, none⟩ : Addr).add i) = some u := fun i u hu => by rw [Addr.add_lit, Nat.zero_add, kat.cell]; simpa [quadX] using hu
    have h1c : ∀ u ∈ quadX ((.int .i64 j0, .int .i64 j1, .string y2, .slice Y3 m3 t3) : QuX), u.oneCell' = true := by intro u hu; simp [quadX] at hu; rcases hu with rfl | rfl | rfl | rfl <;> rfl
    have H6 := h5.below b6
    refine hK.out _ _ ?_ (fun hH2 => ?_)
    · trivial
    clear hHeld hK K; have hHeld := hH2; clear hH2; try go_frame
    refine hyO (some 13) 6 rfl (fun K hK => ?_)
    have hown := fun k hk => howD.out.lt k hk
    refine wp_growX _ _ rfl (w.heap.size + 2) kv qs rfl how6 ⟨w5.heap.size, 0, none⟩ 1 ((.int .i64 j0, .int .i64 j1, .string y2, .slice Y3 m3 t3) : QuX) rfl hat h1c hql (by rw [hsz6]; omega) ?_
    intro v7 w7 how7 g7 ho7
    have hs7 := g7.size
    rw [hsz6] at hs7 ho7
    have R7 := R6.grown g7 (fun e => by have := (hown _ e).1; omega)
    have X7 := X6.grown g7 (fun e => by have := (hown _ e).1; omega)
    have H7 := H6.own g7 (fun k hk => by have := (hown _ hk).1; omega)
    have G7 := grown_own (grown_trans GD.out B6) g7 (fun k hk => by have := (hown _ hk).1; omega)
    have Q7 : QX w7 (SR (w.heap.size + 2) v7 w7.heap.size) k (qs ++ [((.int .i64 j0, .int .i64 j1, .string y2, .slice Y3 m3 t3) : QuX)]) (l ++ [(f s1).1]) := by
      refine QX.append (HQD.out.keepL (by omega) (fun b' sb' hb' => ?_) (fun b' sb' hb' => ?_)) ((QX.one hx5).keepL (by omega) (fun b' sb' hb' => ?_) (fun b' sb' hb' => ?_))
      · exact (g7.block b' (by rw [hsz6]; omega) (fun e => sb'.2.2 e.symm)).trans (B6.block b' hb' (fun e => by have := sb'.1; injection e with e; omega))
      · refine ⟨sb'.1, by omega, fun e => ?_⟩
        rcases ho7 with h | h
        · exact sb'.2.2 (h.symm.trans e)
        · rw [h] at e; injection e with e; omega
      · refine (g7.block b' (by rw [hsz6]; omega) (fun e => ?_)).trans (b6.block b' hb')
        have h1 := (hown _ e.symm).2
        have h2 : v2.heap.size ≤ b' := sb'
        omega
      · have h2 : v2.heap.size ≤ b' := sb'
        refine ⟨by omega, by omega, fun e => ?_⟩
        rcases ho7 with h | h
        · have h1 := (hown _ (h.symm.trans e)).2
          omega
        · rw [h] at e; injection e with e; omega
    have q7 : w7.cell? ⟨w.heap.size + 1, 3, none⟩ = some kv := X7.cell 3
    have f7 := X7.free 3
    have x7 := X7.lt
    obtain ⟨A7, n7, c7, hv7⟩ : ∃ A n c, v7 = .slice A n c := by rcases how7.2 with ⟨h, _⟩ | ⟨_, _, _, h, _⟩; exact ⟨_, _, _, h⟩; exact ⟨_, _, _, h⟩
    subst hv7
    clear R6 X6 H6 how6 how5 B6 b6 hat h1c kat hx5 h5 g5 R5 X5 q6 q5 s5 hsz6 g7 hown
    refine hK.out _ _ ?_ (fun hH2 => ?_)
    · trivial
    clear hHeld hK K; have hHeld := hH2; clear hH2; try go_frame
    refine hyY (some 14) 7 rfl hHeld ?_; go_frame
    refine hyO none 8 rfl (fun K hK => ?_)
    go_simp
    have R8 := Lib.hid (R7.aside (h := w.heap.size + 1) (i := 3) (by omega) (.slice A7 n7 c7))
    have X8 : Hid (KB (w7.setCell ⟨w.heap.size + 1, 3, none⟩ (.slice A7 n7 c7)) (w.heap.size + 1) 42 #[.int .i64 3, .int .i64 0, .string ⟨#[]⟩, (.slice A7 n7 c7)]) := X7.put 3 (.slice A7 n7 c7)
    have H8 := Lib.hid (H7.setCell (a := ⟨w.heap.size + 1, 3, none⟩) (by show p < w.heap.size + 1; omega) (.slice A7 n7 c7))
    have G8 := Lib.hid (grown_cell G7 (a := ⟨w.heap.size + 1, 3, none⟩) (by show w.heap.size ≤ w.heap.size + 1; omega) (.slice A7 n7 c7))
    have how8 := Lib.hid (own_keep (w' := w7.setCell ⟨w.heap.size + 1, 3, none⟩ (.slice A7 n7 c7)) how7 (fun b hb => Below.heap_setCell w7 _ _ _ (by have := (how7.lt _ hb).1; show b ≠ w.heap.size + 1; omega)))
    have Q8 : Hid (QX (w7.setCell ⟨w.heap.size + 1, 3, none⟩ (.slice A7 n7 c7)) (SR (w.heap.size + 2) (.slice A7 n7 c7) (w7.setCell ⟨w.heap.size + 1, 3, none⟩ (.slice A7 n7 c7)).heap.size) k (qs ++ [((.int .i64 j0, .int .i64 j1, .string y2, .slice Y3 m3 t3) : QuX)]) (l ++ [(f s1).1])) := Q7.keepL (by simp [World.setCell]) (fun b sb _ => Below.heap_setCell w7 _ _ _ (by have := sb.1; show b ≠ w.heap.size + 1; omega)) (fun b sb _ => ⟨sb.1, by have := sb.2.1; simp [World.setCell]; exact this, sb.2.2⟩)
    have s8 : (w.heap.size + 2) ≤ (w7.setCell ⟨w.heap.size + 1, 3, none⟩ (.slice A7 n7 c7)).heap.size := by simp [World.setCell]; omega
    generalize w7.setCell ⟨w.heap.size + 1, 3, none⟩ (.slice A7 n7 c7) = w8 at *
    clear R7 X7 H7 G7 Q7 how7 q7 f7 x7
    refine hK.out _ _ ?_ (fun hH2 => ?_)
    · trivial
    clear hHeld hK K; have hHeld := hH2; clear hH2; try go_frame
    refine wpAnyH_done (by kernel_rfl) ?_ _
    have hKK := HKK.out
    clear HKK
    have HM2 : Hid (moreP f andP s1.rest.length (l ++ [(f s1).1]) (f s1).2 = M) := by show _ = _; rw [HL0.out.1]; exact HM1.out
    have HQL : Hid ((qs ++ [((.int .i64 j0, .int .i64 j1, .string y2, .slice Y3 m3 t3) : QuX)]).length = 1) := by show _ = _; rw [HL0.out.2]; rfl
    clear HM1 HL0 hql RD XD HSD GD howD HQD sD qD xD
    go_wp2_with fail
    go_loopw [] (fun wr => ∃ (l : List (Ex k)) (sj : Ps) (qs : List QuX) (kv : Value), KB wr (w.heap.size + 1) 42 #[.int .i64 3, .int .i64 0, .string ⟨#[]⟩, kv] ∧ Hid (wr.ownsRow (w.heap.size + 2) 42 4 kv qs.length (flatX qs)) ∧ Hid (1 ≤ qs.length) ∧ Hid (qs.length + sj.rest.length + (if sj.e = 0 then 1 else 0) ≤ s1.rest.length + 2) ∧
      Hid (moreP f andP s1.rest.length l sj = M) ∧ Hid (QX wr (SR (w.heap.size + 2) kv wr.heap.size) k qs l) ∧ Hid (Sd wr p n L sj) ∧ Hid (KB wr w.heap.size 42 #[.int .i64 0, .int .i64 0, .string ⟨#[]⟩, .slice none 0 0]) ∧ Hid (w.grownBy wr (some p)) ∧ (w.heap.size + 2) ≤ wr.heap.size) (fun wr => measD wr p)
    case atStart => exact ⟨l ++ [(f s1).1], (f s1).2, qs ++ [((.int .i64 j0, .int .i64 j1, .string y2, .slice Y3 m3 t3) : QuX)], (.slice A7 n7 c7), X8.out, how8, by have := HQL.out; show 1 ≤ _; omega, by have := HQL.out; have := HS1F.out; show _ ≤ _; split <;> omega, HM2, Q8, H8, R8, G8, s8⟩
    case round =>
      clear X8 how8 HQL HM2 Q8 H8 R8 G8 s8
      clear l qs
      obtain ⟨l, sj, qs, kv, XJ, HOW, HL1, HLB, HMJ, HQ, HS, HR, HG, hsz⟩ := hrel
      have hLs := HLF.out
      have hi := is18_any p n L sj 1 andP wr HS.out
      have hwl : strV andP = .string ⟨#[97, 110, 100]⟩ := rfl
      rw [hwl] at hi
      by_cases hb : isP 1 andP sj = true
      · rw [hb] at hi
        have hje : sj.e = 0 := Classical.byContradiction fun h => by rw [is_err h] at hb; cases hb
        have hlt : sj.rest.length ≤ s1.rest.length := by have := HLB.out; rw [if_pos hje] at this; have := HL1.out; omega
        have HST : Hid (moreP f andP s1.rest.length (l ++ [(f (nextP 1 andP sj).2).1]) (f (nextP 1 andP sj).2).2 = M) := by show _ = _; rw [← HMJ.out, more_step hway hb hlt]
        have HB4 : Hid (2 * (f (nextP 1 andP sj).2).2.rest.length + (if (f (nextP 1 andP sj).2).2.e = 0 then 1 else 0) < 2 * sj.rest.length + 1) := by
          have h1 := hway.front (nextP 1 andP sj).2
          by_cases he : (nextP 1 andP sj).2.e = 0
          · have h2 := next_short he
            show _ < _
            split <;> omega
          · have h2 := (Way.next 1 andP).front sj
            have h3 : (f (nextP 1 andP sj).2).2.e ≠ 0 := by rw [hway.stays _ he]; exact he
            show _ < _
            rw [if_neg h3]; omega
        have HB3 : Hid (qs.length + 1 + (f (nextP 1 andP sj).2).2.rest.length + (if (f (nextP 1 andP sj).2).2.e = 0 then 1 else 0) ≤ s1.rest.length + 2) := by
          have h0 := HLB.out
          rw [if_pos hje] at h0
          have h1 := hway.front (nextP 1 andP sj).2
          by_cases he : (nextP 1 andP sj).2.e = 0
          · have h2 := next_short he
            show _ ≤ _
            split <;> omega
          · have h2 := (Way.next 1 andP).front sj
            have h3 : (f (nextP 1 andP sj).2).2.e ≠ 0 := by rw [hway.stays _ he]; exact he
            show _ ≤ _
            rw [if_neg h3]; omega
        have HMS : Hid (measD wr p = 2 * sj.rest.length + 1) := by show _ = _; rw [HS.out.meas, if_pos hje]
        have HNX : Hid (∀ W, Sd W p n L sj → Calls Tryz.prog 42 #[.pointer (some ⟨p, 0, none⟩), .int .i64 1, .string ⟨#[97, 110, 100]⟩] W fun e w' => e = .returned (tokV (nextP 1 andP sj).1) ∧ Sd w' p n L (nextP 1 andP sj).2 ∧ W.grownBy w' (some p)) := fun W hW => next18_any p n L sj 1 andP W hW
        have hql : qs.length ≤ 1000000000 := by have h1 := HLB.out; have h2 := HLF.out; split at h1 <;> omega
        obtain ⟨tv, htv⟩ : ∃ tv, tv = tokV (nextP 1 andP sj).1 := ⟨_, rfl⟩
        rw [← htv] at HNX
        generalize (nextP 1 andP sj).2 = s3 at *
        clear hb hje hlt htv HMJ HLB HL1
        go_wp2_with fail
        refine hi.mono ?_
        rintro e w3 ⟨rfl, m3, rfl⟩
        have hn := HNX.out (wr.drewN m3) HS.out
        clear hi HNX
        go_wp2_with fail
        refine hn.mono ?_
        rintro e w4 ⟨rfl, h4, g4⟩
        have gw : wr.grownBy w4 (some p) := grown_trans (show wr.grownBy (wr.drewN m3) (some p) from ⟨rfl, rfl, rfl, Nat.le_refl _, fun _ _ _ => rfl⟩) g4
        have gd : wr.grownBy w4.drew (some p) := grown_trans gw ⟨rfl, rfl, rfl, Nat.le_refl _, fun _ _ _ => rfl⟩
        have RD : Hid (KB w4.drew w.heap.size 42 #[.int .i64 0, .int .i64 0, .string ⟨#[]⟩, .slice none 0 0]) := HR.out.but gd hp
        have XD : Hid (KB w4.drew (w.heap.size + 1) 42 #[.int .i64 3, .int .i64 0, .string ⟨#[]⟩, kv]) := XJ.but gd (by omega)
        have HSD : Hid (Sd w4.drew p n L s3) := h4
        have GD : Hid (w.grownBy w4.drew (some p)) := grown_trans HG.out gd
        have howD : Hid (w4.drew.ownsRow (w.heap.size + 2) 42 4 kv qs.length (flatX qs)) := own_but gd (by omega) HOW.out
        have HQD : Hid (QX w4.drew (SR (w.heap.size + 2) kv w4.drew.heap.size) k qs l) := HQ.out.keepL gd.size (fun b sb hb => gd.block b hb (fun e => by have := sb.1; injection e with e; omega)) (fun b sb _ => ⟨sb.1, by have := sb.2.1; have := gd.size; omega, sb.2.2⟩)
        have sD : (w.heap.size + 2) ≤ w4.drew.heap.size := Nat.le_trans hsz gd.size
        have qD : w4.drew.cell? ⟨w.heap.size + 1, 3, none⟩ = some kv := XD.out.cell 3
        have xD := XD.out.lt
        clear hn h4 g4 gw gd XJ HOW HQ HS HR HG hsz
        go_wp2_with fail
        refine wp_region_held_drew (S := (fun _ : World => True)) (by kernel_rfl) trivial (fun hHeld => ?_)
        generalize w4.drew = v4 at *
        refine hyY (some 19) 0 rfl hHeld ?_; go_frame
        refine hyY (some 21) 2 rfl hHeld ?_; go_frame
        refine hyY (some 22) 3 rfl hHeld ?_; go_frame
        refine held_two (o := ⟨some 20, _, _, _, _, _⟩) (p := ⟨some 23, _, _, _, _, _⟩) 1 4 (by kernel_rfl) rfl rfl (by rfl) (by rfl) (fun K hK => ?_) (fun K hK => ?_)
        · go_simp
          refine hK.out _ _ ?_ (fun hH2 => ?_)
          · trivial
          clear hHeld hK K; have hHeld := hH2; clear hH2; try go_frame
          refine hyO (some 23) 4 rfl (fun K hK => ?_)
          go_simp
          go_at_call 93
          refine (HO.out s3 v4 HSD.out).mono ?_
          rintro e w5 ⟨j0, j1, y2, Y3, m3, t3, rfl, hx5, h5, g5⟩
          have s5 : v4.heap.size ≤ w5.heap.size := g5.size
          have R5 := RD.out.but g5 hp
          have X5 := XD.out.but g5 (by omega)
          have q5 : w5.cell? ⟨w.heap.size + 1, 3, none⟩ = some kv := X5.cell 3
          have how5 := own_but g5 (by omega) howD.out
          go_wp2_with fail
          refine hK.out _ _ ?_ (fun hH2 => ?_)
          · trivial
          clear hHeld hK K; have hHeld := hH2; clear hH2; try go_frame
          refine hyO (some 24) 5 rfl (fun K hK => ?_)
          go_simp
          have b6 := (Below.refl w5.heap.size w5).alloc (Nat.le_refl _) (.cells #[.int .i64 j0, .int .i64 j1, .string y2, .slice Y3 m3 t3] 42)
          have kat := KB.new w5 42 #[.int .i64 j0, .int .i64 j1, .string y2, .slice Y3 m3 t3]
          have how6 := own_past b6 how5
          have R6 := R5.alloc (.cells #[.int .i64 j0, .int .i64 j1, .string y2, .slice Y3 m3 t3] 42)
          have X6 := X5.alloc (.cells #[.int .i64 j0, .int .i64 j1, .string y2, .slice Y3 m3 t3] 42)
          have hsz6 : (w5.alloc (.cells #[.int .i64 j0, .int .i64 j1, .string y2, .slice Y3 m3 t3] 42)).heap.size = w5.heap.size + 1 := by simp
          have q6 : (w5.alloc (.cells #[.int .i64 j0, .int .i64 j1, .string y2, .slice Y3 m3 t3] 42)).cell? ⟨w.heap.size + 1, 3, none⟩ = some kv := X6.cell 3
          have B6 := grown_trans g5 (grown_of_below b6 (some p))
          have hat : ∀ i u, (quadX ((.int .i64 j0, .int .i64 j1, .string y2, .slice Y3 m3 t3) : QuX))[i]? = some u → (w5.alloc (.cells #[.int .i64 j0, .int .i64 j1, .string y2, .slice Y3 m3 t3] 42)).cell? ((⟨w5.heap.size, 0, none⟩ : Addr).add i) = some u := fun i u hu => by rw [Addr.add_lit, Nat.zero_add, kat.cell]; simpa [quadX] using hu
          have h1c : ∀ u ∈ quadX ((.int .i64 j0, .int .i64 j1, .string y2, .slice Y3 m3 t3) : QuX), u.oneCell' = true := by intro u hu; simp [quadX] at hu; rcases hu with rfl | rfl | rfl | rfl <;> rfl
          have H6 := h5.below b6
          refine hK.out _ _ ?_ (fun hH2 => ?_)
          · trivial
          clear hHeld hK K; have hHeld := hH2; clear hH2; try go_frame
          refine hyO (some 25) 6 rfl (fun K hK => ?_)
          have hown := fun k hk => howD.out.lt k hk
          refine wp_growX _ _ rfl (w.heap.size + 2) kv qs rfl how6 ⟨w5.heap.size, 0, none⟩ 1 ((.int .i64 j0, .int .i64 j1, .string y2, .slice Y3 m3 t3) : QuX) rfl hat h1c hql (by rw [hsz6]; omega) ?_
          intro v7 w7 how7 g7 ho7
          have hs7 := g7.size
          rw [hsz6] at hs7 ho7
          have R7 := R6.grown g7 (fun e => by have := (hown _ e).1; omega)
          have X7 := X6.grown g7 (fun e => by have := (hown _ e).1; omega)
          have H7 := H6.own g7 (fun k hk => by have := (hown _ hk).1; omega)
          have G7 := grown_own (grown_trans GD.out B6) g7 (fun k hk => by have := (hown _ hk).1; omega)
          have Q7 : QX w7 (SR (w.heap.size + 2) v7 w7.heap.size) k (qs ++ [((.int .i64 j0, .int .i64 j1, .string y2, .slice Y3 m3 t3) : QuX)]) (l ++ [(f s3).1]) := by
            refine QX.append (HQD.out.keepL (by omega) (fun b' sb' hb' => ?_) (fun b' sb' hb' => ?_)) ((QX.one hx5).keepL (by omega) (fun b' sb' hb' => ?_) (fun b' sb' hb' => ?_))
            · exact (g7.block b' (by rw [hsz6]; omega) (fun e => sb'.2.2 e.symm)).trans (B6.block b' hb' (fun e => by have := sb'.1; injection e with e; omega))
            · refine ⟨sb'.1, by omega, fun e => ?_⟩
              rcases ho7 with h | h
              · exact sb'.2.2 (h.symm.trans e)
              · rw [h] at e; injection e with e; omega
            · refine (g7.block b' (by rw [hsz6]; omega) (fun e => ?_)).trans (b6.block b' hb')
              have h1 := (hown _ e.symm).2
              have h2 : v4.heap.size ≤ b' := sb'
              omega
            · have h2 : v4.heap.size ≤ b' := sb'
              refine ⟨by omega, by omega, fun e => ?_⟩
              rcases ho7 with h | h
              · have h1 := (hown _ (h.symm.trans e)).2
                omega
              · rw [h] at e; injection e with e; omega
          have q7 : w7.cell? ⟨w.heap.size + 1, 3, none⟩ = some kv := X7.cell 3
          have f7 := X7.free 3
          have x7 := X7.lt
          obtain ⟨A7, n7, c7, hv7⟩ : ∃ A n c, v7 = .slice A n c := by rcases how7.2 with ⟨h, _⟩ | ⟨_, _, _, h, _⟩; exact ⟨_, _, _, h⟩; exact ⟨_, _, _, h⟩
          subst hv7
          clear R6 X6 H6 how6 how5 B6 b6 hat h1c kat hx5 h5 g5 R5 X5 q6 q5 s5 hsz6 g7 hown
          refine hK.out _ _ ?_ (fun hH2 => ?_)
          · trivial
          clear hHeld hK K; have hHeld := hH2; clear hH2; try go_frame
          refine hyY (some 26) 7 rfl hHeld ?_; go_frame
          refine hyO none 8 rfl (fun K hK => ?_)
          go_simp
          have R8 := Lib.hid (R7.aside (h := w.heap.size + 1) (i := 3) (by omega) (.slice A7 n7 c7))
          have X8 : Hid (KB (w7.setCell ⟨w.heap.size + 1, 3, none⟩ (.slice A7 n7 c7)) (w.heap.size + 1) 42 #[.int .i64 3, .int .i64 0, .string ⟨#[]⟩, (.slice A7 n7 c7)]) := X7.put 3 (.slice A7 n7 c7)
          have H8 := Lib.hid (H7.setCell (a := ⟨w.heap.size + 1, 3, none⟩) (by show p < w.heap.size + 1; omega) (.slice A7 n7 c7))
          have G8 := Lib.hid (grown_cell G7 (a := ⟨w.heap.size + 1, 3, none⟩) (by show w.heap.size ≤ w.heap.size + 1; omega) (.slice A7 n7 c7))
          have how8 := Lib.hid (own_keep (w' := w7.setCell ⟨w.heap.size + 1, 3, none⟩ (.slice A7 n7 c7)) how7 (fun b hb => Below.heap_setCell w7 _ _ _ (by have := (how7.lt _ hb).1; show b ≠ w.heap.size + 1; omega)))
          have Q8 : Hid (QX (w7.setCell ⟨w.heap.size + 1, 3, none⟩ (.slice A7 n7 c7)) (SR (w.heap.size + 2) (.slice A7 n7 c7) (w7.setCell ⟨w.heap.size + 1, 3, none⟩ (.slice A7 n7 c7)).heap.size) k (qs ++ [((.int .i64 j0, .int .i64 j1, .string y2, .slice Y3 m3 t3) : QuX)]) (l ++ [(f s3).1])) := Q7.keepL (by simp [World.setCell]) (fun b sb _ => Below.heap_setCell w7 _ _ _ (by have := sb.1; show b ≠ w.heap.size + 1; omega)) (fun b sb _ => ⟨sb.1, by have := sb.2.1; simp [World.setCell]; exact this, sb.2.2⟩)
          have s8 : (w.heap.size + 2) ≤ (w7.setCell ⟨w.heap.size + 1, 3, none⟩ (.slice A7 n7 c7)).heap.size := by simp [World.setCell]; omega
          generalize w7.setCell ⟨w.heap.size + 1, 3, none⟩ (.slice A7 n7 c7) = w8 at *
          clear R7 X7 H7 G7 Q7 how7 q7 f7 x7
          refine hK.out _ _ ?_ (fun hH2 => ?_)
          · trivial
          clear hHeld hK K; have hHeld := hH2; clear hH2; try go_frame
          refine wpAnyH_done (by kernel_rfl) ?_ _
          skip
          go_wp2_with fail
          go_roundw
          case rel => exact ⟨l ++ [(f s3).1], (f s3).2, qs ++ [((.int .i64 j0, .int .i64 j1, .string y2, .slice Y3 m3 t3) : QuX)], (.slice A7 n7 c7), X8.out, how8, by show 1 ≤ _; rw [List.length_append]; simp, by show _ ≤ _; rw [List.length_append]; exact HB3.out, HST.out, Q8, H8, R8, G8, s8⟩
          case measure =>
            rw [H8.out.meas, HMS.out]
            have := HB4.out
            omega
        · go_simp
          go_at_call 93
          refine (HO.out s3 v4 HSD.out).mono ?_
          rintro e w5 ⟨j0, j1, y2, Y3, m3, t3, rfl, hx5, h5, g5⟩
          have s5 : v4.heap.size ≤ w5.heap.size := g5.size
          have R5 := RD.out.but g5 hp
          have X5 := XD.out.but g5 (by omega)
          have q5 : w5.cell? ⟨w.heap.size + 1, 3, none⟩ = some kv := X5.cell 3
          have how5 := own_but g5 (by omega) howD.out
          go_wp2_with fail
          refine hK.out _ _ ?_ (fun hH2 => ?_)
          · trivial
          clear hHeld hK K; have hHeld := hH2; clear hH2; try go_frame
          refine held_two (o := ⟨some 20, _, _, _, _, _⟩) (p := ⟨some 24, _, _, _, _, _⟩) 1 5 (by kernel_rfl) rfl rfl (by rfl) (by rfl) (fun K hK => ?_) (fun K hK => ?_)
          · go_simp
            refine hK.out _ _ ?_ (fun hH2 => ?_)
            · trivial
            clear hHeld hK K; have hHeld := hH2; clear hH2; try go_frame
            refine hyO (some 24) 5 rfl (fun K hK => ?_)
            go_simp
            have b6 := (Below.refl w5.heap.size w5).alloc (Nat.le_refl _) (.cells #[.int .i64 j0, .int .i64 j1, .string y2, .slice Y3 m3 t3] 42)
            have kat := KB.new w5 42 #[.int .i64 j0, .int .i64 j1, .string y2, .slice Y3 m3 t3]
            have how6 := own_past b6 how5
            have R6 := R5.alloc (.cells #[.int .i64 j0, .int .i64 j1, .string y2, .slice Y3 m3 t3] 42)
            have X6 := X5.alloc (.cells #[.int .i64 j0, .int .i64 j1, .string y2, .slice Y3 m3 t3] 42)
            have hsz6 : (w5.alloc (.cells #[.int .i64 j0, .int .i64 j1, .string y2, .slice Y3 m3 t3] 42)).heap.size = w5.heap.size + 1 := by simp
            have q6 : (w5.alloc (.cells #[.int .i64 j0, .int .i64 j1, .string y2, .slice Y3 m3 t3] 42)).cell? ⟨w.heap.size + 1, 3, none⟩ = some kv := X6.cell 3
            have B6 := grown_trans g5 (grown_of_below b6 (some p))
            have hat : ∀ i u, (quadX ((.int .i64 j0, .int .i64 j1, .string y2, .slice Y3 m3 t3) : QuX))[i]? = some u → (w5.alloc (.cells #[.int .i64 j0, .int .i64 j1, .string y2, .slice Y3 m3 t3] 42)).cell? ((⟨w5.heap.size, 0, none⟩ : Addr).add i) = some u := fun i u hu => by rw [Addr.add_lit, Nat.zero_add, kat.cell]; simpa [quadX] using hu
            have h1c : ∀ u ∈ quadX ((.int .i64 j0, .int .i64 j1, .string y2, .slice Y3 m3 t3) : QuX), u.oneCell' = true := by intro u hu; simp [quadX] at hu; rcases hu with rfl | rfl | rfl | rfl <;> rfl
            have H6 := h5.below b6
            refine hK.out _ _ ?_ (fun hH2 => ?_)
            · trivial
            clear hHeld hK K; have hHeld := hH2; clear hH2; try go_frame
            refine hyO (some 25) 6 rfl (fun K hK => ?_)
            have hown := fun k hk => howD.out.lt k hk
            refine wp_growX _ _ rfl (w.heap.size + 2) kv qs rfl how6 ⟨w5.heap.size, 0, none⟩ 1 ((.int .i64 j0, .int .i64 j1, .string y2, .slice Y3 m3 t3) : QuX) rfl hat h1c hql (by rw [hsz6]; omega) ?_
            intro v7 w7 how7 g7 ho7
            have hs7 := g7.size
            rw [hsz6] at hs7 ho7
            have R7 := R6.grown g7 (fun e => by have := (hown _ e).1; omega)
            have X7 := X6.grown g7 (fun e => by have := (hown _ e).1; omega)
            have H7 := H6.own g7 (fun k hk => by have := (hown _ hk).1; omega)
            have G7 := grown_own (grown_trans GD.out B6) g7 (fun k hk => by have := (hown _ hk).1; omega)
            have Q7 : QX w7 (SR (w.heap.size + 2) v7 w7.heap.size) k (qs ++ [((.int .i64 j0, .int .i64 j1, .string y2, .slice Y3 m3 t3) : QuX)]) (l ++ [(f s3).1]) := by
              refine QX.append (HQD.out.keepL (by omega) (fun b' sb' hb' => ?_) (fun b' sb' hb' => ?_)) ((QX.one hx5).keepL (by omega) (fun b' sb' hb' => ?_) (fun b' sb' hb' => ?_))
              · exact (g7.block b' (by rw [hsz6]; omega) (fun e => sb'.2.2 e.symm)).trans (B6.block b' hb' (fun e => by have := sb'.1; injection e with e; omega))
              · refine ⟨sb'.1, by omega, fun e => ?_⟩
                rcases ho7 with h | h
                · exact sb'.2.2 (h.symm.trans e)
                · rw [h] at e; injection e with e; omega
              · refine (g7.block b' (by rw [hsz6]; omega) (fun e => ?_)).trans (b6.block b' hb')
                have h1 := (hown _ e.symm).2
                have h2 : v4.heap.size ≤ b' := sb'
                omega
              · have h2 : v4.heap.size ≤ b' := sb'
                refine ⟨by omega, by omega, fun e => ?_⟩
                rcases ho7 with h | h
                · have h1 := (hown _ (h.symm.trans e)).2
                  omega
                · rw [h] at e; injection e with e; omega
            have q7 : w7.cell? ⟨w.heap.size + 1, 3, none⟩ = some kv := X7.cell 3
            have f7 := X7.free 3
            have x7 := X7.lt
            obtain ⟨A7, n7, c7, hv7⟩ : ∃ A n c, v7 = .slice A n c := by rcases how7.2 with ⟨h, _⟩ | ⟨_, _, _, h, _⟩; exact ⟨_, _, _, h⟩; exact ⟨_, _, _, h⟩
            subst hv7
            clear R6 X6 H6 how6 how5 B6 b6 hat h1c kat hx5 h5 g5 R5 X5 q6 q5 s5 hsz6 g7 hown
            refine hK.out _ _ ?_ (fun hH2 => ?_)
            · trivial
            clear hHeld hK K; have hHeld := hH2; clear hH2; try go_frame
            refine hyY (some 26) 7 rfl hHeld ?_; go_frame
            refine hyO none 8 rfl (fun K hK => ?_)
            go_simp
            have R8 := Lib.hid (R7.aside (h := w.heap.size + 1) (i := 3) (by omega) (.slice A7 n7 c7))
            have X8 : Hid (KB (w7.setCell ⟨w.heap.size + 1, 3, none⟩ (.slice A7 n7 c7)) (w.heap.size + 1) 42 #[.int .i64 3, .int .i64 0, .string ⟨#[]⟩, (.slice A7 n7 c7)]) := X7.put 3 (.slice A7 n7 c7)
            have H8 := Lib.hid (H7.setCell (a := ⟨w.heap.size + 1, 3, none⟩) (by show p < w.heap.size + 1; omega) (.slice A7 n7 c7))
            have G8 := Lib.hid (grown_cell G7 (a := ⟨w.heap.size + 1, 3, none⟩) (by show w.heap.size ≤ w.heap.size + 1; omega) (.slice A7 n7 c7))
            have how8 := Lib.hid (own_keep (w' := w7.setCell ⟨w.heap.size + 1, 3, none⟩ (.slice A7 n7 c7)) how7 (fun b hb => Below.heap_setCell w7 _ _ _ (by have := (how7.lt _ hb).1; show b ≠ w.heap.size + 1; omega)))
            have Q8 : Hid (QX (w7.setCell ⟨w.heap.size + 1, 3, none⟩ (.slice A7 n7 c7)) (SR (w.heap.size + 2) (.slice A7 n7 c7) (w7.setCell ⟨w.heap.size + 1, 3, none⟩ (.slice A7 n7 c7)).heap.size) k (qs ++ [((.int .i64 j0, .int .i64 j1, .string y2, .slice Y3 m3 t3) : QuX)]) (l ++ [(f s3).1])) := Q7.keepL (by simp [World.setCell]) (fun b sb _ => Below.heap_setCell w7 _ _ _ (by have := sb.1; show b ≠ w.heap.size + 1; omega)) (fun b sb _ => ⟨sb.1, by have := sb.2.1; simp [World.setCell]; exact this, sb.2.2⟩)
            have s8 : (w.heap.size + 2) ≤ (w7.setCell ⟨w.heap.size + 1, 3, none⟩ (.slice A7 n7 c7)).heap.size := by simp [World.setCell]; omega
            generalize w7.setCell ⟨w.heap.size + 1, 3, none⟩ (.slice A7 n7 c7) = w8 at *
            clear R7 X7 H7 G7 Q7 how7 q7 f7 x7
            refine hK.out _ _ ?_ (fun hH2 => ?_)
            · trivial
            clear hHeld hK K; have hHeld := hH2; clear hH2; try go_frame
            refine wpAnyH_done (by kernel_rfl) ?_ _
            skip
            go_wp2_with fail
            go_roundw
            case rel => exact ⟨l ++ [(f s3).1], (f s3).2, qs ++ [((.int .i64 j0, .int .i64 j1, .string y2, .slice Y3 m3 t3) : QuX)], (.slice A7 n7 c7), X8.out, how8, by show 1 ≤ _; rw [List.length_append]; simp, by show _ ≤ _; rw [List.length_append]; exact HB3.out, HST.out, Q8, H8, R8, G8, s8⟩
            case measure =>
              rw [H8.out.meas, HMS.out]
              have := HB4.out
              omega
          · go_simp
            have b6 := (Below.refl w5.heap.size w5).alloc (Nat.le_refl _) (.cells #[.int .i64 j0, .int .i64 j1, .string y2, .slice Y3 m3 t3] 42)
            have kat := KB.new w5 42 #[.int .i64 j0, .int .i64 j1, .string y2, .slice Y3 m3 t3]
            have how6 := own_past b6 how5
            have R6 := R5.alloc (.cells #[.int .i64 j0, .int .i64 j1, .string y2, .slice Y3 m3 t3] 42)
            have X6 := X5.alloc (.cells #[.int .i64 j0, .int .i64 j1, .string y2, .slice Y3 m3 t3] 42)
            have hsz6 : (w5.alloc (.cells #[.int .i64 j0, .int .i64 j1, .string y2, .slice Y3 m3 t3] 42)).heap.size = w5.heap.size + 1 := by simp
            have q6 : (w5.alloc (.cells #[.int .i64 j0, .int .i64 j1, .string y2, .slice Y3 m3 t3] 42)).cell? ⟨w.heap.size + 1, 3, none⟩ = some kv := X6.cell 3
            have B6 := grown_trans g5 (grown_of_below b6 (some p))
            have hat : ∀ i u, (quadX ((.int .i64 j0, .int .i64 j1, .string y2, .slice Y3 m3 t3) : QuX))[i]? = some u → (w5.alloc (.cells #[.int .i64 j0, .int .i64 j1, .string y2, .slice Y3 m3 t3] 42)).cell? ((⟨w5.heap.size, 0, none⟩ : Addr).add i) = some u := fun i u hu => by rw [Addr.add_lit, Nat.zero_add, kat.cell]; simpa [quadX] using hu
            have h1c : ∀ u ∈ quadX ((.int .i64 j0, .int .i64 j1, .string y2, .slice Y3 m3 t3) : QuX), u.oneCell' = true := by intro u hu; simp [quadX] at hu; rcases hu with rfl | rfl | rfl | rfl <;> rfl
            have H6 := h5.below b6
            refine hK.out _ _ ?_ (fun hH2 => ?_)
            · trivial
            clear hHeld hK K; have hHeld := hH2; clear hH2; try go_frame
            refine hyO (some 20) 1 rfl (fun K hK => ?_)
            go_simp
            refine hK.out _ _ ?_ (fun hH2 => ?_)
            · trivial
            clear hHeld hK K; have hHeld := hH2; clear hH2; try go_frame
            refine hyO (some 25) 6 rfl (fun K hK => ?_)
            have hown := fun k hk => howD.out.lt k hk
            refine wp_growX _ _ rfl (w.heap.size + 2) kv qs rfl how6 ⟨w5.heap.size, 0, none⟩ 1 ((.int .i64 j0, .int .i64 j1, .string y2, .slice Y3 m3 t3) : QuX) rfl hat h1c hql (by rw [hsz6]; omega) ?_
            intro v7 w7 how7 g7 ho7
            have hs7 := g7.size
            rw [hsz6] at hs7 ho7
            have R7 := R6.grown g7 (fun e => by have := (hown _ e).1; omega)
            have X7 := X6.grown g7 (fun e => by have := (hown _ e).1; omega)
            have H7 := H6.own g7 (fun k hk => by have := (hown _ hk).1; omega)
            have G7 := grown_own (grown_trans GD.out B6) g7 (fun k hk => by have := (hown _ hk).1; omega)
            have Q7 : QX w7 (SR (w.heap.size + 2) v7 w7.heap.size) k (qs ++ [((.int .i64 j0, .int .i64 j1, .string y2, .slice Y3 m3 t3) : QuX)]) (l ++ [(f s3).1]) := by
              refine QX.append (HQD.out.keepL (by omega) (fun b' sb' hb' => ?_) (fun b' sb' hb' => ?_)) ((QX.one hx5).keepL (by omega) (fun b' sb' hb' => ?_) (fun b' sb' hb' => ?_))
              · exact (g7.block b' (by rw [hsz6]; omega) (fun e => sb'.2.2 e.symm)).trans (B6.block b' hb' (fun e => by have := sb'.1; injection e with e; omega))
              · refine ⟨sb'.1, by omega, fun e => ?_⟩
                rcases ho7 with h | h
                · exact sb'.2.2 (h.symm.trans e)
                · rw [h] at e; injection e with e; omega
              · refine (g7.block b' (by rw [hsz6]; omega) (fun e => ?_)).trans (b6.block b' hb')
                have h1 := (hown _ e.symm).2
                have h2 : v4.heap.size ≤ b' := sb'
                omega
              · have h2 : v4.heap.size ≤ b' := sb'
                refine ⟨by omega, by omega, fun e => ?_⟩
                rcases ho7 with h | h
                · have h1 := (hown _ (h.symm.trans e)).2
                  omega
                · rw [h] at e; injection e with e; omega
            have q7 : w7.cell? ⟨w.heap.size + 1, 3, none⟩ = some kv := X7.cell 3
            have f7 := X7.free 3
            have x7 := X7.lt
            obtain ⟨A7, n7, c7, hv7⟩ : ∃ A n c, v7 = .slice A n c := by rcases how7.2 with ⟨h, _⟩ | ⟨_, _, _, h, _⟩; exact ⟨_, _, _, h⟩; exact ⟨_, _, _, h⟩
            subst hv7
            clear R6 X6 H6 how6 how5 B6 b6 hat h1c kat hx5 h5 g5 R5 X5 q6 q5 s5 hsz6 g7 hown
            refine hK.out _ _ ?_ (fun hH2 => ?_)
            · trivial
            clear hHeld hK K; have hHeld := hH2; clear hH2; try go_frame
            refine hyY (some 26) 7 rfl hHeld ?_; go_frame
            refine hyO none 8 rfl (fun K hK => ?_)
            go_simp
            have R8 := Lib.hid (R7.aside (h := w.heap.size + 1) (i := 3) (by omega) (.slice A7 n7 c7))
            have X8 : Hid (KB (w7.setCell ⟨w.heap.size + 1, 3, none⟩ (.slice A7 n7 c7)) (w.heap.size + 1) 42 #[.int .i64 3, .int .i64 0, .string ⟨#[]⟩, (.slice A7 n7 c7)]) := X7.put 3 (.slice A7 n7 c7)
            have H8 := Lib.hid (H7.setCell (a := ⟨w.heap.size + 1, 3, none⟩) (by show p < w.heap.size + 1; omega) (.slice A7 n7 c7))
            have G8 := Lib.hid (grown_cell G7 (a := ⟨w.heap.size + 1, 3, none⟩) (by show w.heap.size ≤ w.heap.size + 1; omega) (.slice A7 n7 c7))
            have how8 := Lib.hid (own_keep (w' := w7.setCell ⟨w.heap.size + 1, 3, none⟩ (.slice A7 n7 c7)) how7 (fun b hb => Below.heap_setCell w7 _ _ _ (by have := (how7.lt _ hb).1; show b ≠ w.heap.size + 1; omega)))
            have Q8 : Hid (QX (w7.setCell ⟨w.heap.size + 1, 3, none⟩ (.slice A7 n7 c7)) (SR (w.heap.size + 2) (.slice A7 n7 c7) (w7.setCell ⟨w.heap.size + 1, 3, none⟩ (.slice A7 n7 c7)).heap.size) k (qs ++ [((.int .i64 j0, .int .i64 j1, .string y2, .slice Y3 m3 t3) : QuX)]) (l ++ [(f s3).1])) := Q7.keepL (by simp [World.setCell]) (fun b sb _ => Below.heap_setCell w7 _ _ _ (by have := sb.1; show b ≠ w.heap.size + 1; omega)) (fun b sb _ => ⟨sb.1, by have := sb.2.1; simp [World.setCell]; exact this, sb.2.2⟩)
            have s8 : (w.heap.size + 2) ≤ (w7.setCell ⟨w.heap.size + 1, 3, none⟩ (.slice A7 n7 c7)).heap.size := by simp [World.setCell]; omega
            generalize w7.setCell ⟨w.heap.size + 1, 3, none⟩ (.slice A7 n7 c7) = w8 at *
            clear R7 X7 H7 G7 Q7 how7 q7 f7 x7
            refine hK.out _ _ ?_ (fun hH2 => ?_)
            · trivial
            clear hHeld hK K; have hHeld := hH2; clear hH2; try go_frame
            refine wpAnyH_done (by kernel_rfl) ?_ _
            skip
            go_wp2_with fail
            go_roundw
            case rel => exact ⟨l ++ [(f s3).1], (f s3).2, qs ++ [((.int .i64 j0, .int .i64 j1, .string y2, .slice Y3 m3 t3) : QuX)], (.slice A7 n7 c7), X8.out, how8, by show 1 ≤ _; rw [List.length_append]; simp, by show _ ≤ _; rw [List.length_append]; exact HB3.out, HST.out, Q8, H8, R8, G8, s8⟩
            case measure =>
              rw [H8.out.meas, HMS.out]
              have := HB4.out
              omega
      · have hb0 : isP 1 andP sj = false := by simpa using hb
        rw [hb0] at hi
        have hM : M = (l, sj) := by rw [← HMJ.out, more_stop hb0]
        clear hb hb0
        go_wp2_with fail
        refine hi.mono ?_
        rintro e w3 ⟨rfl, m3, rfl⟩
        have s4' : (w.heap.size + 2) ≤ (wr.drewN m3).heap.size := hsz
        have R4 : KB (wr.drewN m3) w.heap.size 42 #[.int .i64 0, .int .i64 0, .string ⟨#[]⟩, .slice none 0 0] := HR.out
        have X5 : KB (wr.drewN m3) (w.heap.size + 1) 42 #[.int .i64 3, .int .i64 0, .string ⟨#[]⟩, kv] := XJ
        have G4 : w.grownBy (wr.drewN m3) (some p) := grown_trans HG.out ⟨rfl, rfl, rfl, Nat.le_refl _, fun _ _ _ => rfl⟩
        have how4 : (wr.drewN m3).ownsRow (w.heap.size + 2) 42 4 kv qs.length (flatX qs) := HOW.out
        have h4' : Sd (wr.drewN m3) p n L M.2 := by rw [hM]; exact HS.out
        have hQ4 : QX (wr.drewN m3) (SR (w.heap.size + 2) kv (wr.drewN m3).heap.size) k qs l := HQ.out.keepL (w' := wr.drewN m3) (Nat.le_refl _) (fun _ _ _ => rfl) (fun b h _ => h)
        have HM1 : Hid (M.1 = l) := by show _ = _; rw [hM]
        clear hi XJ HOW HQ HS HR HG hM HMJ
        generalize wr.drewN m3 = w4 at *
        have hXS := XS_of_own how4 (hQ4.mono (S' := fun b => (w.heap.size + 2) ≤ b) fun b h => h.1) fun b h1 _ => h1
        cases qs with
        | nil => exact absurd HL1.out (by simp)
        | cons q qr =>
          obtain ⟨x0, x1, x2, x3, x4, x5, x6, hq⟩ : ∃ x, ∃ (i0 i1 : Int) (z2 : ByteArray) (X3 : Option Addr) (n3 z3 : Nat), l[0]? = some x ∧ q = (.int .i64 i0, .int .i64 i1, .string z2, .slice X3 n3 z3) := by
            cases l with
            | nil => exact absurd hQ4.1 (by simp)
            | cons x r =>
              obtain ⟨i0, i1, l2, X3, n3, z3, e0, e1, e2, e3⟩ := (hQ4.2 0 q x rfl rfl).form
              refine ⟨x, i0, i1, ⟨l2.toArray⟩, X3, n3, z3, rfl, ?_⟩
              obtain ⟨q0, q1, q2, q3⟩ := q
              dsimp only at e0 e1 e2 e3
              rw [e0, e1, e2, e3]; rfl
          obtain ⟨hl0, rfl⟩ := hq
          obtain ⟨g', c', rfl, hg1, hg2, hc1, hc2, q0, q1, q2, q3⟩ := ownX_head how4
          dsimp only at q0 q1 q2 q3
          have hqw : qr.length ≤ 2000000 := by have h1 := HLB.out; have h2 := HLF.out; rw [List.length_cons] at h1; split at h1 <;> omega
          have f0 := R4.free 0
          have f1 := R4.free 1
          have f2 := R4.free 2
          have f3 := R4.free 3
          have r0 := R4.cell 0
          have r1 := R4.cell 1
          have r2 := R4.cell 2
          have r3 := R4.cell 3
          have c0 := X5.cell 0
          have c1 := X5.cell 1
          have c2 := X5.cell 2
          have c3 := X5.cell 3
          have hg0 := R4.lt
          have hg9 := X5.lt
          have hgg : ¬ g' = w.heap.size := by omega
          have hgg2 : ¬ w.heap.size = g' := by omega
          by_cases hq1 : qr = []
          · subst hq1
            have hlx : l = [x0] := by
              cases l with
              | nil => cases hl0
              | cons x r =>
                have := hQ4.1
                simp at this
                simp at hl0
                rw [hl0, ← this]
            obtain ⟨W5, hW5⟩ : ∃ W5, W5 = ((((w4.setCell ⟨w.heap.size, 0, none⟩ (.int .i64 x1)).setCell ⟨w.heap.size, 1, none⟩ (.int .i64 x2)).setCell ⟨w.heap.size, 2, none⟩ (.string x3)).setCell ⟨w.heap.size, 3, none⟩ (.slice x4 x5 x6)) := ⟨_, rfl⟩
            have kfin := R4.put4 (.int .i64 x1) (.int .i64 x2) (.string x3) (.slice x4 x5 x6)
            have st5 := h4'.four hp (.int .i64 x1) (.int .i64 x2) (.string x3) (.slice x4 x5 x6)
            have gr5 := grown_four G4 (Nat.le_refl _) (.int .i64 x1) (.int .i64 x2) (.string x3) (.slice x4 x5 x6)
            have hblk : ∀ b, (w.heap.size + 2) ≤ b → W5.heap[b]? = w4.heap[b]? := fun b hb => by
              rw [hW5]
              exact (Below.heap_setCell _ _ _ _ (by show b ≠ w.heap.size; omega)).trans ((Below.heap_setCell _ _ _ _ (by show b ≠ w.heap.size; omega)).trans ((Below.heap_setCell _ _ _ _ (by show b ≠ w.heap.size; omega)).trans (Below.heap_setCell _ _ _ _ (by show b ≠ w.heap.size; omega))))
            have hsz5 : W5.heap.size = w4.heap.size := by rw [hW5]; simp [World.setCell]
            rw [← hW5] at kfin st5 gr5
            have hx := hQ4.2 0 _ x0 rfl (by rw [hlx]; rfl)
            have hfin := HD.out W5 x1 x2 x3 x4 x5 x6 (by
              rw [HM1.out, hlx]
              refine EX.lifted k x0 _ _ _ _ (EX.keepL k x0 _ _ _ _ hx (by omega) (fun b sb' hb' => hblk b sb'.1) (fun b sb' _ => ?_))
              have h1 := sb'.1; show w.heap.size ≤ b; omega) st5 gr5
            have HW5 := Lib.hid hW5
            clear hW5 hblk h4' G4 how4 R4 X5 st5 gr5 hQ4 HD hXS hx hlx hl0 HLB HL1 HO
            go_wp2_with fail
            rw [← HW5.out]
            exact bodyPost_ret (results_cell (P := Tryz.prog) rfl _ _ w.heap.size _ _ (0, 0) _ rfl kfin Tryz.underlying42 rfl (by kernel_rfl)) rfl hfin
          · have hq2 : ¬ ((qr.length : Int) + 1 = 1) := by
              have : qr.length ≠ 0 := fun h => hq1 (List.length_eq_zero_iff.1 h)
              omega
            have hl1 : l.length = qr.length + 1 := by rw [← hQ4.1]; rfl
            have hpk : packP k 3 l = (⟨3, 0, [], l⟩ : Nx (Ex k)) := by
              match l, hl1 with
              | [], hl => rfl
              | [x], hl => exact absurd (List.length_eq_zero_iff.1 (show qr.length = 0 by have h1 : ([x] : List (Ex k)).length = 1 := rfl; omega)) hq1
              | _ :: _ :: _, _ => rfl
            obtain ⟨W5, hW5⟩ : ∃ W5, W5 = ((((w4.setCell ⟨w.heap.size, 0, none⟩ (.int .i64 3)).setCell ⟨w.heap.size, 1, none⟩ (.int .i64 0)).setCell ⟨w.heap.size, 2, none⟩ (.string ⟨#[]⟩)).setCell ⟨w.heap.size, 3, none⟩ (.slice (some ⟨g', 0, none⟩) (qr.length + 1) c')) := ⟨_, rfl⟩
            have kfin := R4.put4 (.int .i64 3) (.int .i64 0) (.string ⟨#[]⟩) (.slice (some ⟨g', 0, none⟩) (qr.length + 1) c')
            have st5 := h4'.four hp (.int .i64 3) (.int .i64 0) (.string ⟨#[]⟩) (.slice (some ⟨g', 0, none⟩) (qr.length + 1) c')
            have gr5 := grown_four G4 (Nat.le_refl _) (.int .i64 3) (.int .i64 0) (.string ⟨#[]⟩) (.slice (some ⟨g', 0, none⟩) (qr.length + 1) c')
            have hblk : ∀ b, (w.heap.size + 2) ≤ b → W5.heap[b]? = w4.heap[b]? := fun b hb => by
              rw [hW5]
              exact (Below.heap_setCell _ _ _ _ (by show b ≠ w.heap.size; omega)).trans ((Below.heap_setCell _ _ _ _ (by show b ≠ w.heap.size; omega)).trans ((Below.heap_setCell _ _ _ _ (by show b ≠ w.heap.size; omega)).trans (Below.heap_setCell _ _ _ _ (by show b ≠ w.heap.size; omega))))
            have hsz5 : W5.heap.size = w4.heap.size := by rw [hW5]; simp [World.setCell]
            rw [← hW5] at kfin st5 gr5
            have hfin := HD.out W5 3 0 ⟨#[]⟩ (some ⟨g', 0, none⟩) (qr.length + 1) c' (by
              rw [HM1.out, hpk]
              refine ⟨rfl, by show I64 3; unfold I64; omega, rfl, by show I64 0; unfold I64; omega, rfl, by simp, ?_⟩
              exact XS.mapL hXS (by omega) (fun b h _ => hblk b h) (fun b h _ => by show w.heap.size ≤ b; omega) (fun t c0 c1 c2 c3 h => EX.keepL k t c0 c1 c2 c3 h (by omega) (fun b h _ => hblk b h) (fun b h _ => by show w.heap.size ≤ b; omega))) st5 gr5
            have HW5 := Lib.hid hW5
            clear hW5 hblk h4' G4 how4 R4 X5 st5 gr5 hQ4 HD hXS hpk hl1 hl0 HLB HL1 HO
            go_wp2_with fail
            rw [← HW5.out]
            exact bodyPost_ret (results_cell (P := Tryz.prog) rfl _ _ w.heap.size _ _ (0, 0) _ rfl kfin Tryz.underlying42 rfl (by kernel_rfl)) rfl hfin
  · go_simp
    go_at_call 93
    refine (HO.out s1 v2 HSD.out).mono ?_
    rintro e w5 ⟨j0, j1, y2, Y3, m3, t3, rfl, hx5, h5, g5⟩
    have s5 : v2.heap.size ≤ w5.heap.size := g5.size
    have R5 := RD.out.but g5 hp
    have X5 := XD.out.but g5 (by omega)
    have q5 : w5.cell? ⟨w.heap.size + 1, 3, none⟩ = some kv := X5.cell 3
    have how5 := own_but g5 (by omega) howD.out
    go_wp2_with fail
    refine hK.out _ _ ?_ (fun hH2 => ?_)
    · trivial
    clear hHeld hK K; have hHeld := hH2; clear hH2; try go_frame
    refine held_two (o := ⟨some 8, _, _, _, _, _⟩) (p := ⟨some 12, _, _, _, _, _⟩) 1 5 (by kernel_rfl) rfl rfl (by rfl) (by rfl) (fun K hK => ?_) (fun K hK => ?_)
    · go_simp
      refine hK.out _ _ ?_ (fun hH2 => ?_)
      · trivial
      clear hHeld hK K; have hHeld := hH2; clear hH2; try go_frame
      refine hyO (some 12) 5 rfl (fun K hK => ?_)
      go_simp
      have b6 := (Below.refl w5.heap.size w5).alloc (Nat.le_refl _) (.cells #[.int .i64 j0, .int .i64 j1, .string y2, .slice Y3 m3 t3] 42)
      have kat := KB.new w5 42 #[.int .i64 j0, .int .i64 j1, .string y2, .slice Y3 m3 t3]
      have how6 := own_past b6 how5
      have R6 := R5.alloc (.cells #[.int .i64 j0, .int .i64 j1, .string y2, .slice Y3 m3 t3] 42)
      have X6 := X5.alloc (.cells #[.int .i64 j0, .int .i64 j1, .string y2, .slice Y3 m3 t3] 42)
      have hsz6 : (w5.alloc (.cells #[.int .i64 j0, .int .i64 j1, .string y2, .slice Y3 m3 t3] 42)).heap.size = w5.heap.size + 1 := by simp
      have q6 : (w5.alloc (.cells #[.int .i64 j0, .int .i64 j1, .string y2, .slice Y3 m3 t3] 42)).cell? ⟨w.heap.size + 1, 3, none⟩ = some kv := X6.cell 3
      have B6 := grown_trans g5 (grown_of_below b6 (some p))
      have hat : ∀ i u, (quadX ((.int .i64 j0, .int .i64 j1, .string y2, .slice Y3 m3 t3) : QuX))[i]? = some u → (w5.alloc (.cells #[.int .i64 j0, .int .i64 j1, .string y2, .slice Y3 m3 t3] 42)).cell? ((⟨w5.heap.size, 0, none⟩ : Addr).add i) = some u := fun i u hu => by rw [Addr.add_lit, Nat.zero_add, kat.cell]; simpa [quadX] using hu
      have h1c : ∀ u ∈ quadX ((.int .i64 j0, .int .i64 j1, .string y2, .slice Y3 m3 t3) : QuX), u.oneCell' = true := by intro u hu; simp [quadX] at hu; rcases hu with rfl | rfl | rfl | rfl <;> rfl
      have H6 := h5.below b6
      refine hK.out _ _ ?_ (fun hH2 => ?_)
      · trivial
      clear hHeld hK K; have hHeld := hH2; clear hH2; try go_frame
      refine hyO (some 13) 6 rfl (fun K hK => ?_)
      have hown := fun k hk => howD.out.lt k hk
      refine wp_growX _ _ rfl (w.heap.size + 2) kv qs rfl how6 ⟨w5.heap.size, 0, none⟩ 1 ((.int .i64 j0, .int .i64 j1, .string y2, .slice Y3 m3 t3) : QuX) rfl hat h1c hql (by rw [hsz6]; omega) ?_
      intro v7 w7 how7 g7 ho7
      have hs7 := g7.size
      rw [hsz6] at hs7 ho7
      have R7 := R6.grown g7 (fun e => by have := (hown _ e).1; omega)
      have X7 := X6.grown g7 (fun e => by have := (hown _ e).1; omega)
      have H7 := H6.own g7 (fun k hk => by have := (hown _ hk).1; omega)
      have G7 := grown_own (grown_trans GD.out B6) g7 (fun k hk => by have := (hown _ hk).1; omega)
      have Q7 : QX w7 (SR (w.heap.size + 2) v7 w7.heap.size) k (qs ++ [((.int .i64 j0, .int .i64 j1, .string y2, .slice Y3 m3 t3) : QuX)]) (l ++ [(f s1).1]) := by
        refine QX.append (HQD.out.keepL (by omega) (fun b' sb' hb' => ?_) (fun b' sb' hb' => ?_)) ((QX.one hx5).keepL (by omega) (fun b' sb' hb' => ?_) (fun b' sb' hb' => ?_))
        · exact (g7.block b' (by rw [hsz6]; omega) (fun e => sb'.2.2 e.symm)).trans (B6.block b' hb' (fun e => by have := sb'.1; injection e with e; omega))
        · refine ⟨sb'.1, by omega, fun e => ?_⟩
          rcases ho7 with h | h
          · exact sb'.2.2 (h.symm.trans e)
          · rw [h] at e; injection e with e; omega
        · refine (g7.block b' (by rw [hsz6]; omega) (fun e => ?_)).trans (b6.block b' hb')
          have h1 := (hown _ e.symm).2
          have h2 : v2.heap.size ≤ b' := sb'
          omega
        · have h2 : v2.heap.size ≤ b' := sb'
          refine ⟨by omega, by omega, fun e => ?_⟩
          rcases ho7 with h | h
          · have h1 := (hown _ (h.symm.trans e)).2
            omega
          · rw [h] at e; injection e with e; omega
      have q7 : w7.cell? ⟨w.heap.size + 1, 3, none⟩ = some kv := X7.cell 3
      have f7 := X7.free 3
      have x7 := X7.lt
      obtain ⟨A7, n7, c7, hv7⟩ : ∃ A n c, v7 = .slice A n c := by rcases how7.2 with ⟨h, _⟩ | ⟨_, _, _, h, _⟩; exact ⟨_, _, _, h⟩; exact ⟨_, _, _, h⟩
      subst hv7
      clear R6 X6 H6 how6 how5 B6 b6 hat h1c kat hx5 h5 g5 R5 X5 q6 q5 s5 hsz6 g7 hown
      refine hK.out _ _ ?_ (fun hH2 => ?_)
      · trivial
      clear hHeld hK K; have hHeld := hH2; clear hH2; try go_frame
      refine hyY (some 14) 7 rfl hHeld ?_; go_frame
      refine hyO none 8 rfl (fun K hK => ?_)
      go_simp
      have R8 := Lib.hid (R7.aside (h := w.heap.size + 1) (i := 3) (by omega) (.slice A7 n7 c7))
      have X8 : Hid (KB (w7.setCell ⟨w.heap.size + 1, 3, none⟩ (.slice A7 n7 c7)) (w.heap.size + 1) 42 #[.int .i64 3, .int .i64 0, .string ⟨#[]⟩, (.slice A7 n7 c7)]) := X7.put 3 (.slice A7 n7 c7)
      have H8 := Lib.hid (H7.setCell (a := ⟨w.heap.size + 1, 3, none⟩) (by show p < w.heap.size + 1; omega) (.slice A7 n7 c7))
      have G8 := Lib.hid (grown_cell G7 (a := ⟨w.heap.size + 1, 3, none⟩) (by show w.heap.size ≤ w.heap.size + 1; omega) (.slice A7 n7 c7))
      have how8 := Lib.hid (own_keep (w' := w7.setCell ⟨w.heap.size + 1, 3, none⟩ (.slice A7 n7 c7)) how7 (fun b hb => Below.heap_setCell w7 _ _ _ (by have := (how7.lt _ hb).1; show b ≠ w.heap.size + 1; omega)))
      have Q8 : Hid (QX (w7.setCell ⟨w.heap.size + 1, 3, none⟩ (.slice A7 n7 c7)) (SR (w.heap.size + 2) (.slice A7 n7 c7) (w7.setCell ⟨w.heap.size + 1, 3, none⟩ (.slice A7 n7 c7)).heap.size) k (qs ++ [((.int .i64 j0, .int .i64 j1, .string y2, .slice Y3 m3 t3) : QuX)]) (l ++ [(f s1).1])) := Q7.keepL (by simp [World.setCell]) (fun b sb _ => Below.heap_setCell w7 _ _ _ (by have := sb.1; show b ≠ w.heap.size + 1; omega)) (fun b sb _ => ⟨sb.1, by have := sb.2.1; simp [World.setCell]; exact this, sb.2.2⟩)
      have s8 : (w.heap.size + 2) ≤ (w7.setCell ⟨w.heap.size + 1, 3, none⟩ (.slice A7 n7 c7)).heap.size := by simp [World.setCell]; omega
      generalize w7.setCell ⟨w.heap.size + 1, 3, none⟩ (.slice A7 n7 c7) = w8 at *
      clear R7 X7 H7 G7 Q7 how7 q7 f7 x7
      refine hK.out _ _ ?_ (fun hH2 => ?_)
      · trivial
      clear hHeld hK K; have hHeld := hH2; clear hH2; try go_frame
      refine wpAnyH_done (by kernel_rfl) ?_ _
      have hKK := HKK.out
      clear HKK
      have HM2 : Hid (moreP f andP s1.rest.length (l ++ [(f s1).1]) (f s1).2 = M) := by show _ = _; rw [HL0.out.1]; exact HM1.out
      have HQL : Hid ((qs ++ [((.int .i64 j0, .int .i64 j1, .string y2, .slice Y3 m3 t3) : QuX)]).length = 1) := by show _ = _; rw [HL0.out.2]; rfl
      clear HM1 HL0 hql RD XD HSD GD howD HQD sD qD xD
      go_wp2_with fail
      go_loopw [] (fun wr => ∃ (l : List (Ex k)) (sj : Ps) (qs : List QuX) (kv : Value), KB wr (w.heap.size + 1) 42 #[.int .i64 3, .int .i64 0, .string ⟨#[]⟩, kv] ∧ Hid (wr.ownsRow (w.heap.size + 2) 42 4 kv qs.length (flatX qs)) ∧ Hid (1 ≤ qs.length) ∧ Hid (qs.length + sj.rest.length + (if sj.e = 0 then 1 else 0) ≤ s1.rest.length + 2) ∧
        Hid (moreP f andP s1.rest.length l sj = M) ∧ Hid (QX wr (SR (w.heap.size + 2) kv wr.heap.size) k qs l) ∧ Hid (Sd wr p n L sj) ∧ Hid (KB wr w.heap.size 42 #[.int .i64 0, .int .i64 0, .string ⟨#[]⟩, .slice none 0 0]) ∧ Hid (w.grownBy wr (some p)) ∧ (w.heap.size + 2) ≤ wr.heap.size) (fun wr => measD wr p)
      case atStart => exact ⟨l ++ [(f s1).1], (f s1).2, qs ++ [((.int .i64 j0, .int .i64 j1, .string y2, .slice Y3 m3 t3) : QuX)], (.slice A7 n7 c7), X8.out, how8, by have := HQL.out; show 1 ≤ _; omega, by have := HQL.out; have := HS1F.out; show _ ≤ _; split <;> omega, HM2, Q8, H8, R8, G8, s8⟩
      case round =>
        clear X8 how8 HQL HM2 Q8 H8 R8 G8 s8
        clear l qs
        obtain ⟨l, sj, qs, kv, XJ, HOW, HL1, HLB, HMJ, HQ, HS, HR, HG, hsz⟩ := hrel
        have hLs := HLF.out
        have hi := is18_any p n L sj 1 andP wr HS.out
        have hwl : strV andP = .string ⟨#[97, 110, 100]⟩ := rfl
        rw [hwl] at hi
        by_cases hb : isP 1 andP sj = true
        · rw [hb] at hi
          have hje : sj.e = 0 := Classical.byContradiction fun h => by rw [is_err h] at hb; cases hb
          have hlt : sj.rest.length ≤ s1.rest.length := by have := HLB.out; rw [if_pos hje] at this; have := HL1.out; omega
          have HST : Hid (moreP f andP s1.rest.length (l ++ [(f (nextP 1 andP sj).2).1]) (f (nextP 1 andP sj).2).2 = M) := by show _ = _; rw [← HMJ.out, more_step hway hb hlt]
          have HB4 : Hid (2 * (f (nextP 1 andP sj).2).2.rest.length + (if (f (nextP 1 andP sj).2).2.e = 0 then 1 else 0) < 2 * sj.rest.length + 1) := by
            have h1 := hway.front (nextP 1 andP sj).2
            by_cases he : (nextP 1 andP sj).2.e = 0
            · have h2 := next_short he
              show _ < _
              split <;> omega
            · have h2 := (Way.next 1 andP).front sj
              have h3 : (f (nextP 1 andP sj).2).2.e ≠ 0 := by rw [hway.stays _ he]; exact he
              show _ < _
              rw [if_neg h3]; omega
          have HB3 : Hid (qs.length + 1 + (f (nextP 1 andP sj).2).2.rest.length + (if (f (nextP 1 andP sj).2).2.e = 0 then 1 else 0) ≤ s1.rest.length + 2) := by
            have h0 := HLB.out
            rw [if_pos hje] at h0
            have h1 := hway.front (nextP 1 andP sj).2
            by_cases he : (nextP 1 andP sj).2.e = 0
            · have h2 := next_short he
              show _ ≤ _
              split <;> omega
            · have h2 := (Way.next 1 andP).front sj
              have h3 : (f (nextP 1 andP sj).2).2.e ≠ 0 := by rw [hway.stays _ he]; exact he
              show _ ≤ _
              rw [if_neg h3]; omega
          have HMS : Hid (measD wr p = 2 * sj.rest.length + 1) := by show _ = _; rw [HS.out.meas, if_pos hje]
          have HNX : Hid (∀ W, Sd W p n L sj → Calls Tryz.prog 42 #[.pointer (some ⟨p, 0, none⟩), .int .i64 1, .string ⟨#[97, 110, 100]⟩] W fun e w' => e = .returned (tokV (nextP 1 andP sj).1) ∧ Sd w' p n L (nextP 1 andP sj).2 ∧ W.grownBy w' (some p)) := fun W hW => next18_any p n L sj 1 andP W hW
          have hql : qs.length ≤ 1000000000 := by have h1 := HLB.out; have h2 := HLF.out; split at h1 <;> omega
          obtain ⟨tv, htv⟩ : ∃ tv, tv = tokV (nextP 1 andP sj).1 := ⟨_, rfl⟩
          rw [← htv] at HNX
          generalize (nextP 1 andP sj).2 = s3 at *
          clear hb hje hlt htv HMJ HLB HL1
          go_wp2_with fail
          refine hi.mono ?_
          rintro e w3 ⟨rfl, m3, rfl⟩
          have hn := HNX.out (wr.drewN m3) HS.out
          clear hi HNX
          go_wp2_with fail
          refine hn.mono ?_
          rintro e w4 ⟨rfl, h4, g4⟩
          have gw : wr.grownBy w4 (some p) := grown_trans (show wr.grownBy (wr.drewN m3) (some p) from ⟨rfl, rfl, rfl, Nat.le_refl _, fun _ _ _ => rfl⟩) g4
          have gd : wr.grownBy w4.drew (some p) := grown_trans gw ⟨rfl, rfl, rfl, Nat.le_refl _, fun _ _ _ => rfl⟩
          have RD : Hid (KB w4.drew w.heap.size 42 #[.int .i64 0, .int .i64 0, .string ⟨#[]⟩, .slice none 0 0]) := HR.out.but gd hp
          have XD : Hid (KB w4.drew (w.heap.size + 1) 42 #[.int .i64 3, .int .i64 0, .string ⟨#[]⟩, kv]) := XJ.but gd (by omega)
          have HSD : Hid (Sd w4.drew p n L s3) := h4
          have GD : Hid (w.grownBy w4.drew (some p)) := grown_trans HG.out gd
          have howD : Hid (w4.drew.ownsRow (w.heap.size + 2) 42 4 kv qs.length (flatX qs)) := own_but gd (by omega) HOW.out
          have HQD : Hid (QX w4.drew (SR (w.heap.size + 2) kv w4.drew.heap.size) k qs l) := HQ.out.keepL gd.size (fun b sb hb => gd.block b hb (fun e => by have := sb.1; injection e with e; omega)) (fun b sb _ => ⟨sb.1, by have := sb.2.1; have := gd.size; omega, sb.2.2⟩)
          have sD : (w.heap.size + 2) ≤ w4.drew.heap.size := Nat.le_trans hsz gd.size
          have qD : w4.drew.cell? ⟨w.heap.size + 1, 3, none⟩ = some kv := XD.out.cell 3
          have xD := XD.out.lt
          clear hn h4 g4 gw gd XJ HOW HQ HS HR HG hsz
          go_wp2_with fail
          refine wp_region_held_drew (S := (fun _ : World => True)) (by kernel_rfl) trivial (fun hHeld => ?_)
          generalize w4.drew = v4 at *
          refine hyY (some 19) 0 rfl hHeld ?_; go_frame
          refine hyY (some 21) 2 rfl hHeld ?_; go_frame
          refine hyY (some 22) 3 rfl hHeld ?_; go_frame
          refine held_two (o := ⟨some 20, _, _, _, _, _⟩) (p := ⟨some 23, _, _, _, _, _⟩) 1 4 (by kernel_rfl) rfl rfl (by rfl) (by rfl) (fun K hK => ?_) (fun K hK => ?_)
          · go_simp
            refine hK.out _ _ ?_ (fun hH2 => ?_)
            · trivial
            clear hHeld hK K; have hHeld := hH2; clear hH2; try go_frame
            refine hyO (some 23) 4 rfl (fun K hK => ?_)
            go_simp
            go_at_call 93
            refine (HO.out s3 v4 HSD.out).mono ?_
            rintro e w5 ⟨j0, j1, y2, Y3, m3, t3, rfl, hx5, h5, g5⟩
            have s5 : v4.heap.size ≤ w5.heap.size := g5.size
            have R5 := RD.out.but g5 hp
            have X5 := XD.out.but g5 (by omega)
            have q5 : w5.cell? ⟨w.heap.size + 1, 3, none⟩ = some kv := X5.cell 3
            have how5 := own_but g5 (by omega) howD.out
            go_wp2_with fail
            refine hK.out _ _ ?_ (fun hH2 => ?_)
            · trivial
            clear hHeld hK K; have hHeld := hH2; clear hH2; try go_frame
            refine hyO (some 24) 5 rfl (fun K hK => ?_)
            go_simp
            have b6 := (Below.refl w5.heap.size w5).alloc (Nat.le_refl _) (.cells #[.int .i64 j0, .int .i64 j1, .string y2, .slice Y3 m3 t3] 42)
            have kat := KB.new w5 42 #[.int .i64 j0, .int .i64 j1, .string y2, .slice Y3 m3 t3]
            have how6 := own_past b6 how5
            have R6 := R5.alloc (.cells #[.int .i64 j0, .int .i64 j1, .string y2, .slice Y3 m3 t3] 42)
            have X6 := X5.alloc (.cells #[.int .i64 j0, .int .i64 j1, .string y2, .slice Y3 m3 t3] 42)
            have hsz6 : (w5.alloc (.cells #[.int .i64 j0, .int .i64 j1, .string y2, .slice Y3 m3 t3] 42)).heap.size = w5.heap.size + 1 := by simp
            have q6 : (w5.alloc (.cells #[.int .i64 j0, .int .i64 j1, .string y2, .slice Y3 m3 t3] 42)).cell? ⟨w.heap.size + 1, 3, none⟩ = some kv := X6.cell 3
            have B6 := grown_trans g5 (grown_of_below b6 (some p))
            have hat : ∀ i u, (quadX ((.int .i64 j0, .int .i64 j1, .string y2, .slice Y3 m3 t3) : QuX))[i]? = some u → (w5.alloc (.cells #[.int .i64 j0, .int .i64 j1, .string y2, .slice Y3 m3 t3] 42)).cell? ((⟨w5.heap.size, 0, none⟩ : Addr).add i) = some u := fun i u hu => by rw [Addr.add_lit, Nat.zero_add, kat.cell]; simpa [quadX] using hu
            have h1c : ∀ u ∈ quadX ((.int .i64 j0, .int .i64 j1, .string y2, .slice Y3 m3 t3) : QuX), u.oneCell' = true := by intro u hu; simp [quadX] at hu; rcases hu with rfl | rfl | rfl | rfl <;> rfl
            have H6 := h5.below b6
            refine hK.out _ _ ?_ (fun hH2 => ?_)
            · trivial
            clear hHeld hK K; have hHeld := hH2; clear hH2; try go_frame
            refine hyO (some 25) 6 rfl (fun K hK => ?_)
            have hown := fun k hk => howD.out.lt k hk
            refine wp_growX _ _ rfl (w.heap.size + 2) kv qs rfl how6 ⟨w5.heap.size, 0, none⟩ 1 ((.int .i64 j0, .int .i64 j1, .string y2, .slice Y3 m3 t3) : QuX) rfl hat h1c hql (by rw [hsz6]; omega) ?_
            intro v7 w7 how7 g7 ho7
            have hs7 := g7.size
            rw [hsz6] at hs7 ho7
            have R7 := R6.grown g7 (fun e => by have := (hown _ e).1; omega)
            have X7 := X6.grown g7 (fun e => by have := (hown _ e).1; omega)
            have H7 := H6.own g7 (fun k hk => by have := (hown _ hk).1; omega)
            have G7 := grown_own (grown_trans GD.out B6) g7 (fun k hk => by have := (hown _ hk).1; omega)
            have Q7 : QX w7 (SR (w.heap.size + 2) v7 w7.heap.size) k (qs ++ [((.int .i64 j0, .int .i64 j1, .string y2, .slice Y3 m3 t3) : QuX)]) (l ++ [(f s3).1]) := by
              refine QX.append (HQD.out.keepL (by omega) (fun b' sb' hb' => ?_) (fun b' sb' hb' => ?_)) ((QX.one hx5).keepL (by omega) (fun b' sb' hb' => ?_) (fun b' sb' hb' => ?_))
              · exact (g7.block b' (by rw [hsz6]; omega) (fun e => sb'.2.2 e.symm)).trans (B6.block b' hb' (fun e => by have := sb'.1; injection e with e; omega))
              · refine ⟨sb'.1, by omega, fun e => ?_⟩
                rcases ho7 with h | h
                · exact sb'.2.2 (h.symm.trans e)
                · rw [h] at e; injection e with e; omega
              · refine (g7.block b' (by rw [hsz6]; omega) (fun e => ?_)).trans (b6.block b' hb')
                have h1 := (hown _ e.symm).2
                have h2 : v4.heap.size ≤ b' := sb'
                omega
              · have h2 : v4.heap.size ≤ b' := sb'
                refine ⟨by omega, by omega, fun e => ?_⟩
                rcases ho7 with h | h
                · have h1 := (hown _ (h.symm.trans e)).2
                  omega
                · rw [h] at e; injection e with e; omega
            have q7 : w7.cell? ⟨w.heap.size + 1, 3, none⟩ = some kv := X7.cell 3
            have f7 := X7.free 3
            have x7 := X7.lt
            obtain ⟨A7, n7, c7, hv7⟩ : ∃ A n c, v7 = .slice A n c := by rcases how7.2 with ⟨h, _⟩ | ⟨_, _, _, h, _⟩; exact ⟨_, _, _, h⟩; exact ⟨_, _, _, h⟩
            subst hv7
            clear R6 X6 H6 how6 how5 B6 b6 hat h1c kat hx5 h5 g5 R5 X5 q6 q5 s5 hsz6 g7 hown
            refine hK.out _ _ ?_ (fun hH2 => ?_)
            · trivial
            clear hHeld hK K; have hHeld := hH2; clear hH2; try go_frame
            refine hyY (some 26) 7 rfl hHeld ?_; go_frame
            refine hyO none 8 rfl (fun K hK => ?_)
            go_simp
            have R8 := Lib.hid (R7.aside (h := w.heap.size + 1) (i := 3) (by omega) (.slice A7 n7 c7))
            have X8 : Hid (KB (w7.setCell ⟨w.heap.size + 1, 3, none⟩ (.slice A7 n7 c7)) (w.heap.size + 1) 42 #[.int .i64 3, .int .i64 0, .string ⟨#[]⟩, (.slice A7 n7 c7)]) := X7.put 3 (.slice A7 n7 c7)
            have H8 := Lib.hid (H7.setCell (a := ⟨w.heap.size + 1, 3, none⟩) (by show p < w.heap.size + 1; omega) (.slice A7 n7 c7))
            have G8 := Lib.hid (grown_cell G7 (a := ⟨w.heap.size + 1, 3, none⟩) (by show w.heap.size ≤ w.heap.size + 1; omega) (.slice A7 n7 c7))
            have how8 := Lib.hid (own_keep (w' := w7.setCell ⟨w.heap.size + 1, 3, none⟩ (.slice A7 n7 c7)) how7 (fun b hb => Below.heap_setCell w7 _ _ _ (by have := (how7.lt _ hb).1; show b ≠ w.heap.size + 1; omega)))
            have Q8 : Hid (QX (w7.setCell ⟨w.heap.size + 1, 3, none⟩ (.slice A7 n7 c7)) (SR (w.heap.size + 2) (.slice A7 n7 c7) (w7.setCell ⟨w.heap.size + 1, 3, none⟩ (.slice A7 n7 c7)).heap.size) k (qs ++ [((.int .i64 j0, .int .i64 j1, .string y2, .slice Y3 m3 t3) : QuX)]) (l ++ [(f s3).1])) := Q7.keepL (by simp [World.setCell]) (fun b sb _ => Below.heap_setCell w7 _ _ _ (by have := sb.1; show b ≠ w.heap.size + 1; omega)) (fun b sb _ => ⟨sb.1, by have := sb.2.1; simp [World.setCell]; exact this, sb.2.2⟩)
            have s8 : (w.heap.size + 2) ≤ (w7.setCell ⟨w.heap.size + 1, 3, none⟩ (.slice A7 n7 c7)).heap.size := by simp [World.setCell]; omega
            generalize w7.setCell ⟨w.heap.size + 1, 3, none⟩ (.slice A7 n7 c7) = w8 at *
            clear R7 X7 H7 G7 Q7 how7 q7 f7 x7
            refine hK.out _ _ ?_ (fun hH2 => ?_)
            · trivial
            clear hHeld hK K; have hHeld := hH2; clear hH2; try go_frame
            refine wpAnyH_done (by kernel_rfl) ?_ _
            skip
            go_wp2_with fail
            go_roundw
            case rel => exact ⟨l ++ [(f s3).1], (f s3).2, qs ++ [((.int .i64 j0, .int .i64 j1, .string y2, .slice Y3 m3 t3) : QuX)], (.slice A7 n7 c7), X8.out, how8, by show 1 ≤ _; rw [List.length_append]; simp, by show _ ≤ _; rw [List.length_append]; exact HB3.out, HST.out, Q8, H8, R8, G8, s8⟩
            case measure =>
              rw [H8.out.meas, HMS.out]
              have := HB4.out
              omega
          · go_simp
            go_at_call 93
            refine (HO.out s3 v4 HSD.out).mono ?_
            rintro e w5 ⟨j0, j1, y2, Y3, m3, t3, rfl, hx5, h5, g5⟩
            have s5 : v4.heap.size ≤ w5.heap.size := g5.size
            have R5 := RD.out.but g5 hp
            have X5 := XD.out.but g5 (by omega)
            have q5 : w5.cell? ⟨w.heap.size + 1, 3, none⟩ = some kv := X5.cell 3
            have how5 := own_but g5 (by omega) howD.out
            go_wp2_with fail
            refine hK.out _ _ ?_ (fun hH2 => ?_)
            · trivial
            clear hHeld hK K; have hHeld := hH2; clear hH2; try go_frame
            refine held_two (o := ⟨some 20, _, _, _, _, _⟩) (p := ⟨some 24, _, _, _, _, _⟩) 1 5 (by kernel_rfl) rfl rfl (by rfl) (by rfl) (fun K hK => ?_) (fun K hK => ?_)
            · go_simp
              refine hK.out _ _ ?_ (fun hH2 => ?_)
              · trivial
              clear hHeld hK K; have hHeld := hH2; clear hH2; try go_frame
              refine hyO (some 24) 5 rfl (fun K hK => ?_)
              go_simp
              have b6 := (Below.refl w5.heap.size w5).alloc (Nat.le_refl _) (.cells #[.int .i64 j0, .int .i64 j1, .string y2, .slice Y3 m3 t3] 42)
              have kat := KB.new w5 42 #[.int .i64 j0, .int .i64 j1, .string y2, .slice Y3 m3 t3]
              have how6 := own_past b6 how5
              have R6 := R5.alloc (.cells #[.int .i64 j0, .int .i64 j1, .string y2, .slice Y3 m3 t3] 42)
              have X6 := X5.alloc (.cells #[.int .i64 j0, .int .i64 j1, .string y2, .slice Y3 m3 t3] 42)
              have hsz6 : (w5.alloc (.cells #[.int .i64 j0, .int .i64 j1, .string y2, .slice Y3 m3 t3] 42)).heap.size = w5.heap.size + 1 := by simp
              have q6 : (w5.alloc (.cells #[.int .i64 j0, .int .i64 j1, .string y2, .slice Y3 m3 t3] 42)).cell? ⟨w.heap.size + 1, 3, none⟩ = some kv := X6.cell 3
              have B6 := grown_trans g5 (grown_of_below b6 (some p))
              have hat : ∀ i u, (quadX ((.int .i64 j0, .int .i64 j1, .string y2, .slice Y3 m3 t3) : QuX))[i]? = some u → (w5.alloc (.cells #[.int .i64 j0, .int .i64 j1, .string y2, .slice Y3 m3 t3] 42)).cell? ((⟨w5.heap.size, 0, none⟩ : Addr).add i) = some u := fun i u hu => by rw [Addr.add_lit, Nat.zero_add, kat.cell]; simpa [quadX] using hu
              have h1c : ∀ u ∈ quadX ((.int .i64 j0, .int .i64 j1, .string y2, .slice Y3 m3 t3) : QuX), u.oneCell' = true := by intro u hu; simp [quadX] at hu; rcases hu with rfl | rfl | rfl | rfl <;> rfl
              have H6 := h5.below b6
              refine hK.out _ _ ?_ (fun hH2 => ?_)
              · trivial
              clear hHeld hK K; have hHeld := hH2; clear hH2; try go_frame
              refine hyO (some 25) 6 rfl (fun K hK => ?_)
              have hown := fun k hk => howD.out.lt k hk
              refine wp_growX _ _ rfl (w.heap.size + 2) kv qs rfl how6 ⟨w5.heap.size, 0, none⟩ 1 ((.int .i64 j0, .int .i64 j1, .string y2, .slice Y3 m3 t3) : QuX) rfl hat h1c hql (by rw [hsz6]; omega) ?_
              intro v7 w7 how7 g7 ho7
              have hs7 := g7.size
              rw [hsz6] at hs7 ho7
              have R7 := R6.grown g7 (fun e => by have := (hown _ e).1; omega)
              have X7 := X6.grown g7 (fun e => by have := (hown _ e).1; omega)
              have H7 := H6.own g7 (fun k hk => by have := (hown _ hk).1; omega)
              have G7 := grown_own (grown_trans GD.out B6) g7 (fun k hk => by have := (hown _ hk).1; omega)
              have Q7 : QX w7 (SR (w.heap.size + 2) v7 w7.heap.size) k (qs ++ [((.int .i64 j0, .int .i64 j1, .string y2, .slice Y3 m3 t3) : QuX)]) (l ++ [(f s3).1]) := by
                refine QX.append (HQD.out.keepL (by omega) (fun b' sb' hb' => ?_) (fun b' sb' hb' => ?_)) ((QX.one hx5).keepL (by omega) (fun b' sb' hb' => ?_) (fun b' sb' hb' => ?_))
                · exact (g7.block b' (by rw [hsz6]; omega) (fun e => sb'.2.2 e.symm)).trans (B6.block b' hb' (fun e => by have := sb'.1; injection e with e; omega))
                · refine ⟨sb'.1, by omega, fun e => ?_⟩
                  rcases ho7 with h | h
                  · exact sb'.2.2 (h.symm.trans e)
                  · rw [h] at e; injection e with e; omega
                · refine (g7.block b' (by rw [hsz6]; omega) (fun e => ?_)).trans (b6.block b' hb')
                  have h1 := (hown _ e.symm).2
                  have h2 : v4.heap.size ≤ b' := sb'
                  omega
                · have h2 : v4.heap.size ≤ b' := sb'
                  refine ⟨by omega, by omega, fun e => ?_⟩
                  rcases ho7 with h | h
                  · have h1 := (hown _ (h.symm.trans e)).2
                    omega
                  · rw [h] at e; injection e with e; omega
              have q7 : w7.cell? ⟨w.heap.size + 1, 3, none⟩ = some kv := X7.cell 3
              have f7 := X7.free 3
              have x7 := X7.lt
              obtain ⟨A7, n7, c7, hv7⟩ : ∃ A n c, v7 = .slice A n c := by rcases how7.2 with ⟨h, _⟩ | ⟨_, _, _, h, _⟩; exact ⟨_, _, _, h⟩; exact ⟨_, _, _, h⟩
              subst hv7
              clear R6 X6 H6 how6 how5 B6 b6 hat h1c kat hx5 h5 g5 R5 X5 q6 q5 s5 hsz6 g7 hown
              refine hK.out _ _ ?_ (fun hH2 => ?_)
              · trivial
              clear hHeld hK K; have hHeld := hH2; clear hH2; try go_frame
              refine hyY (some 26) 7 rfl hHeld ?_; go_frame
              refine hyO none 8 rfl (fun K hK => ?_)
              go_simp
              have R8 := Lib.hid (R7.aside (h := w.heap.size + 1) (i := 3) (by omega) (.slice A7 n7 c7))
              have X8 : Hid (KB (w7.setCell ⟨w.heap.size + 1, 3, none⟩ (.slice A7 n7 c7)) (w.heap.size + 1) 42 #[.int .i64 3, .int .i64 0, .string ⟨#[]⟩, (.slice A7 n7 c7)]) := X7.put 3 (.slice A7 n7 c7)
              have H8 := Lib.hid (H7.setCell (a := ⟨w.heap.size + 1, 3, none⟩) (by show p < w.heap.size + 1; omega) (.slice A7 n7 c7))
              have G8 := Lib.hid (grown_cell G7 (a := ⟨w.heap.size + 1, 3, none⟩) (by show w.heap.size ≤ w.heap.size + 1; omega) (.slice A7 n7 c7))
              have how8 := Lib.hid (own_keep (w' := w7.setCell ⟨w.heap.size + 1, 3, none⟩ (.slice A7 n7 c7)) how7 (fun b hb => Below.heap_setCell w7 _ _ _ (by have := (how7.lt _ hb).1; show b ≠ w.heap.size + 1; omega)))
              have Q8 : Hid (QX (w7.setCell ⟨w.heap.size + 1, 3, none⟩ (.slice A7 n7 c7)) (SR (w.heap.size + 2) (.slice A7 n7 c7) (w7.setCell ⟨w.heap.size + 1, 3, none⟩ (.slice A7 n7 c7)).heap.size) k (qs ++ [((.int .i64 j0, .int .i64 j1, .string y2, .slice Y3 m3 t3) : QuX)]) (l ++ [(f s3).1])) := Q7.keepL (by simp [World.setCell]) (fun b sb _ => Below.heap_setCell w7 _ _ _ (by have := sb.1; show b ≠ w.heap.size + 1; omega)) (fun b sb _ => ⟨sb.1, by have := sb.2.1; simp [World.setCell]; exact this, sb.2.2⟩)
              have s8 : (w.heap.size + 2) ≤ (w7.setCell ⟨w.heap.size + 1, 3, none⟩ (.slice A7 n7 c7)).heap.size := by simp [World.setCell]; omega
              generalize w7.setCell ⟨w.heap.size + 1, 3, none⟩ (.slice A7 n7 c7) = w8 at *
              clear R7 X7 H7 G7 Q7 how7 q7 f7 x7
              refine hK.out _ _ ?_ (fun hH2 => ?_)
              · trivial
              clear hHeld hK K; have hHeld := hH2; clear hH2; try go_frame
              refine wpAnyH_done (by kernel_rfl) ?_ _
              skip
              go_wp2_with fail
              go_roundw
              case rel => exact ⟨l ++ [(f s3).1], (f s3).2, qs ++ [((.int .i64 j0, .int .i64 j1, .string y2, .slice Y3 m3 t3) : QuX)], (.slice A7 n7 c7), X8.out, how8, by show 1 ≤ _; rw [List.length_append]; simp, by show _ ≤ _; rw [List.length_append]; exact HB3.out, HST.out, Q8, H8, R8, G8, s8⟩
              case measure =>
                rw [H8.out.meas, HMS.out]
                have := HB4.out
                omega
            · go_simp
              have b6 := (Below.refl w5.heap.size w5).alloc (Nat.le_refl _) (.cells #[.int .i64 j0, .int .i64 j1, .string y2, .slice Y3 m3 t3] 42)
              have kat := KB.new w5 42 #[.int .i64 j0, .int .i64 j1, .string y2, .slice Y3 m3 t3]
              have how6 := own_past b6 how5
              have R6 := R5.alloc (.cells #[.int .i64 j0, .int .i64 j1, .string y2, .slice Y3 m3 t3] 42)
              have X6 := X5.alloc (.cells #[.int .i64 j0, .int .i64 j1, .string y2, .slice Y3 m3 t3] 42)
              have hsz6 : (w5.alloc (.cells #[.int .i64 j0, .int .i64 j1, .string y2, .slice Y3 m3 t3] 42)).heap.size = w5.heap.size + 1 := by simp
              have q6 : (w5.alloc (.cells #[.int .i64 j0, .int .i64 j1, .string y2, .slice Y3 m3 t3] 42)).cell? ⟨w.heap.size + 1, 3, none⟩ = some kv := X6.cell 3
              have B6 := grown_trans g5 (grown_of_below b6 (some p))
              have hat : ∀ i u, (quadX ((.int .i64 j0, .int .i64 j1, .string y2, .slice Y3 m3 t3) : QuX))[i]? = some u → (w5.alloc (.cells #[.int .i64 j0, .int .i64 j1, .string y2, .slice Y3 m3 t3] 42)).cell? ((⟨w5.heap.size, 0, none⟩ : Addr).add i) = some u := fun i u hu => by rw [Addr.add_lit, Nat.zero_add, kat.cell]; simpa [quadX] using hu
              have h1c : ∀ u ∈ quadX ((.int .i64 j0, .int .i64 j1, .string y2, .slice Y3 m3 t3) : QuX), u.oneCell' = true := by intro u hu; simp [quadX] at hu; rcases hu with rfl | rfl | rfl | rfl <;> rfl
              have H6 := h5.below b6
              refine hK.out _ _ ?_ (fun hH2 => ?_)
              · trivial
              clear hHeld hK K; have hHeld := hH2; clear hH2; try go_frame
              refine hyO (some 20) 1 rfl (fun K hK => ?_)
              go_simp
              refine hK.out _ _ ?_ (fun hH2 => ?_)
              · trivial
              clear hHeld hK K; have hHeld := hH2; clear hH2; try go_frame
              refine hyO (some 25) 6 rfl (fun K hK => ?_)
              have hown := fun k hk => howD.out.lt k hk
              refine wp_growX _ _ rfl (w.heap.size + 2) kv qs rfl how6 ⟨w5.heap.size, 0, none⟩ 1 ((.int .i64 j0, .int .i64 j1, .string y2, .slice Y3 m3 t3) : QuX) rfl hat h1c hql (by rw [hsz6]; omega) ?_
              intro v7 w7 how7 g7 ho7
              have hs7 := g7.size
              rw [hsz6] at hs7 ho7
              have R7 := R6.grown g7 (fun e => by have := (hown _ e).1; omega)
              have X7 := X6.grown g7 (fun e => by have := (hown _ e).1; omega)
              have H7 := H6.own g7 (fun k hk => by have := (hown _ hk).1; omega)
              have G7 := grown_own (grown_trans GD.out B6) g7 (fun k hk => by have := (hown _ hk).1; omega)
              have Q7 : QX w7 (SR (w.heap.size + 2) v7 w7.heap.size) k (qs ++ [((.int .i64 j0, .int .i64 j1, .string y2, .slice Y3 m3 t3) : QuX)]) (l ++ [(f s3).1]) := by
                refine QX.append (HQD.out.keepL (by omega) (fun b' sb' hb' => ?_) (fun b' sb' hb' => ?_)) ((QX.one hx5).keepL (by omega) (fun b' sb' hb' => ?_) (fun b' sb' hb' => ?_))
                · exact (g7.block b' (by rw [hsz6]; omega) (fun e => sb'.2.2 e.symm)).trans (B6.block b' hb' (fun e => by have := sb'.1; injection e with e; omega))
                · refine ⟨sb'.1, by omega, fun e => ?_⟩
                  rcases ho7 with h | h
                  · exact sb'.2.2 (h.symm.trans e)
                  · rw [h] at e; injection e with e; omega
                · refine (g7.block b' (by rw [hsz6]; omega) (fun e => ?_)).trans (b6.block b' hb')
                  have h1 := (hown _ e.symm).2
                  have h2 : v4.heap.size ≤ b' := sb'
                  omega
                · have h2 : v4.heap.size ≤ b' := sb'
                  refine ⟨by omega, by omega, fun e => ?_⟩
                  rcases ho7 with h | h
                  · have h1 := (hown _ (h.symm.trans e)).2
                    omega
                  · rw [h] at e; injection e with e; omega
              have q7 : w7.cell? ⟨w.heap.size + 1, 3, none⟩ = some kv := X7.cell 3
              have f7 := X7.free 3
              have x7 := X7.lt
              obtain ⟨A7, n7, c7, hv7⟩ : ∃ A n c, v7 = .slice A n c := by rcases how7.2 with ⟨h, _⟩ | ⟨_, _, _, h, _⟩; exact ⟨_, _, _, h⟩; exact ⟨_, _, _, h⟩
              subst hv7
              clear R6 X6 H6 how6 how5 B6 b6 hat h1c kat hx5 h5 g5 R5 X5 q6 q5 s5 hsz6 g7 hown
              refine hK.out _ _ ?_ (fun hH2 => ?_)
              · trivial
              clear hHeld hK K; have hHeld := hH2; clear hH2; try go_frame
              refine hyY (some 26) 7 rfl hHeld ?_; go_frame
              refine hyO none 8 rfl (fun K hK => ?_)
              go_simp
              have R8 := Lib.hid (R7.aside (h := w.heap.size + 1) (i := 3) (by omega) (.slice A7 n7 c7))
              have X8 : Hid (KB (w7.setCell ⟨w.heap.size + 1, 3, none⟩ (.slice A7 n7 c7)) (w.heap.size + 1) 42 #[.int .i64 3, .int .i64 0, .string ⟨#[]⟩, (.slice A7 n7 c7)]) := X7.put 3 (.slice A7 n7 c7)
              have H8 := Lib.hid (H7.setCell (a := ⟨w.heap.size + 1, 3, none⟩) (by show p < w.heap.size + 1; omega) (.slice A7 n7 c7))
              have G8 := Lib.hid (grown_cell G7 (a := ⟨w.heap.size + 1, 3, none⟩) (by show w.heap.size ≤ w.heap.size + 1; omega) (.slice A7 n7 c7))
              have how8 := Lib.hid (own_keep (w' := w7.setCell ⟨w.heap.size + 1, 3, none⟩ (.slice A7 n7 c7)) how7 (fun b hb => Below.heap_setCell w7 _ _ _ (by have := (how7.lt _ hb).1; show b ≠ w.heap.size + 1; omega)))
              have Q8 : Hid (QX (w7.setCell ⟨w.heap.size + 1, 3, none⟩ (.slice A7 n7 c7)) (SR (w.heap.size + 2) (.slice A7 n7 c7) (w7.setCell ⟨w.heap.size + 1, 3, none⟩ (.slice A7 n7 c7)).heap.size) k (qs ++ [((.int .i64 j0, .int .i64 j1, .string y2, .slice Y3 m3 t3) : QuX)]) (l ++ [(f s3).1])) := Q7.keepL (by simp [World.setCell]) (fun b sb _ => Below.heap_setCell w7 _ _ _ (by have := sb.1; show b ≠ w.heap.size + 1; omega)) (fun b sb _ => ⟨sb.1, by have := sb.2.1; simp [World.setCell]; exact this, sb.2.2⟩)
              have s8 : (w.heap.size + 2) ≤ (w7.setCell ⟨w.heap.size + 1, 3, none⟩ (.slice A7 n7 c7)).heap.size := by simp [World.setCell]; omega
              generalize w7.setCell ⟨w.heap.size + 1, 3, none⟩ (.slice A7 n7 c7) = w8 at *
              clear R7 X7 H7 G7 Q7 how7 q7 f7 x7
              refine hK.out _ _ ?_ (fun hH2 => ?_)
              · trivial
              clear hHeld hK K; have hHeld := hH2; clear hH2; try go_frame
              refine wpAnyH_done (by kernel_rfl) ?_ _
              skip
              go_wp2_with fail
              go_roundw
              case rel => exact ⟨l ++ [(f s3).1], (f s3).2, qs ++ [((.int .i64 j0, .int .i64 j1, .string y2, .slice Y3 m3 t3) : QuX)], (.slice A7 n7 c7), X8.out, how8, by show 1 ≤ _; rw [List.length_append]; simp, by show _ ≤ _; rw [List.length_append]; exact HB3.out, HST.out, Q8, H8, R8, G8, s8⟩
              case measure =>
                rw [H8.out.meas, HMS.out]
                have := HB4.out
                omega
        · have hb0 : isP 1 andP sj = false := by simpa using hb
          rw [hb0] at hi
          have hM : M = (l, sj) := by rw [← HMJ.out, more_stop hb0]
          clear hb hb0
          go_wp2_with fail
          refine hi.mono ?_
          rintro e w3 ⟨rfl, m3, rfl⟩
          have s4' : (w.heap.size + 2) ≤ (wr.drewN m3).heap.size := hsz
          have R4 : KB (wr.drewN m3) w.heap.size 42 #[.int .i64 0, .int .i64 0, .string ⟨#[]⟩, .slice none 0 0] := HR.out
          have X5 : KB (wr.drewN m3) (w.heap.size + 1) 42 #[.int .i64 3, .int .i64 0, .string ⟨#[]⟩, kv] := XJ
          have G4 : w.grownBy (wr.drewN m3) (some p) := grown_trans HG.out ⟨rfl, rfl, rfl, Nat.le_refl _, fun _ _ _ => rfl⟩
          have how4 : (wr.drewN m3).ownsRow (w.heap.size + 2) 42 4 kv qs.length (flatX qs) := HOW.out
          have h4' : Sd (wr.drewN m3) p n L M.2 := by rw [hM]; exact HS.out
          have hQ4 : QX (wr.drewN m3) (SR (w.heap.size + 2) kv (wr.drewN m3).heap.size) k qs l := HQ.out.keepL (w' := wr.drewN m3) (Nat.le_refl _) (fun _ _ _ => rfl) (fun b h _ => h)
          have HM1 : Hid (M.1 = l) := by show _ = _; rw [hM]
          clear hi XJ HOW HQ HS HR HG hM HMJ
          generalize wr.drewN m3 = w4 at *
          have hXS := XS_of_own how4 (hQ4.mono (S' := fun b => (w.heap.size + 2) ≤ b) fun b h => h.1) fun b h1 _ => h1
          cases qs with
          | nil => exact absurd HL1.out (by simp)
          | cons q qr =>
            obtain ⟨x0, x1, x2, x3, x4, x5, x6, hq⟩ : ∃ x, ∃ (i0 i1 : Int) (z2 : ByteArray) (X3 : Option Addr) (n3 z3 : Nat), l[0]? = some x ∧ q = (.int .i64 i0, .int .i64 i1, .string z2, .slice X3 n3 z3) := by
              cases l with
              | nil => exact absurd hQ4.1 (by simp)
              | cons x r =>
                obtain ⟨i0, i1, l2, X3, n3, z3, e0, e1, e2, e3⟩ := (hQ4.2 0 q x rfl rfl).form
                refine ⟨x, i0, i1, ⟨l2.toArray⟩, X3, n3, z3, rfl, ?_⟩
                obtain ⟨q0, q1, q2, q3⟩ := q
                dsimp only at e0 e1 e2 e3
                rw [e0, e1, e2, e3]; rfl
            obtain ⟨hl0, rfl⟩ := hq
            obtain ⟨g', c', rfl, hg1, hg2, hc1, hc2, q0, q1, q2, q3⟩ := ownX_head how4
            dsimp only at q0 q1 q2 q3
            have hqw : qr.length ≤ 2000000 := by have h1 := HLB.out; have h2 := HLF.out; rw [List.length_cons] at h1; split at h1 <;> omega
            have f0 := R4.free 0
            have f1 := R4.free 1
            have f2 := R4.free 2
            have f3 := R4.free 3
            have r0 := R4.cell 0
            have r1 := R4.cell 1
            have r2 := R4.cell 2
            have r3 := R4.cell 3
            have c0 := X5.cell 0
            have c1 := X5.cell 1
            have c2 := X5.cell 2
            have c3 := X5.cell 3
            have hg0 := R4.lt
            have hg9 := X5.lt
            have hgg : ¬ g' = w.heap.size := by omega
            have hgg2 : ¬ w.heap.size = g' := by omega
            by_cases hq1 : qr = []
            · subst hq1
              have hlx : l = [x0] := by
                cases l with
                | nil => cases hl0
                | cons x r =>
                  have := hQ4.1
                  simp at this
                  simp at hl0
                  rw [hl0, ← this]
              obtain ⟨W5, hW5⟩ : ∃ W5, W5 = ((((w4.setCell ⟨w.heap.size, 0, none⟩ (.int .i64 x1)).setCell ⟨w.heap.size, 1, none⟩ (.int .i64 x2)).setCell ⟨w.heap.size, 2, none⟩ (.string x3)).setCell ⟨w.heap.size, 3, none⟩ (.slice x4 x5 x6)) := ⟨_, rfl⟩
              have kfin := R4.put4 (.int .i64 x1) (.int .i64 x2) (.string x3) (.slice x4 x5 x6)
              have st5 := h4'.four hp (.int .i64 x1) (.int .i64 x2) (.string x3) (.slice x4 x5 x6)
              have gr5 := grown_four G4 (Nat.le_refl _) (.int .i64 x1) (.int .i64 x2) (.string x3) (.slice x4 x5 x6)
              have hblk : ∀ b, (w.heap.size + 2) ≤ b → W5.heap[b]? = w4.heap[b]? := fun b hb => by
                rw [hW5]
                exact (Below.heap_setCell _ _ _ _ (by show b ≠ w.heap.size; omega)).trans ((Below.heap_setCell _ _ _ _ (by show b ≠ w.heap.size; omega)).trans ((Below.heap_setCell _ _ _ _ (by show b ≠ w.heap.size; omega)).trans (Below.heap_setCell _ _ _ _ (by show b ≠ w.heap.size; omega))))
              have hsz5 : W5.heap.size = w4.heap.size := by rw [hW5]; simp [World.setCell]
              rw [← hW5] at kfin st5 gr5
              have hx := hQ4.2 0 _ x0 rfl (by rw [hlx]; rfl)
              have hfin := HD.out W5 x1 x2 x3 x4 x5 x6 (by
                rw [HM1.out, hlx]
                refine EX.lifted k x0 _ _ _ _ (EX.keepL k x0 _ _ _ _ hx (by omega) (fun b sb' hb' => hblk b sb'.1) (fun b sb' _ => ?_))
                have h1 := sb'.1; show w.heap.size ≤ b; omega) st5 gr5
              have HW5 := Lib.hid hW5
              clear hW5 hblk h4' G4 how4 R4 X5 st5 gr5 hQ4 HD hXS hx hlx hl0 HLB HL1 HO
              go_wp2_with fail
              rw [← HW5.out]
              exact bodyPost_ret (results_cell (P := Tryz.prog) rfl _ _ w.heap.size _ _ (0, 0) _ rfl kfin Tryz.underlying42 rfl (by kernel_rfl)) rfl hfin
            · have hq2 : ¬ ((qr.length : Int) + 1 = 1) := by
                have : qr.length ≠ 0 := fun h => hq1 (List.length_eq_zero_iff.1 h)
                omega
              have hl1 : l.length = qr.length + 1 := by rw [← hQ4.1]; rfl
              have hpk : packP k 3 l = (⟨3, 0, [], l⟩ : Nx (Ex k)) := by
                match l, hl1 with
                | [], hl => rfl
                | [x], hl => exact absurd (List.length_eq_zero_iff.1 (show qr.length = 0 by have h1 : ([x] : List (Ex k)).length = 1 := rfl; omega)) hq1
                | _ :: _ :: _, _ => rfl
              obtain ⟨W5, hW5⟩ : ∃ W5, W5 = ((((w4.setCell ⟨w.heap.size, 0, none⟩ (.int .i64 3)).setCell ⟨w.heap.size, 1, none⟩ (.int .i64 0)).setCell ⟨w.heap.size, 2, none⟩ (.string ⟨#[]⟩)).setCell ⟨w.heap.size, 3, none⟩ (.slice (some ⟨g', 0, none⟩) (qr.length + 1) c')) := ⟨_, rfl⟩
              have kfin := R4.put4 (.int .i64 3) (.int .i64 0) (.string ⟨#[]⟩) (.slice (some ⟨g', 0, none⟩) (qr.length + 1) c')
              have st5 := h4'.four hp (.int .i64 3) (.int .i64 0) (.string ⟨#[]⟩) (.slice (some ⟨g', 0, none⟩) (qr.length + 1) c')
              have gr5 := grown_four G4 (Nat.le_refl _) (.int .i64 3) (.int .i64 0) (.string ⟨#[]⟩) (.slice (some ⟨g', 0, none⟩) (qr.length + 1) c')
              have hblk : ∀ b, (w.heap.size + 2) ≤ b → W5.heap[b]? = w4.heap[b]? := fun b hb => by
                rw [hW5]
                exact (Below.heap_setCell _ _ _ _ (by show b ≠ w.heap.size; omega)).trans ((Below.heap_setCell _ _ _ _ (by show b ≠ w.heap.size; omega)).trans ((Below.heap_setCell _ _ _ _ (by show b ≠ w.heap.size; omega)).trans (Below.heap_setCell _ _ _ _ (by show b ≠ w.heap.size; omega))))
              have hsz5 : W5.heap.size = w4.heap.size := by rw [hW5]; simp [World.setCell]
              rw [← hW5] at kfin st5 gr5
              have hfin := HD.out W5 3 0 ⟨#[]⟩ (some ⟨g', 0, none⟩) (qr.length + 1) c' (by
                rw [HM1.out, hpk]
                refine ⟨rfl, by show I64 3; unfold I64; omega, rfl, by show I64 0; unfold I64; omega, rfl, by simp, ?_⟩
                exact XS.mapL hXS (by omega) (fun b h _ => hblk b h) (fun b h _ => by show w.heap.size ≤ b; omega) (fun t c0 c1 c2 c3 h => EX.keepL k t c0 c1 c2 c3 h (by omega) (fun b h _ => hblk b h) (fun b h _ => by show w.heap.size ≤ b; omega))) st5 gr5
              have HW5 := Lib.hid hW5
              clear hW5 hblk h4' G4 how4 R4 X5 st5 gr5 hQ4 HD hXS hpk hl1 hl0 HLB HL1 HO
              go_wp2_with fail
              rw [← HW5.out]
              exact bodyPost_ret (results_cell (P := Tryz.prog) rfl _ _ w.heap.size _ _ (0, 0) _ rfl kfin Tryz.underlying42 rfl (by kernel_rfl)) rfl hfin
    · go_simp
      have b6 := (Below.refl w5.heap.size w5).alloc (Nat.le_refl _) (.cells #[.int .i64 j0, .int .i64 j1, .string y2, .slice Y3 m3 t3] 42)
      have kat := KB.new w5 42 #[.int .i64 j0, .int .i64 j1, .string y2, .slice Y3 m3 t3]
      have how6 := own_past b6 how5
      have R6 := R5.alloc (.cells #[.int .i64 j0, .int .i64 j1, .string y2, .slice Y3 m3 t3] 42)
      have X6 := X5.alloc (.cells #[.int .i64 j0, .int .i64 j1, .string y2, .slice Y3 m3 t3] 42)
      have hsz6 : (w5.alloc (.cells #[.int .i64 j0, .int .i64 j1, .string y2, .slice Y3 m3 t3] 42)).heap.size = w5.heap.size + 1 := by simp
      have q6 : (w5.alloc (.cells #[.int .i64 j0, .int .i64 j1, .string y2, .slice Y3 m3 t3] 42)).cell? ⟨w.heap.size + 1, 3, none⟩ = some kv := X6.cell 3
      have B6 := grown_trans g5 (grown_of_below b6 (some p))
      have hat : ∀ i u, (quadX ((.int .i64 j0, .int .i64 j1, .string y2, .slice Y3 m3 t3) : QuX))[i]? = some u → (w5.alloc (.cells #[.int .i64 j0, .int .i64 j1, .string y2, .slice Y3 m3 t3] 42)).cell? ((⟨w5.heap.size, 0, none⟩ : Addr).add i) = some u := fun i u hu => by rw [Addr.add_lit, Nat.zero_add, kat.cell]; simpa [quadX] using hu
      have h1c : ∀ u ∈ quadX ((.int .i64 j0, .int .i64 j1, .string y2, .slice Y3 m3 t3) : QuX), u.oneCell' = true := by intro u hu; simp [quadX] at hu; rcases hu with rfl | rfl | rfl | rfl <;> rfl
      have H6 := h5.below b6
      refine hK.out _ _ ?_ (fun hH2 => ?_)
      · trivial
      clear hHeld hK K; have hHeld := hH2; clear hH2; try go_frame
      refine hyO (some 8) 1 rfl (fun K hK => ?_)
      go_simp
      refine hK.out _ _ ?_ (fun hH2 => ?_)
      · trivial
      clear hHeld hK K; have hHeld := hH2; clear hH2; try go_frame
      refine hyO (some 13) 6 rfl (fun K hK => ?_)
      have hown := fun k hk => howD.out.lt k hk
      refine wp_growX _ _ rfl (w.heap.size + 2) kv qs rfl how6 ⟨w5.heap.size, 0, none⟩ 1 ((.int .i64 j0, .int .i64 j1, .string y2, .slice Y3 m3 t3) : QuX) rfl hat h1c hql (by rw [hsz6]; omega) ?_
      intro v7 w7 how7 g7 ho7
      have hs7 := g7.size
      rw [hsz6] at hs7 ho7
      have R7 := R6.grown g7 (fun e => by have := (hown _ e).1; omega)
      have X7 := X6.grown g7 (fun e => by have := (hown _ e).1; omega)
      have H7 := H6.own g7 (fun k hk => by have := (hown _ hk).1; omega)
      have G7 := grown_own (grown_trans GD.out B6) g7 (fun k hk => by have := (hown _ hk).1; omega)
      have Q7 : QX w7 (SR (w.heap.size + 2) v7 w7.heap.size) k (qs ++ [((.int .i64 j0, .int .i64 j1, .string y2, .slice Y3 m3 t3) : QuX)]) (l ++ [(f s1).1]) := by
        refine QX.append (HQD.out.keepL (by omega) (fun b' sb' hb' => ?_) (fun b' sb' hb' => ?_)) ((QX.one hx5).keepL (by omega) (fun b' sb' hb' => ?_) (fun b' sb' hb' => ?_))
        · exact (g7.block b' (by rw [hsz6]; omega) (fun e => sb'.2.2 e.symm)).trans (B6.block b' hb' (fun e => by have := sb'.1; injection e with e; omega))
        · refine ⟨sb'.1, by omega, fun e => ?_⟩
          rcases ho7 with h | h
          · exact sb'.2.2 (h.symm.trans e)
          · rw [h] at e; injection e with e; omega
        · refine (g7.block b' (by rw [hsz6]; omega) (fun e => ?_)).trans (b6.block b' hb')
          have h1 := (hown _ e.symm).2
          have h2 : v2.heap.size ≤ b' := sb'
          omega
        · have h2 : v2.heap.size ≤ b' := sb'
          refine ⟨by omega, by omega, fun e => ?_⟩
          rcases ho7 with h | h
          · have h1 := (hown _ (h.symm.trans e)).2
            omega
          · rw [h] at e; injection e with e; omega
      have q7 : w7.cell? ⟨w.heap.size + 1, 3, none⟩ = some kv := X7.cell 3
      have f7 := X7.free 3
      have x7 := X7.lt
      obtain ⟨A7, n7, c7, hv7⟩ : ∃ A n c, v7 = .slice A n c := by rcases how7.2 with ⟨h, _⟩ | ⟨_, _, _, h, _⟩; exact ⟨_, _, _, h⟩; exact ⟨_, _, _, h⟩
      subst hv7
      clear R6 X6 H6 how6 how5 B6 b6 hat h1c kat hx5 h5 g5 R5 X5 q6 q5 s5 hsz6 g7 hown
      refine hK.out _ _ ?_ (fun hH2 => ?_)
      · trivial
      clear hHeld hK K; have hHeld := hH2; clear hH2; try go_frame
      refine hyY (some 14) 7 rfl hHeld ?_; go_frame
      refine hyO none 8 rfl (fun K hK => ?_)
      go_simp
      have R8 := Lib.hid (R7.aside (h := w.heap.size + 1) (i := 3) (by omega) (.slice A7 n7 c7))
      have X8 : Hid (KB (w7.setCell ⟨w.heap.size + 1, 3, none⟩ (.slice A7 n7 c7)) (w.heap.size + 1) 42 #[.int .i64 3, .int .i64 0, .string ⟨#[]⟩, (.slice A7 n7 c7)]) := X7.put 3 (.slice A7 n7 c7)
      have H8 := Lib.hid (H7.setCell (a := ⟨w.heap.size + 1, 3, none⟩) (by show p < w.heap.size + 1; omega) (.slice A7 n7 c7))
      have G8 := Lib.hid (grown_cell G7 (a := ⟨w.heap.size + 1, 3, none⟩) (by show w.heap.size ≤ w.heap.size + 1; omega) (.slice A7 n7 c7))
      have how8 := Lib.hid (own_keep (w' := w7.setCell ⟨w.heap.size + 1, 3, none⟩ (.slice A7 n7 c7)) how7 (fun b hb => Below.heap_setCell w7 _ _ _ (by have := (how7.lt _ hb).1; show b ≠ w.heap.size + 1; omega)))
      have Q8 : Hid (QX (w7.setCell ⟨w.heap.size + 1, 3, none⟩ (.slice A7 n7 c7)) (SR (w.heap.size + 2) (.slice A7 n7 c7) (w7.setCell ⟨w.heap.size + 1, 3, none⟩ (.slice A7 n7 c7)).heap.size) k (qs ++ [((.int .i64 j0, .int .i64 j1, .string y2, .slice Y3 m3 t3) : QuX)]) (l ++ [(f s1).1])) := Q7.keepL (by simp [World.setCell]) (fun b sb _ => Below.heap_setCell w7 _ _ _ (by have := sb.1; show b ≠ w.heap.size + 1; omega)) (fun b sb _ => ⟨sb.1, by have := sb.2.1; simp [World.setCell]; exact this, sb.2.2⟩)
      have s8 : (w.heap.size + 2) ≤ (w7.setCell ⟨w.heap.size + 1, 3, none⟩ (.slice A7 n7 c7)).heap.size := by simp [World.setCell]; omega
      generalize w7.setCell ⟨w.heap.size + 1, 3, none⟩ (.slice A7 n7 c7) = w8 at *
      clear R7 X7 H7 G7 Q7 how7 q7 f7 x7
      refine hK.out _ _ ?_ (fun hH2 => ?_)
      · trivial
      clear hHeld hK K; have hHeld := hH2; clear hH2; try go_frame
      refine wpAnyH_done (by kernel_rfl) ?_ _
      have hKK := HKK.out
      clear HKK
      have HM2 : Hid (moreP f andP s1.rest.length (l ++ [(f s1).1]) (f s1).2 = M) := by show _ = _; rw [HL0.out.1]; exact HM1.out
      have HQL : Hid ((qs ++ [((.int .i64 j0, .int .i64 j1, .string y2, .slice Y3 m3 t3) : QuX)]).length = 1) := by show _ = _; rw [HL0.out.2]; rfl
      clear HM1 HL0 hql RD XD HSD GD howD HQD sD qD xD
      go_wp2_with fail
      go_loopw [] (fun wr => ∃ (l : List (Ex k)) (sj : Ps) (qs : List QuX) (kv : Value), KB wr (w.heap.size + 1) 42 #[.int .i64 3, .int .i64 0, .string ⟨#[]⟩, kv] ∧ Hid (wr.ownsRow (w.heap.size + 2) 42 4 kv qs.length (flatX qs)) ∧ Hid (1 ≤ qs.length) ∧ Hid (qs.length + sj.rest.length + (if sj.e = 0 then 1 else 0) ≤ s1.rest.length + 2) ∧
        Hid (moreP f andP s1.rest.length l sj = M) ∧ Hid (QX wr (SR (w.heap.size + 2) kv wr.heap.size) k qs l) ∧ Hid (Sd wr p n L sj) ∧ Hid (KB wr w.heap.size 42 #[.int .i64 0, .int .i64 0, .string ⟨#[]⟩, .slice none 0 0]) ∧ Hid (w.grownBy wr (some p)) ∧ (w.heap.size + 2) ≤ wr.heap.size) (fun wr => measD wr p)
      case atStart => exact ⟨l ++ [(f s1).1], (f s1).2, qs ++ [((.int .i64 j0, .int .i64 j1, .string y2, .slice Y3 m3 t3) : QuX)], (.slice A7 n7 c7), X8.out, how8, by have := HQL.out; show 1 ≤ _; omega, by have := HQL.out; have := HS1F.out; show _ ≤ _; split <;> omega, HM2, Q8, H8, R8, G8, s8⟩
      case round =>
        clear X8 how8 HQL HM2 Q8 H8 R8 G8 s8
        clear l qs
        obtain ⟨l, sj, qs, kv, XJ, HOW, HL1, HLB, HMJ, HQ, HS, HR, HG, hsz⟩ := hrel
        have hLs := HLF.out
        have hi := is18_any p n L sj 1 andP wr HS.out
        have hwl : strV andP = .string ⟨#[97, 110, 100]⟩ := rfl
        rw [hwl] at hi
        by_cases hb : isP 1 andP sj = true
        · rw [hb] at hi
          have hje : sj.e = 0 := Classical.byContradiction fun h => by rw [is_err h] at hb; cases hb
          have hlt : sj.rest.length ≤ s1.rest.length := by have := HLB.out; rw [if_pos hje] at this; have := HL1.out; omega
          have HST : Hid (moreP f andP s1.rest.length (l ++ [(f (nextP 1 andP sj).2).1]) (f (nextP 1 andP sj).2).2 = M) := by show _ = _; rw [← HMJ.out, more_step hway hb hlt]
          have HB4 : Hid (2 * (f (nextP 1 andP sj).2).2.rest.length + (if (f (nextP 1 andP sj).2).2.e = 0 then 1 else 0) < 2 * sj.rest.length + 1) := by
            have h1 := hway.front (nextP 1 andP sj).2
            by_cases he : (nextP 1 andP sj).2.e = 0
            · have h2 := next_short he
              show _ < _
              split <;> omega
            · have h2 := (Way.next 1 andP).front sj
              have h3 : (f (nextP 1 andP sj).2).2.e ≠ 0 := by rw [hway.stays _ he]; exact he
              show _ < _
              rw [if_neg h3]; omega
          have HB3 : Hid (qs.length + 1 + (f (nextP 1 andP sj).2).2.rest.length + (if (f (nextP 1 andP sj).2).2.e = 0 then 1 else 0) ≤ s1.rest.length + 2) := by
            have h0 := HLB.out
            rw [if_pos hje] at h0
            have h1 := hway.front (nextP 1 andP sj).2
            by_cases he : (nextP 1 andP sj).2.e = 0
            · have h2 := next_short he
              show _ ≤ _
              split <;> omega
            · have h2 := (Way.next 1 andP).front sj
              have h3 : (f (nextP 1 andP sj).2).2.e ≠ 0 := by rw [hway.stays _ he]; exact he
              show _ ≤ _
              rw [if_neg h3]; omega
          have HMS : Hid (measD wr p = 2 * sj.rest.length + 1) := by show _ = _; rw [HS.out.meas, if_pos hje]
          have HNX : Hid (∀ W, Sd W p n L sj → Calls Tryz.prog 42 #[.pointer (some ⟨p, 0, none⟩), .int .i64 1, .string ⟨#[97, 110, 100]⟩] W fun e w' => e = .returned (tokV (nextP 1 andP sj).1) ∧ Sd w' p n L (nextP 1 andP sj).2 ∧ W.grownBy w' (some p)) := fun W hW => next18_any p n L sj 1 andP W hW
          have hql : qs.length ≤ 1000000000 := by have h1 := HLB.out; have h2 := HLF.out; split at h1 <;> omega
          obtain ⟨tv, htv⟩ : ∃ tv, tv = tokV (nextP 1 andP sj).1 := ⟨_, rfl⟩
          rw [← htv] at HNX
          generalize (nextP 1 andP sj).2 = s3 at *
          clear hb hje hlt htv HMJ HLB HL1
          go_wp2_with fail
          refine hi.mono ?_
          rintro e w3 ⟨rfl, m3, rfl⟩
          have hn := HNX.out (wr.drewN m3) HS.out
          clear hi HNX
          go_wp2_with fail
          refine hn.mono ?_
          rintro e w4 ⟨rfl, h4, g4⟩
          have gw : wr.grownBy w4 (some p) := grown_trans (show wr.grownBy (wr.drewN m3) (some p) from ⟨rfl, rfl, rfl, Nat.le_refl _, fun _ _ _ => rfl⟩) g4
          have gd : wr.grownBy w4.drew (some p) := grown_trans gw ⟨rfl, rfl, rfl, Nat.le_refl _, fun _ _ _ => rfl⟩
          have RD : Hid (KB w4.drew w.heap.size 42 #[.int .i64 0, .int .i64 0, .string ⟨#[]⟩, .slice none 0 0]) := HR.out.but gd hp
          have XD : Hid (KB w4.drew (w.heap.size + 1) 42 #[.int .i64 3, .int .i64 0, .string ⟨#[]⟩, kv]) := XJ.but gd (by omega)
          have HSD : Hid (Sd w4.drew p n L s3) := h4
          have GD : Hid (w.grownBy w4.drew (some p)) := grown_trans HG.out gd
          have howD : Hid (w4.drew.ownsRow (w.heap.size + 2) 42 4 kv qs.length (flatX qs)) := own_but gd (by omega) HOW.out
          have HQD : Hid (QX w4.drew (SR (w.heap.size + 2) kv w4.drew.heap.size) k qs l) := HQ.out.keepL gd.size (fun b sb hb => gd.block b hb (fun e => by have := sb.1; injection e with e; omega)) (fun b sb _ => ⟨sb.1, by have := sb.2.1; have := gd.size; omega, sb.2.2⟩)
          have sD : (w.heap.size + 2) ≤ w4.drew.heap.size := Nat.le_trans hsz gd.size
          have qD : w4.drew.cell? ⟨w.heap.size + 1, 3, none⟩ = some kv := XD.out.cell 3
          have xD := XD.out.lt
          clear hn h4 g4 gw gd XJ HOW HQ HS HR HG hsz
          go_wp2_with fail
          refine wp_region_held_drew (S := (fun _ : World => True)) (by kernel_rfl) trivial (fun hHeld => ?_)
          generalize w4.drew = v4 at *
          refine hyY (some 19) 0 rfl hHeld ?_; go_frame
          refine hyY (some 21) 2 rfl hHeld ?_; go_frame
          refine hyY (some 22) 3 rfl hHeld ?_; go_frame
          refine held_two (o := ⟨some 20, _, _, _, _, _⟩) (p := ⟨some 23, _, _, _, _, _⟩) 1 4 (by kernel_rfl) rfl rfl (by rfl) (by rfl) (fun K hK => ?_) (fun K hK => ?_)
          · go_simp
            refine hK.out _ _ ?_ (fun hH2 => ?_)
            · trivial
            clear hHeld hK K; have hHeld := hH2; clear hH2; try go_frame
            refine hyO (some 23) 4 rfl (fun K hK => ?_)
            go_simp
            go_at_call 93
            refine (HO.out s3 v4 HSD.out).mono ?_
            rintro e w5 ⟨j0, j1, y2, Y3, m3, t3, rfl, hx5, h5, g5⟩
            have s5 : v4.heap.size ≤ w5.heap.size := g5.size
            have R5 := RD.out.but g5 hp
            have X5 := XD.out.but g5 (by omega)
            have q5 : w5.cell? ⟨w.heap.size + 1, 3, none⟩ = some kv := X5.cell 3
            have how5 := own_but g5 (by omega) howD.out
            go_wp2_with fail
            refine hK.out _ _ ?_ (fun hH2 => ?_)
            · trivial
            clear hHeld hK K; have hHeld := hH2; clear hH2; try go_frame
            refine hyO (some 24) 5 rfl (fun K hK => ?_)
            go_simp
            have b6 := (Below.refl w5.heap.size w5).alloc (Nat.le_refl _) (.cells #[.int .i64 j0, .int .i64 j1, .string y2, .slice Y3 m3 t3] 42)
            have kat := KB.new w5 42 #[.int .i64 j0, .int .i64 j1, .string y2, .slice Y3 m3 t3]
            have how6 := own_past b6 how5
            have R6 := R5.alloc (.cells #[.int .i64 j0, .int .i64 j1, .string y2, .slice Y3 m3 t3] 42)
            have X6 := X5.alloc (.cells #[.int .i64 j0, .int .i64 j1, .string y2, .slice Y3 m3 t3] 42)
            have hsz6 : (w5.alloc (.cells #[.int .i64 j0, .int .i64 j1, .string y2, .slice Y3 m3 t3] 42)).heap.size = w5.heap.size + 1 := by simp
            have q6 : (w5.alloc (.cells #[.int .i64 j0, .int .i64 j1, .string y2, .slice Y3 m3 t3] 42)).cell? ⟨w.heap.size + 1, 3, none⟩ = some kv := X6.cell 3
            have B6 := grown_trans g5 (grown_of_below b6 (some p))
            have hat : ∀ i u, (quadX ((.int .i64 j0, .int .i64 j1, .string y2, .slice Y3 m3 t3) : QuX))[i]? = some u → (w5.alloc (.cells #[.int .i64 j0, .int .i64 j1, .string y2, .slice Y3 m3 t3] 42)).cell? ((⟨w5.heap.size, 0, none⟩ : Addr).add i) = some u := fun i u hu => by rw [Addr.add_lit, Nat.zero_add, kat.cell]; simpa [quadX] using hu
            have h1c : ∀ u ∈ quadX ((.int .i64 j0, .int .i64 j1, .string y2, .slice Y3 m3 t3) : QuX), u.oneCell' = true := by intro u hu; simp [quadX] at hu; rcases hu with rfl | rfl | rfl | rfl <;> rfl
            have H6 := h5.below b6
            refine hK.out _ _ ?_ (fun hH2 => ?_)
            · trivial
            clear hHeld hK K; have hHeld := hH2; clear hH2; try go_frame
            refine hyO (some 25) 6 rfl (fun K hK => ?_)
            have hown := fun k hk => howD.out.lt k hk
            refine wp_growX _ _ rfl (w.heap.size + 2) kv qs rfl how6 ⟨w5.heap.size, 0, none⟩ 1 ((.int .i64 j0, .int .i64 j1, .string y2, .slice Y3 m3 t3) : QuX) rfl hat h1c hql (by rw [hsz6]; omega) ?_
            intro v7 w7 how7 g7 ho7
            have hs7 := g7.size
            rw [hsz6] at hs7 ho7
            have R7 := R6.grown g7 (fun e => by have := (hown _ e).1; omega)
            have X7 := X6.grown g7 (fun e => by have := (hown _ e).1; omega)
            have H7 := H6.own g7 (fun k hk => by have := (hown _ hk).1; omega)
            have G7 := grown_own (grown_trans GD.out B6) g7 (fun k hk => by have := (hown _ hk).1; omega)
            have Q7 : QX w7 (SR (w.heap.size + 2) v7 w7.heap.size) k (qs ++ [((.int .i64 j0, .int .i64 j1, .string y2, .slice Y3 m3 t3) : QuX)]) (l ++ [(f s3).1]) := by
              refine QX.append (HQD.out.keepL (by omega) (fun b' sb' hb' => ?_) (fun b' sb' hb' => ?_)) ((QX.one hx5).keepL (by omega) (fun b' sb' hb' => ?_) (fun b' sb' hb' => ?_))
              · exact (g7.block b' (by rw [hsz6]; omega) (fun e => sb'.2.2 e.symm)).trans (B6.block b' hb' (fun e => by have := sb'.1; injection e with e; omega))
              · refine ⟨sb'.1, by omega, fun e => ?_⟩
                rcases ho7 with h | h
                · exact sb'.2.2 (h.symm.trans e)
                · rw [h] at e; injection e with e; omega
              · refine (g7.block b' (by rw [hsz6]; omega) (fun e => ?_)).trans (b6.block b' hb')
                have h1 := (hown _ e.symm).2
                have h2 : v4.heap.size ≤ b' := sb'
                omega
              · have h2 : v4.heap.size ≤ b' := sb'
                refine ⟨by omega, by omega, fun e => ?_⟩
                rcases ho7 with h | h
                · have h1 := (hown _ (h.symm.trans e)).2
                  omega
                · rw [h] at e; injection e with e; omega
            have q7 : w7.cell? ⟨w.heap.size + 1, 3, none⟩ = some kv := X7.cell 3
            have f7 := X7.free 3
            have x7 := X7.lt
            obtain ⟨A7, n7, c7, hv7⟩ : ∃ A n c, v7 = .slice A n c := by rcases how7.2 with ⟨h, _⟩ | ⟨_, _, _, h, _⟩; exact ⟨_, _, _, h⟩; exact ⟨_, _, _, h⟩
            subst hv7
            clear R6 X6 H6 how6 how5 B6 b6 hat h1c kat hx5 h5 g5 R5 X5 q6 q5 s5 hsz6 g7 hown
            refine hK.out _ _ ?_ (fun hH2 => ?_)
            · trivial
            clear hHeld hK K; have hHeld := hH2; clear hH2; try go_frame
            refine hyY (some 26) 7 rfl hHeld ?_; go_frame
            refine hyO none 8 rfl (fun K hK => ?_)
            go_simp
            have R8 := Lib.hid (R7.aside (h := w.heap.size + 1) (i := 3) (by omega) (.slice A7 n7 c7))
            have X8 : Hid (KB (w7.setCell ⟨w.heap.size + 1, 3, none⟩ (.slice A7 n7 c7)) (w.heap.size + 1) 42 #[.int .i64 3, .int .i64 0, .string ⟨#[]⟩, (.slice A7 n7 c7)]) := X7.put 3 (.slice A7 n7 c7)
            have H8 := Lib.hid (H7.setCell (a := ⟨w.heap.size + 1, 3, none⟩) (by show p < w.heap.size + 1; omega) (.slice A7 n7 c7))
            have G8 := Lib.hid (grown_cell G7 (a := ⟨w.heap.size + 1, 3, none⟩) (by show w.heap.size ≤ w.heap.size + 1; omega) (.slice A7 n7 c7))
            have how8 := Lib.hid (own_keep (w' := w7.setCell ⟨w.heap.size + 1, 3, none⟩ (.slice A7 n7 c7)) how7 (fun b hb => Below.heap_setCell w7 _ _ _ (by have := (how7.lt _ hb).1; show b ≠ w.heap.size + 1; omega)))
            have Q8 : Hid (QX (w7.setCell ⟨w.heap.size + 1, 3, none⟩ (.slice A7 n7 c7)) (SR (w.heap.size + 2) (.slice A7 n7 c7) (w7.setCell ⟨w.heap.size + 1, 3, none⟩ (.slice A7 n7 c7)).heap.size) k (qs ++ [((.int .i64 j0, .int .i64 j1, .string y2, .slice Y3 m3 t3) : QuX)]) (l ++ [(f s3).1])) := Q7.keepL (by simp [World.setCell]) (fun b sb _ => Below.heap_setCell w7 _ _ _ (by have := sb.1; show b ≠ w.heap.size + 1; omega)) (fun b sb _ => ⟨sb.1, by have := sb.2.1; simp [World.setCell]; exact this, sb.2.2⟩)
            have s8 : (w.heap.size + 2) ≤ (w7.setCell ⟨w.heap.size + 1, 3, none⟩ (.slice A7 n7 c7)).heap.size := by simp [World.setCell]; omega
            generalize w7.setCell ⟨w.heap.size + 1, 3, none⟩ (.slice A7 n7 c7) = w8 at *
            clear R7 X7 H7 G7 Q7 how7 q7 f7 x7
            refine hK.out _ _ ?_ (fun hH2 => ?_)
            · trivial
            clear hHeld hK K; have hHeld := hH2; clear hH2; try go_frame
            refine wpAnyH_done (by kernel_rfl) ?_ _
            skip
            go_wp2_with fail
            go_roundw
            case rel => exact ⟨l ++ [(f s3).1], (f s3).2, qs ++ [((.int .i64 j0, .int .i64 j1, .string y2, .slice Y3 m3 t3) : QuX)], (.slice A7 n7 c7), X8.out, how8, by show 1 ≤ _; rw [List.length_append]; simp, by show _ ≤ _; rw [List.length_append]; exact HB3.out, HST.out, Q8, H8, R8, G8, s8⟩
            case measure =>
              rw [H8.out.meas, HMS.out]
              have := HB4.out
              omega
          · go_simp
            go_at_call 93
            refine (HO.out s3 v4 HSD.out).mono ?_
            rintro e w5 ⟨j0, j1, y2, Y3, m3, t3, rfl, hx5, h5, g5⟩
            have s5 : v4.heap.size ≤ w5.heap.size := g5.size
            have R5 := RD.out.but g5 hp
            have X5 := XD.out.but g5 (by omega)
            have q5 : w5.cell? ⟨w.heap.size + 1, 3, none⟩ = some kv := X5.cell 3
            have how5 := own_but g5 (by omega) howD.out
            go_wp2_with fail
            refine hK.out _ _ ?_ (fun hH2 => ?_)
            · trivial
            clear hHeld hK K; have hHeld := hH2; clear hH2; try go_frame
            refine held_two (o := ⟨some 20, _, _, _, _, _⟩) (p := ⟨some 24, _, _, _, _, _⟩) 1 5 (by kernel_rfl) rfl rfl (by rfl) (by rfl) (fun K hK => ?_) (fun K hK => ?_)
            · go_simp
              refine hK.out _ _ ?_ (fun hH2 => ?_)
              · trivial
              clear hHeld hK K; have hHeld := hH2; clear hH2; try go_frame
              refine hyO (some 24) 5 rfl (fun K hK => ?_)
              go_simp
              have b6 := (Below.refl w5.heap.size w5).alloc (Nat.le_refl _) (.cells #[.int .i64 j0, .int .i64 j1, .string y2, .slice Y3 m3 t3] 42)
              have kat := KB.new w5 42 #[.int .i64 j0, .int .i64 j1, .string y2, .slice Y3 m3 t3]
              have how6 := own_past b6 how5
              have R6 := R5.alloc (.cells #[.int .i64 j0, .int .i64 j1, .string y2, .slice Y3 m3 t3] 42)
              have X6 := X5.alloc (.cells #[.int .i64 j0, .int .i64 j1, .string y2, .slice Y3 m3 t3] 42)
              have hsz6 : (w5.alloc (.cells #[.int .i64 j0, .int .i64 j1, .string y2, .slice Y3 m3 t3] 42)).heap.size = w5.heap.size + 1 := by simp
              have q6 : (w5.alloc (.cells #[.int .i64 j0, .int .i64 j1, .string y2, .slice Y3 m3 t3] 42)).cell? ⟨w.heap.size + 1, 3, none⟩ = some kv := X6.cell 3
              have B6 := grown_trans g5 (grown_of_below b6 (some p))
              have hat : ∀ i u, (quadX ((.int .i64 j0, .int .i64 j1, .string y2, .slice Y3 m3 t3) : QuX))[i]? = some u → (w5.alloc (.cells #[.int .i64 j0, .int .i64 j1, .string y2, .slice Y3 m3 t3] 42)).cell? ((⟨w5.heap.size, 0, none⟩ : Addr).add i) = some u := fun i u hu => by rw [Addr.add_lit, Nat.zero_add, kat.cell]; simpa [quadX] using hu
              have h1c : ∀ u ∈ quadX ((.int .i64 j0, .int .i64 j1, .string y2, .slice Y3 m3 t3) : QuX), u.oneCell' = true := by intro u hu; simp [quadX] at hu; rcases hu with rfl | rfl | rfl | rfl <;> rfl
              have H6 := h5.below b6
              refine hK.out _ _ ?_ (fun hH2 => ?_)
              · trivial
              clear hHeld hK K; have hHeld := hH2; clear hH2; try go_frame
              refine hyO (some 25) 6 rfl (fun K hK => ?_)
              have hown := fun k hk => howD.out.lt k hk
              refine wp_growX _ _ rfl (w.heap.size + 2) kv qs rfl how6 ⟨w5.heap.size, 0, none⟩ 1 ((.int .i64 j0, .int .i64 j1, .string y2, .slice Y3 m3 t3) : QuX) rfl hat h1c hql (by rw [hsz6]; omega) ?_
              intro v7 w7 how7 g7 ho7
              have hs7 := g7.size
              rw [hsz6] at hs7 ho7
              have R7 := R6.grown g7 (fun e => by have := (hown _ e).1; omega)
              have X7 := X6.grown g7 (fun e => by have := (hown _ e).1; omega)
              have H7 := H6.own g7 (fun k hk => by have := (hown _ hk).1; omega)
              have G7 := grown_own (grown_trans GD.out B6) g7 (fun k hk => by have := (hown _ hk).1; omega)
              have Q7 : QX w7 (SR (w.heap.size + 2) v7 w7.heap.size) k (qs ++ [((.int .i64 j0, .int .i64 j1, .string y2, .slice Y3 m3 t3) : QuX)]) (l ++ [(f s3).1]) := by
                refine QX.append (HQD.out.keepL (by omega) (fun b' sb' hb' => ?_) (fun b' sb' hb' => ?_)) ((QX.one hx5).keepL (by omega) (fun b' sb' hb' => ?_) (fun b' sb' hb' => ?_))
                · exact (g7.block b' (by rw [hsz6]; omega) (fun e => sb'.2.2 e.symm)).trans (B6.block b' hb' (fun e => by have := sb'.1; injection e with e; omega))
                · refine ⟨sb'.1, by omega, fun e => ?_⟩
                  rcases ho7 with h | h
                  · exact sb'.2.2 (h.symm.trans e)
                  · rw [h] at e; injection e with e; omega
                · refine (g7.block b' (by rw [hsz6]; omega) (fun e => ?_)).trans (b6.block b' hb')
                  have h1 := (hown _ e.symm).2
                  have h2 : v4.heap.size ≤ b' := sb'
                  omega
                · have h2 : v4.heap.size ≤ b' := sb'
                  refine ⟨by omega, by omega, fun e => ?_⟩
                  rcases ho7 with h | h
                  · have h1 := (hown _ (h.symm.trans e)).2
                    omega
                  · rw [h] at e; injection e with e; omega
              have q7 : w7.cell? ⟨w.heap.size + 1, 3, none⟩ = some kv := X7.cell 3
              have f7 := X7.free 3
              have x7 := X7.lt
              obtain ⟨A7, n7, c7, hv7⟩ : ∃ A n c, v7 = .slice A n c := by rcases how7.2 with ⟨h, _⟩ | ⟨_, _, _, h, _⟩; exact ⟨_, _, _, h⟩; exact ⟨_, _, _, h⟩
              subst hv7
              clear R6 X6 H6 how6 how5 B6 b6 hat h1c kat hx5 h5 g5 R5 X5 q6 q5 s5 hsz6 g7 hown
              refine hK.out _ _ ?_ (fun hH2 => ?_)
              · trivial
              clear hHeld hK K; have hHeld := hH2; clear hH2; try go_frame
              refine hyY (some 26) 7 rfl hHeld ?_; go_frame
              refine hyO none 8 rfl (fun K hK => ?_)
              go_simp
              have R8 := Lib.hid (R7.aside (h := w.heap.size + 1) (i := 3) (by omega) (.slice A7 n7 c7))
              have X8 : Hid (KB (w7.setCell ⟨w.heap.size + 1, 3, none⟩ (.slice A7 n7 c7)) (w.heap.size + 1) 42 #[.int .i64 3, .int .i64 0, .string ⟨#[]⟩, (.slice A7 n7 c7)]) := X7.put 3 (.slice A7 n7 c7)
              have H8 := Lib.hid (H7.setCell (a := ⟨w.heap.size + 1, 3, none⟩) (by show p < w.heap.size + 1; omega) (.slice A7 n7 c7))
              have G8 := Lib.hid (grown_cell G7 (a := ⟨w.heap.size + 1, 3, none⟩) (by show w.heap.size ≤ w.heap.size + 1; omega) (.slice A7 n7 c7))
              have how8 := Lib.hid (own_keep (w' := w7.setCell ⟨w.heap.size + 1, 3, none⟩ (.slice A7 n7 c7)) how7 (fun b hb => Below.heap_setCell w7 _ _ _ (by have := (how7.lt _ hb).1; show b ≠ w.heap.size + 1; omega)))
              have Q8 : Hid (QX (w7.setCell ⟨w.heap.size + 1, 3, none⟩ (.slice A7 n7 c7)) (SR (w.heap.size + 2) (.slice A7 n7 c7) (w7.setCell ⟨w.heap.size + 1, 3, none⟩ (.slice A7 n7 c7)).heap.size) k (qs ++ [((.int .i64 j0, .int .i64 j1, .string y2, .slice Y3 m3 t3) : QuX)]) (l ++ [(f s3).1])) := Q7.keepL (by simp [World.setCell]) (fun b sb _ => Below.heap_setCell w7 _ _ _ (by have := sb.1; show b ≠ w.heap.size + 1; omega)) (fun b sb _ => ⟨sb.1, by have := sb.2.1; simp [World.setCell]; exact this, sb.2.2⟩)
              have s8 : (w.heap.size + 2) ≤ (w7.setCell ⟨w.heap.size + 1, 3, none⟩ (.slice A7 n7 c7)).heap.size := by simp [World.setCell]; omega
              generalize w7.setCell ⟨w.heap.size + 1, 3, none⟩ (.slice A7 n7 c7) = w8 at *
              clear R7 X7 H7 G7 Q7 how7 q7 f7 x7
              refine hK.out _ _ ?_ (fun hH2 => ?_)
              · trivial
              clear hHeld hK K; have hHeld := hH2; clear hH2; try go_frame
              refine wpAnyH_done (by kernel_rfl) ?_ _
              skip
              go_wp2_with fail
              go_roundw
              case rel => exact ⟨l ++ [(f s3).1], (f s3).2, qs ++ [((.int .i64 j0, .int .i64 j1, .string y2, .slice Y3 m3 t3) : QuX)], (.slice A7 n7 c7), X8.out, how8, by show 1 ≤ _; rw [List.length_append]; simp, by show _ ≤ _; rw [List.length_append]; exact HB3.out, HST.out, Q8, H8, R8, G8, s8⟩
              case measure =>
                rw [H8.out.meas, HMS.out]
                have := HB4.out
                omega
            · go_simp
              have b6 := (Below.refl w5.heap.size w5).alloc (Nat.le_refl _) (.cells #[.int .i64 j0, .int .i64 j1, .string y2, .slice Y3 m3 t3] 42)
              have kat := KB.new w5 42 #[.int .i64 j0, .int .i64 j1, .string y2, .slice Y3 m3 t3]
              have how6 := own_past b6 how5
              have R6 := R5.alloc (.cells #[.int .i64 j0, .int .i64 j1, .string y2, .slice Y3 m3 t3] 42)
              have X6 := X5.alloc (.cells #[.int .i64 j0, .int .i64 j1, .string y2, .slice Y3 m3 t3] 42)
              have hsz6 : (w5.alloc (.cells #[.int .i64 j0, .int .i64 j1, .string y2, .slice Y3 m3 t3] 42)).heap.size = w5.heap.size + 1 := by simp
              have q6 : (w5.alloc (.cells #[.int .i64 j0, .int .i64 j1, .string y2, .slice Y3 m3 t3] 42)).cell? ⟨w.heap.size + 1, 3, none⟩ = some kv := X6.cell 3
              have B6 := grown_trans g5 (grown_of_below b6 (some p))
              have hat : ∀ i u, (quadX ((.int .i64 j0, .int .i64 j1, .string y2, .slice Y3 m3 t3) : QuX))[i]? = some u → (w5.alloc (.cells #[.int .i64 j0, .int .i64 j1, .string y2, .slice Y3 m3 t3] 42)).cell? ((⟨w5.heap.size, 0, none⟩ : Addr).add i) = some u := fun i u hu => by rw [Addr.add_lit, Nat.zero_add, kat.cell]; simpa [quadX] using hu
              have h1c : ∀ u ∈ quadX ((.int .i64 j0, .int .i64 j1, .string y2, .slice Y3 m3 t3) : QuX), u.oneCell' = true := by intro u hu; simp [quadX] at hu; rcases hu with rfl | rfl | rfl | rfl <;> rfl
              have H6 := h5.below b6
              refine hK.out _ _ ?_ (fun hH2 => ?_)
              · trivial
              clear hHeld hK K; have hHeld := hH2; clear hH2; try go_frame
              refine hyO (some 20) 1 rfl (fun K hK => ?_)
              go_simp
              refine hK.out _ _ ?_ (fun hH2 => ?_)
              · trivial
              clear hHeld hK K; have hHeld := hH2; clear hH2; try go_frame
              refine hyO (some 25) 6 rfl (fun K hK => ?_)
              have hown := fun k hk => howD.out.lt k hk
              refine wp_growX _ _ rfl (w.heap.size + 2) kv qs rfl how6 ⟨w5.heap.size, 0, none⟩ 1 ((.int .i64 j0, .int .i64 j1, .string y2, .slice Y3 m3 t3) : QuX) rfl hat h1c hql (by rw [hsz6]; omega) ?_
              intro v7 w7 how7 g7 ho7
              have hs7 := g7.size
              rw [hsz6] at hs7 ho7
              have R7 := R6.grown g7 (fun e => by have := (hown _ e).1; omega)
              have X7 := X6.grown g7 (fun e => by have := (hown _ e).1; omega)
              have H7 := H6.own g7 (fun k hk => by have := (hown _ hk).1; omega)
              have G7 := grown_own (grown_trans GD.out B6) g7 (fun k hk => by have := (hown _ hk).1; omega)
              have Q7 : QX w7 (SR (w.heap.size + 2) v7 w7.heap.size) k (qs ++ [((.int .i64 j0, .int .i64 j1, .string y2, .slice Y3 m3 t3) : QuX)]) (l ++ [(f s3).1]) := by
                refine QX.append (HQD.out.keepL (by omega) (fun b' sb' hb' => ?_) (fun b' sb' hb' => ?_)) ((QX.one hx5).keepL (by omega) (fun b' sb' hb' => ?_) (fun b' sb' hb' => ?_))
                · exact (g7.block b' (by rw [hsz6]; omega) (fun e => sb'.2.2 e.symm)).trans (B6.block b' hb' (fun e => by have := sb'.1; injection e with e; omega))
                · refine ⟨sb'.1, by omega, fun e => ?_⟩
                  rcases ho7 with h | h
                  · exact sb'.2.2 (h.symm.trans e)
                  · rw [h] at e; injection e with e; omega
                · refine (g7.block b' (by rw [hsz6]; omega) (fun e => ?_)).trans (b6.block b' hb')
                  have h1 := (hown _ e.symm).2
                  have h2 : v4.heap.size ≤ b' := sb'
                  omega
                · have h2 : v4.heap.size ≤ b' := sb'
                  refine ⟨by omega, by omega, fun e => ?_⟩
                  rcases ho7 with h | h
                  · have h1 := (hown _ (h.symm.trans e)).2
                    omega
                  · rw [h] at e; injection e with e; omega
              have q7 : w7.cell? ⟨w.heap.size + 1, 3, none⟩ = some kv := X7.cell 3
              have f7 := X7.free 3
              have x7 := X7.lt
              obtain ⟨A7, n7, c7, hv7⟩ : ∃ A n c, v7 = .slice A n c := by rcases how7.2 with ⟨h, _⟩ | ⟨_, _, _, h, _⟩; exact ⟨_, _, _, h⟩; exact ⟨_, _, _, h⟩
              subst hv7
              clear R6 X6 H6 how6 how5 B6 b6 hat h1c kat hx5 h5 g5 R5 X5 q6 q5 s5 hsz6 g7 hown
              refine hK.out _ _ ?_ (fun hH2 => ?_)
              · trivial
              clear hHeld hK K; have hHeld := hH2; clear hH2; try go_frame
              refine hyY (some 26) 7 rfl hHeld ?_; go_frame
              refine hyO none 8 rfl (fun K hK => ?_)
              go_simp
              have R8 := Lib.hid (R7.aside (h := w.heap.size + 1) (i := 3) (by omega) (.slice A7 n7 c7))
              have X8 : Hid (KB (w7.setCell ⟨w.heap.size + 1, 3, none⟩ (.slice A7 n7 c7)) (w.heap.size + 1) 42 #[.int .i64 3, .int .i64 0, .string ⟨#[]⟩, (.slice A7 n7 c7)]) := X7.put 3 (.slice A7 n7 c7)
              have H8 := Lib.hid (H7.setCell (a := ⟨w.heap.size + 1, 3, none⟩) (by show p < w.heap.size + 1; omega) (.slice A7 n7 c7))
              have G8 := Lib.hid (grown_cell G7 (a := ⟨w.heap.size + 1, 3, none⟩) (by show w.heap.size ≤ w.heap.size + 1; omega) (.slice A7 n7 c7))
              have how8 := Lib.hid (own_keep (w' := w7.setCell ⟨w.heap.size + 1, 3, none⟩ (.slice A7 n7 c7)) how7 (fun b hb => Below.heap_setCell w7 _ _ _ (by have := (how7.lt _ hb).1; show b ≠ w.heap.size + 1; omega)))
              have Q8 : Hid (QX (w7.setCell ⟨w.heap.size + 1, 3, none⟩ (.slice A7 n7 c7)) (SR (w.heap.size + 2) (.slice A7 n7 c7) (w7.setCell ⟨w.heap.size + 1, 3, none⟩ (.slice A7 n7 c7)).heap.size) k (qs ++ [((.int .i64 j0, .int .i64 j1, .string y2, .slice Y3 m3 t3) : QuX)]) (l ++ [(f s3).1])) := Q7.keepL (by simp [World.setCell]) (fun b sb _ => Below.heap_setCell w7 _ _ _ (by have := sb.1; show b ≠ w.heap.size + 1; omega)) (fun b sb _ => ⟨sb.1, by have := sb.2.1; simp [World.setCell]; exact this, sb.2.2⟩)
              have s8 : (w.heap.size + 2) ≤ (w7.setCell ⟨w.heap.size + 1, 3, none⟩ (.slice A7 n7 c7)).heap.size := by simp [World.setCell]; omega
              generalize w7.setCell ⟨w.heap.size + 1, 3, none⟩ (.slice A7 n7 c7) = w8 at *
              clear R7 X7 H7 G7 Q7 how7 q7 f7 x7
              refine hK.out _ _ ?_ (fun hH2 => ?_)
              · trivial
              clear hHeld hK K; have hHeld := hH2; clear hH2; try go_frame
              refine wpAnyH_done (by kernel_rfl) ?_ _
              skip
              go_wp2_with fail
              go_roundw
              case rel => exact ⟨l ++ [(f s3).1], (f s3).2, qs ++ [((.int .i64 j0, .int .i64 j1, .string y2, .slice Y3 m3 t3) : QuX)], (.slice A7 n7 c7), X8.out, how8, by show 1 ≤ _; rw [List.length_append]; simp, by show _ ≤ _; rw [List.length_append]; exact HB3.out, HST.out, Q8, H8, R8, G8, s8⟩
              case measure =>
                rw [H8.out.meas, HMS.out]
                have := HB4.out
                omega
        · have hb0 : isP 1 andP sj = false := by simpa using hb
          rw [hb0] at hi
          have hM : M = (l, sj) := by rw [← HMJ.out, more_stop hb0]
          clear hb hb0
          go_wp2_with fail
          refine hi.mono ?_
          rintro e w3 ⟨rfl, m3, rfl⟩
          have s4' : (w.heap.size + 2) ≤ (wr.drewN m3).heap.size := hsz
          have R4 : KB (wr.drewN m3) w.heap.size 42 #[.int .i64 0, .int .i64 0, .string ⟨#[]⟩, .slice none 0 0] := HR.out
          have X5 : KB (wr.drewN m3) (w.heap.size + 1) 42 #[.int .i64 3, .int .i64 0, .string ⟨#[]⟩, kv] := XJ
          have G4 : w.grownBy (wr.drewN m3) (some p) := grown_trans HG.out ⟨rfl, rfl, rfl, Nat.le_refl _, fun _ _ _ => rfl⟩
          have how4 : (wr.drewN m3).ownsRow (w.heap.size + 2) 42 4 kv qs.length (flatX qs) := HOW.out
          have h4' : Sd (wr.drewN m3) p n L M.2 := by rw [hM]; exact HS.out
          have hQ4 : QX (wr.drewN m3) (SR (w.heap.size + 2) kv (wr.drewN m3).heap.size) k qs l := HQ.out.keepL (w' := wr.drewN m3) (Nat.le_refl _) (fun _ _ _ => rfl) (fun b h _ => h)
          have HM1 : Hid (M.1 = l) := by show _ = _; rw [hM]
          clear hi XJ HOW HQ HS HR HG hM HMJ
          generalize wr.drewN m3 = w4 at *
          have hXS := XS_of_own how4 (hQ4.mono (S' := fun b => (w.heap.size + 2) ≤ b) fun b h => h.1) fun b h1 _ => h1
          cases qs with
          | nil => exact absurd HL1.out (by simp)
          | cons q qr =>
            obtain ⟨x0, x1, x2, x3, x4, x5, x6, hq⟩ : ∃ x, ∃ (i0 i1 : Int) (z2 : ByteArray) (X3 : Option Addr) (n3 z3 : Nat), l[0]? = some x ∧ q = (.int .i64 i0, .int .i64 i1, .string z2, .slice X3 n3 z3) := by
              cases l with
              | nil => exact absurd hQ4.1 (by simp)
              | cons x r =>
                obtain ⟨i0, i1, l2, X3, n3, z3, e0, e1, e2, e3⟩ := (hQ4.2 0 q x rfl rfl).form
                refine ⟨x, i0, i1, ⟨l2.toArray⟩, X3, n3, z3, rfl, ?_⟩
                obtain ⟨q0, q1, q2, q3⟩ := q
                dsimp only at e0 e1 e2 e3
                rw [e0, e1, e2, e3]; rfl
            obtain ⟨hl0, rfl⟩ := hq
            obtain ⟨g', c', rfl, hg1, hg2, hc1, hc2, q0, q1, q2, q3⟩ := ownX_head how4
            dsimp only at q0 q1 q2 q3
            have hqw : qr.length ≤ 2000000 := by have h1 := HLB.out; have h2 := HLF.out; rw [List.length_cons] at h1; split at h1 <;> omega
            have f0 := R4.free 0
            have f1 := R4.free 1
            have f2 := R4.free 2
            have f3 := R4.free 3
            have r0 := R4.cell 0
            have r1 := R4.cell 1
            have r2 := R4.cell 2
            have r3 := R4.cell 3
            have c0 := X5.cell 0
            have c1 := X5.cell 1
            have c2 := X5.cell 2
            have c3 := X5.cell 3
            have hg0 := R4.lt
            have hg9 := X5.lt
            have hgg : ¬ g' = w.heap.size := by omega
            have hgg2 : ¬ w.heap.size = g' := by omega
            by_cases hq1 : qr = []
            · subst hq1
              have hlx : l = [x0] := by
                cases l with
                | nil => cases hl0
                | cons x r =>
                  have := hQ4.1
                  simp at this
                  simp at hl0
                  rw [hl0, ← this]
              obtain ⟨W5, hW5⟩ : ∃ W5, W5 = ((((w4.setCell ⟨w.heap.size, 0, none⟩ (.int .i64 x1)).setCell ⟨w.heap.size, 1, none⟩ (.int .i64 x2)).setCell ⟨w.heap.size, 2, none⟩ (.string x3)).setCell ⟨w.heap.size, 3, none⟩ (.slice x4 x5 x6)) := ⟨_, rfl⟩
              have kfin := R4.put4 (.int .i64 x1) (.int .i64 x2) (.string x3) (.slice x4 x5 x6)
              have st5 := h4'.four hp (.int .i64 x1) (.int .i64 x2) (.string x3) (.slice x4 x5 x6)
              have gr5 := grown_four G4 (Nat.le_refl _) (.int .i64 x1) (.int .i64 x2) (.string x3) (.slice x4 x5 x6)
              have hblk : ∀ b, (w.heap.size + 2) ≤ b → W5.heap[b]? = w4.heap[b]? := fun b hb => by
                rw [hW5]
                exact (Below.heap_setCell _ _ _ _ (by show b ≠ w.heap.size; omega)).trans ((Below.heap_setCell _ _ _ _ (by show b ≠ w.heap.size; omega)).trans ((Below.heap_setCell _ _ _ _ (by show b ≠ w.heap.size; omega)).trans (Below.heap_setCell _ _ _ _ (by show b ≠ w.heap.size; omega))))
              have hsz5 : W5.heap.size = w4.heap.size := by rw [hW5]; simp [World.setCell]
              rw [← hW5] at kfin st5 gr5
              have hx := hQ4.2 0 _ x0 rfl (by rw [hlx]; rfl)
              have hfin := HD.out W5 x1 x2 x3 x4 x5 x6 (by
                rw [HM1.out, hlx]
                refine EX.lifted k x0 _ _ _ _ (EX.keepL k x0 _ _ _ _ hx (by omega) (fun b sb' hb' => hblk b sb'.1) (fun b sb' _ => ?_))
                have h1 := sb'.1; show w.heap.size ≤ b; omega) st5 gr5
              have HW5 := Lib.hid hW5
              clear hW5 hblk h4' G4 how4 R4 X5 st5 gr5 hQ4 HD hXS hx hlx hl0 HLB HL1 HO
              go_wp2_with fail
              rw [← HW5.out]
              exact bodyPost_ret (results_cell (P := Tryz.prog) rfl _ _ w.heap.size _ _ (0, 0) _ rfl kfin Tryz.underlying42 rfl (by kernel_rfl)) rfl hfin
            · have hq2 : ¬ ((qr.length : Int) + 1 = 1) := by
                have : qr.length ≠ 0 := fun h => hq1 (List.length_eq_zero_iff.1 h)
                omega
              have hl1 : l.length = qr.length + 1 := by rw [← hQ4.1]; rfl
              have hpk : packP k 3 l = (⟨3, 0, [], l⟩ : Nx (Ex k)) := by
                match l, hl1 with
                | [], hl => rfl
                | [x], hl => exact absurd (List.length_eq_zero_iff.1 (show qr.length = 0 by have h1 : ([x] : List (Ex k)).length = 1 := rfl; omega)) hq1
                | _ :: _ :: _, _ => rfl
              obtain ⟨W5, hW5⟩ : ∃ W5, W5 = ((((w4.setCell ⟨w.heap.size, 0, none⟩ (.int .i64 3)).setCell ⟨w.heap.size, 1, none⟩ (.int .i64 0)).setCell ⟨w.heap.size, 2, none⟩ (.string ⟨#[]⟩)).setCell ⟨w.heap.size, 3, none⟩ (.slice (some ⟨g', 0, none⟩) (qr.length + 1) c')) := ⟨_, rfl⟩
              have kfin := R4.put4 (.int .i64 3) (.int .i64 0) (.string ⟨#[]⟩) (.slice (some ⟨g', 0, none⟩) (qr.length + 1) c')
              have st5 := h4'.four hp (.int .i64 3) (.int .i64 0) (.string ⟨#[]⟩) (.slice (some ⟨g', 0, none⟩) (qr.length + 1) c')
              have gr5 := grown_four G4 (Nat.le_refl _) (.int .i64 3) (.int .i64 0) (.string ⟨#[]⟩) (.slice (some ⟨g', 0, none⟩) (qr.length + 1) c')
              have hblk : ∀ b, (w.heap.size + 2) ≤ b → W5.heap[b]? = w4.heap[b]? := fun b hb => by
                rw [hW5]
                exact (Below.heap_setCell _ _ _ _ (by show b ≠ w.heap.size; omega)).trans ((Below.heap_setCell _ _ _ _ (by show b ≠ w.heap.size; omega)).trans ((Below.heap_setCell _ _ _ _ (by show b ≠ w.heap.size; omega)).trans (Below.heap_setCell _ _ _ _ (by show b ≠ w.heap.size; omega))))
              have hsz5 : W5.heap.size = w4.heap.size := by rw [hW5]; simp [World.setCell]
              rw [← hW5] at kfin st5 gr5
              have hfin := HD.out W5 3 0 ⟨#[]⟩ (some ⟨g', 0, none⟩) (qr.length + 1) c' (by
                rw [HM1.out, hpk]
                refine ⟨rfl, by show I64 3; unfold I64; omega, rfl, by show I64 0; unfold I64; omega, rfl, by simp, ?_⟩
                exact XS.mapL hXS (by omega) (fun b h _ => hblk b h) (fun b h _ => by show w.heap.size ≤ b; omega) (fun t c0 c1 c2 c3 h => EX.keepL k t c0 c1 c2 c3 h (by omega) (fun b h _ => hblk b h) (fun b h _ => by show w.heap.size ≤ b; omega))) st5 gr5
              have HW5 := Lib.hid hW5
              clear hW5 hblk h4' G4 how4 R4 X5 st5 gr5 hQ4 HD hXS hpk hl1 hl0 HLB HL1 HO
              go_wp2_with fail
              rw [← HW5.out]
              exact bodyPost_ret (results_cell (P := Tryz.prog) rfl _ _ w.heap.size _ _ (0, 0) _ rfl kfin Tryz.underlying42 rfl (by kernel_rfl)) rfl hfin
end
end Go.Proofs.YthindhlogkhclaaGreatDoor
