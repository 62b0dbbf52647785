/-
  WvK: The program's kids, written and Text (layer 21), over the loaded program: each one's contract. No condition but the sizes that each contract names, and that the library's table of powers of ten is as laid.
-/
import Derived.Test.YtjecjlhofnnnpaaGreatDoorWy25
import Derived.Test.YtjecjlhofnnnpaaGreatDoorWy07
import Derived.Test.YtjecjlhofnnnpaaGreatDoorWy10
import Derived.Test.YtjecjlhofnnnpaaGreatDoorWy01
import Derived.Test.YtjecjlhofnnnpaaGreatDoorWy27
import Derived.Test.YtjecjlhofnnnpaaGreatDoorWy24
set_option linter.unusedVariables false
set_option maxRecDepth 100000
namespace Go.Proofs.YtjecjlhofnnnpaaGreatDoor
section
open Go.RowKit
def PTextIh (S : Nat → Prop) (f : Nat) : Prop := ∀ (t : Sc f) (v : Value) (d : Int) (w : World), okS f t d = true → nodesS f t ≤ 24 → Pow w → ZV w S f v t →
    Calls Tryz.prog 15 #[v] w fun e w' => e = .returned (strV (textB f t)) ∧ Below w.heap.size w w'
theorem br_three (T : List UInt8) : [40, 32] ++ T ++ [32] ++ [41] = [40, 32] ++ T ++ [32, 41] := by simp
theorem wkids_few (f : Nat) (d : Int) : ∀ ks : List (Sc f), (∀ k ∈ ks, okS f k d = true) → ks.length ≤ (ks.map (nodesS f)).sum
  | [], _ => by simp
  | k :: ks, h => by
    have h1 := wkids_few f d ks fun u hu => h u (List.mem_cons_of_mem _ hu)
    have h2 := textB_len f k _ (h k (List.mem_cons_self ..))
    simp only [List.length_cons, List.map_cons, List.sum_cons]
    omega
set_option maxHeartbeats 16000000 in
theorem pkids_any (S : Nat → Prop) (f : Nat) (ih : PTextIh S f) (t : Ns (Sc f)) (v : Value) (d : Int) (w : World) (hok : okS (f + 1) t d = true) (hno : nodesS (f + 1) t ≤ 24) (hp : Pow w) (hv : ZV w S (f + 1) v t) :
    Calls Tryz.prog 25 #[v] w (WordsAs w (t.kids.map fun k => brB t.op (opS f k) (textB f k))) := by
  obtain ⟨hd, hf, hkd⟩ := wok_fits hok
  obtain ⟨c0, c1, c2, c3, c4, rfl, rfl, hk, rfl, hml, rfl, hfr, rfl, hto, hks⟩ := hv
  obtain ⟨A3, cap3, e3, hl3, hm3⟩ := hks.form
  subst e3
  have hno2 : (t.kids.map (nodesS f)).sum ≤ 23 := by rw [nodesS_eq] at hno; omega
  have hfew := wkids_few f (d - 1) t.kids hkd
  generalize hkk : t.kids = ks at *
  have HFW : Hid (ks.length ≤ 23) := by show _ ≤ _; omega
  clear hfew
  have hkn : ∀ k ∈ ks, nodesS f k ≤ 24 := fun k hk => by have := nodesS_kid f ks k hk; omega
  generalize t.op = op at *
  obtain ⟨ts, hts⟩ : ∃ ts, ts = ks.map fun k => brB op (opS f k) (textB f k) := ⟨_, rfl⟩
  rw [← hts]
  have htl : ts.length = ks.length := by rw [hts, List.length_map]
  have HTS : Hid (∀ (j : Nat) (hj : j < ks.length), ts.take (j + 1) = ts.take j ++ [brB op (opS f ks[j]) (textB f ks[j])]) := fun j hj => by
    rw [List.take_add_one, hts, List.getElem?_map, List.getElem?_eq_getElem hj]; rfl
  generalize t.from_ = fr at *
  generalize t.to_ = to_ at *
  generalize t.name = l at *
  clear hkk hk hf hok hno hno2 hts t
  have HTL := Lib.hid htl
  clear htl
  have hlen : ks.length ≤ 9223372036854775807 := by unfold maxLen at hm3; omega
  have kb := KB.new w 24 #[.int .i64 op, strV l, .int .i64 fr, .int .i64 to_, .slice A3 ks.length cap3]
  have B0 := (Below.refl w.heap.size w).alloc (Nat.le_refl _) (.cells #[.int .i64 op, strV l, .int .i64 fr, .int .i64 to_, .slice A3 ks.length cap3] 24)
  obtain ⟨Q, hQ⟩ : ∃ Q : Ending → World → Prop, Q = WordsAs w ts := ⟨_, rfl⟩
  have HQ : Hid (∀ v W, W.ownsRow (w.heap.size + 1) 9 1 v (ts.take ks.length).length ((ts.take ks.length).map strV) → Below w.heap.size w W → Q (.returned v) W) := fun v W h1 h2 => by
    rw [hQ]
    rw [← HTL.out, List.take_length] at h1
    exact ⟨v, rfl, own_base h1 (Nat.le_succ _), h2⟩
  rw [← hQ]
  have hown : (w.alloc (.cells #[.int .i64 op, strV l, .int .i64 fr, .int .i64 to_, .slice A3 ks.length cap3] 24)).ownsRow (w.heap.size + 1) 9 1 (.slice none 0 0) (ts.take 0).length ((ts.take 0).map strV) := World.ownsRow_nil _ _ _ _
  have HIH : Hid (∀ (j : Nat) (hj : j < ks.length) v W, Below w.heap.size w W → ZV W S f v ks[j] → Calls Tryz.prog 15 #[v] W fun e w' => e = .returned (strV (textB f ks[j])) ∧ Below W.heap.size W w') := fun j hj v W hb hz => ih _ _ _ _ (hkd _ (List.getElem_mem hj)) (hkn _ (List.getElem_mem hj)) (hp.below hb) hz
  have HTB : Hid (∀ (j : Nat) (hj : j < ks.length), (textB f ks[j]).length ≤ 1500) := fun j hj => by
    have h1 := textB_len f ks[j] _ (hkd _ (List.getElem_mem hj))
    have h2 := hkn _ (List.getElem_mem hj)
    omega
  clear hQ ih hp hkd hkn
  unfold strV at kb B0 hown ⊢
  generalize (⟨l.toArray⟩ : ByteArray) = s at *
  go_enter Tryz.func25, Tryz.ntmps25
  go_wp2_with fail
  go_loopw [3, 10] (fun lv iv wr => ∃ j : Nat, j ≤ ks.length ∧ iv = .int .i64 j ∧ wr.ownsRow (w.heap.size + 1) 9 1 lv (ts.take j).length ((ts.take j).map strV) ∧ KB wr w.heap.size 24 #[.int .i64 op, .string s, .int .i64 fr, .int .i64 to_, .slice A3 ks.length cap3] ∧ Below w.heap.size w wr) (fun _ iv _ => ks.length - (intOf iv).toNat)
  case atStart => exact ⟨0, by omega, rfl, hown, kb, B0⟩
  case round =>
    clear kb B0 hown
    obtain ⟨j, hj, rfl, how, K, B⟩ := hrel
    by_cases hlt : j < ks.length
    · have hltI : (j : Int) < (ks.length : Int) := by omega
      obtain ⟨b, o, e0, e1, e2, e3, e4, rfl, hb, k0, k1, k2, k3, k4, hz⟩ := kid_zb hks rfl B j hlt
      have h00 := hz.op
      subst h00
      have HTK := Lib.hid (HTS.out j hlt)
      have htb := HTB.out j hlt
      have hjl : (ts.take j).length ≤ 1000000000 := by have := HTL.out; have := HFW.out; rw [List.length_take]; omega
      obtain ⟨j0', l1, j2, j3, X4, n4, z4, e⟩ := hz.form
      injection e with e
      simp only [Array.mk.injEq, List.cons.injEq, and_true] at e
      obtain ⟨e00, rfl, rfl, rfl, rfl⟩ := e
      clear e00
      have hkc := HIH.out j hlt _ (wr.alloc (.cells #[.int .i64 (opS f ks[j]), strV l1, .int .i64 j2, .int .i64 j3, .slice X4 n4 z4] 24)) (B.alloc B.size _) (hz.alloc _)
      have kk := KB.new wr 24 #[.int .i64 (opS f ks[j]), strV l1, .int .i64 j2, .int .i64 j3, .slice X4 n4 z4]
      obtain ⟨X, hX⟩ : ∃ X, X = brB op (opS f ks[j]) (textB f ks[j]) := ⟨_, rfl⟩
      rw [← hX] at HTK
      generalize textB f ks[j] = TX at *
      generalize opS f ks[j] = j0 at *
      clear hz
      unfold strV at k1 hkc kk
      generalize (⟨l1.toArray⟩ : ByteArray) = s4 at *
      obtain ⟨s1, hs1⟩ : ∃ s : ByteArray, s = ⟨TX.toArray⟩ := ⟨_, rfl⟩
      obtain ⟨zz1, hzz1⟩ : ∃ s : ByteArray, s = ⟨([40, 32] ++ TX).toArray⟩ := ⟨_, rfl⟩
      obtain ⟨zz2, hzz2⟩ : ∃ s : ByteArray, s = ⟨([40, 32] ++ TX ++ [32]).toArray⟩ := ⟨_, rfl⟩
      obtain ⟨zz3, hzz3⟩ : ∃ s : ByteArray, s = ⟨([40, 32] ++ TX ++ [32] ++ [41]).toArray⟩ := ⟨_, rfl⟩
      have f1 := wadd ⟨#[40, 32]⟩ s1 zz1 [40, 32] TX rfl hs1 hzz1 (by simp; omega)
      have f2 := wadd zz1 ⟨#[32]⟩ zz2 ([40, 32] ++ TX) [32] hzz1 rfl hzz2 (by simp; omega)
      have f3 := wadd zz2 ⟨#[41]⟩ zz3 ([40, 32] ++ TX ++ [32]) [41] hzz2 rfl hzz3 (by simp; omega)
      have HXB : Hid (bracedW op j0 = true → strV X = .string zz3) := fun h => by rw [hX, hzz3, br_three]; unfold brB; rw [if_pos h]; rfl
      have HXP : Hid (¬ bracedW op j0 = true → strV X = .string s1) := fun h => by rw [hX, hs1]; unfold brB; rw [if_neg h]; rfl
      rw [← hs1] at hkc
      clear hX hs1 hzz1 hzz2 hzz3 htb
      have q4 : wr.cell? ⟨w.heap.size, 4, none⟩ = some (.slice (some ⟨b, o, none⟩) ks.length cap3) := K.cell 4
      by_cases h7 : j0 = 7
      · have HX := Lib.hid (HXB.out (decide_eq_true (.inl h7)))
        have g7 : (j0 == 7) = true := by rw [h7]; rfl
        clear HXB HXP
        clear h7
        go_wp2_with fail
        refine hkc.mono ?_
        rintro e w2 ⟨rfl, b2⟩
        have K2 := (K.alloc (.cells #[.int .i64 j0, .string s4, .int .i64 j2, .int .i64 j3, .slice X4 n4 z4] 24)).below b2 (K.alloc _).lt
        have kk2 := kk.below b2 kk.lt
        have how2 := own_past b2 (own_past ((Below.refl _ _).alloc (Nat.le_refl _) (.cells #[.int .i64 j0, .string s4, .int .i64 j2, .int .i64 j3, .slice X4 n4 z4] 24)) how)
        have B2 := (B.alloc B.size (.cells #[.int .i64 j0, .string s4, .int .i64 j2, .int .i64 j3, .slice X4 n4 z4] 24)).trans (b2.mono (by have := B.size; simp; omega))
        have q0 : w2.cell? ⟨w.heap.size, 0, none⟩ = some (.int .i64 op) := K2.cell 0
        have m0 : w2.cell? ⟨wr.heap.size, 0, none⟩ = some (.int .i64 j0) := kk2.cell 0
        have hs2 : w.heap.size + 1 ≤ w2.heap.size := K2.lt
        clear hkc b2 K how kk
        obtain ⟨w6, hw6⟩ : ∃ w6, w6 = w2.alloc (.cells #[.string zz3] 9) := ⟨_, rfl⟩
        have k6 := KB.new w2 9 #[.string zz3]
        have b6 := (Below.refl w2.heap.size w2).alloc (Nat.le_refl _) (.cells #[.string zz3] 9)
        rw [← hw6] at k6 b6
        have kx : w6.cell? ⟨w2.heap.size, 0, none⟩ = some (strV X) := by rw [HX.out]; exact k6.cell 0
        have how6 := own_past b6 how2
        have K6 := K2.below b6 K2.lt
        have B6 := B2.trans (b6.mono B2.size)
        have hs6 : w.heap.size + 1 ≤ w6.heap.size := by have := b6.size; omega
        have HW6 := Lib.hid hw6
        clear hw6 k6 b6 how2 K2 B2 hs2 kk2
        go_wp2_with (at_builtin; rw [← HW6.out]; go_loud (refine wpList_growW w6 rfl _ _ rfl (w.heap.size + 1) _ (ts.take j) rfl how6 ⟨_, 0, none⟩ 1 X rfl kx hjl hs6 ?_); intro v7 w7 how7 g7 ho7)
        go_roundw
        case rel =>
          have hne := fun k (e : u3.ownBlock = some k) => own_ge how6 k e
          rw [← HTK.out] at how7
          exact ⟨j + 1, by omega, by go_num, how7, K6.grown g7 (fun e => by have := hne _ e; omega), B6.grown g7 (by have := B6.size; omega) (fun k e => by have := hne k e; omega)⟩
        case measure => simp [intOf]; omega
      have g7 : (j0 == 7) = false := beq_eq_false_iff_ne.2 h7
      by_cases h6 : j0 = 6
      · have g6 : (j0 == 6) = true := by rw [h6]; rfl
        by_cases ho : op = 7
        · have go : (op != 7) = false := by rw [ho]; rfl
          have HX := Lib.hid (HXP.out (by unfold bracedW; rw [decide_eq_true_eq]; omega))
          clear HXB HXP
          clear h7 h6 ho
          go_wp2_with fail
          refine hkc.mono ?_
          rintro e w2 ⟨rfl, b2⟩
          have K2 := (K.alloc (.cells #[.int .i64 j0, .string s4, .int .i64 j2, .int .i64 j3, .slice X4 n4 z4] 24)).below b2 (K.alloc _).lt
          have kk2 := kk.below b2 kk.lt
          have how2 := own_past b2 (own_past ((Below.refl _ _).alloc (Nat.le_refl _) (.cells #[.int .i64 j0, .string s4, .int .i64 j2, .int .i64 j3, .slice X4 n4 z4] 24)) how)
          have B2 := (B.alloc B.size (.cells #[.int .i64 j0, .string s4, .int .i64 j2, .int .i64 j3, .slice X4 n4 z4] 24)).trans (b2.mono (by have := B.size; simp; omega))
          have q0 : w2.cell? ⟨w.heap.size, 0, none⟩ = some (.int .i64 op) := K2.cell 0
          have m0 : w2.cell? ⟨wr.heap.size, 0, none⟩ = some (.int .i64 j0) := kk2.cell 0
          have hs2 : w.heap.size + 1 ≤ w2.heap.size := K2.lt
          clear hkc b2 K how kk
          obtain ⟨w6, hw6⟩ : ∃ w6, w6 = w2.alloc (.cells #[.string s1] 9) := ⟨_, rfl⟩
          have k6 := KB.new w2 9 #[.string s1]
          have b6 := (Below.refl w2.heap.size w2).alloc (Nat.le_refl _) (.cells #[.string s1] 9)
          rw [← hw6] at k6 b6
          have kx : w6.cell? ⟨w2.heap.size, 0, none⟩ = some (strV X) := by rw [HX.out]; exact k6.cell 0
          have how6 := own_past b6 how2
          have K6 := K2.below b6 K2.lt
          have B6 := B2.trans (b6.mono B2.size)
          have hs6 : w.heap.size + 1 ≤ w6.heap.size := by have := b6.size; omega
          have HW6 := Lib.hid hw6
          clear hw6 k6 b6 how2 K2 B2 hs2 kk2
          go_wp2_with (at_builtin; rw [← HW6.out]; go_loud (refine wpList_growW w6 rfl _ _ rfl (w.heap.size + 1) _ (ts.take j) rfl how6 ⟨_, 0, none⟩ 1 X rfl kx hjl hs6 ?_); intro v7 w7 how7 g7 ho7)
          go_roundw
          case rel =>
            have hne := fun k (e : u3.ownBlock = some k) => own_ge how6 k e
            rw [← HTK.out] at how7
            exact ⟨j + 1, by omega, by go_num, how7, K6.grown g7 (fun e => by have := hne _ e; omega), B6.grown g7 (by have := B6.size; omega) (fun k e => by have := hne k e; omega)⟩
          case measure => simp [intOf]; omega
        · have go : (op != 7) = true := bne_iff_ne.2 ho
          have go2 : (op == 7) = false := beq_eq_false_iff_ne.2 ho
          have HX := Lib.hid (HXB.out (decide_eq_true (.inr ⟨h6, ho⟩)))
          clear HXB HXP
          clear h7 h6 ho
          go_wp2_with fail
          refine hkc.mono ?_
          rintro e w2 ⟨rfl, b2⟩
          have K2 := (K.alloc (.cells #[.int .i64 j0, .string s4, .int .i64 j2, .int .i64 j3, .slice X4 n4 z4] 24)).below b2 (K.alloc _).lt
          have kk2 := kk.below b2 kk.lt
          have how2 := own_past b2 (own_past ((Below.refl _ _).alloc (Nat.le_refl _) (.cells #[.int .i64 j0, .string s4, .int .i64 j2, .int .i64 j3, .slice X4 n4 z4] 24)) how)
          have B2 := (B.alloc B.size (.cells #[.int .i64 j0, .string s4, .int .i64 j2, .int .i64 j3, .slice X4 n4 z4] 24)).trans (b2.mono (by have := B.size; simp; omega))
          have q0 : w2.cell? ⟨w.heap.size, 0, none⟩ = some (.int .i64 op) := K2.cell 0
          have m0 : w2.cell? ⟨wr.heap.size, 0, none⟩ = some (.int .i64 j0) := kk2.cell 0
          have hs2 : w.heap.size + 1 ≤ w2.heap.size := K2.lt
          clear hkc b2 K how kk
          obtain ⟨w6, hw6⟩ : ∃ w6, w6 = w2.alloc (.cells #[.string zz3] 9) := ⟨_, rfl⟩
          have k6 := KB.new w2 9 #[.string zz3]
          have b6 := (Below.refl w2.heap.size w2).alloc (Nat.le_refl _) (.cells #[.string zz3] 9)
          rw [← hw6] at k6 b6
          have kx : w6.cell? ⟨w2.heap.size, 0, none⟩ = some (strV X) := by rw [HX.out]; exact k6.cell 0
          have how6 := own_past b6 how2
          have K6 := K2.below b6 K2.lt
          have B6 := B2.trans (b6.mono B2.size)
          have hs6 : w.heap.size + 1 ≤ w6.heap.size := by have := b6.size; omega
          have HW6 := Lib.hid hw6
          clear hw6 k6 b6 how2 K2 B2 hs2 kk2
          go_wp2_with (at_builtin; rw [← HW6.out]; go_loud (refine wpList_growW w6 rfl _ _ rfl (w.heap.size + 1) _ (ts.take j) rfl how6 ⟨_, 0, none⟩ 1 X rfl kx hjl hs6 ?_); intro v7 w7 how7 g7 ho7)
          go_roundw
          case rel =>
            have hne := fun k (e : u3.ownBlock = some k) => own_ge how6 k e
            rw [← HTK.out] at how7
            exact ⟨j + 1, by omega, by go_num, how7, K6.grown g7 (fun e => by have := hne _ e; omega), B6.grown g7 (by have := B6.size; omega) (fun k e => by have := hne k e; omega)⟩
          case measure => simp [intOf]; omega
      · have g6 : (j0 == 6) = false := beq_eq_false_iff_ne.2 h6
        have HX := Lib.hid (HXP.out (by unfold bracedW; rw [decide_eq_true_eq]; omega))
        clear HXB HXP
        clear h7 h6
        go_wp2_with fail
        refine hkc.mono ?_
        rintro e w2 ⟨rfl, b2⟩
        have K2 := (K.alloc (.cells #[.int .i64 j0, .string s4, .int .i64 j2, .int .i64 j3, .slice X4 n4 z4] 24)).below b2 (K.alloc _).lt
        have kk2 := kk.below b2 kk.lt
        have how2 := own_past b2 (own_past ((Below.refl _ _).alloc (Nat.le_refl _) (.cells #[.int .i64 j0, .string s4, .int .i64 j2, .int .i64 j3, .slice X4 n4 z4] 24)) how)
        have B2 := (B.alloc B.size (.cells #[.int .i64 j0, .string s4, .int .i64 j2, .int .i64 j3, .slice X4 n4 z4] 24)).trans (b2.mono (by have := B.size; simp; omega))
        have q0 : w2.cell? ⟨w.heap.size, 0, none⟩ = some (.int .i64 op) := K2.cell 0
        have m0 : w2.cell? ⟨wr.heap.size, 0, none⟩ = some (.int .i64 j0) := kk2.cell 0
        have hs2 : w.heap.size + 1 ≤ w2.heap.size := K2.lt
        clear hkc b2 K how kk
        obtain ⟨w6, hw6⟩ : ∃ w6, w6 = w2.alloc (.cells #[.string s1] 9) := ⟨_, rfl⟩
        have k6 := KB.new w2 9 #[.string s1]
        have b6 := (Below.refl w2.heap.size w2).alloc (Nat.le_refl _) (.cells #[.string s1] 9)
        rw [← hw6] at k6 b6
        have kx : w6.cell? ⟨w2.heap.size, 0, none⟩ = some (strV X) := by rw [HX.out]; exact k6.cell 0
        have how6 := own_past b6 how2
        have K6 := K2.below b6 K2.lt
        have B6 := B2.trans (b6.mono B2.size)
        have hs6 : w.heap.size + 1 ≤ w6.heap.size := by have := b6.size; omega
        have HW6 := Lib.hid hw6
        clear hw6 k6 b6 how2 K2 B2 hs2 kk2
        go_wp2_with (at_builtin; rw [← HW6.out]; go_loud (refine wpList_growW w6 rfl _ _ rfl (w.heap.size + 1) _ (ts.take j) rfl how6 ⟨_, 0, none⟩ 1 X rfl kx hjl hs6 ?_); intro v7 w7 how7 g7 ho7)
        go_roundw
        case rel =>
          have hne := fun k (e : u3.ownBlock = some k) => own_ge how6 k e
          rw [← HTK.out] at how7
          exact ⟨j + 1, by omega, by go_num, how7, K6.grown g7 (fun e => by have := hne _ e; omega), B6.grown g7 (by have := B6.size; omega) (fun k e => by have := hne k e; omega)⟩
        case measure => simp [intOf]; omega
    · obtain rfl : j = ks.length := by omega
      have hf := HQ.out _ wr how B
      clear how
      go_wp2_with fail
      first | exact hf | (go_ret; exact hf)
set_option maxHeartbeats 8000000 in
theorem ptext_1 (S : Nat → Prop) (f : Nat) (ih : PTextIh S f) (t : Ns (Sc f)) (v : Value) (d : Int) (w : World) (hok : okS (f + 1) t d = true) (hno : nodesS (f + 1) t ≤ 24) (hop : t.op = 1) (hp : Pow w) (hv : ZV w S (f + 1) v t) :
    Calls Tryz.prog 15 #[v] w fun e w' => e = .returned (strV (textB (f + 1) t)) ∧ Below w.heap.size w w' := by
  have hlen := textB_len (f + 1) t d hok
  obtain ⟨hd, hf, hkd⟩ := wok_fits hok
  obtain ⟨c0, c1, c2, c3, c4, rfl, rfl, hk, rfl, hml, rfl, hfr, rfl, hto, hks⟩ := hv
  obtain ⟨A3, cap3, e3, hl3, hm3⟩ := hks.form
  subst e3
  rw [textB_eq] at hlen ⊢
  rw [hop]
  clear hks hkd hf hok hno hk hto hfr hl3 hm3 ih hp
  generalize t.from_ = fr at *
  generalize t.to_ = to_ at *
  generalize t.kids.length = kl at *
  have B0 := (Below.refl w.heap.size w).alloc (Nat.le_refl _) (.cells #[.int .i64 1, strV t.name, .int .i64 fr, .int .i64 to_, .slice A3 kl cap3] 24)
  show Calls _ _ _ _ fun e w' => e = .returned (.string ⟨#[97, 108, 108]⟩) ∧ _
  unfold strV at *
  generalize (⟨t.name.toArray⟩ : ByteArray) = s at *
  go_enter Tryz.func15, Tryz.ntmps15
  go_wp2_with fail
  go_ret
  exact ⟨rfl, B0⟩
set_option maxHeartbeats 8000000 in
theorem ptext_2 (S : Nat → Prop) (f : Nat) (ih : PTextIh S f) (t : Ns (Sc f)) (v : Value) (d : Int) (w : World) (hok : okS (f + 1) t d = true) (hno : nodesS (f + 1) t ≤ 24) (hop : t.op = 2) (hp : Pow w) (hv : ZV w S (f + 1) v t) :
    Calls Tryz.prog 15 #[v] w fun e w' => e = .returned (strV (textB (f + 1) t)) ∧ Below w.heap.size w w' := by
  have hlen := textB_len (f + 1) t d hok
  obtain ⟨hd, hf, hkd⟩ := wok_fits hok
  have hnl : t.name.length ≤ 16 := ((name_iff _).1 (fits_named hf (by omega)).1).2.1
  obtain ⟨c0, c1, c2, c3, c4, rfl, rfl, hk, rfl, hml, rfl, hfr, rfl, hto, hks⟩ := hv
  obtain ⟨A3, cap3, e3, hl3, hm3⟩ := hks.form
  subst e3
  rw [textB_eq] at hlen ⊢
  rw [hop]
  clear hks hkd hf hok hno hk hto hfr hl3 hm3 ih hp
  generalize t.from_ = fr at *
  generalize t.to_ = to_ at *
  generalize t.kids.length = kl at *
  have B0 := (Below.refl w.heap.size w).alloc (Nat.le_refl _) (.cells #[.int .i64 2, strV t.name, .int .i64 fr, .int .i64 to_, .slice A3 kl cap3] 24)
  show Calls _ _ _ _ fun e w' => e = .returned (strV ([99, 97, 115, 101, 32] ++ t.name)) ∧ _
  generalize t.name = l at *
  obtain ⟨s, hs⟩ : ∃ s : ByteArray, s = ⟨l.toArray⟩ := ⟨_, rfl⟩
  obtain ⟨u, hu⟩ : ∃ s : ByteArray, s = ⟨([99, 97, 115, 101, 32] ++ l).toArray⟩ := ⟨_, rfl⟩
  have f1 := wadd ⟨#[99, 97, 115, 101, 32]⟩ s u [99, 97, 115, 101, 32] l rfl hs hu (by simp; omega)
  have HB : Hid (.string u = strV ([99, 97, 115, 101, 32] ++ l)) := by show _ = _; rw [hu]; rfl
  rw [← HB.out]
  unfold strV at *
  rw [← hs] at B0 ⊢
  clear hs hu HB hlen hml
  go_enter Tryz.func15, Tryz.ntmps15
  go_wp2_with fail
  go_ret
  exact ⟨rfl, B0⟩
set_option maxHeartbeats 8000000 in
theorem ptext_3 (S : Nat → Prop) (f : Nat) (ih : PTextIh S f) (t : Ns (Sc f)) (v : Value) (d : Int) (w : World) (hok : okS (f + 1) t d = true) (hno : nodesS (f + 1) t ≤ 24) (hop : t.op = 3) (hp : Pow w) (hv : ZV w S (f + 1) v t) :
    Calls Tryz.prog 15 #[v] w fun e w' => e = .returned (strV (textB (f + 1) t)) ∧ Below w.heap.size w w' := by
  have hlen := textB_len (f + 1) t d hok
  obtain ⟨hd, hf, hkd⟩ := wok_fits hok
  have hnl : t.name.length ≤ 16 := ((name_iff _).1 (fits_named hf (by omega)).1).2.1
  obtain ⟨c0, c1, c2, c3, c4, rfl, rfl, hk, rfl, hml, rfl, hfr, rfl, hto, hks⟩ := hv
  obtain ⟨A3, cap3, e3, hl3, hm3⟩ := hks.form
  subst e3
  rw [textB_eq] at hlen ⊢
  rw [hop]
  clear hks hkd hf hok hno hk hto hfr hl3 hm3 ih hp
  generalize t.from_ = fr at *
  generalize t.to_ = to_ at *
  generalize t.kids.length = kl at *
  have B0 := (Below.refl w.heap.size w).alloc (Nat.le_refl _) (.cells #[.int .i64 3, strV t.name, .int .i64 fr, .int .i64 to_, .slice A3 kl cap3] 24)
  show Calls _ _ _ _ fun e w' => e = .returned (strV ([115, 117, 98, 106, 101, 99, 116, 32] ++ t.name)) ∧ _
  generalize t.name = l at *
  obtain ⟨s, hs⟩ : ∃ s : ByteArray, s = ⟨l.toArray⟩ := ⟨_, rfl⟩
  obtain ⟨u, hu⟩ : ∃ s : ByteArray, s = ⟨([115, 117, 98, 106, 101, 99, 116, 32] ++ l).toArray⟩ := ⟨_, rfl⟩
  have f1 := wadd ⟨#[115, 117, 98, 106, 101, 99, 116, 32]⟩ s u [115, 117, 98, 106, 101, 99, 116, 32] l rfl hs hu (by simp; omega)
  have HB : Hid (.string u = strV ([115, 117, 98, 106, 101, 99, 116, 32] ++ l)) := by show _ = _; rw [hu]; rfl
  rw [← HB.out]
  unfold strV at *
  rw [← hs] at B0 ⊢
  clear hs hu HB hlen hml
  go_enter Tryz.func15, Tryz.ntmps15
  go_wp2_with fail
  go_ret
  exact ⟨rfl, B0⟩
set_option maxHeartbeats 8000000 in
theorem ptext_4 (S : Nat → Prop) (f : Nat) (ih : PTextIh S f) (t : Ns (Sc f)) (v : Value) (d : Int) (w : World) (hok : okS (f + 1) t d = true) (hno : nodesS (f + 1) t ≤ 24) (hop : t.op = 4) (hp : Pow w) (hv : ZV w S (f + 1) v t) :
    Calls Tryz.prog 15 #[v] w fun e w' => e = .returned (strV (textB (f + 1) t)) ∧ Below w.heap.size w w' := by
  have hlen := textB_len (f + 1) t d hok
  obtain ⟨hd, hf, hkd⟩ := wok_fits hok
  have hnl : t.name.length ≤ 16 := ((name_iff _).1 (fits_named hf (by omega)).1).2.1
  obtain ⟨c0, c1, c2, c3, c4, rfl, rfl, hk, rfl, hml, rfl, hfr, rfl, hto, hks⟩ := hv
  obtain ⟨A3, cap3, e3, hl3, hm3⟩ := hks.form
  subst e3
  rw [textB_eq] at hlen ⊢
  rw [hop]
  clear hks hkd hf hok hno hk hto hfr hl3 hm3 ih hp
  generalize t.from_ = fr at *
  generalize t.to_ = to_ at *
  generalize t.kids.length = kl at *
  have B0 := (Below.refl w.heap.size w).alloc (Nat.le_refl _) (.cells #[.int .i64 4, strV t.name, .int .i64 fr, .int .i64 to_, .slice A3 kl cap3] 24)
  show Calls _ _ _ _ fun e w' => e = .returned (strV ([99, 108, 97, 115, 115, 32] ++ t.name)) ∧ _
  generalize t.name = l at *
  obtain ⟨s, hs⟩ : ∃ s : ByteArray, s = ⟨l.toArray⟩ := ⟨_, rfl⟩
  obtain ⟨u, hu⟩ : ∃ s : ByteArray, s = ⟨([99, 108, 97, 115, 115, 32] ++ l).toArray⟩ := ⟨_, rfl⟩
  have f1 := wadd ⟨#[99, 108, 97, 115, 115, 32]⟩ s u [99, 108, 97, 115, 115, 32] l rfl hs hu (by simp; omega)
  have HB : Hid (.string u = strV ([99, 108, 97, 115, 115, 32] ++ l)) := by show _ = _; rw [hu]; rfl
  rw [← HB.out]
  unfold strV at *
  rw [← hs] at B0 ⊢
  clear hs hu HB hlen hml
  go_enter Tryz.func15, Tryz.ntmps15
  go_wp2_with fail
  go_ret
  exact ⟨rfl, B0⟩
set_option maxHeartbeats 8000000 in
theorem ptext_5 (S : Nat → Prop) (f : Nat) (ih : PTextIh S f) (t : Ns (Sc f)) (v : Value) (d : Int) (w : World) (hok : okS (f + 1) t d = true) (hno : nodesS (f + 1) t ≤ 24) (hop : t.op = 5) (hp : Pow w) (hv : ZV w S (f + 1) v t) :
    Calls Tryz.prog 15 #[v] w fun e w' => e = .returned (strV (textB (f + 1) t)) ∧ Below w.heap.size w w' := by
  have hlen := textB_len (f + 1) t d hok
  obtain ⟨hd, hf, hkd⟩ := wok_fits hok
  obtain ⟨n0, n1, n2, _⟩ := fits_time hf hop
  have hi1 : Lib.itoa t.from_ = Lib.decDigits t.from_.toNat := by unfold Lib.itoa; rw [if_neg (by omega)]
  have hi2 : Lib.itoa t.to_ = Lib.decDigits t.to_.toNat := by unfold Lib.itoa; rw [if_neg (by omega)]
  have l1 := digits_len (k := t.from_.toNat) (by omega)
  have l2 := digits_len (k := t.to_.toNat) (by omega)
  have T1 : Hid (∀ W, Below w.heap.size w W → Calls Tryz.prog 23 #[.int .i64 t.from_] W fun e w' => e = .returned (strV (Lib.decDigits t.from_.toNat)) ∧ Below W.heap.size W w') := fun W hb => by rw [← hi1]; exact itoa_any _ ⟨by omega, by omega⟩ W (hp.below hb)
  have T2 : Hid (∀ W, Below w.heap.size w W → Calls Tryz.prog 23 #[.int .i64 t.to_] W fun e w' => e = .returned (strV (Lib.decDigits t.to_.toNat)) ∧ Below W.heap.size W w') := fun W hb => by rw [← hi2]; exact itoa_any _ ⟨by omega, by omega⟩ W (hp.below hb)
  obtain ⟨c0, c1, c2, c3, c4, rfl, rfl, hk, rfl, hml, rfl, hfr, rfl, hto, hks⟩ := hv
  obtain ⟨A3, cap3, e3, hl3, hm3⟩ := hks.form
  subst e3
  rw [textB_eq] at hlen ⊢
  rw [hop]
  clear hks hkd hf hok hno hk hto hfr hl3 hm3 ih hp hi1 hi2 n0 n1 n2
  show Calls _ _ _ _ fun e w' => e = .returned (strV ([116, 105, 109, 101, 32] ++ Lib.decDigits t.from_.toNat ++ [45] ++ Lib.decDigits t.to_.toNat)) ∧ _
  generalize Lib.decDigits t.from_.toNat = D1 at *
  generalize Lib.decDigits t.to_.toNat = D2 at *
  generalize t.from_ = fr at *
  generalize t.to_ = to_ at *
  generalize t.kids.length = kl at *
  generalize t.name = l at *
  have kb := KB.new w 24 #[.int .i64 5, strV l, .int .i64 fr, .int .i64 to_, .slice A3 kl cap3]
  have B0 := (Below.refl w.heap.size w).alloc (Nat.le_refl _) (.cells #[.int .i64 5, strV l, .int .i64 fr, .int .i64 to_, .slice A3 kl cap3] 24)
  obtain ⟨s1, hs1⟩ : ∃ s : ByteArray, s = ⟨D1.toArray⟩ := ⟨_, rfl⟩
  obtain ⟨s2, hs2⟩ : ∃ s : ByteArray, s = ⟨D2.toArray⟩ := ⟨_, rfl⟩
  obtain ⟨u1, hu1⟩ : ∃ s : ByteArray, s = ⟨([116, 105, 109, 101, 32] ++ D1).toArray⟩ := ⟨_, rfl⟩
  obtain ⟨u2, hu2⟩ : ∃ s : ByteArray, s = ⟨([116, 105, 109, 101, 32] ++ D1 ++ [45]).toArray⟩ := ⟨_, rfl⟩
  obtain ⟨u3, hu3⟩ : ∃ s : ByteArray, s = ⟨([116, 105, 109, 101, 32] ++ D1 ++ [45] ++ D2).toArray⟩ := ⟨_, rfl⟩
  have f1 := wadd ⟨#[116, 105, 109, 101, 32]⟩ s1 u1 [116, 105, 109, 101, 32] D1 rfl hs1 hu1 (by simp; omega)
  have f2 := wadd u1 ⟨#[45]⟩ u2 ([116, 105, 109, 101, 32] ++ D1) [45] hu1 rfl hu2 (by simp; omega)
  have f3 := wadd u2 s2 u3 ([116, 105, 109, 101, 32] ++ D1 ++ [45]) D2 hu2 hs2 hu3 (by simp; omega)
  have HB : Hid (.string u3 = strV ([116, 105, 109, 101, 32] ++ D1 ++ [45] ++ D2)) := by show _ = _; rw [hu3]; rfl
  rw [← HB.out]
  unfold strV at *
  rw [← hs1] at T1
  rw [← hs2] at T2
  generalize (⟨l.toArray⟩ : ByteArray) = s at *
  clear hs1 hs2 hu1 hu2 hu3 HB hml hlen l1 l2
  have B1 := Below_drawn B0 1
  have kd : KB (w.alloc (.cells #[.int .i64 5, .string s, .int .i64 fr, .int .i64 to_, .slice A3 kl cap3] 24)).drew w.heap.size 24 #[.int .i64 5, .string s, .int .i64 fr, .int .i64 to_, .slice A3 kl cap3] := kb
  have Bd : Below w.heap.size w (w.alloc (.cells #[.int .i64 5, .string s, .int .i64 fr, .int .i64 to_, .slice A3 kl cap3] 24)).drew := B1
  clear B1
  go_enter Tryz.func15, Tryz.ntmps15
  go_wp2_with fail
  rename_i KK hKK
  have HKK := Lib.hid hKK
  clear hKK kb B0
  refine wp_region_held_drew (S := (fun W => W.cell? ⟨w.heap.size, 2, none⟩ = some (.int .i64 fr) ∧ W.cell? ⟨w.heap.size, 3, none⟩ = some (.int .i64 to_))) (by kernel_rfl) ⟨kd.cell 2, kd.cell 3⟩ (fun hHeld => ?_)
  generalize (w.alloc (.cells #[.int .i64 5, .string s, .int .i64 fr, .int .i64 to_, .slice A3 kl cap3] 24)).drew = wd at *
  refine hyY (some 22) 0 rfl hHeld ?_; go_frame
  refine hyY (some 23) 1 rfl hHeld ?_; go_frame
  refine hyY (some 27) 5 rfl hHeld ?_; go_frame
  refine hyY (some 28) 6 rfl hHeld ?_; go_frame
  refine hyO (some 24) 2 rfl (fun K hK => ?_)
  go_simp
  go_at_call 23
  refine (T1.out _ Bd).mono ?_
  rintro e w5 ⟨rfl, b5⟩
  replace kd := kd.below b5 kd.lt
  replace Bd := Bd.trans (b5.mono Bd.size)
  clear b5
  go_wp2_with fail
  refine hK.out _ _ ?_ (fun hH2 => ?_)
  · exact ⟨kd.cell 2, kd.cell 3⟩
  clear hHeld hK K; have hHeld := hH2; clear hH2; try go_frame
  refine hyY (some 25) 3 rfl hHeld ?_; go_frame
  refine hyY (some 26) 4 rfl hHeld ?_; go_frame
  refine hyO (some 29) 7 rfl (fun K hK => ?_)
  go_simp
  go_at_call 23
  refine (T2.out _ Bd).mono ?_
  rintro e w6 ⟨rfl, b6⟩
  replace kd := kd.below b6 kd.lt
  replace Bd := Bd.trans (b6.mono Bd.size)
  clear b6
  go_wp2_with fail
  refine hK.out _ _ ?_ (fun hH2 => ?_)
  · exact ⟨kd.cell 2, kd.cell 3⟩
  clear hHeld hK K; have hHeld := hH2; clear hH2; try go_frame
  refine hyY (some 30) 8 rfl hHeld ?_; go_frame
  refine hyY (some 2) 9 rfl hHeld ?_; go_frame
  refine wpAnyH_done (by kernel_rfl) ?_ _
  have hKK := HKK.out
  go_wp2_with fail
  go_ret
  exact ⟨rfl, Bd⟩
set_option maxHeartbeats 8000000 in
theorem ptext_6 (S : Nat → Prop) (f : Nat) (ih : PTextIh S f) (t : Ns (Sc f)) (v : Value) (d : Int) (w : World) (hok : okS (f + 1) t d = true) (hno : nodesS (f + 1) t ≤ 24) (hop : t.op = 6) (hp : Pow w) (hv : ZV w S (f + 1) v t) :
    Calls Tryz.prog 15 #[v] w fun e w' => e = .returned (strV (textB (f + 1) t)) ∧ Below w.heap.size w w' := by
  have hlen := textB_len (f + 1) t d hok
  obtain ⟨hd, hf, hkd⟩ := wok_fits hok
  have hkl : 2 ≤ t.kids.length := wfits_many hf (by omega)
  have hno2 : (t.kids.map (nodesS f)).sum ≤ 23 := by rw [nodesS_eq] at hno; omega
  have hkids : ∀ W v, Below w.heap.size w W → ZV W S (f + 1) v t → Calls Tryz.prog 25 #[v] W (WordsAs W (t.kids.map fun k => brB t.op (opS f k) (textB f k))) := fun W v hb hz => pkids_any S f ih t v d W hok hno (hp.below hb) hz
  have hkm : t.kids.length ≤ 23 := by
    have := wkids_few f (d - 1) t.kids hkd
    omega
  have hz0 := hv
  obtain ⟨c0, c1, c2, c3, c4, rfl, rfl, hk, rfl, hml, rfl, hfr, rfl, hto, hks⟩ := hv
  obtain ⟨A3, cap3, e3, hl3, hm3⟩ := hks.form
  subst e3
  rw [textB_eq] at hlen ⊢
  rw [hop]
  have hz1 := hz0.alloc (.cells #[.int .i64 t.op, strV t.name, .int .i64 t.from_, .int .i64 t.to_, .slice A3 t.kids.length cap3] 24)
  have hkc := hkids _ _ ((Below.refl w.heap.size w).alloc (Nat.le_refl _) _) hz1
  rw [hop] at hkc
  have hlj : (Lib.join (t.kids.map fun k => brB 6 (opS f k) (textB f k)) [32, 97, 110, 100, 32]).length ≤ 1000000000 := by
    rw [join_sumB]
    have := sumB_some [32, 97, 110, 100, 32] (by simp) (t.kids.map fun k => brB 6 (opS f k) (textB f k)) t.kids.length
    rw [List.take_of_length_le (by simp)] at this
    have := kidsB_sum f 6 (d - 1) (fun x h => textB_len f x (d - 1) h) t.kids hkd
    omega
  have hjs := join_sumB [32, 97, 110, 100, 32] (t.kids.map fun k => brB 6 (opS f k) (textB f k))
  have htl : (t.kids.map fun k => brB 6 (opS f k) (textB f k)).length = t.kids.length := List.length_map ..
  show Calls _ _ _ _ fun e w' => e = .returned (strV (sumB [32, 97, 110, 100, 32] (t.kids.map fun k => brB 6 (opS f k) (textB f k)))) ∧ _
  rw [← hjs]
  generalize (t.kids.map fun k => brB 6 (opS f k) (textB f k)) = ts at *
  clear hks hkd hf hok hno hk hto hfr hl3 hm3 ih hp hno2 hlen hz0 hz1 hkids hjs
  have kb := KB.new w 24 #[.int .i64 6, strV t.name, .int .i64 t.from_, .int .i64 t.to_, .slice A3 t.kids.length cap3]
  have B0 := (Below.refl w.heap.size w).alloc (Nat.le_refl _) (.cells #[.int .i64 6, strV t.name, .int .i64 t.from_, .int .i64 t.to_, .slice A3 t.kids.length cap3] 24)
  clear hop
  generalize t.kids.length = kl at *
  generalize t.from_ = fr at *
  generalize t.to_ = to_ at *
  generalize t.name = l at *
  clear t
  unfold strV at hkc kb B0 ⊢
  generalize (⟨l.toArray⟩ : ByteArray) = s at *
  obtain ⟨JV, hJV⟩ : ∃ s : ByteArray, s = ⟨(Lib.join ts [32, 97, 110, 100, 32]).toArray⟩ := ⟨_, rfl⟩
  rw [← hJV]
  have HJ : Hid (∀ (bk o c : Nat) (W : World), (∀ (j : Nat) x, ts[j]? = some x → W.cell? ⟨bk, o + j, none⟩ = some (strV x)) → bk < W.heap.size → ts.length ≤ c → Calls Tryz.prog 24 #[.slice (some ⟨bk, o, none⟩) ts.length c, .string ⟨#[32, 97, 110, 100, 32]⟩] W fun e w' => e = .returned (.string JV) ∧ Below W.heap.size W w') := fun bk o c W h1 h2 h3 => by
    rw [hJV]
    exact join_any bk o c ts [32, 97, 110, 100, 32] W h1 h2 (by omega) h3 hlj
  have HPOS : Hid (0 < ts.length) := by show 0 < _; omega
  clear hJV hlj hml htl hkl hkm
  go_enter Tryz.func15, Tryz.ntmps15
  go_wp2_with fail
  refine hkc.mono ?_
  rintro e w2 ⟨v2, rfl, how, b2⟩
  have B2 := B0.trans (b2.mono B0.size)
  have hcs := CS.of_own how
  obtain ⟨A2, c2, rfl, hle, hcm⟩ := hcs.form
  obtain ⟨bk, oo, rfl, _, hbl, hcell⟩ := hcs.at_ (by have := HPOS.out; simp; omega)
  rw [List.length_map] at hle ⊢
  have hj := HJ.out bk oo c2 w2 (fun j x hx => hcell j (strV x) (by rw [List.getElem?_map, hx]; rfl)) hbl hle
  clear hkc how b2 hcs hcell B0 kb HJ
  go_wp2_with fail
  refine hj.mono ?_
  rintro e w3 ⟨rfl, b3⟩
  have B3 := Lib.hid (B2.trans (b3.mono B2.size))
  clear hj b3 B2 hle hcm hbl
  go_wp2_with fail
  go_ret
  exact ⟨rfl, B3.out⟩
set_option maxHeartbeats 8000000 in
theorem ptext_7 (S : Nat → Prop) (f : Nat) (ih : PTextIh S f) (t : Ns (Sc f)) (v : Value) (d : Int) (w : World) (hok : okS (f + 1) t d = true) (hno : nodesS (f + 1) t ≤ 24) (hop : t.op = 7) (hp : Pow w) (hv : ZV w S (f + 1) v t) :
    Calls Tryz.prog 15 #[v] w fun e w' => e = .returned (strV (textB (f + 1) t)) ∧ Below w.heap.size w w' := by
  have hlen := textB_len (f + 1) t d hok
  obtain ⟨hd, hf, hkd⟩ := wok_fits hok
  have hkl : 2 ≤ t.kids.length := wfits_many hf (by omega)
  have hno2 : (t.kids.map (nodesS f)).sum ≤ 23 := by rw [nodesS_eq] at hno; omega
  have hkids : ∀ W v, Below w.heap.size w W → ZV W S (f + 1) v t → Calls Tryz.prog 25 #[v] W (WordsAs W (t.kids.map fun k => brB t.op (opS f k) (textB f k))) := fun W v hb hz => pkids_any S f ih t v d W hok hno (hp.below hb) hz
  have hkm : t.kids.length ≤ 23 := by
    have := wkids_few f (d - 1) t.kids hkd
    omega
  have hz0 := hv
  obtain ⟨c0, c1, c2, c3, c4, rfl, rfl, hk, rfl, hml, rfl, hfr, rfl, hto, hks⟩ := hv
  obtain ⟨A3, cap3, e3, hl3, hm3⟩ := hks.form
  subst e3
  rw [textB_eq] at hlen ⊢
  rw [hop]
  have hz1 := hz0.alloc (.cells #[.int .i64 t.op, strV t.name, .int .i64 t.from_, .int .i64 t.to_, .slice A3 t.kids.length cap3] 24)
  have hkc := hkids _ _ ((Below.refl w.heap.size w).alloc (Nat.le_refl _) _) hz1
  rw [hop] at hkc
  have hlj : (Lib.join (t.kids.map fun k => brB 7 (opS f k) (textB f k)) [32, 111, 114, 32]).length ≤ 1000000000 := by
    rw [join_sumB]
    have := sumB_some [32, 111, 114, 32] (by simp) (t.kids.map fun k => brB 7 (opS f k) (textB f k)) t.kids.length
    rw [List.take_of_length_le (by simp)] at this
    have := kidsB_sum f 7 (d - 1) (fun x h => textB_len f x (d - 1) h) t.kids hkd
    omega
  have hjs := join_sumB [32, 111, 114, 32] (t.kids.map fun k => brB 7 (opS f k) (textB f k))
  have htl : (t.kids.map fun k => brB 7 (opS f k) (textB f k)).length = t.kids.length := List.length_map ..
  show Calls _ _ _ _ fun e w' => e = .returned (strV (sumB [32, 111, 114, 32] (t.kids.map fun k => brB 7 (opS f k) (textB f k)))) ∧ _
  rw [← hjs]
  generalize (t.kids.map fun k => brB 7 (opS f k) (textB f k)) = ts at *
  clear hks hkd hf hok hno hk hto hfr hl3 hm3 ih hp hno2 hlen hz0 hz1 hkids hjs
  have kb := KB.new w 24 #[.int .i64 7, strV t.name, .int .i64 t.from_, .int .i64 t.to_, .slice A3 t.kids.length cap3]
  have B0 := (Below.refl w.heap.size w).alloc (Nat.le_refl _) (.cells #[.int .i64 7, strV t.name, .int .i64 t.from_, .int .i64 t.to_, .slice A3 t.kids.length cap3] 24)
  clear hop
  generalize t.kids.length = kl at *
  generalize t.from_ = fr at *
  generalize t.to_ = to_ at *
  generalize t.name = l at *
  clear t
  unfold strV at hkc kb B0 ⊢
  generalize (⟨l.toArray⟩ : ByteArray) = s at *
  obtain ⟨JV, hJV⟩ : ∃ s : ByteArray, s = ⟨(Lib.join ts [32, 111, 114, 32]).toArray⟩ := ⟨_, rfl⟩
  rw [← hJV]
  have HJ : Hid (∀ (bk o c : Nat) (W : World), (∀ (j : Nat) x, ts[j]? = some x → W.cell? ⟨bk, o + j, none⟩ = some (strV x)) → bk < W.heap.size → ts.length ≤ c → Calls Tryz.prog 24 #[.slice (some ⟨bk, o, none⟩) ts.length c, .string ⟨#[32, 111, 114, 32]⟩] W fun e w' => e = .returned (.string JV) ∧ Below W.heap.size W w') := fun bk o c W h1 h2 h3 => by
    rw [hJV]
    exact join_any bk o c ts [32, 111, 114, 32] W h1 h2 (by omega) h3 hlj
  have HPOS : Hid (0 < ts.length) := by show 0 < _; omega
  clear hJV hlj hml htl hkl hkm
  go_enter Tryz.func15, Tryz.ntmps15
  go_wp2_with fail
  refine hkc.mono ?_
  rintro e w2 ⟨v2, rfl, how, b2⟩
  have B2 := B0.trans (b2.mono B0.size)
  have hcs := CS.of_own how
  obtain ⟨A2, c2, rfl, hle, hcm⟩ := hcs.form
  obtain ⟨bk, oo, rfl, _, hbl, hcell⟩ := hcs.at_ (by have := HPOS.out; simp; omega)
  rw [List.length_map] at hle ⊢
  have hj := HJ.out bk oo c2 w2 (fun j x hx => hcell j (strV x) (by rw [List.getElem?_map, hx]; rfl)) hbl hle
  clear hkc how b2 hcs hcell B0 kb HJ
  go_wp2_with fail
  refine hj.mono ?_
  rintro e w3 ⟨rfl, b3⟩
  have B3 := Lib.hid (B2.trans (b3.mono B2.size))
  clear hj b3 B2 hle hcm hbl
  go_wp2_with fail
  go_ret
  exact ⟨rfl, B3.out⟩
set_option maxHeartbeats 8000000 in
theorem ptext_8 (S : Nat → Prop) (f : Nat) (ih : PTextIh S f) (t : Ns (Sc f)) (v : Value) (d : Int) (w : World) (hok : okS (f + 1) t d = true) (hno : nodesS (f + 1) t ≤ 24) (hop : t.op = 8) (hp : Pow w) (hv : ZV w S (f + 1) v t) :
    Calls Tryz.prog 15 #[v] w fun e w' => e = .returned (strV (textB (f + 1) t)) ∧ Below w.heap.size w w' := by
  have hlen := textB_len (f + 1) t d hok
  obtain ⟨hd, hf, hkd⟩ := wok_fits hok
  obtain ⟨k, hkk⟩ := fits_not hf hop
  have hkids : ∀ W v, Below w.heap.size w W → ZV W S (f + 1) v t → Calls Tryz.prog 25 #[v] W (WordsAs W (t.kids.map fun k => brB t.op (opS f k) (textB f k))) := fun W v hb hz => pkids_any S f ih t v d W hok hno (hp.below hb) hz
  have hz0 := hv
  obtain ⟨c0, c1, c2, c3, c4, rfl, rfl, hk, rfl, hml, rfl, hfr, rfl, hto, hks⟩ := hv
  obtain ⟨A3, cap3, e3, hl3, hm3⟩ := hks.form
  subst e3
  rw [textB_eq] at hlen ⊢
  rw [hop]
  have hz1 := hz0.alloc (.cells #[.int .i64 t.op, strV t.name, .int .i64 t.from_, .int .i64 t.to_, .slice A3 t.kids.length cap3] 24)
  have hkc := hkids _ _ ((Below.refl w.heap.size w).alloc (Nat.le_refl _) _) hz1
  rw [hop] at hkc
  have htl : (textB f k).length ≤ 1500 := by
    have h1 := textB_len f k _ (hkd k (by rw [hkk]; simp))
    have h2 : (t.kids.map (nodesS f)).sum ≤ 23 := by rw [nodesS_eq] at hno; omega
    rw [hkk] at h2
    simp at h2
    omega
  have hbl := brB_len 8 (opS f k) (textB f k)
  rw [hkk] at hkc ⊢
  show Calls _ _ _ _ fun e w' => e = .returned (strV ([110, 111, 116, 32] ++ brB 8 (opS f k) (textB f k))) ∧ _
  have hkc : Calls _ _ _ _ (WordsAs _ [brB 8 (opS f k) (textB f k)]) := hkc
  generalize brB 8 (opS f k) (textB f k) = X at *
  clear hks hkd hf hok hno hk hto hfr hl3 hm3 ih hp hlen hz0 hz1 hkids hkk
  have B0 := (Below.refl w.heap.size w).alloc (Nat.le_refl _) (.cells #[.int .i64 8, strV t.name, .int .i64 t.from_, .int .i64 t.to_, .slice A3 [k].length cap3] 24)
  clear hop
  generalize t.from_ = fr at *
  generalize t.to_ = to_ at *
  generalize t.name = l at *
  obtain ⟨s1, hs1⟩ : ∃ s : ByteArray, s = ⟨X.toArray⟩ := ⟨_, rfl⟩
  obtain ⟨u, hu⟩ : ∃ s : ByteArray, s = ⟨([110, 111, 116, 32] ++ X).toArray⟩ := ⟨_, rfl⟩
  have f1 := wadd ⟨#[110, 111, 116, 32]⟩ s1 u [110, 111, 116, 32] X rfl hs1 hu (by simp; omega)
  have HB : Hid (.string u = strV ([110, 111, 116, 32] ++ X)) := by show _ = _; rw [hu]; rfl
  have HX : Hid (strV X = .string s1) := by show _ = _; rw [hs1]; rfl
  rw [← HB.out]
  simp only [List.length_cons, List.length_nil] at B0 hkc ⊢
  unfold strV at hkc B0 ⊢
  generalize (⟨l.toArray⟩ : ByteArray) = s at *
  clear hs1 hu HB htl hbl hml t
  go_enter Tryz.func15, Tryz.ntmps15
  go_wp2_with fail
  refine hkc.mono ?_
  rintro e w2 ⟨v2, rfl, how, b2⟩
  have B2 := B0.trans (b2.mono B0.size)
  have hcs := CS.of_own how
  obtain ⟨A2, c2, rfl, hle, hcm⟩ := hcs.form
  obtain ⟨bk, oo, rfl, _, hbl, hcell⟩ := hcs.at_ (by simp)
  have hc0 : w2.cell? ⟨bk, oo, none⟩ = some (.string s1) := by rw [← HX.out]; exact hcell 0 (strV X) rfl
  have hle1 : 1 ≤ c2 := hle
  simp only [List.length_map, List.length_cons, List.length_nil]
  clear hkc how b2 hcs hcell B0 HX hle
  go_wp2_with fail
  go_ret
  exact ⟨rfl, B2⟩
theorem ptext_any (S : Nat → Prop) : ∀ f : Nat, PTextIh S f
  | 0 => fun t => nomatch t
  | f + 1 => fun (t : Ns (Sc f)) v d w hok hn hp hv => by
    have ih := ptext_any S f
    have hr : 1 ≤ t.op ∧ t.op ≤ 8 := ((fits_iff t).1 (wok_fits hok).2.1).1
    by_cases h1 : t.op = 1
    · exact ptext_1 S f ih t v d w hok hn h1 hp hv
    by_cases h2 : t.op = 2
    · exact ptext_2 S f ih t v d w hok hn h2 hp hv
    by_cases h3 : t.op = 3
    · exact ptext_3 S f ih t v d w hok hn h3 hp hv
    by_cases h4 : t.op = 4
    · exact ptext_4 S f ih t v d w hok hn h4 hp hv
    by_cases h5 : t.op = 5
    · exact ptext_5 S f ih t v d w hok hn h5 hp hv
    by_cases h6 : t.op = 6
    · exact ptext_6 S f ih t v d w hok hn h6 hp hv
    by_cases h7 : t.op = 7
    · exact ptext_7 S f ih t v d w hok hn h7 hp hv
    · exact ptext_8 S f ih t v d w hok hn (by omega) hp hv
set_option maxHeartbeats 4000000 in
theorem pText_any (S : Nat → Prop) (f : Nat) (t : Sc f) (v : Value) (w : World) (hS : ∀ b, S b → b < w.heap.size) (hp : Pow w) (hv : ZV w S f v t) :
    Calls Tryz.prog 7 #[v] w fun e w' => e = .returned (.tuple #[strV (textSc f t).1, .int .i64 (textSc f t).2]) ∧ Below w.heap.size w w' := by
  obtain ⟨i0, l1, i2, i3, X4, n4, z4, rfl⟩ := hv.form
  have hv2 := hv.alloc (.cells #[.int .i64 i0, strV l1, .int .i64 i2, .int .i64 i3, .slice X4 n4 z4] 24)
  have K := KB.new w 24 #[.int .i64 i0, strV l1, .int .i64 i2, .int .i64 i3, .slice X4 n4 z4]
  have B := (Below.refl w.heap.size w).alloc (Nat.le_refl _) (.cells #[.int .i64 i0, strV l1, .int .i64 i2, .int .i64 i3, .slice X4 n4 z4] 24)
  have hm := zpcheck_any S f t _ _ (fun b hb => by have := hS b hb; simp; omega) hv2
  have htx : mayS f t = true → ∀ W, Below w.heap.size w W → ZV W S f (.agg #[.int .i64 i0, strV l1, .int .i64 i2, .int .i64 i3, .slice X4 n4 z4]) t → Calls Tryz.prog 15 #[.agg #[.int .i64 i0, strV l1, .int .i64 i2, .int .i64 i3, .slice X4 n4 z4]] W fun e w' => e = .returned (strV (joinW (toksW f t))) ∧ Below W.heap.size W w' := fun hm W hb hv => by
    unfold mayS at hm
    rw [Bool.and_eq_true, decide_eq_true_eq] at hm
    rw [textB_is f t 8 hm.1]
    exact ptext_any S f t _ 8 W hm.1 hm.2 (hp.below hb) hv
  replace htx := Lib.hid htx
  unfold textSc
  cases hb : mayS f t with
  | false =>
    rw [hb] at hm
    rw [if_neg (by simp)] at hm ⊢
    clear htx hv hv2 hp
    unfold strV at *
    have c0 : (w.alloc (.cells #[.int .i64 i0, .string ⟨l1.toArray⟩, .int .i64 i2, .int .i64 i3, .slice X4 n4 z4] 24)).cell? ⟨w.heap.size, 0, none⟩ = some (.int .i64 i0) := K.cell 0
    go_enter Tryz.func7, Tryz.ntmps7
    go_wp2_with fail
    refine hm.mono ?_
    rintro e w1 ⟨rfl, b1⟩
    have B1 := B.trans (b1.mono B.size)
    clear hm K B
    go_wp2_with fail
    go_ret2
    exact ⟨rfl, B1⟩
  | true =>
    rw [hb] at hm
    rw [if_pos rfl] at hm ⊢
    have ht := fun W h h2 => htx.out hb W h h2
    replace ht := Lib.hid ht
    clear htx hv hp
    unfold strV at *
    generalize hj : (⟨(joinW (toksW f t)).toArray⟩ : ByteArray) = J at *
    go_enter Tryz.func7, Tryz.ntmps7
    go_wp2_with fail
    refine hm.mono ?_
    rintro e w1 ⟨rfl, b1⟩
    have B1 := B.trans (b1.mono B.size)
    have K1 := K.below b1 K.lt
    have hv1 := hv2.below' b1
    have hc := ht.out w1 B1 hv1
    have c0 : w1.cell? ⟨w.heap.size, 0, none⟩ = some (.int .i64 i0) := K1.cell 0
    have c1 : w1.cell? ⟨w.heap.size, 1, none⟩ = some (.string ⟨l1.toArray⟩) := K1.cell 1
    have c2 : w1.cell? ⟨w.heap.size, 2, none⟩ = some (.int .i64 i2) := K1.cell 2
    have c3 : w1.cell? ⟨w.heap.size, 3, none⟩ = some (.int .i64 i3) := K1.cell 3
    have c4 : w1.cell? ⟨w.heap.size, 4, none⟩ = some (.slice X4 n4 z4) := K1.cell 4
    clear hm K B b1 hv1 hv2 ht hb
    go_wp2_with fail
    refine hc.mono ?_
    rintro e w2 ⟨rfl, b2⟩
    have B2 := B1.trans (b2.mono B1.size)
    clear hc b2 B1
    go_wp2_with fail
    go_ret2
    exact ⟨rfl, B2⟩
end
end Go.Proofs.YtjecjlhofnnnpaaGreatDoor
