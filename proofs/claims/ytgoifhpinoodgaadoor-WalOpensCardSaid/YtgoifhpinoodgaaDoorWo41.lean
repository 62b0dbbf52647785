/-
  ShaO: The document's own Of: its contract over the loaded program. No condition but the worlds' shapes that it names.
-/
import Derived.Test.YtgoifhpinoodgaaDoorWo39
import Derived.Test.YtgoifhpinoodgaaDoorWo40

section
namespace Go.Proofs.YtgoifhpinoodgaaDoor
open Go.RowKit
set_option maxRecDepth 100000
set_option linter.unusedVariables false

/-- Eight words written one by one over a block of eight. -/
theorem put8v {W : World} {g : Nat} {t : TypeId} {s : S8} (h : KB W g t s.vals.toArray) (R : S8) :
    KB ((((((((W.setCell ⟨g, 0, none⟩ (.int .u32 (R.a : Int))).setCell ⟨g, 1, none⟩ (.int .u32 (R.b : Int))).setCell ⟨g, 2, none⟩ (.int .u32 (R.c : Int))).setCell ⟨g, 3, none⟩ (.int .u32 (R.d : Int))).setCell ⟨g, 4, none⟩ (.int .u32 (R.e : Int))).setCell
      ⟨g, 5, none⟩ (.int .u32 (R.f : Int))).setCell ⟨g, 6, none⟩ (.int .u32 (R.g : Int))).setCell ⟨g, 7, none⟩ (.int .u32 (R.h : Int))) g t R.vals.toArray ∧
    W.grownBy ((((((((W.setCell ⟨g, 0, none⟩ (.int .u32 (R.a : Int))).setCell ⟨g, 1, none⟩ (.int .u32 (R.b : Int))).setCell ⟨g, 2, none⟩ (.int .u32 (R.c : Int))).setCell ⟨g, 3, none⟩ (.int .u32 (R.d : Int))).setCell ⟨g, 4, none⟩ (.int .u32 (R.e : Int))).setCell
      ⟨g, 5, none⟩ (.int .u32 (R.f : Int))).setCell ⟨g, 6, none⟩ (.int .u32 (R.g : Int))).setCell ⟨g, 7, none⟩ (.int .u32 (R.h : Int))) (some g) := by
  have h8 := KB.setCells R.vals 0 W _ h (by rw [vals_length, vals_length]; omega)
  rw [splice_all _ _ (by rw [vals_length, vals_length])] at h8
  exact ⟨h8, grown_cells W g R.vals 0 W⟩

/-- block, its words written out. -/
theorem block_lit (S : Nat → Prop) (v : Value) (l : List UInt8) (hl : 64 ≤ l.length) (s : S8) (hs : s.Ok) (R : S8) (hR : Hid (R = block8 s l)) (w : World) (h : BS w S v l) :
    Calls Tryd.prog 61 #[.agg #[.int .u32 (s.a : Int), .int .u32 (s.b : Int), .int .u32 (s.c : Int), .int .u32 (s.d : Int), .int .u32 (s.e : Int), .int .u32 (s.f : Int), .int .u32 (s.g : Int), .int .u32 (s.h : Int)], v] w fun e w' =>
      e = .returned (.agg #[.int .u32 (R.a : Int), .int .u32 (R.b : Int), .int .u32 (R.c : Int), .int .u32 (R.d : Int), .int .u32 (R.e : Int), .int .u32 (R.f : Int), .int .u32 (R.g : Int), .int .u32 (R.h : Int)]) ∧ Below w.heap.size w w' := by
  have := block_any S v l hl s hs w h
  rw [← hR.out] at this
  exact this

theorem bv56 (n : Nat) : Value.int .u8 ((n : Int) / 72057594037927936 % 256) = bv (byteAt n 56) := by simp [bv, byteAt_val]
theorem bv48 (n : Nat) : Value.int .u8 ((n : Int) / 281474976710656 % 256) = bv (byteAt n 48) := by simp [bv, byteAt_val]
theorem bv40 (n : Nat) : Value.int .u8 ((n : Int) / 1099511627776 % 256) = bv (byteAt n 40) := by simp [bv, byteAt_val]
theorem bv32 (n : Nat) : Value.int .u8 ((n : Int) / 4294967296 % 256) = bv (byteAt n 32) := by simp [bv, byteAt_val]

set_option maxRecDepth 100000 in
set_option maxHeartbeats 1000000 in
theorem rof_any (S : Nat → Prop) (v : Value) (T : List UInt8) (w : World) (h : BS w S v T) (hlen : T.length < 1000000000000) :
    Calls Tryd.prog 29 #[v] w fun e w' => e = .returned (.agg ((sumB T).map bv).toArray) ∧ Below w.heap.size w w' := by
  obtain ⟨i0, hi, hz0, hz1, hz2⟩ := info_parts info_byte
  obtain ⟨A, c, rfl, hc, hm, _⟩ := h.form
  have k0 : KB (w.alloc (.cells (z32.map bv).toArray 71)) w.heap.size 71 (z32.map bv).toArray := KB.new _ _ _
  have B0 : Below w.heap.size w (w.alloc (.cells (z32.map bv).toArray 71)) := (Below.refl _ _).alloc (Nat.le_refl _) _
  have h0 := h.lt.below' B0
  have own0 : ((w.alloc (.cells (z32.map bv).toArray 71)).alloc (.cells #[] 5)).ownsRow (w.heap.size + 1) 5 1 (.slice (some ⟨w.heap.size + 1, 0, none⟩) 0 0) ([] : List UInt8).length (([] : List UInt8).map bv) := by
    have := World.ownsRow_lit (base := w.heap.size + 1) (e := 5) (w.alloc (.cells (z32.map bv).toArray 71)) #[] 0 (by simp) (by simp [maxLen]) (size := 1) rfl
    simpa using this
  rw [← row32] at k0 B0 h0 own0
  go_enter Tryd.func29, Tryd.ntmps29
  go_wp2_with (first
    | (at_builtin
       refine wpList_grow _ rfl (.tmp 10) (.tmp 11) _ rfl (w.heap.size + 1) 5 i0 Tryd.underlying34 hi hz0 hz1 hz2 (.slice (some ⟨w.heap.size + 1, 0, none⟩) 0 0) [] rfl own0 _ _ T rfl (h0.alloc _) (by simp; omega) (by simp) ?_
       intro v1 w1 own1 g1 at1
       have k1 := (k0.alloc (.cells #[] 5)).grown g1 (by simp [Value.ownBlock])
       have B1 : Below w.heap.size w w1 := (B0.alloc B0.size _).grown g1 (by simp; omega) (by simp [Value.ownBlock])
       clear k0 B0 h0 g1 own0)
    | (at_builtin
       refine wpList_grow _ rfl (.tmp 13) (.tmp 14) _ rfl (w.heap.size + 1) 5 i0 Tryd.underlying34 hi hz0 hz1 hz2 v1 T rfl (by simpa using own1.alloc _) _ _ [128] rfl (BS.lit w1 5 [128] (by simp [maxLen])) (by simp; omega) (by have := k1.lt; simp; omega) ?_
       intro v2 w2 own2 g2 at2
       have k2 := (k1.alloc (.cells #[.int .u8 128] 5)).grown g2 (by intro e; have := (own1.lt _ e).1; omega)
       have B2 : Below w.heap.size w w2 := (B1.alloc B1.size _).grown g2 (by have := k1.lt; simp; omega) (by intro j hj; have := (own1.lt _ hj).1; omega)
       clear k1 B1 own1 g2))
  rw [row32] at k2
  clear at1 at2 h
  have hzl := zerosN_lt T.length
  go_loopw [3] (fun v wr => ∃ (j : Nat) (L : List UInt8), j ≤ zerosN T.length ∧ Hid (L = (T ++ [128]) ++ List.replicate j 0) ∧ wr.ownsRow (w.heap.size + 1) 5 1 v L.length (L.map bv) ∧ KB wr w.heap.size 71 (z32.map bv).toArray ∧ Below w.heap.size w wr)
    (fun v _ => T.length + 100 - lenV v)
  case atStart => exact ⟨0, _, by omega, by show _ = _; simp, own2, k2, B2⟩
  case round =>
    obtain ⟨j, L, hj, HL, how, kr, Br⟩ := hrel
    have hbs := own_BS how
    obtain ⟨A1, c1, rfl, _⟩ := hbs.form
    have HLl : Hid (L.length = T.length + 1 + j) := by show _ = _; rw [HL.out]; simp; omega
    have hll : L.length ≤ T.length + 65 := by rw [HLl.out]; omega
    clear k2 B2 own2
    by_cases hlt : j < zerosN T.length
    · have hne : ((L.length : Int) % 64 == 56) = false := by
        have := zeros_more T.length j hlt
        rw [← HLl.out] at this
        exact beq_eq_false_iff_ne.2 (by omega)
      have hne2 : ((L.length : Int) % 64 != 56) = true := by rw [bne, hne]; rfl
      have hne3 : ¬ (L.length : Int) % 64 = 56 := by simpa using hne
      go_wp2_with (at_builtin; refine wpList_grow _ rfl (.tmp 20) (.tmp 21) _ rfl (w.heap.size + 1) 5 i0 Tryd.underlying34 hi hz0 hz1 hz2 (.slice A1 L.length c1) L rfl (how.alloc _) _ _ [0] rfl (BS.lit wr 5 [0] (by simp [maxLen])) (by simp; omega) (by have := kr.lt; simp; omega) ?_; intro v3 w3 own3 g3 at3)
      go_roundw
      case rel =>
        refine ⟨j + 1, L ++ [0], by omega, ?_, own3, (kr.alloc _).grown g3 (by intro e; have := (how.lt _ e).1; omega), (Br.alloc Br.size _).grown g3 (by have := kr.lt; simp; omega) (by intro q hq; have := (how.lt _ hq).1; omega)⟩
        show _ = _
        rw [HL.out, List.append_assoc, List.replicate_succ']
      case measure =>
        obtain ⟨A3, c3, rfl, _⟩ := (own_BS own3).form
        simp [lenV]
        omega
    · obtain rfl : j = zerosN T.length := by omega
      have hne : ((L.length : Int) % 64 == 56) = true := by
        have := zeros_done T.length
        rw [← HLl.out] at this
        exact beq_iff_eq.2 (by omega)
      have hne2 : ((L.length : Int) % 64 != 56) = false := by rw [bne, hne]; rfl
      have hne3 : (L.length : Int) % 64 = 56 := by simpa using hne
      have n8' : (T.length : Int) * 8 < 18446744073709551616 := by omega
      go_wp2
      clear hne hne2 hne3
      obtain ⟨n8, hn8⟩ : ∃ n8, n8 = T.length * 8 := ⟨_, rfl⟩
      rw [show (T.length : Int) * 8 = (n8 : Int) from by omega]
      have Hn8 := Lib.hid hn8
      clear hn8 n8' hlt
      go_loopw [3, 5] (fun v i wr => ∃ (k : Nat) (M : List UInt8), k ≤ 8 ∧ i = .int .i64 k ∧ Hid (M = L ++ (be8 n8).take k) ∧ wr.ownsRow (w.heap.size + 1) 5 1 v M.length (M.map bv) ∧ KB wr w.heap.size 71 (z32.map bv).toArray ∧ Below w.heap.size w wr)
        (fun _ i _ => 8 - (intOf i).toNat)
      case atStart => exact ⟨0, L, by omega, rfl, by show _ = _; simp, how, kr, Br⟩
      case round =>
        clear how hbs kr Br
        obtain ⟨k, M, hk, rfl, HM, how, kr, Br⟩ := hrel
        have hbs := own_BS how
        obtain ⟨A2, c2, rfl, _⟩ := hbs.form
        have hml : M.length ≤ T.length + 100 := by rw [HM.out, List.length_append, List.length_take]; omega
        by_cases hlt : k < 8
        · have hcase : k = 0 ∨ k = 1 ∨ k = 2 ∨ k = 3 ∨ k = 4 ∨ k = 5 ∨ k = 6 ∨ k = 7 := by omega
          rcases hcase with rfl | rfl | rfl | rfl | rfl | rfl | rfl | rfl
          · go_wp2_with (at_builtin; rw [bv56]; refine wpList_grow _ rfl (.tmp 31) (.tmp 39) _ rfl (w.heap.size + 1) 5 i0 Tryd.underlying34 hi hz0 hz1 hz2 (.slice A2 M.length c2) M rfl (how.alloc _) _ _ [byteAt n8 56] rfl (BS.lit wr 5 [byteAt n8 56] (by simp [maxLen])) (by simp; omega) (by have := kr.lt; simp; omega) ?_; intro v3 w3 own3 g3 at3)
            go_roundw
            case rel =>
              refine ⟨1, M ++ [byteAt n8 56], by omega, by first | rfl | go_num, ?_, own3, (kr.alloc _).grown g3 (by intro e; have := (how.lt _ e).1; omega), (Br.alloc Br.size _).grown g3 (by have := kr.lt; simp; omega) (by intro q hq; have := (how.lt _ hq).1; omega)⟩
              show _ = _
              rw [HM.out, List.append_assoc]; rfl
            case measure => simp [intOf]
          · go_wp2_with (at_builtin; rw [bv48]; refine wpList_grow _ rfl (.tmp 31) (.tmp 39) _ rfl (w.heap.size + 1) 5 i0 Tryd.underlying34 hi hz0 hz1 hz2 (.slice A2 M.length c2) M rfl (how.alloc _) _ _ [byteAt n8 48] rfl (BS.lit wr 5 [byteAt n8 48] (by simp [maxLen])) (by simp; omega) (by have := kr.lt; simp; omega) ?_; intro v3 w3 own3 g3 at3)
            go_roundw
            case rel =>
              refine ⟨2, M ++ [byteAt n8 48], by omega, by first | rfl | go_num, ?_, own3, (kr.alloc _).grown g3 (by intro e; have := (how.lt _ e).1; omega), (Br.alloc Br.size _).grown g3 (by have := kr.lt; simp; omega) (by intro q hq; have := (how.lt _ hq).1; omega)⟩
              show _ = _
              rw [HM.out, List.append_assoc]; rfl
            case measure => simp [intOf]
          · go_wp2_with (at_builtin; rw [bv40]; refine wpList_grow _ rfl (.tmp 31) (.tmp 39) _ rfl (w.heap.size + 1) 5 i0 Tryd.underlying34 hi hz0 hz1 hz2 (.slice A2 M.length c2) M rfl (how.alloc _) _ _ [byteAt n8 40] rfl (BS.lit wr 5 [byteAt n8 40] (by simp [maxLen])) (by simp; omega) (by have := kr.lt; simp; omega) ?_; intro v3 w3 own3 g3 at3)
            go_roundw
            case rel =>
              refine ⟨3, M ++ [byteAt n8 40], by omega, by first | rfl | go_num, ?_, own3, (kr.alloc _).grown g3 (by intro e; have := (how.lt _ e).1; omega), (Br.alloc Br.size _).grown g3 (by have := kr.lt; simp; omega) (by intro q hq; have := (how.lt _ hq).1; omega)⟩
              show _ = _
              rw [HM.out, List.append_assoc]; rfl
            case measure => simp [intOf]
          · go_wp2_with (at_builtin; rw [bv32]; refine wpList_grow _ rfl (.tmp 31) (.tmp 39) _ rfl (w.heap.size + 1) 5 i0 Tryd.underlying34 hi hz0 hz1 hz2 (.slice A2 M.length c2) M rfl (how.alloc _) _ _ [byteAt n8 32] rfl (BS.lit wr 5 [byteAt n8 32] (by simp [maxLen])) (by simp; omega) (by have := kr.lt; simp; omega) ?_; intro v3 w3 own3 g3 at3)
            go_roundw
            case rel =>
              refine ⟨4, M ++ [byteAt n8 32], by omega, by first | rfl | go_num, ?_, own3, (kr.alloc _).grown g3 (by intro e; have := (how.lt _ e).1; omega), (Br.alloc Br.size _).grown g3 (by have := kr.lt; simp; omega) (by intro q hq; have := (how.lt _ hq).1; omega)⟩
              show _ = _
              rw [HM.out, List.append_assoc]; rfl
            case measure => simp [intOf]
          · go_wp2_with (at_builtin; rw [bv24]; refine wpList_grow _ rfl (.tmp 31) (.tmp 39) _ rfl (w.heap.size + 1) 5 i0 Tryd.underlying34 hi hz0 hz1 hz2 (.slice A2 M.length c2) M rfl (how.alloc _) _ _ [byteAt n8 24] rfl (BS.lit wr 5 [byteAt n8 24] (by simp [maxLen])) (by simp; omega) (by have := kr.lt; simp; omega) ?_; intro v3 w3 own3 g3 at3)
            go_roundw
            case rel =>
              refine ⟨5, M ++ [byteAt n8 24], by omega, by first | rfl | go_num, ?_, own3, (kr.alloc _).grown g3 (by intro e; have := (how.lt _ e).1; omega), (Br.alloc Br.size _).grown g3 (by have := kr.lt; simp; omega) (by intro q hq; have := (how.lt _ hq).1; omega)⟩
              show _ = _
              rw [HM.out, List.append_assoc]; rfl
            case measure => simp [intOf]
          · go_wp2_with (at_builtin; rw [bv16]; refine wpList_grow _ rfl (.tmp 31) (.tmp 39) _ rfl (w.heap.size + 1) 5 i0 Tryd.underlying34 hi hz0 hz1 hz2 (.slice A2 M.length c2) M rfl (how.alloc _) _ _ [byteAt n8 16] rfl (BS.lit wr 5 [byteAt n8 16] (by simp [maxLen])) (by simp; omega) (by have := kr.lt; simp; omega) ?_; intro v3 w3 own3 g3 at3)
            go_roundw
            case rel =>
              refine ⟨6, M ++ [byteAt n8 16], by omega, by first | rfl | go_num, ?_, own3, (kr.alloc _).grown g3 (by intro e; have := (how.lt _ e).1; omega), (Br.alloc Br.size _).grown g3 (by have := kr.lt; simp; omega) (by intro q hq; have := (how.lt _ hq).1; omega)⟩
              show _ = _
              rw [HM.out, List.append_assoc]; rfl
            case measure => simp [intOf]
          · go_wp2_with (at_builtin; rw [bv8]; refine wpList_grow _ rfl (.tmp 31) (.tmp 39) _ rfl (w.heap.size + 1) 5 i0 Tryd.underlying34 hi hz0 hz1 hz2 (.slice A2 M.length c2) M rfl (how.alloc _) _ _ [byteAt n8 8] rfl (BS.lit wr 5 [byteAt n8 8] (by simp [maxLen])) (by simp; omega) (by have := kr.lt; simp; omega) ?_; intro v3 w3 own3 g3 at3)
            go_roundw
            case rel =>
              refine ⟨7, M ++ [byteAt n8 8], by omega, by first | rfl | go_num, ?_, own3, (kr.alloc _).grown g3 (by intro e; have := (how.lt _ e).1; omega), (Br.alloc Br.size _).grown g3 (by have := kr.lt; simp; omega) (by intro q hq; have := (how.lt _ hq).1; omega)⟩
              show _ = _
              rw [HM.out, List.append_assoc]; rfl
            case measure => simp [intOf]
          · go_wp2_with (at_builtin; rw [bv0]; refine wpList_grow _ rfl (.tmp 31) (.tmp 39) _ rfl (w.heap.size + 1) 5 i0 Tryd.underlying34 hi hz0 hz1 hz2 (.slice A2 M.length c2) M rfl (how.alloc _) _ _ [byteAt n8 0] rfl (BS.lit wr 5 [byteAt n8 0] (by simp [maxLen])) (by simp; omega) (by have := kr.lt; simp; omega) ?_; intro v3 w3 own3 g3 at3)
            go_roundw
            case rel =>
              refine ⟨8, M ++ [byteAt n8 0], by omega, by first | rfl | go_num, ?_, own3, (kr.alloc _).grown g3 (by intro e; have := (how.lt _ e).1; omega), (Br.alloc Br.size _).grown g3 (by have := kr.lt; simp; omega) (by intro q hq; have := (how.lt _ hq).1; omega)⟩
              show _ = _
              rw [HM.out, List.append_assoc]; rfl
            case measure => simp [intOf]
        · obtain rfl : k = 8 := by omega
          have HP : Hid (M = padB T) := by
            show _ = _
            rw [HM.out, HL.out, padB_eq, Hn8.out]; rfl
          have HW : Hid (M.length % 64 = 0) := by show _ = _; rw [HP.out]; exact padB_whole T
          have hok1 := vals_one init8
          go_wp2_with (refine wpList_store_kb rfl 98 (.tmp 6) (.tmp 41) rfl wr.heap.size init8.vals rfl rfl 98 [wv 0, wv 0, wv 0, wv 0, wv 0, wv 0, wv 0, wv 0] (KB.new _ _ _) 8 (by kernel_rfl) rfl (vals_length init8) hok1 ?_; intro W5 k5 g5)
          have b5 : Below wr.heap.size wr W5 := ((Below.refl _ _).alloc (Nat.le_refl _) _).grown g5 (by simp) (by simp)
          have kr5 := kr.below b5 kr.lt
          have hb5 := hbs.below' b5
          have B5 := Br.trans (b5.mono Br.size)
          have hgs : ¬ (fun b => w.heap.size + 1 ≤ b ∧ b < wr.heap.size) wr.heap.size := by simp
          have hgw := kr.lt
          clear how kr Br g5 b5
          generalize (fun b => w.heap.size + 1 ≤ b ∧ b < wr.heap.size) = S2 at hb5 hgs hbs
          clear hbs
          generalize wr.heap.size = gs at *
          obtain ⟨Wb, hWb⟩ : ∃ Wb : World, Wb = W5 := ⟨_, rfl⟩
          subst hWb
          go_loopw [7] (fun i wr => ∃ (p m : Nat), Hid (m = 64 * p) ∧ m ≤ M.length ∧ i = .int .i64 m ∧ KB wr gs 98 (blocksN init8 M p).vals.toArray ∧ Wb.grownBy wr (some gs)) (fun i _ => M.length - (intOf i).toNat)
          case atStart => exact ⟨0, 0, rfl, by omega, rfl, k5, World.grownBy.refl _ _⟩
          case round =>
            obtain ⟨p, m, Hm, hmM, rfl, ks, gk⟩ := hrel
            have hbk := hb5.grown gk (by rintro q hq; injection hq with hq; rw [← hq]; exact hgs)
            by_cases hlt : m < M.length
            · have hm64 : m + 64 ≤ M.length := by have := HW.out; have := Hm.out; omega
              obtain ⟨ba, bo, rfl, _, _, _⟩ := hbk.at_ (by omega)
              have hcc : M.length ≤ c2 := by obtain ⟨_, _, e, hl, _⟩ := hbk.form; injection e with e1 e2 e3; omega
              have hc63 : c2 ≤ 9223372036854775807 := by obtain ⟨_, _, e, _, hl, _⟩ := hbk.form; injection e with e1 e2 e3; unfold maxLen at hl; omega
              have hd := (hbk.drop m (by omega))
              rw [if_neg (by omega)] at hd
              have ht := hd.take 64 (by rw [List.length_drop]; omega)
              have hok := blocksN_ok init8_ok M p
              have HR : Hid (blocksN init8 M (p + 1) = block8 (blocksN init8 M p) ((M.drop m).take 64)) := by
                show _ = _
                simp only [blocksN]
                rw [← Hm.out]
                apply block8_congr
                rw [List.take_take]; rfl
              have hl64 : 64 ≤ ((M.drop m).take 64).length := by rw [List.length_take, List.length_drop]; omega
              generalize hRR : blocksN init8 M (p + 1) = R at *
              have HRR := Lib.hid hRR
              clear hRR
              generalize blocksN init8 M p = s0 at *
              generalize (M.drop m).take 64 = y at *
              have c0 : wr.cell? ⟨gs, 0, none⟩ = some (.int .u32 (s0.a : Int)) := ks.cell 0
              have c1 : wr.cell? ⟨gs, 1, none⟩ = some (.int .u32 (s0.b : Int)) := ks.cell 1
              have c2' : wr.cell? ⟨gs, 2, none⟩ = some (.int .u32 (s0.c : Int)) := ks.cell 2
              have c3 : wr.cell? ⟨gs, 3, none⟩ = some (.int .u32 (s0.d : Int)) := ks.cell 3
              have c4 : wr.cell? ⟨gs, 4, none⟩ = some (.int .u32 (s0.e : Int)) := ks.cell 4
              have c5 : wr.cell? ⟨gs, 5, none⟩ = some (.int .u32 (s0.f : Int)) := ks.cell 5
              have c6 : wr.cell? ⟨gs, 6, none⟩ = some (.int .u32 (s0.g : Int)) := ks.cell 6
              have c7 : wr.cell? ⟨gs, 7, none⟩ = some (.int .u32 (s0.h : Int)) := ks.cell 7
              have q1 : (m : Int) + 64 ≤ (c2 : Int) := by omega
              have q2 : ¬ c2 = m := by omega
              have q3 : (m : Int) ≤ (m : Int) + 64 := by omega
              have q4 : ((m : Int) + 64).toNat = m + 64 := by omega
              have q5 : m + 64 - m = 64 := by omega
              have q6 : IntKind.i64.wrap ((m : Int) + 64) = (m : Int) + 64 := IntWalk.i64_in _ (by omega)
              have q7 : (m : Int) < (M.length : Int) := by omega
              clear hd hbk
              go_wp2
              go_region_with ((first | (
                go_at_call 61
                refine (block_lit _ _ y hl64 s0 hok R HR _ (by exact ht)).mono ?_
                rintro e W7 ⟨rfl, b7⟩
                have k7 := KB.below (w := wr.drew) ks b7 ks.lt
                have g7 : Wb.grownBy W7 (some gs) := grown_trans gk (grown_trans (⟨rfl, rfl, rfl, Nat.le_refl _, fun _ _ _ => rfl⟩ : wr.grownBy wr.drew (some gs)) (grown_of_below b7 _))
                have d0 : W7.cell? ⟨gs, 0, none⟩ = some (.int .u32 (s0.a : Int)) := k7.cell 0
                have d1 : W7.cell? ⟨gs, 1, none⟩ = some (.int .u32 (s0.b : Int)) := k7.cell 1
                have d2 : W7.cell? ⟨gs, 2, none⟩ = some (.int .u32 (s0.c : Int)) := k7.cell 2
                have d3 : W7.cell? ⟨gs, 3, none⟩ = some (.int .u32 (s0.d : Int)) := k7.cell 3
                have d4 : W7.cell? ⟨gs, 4, none⟩ = some (.int .u32 (s0.e : Int)) := k7.cell 4
                have d5 : W7.cell? ⟨gs, 5, none⟩ = some (.int .u32 (s0.f : Int)) := k7.cell 5
                have d6 : W7.cell? ⟨gs, 6, none⟩ = some (.int .u32 (s0.g : Int)) := k7.cell 6
                have d7 : W7.cell? ⟨gs, 7, none⟩ = some (.int .u32 (s0.h : Int)) := k7.cell 7
                have f0 := k7.free 0
                have f1 := k7.free 1
                have f2 := k7.free 2
                have f3 := k7.free 3
                have f4 := k7.free 4
                have f5 := k7.free 5
                have f6 := k7.free 6
                have f7 := k7.free 7)))
              obtain ⟨k8, g8⟩ := put8v k7 R
              go_wp2
              go_roundw
              case rel => exact ⟨p + 1, m + 64, (show _ = _ by have := Hm.out; omega), hm64, by go_num, by rw [HRR.out]; exact k8, grown_trans g7 g8⟩
              case measure => simp [intOf]; omega
            · obtain rfl : m = M.length := by omega
              have HD : Hid (digB (blocksN init8 M p) = sumB T) := by
                show _ = _
                unfold sumB
                rw [← HP.out, show M.length / 64 = p from by have := Hm.out; omega]
              have kr9 := kr5.grown gk (by simp; omega)
              have B9 := B5.trans (below_of_grown' gk (by omega) B5.size)
              have ok9 := blocksN_ok init8_ok M p
              have zr := ks.lt
              have mfin : ¬ (M.length : Int) < M.length := by omega
              clear hbk hb5 k5 kr5 B5 gk hgs
              generalize blocksN init8 M p = R at *
              have ka : KB (wr.alloc (.cells (z32.map bv).toArray 71)) wr.heap.size 71 ((outTo R 0).map bv).toArray := KB.new _ _ _
              have ksa := ks.alloc (.cells (z32.map bv).toArray 71)
              have kra := kr9.alloc (.cells (z32.map bv).toArray 71)
              have Ba := B9.alloc B9.size (.cells (z32.map bv).toArray 71)
              clear ks kr9 B9
              go_wp2
              rw [row32]
              generalize wr.alloc (.cells (z32.map bv).toArray 71) = Wc at *
              have hgo : gs < wr.heap.size := zr
              generalize wr.heap.size = go at *
              go_loopw [9] (fun i wr => ∃ k : Nat, k ≤ 32 ∧ i = .int .i64 k ∧ KB wr go 71 ((outTo R k).map bv).toArray ∧ Wc.grownBy wr (some go)) (fun i _ => 32 - (intOf i).toNat)
              case atStart => exact ⟨0, by omega, rfl, ka, World.grownBy.refl _ _⟩
              case round =>
                obtain ⟨k, hk32, rfl, ko, gq⟩ := hrel
                by_cases h32 : k < 32
                · have kq := ksa.grown gq (by simp; omega)
                  have cq : wr.cell? ⟨gs, k / 4, none⟩ = some (.int .u32 ((wordOf R (k / 4) : Nat) : Int)) := by
                    rw [kq.cell, List.getElem?_toArray, vals_get R (k / 4) (by omega)]
                  have HO := Lib.hid (outTo_set R k h32)
                  have hol := outTo_length R k hk32
                  have co := ko.byte (j := k) (by omega)
                  have fo := ko.free k
                  have hk9 : (k : Int) < 32 := by omega
                  obtain ⟨r, hr⟩ : ∃ r, r = 3 - k % 4 := ⟨_, rfl⟩
                  have hr3 : (3 : Int) - (k : Int) % 4 = (r : Int) := by omega
                  have hrr : r ≤ 3 := by omega
                  rw [← hr] at HO
                  generalize wordOf R (k / 4) = x at *
                  generalize (outTo R k)[k]'(by omega) = q0 at co
                  have HOL := Lib.hid hol
                  have HRR := Lib.hid hr
                  clear hol hr kq
                  go_wp2_with fail
                  go_roundw
                  case rel =>
                    refine ⟨k + 1, by omega, by go_num, ?_, grown_trans gq (grown_set _ _ _ _)⟩
                    have h9 : KB (wr.setCell ⟨go, k, none⟩ (bv (byteAt x (8 * r)))) go 71 (((outTo R k).set k (byteAt x (8 * r))).map bv).toArray := ko.set k (byteAt x (8 * r))
                    rw [HO.out] at h9
                    rw [show Value.int .u8 ((x : Int) / 2 ^ (8 * r) % 256) = bv (byteAt x (8 * r)) from by unfold bv; rw [byteAt_val]]
                    exact h9
                  case measure => simp [intOf]; omega
                · obtain rfl : k = 32 := by omega
                  rw [outTo_all, HD.out] at ko
                  have k9 := kra.grown gq (by simp; omega)
                  have B10 := Ba.trans (below_of_grown' gq (by omega) Ba.size)
                  have HU : Hid (((sumB T).map bv).length = 32) := by show _ = _; rw [List.length_map, sumB_length]
                  have hu1 := bytes_one' (sumB T)
                  generalize hss : (sumB T).map bv = ss at *
                  have HSS := Lib.hid hss
                  clear hss gq kra Ba
                  go_wp2_with (first
                    | (refine wpList_load_kb rfl 71 (.tmp 8) rfl go rfl _ ss ko _ Tryd.underlying71 rfl 32 (by kernel_rfl) HU.out ?_)
                    | (refine wpList_store_kb rfl 71 (.tmp 2) (.tmp 72) rfl w.heap.size ss rfl rfl _ (z32.map bv) k9 32 (by kernel_rfl) rfl HU.out hu1 ?_; intro Wz kz gz))
                  refine bodyPost_ret (results_cell_row (P := Tryd.prog) rfl _ Wz w.heap.size _ ss.toArray (0, 0) _ rfl kz Tryd.underlying71 rfl (by rw [show ss.toArray.size = 32 from by simpa using HU.out]; kernel_rfl)) rfl ⟨by rw [HSS.out], B10.trans (below_of_grown' gz (Nat.le_refl _) B10.size)⟩
end Go.Proofs.YtgoifhpinoodgaaDoor
end
