/-
  The law MarkTells over the loaded program: two texts of one length that are not the same at one or two places have unlike marks. No condition.
-/
import Derived.Test.YtcjegcmijdkekaaMarkL
import Derived.Test.YtcjegcmijdkekaaArgs
namespace Go.Proofs.Ytcjegcmijdkekaa
open Go.RowKit Gau Go.ChangeShapes Go.WideShapes Go.Joins
set_option linter.unusedVariables false

theorem t_cells : Try.prog.cellsOf 41 = 2 := by kernel_rfl

/-- A place and what is turned of it, that came in. -/
theorem open_t {H : Type} {enc : TypeId × Value → H} {W : World} {base : Nat} {v : Value} {d : DataW H} {p : List MemPlace}
    (ok : Value.okWide Try.prog W .any base 41 v) (h : DataW.Trod enc Try.prog W 0 (fun _ => true) true 41 v d p) :
    ∃ (x : Int) (b : UInt8), v = .agg #[.int .i64 x, bv b] := by
  obtain ⟨c0, c1, y0, y1, m, rfl, rfl, rfl, k0, k1⟩ := open_agg2 Try.underlying41 (by kernel_rfl) t_cells ok h
  obtain ⟨n, e0, _, wn⟩ := DataW.trod_int Try.underlying3 k0
  obtain ⟨i, e1, _, wi⟩ := DataW.trod_int Try.underlying5 k1
  simp at e0 e1
  subst e0 e1
  exact ⟨n, byteOf i, by unfold bv; rw [byteOf_nat wi]⟩

/-- A row of the call's own, of which a cell is written over. -/
def Own (w : World) (g : Nat) (l : List UInt8) (cap : Nat) : Prop := ∃ cur : List Value, KB w g 5 cur.toArray ∧ cur.take l.length = l.map bv ∧ l.length ≤ cap ∧ cap ≤ maxLen

theorem Own.of {w : World} {B : Nat} {v : Value} {l : List UInt8} (h : w.ownsRow B 5 1 v l.length (l.map bv)) (hl : 0 < l.length) :
    ∃ g cap, v = .slice (some ⟨g, 0, none⟩) l.length cap ∧ B ≤ g ∧ Own w g l cap := by
  obtain ⟨_, h2⟩ := h
  rcases h2 with ⟨rfl, h0⟩ | ⟨g, cap, cur, rfl, hb, hg, hnc, hcm, hcs, htk⟩
  · omega
  · exact ⟨g, cap, rfl, hb, cur.toList, hg, by simpa using htk, hnc, hcm⟩

theorem Own.BS {w : World} {g : Nat} {l : List UInt8} {cap : Nat} (h : Own w g l cap) : BS w (fun b => b = g) (.slice (some ⟨g, 0, none⟩) l.length cap) l := by
  obtain ⟨cur, hk, ht, hc, hm⟩ := h
  refine ⟨_, cap, rfl, hc, hm, (fun h => by cases h), fun h0 => ⟨g, 0, rfl, rfl, hk.lt, fun j u hu => ?_⟩⟩
  rw [Nat.zero_add, hk.cell]
  have hj := (List.getElem?_eq_some_iff.1 hu).1
  have : (cur.take l.length)[j]? = some (bv u) := by rw [ht, List.getElem?_map, hu]; rfl
  rw [List.getElem?_take, if_pos hj] at this
  simpa using this

theorem Own.set {w : World} {g : Nat} {l : List UInt8} {cap : Nat} (h : Own w g l cap) (i : Nat) (u : UInt8) : Own (w.setCell ⟨g, i, none⟩ (bv u)) g (l.set i u) cap := by
  obtain ⟨cur, hk, ht, hc, hm⟩ := h
  refine ⟨cur.set i (bv u), ?_, ?_, by simpa using hc, hm⟩
  · have := hk.put i (bv u)
    simpa using this
  · rw [List.length_set, List.take_set, ht, List.map_set]

theorem Own.below {w w' : World} {g : Nat} {l : List UInt8} {cap : Nat} (h : Own w g l cap) (hb : Below w.heap.size w w') : Own w' g l cap := by
  obtain ⟨cur, hk, r⟩ := h
  exact ⟨cur, hk.below hb hk.lt, r⟩

theorem Own.free {w : World} {g : Nat} {l : List UInt8} {cap : Nat} (h : Own w g l cap) (i : Nat) : w.frozen? ⟨g, i, none⟩ = false := by
  obtain ⟨cur, hk, r⟩ := h
  exact hk.free i

/-- What '^' makes of two bytes. -/
theorem xor_byte (a b : UInt8) : bits .xor .u8 (a.toNat : Int) (b.toNat : Int) = ((a ^^^ b).toNat : Int) := by
  have ha := a.toNat_lt
  have hb := b.toNat_lt
  have hx : a.toNat ^^^ b.toNat < 2 ^ 8 := Nat.xor_lt_two_pow (by omega) (by omega)
  have h1 : (BitVec.ofInt 8 (a.toNat : Int)).toNat = a.toNat := by
    rw [BitVec.ofInt_natCast, BitVec.toNat_ofNat]; exact Nat.mod_eq_of_lt (by omega)
  have h2 : (BitVec.ofInt 8 (b.toNat : Int)).toNat = b.toNat := by
    rw [BitVec.ofInt_natCast, BitVec.toNat_ofNat]; exact Nat.mod_eq_of_lt (by omega)
  have h3 : (a ^^^ b).toNat = a.toNat ^^^ b.toNat := UInt8.toNat_xor a b
  show IntKind.u8.wrap ((BitVec.ofInt 8 (a.toNat : Int) ^^^ BitVec.ofInt 8 (b.toNat : Int)).toNat : Int) = _
  rw [BitVec.toNat_xor, h1, h2, IntKind.wrap_u8, h3]
  omega

/-- Of two texts that are not the same at one or two places: whether they are the same, whether their marks are. -/
theorem tells_two (l l2 : List UInt8) (hl : l.length ≤ 4000) (i j : Nat) (b c p q : UInt8) (hi : l[i]? = some p) (hj : (l.set i (p ^^^ b))[j]? = some q) (e : l2 = (l.set i (p ^^^ b)).set j (q ^^^ c)) :
    decide (l = l2) = decide (mk l = mk l2) ∧ decide (mput (mk l) = mput (mk l2)) = decide (mk l = mk l2) := by
  constructor
  · apply decide_eq_decide.2
    constructor
    · intro h; rw [← h]
    · intro h
      subst e
      exact (tells l (by omega) i j p q _ _ hi hj h.symm).symm
  · apply decide_eq_decide.2
    exact ⟨mput_inj, fun h => by rw [h]⟩

set_option maxHeartbeats 1000000 in
theorem tells_main (S : Nat → Prop) (v : Value) (l : List UInt8) (hl : l.length ≤ 4000) (i j : Nat) (hi : i < l.length) (hj : j < l.length) (b c : UInt8) (w : World) (h : BS w S v l) :
    Calls Try.prog 5 #[v, .agg #[.int .i64 i, bv b], .agg #[.int .i64 j, bv c]] w fun e w' => e = .returned (.bool true) ∧ Below w.heap.size w w' := by
  replace h := h.lt.mono (S' := fun b => b < w.heap.size) fun _ h => h.2
  obtain ⟨A, cap, rfl, _⟩ := h.form
  go_enter Try.func5, Try.ntmps5
  have kx := (KB.new w 41 #[.int .i64 i, bv b]).alloc (.cells #[.int .i64 j, bv c] 41)
  have ky := KB.new (w.alloc (.cells #[.int .i64 i, bv b] 41)) 41 #[.int .i64 j, bv c]
  rw [World.size_alloc] at ky
  have B := ((Below.refl w.heap.size w).alloc (Nat.le_refl _) (.cells #[.int .i64 i, bv b] 41)).alloc (by simp) (.cells #[.int .i64 j, bv c] 41)
  have hw := (h.alloc (.cells #[.int .i64 i, bv b] 41)).alloc (.cells #[.int .i64 j, bv c] 41)
  have hcp := copy_any _ _ l _ hw (by omega)
  go_wp2_with fail
  refine hcp.mono ?_
  rintro e w1 ⟨vc, rfl, how, b1⟩
  obtain ⟨g, cap1, rfl, hg, O⟩ := Own.of how (by omega)
  replace h := hw.below' b1
  replace kx := kx.below b1 kx.lt
  replace ky := ky.below b1 ky.lt
  replace B := B.trans (b1.mono B.size)
  have hgw : w.heap.size + 2 ≤ g := by simpa using hg
  clear hw hcp how b1 hg
  have x0 : w1.cell? ⟨w.heap.size, 0, none⟩ = some (.int .i64 i) := kx.cell 0
  have x1 : w1.cell? ⟨w.heap.size, 1, none⟩ = some (.int .u8 (b.toNat : Int)) := kx.cell 1
  obtain ⟨_, _, ea, _, _, hc⟩ := O.BS.at_ (by omega)
  injection ea with ea
  injection ea with ea eo
  subst ea eo
  have hp := List.getElem?_eq_getElem hi
  generalize l[i] = p at *
  have c0 := hc i p hp
  rw [Nat.zero_add] at c0
  have f0 := O.free i
  clear hc
  go_wp2
  go_region
  rw [xor_byte]
  have kx2 : KB (w1.setCell ⟨g, i, none⟩ (bv (p ^^^ b))).drew w.heap.size 41 #[.int .i64 i, bv b] := kx.other (by omega)
  have ky2 : KB (w1.setCell ⟨g, i, none⟩ (bv (p ^^^ b))).drew (w.heap.size + 1) 41 #[.int .i64 j, bv c] := ky.other (by omega)
  have O2 : Own (w1.setCell ⟨g, i, none⟩ (bv (p ^^^ b))).drew g (l.set i (p ^^^ b)) cap1 := O.set i _
  have h2 : BS (w1.setCell ⟨g, i, none⟩ (bv (p ^^^ b))).drew (fun b => b < w.heap.size) (.slice A l.length cap) l := h.setCell (by show ¬ g < w.heap.size; omega) _
  have B2 : Below w.heap.size w (w1.setCell ⟨g, i, none⟩ (bv (p ^^^ b))).drew := Below_drawn (B.trans (below_of_grown' (grown_set _ _ _ _) (by omega) B.size)) 1
  clear kx ky O h B x0 x1 c0 f0
  generalize (w1.setCell ⟨g, i, none⟩ (bv (p ^^^ b))).drew = w2 at *
  obtain ⟨l1, e1⟩ : ∃ l1, l1 = l.set i (p ^^^ b) := ⟨_, rfl⟩
  have hl1 : l1.length = l.length := by rw [e1, List.length_set]
  rw [← e1] at O2
  have hj1 : j < l1.length := by omega
  have hq := List.getElem?_eq_getElem hj1
  generalize l1[j] = q at *
  have y0 : w2.cell? ⟨w.heap.size + 1, 0, none⟩ = some (.int .i64 j) := ky2.cell 0
  have y1 : w2.cell? ⟨w.heap.size + 1, 1, none⟩ = some (.int .u8 (c.toNat : Int)) := ky2.cell 1
  obtain ⟨_, _, ea, _, _, hc⟩ := O2.BS.at_ (by omega)
  injection ea with ea
  injection ea with ea eo
  subst ea eo
  have c0 := hc j q hq
  rw [Nat.zero_add] at c0
  have f0 := O2.free j
  clear hc
  go_wp2
  go_region
  rw [xor_byte]
  have O3 : Own (w2.setCell ⟨g, j, none⟩ (bv (q ^^^ c))).drew g (l1.set j (q ^^^ c)) cap1 := O2.set j _
  have h3 : BS (w2.setCell ⟨g, j, none⟩ (bv (q ^^^ c))).drew (fun b => b < w.heap.size) (.slice A l.length cap) l := h2.setCell (by show ¬ g < w.heap.size; omega) _
  have B3 : Below w.heap.size w (w2.setCell ⟨g, j, none⟩ (bv (q ^^^ c))).drew := Below_drawn (B2.trans (below_of_grown' (grown_set _ _ _ _) (by omega) B2.size)) 1
  clear kx2 ky2 O2 h2 B2 y0 y1 c0 f0
  generalize (w2.setCell ⟨g, j, none⟩ (bv (q ^^^ c))).drew = w3 at *
  obtain ⟨l2, e2⟩ : ∃ l2, l2 = l1.set j (q ^^^ c) := ⟨_, rfl⟩
  have hl2 : l2.length = l.length := by rw [e2, List.length_set, hl1]
  rw [← e2] at O3
  subst e1
  obtain ⟨T1, T2⟩ := tells_two l l2 hl i j b c p q hp hq e2
  clear e2 hq hp hj1 hl1
  have g3 := O3.BS
  rw [hl2] at g3
  clear O3
  have hm1 := mark_one _ _ l w3 h3
  have h4 := h3.alloc (.cells #[.slice A l.length cap] 22)
  have g4 := g3.alloc (.cells #[.slice A l.length cap] 22)
  have B4 := B3.alloc B3.size (.cells #[.slice A l.length cap] 22)
  clear h3 g3 B3
  go_wp2_with fail
  refine hm1.mono ?_
  rintro e w' ⟨rfl, rfl⟩
  clear hm1
  generalize w3.alloc (.cells #[.slice A l.length cap] 22) = w4 at *
  go_wp2_with fail
  refine (parts_cz _ _).mono ?_
  rintro e w' ⟨rfl, rfl⟩
  have hm2 := mark_one _ _ l2 w4 g4
  have h5 := h4.alloc (.cells #[.slice (some ⟨g, 0, none⟩) l.length cap1] 22)
  have g5 := g4.alloc (.cells #[.slice (some ⟨g, 0, none⟩) l.length cap1] 22)
  have B5 := B4.alloc B4.size (.cells #[.slice (some ⟨g, 0, none⟩) l.length cap1] 22)
  clear h4 g4 B4
  go_wp2_with fail
  refine hm2.mono ?_
  rintro e w' ⟨rfl, rfl⟩
  clear hm2
  generalize w4.alloc (.cells #[.slice (some ⟨g, 0, none⟩) l.length cap1] 22) = w5 at *
  go_wp2_with fail
  refine (parts_cz _ _).mono ?_
  rintro e w' ⟨rfl, rfl⟩
  have hs := fun (w : World) (S S' : Nat → Prop) (x y : Value) (h : BS w S x l) (g : BS w S' y l2) => same_is S S' x y l l2 w h g
  have hp := fun (w : World) (S : Nat → Prop) (x : Value) (h : BS w S x l) => put_any S x l w h
  have hc := fun (w : World) (S S' : Nat → Prop) (x y : Value) (h : BS w S x l2) (g : BS w S' y (mput (mk l))) => check_any S S' x y l2 (mput (mk l)) w h g
  rw [T1] at hs
  rw [T2] at hc
  clear T1 T2
  generalize mput (mk l) = L at *
  generalize mk l = z1 at *
  generalize mk l2 = z2 at *
  clear hl2
  by_cases hz : z1 = z2
  · subst hz
    rw [decide_eq_true rfl] at hs hc
    generalize (z1.re.val : Int) = r1 at *
    generalize (z1.im.val : Int) = s1 at *
    go_wp2_with fail
    refine (hs _ _ _ _ _ h5 g5).mono ?_
    rintro e w6 ⟨rfl, b6⟩
    have h6 := h5.below' b6
    have g6 := g5.below' b6
    have B6 := B5.trans (b6.mono B5.size)
    clear h5 g5 B5 b6
    go_wp2_with fail
    refine (hp _ _ _ h6).mono ?_
    rintro e w7 ⟨v7, rfl, how, b7⟩
    have q7 := own_BS how
    obtain ⟨A7, c7, rfl, _⟩ := q7.form
    have h7 := h6.below' b7
    have g7 := g6.below' b7
    have B7 := B6.trans (b7.mono B6.size)
    clear h6 g6 B6 b7 how
    go_wp2_with fail
    refine (hc _ _ _ _ _ g7 q7).mono ?_
    rintro e w8 ⟨rfl, b8⟩
    have h8 := h7.below' b8
    have g8 := g7.below' b8
    have B8 := B7.trans (b8.mono B7.size)
    clear h7 g7 B7 b8 q7
    go_wp2_with fail
    refine (hs _ _ _ _ _ h8 g8).mono ?_
    rintro e w9 ⟨rfl, b9⟩
    have B9 := B8.trans (b9.mono B8.size)
    clear h8 g8 B8 b9
    go_wp2_with fail
    refine (live_any _).mono ?_
    rintro e w10 ⟨rfl, b10⟩
    have B10 := B9.trans (b10.mono B9.size)
    go_wp2
    go_ret
    exact ⟨rfl, B10⟩
  · rw [decide_eq_false hz] at hs hc
    by_cases hr : (z1.re.val : Int) = (z2.re.val : Int)
    · have hi : ¬ (z1.im.val : Int) = (z2.im.val : Int) := fun hi => hz (by
        apply pair_inj
        exact Prod.ext (by show z1.re.val = z2.re.val; omega) (by show z1.im.val = z2.im.val; omega))
      have hi2 : ((z1.im.val : Int) != (z2.im.val : Int)) = true := bne_iff_ne.2 hi
      rw [hr]
      clear hz hr
      generalize (z2.re.val : Int) = r1 at *
      generalize (z1.im.val : Int) = s1 at *
      generalize (z2.im.val : Int) = s2 at *
      go_wp2_with fail
      refine (hs _ _ _ _ _ h5 g5).mono ?_
      rintro e w6 ⟨rfl, b6⟩
      have h6 := h5.below' b6
      have g6 := g5.below' b6
      have B6 := B5.trans (b6.mono B5.size)
      clear h5 g5 B5 b6
      go_wp2_with fail
      refine (hp _ _ _ h6).mono ?_
      rintro e w7 ⟨v7, rfl, how, b7⟩
      have q7 := own_BS how
      obtain ⟨A7, c7, rfl, _⟩ := q7.form
      have h7 := h6.below' b7
      have g7 := g6.below' b7
      have B7 := B6.trans (b7.mono B6.size)
      clear h6 g6 B6 b7 how
      go_wp2_with fail
      refine (hc _ _ _ _ _ g7 q7).mono ?_
      rintro e w8 ⟨rfl, b8⟩
      have h8 := h7.below' b8
      have g8 := g7.below' b8
      have B8 := B7.trans (b8.mono B7.size)
      clear h7 g7 B7 b8 q7
      go_wp2_with fail
      refine (hs _ _ _ _ _ h8 g8).mono ?_
      rintro e w9 ⟨rfl, b9⟩
      have B9 := B8.trans (b9.mono B8.size)
      clear h8 g8 B8 b9
      go_wp2_with fail
      refine (live_any _).mono ?_
      rintro e w10 ⟨rfl, b10⟩
      have B10 := B9.trans (b10.mono B9.size)
      go_wp2
      go_ret
      exact ⟨rfl, B10⟩
    · have hr2 : ((z1.re.val : Int) != (z2.re.val : Int)) = true := bne_iff_ne.2 hr
      clear hz
      generalize (z1.re.val : Int) = r1 at *
      generalize (z2.re.val : Int) = r2 at *
      generalize (z1.im.val : Int) = s1 at *
      generalize (z2.im.val : Int) = s2 at *
      go_wp2_with fail
      refine (hs _ _ _ _ _ h5 g5).mono ?_
      rintro e w6 ⟨rfl, b6⟩
      have h6 := h5.below' b6
      have g6 := g5.below' b6
      have B6 := B5.trans (b6.mono B5.size)
      clear h5 g5 B5 b6
      go_wp2_with fail
      refine (hp _ _ _ h6).mono ?_
      rintro e w7 ⟨v7, rfl, how, b7⟩
      have q7 := own_BS how
      obtain ⟨A7, c7, rfl, _⟩ := q7.form
      have h7 := h6.below' b7
      have g7 := g6.below' b7
      have B7 := B6.trans (b7.mono B6.size)
      clear h6 g6 B6 b7 how
      go_wp2_with fail
      refine (hc _ _ _ _ _ g7 q7).mono ?_
      rintro e w8 ⟨rfl, b8⟩
      have h8 := h7.below' b8
      have g8 := g7.below' b8
      have B8 := B7.trans (b8.mono B7.size)
      clear h7 g7 B7 b8 q7
      go_wp2_with fail
      refine (hs _ _ _ _ _ h8 g8).mono ?_
      rintro e w9 ⟨rfl, b9⟩
      have B9 := B8.trans (b9.mono B8.size)
      clear h8 g8 B8 b9
      go_wp2_with fail
      refine (live_any _).mono ?_
      rintro e w10 ⟨rfl, b10⟩
      have B10 := B9.trans (b10.mono B9.size)
      go_wp2
      go_ret
      exact ⟨rfl, B10⟩

/-- The statement asks nothing of these: live alone. -/
theorem tells_out (S : Nat → Prop) (v : Value) (l : List UInt8) (i j : Int) (b c : UInt8) (w : World) (h : BS w S v l) (hx : 4000 < l.length ∨ i < 0 ∨ (l.length : Int) ≤ i ∨ j < 0 ∨ (l.length : Int) ≤ j) :
    Calls Try.prog 5 #[v, .agg #[.int .i64 i, bv b], .agg #[.int .i64 j, bv c]] w fun e w' => e = .returned (.bool true) ∧ Below w.heap.size w w' := by
  have hlen : l.length ≤ 9223372036854775807 := by have := h.len; unfold maxLen at this; omega
  obtain ⟨A, cap, rfl, _⟩ := h.form
  clear h
  have B := ((Below.refl w.heap.size w).alloc (Nat.le_refl _) (.cells #[.int .i64 i, bv b] 41)).alloc (by simp) (.cells #[.int .i64 j, bv c] 41)
  by_cases h1 : 4000 < l.length
  · clear hx
    go_enter Try.func5, Try.ntmps5
    go_wp2_with fail
    refine (live_any _).mono ?_
    rintro e w1 ⟨rfl, b1⟩
    go_wp2
    go_ret
    exact ⟨rfl, B.trans (b1.mono B.size)⟩
  · by_cases h2 : i < 0
    · clear hx
      go_enter Try.func5, Try.ntmps5
      go_wp2_with fail
      refine (live_any _).mono ?_
      rintro e w1 ⟨rfl, b1⟩
      go_wp2
      go_ret
      exact ⟨rfl, B.trans (b1.mono B.size)⟩
    · by_cases h3 : (l.length : Int) ≤ i
      · clear hx
        go_enter Try.func5, Try.ntmps5
        go_wp2_with fail
        refine (live_any _).mono ?_
        rintro e w1 ⟨rfl, b1⟩
        go_wp2
        go_ret
        exact ⟨rfl, B.trans (b1.mono B.size)⟩
      · by_cases h4 : j < 0
        · clear hx
          go_enter Try.func5, Try.ntmps5
          go_wp2_with fail
          refine (live_any _).mono ?_
          rintro e w1 ⟨rfl, b1⟩
          go_wp2
          go_ret
          exact ⟨rfl, B.trans (b1.mono B.size)⟩
        · have h5 : (l.length : Int) ≤ j := by omega
          clear hx
          go_enter Try.func5, Try.ntmps5
          go_wp2_with fail
          refine (live_any _).mono ?_
          rintro e w1 ⟨rfl, b1⟩
          go_wp2
          go_ret
          exact ⟨rfl, B.trans (b1.mono B.size)⟩

theorem markTells_law {H : Type} (enc : TypeId × Value → H) (W : World) (base : Nat) (v0 : Value) (d0 : DataW H) (p0 : List MemPlace) (v1 : Value) (d1 : DataW H) (p1 : List MemPlace) (v2 : Value) (d2 : DataW H) (p2 : List MemPlace)
    (ok0 : Value.okWide Try.prog W .any base 22 v0) (ok1 : Value.okWide Try.prog W .any base 41 v1) (ok2 : Value.okWide Try.prog W .any base 41 v2)
    (h0 : DataW.Trod enc Try.prog W 0 (fun _ => true) true 22 v0 d0 p0) (h1 : DataW.Trod enc Try.prog W 0 (fun _ => true) true 41 v1 d1 p1)
    (h2 : DataW.Trod enc Try.prog W 0 (fun _ => true) true 41 v2 d2 p2) :
    Calls Try.prog 5 #[v0, v1, v2] W fun e W' => e = .returned (.bool true) ∧ Below W.heap.size W W' := by
  obtain ⟨l, hb⟩ := BS_of_arg ok0 h0
  obtain ⟨i, b, rfl⟩ := open_t ok1 h1
  obtain ⟨j, c, rfl⟩ := open_t ok2 h2
  by_cases hx : 4000 < l.length ∨ i < 0 ∨ (l.length : Int) ≤ i ∨ j < 0 ∨ (l.length : Int) ≤ j
  · exact tells_out _ _ l i j b c W hb hx
  · have := tells_main _ _ l (by omega) i.toNat j.toNat (by omega) (by omega) b c W hb
    rwa [show (i.toNat : Int) = i by omega, show (j.toNat : Int) = j by omega] at this
end Go.Proofs.Ytcjegcmijdkekaa
