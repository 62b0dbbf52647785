/-
  The law SectTells over the loaded program: a sector of which just one byte is another one, or just two of the first 252 are, is not got. No condition.
-/
import Derived.Test.YtfhkkmhidccdmaaSeL
import Derived.Test.YtfhkkmhidccdmaaArgs
import Derived.Test.YtfhkkmhidccdmaaOwn
namespace Go.Proofs.Ytfhkkmhidccdmaa
open Go.RowKit Gau Go.ChangeShapes Go.WideShapes Go.Joins
set_option linter.unusedVariables false

theorem t9_cells : Try.prog.cellsOf 39 = 2 := by kernel_rfl

/-- A place and what is turned of it, that came in. -/
theorem open_t9 {H : Type} {enc : TypeId × Value → H} {W : World} {base : Nat} {v : Value} {d : DataW H} {p : List MemPlace}
    (ok : Value.okWide Try.prog W .any base 39 v) (h : DataW.Trod enc Try.prog W 0 (fun _ => true) true 39 v d p) :
    ∃ (x : Int) (b : UInt8), v = .agg #[.int .i64 x, bv b] := by
  obtain ⟨c0, c1, y0, y1, m, rfl, rfl, rfl, k0, k1⟩ := open_agg2 Try.underlying39 (by kernel_rfl) t9_cells ok h
  obtain ⟨n, e0, _, wn⟩ := DataW.trod_int Try.underlying3 k0
  obtain ⟨i, e1, _, wi⟩ := DataW.trod_int Try.underlying5 k1
  simp at e0 e1
  subst e0 e1
  exact ⟨n, byteOf i, by unfold bv; rw [byteOf_nat wi]⟩

theorem byte_nil {b : UInt8} (h : (b.toNat : Int) = 0) : b = 0 := UInt8.toNat_inj.1 (show b.toNat = 0 by omega)
theorem put7_len {l : List UInt8} (h : (putS 7 l).2 = 0) : (putS 7 l).1.length = 256 := by
  obtain ⟨h1, h2⟩ := putS_zero h
  rw [putS_ok h1 h2]
  exact fullS_len (by omega)

set_option maxRecDepth 100000 in
theorem tells_er (S : Nat → Prop) (v : Value) (l : List UInt8) (i j b c : Int) (he : ¬ (putS 7 l).2 = 0) (w : World) (h : BS w S v l) :
    Calls Try.prog 6 #[v, .agg #[.int .i64 i, .int .u8 b], .agg #[.int .i64 j, .int .u8 c]] w (Yes9 w) := by
  have h0 := h.lt.mono (S' := fun b => b < w.heap.size) fun _ h => h.2
  obtain ⟨A, cap, rfl, _⟩ := h.form
  clear h
  go_enter Try.func6, Try.ntmps6
  have kx := (KB.new w 39 #[.int .i64 i, .int .u8 b]).alloc (.cells #[.int .i64 j, .int .u8 c] 39)
  have ky := KB.new (w.alloc (.cells #[.int .i64 i, .int .u8 b] 39)) 39 #[.int .i64 j, .int .u8 c]
  rw [World.size_alloc] at ky
  have B := ((Below.refl w.heap.size w).alloc (Nat.le_refl _) (.cells #[.int .i64 i, .int .u8 b] 39)).alloc (by simp) (.cells #[.int .i64 j, .int .u8 c] 39)
  have hp := put_sect 7 _ _ l _ ((h0.alloc (.cells #[.int .i64 i, .int .u8 b] 39)).alloc (.cells #[.int .i64 j, .int .u8 c] 39))
  clear h0 kx ky
  generalize putS 7 l = r at *
  obtain ⟨p, e⟩ := r
  dsimp only at he
  have hne1 : decide (e = 0) = false := decide_eq_false he
  have hne2 : (e != 0) = true := bne_iff_ne.2 he
  go_wp2_with fail
  refine hp.mono ?_
  rintro _ w1 ⟨v1, rfl, how1, b1⟩
  replace B := B.trans (b1.mono B.size)
  clear hp how1 b1
  go_wp2_with (go_at_call 11; refine (num9_any _ _).mono ?_; rintro _ w' ⟨rfl, rfl⟩)
  refine (live_any _).mono ?_
  rintro _ w2 ⟨rfl, b2⟩
  go_wp2
  go_ret
  exact ⟨rfl, B.trans (b2.mono B.size)⟩

set_option maxRecDepth 100000 in
theorem tells_lo (S : Nat → Prop) (v : Value) (l : List UInt8) (i j b c : Int) (he : (putS 7 l).2 = 0) (h1 : i < 0) (w : World) (h : BS w S v l) :
    Calls Try.prog 6 #[v, .agg #[.int .i64 i, .int .u8 b], .agg #[.int .i64 j, .int .u8 c]] w (Yes9 w) := by
  have hl := put7_len he
  have h0 := h.lt.mono (S' := fun b => b < w.heap.size) fun _ h => h.2
  obtain ⟨A, cap, rfl, _⟩ := h.form
  clear h
  go_enter Try.func6, Try.ntmps6
  have kx := (KB.new w 39 #[.int .i64 i, .int .u8 b]).alloc (.cells #[.int .i64 j, .int .u8 c] 39)
  have ky := KB.new (w.alloc (.cells #[.int .i64 i, .int .u8 b] 39)) 39 #[.int .i64 j, .int .u8 c]
  rw [World.size_alloc] at ky
  have B := ((Below.refl w.heap.size w).alloc (Nat.le_refl _) (.cells #[.int .i64 i, .int .u8 b] 39)).alloc (by simp) (.cells #[.int .i64 j, .int .u8 c] 39)
  have hp := put_sect 7 _ _ l _ ((h0.alloc (.cells #[.int .i64 i, .int .u8 b] 39)).alloc (.cells #[.int .i64 j, .int .u8 c] 39))
  clear h0
  generalize putS 7 l = r at *
  obtain ⟨p, e⟩ := r
  dsimp only at he hl
  subst he
  have HL := Lib.hid hl
  clear hl
  go_wp2_with fail
  refine hp.mono ?_
  rintro _ w1 ⟨v1, rfl, how1, b1⟩
  have q1 : BS w1 _ v1 p := own_BS how1
  replace kx := kx.below b1 kx.lt
  replace ky := ky.below b1 ky.lt
  replace B := B.trans (b1.mono B.size)
  have x0 : w1.cell? ⟨w.heap.size, 0, none⟩ = some (.int .i64 i) := kx.cell 0
  have x1 : w1.cell? ⟨w.heap.size, 1, none⟩ = some (.int .u8 b) := kx.cell 1
  have y0 : w1.cell? ⟨w.heap.size + 1, 0, none⟩ = some (.int .i64 j) := ky.cell 0
  have y1 : w1.cell? ⟨w.heap.size + 1, 1, none⟩ = some (.int .u8 c) := ky.cell 1
  obtain ⟨A1, c1, rfl, _⟩ := q1.form
  rw [HL.out] at q1 ⊢
  clear hp b1
  clear how1 q1 kx ky
  go_wp2_with (go_at_call 11; refine (num9_any _ _).mono ?_; rintro _ w' ⟨rfl, rfl⟩)
  refine (live_any _).mono ?_
  rintro _ w2 ⟨rfl, b2⟩
  go_wp2
  go_ret
  exact ⟨rfl, B.trans (b2.mono B.size)⟩

set_option maxRecDepth 100000 in
theorem tells_hi (S : Nat → Prop) (v : Value) (l : List UInt8) (i j b c : Int) (he : (putS 7 l).2 = 0) (h1 : ¬ i < 0) (h2 : 256 ≤ i) (w : World) (h : BS w S v l) :
    Calls Try.prog 6 #[v, .agg #[.int .i64 i, .int .u8 b], .agg #[.int .i64 j, .int .u8 c]] w (Yes9 w) := by
  have hl := put7_len he
  have h0 := h.lt.mono (S' := fun b => b < w.heap.size) fun _ h => h.2
  obtain ⟨A, cap, rfl, _⟩ := h.form
  clear h
  go_enter Try.func6, Try.ntmps6
  have kx := (KB.new w 39 #[.int .i64 i, .int .u8 b]).alloc (.cells #[.int .i64 j, .int .u8 c] 39)
  have ky := KB.new (w.alloc (.cells #[.int .i64 i, .int .u8 b] 39)) 39 #[.int .i64 j, .int .u8 c]
  rw [World.size_alloc] at ky
  have B := ((Below.refl w.heap.size w).alloc (Nat.le_refl _) (.cells #[.int .i64 i, .int .u8 b] 39)).alloc (by simp) (.cells #[.int .i64 j, .int .u8 c] 39)
  have hp := put_sect 7 _ _ l _ ((h0.alloc (.cells #[.int .i64 i, .int .u8 b] 39)).alloc (.cells #[.int .i64 j, .int .u8 c] 39))
  clear h0
  generalize putS 7 l = r at *
  obtain ⟨p, e⟩ := r
  dsimp only at he hl
  subst he
  have HL := Lib.hid hl
  clear hl
  go_wp2_with fail
  refine hp.mono ?_
  rintro _ w1 ⟨v1, rfl, how1, b1⟩
  have q1 : BS w1 _ v1 p := own_BS how1
  replace kx := kx.below b1 kx.lt
  replace ky := ky.below b1 ky.lt
  replace B := B.trans (b1.mono B.size)
  have x0 : w1.cell? ⟨w.heap.size, 0, none⟩ = some (.int .i64 i) := kx.cell 0
  have x1 : w1.cell? ⟨w.heap.size, 1, none⟩ = some (.int .u8 b) := kx.cell 1
  have y0 : w1.cell? ⟨w.heap.size + 1, 0, none⟩ = some (.int .i64 j) := ky.cell 0
  have y1 : w1.cell? ⟨w.heap.size + 1, 1, none⟩ = some (.int .u8 c) := ky.cell 1
  obtain ⟨A1, c1, rfl, _⟩ := q1.form
  rw [HL.out] at q1 ⊢
  clear hp b1
  clear how1 q1 kx ky
  go_wp2_with (go_at_call 11; refine (num9_any _ _).mono ?_; rintro _ w' ⟨rfl, rfl⟩)
  refine (live_any _).mono ?_
  rintro _ w2 ⟨rfl, b2⟩
  go_wp2
  go_ret
  exact ⟨rfl, B.trans (b2.mono B.size)⟩

set_option maxRecDepth 100000 in
theorem tells_lo2 (S : Nat → Prop) (v : Value) (l : List UInt8) (i j b c : Int) (he : (putS 7 l).2 = 0) (h1 : ¬ i < 0) (h2 : ¬ 256 ≤ i) (h3 : j < 0) (w : World) (h : BS w S v l) :
    Calls Try.prog 6 #[v, .agg #[.int .i64 i, .int .u8 b], .agg #[.int .i64 j, .int .u8 c]] w (Yes9 w) := by
  have hl := put7_len he
  have h0 := h.lt.mono (S' := fun b => b < w.heap.size) fun _ h => h.2
  obtain ⟨A, cap, rfl, _⟩ := h.form
  clear h
  go_enter Try.func6, Try.ntmps6
  have kx := (KB.new w 39 #[.int .i64 i, .int .u8 b]).alloc (.cells #[.int .i64 j, .int .u8 c] 39)
  have ky := KB.new (w.alloc (.cells #[.int .i64 i, .int .u8 b] 39)) 39 #[.int .i64 j, .int .u8 c]
  rw [World.size_alloc] at ky
  have B := ((Below.refl w.heap.size w).alloc (Nat.le_refl _) (.cells #[.int .i64 i, .int .u8 b] 39)).alloc (by simp) (.cells #[.int .i64 j, .int .u8 c] 39)
  have hp := put_sect 7 _ _ l _ ((h0.alloc (.cells #[.int .i64 i, .int .u8 b] 39)).alloc (.cells #[.int .i64 j, .int .u8 c] 39))
  clear h0
  generalize putS 7 l = r at *
  obtain ⟨p, e⟩ := r
  dsimp only at he hl
  subst he
  have HL := Lib.hid hl
  clear hl
  go_wp2_with fail
  refine hp.mono ?_
  rintro _ w1 ⟨v1, rfl, how1, b1⟩
  have q1 : BS w1 _ v1 p := own_BS how1
  replace kx := kx.below b1 kx.lt
  replace ky := ky.below b1 ky.lt
  replace B := B.trans (b1.mono B.size)
  have x0 : w1.cell? ⟨w.heap.size, 0, none⟩ = some (.int .i64 i) := kx.cell 0
  have x1 : w1.cell? ⟨w.heap.size, 1, none⟩ = some (.int .u8 b) := kx.cell 1
  have y0 : w1.cell? ⟨w.heap.size + 1, 0, none⟩ = some (.int .i64 j) := ky.cell 0
  have y1 : w1.cell? ⟨w.heap.size + 1, 1, none⟩ = some (.int .u8 c) := ky.cell 1
  obtain ⟨A1, c1, rfl, _⟩ := q1.form
  rw [HL.out] at q1 ⊢
  clear hp b1
  clear how1 q1 kx ky
  go_wp2_with (go_at_call 11; refine (num9_any _ _).mono ?_; rintro _ w' ⟨rfl, rfl⟩)
  refine (live_any _).mono ?_
  rintro _ w2 ⟨rfl, b2⟩
  go_wp2
  go_ret
  exact ⟨rfl, B.trans (b2.mono B.size)⟩

set_option maxRecDepth 100000 in
theorem tells_hi2 (S : Nat → Prop) (v : Value) (l : List UInt8) (i j b c : Int) (he : (putS 7 l).2 = 0) (h1 : ¬ i < 0) (h2 : ¬ 256 ≤ i) (h3 : ¬ j < 0) (h4 : 256 ≤ j) (w : World) (h : BS w S v l) :
    Calls Try.prog 6 #[v, .agg #[.int .i64 i, .int .u8 b], .agg #[.int .i64 j, .int .u8 c]] w (Yes9 w) := by
  have hl := put7_len he
  have h0 := h.lt.mono (S' := fun b => b < w.heap.size) fun _ h => h.2
  obtain ⟨A, cap, rfl, _⟩ := h.form
  clear h
  go_enter Try.func6, Try.ntmps6
  have kx := (KB.new w 39 #[.int .i64 i, .int .u8 b]).alloc (.cells #[.int .i64 j, .int .u8 c] 39)
  have ky := KB.new (w.alloc (.cells #[.int .i64 i, .int .u8 b] 39)) 39 #[.int .i64 j, .int .u8 c]
  rw [World.size_alloc] at ky
  have B := ((Below.refl w.heap.size w).alloc (Nat.le_refl _) (.cells #[.int .i64 i, .int .u8 b] 39)).alloc (by simp) (.cells #[.int .i64 j, .int .u8 c] 39)
  have hp := put_sect 7 _ _ l _ ((h0.alloc (.cells #[.int .i64 i, .int .u8 b] 39)).alloc (.cells #[.int .i64 j, .int .u8 c] 39))
  clear h0
  generalize putS 7 l = r at *
  obtain ⟨p, e⟩ := r
  dsimp only at he hl
  subst he
  have HL := Lib.hid hl
  clear hl
  go_wp2_with fail
  refine hp.mono ?_
  rintro _ w1 ⟨v1, rfl, how1, b1⟩
  have q1 : BS w1 _ v1 p := own_BS how1
  replace kx := kx.below b1 kx.lt
  replace ky := ky.below b1 ky.lt
  replace B := B.trans (b1.mono B.size)
  have x0 : w1.cell? ⟨w.heap.size, 0, none⟩ = some (.int .i64 i) := kx.cell 0
  have x1 : w1.cell? ⟨w.heap.size, 1, none⟩ = some (.int .u8 b) := kx.cell 1
  have y0 : w1.cell? ⟨w.heap.size + 1, 0, none⟩ = some (.int .i64 j) := ky.cell 0
  have y1 : w1.cell? ⟨w.heap.size + 1, 1, none⟩ = some (.int .u8 c) := ky.cell 1
  obtain ⟨A1, c1, rfl, _⟩ := q1.form
  rw [HL.out] at q1 ⊢
  clear hp b1
  clear how1 q1 kx ky
  go_wp2_with (go_at_call 11; refine (num9_any _ _).mono ?_; rintro _ w' ⟨rfl, rfl⟩)
  refine (live_any _).mono ?_
  rintro _ w2 ⟨rfl, b2⟩
  go_wp2
  go_ret
  exact ⟨rfl, B.trans (b2.mono B.size)⟩

set_option maxRecDepth 100000 in
theorem tells_far (S : Nat → Prop) (v : Value) (l : List UInt8) (i j b c : Int) (he : (putS 7 l).2 = 0) (h1 : ¬ i < 0) (h2 : ¬ 256 ≤ i) (h3 : ¬ j < 0) (h4 : ¬ 256 ≤ j) (h5 : ¬ b = 0) (h6 : ¬ c = 0) (h7 : ¬ i = j) (h8 : 251 < i) (w : World) (h : BS w S v l) :
    Calls Try.prog 6 #[v, .agg #[.int .i64 i, .int .u8 b], .agg #[.int .i64 j, .int .u8 c]] w (Yes9 w) := by
  have hl := put7_len he
  have nh5 : (b != 0) = true := bne_iff_ne.2 h5
  have nh6 : (c != 0) = true := bne_iff_ne.2 h6
  have nh7 : (i != j) = true := bne_iff_ne.2 h7
  have h0 := h.lt.mono (S' := fun b => b < w.heap.size) fun _ h => h.2
  obtain ⟨A, cap, rfl, _⟩ := h.form
  clear h
  go_enter Try.func6, Try.ntmps6
  have kx := (KB.new w 39 #[.int .i64 i, .int .u8 b]).alloc (.cells #[.int .i64 j, .int .u8 c] 39)
  have ky := KB.new (w.alloc (.cells #[.int .i64 i, .int .u8 b] 39)) 39 #[.int .i64 j, .int .u8 c]
  rw [World.size_alloc] at ky
  have B := ((Below.refl w.heap.size w).alloc (Nat.le_refl _) (.cells #[.int .i64 i, .int .u8 b] 39)).alloc (by simp) (.cells #[.int .i64 j, .int .u8 c] 39)
  have hp := put_sect 7 _ _ l _ ((h0.alloc (.cells #[.int .i64 i, .int .u8 b] 39)).alloc (.cells #[.int .i64 j, .int .u8 c] 39))
  clear h0
  generalize putS 7 l = r at *
  obtain ⟨p, e⟩ := r
  dsimp only at he hl
  subst he
  have HL := Lib.hid hl
  clear hl
  go_wp2_with fail
  refine hp.mono ?_
  rintro _ w1 ⟨v1, rfl, how1, b1⟩
  have q1 : BS w1 _ v1 p := own_BS how1
  replace kx := kx.below b1 kx.lt
  replace ky := ky.below b1 ky.lt
  replace B := B.trans (b1.mono B.size)
  have x0 : w1.cell? ⟨w.heap.size, 0, none⟩ = some (.int .i64 i) := kx.cell 0
  have x1 : w1.cell? ⟨w.heap.size, 1, none⟩ = some (.int .u8 b) := kx.cell 1
  have y0 : w1.cell? ⟨w.heap.size + 1, 0, none⟩ = some (.int .i64 j) := ky.cell 0
  have y1 : w1.cell? ⟨w.heap.size + 1, 1, none⟩ = some (.int .u8 c) := ky.cell 1
  obtain ⟨A1, c1, rfl, _⟩ := q1.form
  rw [HL.out] at q1 ⊢
  clear hp b1
  clear how1 q1 kx ky
  go_wp2_with (go_at_call 11; refine (num9_any _ _).mono ?_; rintro _ w' ⟨rfl, rfl⟩)
  refine (live_any _).mono ?_
  rintro _ w2 ⟨rfl, b2⟩
  go_wp2
  go_ret
  exact ⟨rfl, B.trans (b2.mono B.size)⟩

set_option maxRecDepth 100000 in
theorem tells_far2 (S : Nat → Prop) (v : Value) (l : List UInt8) (i j b c : Int) (he : (putS 7 l).2 = 0) (h1 : ¬ i < 0) (h2 : ¬ 256 ≤ i) (h3 : ¬ j < 0) (h4 : ¬ 256 ≤ j) (h5 : ¬ b = 0) (h6 : ¬ c = 0) (h7 : ¬ i = j) (h8 : ¬ 251 < i) (h9 : 251 < j) (w : World) (h : BS w S v l) :
    Calls Try.prog 6 #[v, .agg #[.int .i64 i, .int .u8 b], .agg #[.int .i64 j, .int .u8 c]] w (Yes9 w) := by
  have hl := put7_len he
  have nh5 : (b != 0) = true := bne_iff_ne.2 h5
  have nh6 : (c != 0) = true := bne_iff_ne.2 h6
  have nh7 : (i != j) = true := bne_iff_ne.2 h7
  have h0 := h.lt.mono (S' := fun b => b < w.heap.size) fun _ h => h.2
  obtain ⟨A, cap, rfl, _⟩ := h.form
  clear h
  go_enter Try.func6, Try.ntmps6
  have kx := (KB.new w 39 #[.int .i64 i, .int .u8 b]).alloc (.cells #[.int .i64 j, .int .u8 c] 39)
  have ky := KB.new (w.alloc (.cells #[.int .i64 i, .int .u8 b] 39)) 39 #[.int .i64 j, .int .u8 c]
  rw [World.size_alloc] at ky
  have B := ((Below.refl w.heap.size w).alloc (Nat.le_refl _) (.cells #[.int .i64 i, .int .u8 b] 39)).alloc (by simp) (.cells #[.int .i64 j, .int .u8 c] 39)
  have hp := put_sect 7 _ _ l _ ((h0.alloc (.cells #[.int .i64 i, .int .u8 b] 39)).alloc (.cells #[.int .i64 j, .int .u8 c] 39))
  clear h0
  generalize putS 7 l = r at *
  obtain ⟨p, e⟩ := r
  dsimp only at he hl
  subst he
  have HL := Lib.hid hl
  clear hl
  go_wp2_with fail
  refine hp.mono ?_
  rintro _ w1 ⟨v1, rfl, how1, b1⟩
  have q1 : BS w1 _ v1 p := own_BS how1
  replace kx := kx.below b1 kx.lt
  replace ky := ky.below b1 ky.lt
  replace B := B.trans (b1.mono B.size)
  have x0 : w1.cell? ⟨w.heap.size, 0, none⟩ = some (.int .i64 i) := kx.cell 0
  have x1 : w1.cell? ⟨w.heap.size, 1, none⟩ = some (.int .u8 b) := kx.cell 1
  have y0 : w1.cell? ⟨w.heap.size + 1, 0, none⟩ = some (.int .i64 j) := ky.cell 0
  have y1 : w1.cell? ⟨w.heap.size + 1, 1, none⟩ = some (.int .u8 c) := ky.cell 1
  obtain ⟨A1, c1, rfl, _⟩ := q1.form
  rw [HL.out] at q1 ⊢
  clear hp b1
  clear how1 q1 kx ky
  go_wp2_with (go_at_call 11; refine (num9_any _ _).mono ?_; rintro _ w' ⟨rfl, rfl⟩)
  refine (live_any _).mono ?_
  rintro _ w2 ⟨rfl, b2⟩
  go_wp2
  go_ret
  exact ⟨rfl, B.trans (b2.mono B.size)⟩
end Go.Proofs.Ytfhkkmhidccdmaa
