/-
  TpH: What the program makes terms with: each one's contract over the loaded program. No condition but that terms have not too many kids.
-/
import Derived.Test.YthgaljgelngmaaaDoorDv18
import Derived.Deep.RegionLaw

section
namespace Go.Proofs.YthgaljgelngmaaaDoor
open Go.RowKit
set_option linter.unusedVariables false

/-- What is told behind a call that makes a term: it lies in new memory. -/
def Made (w : World) (f : Nat) (t : Tm f) (e : Ending) (w' : World) : Prop := ∃ u, e = .returned u ∧ TV w' (fun b => w.heap.size ≤ b ∧ b < w'.heap.size) f u t ∧ Below w.heap.size w w'

theorem TM.plain {w : World} {S : Nat → Prop} {f : Nat} {k : Int} {n : Nat} (hk : I64 k) (hn : n < 18446744073709551616) : TM w S (f + 1) (⟨k, n, [], []⟩ : Nd (Tm f)) (.int .i64 k) (.int .u64 n) (.slice none 0 0) (.slice none 0 0) :=
  ⟨rfl, hk, rfl, hn, BS.nil _ _, ⟨none, 0, rfl, by simp, by simp [maxLen], fun _ => rfl, fun h => absurd h (by simp)⟩⟩

theorem key_any (f : Nat) (n : Nat) (w : World) (hn : n < 18446744073709551616) :
    Calls Tryd.prog 19 #[.int .u64 n] w (Made w (f + 1) (⟨2, n, [], []⟩ : Nd (Tm f))) := by
  go_enter Tryd.func19, Tryd.ntmps19
  go_wp2_with fail
  refine bodyPost_ret (results_cell_row (P := Tryd.prog) rfl _ _ w.heap.size _ _ (0, 0) _ rfl (KB.new w 35 #[.int .i64 2, .int .u64 n, .slice none 0 0, .slice none 0 0]) Tryd.underlying35 rfl (by kernel_rfl)) rfl
    ⟨_, rfl, ⟨_, _, _, _, rfl, TM.plain (by unfold I64; omega) hn⟩, (Below.refl _ _).alloc (Nat.le_refl _) _⟩

theorem data_any (f : Nat) (S : Nat → Prop) (v : Value) (d : List UInt8) (w : World) (h : BS w S v d) (hl : d.length ≤ 140737488355328) :
    Calls Tryd.prog 18 #[v] w (Made w (f + 1) (⟨3, 0, d, []⟩ : Nd (Tm f))) := by
  obtain ⟨A, c, rfl, _⟩ := h.form
  have hc := clone2_any S _ d _ (h.alloc (.cells #[.int .i64 0, .int .u64 0, .slice none 0 0, .slice none 0 0] 35)) hl
  have K0 := KB.new w 35 #[.int .i64 0, .int .u64 0, .slice none 0 0, .slice none 0 0]
  have B0 := (Below.refl w.heap.size w).alloc (Nat.le_refl _) (.cells #[.int .i64 0, .int .u64 0, .slice none 0 0, .slice none 0 0] 35)
  go_enter Tryd.func18, Tryd.ntmps18
  go_wp2_with fail
  refine hc.mono ?_
  rintro e w5 ⟨v5, rfl, how, b5⟩
  have B5 := B0.trans (b5.mono B0.size)
  have K5 := K0.below b5 K0.lt
  have hb := own_BS how
  obtain ⟨A5, c5, rfl⟩ := own_form how
  have q0 : w5.cell? ⟨w.heap.size, 0, none⟩ = some (.int .i64 0) := K5.cell 0
  have q1 : w5.cell? ⟨w.heap.size, 1, none⟩ = some (.int .u64 0) := K5.cell 1
  have q2 : w5.cell? ⟨w.heap.size, 2, none⟩ = some (.slice none 0 0) := K5.cell 2
  have q3 : w5.cell? ⟨w.heap.size, 3, none⟩ = some (.slice none 0 0) := K5.cell 3
  have f0 := K5.free 0
  have f1 := K5.free 1
  have f2 := K5.free 2
  have f3 := K5.free 3
  have KF := put_four (x := .int .i64 3) (y := .int .u64 0) (z := .slice A5 d.length c5) (u := .slice none 0 0) K5
  have s1 := sets_size w5 w.heap.size (.int .i64 3) (.int .u64 0) (.slice A5 d.length c5) (.slice none 0 0)
  have hb' := hb.keep (w' := (((w5.setCell ⟨w.heap.size, 0, none⟩ (.int .i64 3)).setCell ⟨w.heap.size, 1, none⟩ (.int .u64 0)).setCell ⟨w.heap.size, 2, none⟩ (.slice A5 d.length c5)).setCell ⟨w.heap.size, 3, none⟩ (.slice none 0 0)) (by omega) fun b hb _ => sets_block _ _ _ _ _ _ _ (by have := hb.1; simp at this; omega)
  have BF := B5.trans (below_of_grown' (grown_four w5 w.heap.size (.int .i64 3) (.int .u64 0) (.slice A5 d.length c5) (.slice none 0 0)) (Nat.le_refl _) B5.size)
  have tm : TM ((((w5.setCell ⟨w.heap.size, 0, none⟩ (.int .i64 3)).setCell ⟨w.heap.size, 1, none⟩ (.int .u64 0)).setCell ⟨w.heap.size, 2, none⟩ (.slice A5 d.length c5)).setCell ⟨w.heap.size, 3, none⟩ (.slice none 0 0)) (fun b => w.heap.size ≤ b ∧ b < ((((w5.setCell ⟨w.heap.size, 0, none⟩ (.int .i64 3)).setCell ⟨w.heap.size, 1, none⟩ (.int .u64 0)).setCell ⟨w.heap.size, 2, none⟩ (.slice A5 d.length c5)).setCell ⟨w.heap.size, 3, none⟩ (.slice none 0 0)).heap.size) (f + 1) (⟨3, 0, d, []⟩ : Nd (Tm f)) (.int .i64 3) (.int .u64 0) (.slice A5 d.length c5) (.slice none 0 0) :=
    ⟨rfl, by show I64 3; unfold I64; omega, rfl, by simp, hb'.mono fun b hb => ⟨by have := hb.1; simp at this; omega, by have := hb.2; omega⟩, ⟨none, 0, rfl, by simp, by simp [maxLen], fun _ => rfl, fun h => absurd h (by simp)⟩⟩
  clear hc how hb hb' s1
  go_wp2_with fail
  refine bodyPost_ret (results_cell_row (P := Tryd.prog) rfl _ _ w.heap.size _ _ (0, 0) _ rfl KF Tryd.underlying35 rfl (by kernel_rfl)) rfl ⟨_, rfl, ⟨_, _, _, _, rfl, tm⟩, BF⟩

/-- What own asks of a value. -/
def Ask (w : World) (f : Nat) (v : Value) (t : Tm f) : Prop := few f t ∧ ∃ S : Nat → Prop, (∀ b, S b → b < w.heap.size) ∧ TV w S f v t
theorem Ask.below {w w' : World} {f : Nat} {v : Value} {t : Tm f} (h : Ask w f v t) (hb : Below w.heap.size w w') : Ask w' f v t := by
  obtain ⟨h1, S, h2, h3⟩ := h
  exact ⟨h1, S, fun b hb' => Nat.lt_of_lt_of_le (h2 b hb') hb.size, h3.below' hb⟩
theorem own_ask {f : Nat} {t : Tm f} {v : Value} {w : World} (h : Ask w f v t) : Calls Tryd.prog 33 #[v] w (Made w f t) := by
  obtain ⟨h1, S, h2, h3⟩ := h
  exact own_any S f t v w h2 h1 h3

/-- A new row of two terms. -/
theorem own_two (w : World) (base : Nat) (hb : base ≤ w.heap.size) (p q : Quad) : (w.alloc (.cells #[p.1, p.2.1, p.2.2.1, p.2.2.2, q.1, q.2.1, q.2.2.1, q.2.2.2] 35)).ownsRow base 35 4 (.slice (some ⟨w.heap.size, 0, none⟩) 2 2) [p, q].length (flatQ [p, q]) :=
  ⟨rfl, .inr ⟨w.heap.size, 2, #[p.1, p.2.1, p.2.2.1, p.2.2.2, q.1, q.2.1, q.2.2.1, q.2.2.2], rfl, hb, heap_alloc_new w _, Nat.le_refl _, by simp [maxLen], rfl, rfl⟩⟩

/-- What stands behind two terms in a new row, and the store of what holds it. -/
theorem made_two {w w4 w5 W : World} {m g f : Nat} {a b : Tm f} {o0 o1 o2 o3 r0 r1 r2 r3 c0 c1 c2 c3 : Value} {k : Int} {n : Nat} (hk : I64 k) (hn : n < 18446744073709551616) (hg : w.heap.size ≤ g)
    (to : TM w4 (fun b => m ≤ b ∧ b < w4.heap.size) f a o0 o1 o2 o3) (hm : g < m) (b5 : Below w4.heap.size w4 w5) (tr : TM w5 (fun b => w4.heap.size ≤ b ∧ b < w5.heap.size) f b r0 r1 r2 r3) (h4 : g < w4.heap.size)
    (KR : KB w5 g 35 #[c0, c1, c2, c3]) (B0 : Below w.heap.size w w5)
    (hW : W = ((((w5.setCell ⟨g, 0, none⟩ (.int .i64 k)).setCell ⟨g, 1, none⟩ (.int .u64 n)).setCell ⟨g, 2, none⟩ (.slice none 0 0)).setCell ⟨g, 3, none⟩ (.slice (some ⟨w5.heap.size, 0, none⟩) 2 2)).alloc (.cells #[o0, o1, o2, o3, r0, r1, r2, r3] 35)) :
    KB W g 35 #[.int .i64 k, .int .u64 n, .slice none 0 0, .slice (some ⟨w5.heap.size, 0, none⟩) 2 2] ∧
    TM W (fun b => w.heap.size ≤ b ∧ b < W.heap.size) (f + 1) (⟨k, n, [], [a, b]⟩ : Nd (Tm f)) (.int .i64 k) (.int .u64 n) (.slice none 0 0) (.slice (some ⟨w5.heap.size, 0, none⟩) 2 2) ∧ Below w.heap.size w W := by
  have s1 := sets_size w5 g (.int .i64 k) (.int .u64 n) (.slice none 0 0) (.slice (some ⟨w5.heap.size, 0, none⟩) 2 2)
  have sb := fun (x : Nat) (hx : x ≠ g) => sets_block w5 g x (.int .i64 k) (.int .u64 n) (.slice none 0 0) (.slice (some ⟨w5.heap.size, 0, none⟩) 2 2) hx
  have gf := grown_four w5 g (.int .i64 k) (.int .u64 n) (.slice none 0 0) (.slice (some ⟨w5.heap.size, 0, none⟩) 2 2)
  have kf := put_four (x := .int .i64 k) (y := .int .u64 n) (z := .slice none 0 0) (u := .slice (some ⟨w5.heap.size, 0, none⟩) 2 2) KR
  generalize (((w5.setCell ⟨g, 0, none⟩ (.int .i64 k)).setCell ⟨g, 1, none⟩ (.int .u64 n)).setCell ⟨g, 2, none⟩ (.slice none 0 0)).setCell ⟨g, 3, none⟩ (.slice (some ⟨w5.heap.size, 0, none⟩) 2 2) = w6 at *
  subst hW
  have h5 := b5.size
  have hBs := B0.size
  have hal := Below.heap_alloc w6 (.cells #[o0, o1, o2, o3, r0, r1, r2, r3] 35)
  have hsz : (w6.alloc (.cells #[o0, o1, o2, o3, r0, r1, r2, r3] 35)).heap.size = w5.heap.size + 1 := by simp; omega
  have ta : TM (w6.alloc (.cells #[o0, o1, o2, o3, r0, r1, r2, r3] 35)) (fun b => w.heap.size ≤ b ∧ b < (w6.alloc (.cells #[o0, o1, o2, o3, r0, r1, r2, r3] 35)).heap.size) f a o0 o1 o2 o3 :=
    TM.keepS f a _ _ _ _ to (by omega) (fun b (hb : m ≤ b ∧ b < w4.heap.size) _ => by rw [hal b (by omega), sb b (by omega), b5.block b hb.2]) (fun b (hb : m ≤ b ∧ b < w4.heap.size) => ⟨by omega, by omega⟩)
  have tb : TM (w6.alloc (.cells #[o0, o1, o2, o3, r0, r1, r2, r3] 35)) (fun b => w.heap.size ≤ b ∧ b < (w6.alloc (.cells #[o0, o1, o2, o3, r0, r1, r2, r3] 35)).heap.size) f b r0 r1 r2 r3 :=
    TM.keepS f b _ _ _ _ tr (by omega) (fun b (hb : w4.heap.size ≤ b ∧ b < w5.heap.size) _ => by rw [hal b (by omega), sb b (by omega)]) (fun b (hb : w4.heap.size ≤ b ∧ b < w5.heap.size) => ⟨by omega, by omega⟩)
  have hown := own_two w6 w6.heap.size (Nat.le_refl _) (o0, o1, o2, o3) (r0, r1, r2, r3)
  have hks := KS_of_own (S := fun b => w.heap.size ≤ b ∧ b < (w6.alloc (.cells #[o0, o1, o2, o3, r0, r1, r2, r3] 35)).heap.size) hown ((QT.one ta).append (QT.one tb)) fun b h1 h2 => ⟨by omega, h2⟩
  rw [← s1] at hks
  exact ⟨kf.alloc _, ⟨rfl, hk, rfl, hn, BS.nil _ _, hks⟩, (B0.trans (below_of_grown' gf hg B0.size)).alloc (by omega) _⟩

set_option maxHeartbeats 2000000 in
theorem enc_any (f : Nat) (a b : Tm f) (x y : Value) (w : World) (n : Nat) (hn : n < 18446744073709551616) (ha : Ask w f x a) (hb : Ask w f y b) :
    Calls Tryd.prog 17 #[.int .u64 n, x, y] w (Made w (f + 1) (⟨5, n, [], [a, b]⟩ : Nd (Tm f))) := by
  obtain ⟨va, ta⟩ : ∃ S : Nat → Prop, TV w S f x a := ⟨_, ha.2.choose_spec.2⟩
  obtain ⟨vb, tb⟩ : ∃ S : Nat → Prop, TV w S f y b := ⟨_, hb.2.choose_spec.2⟩
  obtain ⟨_, _, _, _, rfl, tma⟩ := ta
  obtain ⟨a0, a1, A2, n2, c2, A3, n3, c3, rfl, rfl, rfl, rfl⟩ := tm_form tma
  obtain ⟨_, _, _, _, rfl, tmb⟩ := tb
  obtain ⟨b0, b1, B2, m2, d2, B3, m3, d3, rfl, rfl, rfl, rfl⟩ := tm_form tmb
  clear va vb tma tmb
  have B0 : Below w.heap.size w (((w.alloc (.cells #[.int .i64 a0, .int .u64 a1, .slice A2 n2 c2, .slice A3 n3 c3] 35)).alloc (.cells #[.int .i64 b0, .int .u64 b1, .slice B2 m2 d2, .slice B3 m3 d3] 35)).alloc (.cells #[.int .i64 0, .int .u64 0, .slice none 0 0, .slice none 0 0] 35)).drew := Below_drawn ((((Below.refl w.heap.size w).alloc (Nat.le_refl _) _).alloc (by simp) _).alloc (by simp; omega) _) 1
  have KA : KB (((w.alloc (.cells #[.int .i64 a0, .int .u64 a1, .slice A2 n2 c2, .slice A3 n3 c3] 35)).alloc (.cells #[.int .i64 b0, .int .u64 b1, .slice B2 m2 d2, .slice B3 m3 d3] 35)).alloc (.cells #[.int .i64 0, .int .u64 0, .slice none 0 0, .slice none 0 0] 35)).drew w.heap.size 35 #[.int .i64 a0, .int .u64 a1, .slice A2 n2 c2, .slice A3 n3 c3] := ((KB.new w 35 #[.int .i64 a0, .int .u64 a1, .slice A2 n2 c2, .slice A3 n3 c3]).alloc _).alloc _
  have KB1 : KB (((w.alloc (.cells #[.int .i64 a0, .int .u64 a1, .slice A2 n2 c2, .slice A3 n3 c3] 35)).alloc (.cells #[.int .i64 b0, .int .u64 b1, .slice B2 m2 d2, .slice B3 m3 d3] 35)).alloc (.cells #[.int .i64 0, .int .u64 0, .slice none 0 0, .slice none 0 0] 35)).drew (w.heap.size + 1) 35 #[.int .i64 b0, .int .u64 b1, .slice B2 m2 d2, .slice B3 m3 d3] := by
    have := (KB.new (w.alloc (.cells #[.int .i64 a0, .int .u64 a1, .slice A2 n2 c2, .slice A3 n3 c3] 35)) 35 #[.int .i64 b0, .int .u64 b1, .slice B2 m2 d2, .slice B3 m3 d3]).alloc (.cells #[.int .i64 0, .int .u64 0, .slice none 0 0, .slice none 0 0] 35)
    rw [World.size_alloc] at this; exact this
  have KR : KB (((w.alloc (.cells #[.int .i64 a0, .int .u64 a1, .slice A2 n2 c2, .slice A3 n3 c3] 35)).alloc (.cells #[.int .i64 b0, .int .u64 b1, .slice B2 m2 d2, .slice B3 m3 d3] 35)).alloc (.cells #[.int .i64 0, .int .u64 0, .slice none 0 0, .slice none 0 0] 35)).drew (w.heap.size + 1 + 1) 35 #[.int .i64 0, .int .u64 0, .slice none 0 0, .slice none 0 0] := by
    have := KB.new ((w.alloc (.cells #[.int .i64 a0, .int .u64 a1, .slice A2 n2 c2, .slice A3 n3 c3] 35)).alloc (.cells #[.int .i64 b0, .int .u64 b1, .slice B2 m2 d2, .slice B3 m3 d3] 35)) 35 #[.int .i64 0, .int .u64 0, .slice none 0 0, .slice none 0 0]
    rw [World.size_alloc, World.size_alloc] at this; exact this
  have ha' := ha.below B0
  have hb' := hb.below B0
  clear ha hb
  go_enter Tryd.func17, Tryd.ntmps17
  go_wp2_with fail
  generalize ((w.alloc (.cells #[.int .i64 a0, .int .u64 a1, .slice A2 n2 c2, .slice A3 n3 c3] 35)).alloc (.cells #[.int .i64 b0, .int .u64 b1, .slice B2 m2 d2, .slice B3 m3 d3] 35)).alloc (.cells #[.int .i64 0, .int .u64 0, .slice none 0 0, .slice none 0 0] 35) = w3 at *
  have x0 : w3.cell? ⟨w.heap.size, 0, none⟩ = some (.int .i64 a0) := KA.cell 0
  have x1 : w3.cell? ⟨w.heap.size, 1, none⟩ = some (.int .u64 a1) := KA.cell 1
  have x2 : w3.cell? ⟨w.heap.size, 2, none⟩ = some (.slice A2 n2 c2) := KA.cell 2
  have x3 : w3.cell? ⟨w.heap.size, 3, none⟩ = some (.slice A3 n3 c3) := KA.cell 3
  have y0 : w3.cell? ⟨w.heap.size + 1, 0, none⟩ = some (.int .i64 b0) := KB1.cell 0
  have y1 : w3.cell? ⟨w.heap.size + 1, 1, none⟩ = some (.int .u64 b1) := KB1.cell 1
  have y2 : w3.cell? ⟨w.heap.size + 1, 2, none⟩ = some (.slice B2 m2 d2) := KB1.cell 2
  have y3 : w3.cell? ⟨w.heap.size + 1, 3, none⟩ = some (.slice B3 m3 d3) := KB1.cell 3
  have z0 : w3.cell? ⟨w.heap.size + 1 + 1, 0, none⟩ = some (.int .i64 0) := KR.cell 0
  have z1 : w3.cell? ⟨w.heap.size + 1 + 1, 1, none⟩ = some (.int .u64 0) := KR.cell 1
  have z2 : w3.cell? ⟨w.heap.size + 1 + 1, 2, none⟩ = some (.slice none 0 0) := KR.cell 2
  have z3 : w3.cell? ⟨w.heap.size + 1 + 1, 3, none⟩ = some (.slice none 0 0) := KR.cell 3
  have f0 := KR.free 0
  have f1 := KR.free 1
  have f2 := KR.free 2
  have f3 := KR.free 3
  have s3 := KR.lt
  go_region_law
    (first
      | (go_simp; go_at_call 33; refine (own_ask ha').mono ?_; rintro e w4 ⟨u4, rfl, t4, b4⟩; replace hb' := hb'.below b4; clear ha'; obtain ⟨o0, o1, o2, o3, rfl, to⟩ := t4; replace KA := KA.below b4 KA.lt; replace KB1 := KB1.below b4 KB1.lt; replace KR := KR.below b4 KR.lt; replace B0 := B0.trans (b4.mono B0.size); have s4 := KR.lt; clear x0 x1 x2 x3 y0 y1 y2 y3; have x0 : w4.cell? ⟨w.heap.size, 0, none⟩ = some (.int .i64 a0) := KA.cell 0; have x1 : w4.cell? ⟨w.heap.size, 1, none⟩ = some (.int .u64 a1) := KA.cell 1; have x2 : w4.cell? ⟨w.heap.size, 2, none⟩ = some (.slice A2 n2 c2) := KA.cell 2; have x3 : w4.cell? ⟨w.heap.size, 3, none⟩ = some (.slice A3 n3 c3) := KA.cell 3; have y0 : w4.cell? ⟨w.heap.size + 1, 0, none⟩ = some (.int .i64 b0) := KB1.cell 0; have y1 : w4.cell? ⟨w.heap.size + 1, 1, none⟩ = some (.int .u64 b1) := KB1.cell 1; have y2 : w4.cell? ⟨w.heap.size + 1, 2, none⟩ = some (.slice B2 m2 d2) := KB1.cell 2; have y3 : w4.cell? ⟨w.heap.size + 1, 3, none⟩ = some (.slice B3 m3 d3) := KB1.cell 3; clear f0 f1 f2 f3 z0 z1 z2 z3; have f0 := KR.free 0; have f1 := KR.free 1; have f2 := KR.free 2; have f3 := KR.free 3; have z0 : w4.cell? ⟨w.heap.size + 1 + 1, 0, none⟩ = some (.int .i64 0) := KR.cell 0; have z1 : w4.cell? ⟨w.heap.size + 1 + 1, 1, none⟩ = some (.int .u64 0) := KR.cell 1; have z2 : w4.cell? ⟨w.heap.size + 1 + 1, 2, none⟩ = some (.slice none 0 0) := KR.cell 2; have z3 : w4.cell? ⟨w.heap.size + 1 + 1, 3, none⟩ = some (.slice none 0 0) := KR.cell 3)
      | (go_simp; go_at_call 33; refine (own_ask hb').mono ?_; rintro e w5 ⟨u5, rfl, t5, b5⟩; clear hb'; obtain ⟨r0, r1, r2, r3, rfl, tr⟩ := t5; replace KA := KA.below b5 KA.lt; replace KB1 := KB1.below b5 KB1.lt; replace KR := KR.below b5 KR.lt; replace B0 := B0.trans (b5.mono B0.size); have s5 := KR.lt; clear x0 x1 x2 x3 y0 y1 y2 y3; have x0 : w5.cell? ⟨w.heap.size, 0, none⟩ = some (.int .i64 a0) := KA.cell 0; have x1 : w5.cell? ⟨w.heap.size, 1, none⟩ = some (.int .u64 a1) := KA.cell 1; have x2 : w5.cell? ⟨w.heap.size, 2, none⟩ = some (.slice A2 n2 c2) := KA.cell 2; have x3 : w5.cell? ⟨w.heap.size, 3, none⟩ = some (.slice A3 n3 c3) := KA.cell 3; have y0 : w5.cell? ⟨w.heap.size + 1, 0, none⟩ = some (.int .i64 b0) := KB1.cell 0; have y1 : w5.cell? ⟨w.heap.size + 1, 1, none⟩ = some (.int .u64 b1) := KB1.cell 1; have y2 : w5.cell? ⟨w.heap.size + 1, 2, none⟩ = some (.slice B2 m2 d2) := KB1.cell 2; have y3 : w5.cell? ⟨w.heap.size + 1, 3, none⟩ = some (.slice B3 m3 d3) := KB1.cell 3; clear f0 f1 f2 f3 z0 z1 z2 z3; have f0 := KR.free 0; have f1 := KR.free 1; have f2 := KR.free 2; have f3 := KR.free 3; have z0 : w5.cell? ⟨w.heap.size + 1 + 1, 0, none⟩ = some (.int .i64 0) := KR.cell 0; have z1 : w5.cell? ⟨w.heap.size + 1 + 1, 1, none⟩ = some (.int .u64 0) := KR.cell 1; have z2 : w5.cell? ⟨w.heap.size + 1 + 1, 2, none⟩ = some (.slice none 0 0) := KR.cell 2; have z3 : w5.cell? ⟨w.heap.size + 1 + 1, 3, none⟩ = some (.slice none 0 0) := KR.cell 3))
  all_goals
    obtain ⟨KF, tmf, BF⟩ := made_two (k := 5) (n := n) (by unfold I64; omega) hn (by omega) to s3 b5 tr s4 KR B0 rfl
    clear x0 x1 x2 x3 y0 y1 y2 y3 z0 z1 z2 z3 f0 f1 f2 f3 KA KB1 KR B0 to tr b4 b5
    go_wp2
    refine bodyPost_ret (results_cell_row (P := Tryd.prog) rfl _ _ (w.heap.size + 1 + 1) _ _ (0, 0) _ rfl KF Tryd.underlying35 rfl (by kernel_rfl)) rfl ⟨_, rfl, ⟨_, _, _, _, rfl, tmf⟩, BF⟩

end Go.Proofs.YthgaljgelngmaaaDoor
end
