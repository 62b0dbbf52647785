/-
  Three calls and three variables, in whatever order: what holds at each point of a region that makes three terms and lays them into three variables. No condition but what it names.
-/
import Derived.Test.YtmepcdljobdigaaDoorTpH
import Derived.Test.YtmepcdljobdigaaDoorInv
import Derived.Test.YtmepcdljobdigaaDoorTermT
import Derived.Test.YtmepcdljobdigaaDoorTpN
namespace Go.Proofs.YtmepcdljobdigaaDoor
open Go.RowKit
set_option linter.unusedVariables false

theorem not_ready2 {md : Region.Mode} {ops : Array Oper} {listed : Array Bool} {i : Nat} (h : i ∉ Region.ready md ops listed) (ha : ((ops[i]?).map (·.after.all fun e => !Region.binds md e || listed.getD e.on false)).getD false = true) : listed.getD i true = true := by
  cases ho : ops[i]? with
  | none => rw [ho] at ha; cases ha
  | some o => rw [ho] at ha; exact not_ready h ho ha

/-- A value that was made, in blocks that are none of the variables'. -/
def MV (f lo : Nat) (w : World) (b9 b10 b11 : Bool) (gp gx gh : Nat) (u : Value) (t : Tm f) : Prop :=
  ∃ S : Nat → Prop, (∀ b, S b → lo ≤ b ∧ b < w.heap.size ∧ (b9 = true → b ≠ gp) ∧ (b10 = true → b ≠ gx) ∧ (b11 = true → b ≠ gh)) ∧ TV w S f u t

def VB (lo : Nat) (w : World) (g : Nat) (u : Value) : Prop := u = .pointer (some ⟨g, 0, none⟩) ∧ lo ≤ g ∧ KB w g 26 #[.int .i64 0, .int .u64 0, .slice none 0 0, .slice none 0 0]

/-- What holds at each point. -/
structure PA (w8 : World) (f : Nat) (tp tx th : Tm f) (A Bv N : Value) (b0 b1 b2 b3 b4 b5 b6 b7 b8 b9 b10 b11 : Bool) (u24 u25 u26 u27 u28 u29 u30 u31 u32 u8 u9 u10 : Value) (gp gx gh : Nat) (w : World) : Prop where
  bl : Below w8.heap.size w8 w
  e0 : b0 = true → u24 = A
  e1 : b1 = true → u25 = Bv
  e3 : b3 = true → u27 = N
  e4 : b4 = true → u28 = A
  e5 : b5 = true → u29 = Bv
  e7 : b7 = true → u31 = A
  c2 : b2 = true → b0 = true ∧ b1 = true
  c6 : b6 = true → b2 = true ∧ b3 = true ∧ b4 = true ∧ b5 = true
  c8 : b8 = true → b6 = true ∧ b7 = true
  p : b2 = true → MV f w8.heap.size w b9 b10 b11 gp gx gh u26 tp
  x : b6 = true → MV f w8.heap.size w b9 b10 b11 gp gx gh u30 tx
  h : b8 = true → MV f w8.heap.size w b9 b10 b11 gp gx gh u32 th
  vp : b9 = true → VB w8.heap.size w gp u8
  vx : b10 = true → VB w8.heap.size w gx u9
  vh : b11 = true → VB w8.heap.size w gh u10
  d1 : b9 = true → b10 = true → gp ≠ gx
  d2 : b9 = true → b11 = true → gp ≠ gh
  d3 : b10 = true → b11 = true → gx ≠ gh

section
variable {w8 : World} {f : Nat} {tp tx th : Tm f} {A Bv N : Value} {b0 b1 b2 b3 b4 b5 b6 b7 b8 b9 b10 b11 : Bool} {u24 u25 u26 u27 u28 u29 u30 u31 u32 u8 u9 u10 : Value} {gp gx gh : Nat} {w w' : World}

theorem MV.below {u : Value} {t : Tm f} {lo : Nat} (h : MV f lo w b9 b10 b11 gp gx gh u t) (hb : Below w.heap.size w w') : MV f lo w' b9 b10 b11 gp gx gh u t := by
  obtain ⟨S, h1, h2⟩ := h
  exact ⟨S, fun b hb' => ⟨(h1 b hb').1, Nat.lt_of_lt_of_le (h1 b hb').2.1 hb.size, (h1 b hb').2.2⟩, h2.below' hb⟩
theorem VB.below {lo g : Nat} {u : Value} (h : VB lo w g u) (hb : Below w.heap.size w w') : VB lo w' g u := ⟨h.1, h.2.1, h.2.2.below hb h.2.2.lt⟩

theorem PA.below (h : PA w8 f tp tx th A Bv N b0 b1 b2 b3 b4 b5 b6 b7 b8 b9 b10 b11 u24 u25 u26 u27 u28 u29 u30 u31 u32 u8 u9 u10 gp gx gh w) (hb : Below w.heap.size w w') :
    PA w8 f tp tx th A Bv N b0 b1 b2 b3 b4 b5 b6 b7 b8 b9 b10 b11 u24 u25 u26 u27 u28 u29 u30 u31 u32 u8 u9 u10 gp gx gh w' :=
  { h with bl := h.bl.trans (hb.mono h.bl.size), p := fun k => (h.p k).below hb, x := fun k => (h.x k).below hb, h := fun k => (h.h k).below hb, vp := fun k => (h.vp k).below hb, vx := fun k => (h.vx k).below hb, vh := fun k => (h.vh k).below hb }

theorem PA.l0 (h : PA w8 f tp tx th A Bv N b0 b1 b2 b3 b4 b5 b6 b7 b8 b9 b10 b11 u24 u25 u26 u27 u28 u29 u30 u31 u32 u8 u9 u10 gp gx gh w) :
    PA w8 f tp tx th A Bv N true b1 b2 b3 b4 b5 b6 b7 b8 b9 b10 b11 A u25 u26 u27 u28 u29 u30 u31 u32 u8 u9 u10 gp gx gh w :=
  { h with e0 := fun _ => rfl, c2 := fun k => ⟨rfl, (h.c2 k).2⟩ }
theorem PA.l1 (h : PA w8 f tp tx th A Bv N b0 b1 b2 b3 b4 b5 b6 b7 b8 b9 b10 b11 u24 u25 u26 u27 u28 u29 u30 u31 u32 u8 u9 u10 gp gx gh w) :
    PA w8 f tp tx th A Bv N b0 true b2 b3 b4 b5 b6 b7 b8 b9 b10 b11 u24 Bv u26 u27 u28 u29 u30 u31 u32 u8 u9 u10 gp gx gh w :=
  { h with e1 := fun _ => rfl, c2 := fun k => ⟨(h.c2 k).1, rfl⟩ }
theorem PA.l3 (h : PA w8 f tp tx th A Bv N b0 b1 b2 b3 b4 b5 b6 b7 b8 b9 b10 b11 u24 u25 u26 u27 u28 u29 u30 u31 u32 u8 u9 u10 gp gx gh w) :
    PA w8 f tp tx th A Bv N b0 b1 b2 true b4 b5 b6 b7 b8 b9 b10 b11 u24 u25 u26 N u28 u29 u30 u31 u32 u8 u9 u10 gp gx gh w :=
  { h with e3 := fun _ => rfl, c6 := fun k => ⟨(h.c6 k).1, rfl, (h.c6 k).2.2⟩ }
theorem PA.l4 (h : PA w8 f tp tx th A Bv N b0 b1 b2 b3 b4 b5 b6 b7 b8 b9 b10 b11 u24 u25 u26 u27 u28 u29 u30 u31 u32 u8 u9 u10 gp gx gh w) :
    PA w8 f tp tx th A Bv N b0 b1 b2 b3 true b5 b6 b7 b8 b9 b10 b11 u24 u25 u26 u27 A u29 u30 u31 u32 u8 u9 u10 gp gx gh w :=
  { h with e4 := fun _ => rfl, c6 := fun k => ⟨(h.c6 k).1, (h.c6 k).2.1, rfl, (h.c6 k).2.2.2⟩ }
theorem PA.l5 (h : PA w8 f tp tx th A Bv N b0 b1 b2 b3 b4 b5 b6 b7 b8 b9 b10 b11 u24 u25 u26 u27 u28 u29 u30 u31 u32 u8 u9 u10 gp gx gh w) :
    PA w8 f tp tx th A Bv N b0 b1 b2 b3 b4 true b6 b7 b8 b9 b10 b11 u24 u25 u26 u27 u28 Bv u30 u31 u32 u8 u9 u10 gp gx gh w :=
  { h with e5 := fun _ => rfl, c6 := fun k => ⟨(h.c6 k).1, (h.c6 k).2.1, (h.c6 k).2.2.1, rfl⟩ }
theorem PA.l7 (h : PA w8 f tp tx th A Bv N b0 b1 b2 b3 b4 b5 b6 b7 b8 b9 b10 b11 u24 u25 u26 u27 u28 u29 u30 u31 u32 u8 u9 u10 gp gx gh w) :
    PA w8 f tp tx th A Bv N b0 b1 b2 b3 b4 b5 b6 true b8 b9 b10 b11 u24 u25 u26 u27 u28 u29 u30 A u32 u8 u9 u10 gp gx gh w :=
  { h with e7 := fun _ => rfl, c8 := fun k => ⟨(h.c8 k).1, rfl⟩ }

theorem PA.made (h : PA w8 f tp tx th A Bv N b0 b1 b2 b3 b4 b5 b6 b7 b8 b9 b10 b11 u24 u25 u26 u27 u28 u29 u30 u31 u32 u8 u9 u10 gp gx gh w) (hb : Below w.heap.size w w') {u : Value} {t : Tm f} (tv : TV w' (fun b => w.heap.size ≤ b ∧ b < w'.heap.size) f u t) :
    MV f w8.heap.size w' b9 b10 b11 gp gx gh u t := by
  refine ⟨_, fun b hb' => ⟨Nat.le_trans h.bl.size hb'.1, hb'.2, fun k e => ?_, fun k e => ?_, fun k e => ?_⟩, tv⟩
  · have := (h.vp k).2.2.lt; have := hb'.1; omega
  · have := (h.vx k).2.2.lt; have := hb'.1; omega
  · have := (h.vh k).2.2.lt; have := hb'.1; omega
theorem PA.k2 (h : PA w8 f tp tx th A Bv N b0 b1 b2 b3 b4 b5 b6 b7 b8 b9 b10 b11 u24 u25 u26 u27 u28 u29 u30 u31 u32 u8 u9 u10 gp gx gh w) (h0 : b0 = true) (h1 : b1 = true) (hb : Below w.heap.size w w') {u : Value} (tv : TV w' (fun b => w.heap.size ≤ b ∧ b < w'.heap.size) f u tp) :
    PA w8 f tp tx th A Bv N b0 b1 true b3 b4 b5 b6 b7 b8 b9 b10 b11 u24 u25 u u27 u28 u29 u30 u31 u32 u8 u9 u10 gp gx gh w' :=
  { h.below hb with p := fun _ => h.made hb tv, c2 := fun _ => ⟨h0, h1⟩, c6 := fun k => ⟨rfl, (h.c6 k).2⟩ }
theorem PA.k6 (h : PA w8 f tp tx th A Bv N b0 b1 b2 b3 b4 b5 b6 b7 b8 b9 b10 b11 u24 u25 u26 u27 u28 u29 u30 u31 u32 u8 u9 u10 gp gx gh w) (h2 : b2 = true) (h3 : b3 = true) (h4 : b4 = true) (h5 : b5 = true) (hb : Below w.heap.size w w') {u : Value} (tv : TV w' (fun b => w.heap.size ≤ b ∧ b < w'.heap.size) f u tx) :
    PA w8 f tp tx th A Bv N b0 b1 b2 b3 b4 b5 true b7 b8 b9 b10 b11 u24 u25 u26 u27 u28 u29 u u31 u32 u8 u9 u10 gp gx gh w' :=
  { h.below hb with x := fun _ => h.made hb tv, c6 := fun _ => ⟨h2, h3, h4, h5⟩, c8 := fun k => ⟨rfl, (h.c8 k).2⟩ }
theorem PA.k8 (h : PA w8 f tp tx th A Bv N b0 b1 b2 b3 b4 b5 b6 b7 b8 b9 b10 b11 u24 u25 u26 u27 u28 u29 u30 u31 u32 u8 u9 u10 gp gx gh w) (h6 : b6 = true) (h7 : b7 = true) (hb : Below w.heap.size w w') {u : Value} (tv : TV w' (fun b => w.heap.size ≤ b ∧ b < w'.heap.size) f u th) :
    PA w8 f tp tx th A Bv N b0 b1 b2 b3 b4 b5 b6 b7 true b9 b10 b11 u24 u25 u26 u27 u28 u29 u30 u31 u u8 u9 u10 gp gx gh w' :=
  { h.below hb with h := fun _ => h.made hb tv, c8 := fun _ => ⟨h6, h7⟩ }

theorem al (w : World) (o : Obj) : Below w.heap.size w (w.alloc o) := (Below.refl _ _).alloc (Nat.le_refl _) o
theorem PA.n9 (h : PA w8 f tp tx th A Bv N b0 b1 b2 b3 b4 b5 b6 b7 b8 b9 b10 b11 u24 u25 u26 u27 u28 u29 u30 u31 u32 u8 u9 u10 gp gx gh w) :
    PA w8 f tp tx th A Bv N b0 b1 b2 b3 b4 b5 b6 b7 b8 true b10 b11 u24 u25 u26 u27 u28 u29 u30 u31 u32 (.pointer (some ⟨w.heap.size, 0, none⟩)) u9 u10 w.heap.size gx gh (w.alloc (.cells #[.int .i64 0, .int .u64 0, .slice none 0 0, .slice none 0 0] 26)) := by
  have mv : ∀ {u : Value} {t : Tm f}, MV f w8.heap.size w b9 b10 b11 gp gx gh u t → MV f w8.heap.size (w.alloc (.cells #[.int .i64 0, .int .u64 0, .slice none 0 0, .slice none 0 0] 26)) true b10 b11 w.heap.size gx gh u t := by
    rintro u t ⟨S, h1, h2⟩
    exact ⟨S, fun b hb => ⟨(h1 b hb).1, by have := (h1 b hb).2.1; simp; omega, fun _ e => by have := (h1 b hb).2.1; omega, (h1 b hb).2.2.2⟩, h2.alloc _⟩
  exact { h.below (al w _) with p := fun k => mv (h.p k), x := fun k => mv (h.x k), h := fun k => mv (h.h k), vp := fun _ => ⟨rfl, h.bl.size, KB.new w _ _⟩, d1 := fun _ k e => by have := (h.vx k).2.2.lt; omega, d2 := fun _ k e => by have := (h.vh k).2.2.lt; omega }
theorem PA.n10 (h : PA w8 f tp tx th A Bv N b0 b1 b2 b3 b4 b5 b6 b7 b8 b9 b10 b11 u24 u25 u26 u27 u28 u29 u30 u31 u32 u8 u9 u10 gp gx gh w) :
    PA w8 f tp tx th A Bv N b0 b1 b2 b3 b4 b5 b6 b7 b8 b9 true b11 u24 u25 u26 u27 u28 u29 u30 u31 u32 u8 (.pointer (some ⟨w.heap.size, 0, none⟩)) u10 gp w.heap.size gh (w.alloc (.cells #[.int .i64 0, .int .u64 0, .slice none 0 0, .slice none 0 0] 26)) := by
  have mv : ∀ {u : Value} {t : Tm f}, MV f w8.heap.size w b9 b10 b11 gp gx gh u t → MV f w8.heap.size (w.alloc (.cells #[.int .i64 0, .int .u64 0, .slice none 0 0, .slice none 0 0] 26)) b9 true b11 gp w.heap.size gh u t := by
    rintro u t ⟨S, h1, h2⟩
    exact ⟨S, fun b hb => ⟨(h1 b hb).1, by have := (h1 b hb).2.1; simp; omega, (h1 b hb).2.2.1, fun _ e => by have := (h1 b hb).2.1; omega, (h1 b hb).2.2.2.2⟩, h2.alloc _⟩
  exact { h.below (al w _) with p := fun k => mv (h.p k), x := fun k => mv (h.x k), h := fun k => mv (h.h k), vx := fun _ => ⟨rfl, h.bl.size, KB.new w _ _⟩, d1 := fun k _ e => by have := (h.vp k).2.2.lt; omega, d3 := fun _ k e => by have := (h.vh k).2.2.lt; omega }
theorem PA.n11 (h : PA w8 f tp tx th A Bv N b0 b1 b2 b3 b4 b5 b6 b7 b8 b9 b10 b11 u24 u25 u26 u27 u28 u29 u30 u31 u32 u8 u9 u10 gp gx gh w) :
    PA w8 f tp tx th A Bv N b0 b1 b2 b3 b4 b5 b6 b7 b8 b9 b10 true u24 u25 u26 u27 u28 u29 u30 u31 u32 u8 u9 (.pointer (some ⟨w.heap.size, 0, none⟩)) gp gx w.heap.size (w.alloc (.cells #[.int .i64 0, .int .u64 0, .slice none 0 0, .slice none 0 0] 26)) := by
  have mv : ∀ {u : Value} {t : Tm f}, MV f w8.heap.size w b9 b10 b11 gp gx gh u t → MV f w8.heap.size (w.alloc (.cells #[.int .i64 0, .int .u64 0, .slice none 0 0, .slice none 0 0] 26)) b9 b10 true gp gx w.heap.size u t := by
    rintro u t ⟨S, h1, h2⟩
    exact ⟨S, fun b hb => ⟨(h1 b hb).1, by have := (h1 b hb).2.1; simp; omega, (h1 b hb).2.2.1, (h1 b hb).2.2.2.1, fun _ e => by have := (h1 b hb).2.1; omega⟩, h2.alloc _⟩
  exact { h.below (al w _) with p := fun k => mv (h.p k), x := fun k => mv (h.x k), h := fun k => mv (h.h k), vh := fun _ => ⟨rfl, h.bl.size, KB.new w _ _⟩, d2 := fun k _ e => by have := (h.vp k).2.2.lt; omega, d3 := fun k _ e => by have := (h.vx k).2.2.lt; omega }

/-- The four cells of a value, stored. -/
abbrev set4 (w : World) (g : Nat) (a b c d : Value) : World := (((w.setCell ⟨g, 0, none⟩ a).setCell ⟨g, 1, none⟩ b).setCell ⟨g, 2, none⟩ c).setCell ⟨g, 3, none⟩ d

set_option maxHeartbeats 1000000 in
/-- Behind the three stores. -/
theorem PA.fin {p0 p1 p2 p3 x0 x1 x2 x3 h0 h1 h2 h3 : Value} (h : PA w8 f tp tx th A Bv N true true true true true true true true true true true true u24 u25 (.agg #[p0, p1, p2, p3]) u27 u28 u29 (.agg #[x0, x1, x2, x3]) u31 (.agg #[h0, h1, h2, h3]) u8 u9 u10 gp gx gh w)
    (hw : w' = set4 (set4 (set4 w gp p0 p1 p2 p3) gx x0 x1 x2 x3) gh h0 h1 h2 h3) :
    Below w8.heap.size w8 w' ∧ KB w' gp 26 #[p0, p1, p2, p3] ∧ KB w' gx 26 #[x0, x1, x2, x3] ∧ KB w' gh 26 #[h0, h1, h2, h3] ∧
    TV w' (fun b => b < w'.heap.size) f (.agg #[p0, p1, p2, p3]) tp ∧ TV w' (fun b => b < w'.heap.size) f (.agg #[x0, x1, x2, x3]) tx ∧ TV w' (fun b => b < w'.heap.size) f (.agg #[h0, h1, h2, h3]) th := by
  obtain ⟨_, lp, kp⟩ := h.vp rfl
  obtain ⟨_, lx, kx⟩ := h.vx rfl
  obtain ⟨_, lh, kh⟩ := h.vh rfl
  have d1 := h.d1 rfl rfl
  have d2 := h.d2 rfl rfl
  have d3 := h.d3 rfl rfl
  have far4 : ∀ {w : World} {g k : Nat} {a b c d : Value} {cs : Array Value}, KB w g 26 cs → k ≠ g → KB (set4 w k a b c d) g 26 cs := fun k hne => (((k.far hne).far hne).far hne).far hne
  have s1 := sets_size w gp p0 p1 p2 p3
  have s2 := sets_size (set4 w gp p0 p1 p2 p3) gx x0 x1 x2 x3
  have s3 := sets_size (set4 (set4 w gp p0 p1 p2 p3) gx x0 x1 x2 x3) gh h0 h1 h2 h3
  have G1 := grown_four w gp p0 p1 p2 p3
  have G2 := grown_four (set4 w gp p0 p1 p2 p3) gx x0 x1 x2 x3
  have G3 := grown_four (set4 (set4 w gp p0 p1 p2 p3) gx x0 x1 x2 x3) gh h0 h1 h2 h3
  have hsz : w'.heap.size = w.heap.size := by rw [hw]; exact (s1.trans (s2.trans s3)).symm
  have hbk : ∀ b, b ≠ gp → b ≠ gx → b ≠ gh → w'.heap[b]? = w.heap[b]? := fun b n1 n2 n3 => by
    rw [hw]; exact (sets_block _ gh b _ _ _ _ n3).trans ((sets_block _ gx b _ _ _ _ n2).trans (sets_block _ gp b _ _ _ _ n1))
  have tv : ∀ {u : Value} {t : Tm f}, MV f w8.heap.size w true true true gp gx gh u t → TV w' (fun b => b < w'.heap.size) f u t := by
    rintro u t ⟨S, g1, g2⟩
    exact (g2.keep (by omega) fun b hb _ => hbk b ((g1 b hb).2.2.1 rfl) ((g1 b hb).2.2.2.1 rfl) ((g1 b hb).2.2.2.2 rfl)).mono fun b hb => by have := (g1 b hb).2.1; omega
  have hz := h.bl.size
  have hB : Below w8.heap.size w8 w' := by
    refine ⟨?_, ?_, ?_, by omega, fun k hk => ?_⟩
    · rw [hw]; exact G3.os.trans (G2.os.trans (G1.os.trans h.bl.os))
    · rw [hw]; exact G3.tape.trans (G2.tape.trans (G1.tape.trans h.bl.tape))
    · rw [hw]; exact G3.output.trans (G2.output.trans (G1.output.trans h.bl.output))
    · rw [hbk k (by omega) (by omega) (by omega)]; exact h.bl.block k hk
  refine ⟨hB, ?_, ?_, ?_, tv (h.p rfl), tv (h.x rfl), tv (h.h rfl)⟩
  · rw [hw]; exact far4 (far4 (put_four kp) (fun e => d1 e.symm)) (fun e => d2 e.symm)
  · rw [hw]; exact far4 (put_four (far4 kx d1)) (fun e => d3 e.symm)
  · rw [hw]; exact put_four (far4 (far4 kh d2) d3)
end

theorem tm_data {w : World} {S : Nat → Prop} : ∀ {f : Nat} {t : Tm f} {c0 c1 c2 c3 : Value}, TM w S f t c0 c1 c2 c3 → few f t → ∃ d, BS w S c2 d ∧ d.length ≤ 1000000
  | 0, t, _, _, _, _, _, _ => nomatch t
  | f + 1, (t : Nd (Tm f)), _, _, _, _, h, hf => ⟨t.data, h.2.2.2.2.1, hf.2.1⟩

/-- Two terms in a new row, and what holds it. -/
theorem lit_two {w : World} {S : Nat → Prop} {f : Nat} {a b : Tm f} {a0 a1 a2 a3 b0 b1 b2 b3 : Value} (hS : ∀ b, S b → b < w.heap.size) (ta : TV w S f (.agg #[a0, a1, a2, a3]) a) (tb : TV w S f (.agg #[b0, b1, b2, b3]) b) {k : Int} {n : Nat} (hk : I64 k) (hn : n < 18446744073709551616) :
    TV (w.alloc (.cells #[a0, a1, a2, a3, b0, b1, b2, b3] 26)) (fun b => b < (w.alloc (.cells #[a0, a1, a2, a3, b0, b1, b2, b3] 26)).heap.size) (f + 1) (.agg #[.int .i64 k, .int .u64 n, .slice none 0 0, .slice (some ⟨w.heap.size, 0, none⟩) 2 2]) (⟨k, n, [], [a, b]⟩ : Nd (Tm f)) := by
  have ta' := (ta.alloc (.cells #[a0, a1, a2, a3, b0, b1, b2, b3] 26)).mono (S' := fun b => b < (w.alloc (.cells #[a0, a1, a2, a3, b0, b1, b2, b3] 26)).heap.size) fun b hb => by have := hS b hb; simp; omega
  have tb' := (tb.alloc (.cells #[a0, a1, a2, a3, b0, b1, b2, b3] 26)).mono (S' := fun b => b < (w.alloc (.cells #[a0, a1, a2, a3, b0, b1, b2, b3] 26)).heap.size) fun b hb => by have := hS b hb; simp; omega
  obtain ⟨_, _, _, _, e, ma⟩ := ta'
  injection e with e
  simp only [Array.mk.injEq, List.cons.injEq, and_true] at e
  obtain ⟨rfl, rfl, rfl, rfl⟩ := e
  obtain ⟨_, _, _, _, e, mb⟩ := tb'
  injection e with e
  simp only [Array.mk.injEq, List.cons.injEq, and_true] at e
  obtain ⟨rfl, rfl, rfl, rfl⟩ := e
  have hown := own_two w w.heap.size (Nat.le_refl _) (a0, a1, a2, a3) (b0, b1, b2, b3)
  exact ⟨_, _, _, _, rfl, rfl, hk, rfl, hn, BS.nil _ _, KS_of_own hown ((QT.one ma).append (QT.one mb)) fun b _ h => h⟩

theorem lit_one' {w : World} {S : Nat → Prop} {f : Nat} {a : Tm f} {a0 a1 a2 a3 : Value} (hS : ∀ b, S b → b < w.heap.size) (ta : TV w S f (.agg #[a0, a1, a2, a3]) a) {k : Int} {n : Nat} (hk : I64 k) (hn : n < 18446744073709551616) :
    TV (w.alloc (.cells #[a0, a1, a2, a3] 26)) (fun b => b < (w.alloc (.cells #[a0, a1, a2, a3] 26)).heap.size) (f + 1) (.agg #[.int .i64 k, .int .u64 n, .slice none 0 0, .slice (some ⟨w.heap.size, 0, none⟩) 1 1]) (⟨k, n, [], [a]⟩ : Nd (Tm f)) := by
  have ta' := (ta.alloc (.cells #[a0, a1, a2, a3] 26)).mono (S' := fun b => b < (w.alloc (.cells #[a0, a1, a2, a3] 26)).heap.size) fun b hb => by have := hS b hb; simp; omega
  obtain ⟨_, _, _, _, e, ma⟩ := ta'
  injection e with e
  simp only [Array.mk.injEq, List.cons.injEq, and_true] at e
  obtain ⟨rfl, rfl, rfl, rfl⟩ := e
  have hown := own_one w w.heap.size (Nat.le_refl _) (a0, a1, a2, a3)
  exact ⟨_, _, _, _, rfl, rfl, hk, rfl, hn, BS.nil _ _, KS_of_own hown (QT.one ma) fun b _ h => h⟩

theorem KT.keep {w w' : World} {f : Nat} {v : Value} {ks : List (Tm f)} (h : KS w (fun b => b < w.heap.size) (TM w (fun b => b < w.heap.size) f) v ks) (hb : Below w.heap.size w w') : KS w' (fun b => b < w'.heap.size) (TM w' (fun b => b < w'.heap.size) f) v ks := by
  have hS : ∀ b, b < w.heap.size → b < w'.heap.size := fun b h => Nat.lt_of_lt_of_le h hb.size
  have := KS.map (w' := w') (S' := fun b => b < w'.heap.size) (E' := TM w' (fun b => b < w'.heap.size) f) id h hb.size (fun b _ hlt => hb.block b hlt) hS fun u d0 d1 d2 d3 hu => TM.keepS f u d0 d1 d2 d3 hu hb.size (fun b _ hlt => hb.block b hlt) hS
  rwa [List.map_id] at this

theorem rsame_yes (S S' : Nat → Prop) (f : Nat) (t : Tm f) (x y : Value) (w : World) (hx : TV w S f x t) (hy : TV w S' f y t) :
    Calls Tryd.prog 17 #[x, y] w fun e w' => e = .returned (.bool true) ∧ Below w.heap.size w w' := by
  have := rsame_any S S' f t t x y w hx hy
  rwa [(sameT_iff f t t).2 rfl] at this

/-- Two values whose terms are the same, or not. -/
def SameQ (w : World) (f : Nat) (x y : Value) (r : Bool) : Prop := ∃ (S S' : Nat → Prop) (a b : Tm f), TV w S f x a ∧ TV w S' f y b ∧ sameT f a b = r
theorem SameQ.below {w w' : World} {f : Nat} {x y : Value} {r : Bool} (h : SameQ w f x y r) (hb : Below w.heap.size w w') : SameQ w' f x y r := by
  obtain ⟨S, S', a, b, h1, h2, h3⟩ := h
  exact ⟨S, S', a, b, h1.below' hb, h2.below' hb, h3⟩
theorem psame_q {w : World} {f : Nat} {x y : Value} {r : Bool} (h : SameQ w f x y r) : Calls Tryd.prog 25 #[x, y] w fun e w' => e = .returned (.bool r) ∧ Below w.heap.size w w' := by
  obtain ⟨S, S', a, b, h1, h2, rfl⟩ := h
  exact psame_any S S' f a b x y w h1 h2
theorem rsame_q {w : World} {f : Nat} {x y : Value} {r : Bool} (h : SameQ w f x y r) : Calls Tryd.prog 17 #[x, y] w fun e w' => e = .returned (.bool r) ∧ Below w.heap.size w w' := by
  obtain ⟨S, S', a, b, h1, h2, rfl⟩ := h
  exact rsame_any S S' f a b x y w h1 h2
end Go.Proofs.YtmepcdljobdigaaDoor
