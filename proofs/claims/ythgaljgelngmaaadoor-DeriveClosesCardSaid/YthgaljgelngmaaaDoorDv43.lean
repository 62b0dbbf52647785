/-
  DcU: The example of the page of layer 6, point by point: what holds within a region that makes a list, a secret and what is asked of them, in whatever order. No condition but what each theorem names.
-/
import Derived.Test.YthgaljgelngmaaaDoorDv40
import Derived.Test.YthgaljgelngmaaaDoorDv42
import Derived.Test.YthgaljgelngmaaaDoorDv22
import Derived.Lib.SlBytesConst

section
namespace Go.Proofs.YthgaljgelngmaaaDoor
open Go.RowKit
set_option linter.unusedVariables false

def exD1 : Tm 1 := (⟨3, 0, [97], []⟩ : Nd (Tm 0))
def exK1 : Tm 1 := (⟨2, 7, [], []⟩ : Nd (Tm 0))
def exX : Tm 2 := (⟨5, 1, [], [exD1, exK1]⟩ : Nd (Tm 1))
def exK : Tm 2 := (⟨2, 7, [], []⟩ : Nd (Tm 1))
def exD : Tm 2 := (⟨3, 0, [97], []⟩ : Nd (Tm 1))
theorem ex_yes : ansF 2 [exX, exK] exD = true ∧ errF 2 [exX, exK] exD = 0 := by decide +kernel
theorem ex_no : ansF 2 [exX] exD = false ∧ errF 2 [exX] exD = 0 := by decide +kernel
theorem ex_guard : guardD (vwT 2) exD [7] exX = true := by decide +kernel
theorem ex_may : mayT 2 exX 8 = true := by decide +kernel

/-- A key leads to no memory. -/
theorem key_free {w w' : World} {S S' : Nat → Prop} {c0 c1 c2 c3 : Value} (h : TM w S 2 exK c0 c1 c2 c3) : TM w' S' 2 exK c0 c1 c2 c3 := by
  obtain ⟨h0, h1, h2, h3, h4, h5⟩ := h
  refine ⟨h0, h1, h2, h3, ?_, ?_⟩
  · obtain ⟨A, c, e, hl, hc, hn, _⟩ := h4
    exact ⟨A, c, e, hl, hc, hn, fun h => absurd h (by simp [exK])⟩
  · obtain ⟨A, c, e, hl, hc, hn, _⟩ := h5
    exact ⟨A, c, e, hl, hc, hn, fun h => absurd h (by simp [exK])⟩

/-- A literal's row is marked, wherever it lies. -/
theorem run_conv_lit {P : Program} (w : World) (t e : TypeId) (g : Nat) (C : Array Value) (n c : Nat) (ht : P.underlying t = some (.slice e)) (he : P.underlying e = some (.int .u8)) (hg : w.heap[g]? = some (.cells C e)) :
    ∃ w', (convert t t (.slice (some ⟨g, 0, none⟩) n c)).run P w = .ok (.slice (some ⟨g, 0, none⟩) n c) w' ∧ w'.heap[g]? = some (.cells C e (C.size, C.size + 1)) ∧ w.grownBy w' (some g) := by
  have hsh : w.shape? g = some (e, C.size) := by
    unfold World.shape?
    rw [hg]
  refine ⟨w.freeze ⟨g, C.size, none⟩ 1, ?_, ?_, ?_⟩
  · simp [convert, run_underlying ht, run_underlying he, markStringish, hsh]
  · unfold World.freeze
    rw [if_neg (by decide)]
    simp [Array.getElem?_modify, hg]
  · unfold World.freeze
    rw [if_neg (by decide)]
    refine ⟨rfl, rfl, rfl, by simp, fun k hk hr => ?_⟩
    have hne : ¬ g = k := fun e => hr (by rw [e])
    simp [Array.getElem?_modify, hne]

/-- What holds at each point. -/
structure PL (w8 : World) (vx : Value) (KeyOk : Value → Prop) (LT : TypeId) (ln : Nat) (Good : Array Value → Prop) (rx rk rl rt rc rd : Bool) (sx sk sl st sc sd : Value) (gL gl : Nat) (w : World) : Prop where
  bl : Below w8.heap.size w8 w
  ex : rx = true → sx = vx
  ek : rk = true → KeyOk sk
  el : rl = true → ∃ cs, sl = .slice (some ⟨gL, 0, none⟩) ln ln ∧ w8.heap.size ≤ gL ∧ KB w gL LT cs ∧ Good cs
  et : rt = true → st = .slice (some ⟨gl, 0, none⟩) 1 1 ∧ w8.heap.size ≤ gl ∧ ∃ fr, w.heap[gl]? = some (.cells #[.int .u8 97] 5 fr) ∧ (rc = false → fr = (0, 0))
  ec : rc = true → rt = true ∧ sc = .slice (some ⟨gl, 0, none⟩) 1 1
  ed : rd = true → rc = true ∧ TV w (fun b => b < w.heap.size) 2 sd exD
  dd : rl = true → rt = true → gL ≠ gl

section
variable {w8 : World} {vx : Value} {KeyOk : Value → Prop} {LT : TypeId} {ln : Nat} {Good : Array Value → Prop} {rx rk rl rt rc rd : Bool} {sx sk sl st sc sd : Value} {gL gl : Nat} {w w' : World}
theorem PL.start (w8 : World) (vx : Value) (KeyOk : Value → Prop) (LT : TypeId) (ln : Nat) (Good : Array Value → Prop) (k : Nat) : PL w8 vx KeyOk LT ln Good false false false false false false undef undef undef undef undef undef 0 0 (w8.drewN k) :=
  ⟨Below_drawn (Below.refl _ _) k, (fun h => by cases h), (fun h => by cases h), (fun h => by cases h), (fun h => by cases h), (fun h => by cases h), (fun h => by cases h), (fun h => by cases h)⟩
theorem PL.start' (w8 : World) (vx : Value) (LT : TypeId) (ln : Nat) (Good : Array Value → Prop) (k : Nat) : PL w8 vx (fun _ => True) LT ln Good false true false false false false undef undef undef undef undef undef 0 0 (w8.drewN k) :=
  ⟨Below_drawn (Below.refl _ _) k, (fun h => by cases h), (fun h => trivial), (fun h => by cases h), (fun h => by cases h), (fun h => by cases h), (fun h => by cases h), (fun h => by cases h)⟩
theorem TVs {f : Nat} {v : Value} {t : Tm f} (h : TV w (fun b => b < w.heap.size) f v t) (hb : Below w.heap.size w w') : TV w' (fun b => b < w'.heap.size) f v t := (h.below' hb).mono fun b hb' => Nat.lt_of_lt_of_le hb' hb.size
theorem PL.below (h : PL w8 vx KeyOk LT ln Good rx rk rl rt rc rd sx sk sl st sc sd gL gl w) (hb : Below w.heap.size w w') : PL w8 vx KeyOk LT ln Good rx rk rl rt rc rd sx sk sl st sc sd gL gl w' :=
  { h with
    bl := h.bl.trans (hb.mono h.bl.size)
    el := fun k => by obtain ⟨cs, h1, h2, h3, h4⟩ := h.el k; exact ⟨cs, h1, h2, h3.below hb h3.lt, h4⟩
    et := fun k => by obtain ⟨h1, h2, fr, h3, h4⟩ := h.et k; exact ⟨h1, h2, fr, (hb.block gl (Array.getElem?_eq_some_iff.1 h3).1).trans h3, h4⟩
    ed := fun k => ⟨(h.ed k).1, TVs (h.ed k).2 hb⟩ }
theorem PL.lx (h : PL w8 vx KeyOk LT ln Good rx rk rl rt rc rd sx sk sl st sc sd gL gl w) : PL w8 vx KeyOk LT ln Good true rk rl rt rc rd vx sk sl st sc sd gL gl w := { h with ex := fun _ => rfl }
theorem PL.lk (h : PL w8 vx KeyOk LT ln Good rx rk rl rt rc rd sx sk sl st sc sd gL gl w) (hb : Below w.heap.size w w') {u : Value} (hu : KeyOk u) : PL w8 vx KeyOk LT ln Good rx true rl rt rc rd sx u sl st sc sd gL gl w' := { h.below hb with ek := fun _ => hu }
theorem PL.nl (h : PL w8 vx KeyOk LT ln Good rx rk rl rt rc rd sx sk sl st sc sd gL gl w) {cs : Array Value} (hg : Good cs) : PL w8 vx KeyOk LT ln Good rx rk true rt rc rd sx sk (.slice (some ⟨w.heap.size, 0, none⟩) ln ln) st sc sd w.heap.size gl (w.alloc (.cells cs LT)) :=
  { h.below ((Below.refl _ _).alloc (Nat.le_refl _) _) with
    el := fun _ => ⟨cs, rfl, h.bl.size, KB.new w LT cs, hg⟩
    dd := fun _ k e => by obtain ⟨_, _, fr, h3, _⟩ := h.et k; have := (Array.getElem?_eq_some_iff.1 h3).1; omega }
theorem PL.nt (h : PL w8 vx KeyOk LT ln Good rx rk rl rt rc rd sx sk sl st sc sd gL gl w) (hc : rc = false) : PL w8 vx KeyOk LT ln Good rx rk rl true rc rd sx sk sl (.slice (some ⟨w.heap.size, 0, none⟩) 1 1) sc sd gL w.heap.size (w.alloc (.cells #[.int .u8 97] 5)) :=
  { h.below ((Below.refl _ _).alloc (Nat.le_refl _) _) with
    et := fun _ => ⟨rfl, h.bl.size, (0, 0), heap_alloc_new w _, fun _ => rfl⟩
    ec := fun k => by rw [hc] at k; cases k
    dd := fun k _ e => by obtain ⟨_, _, _, h3, _⟩ := h.el k; have := h3.lt; omega }
theorem PL.cv (h : PL w8 vx KeyOk LT ln Good rx rk rl rt rc rd sx sk sl st sc sd gL gl w) (ht : rt = true) (hc : rc = false) {fr : Nat × Nat} (h1 : w'.heap[gl]? = some (.cells #[.int .u8 97] 5 fr)) (hg : w.grownBy w' (some gl)) :
    PL w8 vx KeyOk LT ln Good rx rk rl rt true rd sx sk sl st (.slice (some ⟨gl, 0, none⟩) 1 1) sd gL gl w' :=
  { h with
    bl := h.bl.grown hg h.bl.size fun x hx => by have := (h.et ht).2.1; have := Option.some.inj hx; omega
    el := fun k => by obtain ⟨cs, h1, h2, h3, h4⟩ := h.el k; exact ⟨cs, h1, h2, h3.grown hg fun e => h.dd k ht (Option.some.inj e).symm, h4⟩
    et := fun k => ⟨(h.et k).1, (h.et k).2.1, fr, h1, fun e => by cases e⟩
    ec := fun _ => ⟨ht, rfl⟩
    ed := fun k => by have := (h.ed k).1; rw [hc] at this; cases this }
theorem PL.kd (h : PL w8 vx KeyOk LT ln Good rx rk rl rt rc rd sx sk sl st sc sd gL gl w) (hc : rc = true) (hb : Below w.heap.size w w') {u : Value} (tv : TV w' (fun b => w.heap.size ≤ b ∧ b < w'.heap.size) 2 u exD) : PL w8 vx KeyOk LT ln Good rx rk rl rt rc true sx sk sl st sc u gL gl w' :=
  { h.below hb with ed := fun _ => ⟨hc, tv.mono fun b hb => hb.2⟩ }
theorem PL.conv (h : PL w8 vx KeyOk LT ln Good rx rk rl rt rc rd sx sk sl st sc sd gL gl w) (ht : rt = true) (hc : rc = false) :
    ∃ w', (convert 33 33 (.slice (some ⟨gl, 0, none⟩) 1 1)).run Tryd.prog w = .ok (.slice (some ⟨gl, 0, none⟩) 1 1) w' ∧ PL w8 vx KeyOk LT ln Good rx rk rl rt true rd sx sk sl st (.slice (some ⟨gl, 0, none⟩) 1 1) sd gL gl w' := by
  obtain ⟨_, _, fr, h3, h4⟩ := h.et ht
  rw [h4 hc] at h3
  obtain ⟨w', r1, r2, r3⟩ := run_conv_lit w 33 5 gl _ 1 1 Tryd.underlying33 Tryd.underlying5 h3
  exact ⟨w', r1, h.cv ht hc r2 r3⟩
theorem PL.bs (h : PL w8 vx KeyOk LT ln Good rx rk rl rt rc rd sx sk sl st sc sd gL gl w) (hc : rc = true) : BS w (fun b => b < w.heap.size) (.slice (some ⟨gl, 0, none⟩) 1 1) [97] := by
  obtain ⟨_, _, fr, h3, _⟩ := h.et (h.ec hc).1
  have hl := (Array.getElem?_eq_some_iff.1 h3).1
  refine ⟨_, 1, rfl, Nat.le_refl _, by simp [maxLen], (fun h => by cases h), fun _ => ⟨gl, 0, rfl, hl, hl, fun j u hu => ?_⟩⟩
  rw [Nat.zero_add, cell_of_row w gl j _ _ fr h3]
  match j, hu with
  | 0, hu => simp at hu; subst hu; rfl
end

theorem num6_any (n : Int) (w : World) (hn : I64 n) : Calls Tryd.prog 11 #[.int .i64 n] w fun e w' => e = .returned (.int .i64 n) ∧ w = w' := by
  have h1 := hn.1
  have h2 := hn.2
  have W : wrap64 n = n := IntWalk.wrap64_in _ ⟨h1, h2⟩
  go_enter Tryd.func11, Tryd.ntmps11
  go_wp2
  go_ret
  exact ⟨rfl, rfl⟩
theorem US_one {w : World} {g : Nat} (k : KB w g 32 #[.int .u64 7]) : US w (fun b => b < w.heap.size) (.slice (some ⟨g, 0, none⟩) 1 1) [7] := by
  refine ⟨_, 1, rfl, Nat.le_refl _, by simp [maxLen], (fun h => by cases h), fun n hn => by simp at hn; omega, fun _ => ⟨g, 0, rfl, k.lt, k.lt, fun i n hi => ?_⟩⟩
  match i, hi with
  | 0, hi => simp at hi; subst hi; exact k.cell 0

/-- Two terms in a row. -/
theorem KS_two {w : World} {g : Nat} {x0 x1 x2 x3 y0 y1 y2 y3 : Value} (k : KB w g 35 #[x0, x1, x2, x3, y0, y1, y2, y3]) (hx : TM w (fun b => b < w.heap.size) 2 exX x0 x1 x2 x3) (hy : TM w (fun b => b < w.heap.size) 2 exK y0 y1 y2 y3) :
    KS w (fun b => b < w.heap.size) (TM w (fun b => b < w.heap.size) 2) (.slice (some ⟨g, 0, none⟩) 2 2) [exX, exK] := by
  refine ⟨_, 2, rfl, Nat.le_refl _, by simp [maxLen], (fun h => by cases h), fun _ => ⟨g, 0, rfl, k.lt, k.lt, fun i u hu => ?_⟩⟩
  match i, hu with
  | 0, hu => simp at hu; subst hu; exact ⟨_, _, _, _, k.cell 0, k.cell 1, k.cell 2, k.cell 3, hx⟩
  | 1, hu => simp at hu; subst hu; exact ⟨_, _, _, _, k.cell 4, k.cell 5, k.cell 6, k.cell 7, hy⟩
theorem KS_sing {w : World} {g : Nat} {x0 x1 x2 x3 : Value} (k : KB w g 35 #[x0, x1, x2, x3]) (hx : TM w (fun b => b < w.heap.size) 2 exX x0 x1 x2 x3) :
    KS w (fun b => b < w.heap.size) (TM w (fun b => b < w.heap.size) 2) (.slice (some ⟨g, 0, none⟩) 1 1) [exX] := by
  refine ⟨_, 1, rfl, Nat.le_refl _, by simp [maxLen], (fun h => by cases h), fun _ => ⟨g, 0, rfl, k.lt, k.lt, fun i u hu => ?_⟩⟩
  match i, hu with
  | 0, hu => simp at hu; subst hu; exact ⟨_, _, _, _, k.cell 0, k.cell 1, k.cell 2, k.cell 3, hx⟩
end Go.Proofs.YthgaljgelngmaaaDoor
end
