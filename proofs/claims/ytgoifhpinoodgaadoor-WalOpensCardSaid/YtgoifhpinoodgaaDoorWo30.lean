/-
  WaJ: inOrder, over the loaded program, for every functions whose contracts are known: steps, up to the first one that has an error. No condition but what it names.
  WaK: What Open does, step by step, over the loaded program: its four functions; what stands in memory between them. No condition but what each theorem names (the table roots among it).
-/
import Derived.Test.YtgoifhpinoodgaaDoorWo29
import Derived.Shelf.Abstract

section
namespace Go.Proofs.YtgoifhpinoodgaaDoor
open Go.RowKit
set_option maxRecDepth 100000
set_option linter.unusedVariables false

/-- A function, with what it has captured. -/
abbrev Fn2 := Nat × Array Value
def fnV (q : Fn2) : Value := .func (.func q.1) #[] q.2
def Runs (q : Fn2) : Prop := ∀ (args : Array Value) (w : World), (callFunc q.1 args).run Tryd.prog w = .ok (.enter q.1 args) w

theorem inOrder_any (fs : List Fn2) (b : Nat) (w : World) (I : Nat → World → Prop) (Er : Int → World → Prop) (hl : fs.length ≤ 1000) (hI : I 0 w)
    (hrun : ∀ q ∈ fs, Runs q) (hk : ∀ j W, I j W → KB W b 43 (fs.map fnV).toArray)
    (hstep : ∀ j q W, fs[j]? = some q → I j W → Calls Tryd.prog q.1 q.2 W fun e W' => ∃ x : Int, e = .returned (.int .i64 x) ∧ (x = 0 → I (j + 1) W') ∧ (x ≠ 0 → Er x W')) :
    Calls Tryd.prog 39 #[.slice (some ⟨b, 0, none⟩) fs.length fs.length] w fun e w' => ∃ x : Int, e = .returned (.int .i64 x) ∧ (x = 0 → I fs.length w') ∧ (x ≠ 0 → Er x w') := by
  have HK := Lib.hid hk
  have HS := Lib.hid hstep
  have HR := Lib.hid hrun
  have hlen : fs.length ≤ 9223372036854775807 := by omega
  clear hk hstep hrun
  go_enter Tryd.func39, Tryd.ntmps39
  go_wp2
  go_loopw [8] (fun iv wr => ∃ j : Nat, j ≤ fs.length ∧ iv = .int .i64 j ∧ Hid (I j wr)) (fun iv _ => fs.length - (intOf iv).toNat)
  case atStart => exact ⟨0, by omega, rfl, hI⟩
  case round =>
    obtain ⟨j, hj, rfl, HI⟩ := hrel
    by_cases hlt : j < fs.length
    · obtain ⟨⟨F, caps⟩, hq⟩ : ∃ q, fs[j]? = some q := ⟨_, List.getElem?_eq_getElem hlt⟩
      have hrun := HR.out _ (List.mem_of_getElem? hq)
      unfold Runs at hrun
      have c0 := (HK.out _ _ HI.out).cell j
      have e0 : (fs.map fnV).toArray[j]? = some (.func (.func F) #[] caps) := by rw [List.getElem?_toArray, List.getElem?_map, hq]; rfl
      rw [e0] at c0
      have hs := HS.out j _ wr hq HI.out
      dsimp only at hs hrun
      clear hq e0
      go_wp2_with fail
      refine hs.mono ?_
      rintro e w5 ⟨x, rfl, h1, h2⟩
      have H1 := Lib.hid h1
      have H2 := Lib.hid h2
      clear hs h1 h2 c0
      by_cases hx : x = 0
      · subst hx
        have HI2 : Hid (I (j + 1) w5) := H1.out (by trivial)
        clear H1 H2
        go_wp2_with fail
        go_roundw
        case rel => exact ⟨j + 1, by omega, by go_num, HI2⟩
        case measure => simp [intOf]; omega
      · have hx1 : (x == 0) = false := by simpa using hx
        have hx2 : (x != 0) = true := by simpa using hx
        have HX := Lib.hid hx
        clear hx
        go_wp2_with fail
        go_ret
        exact ⟨x, rfl, fun h => absurd h HX.out, H2.out⟩
    · obtain rfl : j = fs.length := by omega
      go_wp2_with fail
      go_ret
      exact ⟨0, rfl, fun _ => HI.out, fun h => absurd rfl h⟩
end Go.Proofs.YtgoifhpinoodgaaDoor
end

section
namespace Go.Proofs.YtgoifhpinoodgaaDoor
open Go.RowKit
set_option maxRecDepth 100000
set_option linter.unusedVariables false

section
variable {w : World} {lg n b3 b9 b10 : Nat} {p : DA} {br : Bool} {s : Dk} {v0 : Value}
theorem open1_any (h9 : KB w b9 47 #[.pointer (some ⟨lg, 0, none⟩)]) (h10 : KB w b10 25 #[v0]) (hg : LG w lg p n br) (hd : DS w p s) (hn1 : 1 ≤ n) (hn : n + 1 ≤ s.safe.length) (ht : Tab w) :
    Calls Tryd.prog 40 #[.pointer (some ⟨b9, 0, none⟩), .pointer (some ⟨b10, 0, none⟩)] w fun e w' =>
      ∃ v', e = .returned (.int .i64 (if s.fuse = 0 then 8 else 0)) ∧ KB w' b10 25 #[v'] ∧ (s.fuse ≠ 0 → PS w' (fun x => w.heap.size ≤ x ∧ x < w'.heap.size) v' (leftP n s)) ∧ KeepP (fun x => x < w.heap.size ∧ x ≠ b10) w w' := by
  have few := hd.ok.few
  have c9 := h9.cell 0
  have e9 : (#[Value.pointer (some ⟨lg, 0, none⟩)] : Array Value)[0]? = some (.pointer (some ⟨lg, 0, none⟩)) := rfl
  rw [e9] at c9
  have hb := h10.lt
  by_cases hf : s.fuse = 0
  · have hl := left_dead hg hd (by omega) hf
    rw [if_pos hf]
    have HF := Lib.hid hf
    clear hf hd hg ht few
    go_enter Tryd.func40, Tryd.ntmps40
    go_wp2_with fail
    refine hl.mono ?_
    rintro e w1 ⟨rfl, b1⟩
    have h1 := h10.below b1 hb
    have c1 : w1.cell? ⟨b10, 0, none⟩ = some v0 := h1.cell 0
    have f1 := h1.free 0
    have KP := (KeepP.of_below (P := fun x => x < w.heap.size ∧ x ≠ b10) b1 fun x hx => hx.1).set ⟨b10, 0, none⟩ (fun h => h.2 rfl) (.slice none 0 0)
    have K2 := h1.put 0 (.slice none 0 0)
    go_wp2_with fail
    go_ret
    exact ⟨.slice none 0 0, rfl, K2, fun h => absurd HF.out h, KP⟩
  · have hl := left_live hg hd hn1 hn ht hf
    rw [if_neg hf]
    generalize leftP n s = ps0 at *
    clear hf hd hg ht few
    go_enter Tryd.func40, Tryd.ntmps40
    go_wp2_with fail
    refine hl.mono ?_
    rintro e w1 ⟨v', rfl, ps, b1⟩
    have h1 := h10.below b1 hb
    have c1 : w1.cell? ⟨b10, 0, none⟩ = some v0 := h1.cell 0
    have f1 := h1.free 0
    obtain ⟨A, c, rfl, _⟩ := ps.form
    have hs : (w1.setCell ⟨b10, 0, none⟩ (.slice A ps0.length c)).heap.size = w1.heap.size := by simp [World.setCell]
    have KP := (KeepP.of_below (P := fun x => x < w.heap.size ∧ x ≠ b10) b1 fun x hx => hx.1).set ⟨b10, 0, none⟩ (fun h => h.2 rfl) (.slice A ps0.length c)
    have K2 := h1.put 0 (.slice A ps0.length c)
    have P2 := ps.keepS (w' := w1.setCell ⟨b10, 0, none⟩ (.slice A ps0.length c)) (S' := fun x => w.heap.size ≤ x ∧ x < (w1.setCell ⟨b10, 0, none⟩ (.slice A ps0.length c)).heap.size) (by rw [hs]; exact Nat.le_refl _)
      (fun b hb' _ => Below.heap_setCell _ ⟨b10, 0, none⟩ _ b (by have := hb'.1; show b ≠ b10; omega)) (fun b hb' => by rw [hs]; exact hb')
    go_wp2_with fail
    go_ret
    exact ⟨_, rfl, K2, fun _ => P2, KP⟩

theorem open2_any {ps : List Pt} (h9 : KB w b9 47 #[.pointer (some ⟨lg, 0, none⟩)]) (h10 : KB w b10 25 #[v0]) (hg : LG w lg p n br) (hgp : ¬ p.has lg) (hd : DS w p s) (h : PS w (Off p w) v0 ps) (hfit : Fit s.safe.length ps) :
    Calls Tryd.prog 42 #[.pointer (some ⟨b9, 0, none⟩), .pointer (some ⟨b10, 0, none⟩)] w fun e w' => e = .returned (.int .i64 (doD ps s).2) ∧ DS w' p (doD ps s).1 ∧ KeepP (Off p w) w w' := by
  have c9 : w.cell? ⟨b9, 0, none⟩ = some (.pointer (some ⟨lg, 0, none⟩)) := h9.cell 0
  have c10 : w.cell? ⟨b10, 0, none⟩ = some v0 := h10.cell 0
  have hw := lwrite_any v0 ps w hg hgp hd h hfit
  obtain ⟨A, c, rfl, _⟩ := h.form
  generalize ps.length = m at *
  go_enter Tryd.func42, Tryd.ntmps42
  go_wp2_with fail
  refine hw.mono ?_
  rintro e w1 ⟨rfl, d1, k1⟩
  go_wp2_with fail
  go_ret
  exact ⟨rfl, d1, k1⟩
theorem open3_any (h9 : KB w b9 47 #[.pointer (some ⟨lg, 0, none⟩)]) (hg : LG w lg p n br) (hgp : ¬ p.has lg) (hd : DS w p s) :
    Calls Tryd.prog 44 #[.pointer (some ⟨b9, 0, none⟩)] w fun e w' => e = .returned (.int .i64 (wipeD 0 0 s).2) ∧ DS w' p (wipeD 0 0 s).1 ∧ KeepP (Off p w) w w' := by
  have c9 : w.cell? ⟨b9, 0, none⟩ = some (.pointer (some ⟨lg, 0, none⟩)) := h9.cell 0
  have hw := wipe_any hg hgp hd 0 0 (Nat.le_refl _) hd.ok.some_
  go_enter Tryd.func44, Tryd.ntmps44
  go_wp2_with fail
  refine hw.mono ?_
  rintro e w1 ⟨rfl, d1, k1⟩
  go_wp2_with fail
  go_ret
  exact ⟨rfl, d1, k1⟩
theorem open4_any (h9 : KB w b9 47 #[.pointer (some ⟨lg, 0, none⟩)]) (h3 : KB w b3 3 #[.int .i64 n]) (hg : LG w lg p n br) (hgp : ¬ p.has lg) (hd : DS w p s) (hn1 : 1 ≤ n) (hn : n < s.safe.length) :
    Calls Tryd.prog 46 #[.pointer (some ⟨b9, 0, none⟩), .pointer (some ⟨b3, 0, none⟩)] w fun e w' => e = .returned (.int .i64 (wipeD 1 n s).2) ∧ DS w' p (wipeD 1 n s).1 ∧ KeepP (Off p w) w w' := by
  have c9 : w.cell? ⟨b9, 0, none⟩ = some (.pointer (some ⟨lg, 0, none⟩)) := h9.cell 0
  have c3 : w.cell? ⟨b3, 0, none⟩ = some (.int .i64 n) := h3.cell 0
  have hw := wipe_any hg hgp hd 1 n hn1 hn
  go_enter Tryd.func46, Tryd.ntmps46
  go_wp2_with fail
  refine hw.mono ?_
  rintro e w1 ⟨rfl, d1, k1⟩
  go_wp2_with fail
  go_ret
  exact ⟨rfl, d1, k1⟩
end

/-- The four functions. -/
def openFs (b3 b9 b10 : Nat) : List Fn2 :=
  [(40, #[.pointer (some ⟨b9, 0, none⟩), .pointer (some ⟨b10, 0, none⟩)]), (42, #[.pointer (some ⟨b9, 0, none⟩), .pointer (some ⟨b10, 0, none⟩)]),
   (44, #[.pointer (some ⟨b9, 0, none⟩)]), (46, #[.pointer (some ⟨b9, 0, none⟩), .pointer (some ⟨b3, 0, none⟩)])]
theorem openFs_run (b3 b9 b10 : Nat) : ∀ q ∈ openFs b3 b9 b10, Runs q := by
  intro q hq args w
  simp [openFs] at hq
  rcases hq with rfl | rfl | rfl | rfl
  · exact enters_of Tryd.func40 (by kernel_rfl) rfl args w
  · exact enters_of Tryd.func42 (by kernel_rfl) rfl args w
  · exact enters_of Tryd.func44 (by kernel_rfl) rfl args w
  · exact enters_of Tryd.func46 (by kernel_rfl) rfl args w

/-- What stands in memory between the steps. -/
structure OC (w W : World) (p : DA) (lg n b b3 b9 b10 : Nat) : Prop where
  kf : KB W b 43 ((openFs b3 b9 b10).map fnV).toArray
  k3 : KB W b3 3 #[.int .i64 n]
  k9 : KB W b9 47 #[.pointer (some ⟨lg, 0, none⟩)]
  lg : LG W lg p n false
  tab : Tab W
  kp : KeepP (Off p w) w W
/-- Where these lie. -/
structure OA (w : World) (p : DA) (lg b b3 b9 b10 : Nat) : Prop where
  nb : ¬ p.has b ∧ b ≠ b10 ∧ w.heap.size ≤ b
  n3 : ¬ p.has b3 ∧ b3 ≠ b10 ∧ w.heap.size ≤ b3
  n9 : ¬ p.has b9 ∧ b9 ≠ b10 ∧ w.heap.size ≤ b9
  nl : ¬ p.has lg ∧ lg ≠ b10 ∧ w.heap.size ≤ lg
  nz : ¬ p.has b10 ∧ w.heap.size ≤ b10
  nt : ¬ p.has 0 ∧ 0 < w.heap.size
section
variable {w W W' : World} {p : DA} {lg n b b3 b9 b10 : Nat}
theorem OC.step (h : OC w W p lg n b b3 b9 b10) (a : OA w p lg b b3 b9 b10) (k : KeepP (fun x => Off p W x ∧ x ≠ b10) W W') : OC w W' p lg n b b3 b9 b10 := by
  have hs := h.kp.size
  have ht : Off p W 0 ∧ 0 ≠ b10 := ⟨⟨by have := a.nt.2; omega, a.nt.1⟩, by have := a.nt.2; have := a.nz.2; omega⟩
  exact ⟨h.kf.keepP k ⟨⟨h.kf.lt, a.nb.1⟩, a.nb.2.1⟩, h.k3.keepP k ⟨⟨h.k3.lt, a.n3.1⟩, a.n3.2.1⟩, h.k9.keepP k ⟨⟨h.k9.lt, a.n9.1⟩, a.n9.2.1⟩, h.lg.keepP k ⟨⟨KB.lt h.lg, a.nl.1⟩, a.nl.2.1⟩,
    h.tab.keep k.size (k.block _ ht), h.kp.trans (k.mono fun x hx => ⟨⟨by have := hx.1; omega, hx.2⟩, by have := hx.1; have := a.nz.2; omega⟩)⟩
theorem OC.disk (h : OC w W p lg n b b3 b9 b10) (a : OA w p lg b b3 b9 b10) (k : KeepP (Off p W) W W') : OC w W' p lg n b b3 b9 b10 := h.step a (k.mono fun x hx => hx.1)
end
end Go.Proofs.YtgoifhpinoodgaaDoor
end
