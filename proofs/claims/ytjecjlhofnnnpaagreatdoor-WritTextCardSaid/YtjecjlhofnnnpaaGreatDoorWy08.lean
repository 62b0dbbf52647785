/-
  WtI: What stands with a word between (layer 21): where reading stands, round by round. Plain mathematics, and what memory says of it. No program. No condition.
  WvA: The program's reader (layer 21) in memory: words left, how deep, whether it failed; next, found, fail: over the loaded program: each one's contract. No condition.
-/
import Derived.Test.YtjecjlhofnnnpaaGreatDoorWy07
set_option linter.unusedVariables false
set_option maxRecDepth 100000
namespace Go.Proofs.YtjecjlhofnnnpaaGreatDoor
section
open Go.RowKit
def SoV {α : Type} (g : List Wv → Option (α × List Wv)) (s : Wv) (r : Option (List α × List Wv)) (st : Option (List Wv)) (ks : List α) : Prop := r = st.bind fun l => (manyL g s l).map fun p => (ks ++ p.1, p.2)
section
variable {α : Type} {g : List Wv → Option (α × List Wv)} {s : Wv} {r : Option (List α × List Wv)} {st : Option (List Wv)} {ks : List α}
theorem SoV.start (g : List Wv → Option (α × List Wv)) (s : Wv) (st : Option (List Wv)) : SoV g s (st.bind (manyL g s)) st [] := by
  unfold SoV
  cases st with
  | none => rfl
  | some l =>
    simp only [Option.bind_some]
    cases manyL g s l with
    | none => rfl
    | some p => rfl
theorem SoV.fin (hg : Shrinks g) (h : SoV g s r st ks) (x : α) (hx : ∀ p, st.bind g = some p → x = p.1) (ha : aheadW ((st.bind g).map (·.2)) s = false) : r.map (·.2) = (st.bind g).map (·.2) ∧ ∀ p, r = some p → ks ++ [x] = p.1 := by
  unfold SoV at h
  subst h
  cases st with
  | none => exact ⟨rfl, fun p e => by cases e⟩
  | some l =>
    simp only [Option.bind_some] at hx ha ⊢
    rw [manyL_eq hg l]
    cases hq : g l with
    | none => exact ⟨rfl, fun p e => by cases e⟩
    | some y =>
      obtain ⟨y, rest⟩ := y
      rw [hq] at ha hx
      obtain rfl := hx _ rfl
      cases rest with
      | nil => exact ⟨rfl, fun p e => by injection e with e; rw [← e]⟩
      | cons u rest =>
        have hu : ¬ u = s := of_decide_eq_false ha
        dsimp only
        rw [if_neg hu]
        exact ⟨rfl, fun p e => by injection e with e; rw [← e]⟩
theorem SoV.go (hg : Shrinks g) (h : SoV g s r st ks) (x : α) (hx : ∀ p, st.bind g = some p → x = p.1) (ha : aheadW ((st.bind g).map (·.2)) s = true) :
    ∃ l rest, st = some l ∧ (st.bind g).map (·.2) = some (s :: rest) ∧ rest.length + 1 < l.length ∧ SoV g s r (some rest) (ks ++ [x]) := by
  cases st with
  | none => cases ha
  | some l =>
    simp only [Option.bind_some] at hx ha ⊢
    cases hq : g l with
    | none => rw [hq] at ha; cases ha
    | some y =>
      obtain ⟨y, rest⟩ := y
      rw [hq] at ha hx
      obtain rfl := hx _ rfl
      cases rest with
      | nil => cases ha
      | cons u rest =>
        have hu : u = s := of_decide_eq_true ha
        subst hu
        refine ⟨l, rest, rfl, rfl, hg _ _ _ hq, ?_⟩
        unfold SoV at h ⊢
        rw [h]
        simp only [Option.bind_some]
        rw [manyL_eq hg l, hq]
        dsimp only
        rw [if_pos rfl]
        cases manyL g u rest with
        | none => rfl
        | some p => simp
end
theorem one_many {f : Nat} (op : Int) {l : List (Sc f)} (h : ¬ l.length = 1) : oneV op l = (⟨op, [], 0, 0, l⟩ : Ns (Sc f)) := by
  match l, h with
  | [], _ => rfl
  | [x], h => exact absurd rfl h
  | _ :: _ :: _, _ => rfl
theorem one_one {f : Nat} (op : Int) {l : List (Sc f)} (h : 0 < l.length) (h1 : l.length = 1) : oneV op l = liftS f l[0] := by
  match l, h1 with
  | [x], _ => rfl
def leftN (w : World) (g : Nat) : Nat := match w.cell? ⟨g, 0, none⟩ with
  | some (.slice _ n _) => n
  | _ => 0
theorem SW.leftN {w : World} {g : Nat} {S : Nat → Prop} {l : List Wv} (h : SW w g S (some l)) : leftN w g = l.length := by
  obtain ⟨A, n, c, ws, h1, h2, h3, h4, h5⟩ := h
  obtain rfl := h5 _ rfl
  obtain ⟨A', c', e, _⟩ := h2.form
  injection e with e1 e2 e3
  have := h1.cell 0
  unfold Go.Proofs.YtjecjlhofnnnpaaGreatDoor.leftN
  rw [this, e2]
  simp
theorem kids_ZX {w : World} {B f : Nat} {op : Int} {v : Value} {qs : List QuZ} {ks : List (Sc f)} (hI : I64 op) (how : w.ownsRow (B + 2) 24 5 v qs.length (flatZ qs)) (hq : QZ w (SNZ (B + 1) w v) f qs ks) (hn : ¬ ks.length = 1) :
    ZX w (fun b => B < b ∧ b < w.heap.size) (f + 1) (oneV op ks : Sc (f + 1)) (.int .i64 op) (.string ⟨#[]⟩) (.int .i64 0) (.int .i64 0) v := by
  rw [one_many op hn]
  have h : ZX w (fun b => B + 1 < b) (f + 1) (⟨op, [], 0, 0, ks⟩ : Ns (Sc f)) (.int .i64 op) (strV []) (.int .i64 0) (.int .i64 0) v := ⟨rfl, hI, rfl, by simp [maxLen], rfl, by show I64 0; unfold I64; omega, rfl, by show I64 0; unfold I64; omega, ZS_of_own how (hq.mono fun b h => h.1) fun b hb _ => by omega⟩
  exact (ZX.lt _ _ _ _ _ _ _ h).mono fun b hb => ⟨by omega, hb.2⟩
theorem kid_alone {w : World} {B f : Nat} {op : Int} {A : Option Addr} {c n : Nat} {qs : List QuZ} {ks : List (Sc f)} (how : w.ownsRow (B + 2) 24 5 (.slice A n c) qs.length (flatZ qs)) (hq : QZ w (SNZ (B + 1) w (.slice A n c)) f qs ks) (hn : ks.length = 1) :
    ∃ b o e0 e1 e2 e3 e4, A = some ⟨b, o, none⟩ ∧ w.cell? ⟨b, o, none⟩ = some e0 ∧ w.cell? ⟨b, o + 1, none⟩ = some e1 ∧ w.cell? ⟨b, o + 2, none⟩ = some e2 ∧ w.cell? ⟨b, o + 3, none⟩ = some e3 ∧ w.cell? ⟨b, o + 4, none⟩ = some e4 ∧
      ZX w (fun b => B < b ∧ b < w.heap.size) (f + 1) (oneV op ks : Sc (f + 1)) e0 e1 e2 e3 e4 := by
  have hz := ZS_of_own (S := fun b => B + 1 < b) how (hq.mono fun b h => h.1) fun b hb _ => by omega
  obtain ⟨A', c', e, _⟩ := hz.form
  injection e with _ e2 _
  obtain ⟨b, o, e0, e1, e2, e3, e4, ea, _, k0, k1, k2, k3, k4, kx⟩ := kid_z hz e2.symm (Nat.le_refl _) (fun _ _ _ => rfl) 0 (by omega)
  simp only [Nat.zero_mul, Nat.add_zero] at k0 k1 k2 k3 k4
  refine ⟨b, o, e0, e1, e2, e3, e4, ea, k0, k1, k2, k3, k4, ?_⟩
  rw [one_one op (by omega) hn]
  exact ((ZX.lt _ _ _ _ _ _ _ kx).mono fun b hb => ⟨by omega, hb.2⟩).lifted
end
section
open Go.RowKit
def PW (w : World) (g : Nat) (S : Nat → Prop) (st : Option (List Wv)) (k : Int) : Prop :=
  ∃ A n c, KB w g 45 #[.slice A n c, .int .i64 k, .bool st.isNone] ∧ CS w S (.slice A n c) ((st.getD []).map strV) ∧ ¬ S g ∧ (∀ u ∈ st.getD [], u.length ≤ 1000) ∧ TabsG w g
section
variable {w w' : World} {g : Nat} {S : Nat → Prop} {st : Option (List Wv)} {k : Int}
theorem PW.keep (h : PW w g S st k) (hs : w.heap.size ≤ w'.heap.size) (hg : w'.heap[g]? = w.heap[g]?) (hk : ∀ b, S b → b < w.heap.size → w'.heap[b]? = w.heap[b]?) (ht : TabsG w g → TabsG w' g) : PW w' g S st k := by
  obtain ⟨A, n, c, h1, h2, h3, h4, h5⟩ := h
  exact ⟨A, n, c, h1.keep hg, h2.keep hs hk, h3, h4, ht h5⟩
theorem PW.lt (h : PW w g S st k) : g < w.heap.size := by
  obtain ⟨_, _, _, h1, _⟩ := h
  exact h1.lt
theorem PW.tabs (h : PW w g S st k) : Tabs w := by
  obtain ⟨_, _, _, _, _, _, _, h5⟩ := h
  exact h5.tabs
theorem PW.below (h : PW w g S st k) (hb : Below w.heap.size w w') : PW w' g S st k := h.keep hb.size (hb.block g h.lt) (fun b _ hl => hb.block b hl) fun t => t.below hb
theorem PW.alloc (h : PW w g S st k) (o : Obj) : PW (w.alloc o) g S st k := h.below ((Below.refl _ _).alloc (Nat.le_refl _) o)
theorem PW.grownX {row : Option Nat} (h : PW w g S st k) (hg : w.grownBy w' row) (hr : ∀ x, row = some x → g < x ∧ ¬ S x) : PW w' g S st k :=
  h.keep hg.size (hg.block g h.lt (fun e => by have := (hr g e.symm).1; omega)) (fun b sb hb => hg.block b hb (fun e => (hr b e.symm).2 sb)) fun t => t.grownX hg fun x e => Nat.le_of_lt (hr x e).1
theorem PW.far {h i : Nat} {u : Value} (r : PW w g S st k) (hne : g < h) (hS : ¬ S h) : PW (w.setCell ⟨h, i, none⟩ u) g S st k :=
  r.grownX (grown_set w h i u) fun x e => by injection e with e; subst e; exact ⟨hne, hS⟩
theorem PW.cells (h : PW w g S st k) : (∃ A c, w.cell? ⟨g, 0, none⟩ = some (.slice A (st.getD []).length c)) ∧ w.cell? ⟨g, 1, none⟩ = some (.int .i64 k) ∧ w.cell? ⟨g, 2, none⟩ = some (.bool st.isNone) ∧ w.frozen? ⟨g, 0, none⟩ = false ∧ w.frozen? ⟨g, 1, none⟩ = false ∧ w.frozen? ⟨g, 2, none⟩ = false := by
  obtain ⟨A, n, c, h1, h2, _⟩ := h
  obtain ⟨A', c', e, _⟩ := h2.form
  injection e with e1 e2 e3
  rw [List.length_map] at e2
  subst e2
  exact ⟨⟨A, c, h1.cell 0⟩, h1.cell 1, h1.cell 2, h1.free 0, h1.free 1, h1.free 2⟩
theorem PW.deep (h : PW w g S st k) (k' : Int) : PW (w.setCell ⟨g, 1, none⟩ (.int .i64 k')) g S st k' := by
  obtain ⟨A, n, c, h1, h2, h3, h4, h5⟩ := h
  exact ⟨A, n, c, h1.put 1 _, h2.keep (by simp [World.setCell]) (fun b sb _ => Below.heap_setCell w ⟨g, 1, none⟩ (.int .i64 k') b (fun e => h3 (by have e : b = g := e; rw [← e]; exact sb))), h3, h4, h5.set (Nat.le_refl _)⟩
theorem PW.left (h : PW w g S st k) : leftN w g = (st.getD []).length := by
  obtain ⟨⟨A, c, c0⟩, _⟩ := h.cells
  unfold leftN
  rw [c0]
end
def nextW : Option (List Wv) → Wv × Option (List Wv)
  | some (u :: l) => (u, some l)
  | st => ([], st)
theorem nextW_len (st : Option (List Wv)) : ((nextW st).2.getD []).length ≤ (st.getD []).length := by
  rcases st with _ | _ | ⟨u, l⟩
  · exact Nat.le_refl _
  · exact Nat.le_refl _
  · simp [nextW]
theorem PW.drop {w : World} {g : Nat} {S : Nat → Prop} {u : Wv} {l : List Wv} {k : Int} (h : PW w g S (some (u :: l)) k) :
    ∃ b o c, w.cell? ⟨g, 0, none⟩ = some (.slice (some ⟨b, o, none⟩) (l.length + 1) c) ∧ w.cell? ⟨b, o, none⟩ = some (strV u) ∧ l.length + 1 ≤ c ∧ c ≤ maxLen ∧ b ≠ g ∧
      PW (w.setCell ⟨g, 0, none⟩ (.slice (some (if c = 1 then ⟨b, o, none⟩ else ⟨b, o + 1, none⟩)) l.length (c - 1))) g S (some l) k := by
  obtain ⟨A, n, c, h1, h2, h3, h4, h5⟩ := h
  have h2 : CS w S (.slice A n c) ((u :: l).map strV) := h2
  obtain ⟨b, o, rfl, sb, hb, hx⟩ := h2.at_ (by simp)
  have hu : w.cell? ⟨b, o, none⟩ = some (strV u) := hx 0 (strV u) rfl
  obtain ⟨A', c', e, hl, hc⟩ := h2.form
  injection e with e1 e2 e3
  subst e1 e2 e3
  have hd := h2.drop1
  have hn : ((u :: l).map strV).length = l.length + 1 := by simp
  rw [hn] at hl hd h1
  refine ⟨b, o, c, h1.cell 0, hu, hl, hc, fun e => h3 (e ▸ sb), _, _, _, h1.put 0 _, ?_, h3, (fun v hv => h4 v (List.mem_cons_of_mem _ hv)), h5.set (Nat.le_refl _)⟩
  exact hd.keep (by simp [World.setCell]) fun x sx _ => Below.heap_setCell w ⟨g, 0, none⟩ _ x (fun e => h3 (by have e : x = g := e; rw [← e]; exact sx))
set_option maxHeartbeats 4000000 in
theorem pnext_any (g : Nat) (S : Nat → Prop) (st : Option (List Wv)) (k : Int) (w : World) (h : PW w g S st k) :
    Calls Tryz.prog 59 #[.pointer (some ⟨g, 0, none⟩)] w fun e w' => e = .returned (strV (nextW st).1) ∧ PW w' g S (nextW st).2 k ∧ w.grownBy w' (some g) := by
  have hnone : (st.getD []).length = 0 → nextW st = ([], st) := by
    intro hl
    rcases st with _ | _ | ⟨u, l⟩
    · rfl
    · rfl
    · simp at hl
  rcases hst : st with _ | _ | ⟨u, l⟩
  · subst hst
    obtain ⟨⟨A, c, c0⟩, _⟩ := h.cells
    have c0 : w.cell? ⟨g, 0, none⟩ = some (.slice A 0 c) := c0
    have hf := Lib.hid h
    clear h hnone
    go_enter Tryz.func59, Tryz.ntmps59
    go_wp2_with fail
    go_ret
    exact ⟨rfl, hf.out, World.grownBy.refl w _⟩
  · subst hst
    obtain ⟨⟨A, c, c0⟩, _⟩ := h.cells
    have c0 : w.cell? ⟨g, 0, none⟩ = some (.slice A 0 c) := c0
    have hf := Lib.hid h
    clear h hnone
    go_enter Tryz.func59, Tryz.ntmps59
    go_wp2_with fail
    go_ret
    exact ⟨rfl, hf.out, World.grownBy.refl w _⟩
  · subst hst
    have f0 := h.cells.2.2.2.1
    obtain ⟨b, o, c, c0, hu, hl, hc, hne, hd⟩ := h.drop
    have HN := Lib.hid hd
    have HG := Lib.hid (grown_set w g 0 (.slice (some (if c = 1 then ⟨b, o, none⟩ else ⟨b, o + 1, none⟩)) l.length (c - 1)))
    have hlI : (1 : Int) ≤ (c : Int) := by omega
    have hl1 : 1 ≤ c := by omega
    have hnm : c ≤ 9223372036854775807 := by unfold maxLen at hc; omega
    clear h hd hnone
    show Calls _ _ _ _ fun e w' => e = .returned (strV u) ∧ PW w' g S (some l) k ∧ w.grownBy w' (some g)
    unfold strV at *
    generalize (⟨u.toArray⟩ : ByteArray) = s at *
    by_cases hc1 : c = 1
    · subst hc1
      rw [if_pos rfl] at HN HG
      have hl0 : l.length = 0 := by omega
      rw [hl0] at c0 HN HG hl
      clear hl0
      go_enter Tryz.func59, Tryz.ntmps59
      go_wp2_with fail
      go_ret
      exact ⟨rfl, HN.out, HG.out⟩
    · rw [if_neg hc1] at HN HG
      go_enter Tryz.func59, Tryz.ntmps59
      go_wp2_with fail
      go_ret
      exact ⟨rfl, HN.out, HG.out⟩
def foundW (st : Option (List Wv)) (v : Wv) : Option (List Wv) := if aheadW st v = true then (takeW st).2 else st
set_option maxHeartbeats 4000000 in
theorem pfound_any (g : Nat) (S : Nat → Prop) (st : Option (List Wv)) (v : Wv) (k : Int) (w : World) (h : PW w g S st k) :
    Calls Tryz.prog 48 #[.pointer (some ⟨g, 0, none⟩), strV v] w fun e w' => e = .returned (.bool (aheadW st v)) ∧ PW w' g S (foundW st v) k ∧ w.grownBy w' (some g) := by
  rcases hst : st with _ | _ | ⟨u, l⟩
  · subst hst
    obtain ⟨⟨A, c, c0⟩, _⟩ := h.cells
    have c0 : w.cell? ⟨g, 0, none⟩ = some (.slice A 0 c) := c0
    have hf := Lib.hid h
    clear h
    show Calls _ _ _ _ fun e w' => e = .returned (.bool false) ∧ PW w' g S none k ∧ w.grownBy w' (some g)
    unfold strV
    generalize (⟨v.toArray⟩ : ByteArray) = s at *
    go_enter Tryz.func48, Tryz.ntmps48
    go_wp2_with fail
    go_ret
    exact ⟨rfl, hf.out, World.grownBy.refl w _⟩
  · subst hst
    obtain ⟨⟨A, c, c0⟩, _⟩ := h.cells
    have c0 : w.cell? ⟨g, 0, none⟩ = some (.slice A 0 c) := c0
    have hf := Lib.hid h
    clear h
    show Calls _ _ _ _ fun e w' => e = .returned (.bool false) ∧ PW w' g S (some []) k ∧ w.grownBy w' (some g)
    unfold strV
    generalize (⟨v.toArray⟩ : ByteArray) = s at *
    go_enter Tryz.func48, Tryz.ntmps48
    go_wp2_with fail
    go_ret
    exact ⟨rfl, hf.out, World.grownBy.refl w _⟩
  · subst hst
    have f0 := h.cells.2.2.2.1
    obtain ⟨b, o, c, c0, hu, hl, hc, hne, hd⟩ := h.drop
    have HN := Lib.hid hd
    have HH := Lib.hid h
    have HG := Lib.hid (grown_set w g 0 (.slice (some (if c = 1 then ⟨b, o, none⟩ else ⟨b, o + 1, none⟩)) l.length (c - 1)))
    have hlI : (1 : Int) ≤ (c : Int) := by omega
    have hl1 : 1 ≤ c := by omega
    have hnm : c ≤ 9223372036854775807 := by unfold maxLen at hc; omega
    have hpos : (0 : Int) < (l.length : Int) + 1 := by omega
    clear h hd
    show Calls _ _ _ _ fun e w' => e = .returned (.bool (decide (u = v))) ∧ PW w' g S (if decide (u = v) = true then some l else some (u :: l)) k ∧ w.grownBy w' (some g)
    unfold strV at *
    obtain ⟨s, hs⟩ : ∃ s : ByteArray, s = ⟨u.toArray⟩ := ⟨_, rfl⟩
    obtain ⟨s', hs'⟩ : ∃ s : ByteArray, s = ⟨v.toArray⟩ := ⟨_, rfl⟩
    have gq := zne_txt s s' u v hs hs'
    rw [← hs] at hu
    rw [← hs']
    clear hs hs'
    cases hb : decide (u = v) with
    | false =>
      rw [hb] at gq
      replace gq : (s.toList != s'.toList) = true := gq
      rw [if_neg (by simp)]
      have gp := (zeq_prop gq).1 rfl
      have ge : (s.toList == s'.toList) = false := beq_eq_false_iff_ne.2 gp
      clear HN HG
      go_enter Tryz.func48, Tryz.ntmps48
      go_wp2_with fail
      go_ret
      exact ⟨rfl, HH.out, World.grownBy.refl w _⟩
    | true =>
      rw [hb] at gq
      replace gq : (s.toList != s'.toList) = false := gq
      rw [if_pos rfl]
      have gp := (zeq_prop gq).2 rfl
      have ge : (s.toList == s'.toList) = true := beq_iff_eq.2 gp
      clear HH
      by_cases hc1 : c = 1
      · subst hc1
        rw [if_pos rfl] at HN HG
        have hl0 : l.length = 0 := by omega
        rw [hl0] at c0 HN HG hl
        clear hl0
        go_enter Tryz.func48, Tryz.ntmps48
        go_wp2_with fail
        go_ret
        exact ⟨rfl, HN.out, HG.out⟩
      · rw [if_neg hc1] at HN HG
        go_enter Tryz.func48, Tryz.ntmps48
        go_wp2_with fail
        go_ret
        exact ⟨rfl, HN.out, HG.out⟩
theorem PW.failed {w : World} {g : Nat} {S : Nat → Prop} {st : Option (List Wv)} {k : Int} (h : PW w g S st k) : PW ((w.setCell ⟨g, 0, none⟩ (.slice none 0 0)).setCell ⟨g, 2, none⟩ (.bool true)) g S none k := by
  obtain ⟨A, n, c, h1, h2, h3, h4, h5⟩ := h
  exact ⟨none, 0, 0, (h1.put 0 _).put 2 _, CS.nil _ _, h3, (fun u hu => by simp at hu), (h5.set (Nat.le_refl _)).set (Nat.le_refl _)⟩
set_option maxHeartbeats 4000000 in
theorem pfail_any (g : Nat) (S : Nat → Prop) (st : Option (List Wv)) (k : Int) (w : World) (h : PW w g S st k) :
    Calls Tryz.prog 63 #[.pointer (some ⟨g, 0, none⟩)] w fun e w' => e = .returned (.tuple #[]) ∧ PW w' g S none k ∧ w.grownBy w' (some g) := by
  obtain ⟨⟨A, c, c0⟩, c1, c2, f0, f1, f2⟩ := h.cells
  have hf := Lib.hid h.failed
  have HG := Lib.hid (grown_trans (grown_set w g 0 (.slice none 0 0)) (grown_set (w.setCell ⟨g, 0, none⟩ (.slice none 0 0)) g 2 (.bool true)))
  clear h
  go_enter Tryz.func63, Tryz.ntmps63
  go_wp2_with fail
  go_end0
  exact ⟨rfl, hf.out, HG.out⟩
end
end Go.Proofs.YtjecjlhofnnnpaaGreatDoor
