/-
  WvF: The program's several (layer 21), over the loaded program, for every method whose contract is known: its walk. No condition but what it names.
  WvG: The program's term and scope (layer 21), over the loaded program, for every contract of a factor. No condition but what they name.
  WtJ: The document's several (layer 21) of Op 6, over the loaded program: its contract, of any contract of what it asks. No condition but the sizes that it names.
  WtK: The document's several (layer 21) of Op 7, over the loaded program: its contract, of any contract of what it asks. No condition but the sizes that it names.
  WtH: The document's time (layer 21), over the loaded program: its contract. No condition but the sizes that it names.
  InR: Which names may be: the document's Name (layer 12), over the loaded program: its contract. No condition but sizes that each contract names.
  WtL: What a factor is (layer 21), by the word at its front; a row of one scope. Plain mathematics, and what memory says of it. No program. No condition.
-/
import Derived.Test.YtjecjlhofnnnpaaDoorWy10
import Derived.Shelf.Abstract
import Derived.Test.YtjecjlhofnnnpaaDoorWy07
import Derived.Test.YtjecjlhofnnnpaaDoorWy06
import Derived.Test.YtjecjlhofnnnpaaDoorWy03
import Derived.Test.YtjecjlhofnnnpaaDoorWy01
import Derived.Lib.Strings
set_option linter.unusedVariables false
set_option maxRecDepth 100000
namespace Go.Proofs.YtjecjlhofnnnpaaDoor
section
open Go.RowKit
def SoP {α : Type} (g : List Wv → Option (α × List Wv)) (s : Wv) (r : Option (List α × List Wv)) (sj : Option (List Wv)) (ks : List α) : Prop :=
  ∃ so ks0 x, SoV g s r so ks0 ∧ ks = ks0 ++ [x] ∧ sj = (so.bind g).map (·.2) ∧ ∀ p, so.bind g = some p → x = p.1
section
variable {α : Type} {g : List Wv → Option (α × List Wv)} {s : Wv} {r : Option (List α × List Wv)} {st sj : Option (List Wv)} {ks : List α}
theorem SoV.next (h : SoV g s r st ks) (x : α) (hx : ∀ p, st.bind g = some p → x = p.1) : SoP g s r ((st.bind g).map (·.2)) (ks ++ [x]) := ⟨st, ks, x, h, rfl, rfl, hx⟩
theorem SoP.fin (hg : Shrinks g) (h : SoP g s r sj ks) (ha : aheadW sj s = false) : r.map (·.2) = sj ∧ ∀ p, r = some p → ks = p.1 := by
  obtain ⟨so, ks0, x, h1, rfl, rfl, hx⟩ := h
  exact h1.fin hg x hx ha
theorem SoP.go (hg : Shrinks g) (h : SoP g s r sj ks) (ha : aheadW sj s = true) : ∃ rest, sj = some (s :: rest) ∧ SoV g s r (some rest) ks := by
  obtain ⟨so, ks0, x, h1, rfl, rfl, hx⟩ := h
  obtain ⟨l, rest, _, e, _, h2⟩ := h1.go hg x hx ha
  exact ⟨rest, e, h2⟩
theorem bind_left (hg : Shrinks g) (st : Option (List Wv)) : (((st.bind g).map (·.2)).getD []).length ≤ (st.getD []).length := by
  cases st with
  | none => simp
  | some l =>
    simp only [Option.bind_some]
    cases hq : g l with
    | none => simp
    | some p =>
      have := hg l p.1 p.2 hq
      simp
      omega
end
theorem ownZ_one (w : World) (base : Nat) (hb : base ≤ w.heap.size) (q : QuZ) : (w.alloc (.cells #[q.1, q.2.1, q.2.2.1, q.2.2.2.1, q.2.2.2.2] 24)).ownsRow base 24 5 (.slice (some ⟨w.heap.size, 0, none⟩) 1 1) [q].length (flatZ [q]) :=
  ⟨rfl, .inr ⟨w.heap.size, 1, #[q.1, q.2.1, q.2.2.1, q.2.2.2.1, q.2.2.2.2], rfl, hb, heap_alloc_new w _, Nat.le_refl _, by simp [maxLen], rfl, rfl⟩⟩
theorem kids_ZX1 {w : World} {B f : Nat} {op : Int} {v : Value} {qs : List QuZ} {ks : List (Sc f)} (hI : I64 op) (how : w.ownsRow (B + 1) 24 5 v qs.length (flatZ qs)) (hq : QZ w (SNZ B w v) f qs ks) (hn : ¬ ks.length = 1) :
    ZX w (fun b => B < b ∧ b < w.heap.size) (f + 1) (oneV op ks : Sc (f + 1)) (.int .i64 op) (.string ⟨#[]⟩) (.int .i64 0) (.int .i64 0) v := by
  rw [one_many op hn]
  have h : ZX w (fun b => B < b) (f + 1) (⟨op, [], 0, 0, ks⟩ : Ns (Sc f)) (.int .i64 op) (strV []) (.int .i64 0) (.int .i64 0) v := ⟨rfl, hI, rfl, by simp [maxLen], rfl, by show I64 0; unfold I64; omega, rfl, by show I64 0; unfold I64; omega, ZS_of_own how (hq.mono fun b h => h.1) fun b hb _ => by omega⟩
  exact ZX.lt _ _ _ _ _ _ _ h
theorem kid_alone1 {w : World} {B f : Nat} {op : Int} {A : Option Addr} {c n : Nat} {qs : List QuZ} {ks : List (Sc f)} (how : w.ownsRow (B + 1) 24 5 (.slice A n c) qs.length (flatZ qs)) (hq : QZ w (SNZ B w (.slice A n c)) f qs ks) (hn : ks.length = 1) :
    ∃ b o e0 e1 e2 e3 e4, A = some ⟨b, o, none⟩ ∧ w.cell? ⟨b, o, none⟩ = some e0 ∧ w.cell? ⟨b, o + 1, none⟩ = some e1 ∧ w.cell? ⟨b, o + 2, none⟩ = some e2 ∧ w.cell? ⟨b, o + 3, none⟩ = some e3 ∧ w.cell? ⟨b, o + 4, none⟩ = some e4 ∧
      ZX w (fun b => B < b ∧ b < w.heap.size) (f + 1) (oneV op ks : Sc (f + 1)) e0 e1 e2 e3 e4 ∧ 1 ≤ c := by
  have hz := ZS_of_own (S := fun b => B < b) how (hq.mono fun b h => h.1) fun b hb _ => by omega
  obtain ⟨A', c', e, hl, _⟩ := hz.form
  injection e with _ e2 e3
  obtain ⟨b, o, e0, e1, e2, e3', e4, ea, _, k0, k1, k2, k3, k4, kx⟩ := kid_z hz e2.symm (Nat.le_refl _) (fun _ _ _ => rfl) 0 (by omega)
  simp only [Nat.zero_mul, Nat.add_zero] at k0 k1 k2 k3 k4
  refine ⟨b, o, e0, e1, e2, e3', e4, ea, k0, k1, k2, k3, k4, ?_, by omega⟩
  rw [one_one op (by omega) hn]
  exact (ZX.lt _ _ _ _ _ _ _ kx).lifted
set_option maxHeartbeats 16000000 in
theorem psev_any (F g f : Nat) (S : Nat → Prop) (G : List Wv → Option (Sc f × List Wv)) (hG : Shrinks G) (ok : Prop) (k op : Int) (hop : I64 op) (word : Wv)
    (hrun : ∀ (args : Array Value) (W : World), (callFunc F args).run Tryd.prog W = .ok (.enter F args) W) (hone : OneP F g S f G ok k)
    (st : Option (List Wv)) (w : World) (h : PW w g S st k) (hS : ∀ b, S b → b < w.heap.size) (hL : (st.getD []).length ≤ 1000000) (hok : st = none ∨ ok) :
    Calls Tryd.prog 20 #[.pointer (some ⟨g, 0, none⟩), .int .i64 op, strV word, .func (.func F) #[.pointer (some ⟨g, 0, none⟩)] #[]] w
      (PFactV w g S (f + 1) (st.bind fun l => (manyL G word l).map fun p => (oneV op p.1, p.2)) k) := by
  have hg := h.lt
  have K0 := Lib.hid (KB.new w 24 #[.int .i64 0, .string ⟨#[]⟩, .int .i64 0, .int .i64 0, .slice none 0 0])
  have G0 := Lib.hid (grown_of_below ((Below.refl w.heap.size w).alloc (Nat.le_refl _) (.cells #[.int .i64 0, .string ⟨#[]⟩, .int .i64 0, .int .i64 0, .slice none 0 0] 24)) (some g))
  have hSg : ¬ S w.heap.size := fun h => Nat.lt_irrefl _ (hS _ h)
  have ho := hone st _ (h.alloc (.cells #[.int .i64 0, .string ⟨#[]⟩, .int .i64 0, .int .i64 0, .slice none 0 0] 24)) (fun b hb => by have := hS b hb; simp; omega) hL hok
  obtain ⟨r, hr⟩ : ∃ r, r = st.bind (manyL G word) := ⟨_, rfl⟩
  have HS0 : Hid (SoV G word r st []) := by show SoV _ _ _ _ _; rw [hr]; exact SoV.start _ _ _
  have hoo : (st.bind fun l => (manyL G word l).map fun p => ((oneV op p.1 : Sc (f + 1)), p.2)) = r.map fun p => (oneV op p.1, p.2) := by rw [hr]; cases st <;> rfl
  rw [hoo]
  have HO : Hid (∀ (sj : Option (List Wv)) (W : World), PW W g S sj k → w.heap.size ≤ W.heap.size → (sj.getD []).length ≤ 1000000 → (sj = none ∨ ok) → Calls Tryd.prog F #[.pointer (some ⟨g, 0, none⟩)] W (PFactV W g S f (sj.bind G) k)) := fun sj W h1 h2 h3 h4 => hone sj W h1 (fun b hb => Nat.lt_of_lt_of_le (hS b hb) h2) h3 h4
  have HOK : Hid (∀ l, st = some l → ok) := fun l e => by rcases hok with h | h; · rw [h] at e; cases e
                                                          · exact h
  have HS := Lib.hid hS
  obtain ⟨D, hD⟩ : ∃ D, D = PFactV w g S (f + 1) (r.map fun p => ((oneV op p.1 : Sc (f + 1)), p.2)) k := ⟨_, rfl⟩
  rw [← hD]
  have HD : Hid (∀ (W : World) (x : Sc (f + 1)) (c0 c1 c2 c3 c4 : Value), PW W g S (r.map (·.2)) k → w.grownBy W (some g) → ZX W (fun b => w.heap.size < b ∧ b < W.heap.size) (f + 1) x c0 c1 c2 c3 c4 → (∀ p, r = some p → x = oneV op p.1) →
      D (.returned (.agg #[c0, c1, c2, c3, c4])) (((((W.setCell ⟨w.heap.size, 0, none⟩ c0).setCell ⟨w.heap.size, 1, none⟩ c1).setCell ⟨w.heap.size, 2, none⟩ c2).setCell ⟨w.heap.size, 3, none⟩ c3).setCell ⟨w.heap.size, 4, none⟩ c4)) :=
    fun W x c0 c1 c2 c3 c4 h1 h2 h3 h4 => by
      rw [hD]
      refine pfact_five x ?_ hg hSg h2 h3 fun p e => ?_
      · have : (r.map fun p => ((oneV op p.1 : Sc (f + 1)), p.2)).map (·.2) = r.map (·.2) := by cases r <;> rfl
        rw [this]; exact h1
      · cases hq : r with
        | none => rw [hq] at e; cases e
        | some q => rw [hq] at e; injection e with e; rw [← e]; exact h4 q hq
  obtain ⟨sb, hsb⟩ : ∃ z : ByteArray, strV word = .string z := ⟨_, rfl⟩
  have HFO : Hid (∀ sj W, PW W g S sj k → Calls Tryd.prog 31 #[.pointer (some ⟨g, 0, none⟩), .string sb] W fun e w' => e = .returned (.bool (aheadW sj word)) ∧ PW w' g S (foundW sj word) k ∧ W.grownBy w' (some g)) := fun sj W h => by
    rw [← hsb]; exact pfound_any g S sj word k W h
  rw [hsb]
  have s0 : (w.alloc (.cells #[.int .i64 0, .string ⟨#[]⟩, .int .i64 0, .int .i64 0, .slice none 0 0] 24)).heap.size = w.heap.size + 1 := by simp
  have HBL := Lib.hid (bind_left hG)
  have HG := Lib.hid hG
  clear hone hD hoo hr h hsb hok hS hG
  go_enter Tryd.func20, Tryd.ntmps20
  go_wp2_with fail
  refine ho.mono ?_
  rintro e w1 ⟨v1, x1, rfl, R1, tv1, hx1, G1⟩
  have HNX := Lib.hid (HS0.out.next x1 hx1)
  have HLN := Lib.hid (HBL.out st)
  have HOK1 : Hid (∀ l, (st.bind G).map (·.2) = some l → ok) := fun l e => by
    cases st with
    | none => cases e
    | some l' => exact HOK.out l' rfl
  generalize (st.bind G).map (·.2) = sj1 at *
  obtain ⟨e0, e1, e2, e3, e4, rfl, tm1⟩ := tv1
  rw [s0] at tm1
  have hs1 : w.heap.size + 1 ≤ w1.heap.size := by have := G1.size; omega
  have K1 := Lib.hid ((K0.out.grown G1 (by simp; omega)).alloc (.cells #[e0, e1, e2, e3, e4] 24))
  have own1 := ownZ_one w1 (w.heap.size + 1) hs1 (e0, e1, e2, e3, e4)
  dsimp only at own1
  have H1 := Lib.hid (R1.alloc (.cells #[e0, e1, e2, e3, e4] 24))
  have HQ1 : Hid (QZ (w1.alloc (.cells #[e0, e1, e2, e3, e4] 24)) (SNZ w.heap.size (w1.alloc (.cells #[e0, e1, e2, e3, e4] 24)) (.slice (some ⟨w1.heap.size, 0, none⟩) 1 1)) f [(e0, e1, e2, e3, e4)] [x1]) :=
    (QZ.one tm1).keepL (by simp) (fun b _ hb => Below.heap_alloc w1 _ b hb) fun b sb hb => ⟨by omega, (fun e => by have e' : some w1.heap.size = some b := e; injection e' with e'; omega), by simp; omega⟩
  have GG1 := Lib.hid (grown_trans (grown_trans G0.out G1) (grown_of_below ((Below.refl w1.heap.size w1).alloc (Nat.le_refl _) (.cells #[e0, e1, e2, e3, e4] 24)) (some g)))
  clear ho tm1 R1 G1 K0 G0 hx1 HS0 HOK
  go_wp2_with fail
  go_loopw [9] (fun kv wr => ∃ (sj : Option (List Wv)) (qs : List QuZ) (ks : List (Sc f)), wr.ownsRow (w.heap.size + 1) 24 5 kv qs.length (flatZ qs) ∧ Hid (SoP G word r sj ks) ∧ Hid (qs.length + (sj.getD []).length ≤ 1000001) ∧ Hid (∀ l, sj = some l → ok) ∧
    Hid (PW wr g S sj k) ∧ Hid (KB wr w.heap.size 24 #[.int .i64 0, .string ⟨#[]⟩, .int .i64 0, .int .i64 0, .slice none 0 0]) ∧ Hid (QZ wr (SNZ w.heap.size wr kv) f qs ks) ∧ Hid (w.grownBy wr (some g)) ∧ w.heap.size + 1 ≤ wr.heap.size) (fun _ wr => leftN wr g)
  case atStart =>
    refine ⟨sj1, [(e0, e1, e2, e3, e4)], [x1], own1, HNX, ?_, HOK1, H1, K1, HQ1, GG1, by simp; omega⟩
    have := HLN.out
    show 1 + _ ≤ _
    omega
  case round =>
    clear HNX HLN HOK1 H1 K1 HQ1 GG1 own1
    obtain ⟨sj, qs, ks, how, HSO, HLB, HOK, HR, HK, HQ, HGR, hsz⟩ := hrel
    have hf := HFO.out sj wr HR.out
    have hown := fun b hb => how.lt b hb
    have hqk := Lib.hid HQ.out.1
    cases hah : aheadW sj word with
    | true =>
      rw [hah] at hf
      obtain ⟨rest, hsj, hso2⟩ := HSO.out.go HG.out hah
      have hfw : foundW sj word = some rest := by unfold foundW; rw [hah, if_pos rfl, hsj]; rfl
      rw [hfw] at hf
      have HSO2 := Lib.hid hso2
      have hokk : ok := HOK.out _ hsj
      have hrl : (sj.getD []).length = rest.length + 1 := by rw [hsj]; rfl
      clear HSO hfw hso2 HOK
      go_wp2_with fail
      refine hf.mono ?_
      rintro e w4 ⟨rfl, h4, g4⟩
      have how4 := zown_grown how g4 (by omega)
      have K4 := Lib.hid (HK.out.grown g4 (by simp; omega))
      have Q4 : Hid (QZ w4 (SNZ w.heap.size w4 u9) f qs ks) := HQ.out.keepL g4.size (fun b sb hb => g4.block b hb (fun e => by have := sb.1; injection e with e; omega)) fun b sb hb => ⟨sb.1, sb.2.1, Nat.lt_of_lt_of_le hb g4.size⟩
      have GR4 := Lib.hid (grown_trans HGR.out g4)
      have s4 : w.heap.size + 1 ≤ w4.heap.size := by have := g4.size; omega
      have ho4 := HO.out (some rest) w4 h4 (by omega) (by have := HLB.out; have : (some rest : Option (List Wv)).getD [] = rest := rfl; rw [this]; omega) (.inr hokk)
      have HBL4 := Lib.hid (HBL.out (some rest))
      clear hf h4 g4 how
      have HNX : Hid (∀ x, (∀ p, (some rest : Option (List Wv)).bind G = some p → x = p.1) → SoP G word r (((some rest : Option (List Wv)).bind G).map (·.2)) (ks ++ [x])) := fun x hx => HSO2.out.next x hx
      generalize (some rest : Option (List Wv)).bind G = o4 at *
      go_wp2_with fail
      refine ho4.mono ?_
      rintro e w5 ⟨v5, x5, rfl, R5, tv5, hx5, G5⟩
      have HNX5 := Lib.hid (HNX.out x5 hx5)
      obtain ⟨a0, a1, a2, a3, a4, rfl, tm5⟩ := tv5
      have s5 : w.heap.size + 1 ≤ w5.heap.size := by have := G5.size; omega
      obtain ⟨w6, hw6⟩ : ∃ w6, w6 = w5.alloc (.cells #[a0, a1, a2, a3, a4] 24) := ⟨_, rfl⟩
      have b6 := (Below.refl w5.heap.size w5).alloc (Nat.le_refl _) (.cells #[a0, a1, a2, a3, a4] 24)
      have hat := At_newZ w5 a0 a1 a2 a3 a4 24
      have how5 := zown_grown how4 G5 (by omega)
      have how6 := own_past b6 how5
      have h1c := tm5.cells1
      have hsz6 : w6.heap.size = w5.heap.size + 1 := by rw [hw6]; simp
      have HQ7 : Hid (∀ v7 w7, w6.grownBy w7 u9.ownBlock → (v7.ownBlock = u9.ownBlock ∨ v7.ownBlock = some w6.heap.size) → QZ w7 (SNZ w.heap.size w7 v7) f (qs ++ [(a0, a1, a2, a3, a4)]) (ks ++ [x5])) := fun v7 w7 g7 h7 => by
        rw [hw6] at g7 h7
        exact QZ.more Q4.out tm5 how4 G5 (by omega) (by omega) g7 h7 rfl fun _ _ => rfl
      have hown5 := fun b hb => zown_ge how4 b hb
      have HK7 : Hid (∀ w7, w6.grownBy w7 u9.ownBlock → KB w7 w.heap.size 24 #[.int .i64 0, .string ⟨#[]⟩, .int .i64 0, .int .i64 0, .slice none 0 0] ∧ PW w7 g S (o4.map (·.2)) k ∧ w.grownBy w7 (some g) ∧ w.heap.size + 1 ≤ w7.heap.size) := fun w7 g7 => by
        have B6 : w5.grownBy w6 (some g) := by rw [hw6]; exact grown_of_below b6 (some g)
        have R6 : PW w6 g S (o4.map (·.2)) k := by rw [hw6]; exact R5.below b6
        refine ⟨((K4.out.grown G5 (by simp; omega)).grown B6 (by simp; omega)).grown g7 (fun e => ?_), R6.grownX g7 (fun x hx => ⟨?_, fun hSx => ?_⟩), zgrown_newX (grown_trans (grown_trans GR4.out G5) B6) g7 (fun x hx => ?_), by have := g7.size; omega⟩
        · have := hown5 _ e; omega
        · have := hown5 x hx; omega
        · have := hown5 x hx; have := HS.out x hSx; omega
        · have := hown5 x hx; omega
      rw [← hw6] at hat how6
      have hql : qs.length ≤ 1000000000 := by have := HLB.out; omega
      have hB6 : w.heap.size + 1 ≤ w6.heap.size := by omega
      have HOK4 : Hid (∀ l, o4.map (·.2) = some l → ok) := fun _ _ => hokk
      have HW6 := Lib.hid hw6
      have HHR := HR
      clear hx5 R5 tm5 G5 b6 how4 how5 hw6 ho4 hsz6 s5 s4 hown hown5 HNX HK HQ HGR HSO2 K4 Q4 GR4 hokk
      go_wp2_with (at_builtin; rw [← HW6.out]; go_loud (refine wpList_growZ w6 rfl _ _ rfl (w.heap.size + 1) _ qs rfl how6 ⟨_, 0, none⟩ 1 (a0, a1, a2, a3, a4) rfl hat h1c hql hB6 ?_); intro v7 w7 how7 g7 ho7)
      go_roundw
      case rel =>
        obtain ⟨e1, e2, e3, e4⟩ := HK7.out w7 g7
        refine ⟨o4.map (·.2), _, _, how7, HNX5, ?_, HOK4, Lib.hid e2, Lib.hid e1, Lib.hid (HQ7.out _ w7 g7 ho7), Lib.hid e3, e4⟩
        have h1 := HLB.out
        have h2 := HBL4.out
        have h3 : ((some rest : Option (List Wv)).getD []).length = rest.length := rfl
        show _ + _ ≤ _
        rw [List.length_append]
        show _ + 1 + _ ≤ _
        omega
      case measure =>
        obtain ⟨e1, e2, e3, e4⟩ := HK7.out w7 g7
        have h2 := HBL4.out
        have h3 : ((some rest : Option (List Wv)).getD []).length = rest.length := rfl
        rw [e2.left, HHR.out.left]
        omega
    | false =>
      rw [hah] at hf
      obtain ⟨hr1, hr2⟩ := HSO.out.fin HG.out hah
      have hfw : foundW sj word = sj := by unfold foundW; rw [hah, if_neg (by simp)]
      rw [hfw, ← hr1] at hf
      have HR2 := Lib.hid hr2
      clear HSO hfw hr1 hr2 HOK
      go_wp2_with fail
      refine hf.mono ?_
      rintro e w4 ⟨rfl, h4, g4⟩
      have how4 := zown_grown how g4 (by omega)
      have K4 := HK.out.grown g4 (by simp; omega)
      have Q4 : QZ w4 (SNZ w.heap.size w4 u9) f qs ks := HQ.out.keepL g4.size (fun b sb hb => g4.block b hb (fun e => by have := sb.1; injection e with e; omega)) fun b sb hb => ⟨sb.1, sb.2.1, Nat.lt_of_lt_of_le hb g4.size⟩
      have GR4 := grown_trans HGR.out g4
      have s4 : w.heap.size + 1 ≤ w4.heap.size := by have := g4.size; omega
      obtain ⟨A7, c7, rfl⟩ := zown_form how4
      have H4 := Lib.hid h4
      have hne : ¬ w.heap.size = g := by omega
      have c40 : w4.cell? ⟨w.heap.size, 0, none⟩ = some (.int .i64 0) := K4.cell 0
      have c41 : w4.cell? ⟨w.heap.size, 1, none⟩ = some (.string ⟨#[]⟩) := K4.cell 1
      have c42 : w4.cell? ⟨w.heap.size, 2, none⟩ = some (.int .i64 0) := K4.cell 2
      have c43 : w4.cell? ⟨w.heap.size, 3, none⟩ = some (.int .i64 0) := K4.cell 3
      have c44 : w4.cell? ⟨w.heap.size, 4, none⟩ = some (.slice none 0 0) := K4.cell 4
      have f40 := K4.free 0
      have f41 := K4.free 1
      have f42 := K4.free 2
      have f43 := K4.free 3
      have f44 := K4.free 4
      by_cases hk1 : ks.length = 1
      · obtain ⟨b, oo, a0, a1, a2, a3, a4, rfl, k0, k1, k2, k3, k4, kx, hcc⟩ := kid_alone1 (op := op) how4 Q4 hk1
        have hq1 : qs.length = 1 := by have := hqk.out; omega
        obtain ⟨j0, l1, j2, j3, X4, n4, z4, rfl, rfl, rfl, rfl, rfl⟩ := kx.form
        have hfin := Lib.hid (HD.out w4 _ _ _ _ _ _ h4 GR4 kx (fun p e => by rw [HR2.out p e]))
        unfold strV at *
        rw [hq1] at *
        clear how4 Q4 hf h4 g4 GR4 kx HR2 HK HQ HGR HR HD hk1 how hown
        go_wp2_with fail
        exact bodyPost_ret (results_cell_row (P := Tryd.prog) rfl _ _ w.heap.size _ _ (0, 0) _ rfl (zput_five K4) Tryd.underlying24 rfl (by kernel_rfl)) rfl hfin.out
      · have hq1 : ¬ (qs.length : Int) = 1 := by have := hqk.out; omega
        have hq2 : ((qs.length : Int) == 1) = false := beq_eq_false_iff_ne.2 hq1
        have kx := kids_ZX1 (op := op) hop how4 Q4 hk1
        have hfin := Lib.hid (HD.out w4 _ _ _ _ _ _ h4 GR4 kx (fun p e => by rw [HR2.out p e]))
        clear how4 Q4 hf h4 g4 GR4 kx HR2 HK HQ HGR HR HD hk1 how hown
        go_wp2_with fail
        exact bodyPost_ret (results_cell_row (P := Tryd.prog) rfl _ _ w.heap.size _ _ (0, 0) _ rfl (zput_five K4) Tryd.underlying24 rfl (by kernel_rfl)) rfl hfin.out
end
section
open Go.RowKit
theorem factor_run (args : Array Value) (W : World) : (callFunc 32 args).run Tryd.prog W = .ok (.enter 32 args) W := enters_of Tryd.func32 (by kernel_rfl) rfl args W
theorem term_run (args : Array Value) (W : World) : (callFunc 21 args).run Tryd.prog W = .ok (.enter 21 args) W := enters_of Tryd.func21 (by kernel_rfl) rfl args W
set_option maxHeartbeats 8000000 in
theorem pterm_any (g f : Nat) (S : Nat → Prop) (G : List Wv → Option (Sc f × List Wv)) (hG : Shrinks G) (ok : Prop) (k : Int) (hone : OneP 32 g S f G ok k) : OneP 21 g S (f + 1) (fun l => (manyL G wAnd l).map fun p => (oneV 6 p.1, p.2)) ok k := by
  intro st w h hS hL hok
  have hg := h.lt
  have K := KB.new w 24 #[.int .i64 0, .string ⟨#[]⟩, .int .i64 0, .int .i64 0, .slice none 0 0]
  have G0 := grown_of_below ((Below.refl w.heap.size w).alloc (Nat.le_refl _) (.cells #[.int .i64 0, .string ⟨#[]⟩, .int .i64 0, .int .i64 0, .slice none 0 0] 24)) (some g)
  have R0 := h.alloc (.cells #[.int .i64 0, .string ⟨#[]⟩, .int .i64 0, .int .i64 0, .slice none 0 0] 24)
  have hSg : ¬ S w.heap.size := fun h => Nat.lt_irrefl _ (hS _ h)
  have hs := psev_any 32 g f S G hG ok k 6 (by unfold I64; omega) wAnd factor_run hone st _ R0 (fun b hb => by have := hS b hb; simp; omega) hL hok
  rw [show strV wAnd = .string ⟨#[97, 110, 100]⟩ from rfl] at hs
  obtain ⟨o, ho⟩ : ∃ o : Option (Sc (f + 1) × List Wv), o = st.bind fun l => (manyL G wAnd l).map fun p => (oneV 6 p.1, p.2) := ⟨_, rfl⟩
  rw [← ho] at hs ⊢
  have hss : w.heap.size + 1 ≤ (w.alloc (.cells #[.int .i64 0, .string ⟨#[]⟩, .int .i64 0, .int .i64 0, .slice none 0 0] 24)).heap.size := by simp
  obtain ⟨D, hD⟩ : ∃ D, D = PFactV w g S (f + 1) o k := ⟨_, rfl⟩
  rw [← hD]
  have HD := Lib.hid hD
  clear hone ho hL hok h R0 hG hD
  go_enter Tryd.func21, Tryd.ntmps21
  go_wp2_with fail
  refine hs.mono ?_
  rintro e w5 ⟨v5, x5, rfl, R5, tv5, hx5, G5⟩
  obtain ⟨e0, e1, e2, e3, e4, rfl, tm5⟩ := tv5
  obtain ⟨j0, l1, j2, j3, X4, n4, z4, rfl, rfl, rfl, rfl, rfl⟩ := tm5.form
  have s5 := G5.size
  have K5 := K.grown G5 (by simp; omega)
  have kx := ZX.mono (S' := fun b => w.heap.size < b ∧ b < w5.heap.size) tm5 fun b hb => ⟨by omega, hb.2⟩
  have hfin := Lib.hid (pfact_five x5 R5 hg hSg (grown_trans G0 G5) kx hx5)
  rw [← HD.out] at hfin
  unfold strV at *
  have c40 : w5.cell? ⟨w.heap.size, 0, none⟩ = some (.int .i64 0) := K5.cell 0
  have c41 : w5.cell? ⟨w.heap.size, 1, none⟩ = some (.string ⟨#[]⟩) := K5.cell 1
  have c42 : w5.cell? ⟨w.heap.size, 2, none⟩ = some (.int .i64 0) := K5.cell 2
  have c43 : w5.cell? ⟨w.heap.size, 3, none⟩ = some (.int .i64 0) := K5.cell 3
  have c44 : w5.cell? ⟨w.heap.size, 4, none⟩ = some (.slice none 0 0) := K5.cell 4
  have f40 := K5.free 0
  have f41 := K5.free 1
  have f42 := K5.free 2
  have f43 := K5.free 3
  have f44 := K5.free 4
  clear hs K G0 R5 tm5 kx G5 hx5 HD
  go_wp2_with fail
  exact bodyPost_ret (results_cell_row (P := Tryd.prog) rfl _ _ w.heap.size _ _ (0, 0) _ rfl (zput_five K5) Tryd.underlying24 rfl (by kernel_rfl)) rfl hfin.out
theorem scope_run (args : Array Value) (W : World) : (callFunc 14 args).run Tryd.prog W = .ok (.enter 14 args) W := enters_of Tryd.func14 (by kernel_rfl) rfl args W
set_option maxHeartbeats 8000000 in
theorem pscope_any (g f : Nat) (S : Nat → Prop) (G : List Wv → Option (Sc f × List Wv)) (hG : Shrinks G) (ok : Prop) (k : Int) (hone : OneP 21 g S f G ok k) : OneP 14 g S (f + 1) (fun l => (manyL G wOr l).map fun p => (oneV 7 p.1, p.2)) ok k := by
  intro st w h hS hL hok
  have hg := h.lt
  have K := KB.new w 24 #[.int .i64 0, .string ⟨#[]⟩, .int .i64 0, .int .i64 0, .slice none 0 0]
  have G0 := grown_of_below ((Below.refl w.heap.size w).alloc (Nat.le_refl _) (.cells #[.int .i64 0, .string ⟨#[]⟩, .int .i64 0, .int .i64 0, .slice none 0 0] 24)) (some g)
  have R0 := h.alloc (.cells #[.int .i64 0, .string ⟨#[]⟩, .int .i64 0, .int .i64 0, .slice none 0 0] 24)
  have hSg : ¬ S w.heap.size := fun h => Nat.lt_irrefl _ (hS _ h)
  have hs := psev_any 21 g f S G hG ok k 7 (by unfold I64; omega) wOr term_run hone st _ R0 (fun b hb => by have := hS b hb; simp; omega) hL hok
  rw [show strV wOr = .string ⟨#[111, 114]⟩ from rfl] at hs
  obtain ⟨o, ho⟩ : ∃ o : Option (Sc (f + 1) × List Wv), o = st.bind fun l => (manyL G wOr l).map fun p => (oneV 7 p.1, p.2) := ⟨_, rfl⟩
  rw [← ho] at hs ⊢
  have hss : w.heap.size + 1 ≤ (w.alloc (.cells #[.int .i64 0, .string ⟨#[]⟩, .int .i64 0, .int .i64 0, .slice none 0 0] 24)).heap.size := by simp
  obtain ⟨D, hD⟩ : ∃ D, D = PFactV w g S (f + 1) o k := ⟨_, rfl⟩
  rw [← hD]
  have HD := Lib.hid hD
  clear hone ho hL hok h R0 hG hD
  go_enter Tryd.func14, Tryd.ntmps14
  go_wp2_with fail
  refine hs.mono ?_
  rintro e w5 ⟨v5, x5, rfl, R5, tv5, hx5, G5⟩
  obtain ⟨e0, e1, e2, e3, e4, rfl, tm5⟩ := tv5
  obtain ⟨j0, l1, j2, j3, X4, n4, z4, rfl, rfl, rfl, rfl, rfl⟩ := tm5.form
  have s5 := G5.size
  have K5 := K.grown G5 (by simp; omega)
  have kx := ZX.mono (S' := fun b => w.heap.size < b ∧ b < w5.heap.size) tm5 fun b hb => ⟨by omega, hb.2⟩
  have hfin := Lib.hid (pfact_five x5 R5 hg hSg (grown_trans G0 G5) kx hx5)
  rw [← HD.out] at hfin
  unfold strV at *
  have c40 : w5.cell? ⟨w.heap.size, 0, none⟩ = some (.int .i64 0) := K5.cell 0
  have c41 : w5.cell? ⟨w.heap.size, 1, none⟩ = some (.string ⟨#[]⟩) := K5.cell 1
  have c42 : w5.cell? ⟨w.heap.size, 2, none⟩ = some (.int .i64 0) := K5.cell 2
  have c43 : w5.cell? ⟨w.heap.size, 3, none⟩ = some (.int .i64 0) := K5.cell 3
  have c44 : w5.cell? ⟨w.heap.size, 4, none⟩ = some (.slice none 0 0) := K5.cell 4
  have f40 := K5.free 0
  have f41 := K5.free 1
  have f42 := K5.free 2
  have f43 := K5.free 3
  have f44 := K5.free 4
  clear hs K G0 R5 tm5 kx G5 hx5 HD
  go_wp2_with fail
  exact bodyPost_ret (results_cell_row (P := Tryd.prog) rfl _ _ w.heap.size _ _ (0, 0) _ rfl (zput_five K5) Tryd.underlying24 rfl (by kernel_rfl)) rfl hfin.out
end
section
open Go.RowKit
end
section
open Go.RowKit
end
section
open Go.RowKit
end
section
open Go.RowKit
theorem str_at (l : List UInt8) (k : Nat) (x : UInt8) (hx : l[k]? = some x) : ∀ W : World, (Instr.index 9 (.string ⟨l.toArray⟩) (.int .i64 (k : Int))).run Tryd.prog W = .ok (.int .u8 (x.toNat : Int)) W := fun W => by
  have hk := (List.getElem?_eq_some_iff.1 hx).1
  have hs : (⟨l.toArray⟩ : ByteArray).size = l.length := rfl
  rw [run_index_string W 9 ⟨l.toArray⟩ .i64 (k : Int) Tryd.underlying9, dif_pos ⟨by omega, by rw [hs]; omega⟩]
  simp only [Int.toNat_natCast]
  have e : (⟨l.toArray⟩ : ByteArray)[k]'(by rw [hs]; exact hk) = x := by
    have := (List.getElem?_eq_some_iff.1 hx).2
    exact this
  rw [e]
theorem all_step {l : List UInt8} {k : Nat} {x : UInt8} (hx : l[k]? = some x) (h : ((l.take k).all fun b => okc b.toNat) = true) (ho : okc x.toNat = true) : ((l.take (k + 1)).all fun b => okc b.toNat) = true := by
  rw [List.take_add_one, hx, List.all_append, h]
  simp [ho]
theorem all_stop {l : List UInt8} {k : Nat} {x : UInt8} (hx : l[k]? = some x) (ho : okc x.toNat = false) : nameS l = false := by
  unfold nameS
  have : (l.all fun b => okc b.toNat) = false := by
    cases hq : l.all fun b => okc b.toNat with
    | false => rfl
    | true =>
      have := List.all_eq_true.1 hq x (List.mem_of_getElem? hx)
      rw [ho] at this
      cases this
  rw [this]; simp
end
section
open Go.RowKit
def closeQ {f : Nat} (p : Sc f × List Wv) : Option (Sc f × List Wv) := match p.2 with
  | [] => none
  | c :: rest => if c = wClose then some (p.1, rest) else none
theorem close_yes {f : Nat} {o : Option (Sc f × List Wv)} {s3 : Option (List Wv)} (h : takeW (o.map (·.2)) = (wClose, s3)) : (o.bind closeQ).map (·.2) = s3 ∧ ∀ p, o.bind closeQ = some p → ∃ q, o = some q ∧ p.1 = q.1 := by
  cases o with
  | none =>
    have : ([] : Wv) = wClose := congrArg Prod.fst h
    cases this
  | some q =>
    obtain ⟨x, ws⟩ := q
    cases ws with
    | nil =>
      have : ([] : Wv) = wClose := congrArg Prod.fst h
      cases this
    | cons c rest =>
      have h1 : c = wClose := congrArg Prod.fst h
      have h2 : some rest = s3 := congrArg Prod.snd h
      subst h1 h2
      exact ⟨rfl, fun p e => by injection e with e; exact ⟨_, rfl, by rw [← e]⟩⟩
theorem close_no {f : Nat} {o : Option (Sc f × List Wv)} {c : Wv} {s3 : Option (List Wv)} (h : takeW (o.map (·.2)) = (c, s3)) (hc : ¬ c = wClose) : o.bind closeQ = none := by
  cases o with
  | none => rfl
  | some q =>
    obtain ⟨x, ws⟩ := q
    cases ws with
    | nil => rfl
    | cons c' rest =>
      have h1 : c' = c := congrArg Prod.fst h
      subst h1
      exact if_neg hc
def nameQ (f : Nat) (op : Int) : List Wv → Option (Sc (f + 1) × List Wv)
  | [] => none
  | n :: rest => if op = 0 ∨ nameS n = false then none else some (leafS op n 0 0, rest)
theorem name_takes {f : Nat} {op : Int} {st1 st2 : Option (List Wv)} {n : Wv} (h : takeW st1 = (n, st2)) : (op = 0 ∨ nameS n = false → st1.bind (nameQ f op) = none) ∧ (¬ (op = 0 ∨ nameS n = false) → (st1.bind (nameQ f op)).map (·.2) = st2 ∧ ∀ p, st1.bind (nameQ f op) = some p → (leafS op n 0 0 : Sc (f + 1)) = p.1) := by
  rcases st1 with _ | _ | ⟨u, l⟩
  · have h2 : none = st2 := congrArg Prod.snd h
    subst h2
    exact ⟨fun _ => rfl, fun _ => ⟨rfl, fun p e => by cases e⟩⟩
  · have h2 : none = st2 := congrArg Prod.snd h
    subst h2
    exact ⟨fun _ => rfl, fun _ => ⟨rfl, fun p e => by cases e⟩⟩
  · have h1 : u = n := congrArg Prod.fst h
    have h2 : some l = st2 := congrArg Prod.snd h
    subst h1 h2
    exact ⟨fun q => if_pos q, fun q => by
      have e : (some (u :: l) : Option (List Wv)).bind (nameQ f op) = some (leafS op u 0 0, l) := if_neg q
      rw [e]
      exact ⟨rfl, fun p e => by injection e with e; rw [← e]⟩⟩
theorem fact_takes {d : Nat} {st st1 : Option (List Wv)} {u : Wv} (h : takeW st = (u, st1)) :
    (u = wNot → st.bind (factW (d + 1)) = (st1.bind (factW d)).map fun p => (notsS p.1, p.2)) ∧
    (u = wOpen → st.bind (factW (d + 1)) = (st1.bind (orV (factW d))).bind closeQ) ∧
    (u = wAll → st.bind (factW (d + 1)) = st1.map fun l => (leafS 1 [] 0 0, l)) ∧
    (u = wTime → st.bind (factW (d + 1)) = st1.bind (timeQ (2 * d + 2))) ∧
    (¬ u = wNot → ¬ u = wOpen → ¬ u = wAll → ¬ u = wTime → st.bind (factW (d + 1)) = st1.bind (nameQ (2 * d + 2) (namesOp u))) := by
  have hn : ([] : Wv) = u → st1 = none → st.bind (factW (d + 1)) = none → (u = wNot → st.bind (factW (d + 1)) = (st1.bind (factW d)).map fun p => (notsS p.1, p.2)) ∧
    (u = wOpen → st.bind (factW (d + 1)) = (st1.bind (orV (factW d))).bind closeQ) ∧
    (u = wAll → st.bind (factW (d + 1)) = st1.map fun l => (leafS 1 [] 0 0, l)) ∧
    (u = wTime → st.bind (factW (d + 1)) = st1.bind (timeQ (2 * d + 2))) ∧
    (¬ u = wNot → ¬ u = wOpen → ¬ u = wAll → ¬ u = wTime → st.bind (factW (d + 1)) = st1.bind (nameQ (2 * d + 2) (namesOp u))) := fun e1 e2 e3 => by
    subst e1 e2
    rw [e3]
    exact ⟨fun e => (by cases e), fun e => (by cases e), fun e => (by cases e), fun e => (by cases e), fun _ _ _ _ => rfl⟩
  rcases st with _ | _ | ⟨v, l⟩
  · exact hn (congrArg Prod.fst h) (congrArg Prod.snd h).symm rfl
  · exact hn (congrArg Prod.fst h) (congrArg Prod.snd h).symm (by show factW (d + 1) [] = none; rw [factW.eq_2])
  · have h1 : v = u := congrArg Prod.fst h
    have h2 : some l = st1 := congrArg Prod.snd h
    subst h1 h2
    have e : (some (v :: l) : Option (List Wv)).bind (factW (d + 1)) = factW (d + 1) (v :: l) := rfl
    rw [e, factW.eq_2]
    dsimp only
    refine ⟨fun hu => ?_, fun hu => ?_, fun hu => ?_, fun hu => ?_, fun a1 a2 a3 a4 => ?_⟩
    · rw [if_pos hu]; rfl
    · subst hu
      rw [if_neg (by decide), if_pos rfl]; rfl
    · subst hu
      rw [if_neg (by decide), if_neg (by decide), if_pos rfl]; rfl
    · subst hu
      rw [if_neg (by decide), if_neg (by decide), if_neg (by decide)]
      cases l with
      | nil => rfl
      | cons n rest =>
        dsimp only
        rw [if_pos rfl]; rfl
    · rw [if_neg a1, if_neg a2, if_neg a3]
      cases l with
      | nil => rfl
      | cons n rest =>
        dsimp only
        rw [if_neg a4]; rfl
theorem nots_ZX {w w5 : World} {B f : Nat} {x : Sc f} {e0 e1 e2 e3 e4 : Value} (hB : B < w5.heap.size) (tm : ZX w5 (fun b => B < b ∧ b < w5.heap.size) f x e0 e1 e2 e3 e4) (hw : w = w5.alloc (.cells #[e0, e1, e2, e3, e4] 24)) :
    ZX w (fun b => B < b ∧ b < w.heap.size) (f + 2) (notsS x) (.int .i64 8) (.string ⟨#[]⟩) (.int .i64 0) (.int .i64 0) (.slice (some ⟨w5.heap.size, 0, none⟩) 1 1) := by
  subst hw
  have K := KB.new w5 24 #[e0, e1, e2, e3, e4]
  have tm2 := ZX.keepS (S' := fun b => B < b ∧ b < (w5.alloc (.cells #[e0, e1, e2, e3, e4] 24)).heap.size) (tm.alloc (.cells #[e0, e1, e2, e3, e4] 24)) (Nat.le_refl _) (fun _ _ _ => rfl) fun b hb => ⟨hb.1, by simp; omega⟩
  refine ZX.lifted (f + 1) (⟨8, [], 0, 0, [x]⟩ : Ns (Sc f)) _ _ _ _ _ ⟨rfl, by show I64 8; unfold I64; omega, rfl, by simp [maxLen], rfl, by show I64 0; unfold I64; omega, rfl, by show I64 0; unfold I64; omega, ?_⟩
  refine ⟨some ⟨w5.heap.size, 0, none⟩, 1, rfl, Nat.le_refl _, by simp [maxLen], (fun h => by cases h), fun _ => ⟨w5.heap.size, 0, rfl, ⟨hB, by simp⟩, by simp, fun i t hi => ?_⟩⟩
  match i, hi with
  | 0, hi =>
    simp at hi
    subst hi
    exact ⟨e0, e1, e2, e3, e4, K.cell 0, K.cell 1, K.cell 2, K.cell 3, K.cell 4, tm2⟩
end
end Go.Proofs.YtjecjlhofnnnpaaDoor
