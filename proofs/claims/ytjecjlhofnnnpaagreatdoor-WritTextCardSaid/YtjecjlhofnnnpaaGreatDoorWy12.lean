/-
  WvF: The program's several (layer 21), over the loaded program, for every method whose contract is known: its walk. No condition but what it names.
  WvG: The program's term and scope (layer 21), over the loaded program, for every contract of a factor. No condition but what they name.
  WtJ: The document's several (layer 21) of Op 6, over the loaded program: its contract, of any contract of what it asks. No condition but the sizes that it names.
-/
import Derived.Test.YtjecjlhofnnnpaaGreatDoorWy11
import Derived.Shelf.Abstract
import Derived.Test.YtjecjlhofnnnpaaGreatDoorWy08
set_option linter.unusedVariables false
set_option maxRecDepth 100000
namespace Go.Proofs.YtjecjlhofnnnpaaGreatDoor
section
open Go.RowKit
def SoP {α : Type} (g : List Wv → Option (α × List Wv)) (s : Wv) (r : Option (List α × List Wv)) (sj : Option (List Wv)) (ks : List α) : Prop :=
  ∃ so ks0 x, SoV g s r so ks0 ∧ ks = ks0 ++ [x] ∧ sj = (so.bind g).map (·.2) ∧ ∀ p, so.bind g = some p → x = p.1
section
variable {α : Type} {g : List Wv → Option (α × List Wv)} {s : Wv} {r : Option (List α × List Wv)} {st sj : Option (List Wv)} {ks : List α}
theorem SoV.next (h : SoV g s r st ks) (x : α) (hx : ∀ p, st.bind g = some p → x = p.1) : SoP g s r ((st.bind g).map (·.2)) (ks ++ [x]) := ⟨st, ks, x, h, rfl, rfl, hx⟩
theorem SoP.fin (hg : Shrinks g) (h : SoP g s r sj ks) (ha : aheadW sj s = false) : r.map (·.2) = sj ∧ ∀ p, r = some p → ks = p.1 := by
  obtain ⟨so, ks0, x, h1, rfl, rfl, hx⟩ := h
  exact h1.fin hg x hx ha
theorem SoP.go (hg : Shrinks g) (h : SoP g s r sj ks) (ha : aheadW sj s = true) : ∃ rest, sj = some (s :: rest) ∧ SoV g s r (some rest) ks := by
  obtain ⟨so, ks0, x, h1, rfl, rfl, hx⟩ := h
  obtain ⟨l, rest, _, e, _, h2⟩ := h1.go hg x hx ha
  exact ⟨rest, e, h2⟩
theorem bind_left (hg : Shrinks g) (st : Option (List Wv)) : (((st.bind g).map (·.2)).getD []).length ≤ (st.getD []).length := by
  cases st with
  | none => simp
  | some l =>
    simp only [Option.bind_some]
    cases hq : g l with
    | none => simp
    | some p =>
      have := hg l p.1 p.2 hq
      simp
      omega
end
theorem ownZ_one (w : World) (base : Nat) (hb : base ≤ w.heap.size) (q : QuZ) : (w.alloc (.cells #[q.1, q.2.1, q.2.2.1, q.2.2.2.1, q.2.2.2.2] 24)).ownsRow base 24 5 (.slice (some ⟨w.heap.size, 0, none⟩) 1 1) [q].length (flatZ [q]) :=
  ⟨rfl, .inr ⟨w.heap.size, 1, #[q.1, q.2.1, q.2.2.1, q.2.2.2.1, q.2.2.2.2], rfl, hb, heap_alloc_new w _, Nat.le_refl _, by simp [maxLen], rfl, rfl⟩⟩
theorem kids_ZX1 {w : World} {B f : Nat} {op : Int} {v : Value} {qs : List QuZ} {ks : List (Sc f)} (hI : I64 op) (how : w.ownsRow (B + 1) 24 5 v qs.length (flatZ qs)) (hq : QZ w (SNZ B w v) f qs ks) (hn : ¬ ks.length = 1) :
    ZX w (fun b => B < b ∧ b < w.heap.size) (f + 1) (oneV op ks : Sc (f + 1)) (.int .i64 op) (.string ⟨#[]⟩) (.int .i64 0) (.int .i64 0) v := by
  rw [one_many op hn]
  have h : ZX w (fun b => B < b) (f + 1) (⟨op, [], 0, 0, ks⟩ : Ns (Sc f)) (.int .i64 op) (strV []) (.int .i64 0) (.int .i64 0) v := ⟨rfl, hI, rfl, by simp [maxLen], rfl, by show I64 0; unfold I64; omega, rfl, by show I64 0; unfold I64; omega, ZS_of_own how (hq.mono fun b h => h.1) fun b hb _ => by omega⟩
  exact ZX.lt _ _ _ _ _ _ _ h
theorem kid_alone1 {w : World} {B f : Nat} {op : Int} {A : Option Addr} {c n : Nat} {qs : List QuZ} {ks : List (Sc f)} (how : w.ownsRow (B + 1) 24 5 (.slice A n c) qs.length (flatZ qs)) (hq : QZ w (SNZ B w (.slice A n c)) f qs ks) (hn : ks.length = 1) :
    ∃ b o e0 e1 e2 e3 e4, A = some ⟨b, o, none⟩ ∧ w.cell? ⟨b, o, none⟩ = some e0 ∧ w.cell? ⟨b, o + 1, none⟩ = some e1 ∧ w.cell? ⟨b, o + 2, none⟩ = some e2 ∧ w.cell? ⟨b, o + 3, none⟩ = some e3 ∧ w.cell? ⟨b, o + 4, none⟩ = some e4 ∧
      ZX w (fun b => B < b ∧ b < w.heap.size) (f + 1) (oneV op ks : Sc (f + 1)) e0 e1 e2 e3 e4 ∧ 1 ≤ c := by
  have hz := ZS_of_own (S := fun b => B < b) how (hq.mono fun b h => h.1) fun b hb _ => by omega
  obtain ⟨A', c', e, hl, _⟩ := hz.form
  injection e with _ e2 e3
  obtain ⟨b, o, e0, e1, e2, e3', e4, ea, _, k0, k1, k2, k3, k4, kx⟩ := kid_z hz e2.symm (Nat.le_refl _) (fun _ _ _ => rfl) 0 (by omega)
  simp only [Nat.zero_mul, Nat.add_zero] at k0 k1 k2 k3 k4
  refine ⟨b, o, e0, e1, e2, e3', e4, ea, k0, k1, k2, k3, k4, ?_, by omega⟩
  rw [one_one op (by omega) hn]
  exact (ZX.lt _ _ _ _ _ _ _ kx).lifted
set_option maxHeartbeats 16000000 in
theorem psev_any (F g f : Nat) (S : Nat → Prop) (G : List Wv → Option (Sc f × List Wv)) (hG : Shrinks G) (ok : Prop) (k op : Int) (hop : I64 op) (word : Wv)
    (hrun : ∀ (args : Array Value) (W : World), (callFunc F args).run Tryz.prog W = .ok (.enter F args) W) (hone : OneP F g S f G ok k)
    (st : Option (List Wv)) (w : World) (h : PW w g S st k) (hS : ∀ b, S b → b < w.heap.size) (hL : (st.getD []).length ≤ 1000000) (hok : st = none ∨ ok) :
    Calls Tryz.prog 30 #[.pointer (some ⟨g, 0, none⟩), .int .i64 op, strV word, .func (.func F) #[.pointer (some ⟨g, 0, none⟩)] #[]] w
      (PFactV w g S (f + 1) (st.bind fun l => (manyL G word l).map fun p => (oneV op p.1, p.2)) k) := by
  have hg := h.lt
  have K0 := Lib.hid (KB.new w 24 #[.int .i64 0, .string ⟨#[]⟩, .int .i64 0, .int .i64 0, .slice none 0 0])
  have G0 := Lib.hid (grown_of_below ((Below.refl w.heap.size w).alloc (Nat.le_refl _) (.cells #[.int .i64 0, .string ⟨#[]⟩, .int .i64 0, .int .i64 0, .slice none 0 0] 24)) (some g))
  have hSg : ¬ S w.heap.size := fun h => Nat.lt_irrefl _ (hS _ h)
  have ho := hone st _ (h.alloc (.cells #[.int .i64 0, .string ⟨#[]⟩, .int .i64 0, .int .i64 0, .slice none 0 0] 24)) (fun b hb => by have := hS b hb; simp; omega) hL hok
  obtain ⟨r, hr⟩ : ∃ r, r = st.bind (manyL G word) := ⟨_, rfl⟩
  have HS0 : Hid (SoV G word r st []) := by show SoV _ _ _ _ _; rw [hr]; exact SoV.start _ _ _
  have hoo : (st.bind fun l => (manyL G word l).map fun p => ((oneV op p.1 : Sc (f + 1)), p.2)) = r.map fun p => (oneV op p.1, p.2) := by rw [hr]; cases st <;> rfl
  rw [hoo]
  have HO : Hid (∀ (sj : Option (List Wv)) (W : World), PW W g S sj k → w.heap.size ≤ W.heap.size → (sj.getD []).length ≤ 1000000 → (sj = none ∨ ok) → Calls Tryz.prog F #[.pointer (some ⟨g, 0, none⟩)] W (PFactV W g S f (sj.bind G) k)) := fun sj W h1 h2 h3 h4 => hone sj W h1 (fun b hb => Nat.lt_of_lt_of_le (hS b hb) h2) h3 h4
  have HOK : Hid (∀ l, st = some l → ok) := fun l e => by rcases hok with h | h; · rw [h] at e; cases e
                                                          · exact h
  have HS := Lib.hid hS
  obtain ⟨D, hD⟩ : ∃ D, D = PFactV w g S (f + 1) (r.map fun p => ((oneV op p.1 : Sc (f + 1)), p.2)) k := ⟨_, rfl⟩
  rw [← hD]
  have HD : Hid (∀ (W : World) (x : Sc (f + 1)) (c0 c1 c2 c3 c4 : Value), PW W g S (r.map (·.2)) k → w.grownBy W (some g) → ZX W (fun b => w.heap.size < b ∧ b < W.heap.size) (f + 1) x c0 c1 c2 c3 c4 → (∀ p, r = some p → x = oneV op p.1) →
      D (.returned (.agg #[c0, c1, c2, c3, c4])) (((((W.setCell ⟨w.heap.size, 0, none⟩ c0).setCell ⟨w.heap.size, 1, none⟩ c1).setCell ⟨w.heap.size, 2, none⟩ c2).setCell ⟨w.heap.size, 3, none⟩ c3).setCell ⟨w.heap.size, 4, none⟩ c4)) :=
    fun W x c0 c1 c2 c3 c4 h1 h2 h3 h4 => by
      rw [hD]
      refine pfact_five x ?_ hg hSg h2 h3 fun p e => ?_
      · have : (r.map fun p => ((oneV op p.1 : Sc (f + 1)), p.2)).map (·.2) = r.map (·.2) := by cases r <;> rfl
        rw [this]; exact h1
      · cases hq : r with
        | none => rw [hq] at e; cases e
        | some q => rw [hq] at e; injection e with e; rw [← e]; exact h4 q hq
  obtain ⟨sb, hsb⟩ : ∃ z : ByteArray, strV word = .string z := ⟨_, rfl⟩
  have HFO : Hid (∀ sj W, PW W g S sj k → Calls Tryz.prog 48 #[.pointer (some ⟨g, 0, none⟩), .string sb] W fun e w' => e = .returned (.bool (aheadW sj word)) ∧ PW w' g S (foundW sj word) k ∧ W.grownBy w' (some g)) := fun sj W h => by
    rw [← hsb]; exact pfound_any g S sj word k W h
  rw [hsb]
  have s0 : (w.alloc (.cells #[.int .i64 0, .string ⟨#[]⟩, .int .i64 0, .int .i64 0, .slice none 0 0] 24)).heap.size = w.heap.size + 1 := by simp
  have HBL := Lib.hid (bind_left hG)
  have HG := Lib.hid hG
  clear hone hD hoo hr h hsb hok hS hG
  go_enter Tryz.func30, Tryz.ntmps30
  go_wp2_with fail
  refine ho.mono ?_
  rintro e w1 ⟨v1, x1, rfl, R1, tv1, hx1, G1⟩
  have HNX := Lib.hid (HS0.out.next x1 hx1)
  have HLN := Lib.hid (HBL.out st)
  have HOK1 : Hid (∀ l, (st.bind G).map (·.2) = some l → ok) := fun l e => by
    cases st with
    | none => cases e
    | some l' => exact HOK.out l' rfl
  generalize (st.bind G).map (·.2) = sj1 at *
  obtain ⟨e0, e1, e2, e3, e4, rfl, tm1⟩ := tv1
  rw [s0] at tm1
  have hs1 : w.heap.size + 1 ≤ w1.heap.size := by have := G1.size; omega
  have K1 := Lib.hid ((K0.out.grown G1 (by simp; omega)).alloc (.cells #[e0, e1, e2, e3, e4] 24))
  have own1 := ownZ_one w1 (w.heap.size + 1) hs1 (e0, e1, e2, e3, e4)
  dsimp only at own1
  have H1 := Lib.hid (R1.alloc (.cells #[e0, e1, e2, e3, e4] 24))
  have HQ1 : Hid (QZ (w1.alloc (.cells #[e0, e1, e2, e3, e4] 24)) (SNZ w.heap.size (w1.alloc (.cells #[e0, e1, e2, e3, e4] 24)) (.slice (some ⟨w1.heap.size, 0, none⟩) 1 1)) f [(e0, e1, e2, e3, e4)] [x1]) :=
    (QZ.one tm1).keepL (by simp) (fun b _ hb => Below.heap_alloc w1 _ b hb) fun b sb hb => ⟨by omega, (fun e => by have e' : some w1.heap.size = some b := e; injection e' with e'; omega), by simp; omega⟩
  have GG1 := Lib.hid (grown_trans (grown_trans G0.out G1) (grown_of_below ((Below.refl w1.heap.size w1).alloc (Nat.le_refl _) (.cells #[e0, e1, e2, e3, e4] 24)) (some g)))
  clear ho tm1 R1 G1 K0 G0 hx1 HS0 HOK
  go_wp2_with fail
  go_loopw [9] (fun kv wr => ∃ (sj : Option (List Wv)) (qs : List QuZ) (ks : List (Sc f)), wr.ownsRow (w.heap.size + 1) 24 5 kv qs.length (flatZ qs) ∧ Hid (SoP G word r sj ks) ∧ Hid (qs.length + (sj.getD []).length ≤ 1000001) ∧ Hid (∀ l, sj = some l → ok) ∧
    Hid (PW wr g S sj k) ∧ Hid (KB wr w.heap.size 24 #[.int .i64 0, .string ⟨#[]⟩, .int .i64 0, .int .i64 0, .slice none 0 0]) ∧ Hid (QZ wr (SNZ w.heap.size wr kv) f qs ks) ∧ Hid (w.grownBy wr (some g)) ∧ w.heap.size + 1 ≤ wr.heap.size) (fun _ wr => leftN wr g)
  case atStart =>
    refine ⟨sj1, [(e0, e1, e2, e3, e4)], [x1], own1, HNX, ?_, HOK1, H1, K1, HQ1, GG1, by simp; omega⟩
    have := HLN.out
    show 1 + _ ≤ _
    omega
  case round =>
    clear HNX HLN HOK1 H1 K1 HQ1 GG1 own1
    obtain ⟨sj, qs, ks, how, HSO, HLB, HOK, HR, HK, HQ, HGR, hsz⟩ := hrel
    have hf := HFO.out sj wr HR.out
    have hown := fun b hb => how.lt b hb
    have hqk := Lib.hid HQ.out.1
    cases hah : aheadW sj word with
    | true =>
      rw [hah] at hf
      obtain ⟨rest, hsj, hso2⟩ := HSO.out.go HG.out hah
      have hfw : foundW sj word = some rest := by unfold foundW; rw [hah, if_pos rfl, hsj]; rfl
      rw [hfw] at hf
      have HSO2 := Lib.hid hso2
      have hokk : ok := HOK.out _ hsj
      have hrl : (sj.getD []).length = rest.length + 1 := by rw [hsj]; rfl
      clear HSO hfw hso2 HOK
      go_wp2_with fail
      refine hf.mono ?_
      rintro e w4 ⟨rfl, h4, g4⟩
      have how4 := zown_grown how g4 (by omega)
      have K4 := Lib.hid (HK.out.grown g4 (by simp; omega))
      have Q4 : Hid (QZ w4 (SNZ w.heap.size w4 u9) f qs ks) := HQ.out.keepL g4.size (fun b sb hb => g4.block b hb (fun e => by have := sb.1; injection e with e; omega)) fun b sb hb => ⟨sb.1, sb.2.1, Nat.lt_of_lt_of_le hb g4.size⟩
      have GR4 := Lib.hid (grown_trans HGR.out g4)
      have s4 : w.heap.size + 1 ≤ w4.heap.size := by have := g4.size; omega
      have ho4 := HO.out (some rest) w4 h4 (by omega) (by have := HLB.out; have : (some rest : Option (List Wv)).getD [] = rest := rfl; rw [this]; omega) (.inr hokk)
      have HBL4 := Lib.hid (HBL.out (some rest))
      clear hf h4 g4 how
      have HNX : Hid (∀ x, (∀ p, (some rest : Option (List Wv)).bind G = some p → x = p.1) → SoP G word r (((some rest : Option (List Wv)).bind G).map (·.2)) (ks ++ [x])) := fun x hx => HSO2.out.next x hx
      generalize (some rest : Option (List Wv)).bind G = o4 at *
      go_wp2_with fail
      refine ho4.mono ?_
      rintro e w5 ⟨v5, x5, rfl, R5, tv5, hx5, G5⟩
      have HNX5 := Lib.hid (HNX.out x5 hx5)
      obtain ⟨a0, a1, a2, a3, a4, rfl, tm5⟩ := tv5
      have s5 : w.heap.size + 1 ≤ w5.heap.size := by have := G5.size; omega
      obtain ⟨w6, hw6⟩ : ∃ w6, w6 = w5.alloc (.cells #[a0, a1, a2, a3, a4] 24) := ⟨_, rfl⟩
      have b6 := (Below.refl w5.heap.size w5).alloc (Nat.le_refl _) (.cells #[a0, a1, a2, a3, a4] 24)
      have hat := At_newZ w5 a0 a1 a2 a3 a4 24
      have how5 := zown_grown how4 G5 (by omega)
      have how6 := own_past b6 how5
      have h1c := tm5.cells1
      have hsz6 : w6.heap.size = w5.heap.size + 1 := by rw [hw6]; simp
      have HQ7 : Hid (∀ v7 w7, w6.grownBy w7 u9.ownBlock → (v7.ownBlock = u9.ownBlock ∨ v7.ownBlock = some w6.heap.size) → QZ w7 (SNZ w.heap.size w7 v7) f (qs ++ [(a0, a1, a2, a3, a4)]) (ks ++ [x5])) := fun v7 w7 g7 h7 => by
        rw [hw6] at g7 h7
        exact QZ.more Q4.out tm5 how4 G5 (by omega) (by omega) g7 h7 rfl fun _ _ => rfl
      have hown5 := fun b hb => zown_ge how4 b hb
      have HK7 : Hid (∀ w7, w6.grownBy w7 u9.ownBlock → KB w7 w.heap.size 24 #[.int .i64 0, .string ⟨#[]⟩, .int .i64 0, .int .i64 0, .slice none 0 0] ∧ PW w7 g S (o4.map (·.2)) k ∧ w.grownBy w7 (some g) ∧ w.heap.size + 1 ≤ w7.heap.size) := fun w7 g7 => by
        have B6 : w5.grownBy w6 (some g) := by rw [hw6]; exact grown_of_below b6 (some g)
        have R6 : PW w6 g S (o4.map (·.2)) k := by rw [hw6]; exact R5.below b6
        refine ⟨((K4.out.grown G5 (by simp; omega)).grown B6 (by simp; omega)).grown g7 (fun e => ?_), R6.grownX g7 (fun x hx => ⟨?_, fun hSx => ?_⟩), zgrown_newX (grown_trans (grown_trans GR4.out G5) B6) g7 (fun x hx => ?_), by have := g7.size; omega⟩
        · have := hown5 _ e; omega
        · have := hown5 x hx; omega
        · have := hown5 x hx; have := HS.out x hSx; omega
        · have := hown5 x hx; omega
      rw [← hw6] at hat how6
      have hql : qs.length ≤ 1000000000 := by have := HLB.out; omega
      have hB6 : w.heap.size + 1 ≤ w6.heap.size := by omega
      have HOK4 : Hid (∀ l, o4.map (·.2) = some l → ok) := fun _ _ => hokk
      have HW6 := Lib.hid hw6
      have HHR := HR
      clear hx5 R5 tm5 G5 b6 how4 how5 hw6 ho4 hsz6 s5 s4 hown hown5 HNX HK HQ HGR HSO2 K4 Q4 GR4 hokk
      go_wp2_with (at_builtin; rw [← HW6.out]; go_loud (refine wpList_growZ w6 rfl _ _ rfl (w.heap.size + 1) _ qs rfl how6 ⟨_, 0, none⟩ 1 (a0, a1, a2, a3, a4) rfl hat h1c hql hB6 ?_); intro v7 w7 how7 g7 ho7)
      go_roundw
      case rel =>
        obtain ⟨e1, e2, e3, e4⟩ := HK7.out w7 g7
        refine ⟨o4.map (·.2), _, _, how7, HNX5, ?_, HOK4, Lib.hid e2, Lib.hid e1, Lib.hid (HQ7.out _ w7 g7 ho7), Lib.hid e3, e4⟩
        have h1 := HLB.out
        have h2 := HBL4.out
        have h3 : ((some rest : Option (List Wv)).getD []).length = rest.length := rfl
        show _ + _ ≤ _
        rw [List.length_append]
        show _ + 1 + _ ≤ _
        omega
      case measure =>
        obtain ⟨e1, e2, e3, e4⟩ := HK7.out w7 g7
        have h2 := HBL4.out
        have h3 : ((some rest : Option (List Wv)).getD []).length = rest.length := rfl
        rw [e2.left, HHR.out.left]
        omega
    | false =>
      rw [hah] at hf
      obtain ⟨hr1, hr2⟩ := HSO.out.fin HG.out hah
      have hfw : foundW sj word = sj := by unfold foundW; rw [hah, if_neg (by simp)]
      rw [hfw, ← hr1] at hf
      have HR2 := Lib.hid hr2
      clear HSO hfw hr1 hr2 HOK
      go_wp2_with fail
      refine hf.mono ?_
      rintro e w4 ⟨rfl, h4, g4⟩
      have how4 := zown_grown how g4 (by omega)
      have K4 := HK.out.grown g4 (by simp; omega)
      have Q4 : QZ w4 (SNZ w.heap.size w4 u9) f qs ks := HQ.out.keepL g4.size (fun b sb hb => g4.block b hb (fun e => by have := sb.1; injection e with e; omega)) fun b sb hb => ⟨sb.1, sb.2.1, Nat.lt_of_lt_of_le hb g4.size⟩
      have GR4 := grown_trans HGR.out g4
      have s4 : w.heap.size + 1 ≤ w4.heap.size := by have := g4.size; omega
      obtain ⟨A7, c7, rfl⟩ := zown_form how4
      have H4 := Lib.hid h4
      have hne : ¬ w.heap.size = g := by omega
      have c40 : w4.cell? ⟨w.heap.size, 0, none⟩ = some (.int .i64 0) := K4.cell 0
      have c41 : w4.cell? ⟨w.heap.size, 1, none⟩ = some (.string ⟨#[]⟩) := K4.cell 1
      have c42 : w4.cell? ⟨w.heap.size, 2, none⟩ = some (.int .i64 0) := K4.cell 2
      have c43 : w4.cell? ⟨w.heap.size, 3, none⟩ = some (.int .i64 0) := K4.cell 3
      have c44 : w4.cell? ⟨w.heap.size, 4, none⟩ = some (.slice none 0 0) := K4.cell 4
      have f40 := K4.free 0
      have f41 := K4.free 1
      have f42 := K4.free 2
      have f43 := K4.free 3
      have f44 := K4.free 4
      by_cases hk1 : ks.length = 1
      · obtain ⟨b, oo, a0, a1, a2, a3, a4, rfl, k0, k1, k2, k3, k4, kx, hcc⟩ := kid_alone1 (op := op) how4 Q4 hk1
        have hq1 : qs.length = 1 := by have := hqk.out; omega
        obtain ⟨j0, l1, j2, j3, X4, n4, z4, rfl, rfl, rfl, rfl, rfl⟩ := kx.form
        have hfin := Lib.hid (HD.out w4 _ _ _ _ _ _ h4 GR4 kx (fun p e => by rw [HR2.out p e]))
        unfold strV at *
        rw [hq1] at *
        clear how4 Q4 hf h4 g4 GR4 kx HR2 HK HQ HGR HR HD hk1 how hown
        go_wp2_with fail
        exact bodyPost_ret (results_cell_row (P := Tryz.prog) rfl _ _ w.heap.size _ _ (0, 0) _ rfl (zput_five K4) Tryz.underlying24 rfl (by kernel_rfl)) rfl hfin.out
      · have hq1 : ¬ (qs.length : Int) = 1 := by have := hqk.out; omega
        have hq2 : ((qs.length : Int) == 1) = false := beq_eq_false_iff_ne.2 hq1
        have kx := kids_ZX1 (op := op) hop how4 Q4 hk1
        have hfin := Lib.hid (HD.out w4 _ _ _ _ _ _ h4 GR4 kx (fun p e => by rw [HR2.out p e]))
        clear how4 Q4 hf h4 g4 GR4 kx HR2 HK HQ HGR HR HD hk1 how hown
        go_wp2_with fail
        exact bodyPost_ret (results_cell_row (P := Tryz.prog) rfl _ _ w.heap.size _ _ (0, 0) _ rfl (zput_five K4) Tryz.underlying24 rfl (by kernel_rfl)) rfl hfin.out
end
section
open Go.RowKit
theorem factor_run (args : Array Value) (W : World) : (callFunc 49 args).run Tryz.prog W = .ok (.enter 49 args) W := enters_of Tryz.func49 (by kernel_rfl) rfl args W
theorem term_run (args : Array Value) (W : World) : (callFunc 31 args).run Tryz.prog W = .ok (.enter 31 args) W := enters_of Tryz.func31 (by kernel_rfl) rfl args W
set_option maxHeartbeats 8000000 in
theorem pterm_any (g f : Nat) (S : Nat → Prop) (G : List Wv → Option (Sc f × List Wv)) (hG : Shrinks G) (ok : Prop) (k : Int) (hone : OneP 49 g S f G ok k) : OneP 31 g S (f + 1) (fun l => (manyL G wAnd l).map fun p => (oneV 6 p.1, p.2)) ok k := by
  intro st w h hS hL hok
  have hg := h.lt
  have K := KB.new w 24 #[.int .i64 0, .string ⟨#[]⟩, .int .i64 0, .int .i64 0, .slice none 0 0]
  have G0 := grown_of_below ((Below.refl w.heap.size w).alloc (Nat.le_refl _) (.cells #[.int .i64 0, .string ⟨#[]⟩, .int .i64 0, .int .i64 0, .slice none 0 0] 24)) (some g)
  have R0 := h.alloc (.cells #[.int .i64 0, .string ⟨#[]⟩, .int .i64 0, .int .i64 0, .slice none 0 0] 24)
  have hSg : ¬ S w.heap.size := fun h => Nat.lt_irrefl _ (hS _ h)
  have hs := psev_any 49 g f S G hG ok k 6 (by unfold I64; omega) wAnd factor_run hone st _ R0 (fun b hb => by have := hS b hb; simp; omega) hL hok
  rw [show strV wAnd = .string ⟨#[97, 110, 100]⟩ from rfl] at hs
  obtain ⟨o, ho⟩ : ∃ o : Option (Sc (f + 1) × List Wv), o = st.bind fun l => (manyL G wAnd l).map fun p => (oneV 6 p.1, p.2) := ⟨_, rfl⟩
  rw [← ho] at hs ⊢
  have hss : w.heap.size + 1 ≤ (w.alloc (.cells #[.int .i64 0, .string ⟨#[]⟩, .int .i64 0, .int .i64 0, .slice none 0 0] 24)).heap.size := by simp
  obtain ⟨D, hD⟩ : ∃ D, D = PFactV w g S (f + 1) o k := ⟨_, rfl⟩
  rw [← hD]
  have HD := Lib.hid hD
  clear hone ho hL hok h R0 hG hD
  go_enter Tryz.func31, Tryz.ntmps31
  go_wp2_with fail
  refine hs.mono ?_
  rintro e w5 ⟨v5, x5, rfl, R5, tv5, hx5, G5⟩
  obtain ⟨e0, e1, e2, e3, e4, rfl, tm5⟩ := tv5
  obtain ⟨j0, l1, j2, j3, X4, n4, z4, rfl, rfl, rfl, rfl, rfl⟩ := tm5.form
  have s5 := G5.size
  have K5 := K.grown G5 (by simp; omega)
  have kx := ZX.mono (S' := fun b => w.heap.size < b ∧ b < w5.heap.size) tm5 fun b hb => ⟨by omega, hb.2⟩
  have hfin := Lib.hid (pfact_five x5 R5 hg hSg (grown_trans G0 G5) kx hx5)
  rw [← HD.out] at hfin
  unfold strV at *
  have c40 : w5.cell? ⟨w.heap.size, 0, none⟩ = some (.int .i64 0) := K5.cell 0
  have c41 : w5.cell? ⟨w.heap.size, 1, none⟩ = some (.string ⟨#[]⟩) := K5.cell 1
  have c42 : w5.cell? ⟨w.heap.size, 2, none⟩ = some (.int .i64 0) := K5.cell 2
  have c43 : w5.cell? ⟨w.heap.size, 3, none⟩ = some (.int .i64 0) := K5.cell 3
  have c44 : w5.cell? ⟨w.heap.size, 4, none⟩ = some (.slice none 0 0) := K5.cell 4
  have f40 := K5.free 0
  have f41 := K5.free 1
  have f42 := K5.free 2
  have f43 := K5.free 3
  have f44 := K5.free 4
  clear hs K G0 R5 tm5 kx G5 hx5 HD
  go_wp2_with fail
  exact bodyPost_ret (results_cell_row (P := Tryz.prog) rfl _ _ w.heap.size _ _ (0, 0) _ rfl (zput_five K5) Tryz.underlying24 rfl (by kernel_rfl)) rfl hfin.out
theorem scope_run (args : Array Value) (W : World) : (callFunc 19 args).run Tryz.prog W = .ok (.enter 19 args) W := enters_of Tryz.func19 (by kernel_rfl) rfl args W
set_option maxHeartbeats 8000000 in
theorem pscope_any (g f : Nat) (S : Nat → Prop) (G : List Wv → Option (Sc f × List Wv)) (hG : Shrinks G) (ok : Prop) (k : Int) (hone : OneP 31 g S f G ok k) : OneP 19 g S (f + 1) (fun l => (manyL G wOr l).map fun p => (oneV 7 p.1, p.2)) ok k := by
  intro st w h hS hL hok
  have hg := h.lt
  have K := KB.new w 24 #[.int .i64 0, .string ⟨#[]⟩, .int .i64 0, .int .i64 0, .slice none 0 0]
  have G0 := grown_of_below ((Below.refl w.heap.size w).alloc (Nat.le_refl _) (.cells #[.int .i64 0, .string ⟨#[]⟩, .int .i64 0, .int .i64 0, .slice none 0 0] 24)) (some g)
  have R0 := h.alloc (.cells #[.int .i64 0, .string ⟨#[]⟩, .int .i64 0, .int .i64 0, .slice none 0 0] 24)
  have hSg : ¬ S w.heap.size := fun h => Nat.lt_irrefl _ (hS _ h)
  have hs := psev_any 31 g f S G hG ok k 7 (by unfold I64; omega) wOr term_run hone st _ R0 (fun b hb => by have := hS b hb; simp; omega) hL hok
  rw [show strV wOr = .string ⟨#[111, 114]⟩ from rfl] at hs
  obtain ⟨o, ho⟩ : ∃ o : Option (Sc (f + 1) × List Wv), o = st.bind fun l => (manyL G wOr l).map fun p => (oneV 7 p.1, p.2) := ⟨_, rfl⟩
  rw [← ho] at hs ⊢
  have hss : w.heap.size + 1 ≤ (w.alloc (.cells #[.int .i64 0, .string ⟨#[]⟩, .int .i64 0, .int .i64 0, .slice none 0 0] 24)).heap.size := by simp
  obtain ⟨D, hD⟩ : ∃ D, D = PFactV w g S (f + 1) o k := ⟨_, rfl⟩
  rw [← hD]
  have HD := Lib.hid hD
  clear hone ho hL hok h R0 hG hD
  go_enter Tryz.func19, Tryz.ntmps19
  go_wp2_with fail
  refine hs.mono ?_
  rintro e w5 ⟨v5, x5, rfl, R5, tv5, hx5, G5⟩
  obtain ⟨e0, e1, e2, e3, e4, rfl, tm5⟩ := tv5
  obtain ⟨j0, l1, j2, j3, X4, n4, z4, rfl, rfl, rfl, rfl, rfl⟩ := tm5.form
  have s5 := G5.size
  have K5 := K.grown G5 (by simp; omega)
  have kx := ZX.mono (S' := fun b => w.heap.size < b ∧ b < w5.heap.size) tm5 fun b hb => ⟨by omega, hb.2⟩
  have hfin := Lib.hid (pfact_five x5 R5 hg hSg (grown_trans G0 G5) kx hx5)
  rw [← HD.out] at hfin
  unfold strV at *
  have c40 : w5.cell? ⟨w.heap.size, 0, none⟩ = some (.int .i64 0) := K5.cell 0
  have c41 : w5.cell? ⟨w.heap.size, 1, none⟩ = some (.string ⟨#[]⟩) := K5.cell 1
  have c42 : w5.cell? ⟨w.heap.size, 2, none⟩ = some (.int .i64 0) := K5.cell 2
  have c43 : w5.cell? ⟨w.heap.size, 3, none⟩ = some (.int .i64 0) := K5.cell 3
  have c44 : w5.cell? ⟨w.heap.size, 4, none⟩ = some (.slice none 0 0) := K5.cell 4
  have f40 := K5.free 0
  have f41 := K5.free 1
  have f42 := K5.free 2
  have f43 := K5.free 3
  have f44 := K5.free 4
  clear hs K G0 R5 tm5 kx G5 hx5 HD
  go_wp2_with fail
  exact bodyPost_ret (results_cell_row (P := Tryz.prog) rfl _ _ w.heap.size _ _ (0, 0) _ rfl (zput_five K5) Tryz.underlying24 rfl (by kernel_rfl)) rfl hfin.out
end
section
open Go.RowKit
set_option maxHeartbeats 8000000 in
theorem wand_any (f d : Nat) (G : List Wv → Option (Sc f × List Wv)) (hG : Shrinks G) (S : Nat → Prop)
    (ih : ∀ (g : Nat) (st : Option (List Wv)) (w : World), SW w g S st → (∀ b, S b → b < w.heap.size) → (st.getD []).length ≤ 1000000 → Calls Tryz.prog 32 #[.pointer (some ⟨g, 0, none⟩), .int .i64 d] w (FactV w g S f (st.bind G)))
    (g : Nat) (st : Option (List Wv)) (w : World) (h : SW w g S st) (hS : ∀ b, S b → b < w.heap.size) (hL : (st.getD []).length ≤ 1000000) :
    Calls Tryz.prog 21 #[.pointer (some ⟨g, 0, none⟩), .int .i64 6, .int .i64 d] w (FactV w g S (f + 1) (st.bind (andV G))) := by
  have hg := h.lt
  obtain ⟨r, hr⟩ : ∃ r, r = st.bind (manyL G wAnd) := ⟨_, rfl⟩
  have HS0 : Hid (SoV G wAnd r st []) := by show SoV _ _ _ _ _; rw [hr]; exact SoV.start _ _ _
  have ho : st.bind (andV G) = r.map fun p => (oneV 6 p.1, p.2) := by rw [hr]; cases st <;> rfl
  rw [ho]
  clear ho hr
  have hne : ¬ w.heap.size = g := by omega
  have hSg : ¬ S w.heap.size := fun h => Nat.lt_irrefl _ (hS _ h)
  have K6 := (KB.new w 24 #[.int .i64 0, .string ⟨#[]⟩, .int .i64 0, .int .i64 0, .slice none 0 0]).alloc (.cells #[.int .i64 6, .string ⟨#[]⟩, .int .i64 0, .int .i64 0, .slice none 0 0] 24)
  have K7 := KB.new (w.alloc (.cells #[.int .i64 0, .string ⟨#[]⟩, .int .i64 0, .int .i64 0, .slice none 0 0] 24)) 24 #[.int .i64 6, .string ⟨#[]⟩, .int .i64 0, .int .i64 0, .slice none 0 0]
  rw [World.size_alloc] at K7
  have R := (h.alloc (.cells #[.int .i64 0, .string ⟨#[]⟩, .int .i64 0, .int .i64 0, .slice none 0 0] 24)).alloc (.cells #[.int .i64 6, .string ⟨#[]⟩, .int .i64 0, .int .i64 0, .slice none 0 0] 24)
  have GG := grown_of_below (((Below.refl w.heap.size w).alloc (Nat.le_refl _) (.cells #[.int .i64 0, .string ⟨#[]⟩, .int .i64 0, .int .i64 0, .slice none 0 0] 24)).alloc (by simp) (.cells #[.int .i64 6, .string ⟨#[]⟩, .int .i64 0, .int .i64 0, .slice none 0 0] 24)) (some g)
  clear h
  go_enter Tryz.func21, Tryz.ntmps21
  go_wp2_with fail
  go_loopw [34] (fun nv wr => ∃ (sj : Option (List Wv)) (qs : List QuZ) (ks : List (Sc f)) (kv : Value), Hid (SoV G wAnd r sj ks) ∧ ks.length + (sj.getD []).length ≤ 1000000 ∧ SW wr g S sj ∧
      KB wr w.heap.size 24 #[.int .i64 0, .string ⟨#[]⟩, .int .i64 0, .int .i64 0, .slice none 0 0] ∧ KB wr (w.heap.size + 1) 24 #[.int .i64 6, .string ⟨#[]⟩, .int .i64 0, .int .i64 0, kv] ∧ wr.ownsRow (w.heap.size + 2) 24 5 kv qs.length (flatZ qs) ∧ QZ wr (SNZ (w.heap.size + 1) wr kv) f qs ks ∧ w.grownBy wr (some g)) (fun _ wr => leftN wr g)
  case atStart => exact ⟨st, [], [], .slice none 0 0, HS0, by simpa using hL, R, K6, K7, World.ownsRow_nil _ _ _ _, QZ.nil _ _ _, GG⟩
  case round =>
    clear R K6 K7 GG HS0 hL
    obtain ⟨sj, qs, ks, kv, hso, hlen, R, L4, L6, how, hq, G0⟩ := hrel
    obtain ⟨A3, c3v, rfl⟩ := zown_form how
    have hc := ih g sj wr.drew R (fun b hb => Nat.lt_of_lt_of_le (hS b hb) G0.size) (by omega)
    have hqk := hq.1
    have HF := fun x hx ha => hso.out.fin hG x hx ha
    have HGo := fun x hx ha => hso.out.go hG x hx ha
    have HN := fun l (e : sj = some l) => SW.leftN (w := wr) (g := g) (S := S) (l := l) (e ▸ R)
    have HLn : Hid (∀ l, sj = some l → ks.length + l.length ≤ 1000000) := fun l e => by rw [e] at hlen; exact hlen
    replace HF := Lib.hid HF
    replace HGo := Lib.hid HGo
    replace HN := Lib.hid HN
    clear hso
    generalize sj.bind G = o at *
    have L4' : KB wr.drew w.heap.size 24 #[.int .i64 0, .string ⟨#[]⟩, .int .i64 0, .int .i64 0, .slice none 0 0] := L4
    have L6' : KB wr.drew (w.heap.size + 1) 24 #[.int .i64 6, .string ⟨#[]⟩, .int .i64 0, .int .i64 0, .slice A3 qs.length c3v] := L6
    have how' : wr.drew.ownsRow (w.heap.size + 1 + 1) 24 5 (.slice A3 qs.length c3v) qs.length (flatZ qs) := how
    have hq' : QZ wr.drew (SNZ (w.heap.size + 1) wr.drew (.slice A3 qs.length c3v)) f qs ks := hq.keepL (Nat.le_refl _) (fun _ _ _ => rfl) fun _ h _ => h
    have HLq : Hid (qs.length ≤ 1000000000) := by show _ ≤ _; omega
    have HKN := Lib.hid hqk
    have hg6 : g < w.heap.size + 1 := by omega
    have G' : w.grownBy wr.drew (some g) := ⟨G0.os, G0.tape, G0.output, G0.size, G0.block⟩
    have c3 : wr.cell? ⟨w.heap.size + 1, 4, none⟩ = some (.slice A3 qs.length c3v) := L6.cell 4
    have f3 := L6.free 4
    clear R L4 L6 how hq G0 hlen hqk
    go_wp2_with fail
    go_region_law
      (first
        | (go_simp; go_at_call 32; refine hc.mono ?_; rintro e w5 ⟨v5, x5, rfl, R5, tv5, hx5, G5⟩; replace hx5 := Lib.hid hx5; obtain ⟨e0, e1, e2, e3, e4, rfl, tm5⟩ := tv5; have L6a := L6'.grown G5 (by simp; omega); have how5 := zown_grown how' G5 (by omega); have how6 := own_past ((Below.refl _ _).alloc (Nat.le_refl _) (.cells #[e0, e1, e2, e3, e4] 24)) how5; have hone := tm5.cells1; have hsz : w.heap.size + 1 + 1 ≤ (w5.alloc (.cells #[e0, e1, e2, e3, e4] 24)).heap.size := (by have := L6a.lt; simp; omega); clear c3 f3 how5; have ca : (w5.alloc (.cells #[e0, e1, e2, e3, e4] 24)).cell? ⟨w.heap.size + 1, 4, none⟩ = some (.slice A3 qs.length c3v) := (L6a.alloc (.cells #[e0, e1, e2, e3, e4] 24)).cell 4; have c3 : w5.cell? ⟨w.heap.size + 1, 4, none⟩ = some (.slice A3 qs.length c3v) := L6a.cell 4; have f3 := L6a.free 4)
        | (refine step_growZ rfl _ _ rfl (w.heap.size + 1 + 1) _ qs rfl how6 _ 1 (e0, e1, e2, e3, e4) rfl (At_newZ w5 e0 e1 e2 e3 e4 _) hone HLq.out hsz ?_; intro v7 w7 how7 hg7 h7; obtain ⟨qq, hqq⟩ : ∃ qq, qq = qs ++ [(e0, e1, e2, e3, e4)] := ⟨_, rfl⟩; rw [← hqq] at how7; have HQQ := Lib.hid hqq; clear hqq; have L6b := (L6a.alloc (.cells #[e0, e1, e2, e3, e4] 24)).grown hg7 (own_ne how6 (Nat.lt_succ_self (w.heap.size + 1))); obtain ⟨A7, c7, rfl⟩ := zown_form how7; clear c3 f3; have c3 : w7.cell? ⟨w.heap.size + 1, 4, none⟩ = some (.slice A3 qs.length c3v) := L6b.cell 4; have f3 := L6b.free 4))
    all_goals
      have h6 : w.heap.size + 1 < wr.drew.heap.size := L6'.lt
      have L6f := L6b.put 4 (.slice A7 qq.length c7)
      have L4f := zKB_far (h := w.heap.size + 1) (i := 4) (v := (.slice A7 qq.length c7)) (((L4'.grown G5 (by simp; omega)).alloc (.cells #[e0, e1, e2, e3, e4] 24)).grown hg7 (own_ne how6 (by omega))) (by omega)
      have Rf := SW.far (h := w.heap.size + 1) (i := 4) (u := (.slice A7 qq.length c7)) (SW.grownX (R5.alloc (.cells #[e0, e1, e2, e3, e4] 24)) hg7 (fun x hx => ⟨by have := zown_ge how6 x hx; omega, fun hSx => by have := zown_ge how6 x hx; have := hS x hSx; omega⟩)) (by omega) (fun hSx => by have := hS _ hSx; omega)
      have howf := zown_grown how7 (grown_set w7 (w.heap.size + 1) 4 (.slice A7 qq.length c7)) (Nat.lt_succ_self _)
      have hsz8 : w7.heap.size = (w7.setCell ⟨w.heap.size + 1, 4, none⟩ (.slice A7 qq.length c7)).heap.size := by simp [World.setCell]
      have hbl8 : ∀ x, x ≠ w.heap.size + 1 → (w7.setCell ⟨w.heap.size + 1, 4, none⟩ (.slice A7 qq.length c7)).heap[x]? = w7.heap[x]? := fun x hx => Below.heap_setCell w7 ⟨w.heap.size + 1, 4, none⟩ (.slice A7 qq.length c7) x hx
      have hqf := QZ.more hq' tm5 how' G5 hg6 h6 hg7 h7 hsz8 hbl8
      rw [← HQQ.out] at hqf
      have Gf := zgrown_new (zgrown_newX (grown_trans (grown_trans G' G5) (grown_of_below ((Below.refl w5.heap.size w5).alloc (Nat.le_refl _) (.cells #[e0, e1, e2, e3, e4] 24)) (some g))) hg7 (fun x hx => by have := zown_ge how6 x hx; omega)) (grown_set w7 (w.heap.size + 1) 4 (.slice A7 qq.length c7)) (by omega)
      have hkq : Hid (qq.length = (ks ++ [x5]).length) := by show _ = _; rw [HQQ.out, List.length_append, List.length_append, HKN.out]; rfl
      clear hq' how' how6 how7 hsz8 hbl8 tm5 hg7 h7 hone hsz ca c3 f3 L6a L6b L4' L6' R5 G5 G' hc ih h6 HQQ
      go_wp2_with fail
      generalize w7.setCell ⟨w.heap.size + 1, 4, none⟩ (.slice A7 qq.length c7) = W at *
      have ha := wahead_any g S (o.map (·.2)) wAnd W Rf
      cases hb : aheadW (o.map (·.2)) wAnd with
      | true =>
        rw [hb] at ha
        obtain ⟨l, rest, es, eo, hlt, hso2⟩ := HGo.out x5 hx5.out hb
        rw [eo] at Rf
        have htk := wtake_any g S _ W Rf
        have hnl := HN.out l es
        have hll := HLn.out l es
        have hso2 := Lib.hid hso2
        have hlf : Hid ((ks ++ [x5]).length + rest.length ≤ 1000000) := by show _ ≤ _; rw [List.length_append]; simp; omega
        have hms : Hid (∀ W', SW W' g S (some rest) → leftN W' g < leftN wr g) := fun W' hW => by rw [hW.leftN, hnl]; omega
        clear HF HGo HN HLn hb hnl hll eo es Rf
        refine ha.mono ?_
        rintro e w9 ⟨rfl, rfl⟩
        clear ha
        go_wp2_with fail
        refine htk.mono ?_
        rintro e wt ⟨rfl, Rt, gt⟩
        have L4g := L4f.grown gt (by simp; omega)
        have L6g := L6f.grown gt (by simp; omega)
        have hwg := zown_grown howf gt (by omega)
        have hqg : QZ wt (SNZ (w.heap.size + 1) wt (.slice A7 qq.length c7)) f qq (ks ++ [x5]) := hqf.keepL gt.size (fun b hb hl => gt.block b hl (by have := hb.1; simp; omega)) fun b hb hl => ⟨hb.1, hb.2.1, Nat.lt_of_lt_of_le hb.2.2 gt.size⟩
        have Gg := grown_trans Gf gt
        clear htk gt L4f L6f howf hqf Gf
        go_wp2_with fail
        go_roundw
        case rel => exact ⟨some rest, qq, ks ++ [x5], _, hso2, hlf.out, Rt, L4g, L6g, hwg, hqg, Gg⟩
        case measure => exact hms.out _ Rt
      | false =>
        rw [hb] at ha
        obtain ⟨e1, e2⟩ := HF.out x5 hx5.out hb
        have hst : (r.map fun p => ((oneV 6 p.1 : Sc (f + 1)), p.2)).map (·.2) = o.map (·.2) := by rw [← e1]; cases r <;> rfl
        have hfx : Hid (∀ p, (r.map fun p => ((oneV 6 p.1 : Sc (f + 1)), p.2)) = some p → (oneV 6 (ks ++ [x5]) : Sc (f + 1)) = p.1) := fun p e => by
          cases hr : r with
          | none => rw [hr] at e; cases e
          | some q =>
            rw [hr] at e
            injection e with e
            rw [← e]
            exact congrArg (fun l => (oneV 6 l : Sc (f + 1))) (e2 q hr)
        rw [← hst] at Rf
        clear HF HGo HN HLn hb e1 e2 hst
        refine ha.mono ?_
        rintro e w9 ⟨rfl, rfl⟩
        clear ha
        have c40 : w9.cell? ⟨w.heap.size, 0, none⟩ = some (.int .i64 0) := L4f.cell 0
        have c41 : w9.cell? ⟨w.heap.size, 1, none⟩ = some (.string ⟨#[]⟩) := L4f.cell 1
        have c42 : w9.cell? ⟨w.heap.size, 2, none⟩ = some (.int .i64 0) := L4f.cell 2
        have c43 : w9.cell? ⟨w.heap.size, 3, none⟩ = some (.int .i64 0) := L4f.cell 3
        have c44 : w9.cell? ⟨w.heap.size, 4, none⟩ = some (.slice none 0 0) := L4f.cell 4
        have f40 := L4f.free 0
        have f41 := L4f.free 1
        have f42 := L4f.free 2
        have f43 := L4f.free 3
        have f44 := L4f.free 4
        have c60 : w9.cell? ⟨w.heap.size + 1, 0, none⟩ = some (.int .i64 6) := L6f.cell 0
        have c61 : w9.cell? ⟨w.heap.size + 1, 1, none⟩ = some (.string ⟨#[]⟩) := L6f.cell 1
        have c62 : w9.cell? ⟨w.heap.size + 1, 2, none⟩ = some (.int .i64 0) := L6f.cell 2
        have c63 : w9.cell? ⟨w.heap.size + 1, 3, none⟩ = some (.int .i64 0) := L6f.cell 3
        have c64 : w9.cell? ⟨w.heap.size + 1, 4, none⟩ = some (.slice A7 qq.length c7) := L6f.cell 4
        by_cases hk1 : (ks ++ [x5]).length = 1
        · have hq1 : qq.length = 1 := by rw [hkq.out]; exact hk1
          obtain ⟨b, oo, e0, e1, e2, e3, e4, rfl, k0, k1, k2, k3, k4, kx⟩ := kid_alone (op := 6) howf hqf hk1
          rw [hq1] at c64
          have hcc : 1 ≤ c7 := by
            have hz := ZS_of_own (S := fun b => w.heap.size + 1 < b) howf (hqf.mono fun b h => h.1) fun b hb _ => by omega
            obtain ⟨A', c', e, hl, _⟩ := hz.form
            injection e with _ _ e3
            omega
          obtain ⟨j0, l1, j2, j3, X4, n4, z4, rfl, rfl, rfl, rfl, rfl⟩ := kx.form
          replace kx := Lib.hid kx
          unfold strV at k1 kx
          clear howf hqf hkq hk1
          go_wp2_with fail
          exact bodyPost_ret (results_cell_row (P := Tryz.prog) rfl _ _ w.heap.size _ _ (0, 0) _ rfl (zput_five L4f) Tryz.underlying24 rfl (by kernel_rfl)) rfl
            (fact_five (oneV 6 (ks ++ [x5]) : Sc (f + 1)) Rf hne hSg Gf kx.out hfx.out)
        · have hq1 : ¬ (qq.length : Int) = 1 := by have := hkq.out; omega
          have hq2 : ((qq.length : Int) == 1) = false := beq_eq_false_iff_ne.2 hq1
          have kx := Lib.hid (kids_ZX (op := 6) (by unfold I64; omega) howf hqf hk1)
          clear howf hqf hkq hk1
          go_wp2_with fail
          exact bodyPost_ret (results_cell_row (P := Tryz.prog) rfl _ _ w.heap.size _ _ (0, 0) _ rfl (zput_five L4f) Tryz.underlying24 rfl (by kernel_rfl)) rfl
            (fact_five (oneV 6 (ks ++ [x5]) : Sc (f + 1)) Rf hne hSg Gf kx.out hfx.out)
end
end Go.Proofs.YtjecjlhofnnnpaaGreatDoor
