/-
  ScC: The document's named, many, small, Small and Same (layer 20), over the loaded program: each one's contract. No condition but the sizes that each contract names.
  ScD: Blocks of five cells, kids so far in rows of a call's own, what five stores keep: what the walks of the document's Read (layer 20) and of its reading of words (layer 21) rest on. No condition.
-/
import Derived.Test.YtdkmjdcddldjgaaHy02
import Derived.Lib.Hide
import Derived.BigQuiet
set_option linter.unusedVariables false
set_option maxRecDepth 100000
namespace Go.Proofs.Ytdkmjdcddldjgaa
section
open Go.RowKit
theorem zeq_txt (s s' : ByteArray) (l m : List UInt8) (hs : s = ⟨l.toArray⟩) (hs' : s' = ⟨m.toArray⟩) : (s.toList == s'.toList) = decide (l = m) := by subst hs hs'; exact str_eq l m
theorem zne_txt (s s' : ByteArray) (l m : List UInt8) (hs : s = ⟨l.toArray⟩) (hs' : s' = ⟨m.toArray⟩) : (s.toList != s'.toList) = !decide (l = m) := by rw [bne, zeq_txt s s' l m hs hs']
theorem zeq_prop {s s' : ByteArray} {b : Bool} (h : (s.toList != s'.toList) = b) : (b = true → ¬ s.toList = s'.toList) ∧ (b = false → s.toList = s'.toList) := by
  subst h
  exact ⟨fun h => bne_iff_ne.1 h, fun h => by
    have : ¬ s.toList ≠ s'.toList := fun hn => by rw [bne_iff_ne.2 hn] at h; cases h
    exact Classical.byContradiction fun hn => this hn⟩
theorem ztwo_boxes (w : World) (a b : Array Value) (t u : TypeId) :
    KB ((w.alloc (.cells a t)).alloc (.cells b u)) w.heap.size t a ∧ KB ((w.alloc (.cells a t)).alloc (.cells b u)) (w.heap.size + 1) u b ∧ Below w.heap.size w ((w.alloc (.cells a t)).alloc (.cells b u)) := by
  refine ⟨(KB.new w t a).alloc _, ?_, ((Below.refl _ _).alloc (Nat.le_refl _) _).alloc (by simp) _⟩
  have h := KB.new (w.alloc (.cells a t)) u b
  rwa [World.size_alloc] at h
theorem zsame_long {α β : Type} {g : α → β → Bool} : ∀ {l : List α} {m : List β}, l.length ≠ m.length → sameSL g l m = false := fun {l m} h => by
  cases hb : sameSL g l m with
  | false => rfl
  | true => exact absurd (sameSL_len l m hb) h
theorem zsame_yes {α β : Type} {g : α → β → Bool} : ∀ {l : List α} {m : List β}, l.length = m.length → (∀ (i : Nat) (a : α) (b : β), l[i]? = some a → m[i]? = some b → g a b = true) → sameSL g l m = true
  | [], [], _, _ => rfl
  | [], _ :: _, h, _ => by simp at h
  | _ :: _, [], h, _ => by simp at h
  | a :: l, b :: m, h, k => by
    rw [sameSL, k 0 a b rfl rfl, zsame_yes (by simpa using h) fun i x y hx hy => k (i + 1) x y (by simpa using hx) (by simpa using hy)]; rfl
theorem zsame_stop {α β : Type} {g : α → β → Bool} : ∀ {l : List α} {m : List β} {i : Nat} {a : α} {b : β}, l[i]? = some a → m[i]? = some b → g a b = false → sameSL g l m = false
  | [], _, _, _, _, h, _, _ => by simp at h
  | _ :: _, [], _, _, _, _, h, _ => by simp at h
  | c :: l, d :: m, 0, a, b, h1, h2, h => by
    simp at h1 h2
    subst h1 h2
    rw [sameSL, h]; rfl
  | c :: l, d :: m, i + 1, a, b, h1, h2, h => by
    rw [sameSL, zsame_stop (l := l) (m := m) (i := i) (by simpa using h1) (by simpa using h2) h]; simp
theorem kid_zb {w wr : World} {S : Nat → Prop} {f : Nat} {A : Option Addr} {c n : Nat} {ks : List (Sc f)} (h : ZS w S (ZX w S f) (.slice A n c) ks) (hn : ks.length = n) (hb : Below w.heap.size w wr) (j : Nat) (hj : j < ks.length) :
    ∃ b o e0 e1 e2 e3 e4, A = some ⟨b, o, none⟩ ∧ b < w.heap.size ∧ wr.cell? ⟨b, o + j * 5, none⟩ = some e0 ∧ wr.cell? ⟨b, o + j * 5 + 1, none⟩ = some e1 ∧ wr.cell? ⟨b, o + j * 5 + 2, none⟩ = some e2 ∧ wr.cell? ⟨b, o + j * 5 + 3, none⟩ = some e3 ∧ wr.cell? ⟨b, o + j * 5 + 4, none⟩ = some e4 ∧
      ZV wr S f (.agg #[e0, e1, e2, e3, e4]) ks[j] := by
  obtain ⟨b, o, e0, e1, e2, e3, e4, ea, hlt, k0, k1, k2, k3, k4, h⟩ := kid_z h hn hb.size (fun b _ hl => hb.block b hl) j hj
  exact ⟨b, o, e0, e1, e2, e3, e4, ea, hlt, k0, k1, k2, k3, k4, e0, e1, e2, e3, e4, rfl, h⟩
def fewZ : (f : Nat) → Sc f → Prop
  | 0, x => nomatch x
  | f + 1, (x : Ns (Sc f)) => x.kids.length ≤ 1000000 ∧ x.name.length ≤ 1000000 ∧ ∀ u, u ∈ x.kids → fewZ f u
theorem znamed_any (k : Int) (w : World) : Calls Try.prog 55 #[.int .i64 k] w fun e w' => e = .returned (.bool (namedS k)) ∧ w' = w := by
  unfold namedS
  by_cases h2 : k = 2
  · subst h2
    go_enter Try.func55, Try.ntmps55
    go_wp2_with fail
    go_ret
    exact ⟨rfl, rfl⟩
  by_cases h3 : k = 3
  · subst h3
    go_enter Try.func55, Try.ntmps55
    go_wp2_with fail
    go_ret
    exact ⟨rfl, rfl⟩
  have hr : decide (k = 2 ∨ k = 3 ∨ k = 4) = decide (k = 4) := by simp [h2, h3]
  rw [hr]
  clear hr
  have g2 : (k == 2) = false := beq_eq_false_iff_ne.2 h2
  have g3 : (k == 3) = false := beq_eq_false_iff_ne.2 h3
  by_cases h4 : k = 4
  · subst h4
    go_enter Try.func55, Try.ntmps55
    go_wp2_with fail
    go_ret
    exact ⟨rfl, rfl⟩
  · rw [decide_eq_false h4]
    have g4 : (k == 4) = false := beq_eq_false_iff_ne.2 h4
    go_enter Try.func55, Try.ntmps55
    go_wp2_with fail
    go_ret
    exact ⟨rfl, rfl⟩
theorem zmany_any (k : Int) (w : World) : Calls Try.prog 48 #[.int .i64 k] w fun e w' => e = .returned (.bool (manyS k)) ∧ w' = w := by
  unfold manyS
  by_cases h2 : k = 6
  · subst h2
    go_enter Try.func48, Try.ntmps48
    go_wp2_with fail
    go_ret
    exact ⟨rfl, rfl⟩
  have hr : decide (k = 6 ∨ k = 7) = decide (k = 7) := by simp [h2]
  rw [hr]
  clear hr
  have g2 : (k == 6) = false := beq_eq_false_iff_ne.2 h2
  by_cases h4 : k = 7
  · subst h4
    go_enter Try.func48, Try.ntmps48
    go_wp2_with fail
    go_ret
    exact ⟨rfl, rfl⟩
  · rw [decide_eq_false h4]
    have g4 : (k == 7) = false := beq_eq_false_iff_ne.2 h4
    go_enter Try.func48, Try.ntmps48
    go_wp2_with fail
    go_ret
    exact ⟨rfl, rfl⟩
set_option maxHeartbeats 4000000 in
theorem zsmall_few (S : Nat → Prop) : ∀ (f : Nat) (t : Sc f) (v : Value) (n d : Int) (w : World), -1 ≤ n → n ≤ 1000 → -1000 ≤ d → d ≤ 1000 → ZV w S f v t →
    Calls Try.prog 21 #[v, .int .i64 n, .int .i64 d] w fun e w' => ∃ m : Int, e = .returned (.int .i64 m) ∧ -1 ≤ m ∧ m ≤ 1000 ∧ (0 ≤ m → fewZ f t) ∧ Below w.heap.size w w' := by
  intro f
  induction f with
  | zero => intro t; exact nomatch t
  | succ f ih =>
    intro t v n d w hn hn2 hd hd2 hv
    obtain ⟨c0, c1, c2, c3, c4, rfl, rfl, hk, rfl, hml, rfl, hfr, rfl, hto, hks⟩ := hv
    obtain ⟨A3, cap3, e3, hl3, hm3, _⟩ := id hks
    subst e3
    have HFew : Hid ((t : Ns (Sc f)).kids.length ≤ 1000000 → (t : Ns (Sc f)).name.length ≤ 1000000 → (∀ u, u ∈ (t : Ns (Sc f)).kids → fewZ f u) → fewZ (f + 1) t) := fun h1 h2 h3 => ⟨h1, h2, h3⟩
    obtain ⟨FT, hFT⟩ : ∃ FT : Prop, FT = fewZ (f + 1) t := ⟨_, rfl⟩
    rw [← hFT]
    rw [← hFT] at HFew
    clear hFT
    have hmlen : (t : Ns (Sc f)).name.length ≤ 9223372036854775807 := by unfold maxLen at hml; omega
    have hsz : ((⟨(t : Ns (Sc f)).name.toArray⟩ : ByteArray).size : Int) = ((t : Ns (Sc f)).name.length : Int) := rfl
    generalize (t : Ns (Sc f)).op = k at *
    generalize (t : Ns (Sc f)).from_ = fr at *
    generalize (t : Ns (Sc f)).to_ = to_ at *
    generalize (t : Ns (Sc f)).name = l at *
    generalize (t : Ns (Sc f)).kids = ks at *
    clear t
    have hlen : ks.length ≤ 9223372036854775807 := by unfold maxLen at hm3; omega
    have W1 : wrap64 (n - 1) = n - 1 := IntWalk.wrap64_in _ (by omega)
    have W2 : wrap64 (d - 1) = d - 1 := IntWalk.wrap64_in _ (by omega)
    have I1 : IntKind.i64.wrap (n - 1) = n - 1 := by rw [IntKind.wrap_i64]; omega
    have I2 : IntKind.i64.wrap (d - 1) = d - 1 := by rw [IntKind.wrap_i64]; omega
    unfold strV at *
    obtain ⟨s, hs⟩ : ∃ s : ByteArray, s = ⟨l.toArray⟩ := ⟨_, rfl⟩
    rw [← hs] at hsz ⊢
    clear hs
    obtain ⟨ln, hln⟩ : ∃ ln, ln = l.length := ⟨_, rfl⟩
    rw [← hln] at hsz hmlen HFew
    clear hln hml
    obtain ⟨kl, hkl⟩ : ∃ kl, kl = ks.length := ⟨_, rfl⟩
    rw [← hkl] at hks hl3 hlen ⊢
    have HKL := Lib.hid hkl
    clear hkl
    have kb := KB.new w 25 #[.int .i64 k, .string s, .int .i64 fr, .int .i64 to_, .slice A3 kl cap3]
    have B0 := (Below.refl w.heap.size w).alloc (Nat.le_refl _) (.cells #[.int .i64 k, .string s, .int .i64 fr, .int .i64 to_, .slice A3 kl cap3] 25)
    have hno : ∀ W', Below w.heap.size w W' → ∃ m : Int, Ending.returned (.int .i64 (-1)) = .returned (.int .i64 m) ∧ -1 ≤ m ∧ m ≤ 1000 ∧ (0 ≤ m → FT) ∧ Below w.heap.size w W' := fun W' h => ⟨-1, rfl, by omega, by omega, fun h => by omega, h⟩
    have HNO := Lib.hid hno
    clear hno
    by_cases h1 : n < 1
    · have E := decide_eq_true h1
      go_enter Try.func21, Try.ntmps21
      go_wp2_with fail
      go_ret
      exact HNO.out _ B0
    have E1 : decide (n < 1) = false := decide_eq_false h1
    by_cases h2 : d < 1
    · have E := decide_eq_true h2
      go_enter Try.func21, Try.ntmps21
      go_wp2_with fail
      go_ret
      exact HNO.out _ B0
    have E2 : decide (d < 1) = false := decide_eq_false h2
    by_cases h3 : n < (kl : Int)
    · have E := decide_eq_true h3
      go_enter Try.func21, Try.ntmps21
      go_wp2_with fail
      go_ret
      exact HNO.out _ B0
    have E3 : decide (n < (kl : Int)) = false := decide_eq_false h3
    by_cases h4 : 100 < ln
    · have E : decide ((100 : Int) < (ln : Int)) = true := decide_eq_true (by omega)
      have E' : decide (100 < ln) = true := decide_eq_true h4
      go_enter Try.func21, Try.ntmps21
      go_wp2_with fail
      go_ret
      exact HNO.out _ B0
    have E4 : decide ((100 : Int) < (ln : Int)) = false := decide_eq_false (by omega)
    have E4' : decide (100 < ln) = false := decide_eq_false h4
    go_enter Try.func21, Try.ntmps21
    go_wp2_with fail
    clear E1 E2 E3 E4 E4'
    go_loopw [1, 7] (fun mv iv wr => ∃ (m : Int) (j : Nat), -1 ≤ m ∧ m ≤ 1000 ∧ Hid (0 ≤ m → ∀ i (h : i < ks.length), i < j → fewZ f ks[i]) ∧ j ≤ kl ∧ mv = .int .i64 m ∧ iv = .int .i64 j ∧
      KB wr w.heap.size 25 #[.int .i64 k, .string s, .int .i64 fr, .int .i64 to_, .slice A3 kl cap3] ∧ Below w.heap.size w wr) (fun mv iv _ => kl - (intOf iv).toNat)
    case atStart => exact ⟨n - 1, 0, by omega, by omega, fun _ i _ h => absurd h (Nat.not_lt_zero _), by omega, rfl, rfl, kb, B0⟩
    case round =>
      obtain ⟨m, j, hmm, hmk, hfw, hj, rfl, rfl, K, B⟩ := hrel
      have q3 : wr.cell? ⟨w.heap.size, 4, none⟩ = some (.slice A3 kl cap3) := K.cell 4
      by_cases hlt : j < kl
      · have hltI : (j : Int) < (kl : Int) := by omega
        by_cases hm0 : 0 ≤ m
        · have hjk : j < ks.length := by rw [← HKL.out]; exact hlt
          obtain ⟨b, o, e0, e1, e2, e3, e4, rfl, _, k0, k1, k2, k3, k4, hv⟩ := kid_zb hks HKL.out.symm B j hjk
          have hc := ih ks[j] (.agg #[e0, e1, e2, e3, e4]) m (d - 1) wr hmm hmk (by omega) (by omega) hv
          clear hv
          go_wp2_with fail
          refine hc.mono ?_
          rintro e w5 ⟨m5, rfl, h5, h5k, hf5, b5⟩
          have HF5 := Lib.hid hf5
          have HW : Hid (0 ≤ m5 → ∀ i (h : i < ks.length), i < j + 1 → fewZ f ks[i]) := by
            intro h0 i hi hij
            by_cases hij' : i < j
            · exact hfw.out hm0 i hi hij'
            · obtain rfl : i = j := by omega
              exact HF5.out h0
          clear hf5 HF5 hfw
          have K5 := K.below b5 K.lt
          have B5 := B.trans (b5.mono B.size)
          clear hc hjk
          go_wp2_with fail
          go_roundw
          case rel => exact ⟨m5, j + 1, h5, h5k, HW, by omega, rfl, by go_num, K5, B5⟩
          case measure => simp [intOf]; omega
        · go_wp2_with fail
          go_ret
          exact ⟨m, rfl, hmm, hmk, fun h => by omega, B⟩
      · go_wp2_with fail
        go_ret
        exact ⟨m, rfl, hmm, hmk, fun h => HFew.out (by rw [← HKL.out]; omega) (by omega) fun u hu => by
          obtain ⟨i, hi, e⟩ := List.mem_iff_getElem.1 hu
          rw [← e]
          exact hfw.out h i hi (by rw [← HKL.out] at hi; omega), B⟩
theorem zsmall_any (S : Nat → Prop) (f : Nat) (t : Sc f) (v : Value) (w : World) (hv : ZV w S f v t) :
    Calls Try.prog 7 #[v] w fun e w' => ∃ b : Bool, e = .returned (.bool b) ∧ (b = true → fewZ f t) ∧ Below w.heap.size w w' := by
  obtain ⟨c0, c1, c2, c3, c4, rfl, ht⟩ := hv
  have hv2 : ZV (w.alloc (.cells #[c0, c1, c2, c3, c4] 25)) S f (.agg #[c0, c1, c2, c3, c4]) t := ZV.alloc ⟨c0, c1, c2, c3, c4, rfl, ht⟩ _
  have hr := zsmall_few S f t _ 60 30 _ (by omega) (by omega) (by omega) (by omega) hv2
  clear hv2
  have B0 := (Below.refl w.heap.size w).alloc (Nat.le_refl _) (.cells #[c0, c1, c2, c3, c4] 25)
  obtain ⟨i0, l1, i2, i3, X4, n4, z4, rfl, rfl, rfl, rfl, rfl⟩ := ht.form
  unfold strV at *
  clear ht
  generalize fewZ f t = F at *
  go_enter Try.func7, Try.ntmps7
  go_wp2_with fail
  refine hr.mono ?_
  rintro e w5 ⟨m, rfl, h5, h6, hf, b5⟩
  have B5 := B0.trans (b5.mono (by simp))
  have HF := Lib.hid hf
  clear hr hf
  by_cases h0 : 0 ≤ m
  · have E := decide_eq_true h0
    go_wp2_with fail
    go_ret
    exact ⟨true, by simp, fun _ => HF.out h0, B5⟩
  · have E := decide_eq_false h0
    go_wp2_with fail
    go_ret
    exact ⟨false, by simp, (fun h => by cases h), B5⟩
end
section
open Go.RowKit
theorem zput_five {w : World} {g : Nat} {t : TypeId} {a b c d e x y z u v : Value} (h : KB w g t #[a, b, c, d, e]) : KB (((((w.setCell ⟨g, 0, none⟩ x).setCell ⟨g, 1, none⟩ y).setCell ⟨g, 2, none⟩ z).setCell ⟨g, 3, none⟩ u).setCell ⟨g, 4, none⟩ v) g t #[x, y, z, u, v] :=
  ((((h.put 0 x).put 1 y).put 2 z).put 3 u).put 4 v
theorem zgrown_five (w : World) (g : Nat) (x y z u v : Value) : w.grownBy (((((w.setCell ⟨g, 0, none⟩ x).setCell ⟨g, 1, none⟩ y).setCell ⟨g, 2, none⟩ z).setCell ⟨g, 3, none⟩ u).setCell ⟨g, 4, none⟩ v) (some g) :=
  grown_trans (grown_trans (grown_trans (grown_trans (grown_set _ _ _ _) (grown_set _ _ _ _)) (grown_set _ _ _ _)) (grown_set _ _ _ _)) (grown_set _ _ _ _)
theorem zKB_far {w : World} {g h i : Nat} {t : TypeId} {cs : Array Value} {v : Value} (k : KB w g t cs) (hne : h ≠ g) : KB (w.setCell ⟨h, i, none⟩ v) g t cs :=
  k.keep (Below.heap_setCell w ⟨h, i, none⟩ v g hne.symm)
theorem zgrown_new {a b c : World} {row : Option Nat} {h : Nat} (p : a.grownBy b row) (q : b.grownBy c (some h)) (hh : a.heap.size ≤ h) : a.grownBy c row :=
  ⟨q.os.trans p.os, q.tape.trans p.tape, q.output.trans p.output, Nat.le_trans p.size q.size, fun k hk hr => (q.block k (Nat.lt_of_lt_of_le hk p.size) (by simp; omega)).trans (p.block k hk hr)⟩
theorem zgrown_newX {a b c : World} {row row2 : Option Nat} (p : a.grownBy b row) (q : b.grownBy c row2) (hh : ∀ x, row2 = some x → a.heap.size ≤ x) : a.grownBy c row :=
  ⟨q.os.trans p.os, q.tape.trans p.tape, q.output.trans p.output, Nat.le_trans p.size q.size, fun k hk hr => (q.block k (Nat.lt_of_lt_of_le hk p.size) (fun e => by have := hh k e.symm; omega)).trans (p.block k hk hr)⟩
theorem zsets_size (w : World) (g : Nat) (x y z u v : Value) : w.heap.size = (((((w.setCell ⟨g, 0, none⟩ x).setCell ⟨g, 1, none⟩ y).setCell ⟨g, 2, none⟩ z).setCell ⟨g, 3, none⟩ u).setCell ⟨g, 4, none⟩ v).heap.size := by simp [World.setCell]
theorem zsets_block (w : World) (g b : Nat) (x y z u v : Value) (h : b ≠ g) : (((((w.setCell ⟨g, 0, none⟩ x).setCell ⟨g, 1, none⟩ y).setCell ⟨g, 2, none⟩ z).setCell ⟨g, 3, none⟩ u).setCell ⟨g, 4, none⟩ v).heap[b]? = w.heap[b]? :=
  (Below.heap_setCell _ ⟨g, 4, none⟩ v b h).trans ((Below.heap_setCell _ ⟨g, 3, none⟩ u b h).trans ((Below.heap_setCell _ ⟨g, 2, none⟩ z b h).trans ((Below.heap_setCell _ ⟨g, 1, none⟩ y b h).trans (Below.heap_setCell w ⟨g, 0, none⟩ x b h))))
theorem zown_form {w : World} {B e size n : Nat} {v : Value} {xs : List Value} (h : w.ownsRow B e size v n xs) : ∃ A c, v = .slice A n c := by
  obtain ⟨_, h2⟩ := h
  rcases h2 with ⟨rfl, rfl⟩ | ⟨g', c, cur, rfl, _⟩
  · exact ⟨none, 0, rfl⟩
  · exact ⟨_, c, rfl⟩
theorem zown_lt {w : World} {B e size n : Nat} {v : Value} {xs : List Value} (h : w.ownsRow B e size v n xs) (k : Nat) (hk : v.ownBlock = some k) : k < w.heap.size := by
  obtain ⟨_, h2⟩ := h
  rcases h2 with ⟨rfl, _⟩ | ⟨g', c, cur, rfl, _, hg, _⟩
  · simp [Value.ownBlock] at hk
  · simp [Value.ownBlock] at hk
    subst hk
    exact (Array.getElem?_eq_some_iff.1 hg).1
theorem zown_ge {w : World} {B e size n : Nat} {v : Value} {xs : List Value} (h : w.ownsRow B e size v n xs) (k : Nat) (hk : v.ownBlock = some k) : B ≤ k := by
  obtain ⟨_, h2⟩ := h
  rcases h2 with ⟨rfl, _⟩ | ⟨g', c, cur, rfl, hb, _⟩
  · simp [Value.ownBlock] at hk
  · simp [Value.ownBlock] at hk
    omega
theorem zown_grown {w w' : World} {base e size n g : Nat} {v : Value} {xs : List Value} (h : w.ownsRow base e size v n xs) (hg : w.grownBy w' (some g)) (hb : g < base) : w'.ownsRow base e size v n xs :=
  h.kept hg (.inr (own_ne h hb))
theorem ZS.restrict {α : Type} {w : World} {S : Nat → Prop} {E E' : α → Value → Value → Value → Value → Value → Prop} {v : Value} {ks : List α} (h : ZS w S E v ks) (he : ∀ t c0 c1 c2 c3 c4, E t c0 c1 c2 c3 c4 → E' t c0 c1 c2 c3 c4) :
    ZS w (fun b => S b ∧ b < w.heap.size) E' v ks := by
  obtain ⟨A, c, e, hl, hc, hn, hx⟩ := h
  refine ⟨A, c, e, hl, hc, hn, fun h0 => ?_⟩
  obtain ⟨b, o, ea, sb, hb, hx⟩ := hx h0
  refine ⟨b, o, ea, ⟨sb, hb⟩, hb, fun i t hi => ?_⟩
  obtain ⟨c0, c1, c2, c3, c4, k0, k1, k2, k3, k4, ke⟩ := hx i t hi
  exact ⟨c0, c1, c2, c3, c4, k0, k1, k2, k3, k4, he _ _ _ _ _ _ ke⟩
theorem ZX.lt {w : World} {S : Nat → Prop} : ∀ (f : Nat) (t : Sc f) (c0 c1 c2 c3 c4 : Value), ZX w S f t c0 c1 c2 c3 c4 → ZX w (fun b => S b ∧ b < w.heap.size) f t c0 c1 c2 c3 c4
  | 0, t, _, _, _, _, _, _ => nomatch t
  | f + 1, (t : Ns (Sc f)), c0, c1, c2, c3, c4, h => by
    obtain ⟨h0, h1, h2, h3, h4, h5, h6, h7, h8⟩ := h
    exact ⟨h0, h1, h2, h3, h4, h5, h6, h7, h8.restrict fun u d0 d1 d2 d3 d4 hu => ZX.lt f u d0 d1 d2 d3 d4 hu⟩
theorem zread_ZV {wr w' : World} {B g6 d : Nat} {k fr to_ : Int} {nm : List UInt8} {ks : List (Sc (d + 1))} {qs : List QuZ} {kv : Value} (hI : I64 k) (hn : nm.length ≤ maxLen) (hf : I64 fr) (ht : I64 to_)
    (how : wr.ownsRow (g6 + 1) 25 5 kv qs.length (flatZ qs)) (hq : QZ wr (fun b => g6 < b) (d + 1) qs ks) (hB : B ≤ g6) (hs : wr.heap.size = w'.heap.size) (hk : ∀ b, g6 < b → w'.heap[b]? = wr.heap[b]?) :
    ZV w' (fun b => B ≤ b ∧ b < w'.heap.size) (d + 1 + 1) (.agg #[.int .i64 k, strV nm, .int .i64 fr, .int .i64 to_, kv]) (⟨k, nm, fr, to_, ks⟩ : Ns (Sc (d + 1))) := by
  have h : ZX wr (fun b => g6 < b) (d + 1 + 1) (⟨k, nm, fr, to_, ks⟩ : Ns (Sc (d + 1))) (.int .i64 k) (strV nm) (.int .i64 fr) (.int .i64 to_) kv := ⟨rfl, hI, rfl, hn, rfl, hf, rfl, ht, ZS_of_own how hq fun b hb _ => hb⟩
  exact ⟨_, _, _, _, _, rfl, ZX.keepS (ZX.lt _ _ _ _ _ _ _ h) (Nat.le_of_eq hs) (fun b hb _ => hk b hb.1) fun b hb => ⟨by omega, by omega⟩⟩
def SNZ (g6 : Nat) (w : World) (kv : Value) : Nat → Prop := fun b => g6 < b ∧ kv.ownBlock ≠ some b ∧ b < w.heap.size
theorem QZ.more {wr w5 w7 w8 : World} {g g6 d : Nat} {kv v7 : Value} {qs : List QuZ} {ks : List (Sc d)} {e0 e1 e2 e3 e4 : Value} {t : Sc d} {o : Obj} {B n e size : Nat} {xs : List Value} (hq : QZ wr (SNZ g6 wr kv) d qs ks) (tm : ZX w5 (fun b => wr.heap.size ≤ b ∧ b < w5.heap.size) d t e0 e1 e2 e3 e4)
    (how : wr.ownsRow B e size kv n xs) (G5 : wr.grownBy w5 (some g)) (hg : g < g6) (h6 : g6 < wr.heap.size) (hg7 : (w5.alloc o).grownBy w7 kv.ownBlock) (h7 : v7.ownBlock = kv.ownBlock ∨ v7.ownBlock = some (w5.alloc o).heap.size)
    (hs : w7.heap.size = w8.heap.size) (hk : ∀ b, b ≠ g6 → w8.heap[b]? = w7.heap[b]?) : QZ w8 (SNZ g6 w8 v7) d (qs ++ [(e0, e1, e2, e3, e4)]) (ks ++ [t]) := by
  have s5 := G5.size
  have s7 := hg7.size
  have sa : (w5.alloc o).heap.size = w5.heap.size + 1 := by simp
  have hkv := zown_lt how
  refine QZ.append ?_ ?_
  · refine hq.keepL (by omega) (fun b hb hlt => ?_) fun b hb _ => ?_
    · obtain ⟨b1, b2, b3⟩ := hb
      rw [hk b (by omega), hg7.block b (by omega) (fun e => b2 e.symm), Below.heap_alloc w5 o b (by omega), G5.block b hlt (by simp; omega)]
    · obtain ⟨b1, b2, b3⟩ := hb
      refine ⟨b1, ?_, by omega⟩
      rcases h7 with h | h
      · rw [h]; exact b2
      · rw [h]; simp; omega
  · refine (QZ.one tm).keepL (by omega) (fun b hb hlt => ?_) fun b hb _ => ?_
    · have hne : kv.ownBlock ≠ some b := fun e => by have := hkv b e; omega
      rw [hk b (by omega), hg7.block b (by omega) (fun e => hne e.symm), Below.heap_alloc w5 o b (by omega)]
    · have hne : kv.ownBlock ≠ some b := fun e => by have := hkv b e; omega
      refine ⟨by omega, ?_, by omega⟩
      rcases h7 with h | h
      · rw [h]; exact hne
      · rw [h]; simp; omega
theorem zero_ZV (w : World) (S : Nat → Prop) (f : Nat) : ZV w S (f + 1) (.agg #[.int .i64 0, .string ⟨#[]⟩, .int .i64 0, .int .i64 0, .slice none 0 0]) (zeroNs : Ns (Sc f)) := ⟨_, _, _, _, _, rfl, zeroZ w S f⟩
theorem step_growZ {ops : Array Oper} {o : Oper} {a : Act} {w : World} {K : Act → World → Prop} {Q : Exit → Act → World → Prop} {E : Prop} (hg : o.guard = none) (s x : Operand)
    (ho : o.op = .call { callee := .builtin .append, args := #[s, x], argTypes := #[23, 23] })
    (base : Nat) (v : Value) (qs : List QuZ) (hs : a.eval s = v) (hown : w.ownsRow base 25 5 v qs.length (flatZ qs))
    (ad : Addr) (c : Nat) (p : QuZ) (hxe : a.eval x = .slice (some ad) 1 c) (hx : ∀ j u, (fiveZ p)[j]? = some u → w.cell? (ad.add j) = some u) (h1 : ∀ u ∈ fiveZ p, u.oneCell' = true) (hb : qs.length ≤ 1000000000) (hbase : base ≤ w.heap.size)
    (hK : ∀ v' w', w'.ownsRow base 25 5 v' (qs ++ [p]).length (flatZ (qs ++ [p])) → w.grownBy w' v.ownBlock → (v'.ownBlock = v.ownBlock ∨ v'.ownBlock = some w.heap.size) → K (a.put o.dst v') w') :
    if Region.wanted o (yielded ops a.tmps) = true then Oper.wp Try.prog o a w K Q else E := by
  have hw : Region.wanted o (yielded ops a.tmps) = true := by simp [Region.wanted, hg]
  rw [if_pos hw]
  obtain ⟨v', w', hrun, h2, h3, h4⟩ := run_growZ w base v qs hown ad c p hx h1 hb hbase o.type
  unfold Oper.wp execOp
  simp only [ho, resolve, invoke, builtin, Sem.run_bind, Sem.run_pure, Result.andThen_ok, List.map_toArray, List.map_cons, List.map_nil, hs, hxe, hrun]
  exact hK _ _ h2 h3 h4
theorem At_newZ (w : World) (c0 c1 c2 c3 c4 : Value) (t : TypeId) : ∀ j u, (fiveZ (c0, c1, c2, c3, c4))[j]? = some u → (w.alloc (.cells #[c0, c1, c2, c3, c4] t)).cell? ((⟨w.heap.size, 0, none⟩ : Addr).add j) = some u := fun j u h => by
  have := (KB.new w t #[c0, c1, c2, c3, c4]).cell j
  have e : ((⟨w.heap.size, 0, none⟩ : Addr).add j) = ⟨w.heap.size, j, none⟩ := by rw [Go.WideShapes.add_plain, Nat.zero_add]
  rw [e, this]
  simpa [fiveZ] using h
end
end Go.Proofs.Ytdkmjdcddldjgaa
