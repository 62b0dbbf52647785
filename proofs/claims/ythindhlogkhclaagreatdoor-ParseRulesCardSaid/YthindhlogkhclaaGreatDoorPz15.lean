/-
  PaW: How the program asks what a word is (layer 18), over the loaded program: the contracts of says and of what it hands back, of quoted, days, open, closing, end and mile. No condition but what each names.
-/
import Derived.Test.YthindhlogkhclaaGreatDoorPz06
import Derived.Test.YthindhlogkhclaaGreatDoorPz07
import Derived.Test.YthindhlogkhclaaGreatDoorPz10
import Derived.Test.YthindhlogkhclaaGreatDoorPz14
import Derived.Test.YthindhlogkhclaaGreatDoorPz05
set_option linter.unusedVariables false
set_option maxRecDepth 100000
namespace Go.Proofs.YthindhlogkhclaaGreatDoor
section
open Go.RowKit
def tokV (t : Tk) : Value := .agg #[.int .i64 (t.kind : Int), strV t.text, .int .i64 t.n, .int .i64 (t.at_ : Int)]
theorem kind_int (t : Tk) (k : Nat) (K : Int) (h : (k : Int) = K) : decide (t.kind = k) = decide ((t.kind : Int) = K) := by
  subst h
  by_cases h : t.kind = k
  · rw [decide_eq_true h, decide_eq_true (by omega)]
  · rw [decide_eq_false h, decide_eq_false (by omega)]
theorem word_at {w wr : World} {S : Nat → Prop} {A : Option Addr} {n c : Nat} {ws : List (List UInt8)} (h : CS w S (.slice A n c) (ws.map strV)) (hn : ws.length = n) (hb : Below w.heap.size w wr) (j : Nat) (hj : j < ws.length) :
    ∃ b o, A = some ⟨b, o, none⟩ ∧ b < w.heap.size ∧ wr.cell? ⟨b, o + j, none⟩ = some (strV ws[j]) := by
  subst hn
  obtain ⟨A', c', e, hl, hc, hx⟩ := h
  injection e with e1 e2 e3
  subst e1 e3
  obtain ⟨b, o, rfl, sb, hlt, hx⟩ := hx (by rw [List.length_map]; omega)
  exact ⟨b, o, rfl, hlt, (World.cell?_of_block (w := w) (w' := wr) (hb.block b hlt)).trans (hx j (strV ws[j]) (by rw [List.getElem?_map, List.getElem?_eq_getElem hj]; rfl))⟩
theorem words_index (S : Nat → Prop) (ws : List (List UInt8)) (v : Value) (x : List UInt8) (w : World) (hl : CS w S v (ws.map strV)) :
    Calls Tryz.prog 86 #[v, strV x] w fun e w' => ∃ r : Int, e = .returned (.int .i64 r) ∧ decide (0 ≤ r) = ws.contains x ∧ Below w.heap.size w w' := by
  obtain ⟨A, c, rfl, hlc, hm, _⟩ := id hl
  rw [List.length_map] at hl hlc ⊢
  have hle : ws.length ≤ 9223372036854775807 := by unfold maxLen at hm; omega
  have HY : Hid (∀ j : Nat, ws[j]? = some x → ws.contains x = true) := fun j h => by
    rw [List.contains_iff_mem]; exact List.mem_of_getElem? h
  have HN : Hid ((∀ i : Nat, i < ws.length → ws[i]? ≠ some x) → ws.contains x = false) := fun h => by
    cases hq : ws.contains x with
    | false => rfl
    | true =>
      rw [List.contains_iff_mem] at hq
      obtain ⟨i, hi, he⟩ := List.mem_iff_getElem.1 hq
      exact absurd (by rw [List.getElem?_eq_getElem hi, he]) (h i hi)
  generalize ws.contains x = r at *
  obtain ⟨s, hs⟩ : ∃ s : ByteArray, s = ⟨x.toArray⟩ := ⟨_, rfl⟩
  have hsv : strV x = .string s := by unfold strV; rw [hs]
  rw [hsv]
  go_enter Tryz.func86, Tryz.ntmps86
  go_wp2_with fail
  go_loopw [8] (fun iv wr => ∃ j : Nat, j ≤ ws.length ∧ iv = .int .i64 j ∧ Hid (∀ i, i < j → ws[i]? ≠ some x) ∧ Below w.heap.size w wr) (fun iv _ => ws.length - (intOf iv).toNat)
  case atStart => exact ⟨0, by omega, rfl, fun i h => absurd h (Nat.not_lt_zero _), Below.refl _ _⟩
  case round =>
    obtain ⟨j, hj, rfl, HS, B⟩ := hrel
    by_cases hlt : j < ws.length
    · obtain ⟨b, o, rfl, hb, k0⟩ := word_at hl rfl B j hlt
      have hgj : ws[j]? = some ws[j] := List.getElem?_eq_getElem hlt
      obtain ⟨t, ht⟩ : ∃ t : ByteArray, t = ⟨(ws[j]).toArray⟩ := ⟨_, rfl⟩
      have htv : strV ws[j] = .string t := by unfold strV; rw [ht]
      rw [htv] at k0
      have gq := eq_txt s t _ _ hs ht
      by_cases he : x = ws[j]
      · have hr := HY.out j (by rw [hgj, he])
        rw [decide_eq_true he] at gq
        have gq' : s.toList = t.toList := by simpa using gq
        clear HY HN HS he hgj hs ht hsv htv
        subst hr
        go_wp2_with fail
        go_ret
        exact ⟨_, rfl, decide_eq_true (by omega), B⟩
      · have HB : Hid (∀ i, i < j + 1 → ws[i]? ≠ some x) := by
          intro i hi hu
          by_cases hij : i < j
          · exact HS.out i hij hu
          · obtain rfl : i = j := by omega
            rw [hgj] at hu
            exact he (Option.some.inj hu).symm
        rw [decide_eq_false he] at gq
        have gq' : ¬ s.toList = t.toList := by simpa using gq
        clear he hgj HS HY hs ht hsv htv
        go_wp2_with fail
        go_roundw
        case rel => exact ⟨j + 1, by omega, by go_num, HB, B⟩
        case measure => simp [intOf]; omega
    · obtain rfl : j = ws.length := by omega
      have hr := HN.out HS.out
      clear HN HS HY
      subst hr
      go_wp2_with fail
      go_ret
      exact ⟨_, rfl, by decide, B⟩
theorem words_contains (S : Nat → Prop) (ws : List (List UInt8)) (v : Value) (x : List UInt8) (w : World) (hl : CS w S v (ws.map strV)) :
    Calls Tryz.prog 66 #[v, strV x] w fun e w' => e = .returned (.bool (ws.contains x)) ∧ Below w.heap.size w w' := by
  have hc := words_index S ws v x w hl
  generalize ws.contains x = r at *
  obtain ⟨A, c, rfl, _⟩ := id hl
  rw [List.length_map] at hc ⊢
  obtain ⟨s, hsv⟩ : ∃ s : ByteArray, strV x = .string s := ⟨_, rfl⟩
  rw [hsv] at hc ⊢
  clear hl hsv
  go_enter Tryz.func66, Tryz.ntmps66
  go_wp2_with fail
  refine hc.mono ?_
  rintro e w5 ⟨m, rfl, hn, b5⟩
  clear hc
  subst hn
  go_wp2_with fail
  go_ret
  exact ⟨rfl, b5⟩
theorem says1_any (S : Nat → Prop) (ws : List (List UInt8)) (v : Value) (g : Nat) (t : Tk) (w : World) (hg : KB w g 101 #[v]) (hl : CS w S v (ws.map strV)) :
    Calls Tryz.prog 65 #[tokV t, .pointer (some ⟨g, 0, none⟩)] w fun e w' => e = .returned (.bool (saysB ws t)) ∧ Below w.heap.size w w' := by
  have B := (Below.refl w.heap.size w).alloc (Nat.le_refl _) (.cells #[.int .i64 (t.kind : Int), strV t.text, .int .i64 t.n, .int .i64 (t.at_ : Int)] 62)
  have HC : Hid (∀ W, Below w.heap.size w W → Calls Tryz.prog 66 #[v, strV t.text] W fun e w' => e = .returned (.bool (ws.contains t.text)) ∧ Below W.heap.size W w') := fun W hb => words_contains S ws v t.text W (hl.below' hb)
  have q0 : w.cell? ⟨g, 0, none⟩ = some v := hg.cell 0
  have hgl := hg.lt
  obtain ⟨A, c, rfl, _⟩ := id hl
  rw [List.length_map] at HC q0
  have hr : saysB ws t = (decide (t.kind = 1) && ws.contains t.text) := rfl
  rw [hr]
  clear hl hr hg
  unfold tokV at *
  obtain ⟨s, hsv⟩ : ∃ s : ByteArray, strV t.text = .string s := ⟨_, rfl⟩
  rw [hsv] at HC B ⊢
  clear hsv
  generalize ws.contains t.text = r at *
  generalize t.n = tn at *
  generalize t.at_ = ta at *
  rw [kind_int t 1 1 rfl]
  generalize (t.kind : Int) = K at *
  by_cases hk : K = 1
  · subst hk
    rw [decide_eq_true rfl, Bool.true_and]
    go_enter Tryz.func65, Tryz.ntmps65
    go_wp2_with fail
    refine (HC.out _ B).mono ?_
    rintro e w5 ⟨rfl, b5⟩
    clear HC
    go_wp2_with fail
    go_ret
    exact ⟨rfl, B.trans (b5.mono B.size)⟩
  · have g1 : ¬ (K = 1) := hk
    have g2 : (K == 1) = false := beq_eq_false_iff_ne.2 g1
    have g3 : decide (K = 1) = false := decide_eq_false g1
    rw [decide_eq_false hk, Bool.false_and]
    clear hk HC
    go_enter Tryz.func65, Tryz.ntmps65
    go_wp2_with fail
    go_ret
    exact ⟨rfl, B⟩
theorem says_any (v : Value) (hv : ∃ A n c, v = .slice A n c) (w : World) :
    Calls Tryz.prog 31 #[v] w fun e w' => e = .returned (.func (.func 65) #[] #[.pointer (some ⟨w.heap.size, 0, none⟩)]) ∧ KB w' w.heap.size 101 #[v] ∧ Below w.heap.size w w' := by
  obtain ⟨A, n, c, rfl⟩ := hv
  go_enter Tryz.func31, Tryz.ntmps31
  go_wp2_with fail
  go_ret
  exact ⟨rfl, KB.new _ _ _, (Below.refl w.heap.size w).alloc (Nat.le_refl _) _⟩
theorem milef_any (t : Tk) (w : World) : Calls Tryz.prog 107 #[tokV t] w fun e w' => e = .returned (.bool (mileB t)) ∧ Below w.heap.size w w' := by
  have B := (Below.refl w.heap.size w).alloc (Nat.le_refl _) (.cells #[.int .i64 (t.kind : Int), strV t.text, .int .i64 t.n, .int .i64 (t.at_ : Int)] 62)
  have HC := Lib.hid (word_any t.text)
  have hr : mileB t = (decide (t.kind = 1) && wordS t.text) := rfl
  rw [hr]
  clear hr
  unfold tokV at *
  obtain ⟨s, hsv⟩ : ∃ s : ByteArray, strV t.text = .string s := ⟨_, rfl⟩
  rw [hsv] at HC B ⊢
  clear hsv
  generalize wordS t.text = r at *
  generalize t.n = tn at *
  generalize t.at_ = ta at *
  rw [kind_int t 1 1 rfl]
  generalize (t.kind : Int) = K at *
  by_cases hk : K = 1
  · subst hk
    rw [decide_eq_true rfl, Bool.true_and]
    go_enter Tryz.func107, Tryz.ntmps107
    go_wp2_with fail
    refine (HC.out _).mono ?_
    rintro e w5 ⟨rfl, b5⟩
    clear HC
    go_wp2_with fail
    go_ret
    exact ⟨rfl, B.trans (b5.mono B.size)⟩
  · have g1 : ¬ (K = 1) := hk
    have g2 : (K == 1) = false := beq_eq_false_iff_ne.2 g1
    have g3 : decide (K = 1) = false := decide_eq_false g1
    rw [decide_eq_false hk, Bool.false_and]
    clear hk HC
    go_enter Tryz.func107, Tryz.ntmps107
    go_wp2_with fail
    go_ret
    exact ⟨rfl, B⟩
theorem quotedf_any (t : Tk) (w : World) : Calls Tryz.prog 32 #[tokV t] w fun e w' => e = .returned (.bool (kindB 2 t)) ∧ Below w.heap.size w w' := by
  have B := (Below.refl w.heap.size w).alloc (Nat.le_refl _) (.cells #[.int .i64 (t.kind : Int), strV t.text, .int .i64 t.n, .int .i64 (t.at_ : Int)] 62)
  have hr : kindB 2 t = decide (t.kind = 2) := rfl
  rw [hr]
  clear hr
  unfold tokV at *
  obtain ⟨s, hsv⟩ : ∃ s : ByteArray, strV t.text = .string s := ⟨_, rfl⟩
  rw [hsv] at B ⊢
  clear hsv
  generalize t.n = tn at *
  generalize t.at_ = ta at *
  rw [kind_int t 2 2 rfl]
  generalize (t.kind : Int) = K at *
  by_cases hk : K = 2
  · subst hk
    rw [decide_eq_true rfl]
    go_enter Tryz.func32, Tryz.ntmps32
    go_wp2_with fail
    go_ret
    exact ⟨rfl, B⟩
  · have g1 : ¬ (K = 2) := hk
    have g2 : (K == 2) = false := beq_eq_false_iff_ne.2 g1
    have g3 : decide (K = 2) = false := decide_eq_false g1
    rw [decide_eq_false hk]
    clear hk
    go_enter Tryz.func32, Tryz.ntmps32
    go_wp2_with fail
    go_ret
    exact ⟨rfl, B⟩
theorem daysf_any (t : Tk) (w : World) : Calls Tryz.prog 106 #[tokV t] w fun e w' => e = .returned (.bool (kindB 3 t)) ∧ Below w.heap.size w w' := by
  have B := (Below.refl w.heap.size w).alloc (Nat.le_refl _) (.cells #[.int .i64 (t.kind : Int), strV t.text, .int .i64 t.n, .int .i64 (t.at_ : Int)] 62)
  have hr : kindB 3 t = decide (t.kind = 3) := rfl
  rw [hr]
  clear hr
  unfold tokV at *
  obtain ⟨s, hsv⟩ : ∃ s : ByteArray, strV t.text = .string s := ⟨_, rfl⟩
  rw [hsv] at B ⊢
  clear hsv
  generalize t.n = tn at *
  generalize t.at_ = ta at *
  rw [kind_int t 3 3 rfl]
  generalize (t.kind : Int) = K at *
  by_cases hk : K = 3
  · subst hk
    rw [decide_eq_true rfl]
    go_enter Tryz.func106, Tryz.ntmps106
    go_wp2_with fail
    go_ret
    exact ⟨rfl, B⟩
  · have g1 : ¬ (K = 3) := hk
    have g2 : (K == 3) = false := beq_eq_false_iff_ne.2 g1
    have g3 : decide (K = 3) = false := decide_eq_false g1
    rw [decide_eq_false hk]
    clear hk
    go_enter Tryz.func106, Tryz.ntmps106
    go_wp2_with fail
    go_ret
    exact ⟨rfl, B⟩
theorem openf_any (t : Tk) (w : World) : Calls Tryz.prog 104 #[tokV t] w fun e w' => e = .returned (.bool (kindB 4 t)) ∧ Below w.heap.size w w' := by
  have B := (Below.refl w.heap.size w).alloc (Nat.le_refl _) (.cells #[.int .i64 (t.kind : Int), strV t.text, .int .i64 t.n, .int .i64 (t.at_ : Int)] 62)
  have hr : kindB 4 t = decide (t.kind = 4) := rfl
  rw [hr]
  clear hr
  unfold tokV at *
  obtain ⟨s, hsv⟩ : ∃ s : ByteArray, strV t.text = .string s := ⟨_, rfl⟩
  rw [hsv] at B ⊢
  clear hsv
  generalize t.n = tn at *
  generalize t.at_ = ta at *
  rw [kind_int t 4 4 rfl]
  generalize (t.kind : Int) = K at *
  by_cases hk : K = 4
  · subst hk
    rw [decide_eq_true rfl]
    go_enter Tryz.func104, Tryz.ntmps104
    go_wp2_with fail
    go_ret
    exact ⟨rfl, B⟩
  · have g1 : ¬ (K = 4) := hk
    have g2 : (K == 4) = false := beq_eq_false_iff_ne.2 g1
    have g3 : decide (K = 4) = false := decide_eq_false g1
    rw [decide_eq_false hk]
    clear hk
    go_enter Tryz.func104, Tryz.ntmps104
    go_wp2_with fail
    go_ret
    exact ⟨rfl, B⟩
theorem closingf_any (t : Tk) (w : World) : Calls Tryz.prog 105 #[tokV t] w fun e w' => e = .returned (.bool (kindB 5 t)) ∧ Below w.heap.size w w' := by
  have B := (Below.refl w.heap.size w).alloc (Nat.le_refl _) (.cells #[.int .i64 (t.kind : Int), strV t.text, .int .i64 t.n, .int .i64 (t.at_ : Int)] 62)
  have hr : kindB 5 t = decide (t.kind = 5) := rfl
  rw [hr]
  clear hr
  unfold tokV at *
  obtain ⟨s, hsv⟩ : ∃ s : ByteArray, strV t.text = .string s := ⟨_, rfl⟩
  rw [hsv] at B ⊢
  clear hsv
  generalize t.n = tn at *
  generalize t.at_ = ta at *
  rw [kind_int t 5 5 rfl]
  generalize (t.kind : Int) = K at *
  by_cases hk : K = 5
  · subst hk
    rw [decide_eq_true rfl]
    go_enter Tryz.func105, Tryz.ntmps105
    go_wp2_with fail
    go_ret
    exact ⟨rfl, B⟩
  · have g1 : ¬ (K = 5) := hk
    have g2 : (K == 5) = false := beq_eq_false_iff_ne.2 g1
    have g3 : decide (K = 5) = false := decide_eq_false g1
    rw [decide_eq_false hk]
    clear hk
    go_enter Tryz.func105, Tryz.ntmps105
    go_wp2_with fail
    go_ret
    exact ⟨rfl, B⟩
theorem endf_any (t : Tk) (w : World) : Calls Tryz.prog 35 #[tokV t] w fun e w' => e = .returned (.bool (kindB 6 t)) ∧ Below w.heap.size w w' := by
  have B := (Below.refl w.heap.size w).alloc (Nat.le_refl _) (.cells #[.int .i64 (t.kind : Int), strV t.text, .int .i64 t.n, .int .i64 (t.at_ : Int)] 62)
  have hr : kindB 6 t = decide (t.kind = 6) := rfl
  rw [hr]
  clear hr
  unfold tokV at *
  obtain ⟨s, hsv⟩ : ∃ s : ByteArray, strV t.text = .string s := ⟨_, rfl⟩
  rw [hsv] at B ⊢
  clear hsv
  generalize t.n = tn at *
  generalize t.at_ = ta at *
  rw [kind_int t 6 6 rfl]
  generalize (t.kind : Int) = K at *
  by_cases hk : K = 6
  · subst hk
    rw [decide_eq_true rfl]
    go_enter Tryz.func35, Tryz.ntmps35
    go_wp2_with fail
    go_ret
    exact ⟨rfl, B⟩
  · have g1 : ¬ (K = 6) := hk
    have g2 : (K == 6) = false := beq_eq_false_iff_ne.2 g1
    have g3 : decide (K = 6) = false := decide_eq_false g1
    rw [decide_eq_false hk]
    clear hk
    go_enter Tryz.func35, Tryz.ntmps35
    go_wp2_with fail
    go_ret
    exact ⟨rfl, B⟩
structure MayF (p : Nat) (w : World) (F : Nat) (caps : Array Value) (m : Tk → Bool) : Prop where
  run : ∀ (args : Array Value) (W : World), (callFunc F args).run Tryz.prog W = .ok (.enter F args) W
  does : ∀ (t : Tk) (W : World), w.grownBy W (some p) → Calls Tryz.prog F (#[tokV t] ++ caps) W fun e W' => e = .returned (.bool (m t)) ∧ Below W.heap.size W W'
theorem MayF.later {p : Nat} {w w' : World} {F : Nat} {caps : Array Value} {m : Tk → Bool} (h : MayF p w F caps m) (g : w.grownBy w' (some p)) : MayF p w' F caps m := ⟨h.run, fun t W k => h.does t W (grown_trans g k)⟩
theorem may_quoted (p : Nat) (w : World) : MayF p w 32 #[] (kindB 2) := ⟨fun args W => enters_of Tryz.func32 (by kernel_rfl) rfl args W, fun t W _ => quotedf_any t W⟩
theorem may_days (p : Nat) (w : World) : MayF p w 106 #[] (kindB 3) := ⟨fun args W => enters_of Tryz.func106 (by kernel_rfl) rfl args W, fun t W _ => daysf_any t W⟩
theorem may_open (p : Nat) (w : World) : MayF p w 104 #[] (kindB 4) := ⟨fun args W => enters_of Tryz.func104 (by kernel_rfl) rfl args W, fun t W _ => openf_any t W⟩
theorem may_closing (p : Nat) (w : World) : MayF p w 105 #[] (kindB 5) := ⟨fun args W => enters_of Tryz.func105 (by kernel_rfl) rfl args W, fun t W _ => closingf_any t W⟩
theorem may_end (p : Nat) (w : World) : MayF p w 35 #[] (kindB 6) := ⟨fun args W => enters_of Tryz.func35 (by kernel_rfl) rfl args W, fun t W _ => endf_any t W⟩
theorem may_mile (p : Nat) (w : World) : MayF p w 107 #[] mileB := ⟨fun args W => enters_of Tryz.func107 (by kernel_rfl) rfl args W, fun t W _ => milef_any t W⟩
theorem may_says {p g : Nat} {w : World} {S : Nat → Prop} {ws : List (List UInt8)} {v : Value} (hg : KB w g 101 #[v]) (hne : g ≠ p) (hl : CS w S v (ws.map strV)) (hS : ∀ b, S b → b ≠ p) :
    MayF p w 65 #[.pointer (some ⟨g, 0, none⟩)] (saysB ws) :=
  ⟨fun args W => enters_of Tryz.func65 (by kernel_rfl) rfl args W, fun t W k =>
    says1_any S ws v g t W (hg.grown k (fun e => hne (Option.some.inj e).symm)) (hl.keep k.size fun b sb hb => k.block b hb (fun e => hS b sb (Option.some.inj e)))⟩
end
end Go.Proofs.YthindhlogkhclaaGreatDoor
