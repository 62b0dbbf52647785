/-
  Cln: strings.Clone over the loaded program: its contract. No condition but the size.
  WvD: The program's name, ticks and within (layer 21), over the loaded program: each one's contract. No condition but the sizes that each contract names.
  WvE: The program's within (layer 21), over the loaded program, for every method whose contract is known: its walk. No condition but what it names.
-/
import Derived.Test.YtjecjlhofnnnpaaGreatDoorLayS
import Derived.Test.YtjecjlhofnnnpaaGreatDoorWy01
import Derived.Test.YtjecjlhofnnnpaaGreatDoorWy05
import Derived.Shelf.Strconv.Clone
import Derived.Lib.Hide
import Derived.BigQuiet
import Derived.Test.YtjecjlhofnnnpaaGreatDoorWy08
import Derived.Test.YtjecjlhofnnnpaaGreatDoorWy10
import Derived.Laws.EntriesVeiled
set_option linter.unusedVariables false
set_option maxRecDepth 100000
namespace Go.Proofs.YtjecjlhofnnnpaaGreatDoor
section
open Go.RowKit
theorem sclone_any (l : List UInt8) (hl : l.length ≤ 140737488355328) (w : World) :
    Calls Tryz.prog 79 #[strV l] w fun e w' => e = .returned (strV l) ∧ Below w.heap.size w w' := by
  have h := fun w => Any.stringslite_Clone Tryz.laysClone ⟨l.toArray⟩ w (by rw [str_size]; omega)
  have hi : ∀ w, Calls Tryz.prog 91 #[.string ⟨l.toArray⟩] w fun e w' => e = .returned (.string ⟨l.toArray⟩) ∧ Below w.heap.size w w' := h
  clear h
  unfold strV
  generalize (⟨l.toArray⟩ : ByteArray) = s at *
  go_enter Tryz.func79, Tryz.ntmps79
  go_wp2_with (go_at_call 91; refine (hi _).mono ?_; rintro e w' ⟨rfl, bl⟩)
  go_ret
  exact ⟨rfl, bl⟩
end
section
open Go.RowKit
theorem PW.word {w : World} {g : Nat} {S : Nat → Prop} {st : Option (List Wv)} {k : Int} (h : PW w g S st k) : (nextW st).1.length ≤ 1000 := by
  obtain ⟨A, n, c, h1, h2, h3, h4, h5⟩ := h
  rcases st with _ | _ | ⟨u, l⟩
  · simp [nextW]
  · simp [nextW]
  · exact h4 u (by simp)
set_option maxHeartbeats 4000000 in
theorem pname_any (g : Nat) (S : Nat → Prop) (st : Option (List Wv)) (k : Int) (w : World) (h : PW w g S st k) :
    Calls Tryz.prog 60 #[.pointer (some ⟨g, 0, none⟩)] w fun e w' => e = .returned (strV (nextW st).1) ∧ PW w' g S (if nameS (nextW st).1 = true then (nextW st).2 else none) k ∧ w.grownBy w' (some g) := by
  have hn := pnext_any g S st k w h
  have hl := h.word
  generalize nextW st = q at *
  obtain ⟨u, st1⟩ := q
  dsimp only at hn hl ⊢
  have HNM := Lib.hid (name_any u)
  have HCL := Lib.hid (sclone_any u (by omega))
  have hml : u.length ≤ 9223372036854775807 := by omega
  obtain ⟨st2, hst⟩ : ∃ st2, st2 = if nameS u = true then st1 else none := ⟨_, rfl⟩
  rw [← hst]
  have HST := Lib.hid hst
  clear h hst
  unfold strV at *
  generalize (⟨u.toArray⟩ : ByteArray) = s at *
  go_enter Tryz.func60, Tryz.ntmps60
  go_wp2_with fail
  refine hn.mono ?_
  rintro e w1 ⟨rfl, R1, g1⟩
  have hnm := HNM.out w1
  clear hn
  cases hb : nameS u with
  | true =>
    rw [hb] at hnm
    have hst : Hid (st2 = st1) := by have := HST.out; rw [if_pos hb] at this; exact this
    clear HST hb
    go_wp2_with fail
    refine hnm.mono ?_
    rintro e w2 ⟨rfl, b2⟩
    have R2 := R1.below b2
    have G2 := grown_trans g1 (grown_of_below b2 (some g))
    have hcl := HCL.out w2
    clear hnm R1 g1 b2
    go_wp2_with fail
    refine hcl.mono ?_
    rintro e w3 ⟨rfl, b3⟩
    have R3 := Lib.hid (R2.below b3)
    have G3 := Lib.hid (grown_trans G2 (grown_of_below b3 (some g)))
    clear hcl R2 G2 b3
    go_wp2_with fail
    go_ret
    rw [hst.out]
    exact ⟨rfl, R3.out, G3.out⟩
  | false =>
    rw [hb] at hnm
    have hst : Hid (st2 = none) := by have := HST.out; rw [hb, if_neg (by simp)] at this; exact this
    clear HST hb
    go_wp2_with fail
    refine hnm.mono ?_
    rintro e w2 ⟨rfl, b2⟩
    have R2 := R1.below b2
    have G2 := grown_trans g1 (grown_of_below b2 (some g))
    have hfa := pfail_any g S st1 k w2 R2
    clear hnm R1 g1 b2 R2
    go_wp2_with fail
    refine hfa.mono ?_
    rintro e w3 ⟨rfl, R3, g3⟩
    have G3 := grown_trans G2 g3
    have hcl := HCL.out w3
    clear hfa G2 g3
    go_wp2_with fail
    refine hcl.mono ?_
    rintro e w4 ⟨rfl, b4⟩
    have R4 := Lib.hid (R3.below b4)
    have G4 := Lib.hid (grown_trans G3 (grown_of_below b4 (some g)))
    clear hcl R3 G3 b4
    go_wp2_with fail
    go_ret
    rw [hst.out]
    exact ⟨rfl, R4.out, G4.out⟩
def okT (u v : Wv) : Option (Nat × Nat) := (tickW u).bind fun a => (tickW v).bind fun b => if a ≤ b then some (a, b) else none
theorem time_cutB (n : Wv) : timeW n = okT (cutB n).1 (cutB n).2.1 := by
  unfold cutB okT
  cases h : cutW n with
  | none =>
    rw [time_nocut h]
    dsimp only
    rw [tick_nil]
    cases tickW n <;> rfl
  | some p =>
    obtain ⟨p, q⟩ := p
    exact time_ticks h
theorem cutB_len {n : Wv} (h : n.length ≤ 1000) : (cutB n).1.length ≤ 1000 ∧ (cutB n).2.1.length ≤ 1000 := by
  rcases cutB_byte n with ⟨_, e⟩ | ⟨j, _, _, e⟩
  · rw [e]; exact ⟨h, by simp⟩
  · rw [e]; simp; omega
def TicksAs (g : Nat) (S : Nat → Prop) (o : Option (Nat × Nat)) (st1 : Option (List Wv)) (k : Int) (w : World) (e : Ending) (w' : World) : Prop :=
  ∃ a b : Int, e = .returned (.tuple #[.int .i64 a, .int .i64 b]) ∧ I64 a ∧ I64 b ∧ (∀ p, o = some p → a = p.1 ∧ b = p.2) ∧ PW w' g S (if o.isSome = true then st1 else none) k ∧ w.grownBy w' (some g)
set_option maxHeartbeats 8000000 in
theorem pticks_any (g : Nat) (S : Nat → Prop) (st : Option (List Wv)) (k : Int) (w : World) (h : PW w g S st k) :
    Calls Tryz.prog 61 #[.pointer (some ⟨g, 0, none⟩)] w (TicksAs g S (timeW (nextW st).1) (nextW st).2 k w) := by
  have hn := pnext_any g S st k w h
  have hl := h.word
  generalize nextW st = q at *
  obtain ⟨n, st1⟩ := q
  dsimp only at hn hl ⊢
  have hct := cutout_any n hl
  rw [time_cutB]
  obtain ⟨l1, l2⟩ := cutB_len hl
  generalize cutB n = c at *
  obtain ⟨u, v, t⟩ := c
  dsimp only at hct l1 l2 ⊢
  have HT1 := Lib.hid (ptick_any u l1)
  have HT2 := Lib.hid (ptick_any v l2)
  have HCT := Lib.hid hct
  obtain ⟨o, ho⟩ : ∃ o, o = okT u v := ⟨_, rfl⟩
  rw [← ho]
  have HO := Lib.hid ho
  obtain ⟨D, hD⟩ : ∃ D, D = TicksAs g S o st1 k w := ⟨_, rfl⟩
  rw [← hD]
  have HD : Hid (∀ a b : Int, I64 a → I64 b → (∀ p, o = some p → a = p.1 ∧ b = p.2) → ∀ W, PW W g S (if o.isSome = true then st1 else none) k → w.grownBy W (some g) → D (.returned (.tuple #[.int .i64 a, .int .i64 b])) W) := fun a b h1 h2 h3 W h4 h5 => by
    rw [hD]; exact ⟨a, b, rfl, h1, h2, h3, h4, h5⟩
  clear h hct ho hD l1 l2
  obtain ⟨su, hsu⟩ : ∃ z, z = strV u := ⟨_, rfl⟩
  obtain ⟨sv, hsv⟩ : ∃ z, z = strV v := ⟨_, rfl⟩
  rw [← hsu] at HCT HT1
  rw [← hsv] at HCT HT2
  have eh : strV ([45] : Wv) = .string ⟨#[45]⟩ := rfl
  rw [eh] at HCT
  unfold strV at hsu hsv hn HCT
  generalize (⟨n.toArray⟩ : ByteArray) = s at *
  generalize (⟨u.toArray⟩ : ByteArray) = s1 at *
  generalize (⟨v.toArray⟩ : ByteArray) = s2 at *
  subst hsu hsv
  go_enter Tryz.func61, Tryz.ntmps61
  go_wp2_with fail
  refine hn.mono ?_
  rintro e w1 ⟨rfl, R1, g1⟩
  have hct := HCT.out w1
  clear hn HCT eh
  go_wp2_with fail
  refine hct.mono ?_
  rintro e w2 ⟨rfl, b2⟩
  have R2 := R1.below b2
  have G2 := grown_trans g1 (grown_of_below b2 (some g))
  have ht1 := HT1.out w2 R2.tabs
  clear hct R1 g1 b2 HT1
  go_wp2_with fail
  refine ht1.mono ?_
  rintro e w3 ⟨a, ha, rfl, hka, b3⟩
  have R3 := R2.below b3
  have G3 := grown_trans G2 (grown_of_below b3 (some g))
  have ht2 := HT2.out w3 R3.tabs
  have HA := Lib.hid ha
  have HKA := Lib.hid hka
  clear ht1 R2 G2 b3 HT2 ha hka
  go_wp2_with fail
  refine ht2.mono ?_
  rintro e w4 ⟨b, hb, rfl, hkb, b4⟩
  have R4 := R3.below b4
  have G4 := Lib.hid (grown_trans G3 (grown_of_below b4 (some g)))
  have HB := Lib.hid hb
  have HKB := Lib.hid hkb
  have hfa := pfail_any g S st1 k w4 R4
  have R4 := Lib.hid R4
  clear ht2 R3 G3 b4 hb hkb
  have bad : o = none → Hid (∀ W, PW W g S none k → w4.grownBy W (some g) → D (.returned (.tuple #[.int .i64 a, .int .i64 b])) W) := fun eo W h1 h2 => by
    refine HD.out a b HA.out HB.out (fun p e => by rw [eo] at e; cases e) W ?_ (grown_trans G4.out h2)
    rw [eo]; exact h1
  have BAD := Lib.hid bad
  clear bad
  unfold okT at HO
  cases h1 : tickW u with
  | none =>
    have hb := BAD.out (by rw [HO.out, h1]; rfl)
    clear BAD HD HO HKA HKB h1
    go_wp2_with fail
    refine hfa.mono ?_
    rintro e w5 ⟨rfl, R5, g5⟩
    have hfin := Lib.hid (hb.out w5 R5 g5)
    clear hfa R5 g5
    go_wp2_with fail
    exact hfin.out
  | some a' =>
    cases h2 : tickW v with
    | none =>
      have hb := BAD.out (by rw [HO.out, h1, h2]; rfl)
      clear BAD HD HO HKA HKB h1 h2
      go_wp2_with fail
      refine hfa.mono ?_
      rintro e w5 ⟨rfl, R5, g5⟩
      have hfin := Lib.hid (hb.out w5 R5 g5)
      clear hfa R5 g5
      go_wp2_with fail
      exact hfin.out
    | some b' =>
      have ea := HKA.out a' h1
      have eb := HKB.out b' h2
      by_cases hab : a' ≤ b'
      · have eo : o = some (a', b') := by
          rw [HO.out, h1, h2]
          simp only [Option.bind_some]
          rw [if_pos hab]
        have hfin := Lib.hid (HD.out a b HA.out HB.out (fun p e => by
          rw [eo] at e
          injection e with e
          rw [← e]; exact ⟨ea, eb⟩) w4 (by
          have : (if o.isSome = true then st1 else none) = st1 := by rw [eo]; rfl
          rw [this]
          exact R4.out) G4.out)
        have d1 : decide (a > b) = false := decide_eq_false (by omega)
        have d2 : decide (b < a) = false := decide_eq_false (by omega)
        have d3 : ¬ b < a := by omega
        clear BAD HD HO HKA HKB h1 h2 hfa ea eb hab eo
        go_wp2_with fail
        exact hfin.out
      · have hb := BAD.out (by
          rw [HO.out, h1, h2]
          simp only [Option.bind_some]
          exact if_neg hab)
        have d1 : decide (a > b) = true := decide_eq_true (by omega)
        have d2 : decide (b < a) = true := decide_eq_true (by omega)
        have d3 : b < a := by omega
        clear BAD HD HO HKA HKB h1 h2 ea eb hab
        go_wp2_with fail
        refine hfa.mono ?_
        rintro e w5 ⟨rfl, R5, g5⟩
        have hfin := Lib.hid (hb.out w5 R5 g5)
        clear hfa R5 g5
        go_wp2_with fail
        exact hfin.out
end
section
open Go.RowKit
def PFactV (w : World) (g : Nat) (S : Nat → Prop) (f : Nat) (o : Option (Sc f × List Wv)) (k : Int) (e : Ending) (w' : World) : Prop :=
  ∃ v x, e = .returned v ∧ PW w' g S (o.map (·.2)) k ∧ ZV w' (fun b => w.heap.size ≤ b ∧ b < w'.heap.size) f v x ∧ (∀ p, o = some p → x = p.1) ∧ w.grownBy w' (some g)
theorem pfact_five {w W : World} {g : Nat} {S : Nat → Prop} {f : Nat} {o : Option (Sc f × List Wv)} {k : Int} (x : Sc f) {c0 c1 c2 c3 c4 : Value} (R : PW W g S (o.map (·.2)) k) (hg : g < w.heap.size) (hS : ¬ S w.heap.size) (G : w.grownBy W (some g))
    (z : ZX W (fun b => w.heap.size < b ∧ b < W.heap.size) f x c0 c1 c2 c3 c4) (hx : ∀ p, o = some p → x = p.1) :
    PFactV w g S f o k (.returned (.agg #[c0, c1, c2, c3, c4])) (((((W.setCell ⟨w.heap.size, 0, none⟩ c0).setCell ⟨w.heap.size, 1, none⟩ c1).setCell ⟨w.heap.size, 2, none⟩ c2).setCell ⟨w.heap.size, 3, none⟩ c3).setCell ⟨w.heap.size, 4, none⟩ c4) :=
  ⟨_, x, rfl, ((((R.far hg hS).far hg hS).far hg hS).far hg hS).far hg hS, ⟨_, _, _, _, _, rfl, ZX.keepS z (Nat.le_of_eq (zsets_size _ _ _ _ _ _ _)) (fun b hb _ => zsets_block _ _ _ _ _ _ _ _ (by omega)) fun b hb => ⟨by omega, by rw [← zsets_size]; exact hb.2⟩⟩, hx,
    zgrown_new G (zgrown_five _ _ _ _ _ _ _) (Nat.le_refl _)⟩
def OneP (F g : Nat) (S : Nat → Prop) (f : Nat) (G : List Wv → Option (Sc f × List Wv)) (ok : Prop) (k : Int) : Prop :=
  ∀ (st : Option (List Wv)) (w : World), PW w g S st k → (∀ b, S b → b < w.heap.size) → (st.getD []).length ≤ 1000000 → (st = none ∨ ok) → Calls Tryz.prog F #[.pointer (some ⟨g, 0, none⟩)] w (PFactV w g S f (st.bind G) k)
set_option maxHeartbeats 16000000 in
theorem pwithin_any (F g f : Nat) (S : Nat → Prop) (G : List Wv → Option (Sc f × List Wv)) (k : Int) (hk0 : 0 ≤ k) (hk : k ≤ 40)
    (hrun : ∀ (args : Array Value) (W : World), (callFunc F args).run Tryz.prog W = .ok (.enter F args) W) (hone : OneP F g S f G (k < 40) (k + 1))
    (st : Option (List Wv)) (w : World) (h : PW w g S st k) (hS : ∀ b, S b → b < w.heap.size) (hL : (st.getD []).length ≤ 1000000) :
    Calls Tryz.prog 62 #[.pointer (some ⟨g, 0, none⟩), .func (.func F) #[.pointer (some ⟨g, 0, none⟩)] #[]] w (PFactV w g S f ((if k = 40 then none else st).bind G) k) := by
  have hg := h.lt
  have K := KB.new w 24 #[.int .i64 0, .string ⟨#[]⟩, .int .i64 0, .int .i64 0, .slice none 0 0]
  have G0 := grown_of_below ((Below.refl w.heap.size w).alloc (Nat.le_refl _) (.cells #[.int .i64 0, .string ⟨#[]⟩, .int .i64 0, .int .i64 0, .slice none 0 0] 24)) (some g)
  have R0 := h.alloc (.cells #[.int .i64 0, .string ⟨#[]⟩, .int .i64 0, .int .i64 0, .slice none 0 0] 24)
  have hne : ¬ w.heap.size = g := by omega
  have hne2 : ¬ g = w.heap.size := by omega
  have hSg : ¬ S w.heap.size := fun h => Nat.lt_irrefl _ (hS _ h)
  obtain ⟨st2, hst⟩ : ∃ st2, st2 = if k = 40 then none else st := ⟨_, rfl⟩
  rw [← hst]
  have HST := Lib.hid hst
  have W1 : IntKind.i64.wrap (k + 1) = k + 1 := by rw [IntKind.wrap_i64]; omega
  have W2 : IntKind.i64.wrap (k + 1 - 1) = k := by rw [IntKind.wrap_i64]; omega
  have W3 : wrap64 (k + 1) = k + 1 := IntWalk.wrap64_in _ (by omega)
  have W4 : wrap64 (k + 1 - 1) = k := by rw [IntWalk.wrap64_in _ (by omega)]; omega
  -- behind the call: the same in both ways
  have HOME : Hid (∀ w1, PW w1 g S st2 (k + 1) → w.grownBy w1 (some g) → Calls Tryz.prog F #[.pointer (some ⟨g, 0, none⟩)] w1 (PFactV w1 g S f (st2.bind G) (k + 1))) := fun w1 h1 g1 => by
    refine hone st2 w1 h1 (fun b hb => Nat.lt_of_lt_of_le (hS b hb) g1.size) ?_ ?_
    · rw [hst]; split
      · simp
      · exact hL
    · by_cases hk4 : k = 40
      · left; rw [hst, if_pos hk4]
      · right; omega
  obtain ⟨o, ho⟩ : ∃ o, o = st2.bind G := ⟨_, rfl⟩
  rw [← ho] at HOME ⊢
  have hc1 : w.heap.size + 1 ≤ (w.alloc (.cells #[.int .i64 0, .string ⟨#[]⟩, .int .i64 0, .int .i64 0, .slice none 0 0] 24)).heap.size := by simp
  have hss : (w.setCell ⟨g, 1, none⟩ (.int .i64 (k + 1))).heap.size = w.heap.size := by simp [World.setCell]
  have K1 := KB.new (w.setCell ⟨g, 1, none⟩ (.int .i64 (k + 1))) 24 #[.int .i64 0, .string ⟨#[]⟩, .int .i64 0, .int .i64 0, .slice none 0 0]
  rw [hss] at K1
  have R1 := (h.deep (k + 1)).alloc (.cells #[.int .i64 0, .string ⟨#[]⟩, .int .i64 0, .int .i64 0, .slice none 0 0] 24)
  have G1 := grown_trans (grown_set w g 1 (.int .i64 (k + 1))) (grown_of_below ((Below.refl (w.setCell ⟨g, 1, none⟩ (.int .i64 (k + 1))).heap.size (w.setCell ⟨g, 1, none⟩ (.int .i64 (k + 1)))).alloc (Nat.le_refl _) (.cells #[.int .i64 0, .string ⟨#[]⟩, .int .i64 0, .int .i64 0, .slice none 0 0] 24)) (some g))
  obtain ⟨_, c1, _, _, f1, _⟩ := h.cells
  obtain ⟨_, c1a, _, _, f1a, _⟩ := R0.cells
  obtain ⟨D, hD⟩ : ∃ D, D = PFactV w g S f o k := ⟨_, rfl⟩
  rw [← hD]
  -- the end: the box behind the call, the depth as it was, the result's cells
  have HFIN : Hid (∀ (w5 : World) (x : Sc f) (e0 e1 e2 e3 e4 : Value), PW w5 g S (o.map (·.2)) (k + 1) → w.grownBy w5 (some g) → w.heap.size < w5.heap.size → ZX w5 (fun b => w.heap.size < b ∧ b < w5.heap.size) f x e0 e1 e2 e3 e4 → (∀ p, o = some p → x = p.1) →
      D (.returned (.agg #[e0, e1, e2, e3, e4])) (((((((w5.alloc (.cells #[e0, e1, e2, e3, e4] 24)).setCell ⟨g, 1, none⟩ (.int .i64 k)).setCell ⟨w.heap.size, 0, none⟩ e0).setCell ⟨w.heap.size, 1, none⟩ e1).setCell ⟨w.heap.size, 2, none⟩ e2).setCell ⟨w.heap.size, 3, none⟩ e3).setCell ⟨w.heap.size, 4, none⟩ e4)) :=
    fun w5 x e0 e1 e2 e3 e4 h1 h2 h3 h4 h5 => by
      rw [hD]
      refine pfact_five x ((h1.alloc _).deep k) hg hSg (grown_trans (grown_trans h2 (grown_of_below ((Below.refl _ _).alloc (Nat.le_refl _) _) (some g))) (grown_set _ g 1 (.int .i64 k))) ?_ h5
      refine ZX.keepS h4 (by simp [World.setCell]) (fun b hb hlt => ?_) fun b hb => ⟨hb.1, by simp [World.setCell]; omega⟩
      rw [Below.heap_setCell _ ⟨g, 1, none⟩ (.int .i64 k) b (by show b ≠ g; omega)]
      exact Below.heap_alloc _ _ b hlt
  have HF := Lib.hid (fun W h => pfail_any g S st k W h)
  clear hst ho hone hD hc1
  go_enter Tryz.func62, Tryz.ntmps62
  by_cases hk4 : k = 40
  · subst hk4
    have hf := HF.out _ R0
    clear R1 G1 K1 c1 f1 W1 W2 W3 W4
    go_wp2_with fail
    refine hf.mono ?_
    rintro e w1 ⟨rfl, Rn, gn⟩
    have Gn := grown_trans G0 gn
    have hst2 : st2 = none := by rw [HST.out]; simp
    subst hst2
    obtain ⟨_, c1, _, _, f1, _⟩ := Rn.cells
    have R1 := Rn.deep 41
    have G1 := grown_trans Gn (grown_set w1 g 1 (.int .i64 41))
    have K1 := zKB_far (h := g) (i := 1) (v := .int .i64 41) (K.grown gn (by simp; omega)) hne2
    have hc := HOME.out _ R1 G1
    rw [show (40 : Int) + 1 = 41 from rfl] at hc
    have s1 : w.heap.size < (w1.setCell ⟨g, 1, none⟩ (.int .i64 41)).heap.size := by have := gn.size; simp at this; simp [World.setCell]; omega
    clear hf Rn gn Gn R0 G0 K HOME HF HST h c1a f1a
    go_wp2_with fail
    refine hc.mono ?_
    rintro e w5 ⟨v5, x5, rfl, R5, tv5, hx5, G5⟩
    replace hx5 := Lib.hid hx5
    obtain ⟨e0, e1, e2, e3, e4, rfl, tm5⟩ := tv5
    obtain ⟨j0, l1, j2, j3, X4, n4, z4, rfl, rfl, rfl, rfl, rfl⟩ := tm5.form
    have s5 := G5.size
    have K5 := K1.grown G5 (by simp; omega)
    have kx := ZX.mono (S' := fun b => w.heap.size < b ∧ b < w5.heap.size) tm5 fun b hb => ⟨by omega, hb.2⟩
    have hfin := HFIN.out w5 x5 _ _ _ _ _ R5 (grown_trans G1 G5) (by omega) kx hx5.out
    obtain ⟨_, c1', _, _, f1', _⟩ := (R5.alloc (.cells #[.int .i64 j0, strV l1, .int .i64 j2, .int .i64 j3, .slice X4 n4 z4] 24)).cells
    have hn7 : ¬ g = w5.heap.size := by have := R5.lt; omega
    have hn8 : ¬ w.heap.size = w5.heap.size := by omega
    replace hfin := Lib.hid hfin
    have K6 := zKB_far (h := g) (i := 1) (v := .int .i64 40) (K5.alloc (.cells #[.int .i64 j0, strV l1, .int .i64 j2, .int .i64 j3, .slice X4 n4 z4] 24)) hne2
    unfold strV at *
    have c40 : ((w5.alloc (.cells #[.int .i64 j0, .string ⟨l1.toArray⟩, .int .i64 j2, .int .i64 j3, .slice X4 n4 z4] 24)).setCell ⟨g, 1, none⟩ (.int .i64 40)).cell? ⟨w.heap.size, 0, none⟩ = some (.int .i64 0) := K6.cell 0
    have c41 : ((w5.alloc (.cells #[.int .i64 j0, .string ⟨l1.toArray⟩, .int .i64 j2, .int .i64 j3, .slice X4 n4 z4] 24)).setCell ⟨g, 1, none⟩ (.int .i64 40)).cell? ⟨w.heap.size, 1, none⟩ = some (.string ⟨#[]⟩) := K6.cell 1
    have c42 : ((w5.alloc (.cells #[.int .i64 j0, .string ⟨l1.toArray⟩, .int .i64 j2, .int .i64 j3, .slice X4 n4 z4] 24)).setCell ⟨g, 1, none⟩ (.int .i64 40)).cell? ⟨w.heap.size, 2, none⟩ = some (.int .i64 0) := K6.cell 2
    have c43 : ((w5.alloc (.cells #[.int .i64 j0, .string ⟨l1.toArray⟩, .int .i64 j2, .int .i64 j3, .slice X4 n4 z4] 24)).setCell ⟨g, 1, none⟩ (.int .i64 40)).cell? ⟨w.heap.size, 3, none⟩ = some (.int .i64 0) := K6.cell 3
    have c44 : ((w5.alloc (.cells #[.int .i64 j0, .string ⟨l1.toArray⟩, .int .i64 j2, .int .i64 j3, .slice X4 n4 z4] 24)).setCell ⟨g, 1, none⟩ (.int .i64 40)).cell? ⟨w.heap.size, 4, none⟩ = some (.slice none 0 0) := K6.cell 4
    have f40 := K6.free 0
    have f41 := K6.free 1
    have f42 := K6.free 2
    have f43 := K6.free 3
    have f44 := K6.free 4
    clear hc K1 G1 R5 tm5 kx G5 hx5 R1 c1 f1 K5 HFIN
    go_wp2_with fail
    exact bodyPost_ret (results_cell_row (P := Tryz.prog) rfl _ _ w.heap.size _ _ (0, 0) _ rfl (zput_five K6) Tryz.underlying24 rfl (by kernel_rfl)) rfl hfin.out
  · have hst2 : st2 = st := by rw [HST.out, if_neg hk4]
    subst hst2
    have d1 : (k == 40) = false := beq_eq_false_iff_ne.2 hk4
    have hc := HOME.out _ R1 G1
    have s1 : w.heap.size < ((w.setCell ⟨g, 1, none⟩ (.int .i64 (k + 1))).alloc (.cells #[.int .i64 0, .string ⟨#[]⟩, .int .i64 0, .int .i64 0, .slice none 0 0] 24)).heap.size := by simp [World.setCell]
    clear R0 G0 K HOME HF HST h c1a f1a
    go_wp2_with fail
    refine hc.mono ?_
    rintro e w5 ⟨v5, x5, rfl, R5, tv5, hx5, G5⟩
    replace hx5 := Lib.hid hx5
    obtain ⟨e0, e1, e2, e3, e4, rfl, tm5⟩ := tv5
    obtain ⟨j0, l1, j2, j3, X4, n4, z4, rfl, rfl, rfl, rfl, rfl⟩ := tm5.form
    have s5 := G5.size
    have K5 := K1.grown G5 (by simp; omega)
    have kx := ZX.mono (S' := fun b => w.heap.size < b ∧ b < w5.heap.size) tm5 fun b hb => ⟨by omega, hb.2⟩
    have hfin := HFIN.out w5 x5 _ _ _ _ _ R5 (grown_trans G1 G5) (by omega) kx hx5.out
    obtain ⟨_, c1', _, _, f1', _⟩ := (R5.alloc (.cells #[.int .i64 j0, strV l1, .int .i64 j2, .int .i64 j3, .slice X4 n4 z4] 24)).cells
    have hn7 : ¬ g = w5.heap.size := by have := R5.lt; omega
    have hn8 : ¬ w.heap.size = w5.heap.size := by omega
    replace hfin := Lib.hid hfin
    have K6 := zKB_far (h := g) (i := 1) (v := .int .i64 k) (K5.alloc (.cells #[.int .i64 j0, strV l1, .int .i64 j2, .int .i64 j3, .slice X4 n4 z4] 24)) hne2
    unfold strV at *
    have c40 : ((w5.alloc (.cells #[.int .i64 j0, .string ⟨l1.toArray⟩, .int .i64 j2, .int .i64 j3, .slice X4 n4 z4] 24)).setCell ⟨g, 1, none⟩ (.int .i64 k)).cell? ⟨w.heap.size, 0, none⟩ = some (.int .i64 0) := K6.cell 0
    have c41 : ((w5.alloc (.cells #[.int .i64 j0, .string ⟨l1.toArray⟩, .int .i64 j2, .int .i64 j3, .slice X4 n4 z4] 24)).setCell ⟨g, 1, none⟩ (.int .i64 k)).cell? ⟨w.heap.size, 1, none⟩ = some (.string ⟨#[]⟩) := K6.cell 1
    have c42 : ((w5.alloc (.cells #[.int .i64 j0, .string ⟨l1.toArray⟩, .int .i64 j2, .int .i64 j3, .slice X4 n4 z4] 24)).setCell ⟨g, 1, none⟩ (.int .i64 k)).cell? ⟨w.heap.size, 2, none⟩ = some (.int .i64 0) := K6.cell 2
    have c43 : ((w5.alloc (.cells #[.int .i64 j0, .string ⟨l1.toArray⟩, .int .i64 j2, .int .i64 j3, .slice X4 n4 z4] 24)).setCell ⟨g, 1, none⟩ (.int .i64 k)).cell? ⟨w.heap.size, 3, none⟩ = some (.int .i64 0) := K6.cell 3
    have c44 : ((w5.alloc (.cells #[.int .i64 j0, .string ⟨l1.toArray⟩, .int .i64 j2, .int .i64 j3, .slice X4 n4 z4] 24)).setCell ⟨g, 1, none⟩ (.int .i64 k)).cell? ⟨w.heap.size, 4, none⟩ = some (.slice none 0 0) := K6.cell 4
    have f40 := K6.free 0
    have f41 := K6.free 1
    have f42 := K6.free 2
    have f43 := K6.free 3
    have f44 := K6.free 4
    clear hc K1 G1 R5 tm5 kx G5 hx5 R1 c1 f1 K5 HFIN
    go_wp2_with fail
    exact bodyPost_ret (results_cell_row (P := Tryz.prog) rfl _ _ w.heap.size _ _ (0, 0) _ rfl (zput_five K6) Tryz.underlying24 rfl (by kernel_rfl)) rfl hfin.out
end
end Go.Proofs.YtjecjlhofnnnpaaGreatDoor
