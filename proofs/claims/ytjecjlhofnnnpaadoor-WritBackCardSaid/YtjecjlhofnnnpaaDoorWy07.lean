/-
  WvB: strconv.Atoi, and the program's tick (layer 21), over the loaded program: each one's contract. No condition but that the library's table of powers of ten and its two errors are as laid, and the sizes that each contract names.
  WvT: What the listed variables give the walks of layer 21: the library's table of powers of ten is as laid, its two errors of numbers are errors. No condition.
  WtI: What stands with a word between (layer 21): where reading stands, round by round. Plain mathematics, and what memory says of it. No program. No condition.
  WvA: The program's reader (layer 21) in memory: words left, how deep, whether it failed; next, found, fail: over the loaded program: each one's contract. No condition.
-/
import Derived.Test.YtjecjlhofnnnpaaDoorWy01
import Derived.Test.YtjecjlhofnnnpaaDoorLayC
import Derived.Test.YtjecjlhofnnnpaaDoorWy06
import Derived.Shelf.Strconv.ErrVarAll
import Derived.BigQuiet
import Derived.Test.YtjecjlhofnnnpaaDoorRows
import Derived.ProofKit
import Derived.LaidMore
import Derived.OpenShut
import Derived.FnData
import Derived.Stop.LaidErr
set_option linter.unusedVariables false
set_option maxRecDepth 100000
namespace Go.Proofs.YtjecjlhofnnnpaaDoor
section
open Go.RowKit
def Tabs (w : World) : Prop := Pow w ∧ (∃ tp p, w.cell? ⟨6, 0, none⟩ = some (.iface tp p)) ∧ (∃ tp p, w.cell? ⟨7, 0, none⟩ = some (.iface tp p))
theorem Tabs.below {w w' : World} (h : Tabs w) (b : Below w.heap.size w w') : Tabs w' := by
  obtain ⟨h1, ⟨t2, p2, h2⟩, ⟨t3, p3, h3⟩⟩ := h
  exact ⟨h1.below b, ⟨t2, p2, (b.cell (show (⟨6, 0, none⟩ : Addr).block < w.heap.size from Lib.lt_of_cell h2)).trans h2⟩, ⟨t3, p3, (b.cell (show (⟨7, 0, none⟩ : Addr).block < w.heap.size from Lib.lt_of_cell h3)).trans h3⟩⟩
def TabsG (w : World) (g : Nat) : Prop := ∃ w0, Tabs w0 ∧ Below w0.heap.size w0 w ∧ w0.heap.size ≤ g
theorem TabsG.tabs {w : World} {g : Nat} (h : TabsG w g) : Tabs w := by
  obtain ⟨w0, h1, h2, _⟩ := h
  exact h1.below h2
theorem TabsG.below {w w' : World} {g : Nat} (h : TabsG w g) (b : Below w.heap.size w w') : TabsG w' g := by
  obtain ⟨w0, h1, h2, h3⟩ := h
  exact ⟨w0, h1, h2.trans (b.mono h2.size), h3⟩
theorem TabsG.grownX {w w' : World} {g : Nat} {row : Option Nat} (h : TabsG w g) (hg : w.grownBy w' row) (hr : ∀ x, row = some x → g ≤ x) : TabsG w' g := by
  obtain ⟨w0, h1, h2, h3⟩ := h
  have hs := h2.size
  exact ⟨w0, h1, h2.trans ⟨hg.os, hg.tape, hg.output, hg.size, fun k hk => hg.block k (by omega) (fun e => by have := hr k e.symm; omega)⟩, h3⟩
theorem TabsG.set {w : World} {g h i : Nat} {u : Value} (t : TabsG w g) (hh : g ≤ h) : TabsG (w.setCell ⟨h, i, none⟩ u) g := by
  obtain ⟨w0, h1, h2, h3⟩ := t
  exact ⟨w0, h1, h2.trans ⟨rfl, rfl, rfl, by simp [World.setCell], fun k hk => Below.heap_setCell w ⟨h, i, none⟩ u k (by show k ≠ h; omega)⟩, h3⟩
theorem atoi_any (l : List UInt8) (hl : l.length ≤ 1000) (w : World) (hT : Tabs w) :
    Calls Tryd.prog 74 #[strV l] w fun e w' => ∃ (n : Int) (E : Value), e = .returned (.tuple #[.int .i64 n, E]) ∧ I64 n ∧ ((Lib.atoiAll l = .ok n ∧ E = .nilIface) ∨ ((∀ v, Lib.atoiAll l ≠ .ok v) ∧ ∃ t a, E = .iface t (.pointer (some a)))) ∧ Below w.heap.size w w' := by
  obtain ⟨_, ⟨t2, p2, h2⟩, ⟨t3, p3, h3⟩⟩ := hT
  have hs : (⟨l.toArray⟩ : ByteArray).size = l.length := rfl
  have ed : (⟨l.toArray⟩ : ByteArray).data.toList = l := rfl
  rcases hq : Lib.atoiAll l with v | _ | _
  · obtain ⟨b0, b1⟩ := Lib.atoiAll_bounds hq
    refine (Any.strconv_Atoi_ok Tryd.laysAtoi ⟨l.toArray⟩ (by rw [hs]; omega) v (by rw [ed]; exact hq) w).mono ?_
    rintro e w' ⟨rfl, hw⟩
    refine ⟨v, .nilIface, rfl, ⟨b0, b1⟩, .inl ⟨rfl, rfl⟩, ?_⟩
    rcases hw with rfl | ⟨t, rfl⟩
    · exact Below.refl _ _
    · exact Lib.bytesWorld_below _ _ _
  · refine (Any.strconv_Atoi_syntax Tryd.laysAtoi ⟨l.toArray⟩ (by rw [hs]; omega) (by rw [ed]; exact hq) (.iface t2 p2) w h2 (.inr ⟨t2, p2, rfl⟩)).mono ?_
    rintro e w' ⟨N, rfl, _, _, b⟩
    exact ⟨0, _, rfl, by unfold I64; omega, .inr ⟨(fun v h => by cases h), _, _, rfl⟩, b⟩
  · obtain ⟨b0, b1⟩ := Lib.atoiSat_bounds l
    refine (Any.strconv_Atoi_range Tryd.laysAtoi ⟨l.toArray⟩ (by rw [hs]; omega) (by rw [ed]; exact hq) (.iface t3 p3) w h3 (.inr ⟨t3, p3, rfl⟩)).mono ?_
    rintro e w' ⟨N, rfl, _, _, b⟩
    exact ⟨Lib.atoiSat l, _, rfl, ⟨b0, b1⟩, .inr ⟨(fun v h => by cases h), _, _, rfl⟩, b⟩
set_option maxHeartbeats 4000000 in
theorem ptick_any (l : List UInt8) (hl : l.length ≤ 1000) (w : World) (hT : Tabs w) :
    Calls Tryd.prog 62 #[strV l] w fun e w' => ∃ n : Int, I64 n ∧ e = .returned (.tuple #[.int .i64 n, .bool (tickW l).isSome]) ∧ (∀ k, tickW l = some k → n = k) ∧ Below w.heap.size w w' := by
  have ha := atoi_any l hl w hT
  have hi := fun n (hn : I64 n) w' (b : Below w.heap.size w w') => itoa_any n hn w' (hT.below b).1
  have HI := Lib.hid hi
  have HTK := Lib.hid (fun v => @tick_ok l v)
  have HTN := Lib.hid (@tick_no l)
  have hs := fun m => zeq_txt (⟨(Lib.itoa m).toArray⟩ : ByteArray) ⟨l.toArray⟩ (Lib.itoa m) l rfl rfl
  have HS := Lib.hid hs
  clear hT hi hs
  unfold strV at *
  generalize (⟨l.toArray⟩ : ByteArray) = s at *
  go_enter Tryd.func62, Tryd.ntmps62
  go_wp2_with fail
  refine ha.mono ?_
  rintro e w1 ⟨n, E, rfl, hn, hE, b1⟩
  have B1 := Lib.hid b1
  have hin := HI.out n hn w1 b1
  have hnl := hn.1
  have hnh := hn.2
  have HN := Lib.hid hn
  clear ha b1 hn
  rcases hE with ⟨hq, rfl⟩ | ⟨hq, t, a, rfl⟩
  · obtain ⟨k1, k2⟩ := HTK.out n hq
    have K1 := Lib.hid k1
    have K2 := Lib.hid k2
    clear k1 k2 hq
    by_cases a1 : 0 ≤ n
    · have d1 : decide (0 ≤ n) = true := decide_eq_true a1
      by_cases a2 : n ≤ 1099511627776
      · have d2 : decide (n ≤ 1099511627776) = true := decide_eq_true a2
        have hst := HS.out n
        generalize hZ : (⟨(Lib.itoa n).toArray⟩ : ByteArray) = z at *
        clear hZ
        by_cases a3 : Lib.itoa n = l
        · rw [decide_eq_true a3] at hst
          have hst2 : z.toList = s.toList := beq_iff_eq.1 hst
          have hk := Lib.hid (K1.out ⟨a1, a2, a3⟩)
          clear a3 K1 K2 HI HTK HTN HS
          go_wp2_with fail
          refine hin.mono ?_
          rintro e w2 ⟨rfl, b2⟩
          have B2 := Lib.hid (B1.out.trans (b2.mono B1.out.size))
          clear hin b2
          go_wp2_with fail
          go_ret2
          rw [hk.out]
          exact ⟨n, HN.out, rfl, (fun k e => by injection e with e; omega), B2.out⟩
        · rw [decide_eq_false a3] at hst
          have hst2 : ¬ z.toList = s.toList := beq_eq_false_iff_ne.1 hst
          have hk := Lib.hid (K2.out fun h => a3 h.2.2)
          clear a3 K1 K2 HI HTK HTN HS
          go_wp2_with fail
          refine hin.mono ?_
          rintro e w2 ⟨rfl, b2⟩
          have B2 := Lib.hid (B1.out.trans (b2.mono B1.out.size))
          clear hin b2
          go_wp2_with fail
          go_ret2
          rw [hk.out]
          exact ⟨n, HN.out, rfl, (fun k e => by cases e), B2.out⟩
      · have d2 : decide (n ≤ 1099511627776) = false := decide_eq_false a2
        have hk := Lib.hid (K2.out fun h => a2 h.2.1)
        clear K1 K2 HI HTK HTN HS hin
        go_wp2_with fail
        go_ret2
        rw [hk.out]
        exact ⟨n, HN.out, rfl, (fun k e => by cases e), B1.out⟩
    · have d1 : decide (0 ≤ n) = false := decide_eq_false a1
      have hk := Lib.hid (K2.out fun h => a1 h.1)
      clear K1 K2 HI HTK HTN HS hin
      go_wp2_with fail
      go_ret2
      rw [hk.out]
      exact ⟨n, HN.out, rfl, (fun k e => by cases e), B1.out⟩
  · have hk := Lib.hid (HTN.out hq)
    clear HI HTK HTN HS hin hq
    go_wp2_with fail
    go_ret2
    rw [hk.out]
    exact ⟨n, HN.out, rfl, (fun k e => by cases e), B1.out⟩
end
section
open Go.ChangeShapes Go.WideShapes Go.ChangeAt Go.RowKit
theorem pow_data : (Rows.laid_internal_strconv_uint64pow10 : DataW Unit) = Lib.tabData .u64 Lib.pow10Tab := by kernel_rfl
theorem pow_type : (Tryd.prog.globals[1]?).map (·.type) = some 96 := by kernel_rfl
theorem cells_u64 : Tryd.prog.cellsOf 78 = 1 := by kernel_rfl
theorem cells_tab20 : Tryd.prog.cellsOf 96 = 20 := by kernel_rfl
theorem cells_errs : Tryd.prog.cellsOf 126 = 1 := by kernel_rfl
theorem cells_strw : Tryd.prog.cellsOf 9 = 1 := by kernel_rfl
theorem star_errs : "*" ++ "errors.errorString" = "*errors.errorString" := by decide
theorem row_errs (u : TypeId) (h : Tryd.prog.typeName? 3 u = some "*errors.errorString") : u = 124 :=
  typeName_ptr_named (nm := "errors.errorString") (by rw [star_errs]; kernel_rfl) (by kernel_rfl) (by decide) u (by rw [star_errs]; exact h)
theorem syn_name : Tryd.prog.globalNamed "strconv.ErrSyntax" = some 6 := by kernel_rfl
theorem ran_name : Tryd.prog.globalNamed "strconv.ErrRange" = some 7 := by kernel_rfl
theorem syn_type : (Tryd.prog.globals[6]?).map (·.type) = some 58 := by kernel_rfl
theorem ran_type : (Tryd.prog.globals[7]?).map (·.type) = some 58 := by kernel_rfl
theorem tabs_of_laid {W : World} {a b d e : String} (hs : Tryd.prog.globalNamed "internal/strconv.uint64pow10" = some 1)
    (h : laidMetH Tryd.prog [(a, Rows.laid_math_bits_deBruijn32tab), (b, Rows.laid_math_bits_deBruijn64tab), ("internal/strconv.uint64pow10", Rows.laid_internal_strconv_uint64pow10), (d, Rows.laid_unicode_utf8_acceptRanges), ("strconv.ErrRange", Rows.laid_strconv_ErrRange), ("strconv.ErrSyntax", Rows.laid_strconv_ErrSyntax), (e, Rows.laid_unicode_utf8_first)] W) : Tabs W := by
  rw [MakeChecks.laidMetH_plain _ _ _ (by kernel_rfl)] at h
  have h2 := laidMet.tail (laidMet.tail h)
  have h4 := laidMet.tail (laidMet.tail h2)
  have h5 := laidMet.tail h4
  obtain ⟨a1, _, v1, _⟩ := laid_sentinel h4 ran_name ran_type Tryd.underlying58 row_errs Tryd.underlying124 Tryd.underlying126 rfl rfl Tryd.underlying9 cells_errs cells_strw
  obtain ⟨a2, _, v2, _⟩ := laid_sentinel h5 syn_name syn_type Tryd.underlying58 row_errs Tryd.underlying124 Tryd.underlying126 rfl rfl Tryd.underlying9 cells_errs cells_strw
  rw [pow_data] at h2
  exact ⟨Lib.tabIs_of_head hs pow_type Tryd.underlying96 Tryd.underlying78 cells_u64 cells_tab20 h2,
    ⟨_, _, by have h0 := World.var?_cell syn_name v2 0; simpa using h0⟩, ⟨_, _, by have h0 := World.var?_cell ran_name v1 0; simpa using h0⟩⟩
end
section
open Go.RowKit
def SoV {α : Type} (g : List Wv → Option (α × List Wv)) (s : Wv) (r : Option (List α × List Wv)) (st : Option (List Wv)) (ks : List α) : Prop := r = st.bind fun l => (manyL g s l).map fun p => (ks ++ p.1, p.2)
section
variable {α : Type} {g : List Wv → Option (α × List Wv)} {s : Wv} {r : Option (List α × List Wv)} {st : Option (List Wv)} {ks : List α}
theorem SoV.start (g : List Wv → Option (α × List Wv)) (s : Wv) (st : Option (List Wv)) : SoV g s (st.bind (manyL g s)) st [] := by
  unfold SoV
  cases st with
  | none => rfl
  | some l =>
    simp only [Option.bind_some]
    cases manyL g s l with
    | none => rfl
    | some p => rfl
theorem SoV.fin (hg : Shrinks g) (h : SoV g s r st ks) (x : α) (hx : ∀ p, st.bind g = some p → x = p.1) (ha : aheadW ((st.bind g).map (·.2)) s = false) : r.map (·.2) = (st.bind g).map (·.2) ∧ ∀ p, r = some p → ks ++ [x] = p.1 := by
  unfold SoV at h
  subst h
  cases st with
  | none => exact ⟨rfl, fun p e => by cases e⟩
  | some l =>
    simp only [Option.bind_some] at hx ha ⊢
    rw [manyL_eq hg l]
    cases hq : g l with
    | none => exact ⟨rfl, fun p e => by cases e⟩
    | some y =>
      obtain ⟨y, rest⟩ := y
      rw [hq] at ha hx
      obtain rfl := hx _ rfl
      cases rest with
      | nil => exact ⟨rfl, fun p e => by injection e with e; rw [← e]⟩
      | cons u rest =>
        have hu : ¬ u = s := of_decide_eq_false ha
        dsimp only
        rw [if_neg hu]
        exact ⟨rfl, fun p e => by injection e with e; rw [← e]⟩
theorem SoV.go (hg : Shrinks g) (h : SoV g s r st ks) (x : α) (hx : ∀ p, st.bind g = some p → x = p.1) (ha : aheadW ((st.bind g).map (·.2)) s = true) :
    ∃ l rest, st = some l ∧ (st.bind g).map (·.2) = some (s :: rest) ∧ rest.length + 1 < l.length ∧ SoV g s r (some rest) (ks ++ [x]) := by
  cases st with
  | none => cases ha
  | some l =>
    simp only [Option.bind_some] at hx ha ⊢
    cases hq : g l with
    | none => rw [hq] at ha; cases ha
    | some y =>
      obtain ⟨y, rest⟩ := y
      rw [hq] at ha hx
      obtain rfl := hx _ rfl
      cases rest with
      | nil => cases ha
      | cons u rest =>
        have hu : u = s := of_decide_eq_true ha
        subst hu
        refine ⟨l, rest, rfl, rfl, hg _ _ _ hq, ?_⟩
        unfold SoV at h ⊢
        rw [h]
        simp only [Option.bind_some]
        rw [manyL_eq hg l, hq]
        dsimp only
        rw [if_pos rfl]
        cases manyL g u rest with
        | none => rfl
        | some p => simp
end
theorem one_many {f : Nat} (op : Int) {l : List (Sc f)} (h : ¬ l.length = 1) : oneV op l = (⟨op, [], 0, 0, l⟩ : Ns (Sc f)) := by
  match l, h with
  | [], _ => rfl
  | [x], h => exact absurd rfl h
  | _ :: _ :: _, _ => rfl
theorem one_one {f : Nat} (op : Int) {l : List (Sc f)} (h : 0 < l.length) (h1 : l.length = 1) : oneV op l = liftS f l[0] := by
  match l, h1 with
  | [x], _ => rfl
def leftN (w : World) (g : Nat) : Nat := match w.cell? ⟨g, 0, none⟩ with
  | some (.slice _ n _) => n
  | _ => 0
theorem kids_ZX {w : World} {B f : Nat} {op : Int} {v : Value} {qs : List QuZ} {ks : List (Sc f)} (hI : I64 op) (how : w.ownsRow (B + 2) 24 5 v qs.length (flatZ qs)) (hq : QZ w (SNZ (B + 1) w v) f qs ks) (hn : ¬ ks.length = 1) :
    ZX w (fun b => B < b ∧ b < w.heap.size) (f + 1) (oneV op ks : Sc (f + 1)) (.int .i64 op) (.string ⟨#[]⟩) (.int .i64 0) (.int .i64 0) v := by
  rw [one_many op hn]
  have h : ZX w (fun b => B + 1 < b) (f + 1) (⟨op, [], 0, 0, ks⟩ : Ns (Sc f)) (.int .i64 op) (strV []) (.int .i64 0) (.int .i64 0) v := ⟨rfl, hI, rfl, by simp [maxLen], rfl, by show I64 0; unfold I64; omega, rfl, by show I64 0; unfold I64; omega, ZS_of_own how (hq.mono fun b h => h.1) fun b hb _ => by omega⟩
  exact (ZX.lt _ _ _ _ _ _ _ h).mono fun b hb => ⟨by omega, hb.2⟩
theorem kid_alone {w : World} {B f : Nat} {op : Int} {A : Option Addr} {c n : Nat} {qs : List QuZ} {ks : List (Sc f)} (how : w.ownsRow (B + 2) 24 5 (.slice A n c) qs.length (flatZ qs)) (hq : QZ w (SNZ (B + 1) w (.slice A n c)) f qs ks) (hn : ks.length = 1) :
    ∃ b o e0 e1 e2 e3 e4, A = some ⟨b, o, none⟩ ∧ w.cell? ⟨b, o, none⟩ = some e0 ∧ w.cell? ⟨b, o + 1, none⟩ = some e1 ∧ w.cell? ⟨b, o + 2, none⟩ = some e2 ∧ w.cell? ⟨b, o + 3, none⟩ = some e3 ∧ w.cell? ⟨b, o + 4, none⟩ = some e4 ∧
      ZX w (fun b => B < b ∧ b < w.heap.size) (f + 1) (oneV op ks : Sc (f + 1)) e0 e1 e2 e3 e4 := by
  have hz := ZS_of_own (S := fun b => B + 1 < b) how (hq.mono fun b h => h.1) fun b hb _ => by omega
  obtain ⟨A', c', e, _⟩ := hz.form
  injection e with _ e2 _
  obtain ⟨b, o, e0, e1, e2, e3, e4, ea, _, k0, k1, k2, k3, k4, kx⟩ := kid_z hz e2.symm (Nat.le_refl _) (fun _ _ _ => rfl) 0 (by omega)
  simp only [Nat.zero_mul, Nat.add_zero] at k0 k1 k2 k3 k4
  refine ⟨b, o, e0, e1, e2, e3, e4, ea, k0, k1, k2, k3, k4, ?_⟩
  rw [one_one op (by omega) hn]
  exact ((ZX.lt _ _ _ _ _ _ _ kx).mono fun b hb => ⟨by omega, hb.2⟩).lifted
end
section
open Go.RowKit
def PW (w : World) (g : Nat) (S : Nat → Prop) (st : Option (List Wv)) (k : Int) : Prop :=
  ∃ A n c, KB w g 41 #[.slice A n c, .int .i64 k, .bool st.isNone] ∧ CS w S (.slice A n c) ((st.getD []).map strV) ∧ ¬ S g ∧ (∀ u ∈ st.getD [], u.length ≤ 1000) ∧ TabsG w g
section
variable {w w' : World} {g : Nat} {S : Nat → Prop} {st : Option (List Wv)} {k : Int}
theorem PW.keep (h : PW w g S st k) (hs : w.heap.size ≤ w'.heap.size) (hg : w'.heap[g]? = w.heap[g]?) (hk : ∀ b, S b → b < w.heap.size → w'.heap[b]? = w.heap[b]?) (ht : TabsG w g → TabsG w' g) : PW w' g S st k := by
  obtain ⟨A, n, c, h1, h2, h3, h4, h5⟩ := h
  exact ⟨A, n, c, h1.keep hg, h2.keep hs hk, h3, h4, ht h5⟩
theorem PW.lt (h : PW w g S st k) : g < w.heap.size := by
  obtain ⟨_, _, _, h1, _⟩ := h
  exact h1.lt
theorem PW.tabs (h : PW w g S st k) : Tabs w := by
  obtain ⟨_, _, _, _, _, _, _, h5⟩ := h
  exact h5.tabs
theorem PW.below (h : PW w g S st k) (hb : Below w.heap.size w w') : PW w' g S st k := h.keep hb.size (hb.block g h.lt) (fun b _ hl => hb.block b hl) fun t => t.below hb
theorem PW.alloc (h : PW w g S st k) (o : Obj) : PW (w.alloc o) g S st k := h.below ((Below.refl _ _).alloc (Nat.le_refl _) o)
theorem PW.grownX {row : Option Nat} (h : PW w g S st k) (hg : w.grownBy w' row) (hr : ∀ x, row = some x → g < x ∧ ¬ S x) : PW w' g S st k :=
  h.keep hg.size (hg.block g h.lt (fun e => by have := (hr g e.symm).1; omega)) (fun b sb hb => hg.block b hb (fun e => (hr b e.symm).2 sb)) fun t => t.grownX hg fun x e => Nat.le_of_lt (hr x e).1
theorem PW.far {h i : Nat} {u : Value} (r : PW w g S st k) (hne : g < h) (hS : ¬ S h) : PW (w.setCell ⟨h, i, none⟩ u) g S st k :=
  r.grownX (grown_set w h i u) fun x e => by injection e with e; subst e; exact ⟨hne, hS⟩
theorem PW.cells (h : PW w g S st k) : (∃ A c, w.cell? ⟨g, 0, none⟩ = some (.slice A (st.getD []).length c)) ∧ w.cell? ⟨g, 1, none⟩ = some (.int .i64 k) ∧ w.cell? ⟨g, 2, none⟩ = some (.bool st.isNone) ∧ w.frozen? ⟨g, 0, none⟩ = false ∧ w.frozen? ⟨g, 1, none⟩ = false ∧ w.frozen? ⟨g, 2, none⟩ = false := by
  obtain ⟨A, n, c, h1, h2, _⟩ := h
  obtain ⟨A', c', e, _⟩ := h2.form
  injection e with e1 e2 e3
  rw [List.length_map] at e2
  subst e2
  exact ⟨⟨A, c, h1.cell 0⟩, h1.cell 1, h1.cell 2, h1.free 0, h1.free 1, h1.free 2⟩
theorem PW.deep (h : PW w g S st k) (k' : Int) : PW (w.setCell ⟨g, 1, none⟩ (.int .i64 k')) g S st k' := by
  obtain ⟨A, n, c, h1, h2, h3, h4, h5⟩ := h
  exact ⟨A, n, c, h1.put 1 _, h2.keep (by simp [World.setCell]) (fun b sb _ => Below.heap_setCell w ⟨g, 1, none⟩ (.int .i64 k') b (fun e => h3 (by have e : b = g := e; rw [← e]; exact sb))), h3, h4, h5.set (Nat.le_refl _)⟩
theorem PW.left (h : PW w g S st k) : leftN w g = (st.getD []).length := by
  obtain ⟨⟨A, c, c0⟩, _⟩ := h.cells
  unfold leftN
  rw [c0]
end
def nextW : Option (List Wv) → Wv × Option (List Wv)
  | some (u :: l) => (u, some l)
  | st => ([], st)
theorem nextW_len (st : Option (List Wv)) : ((nextW st).2.getD []).length ≤ (st.getD []).length := by
  rcases st with _ | _ | ⟨u, l⟩
  · exact Nat.le_refl _
  · exact Nat.le_refl _
  · simp [nextW]
theorem PW.drop {w : World} {g : Nat} {S : Nat → Prop} {u : Wv} {l : List Wv} {k : Int} (h : PW w g S (some (u :: l)) k) :
    ∃ b o c, w.cell? ⟨g, 0, none⟩ = some (.slice (some ⟨b, o, none⟩) (l.length + 1) c) ∧ w.cell? ⟨b, o, none⟩ = some (strV u) ∧ l.length + 1 ≤ c ∧ c ≤ maxLen ∧ b ≠ g ∧
      PW (w.setCell ⟨g, 0, none⟩ (.slice (some (if c = 1 then ⟨b, o, none⟩ else ⟨b, o + 1, none⟩)) l.length (c - 1))) g S (some l) k := by
  obtain ⟨A, n, c, h1, h2, h3, h4, h5⟩ := h
  have h2 : CS w S (.slice A n c) ((u :: l).map strV) := h2
  obtain ⟨b, o, rfl, sb, hb, hx⟩ := h2.at_ (by simp)
  have hu : w.cell? ⟨b, o, none⟩ = some (strV u) := hx 0 (strV u) rfl
  obtain ⟨A', c', e, hl, hc⟩ := h2.form
  injection e with e1 e2 e3
  subst e1 e2 e3
  have hd := h2.drop1
  have hn : ((u :: l).map strV).length = l.length + 1 := by simp
  rw [hn] at hl hd h1
  refine ⟨b, o, c, h1.cell 0, hu, hl, hc, fun e => h3 (e ▸ sb), _, _, _, h1.put 0 _, ?_, h3, (fun v hv => h4 v (List.mem_cons_of_mem _ hv)), h5.set (Nat.le_refl _)⟩
  exact hd.keep (by simp [World.setCell]) fun x sx _ => Below.heap_setCell w ⟨g, 0, none⟩ _ x (fun e => h3 (by have e : x = g := e; rw [← e]; exact sx))
set_option maxHeartbeats 4000000 in
theorem pnext_any (g : Nat) (S : Nat → Prop) (st : Option (List Wv)) (k : Int) (w : World) (h : PW w g S st k) :
    Calls Tryd.prog 41 #[.pointer (some ⟨g, 0, none⟩)] w fun e w' => e = .returned (strV (nextW st).1) ∧ PW w' g S (nextW st).2 k ∧ w.grownBy w' (some g) := by
  have hnone : (st.getD []).length = 0 → nextW st = ([], st) := by
    intro hl
    rcases st with _ | _ | ⟨u, l⟩
    · rfl
    · rfl
    · simp at hl
  rcases hst : st with _ | _ | ⟨u, l⟩
  · subst hst
    obtain ⟨⟨A, c, c0⟩, _⟩ := h.cells
    have c0 : w.cell? ⟨g, 0, none⟩ = some (.slice A 0 c) := c0
    have hf := Lib.hid h
    clear h hnone
    go_enter Tryd.func41, Tryd.ntmps41
    go_wp2_with fail
    go_ret
    exact ⟨rfl, hf.out, World.grownBy.refl w _⟩
  · subst hst
    obtain ⟨⟨A, c, c0⟩, _⟩ := h.cells
    have c0 : w.cell? ⟨g, 0, none⟩ = some (.slice A 0 c) := c0
    have hf := Lib.hid h
    clear h hnone
    go_enter Tryd.func41, Tryd.ntmps41
    go_wp2_with fail
    go_ret
    exact ⟨rfl, hf.out, World.grownBy.refl w _⟩
  · subst hst
    have f0 := h.cells.2.2.2.1
    obtain ⟨b, o, c, c0, hu, hl, hc, hne, hd⟩ := h.drop
    have HN := Lib.hid hd
    have HG := Lib.hid (grown_set w g 0 (.slice (some (if c = 1 then ⟨b, o, none⟩ else ⟨b, o + 1, none⟩)) l.length (c - 1)))
    have hlI : (1 : Int) ≤ (c : Int) := by omega
    have hl1 : 1 ≤ c := by omega
    have hnm : c ≤ 9223372036854775807 := by unfold maxLen at hc; omega
    clear h hd hnone
    show Calls _ _ _ _ fun e w' => e = .returned (strV u) ∧ PW w' g S (some l) k ∧ w.grownBy w' (some g)
    unfold strV at *
    generalize (⟨u.toArray⟩ : ByteArray) = s at *
    by_cases hc1 : c = 1
    · subst hc1
      rw [if_pos rfl] at HN HG
      have hl0 : l.length = 0 := by omega
      rw [hl0] at c0 HN HG hl
      clear hl0
      go_enter Tryd.func41, Tryd.ntmps41
      go_wp2_with fail
      go_ret
      exact ⟨rfl, HN.out, HG.out⟩
    · rw [if_neg hc1] at HN HG
      go_enter Tryd.func41, Tryd.ntmps41
      go_wp2_with fail
      go_ret
      exact ⟨rfl, HN.out, HG.out⟩
def foundW (st : Option (List Wv)) (v : Wv) : Option (List Wv) := if aheadW st v = true then (takeW st).2 else st
set_option maxHeartbeats 4000000 in
theorem pfound_any (g : Nat) (S : Nat → Prop) (st : Option (List Wv)) (v : Wv) (k : Int) (w : World) (h : PW w g S st k) :
    Calls Tryd.prog 31 #[.pointer (some ⟨g, 0, none⟩), strV v] w fun e w' => e = .returned (.bool (aheadW st v)) ∧ PW w' g S (foundW st v) k ∧ w.grownBy w' (some g) := by
  rcases hst : st with _ | _ | ⟨u, l⟩
  · subst hst
    obtain ⟨⟨A, c, c0⟩, _⟩ := h.cells
    have c0 : w.cell? ⟨g, 0, none⟩ = some (.slice A 0 c) := c0
    have hf := Lib.hid h
    clear h
    show Calls _ _ _ _ fun e w' => e = .returned (.bool false) ∧ PW w' g S none k ∧ w.grownBy w' (some g)
    unfold strV
    generalize (⟨v.toArray⟩ : ByteArray) = s at *
    go_enter Tryd.func31, Tryd.ntmps31
    go_wp2_with fail
    go_ret
    exact ⟨rfl, hf.out, World.grownBy.refl w _⟩
  · subst hst
    obtain ⟨⟨A, c, c0⟩, _⟩ := h.cells
    have c0 : w.cell? ⟨g, 0, none⟩ = some (.slice A 0 c) := c0
    have hf := Lib.hid h
    clear h
    show Calls _ _ _ _ fun e w' => e = .returned (.bool false) ∧ PW w' g S (some []) k ∧ w.grownBy w' (some g)
    unfold strV
    generalize (⟨v.toArray⟩ : ByteArray) = s at *
    go_enter Tryd.func31, Tryd.ntmps31
    go_wp2_with fail
    go_ret
    exact ⟨rfl, hf.out, World.grownBy.refl w _⟩
  · subst hst
    have f0 := h.cells.2.2.2.1
    obtain ⟨b, o, c, c0, hu, hl, hc, hne, hd⟩ := h.drop
    have HN := Lib.hid hd
    have HH := Lib.hid h
    have HG := Lib.hid (grown_set w g 0 (.slice (some (if c = 1 then ⟨b, o, none⟩ else ⟨b, o + 1, none⟩)) l.length (c - 1)))
    have hlI : (1 : Int) ≤ (c : Int) := by omega
    have hl1 : 1 ≤ c := by omega
    have hnm : c ≤ 9223372036854775807 := by unfold maxLen at hc; omega
    have hpos : (0 : Int) < (l.length : Int) + 1 := by omega
    clear h hd
    show Calls _ _ _ _ fun e w' => e = .returned (.bool (decide (u = v))) ∧ PW w' g S (if decide (u = v) = true then some l else some (u :: l)) k ∧ w.grownBy w' (some g)
    unfold strV at *
    obtain ⟨s, hs⟩ : ∃ s : ByteArray, s = ⟨u.toArray⟩ := ⟨_, rfl⟩
    obtain ⟨s', hs'⟩ : ∃ s : ByteArray, s = ⟨v.toArray⟩ := ⟨_, rfl⟩
    have gq := zne_txt s s' u v hs hs'
    rw [← hs] at hu
    rw [← hs']
    clear hs hs'
    cases hb : decide (u = v) with
    | false =>
      rw [hb] at gq
      replace gq : (s.toList != s'.toList) = true := gq
      rw [if_neg (by simp)]
      have gp := (zeq_prop gq).1 rfl
      have ge : (s.toList == s'.toList) = false := beq_eq_false_iff_ne.2 gp
      clear HN HG
      go_enter Tryd.func31, Tryd.ntmps31
      go_wp2_with fail
      go_ret
      exact ⟨rfl, HH.out, World.grownBy.refl w _⟩
    | true =>
      rw [hb] at gq
      replace gq : (s.toList != s'.toList) = false := gq
      rw [if_pos rfl]
      have gp := (zeq_prop gq).2 rfl
      have ge : (s.toList == s'.toList) = true := beq_iff_eq.2 gp
      clear HH
      by_cases hc1 : c = 1
      · subst hc1
        rw [if_pos rfl] at HN HG
        have hl0 : l.length = 0 := by omega
        rw [hl0] at c0 HN HG hl
        clear hl0
        go_enter Tryd.func31, Tryd.ntmps31
        go_wp2_with fail
        go_ret
        exact ⟨rfl, HN.out, HG.out⟩
      · rw [if_neg hc1] at HN HG
        go_enter Tryd.func31, Tryd.ntmps31
        go_wp2_with fail
        go_ret
        exact ⟨rfl, HN.out, HG.out⟩
theorem PW.failed {w : World} {g : Nat} {S : Nat → Prop} {st : Option (List Wv)} {k : Int} (h : PW w g S st k) : PW ((w.setCell ⟨g, 0, none⟩ (.slice none 0 0)).setCell ⟨g, 2, none⟩ (.bool true)) g S none k := by
  obtain ⟨A, n, c, h1, h2, h3, h4, h5⟩ := h
  exact ⟨none, 0, 0, (h1.put 0 _).put 2 _, CS.nil _ _, h3, (fun u hu => by simp at hu), (h5.set (Nat.le_refl _)).set (Nat.le_refl _)⟩
set_option maxHeartbeats 4000000 in
theorem pfail_any (g : Nat) (S : Nat → Prop) (st : Option (List Wv)) (k : Int) (w : World) (h : PW w g S st k) :
    Calls Tryd.prog 45 #[.pointer (some ⟨g, 0, none⟩)] w fun e w' => e = .returned (.tuple #[]) ∧ PW w' g S none k ∧ w.grownBy w' (some g) := by
  obtain ⟨⟨A, c, c0⟩, c1, c2, f0, f1, f2⟩ := h.cells
  have hf := Lib.hid h.failed
  have HG := Lib.hid (grown_trans (grown_set w g 0 (.slice none 0 0)) (grown_set (w.setCell ⟨g, 0, none⟩ (.slice none 0 0)) g 2 (.bool true)))
  clear h
  go_enter Tryd.func45, Tryd.ntmps45
  go_wp2_with fail
  go_end0
  exact ⟨rfl, hf.out, HG.out⟩
end
end Go.Proofs.YtjecjlhofnnnpaaDoor
