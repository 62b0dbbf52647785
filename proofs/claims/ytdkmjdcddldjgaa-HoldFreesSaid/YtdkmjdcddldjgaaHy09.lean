/-
  Txs: Texts (strings) byte by byte: a byte of one; the first bytes of one; a part; two joined. Over the loaded program. No condition but sizes.
  Cln: strings.Clone over the loaded program: its contract. No condition but the size.
  Res: What a function hands back whose results are a variable of several cells and a value, over any program. General. No condition.
  TwB: The program's twin (layer 22): a scope in memory of its own, over the loaded program: its contract. No condition but the sizes that it names.
  Still: A region that draws its order and only reads and calls quietly, but for its last operations: over any program. No condition.
-/
import Derived.Test.YtdkmjdcddldjgaaHy02
import Derived.Lib.Strings
import Derived.Laws.Strings2
import Derived.Laws.Strings3
import Derived.Laws.Concat
import Derived.Test.YtdkmjdcddldjgaaLayS
import Derived.Shelf.Strconv.Clone
import Derived.Lib.Hide
import Derived.BigQuiet
import Derived.Test.YtdkmjdcddldjgaaHy00
import Derived.Laws.Rows
import Derived.Test.YtdkmjdcddldjgaaHy05
import Derived.Test.YtdkmjdcddldjgaaHy07
import Derived.Laws.EntriesVeiled
import Derived.StillTailTactics
set_option linter.unusedVariables false
set_option maxRecDepth 100000
namespace Go.Proofs.Ytdkmjdcddldjgaa
section
open Go.RowKit
theorem str_size (l : List UInt8) : (⟨l.toArray⟩ : ByteArray).size = l.length := rfl
theorem txt_at (l : List UInt8) (k : Nat) (x : UInt8) (hx : l[k]? = some x) : ∀ W : World, (Instr.index 9 (.string ⟨l.toArray⟩) (.int .i64 (k : Int))).run Try.prog W = .ok (.int .u8 (x.toNat : Int)) W := fun W => by
  have hk := (List.getElem?_eq_some_iff.1 hx).1
  have hs : (⟨l.toArray⟩ : ByteArray).size = l.length := rfl
  rw [run_index_string W 9 ⟨l.toArray⟩ .i64 (k : Int) Try.underlying9, dif_pos ⟨by omega, by rw [hs]; omega⟩]
  simp only [Int.toNat_natCast]
  have e : (⟨l.toArray⟩ : ByteArray)[k]'(by rw [hs]; exact hk) = x := by
    have := (List.getElem?_eq_some_iff.1 hx).2
    exact this
  rw [e]
theorem txt_to (l : List UInt8) (k : Nat) (hk : k ≤ l.length) : ∀ W : World, (Instr.slice 9 (.string ⟨l.toArray⟩) none (some (.int .i64 (k : Int))) none).run Try.prog W = .ok (.string ⟨(l.take k).toArray⟩) W := fun W => by
  rw [run_slice_string_to_if W 9 ⟨l.toArray⟩ .i64 (k : Int) Try.underlying9, if_pos ⟨by omega, by rw [str_size]; omega⟩, Int.toNat_natCast, ByteArray.extract_mk]
  simp
theorem txt_mid (l : List UInt8) (i j : IntKind) (a b : Nat) (hab : a ≤ b) (hb : b ≤ l.length) : ∀ W : World, (Instr.slice 9 (.string ⟨l.toArray⟩) (some (.int i (a : Int))) (some (.int j (b : Int))) none).run Try.prog W = .ok (.string ⟨((l.drop a).take (b - a)).toArray⟩) W := fun W => by
  rw [run_slice_string W 9 ⟨l.toArray⟩ i j (a : Int) (b : Int) Try.underlying9 (by omega) (by omega) (by rw [str_size]; omega), Int.toNat_natCast, Int.toNat_natCast, ByteArray.extract_mk]
theorem txt_from (l : List UInt8) (k : Nat) (hk : k ≤ l.length) : ∀ W : World, (Instr.slice 9 (.string ⟨l.toArray⟩) (some (.int .i64 (k : Int))) none none).run Try.prog W = .ok (.string ⟨(l.drop k).toArray⟩) W := fun W => by
  rw [run_slice_string_from_if W 9 ⟨l.toArray⟩ .i64 (k : Int) Try.underlying9, if_pos ⟨by omega, by rw [str_size]; omega⟩, Int.toNat_natCast, ByteArray.extract_mk]
  have : ((l.drop k).take (l.length - k)) = l.drop k := List.take_of_length_le (by simp)
  simp [str_size, this]
theorem txt_add (l m : List UInt8) (h : l.length + m.length ≤ 9223372036854775807) : ∀ W : World, (Op.stringOp .add ⟨l.toArray⟩ ⟨m.toArray⟩).run Try.prog W = .ok (.string ⟨(l ++ m).toArray⟩) W := fun W => by
  rw [run_string_add_sum W _ _ (by rw [str_size, str_size]; exact h), ByteArray.mk_append_mk]
end
section
open Go.RowKit
theorem sclone_any (l : List UInt8) (hl : l.length ≤ 140737488355328) (w : World) :
    Calls Try.prog 37 #[strV l] w fun e w' => e = .returned (strV l) ∧ Below w.heap.size w w' := by
  have h := fun w => Any.stringslite_Clone Try.laysClone ⟨l.toArray⟩ w (by rw [str_size]; omega)
  have hi : ∀ w, Calls Try.prog 50 #[.string ⟨l.toArray⟩] w fun e w' => e = .returned (.string ⟨l.toArray⟩) ∧ Below w.heap.size w w' := h
  clear h
  unfold strV
  generalize (⟨l.toArray⟩ : ByteArray) = s at *
  go_enter Try.func37, Try.ntmps37
  go_wp2_with (go_at_call 50; refine (hi _).mono ?_; rintro e w' ⟨rfl, bl⟩)
  go_ret
  exact ⟨rfl, bl⟩
end
section
open Go.RowKit
theorem results_cell_tmp {P : Program} {fn : Func} {p u : Tmp} {ty : TypeId} (h : fn.results = #[.cell p ty, .tmp u]) (tmps : Array Value) (w : World) (g : Nat) (t : TypeId) (cs : Array Value) (fr : Nat × Nat) (d : TypeDesc)
    (hp : tmps.getD p undef = .pointer (some ⟨g, 0, none⟩)) (hg : w.heap[g]? = some (.cells cs t fr))
    (hu : P.underlying ty = some d) (hd : (match d with | .struct _ | .array _ _ => true | _ => false) = true) (hi : (P.info? ty).map (·.size) = some cs.size) :
    (results fn tmps).run P w = .ok (.tuple #[.agg cs, tmps.getD u undef]) w := by
  have hp' : tmps[p]?.getD undef = .pointer (some ⟨g, 0, none⟩) := by simpa using hp
  simp [results, h, hp', asAddr, run_loadVar_row w g t ty cs fr d hg hu hd hi]
theorem KB.put3 {w : World} {g : Nat} {t : TypeId} {a b c : Value} (h : KB w g t #[a, b, c]) (x y z : Value) : KB (((w.setCell ⟨g, 0, none⟩ x).setCell ⟨g, 1, none⟩ y).setCell ⟨g, 2, none⟩ z) g t #[x, y, z] :=
  ((h.put 0 x).put 1 y).put 2 z
theorem res_three (w : World) (g : Nat) (x y z : Value) : w.grownBy (((w.setCell ⟨g, 0, none⟩ x).setCell ⟨g, 1, none⟩ y).setCell ⟨g, 2, none⟩ z) (some g) :=
  grown_trans (grown_trans (grown_set _ _ _ _) (grown_set _ _ _ _)) (grown_set _ _ _ _)
end
section
open Go.RowKit Go.ChangeShapes Go.WideShapes Go.Joins
def TwinAs (S : Nat → Prop) (w : World) (f : Nat) (x : Sc f) (e : Ending) (w' : World) : Prop := ∃ v', e = .returned v' ∧ ZV w' (fun b => (S b ∧ b < w.heap.size) ∨ w.heap.size ≤ b) f v' x ∧ Below w.heap.size w w'
def STw (S : Nat → Prop) (n : Nat) (v : Value) (b : Nat) : Prop := (S b ∧ b < n) ∨ (n + 2 ≤ b ∧ v.ownBlock ≠ some b)
structure TwR (S : Nat → Prop) (w : World) (f : Nat) (ks : List (Sc f)) (bx zx : Array Value) (v : Value) (wr : World) (qs : List QuZ) : Prop where
  own : wr.ownsRow (w.heap.size + 2) 25 5 v qs.length (flatZ qs)
  rd : QZ wr (STw S w.heap.size v) f qs ks
  box : KB wr w.heap.size 25 bx
  res : KB wr (w.heap.size + 1) 25 zx
  bl : Below w.heap.size w wr
theorem TwR.step {S : Nat → Prop} {w wr w5 w9 : World} {f : Nat} {ks : List (Sc f)} {bx zx : Array Value} {g c m : Nat} {qs : List QuZ} (r : TwR S w f ks bx zx (.slice (some ⟨g, 0, none⟩) qs.length c) wr qs) (hg : g < wr.heap.size) (hgn : w.heap.size + 2 ≤ g) {j : Nat} (hj : j < ks.length)
    (hb : Below wr.heap.size wr w5) (hm : wr.heap.size ≤ m) {d0 d1 d2 d3 d4 : Value} (hx : ZX w5 (fun b => (STw S w.heap.size (.slice (some ⟨g, 0, none⟩) qs.length c) b ∧ b < m) ∨ m ≤ b) f ks[j] d0 d1 d2 d3 d4)
    (hw : w9 = ((((w5.setCell ⟨g, j * 5, none⟩ d0).setCell ⟨g, j * 5 + 1, none⟩ d1).setCell ⟨g, j * 5 + 2, none⟩ d2).setCell ⟨g, j * 5 + 3, none⟩ d3).setCell ⟨g, j * 5 + 4, none⟩ d4) :
    (qs.set j (d0, d1, d2, d3, d4)).length = qs.length ∧ TwR S w f ks bx zx (.slice (some ⟨g, 0, none⟩) qs.length c) w9 (qs.set j (d0, d1, d2, d3, d4)) := by
  obtain ⟨o, q, k1, k2, b⟩ := r
  have hjq : j < qs.length := by rw [q.1]; exact hj
  have o9 := ownZ_set (q := (d0, d1, d2, d3, d4)) (own_past hb o) hjq hw
  have hs5 := hb.size
  have hn1 : w.heap.size + 1 < wr.heap.size := k2.lt
  have hne : ∀ b, STw S w.heap.size (.slice (some ⟨g, 0, none⟩) qs.length c) b → some b ≠ some g := fun b hb e => by
    injection e with e
    rcases hb with h | h
    · omega
    · exact h.2 (by rw [e]; rfl)
  have hm2 : ∀ b, m ≤ b → STw S w.heap.size (.slice (some ⟨g, 0, none⟩) qs.length c) b := fun b hb => .inr ⟨by omega, fun e => by
    have e : some g = some b := e
    injection e with e
    omega⟩
  have q5 := q.below' hb
  have q9 := q5.keepL (S' := STw S w.heap.size (.slice (some ⟨g, 0, none⟩) qs.length c)) o9.2.size (fun b sb hl => o9.2.block b hl (hne b sb)) fun b sb _ => sb
  have x9 := ZX.keepL (S' := STw S w.heap.size (.slice (some ⟨g, 0, none⟩) qs.length c)) f ks[j] _ _ _ _ _ hx o9.2.size (fun b sb hl => o9.2.block b hl (hne b (sb.elim (fun h => h.1) fun h => hm2 b h))) (fun b sb _ => sb.elim (fun h => h.1) fun h => hm2 b h)
  have hq := q9.set (j := j) x9
  rw [show ks.set j ks[j] = ks by simp] at hq
  exact ⟨List.length_set, ⟨by have := o9.1; rw [List.length_set] at this ⊢; exact this, hq, (k1.below hb k1.lt).grown o9.2 (by intro e; injection e with e; omega), (k2.below hb k2.lt).grown o9.2 (by intro e; injection e with e; omega),
    (b.trans (hb.mono b.size)).grown o9.2 (by have := b.size; omega) fun k e => by injection e with e; omega⟩⟩
theorem tw_far {w5 w9 : World} {g b i j : Nat} {d0 d1 d2 d3 d4 u : Value} (hw : w9 = ((((w5.setCell ⟨g, j * 5, none⟩ d0).setCell ⟨g, j * 5 + 1, none⟩ d1).setCell ⟨g, j * 5 + 2, none⟩ d2).setCell ⟨g, j * 5 + 3, none⟩ d3).setCell ⟨g, j * 5 + 4, none⟩ d4) (hne : b ≠ g)
    (h : w5.cell? ⟨b, i, none⟩ = some u) : w9.cell? ⟨b, i, none⟩ = some u := by
  rw [hw, World.cell?_of_block (w := w5) (a := ⟨b, i, none⟩)]
  · exact h
  · exact (Below.heap_setCell _ _ _ _ hne).trans ((Below.heap_setCell _ _ _ _ hne).trans ((Below.heap_setCell _ _ _ _ hne).trans ((Below.heap_setCell _ _ _ _ hne).trans (Below.heap_setCell _ _ _ _ hne))))
set_option maxHeartbeats 16000000 in
theorem twin_any : ∀ (f : Nat) (S : Nat → Prop) (x : Sc f) (v : Value) (w : World), fewZ f x → ZV w S f v x →
    Calls Try.prog 33 #[v] w (TwinAs S w f x) := by
  intro f
  induction f with
  | zero => intro S x; exact nomatch x
  | succ f ih =>
    intro S x v w hfew hv
    obtain ⟨c0, c1, c2, c3, c4, rfl, rfl, hk, rfl, hml, rfl, hfr, rfl, hto, hks⟩ := hv
    obtain ⟨A3, cap3, e3, hl3, hm3⟩ := hks.form
    obtain ⟨hf1, hf2, hf3⟩ := hfew
    have hcl := fun W => sclone_any (x : Ns (Sc f)).name (by omega) W
    have HZC := Lib.hid (fun W (hb : Below w.heap.size w W) => zclone_any (fun b => S b ∧ b < w.heap.size) f (x : Ns (Sc f)).kids _ W hf1 (by
      have := ZS.mapL (w' := W) (S' := fun b => S b ∧ b < w.heap.size) (E' := ZX W (fun b => S b ∧ b < w.heap.size) f) id hks hb.size (fun b _ hl => hb.block b hl) (fun b sb hl => ⟨sb, hl⟩) (fun t c0 c1 c2 c3 c4 h => ZX.keepL f t c0 c1 c2 c3 c4 h hb.size (fun b _ hl => hb.block b hl) (fun b sb hl => ⟨sb, hl⟩))
      rw [List.map_id] at this
      exact this))
    subst e3
    clear hks
    obtain ⟨D, hD⟩ : ∃ D, D = TwinAs S w (f + 1) x := ⟨_, rfl⟩
    rw [← hD]
    have HD : Hid (∀ (W : World) (kv : Value), ZS W (fun b => (S b ∧ b < w.heap.size) ∨ w.heap.size ≤ b) (ZX W (fun b => (S b ∧ b < w.heap.size) ∨ w.heap.size ≤ b) f) kv (x : Ns (Sc f)).kids → Below w.heap.size w W → D (.returned (.agg #[.int .i64 (x : Ns (Sc f)).op, strV (x : Ns (Sc f)).name, .int .i64 (x : Ns (Sc f)).from_, .int .i64 (x : Ns (Sc f)).to_, kv])) W) := fun W kv h1 h2 => by
      rw [hD]
      exact ⟨_, rfl, ⟨_, _, _, _, _, rfl, rfl, hk, rfl, hml, rfl, hfr, rfl, hto, h1⟩, h2⟩
    clear hD hk hfr hto hml
    have HF3 := Lib.hid hf3
    clear hf3 hf2
    generalize (x : Ns (Sc f)).op = k at *
    generalize (x : Ns (Sc f)).from_ = fr at *
    generalize (x : Ns (Sc f)).to_ = to_ at *
    generalize (x : Ns (Sc f)).name = l at *
    generalize (x : Ns (Sc f)).kids = ks at *
    clear x
    have hlen : ks.length ≤ 9223372036854775807 := by omega
    obtain ⟨kl, hkl⟩ : ∃ kl, kl = ks.length := ⟨_, rfl⟩
    have hzc := HZC.out
    rw [← hkl] at hzc hl3 hlen hf1 ⊢
    replace HZC := Lib.hid hzc
    have HKL := Lib.hid hkl
    clear hkl hzc
    unfold strV at *
    generalize (⟨l.toArray⟩ : ByteArray) = s at *
    have B0 := ((Below.refl w.heap.size w).alloc (Nat.le_refl _) (.cells #[.int .i64 k, .string s, .int .i64 fr, .int .i64 to_, .slice A3 kl cap3] 25)).alloc (by simp) (.cells #[.int .i64 0, .string ⟨#[]⟩, .int .i64 0, .int .i64 0, .slice none 0 0] 25)
    obtain ⟨K0, R0, _⟩ := ztwo_boxes w #[.int .i64 k, .string s, .int .i64 fr, .int .i64 to_, .slice A3 kl cap3] #[.int .i64 0, .string ⟨#[]⟩, .int .i64 0, .int .i64 0, .slice none 0 0] 25 25
    go_enter Try.func33, Try.ntmps33
    have p1 := K0.cell 1
    go_wp2_with fail
    refine (hcl _).mono ?_
    rintro e w1 ⟨rfl, b1⟩
    have K1 := K0.below b1 K0.lt
    have R1 := R0.below b1 R0.lt
    have B1 := B0.trans (b1.mono B0.size)
    have f1 := K1.free 1
    have f4 := K1.free 4
    have K2 : KB (w1.setCell ⟨w.heap.size, 1, none⟩ (.string s)) w.heap.size 25 #[.int .i64 k, .string s, .int .i64 fr, .int .i64 to_, .slice A3 kl cap3] := K1.put 1 (.string s)
    have R2 : KB (w1.setCell ⟨w.heap.size, 1, none⟩ (.string s)) (w.heap.size + 1) 25 #[.int .i64 0, .string ⟨#[]⟩, .int .i64 0, .int .i64 0, .slice none 0 0] := R1.keep (Below.heap_setCell w1 _ _ _ (by show w.heap.size + 1 ≠ w.heap.size; omega))
    have B2 := B1.setCell (p := ⟨w.heap.size, 1, none⟩) (Nat.le_refl _) (.string s)
    have q1 : w1.cell? ⟨w.heap.size, 1, none⟩ = some (.string s) := K1.cell 1
    have q4 : w1.cell? ⟨w.heap.size, 4, none⟩ = some (.slice A3 kl cap3) := K1.cell 4
    have p4 := K2.cell 4
    have hzc := HZC.out _ B2
    have HZ2 := Lib.hid hzc
    clear hcl K0 R0 K1 R1 B0 b1 B1 p1 HZC hzc
    go_wp2_with fail
    refine HZ2.out.mono ?_
    rintro e w3 ⟨v3, qs0, rfl, how0, hq0, b3⟩
    clear q1 q4 p4 f1 f4 HZ2
    have K3 := K2.below b3 K2.lt
    have R3 := R2.below b3 R2.lt
    have B3 := B2.trans (b3.mono B2.size)
    have hnb : ∀ k, v3.ownBlock = some k → w.heap.size + 2 ≤ k := fun k hk => by
      have h1 := zown_ge how0 k hk
      have h2 := R2.lt
      omega
    obtain ⟨A4, c4, rfl⟩ := zown_form how0
    have hql : qs0.length = kl := hq0.1.trans HKL.out.symm
    have f4 := K3.free 4
    have q4 : w3.cell? ⟨w.heap.size, 4, none⟩ = some (.slice A3 kl cap3) := K3.cell 4
    have K4 : KB (w3.setCell ⟨w.heap.size, 4, none⟩ (.slice A4 qs0.length c4)) w.heap.size 25 #[.int .i64 k, .string s, .int .i64 fr, .int .i64 to_, .slice A4 qs0.length c4] := K3.put 4 _
    have R4 : KB (w3.setCell ⟨w.heap.size, 4, none⟩ (.slice A4 qs0.length c4)) (w.heap.size + 1) 25 #[.int .i64 0, .string ⟨#[]⟩, .int .i64 0, .int .i64 0, .slice none 0 0] := R3.keep (Below.heap_setCell w3 _ _ _ (by show w.heap.size + 1 ≠ w.heap.size; omega))
    have B4 := B3.setCell (p := ⟨w.heap.size, 4, none⟩) (Nat.le_refl _) (.slice A4 qs0.length c4)
    have p4 := K4.cell 4
    have TW0 : TwR S w f ks #[.int .i64 k, .string s, .int .i64 fr, .int .i64 to_, .slice A4 qs0.length c4] #[.int .i64 0, .string ⟨#[]⟩, .int .i64 0, .int .i64 0, .slice none 0 0] (.slice A4 qs0.length c4) (w3.setCell ⟨w.heap.size, 4, none⟩ (.slice A4 qs0.length c4)) qs0 := by
      have hg : w3.grownBy (w3.setCell ⟨w.heap.size, 4, none⟩ (.slice A4 qs0.length c4)) (some w.heap.size) := grown_set _ _ _ _
      refine ⟨?_, ?_, K4, R4, B4⟩
      · exact own_low (own_keep how0 fun b hb => hg.block b (zown_lt how0 b hb) fun e => by injection e with e; have := hnb b hb; omega) (by have := R2.lt; omega)
      · exact hq0.keepL hg.size (fun b sb hl => hg.block b hl fun e => by injection e with e; have := sb.2; omega) fun b sb _ => .inl sb
    rw [hql] at TW0 p4 ⊢
    clear hq0 how0 K2 R2 B2 K3 R3 B3 K4 R4 B4 hnb b3
    go_wp2_with fail
    clear q4 f4 p4
    generalize w3.setCell ⟨w.heap.size, 4, none⟩ (.slice A4 kl c4) = w4 at *
    have HQ0 : Hid (qs0.length = kl) := hql
    clear hql
    go_loopw [16] (fun iv wr => ∃ (j : Nat) (qs : List QuZ), j ≤ kl ∧ iv = .int .i64 j ∧ Hid (qs.length = kl) ∧ Hid (TwR S w f ks #[.int .i64 k, .string s, .int .i64 fr, .int .i64 to_, .slice A4 kl c4] #[.int .i64 0, .string ⟨#[]⟩, .int .i64 0, .int .i64 0, .slice none 0 0] (.slice A4 kl c4) wr qs)) (fun iv _ => kl - (intOf iv).toNat)
    case atStart => exact ⟨0, qs0, by omega, rfl, HQ0, TW0⟩
    case round =>
      clear TW0 HQ0
      obtain ⟨j, qs, hj, rfl, HQL, HR⟩ := hrel
      obtain ⟨OW, HQ, KX, RX, B⟩ := id HR.out
      have x4 := KX.cell 4
      have x5 := KX.lt
      by_cases hlt : j < kl
      · have hltI : (j : Int) < (kl : Int) := by omega
        have hjk : j < ks.length := by rw [← HKL.out]; exact hlt
        obtain ⟨g, c, e0, e1, e2, e3, e4, ev, hgn, hgl, k0, k1, k2, k3, k4, hx, hfz⟩ := ownZ_at OW HQ j hjk
        injection ev with ev1 ev2 ev3
        clear ev2
        subst ev1 ev3
        have hc0 := fun W (hW : Below wr.heap.size wr W) => ih (STw S w.heap.size (.slice (some ⟨g, 0, none⟩) kl c4)) ks[j] (.agg #[e0, e1, e2, e3, e4]) W (HF3.out _ (List.getElem_mem hjk)) ⟨_, _, _, _, _, rfl, hx.below' hW⟩
        obtain ⟨i0, l1, i2, i3, X4, n4, z4, rfl, rfl, rfl, rfl, rfl⟩ := hx.form
        obtain ⟨s1, hs1⟩ : ∃ s : ByteArray, strV l1 = .string s := ⟨_, rfl⟩
        rw [hs1] at k1 hc0
        have BA := (Below.refl wr.heap.size wr).alloc (Nat.le_refl _) (.cells #[.int .i64 i0, .string s1, .int .i64 i2, .int .i64 i3, .slice X4 n4 z4] 25)
        have KA := KB.new wr 25 #[.int .i64 i0, .string s1, .int .i64 i2, .int .i64 i3, .slice X4 n4 z4]
        have hc := Lib.hid (hc0 (wr.alloc (.cells #[.int .i64 i0, .string s1, .int .i64 i2, .int .i64 i3, .slice X4 n4 z4] 25)).drew (Below_drawn BA 1))
        have hsA : (wr.alloc (.cells #[.int .i64 i0, .string s1, .int .i64 i2, .int .i64 i3, .slice X4 n4 z4] 25)).heap.size = wr.heap.size + 1 := by simp
        obtain ⟨wd, hwd⟩ : ∃ wd, wd = (wr.alloc (.cells #[.int .i64 i0, .string s1, .int .i64 i2, .int .i64 i3, .slice X4 n4 z4] 25)).drew := ⟨_, rfl⟩
        have BD : Below wr.heap.size wr wd := by rw [hwd]; exact Below_drawn BA 1
        have KD : KB wd wr.heap.size 25 #[.int .i64 i0, .string s1, .int .i64 i2, .int .i64 i3, .slice X4 n4 z4] := by rw [hwd]; exact KA
        have hsD : wd.heap.size = wr.heap.size + 1 := by rw [hwd]; exact hsA
        have hwd2 : (wr.alloc (.cells #[.int .i64 i0, .string s1, .int .i64 i2, .int .i64 i3, .slice X4 n4 z4] 25)).drew = wd := hwd.symm
        rw [hwd2] at hc
        have HWD := Lib.hid hwd2
        have HC : Hid (∀ W, Below wd.heap.size wd W → W.cell? ⟨w.heap.size, 4, none⟩ = some (.slice (some ⟨g, 0, none⟩) kl c4) ∧ W.cell? ⟨wr.heap.size, 0, none⟩ = some (.int .i64 i0) ∧ W.cell? ⟨wr.heap.size, 1, none⟩ = some (.string s1) ∧ W.cell? ⟨wr.heap.size, 2, none⟩ = some (.int .i64 i2) ∧ W.cell? ⟨wr.heap.size, 3, none⟩ = some (.int .i64 i3) ∧ W.cell? ⟨wr.heap.size, 4, none⟩ = some (.slice X4 n4 z4)) := fun W hb => by
          have K' := KD.below hb KD.lt
          have X' := (KX.below BD x5).below hb (by omega)
          exact ⟨X'.cell 4, K'.cell 0, K'.cell 1, K'.cell 2, K'.cell 3, K'.cell 4⟩
        have HCELLS : Hid (∀ W, Below wd.heap.size wd W → (∃ u, W.cell? ⟨g, j * 5, none⟩ = some u) ∧ (∃ u, W.cell? ⟨g, j * 5 + 1, none⟩ = some u) ∧ (∃ u, W.cell? ⟨g, j * 5 + 2, none⟩ = some u) ∧ (∃ u, W.cell? ⟨g, j * 5 + 3, none⟩ = some u) ∧ (∃ u, W.cell? ⟨g, j * 5 + 4, none⟩ = some u) ∧ ∀ k, W.frozen? ⟨g, k, none⟩ = false) := fun W hb => by
          have hb2 := BD.trans (hb.mono BD.size)
          exact ⟨⟨_, (hb2.cell hgl).trans k0⟩, ⟨_, (hb2.cell hgl).trans k1⟩, ⟨_, (hb2.cell hgl).trans k2⟩, ⟨_, (hb2.cell hgl).trans k3⟩, ⟨_, (hb2.cell hgl).trans k4⟩, fun k => (hb2.frozen hgl).trans (hfz k)⟩
        have HST : Hid (∀ w5 w9 d0 d1 d2 d3 d4, Below wd.heap.size wd w5 → ZX w5 (fun b => (STw S w.heap.size (.slice (some ⟨g, 0, none⟩) kl c4) b ∧ b < wd.heap.size) ∨ wd.heap.size ≤ b) f ks[j] d0 d1 d2 d3 d4 →
            w9 = ((((w5.setCell ⟨g, j * 5, none⟩ d0).setCell ⟨g, j * 5 + 1, none⟩ d1).setCell ⟨g, j * 5 + 2, none⟩ d2).setCell ⟨g, j * 5 + 3, none⟩ d3).setCell ⟨g, j * 5 + 4, none⟩ d4 →
            Hid ((qs.set j (d0, d1, d2, d3, d4)).length = kl) ∧ Hid (TwR S w f ks #[.int .i64 k, .string s, .int .i64 fr, .int .i64 to_, .slice (some ⟨g, 0, none⟩) kl c4] #[.int .i64 0, .string ⟨#[]⟩, .int .i64 0, .int .i64 0, .slice none 0 0] (.slice (some ⟨g, 0, none⟩) kl c4) w9 (qs.set j (d0, d1, d2, d3, d4)))) := fun w5 w9 d0 d1 d2 d3 d4 hb hx hw => by
          have hr := HR.out
          rw [← HQL.out] at hr hx ⊢
          have h := TwR.step hr hgl hgn hjk (BD.trans (hb.mono BD.size)) (by omega) hx hw
          exact h
        clear hx hc0 hfz HR OW HQ KX RX B BA KA hsA hwd hwd2 BD KD HD HF3 ih hs1 HQL
        go_wp2_with fail
        rename_i KK hKK
        have HKK := Lib.hid hKK
        clear hKK
        have hg1 : w.heap.size ≠ g := by omega
        have hg2 : wr.heap.size ≠ g := by omega
        refine wp_region_held_drew (S := (fun W => W.cell? ⟨w.heap.size, 4, none⟩ = some (.slice (some ⟨g, 0, none⟩) kl c4) ∧ W.cell? ⟨wr.heap.size, 0, none⟩ = some (.int .i64 i0) ∧ W.cell? ⟨wr.heap.size, 1, none⟩ = some (.string s1) ∧ W.cell? ⟨wr.heap.size, 2, none⟩ = some (.int .i64 i2) ∧ W.cell? ⟨wr.heap.size, 3, none⟩ = some (.int .i64 i3) ∧ W.cell? ⟨wr.heap.size, 4, none⟩ = some (.slice X4 n4 z4))) (by kernel_rfl) (by rw [HWD.out]; exact HC.out _ (Below.refl _ _)) (fun hHeld => ?_)
        rw [HWD.out] at hHeld ⊢
        refine hyY (some 21) 0 rfl hHeld ?_; go_frame
        refine hyY (some 22) 1 rfl hHeld ?_; go_frame
        refine hyY (some 23) 2 rfl hHeld ?_; go_frame
        refine hyY (some 24) 3 rfl hHeld ?_; go_frame
        refine hyO (some 25) 4 rfl (fun K hK => ?_)
        go_simp
        go_at_call 33
        refine hc.out.mono ?_
        rintro e w5 ⟨v5, rfl, hv5, b5⟩
        obtain ⟨d0, d1, d2, d3, d4, rfl, hx5⟩ := hv5
        obtain ⟨m0, l5, m2, m3, Y4, y4, t4, rfl, rfl, rfl, rfl, rfl⟩ := hx5.form
        obtain ⟨s5, hs5⟩ : ∃ s : ByteArray, strV l5 = .string s := ⟨_, rfl⟩
        rw [hs5] at hx5 ⊢
        obtain ⟨w9, hw9⟩ : ∃ w9, w9 = ((((w5.setCell ⟨g, j * 5, none⟩ (.int .i64 m0)).setCell ⟨g, j * 5 + 1, none⟩ (.string s5)).setCell ⟨g, j * 5 + 2, none⟩ (.int .i64 m2)).setCell ⟨g, j * 5 + 3, none⟩ (.int .i64 m3)).setCell ⟨g, j * 5 + 4, none⟩ (.slice Y4 y4 t4) := ⟨_, rfl⟩
        have HN := Lib.hid (HST.out w5 w9 _ _ _ _ _ b5 hx5 hw9)
        have HW9 := Lib.hid hw9
        have hS6 := HC.out _ b5
        obtain ⟨⟨u0, g0⟩, ⟨u1, g1⟩, ⟨u2, g2⟩, ⟨u3, g3⟩, ⟨u4, g4⟩, hfz⟩ := HCELLS.out _ b5
        have f0 := hfz (j * 5)
        have f1 := hfz (j * 5 + 1)
        have f2 := hfz (j * 5 + 2)
        have f3 := hfz (j * 5 + 3)
        have f4 := hfz (j * 5 + 4)
        clear hfz hw9 hx5 hs5 HST HCELLS HC b5
        go_wp2_with fail
        refine hK.out _ _ ?_ (fun hH2 => ?_)
        · exact hS6
        clear hHeld hK K; have hHeld := hH2; clear hH2; try go_frame
        refine hyY (some 26) 5 rfl hHeld ?_; go_frame
        refine hyO none 6 rfl (fun K hK => ?_)
        go_simp
        rw [← HW9.out]
        replace hS6 := (⟨tw_far HW9.out hg1 hS6.1, tw_far HW9.out hg2 hS6.2.1, tw_far HW9.out hg2 hS6.2.2.1, tw_far HW9.out hg2 hS6.2.2.2.1, tw_far HW9.out hg2 hS6.2.2.2.2.1, tw_far HW9.out hg2 hS6.2.2.2.2.2⟩ : _ ∧ _ ∧ _ ∧ _ ∧ _ ∧ _)
        refine hK.out _ _ ?_ (fun hH2 => ?_)
        · exact hS6
        clear hHeld hK K; have hHeld := hH2; clear hH2; try go_frame
        refine wpAnyH_done (by kernel_rfl) ?_ _
        skip
        have hKK := HKK.out
        clear hHeld hS6 hc HW9 g0 g1 g2 g3 g4 f0 f1 f2 f3 f4 HWD hsD
        go_wp2_with fail
        go_roundw
        case rel => exact ⟨j + 1, _, by omega, by go_num, HN.out.1, HN.out.2⟩
        case measure => simp [intOf]; omega
      · obtain rfl : j = kl := by omega
        have q0 := KX.cell 0
        have q1 := KX.cell 1
        have q2 := KX.cell 2
        have q3 := KX.cell 3
        have q4 := KX.cell 4
        have r0 := RX.cell 0
        have r1 := RX.cell 1
        have r2 := RX.cell 2
        have r3 := RX.cell 3
        have r4 := RX.cell 4
        have g0 := RX.free 0
        have g1 := RX.free 1
        have g2 := RX.free 2
        have g3 := RX.free 3
        have g4 := RX.free 4
        have hxs2 := ZS_of_own (S := fun b => (S b ∧ b < w.heap.size) ∨ w.heap.size + 2 ≤ b) OW (HQ.mono fun b h => h.elim (fun h => .inl h) fun h => .inr h.1) fun b h1 h2 => .inr h1
        obtain ⟨W5, hW5⟩ : ∃ W5, W5 = (((((wr.setCell ⟨w.heap.size + 1, 0, none⟩ (.int .i64 k)).setCell ⟨w.heap.size + 1, 1, none⟩ (.string s)).setCell ⟨w.heap.size + 1, 2, none⟩ (.int .i64 fr)).setCell ⟨w.heap.size + 1, 3, none⟩ (.int .i64 to_)).setCell ⟨w.heap.size + 1, 4, none⟩ (.slice A4 j c4)) := ⟨_, rfl⟩
        have hs5 : W5.heap.size = wr.heap.size := by rw [hW5]; simp [World.setCell]
        have kfin : KB W5 (w.heap.size + 1) 25 #[.int .i64 k, .string s, .int .i64 fr, .int .i64 to_, .slice A4 j c4] := by
          rw [hW5]
          exact ((((RX.put 0 _).put 1 _).put 2 _).put 3 _).put 4 _
        have bfin : Below w.heap.size w W5 := by
          rw [hW5]
          exact ((((B.setCell (p := ⟨w.heap.size + 1, 0, none⟩) (by simp) _).setCell (p := ⟨w.heap.size + 1, 1, none⟩) (by simp) _).setCell (p := ⟨w.heap.size + 1, 2, none⟩) (by simp) _).setCell (p := ⟨w.heap.size + 1, 3, none⟩) (by simp) _).setCell (p := ⟨w.heap.size + 1, 4, none⟩) (by simp) _
        have hblk : ∀ b, b ≠ w.heap.size + 1 → W5.heap[b]? = wr.heap[b]? := fun b hb => by
          rw [hW5]
          exact (Below.heap_setCell _ _ _ _ hb).trans ((Below.heap_setCell _ _ _ _ hb).trans ((Below.heap_setCell _ _ _ _ hb).trans ((Below.heap_setCell _ _ _ _ hb).trans (Below.heap_setCell _ _ _ _ hb))))
        have hne : ∀ b, ((S b ∧ b < w.heap.size) ∨ w.heap.size + 2 ≤ b) → b ≠ w.heap.size + 1 := fun b h => by rcases h with h | h <;> omega
        have hmo : ∀ b, ((S b ∧ b < w.heap.size) ∨ w.heap.size + 2 ≤ b) → ((S b ∧ b < w.heap.size) ∨ w.heap.size ≤ b) := fun b h => h.elim .inl fun h => .inr (by omega)
        have hfin := HD.out W5 (.slice A4 j c4) (by
          have := ZS.mapL (w' := W5) (S' := fun b => (S b ∧ b < w.heap.size) ∨ w.heap.size ≤ b) (E' := ZX W5 (fun b => (S b ∧ b < w.heap.size) ∨ w.heap.size ≤ b) f) id hxs2 (by omega) (fun b h _ => hblk b (hne b h)) (fun b h _ => hmo b h) (fun t c0 c1 c2 c3 c4 h => ZX.keepL f t c0 c1 c2 c3 c4 h (by omega) (fun b h _ => hblk b (hne b h)) (fun b h _ => hmo b h))
          rw [List.map_id] at this
          exact this) bfin
        have HW5 := Lib.hid hW5
        clear hxs2 hblk bfin OW HQ KX RX B hW5 hs5 HD HF3 ih HR hne hmo HQL HKL x4
        go_wp2_with fail
        rw [← HW5.out]
        exact bodyPost_ret (results_cell_row (P := Try.prog) rfl _ _ (w.heap.size + 1) _ _ (0, 0) _ rfl kfin Try.underlying25 rfl (by kernel_rfl)) rfl hfin
end
section
theorem wp_still_tail {P : Program} {id : Nat} {Q : Exit → Act → World → Prop} {a : Act} {w : World} {l : List Oper} (n : Nat) (hm : P.follows .mixedOrders = true) (hB : Region.lexTailB .any l.toArray n = true)
    (R : World → Prop) (hR : R w.drew) (h : ∀ w2, R w2 → wpStill P l.toArray w2 (fun a' => wpList P l.toArray Q (l.drop n) a' w2) (l.take n) a) : (Code.region id l.toArray true).wp P Q a w :=
  wp_region_still_tail n hm hB (h w.drew hR)
theorem wpStill_op {P : Program} {ops : Array Oper} {w : World} {Q : Act → Prop} {a : Act} {o : Oper} {rest : List Oper} (hg : o.guard = none) {v : Value} (hrun : (execOp a.eval o).run P w = .ok (.value v) w) (k : wpStill P ops w Q rest (a.put o.dst v)) : wpStill P ops w Q (o :: rest) a := by
  refine wpStill_step fun K hK => ?_
  rw [if_pos (by simp [Region.wanted, hg])]
  unfold Oper.still
  rw [hrun, Oper.stillUpon_value]
  exact hK _ k
theorem wpStill_load {P : Program} {ops : Array Oper} {w : World} {Q : Act → Prop} {a : Act} {o : Oper} {rest : List Oper} (hg : o.guard = none) (ty : TypeId) (x : Operand) (ho : o.op = .load ty x) {v y : Value} (hx : a.eval x = y) (hrun : (Instr.loadAt ty y).run P w = .ok v w)
    (k : wpStill P ops w Q rest (a.put o.dst v)) : wpStill P ops w Q (o :: rest) a := by
  refine wpStill_op hg ?_ k
  unfold execOp
  simp only [ho, hx, Sem.run_bind, hrun, Result.andThen_ok, Sem.run_pure]
theorem wpStill_look {P : Program} {ops : Array Oper} {w : World} {Q : Act → Prop} {a : Act} {o : Oper} {rest : List Oper} (hg : o.guard = none) (ty : TypeId) (x y : Operand) (ok : Bool) (ho : o.op = .lookup ty x y ok) {v m k : Value} (hx : a.eval x = m) (hy : a.eval y = k) (hrun : (Instr.lookup ty m k ok).run P w = .ok v w)
    (h : wpStill P ops w Q rest (a.put o.dst v)) : wpStill P ops w Q (o :: rest) a := by
  refine wpStill_op hg ?_ h
  unfold execOp
  simp only [ho, hx, hy, Sem.run_bind, hrun, Result.andThen_ok, Sem.run_pure]
end
end Go.Proofs.Ytdkmjdcddldjgaa
