/-
  StG: What of a store's places and sectors is used: used, taken, shares, Free; over the loaded program: each one's contract. No condition but what each theorem names.
  StC: What becomes of files, plainly: which places and sectors are given, what is let go; that files stay such as may be together. No program, no condition.
-/
import Derived.Test.YteddmnoeljakpaaGreatDoorSw22
import Derived.Test.YteddmnoeljakpaaGreatDoorSw14
import Derived.Test.YteddmnoeljakpaaGreatDoorSw21
set_option linter.unusedVariables false
set_option maxRecDepth 100000
namespace Go.Proofs.YteddmnoeljakpaaGreatDoor
section
open Go.RowKit
def rowB (n : Nat) (f : Nat → Bool) : Array Value := (((List.range n).map f).map Value.bool).toArray
theorem rowB_set {n i : Nat} {f : Nat → Bool} (hi : i < n) : (rowB n f).setIfInBounds i (.bool true) = rowB n fun k => f k || decide (k = i) := by
  unfold rowB
  rw [List.setIfInBounds_toArray, ← List.map_set]
  congr 2
  apply List.ext_getElem
  · simp
  · intro j h1 h2
    simp only [List.getElem_set, List.getElem_map, List.getElem_range]
    by_cases e : i = j
    · subst e; simp
    · rw [if_neg e]
      have : decide (j = i) = false := decide_eq_false fun h => e h.symm
      rw [this, Bool.or_false]
theorem rowB_same {n : Nat} {f g : Nat → Bool} (h : ∀ k, k < n → f k = g k) : rowB n f = rowB n g := by
  unfold rowB
  congr 2
  exact List.map_congr_left fun k hk => h k (List.mem_range.1 hk)
theorem rowB_none (n : Nat) : rowB n (fun _ => false) = ((List.replicate n false).map Value.bool).toArray := by
  unfold rowB
  congr 2
  apply List.ext_getElem
  · simp
  · intro j h1 h2
    simp
theorem rowB_at {n i : Nat} {f : Nat → Bool} (hi : i < n) : (rowB n f)[i]? = some (.bool (f i)) := by
  unfold rowB
  rw [List.getElem?_toArray, List.getElem?_map, List.getElem?_map, List.getElem?_range hi]
  rfl
theorem KB.bo {w : World} {u n : Nat} {t : TypeId} {f : Nat → Bool} (h : KB w u t (rowB n f)) (hn : n ≤ maxLen) : BO w (fun b => b = u) (.slice (some ⟨u, 0, none⟩) n n) ((List.range n).map f) := by
  have hl : ((List.range n).map f).length = n := by simp
  refine ⟨some ⟨u, 0, none⟩, n, by rw [hl], by rw [hl]; exact Nat.le_refl _, hn, fun _ => ⟨u, 0, rfl, rfl, h.lt, fun j z hj => ?_⟩⟩
  rw [Nat.zero_add, h.cell]
  unfold rowB
  rw [List.getElem?_toArray, List.getElem?_map, hj]
  rfl
def usN (nl : List Nd) (k : Nat) : Bool := nl.any fun q => decide ((k : Int) ∈ q.2.at_)
def tkN (nl : List Nd) (k : Nat) : Bool := nl.any fun q => decide (q.1 = k)
def usL (nl : List Nd) (left : List UInt8 → Bool) (k : Nat) : Bool := nl.any fun q => !left q.2.name && decide ((k : Int) ∈ q.2.at_)
def tkL (nl : List Nd) (left : List UInt8 → Bool) (k : Nat) : Bool := nl.any fun q => !left q.2.name && decide (q.1 = k)
theorem any_step {nl : List Nd} (hn : (nl.map (·.2.name)).Nodup) {q : Nd} (hq : q ∈ nl) (left : List UInt8 → Bool) (P : Nd → Bool) :
    (nl.any fun r => !(left r.2.name && !decide (r.2.name = q.2.name)) && P r) = ((nl.any fun r => !left r.2.name && P r) || P q) := by
  rw [Bool.eq_iff_iff, Bool.or_eq_true, List.any_eq_true, List.any_eq_true]
  constructor
  · rintro ⟨r, hr, h⟩
    rw [Bool.and_eq_true] at h
    by_cases e : r.2.name = q.2.name
    · have := nodup_inj (f := fun q : Nd => q.2.name) hn r hr q hq e
      subst this
      exact .inr h.2
    · refine .inl ⟨r, hr, ?_⟩
      simp only [e, decide_false, Bool.not_false, Bool.and_true] at h
      rw [Bool.and_eq_true]
      exact h
  · rintro (⟨r, hr, h⟩ | h)
    · refine ⟨r, hr, ?_⟩
      rw [Bool.and_eq_true] at h ⊢
      refine ⟨?_, h.2⟩
      have := h.1
      simp only [Bool.not_eq_true'] at this ⊢
      rw [this, Bool.false_and]
    · refine ⟨q, hq, ?_⟩
      simp [h]
theorem any_start {nl : List Nd} {left : List UInt8 → Bool} (h : ∀ q ∈ nl, left q.2.name = true) (P : Nd → Bool) : (nl.any fun r => !left r.2.name && P r) = false := by
  rw [List.any_eq_false]
  intro q hq
  rw [h q hq]
  simp
theorem any_end {nl : List Nd} {left : List UInt8 → Bool} (h : ∀ n, left n = false) (P : Nd → Bool) : (nl.any fun r => !left r.2.name && P r) = nl.any P := by
  congr 1
  funext q
  rw [h]
  rfl
theorem usL_start {nl : List Nd} {left : List UInt8 → Bool} (h : ∀ q ∈ nl, left q.2.name = true) (k : Nat) : usL nl left k = false := any_start h _
theorem usL_end {nl : List Nd} {left : List UInt8 → Bool} (h : ∀ n, left n = false) (k : Nat) : usL nl left k = usN nl k := any_end h _
theorem usL_step {nl : List Nd} (hn : (nl.map (·.2.name)).Nodup) {q : Nd} (hq : q ∈ nl) (left : List UInt8 → Bool) (k : Nat) : usL nl (fun j => left j && !decide (j = q.2.name)) k = (usL nl left k || decide ((k : Int) ∈ q.2.at_)) := any_step hn hq left _
theorem tkL_start {nl : List Nd} {left : List UInt8 → Bool} (h : ∀ q ∈ nl, left q.2.name = true) (k : Nat) : tkL nl left k = false := any_start h _
theorem tkL_end {nl : List Nd} {left : List UInt8 → Bool} (h : ∀ n, left n = false) (k : Nat) : tkL nl left k = tkN nl k := any_end h _
theorem tkL_step {nl : List Nd} (hn : (nl.map (·.2.name)).Nodup) {q : Nd} (hq : q ∈ nl) (left : List UInt8 → Bool) (k : Nat) : tkL nl (fun j => left j && !decide (j = q.2.name)) k = (tkL nl left k || decide (q.1 = k)) := any_step hn hq left _
section
variable {w : World} {a : SA} {c : CI} {nl : List Nd} {s : Dk} {br : Bool}
theorem ST.at_in (h : ST w a c nl s br) {q : Nd} (hq : q ∈ nl) {z : Int} (hz : z ∈ q.2.at_) : 0 ≤ z ∧ z < (c.cn.data : Int) := by
  have hf := ((fit_iff _ _).1 (h.fit q hq).2).2.2.2.2
  obtain ⟨⟨_, _, hb⟩, _⟩ := bitsS_yes hf
  have := okB_mem hb hz
  unfold CI.cn
  simp only
  omega
theorem ST.data_nat (h : ST w a c nl s br) : c.data = (c.cn.data : Int) := by
  have := h.may.1.2.2.2.1
  unfold CI.cn
  simp only
  omega
theorem ST.files_nat (h : ST w a c nl s br) : c.files = (c.cn.files : Int) := by
  have := h.may.1.2.1.1
  unfold CI.cn
  simp only
  omega
set_option maxHeartbeats 2000000 in
theorem used_any (h : ST w a c nl s br) : Calls Tryz.prog 69 #[.pointer (some ⟨a.sg, 0, none⟩)] w fun e w' =>
    e = .returned (.slice (some ⟨w.heap.size, 0, none⟩) c.cn.data c.cn.data) ∧ KB w' w.heap.size 4 (rowB c.cn.data (usN nl)) ∧ Below w.heap.size w w' := by
  have c5 := h.c5
  have c6 := h.c6
  rw [h.data_nat] at c5
  have few : c.cn.data ≤ 1024 := by have := h.may.ok.data2; omega
  have hin := fun (q : Nd) (hq : q ∈ nl) (z : Int) (hz : z ∈ q.2.at_) => h.at_in hq hz
  obtain ⟨g, m1, m2, m3, m4⟩ := h.mf
  have hsg := h.kb.lt
  have hmlt := m1.lt
  generalize c.cn.data = D at *
  obtain ⟨C, hC, hmk⟩ := make_bools w D few
  rw [← rowB_none] at hC
  have K0 : KB (w.alloc (.cells C 4)) w.heap.size 4 (rowB D fun _ => false) := by rw [hC]; exact KB.new _ _ _
  clear hC
  have B0 := (Below.refl w.heap.size w).alloc (Nat.le_refl _) (.cells C 4)
  have M0 := m1.below B0
  have c6' : (w.alloc (.cells C 4)).cell? ⟨a.sg, 6, none⟩ = some (.map (some a.m)) := (World.cell?_of_block (w := w) (Below.heap_alloc w _ _ hsg)).trans c6
  go_enter Tryz.func69, Tryz.ntmps69
  go_wp2_with (refine wpList_range_mt rfl (.tmp 17) 80 93 rfl Tryz.underlying80 a.m _ _ rfl M0 ?_; intro w0 cnt0 hr0 g0)
  go_frame
  have K1 := K0.grown g0 (by simp)
  have B1 := B0.grown g0 B0.size (by simp)
  have hsz := B0.size
  have hu1 : w.heap.size < (w.alloc (.cells C 4)).heap.size := by simp
  obtain ⟨r0, er0⟩ : ∃ r, r = (w.alloc (.cells C 4)).heap.size := ⟨_, rfl⟩
  rw [← er0] at hr0 ⊢
  have hur : w.heap.size < r0 := by omega
  have hg0 : ∀ n, (g n).isSome = (lookN nl n).isSome := fun n => by
    cases hl : lookN nl n with
    | none => rw [m3 n hl]; rfl
    | some q => obtain ⟨v, e, _⟩ := m4 n q hl; rw [e]; rfl
  have K1' : KB w0 w.heap.size 4 (rowB D (usL nl fun n => (g n).isSome)) := by
    rw [rowB_same (f := usL nl fun n => (g n).isSome) (g := fun _ => false) fun k _ => usL_start (fun q hq => by rw [hg0, lookN_mem m2 hq]; rfl) k]
    exact K1
  clear K0 K1 B0 M0 c6 c6' hmk er0 hu1 c5
  have HG := Lib.hid hg0
  clear hg0
  go_loopw [5] (fun _ wr => ∃ (left : List UInt8 → Bool) (cnt : Nat), RT wr a.m r0 g nl.length left cnt ∧ KB wr w.heap.size 4 (rowB D (usL nl left)) ∧ Below w.heap.size w wr) (fun _ wr => wr.rangeLeft a.m r0)
  case atStart => exact ⟨_, _, hr0, K1', B1⟩
  case round =>
    obtain ⟨left, cnt, hr, kb, bl⟩ := hrel
    clear K1' B1 hr0 g0
    go_wp2_with (refine wpList_next_mt rfl (.tmp 18) rfl a.m r0 _ _ _ _ rfl hr ?_ ?_)
    · intro hl
      go_wp2_with fail
      go_ret
      refine ⟨rfl, ?_, bl⟩
      rw [rowB_same (g := usN nl) fun k _ => usL_end hl k] at kb
      exact kb
    · intro n v w1 cnt1 hgn hln hr1 hlt1 g1 hs1 hen
      obtain ⟨q, hq⟩ : ∃ q, lookN nl n = some q := by
        cases hl : lookN nl n with
        | none => rw [m3 n hl] at hgn; cases hgn
        | some q => exact ⟨q, rfl⟩
      obtain ⟨v', e', a', rfl, hv, hz, hnm, hpl⟩ := m4 n q hq
      obtain rfl : ndV q.1 q.2 a' = v := Option.some.inj (e'.symm.trans hgn)
      obtain ⟨hqm, hqn⟩ := lookN_some hq
      obtain ⟨A, cp, rfl, hcl, hcm, _⟩ := hv.form
      have kb1 := kb.grown g1 (fun e => by injection e with e; omega)
      have bl1 := bl.grown g1 bl.size (fun g e => by injection e with e; omega)
      have rlt := hr1.lt
      have hv1 : IS w1 (OffS a w) (.slice A q.2.at_.length cp) q.2.at_ := hv.keep bl1.size fun b sb _ => bl1.block b sb.1
      have HQ := Lib.hid (fun z hz => hin q hqm z hz)
      have HL : Hid (∀ k, usL nl (fun j => left j && !decide (j = n)) k = (usL nl left k || decide ((k : Int) ∈ q.2.at_))) := fun k => by rw [← hqn]; exact usL_step m2 hqm left k
      have HLT := Lib.hid hlt1
      have HRL := Lib.hid hr.left_eq
      unfold ndV strV at hen ⊢
      generalize q.2.at_ = L at *
      generalize (⟨q.2.name.toArray⟩ : ByteArray) = qn at *
      generalize q.2.size = qz at *
      generalize ((q.1 : Nat) : Int) = qp at *
      generalize (⟨n.toArray⟩ : ByteArray) = nn at *
      clear hln hlt1 g1 hs1 kb bl hr e' hgn hq hqm hqn hz hnm hpl hv
      have hsz1 := bl1.size
      have kb2 := kb1.alloc (.cells #[.int .i64 qp, .string qn, .int .i64 qz, .slice A L.length cp] 93)
      have hv2 := hv1.alloc (.cells #[.int .i64 qp, .string qn, .int .i64 qz, .slice A L.length cp] 93)
      have hr2 := hr1.kept (World.grownBy_alloc w1 (.cells #[.int .i64 qp, .string qn, .int .i64 qz, .slice A L.length cp] 93) none) (by simp) (by simp)
      have bl2 := bl1.alloc hsz1 (.cells #[.int .i64 qp, .string qn, .int .i64 qz, .slice A L.length cp] 93)
      go_wp2_with fail
      have hL63 : L.length ≤ 9223372036854775807 := by unfold maxLen at hcm; omega
      generalize w1.alloc (.cells #[.int .i64 qp, .string qn, .int .i64 qz, .slice A L.length cp] 93) = w2 at *
      clear hen kb1 hv1 hr1 bl1 hsz1 rlt
      go_loopw [27] (fun iv wr => ∃ j : Nat, j ≤ L.length ∧ iv = .int .i64 j ∧ RT wr a.m r0 g nl.length (fun j => left j && !decide (j = n)) cnt1 ∧ KB wr w.heap.size 4 (rowB D fun k => usL nl left k || decide ((k : Int) ∈ L.take j)) ∧ IS wr (OffS a w) (.slice A L.length cp) L ∧ Below w.heap.size w wr) (fun iv _ => L.length - (intOf iv).toNat)
      case atStart => exact ⟨0, by omega, rfl, hr2, by rw [rowB_same (g := usL nl left) fun k _ => by simp]; exact kb2, hv2, bl2⟩
      case round =>
        obtain ⟨j, hj, rfl, hr3, kb3, hv3, bl3⟩ := hrel
        clear hr2 kb2 hv2 bl2
        by_cases hlt : j < L.length
        · obtain ⟨b, o, rfl, hb1, hb2, hx⟩ := hv3.at_ (by omega)
          have hgj : L[j]? = some L[j] := List.getElem?_eq_getElem hlt
          have hcj := hx j _ hgj
          have hin := HQ.out L[j] (List.getElem_mem hlt)
          have HT : Hid (∀ k : Nat, k < D → ((usL nl left k || decide ((k : Int) ∈ L.take j)) || decide (k = L[j].toNat)) = (usL nl left k || decide ((k : Int) ∈ L.take (j + 1)))) := by
            intro k _
            rw [List.take_succ_eq_append_getElem hlt, Bool.or_assoc]
            congr 1
            rw [Bool.eq_iff_iff, Bool.or_eq_true, decide_eq_true_eq, decide_eq_true_eq, decide_eq_true_eq, List.mem_append, List.mem_singleton]
            constructor
            · rintro (h | h)
              · exact .inl h
              · exact .inr (by omega)
            · rintro (h | h)
              · exact .inl h
              · exact .inr (by omega)
          clear hgj hx
          generalize L[j] = z at *
          obtain ⟨zn, rfl⟩ : ∃ zn : Nat, z = (zn : Int) := ⟨z.toNat, by omega⟩
          rw [Int.toNat_natCast] at HT
          have hzD : zn < D := by omega
          have hzD' : (zn : Int) < (D : Int) := hin.2
          have ct := (kb3.cell zn).trans (rowB_at hzD)
          have ft := kb3.free zn
          generalize (usL nl left zn || decide ((zn : Int) ∈ L.take j)) = bz at ct
          have hk4 := kb3.put zn (.bool true)
          rw [rowB_set hzD, rowB_same HT.out] at hk4
          have g4 := grown_set wr w.heap.size zn (.bool true)
          have hr4 := hr3.kept g4 (fun e => by injection e with e; omega) (fun e => by injection e with e; omega)
          have hv4 := hv3.setCell (p := ⟨w.heap.size, zn, none⟩) (fun h => by have := h.1; simp at this) (.bool true)
          have bl4 := bl3.setCell (p := ⟨w.heap.size, zn, none⟩) (Nat.le_refl _) (.bool true)
          have hltI : (j : Int) < (L.length : Int) := by omega
          clear HT hr3 kb3 hv3 bl3 g4
          go_wp2_with fail
          go_roundw
          case rel => exact ⟨j + 1, by omega, by go_num, hr4, hk4, hv4, bl4⟩
          case measure => simp [intOf]; omega
        · obtain rfl : j = L.length := by omega
          rw [List.take_length, ← rowB_same fun k _ => HL.out k] at kb3
          have hrl := hr3.left_eq
          go_wp2_with fail
          go_roundw
          case rel => exact ⟨_, cnt1, hr3, kb3, bl3⟩
          case measure => rw [hrl, HRL.out]; exact HLT.out
end
end
section
open Go.RowKit
structure Fi where
  name : List UInt8
  b : List UInt8
  gone : Bool
structure Ch where
  to : Fi
  place : Nat
  at_ : List Int
  loses : List Int
def Ch.fe (h : Ch) : Fe := ⟨h.place, h.to.name, h.to.b, h.at_⟩
def giveL (us : List Bool) (n : Nat) : List Int := (pickS us n).1
def markL (us : List Bool) (l : List Int) : List Bool := us.mapIdx fun j u => u || decide ((j : Int) ∈ l)
def freeC (us : List Bool) : Nat := (selK (freeF us) us.length).length
def isFree (us : List Bool) (z : Int) : Prop := 0 ≤ z ∧ z < (us.length : Int) ∧ us.getD z.toNat true = false
theorem markL_len (us : List Bool) (l : List Int) : (markL us l).length = us.length := by simp [markL]
theorem markL_at (us : List Bool) (l : List Int) (j : Nat) (hj : j < us.length) : (markL us l).getD j true = (us.getD j true || decide ((j : Int) ∈ l)) := by
  unfold markL
  rw [List.getD_eq_getElem?_getD, List.getElem?_mapIdx, List.getD_eq_getElem?_getD, List.getElem?_eq_getElem hj]
  rfl
theorem markL_nil (us : List Bool) : markL us [] = us := by
  apply List.ext_getElem?
  intro i
  simp [markL, List.getElem?_mapIdx]
theorem isFree_mark {us : List Bool} {l : List Int} {z : Int} : isFree (markL us l) z ↔ isFree us z ∧ z ∉ l := by
  unfold isFree
  rw [markL_len]
  constructor
  · rintro ⟨h1, h2, h3⟩
    rw [markL_at _ _ _ (by omega)] at h3
    simp only [Bool.or_eq_false_iff, decide_eq_false_iff_not] at h3
    refine ⟨⟨h1, h2, h3.1⟩, ?_⟩
    have := h3.2
    rwa [show ((z.toNat : Nat) : Int) = z by omega] at this
  · rintro ⟨⟨h1, h2, h3⟩, h4⟩
    refine ⟨h1, h2, ?_⟩
    rw [markL_at _ _ _ (by omega), h3, show ((z.toNat : Nat) : Int) = z by omega, decide_eq_false h4]
    rfl
theorem mem_free {us : List Bool} {j : Nat} : j ∈ selK (freeF us) us.length ↔ isFree us (j : Int) := by
  rw [mem_selK]
  unfold isFree freeF
  rw [Int.toNat_natCast]
  constructor
  · rintro ⟨h1, h2⟩
    exact ⟨by omega, by omega, by simpa using h2⟩
  · rintro ⟨_, h2, h3⟩
    exact ⟨by omega, by rw [h3]; rfl⟩
theorem giveL_is {us : List Bool} {n : Nat} (h : n ≤ freeC us) : giveL us n = ofN ((selK (freeF us) us.length).take n) ∧ (pickS us n).2 = true := by
  unfold giveL pickS
  rw [if_neg (by unfold freeC at h; omega), Int.toNat_natCast]
  exact ⟨rfl, rfl⟩
theorem giveL_free {us : List Bool} {n : Nat} {z : Int} (hz : z ∈ giveL us n) : isFree us z := by
  unfold giveL pickS at hz
  split at hz
  · cases hz
  · unfold ofN at hz
    obtain ⟨j, hj, rfl⟩ := List.mem_map.1 hz
    exact mem_free.1 (List.mem_of_mem_take hj)
theorem giveL_len {us : List Bool} {n : Nat} (h : n ≤ freeC us) : (giveL us n).length = n := by
  rw [(giveL_is h).1, ofN_length, List.length_take]
  unfold freeC at h
  omega
theorem giveL_rise (us : List Bool) (n : Nat) : (giveL us n).Pairwise (· < ·) := by
  unfold giveL pickS
  split
  · exact List.Pairwise.nil
  · refine List.pairwise_map.2 (List.Pairwise.imp (fun {a b} h => by omega) (List.Pairwise.sublist (List.take_sublist _ _) (selK_pair _ _)))
theorem free_mark {us : List Bool} {n : Nat} (h : n ≤ freeC us) : freeC (markL us (giveL us n)) = freeC us - n := by
  have h1 : (selK (freeF (markL us (giveL us n))) us.length).Perm ((selK (freeF us) us.length).drop n) := by
    refine (List.perm_ext_iff_of_nodup ?_ ?_).2 fun j => ?_
    · exact (selK_pair _ _).imp fun h => by omega
    · exact (List.Pairwise.sublist (List.drop_sublist _ _) (selK_pair _ _)).imp fun h => by omega
    · have e : j ∈ selK (freeF (markL us (giveL us n))) us.length ↔ isFree (markL us (giveL us n)) (j : Int) := by
        rw [← mem_free, markL_len]
      rw [e, isFree_mark, ← mem_free, (giveL_is h).1]
      have hd := (selK_pair (freeF us) us.length).imp (S := fun a b => a ≠ b) fun h => by omega
      rw [← List.take_append_drop n (selK (freeF us) us.length), List.pairwise_append] at hd
      have hm : j ∈ selK (freeF us) us.length ↔ j ∈ (selK (freeF us) us.length).take n ∨ j ∈ (selK (freeF us) us.length).drop n := by
        rw [← List.mem_append, List.take_append_drop]
      have hz : (j : Int) ∈ ofN ((selK (freeF us) us.length).take n) ↔ j ∈ (selK (freeF us) us.length).take n := by
        unfold ofN
        rw [List.mem_map]
        constructor
        · rintro ⟨a, ha, e⟩
          obtain rfl : a = j := by omega
          exact ha
        · intro ha; exact ⟨j, ha, rfl⟩
      rw [hz]
      constructor
      · rintro ⟨h1, h2⟩
        exact (hm.1 h1).resolve_left h2
      · intro h2
        exact ⟨hm.2 (.inr h2), fun h1 => hd.2.2 j h1 j h2 rfl⟩
  unfold freeC
  rw [markL_len, h1.length_eq, List.length_drop]
abbrev MapF := List UInt8 → Option (Nat × List Int)
def hadM (m : MapF) (n : List UInt8) : List Int := ((m n).map (·.2)).getD []
def keepN (m : MapF) (f : Fi) : Nat := min (hadM m f.name).length (pagesN f.b.length)
def placeM (m : MapF) (tk : List Bool) (n : List UInt8) : Nat := match m n with | some x => x.1 | none => ((giveL tk 1).headD 0).toNat
def takeM (m : MapF) (tk : List Bool) (n : List UInt8) : List Bool := match m n with | some _ => tk | none => markL tk (giveL tk 1)
def sortI (l : List Int) : List Int := l.mergeSort fun x y => decide (x ≤ y)
def newM (m : MapF) (us : List Bool) (f : Fi) : List Int := giveL us (pagesN f.b.length - keepN m f)
def chM (m : MapF) (tk us : List Bool) (f : Fi) : Ch :=
  ⟨f, placeM m tk f.name, sortI ((hadM m f.name).take (keepN m f) ++ newM m us f), (hadM m f.name).drop (keepN m f)⟩
def chsM (m : MapF) : List Bool → List Bool → List Fi → List Ch
  | _, _, [] => []
  | tk, us, f :: r => chM m tk us f :: chsM m (takeM m tk f.name) (markL us (newM m us f)) r
def freshC (m : MapF) (l : List Fi) : Nat := l.countP fun f => (m f.name).isNone
def growC (m : MapF) (l : List Fi) : Nat := (l.map fun f => pagesN f.b.length - (hadM m f.name).length).sum
def costC (m : MapF) (l : List Fi) : Nat := (l.map fun f => 1 + max (hadM m f.name).length (pagesN f.b.length)).sum
theorem chsM_to (m : MapF) : ∀ (l : List Fi) (tk us : List Bool), (chsM m tk us l).map (·.to) = l
  | [], _, _ => rfl
  | f :: r, tk, us => by
    unfold chsM
    rw [List.map_cons, chsM_to m r]
    rfl
theorem keep_new (m : MapF) (f : Fi) : pagesN f.b.length - keepN m f = pagesN f.b.length - (hadM m f.name).length := by
  unfold keepN
  omega
structure Gets (m : MapF) (tk us : List Bool) (h : Ch) : Prop where
  place : (∃ x, m h.to.name = some x ∧ h.place = x.1) ∨ (m h.to.name = none ∧ isFree tk h.place)
  at_ : ∃ g : List Int, h.at_ = sortI ((hadM m h.to.name).take (keepN m h.to) ++ g) ∧ g.length = pagesN h.to.b.length - keepN m h.to ∧ g.Pairwise (· < ·) ∧ ∀ z ∈ g, isFree us z
  loses : h.loses = (hadM m h.to.name).drop (keepN m h.to)
def Apart13 (m : MapF) (us : List Bool) (h k : Ch) : Prop :=
  (m h.to.name = none → m k.to.name = none → h.place ≠ k.place) ∧ ∀ z, isFree us z → z ∈ h.at_ → z ∉ k.at_
theorem mem_sortI {l : List Int} {z : Int} : z ∈ sortI l ↔ z ∈ l := (List.mergeSort_perm l _).mem_iff
theorem sortI_len (l : List Int) : (sortI l).length = l.length := (List.mergeSort_perm l _).length_eq
theorem Gets.mono {m : MapF} {tk tk' us us' : List Bool} {h : Ch} (g : Gets m tk us h) (ht : ∀ z, isFree tk z → isFree tk' z) (hu : ∀ z, isFree us z → isFree us' z) : Gets m tk' us' h := by
  refine ⟨?_, ?_, g.loses⟩
  · rcases g.place with h | ⟨h1, h2⟩
    · exact .inl h
    · exact .inr ⟨h1, ht _ h2⟩
  · obtain ⟨l, e, e2, e3, e4⟩ := g.at_
    exact ⟨l, e, e2, e3, fun z hz => hu z (e4 z hz)⟩
theorem chM_gets {m : MapF} {tk us : List Bool} {f : Fi} (h1 : freshC m [f] ≤ freeC tk) (h2 : growC m [f] ≤ freeC us) : Gets m tk us (chM m tk us f) := by
  have hg : pagesN f.b.length - keepN m f ≤ freeC us := by
    rw [keep_new]
    simpa [growC] using h2
  refine ⟨?_, ⟨newM m us f, rfl, giveL_len hg, giveL_rise _ _, fun z hz => giveL_free hz⟩, rfl⟩
  show (∃ x, m f.name = some x ∧ placeM m tk f.name = x.1) ∨ (m f.name = none ∧ isFree tk (placeM m tk f.name))
  unfold placeM
  cases hm : m f.name with
  | some x => exact .inl ⟨x, rfl, rfl⟩
  | none =>
    have h3 : 1 ≤ freeC tk := by simpa [freshC, hm] using h1
    have hl := giveL_len h3
    match hq : giveL tk 1, hl with
    | [z], _ =>
      have hz : isFree tk z := giveL_free (n := 1) (by rw [hq]; simp)
      refine .inr ⟨rfl, ?_⟩
      show isFree tk ((z.toNat : Nat) : Int)
      have := hz.1
      rwa [show ((z.toNat : Nat) : Int) = z by omega]
theorem chsM_gets (m : MapF) : ∀ (l : List Fi) (tk us : List Bool), freshC m l ≤ freeC tk → growC m l ≤ freeC us → (∀ n z, z ∈ hadM m n → ¬ isFree us z) →
    (∀ h ∈ chsM m tk us l, Gets m tk us h) ∧ (chsM m tk us l).Pairwise (Apart13 m us)
  | [], _, _, _, _, _ => ⟨fun h hh => (by cases hh), List.Pairwise.nil⟩
  | f :: r, tk, us, h1, h2, h3 => by
    have f1 : freshC m [f] + freshC m r = freshC m (f :: r) := by
      unfold freshC
      rw [← List.countP_append]
      rfl
    have g1 : growC m [f] + growC m r = growC m (f :: r) := by simp [growC]
    have hf := chM_gets (m := m) (tk := tk) (us := us) (f := f) (by omega) (by omega)
    have hn : pagesN f.b.length - keepN m f = growC m [f] := by rw [keep_new]; simp [growC]
    have hu' : growC m r ≤ freeC (markL us (newM m us f)) := by
      unfold newM
      rw [free_mark (by omega)]
      omega
    have ht' : freshC m r ≤ freeC (takeM m tk f.name) := by
      unfold takeM
      cases hm : m f.name with
      | some x => exact Nat.le_trans (by omega) h1
      | none =>
        have : freshC m [f] = 1 := by simp [freshC, hm]
        show freshC m r ≤ freeC (markL tk (giveL tk 1))
        rw [free_mark (by omega)]
        omega
    have htf : ∀ z, isFree (takeM m tk f.name) z → isFree tk z := by
      intro z hz
      unfold takeM at hz
      split at hz
      · exact hz
      · exact (isFree_mark.1 hz).1
    have huf : ∀ z, isFree (markL us (newM m us f)) z → isFree us z := fun z hz => (isFree_mark.1 hz).1
    obtain ⟨i1, i2⟩ := chsM_gets m r (takeM m tk f.name) (markL us (newM m us f)) ht' hu' fun n z hz hfz => h3 n z hz (huf z hfz)
    unfold chsM
    refine ⟨fun h hh => ?_, List.pairwise_cons.2 ⟨fun k hk => ?_, i2.imp_of_mem fun {h k} hh hk ha => ⟨ha.1, fun z hz hzh hzk => ?_⟩⟩⟩
    · rcases List.mem_cons.1 hh with rfl | hh
      · exact hf
      · exact (i1 h hh).mono htf huf
    · have gk := i1 k hk
      refine ⟨fun hm1 hm2 e => ?_, fun z hz hzf hzk => ?_⟩
      · rcases gk.place with ⟨x, hx, _⟩ | ⟨_, hfree⟩
        · rw [hm2] at hx; cases hx
        · rcases hf.place with ⟨x, hx, _⟩ | ⟨_, _⟩
          · rw [show m (chM m tk us f).to.name = none from hm1] at hx; cases hx
          · have hm1' : m f.name = none := hm1
            unfold takeM at hfree
            rw [hm1'] at hfree
            have hno := (isFree_mark.1 hfree).2
            rw [← e] at hno
            have hp : (chM m tk us f).place = ((giveL tk 1).headD 0).toNat := by
              show placeM m tk f.name = _
              unfold placeM
              rw [hm1']
            have h3 : 1 ≤ freeC tk := by
              have : freshC m [f] = 1 := by simp [freshC, hm1']
              omega
            have hl := giveL_len h3
            rw [hp] at hno
            match hq : giveL tk 1, hl with
            | [y], _ =>
              rw [hq] at hno
              have hy : isFree tk y := giveL_free (n := 1) (by rw [hq]; simp)
              have := hy.1
              apply hno
              show ((y.toNat : Nat) : Int) ∈ [y]
              rw [show ((y.toNat : Nat) : Int) = y by omega]
              simp
      · have hzn : z ∈ newM m us f := by
          have : z ∈ sortI ((hadM m f.name).take (keepN m f) ++ newM m us f) := hzf
          rw [mem_sortI, List.mem_append] at this
          rcases this with h | h
          · exact absurd hz (h3 _ z (List.mem_of_mem_take h))
          · exact h
        obtain ⟨g, e, _, _, e4⟩ := gk.at_
        rw [e, mem_sortI, List.mem_append] at hzk
        rcases hzk with h | h
        · exact h3 _ z (List.mem_of_mem_take h) hz
        · exact (isFree_mark.1 (e4 z h)).2 hzn
    · by_cases hq : isFree (markL us (newM m us f)) z
      · exact ha.2 z hq hzh hzk
      · -- z was given to f: neither h nor k has it
        obtain ⟨g, e, _, _, e4⟩ := (i1 h hh).at_
        rw [e, mem_sortI, List.mem_append] at hzh
        rcases hzh with h' | h'
        · exact h3 _ z (List.mem_of_mem_take h') hz
        · exact hq (e4 z h')
end
end Go.Proofs.YteddmnoeljakpaaGreatDoor
