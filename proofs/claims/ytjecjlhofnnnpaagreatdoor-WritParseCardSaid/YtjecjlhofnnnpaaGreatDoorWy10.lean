/-
  Ix1: strings.Index of one byte, over the loaded program: its contract. No condition.
  WtE: A text's words (layer 21): the document's Words, over the loaded program: its contract. No condition but the size that it names.
  WvC: strings.Cut and strings.Split at one byte, over the loaded program: each one's contract. No condition but the sizes that each contract names.
  InA: strings.ContainsRune at the three signs that a name may have beside letters and digits; what strings.ContainsFunc tells of a text (layer 12), over the loaded program. No condition but that a rune is one (0 to 1114111).
  InB: Which names may be: the program's Name (layer 12), over the loaded program. No condition.
-/
import Derived.Test.YtjecjlhofnnnpaaGreatDoorLayS
import Derived.Test.YtjecjlhofnnnpaaGreatDoorWy01
import Derived.Test.YtjecjlhofnnnpaaGreatDoorWy05
import Derived.Test.YtjecjlhofnnnpaaGreatDoorWy06
import Derived.Test.YtjecjlhofnnnpaaGreatDoorWy04
import Derived.Test.YtjecjlhofnnnpaaGreatDoorWy07
import Derived.Test.YtjecjlhofnnnpaaGreatDoorLayC
import Derived.BigQuiet
import Derived.Shelf.Strings.SplitCore
import Derived.Shelf.Strings.Count
import Derived.Test.YtjecjlhofnnnpaaGreatDoorWy03
import Derived.Laws.Runes
import Derived.Laws.RangeString
import Derived.Laws.Strings3
import Derived.Lib.OthersKept
import Derived.WalkMore
set_option linter.unusedVariables false
set_option maxRecDepth 100000
namespace Go.Proofs.YtjecjlhofnnnpaaGreatDoor
section
open Go.RowKit
theorem indexin_any (l : List UInt8) (c : UInt8) (w : World) :
    Calls Tryz.prog 75 #[strV l, .int .u8 (c.toNat : Int)] w fun e w' => e = .returned (.int .i64 (Lib.indexByte l c)) ∧ w' = w := by
  have h := Any.stringslite_IndexByte Tryz.laysIndexByteIn ⟨l.toArray⟩ (c.toNat : Int) w
  have e : (c.toNat : Int).toNat.toUInt8 = c := by simp
  rw [e] at h
  exact h
theorem one_str (c : UInt8) : (⟨[c].toArray⟩ : ByteArray).size = 1 := rfl
theorem index_in (l : List UInt8) (c : UInt8) (w : World) :
    Calls Tryz.prog 58 #[strV l, strV [c]] w fun e w' => e = .returned (.int .i64 (Lib.indexByte l c)) ∧ w' = w := by
  have hi := indexin_any l c
  have hx := txt_at [c] 0 c rfl
  have hz : ((⟨[c].toArray⟩ : ByteArray).size : Int) = 1 := rfl
  by_cases hlc : l = [c]
  · subst hlc
    have hk : Lib.indexByte [c] c = 0 := by simp [Lib.indexByte]
    have heq : ((⟨[c].toArray⟩ : ByteArray).toList == (⟨[c].toArray⟩ : ByteArray).toList) = true := by simp
    rw [hk]
    unfold strV at *
    generalize (⟨[c].toArray⟩ : ByteArray) = t at *
    clear hi hx hk
    go_enter Tryz.func58, Tryz.ntmps58
    go_wp2
    go_ret
    exact ⟨rfl, rfl⟩
  · have heq := str_eq [c] l
    rw [decide_eq_false (fun h => hlc h.symm)] at heq
    have h0 : ∀ h : 0 < (⟨[c].toArray⟩ : ByteArray).size, (⟨[c].toArray⟩ : ByteArray)[0]'h = c := fun _ => rfl
    unfold strV at *
    generalize (⟨l.toArray⟩ : ByteArray) = s at *
    generalize (⟨[c].toArray⟩ : ByteArray) = t at *
    generalize Lib.indexByte l c = k at *
    clear hx
    have H0 := Lib.hid h0
    clear h0
    go_enter Tryz.func58, Tryz.ntmps58
    go_wp2_with (go_at_call 75; simp only [H0.out]; refine (hi _).mono ?_; rintro e w' ⟨rfl, rfl⟩)
    go_ret
    exact ⟨rfl, rfl⟩
theorem index_out (l : List UInt8) (c : UInt8) (w : World) :
    Calls Tryz.prog 47 #[strV l, strV [c]] w fun e w' => e = .returned (.int .i64 (Lib.indexByte l c)) ∧ w' = w := by
  have hi := index_in l c
  unfold strV at *
  generalize (⟨l.toArray⟩ : ByteArray) = s at *
  generalize (⟨[c].toArray⟩ : ByteArray) = t at *
  generalize Lib.indexByte l c = k at *
  go_enter Tryz.func47, Tryz.ntmps47
  go_wp2_with (go_at_call 58; refine (hi _).mono ?_; rintro e w' ⟨rfl, rfl⟩)
  go_ret
  exact ⟨rfl, rfl⟩
end
section
open Go.RowKit
def WI (l : List UInt8) (k b : Nat) (out : List Wv) : Prop :=
  (k ≤ l.length ∧ b ≤ k ∧ out ++ wordsW (l.drop b) = wordsW l ∧ (32 : UInt8) ∉ (l.drop b).take (k - b)) ∨ (k = l.length + 1 ∧ out = wordsW l)
def curW (l : List UInt8) (k b : Nat) : Wv := (l.drop b).take (k - b)
theorem WI.start (l : List UInt8) : WI l 0 0 [] := .inl ⟨Nat.zero_le _, Nat.le_refl _, rfl, by simp⟩
theorem WI.le {l : List UInt8} {k b : Nat} {out : List Wv} (h : WI l k b out) (hk : k ≤ l.length) : b ≤ k := by
  rcases h with h | h
  · exact h.2.1
  · omega
theorem WI.more {l : List UInt8} {k b : Nat} {out : List Wv} (h : WI l k b out) {y : UInt8} (hy : l[k]? = some y) (hn : y.toNat ≠ 32) : WI l (k + 1) b out := by
  have hk : k < l.length := (List.getElem?_eq_some_iff.1 hy).1
  rcases h with ⟨_, h2, h3, h4⟩ | ⟨h, _⟩
  · refine .inl ⟨by omega, by omega, h3, ?_⟩
    have hy' : (l.drop b)[k - b]? = some y := by rw [List.getElem?_drop, show b + (k - b) = k from by omega]; exact hy
    rw [show k + 1 - b = (k - b) + 1 from by omega, List.take_add_one, hy', List.mem_append]
    rintro (hm | hm)
    · exact h4 hm
    · simp at hm
      exact hn (by rw [← hm]; rfl)
  · omega
theorem WI.cut {l : List UInt8} {k b : Nat} {out : List Wv} (h : WI l k b out) {y : UInt8} (hy : l[k]? = some y) (hn : y.toNat = 32) : WI l (k + 1) (k + 1) (out ++ [curW l k b]) := by
  have hk : k < l.length := (List.getElem?_eq_some_iff.1 hy).1
  have hy32 : y = 32 := UInt8.toNat.inj (by rw [hn]; rfl)
  rcases h with ⟨_, h2, h3, h4⟩ | ⟨h, _⟩
  · refine .inl ⟨by omega, Nat.le_refl _, ?_, by simp⟩
    have hd : l.drop b = (l.drop b).take (k - b) ++ 32 :: l.drop (k + 1) := by
      have h5 : (l.drop b).drop (k - b) = 32 :: l.drop (k + 1) := by
        rw [List.drop_drop, show b + (k - b) = k from by omega, List.drop_eq_getElem_cons hk]
        rw [List.getElem?_eq_getElem hk] at hy
        injection hy with hy
        rw [hy, hy32]
      rw [← h5, List.take_append_drop]
    rw [← h3, hd, words_more _ _ h4, List.append_assoc]
    rfl
  · omega
theorem WI.last {l : List UInt8} {k b : Nat} {out : List Wv} (h : WI l k b out) (hk : k = l.length) : WI l (k + 1) (k + 1) (out ++ [curW l k b]) := by
  rcases h with ⟨_, h2, h3, h4⟩ | ⟨h, _⟩
  · refine .inr ⟨by omega, ?_⟩
    have hd : (l.drop b).take (k - b) = l.drop b := List.take_of_length_le (by simp; omega)
    unfold curW
    rw [hd] at h4 ⊢
    rw [← h3, wwords_one _ h4]
  · omega
theorem WI.done {l : List UInt8} {k b : Nat} {out : List Wv} (h : WI l k b out) (hk : ¬ k ≤ l.length) : out = wordsW l := by
  rcases h with ⟨h, _⟩ | ⟨_, h⟩
  · exact absurd h hk
  · exact h
def WordsAs (w : World) (ws : List Wv) (e : Ending) (w' : World) : Prop :=
  ∃ v, e = .returned v ∧ w'.ownsRow w.heap.size 9 1 v ws.length (ws.map strV) ∧ Below w.heap.size w w'
set_option maxHeartbeats 4000000 in
theorem wwords_any (l : List UInt8) (hl : l.length ≤ 1000) (w : World) :
    Calls Tryz.prog 20 #[strV l] w (WordsAs w (wordsW l)) := by
  have hs : ((⟨l.toArray⟩ : ByteArray).size : Int) = (l.length : Int) := rfl
  obtain ⟨r, hr⟩ : ∃ r, r = wordsW l := ⟨_, rfl⟩
  rw [← hr]
  have HR := Lib.hid hr
  have HAT := Lib.hid (txt_at l)
  have HMD := Lib.hid (txt_mid l .i64 .i64)
  unfold strV
  obtain ⟨s, hse⟩ : ∃ s : ByteArray, s = ⟨l.toArray⟩ := ⟨_, rfl⟩
  rw [← hse] at hs HAT HMD ⊢
  have hown : w.ownsRow w.heap.size 9 1 (.slice none 0 0) ([] : List Wv).length (([] : List Wv).map strV) := World.ownsRow_nil _ _ _ _
  clear hse hr
  go_enter Tryz.func20, Tryz.ntmps20
  go_wp2
  go_loopw [3, 4, 5] (fun v bv iv wr => ∃ (k b : Nat) (out : List Wv), k ≤ l.length + 1 ∧ bv = .int .i64 b ∧ iv = .int .i64 k ∧ b ≤ k ∧ out.length ≤ k ∧ Hid (WI l k b out) ∧ wr.ownsRow w.heap.size 9 1 v out.length (out.map strV) ∧ Below w.heap.size w wr) (fun _ _ iv _ => l.length + 1 - (intOf iv).toNat)
  case atStart => exact ⟨0, 0, [], by omega, rfl, rfl, by omega, by simp, WI.start l, hown, Below.refl _ _⟩
  case round =>
    clear hown
    obtain ⟨k, b, out, hk, rfl, rfl, hbk, hol, hwi, how, bl⟩ := hrel
    by_cases hend : k ≤ l.length
    · have D0 : decide ((k : Int) ≤ (l.length : Int)) = true := decide_eq_true (by omega)
      have hcase : (k < l.length ∧ ∃ y : UInt8, l[k]? = some y ∧ y.toNat ≠ 32) ∨ (WI l (k + 1) (k + 1) (out ++ [curW l k b]) ∧ (k = l.length ∨ (k < l.length ∧ ∃ y : UInt8, l[k]? = some y ∧ y.toNat = 32))) := by
        by_cases e : k = l.length
        · exact .inr ⟨hwi.out.last e, .inl e⟩
        · obtain ⟨y, hy⟩ : ∃ y, l[k]? = some y := ⟨_, List.getElem?_eq_getElem (by omega)⟩
          by_cases e2 : y.toNat = 32
          · exact .inr ⟨hwi.out.cut hy e2, .inr ⟨by omega, y, hy, e2⟩⟩
          · exact .inl ⟨by omega, y, hy, e2⟩
      rcases hcase with ⟨hlt, y, hy, hn⟩ | ⟨hw2, hq⟩
      · have hiy := HAT.out k y hy
        have hyl := y.toNat_lt
        have HW : Hid (WI l (k + 1) b out) := hwi.out.more hy hn
        generalize y.toNat = d at hiy hyl hn
        have D1 : ((k : Int) == (l.length : Int)) = false := by simp; omega
        clear hy HAT HMD hwi HR
        go_wp2
        go_roundw
        case rel => exact ⟨k + 1, b, out, by omega, rfl, by go_num, by omega, by omega, HW, how, bl⟩
        case measure => simp [intOf]; omega
      · have HW : Hid (WI l (k + 1) (k + 1) (out ++ [curW l k b])) := hw2
        have hmid := HMD.out b k hbk hend
        obtain ⟨x, hxe⟩ : ∃ x, x = curW l k b := ⟨_, rfl⟩
        have hmx : (⟨((l.drop b).take (k - b)).toArray⟩ : ByteArray) = ⟨x.toArray⟩ := by rw [hxe]; rfl
        rw [hmx] at hmid
        rw [← hxe] at HW
        obtain ⟨t, ht⟩ : ∃ t : ByteArray, t = ⟨x.toArray⟩ := ⟨_, rfl⟩
        rw [← ht] at hmid
        have kx : (wr.alloc (.cells #[.string t] 9)).cell? ⟨wr.heap.size, 0, none⟩ = some (strV x) := by rw [ht]; exact (KB.new wr 9 #[strV x]).cell 0
        have hs1 := bl.size
        have B1 := (Below.refl wr.heap.size wr).alloc (Nat.le_refl _) (.cells #[.string t] 9)
        have how1 := own_past B1 how
        have bl1 := bl.alloc hs1 (.cells #[.string t] 9)
        have hs2 := bl1.size
        have hol2 : out.length ≤ 1000000000 := by omega
        obtain ⟨A1, c1, hv1, _⟩ := (CS.of_own how).form
        have hl2 : (out ++ [x]).length ≤ k + 1 := by simp; omega
        clear hwi hw2 HMD hxe hmx ht how bl B1 HR
        rcases hq with e | ⟨hlt, y, hy, hn⟩
        · subst e
          clear HAT
          go_wp2_with (at_builtin; refine wpList_growW _ rfl _ _ rfl w.heap.size _ out rfl how1 ⟨wr.heap.size, 0, none⟩ 1 x rfl kx hol2 hs2 ?_; intro v3 w3 how3 g3 ho3)
          go_roundw
          case rel => exact ⟨l.length + 1, l.length + 1, _, by omega, by go_num, by go_num, by omega, hl2, HW, how3, bl1.grown g3 hs2 fun g e => own_ge how1 g e⟩
          case measure => simp [intOf]
        · have hiy := HAT.out k y hy
          rw [hn] at hiy
          have D1 : ((k : Int) == (l.length : Int)) = false := by simp; omega
          clear HAT hy hn
          go_wp2_with (at_builtin; refine wpList_growW _ rfl _ _ rfl w.heap.size _ out rfl how1 ⟨wr.heap.size, 0, none⟩ 1 x rfl kx hol2 hs2 ?_; intro v3 w3 how3 g3 ho3)
          go_roundw
          case rel => exact ⟨k + 1, k + 1, _, by omega, by go_num, by go_num, by omega, hl2, HW, how3, bl1.grown g3 hs2 fun g e => own_ge how1 g e⟩
          case measure => simp [intOf]; omega
    · have D0 : decide ((k : Int) ≤ (l.length : Int)) = false := decide_eq_false (by omega)
      have e : out = r := by rw [HR.out]; exact hwi.out.done hend
      subst e
      clear HR hwi HAT HMD
      go_wp2
      go_ret
      exact ⟨_, rfl, how, bl⟩
end
section
open Go.RowKit
def cutB (l : Wv) : Wv × Wv × Bool := match cutW l with
  | some p => (p.1, p.2, true)
  | none => (l, [], false)
theorem cutB_byte (l : Wv) : (Lib.indexByte l 45 = -1 ∧ cutB l = (l, [], false)) ∨ ∃ j : Nat, j < l.length ∧ Lib.indexByte l 45 = j ∧ cutB l = (l.take j, l.drop (j + 1), true) := by
  rcases cut_take l with ⟨h1, h2⟩ | ⟨j, h1, h2, h3, h4⟩
  · refine .inl ⟨?_, by unfold cutB; rw [h1]⟩
    have hge := Lib.indexByte_ge l 45
    rcases Int.lt_or_le (Lib.indexByte l 45) 0 with h | h
    · omega
    · obtain ⟨i, hi⟩ := Int.eq_ofNat_of_zero_le h
      have := (Lib.indexByte_some hi).1
      exact absurd (List.mem_of_getElem? this) h2
  · refine .inr ⟨j, h1, ?_, by unfold cutB; rw [h4]⟩
    have hge := Lib.indexByte_ge l 45
    rcases Int.lt_or_le (Lib.indexByte l 45) 0 with h | h
    · have e : Lib.indexByte l 45 = -1 := by omega
      exact absurd h2 (Lib.indexByte_none e j)
    · obtain ⟨i, hi⟩ := Int.eq_ofNat_of_zero_le h
      obtain ⟨k1, k2⟩ := Lib.indexByte_some hi
      rcases Nat.lt_trichotomy i j with hij | hij | hij
      · refine absurd ?_ h3
        have : (l.take j)[i]? = some 45 := by rw [List.getElem?_take, if_pos hij]; exact k1
        exact List.mem_of_getElem? this
      · omega
      · exact absurd h2 (k2 j hij)
set_option maxHeartbeats 4000000 in
theorem cutin_any (l : Wv) (hl : l.length ≤ 1000) (w : World) :
    Calls Tryz.prog 92 #[strV l, strV [45]] w fun e w' => e = .returned (.tuple #[strV (cutB l).1, strV (cutB l).2.1, .bool (cutB l).2.2]) ∧ Below w.heap.size w w' := by
  have hi := index_in l 45
  have h1 : ((⟨[(45 : UInt8)].toArray⟩ : ByteArray).size : Int) = 1 := rfl
  rcases cutB_byte l with ⟨e1, e2⟩ | ⟨j, hj, e1, e2⟩
  · rw [e2]
    rw [e1] at hi
    show Calls _ _ _ _ fun e w' => e = .returned (.tuple #[strV l, .string ⟨#[]⟩, .bool false]) ∧ Below w.heap.size w w'
    unfold strV at *
    generalize (⟨l.toArray⟩ : ByteArray) = s at *
    generalize (⟨[(45 : UInt8)].toArray⟩ : ByteArray) = t at *
    clear e1 e2
    go_enter Tryz.func92, Tryz.ntmps92
    go_wp2_with (go_at_call 58; refine (hi _).mono ?_; rintro e w' ⟨rfl, rfl⟩)
    go_ret3
    exact ⟨rfl, Below.refl _ _⟩
  · rw [e2]
    rw [e1] at hi
    have ht := txt_to l j (Nat.le_of_lt hj)
    have hf : ∀ W : World, (Instr.slice 9 (.string ⟨l.toArray⟩) (some (.int .i64 ((j : Int) + 1))) none none).run Tryz.prog W = .ok (.string ⟨(l.drop (j + 1)).toArray⟩) W := fun W => by
      rw [run_slice_string_from_if W 9 ⟨l.toArray⟩ .i64 ((j : Int) + 1) Tryz.underlying9, if_pos ⟨by omega, by rw [str_size]; omega⟩, show ((j : Int) + 1).toNat = j + 1 by omega, ByteArray.extract_mk]
      have : ((l.drop (j + 1)).take (l.length - (j + 1))) = l.drop (j + 1) := List.take_of_length_le (by simp)
      simp [str_size, this]
    have hwr : IntKind.i64.wrap ((j : Int) + 1) = (j : Int) + 1 := by rw [IntKind.wrap_i64]; omega
    show Calls _ _ _ _ fun e w' => e = .returned (.tuple #[strV (l.take j), strV (l.drop (j + 1)), .bool true]) ∧ Below w.heap.size w w'
    unfold strV at *
    generalize (⟨(l.drop (j + 1)).toArray⟩ : ByteArray) = v at *
    generalize (⟨(l.take j).toArray⟩ : ByteArray) = u at *
    generalize (⟨l.toArray⟩ : ByteArray) = s at *
    generalize (⟨[(45 : UInt8)].toArray⟩ : ByteArray) = t at *
    have hk0 : (0 : Int) ≤ (j : Int) := by omega
    generalize (j : Int) = k at *
    clear hj e1 e2
    have mixed : Tryz.prog.follows .mixedOrders = true := by kernel_rfl
    go_enter Tryz.func92, Tryz.ntmps92
    go_wp2_with (go_at_call 58; refine (hi _).mono ?_; rintro e w' ⟨rfl, rfl⟩)
    go_region_o
    go_wp2
    go_ret3
    exact ⟨rfl, Below_drawn (Below.refl _ _) _⟩
theorem cutout_any (l : Wv) (hl : l.length ≤ 1000) (w : World) :
    Calls Tryz.prog 80 #[strV l, strV [45]] w fun e w' => e = .returned (.tuple #[strV (cutB l).1, strV (cutB l).2.1, .bool (cutB l).2.2]) ∧ Below w.heap.size w w' := by
  have hi := cutin_any l hl
  generalize cutB l = q at *
  unfold strV at *
  generalize (⟨q.1.toArray⟩ : ByteArray) = u at *
  generalize (⟨q.2.1.toArray⟩ : ByteArray) = v at *
  generalize (⟨l.toArray⟩ : ByteArray) = s at *
  generalize (⟨[(45 : UInt8)].toArray⟩ : ByteArray) = t at *
  go_enter Tryz.func80, Tryz.ntmps80
  go_wp2_with (go_at_call 92; refine (hi _).mono ?_; rintro e w' ⟨rfl, bl⟩)
  go_ret3
  exact ⟨rfl, bl⟩
theorem count_any (l : Wv) (w : World) :
    Calls Tryz.prog 46 #[strV l, strV [32]] w fun e w' => e = .returned (.int .i64 (Lib.countB ⟨l.toArray⟩ ⟨[32].toArray⟩ : Nat)) ∧ w' = w := by
  refine (Any.strings_Count_one Tryz.laysCount ⟨l.toArray⟩ 32 w).mono fun e w' ⟨he, hw⟩ => ⟨?_, hw⟩
  rw [he]
  show _ = Ending.returned (Value.int .i64 ((Lib.count l [32] : Nat) : Int))
  rw [Lib.count_one]
  rfl
theorem split_any (l : Wv) (hl : l.length ≤ 1000) (w : World) :
    Calls Tryz.prog 18 #[strV l, strV [32]] w (WordsAs w (wordsW l)) := by
  have hs : (⟨l.toArray⟩ : ByteArray).size = l.length := rfl
  have hcn : Lib.countB ⟨l.toArray⟩ ⟨[32].toArray⟩ = l.count 32 := by
    show Lib.count l [32] = _
    rw [Lib.count_one]
  have hle : l.count 32 ≤ l.length := List.count_le_length
  have hg := Any.strings_genSplit_core Tryz.laysGenSplit (by kernel_rfl) ⟨l.toArray⟩ ⟨[32].toArray⟩ 0 (-1) (l.count 32 + 1) w (by rw [hs]; omega) (by decide) (Nat.zero_le _)
    (fun x c hx => by
      have h := index_out x.data.toList 32 (w.alloc (.cells c 9))
      refine h.mono fun e w' ⟨he, hw⟩ => ⟨?_, hw⟩
      rw [he]
      show _ = Ending.returned (Value.int .i64 (Lib.index x.data.toList [32]))
      rw [index_byte])
    (count_any l w) (by decide) (by decide) (by rw [if_pos (by decide), hcn, hs]; omega)
  rw [Nat.add_sub_cancel] at hg
  have hlen := Lib.splitB_all (⟨[32].toArray⟩ : ByteArray) (by decide) 0 _ ⟨l.toArray⟩ rfl
  rw [hcn] at hlen
  have hws : (Lib.splitB ⟨[32].toArray⟩ 0 (l.count 32) ⟨l.toArray⟩).map Value.string = (wordsW l).map strV := by
    have h1 := Lib.splitB_data ⟨[32].toArray⟩ 0 (l.count 32) ⟨l.toArray⟩
    have h2 : Lib.splitK [32] 0 (l.count 32) l = wordsW l := splitK_words _ l rfl
    rw [← h2, ← (show _ = Lib.splitK [32] 0 (l.count 32) l from h1), List.map_map]
    refine List.map_congr_left fun x _ => ?_
    rfl
  have hwl : (wordsW l).length = l.count 32 + 1 := by
    have := congrArg List.length hws
    rw [List.length_map, List.length_map, hlen] at this
    exact this.symm
  have e2 : Lib.cellsOf (Lib.splitB ⟨[32].toArray⟩ 0 (l.count 32) ⟨l.toArray⟩) (l.count 32 + 1) = ((wordsW l).map strV).toArray := by rw [← hlen, Lib.cellsOf_full, hws]
  rw [e2, hlen, ← hwl] at hg
  have hpost : ∀ e w', (e = Ending.returned (.slice (some ⟨w.heap.size, 0, none⟩) (wordsW l).length (wordsW l).length) ∧ w' = w.alloc (.cells ((wordsW l).map strV).toArray 9)) → WordsAs w (wordsW l) e w' := by
    rintro e w' ⟨rfl, rfl⟩
    refine ⟨_, rfl, ⟨by simp, .inr ⟨w.heap.size, (wordsW l).length, ((wordsW l).map strV).toArray, rfl, Nat.le_refl _, heap_alloc_new w _, Nat.le_refl _, by unfold maxLen; omega, by simp, by simp; exact List.take_of_length_le (by simp)⟩⟩, (Below.refl _ _).alloc (Nat.le_refl _) _⟩
  have HP := Lib.hid hpost
  have hg : Calls Tryz.prog 29 #[strV l, strV [32], .int .i64 0, .int .i64 (-1)] w fun e w' => e = .returned (.slice (some ⟨w.heap.size, 0, none⟩) (wordsW l).length (wordsW l).length) ∧ w' = w.alloc (.cells ((wordsW l).map strV).toArray 9) := hg
  obtain ⟨D, hD⟩ : ∃ D, D = WordsAs w (wordsW l) := ⟨_, rfl⟩
  rw [← hD] at HP ⊢
  clear hpost e2 hwl hws hlen hcn hle hD
  generalize wordsW l = ws at *
  unfold strV at hg ⊢
  generalize (⟨l.toArray⟩ : ByteArray) = s at *
  generalize (⟨[(32 : UInt8)].toArray⟩ : ByteArray) = t at *
  go_enter Tryz.func18, Tryz.ntmps18
  go_wp2_with fail
  refine hg.mono ?_
  rintro e w' ⟨rfl, hw⟩
  have HW := Lib.hid hw
  clear hg hw
  go_wp2_with fail
  exact HP.out _ _ ⟨rfl, HW.out⟩
end
section
open Go.RowKit
def signs : ByteArray := { data := #[46, 45, 95] }
theorem signs_size : signs.size = 3 := rfl
def idxS (r : Int) : Int := if r = 46 then 0 else if r = 45 then 1 else if r = 95 then 2 else -1
theorem idx_fin : ∀ r : Fin 128, Lib.indexByte signs.data.toList ((r.val : Int)).toNat.toUInt8 = idxS (r.val : Int) := by decide +kernel
theorem idx_small (r : Int) (h0 : 0 ≤ r) (h1 : r < 128) : Lib.indexByte signs.data.toList r.toNat.toUInt8 = idxS r := by
  have := idx_fin ⟨r.toNat, by omega⟩
  simp only [Int.toNat_natCast] at this
  have e : ((r.toNat : Nat) : Int) = r := by omega
  rw [e] at this
  exact this
theorem idx_big (r : Int) (h1 : 128 ≤ r) : idxS r = -1 := by
  unfold idxS
  rw [if_neg (by omega), if_neg (by omega), if_neg (by omega)]
theorem signs_low : ∀ b ∈ signs.data.toList, b.toNat < 128 := by decide
theorem signs_dec : ∀ p : Fin 3, Utf8.decode signs p.val = ((signs.data.toList.getD p.val 0).toNat, 1) := by decide +kernel
theorem signs_not : ∀ p : Fin 3, ¬ (((signs.data.toList.getD p.val 0).toNat : Nat) : Int) = 65533 := by decide
theorem byte_index (s : ByteArray) (c : Int) (w : World) :
    Calls Tryz.prog 94 #[.string s, .int .u8 c] w fun e w' => e = .returned (.int .i64 (Lib.indexByte s.data.toList c.toNat.toUInt8)) ∧ w' = w :=
  Any.strings_IndexByte Tryz.laysIndexByte s c w
theorem valid_rune (r : Int) (w : World) :
    Calls Tryz.prog 95 #[.int .i32 r] w fun e w' => e = .returned (.bool (Lib.validRune r)) ∧ w' = w :=
  Any.utf8_ValidRune Tryz.laysValidRune r w
theorem index_low (r : Int) (h0 : 0 ≤ r) (h1 : r < 128) (w : World) :
    Calls Tryz.prog 82 #[.string signs, .int .i32 r] w fun e w' => e = .returned (.int .i64 (idxS r)) ∧ Below w.heap.size w w' := by
  have hb := byte_index signs r w
  rw [idx_small r h0 h1] at hb
  have hw : IntKind.u8.wrap r = r := by rw [IntKind.wrap_u8]; omega
  go_enter Tryz.func82, Tryz.ntmps82
  go_wp2_with (go_at_call 94; refine hb.mono ?_; rintro e w' ⟨rfl, rfl⟩)
  go_ret
  exact ⟨rfl, Below.refl _ _⟩
set_option maxHeartbeats 1000000 in
theorem index_error (w : World) :
    Calls Tryz.prog 82 #[.string signs, .int .i32 65533] w fun e w' => e = .returned (.int .i64 (-1)) ∧ Below w.heap.size w w' := by
  go_enter Tryz.func82, Tryz.ntmps82
  go_wp2
  go_loopg [] 4 (fun gf wx => ∃ pos : Nat, pos ≤ 3 ∧ wx.heap[w.heap.size]? = some (.stringIter signs pos) ∧ Below w.heap.size w wx ∧ gf + pos = 4)
  case atStart => exact ⟨0, by omega, World.iter_heap w signs 0, (Below.refl _ w).alloc (Nat.le_refl _) _, rfl⟩
  case round =>
    obtain ⟨pos, hp3, hit, hbw, hfu⟩ := hrel
    by_cases hps : pos < 3
    · have hnx : ∀ ty, (Instr.next (.pointer (some ⟨w.heap.size, 0, none⟩)) true ty).run Tryz.prog wr = _ := fun ty => Lib.run_next_any_at wr w.heap.size signs pos ty hit hps
      have hd := signs_dec ⟨pos, hps⟩
      have hnot := signs_not ⟨pos, hps⟩
      simp only at hd hnot
      rw [hd] at hnx
      obtain ⟨R, hR⟩ : ∃ R : Int, (((signs.data.toList.getD pos 0).toNat : Nat) : Int) = R := ⟨_, rfl⟩
      simp only [hR] at hnx hnot
      have hit2 := Lib.iterAt_heap wr w.heap.size signs pos (pos + 1) hit
      have hbw2 := Lib.below_iterAt hbw (k := w.heap.size) (Nat.le_refl _) signs (pos + 1)
      obtain ⟨W, hWd⟩ : ∃ W, wr.iterAt w.heap.size signs (pos + 1) = W := ⟨_, rfl⟩
      rw [hWd] at hnx hit2 hbw2
      clear hd hR hWd
      go_wp2
      go_roundg (gk - 1)
      case measure => omega
      case rel => exact ⟨pos + 1, by omega, hit2, hbw2, by omega⟩
    · have hnx : ∀ ty, (Instr.next (.pointer (some ⟨w.heap.size, 0, none⟩)) true ty).run Tryz.prog wr = _ := fun ty => Lib.run_next_end_at wr w.heap.size signs pos ty hit hps
      go_wp2
      go_ret
      exact ⟨rfl, hbw⟩
theorem index_bad (r : Int) (h0 : 128 ≤ r) (h1 : ¬ r = 65533) (h2 : Lib.validRune r = false) (w : World) :
    Calls Tryz.prog 82 #[.string signs, .int .i32 r] w fun e w' => e = .returned (.int .i64 (-1)) ∧ Below w.heap.size w w' := by
  have hb := valid_rune r w
  rw [h2] at hb
  have h3 : ¬ r < 128 := by omega
  have h4 : 0 ≤ r := by omega
  clear h0
  go_enter Tryz.func82, Tryz.ntmps82
  go_wp2_with (go_at_call 95; refine hb.mono ?_; rintro e w' ⟨rfl, rfl⟩)
  go_ret
  exact ⟨rfl, Below.refl _ _⟩
theorem none_index (a e : Nat) (y : Int) (h0 : 128 ≤ y) (h1 : y ≤ 255) (w : World) :
    Calls Tryz.prog 94 #[.string (signs.extract a e), .int .u8 y] w fun e w' => e = .returned (.int .i64 (-1)) ∧ w' = w := by
  have hb := byte_index (signs.extract a e) y w
  rw [← Lib.firstIdx_eq, firstIdx_ascii signs a e _ signs_low (by simp; omega)] at hb
  exact hb
theorem last_byte {rs : ByteArray} {K : Nat} (hK : rs.size = K + 1) (h : ∀ h : rs.size - 1 < rs.size, 128 ≤ (rs[rs.size - 1]'h).toNat) :
    ∃ y : Int, 128 ≤ y ∧ y ≤ 255 ∧ ∀ W : World, (Instr.index 9 (.string rs) (.int .i64 (K : Int))).run Tryz.prog W = .ok (.int .u8 y) W := by
  have hlt : rs.size - 1 < rs.size := by omega
  have hy := h hlt
  have e : rs.size - 1 = K := by omega
  simp only [e] at hy
  have := (rs[K]'(by omega)).toNat_lt
  refine ⟨((rs[K]'(by omega)).toNat : Int), by omega, by omega, fun W => ?_⟩
  rw [run_index_string W 9 rs .i64 (K : Int) Tryz.underlying9, dif_pos ⟨by omega, by omega⟩]
  simp only [Int.toNat_natCast]
theorem sign_at (K : Nat) (hK : K < 3) : ∀ W : World, (Instr.index 9 (.string signs) (.int .i64 (K : Int))).run Tryz.prog W = .ok (.int .u8 ((signs.data.toList.getD K 0).toNat : Int)) W := fun W => by
  rw [run_index_string W 9 signs .i64 (K : Int) Tryz.underlying9, dif_pos ⟨by omega, by rw [signs_size]; omega⟩]
  match K, hK with
  | 0, _ => rfl
  | 1, _ => rfl
  | 2, _ => rfl
theorem sign_from (K : Nat) (hK : K ≤ 3) : ∀ W : World, (Instr.slice 9 (.string signs) (some (.int .i64 (K : Int))) none none).run Tryz.prog W = .ok (.string (signs.extract K signs.size)) W := fun W => by
  rw [run_slice_string_from_if W 9 signs .i64 (K : Int) Tryz.underlying9, if_pos ⟨by omega, by rw [signs_size]; omega⟩]
  simp only [Int.toNat_natCast]
set_option maxHeartbeats 2000000 in
theorem index_high (r : Int) (h0 : 128 ≤ r) (h1 : ¬ r = 65533) (h2 : Lib.validRune r = true) (w : World) :
    Calls Tryz.prog 82 #[.string signs, .int .i32 r] w fun e w' => e = .returned (.int .i64 (-1)) ∧ Below w.heap.size w w' := by
  have hb := valid_rune r w
  have hv : Utf8.valid r = true := by
    unfold Lib.validRune at h2
    have := of_decide_eq_true h2
    unfold Utf8.valid
    rcases this with h | h <;> simp <;> omega
  rw [h2] at hb
  clear h2
  obtain ⟨f1, f2, f3⟩ := encode_facts r hv h0
  have hc := run_convert_int_string (P := Tryz.prog) w 21 9 .i32 r (by rw [Tryz.underlying21]; rfl) Tryz.underlying9
  obtain ⟨rs, hrs⟩ : ∃ s, Utf8.encode r = s := ⟨_, rfl⟩
  rw [hrs] at f1 f2 f3 hc
  have h3 : ¬ r < 128 := by omega
  have h4 : 0 ≤ r := by omega
  clear h0 hv hrs
  rcases (show rs.size = 1 + 1 ∨ rs.size = 2 + 1 ∨ rs.size = 3 + 1 by omega) with hK | hK | hK
  · obtain ⟨y, y0, y1, hy⟩ := last_byte hK f3
    have hsg := sign_at 1 (by omega)
    have hwr : IntKind.i64.wrap 2 = 2 := by decide
    have hsl : ∀ W : World, (Instr.slice 9 (.string signs) (some (.int .i64 2)) none none).run Tryz.prog W = .ok (.string (signs.extract 2 signs.size)) W := sign_from 2 (by omega)
    have hz : (rs.size : Int) = 2 := by omega
    have hn := none_index 2 signs.size y y0 y1
    have hzs : (signs.size : Int) = 3 := rfl
    have hne : ((45 : Int) != y) = true := by simp; omega
    change ∀ W : World, (Instr.index 9 (.string rs) (.int .i64 1)).run Tryz.prog W = .ok (.int .u8 y) W at hy
    change ∀ W : World, (Instr.index 9 (.string signs) (.int .i64 1)).run Tryz.prog W = .ok (.int .u8 45) W at hsg
    clear f1 f2 f3 hK y0 y1
    go_enter Tryz.func82, Tryz.ntmps82
    go_wp2_with (go_at_call 95; refine hb.mono ?_; rintro e w' ⟨rfl, rfl⟩)
    refine wp_scope_straight ?_
    go_wp2
    go_loop [9] (fun i => i = .int .i64 1) (fun i => 0)
    case atStart => rfl
    case round =>
      go_wp2
      refine wp_scope_straight ?_
      go_wp2
      go_quiet (fail)
      have bq := Below_drawn (Below.refl w'.heap.size w') nq
      generalize w'.drewN nq = w2 at bq ⊢
      go_wp2
      go_quiet (first | (go_at_call 94; exact Calls.quiet_of_same (hn _)) | fail)
      have bq2 := Below_drawn bq nq
      go_wp2
      rw [Exit.noGoto_ret]
      go_wp2
      rw [Exit.noGoto_ret]
      go_wp2
      go_ret
      exact ⟨rfl, bq2⟩
  · obtain ⟨y, y0, y1, hy⟩ := last_byte hK f3
    have hsg := sign_at 2 (by omega)
    have hwr : IntKind.i64.wrap 3 = 3 := by decide
    have hsl : ∀ W : World, (Instr.slice 9 (.string signs) (some (.int .i64 3)) none none).run Tryz.prog W = .ok (.string (signs.extract 3 signs.size)) W := sign_from 3 (by omega)
    have hz : (rs.size : Int) = 3 := by omega
    have hn := none_index 3 signs.size y y0 y1
    have hzs : (signs.size : Int) = 3 := rfl
    have hne : ((95 : Int) != y) = true := by simp; omega
    change ∀ W : World, (Instr.index 9 (.string rs) (.int .i64 2)).run Tryz.prog W = .ok (.int .u8 y) W at hy
    change ∀ W : World, (Instr.index 9 (.string signs) (.int .i64 2)).run Tryz.prog W = .ok (.int .u8 95) W at hsg
    clear f1 f2 f3 hK y0 y1
    go_enter Tryz.func82, Tryz.ntmps82
    go_wp2_with (go_at_call 95; refine hb.mono ?_; rintro e w' ⟨rfl, rfl⟩)
    refine wp_scope_straight ?_
    go_wp2
    go_loop [9] (fun i => i = .int .i64 2) (fun i => 0)
    case atStart => rfl
    case round =>
      go_wp2
      refine wp_scope_straight ?_
      go_wp2
      go_quiet (fail)
      have bq := Below_drawn (Below.refl w'.heap.size w') nq
      generalize w'.drewN nq = w2 at bq ⊢
      go_wp2
      go_quiet (first | (go_at_call 94; exact Calls.quiet_of_same (hn _)) | fail)
      have bq2 := Below_drawn bq nq
      go_wp2
      rw [Exit.noGoto_ret]
      go_wp2
      rw [Exit.noGoto_ret]
      go_wp2
      go_ret
      exact ⟨rfl, bq2⟩
  · have hz : (rs.size : Int) = 4 := by omega
    have hzs : (signs.size : Int) = 3 := rfl
    clear f1 f2 f3 hK
    go_enter Tryz.func82, Tryz.ntmps82
    go_wp2_with (go_at_call 95; refine hb.mono ?_; rintro e w' ⟨rfl, rfl⟩)
    refine wp_scope_straight ?_
    go_wp2
    go_loop [9] (fun i => i = .int .i64 3) (fun i => 0)
    case atStart => rfl
    case round =>
      go_wp2
      go_ret
      exact ⟨rfl, Below.refl _ _⟩
theorem index_rune (r : Int) (h0 : 0 ≤ r) (w : World) :
    Calls Tryz.prog 82 #[.string signs, .int .i32 r] w fun e w' => e = .returned (.int .i64 (idxS r)) ∧ Below w.heap.size w w' := by
  by_cases h1 : r < 128
  · exact index_low r h0 h1 w
  · rw [idx_big r (by omega)]
    by_cases h2 : r = 65533
    · subst h2
      exact index_error w
    · cases h3 : Lib.validRune r with
      | true => exact index_high r (by omega) h2 h3 w
      | false => exact index_bad r (by omega) h2 h3 w
theorem contains_rune (r : Int) (h0 : 0 ≤ r) (w : World) :
    Calls Tryz.prog 66 #[.string signs, .int .i32 r] w fun e w' => e = .returned (.bool (decide (0 ≤ idxS r))) ∧ Below w.heap.size w w' := by
  have hc := index_rune r h0 w
  generalize idxS r = z at hc ⊢
  go_enter Tryz.func66, Tryz.ntmps66
  go_wp2_with (go_at_call 82; refine hc.mono ?_; rintro e w' ⟨rfl, b⟩)
  go_ret
  exact ⟨rfl, b⟩
end
section
open Go.RowKit
theorem okc_low {c : Nat} (h : 123 ≤ c) : okc c = false := by
  unfold okc
  simp
  omega
theorem okc_idx (x : Nat) (h1 : ¬ (97 ≤ x ∧ x ≤ 122)) (h2 : ¬ (48 ≤ x ∧ x ≤ 57)) : (!okc x) = !decide (0 ≤ idxS (x : Int)) := by
  congr 1
  unfold okc idxS
  by_cases a : x = 46
  · subst a; decide
  · by_cases b : x = 45
    · subst b; decide
    · by_cases c : x = 95
      · subst c; decide
      · rw [if_neg (by omega), if_neg (by omega), if_neg (by omega)]
        simp [a, b, c]
        omega
theorem strange_any (w : World) : PredGrows Tryz.prog 65 #[] (fun x => !okc x) w := by
  intro W x hx _
  show Calls Tryz.prog 65 #[.int .i32 (x : Int)] W fun e w' => e = .returned (.bool (!okc x)) ∧ Below W.heap.size W w'
  by_cases h1 : 97 ≤ x ∧ x ≤ 122
  · have ho : (!okc x) = false := by unfold okc; simp; omega
    have a1 : ¬ (x : Int) < 97 := by omega
    have a2 : ¬ (122 : Int) < (x : Int) := by omega
    rw [ho]
    clear h1 ho hx
    go_enter Tryz.func65, Tryz.ntmps65
    go_wp2
    go_ret
    exact ⟨rfl, Below.refl _ _⟩
  · by_cases h2 : 48 ≤ x ∧ x ≤ 57
    · have ho : (!okc x) = false := by unfold okc; simp; omega
      have a1 : (x : Int) < 97 := by omega
      have a2 : ¬ (x : Int) < 48 := by omega
      have a3 : ¬ (57 : Int) < (x : Int) := by omega
      rw [ho]
      clear h1 h2 ho hx
      go_enter Tryz.func65, Tryz.ntmps65
      go_wp2
      go_ret
      exact ⟨rfl, Below.refl _ _⟩
    · rw [okc_idx x h1 h2]
      have hc := contains_rune (x : Int) (by omega) W
      generalize decide (0 ≤ idxS (x : Int)) = d at hc ⊢
      by_cases l1 : x < 97
      · have a1 : (x : Int) < 97 := by omega
        by_cases l2 : x < 48
        · have a2 : (x : Int) < 48 := by omega
          clear h1 h2 hx l1 l2
          go_enter Tryz.func65, Tryz.ntmps65
          go_wp2_with (go_at_call 66; refine hc.mono ?_; rintro e w' ⟨rfl, b⟩)
          go_ret
          exact ⟨rfl, b⟩
        · have a2 : ¬ (x : Int) < 48 := by omega
          have a3 : (57 : Int) < (x : Int) := by omega
          clear h1 h2 hx l1 l2
          go_enter Tryz.func65, Tryz.ntmps65
          go_wp2_with (go_at_call 66; refine hc.mono ?_; rintro e w' ⟨rfl, b⟩)
          go_ret
          exact ⟨rfl, b⟩
      · have a1 : ¬ (x : Int) < 97 := by omega
        have a2 : (122 : Int) < (x : Int) := by omega
        have a3 : ¬ (x : Int) < 48 := by omega
        have a4 : (57 : Int) < (x : Int) := by omega
        clear h1 h2 hx l1
        go_enter Tryz.func65, Tryz.ntmps65
        go_wp2_with (go_at_call 66; refine hc.mono ?_; rintro e w' ⟨rfl, b⟩)
        go_ret
        exact ⟨rfl, b⟩
theorem dec_high (n b0 b1 b2 b3 : Nat) (h : 128 ≤ b0) : 128 ≤ (Lib.decodeN n b0 b1 b2 b3).1 := by
  unfold Lib.decodeN
  repeat' split
  all_goals (simp only; omega)
theorem idx_any (l : List UInt8) : ∀ (f pos : Nat), l.length ≤ pos + f → decide (0 ≤ Lib.idxFuncFrom (fun x => !okc x) true ⟨l.toArray⟩ f pos) = (l.drop pos).any fun b => !okc b.toNat
  | 0, pos, h => by
    rw [List.drop_of_length_le (by omega)]
    rfl
  | f + 1, pos, h => by
    by_cases hp : pos < l.length
    · have hs : pos < (⟨l.toArray⟩ : ByteArray).size := hp
      rw [List.drop_eq_getElem_cons hp, List.any_cons]
      unfold Lib.idxFuncFrom
      rw [if_pos hs]
      have hgb : (⟨l.toArray⟩ : ByteArray)[pos]'hs = l[pos] := rfl
      by_cases hb : (l[pos]).toNat < 128
      · have hd := decode_ascii ⟨l.toArray⟩ pos hs (by rw [hgb]; exact hb)
        rw [hgb] at hd
        rw [hd]
        cases ho : okc (l[pos]).toNat with
        | false => simp
        | true =>
          simp only [Bool.not_true, Bool.false_eq_true, if_false, Bool.false_or]
          exact idx_any l f (pos + 1) (by omega)
      · have hd : 128 ≤ (Utf8.decode ⟨l.toArray⟩ pos).1 := by
          rw [Lib.decode_at]
          refine dec_high _ _ _ _ _ ?_
          have : (⟨l.toArray⟩ : ByteArray).get! pos = l[pos] := by
            show l.toArray[pos]! = l[pos]
            rw [getElem!_pos l.toArray pos (by simpa using hp)]
            rfl
          rw [this]
          omega
        rw [okc_low (by omega), okc_low (c := (l[pos]).toNat) (by omega)]
        simp
    · rw [List.drop_of_length_le (by omega), Lib.idxFuncFrom_end _ _ _ _ _ (by show ¬ pos < l.length; omega)]
      rfl
theorem any_not (l : List UInt8) : (!(l.any fun b => !okc b.toNat)) = l.all fun b => okc b.toNat := by
  induction l with
  | nil => rfl
  | cons a l ih => simp only [List.any_cons, List.all_cons, ← ih]; cases okc a.toNat <;> simp
theorem contains_func (l : List UInt8) (w : World) :
    Calls Tryz.prog 67 #[strV l, .func (.func 65) #[] #[]] w fun e w' => e = .returned (.bool (l.any fun b => !okc b.toNat)) ∧ Below w.heap.size w w' := by
  have hc := Any.strings_ContainsFunc_grows Tryz.laysContainsFunc 65 #[] (enters_of Tryz.func65 (by kernel_rfl) rfl) (fun x => !okc x) ⟨l.toArray⟩ w (strange_any w)
  have hi := idx_any l l.length 0 (by omega)
  rw [List.drop_zero] at hi
  unfold Lib.idxFunc at hc
  have e : (⟨l.toArray⟩ : ByteArray).size = l.length := rfl
  rw [e, hi] at hc
  exact hc
theorem name_any (l : List UInt8) (w : World) :
    Calls Tryz.prog 51 #[strV l] w fun e w' => e = .returned (.bool (nameS l)) ∧ Below w.heap.size w w' := by
  have hs : ((⟨l.toArray⟩ : ByteArray).size : Int) = (l.length : Int) := rfl
  have hc := contains_func l
  unfold strV at hc ⊢
  by_cases h0 : 0 < l.length
  · by_cases h1 : l.length ≤ 16
    · have e : nameS l = !(l.any fun b => !okc b.toNat) := by
        rw [any_not]
        unfold nameS
        rw [decide_eq_true (by omega), decide_eq_true (by omega)]
        simp
      rw [e]
      generalize (l.any fun b => !okc b.toNat) = d at hc ⊢
      generalize (⟨l.toArray⟩ : ByteArray) = s at hc hs ⊢
      have z0 : (0 : Int) < (s.size : Int) := by omega
      have z1 : (s.size : Int) ≤ 16 := by omega
      clear h0 h1 e hs
      go_enter Tryz.func51, Tryz.ntmps51
      go_wp2_with (go_at_call 67; refine (hc _).mono ?_; rintro e w' ⟨rfl, b⟩)
      go_ret
      exact ⟨rfl, b⟩
    · have e : nameS l = false := by
        unfold nameS
        rw [decide_eq_false (p := l.length ≤ 16) h1]
        simp
      rw [e]
      generalize (⟨l.toArray⟩ : ByteArray) = s at hs ⊢
      have z0 : (0 : Int) < (s.size : Int) := by omega
      have z1 : ¬ (s.size : Int) ≤ 16 := by omega
      clear h0 h1 e hs hc
      go_enter Tryz.func51, Tryz.ntmps51
      go_wp2
      go_ret
      exact ⟨rfl, Below.refl _ _⟩
  · have e : nameS l = false := by
      unfold nameS
      rw [decide_eq_false (p := 1 ≤ l.length) (by omega)]
      simp
    rw [e]
    generalize (⟨l.toArray⟩ : ByteArray) = s at hs ⊢
    have z0 : ¬ (0 : Int) < (s.size : Int) := by omega
    clear h0 e hs hc
    go_enter Tryz.func51, Tryz.ntmps51
    go_wp2
    go_ret
    exact ⟨rfl, Below.refl _ _⟩
end
end Go.Proofs.YtjecjlhofnnnpaaGreatDoor
