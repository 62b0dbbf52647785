/-
  Str: Own words for texts, over any program: a byte slice turned into a text; arrays of bytes compared. No condition; nothing of the dump is used here.
  Base: Small facts over the loaded program that several layers' texts use. No condition.
  Txt: Texts (strings) as values: a string of given bytes; its bytes as a slice of the call's own; whether two are the same; a string that came in. General. No condition.
  InR: Which names may be: the document's Name (layer 12), over the loaded program: its contract. No condition but sizes that each contract names.
  EvA: Events as values (layer 23): an event is four cells, none of which points anywhere; events that came in; the document's name, May and Ends, over the loaded program: their contracts. No condition.
  EvB: The document's May and Ends (layer 23), over the loaded program: their contracts. No condition.
  TlvA: The reader of tlv, its small methods: each one's contract over the loaded program (Ok, Left, fail, pass, clone, Take, New). No condition but the worlds' shapes that each contract names.
  TlvB: The reader of tlv: Num, Int, Count, Text: each one's contract over the loaded program. No condition but the worlds' shapes that each contract names.
-/
import Derived.Test.YtpeopkjmmmodpaaDoorEy00
import Derived.Laws.BytesArg
import Derived.Stop.BytesEq
import Derived.Deep.MidRow
import Derived.Test.YtpeopkjmmmodpaaDoorProg
import Derived.WalkKit
import Derived.Test.YtpeopkjmmmodpaaDoorEy01
import Derived.Lib.ConvBytes
import Derived.Lib.Strings
import Derived.WalkSpells
import Derived.BigQuiet
import Derived.Deep.QuietTactic
set_option linter.unusedVariables false
set_option maxRecDepth 100000
namespace Go.Proofs.YtpeopkjmmmodpaaDoor
section
open Go.RowKit
theorem nums_str (l : List UInt8) : strOfNums (l.map fun b => (b.toNat : Int)) = ⟨l.toArray⟩ := by
  unfold strOfNums
  congr 2
  rw [List.map_map]
  have : ((fun n : Int => UInt8.ofNat n.toNat) ∘ fun b : UInt8 => (b.toNat : Int)) = id := by
    funext b
    simp
  rw [this, List.map_id]
theorem BS.str {P : Program} {w : World} {S : Nat → Prop} {v : Value} {l : List UInt8} (h : BS w S v l) {src e dst : TypeId} (hs : P.underlying src = some (.slice e)) (he : P.underlying e = some (.int .u8)) (hd : P.underlying dst = some .string) :
    (convert src dst v).run P w = .ok (.string ⟨l.toArray⟩) w := by
  obtain ⟨A, c, rfl, hc, hm, hn⟩ := h.form
  by_cases h0 : l = []
  · subst h0
    cases A with
    | none => exact run_convert_bytes_nil w src e hs he 0 c dst hd
    | some a =>
      obtain ⟨b, o, s⟩ := a
      have hz : ∀ (a : Addr), (loadCells a 0).run P w = .ok #[] w := by
        intro a
        simp [loadCells, loadCellsFrom]
      rw [run_convert_bytes_string w src dst e _ _ _ hs he hd]
      simp [Conv.bytesToString, hz]
      rfl
  · have hp : 0 < l.length := by cases l with
    | nil => exact absurd rfl h0
    | cons a t => simp
    obtain ⟨b, o, rfl, _, _, hx⟩ := h.at_ hp
    have := run_convert_bytes_arg (P := P) w src e hs he b o l.length c (l.map fun b => (b.toNat : Int)) (by simp) (fun i hi => by
      have := hx i l[i] (List.getElem?_eq_getElem hi)
      rw [this]
      simp [List.getD, List.getElem?_eq_getElem hi]) dst hd
    rw [nums_str] at this
    exact this
theorem cell_bv : Extern.Stop.cell = bv := rfl
theorem eq_bytes {P : Program} (w : World) (d : Nat) (t e : TypeId) (n : Nat) (ht : P.underlying t = some (.array n e)) (he : P.underlying e = some (.int .u8)) (hsz : ∀ w, (sizeOf e).run P w = .ok 1 w)
    (xs ys : List UInt8) (hx : xs.length = n) (hy : ys.length = n) :
    (Op.equalIn (d + 2) t (.agg (xs.map bv).toArray) (.agg (ys.map bv).toArray)).run P w = .ok (xs == ys) w :=
  run_equalIn_bytes w d t e n ht he hsz xs ys hx hy
theorem LS.one {w : World} {S : Nat → Prop} {x : Value} {l : List UInt8} {t : TypeId} (hx : BS w S x l) :
    LS (w.alloc (.cells #[x] t)) (fun b => S b ∨ b = w.heap.size) (.slice (some ⟨w.heap.size, 0, none⟩) 1 1) [l] := by
  refine ⟨_, 1, rfl, by simp, by simp [maxLen], fun _ => ⟨w.heap.size, 0, rfl, .inr rfl, by simp, fun j l' hj => ?_⟩⟩
  have hk := KB.new w t #[x]
  match j, hj with
  | 0, hj => simp at hj; subst hj; exact ⟨x, hk.cell 0, (hx.alloc _).mono fun b h => .inl h⟩
theorem LS.lt {w : World} {S : Nat → Prop} {v : Value} {ls : List (List UInt8)} (h : LS w S v ls) : LS w (fun b => b < w.heap.size) v ls := by
  obtain ⟨A, c, e, hl, hc, hx⟩ := h
  refine ⟨A, c, e, hl, hc, fun h0 => ?_⟩
  obtain ⟨b, o, ea, sb, hb, hx⟩ := hx h0
  refine ⟨b, o, ea, hb, hb, fun j l hj => ?_⟩
  obtain ⟨x, h1, h2⟩ := hx j l hj
  exact ⟨x, h1, h2.lt.mono fun _ h => h.2⟩
theorem LS.nil (w : World) (S : Nat → Prop) : LS w S (.slice none 0 0) [] := ⟨none, 0, rfl, by simp, by simp [maxLen], fun h => absurd h (by simp)⟩
def rowOf (w : World) (g : Nat) : Array Value := match w.heap[g]? with
  | some (.cells cs _ _) => cs
  | _ => #[]
theorem rowOf_kb {w : World} {g : Nat} {t : TypeId} {cs : Array Value} (h : KB w g t cs) : rowOf w g = cs := by
  unfold rowOf
  unfold KB at h
  rw [h]
theorem rowOf_drew (w : World) (g : Nat) : rowOf w.drew g = rowOf w g := rfl
theorem rowOf_drewN (w : World) (g n : Nat) : rowOf (w.drewN n) g = rowOf w g := rfl
theorem run_loadAt_rowOf {P : Program} {ty e : TypeId} {n : Nat} (hu : P.underlying ty = some (.array n e)) {m : Nat} (hi : (P.info? ty).map (·.size) = some m) (hm : 0 < m) (w : World) (g : Nat) (h : (rowOf w g).size = m) :
    (Instr.loadAt ty (.pointer (some ⟨g, 0, none⟩))).run P w = .ok (.agg (rowOf w g)) w := by
  have hr : w.rangeAt g 0 (rowOf w g).toList := by
    intro j v hj
    unfold rowOf at hj h
    split at hj
    · rename_i cs t fr hg
      rw [cell_of_row w g (0 + j) cs t fr hg, Nat.zero_add]
      simpa using hj
    · simp at hj
  have := run_loadAt_mid (P := P) w g 0 ty (rowOf w g).toList _ hr hu rfl (by rw [hi]; simp [h])
  simpa using this
def ptrBlock (v : Value) : Nat := match v with
  | .pointer (some ⟨g, 0, none⟩) => g
  | _ => 0
theorem ptrBlock_mk (g : Nat) : ptrBlock (.pointer (some ⟨g, 0, none⟩)) = g := rfl
theorem wp_load_rowOf {P : Program} {ty e : TypeId} {n : Nat} (hu : P.underlying ty = some (.array n e)) {m : Nat} (hi : (P.info? ty).map (·.size) = some m) (hm : 0 < m)
    {d : Option Tmp} {x : Operand} {t : TypeId} {pos : String} {after : Array Edge} {gd : Option (Nat × Bool)} {a : Act} {w : World} {K : Act → World → Prop} {Q : Exit → Act → World → Prop}
    (hx : a.eval x = .pointer (some ⟨ptrBlock (a.eval x), 0, none⟩)) (h : (rowOf w (ptrBlock (a.eval x))).size = m) :
    Oper.wp P { dst := d, op := Op.load ty x, type := t, pos := pos, after := after, guard := gd } a w K Q = K (a.put d (.agg (rowOf w (ptrBlock (a.eval x))))) w := by
  have hrun := run_loadAt_rowOf (P := P) hu hi hm w _ h
  rw [← hx] at hrun
  unfold Oper.wp execOp
  simp only [Sem.run_bind, hrun, Result.andThen_ok, Sem.run_pure]
  rfl
end
section
open Go.RowKit
theorem info_byte : (Tryd.prog.info? 5).map (fun i => (i.zero, i.size, i.bytes)) = some (some (.int .u8 0), 1, 1) := by kernel_rfl
theorem own_BS {w' : World} {v : Value} {l : List UInt8} {B : Nat} (h : w'.ownsRow B 5 1 v l.length (l.map bv)) : BS w' (fun b => B ≤ b ∧ b < w'.heap.size) v l := (BS.of_own h).lt
theorem drewN_twice (w : World) (n m : Nat) : (w.drewN n).drewN m = w.drewN (n + m) := by simp [World.drewN, Nat.add_assoc]
theorem ret_int {k : IntKind} {a b : Int} (h : a = b) : Ending.returned (.int k a) = .returned (.int k b) := by rw [h]
theorem own_base {w : World} {B B' e size n : Nat} {v : Value} {xs : List Value} (h : w.ownsRow B' e size v n xs) (hB : B ≤ B') : w.ownsRow B e size v n xs := by
  obtain ⟨h1, h2⟩ := h
  refine ⟨h1, ?_⟩
  rcases h2 with h2 | ⟨g, c, cur, a, b, r⟩
  · exact .inl h2
  · exact .inr ⟨g, c, cur, a, by omega, r⟩
def Fresh (w : World) (e : Ending) (w' : World) (l : List UInt8) : Prop :=
  ∃ v, e = .returned v ∧ w'.ownsRow w.heap.size 5 1 v l.length (l.map bv) ∧ Below w.heap.size w w'
theorem lit_one (w : World) (m : Nat) (base : Nat) (hb : base ≤ w.heap.size) : (w.alloc (.cells #[bv (UInt8.ofNat (m % 256))] 5)).ownsRow base 5 1 (.slice (some ⟨w.heap.size, 0, none⟩) 1 1) [UInt8.ofNat (m % 256)].length ([UInt8.ofNat (m % 256)].map bv) :=
  World.ownsRow_lit w #[bv (UInt8.ofNat (m % 256))] 1 hb (by simp [maxLen]) rfl
theorem byte_mod (m : Nat) : Value.int .u8 ((m : Int) % 256) = bv (UInt8.ofNat (m % 256)) := by
  unfold bv
  have : (UInt8.ofNat (m % 256)).toNat = m % 256 := by simp
  rw [this]
  congr 1
end
section
open Go.RowKit Go.ChangeShapes Go.WideShapes Go.Joins
def strV (l : List UInt8) : Value := .string ⟨l.toArray⟩
theorem cells_str : Tryd.prog.cellsOf 9 = 1 := by kernel_rfl
theorem open_str {H : Type} {enc : TypeId × Value → H} {W : World} {base : Nat} {v : Value} {d : DataW H} {p : List MemPlace}
    (ok : Value.okWide Tryd.prog W .any base 9 v) (h : DataW.Trod enc Tryd.prog W 0 (fun _ => true) true 9 v d p) : ∃ l : List UInt8, v = strV l ∧ l.length ≤ maxLen := by
  obtain ⟨n, hn⟩ := h
  obtain ⟨s, hs⟩ := okWide_string Tryd.underlying9 ok
  subst hs
  obtain ⟨s', e, _, hs⟩ := DataW.trod_string Tryd.underlying9 hn
  simp [Value.cells] at e
  subst e
  have : s.data.toList.length = s.size := by rw [Array.length_toList]; rfl
  exact ⟨s.data.toList, rfl, by omega⟩
theorem str_eq (l m : List UInt8) : ((⟨l.toArray⟩ : ByteArray).toList == (⟨m.toArray⟩ : ByteArray).toList) = decide (l = m) := by
  rw [Lib.toList_data, Lib.toList_data]
  show (l == m) = _
  by_cases h : l = m
  · rw [decide_eq_true h]; exact beq_iff_eq.2 h
  · rw [decide_eq_false h]; exact beq_eq_false_iff_ne.2 h
theorem conv_str (w : World) (l : List UInt8) (hl : l.length ≤ maxLen) : ∃ c w', (convert 9 25 (strV l)).run Tryd.prog w = .ok (.slice (some ⟨w.heap.size, 0, none⟩) l.length c) w' ∧
    BS w' (fun b => w.heap.size ≤ b ∧ b < w'.heap.size) (.slice (some ⟨w.heap.size, 0, none⟩) l.length c) l ∧ Below w.heap.size w w' := by
  refine ⟨_, _, Lib.run_convert_string_bytes (P := Tryd.prog) w 9 25 5 ⟨l.toArray⟩ (u := .string) Tryd.underlying9 Tryd.underlying25 Tryd.underlying5, ?_, ?_⟩
  · refine ⟨_, _, rfl, grownCap_ge _ _ _ _, grownCap_le_maxLen _ _ _ _ hl, (fun h => by cases h), fun h0 => ⟨w.heap.size, 0, rfl, ⟨Nat.le_refl _, by rw [Lib.bytesWorld_size]; omega⟩, by rw [Lib.bytesWorld_size]; omega, fun j u hu => ?_⟩⟩
    have hj := (List.getElem?_eq_some_iff.1 hu).1
    rw [Nat.zero_add, Lib.bytesWorld_cell w _ ⟨l.toArray⟩ j hj]
    simp [hu]
  · exact ⟨rfl, rfl, rfl, by rw [Lib.bytesWorld_size]; omega, fun j hj => Lib.bytesWorld_at_old w _ _ j hj⟩
end
section
open Go.RowKit
theorem str_at (l : List UInt8) (k : Nat) (x : UInt8) (hx : l[k]? = some x) : ∀ W : World, (Instr.index 9 (.string ⟨l.toArray⟩) (.int .i64 (k : Int))).run Tryd.prog W = .ok (.int .u8 (x.toNat : Int)) W := fun W => by
  have hk := (List.getElem?_eq_some_iff.1 hx).1
  have hs : (⟨l.toArray⟩ : ByteArray).size = l.length := rfl
  rw [run_index_string W 9 ⟨l.toArray⟩ .i64 (k : Int) Tryd.underlying9, dif_pos ⟨by omega, by rw [hs]; omega⟩]
  simp only [Int.toNat_natCast]
  have e : (⟨l.toArray⟩ : ByteArray)[k]'(by rw [hs]; exact hk) = x := by
    have := (List.getElem?_eq_some_iff.1 hx).2
    exact this
  rw [e]
theorem all_step {l : List UInt8} {k : Nat} {x : UInt8} (hx : l[k]? = some x) (h : ((l.take k).all fun b => okc b.toNat) = true) (ho : okc x.toNat = true) : ((l.take (k + 1)).all fun b => okc b.toNat) = true := by
  rw [List.take_add_one, hx, List.all_append, h]
  simp [ho]
theorem all_stop {l : List UInt8} {k : Nat} {x : UInt8} (hx : l[k]? = some x) (ho : okc x.toNat = false) : nameS l = false := by
  unfold nameS
  have : (l.all fun b => okc b.toNat) = false := by
    cases hq : l.all fun b => okc b.toNat with
    | false => rfl
    | true =>
      have := List.all_eq_true.1 hq x (List.mem_of_getElem? hx)
      rw [ho] at this
      cases this
  rw [this]; simp
set_option maxHeartbeats 2000000 in
theorem rname_any (l : List UInt8) (hl : l.length ≤ maxLen) (w : World) :
    Calls Tryd.prog 51 #[strV l] w fun e w' => e = .returned (.bool (nameS l)) ∧ w = w' := by
  have hs : ((⟨l.toArray⟩ : ByteArray).size : Int) = (l.length : Int) := rfl
  have hat := str_at l
  have HAT := Lib.hid hat
  have hml : l.length ≤ 9223372036854775807 := by unfold maxLen at hl; omega
  obtain ⟨r, hr⟩ : ∃ r, r = nameS l := ⟨_, rfl⟩
  rw [← hr]
  have HR := Lib.hid hr
  unfold strV
  clear hat hr hl
  have HAT2 : Hid (∀ s : ByteArray, s = ⟨l.toArray⟩ → ∀ (k : Nat) (x : UInt8), l[k]? = some x → ∀ W : World, (Instr.index 9 (.string s) (.int .i64 (k : Int))).run Tryd.prog W = .ok (.int .u8 (x.toNat : Int)) W) := fun s e => by subst e; exact HAT.out
  obtain ⟨s, hse⟩ : ∃ s : ByteArray, s = ⟨l.toArray⟩ := ⟨_, rfl⟩
  rw [← hse] at hs ⊢
  replace HAT := Lib.hid (HAT2.out s hse)
  clear HAT2 hse
  go_enter Tryd.func51, Tryd.ntmps51
  go_wp2
  go_loop [3] (fun i => ∃ k : Nat, k ≤ l.length ∧ i = .int .i64 k ∧ Hid (((l.take k).all fun b => okc b.toNat) = true)) (fun i => l.length - (intOf i).toNat)
  case atStart => exact ⟨0, by omega, rfl, rfl⟩
  case round =>
    obtain ⟨k, hk, rfl, ha⟩ := hrel
    by_cases hlt : k < l.length
    · obtain ⟨x, hx⟩ : ∃ x, l[k]? = some x := ⟨_, List.getElem?_eq_getElem hlt⟩
      have hix := HAT.out k x hx
      have hxl := x.toNat_lt
      have HS := Lib.hid (all_stop (l := l) (k := k) (x := x) hx)
      have HST := Lib.hid (fun ho => all_step (l := l) (k := k) (x := x) hx ha.out ho)
      have HO : Hid (okc x.toNat = okc x.toNat) := rfl
      generalize hc : x.toNat = c at hix HS HST HO
      have hc256 : c < 256 := by omega
      clear hc hx hxl HAT ha
      by_cases q0 : c ≤ 44
      · have ho : okc c = false := by unfold okc; simp; omega
        have E0 : decide ((c : Int) < 97) = true := decide_eq_true (by omega)
        have E1 : decide ((122 : Int) < (c : Int)) = false := decide_eq_false (by omega)
        have E2 : decide ((c : Int) < 48) = true := decide_eq_true (by omega)
        have E3 : decide ((57 : Int) < (c : Int)) = false := decide_eq_false (by omega)
        have N0 : ((c : Int) != 46) = true := by simp; omega
        have N1 : ((c : Int) != 45) = true := by simp; omega
        have N2 : ((c : Int) != 95) = true := by simp; omega
        have hr := HR.out
        rw [HS.out ho] at hr
        clear HS HST HO HR ho
        subst hr
        go_wp2
        go_ret
        exact ⟨rfl, rfl⟩
      by_cases q1 : c = 45
      · have ho : okc c = true := by unfold okc; simp; omega
        have E0 : decide ((c : Int) < 97) = true := decide_eq_true (by omega)
        have E1 : decide ((122 : Int) < (c : Int)) = false := decide_eq_false (by omega)
        have E2 : decide ((c : Int) < 48) = true := decide_eq_true (by omega)
        have E3 : decide ((57 : Int) < (c : Int)) = false := decide_eq_false (by omega)
        have N0 : ((c : Int) != 46) = true := by simp; omega
        have N1 : ((c : Int) != 45) = false := by simp; omega
        have N2 : ((c : Int) != 95) = true := by simp; omega
        have HT := Lib.hid (HST.out ho)
        clear HS HST HO HR ho
        go_wp2
        go_round
        case rel => exact ⟨k + 1, by omega, by go_num, HT⟩
        case measure => simp [intOf]; omega
      by_cases q2 : c = 46
      · have ho : okc c = true := by unfold okc; simp; omega
        have E0 : decide ((c : Int) < 97) = true := decide_eq_true (by omega)
        have E1 : decide ((122 : Int) < (c : Int)) = false := decide_eq_false (by omega)
        have E2 : decide ((c : Int) < 48) = true := decide_eq_true (by omega)
        have E3 : decide ((57 : Int) < (c : Int)) = false := decide_eq_false (by omega)
        have N0 : ((c : Int) != 46) = false := by simp; omega
        have N1 : ((c : Int) != 45) = true := by simp; omega
        have N2 : ((c : Int) != 95) = true := by simp; omega
        have HT := Lib.hid (HST.out ho)
        clear HS HST HO HR ho
        go_wp2
        go_round
        case rel => exact ⟨k + 1, by omega, by go_num, HT⟩
        case measure => simp [intOf]; omega
      by_cases q3 : c = 47
      · have ho : okc c = false := by unfold okc; simp; omega
        have E0 : decide ((c : Int) < 97) = true := decide_eq_true (by omega)
        have E1 : decide ((122 : Int) < (c : Int)) = false := decide_eq_false (by omega)
        have E2 : decide ((c : Int) < 48) = true := decide_eq_true (by omega)
        have E3 : decide ((57 : Int) < (c : Int)) = false := decide_eq_false (by omega)
        have N0 : ((c : Int) != 46) = true := by simp; omega
        have N1 : ((c : Int) != 45) = true := by simp; omega
        have N2 : ((c : Int) != 95) = true := by simp; omega
        have hr := HR.out
        rw [HS.out ho] at hr
        clear HS HST HO HR ho
        subst hr
        go_wp2
        go_ret
        exact ⟨rfl, rfl⟩
      by_cases q4 : c ≤ 57
      · have ho : okc c = true := by unfold okc; simp; omega
        have E0 : decide ((c : Int) < 97) = true := decide_eq_true (by omega)
        have E1 : decide ((122 : Int) < (c : Int)) = false := decide_eq_false (by omega)
        have E2 : decide ((c : Int) < 48) = false := decide_eq_false (by omega)
        have E3 : decide ((57 : Int) < (c : Int)) = false := decide_eq_false (by omega)
        have N0 : ((c : Int) != 46) = true := by simp; omega
        have N1 : ((c : Int) != 45) = true := by simp; omega
        have N2 : ((c : Int) != 95) = true := by simp; omega
        have HT := Lib.hid (HST.out ho)
        clear HS HST HO HR ho
        go_wp2
        go_round
        case rel => exact ⟨k + 1, by omega, by go_num, HT⟩
        case measure => simp [intOf]; omega
      by_cases q5 : c ≤ 94
      · have ho : okc c = false := by unfold okc; simp; omega
        have E0 : decide ((c : Int) < 97) = true := decide_eq_true (by omega)
        have E1 : decide ((122 : Int) < (c : Int)) = false := decide_eq_false (by omega)
        have E2 : decide ((c : Int) < 48) = false := decide_eq_false (by omega)
        have E3 : decide ((57 : Int) < (c : Int)) = true := decide_eq_true (by omega)
        have N0 : ((c : Int) != 46) = true := by simp; omega
        have N1 : ((c : Int) != 45) = true := by simp; omega
        have N2 : ((c : Int) != 95) = true := by simp; omega
        have hr := HR.out
        rw [HS.out ho] at hr
        clear HS HST HO HR ho
        subst hr
        go_wp2
        go_ret
        exact ⟨rfl, rfl⟩
      by_cases q6 : c = 95
      · have ho : okc c = true := by unfold okc; simp; omega
        have E0 : decide ((c : Int) < 97) = true := decide_eq_true (by omega)
        have E1 : decide ((122 : Int) < (c : Int)) = false := decide_eq_false (by omega)
        have E2 : decide ((c : Int) < 48) = false := decide_eq_false (by omega)
        have E3 : decide ((57 : Int) < (c : Int)) = true := decide_eq_true (by omega)
        have N0 : ((c : Int) != 46) = true := by simp; omega
        have N1 : ((c : Int) != 45) = true := by simp; omega
        have N2 : ((c : Int) != 95) = false := by simp; omega
        have HT := Lib.hid (HST.out ho)
        clear HS HST HO HR ho
        go_wp2
        go_round
        case rel => exact ⟨k + 1, by omega, by go_num, HT⟩
        case measure => simp [intOf]; omega
      by_cases q7 : c = 96
      · have ho : okc c = false := by unfold okc; simp; omega
        have E0 : decide ((c : Int) < 97) = true := decide_eq_true (by omega)
        have E1 : decide ((122 : Int) < (c : Int)) = false := decide_eq_false (by omega)
        have E2 : decide ((c : Int) < 48) = false := decide_eq_false (by omega)
        have E3 : decide ((57 : Int) < (c : Int)) = true := decide_eq_true (by omega)
        have N0 : ((c : Int) != 46) = true := by simp; omega
        have N1 : ((c : Int) != 45) = true := by simp; omega
        have N2 : ((c : Int) != 95) = true := by simp; omega
        have hr := HR.out
        rw [HS.out ho] at hr
        clear HS HST HO HR ho
        subst hr
        go_wp2
        go_ret
        exact ⟨rfl, rfl⟩
      by_cases q8 : c ≤ 122
      · have ho : okc c = true := by unfold okc; simp; omega
        have E0 : decide ((c : Int) < 97) = false := decide_eq_false (by omega)
        have E1 : decide ((122 : Int) < (c : Int)) = false := decide_eq_false (by omega)
        have E2 : decide ((c : Int) < 48) = false := decide_eq_false (by omega)
        have E3 : decide ((57 : Int) < (c : Int)) = true := decide_eq_true (by omega)
        have N0 : ((c : Int) != 46) = true := by simp; omega
        have N1 : ((c : Int) != 45) = true := by simp; omega
        have N2 : ((c : Int) != 95) = true := by simp; omega
        have HT := Lib.hid (HST.out ho)
        clear HS HST HO HR ho
        go_wp2
        go_round
        case rel => exact ⟨k + 1, by omega, by go_num, HT⟩
        case measure => simp [intOf]; omega
      have ho : okc c = false := by unfold okc; simp; omega
      have E0 : decide ((c : Int) < 97) = false := decide_eq_false (by omega)
      have E1 : decide ((122 : Int) < (c : Int)) = true := decide_eq_true (by omega)
      have E2 : decide ((c : Int) < 48) = false := decide_eq_false (by omega)
      have E3 : decide ((57 : Int) < (c : Int)) = true := decide_eq_true (by omega)
      have N0 : ((c : Int) != 46) = true := by simp; omega
      have N1 : ((c : Int) != 45) = true := by simp; omega
      have N2 : ((c : Int) != 95) = true := by simp; omega
      have hr := HR.out
      rw [HS.out ho] at hr
      clear HS HST HO HR ho
      subst hr
      go_wp2
      go_ret
      exact ⟨rfl, rfl⟩
    · have hkl : k = l.length := by omega
      subst hkl
      have hr := HR.out
      have ha' := ha.out
      rw [List.take_length] at ha'
      unfold nameS at hr
      rw [ha', Bool.and_true] at hr
      have e1 : decide ((1 : Int) ≤ (l.length : Int)) = decide (1 ≤ l.length) := decide_eq_decide.2 (by omega)
      have e2 : decide ((l.length : Int) ≤ 16) = decide (l.length ≤ 16) := decide_eq_decide.2 (by omega)
      clear ha ha' HAT HR
      cases g1 : decide (1 ≤ l.length) with
      | false =>
        rw [g1] at e1 hr
        simp only [Bool.false_and] at hr
        subst hr
        clear g1 e2
        go_wp2
        go_ret
        exact ⟨rfl, rfl⟩
      | true =>
        rw [g1] at e1 hr
        simp only [Bool.true_and] at hr
        rw [← e2] at hr
        clear g1 e2
        subst hr
        go_wp2
        go_ret
        exact ⟨rfl, rfl⟩
end
section
open Go.RowKit Go.ChangeShapes Go.WideShapes Go.Joins
def EvV (v : Value) (x : Ev) : Prop := v = .agg #[.int .i64 x.kind, .int .i64 x.tick, strV x.a, strV x.b] ∧ I64 x.kind ∧ I64 x.tick ∧ x.a.length ≤ maxLen ∧ x.b.length ≤ maxLen
theorem cells_event : Tryd.prog.cellsOf 23 = 4 := by kernel_rfl
theorem efour_of {cs : List Value} (h : cs.length = 4) : ∃ c0 c1 c2 c3, cs = [c0, c1, c2, c3] := by
  match cs, h with
  | [a, b, c, d], _ => exact ⟨a, b, c, d, rfl⟩
theorem open_event {H : Type} {enc : TypeId × Value → H} {W : World} {base : Nat} {v : Value} {d : DataW H} {p : List MemPlace}
    (ok : Value.okWide Tryd.prog W .any base 23 v) (h : DataW.Trod enc Tryd.prog W 0 (fun _ => true) true 23 v d p) :
    ∃ x : Ev, EvV v x := by
  obtain ⟨cs, rfl, hsz⟩ := okWide_struct Tryd.underlying23 ok
  obtain ⟨n, hn⟩ := h
  have e0 : (Value.agg cs).cells.toList = cs.toList := by simp [Value.cells]
  rw [e0] at hn
  obtain ⟨xs, m, rfl, _, hl, hxl, hf⟩ := DataW.trod_struct Tryd.underlying23 hn
  rw [cells_event] at hl
  generalize hcl : cs.toList = ls at *
  obtain ⟨c0, c1, c2, c3, rfl⟩ := efour_of hl
  have hcs : cs = #[c0, c1, c2, c3] := Array.toList_inj.1 hcl
  obtain ⟨x0, x1, x2, x3, rfl⟩ : ∃ x0 x1 x2 x3, xs = [x0, x1, x2, x3] := by
    match xs, hxl with
    | [a, b, c, d], _ => exact ⟨a, b, c, d, rfl⟩
  have cs1 : Tryd.prog.cellsOf 9 = 1 := by kernel_rfl
  have cs2 : Tryd.prog.cellsOf 3 = 1 := by kernel_rfl
  have g0 : DataW.trod enc Tryd.prog W 0 (fun _ => true) true m 3 (List.take (Tryd.prog.cellsOf 3) [c0, c1, c2, c3]) = some x0 := hf 0 _ rfl
  have g1 : DataW.trod enc Tryd.prog W 0 (fun _ => true) true m 3 (List.take (Tryd.prog.cellsOf 3) [c1, c2, c3]) = some x1 := hf 1 _ rfl
  have g2 : DataW.trod enc Tryd.prog W 0 (fun _ => true) true m 9 (List.take (Tryd.prog.cellsOf 9) [c2, c3]) = some x2 := hf 2 _ rfl
  have g3 : DataW.trod enc Tryd.prog W 0 (fun _ => true) true m 9 (List.take (Tryd.prog.cellsOf 9) [c3]) = some x3 := hf 3 _ rfl
  rw [cs1] at g2 g3
  rw [cs2] at g0 g1
  obtain ⟨u0, e0, b0, w0⟩ := DataW.trod_int Tryd.underlying3 g0
  obtain ⟨u1, e1, b1, w1⟩ := DataW.trod_int Tryd.underlying3 g1
  obtain ⟨s2, e2, _, w2⟩ := DataW.trod_string Tryd.underlying9 g2
  obtain ⟨s3, e3, _, w3⟩ := DataW.trod_string Tryd.underlying9 g3
  simp at e0 e1 e2 e3
  subst e0 e1 e2 e3
  have hz2 : s2.data.toList.length = s2.size := by rw [Array.length_toList]; rfl
  have hz3 : s3.data.toList.length = s3.size := by rw [Array.length_toList]; rfl
  have h0 : I64 u0 := by simpa [I64, Lit.wf, IntKind.min, IntKind.max, IntKind.signed, IntKind.bits] using w0
  have h1 : I64 u1 := by simpa [I64, Lit.wf, IntKind.min, IntKind.max, IntKind.signed, IntKind.bits] using w1
  exact ⟨⟨u0, u1, s2.data.toList, s3.data.toList⟩, by rw [hcs]; rfl, h0, h1, by show s2.data.toList.length ≤ _; omega, by show s3.data.toList.length ≤ _; omega⟩
theorem zeq_nil (s : ByteArray) (l : List UInt8) (hs : s = ⟨l.toArray⟩) : (s.toList == ([] : List UInt8)) = decide (l = []) ∧ s.toList.isEmpty = decide (l = []) ∧ (s.toList != ([] : List UInt8)) = !decide (l = []) := by
  have h := str_eq l []
  have e : (⟨([] : List UInt8).toArray⟩ : ByteArray).toList = [] := by rw [ByteArray.toList_eq]
  rw [e, ← hs] at h
  refine ⟨h, ?_, by rw [bne, h]⟩
  rw [← h]
  cases s.toList <;> rfl
theorem evname_any (l : List UInt8) (hl : l.length ≤ maxLen) (w : World) :
    Calls Tryd.prog 40 #[strV l] w fun e w' => e = .returned (.bool (nameE l)) ∧ w = w' := by
  have hnm := rname_any l hl w
  unfold nameE
  obtain ⟨s, hs⟩ : ∃ s : ByteArray, s = ⟨l.toArray⟩ := ⟨_, rfl⟩
  have hsv : strV l = .string s := by rw [hs]; rfl
  have g1 : (s.toList == ([] : List UInt8)) = decide (l = []) := by
    have h := str_eq l []
    have e : (⟨([] : List UInt8).toArray⟩ : ByteArray).toList = [] := by rw [ByteArray.toList_eq]
    rw [e] at h
    rw [hs]; exact h
  have g2 : s.toList.isEmpty = decide (l = []) := by rw [← g1]; cases s.toList <;> rfl
  rw [hsv] at hnm ⊢
  have HNM := Lib.hid hnm
  clear hnm hs hsv
  by_cases h : l = []
  · rw [decide_eq_true h] at g1 g2 ⊢
    have h0 : s.toList = [] := by simpa using g1
    clear HNM h
    go_enter Tryd.func40, Tryd.ntmps40
    go_wp2_with fail
    go_ret
    exact ⟨by simp, rfl⟩
  · rw [decide_eq_false h] at g1 g2 ⊢
    have h0 : ¬ s.toList = [] := by simpa using g1
    have h1 : (s.toList != ([] : List UInt8)) = true := by rw [bne, g1]; rfl
    clear h
    generalize nameS l = nm at *
    go_enter Tryd.func40, Tryd.ntmps40
    go_wp2_with fail
    refine HNM.out.mono ?_
    rintro e w1 ⟨rfl, rfl⟩
    clear HNM
    go_wp2_with fail
    go_ret
    exact ⟨by simp, rfl⟩
end
section
open Go.RowKit Go.ChangeShapes Go.WideShapes Go.Joins
set_option maxHeartbeats 4000000 in
theorem evmay_any (x : Ev) (v : Value) (w : World) (hv : EvV v x) :
    Calls Tryd.prog 21 #[v] w fun e w' => e = .returned (.bool (mayE x)) ∧ Below w.heap.size w w' := by
  obtain ⟨rfl, hk, ht, hla, hlb⟩ := hv
  have B := (Below.refl w.heap.size w).alloc (Nat.le_refl _) (.cells #[.int .i64 x.kind, .int .i64 x.tick, strV x.a, strV x.b] 23)
  have HA := fun W => evname_any x.a hla W
  have HB := fun W => evname_any x.b hlb W
  have hm : mayE x = (decide (1 ≤ x.kind) && (decide (x.kind ≤ 14) && (decide (0 ≤ x.tick) && (decide (x.tick ≤ 1099511627776) && (nameE x.a && nameE x.b))))) := by
    unfold mayE
    simp only [Bool.decide_and, Bool.and_assoc]
  rw [hm]
  clear hm hk ht hla hlb
  obtain ⟨sa, hsa⟩ : ∃ s : ByteArray, strV x.a = .string s := ⟨_, rfl⟩
  obtain ⟨sb, hsb⟩ : ∃ s : ByteArray, strV x.b = .string s := ⟨_, rfl⟩
  rw [hsa] at HA B ⊢
  rw [hsb] at HB B ⊢
  have HA := Lib.hid HA
  have HB := Lib.hid HB
  clear hsa hsb
  generalize x.kind = k at *
  generalize x.tick = t at *
  generalize nameE x.a = na at *
  generalize nameE x.b = nb at *
  by_cases h1 : 1 ≤ k
  case neg =>
    have d1 : decide (1 ≤ k) = false := decide_eq_false h1
    rw [d1]
    clear HA HB
    go_enter Tryd.func21, Tryd.ntmps21
    go_wp2_with fail
    go_ret
    exact ⟨by simp, B⟩
  have d1 : decide (1 ≤ k) = true := decide_eq_true h1
  by_cases h2 : k ≤ 14
  case neg =>
    have d2 : decide (k ≤ 14) = false := decide_eq_false h2
    rw [d2]
    clear HA HB
    go_enter Tryd.func21, Tryd.ntmps21
    go_wp2_with fail
    go_ret
    exact ⟨by simp, B⟩
  have d2 : decide (k ≤ 14) = true := decide_eq_true h2
  by_cases h3 : 0 ≤ t
  case neg =>
    have d3 : decide (0 ≤ t) = false := decide_eq_false h3
    rw [d3]
    clear HA HB
    go_enter Tryd.func21, Tryd.ntmps21
    go_wp2_with fail
    go_ret
    exact ⟨by simp, B⟩
  have d3 : decide (0 ≤ t) = true := decide_eq_true h3
  by_cases h4 : t ≤ 1099511627776
  case neg =>
    have d4 : decide (t ≤ 1099511627776) = false := decide_eq_false h4
    rw [d4]
    clear HA HB
    go_enter Tryd.func21, Tryd.ntmps21
    go_wp2_with fail
    go_ret
    exact ⟨by simp, B⟩
  have d4 : decide (t ≤ 1099511627776) = true := decide_eq_true h4
  rw [d1, d2, d3, d4]
  go_enter Tryd.func21, Tryd.ntmps21
  go_wp2_with fail
  refine (HA.out _).mono ?_
  rintro e w1 ⟨rfl, rfl⟩
  clear HA
  cases na with
  | false =>
    clear HB
    go_wp2_with fail
    go_ret
    exact ⟨by simp, B⟩
  | true =>
    go_wp2_with fail
    refine (HB.out _).mono ?_
    rintro e w2 ⟨rfl, rfl⟩
    clear HB
    go_wp2_with fail
    go_ret
    exact ⟨by simp, B⟩
set_option maxHeartbeats 4000000 in
theorem evends_any (x : Ev) (v : Value) (w : World) (hv : EvV v x) :
    Calls Tryd.prog 15 #[v] w fun e w' => e = .returned (.bool (endsE x)) ∧ Below w.heap.size w w' := by
  have hmay := fun W => evmay_any x v W hv
  obtain ⟨rfl, hk, ht, hla, hlb⟩ := hv
  have K := KB.new w 23 #[.int .i64 x.kind, .int .i64 x.tick, strV x.a, strV x.b]
  have B := (Below.refl w.heap.size w).alloc (Nat.le_refl _) (.cells #[.int .i64 x.kind, .int .i64 x.tick, strV x.a, strV x.b] 23)
  have hm : endsE x = (mayE x && (decide (x.kind = 10) || decide (x.kind = 11))) := by
    unfold endsE
    simp only [Bool.decide_or]
  rw [hm]
  clear hm hk ht hla hlb
  obtain ⟨sa, hsa⟩ : ∃ s : ByteArray, strV x.a = .string s := ⟨_, rfl⟩
  obtain ⟨sb, hsb⟩ : ∃ s : ByteArray, strV x.b = .string s := ⟨_, rfl⟩
  rw [hsa, hsb] at hmay K B ⊢
  have HM := Lib.hid hmay
  clear hsa hsb hmay
  generalize x.kind = k at *
  generalize x.tick = t at *
  generalize mayE x = m at *
  go_enter Tryd.func15, Tryd.ntmps15
  go_wp2_with fail
  refine (HM.out _).mono ?_
  rintro e w1 ⟨rfl, b1⟩
  have K1 := K.below b1 K.lt
  have B1 := B.trans (b1.mono B.size)
  have q0 := K1.cell 0
  clear HM K B b1
  cases m with
  | false =>
    go_wp2_with fail
    go_ret
    exact ⟨by simp, B1⟩
  | true =>
    by_cases h10 : k = 10
    · subst h10
      go_wp2_with fail
      go_ret
      exact ⟨by simp, B1⟩
    · have g10 : (k == 10) = false := beq_eq_false_iff_ne.2 h10
      by_cases h11 : k = 11
      · subst h11
        go_wp2_with fail
        go_ret
        exact ⟨by simp, B1⟩
      · have g11 : (k == 11) = false := beq_eq_false_iff_ne.2 h11
        go_wp2_with fail
        go_ret
        exact ⟨by simp [h10, h11], B1⟩
end
section
open Go.RowKit
def RD (w : World) (g : Nat) (S : Nat → Prop) (st : Option (List UInt8)) : Prop :=
  ∃ v, KB w g 62 #[v, .bool st.isSome] ∧ BS w S v (st.getD []) ∧ ¬ S g
theorem RD.keep {w w' : World} {g : Nat} {S : Nat → Prop} {st : Option (List UInt8)} (h : RD w g S st) (hs : w.heap.size ≤ w'.heap.size) (hg : w'.heap[g]? = w.heap[g]?) (hk : ∀ b, S b → b < w.heap.size → w'.heap[b]? = w.heap[b]?) : RD w' g S st := by
  obtain ⟨v, h1, h2, h3⟩ := h
  exact ⟨v, h1.keep hg, h2.keep hs hk, h3⟩
theorem RD.below {w w' : World} {g : Nat} {S : Nat → Prop} {st : Option (List UInt8)} (h : RD w g S st) (hb : Below w.heap.size w w') : RD w' g S st := by
  obtain ⟨v, h1, h2, h3⟩ := h
  exact ⟨v, h1.below hb h1.lt, h2.below' hb, h3⟩
theorem RD.lt {w : World} {g : Nat} {S : Nat → Prop} {st : Option (List UInt8)} (h : RD w g S st) : g < w.heap.size := by
  obtain ⟨v, h1, h2, h3⟩ := h
  exact h1.lt
theorem ok_any (g : Nat) (v : Value) (b : Bool) (w : World) (h : KB w g 62 #[v, .bool b]) :
    Calls Tryd.prog 33 #[.pointer (some ⟨g, 0, none⟩)] w fun e w' => e = .returned (.bool b) ∧ w = w' := by
  have c1 : w.cell? ⟨g, 1, none⟩ = some (.bool b) := h.cell 1
  go_enter Tryd.func33, Tryd.ntmps33
  go_wp2
  go_ret
  exact ⟨rfl, rfl⟩
theorem ok_nil (w : World) :
    Calls Tryd.prog 33 #[.pointer none] w fun e w' => e = .returned (.bool false) ∧ w = w' := by
  go_enter Tryd.func33, Tryd.ntmps33
  go_wp2
  go_ret
  exact ⟨rfl, rfl⟩
theorem left_yes (g : Nat) (A : Option Addr) (n c : Nat) (w : World) (h : KB w g 62 #[.slice A n c, .bool true]) :
    Calls Tryd.prog 34 #[.pointer (some ⟨g, 0, none⟩)] w fun e w' => e = .returned (.int .i64 n) ∧ w = w' := by
  have c0 : w.cell? ⟨g, 0, none⟩ = some (.slice A n c) := h.cell 0
  go_enter Tryd.func34, Tryd.ntmps34
  go_wp2_with (go_at_call 33; refine (ok_any _ _ _ _ h).mono ?_; rintro e w' ⟨rfl, rfl⟩)
  go_ret
  exact ⟨rfl, rfl⟩
theorem left_no (g : Nat) (v : Value) (w : World) (h : KB w g 62 #[v, .bool false]) :
    Calls Tryd.prog 34 #[.pointer (some ⟨g, 0, none⟩)] w fun e w' => e = .returned (.int .i64 0) ∧ w = w' := by
  go_enter Tryd.func34, Tryd.ntmps34
  go_wp2_with (go_at_call 33; refine (ok_any _ _ _ _ h).mono ?_; rintro e w' ⟨rfl, rfl⟩)
  go_ret
  exact ⟨rfl, rfl⟩
theorem left_nil (w : World) :
    Calls Tryd.prog 34 #[.pointer none] w fun e w' => e = .returned (.int .i64 0) ∧ w = w' := by
  go_enter Tryd.func34, Tryd.ntmps34
  go_wp2_with (go_at_call 33; refine (ok_nil _).mono ?_; rintro e w' ⟨rfl, rfl⟩)
  go_ret
  exact ⟨rfl, rfl⟩
theorem fail_nil (w : World) :
    Calls Tryd.prog 48 #[.pointer none] w fun e w' => e = .returned (.tuple #[]) ∧ w = w' := by
  go_enter Tryd.func48, Tryd.ntmps48
  go_wp2
  go_end0
  exact ⟨rfl, rfl⟩
theorem fail_some (g : Nat) (v : Value) (b : Bool) (w : World) (h : KB w g 62 #[v, .bool b]) :
    Calls Tryd.prog 48 #[.pointer (some ⟨g, 0, none⟩)] w fun e w' => e = .returned (.tuple #[]) ∧ w' = (w.setCell ⟨g, 0, none⟩ (.slice none 0 0)).setCell ⟨g, 1, none⟩ (.bool false) := by
  have c0 : w.cell? ⟨g, 0, none⟩ = some v := h.cell 0
  have c1 : w.cell? ⟨g, 1, none⟩ = some (.bool b) := h.cell 1
  have f0 := h.free 0
  have f1 := h.free 1
  go_enter Tryd.func48, Tryd.ntmps48
  go_wp2
  go_end0
  exact ⟨rfl, rfl⟩
theorem fail_rd (g : Nat) (S : Nat → Prop) (st : Option (List UInt8)) (w : World) (h : RD w g S st) :
    Calls Tryd.prog 48 #[.pointer (some ⟨g, 0, none⟩)] w fun e w' => e = .returned (.tuple #[]) ∧ RD w' g S none ∧ w.grownBy w' (some g) := by
  obtain ⟨v, h1, h2, h3⟩ := h
  refine (fail_some g v _ w h1).mono ?_
  rintro e w' ⟨rfl, rfl⟩
  exact ⟨rfl, ⟨_, (h1.put 0 _).put 1 _, BS.nil _ _, h3⟩, grown_trans (grown_set _ _ _ _) (grown_set _ _ _ _)⟩
theorem pass_nil (n : Int) (w : World) :
    Calls Tryd.prog 46 #[.pointer none, .int .i64 n] w fun e w' => e = .returned (.slice none 0 0) ∧ w = w' := by
  by_cases h0 : n < 0
  · go_enter Tryd.func46, Tryd.ntmps46
    go_wp2_with (first | (go_at_call 34; refine (left_nil _).mono ?_; rintro e w' ⟨rfl, rfl⟩) | (go_at_call 48; refine (fail_nil _).mono ?_; rintro e w' ⟨rfl, rfl⟩))
    go_ret
    exact ⟨rfl, rfl⟩
  · by_cases h1 : n = 0
    · subst h1
      go_enter Tryd.func46, Tryd.ntmps46
      go_wp2_with (first | (go_at_call 34; refine (left_nil _).mono ?_; rintro e w' ⟨rfl, rfl⟩) | (go_at_call 48; refine (fail_nil _).mono ?_; rintro e w' ⟨rfl, rfl⟩))
      go_ret
      exact ⟨rfl, rfl⟩
    · have h2 : 0 < n := by omega
      go_enter Tryd.func46, Tryd.ntmps46
      go_wp2_with (first | (go_at_call 34; refine (left_nil _).mono ?_; rintro e w' ⟨rfl, rfl⟩) | (go_at_call 48; refine (fail_nil _).mono ?_; rintro e w' ⟨rfl, rfl⟩))
      go_ret
      exact ⟨rfl, rfl⟩
theorem left_rd (g : Nat) (S : Nat → Prop) (st : Option (List UInt8)) (w : World) (h : RD w g S st) :
    Calls Tryd.prog 34 #[.pointer (some ⟨g, 0, none⟩)] w fun e w' => e = .returned (.int .i64 ((st.getD []).length : Int)) ∧ w = w' := by
  obtain ⟨v, h1, h2, h3⟩ := h
  cases st with
  | none => exact left_no g v w h1
  | some l =>
    obtain ⟨A, c, rfl, _⟩ := h2.form
    exact left_yes g A _ c w h1
theorem ok_rd (g : Nat) (S : Nat → Prop) (st : Option (List UInt8)) (w : World) (h : RD w g S st) :
    Calls Tryd.prog 33 #[.pointer (some ⟨g, 0, none⟩)] w fun e w' => e = .returned (.bool st.isSome) ∧ w = w' := by
  obtain ⟨v, h1, h2, h3⟩ := h
  exact ok_any g v _ w h1
theorem pass_rd (n : Int) (g : Nat) (S : Nat → Prop) (st : Option (List UInt8)) (w : World) (h : RD w g S st) :
    Calls Tryd.prog 46 #[.pointer (some ⟨g, 0, none⟩), .int .i64 n] w fun e w' => ∃ v, e = .returned v ∧ RD w' g S (passed n st).1 ∧ BS w' S v (passed n st).2 ∧ w.grownBy w' (some g) := by
  by_cases h0 : n < 0
  · have e0 : passed n st = (none, []) := by unfold passed; rw [if_pos (.inl h0)]
    rw [e0]
    clear e0
    go_enter Tryd.func46, Tryd.ntmps46
    go_wp2_with (first | (go_at_call 48; refine (fail_rd _ _ _ _ h).mono ?_; rintro e w' ⟨rfl, hr, hg⟩))
    go_ret
    exact ⟨_, rfl, hr, BS.nil _ _, hg⟩
  · by_cases h1 : ((st.getD []).length : Int) < n
    · have e0 : passed n st = (none, []) := by unfold passed; rw [if_pos (.inr h1)]
      rw [e0]
      clear e0
      go_enter Tryd.func46, Tryd.ntmps46
      go_wp2_with (first | (go_at_call 48; refine (fail_rd _ _ _ _ h).mono ?_; rintro e w' ⟨rfl, hr, hg⟩) | (go_at_call 34; refine (left_rd _ _ _ _ h).mono ?_; rintro e w' ⟨rfl, rfl⟩))
      go_ret
      exact ⟨_, rfl, hr, BS.nil _ _, hg⟩
    · have e0 : passed n st = (st.map (·.drop n.toNat), (st.getD []).take n.toNat) := by unfold passed; rw [if_neg (by omega)]
      rw [e0]
      clear e0
      by_cases h2 : n = 0
      · subst h2
        have e1 : st.map (fun l => l.drop (0 : Int).toNat) = st := by cases st <;> simp
        have e2 : (st.getD []).take (0 : Int).toNat = [] := by simp
        rw [e1, e2]
        clear e1 e2
        go_enter Tryd.func46, Tryd.ntmps46
        go_wp2_with (first | (go_at_call 34; refine (left_rd _ _ _ _ h).mono ?_; rintro e w' ⟨rfl, rfl⟩))
        go_ret
        exact ⟨_, rfl, h, BS.nil _ _, World.grownBy.refl _ _⟩
      · obtain ⟨v, k1, k2, k3⟩ := h
        have hR : RD w g S st := ⟨v, k1, k2, k3⟩
        obtain ⟨A, c, rfl, kl, kc, _⟩ := k2.form
        obtain ⟨b, o, rfl, sb, hb, hx⟩ := k2.at_ (by omega)
        cases st with
        | none => simp at h1; omega
        | some l =>
          obtain ⟨k, rfl⟩ := Int.eq_ofNat_of_zero_le (show 0 ≤ n by omega)
          simp only [Option.getD_some, Option.map_some, Int.toNat_natCast] at *
          have t1 := k2.take k (by omega)
          have t2 := k2.drop k (by omega)
          have c0 : w.cell? ⟨g, 0, none⟩ = some (.slice (some ⟨b, o, none⟩) l.length c) := k1.cell 0
          have f0 := k1.free 0
          have b1 : (k : Int) ≤ l.length := by omega
          have b2 : l.length ≤ 9223372036854775807 := by unfold maxLen at kc; omega
          have b3 : c ≤ 9223372036854775807 := kc
          have b4 : ¬ (k : Int) = 0 := h2
          clear hx hb k2
          go_enter Tryd.func46, Tryd.ntmps46
          go_wp2_with (first | (go_at_call 34; refine (left_rd _ _ _ _ hR).mono ?_; rintro e w' ⟨rfl, rfl⟩))
          all_goals go_ret
          · have hck : c = k := by assumption
            subst hck
            rw [if_pos rfl, Nat.sub_self] at t2
            exact ⟨_, rfl, ⟨_, k1.put 0 _, t2.setCell k3 _, k3⟩, t1.setCell k3 _, grown_set _ _ _ _⟩
          · have hck : ¬ c = k := by assumption
            rw [if_neg hck] at t2
            exact ⟨_, rfl, ⟨_, k1.put 0 _, t2.setCell k3 _, k3⟩, t1.setCell k3 _, grown_set _ _ _ _⟩
theorem clone_any (S : Nat → Prop) (v : Value) (l : List UInt8) (w : World) (h : BS w S v l) (hl : l.length ≤ 140737488355328) :
    Calls Tryd.prog 45 #[v] w fun e w' => Fresh w e w' l := by
  obtain ⟨i0, hi, hz0, hz1, hz2⟩ := info_parts info_byte
  go_enter Tryd.func45, Tryd.ntmps45
  go_wp2_with (at_builtin; refine wpList_grow _ rfl _ _ _ rfl w.heap.size 5 i0 Tryd.underlying25 hi hz0 hz1 hz2 (.slice none 0 0) [] rfl (World.ownsRow_nil _ _ _ _) S _ l rfl h (by simp; omega) (Nat.le_refl _) ?_; intro v1 w1 hown hg _)
  go_ret
  exact ⟨_, rfl, hown, (Below.refl _ _).grown hg (Nat.le_refl _) (by simp [Value.ownBlock])⟩
theorem new_any (S : Nat → Prop) (v : Value) (l : List UInt8) (w : World) (h : BS w S v l) (hl : l.length ≤ 140737488355328) :
    Calls Tryd.prog 29 #[v] w fun e w' => ∃ g, e = .returned (.pointer (some ⟨g, 0, none⟩)) ∧ w.heap.size ≤ g ∧ g < w'.heap.size ∧ RD w' g (fun b => w.heap.size ≤ b ∧ b < g) (some l) ∧ Below w.heap.size w w' := by
  go_enter Tryd.func29, Tryd.ntmps29
  go_wp2_with (go_at_call 45; refine (clone_any S v l _ h hl).mono ?_; rintro e w1 ⟨v1, rfl, hown, hb⟩; obtain ⟨A1, c1, rfl, _⟩ := (own_BS hown).form)
  go_ret
  have hs := hb.size
  exact ⟨_, rfl, by omega, by simp, ⟨_, KB.new _ _ _, (own_BS hown).alloc _, by omega⟩, hb.alloc hs _⟩
theorem take_rd (n : Int) (g : Nat) (S : Nat → Prop) (st : Option (List UInt8)) (w : World) (h : RD w g S st) (hl : (st.getD []).length ≤ 140737488355328) :
    Calls Tryd.prog 30 #[.pointer (some ⟨g, 0, none⟩), .int .i64 n] w fun e w' => ∃ v, e = .returned v ∧ RD w' g S (passed n st).1 ∧
      w'.ownsRow w.heap.size 5 1 v (passed n st).2.length ((passed n st).2.map bv) ∧ w.grownBy w' (some g) := by
  go_enter Tryd.func30, Tryd.ntmps30
  go_wp2_with (first | (go_at_call 46; refine (pass_rd n g S st w h).mono ?_; rintro e w1 ⟨v1, rfl, hr1, hb1, hg1⟩) | (go_at_call 45; refine (clone_any S v1 _ _ hb1 (by unfold passed; split <;> simp <;> omega)).mono ?_; rintro e w2 ⟨v2, rfl, hown, hb2⟩))
  go_ret
  have hs := hg1.size
  obtain ⟨v, k1, k2, k3⟩ := hr1
  exact ⟨_, rfl, ⟨v, k1.below hb2 k1.lt, k2.below' hb2, k3⟩, own_base hown hs, grown_trans hg1 (grown_of_below hb2 _)⟩
end
section
open Go.RowKit
theorem num_nil (w : World) :
    Calls Tryd.prog 47 #[.pointer none] w fun e w' => e = .returned (.int .u64 0) ∧ w = w' := by
  go_enter Tryd.func47, Tryd.ntmps47
  go_wp2_with (go_at_call 46; refine (pass_nil _ _).mono ?_; rintro e w' ⟨rfl, rfl⟩)
  go_ret
  exact ⟨rfl, rfl⟩
theorem shl_or (a : Nat) (b : UInt8) : (a * 256) ||| b.toNat = a * 256 + b.toNat := by
  have := b.toNat_lt
  rw [show a * 256 = a <<< 8 from by rw [Nat.shiftLeft_eq], ← Nat.shiftLeft_add_eq_or_of_lt (by omega)]
theorem or_step (a : Nat) (b : UInt8) (h : a < 72057594037927936) : bits .or .u64 (IntKind.u64.wrap ((a : Int) * 256)) (IntKind.u64.wrap (b.toNat : Int)) = ((a * 256 + b.toNat : Nat) : Int) := by
  have hb := b.toNat_lt
  rw [IntWalk.u64_in _ (by omega), IntWalk.u64_in _ (by omega), show (a : Int) * 256 = ((a * 256 : Nat) : Int) from by omega, u64_or_nat _ _ (by omega) (by omega), shl_or]
theorem pass_to (n : Int) (g : Nat) (S : Nat → Prop) (st : Option (List UInt8)) (w : World) (st' : Option (List UInt8)) (l : List UInt8) (h : RD w g S st) (hp : passed n st = (st', l)) :
    Calls Tryd.prog 46 #[.pointer (some ⟨g, 0, none⟩), .int .i64 n] w fun e w' => ∃ A c, e = .returned (.slice A l.length c) ∧ RD w' g S st' ∧ BS w' S (.slice A l.length c) l ∧ w.grownBy w' (some g) := by
  refine (pass_rd n g S st w h).mono ?_
  rintro e w' ⟨v, rfl, hr, hb, hg⟩
  rw [hp] at hr hb
  obtain ⟨A, c, rfl, _⟩ := hb.form
  exact ⟨A, c, rfl, hr, hb, hg⟩
theorem num_some (g : Nat) (S : Nat → Prop) (st : Option (List UInt8)) (w : World) (h : RD w g S st) :
    Calls Tryd.prog 47 #[.pointer (some ⟨g, 0, none⟩)] w fun e w' => e = .returned (.int .u64 (numOf st).2) ∧ RD w' g S (numOf st).1 ∧ w.grownBy w' (some g) := by
  by_cases hst : (st.getD []) = []
  · have e0 : numOf st = (none, 0) := by
      rcases st with _ | l
      · rfl
      · simp at hst; subst hst; rfl
    have e1 : passed 1 st = (none, []) := by simp [passed, hst]
    rw [e0]
    have E1 := Lib.hid e1
    clear e0 e1 hst
    go_enter Tryd.func47, Tryd.ntmps47
    go_wp2_with (go_at_call 46; refine (pass_to 1 g S st _ none [] h E1.out).mono ?_; rintro e w1 ⟨A1, c1, rfl, hr1, hb1, hg1⟩)
    go_ret
    exact ⟨rfl, hr1, hg1⟩
  · obtain ⟨x, t, rfl⟩ : ∃ x t, st = some (x :: t) := by
      rcases st with _ | l
      · simp at hst
      · rcases l with _ | ⟨x, t⟩
        · simp at hst
        · exact ⟨x, t, rfl⟩
    clear hst
    have e1 : passed 1 (some (x :: t)) = (some t, [x]) := by
      unfold passed
      rw [if_neg (by simp; omega)]
      rfl
    have E1 := Lib.hid e1
    clear e1
    have hx := x.toNat_lt
    by_cases h8 : 8 < x.toNat
    · have e0 : numOf (some (x :: t)) = (none, 0) := by simp [numOf, h8]
      rw [e0]
      clear e0
      go_enter Tryd.func47, Tryd.ntmps47
      go_wp2_with (first | (go_at_call 46; refine (pass_to 1 g S _ _ _ [x] h E1.out).mono ?_; rintro e w1 ⟨A1, c1, rfl, hr1, hb1, hg1⟩; obtain ⟨b1, o1, rfl, _, _, hc1⟩ := hb1.at_ (by simp); have k1 : w1.cell? ⟨b1, o1, none⟩ = some (.int .u8 (x.toNat : Int)) := hc1 0 x rfl; clear hc1) | (go_at_call 48; refine (fail_rd _ _ _ _ hr1).mono ?_; rintro e w2 ⟨rfl, hr2, hg2⟩))
      go_ret
      exact ⟨rfl, hr2, grown_trans hg1 hg2⟩
    · obtain ⟨st2, ds, e2, e0, hds⟩ : ∃ st2 ds, passed (x.toNat : Int) (some t) = (st2, ds) ∧ numOf (some (x :: t)) = (if ds.head? = some 0 then (none, 0) else (st2, val ds)) ∧ ds.length ≤ 8 := by
        by_cases ht : t.length < x.toNat
        · exact ⟨none, [], by simp [passed, ht], by simp [numOf, ht, val], by simp⟩
        · refine ⟨some (t.drop x.toNat), t.take x.toNat, by simp [passed, ht], ?_, by simp; omega⟩
          simp only [numOf, h8, ht, false_or]
      have E2 := Lib.hid e2
      clear e2
      rcases ds with _ | ⟨d, ds⟩
      · rw [e0]
        simp only [List.head?_nil, reduceCtorEq, if_false, val]
        clear e0 hds
        go_enter Tryd.func47, Tryd.ntmps47
        go_wp2_with fail
        refine (pass_to 1 g S _ _ _ [x] h E1.out).mono ?_
        rintro e w1 ⟨A1, c1, rfl, hr1, hb1, hg1⟩
        obtain ⟨b1, o1, rfl, _, _, hc1⟩ := hb1.at_ (by simp)
        have k1 : w1.cell? ⟨b1, o1, none⟩ = some (.int .u8 (x.toNat : Int)) := hc1 0 x rfl
        clear hc1
        go_wp2_with fail
        refine (pass_to _ g S _ _ _ [] hr1 E2.out).mono ?_
        rintro e w2 ⟨A2, c2, rfl, hr2, hb2, hg2⟩
        go_wp2
        go_loop [5, 38] (fun n i => n = .int .u64 0 ∧ i = .int .i64 0) (fun _ _ => 0)
        case atStart => exact ⟨rfl, rfl⟩
        case round =>
          obtain ⟨rfl, rfl⟩ := hrel
          go_wp2
          go_ret
          exact ⟨rfl, hr2, grown_trans hg1 hg2⟩
      · by_cases hd : d = 0
        · subst hd
          rw [e0]
          simp only [List.head?_cons, if_true]
          clear e0 hds
          go_enter Tryd.func47, Tryd.ntmps47
          go_wp2_with fail
          refine (pass_to 1 g S _ _ _ [x] h E1.out).mono ?_
          rintro e w1 ⟨A1, c1, rfl, hr1, hb1, hg1⟩
          obtain ⟨b1, o1, rfl, _, _, hc1⟩ := hb1.at_ (by simp)
          have k1 : w1.cell? ⟨b1, o1, none⟩ = some (.int .u8 (x.toNat : Int)) := hc1 0 x rfl
          clear hc1
          go_wp2_with fail
          refine (pass_to _ g S _ _ _ (0 :: ds) hr1 E2.out).mono ?_
          rintro e w2 ⟨A2, c2, rfl, hr2, hb2, hg2⟩
          obtain ⟨b2, o2, rfl, _, _, hc2⟩ := hb2.at_ (by simp)
          have k2 : w2.cell? ⟨b2, o2, none⟩ = some (.int .u8 0) := hc2 0 0 rfl
          clear hc2
          go_wp2_with (go_at_call 48; refine (fail_rd _ _ _ _ hr2).mono ?_; rintro e w3 ⟨rfl, hr3, hg3⟩)
          go_ret
          exact ⟨rfl, hr3, grown_trans hg1 (grown_trans hg2 hg3)⟩
        · rw [e0]
          have hd' : ¬ d.toNat = 0 := fun e => hd (UInt8.toNat_inj.1 (by simpa using e))
          have hd0 := d.toNat_lt
          simp only [List.head?_cons, Option.some.injEq, hd, if_false]
          obtain ⟨L, hL⟩ : ∃ L, L = d :: ds := ⟨_, rfl⟩
          rw [← hL] at hds ⊢
          have HL := Lib.hid hL
          have hlp : 0 < L.length := by rw [hL]; simp
          rw [← hL] at E2
          clear e0 hL hd
          go_enter Tryd.func47, Tryd.ntmps47
          go_wp2_with fail
          refine (pass_to 1 g S _ _ _ [x] h E1.out).mono ?_
          rintro e w1 ⟨A1, c1, rfl, hr1, hb1, hg1⟩
          obtain ⟨b1, o1, rfl, _, _, hc1⟩ := hb1.at_ (by simp)
          have k1 : w1.cell? ⟨b1, o1, none⟩ = some (.int .u8 (x.toNat : Int)) := hc1 0 x rfl
          clear hc1
          go_wp2_with fail
          refine (pass_to _ g S _ _ _ L hr1 E2.out).mono ?_
          rintro e w2 ⟨A2, c2, rfl, hr2, hb2, hg2⟩
          obtain ⟨b2, o2, rfl, _, _, hc2⟩ := hb2.at_ hlp
          have k2 : w2.cell? ⟨b2, o2, none⟩ = some (.int .u8 (d.toNat : Int)) := hc2 0 d (by rw [HL.out]; rfl)
          have HC := Lib.hid hc2
          clear hc2
          go_wp2
          go_loop [5, 38] (fun n i => ∃ k : Nat, k ≤ L.length ∧ i = .int .i64 k ∧ n = .int .u64 (val (L.take k) : Nat)) (fun _ i => L.length - (intOf i).toNat)
          case atStart => exact ⟨0, by omega, rfl, rfl⟩
          case round =>
            obtain ⟨k, hk, rfl, rfl⟩ := hrel
            by_cases hlt : k < L.length
            · have kc := HC.out k L[k] (List.getElem?_eq_getElem hlt)
              go_wp2
              go_round
              case rel =>
                refine ⟨k + 1, by omega, by go_num, ?_⟩
                rw [or_step _ _ (val_lt_seven _ (by simp; omega)), val_take_succ L k hlt]
              case measure => simp [intOf]; omega
            · go_wp2
              go_ret
              refine ⟨?_, hr2, grown_trans hg1 hg2⟩
              rw [List.take_of_length_le (by omega)]
              rfl
theorem count_some (most : Int) (h1 : most ≤ 9223372036854775807) (g : Nat) (S : Nat → Prop) (st : Option (List UInt8)) (w : World) (h : RD w g S st) :
    Calls Tryd.prog 31 #[.pointer (some ⟨g, 0, none⟩), .int .i64 most] w fun e w' => e = .returned (.int .i64 (cntOf most st).2) ∧ RD w' g S (cntOf most st).1 ∧ w.grownBy w' (some g) := by
  unfold cntOf
  obtain ⟨n, hn⟩ : ∃ n, n = (numOf st).2 := ⟨_, rfl⟩
  obtain ⟨st', hst'⟩ : ∃ s, s = (numOf st).1 := ⟨_, rfl⟩
  have hp : numOf st = (st', n) := by rw [hn, hst']
  have hc := num_some g S st w h
  rw [← hn, ← hst'] at hc
  rw [hp]
  simp only
  have HC := Lib.hid hc
  clear hc hn hst' hp
  by_cases h0 : most < 0
  · rw [if_pos (.inl h0)]
    go_enter Tryd.func31, Tryd.ntmps31
    go_wp2_with (first | (go_at_call 47; refine (HC.out).mono ?_; rintro e w1 ⟨rfl, hr, hg⟩) | (go_at_call 48; refine (fail_rd _ _ _ _ hr).mono ?_; rintro e w2 ⟨rfl, hr2, hg2⟩))
    go_ret
    exact ⟨rfl, hr2, grown_trans hg hg2⟩
  · by_cases hm : most < n
    · rw [if_pos (.inr hm)]
      have b0 : 0 ≤ most := by omega
      go_enter Tryd.func31, Tryd.ntmps31
      go_wp2_with (first | (go_at_call 47; refine (HC.out).mono ?_; rintro e w1 ⟨rfl, hr, hg⟩) | (go_at_call 48; refine (fail_rd _ _ _ _ hr).mono ?_; rintro e w2 ⟨rfl, hr2, hg2⟩))
      go_ret
      exact ⟨rfl, hr2, grown_trans hg hg2⟩
    · rw [if_neg (by omega)]
      have b0 : 0 ≤ most := by omega
      have b1 : (n : Int) ≤ most := by omega
      go_enter Tryd.func31, Tryd.ntmps31
      go_wp2_with (first | (go_at_call 47; refine (HC.out).mono ?_; rintro e w1 ⟨rfl, hr, hg⟩) | (go_at_call 48; refine (fail_rd _ _ _ _ hr).mono ?_; rintro e w2 ⟨rfl, hr2, hg2⟩))
      go_ret
      exact ⟨rfl, hr, hg⟩
theorem numOf_len (st : Option (List UInt8)) : ((numOf st).1.getD []).length ≤ (st.getD []).length := by
  unfold numOf
  split
  · split <;> simp
    omega
  · simp
theorem cntOf_len (most : Int) (st : Option (List UInt8)) : ((cntOf most st).1.getD []).length ≤ (st.getD []).length := by
  unfold cntOf
  split
  · simp
  · exact numOf_len st
theorem text_some (most : Int) (h1 : most ≤ 9223372036854775807) (g : Nat) (S : Nat → Prop) (st : Option (List UInt8)) (w : World) (h : RD w g S st) (hl : (st.getD []).length ≤ 140737488355328) :
    Calls Tryd.prog 32 #[.pointer (some ⟨g, 0, none⟩), .int .i64 most] w fun e w' => ∃ v, e = .returned v ∧ RD w' g S (txtOf most st).1 ∧
      w'.ownsRow w.heap.size 5 1 v (txtOf most st).2.length ((txtOf most st).2.map bv) ∧ w.grownBy w' (some g) := by
  have hc := count_some most h1 g S st w h
  have hcl := cntOf_len most st
  unfold txtOf
  generalize cntOf most st = r at hc hcl ⊢
  obtain ⟨st', n⟩ := r
  simp only at hc hcl ⊢
  have HC := Lib.hid hc
  have hl' : (st'.getD []).length ≤ 140737488355328 := by omega
  clear hc hcl hl
  go_enter Tryd.func32, Tryd.ntmps32
  go_wp2_with (first | (go_at_call 31; refine (HC.out).mono ?_; rintro e w1 ⟨rfl, hr, hg⟩) | (go_at_call 30; refine (take_rd _ _ _ _ _ hr hl').mono ?_; rintro e w2 ⟨v, rfl, hr2, hown, hg2⟩))
  go_ret
  exact ⟨_, rfl, hr2, own_base hown hg.size, grown_trans hg hg2⟩
end
end Go.Proofs.YtpeopkjmmmodpaaDoor
