/-
  SuV: Arguments of the statement StoreAny, opened: a list of spoils. No condition.
  SvA: StoreAny's law, over the loaded program: its parts. No condition but what each theorem names.
  SvB: StoreAny's law, over the loaded program. No condition but the table roots.
  StoreAnyW: StoreAny's law over arguments that came in. No condition but the table roots.
  StoreAnyP: THE STATEMENT StoreAny of layer: proved out of the law's contract (storeAny_law): for every input the call returns true, and the input reads as it did. No condition.
-/
import Derived.Test.YteddmnoeljakpaaGreatDoorSw47
import Derived.Test.YteddmnoeljakpaaGreatDoorSw46
import Derived.Laws.BitsAllLaws
import Derived.Test.YteddmnoeljakpaaGreatDoorCards
import Derived.Test.YteddmnoeljakpaaGreatDoorTie
import Derived.Test.YteddmnoeljakpaaGreatDoorSw01
import Derived.Stop.Joined
import Derived.SevenTiedAt
import Derived.WalkKit
import Derived.ProofKit
import Derived.OpenShut
import Derived.ShutString
import Derived.ChangeOld
import Derived.Below
set_option linter.unusedVariables false
set_option maxRecDepth 100000
namespace Go.Proofs.YteddmnoeljakpaaGreatDoor
section
open Go.RowKit Go.ChangeShapes Go.WideShapes Go.Joins
abbrev Spo := Int × UInt8 × Bool
def SpS (w : World) (v : Value) (l : List Spo) : Prop :=
  ∃ A c, v = .slice A l.length c ∧ l.length ≤ c ∧ c ≤ maxLen ∧
    (0 < l.length → ∃ b o, A = some ⟨b, o, none⟩ ∧ b < w.heap.size ∧ ∀ j q, l[j]? = some q → I64 q.1 ∧ w.cell? ⟨b, o + j * 3, none⟩ = some (.int .i64 q.1) ∧ w.cell? ⟨b, o + j * 3 + 1, none⟩ = some (.int .u8 (q.2.1.toNat : Int)) ∧ w.cell? ⟨b, o + j * 3 + 2, none⟩ = some (.bool q.2.2))
theorem SpS.form {w : World} {v : Value} {l : List Spo} (h : SpS w v l) : ∃ A c, v = .slice A l.length c ∧ l.length ≤ c ∧ c ≤ maxLen := by
  obtain ⟨A, c, e, hl, hc, _⟩ := h
  exact ⟨A, c, e, hl, hc⟩
theorem SpS.at_ {w : World} {A : Option Addr} {n c : Nat} {l : List Spo} (h : SpS w (.slice A n c) l) (hp : 0 < l.length) :
    ∃ b o, A = some ⟨b, o, none⟩ ∧ b < w.heap.size ∧ ∀ j q, l[j]? = some q → I64 q.1 ∧ w.cell? ⟨b, o + j * 3, none⟩ = some (.int .i64 q.1) ∧ w.cell? ⟨b, o + j * 3 + 1, none⟩ = some (.int .u8 (q.2.1.toNat : Int)) ∧ w.cell? ⟨b, o + j * 3 + 2, none⟩ = some (.bool q.2.2) := by
  obtain ⟨A', c', e, _, _, hx⟩ := h
  injection e with e1 e2 e3
  subst e1
  exact hx hp
theorem cells_spoil : Tryz.prog.cellsOf 59 = 3 := by kernel_rfl
theorem open_spoil {H : Type} {enc : TypeId × Value → H} {W : World} {fuel : Nat} {cs : List Value} {x : DataW H × List MemPlace}
    (h : DataW.trod enc Tryz.prog W 0 (fun _ => true) true fuel 59 cs = some x) : ∃ a : Spo, I64 a.1 ∧ cs = [.int .i64 a.1, bv a.2.1, .bool a.2.2] := by
  obtain ⟨xs, n, _, _, hl, hlen, hf⟩ := DataW.trod_struct Tryz.underlying59 h
  rw [cells_spoil] at hl
  match cs, hl with
  | [c0, c1, c2], _ =>
    have hxs : xs.length = 3 := by simpa using hlen
    have at_ : ∀ i, (hi : i < 3) → xs[i]? = some (xs[i]'(by omega)) := fun i hi => List.getElem?_eq_getElem (by omega)
    have k0 : DataW.trod enc Tryz.prog W 0 (fun _ => true) true n 3 ([c0, c1, c2].drop 0 |>.take (Tryz.prog.cellsOf 3)) = some (xs[0]'(by omega)) := (hf 0 _ rfl).trans (at_ 0 (by omega))
    have k1 : DataW.trod enc Tryz.prog W 0 (fun _ => true) true n 5 ([c0, c1, c2].drop 1 |>.take (Tryz.prog.cellsOf 5)) = some (xs[1]'(by omega)) := (hf 1 _ rfl).trans (at_ 1 (by omega))
    have k2 : DataW.trod enc Tryz.prog W 0 (fun _ => true) true n 4 ([c0, c1, c2].drop 2 |>.take (Tryz.prog.cellsOf 4)) = some (xs[2]'(by omega)) := (hf 2 _ rfl).trans (at_ 2 (by omega))
    rw [cells_i] at k0
    rw [cells_byte] at k1
    rw [cells_bool] at k2
    obtain ⟨t, e0, _, w0⟩ := DataW.trod_int Tryz.underlying3 k0
    obtain ⟨c, e1, _, w1⟩ := DataW.trod_int Tryz.underlying5 k1
    obtain ⟨s, e2, _⟩ := DataW.trod_bool Tryz.underlying4 k2
    simp at e0 e1 e2
    subst e0 e1 e2
    have ht : -9223372036854775808 ≤ t ∧ t ≤ 9223372036854775807 := by simpa [Lit.wf, IntKind.min, IntKind.max, IntKind.signed, IntKind.bits] using w0
    refine ⟨(t, byteOf c, s), ht, ?_⟩
    unfold bv
    dsimp only
    rw [byteOf_nat w1]
theorem open_spoils {H : Type} {enc : TypeId × Value → H} {W : World} {base : Nat} {v : Value} {d : DataW H} {p : List MemPlace}
    (ok : Value.okWide Tryz.prog W .any base 54 v) (h : DataW.Trod enc Tryz.prog W 0 (fun _ => true) true 54 v d p) : ∃ l : List Spo, SpS W v l := by
  obtain ⟨a0, len, cap, rfl⟩ := okWide_slice Tryz.underlying54 ok
  obtain ⟨fuel, hf⟩ := h
  rcases DataW.trod_slice Tryz.underlying54 hf with ⟨hcs, _⟩ | ⟨a, len', cap', elems, rest, n, _, hcs, _, _, hlc, hm, hel, hi, _, _⟩
  · simp [Value.cells] at hcs
    obtain ⟨rfl, rfl, rfl⟩ := hcs
    exact ⟨[], none, 0, rfl, by simp, by simp [maxLen], fun h => absurd h (by simp)⟩
  · simp [Value.cells] at hcs
    obtain ⟨rfl, rfl, rfl⟩ := hcs
    rw [cells_spoil] at hi
    have hi2 : ∀ i, i < len → ∃ q : Spo, I64 q.1 ∧ W.cell? ((a.add (i * 3)).add 0) = some (.int .i64 q.1) ∧ W.cell? ((a.add (i * 3)).add 1) = some (bv q.2.1) ∧ W.cell? ((a.add (i * 3)).add 2) = some (.bool q.2.2) := by
      intro i hil
      have := hi i hil
      rw [List.getElem?_eq_getElem (by omega)] at this
      obtain ⟨cs, hcs, htr⟩ := Option.bind_eq_some_iff.1 this
      obtain ⟨b, hb, rfl⟩ := open_spoil htr
      obtain ⟨_, _, hcell⟩ := World.cells?_some hcs
      exact ⟨b, hb, hcell 0 (by simp), hcell 1 (by simp), hcell 2 (by simp)⟩
    haveI : Inhabited Spo := ⟨(0, 0, false)⟩
    obtain ⟨f, hf⟩ := Deep.choose_lt (α := Spo) hi2
    have hlen : ((List.range len).map f).length = len := by simp
    refine ⟨(List.range len).map f, some a, cap, by rw [hlen], by omega, hm, fun h0 => ?_⟩
    rw [hlen] at h0
    obtain ⟨b, o, spot⟩ := a
    obtain ⟨_, k0, _⟩ := hf 0 h0
    have hspot : spot = none := by simpa [Addr.add] using World.cell?_spot k0
    subst hspot
    rw [add_plain, add_plain] at k0
    refine ⟨b, o, rfl, World.block_lt_of_cell? _ _ k0, fun i x hix => ?_⟩
    have hil : i < len := by
      have := (List.getElem?_eq_some_iff.1 hix).1
      omega
    simp [hil] at hix
    subst hix
    obtain ⟨hq, q0, q1, q2⟩ := hf i hil
    rw [add_plain, add_plain] at q0 q1 q2
    exact ⟨hq, q0, q1, q2⟩
end
section
open Go.RowKit
theorem FSS.one {w : World} {S S' : Nat → Prop} {l : List Fi} {X : Option Addr} {z : Nat} {t : TypeId} (h : FS w S (.slice X l.length z) l) (hS : ∀ b, S b → b < w.heap.size → S' b) (hg : S' w.heap.size) :
    FSS (w.alloc (.cells #[.slice X l.length z] t)) S' (.slice (some ⟨w.heap.size, 0, none⟩) 1 1) [l] := by
  refine ⟨_, 1, rfl, Nat.le_refl _, by unfold maxLen; omega, fun _ => ⟨w.heap.size, 0, rfl, hg, by simp, fun j q hj => ?_⟩⟩
  match j, hj with
  | 0, hj =>
    simp at hj
    subst hj
    refine ⟨X, z, (KB.new w t #[.slice X l.length z]).cell 0, ?_⟩
    obtain ⟨A, c, e, hl, hc, hx⟩ := h
    refine ⟨A, c, e, hl, hc, fun h0 => ?_⟩
    obtain ⟨b, o, ea, sb, hb, hx⟩ := hx h0
    have hk : ∀ x, x < w.heap.size → (w.alloc (.cells #[.slice X l.length z] t)).heap[x]? = w.heap[x]? := fun x hx => Below.heap_alloc w _ x hx
    refine ⟨b, o, ea, hS b sb hb, by simp; omega, fun j f hj => ?_⟩
    obtain ⟨h1, h2, ⟨Y, y, h3, h4⟩, h5⟩ := hx j f hj
    exact ⟨(World.cell?_of_block (w := w) (hk b hb)).trans h1, h2, ⟨Y, y, (World.cell?_of_block (w := w) (hk b hb)).trans h3, ((h4.lt).keep (by simp) fun x hx _ => hk x hx.2).mono fun x hx => hS x hx.1 hx.2⟩, (World.cell?_of_block (w := w) (hk b hb)).trans h5⟩
def OB (w : World) (B g c : Nat) (xs : List UInt8) : Prop := ∃ cur : List Value, KB w g 5 cur.toArray ∧ cur.take xs.length = xs.map bv ∧ xs.length ≤ c ∧ c ≤ maxLen ∧ cur.length = c ∧ B ≤ g
section
variable {w w' : World} {B g c n : Nat} {xs : List UInt8}
theorem OB.of {v : Value} (h : w.ownsRow B 5 1 v xs.length (xs.map bv)) (hl : 0 < xs.length) : ∃ g c, v = .slice (some ⟨g, 0, none⟩) xs.length c ∧ OB w B g c xs := by
  obtain ⟨_, h2⟩ := h
  rcases h2 with ⟨rfl, h0⟩ | ⟨g, cap, cur, rfl, hb, hg, hnc, hcm, hcs, htk⟩
  · omega
  · exact ⟨g, cap, rfl, cur.toList, hg, by simpa using htk, hnc, hcm, by simpa using hcs, hb⟩
theorem OB.cell (h : OB w B g c xs) {i : Nat} {x : UInt8} (hi : xs[i]? = some x) : w.cell? ⟨g, i, none⟩ = some (bv x) := by
  obtain ⟨cur, hk, ht, _⟩ := h
  rw [hk.cell]
  have hj := (List.getElem?_eq_some_iff.1 hi).1
  have : (cur.take xs.length)[i]? = some (bv x) := by rw [ht, List.getElem?_map, hi]; rfl
  rw [List.getElem?_take, if_pos hj] at this
  simpa using this
theorem OB.free (h : OB w B g c xs) (i : Nat) : w.frozen? ⟨g, i, none⟩ = false := by
  obtain ⟨cur, hk, _⟩ := h
  exact hk.free i
theorem OB.put (h : OB w B g c xs) (i : Nat) (x : UInt8) : OB (w.setCell ⟨g, i, none⟩ (bv x)) B g c (xs.set i x) := by
  obtain ⟨cur, hk, ht, hc, hm, hl, hB⟩ := h
  refine ⟨cur.set i (bv x), ?_, ?_, by simpa using hc, hm, by simpa using hl, hB⟩
  · have := hk.put i (bv x)
    simpa using this
  · rw [List.length_set, List.take_set, ht, List.map_set]
theorem OB.ge (h : OB w B g c xs) : B ≤ g := h.choose_spec.2.2.2.2.2
theorem OB.bs (h : OB w B g c xs) : BS w (fun b => b = g) (.slice (some ⟨g, 0, none⟩) xs.length c) xs := by
  have hk := h.choose_spec.1
  obtain ⟨_, _, _, hc, hm, _, _⟩ := id h
  exact ⟨_, c, rfl, hc, hm, (fun h => by cases h), fun h0 => ⟨g, 0, rfl, rfl, hk.lt, fun j u hu => by simpa using h.cell hu⟩⟩
end
theorem look_names {w : World} {a : SA} {c : CI} {nl : List Nd} {s : Dk} {br : Bool} (h : ST w a c nl s br) {k : Nat} {x : List UInt8} (hk : (namesN nl)[k]? = some x) : x.length ≤ maxLen ∧ ∃ q, lookN nl x = some q := by
  have hx : x ∈ nl.map (·.2.name) := (List.mergeSort_perm _ leB).mem_iff.1 (List.mem_of_getElem? hk)
  obtain ⟨q, hq, rfl⟩ := List.mem_map.1 hx
  obtain ⟨g, _, hn, _, hs⟩ := h.mf
  have hl := lookN_mem hn hq
  obtain ⟨v, _, a, _, _, _, hm, _⟩ := hs _ _ hl
  exact ⟨hm, q, hl⟩
theorem names_few (nl : List Nd) : (namesN nl).length = nl.length := by
  unfold namesN
  rw [(List.mergeSort_perm _ leB).length_eq, List.length_map]
theorem u8_turn (x c : UInt8) : ∃ y : UInt8, Value.int .u8 (bits .xor .u8 (x.toNat : Int) (bits .or .u8 (c.toNat : Int) 1)) = bv y := by
  have hx : x.toNat < 2 ^ 8 := x.toNat_lt
  have hc : c.toNat < 2 ^ 8 := c.toNat_lt
  have ho : c.toNat ||| 1 < 2 ^ 8 := Nat.or_lt_two_pow hc (by decide)
  have hz : x.toNat ^^^ (c.toNat ||| 1) < 2 ^ 8 := Nat.xor_lt_two_pow hx ho
  have e1 : bits .or .u8 (c.toNat : Int) 1 = ((c.toNat ||| 1 : Nat) : Int) := u8_or_nat c.toNat 1 hc (by decide)
  rw [e1, u8_xor_nat _ _ hx ho]
  generalize x.toNat ^^^ (c.toNat ||| 1) = n at *
  refine ⟨UInt8.ofNat n, ?_⟩
  unfold bv
  have e2 : (UInt8.ofNat n).toNat = n % 256 := by simp
  rw [e2, Nat.mod_eq_of_lt hz]
end
section
open Go.RowKit
set_option maxHeartbeats 8000000 in
theorem sany_no (c : CI) (hm : ¬ c.may) (v u : Value) (w : World) (ht : Tab w) : Calls Tryz.prog 5 #[cfgV c, v, u] w (Yes13 w) := by
  have B0 := (Below.refl w.heap.size w).alloc (Nat.le_refl _) (.cells #[.int .i64 c.log, .int .i64 c.files, .int .i64 c.slots, .int .i64 c.data] 23)
  have K0 := KB.new w 23 #[.int .i64 c.log, .int .i64 c.files, .int .i64 c.slots, .int .i64 c.data]
  have HLV := Lib.hid (fun W (h : Tab W) => live13_any W h)
  have HT := Lib.hid ht
  have r0 := K0.cell 0
  have r1 := K0.cell 1
  have r2 := K0.cell 2
  have r3 := K0.cell 3
  have hmy := fun W => rmay_any c W
  simp only [decide_eq_false hm] at hmy
  clear ht hm K0
  unfold cfgV at *
  go_enter Tryz.func5, Tryz.ntmps5
  go_wp2_with fail
  refine (hmy _).mono ?_
  rintro e w2 ⟨rfl, b2⟩
  have B2 := B0.trans (b2.mono B0.size)
  clear hmy b2 B0 r0 r1 r2 r3
  have hlv := HLV.out _ (HT.out.below B2)
  go_wp2_with fail
  refine hlv.mono ?_
  rintro e wL ⟨rfl, bL⟩
  have BL := B2.trans (bL.mono B2.size)
  clear hlv
  go_wp2_with fail
  go_ret
  exact ⟨rfl, BL⟩
theorem never_acted {s : Dk} (h : s.fuse = -1) : s.acted.fuse = -1 := by
  unfold Dk.acted
  show (if 0 < s.fuse then s.fuse - 1 else s.fuse) = -1
  rw [h]
  rfl
set_option maxHeartbeats 32000000 in
theorem sany_go (c : CI) (hm : c.may) (v u : Value) (l : List Fi) (bad : List Spo) (w : World) (ht : Tab w) (hv : FS w (fun b => b < w.heap.size) v l) (hu : SpS w u bad) : Calls Tryz.prog 5 #[cfgV c, v, u] w (Yes13 w) := by
  obtain ⟨A, cp, rfl, hlc, hcm⟩ := hv.form
  obtain ⟨A2, cp2, rfl, hlc2, hcm2⟩ := hu.form
  have hl63 : l.length ≤ 9223372036854775807 := by unfold maxLen at hcm; omega
  have hb63 : bad.length ≤ 9223372036854775807 := by unfold maxLen at hcm2; omega
  have B0 := (Below.refl w.heap.size w).alloc (Nat.le_refl _) (.cells #[.int .i64 c.log, .int .i64 c.files, .int .i64 c.slots, .int .i64 c.data] 23)
  have K0 := KB.new w 23 #[.int .i64 c.log, .int .i64 c.files, .int .i64 c.slots, .int .i64 c.data]
  have HLV := Lib.hid (fun W (h : Tab W) => live13_any W h)
  have HT := Lib.hid ht
  have HV := Lib.hid hv
  have HU := Lib.hid hu
  have HM := Lib.hid hm
  have r0 := K0.cell 0
  have r1 := K0.cell 1
  have r2 := K0.cell 2
  have r3 := K0.cell 3
  have hmy := fun W => rmay_any c W
  have hrs := fun W => rsize_any c W
  have HNU := Lib.hid (fun x W => num13_any x W)
  have HBG := Lib.hid (fun W (h : Tab W) => begin_any c hm W h)
  simp only [decide_eq_true hm] at hmy
  clear ht hm hv hu hlc hcm hlc2 hcm2
  obtain ⟨Z, hZ⟩ : ∃ x, x = c.size := ⟨_, rfl⟩
  rw [← hZ] at hrs
  clear hZ
  unfold cfgV at *
  go_enter Tryz.func5, Tryz.ntmps5
  go_wp2_with fail
  refine (hmy _).mono ?_
  rintro e w1 ⟨rfl, b1⟩
  have B1 := B0.trans (b1.mono B0.size)
  have K1 := K0.below b1 K0.lt
  have hli := light_any (fun _ => True) _ [l] _ (FSS.one (S' := fun _ => True) (t := 38) (HV.out.below' B1) (fun _ _ _ => trivial) trivial)
  have B2 := B1.alloc B1.size (.cells #[.slice A l.length cp] 38)
  have K2 := K1.below ((Below.refl w1.heap.size w1).alloc (Nat.le_refl _) (.cells #[.slice A l.length cp] 38)) K1.lt
  clear hmy b1 B0 B1 K0 K1 r0 r1 r2 r3
  go_wp2_with fail
  refine hli.mono ?_
  rintro e w2 ⟨t, rfl, hb, rfl⟩
  generalize w1.alloc (.cells #[.slice A l.length cp] 38) = w2 at *
  have r0 := K2.cell 0
  have r1 := K2.cell 1
  have r2 := K2.cell 2
  have r3 := K2.cell 3
  clear hli
  cases t with
  | false =>
    clear hb r0 r1 r2 r3 K2
    have hlv := HLV.out _ (HT.out.below B2)
    go_wp2_with fail
    refine hlv.mono ?_
    rintro e wL ⟨rfl, bL⟩
    have BL := B2.trans (bL.mono B2.size)
    clear hlv
    go_wp2_with fail
    go_ret
    exact ⟨rfl, BL⟩
  | true =>
    have HL := Lib.hid (hb rfl)
    clear hb
    go_wp2_with fail
    refine (hrs _).mono ?_
    rintro e w4 ⟨rfl, b4⟩
    have B4 := B2.trans (b4.mono B2.size)
    have K4 := K2.below b4 K2.lt
    clear hrs b4 B2 K2 r0 r1 r2 r3
    by_cases h200 : 200 < Z
    · have D : decide ((200 : Int) < Z) = true := decide_eq_true h200
      clear h200 K4
      have hlv := HLV.out _ (HT.out.below B4)
      go_wp2_with fail
      refine hlv.mono ?_
      rintro e wL ⟨rfl, bL⟩
      have BL := B4.trans (bL.mono B4.size)
      clear hlv
      go_wp2_with fail
      go_ret
      exact ⟨rfl, BL⟩
    · have D : decide ((200 : Int) < Z) = false := decide_eq_false h200
      by_cases h20 : 20 < bad.length
      · have D2 : decide ((20 : Int) < (bad.length : Int)) = true := decide_eq_true (by omega)
        have D2' : decide (20 < bad.length) = true := decide_eq_true h20
        clear h200 h20 K4
        have hlv := HLV.out _ (HT.out.below B4)
        go_wp2_with fail
        refine hlv.mono ?_
        rintro e wL ⟨rfl, bL⟩
        have BL := B4.trans (bL.mono B4.size)
        clear hlv
        go_wp2_with fail
        go_ret
        exact ⟨rfl, BL⟩
      · have D2 : decide ((20 : Int) < (bad.length : Int)) = false := decide_eq_false (by omega)
        have D2' : decide (20 < bad.length) = false := decide_eq_false h20
        have hbg := HBG.out _ (HT.out.below B4)
        have r0 := K4.cell 0
        have r1 := K4.cell 1
        have r2 := K4.cell 2
        have r3 := K4.cell 3
        have KK4 : Hid (∀ W, Below w4.heap.size w4 W → W.cell? ⟨w.heap.size, 0, none⟩ = some (.int .i64 c.log) ∧ W.cell? ⟨w.heap.size, 1, none⟩ = some (.int .i64 c.files) ∧ W.cell? ⟨w.heap.size, 2, none⟩ = some (.int .i64 c.slots) ∧ W.cell? ⟨w.heap.size, 3, none⟩ = some (.int .i64 c.data)) := fun W b => ⟨(K4.below b K4.lt).cell 0, (K4.below b K4.lt).cell 1, (K4.below b K4.lt).cell 2, (K4.below b K4.lt).cell 3⟩
        have HB4 := Lib.hid B4
        clear h200 h20 K4 B4
        go_wp2_with fail
        refine hbg.mono ?_
        rintro e w5 ⟨a, rfl, hst, hha, b5⟩
        have HHA := Lib.hid hha
        have B5 := HB4.out.trans (b5.mono HB4.out.size)
        have hoff : ∀ x, x < w.heap.size → ¬ a.has x := fun x hx h => by have := hha x h; have := HB4.out.size; omega
        have hdo := sdo_rest (fl := []) hst (rest_blank HM.out) rfl _ _ l (HV.out.below' B5) hoff (by have := (HL.out.2 l (List.mem_singleton_self l)).1; omega)
        have HB5 := Lib.hid b5
        have HPA : Hid (∀ x, a.p.has x → w4.heap.size ≤ x) := fun x h => HHA.out x (Or.inl h)
        have HPT : Hid (¬ a.p.has 1) := fun h => hst.sn.pt (Or.inl h)
        have hnu := HNU.out
        clear hbg hst hha b5 B5 r0 r1 r2 r3 D D2 D2' hoff
        go_wp2_with fail
        refine hdo.mono ?_
        rintro e w6 ⟨rfl, ⟨s6, hst6, hr6, hf6⟩, k6⟩
        have HD6 := Lib.hid hst6.ds
        have HN6 := Lib.hid hst6.len_nat
        have HF6 := Lib.hid hf6
        have HB6 := Lib.hid (k6.elder HB5.out HHA.out HB5.out.size)
        clear hdo hst6 hr6 hf6 k6
        go_wp2_with fail
        go_loopw [10] (fun iv wr => ∃ (k : Nat) (s : Dk), k ≤ bad.length ∧ iv = .int .i64 (k : Int) ∧ DS wr a.p s ∧ s.fuse = -1 ∧ s.safe.length = c.cn.size ∧ Below w4.heap.size w4 wr) (fun iv _ => bad.length - (intOf iv).toNat)
        case atStart => exact ⟨0, s6, by omega, rfl, HD6.out, HF6.out, HN6.out, HB6.out⟩
        case round =>
          obtain ⟨k, s, hk, rfl, hds, hf, hlen, bl⟩ := hrel
          have blw : Below w.heap.size w wr := HB4.out.trans (bl.mono HB4.out.size)
          by_cases hlt : k < bad.length
          · have hltI : (k : Int) < (bad.length : Int) := by omega
            obtain ⟨b, o, rfl, hbl, hx⟩ := HU.out.at_ (by omega)
            obtain ⟨q, hq⟩ : ∃ q, bad[k]? = some q := ⟨_, List.getElem?_eq_getElem hlt⟩
            obtain ⟨hi, j0, j1, j2⟩ := hx k q hq
            obtain ⟨N, cc, fu⟩ := q
            have q0 := (World.cell?_of_block (w := w) (blw.block b hbl)).trans j0
            have q1 := (World.cell?_of_block (w := w) (blw.block b hbl)).trans j1
            have q2 := (World.cell?_of_block (w := w) (blw.block b hbl)).trans j2
            dsimp only at q0 q1 q2 hi
            have HBL := Lib.hid bl
            clear hx hq j0 j1 j2 bl
            by_cases hin : 0 ≤ N ∧ N < (c.cn.size : Int)
            · obtain ⟨M, rfl⟩ : ∃ M : Nat, N = (M : Int) := ⟨N.toNat, by omega⟩
              have hML : M < s.safe.length := by omega
              obtain ⟨wo, hwo⟩ : ∃ x, x = wr := ⟨_, rfl⟩
              subst hwo
              have hrd := read_ok hds M hML (by rw [hf]; decide)
              have HN7 : Hid ((s.now M).length = 256) := hds.ok.now_len M hML
              have HDS := Lib.hid hds
              have HF := Lib.hid hf
              have HLN := Lib.hid hlen
              have HML := Lib.hid hML
              have HQQ : Hid (∀ W, Below wo.heap.size wo W → W.cell? ⟨b, o + k * 3, none⟩ = some (.int .i64 (M : Int)) ∧ W.cell? ⟨b, o + k * 3 + 1, none⟩ = some (.int .u8 (cc.toNat : Int)) ∧ W.cell? ⟨b, o + k * 3 + 2, none⟩ = some (.bool fu)) := fun W bb => by
                have hb2 := bb.block b (by have := blw.size; omega)
                exact ⟨(World.cell?_of_block (w := wo) hb2).trans q0, (World.cell?_of_block (w := wo) hb2).trans q1, (World.cell?_of_block (w := wo) hb2).trans q2⟩
              clear hin hds hf hlen hML blw
              go_wp2_with fail
              refine hrd.mono ?_
              rintro e w7 ⟨v7, rfl, o7, b7⟩
              have hl7 := HN7.out
              obtain ⟨g, cg, e7, ob⟩ := OB.of o7 (by omega)
              rw [hl7] at e7
              subst e7
              have HOB := Lib.hid ob
              have HB7 := Lib.hid b7
              clear hrd o7 b7 ob q0 q1 q2
              generalize hX0 : s.now M = X0 at *
              clear hX0
              go_wp2_with (go_at_call 9; refine (hnu _ _).mono ?_; rintro e w' ⟨rfl, rfl⟩)
              go_loopw [13] (fun jv wr => ∃ (m : Nat) (X : List UInt8), m ≤ 256 ∧ jv = .int .i64 (m : Int) ∧ X.length = 256 ∧ OB wr wo.heap.size g cg X ∧ Below wo.heap.size wo wr) (fun jv _ => 256 - (intOf jv).toNat)
              case atStart => exact ⟨0, X0, by omega, rfl, hl7, HOB.out, HB7.out⟩
              case round =>
                obtain ⟨m, X, hm, rfl, hX, ox, b2⟩ := hrel
                by_cases hlm : m < 256
                · have hmI : (m : Int) < 256 := by omega
                  obtain ⟨p0, p1, p2⟩ := HQQ.out _ b2
                  obtain ⟨xm, hxm⟩ : ∃ x, X[m]? = some x := ⟨_, List.getElem?_eq_getElem (by omega)⟩
                  have HXM := Lib.hid hxm
                  have HOX := Lib.hid ox
                  have HB2 := Lib.hid b2
                  clear hxm ox b2
                  cases fu with
                  | true =>
                    have ox := HOX.out
                    have hxm := ox.cell HXM.out
                    have hfr := ox.free m
                    clear HXM
                    go_wp2_with fail
                    refine wp_still_tail 14 (by kernel_rfl) (by kernel_rfl) (fun W => ((W.cell? ⟨g, m, none⟩ = some (.int .u8 (xm.toNat : Int)) ∧ W.frozen? ⟨g, m, none⟩ = false) ∧ W.cell? ⟨b, o + k * 3 + 1, none⟩ = some (.int .u8 (cc.toNat : Int))) ∧ OB W wo.heap.size g cg X ∧ Below wo.heap.size wo W) ⟨⟨⟨hxm, hfr⟩, p1⟩, ox, Below_drawn HB2.out 1⟩ ?_
                    clear hxm hfr p0 p1 p2 ox
                    rintro W2 ⟨⟨⟨kx, kf⟩, k1⟩, ox, b2⟩
                    simp only [List.take_succ_cons, List.take_zero, List.drop_succ_cons, List.drop_zero]
                    repeat still_step
                    refine wpStill_nil ?_
                    have HOX2 := Lib.hid ox
                    have HB3 := Lib.hid b2
                    clear ox b2 k1
                    go_wp2_with fail
                    go_roundw
                    case rel =>
                      obtain ⟨y, hy⟩ := u8_turn xm cc
                      rw [hy]
                      exact ⟨m + 1, X.set m y, by omega, by go_num, by rw [List.length_set]; exact hX, HOX2.out.put m y, HB3.out.setCell (p := ⟨g, m, none⟩) HOX2.out.ge _⟩
                    case measure => simp [intOf]; omega
                  | false =>
                    have ew5 : wrap64 ((cc.toNat : Nat) : Int) = ((cc.toNat : Nat) : Int) := IntWalk.wrap64_in _ (by have := cc.toNat_lt; omega)
                    by_cases hmc : (m : Int) = (cc.toNat : Int)
                    · have D5 : ((m : Int) == (cc.toNat : Int)) = true := beq_iff_eq.2 hmc
                      have D5a : (m == cc.toNat) = true := beq_iff_eq.2 (by omega)
                      clear hmc
                      have ox := HOX.out
                      have hxm := ox.cell HXM.out
                      have hfr := ox.free m
                      clear HXM
                      go_wp2_with fail
                      refine wp_still_tail 14 (by kernel_rfl) (by kernel_rfl) (fun W => ((W.cell? ⟨g, m, none⟩ = some (.int .u8 (xm.toNat : Int)) ∧ W.frozen? ⟨g, m, none⟩ = false) ∧ W.cell? ⟨b, o + k * 3 + 1, none⟩ = some (.int .u8 (cc.toNat : Int))) ∧ OB W wo.heap.size g cg X ∧ Below wo.heap.size wo W) ⟨⟨⟨hxm, hfr⟩, p1⟩, ox, Below_drawn HB2.out 1⟩ ?_
                      clear hxm hfr p0 p1 p2 ox
                      rintro W2 ⟨⟨⟨kx, kf⟩, k1⟩, ox, b2⟩
                      simp only [List.take_succ_cons, List.take_zero, List.drop_succ_cons, List.drop_zero]
                      repeat still_step
                      refine wpStill_nil ?_
                      have HOX2 := Lib.hid ox
                      have HB3 := Lib.hid b2
                      clear ox b2 k1
                      go_wp2_with fail
                      go_roundw
                      case rel =>
                        obtain ⟨y, hy⟩ := u8_turn xm cc
                        rw [hy]
                        exact ⟨m + 1, X.set m y, by omega, by go_num, by rw [List.length_set]; exact hX, HOX2.out.put m y, HB3.out.setCell (p := ⟨g, m, none⟩) HOX2.out.ge _⟩
                      case measure => simp [intOf]; omega
                    · have D5 : ((m : Int) == (cc.toNat : Int)) = false := beq_eq_false_iff_ne.2 hmc
                      have D5a : (m == cc.toNat) = false := beq_eq_false_iff_ne.2 (by omega)
                      clear hmc
                      go_wp2_with fail
                      go_roundw
                      case rel => exact ⟨m + 1, X, by omega, by go_num, hX, HOX.out, HB2.out⟩
                      case measure => simp [intOf]; omega
                · obtain rfl : m = 256 := by omega
                  obtain ⟨p0, p1, p2⟩ := HQQ.out _ b2
                  have hbs := ox.bs
                  rw [hX] at hbs
                  have hwr := write_ok (HDS.out.below b2) M HML.out (by rw [HF.out]; decide) _ _ X hbs hX
                  have BB := HBL.out.trans (b2.mono HBL.out.size)
                  clear hbs ox
                  go_wp2_with fail
                  refine hwr.mono ?_
                  rintro e w9 ⟨rfl, d9, k9⟩
                  have B9 := k9.elderP BB HPA.out BB.size
                  clear hwr
                  go_wp2_with fail
                  go_roundw
                  case rel => exact ⟨k + 1, (s.wrote M X).acted, by omega, by go_num, d9, never_acted HF.out, HLN.out, B9⟩
                  case measure => simp [intOf]; omega
            · have hc5 : chk s N = 5 := by
                unfold chk
                rw [if_neg (by rw [hf]; decide), if_pos (by rw [hlen]; omega)]
              have hrd := read_chk hds N (by rw [hc5]; decide)
              rw [hc5] at hrd
              clear hin hc5
              go_wp2_with fail
              refine hrd.mono ?_
              rintro e w7 ⟨rfl, rfl⟩
              have HDS := Lib.hid hds
              have HF := Lib.hid hf
              have HLN := Lib.hid hlen
              clear hrd hds hf hlen
              go_wp2_with (go_at_call 9; refine (hnu _ _).mono ?_; rintro e w' ⟨rfl, rfl⟩)
              go_roundw
              case rel => exact ⟨k + 1, s, by omega, by go_num, HDS.out, HF.out, HLN.out, HBL.out⟩
              case measure => simp [intOf]; omega
          · obtain rfl : k = bad.length := by omega
            have hop := sopen_any hds c HM.out (by rw [hlen]; exact sum_cn HM.out) (HT.out.below blw) HPT.out
            obtain ⟨e2, ef⟩ := openD_never c.cn.log s hf
            have hzs := openD_zero (n := c.cn.log) (s := s) (by rw [hlen]; exact (cn_log _ HM.out.ok).1) e2
            have hl1 := openD_len c.cn.log s
            rw [hlen] at hl1
            have HBL := Lib.hid bl
            obtain ⟨r0, r1, r2, r3⟩ := KK4.out _ bl
            unfold cfgV at hop
            clear hf hlen bl blw
            go_wp2_with fail
            refine hop.mono ?_
            intro e w7 ho
            have hk7 := ho.keep
            have hd7 := ho.ds
            have B7 := hk7.elderP HBL.out HPA.out HBL.out.size
            have HB7 := Lib.hid B7
            have BW7 := HB4.out.trans (B7.mono HB4.out.size)
            cases hld : ldA c (openD c.cn.log s).1 c.cn.files with
            | none =>
              obtain rfl := ho.bad e2 (by rw [ef]; decide) hld
              clear hop ho hk7 hd7 r0 r1 r2 r3 hld hzs
              have hlv := HLV.out _ (HT.out.below BW7)
              go_wp2_with (go_at_call 9; refine (hnu _ _).mono ?_; rintro e w' ⟨rfl, rfl⟩)
              refine hlv.mono ?_
              rintro e wL ⟨rfl, bL⟩
              have BL := BW7.trans (bL.mono BW7.size)
              clear hlv
              go_wp2_with fail
              go_ret
              exact ⟨rfl, BL⟩
            | some nl =>
              obtain ⟨a2, ha2, rfl, hst2, hh2⟩ := ho.good e2 (by rw [ef]; decide) nl hld
              have hid := open_idle (n := c.cn.log) (s := (openD c.cn.log s).1) (by rw [ef]; decide) hzs
              generalize (openD c.cn.log s).1 = s1 at *
              have hls := slist_any hst2
              have HLD := Lib.hid hld
              have HID := Lib.hid hid
              have HA2 := Lib.hid ha2
              have HF1 : Hid (s1.fuse ≠ 0) := by show _ ≠ _; rw [ef]; decide
              have HL1 := Lib.hid hl1
              have HS2 := Lib.hid hst2
              have HD7 := Lib.hid hd7
              clear hop ho hk7 r0 r1 r2 r3 hld hzs hid ha2 ef hl1 hst2 hd7 hh2 e2
              go_wp2_with (go_at_call 9; refine (hnu _ _).mono ?_; rintro e w' ⟨rfl, rfl⟩)
              refine hls.mono ?_
              rintro e w8 ⟨v8, rfl, o8, b8⟩
              have hop2 := sopen_any (HD7.out.below b8) c HM.out (by rw [HL1.out]; exact sum_cn HM.out) (HT.out.below (BW7.trans (b8.mono BW7.size))) HPT.out
              have B8 := HB7.out.trans (b8.mono HB7.out.size)
              obtain ⟨r0, r1, r2, r3⟩ := KK4.out _ B8
              have cs8 := CS.of_own o8
              have HB8 := Lib.hid b8
              unfold cfgV at hop2
              clear hls o8 b8 B8
              go_wp2_with fail
              refine hop2.mono ?_
              intro e w9 ho2
              have hg2 := ho2.good
              have hd9 := ho2.ds
              have hk9 := ho2.keep
              rw [HID.out] at hg2 hd9
              obtain ⟨a3, ha3, rfl, hst3, hh3⟩ := hg2 rfl HF1.out nl HLD.out
              have hst2 : ST w9 a2 c nl s1 false := (HS2.out.below HB8.out).again (by rw [HA2.out]; exact hd9) (by rw [HA2.out]; exact hk9) rfl
              have cs9 : CS w9 _ v8 _ := cs8.keep hk9.size fun x hx hlt => hk9.block x ⟨hlt, fun h => by have := HD7.out.lt x h; have := hx; omega⟩
              have B9 := hk9.elderP (HB7.out.trans (HB8.out.mono HB7.out.size)) HPA.out (HB7.out.trans (HB8.out.mono HB7.out.size)).size
              have hls3 := slist_any hst3
              have HS3 := Lib.hid hst3
              have HST2 := Lib.hid hst2
              have HC9 := Lib.hid cs9
              have HB9 := Lib.hid B9
              clear hop2 ho2 hg2 hd9 hk9 ha3 hst3 hh3 hst2 cs9 cs8 B9 r0 r1 r2 r3
              go_wp2_with (go_at_call 9; refine (hnu _ _).mono ?_; rintro e w' ⟨rfl, rfl⟩)
              refine hls3.mono ?_
              rintro e wA ⟨vA, rfl, oA, bA⟩
              have HBA := Lib.hid bA
              have csA := CS.of_own oA
              have hfew : (namesN nl).length ≤ 100000 := by rw [names_few]; have := HS3.out.few; have := HM.out.ok.files2; omega
              have hsn := rsamenames_any _ _ _ _ (namesN nl) (namesN nl) wA csA (HC9.out.below' bA) hfew hfew
              rw [decide_eq_true rfl] at hsn
              clear hls3 oA csA bA
              go_wp2_with fail
              refine hsn.mono ?_
              rintro e wB ⟨rfl, bB'⟩
              have bB := HBA.out.trans (bB'.mono HBA.out.size)
              have HSB2 := Lib.hid (HST2.out.below bB)
              have HSB3 := Lib.hid (HS3.out.below bB)
              have csB := HC9.out.below' bB
              have HBB := Lib.hid (HB9.out.trans (bB.mono HB9.out.size))
              obtain ⟨A8, c8, e8, _⟩ := csB.form
              rw [List.length_map] at e8
              subst e8
              have HCB := Lib.hid csB
              have hn63 : (namesN nl).length ≤ 9223372036854775807 := by omega
              clear hsn bB' bB csB
              go_wp2_with fail
              go_loopw [19] (fun iv wr => ∃ k : Nat, k ≤ (namesN nl).length ∧ iv = .int .i64 (k : Int) ∧ Below wB.heap.size wB wr) (fun iv _ => (namesN nl).length - (intOf iv).toNat)
              case atStart => exact ⟨0, by omega, rfl, Below.refl _ _⟩
              case round =>
                obtain ⟨i, hi, rfl, bi⟩ := hrel
                by_cases hlt2 : i < (namesN nl).length
                · have hiI : (i : Int) < ((namesN nl).length : Int) := by omega
                  obtain ⟨x, hx⟩ : ∃ x, (namesN nl)[i]? = some x := ⟨_, List.getElem?_eq_getElem hlt2⟩
                  obtain ⟨hxm, q, hlk⟩ := look_names HSB2.out hx
                  obtain ⟨bb, oo, rfl, _, _, y0⟩ := cs_str (HCB.out.below' bi) hx
                  have hrd := sread_some (HSB2.out.below bi) HF1.out hxm hlk
                  have HRD := Lib.hid (fun W (b : Below wB.heap.size wB W) => sread_some (HSB3.out.below b) HF1.out hxm hlk)
                  have HY : Hid (∀ W, Below wB.heap.size wB W → W.cell? ⟨bb, oo + i, none⟩ = some (strV x)) := fun W b => by
                    obtain ⟨b2, o2, e, _, _, h⟩ := cs_str (HCB.out.below' b) hx
                    injection e with e
                    injection e with e1 e2
                    subst e1 e2
                    exact h
                  have HBI := Lib.hid bi
                  clear hx hlk hxm bi
                  unfold strV at y0 hrd HRD HY
                  generalize (⟨x.toArray⟩ : ByteArray) = xn at *
                  generalize hNN : (namesN nl).length = NN at *
                  go_wp2_with fail
                  refine hrd.mono ?_
                  rintro e wc ⟨vc, rfl, bc, b10⟩
                  have BC := HBI.out.trans (b10.mono HBI.out.size)
                  have hrd2 := HRD.out _ BC
                  have y1 := HY.out _ BC
                  have HBC := Lib.hid bc
                  clear hrd y0 bc b10
                  go_wp2_with fail
                  refine hrd2.mono ?_
                  rintro e wd ⟨vd, rfl, bd, b11⟩
                  have BD := BC.trans (b11.mono BC.size)
                  have hsm := same_to _ _ _ _ (readN c s1 q) wd (HBC.out.below' b11) bd
                  clear hrd2 y1 bd b11 BC
                  go_wp2_with (go_at_call 9; refine (hnu _ _).mono ?_; rintro e w' ⟨rfl, rfl⟩)
                  refine hsm.mono ?_
                  rintro e we ⟨rfl, be⟩
                  have BE := BD.trans (be.mono BD.size)
                  clear hsm
                  go_wp2_with fail
                  go_roundw
                  case rel => exact ⟨i + 1, by omega, by go_num, BE⟩
                  case measure => simp [intOf]; omega
                · obtain rfl : i = (namesN nl).length := by omega
                  have BZ := HB4.out.trans ((HBB.out.trans (bi.mono HBB.out.size)).mono HB4.out.size)
                  clear bi
                  have hlv := HLV.out _ (HT.out.below BZ)
                  go_wp2_with fail
                  refine hlv.mono ?_
                  rintro e wL ⟨rfl, bL⟩
                  have BL := BZ.trans (bL.mono BZ.size)
                  clear hlv
                  go_wp2_with fail
                  go_ret
                  exact ⟨rfl, BL⟩
theorem store_any (c : CI) (v u : Value) (l : List Fi) (bad : List Spo) (w : World) (ht : Tab w) (hv : FS w (fun b => b < w.heap.size) v l) (hu : SpS w u bad) : Calls Tryz.prog 5 #[cfgV c, v, u] w (Yes13 w) := by
  by_cases hm : c.may
  · exact sany_go c hm v u l bad w ht hv hu
  · exact sany_no c hm v u w ht
end
section
open Go.RowKit Go.ChangeShapes Go.WideShapes Go.Joins
theorem storeAny_law {H : Type} (enc : TypeId × Value → H) (W : World) (base : Nat) (ht : Tab W)
    (v0 : Value) (d0 : DataW H) (p0 : List MemPlace) (v1 : Value) (d1 : DataW H) (p1 : List MemPlace) (v2 : Value) (d2 : DataW H) (p2 : List MemPlace)
    (k0 : Value.okWide Tryz.prog W .any base 23 v0) (k1 : Value.okWide Tryz.prog W .any base 38 v1) (k2 : Value.okWide Tryz.prog W .any base 54 v2)
    (h0 : DataW.Trod enc Tryz.prog W 0 (fun _ => true) true 23 v0 d0 p0) (h1 : DataW.Trod enc Tryz.prog W 0 (fun _ => true) true 38 v1 d1 p1) (h2 : DataW.Trod enc Tryz.prog W 0 (fun _ => true) true 54 v2 d2 p2) :
    Calls Tryz.prog 5 #[v0, v1, v2] W fun e W' => e = .returned (.bool true) ∧ Below W.heap.size W W' := by
  obtain ⟨c, rfl⟩ := open_cfg13 k0 h0
  obtain ⟨l, hv⟩ := open_files k1 h1
  obtain ⟨bad, hu⟩ := open_spoils k2 h2
  exact store_any c v1 v2 l bad W ht hv hu
end
end Go.Proofs.YteddmnoeljakpaaGreatDoor
section
namespace Go.Proofs.YteddmnoeljakpaaGreatDoor.storeAny
open Go.ChangeShapes Go.WideShapes Go.ChangeAt Go.RowKit
theorem own : ownKnob Tryz.prog.godebug = none := by kernel_rfl
theorem laidOut : laidOutB Tryz.prog = true := by kernel_rfl
theorem door_met (os : Os) (args : Array Value) : laidMetH Tryz.prog Rows.storeAnyRow.laid ((World.doorLaid Tryz.prog 400 os).forCall (fun _ _ => 0) ⟨#[], args, []⟩).memory :=
  laidMetH_of_parts3 (fuel := 8) (laidMet_of_run' 8 (by kernel_rfl) (by kernel_rfl)) (by kernel_rfl) (by kernel_rfl)
set_option maxRecDepth 100000 in
theorem lifted (os : Os) (started : os.Started) (H : Type) (enc : TypeId × Value → H) :
    ReturnsInHanded {} Tryz.checked os 5 .any (fun w args => (Rows.storeAnySpec.pre enc Tryz.prog Tryz.f5 [] false w args ∧ laidMetH Tryz.prog Rows.storeAnyRow.laid w) ∧ sizedMet enc Tryz.prog Tryz.f5 (OpenSpec.ofChange Rows.storeAnySpec) false w args)
      (Rows.storeAnySpec.post enc Tryz.prog Tryz.f5 false true false false) := by
  refine returnsInHanded_of_change_and (C := Tryz.checked) (X := fun w _ => laidMetH Tryz.prog Rows.storeAnyRow.laid w) (fun _ _ _ hh h => h.of_heap hh) own started (by kernel_rfl) Tryz.func5
    (ChangeSpec.witness_shaped (enc := enc) (C := Tryz.checked) (os := os) (X := fun w _ => laidMetH Tryz.prog Rows.storeAnyRow.laid w) false (World.doorLaid Tryz.prog 400 os) #[.agg #[.int .i64 0, .int .i64 0, .int .i64 0, .int .i64 0], .slice none 0 0, .slice none 0 0] 8 rfl (World.shaped_of_RefB (by kernel_rfl) (by kernel_rfl)) (by kernel_rfl) (by kernel_rfl) (by kernel_rfl) (door_met os _)) ?_
  intro W base args ds gs before hval0 hW _ _ hL _
  have hval : ∀ (j : Nat) t v, Tryz.f5.params[j]? = some t → args[j]? = some v → Value.okWide Tryz.prog W .any base t v := hval0
  have hW' := hW
  obtain ⟨p, q, hA0, hV, rfl, hfz, hnd⟩ := hW
  have hA : DataW.TrodAll enc Tryz.prog W 0 (fun _ => true) true Tryz.f5.params.toList args.toList ds p := hA0
  rw [Tryz.params5] at hA hval
  obtain ⟨v0, vs0, d0, ds0, p0, q0, hargs, rfl, rfl, h0, r0⟩ := trodAll_cons hA
  obtain ⟨v1, vs1, d1, ds1, p1, q1, rfl, rfl, rfl, h1, r1⟩ := trodAll_cons r0
  obtain ⟨v2, vs2, d2, ds2, p2, q2, rfl, rfl, rfl, h2, r2⟩ := trodAll_cons r1
  obtain ⟨rfl, rfl, rfl⟩ := trodAll_nil r2
  obtain rfl : args = #[v0, v1, v2] := by cases args; simp_all
  obtain ⟨rfl, rfl⟩ := trodVars_none hV
  have lt0 : ∀ x ∈ p0, x.block < W.heap.size := by obtain ⟨m, hm⟩ := h0; exact DataW.trod_lt m _ _ _ hm
  have lt1 : ∀ x ∈ p1, x.block < W.heap.size := by obtain ⟨m, hm⟩ := h1; exact DataW.trod_lt m _ _ _ hm
  have lt2 : ∀ x ∈ p2, x.block < W.heap.size := by obtain ⟨m, hm⟩ := h2; exact DataW.trod_lt m _ _ _ hm
  refine (storeAny_law enc W base (tab_of_laid (by kernel_rfl) hL) v0 d0 p0 v1 d1 p1 v2 d2 p2 (hval 0 _ v0 rfl rfl) (hval 1 _ v1 rfl rfl) (hval 2 _ v2 rfl rfl) h0 h1 h2).mono fun e W' ⟨he, bel⟩ => ?_
  subst he
  exact ⟨_, rfl, _, _, _, [], _, [], hW', trodAll_mk1 (shut_bool Tryz.underlying4 _), (trodAll_cons_mk (Below.trod laidOut (by kernel_rfl) (of_decide_eq_true (by kernel_rfl)) h0 bel lt0) (trodAll_cons_mk (Below.trod laidOut (by kernel_rfl) (of_decide_eq_true (by kernel_rfl)) h1 bel lt1) (trodAll_cons_mk (Below.trod laidOut (by kernel_rfl) (of_decide_eq_true (by kernel_rfl)) h2 bel lt2) trodAll_mk0))), rfl, bel.frame _, fun h => by cases h⟩
theorem over : Rows.storeAnyRow.holds Tryz.pinned (OpenSpec.ofChange Rows.storeAnySpec) :=
  OpenClaim.holds_of_wide 5 Tryz.f5 rfl rfl rfl rfl rfl rfl rfl ⟨rfl, rfl, rfl, rfl, rfl⟩ rfl rfl rfl rfl rfl (by kernel_rfl) Tryz.func5 (by kernel_rfl)
    (of_decide_eq_true (by kernel_rfl)) (by unfold Func.isWrapper; first | (rw [if_pos (by decide +kernel)]; kernel_rfl) | (rw [if_neg (by decide +kernel)]; exact ⟨rfl, rfl⟩))
    (fun os started H enc _ => lifted os started H enc)
theorem proved : Rows.StoreAnySaid := over
theorem row_tie : Rows.storeAnyRow.laidByTextAt .later Tryz.pinned [.data] true := storeAny_row_tie
theorem card : Rows.StoreAnyCardSaid :=
  Claim7.holds_tied_plain_at .later [] [.data] true Rows.storeAnyCard.stood.harness false
    over (fun _ h => by cases h) (by kernel_rfl) (fun _ h => by cases h) row_tie rfl ⟨rfl, rfl⟩ (by kernel_rfl) rfl
    (fun f fn hf hfn => by
      obtain rfl : f = 5 := Option.some.inj ((show Tryz.prog.funcNamed Rows.storeAnyRow.func = some 5 by kernel_rfl).symm.trans hf) |>.symm
      obtain rfl : fn = Tryz.f5 := (Option.some.inj (Tryz.func5.symm.trans hfn)).symm
      exact ⟨by kernel_rfl, fun j t ht => by
        rw [Tryz.params5] at ht
        have hm : t ∈ [23, 38, 54] := by simpa using Array.mem_of_getElem? ht
        have hall : ([23, 38, 54].all fun u => !Tryz.prog.wantsStandIn u) = true := by kernel_rfl
        exact (show Tryz.prog.wantsStandIn t = false by simpa using List.all_eq_true.1 hall t hm)⟩)
    (by kernel_rfl)
end Go.Proofs.YteddmnoeljakpaaGreatDoor.storeAny
end
