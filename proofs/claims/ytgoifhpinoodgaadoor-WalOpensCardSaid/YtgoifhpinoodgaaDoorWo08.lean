/-
  Clone: bytes.Clone, over the loaded program: its contract. No condition but the sizes that it names.
  DkE: Read and Image, over the loaded program. No condition but what each theorem names.
  Lay: DERIVED: THE SHELF's CONTRACTS AT THIS DUMP, IN PLAIN WORDS (tools/lay-plain.mjs out of 'YtgoifhpinoodgaaDoorLay.lean', which tools/lay-shelf.mjs wrote): THE SAME DECLARATIONS UNDER THE SAME NAMES: 'import', 'namespace', 'open', 'def', 'theorem' AND NOTHING ELSE: no command of the shelf's: FOR A HAND-IN. Each laying: the table of numbers ('.._ren') and one theorem, a field a fact of the dump's own or the kernel's comparison; each contract: ONE APPLICATION.
  DkK: The keys of a map of sectors, sorted: the library's two calls, over the loaded program. No condition but what each theorem names.
-/
import Derived.Test.YtgoifhpinoodgaaDoorWo00
import Derived.WalkSpells
import Derived.Test.YtgoifhpinoodgaaDoorWo07
import Derived.Shelf.SlGeneric
import Derived.Shelf.SlIterI.Sorted
import Derived.Shelf.SortM.Plain
import Derived.Shelf.SortM.SortNone
import Derived.Test.YtgoifhpinoodgaaDoorProg
import Derived.Test.YtgoifhpinoodgaaDoorWo06
import Derived.WalkKit

section
namespace Go.Proofs.YtgoifhpinoodgaaDoor
open Go.RowKit
set_option maxRecDepth 100000
set_option linter.unusedVariables false

/-- bytes.Clone: the same bytes; new memory, but for nil. -/
theorem clone2_any (S : Nat → Prop) (v : Value) (l : List UInt8) (w : World) (h : BS w S v l) (hl : l.length ≤ 140737488355328) :
    Calls Tryd.prog 32 #[v] w fun e w' => Fresh w e w' l := by
  obtain ⟨i0, hi, hz0, hz1, hz2⟩ := info_parts info_byte
  obtain ⟨A, c, rfl, _, _, hn⟩ := h.form
  have heq := fun (a : Option Addr) (l c : Nat) (w : World) => Lib.run_eql_slice_nil (P := Tryd.prog) w 34 5 a l c 0 0 Tryd.underlying34
  cases A with
  | none =>
    obtain rfl := hn rfl
    have h0 : l = [] := by
      apply List.eq_nil_of_length_eq_zero
      obtain ⟨_, _, e, hl', _⟩ := h
      injection e with _ _ e3
      omega
    subst h0
    go_enter Tryd.func32, Tryd.ntmps32
    go_wp2_with fail
    go_ret
    exact ⟨_, rfl, World.ownsRow_nil _ _ _ _, Below.refl _ _⟩
  | some ad =>
    have hx := h.alloc (.cells #[] 5)
    go_enter Tryd.func32, Tryd.ntmps32
    go_wp2_with (at_builtin; refine wpList_grow _ rfl _ _ _ rfl w.heap.size 5 i0 Tryd.underlying34 hi hz0 hz1 hz2 (.slice (some ⟨w.heap.size, 0, none⟩) 0 0) [] rfl (World.ownsRow_lit w #[] 0 (Nat.le_refl _) (by simp [maxLen]) rfl) S _ l rfl hx (by simp; omega) (by simp) ?_; intro v1 w1 hown hg _)
    go_ret
    exact ⟨_, rfl, hown, ((Below.refl _ _).alloc (Nat.le_refl _) _).grown hg (by simp) (by simp [Value.ownBlock])⟩
end Go.Proofs.YtgoifhpinoodgaaDoor
end

section
namespace Go.Proofs.YtgoifhpinoodgaaDoor
open Go.RowKit
set_option maxRecDepth 100000
set_option linter.unusedVariables false

/-- What was written to i last. -/
def Dk.now (s : Dk) (i : Nat) : List UInt8 := (s.pend i).getD (s.safe.getD i [])
theorem Dk.ok.now_len {s : Dk} (h : s.ok) (i : Nat) (hi : i < s.safe.length) : (s.now i).length = 256 := by
  unfold Dk.now
  cases hp : s.pend i with
  | some l => exact (h.pend i l hp).2
  | none =>
    rw [Option.getD_none, List.getD_eq_getElem?_getD, List.getElem?_eq_getElem hi]
    exact h.len _ (List.getElem_mem hi)
/-- A sector's block, as a slice. -/
theorem KB.sl {w : World} {g : Nat} {t : TypeId} {l : List UInt8} (h : KB w g t (l.map bv).toArray) (hn : l.length = 256) : BS w (fun b => b = g) (.slice (some ⟨g, 0, none⟩) 256 256) l := by
  rw [← hn]
  refine ⟨_, _, rfl, Nat.le_refl _, by rw [hn]; unfold maxLen; omega, (fun h => by cases h), fun _ => ⟨g, 0, rfl, rfl, h.lt, fun j u hu => ?_⟩⟩
  rw [Nat.zero_add, h.cell]
  simp [hu]

/-- What Read hands back: bytes in new memory. -/
def ReadAs (w : World) (l : List UInt8) (e : Ending) (w' : World) : Prop :=
  ∃ v, e = .returned (.tuple #[v, .int .i64 0]) ∧ w'.ownsRow w.heap.size 5 1 v l.length (l.map bv) ∧ Below w.heap.size w w'

set_option maxRecDepth 100000 in
set_option maxHeartbeats 1000000 in
/-- Read, of a sector that is there. -/
theorem read_ok {w : World} {p : DA} {s : Dk} (h : DS w p s) (i : Nat) (hi : i < s.safe.length) (hf : s.fuse ≠ 0) :
    Calls Tryd.prog 13 #[.pointer (some ⟨p.d, 0, none⟩), .int .i64 (i : Int)] w (ReadAs w (s.now i)) := by
  have hc := check_any h i
  rw [show chk s i = 0 from by simp [chk, hf]; omega] at hc
  have hlen := h.ok.now_len i hi
  obtain ⟨Z, hZ⟩ : ∃ Z, Z = (z256.map bv).toArray := ⟨_, rfl⟩
  have hz : ∀ w : World, (zeroValue 75).run Tryd.prog w = .ok (.agg Z) w := by rw [hZ]; exact zero_sec
  have HK : KB (w.alloc (.cells Z 75)) w.heap.size 75 (z256.map bv).toArray := by rw [hZ]; exact KB.new _ _ _
  have D1 := h.below ((Below.refl w.heap.size w).alloc (Nat.le_refl _) (.cells Z 75))
  have B1 := (Below.refl w.heap.size w).alloc (Nat.le_refl _) (.cells Z 75)
  have hlt := h.lt
  have hN := h.ok.few
  have hcl := fun (l : List UInt8) (W : World) (hk : KB W w.heap.size 75 (l.map bv).toArray) (hl : l.length = 256) => clone2_any _ _ l W (hk.sl hl) (by omega)
  have c1 := h.c1
  have HCL := Lib.hid hcl
  clear hf hZ hcl
  cases hp : s.pend i with
  | some l =>
    have hnow : s.now i = l := by simp [Dk.now, hp]
    rw [hnow] at hlen ⊢
    have HL := Lib.hid hlen
    have HP := Lib.hid hp
    clear hlen hnow hp
    go_enter Tryd.func13, Tryd.ntmps13
    go_wp2_with (first
      | (go_at_call 30; refine hc.mono ?_; rintro e w' ⟨rfl, rfl⟩)
      | (refine wpList_look_pm rfl (.tmp 19) (.tmp 20) rfl p.m _ _ rfl h.pm i (by omega) rfl (.tuple #[secV l, .bool true]) (by rw [HP.out]; rfl) ?_)
      | (refine wpList_store_kb rfl 75 (.tmp 7) (.tmp 22) rfl w.heap.size (l.map bv) rfl rfl 75 _ HK 256 cells_sec (by rw [List.length_map, z256_len]) (by rw [List.length_map, HL.out]) (bytes_one _) ?_; intro w4 k4 g4)
      | (go_at_call 32; refine (HCL.out l _ k4 HL.out).mono ?_; rintro e w5 ⟨v5, rfl, how5, b5⟩))
    go_ret2
    have B4 : Below w.heap.size w w4 := B1.grown g4 B1.size fun g e => by injection e with e; omega
    exact ⟨v5, rfl, own_base how5 B4.size, B4.trans (b5.mono B4.size)⟩
  | none =>
    have hnow : s.now i = s.safe[i] := by simp [Dk.now, hp, List.getD_eq_getElem?_getD, List.getElem?_eq_getElem hi]
    rw [hnow] at hlen ⊢
    have hr := fun (W : World) (hd : DS W p s) => hd.sf.sec h.ok.len i hi
    generalize s.safe[i] = l at *
    have HL := Lib.hid hlen
    have HP := Lib.hid hp
    have HR := Lib.hid hr
    have hd4 : ∀ w4, (w.alloc (.cells Z 75)).grownBy w4 (some w.heap.size) → DS w4 p s := fun w4 g4 => D1.keep fun x hx => g4.block x (D1.lt x hx) fun e => by
      have := hlt x hx
      injection e with e
      omega
    have HD := Lib.hid hd4
    clear hlen hnow hp hr hd4
    go_enter Tryd.func13, Tryd.ntmps13
    go_wp2_with (first
      | (go_at_call 30; refine hc.mono ?_; rintro e w' ⟨rfl, rfl⟩)
      | (refine wpList_look_pm rfl (.tmp 19) (.tmp 20) rfl p.m _ _ rfl h.pm i (by omega) rfl (.tuple #[secV z256, .bool false]) (by rw [HP.out]; rfl) ?_)
      | (refine wpList_store_kb rfl 75 (.tmp 7) (.tmp 22) rfl w.heap.size (z256.map bv) rfl rfl 75 _ HK 256 cells_sec (by rw [List.length_map, z256_len]) (by rw [List.length_map, z256_len]) (bytes_one _) ?_; intro w4 k4 g4; have D4 := HD.out w4 g4; have c0 := D4.c0)
      | (refine wpList_load_part rfl 75 (.tmp 31) rfl p.b (i * 256) rfl (l.map bv) (HR.out _ D4) _ Tryd.underlying75 rfl 256 cells_sec (by rw [List.length_map, HL.out]) ?_)
      | (refine wpList_store_kb rfl 75 (.tmp 7) (.tmp 32) rfl w.heap.size (l.map bv) rfl rfl 75 _ k4 256 cells_sec (by rw [List.length_map, z256_len]) (by rw [List.length_map, HL.out]) (bytes_one _) ?_; intro w6 k6 g6)
      | (go_at_call 32; refine (HCL.out l _ k6 HL.out).mono ?_; rintro e w5 ⟨v5, rfl, how5, b5⟩))
    go_ret2
    have B4 : Below w.heap.size w w6 := (B1.grown g4 B1.size fun g e => by injection e with e; omega).grown g6 (by have := g4.size; have := B1.size; omega) fun g e => by injection e with e; omega
    exact ⟨v5, rfl, own_base how5 B4.size, B4.trans (b5.mono B4.size)⟩
theorem read_chk {w : World} {p : DA} {s : Dk} (h : DS w p s) (i : Int) (hne : chk s i ≠ 0) :
    Calls Tryd.prog 13 #[.pointer (some ⟨p.d, 0, none⟩), .int .i64 i] w fun e w' => e = .returned (.tuple #[.slice none 0 0, .int .i64 (chk s i)]) ∧ w = w' := by
  have hc := check_any h i
  generalize chk s i = c at *
  have hne2 : (c == 0) = false := by simpa using hne
  have hne3 : (c != 0) = true := by simpa using hne
  go_enter Tryd.func13, Tryd.ntmps13
  go_wp2_with (go_at_call 30; refine hc.mono ?_; rintro e w' ⟨rfl, rfl⟩)
  go_ret2
  exact ⟨rfl, rfl⟩
theorem read_nil (w : World) (i : Int) : Calls Tryd.prog 13 #[.pointer none, .int .i64 i] w fun e w' => e = .returned (.tuple #[.slice none 0 0, .int .i64 9]) ∧ w = w' := by
  go_enter Tryd.func13, Tryd.ntmps13
  go_wp2_with (go_at_call 30; refine (check_nil _ _).mono ?_; rintro e w' ⟨rfl, rfl⟩)
  go_ret2
  exact ⟨rfl, rfl⟩
end Go.Proofs.YtgoifhpinoodgaaDoor
end

section
namespace Go.Proofs
open Go.Shelf
def Tryd.laysKeys_ren : Go.Shelf.Ren := ⟨fun | 7 => 72 | 10 => 87 | n => n, fun | 23 => 63 | 26 => 3 | 3 => 75 | 28 => 111 | 0 => 0 | 27 => 110 | 33 => 128 | 4 => 4 | n => n, fun | n => n⟩
theorem Tryd.laysKeys : Go.Proofs.SlLaysZI.n7 Tryd.prog Tryd.laysKeys_ren := {
  mixed := by kernel_rfl
  f7 := ⟨Tryd.f72.name, by decide, Tryd.func72.trans (congrArg some (by kernel_rfl))⟩
  f10 := ⟨Tryd.f87.name, by decide, Tryd.func87.trans (congrArg some (by kernel_rfl))⟩
  t0 := Tryd.underlying0
  a0 := Tryd.isAgg0
  z0 := Tryd.sizeOf0
  v0 := Tryd.zeroValue0
  t4 := Tryd.underlying4
  a4 := Tryd.isAgg4
  z4 := Tryd.sizeOf4
  v4 := Tryd.zeroValue4
  t23 := Tryd.underlying63
  a23 := Tryd.isAgg63
  z23 := Tryd.sizeOf63
  v23 := Tryd.zeroValue63
  t26 := Tryd.underlying3
  a26 := Tryd.isAgg3
  z26 := Tryd.sizeOf3
  v26 := Tryd.zeroValue3
  t27 := Tryd.underlying110
  a27 := Tryd.isAgg110
  z27 := Tryd.sizeOf110
  v27 := Tryd.zeroValue110
  t28 := Tryd.underlying111
  a28 := Tryd.isAgg111
  z28 := Tryd.sizeOf111
  v28 := Tryd.zeroValue111
  t33 := Tryd.underlying128
  a33 := Tryd.isAgg128
  z33 := Tryd.sizeOf128
  v33 := Tryd.zeroValue128 }
def Tryd.laysSorted_ren : Go.Shelf.Ren := ⟨fun | 6 => 71 | 8 => 85 | 9 => 86 | 11 => 97 | 13 => 99 | 12 => 98 | 23 => 117 | 24 => 118 | 14 => 108 | 15 => 109 | 16 => 110 | 17 => 111 | 18 => 112 | 19 => 113 | 20 => 114 | 21 => 115 | 22 => 116 | 25 => 123 | 26 => 124 | 27 => 125 | 28 => 126 | 29 => 127 | 30 => 128 | 31 => 129 | n => n, fun | 26 => 3 | 28 => 111 | 24 => 94 | 0 => 0 | 3 => 3 | 37 => 96 | 48 => 97 | 50 => 67 | 4 => 4 | 40 => 152 | 39 => 151 | 45 => 156 | 5 => 5 | 9 => 9 | 51 => 163 | 55 => 167 | 57 => 169 | 58 => 132 | 33 => 128 | n => n, fun | n => n⟩
theorem Tryd.laysSorted : Go.Proofs.SlLaysZI.n6 Tryd.prog Tryd.laysSorted_ren := {
  mixed := by kernel_rfl
  f6 := ⟨Tryd.f71.name, by decide, Tryd.func71.trans (congrArg some (by kernel_rfl))⟩
  f8 := ⟨Tryd.f85.name, by decide, Tryd.func85.trans (congrArg some (by kernel_rfl))⟩
  f11 := ⟨Tryd.f97.name, by decide, Tryd.func97.trans (congrArg some (by kernel_rfl))⟩
  t0 := Tryd.underlying0
  a0 := Tryd.isAgg0
  z0 := Tryd.sizeOf0
  v0 := Tryd.zeroValue0
  t24 := Tryd.underlying94
  a24 := Tryd.isAgg94
  z24 := Tryd.sizeOf94
  v24 := Tryd.zeroValue94
  t26 := Tryd.underlying3
  a26 := Tryd.isAgg3
  z26 := Tryd.sizeOf3
  v26 := Tryd.zeroValue3
  t28 := Tryd.underlying111
  a28 := Tryd.isAgg111
  z28 := Tryd.sizeOf111
  v28 := Tryd.zeroValue111
  i26 := by kernel_rfl }
def Tryd.laysSort_ren : Go.Shelf.Ren := ⟨fun | 5 => 86 | 8 => 99 | 7 => 98 | 19 => 117 | 20 => 118 | 10 => 108 | 11 => 109 | 12 => 110 | 13 => 111 | 14 => 112 | 15 => 113 | 16 => 114 | 17 => 115 | 18 => 116 | 30 => 123 | 31 => 124 | 32 => 125 | 33 => 126 | 34 => 127 | 35 => 128 | 40 => 129 | n => n, fun | 23 => 94 | 25 => 3 | 3 => 3 | 32 => 96 | 22 => 94 | 0 => 0 | 44 => 97 | 46 => 67 | 4 => 4 | 36 => 152 | 35 => 151 | 41 => 156 | 5 => 5 | 9 => 9 | 53 => 163 | 57 => 167 | 63 => 169 | 64 => 132 | n => n, fun | n => n⟩
theorem Tryd.laysSort : Go.Proofs.SlLaysM.n5 Tryd.prog Tryd.laysSort_ren := {
  mixed := by kernel_rfl
  f5 := ⟨Tryd.f86.name, by decide, Tryd.func86.trans (congrArg some (by kernel_rfl))⟩
  f7 := ⟨Tryd.f98.name, by decide, Tryd.func98.trans (congrArg some (by kernel_rfl))⟩
  f8 := Tryd.func99.trans (congrArg some (by kernel_rfl))
  f10 := ⟨Tryd.f108.name, by decide, Tryd.func108.trans (congrArg some (by kernel_rfl))⟩
  f11 := ⟨Tryd.f109.name, by decide, Tryd.func109.trans (congrArg some (by kernel_rfl))⟩
  f12 := ⟨Tryd.f110.name, by decide, Tryd.func110.trans (congrArg some (by kernel_rfl))⟩
  f13 := ⟨Tryd.f111.name, by decide, Tryd.func111.trans (congrArg some (by kernel_rfl))⟩
  f14 := ⟨Tryd.f112.name, by decide, Tryd.func112.trans (congrArg some (by kernel_rfl))⟩
  f15 := ⟨Tryd.f113.name, by decide, Tryd.func113.trans (congrArg some (by kernel_rfl))⟩
  f16 := ⟨Tryd.f114.name, by decide, Tryd.func114.trans (congrArg some (by kernel_rfl))⟩
  f17 := ⟨Tryd.f115.name, by decide, Tryd.func115.trans (congrArg some (by kernel_rfl))⟩
  f18 := ⟨Tryd.f116.name, by decide, Tryd.func116.trans (congrArg some (by kernel_rfl))⟩
  f19 := Tryd.func117.trans (congrArg some (by kernel_rfl))
  f20 := Tryd.func118.trans (congrArg some (by kernel_rfl))
  f30 := ⟨Tryd.f123.name, by decide, Tryd.func123.trans (congrArg some (by kernel_rfl))⟩
  f31 := Tryd.func124.trans (congrArg some (by kernel_rfl))
  f32 := Tryd.func125.trans (congrArg some (by kernel_rfl))
  f33 := ⟨Tryd.f126.name, by decide, Tryd.func126.trans (congrArg some (by kernel_rfl))⟩
  f34 := ⟨Tryd.f127.name, by decide, Tryd.func127.trans (congrArg some (by kernel_rfl))⟩
  f35 := ⟨Tryd.f128.name, by decide, Tryd.func128.trans (congrArg some (by kernel_rfl))⟩
  f40 := ⟨Tryd.f129.name, by decide, Tryd.func129.trans (congrArg some (by kernel_rfl))⟩
  t0 := Tryd.underlying0
  a0 := Tryd.isAgg0
  z0 := Tryd.sizeOf0
  v0 := Tryd.zeroValue0
  t3 := Tryd.underlying3
  a3 := Tryd.isAgg3
  z3 := Tryd.sizeOf3
  v3 := Tryd.zeroValue3
  t4 := Tryd.underlying4
  a4 := Tryd.isAgg4
  z4 := Tryd.sizeOf4
  v4 := Tryd.zeroValue4
  t5 := Tryd.underlying5
  a5 := Tryd.isAgg5
  z5 := Tryd.sizeOf5
  v5 := Tryd.zeroValue5
  t9 := Tryd.underlying9
  a9 := Tryd.isAgg9
  z9 := Tryd.sizeOf9
  v9 := Tryd.zeroValue9
  t22 := Tryd.underlying94
  a22 := Tryd.isAgg94
  z22 := Tryd.sizeOf94
  v22 := Tryd.zeroValue94
  t23 := Tryd.underlying94
  a23 := Tryd.isAgg94
  z23 := Tryd.sizeOf94
  v23 := Tryd.zeroValue94
  t25 := Tryd.underlying3
  a25 := Tryd.isAgg3
  z25 := Tryd.sizeOf3
  v25 := Tryd.zeroValue3
  t32 := Tryd.underlying96
  a32 := Tryd.isAgg96
  z32 := Tryd.sizeOf96
  v32 := Tryd.zeroValue96
  t35 := Tryd.underlying151
  a35 := Tryd.isAgg151
  z35 := Tryd.sizeOf151
  v35 := Tryd.zeroValue151
  t36 := Tryd.underlying152
  a36 := Tryd.isAgg152
  z36 := Tryd.sizeOf152
  v36 := Tryd.zeroValue152
  t41 := Tryd.underlying156
  a41 := Tryd.isAgg156
  z41 := Tryd.sizeOf156
  v41 := Tryd.zeroValue156
  t44 := Tryd.underlying97
  a44 := Tryd.isAgg97
  z44 := Tryd.sizeOf97
  v44 := Tryd.zeroValue97
  t46 := Tryd.underlying67
  a46 := Tryd.isAgg67
  z46 := Tryd.sizeOf67
  v46 := Tryd.zeroValue67
  t53 := Tryd.underlying163
  a53 := Tryd.isAgg163
  z53 := Tryd.sizeOf163
  v53 := Tryd.zeroValue163
  t57 := Tryd.underlying167
  a57 := Tryd.isAgg167
  z57 := Tryd.sizeOf167
  v57 := Tryd.zeroValue167
  t63 := Tryd.underlying169
  a63 := Tryd.isAgg169
  z63 := Tryd.sizeOf169
  v63 := Tryd.zeroValue169
  t64 := Tryd.underlying132
  a64 := Tryd.isAgg132
  z64 := Tryd.sizeOf132
  v64 := Tryd.zeroValue132 }
end Go.Proofs
end

section
namespace Go.Proofs.YtgoifhpinoodgaaDoor
open Go.RowKit Go.Maps
set_option maxRecDepth 100000
set_option linter.unusedVariables false

theorem sorts_in (m : Nat) : AnyZI.SortsIn Tryd.prog Tryd.laysSorted_ren Fence.wide m :=
  ⟨fun blk off cap ss W hH hblk hsz => callsIn_wide.2 (AnyM.slices_Sort_int Tryd.laysSort blk off cap ss W hH hblk hsz),
   fun p cap W => callsIn_wide.2 (AnyM.slices_Sort_int_none Tryd.laysSort p cap W)⟩

/-- maps.Keys. -/
theorem dkeys_any (m : Option Nat) (w : World) : Calls Tryd.prog 72 #[.map m] w fun e w' =>
    e = .returned (.func (.func 87) #[] #[.pointer (some ⟨w.heap.size, 0, none⟩)]) ∧ w' = w.alloc (.cells #[.map m] 63) :=
  (callsIn_wide (n := 5)).1 (AnyZI.keys_in Tryd.laysKeys Fence.wide 5 trivial rfl m w)

set_option maxHeartbeats 1000000 in
/-- slices.Sorted of these: the numbers at which the map holds something, rising. -/
theorem sorted_any (m N : Nat) (f : Nat → Option (List UInt8)) (w : World) (h : PM w m f N) (hf : ∀ i l, f i = some l → i < N) (hN : N ≤ 1000000) :
    Calls Tryd.prog 71 #[.func (.func 87) #[] #[.pointer (some ⟨w.heap.size, 0, none⟩)]] (w.alloc (.cells #[.map (some m)] 63)) fun e w' =>
      ∃ v, e = .returned v ∧ w'.ownsRow w.heap.size 3 1 v (held f N).length ((held f N).map fun i : Nat => .int .i64 (i : Int)) ∧ Below w.heap.size w w' := by
  obtain ⟨D, hown, ht⟩ := h
  have hbl := hown.lt
  have hsz : Maps.size D ≤ N := hown.size_le
  have hseq : SeqGives Fence.wide 2 Tryd.prog 87 #[.pointer (some ⟨w.heap.size, 0, none⟩)] encZ (fun ss => ss.Perm (intKeys D)) (Maps.size D) (w.alloc (.cells #[.map (some m)] 63)) :=
    AnyZI.keys_gives (ρ := Tryd.laysKeys_ren) { Tryd.laysKeys with } Fence.wide _ trivial rfl (by omega) w.heap.size m N D _ (by simp) (by simp) (by
      obtain ⟨es, clock, hb, Ft, hs, hD⟩ := hown
      exact ⟨es, clock, (Below.heap_alloc _ _ m hbl).trans hb, Ft, hs, hD⟩)
  have hc := AnyZI.sorted_in Tryd.laysSorted Fence.wide 5 trivial trivial trivial trivial rfl (by omega) (sorts_in _) (enters_of Tryd.func86 (by kernel_rfl) rfl) 87 #[.pointer (some ⟨w.heap.size, 0, none⟩)] trivial (enters_of Tryd.func87 (by kernel_rfl) rfl) _ _ (by unfold maxLen; omega) (by omega) _ hseq
  refine ((callsIn_wide (n := 5)).1 hc).mono ?_
  rintro e w' ⟨v, ss, rfl, hS, hrow, _, hb⟩
  refine ⟨v, rfl, ?_, ((Below.refl _ w).alloc (Nat.le_refl _) _).trans (hb.mono (by simp))⟩
  have e1 := sorted_keys hown ht hf hS
  have e2 : ss.length = (held f N).length := by rw [← List.length_mergeSort (le := fun x y : Int => decide (x ≤ y)) ss, e1, List.length_map]
  rw [e1, e2, List.map_map] at hrow
  exact own_base hrow (by simp)
end Go.Proofs.YtgoifhpinoodgaaDoor
end
