/-
  Read and Image, over the loaded program. No condition but what each theorem names.
-/
import Derived.Test.YtmknemaocbbpeaaDkC
import Derived.Test.YtmknemaocbbpeaaClone
namespace Go.Proofs.Ytmknemaocbbpeaa
open Go.RowKit
set_option maxRecDepth 100000
set_option linter.unusedVariables false

/-- What was written to i last. -/
def Dk.now (s : Dk) (i : Nat) : List UInt8 := (s.pend i).getD (s.safe.getD i [])
theorem Dk.ok.now_len {s : Dk} (h : s.ok) (i : Nat) (hi : i < s.safe.length) : (s.now i).length = 256 := by
  unfold Dk.now
  cases hp : s.pend i with
  | some l => exact (h.pend i l hp).2
  | none =>
    rw [Option.getD_none, List.getD_eq_getElem?_getD, List.getElem?_eq_getElem hi]
    exact h.len _ (List.getElem_mem hi)
/-- A sector's block, as a slice. -/
theorem KB.sl {w : World} {g : Nat} {t : TypeId} {l : List UInt8} (h : KB w g t (l.map bv).toArray) (hn : l.length = 256) : BS w (fun b => b = g) (.slice (some ⟨g, 0, none⟩) 256 256) l := by
  rw [← hn]
  refine ⟨_, _, rfl, Nat.le_refl _, by rw [hn]; unfold maxLen; omega, (fun h => by cases h), fun _ => ⟨g, 0, rfl, rfl, h.lt, fun j u hu => ?_⟩⟩
  rw [Nat.zero_add, h.cell]
  simp [hu]

/-- What Read hands back: bytes in new memory. -/
def ReadAs (w : World) (l : List UInt8) (e : Ending) (w' : World) : Prop :=
  ∃ v, e = .returned (.tuple #[v, .int .i64 0]) ∧ w'.ownsRow w.heap.size 5 1 v l.length (l.map bv) ∧ Below w.heap.size w w'

set_option maxRecDepth 100000 in
set_option maxHeartbeats 1000000 in
/-- Read, of a sector that is there. -/
theorem read_ok {w : World} {p : DA} {s : Dk} (h : DS w p s) (i : Nat) (hi : i < s.safe.length) (hf : s.fuse ≠ 0) :
    Calls Try.prog 24 #[.pointer (some ⟨p.d, 0, none⟩), .int .i64 (i : Int)] w (ReadAs w (s.now i)) := by
  have hc := check_any h i
  rw [show chk s i = 0 from by simp [chk, hf]; omega] at hc
  have hlen := h.ok.now_len i hi
  obtain ⟨Z, hZ⟩ : ∃ Z, Z = (z256.map bv).toArray := ⟨_, rfl⟩
  have hz : ∀ w : World, (zeroValue 68).run Try.prog w = .ok (.agg Z) w := by rw [hZ]; exact zero_sec
  have HK : KB (w.alloc (.cells Z 68)) w.heap.size 68 (z256.map bv).toArray := by rw [hZ]; exact KB.new _ _ _
  have D1 := h.below ((Below.refl w.heap.size w).alloc (Nat.le_refl _) (.cells Z 68))
  have B1 := (Below.refl w.heap.size w).alloc (Nat.le_refl _) (.cells Z 68)
  have hlt := h.lt
  have hN := h.ok.few
  have hcl := fun (l : List UInt8) (W : World) (hk : KB W w.heap.size 68 (l.map bv).toArray) (hl : l.length = 256) => clone2_any _ _ l W (hk.sl hl) (by omega)
  have c1 := h.c1
  have HCL := Lib.hid hcl
  clear hf hZ hcl
  cases hp : s.pend i with
  | some l =>
    have hnow : s.now i = l := by simp [Dk.now, hp]
    rw [hnow] at hlen ⊢
    have HL := Lib.hid hlen
    have HP := Lib.hid hp
    clear hlen hnow hp
    go_enter Try.func24, Try.ntmps24
    go_wp2_with (first
      | (go_at_call 32; refine hc.mono ?_; rintro e w' ⟨rfl, rfl⟩)
      | (refine wpList_look_pm rfl (.tmp 19) (.tmp 20) rfl p.m _ _ rfl h.pm i (by omega) rfl (.tuple #[secV l, .bool true]) (by rw [HP.out]; rfl) ?_)
      | (refine wpList_store_kb rfl 68 (.tmp 7) (.tmp 22) rfl w.heap.size (l.map bv) rfl rfl 68 _ HK 256 cells_sec (by rw [List.length_map, z256_len]) (by rw [List.length_map, HL.out]) (bytes_one _) ?_; intro w4 k4 g4)
      | (go_at_call 29; refine (HCL.out l _ k4 HL.out).mono ?_; rintro e w5 ⟨v5, rfl, how5, b5⟩))
    go_ret2
    have B4 : Below w.heap.size w w4 := B1.grown g4 B1.size fun g e => by injection e with e; omega
    exact ⟨v5, rfl, own_base how5 B4.size, B4.trans (b5.mono B4.size)⟩
  | none =>
    have hnow : s.now i = s.safe[i] := by simp [Dk.now, hp, List.getD_eq_getElem?_getD, List.getElem?_eq_getElem hi]
    rw [hnow] at hlen ⊢
    have hr := fun (W : World) (hd : DS W p s) => hd.sf.sec h.ok.len i hi
    generalize s.safe[i] = l at *
    have HL := Lib.hid hlen
    have HP := Lib.hid hp
    have HR := Lib.hid hr
    have hd4 : ∀ w4, (w.alloc (.cells Z 68)).grownBy w4 (some w.heap.size) → DS w4 p s := fun w4 g4 => D1.keep fun x hx => g4.block x (D1.lt x hx) fun e => by
      have := hlt x hx
      injection e with e
      omega
    have HD := Lib.hid hd4
    clear hlen hnow hp hr hd4
    go_enter Try.func24, Try.ntmps24
    go_wp2_with (first
      | (go_at_call 32; refine hc.mono ?_; rintro e w' ⟨rfl, rfl⟩)
      | (refine wpList_look_pm rfl (.tmp 19) (.tmp 20) rfl p.m _ _ rfl h.pm i (by omega) rfl (.tuple #[secV z256, .bool false]) (by rw [HP.out]; rfl) ?_)
      | (refine wpList_store_kb rfl 68 (.tmp 7) (.tmp 22) rfl w.heap.size (z256.map bv) rfl rfl 68 _ HK 256 cells_sec (by rw [List.length_map, z256_len]) (by rw [List.length_map, z256_len]) (bytes_one _) ?_; intro w4 k4 g4; have D4 := HD.out w4 g4; have c0 := D4.c0)
      | (refine wpList_load_part rfl 68 (.tmp 31) rfl p.b (i * 256) rfl (l.map bv) (HR.out _ D4) _ Try.underlying68 rfl 256 cells_sec (by rw [List.length_map, HL.out]) ?_)
      | (refine wpList_store_kb rfl 68 (.tmp 7) (.tmp 32) rfl w.heap.size (l.map bv) rfl rfl 68 _ k4 256 cells_sec (by rw [List.length_map, z256_len]) (by rw [List.length_map, HL.out]) (bytes_one _) ?_; intro w6 k6 g6)
      | (go_at_call 29; refine (HCL.out l _ k6 HL.out).mono ?_; rintro e w5 ⟨v5, rfl, how5, b5⟩))
    go_ret2
    have B4 : Below w.heap.size w w6 := (B1.grown g4 B1.size fun g e => by injection e with e; omega).grown g6 (by have := g4.size; have := B1.size; omega) fun g e => by injection e with e; omega
    exact ⟨v5, rfl, own_base how5 B4.size, B4.trans (b5.mono B4.size)⟩
theorem read_chk {w : World} {p : DA} {s : Dk} (h : DS w p s) (i : Int) (hne : chk s i ≠ 0) :
    Calls Try.prog 24 #[.pointer (some ⟨p.d, 0, none⟩), .int .i64 i] w fun e w' => e = .returned (.tuple #[.slice none 0 0, .int .i64 (chk s i)]) ∧ w = w' := by
  have hc := check_any h i
  generalize chk s i = c at *
  have hne2 : (c == 0) = false := by simpa using hne
  have hne3 : (c != 0) = true := by simpa using hne
  go_enter Try.func24, Try.ntmps24
  go_wp2_with (go_at_call 32; refine hc.mono ?_; rintro e w' ⟨rfl, rfl⟩)
  go_ret2
  exact ⟨rfl, rfl⟩
theorem read_nil (w : World) (i : Int) : Calls Try.prog 24 #[.pointer none, .int .i64 i] w fun e w' => e = .returned (.tuple #[.slice none 0 0, .int .i64 9]) ∧ w = w' := by
  go_enter Try.func24, Try.ntmps24
  go_wp2_with (go_at_call 32; refine (check_nil _ _).mono ?_; rintro e w' ⟨rfl, rfl⟩)
  go_ret2
  exact ⟨rfl, rfl⟩
end Go.Proofs.Ytmknemaocbbpeaa
