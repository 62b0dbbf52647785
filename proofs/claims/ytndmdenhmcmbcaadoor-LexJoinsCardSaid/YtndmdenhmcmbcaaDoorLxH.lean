/-
  All (layer 16), over the loaded program: its contract. No condition but a size.
-/
import Derived.Test.YtndmdenhmcmbcaaDoorLxG
namespace Go.Proofs.YtndmdenhmcmbcaaDoor
open Go.RowKit
set_option maxRecDepth 100000
set_option linter.unusedVariables false

theorem passes (s : List UInt8) (w0 : World) : ∀ m l a w, KX s w0 m l a w → ∃ rest, findLabel bodyX l = some rest ∧ rest.wp Tryd.prog (JX s w0 m) a w := by
  intro m l a w hk
  have use : (∃ rest, findLabel bodyX l = some (Code.skip.seq rest) ∧ ∀ m a w, KX s w0 m l a w → rest.wp Tryd.prog (JX s w0 m) a w) → ∃ rest, findLabel bodyX l = some rest ∧ rest.wp Tryd.prog (JX s w0 m) a w :=
    fun ⟨rest, h1, h2⟩ => ⟨_, h1, wp_seq (wp_skip (h2 m a w hk))⟩
  match l, hk, use with
  | 0, _, use => exact use (pass_0 s w0)
  | 1, _, use => exact use (pass_1 s w0)
  | 2, _, use => exact use (pass_2 s w0)
  | 3, _, use => exact use (pass_3 s w0)
  | 4, _, use => exact use (pass_4 s w0)
  | 5, _, use => exact use (pass_5 s w0)
  | 6, _, use => exact use (pass_6 s w0)
  | _ + 7, hk, _ =>
    obtain ⟨_, _, _, _, _, _, _, _, _, _, h⟩ := hk
    exact h.elim

theorem firsts {s : List UInt8} {w0 : World} {m : Nat} {c : Code} {a : Act} {w : World} (h : c.wp Tryd.prog (JX s w0 m) a w) : c.wp Tryd.prog (Exit.jumps (fun l a w => ∃ m, KX s w0 m l a w) (QX s w0)) a w :=
  Exit.jumps_mono (fun l a w ⟨m', _, hk⟩ => ⟨m', hk⟩) h

set_option maxHeartbeats 4000000 in
/-- All. -/
theorem all16_any (s : List UInt8) (hs : s.length ≤ maxLen) (w : World) : Calls Tryd.prog 7 #[strV s] w (AllAs s w) := by
  have hzs : ((⟨s.toArray⟩ : ByteArray).size : Int) = (s.length : Int) := rfl
  obtain ⟨rest1, f1, p1⟩ := pass_1 s w
  have F1 := Lib.hid f1
  have P1 := Lib.hid p1
  have H0 : AtX s w (w.alloc (.cells #[.int .i64 0, strV [], .int .i64 0, .int .i64 0] 34)) (.slice none 0 0) [] #[.int .i64 0, strV [], .int .i64 0, .int .i64 0] :=
    ⟨World.ownsRow_nil _ _ _ _, KB.new _ _ _, rfl, (Below.refl w.heap.size w).alloc (Nat.le_refl _) _⟩
  have HH := Lib.hid H0
  have HP := Lib.hid (passes s w)
  have HA1 : Hid (s.length ≤ 600 → ∀ a x e c, a = frX (strV s) (.slice none 0 0) (.pointer (some ⟨w.heap.size, 0, none⟩)) x (.int .i64 0) e c (fun k => a.tmps.toList.getD k undef) → KX s w (4 * (s.length - 0) + 3) 1 a (w.alloc (.cells #[.int .i64 0, strV [], .int .i64 0, .int .i64 0] 34))) :=
    fun h6 a x e c hf => ⟨_, _, _, _, _, _, [], _, hf, H0, 0, rfl, h6, lead_zero s, rfl⟩
  have HA0 : Hid (600 < s.length → ∀ a y c, a = frX (strV s) (.slice none 0 0) (.pointer (some ⟨w.heap.size, 0, none⟩)) (.int .i64 0) y (.int .i64 3) c (fun k => a.tmps.toList.getD k undef) → KX s w 0 0 a (w.alloc (.cells #[.int .i64 0, strV [], .int .i64 0, .int .i64 0] 34))) :=
    fun h6 a y c hf => ⟨_, _, _, _, _, _, [], _, hf, H0, 0, 3, rfl, rfl, all_long h6⟩
  unfold strV at *
  generalize (⟨s.toArray⟩ : ByteArray) = z at *
  clear f1 p1 H0 hs
  go_enter Tryd.func7, Tryd.ntmps7
  go_wp2
  refine wp_scope_many (KX s w) ?_ HP.out
  by_cases h6 : 600 < s.length
  · have HK := Lib.hid (HA0.out h6)
    clear HA0 HA1
    go_wp2
    go_step3
    exact ⟨_, HK.out _ _ _ rfl⟩
  · have HK := Lib.hid (HA1.out (by omega))
    clear HA0 HA1
    go_wp2
    rename_i KK hKK
    apply wp_label
    refine hKK _ _ (wp_fall F1.out rfl (firsts (P1.out _ _ _ (HK.out _ _ _ _ rfl))))
end Go.Proofs.YtndmdenhmcmbcaaDoor
