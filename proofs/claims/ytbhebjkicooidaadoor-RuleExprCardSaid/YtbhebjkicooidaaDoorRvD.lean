/-
  The law's own functions of layer 17: num, after, live (the page's example), over the loaded program: each one's contract. No condition.
-/
import Derived.Test.YtbhebjkicooidaaDoorRuT
namespace Go.Proofs.YtbhebjkicooidaaDoor
open Go.RowKit
set_option maxRecDepth 100000
set_option linter.unusedVariables false

/-- What a cell's result is. -/
theorem results_one {P : Program} {fn : Func} {p : Tmp} {ty : TypeId} (h : fn.results = #[.cell p ty]) (tmps : Array Value) (w : World) (g : Nat) (t : TypeId) (cs : Array Value) (fr : Nat × Nat) (d : TypeDesc)
    (hp : tmps.getD p undef = .pointer (some ⟨g, 0, none⟩)) (hg : w.heap[g]? = some (.cells cs t fr))
    (hu : P.underlying ty = some d) (hd : (match d with | .struct _ | .array _ _ => true | _ => false) = true) (hi : (P.info? ty).map (·.size) = some cs.size) :
    (results fn tmps).run P w = .ok (.agg cs) w := by
  have hp' : tmps[p]?.getD undef = .pointer (some ⟨g, 0, none⟩) := by simpa using hp
  simp [results, h, hp', asAddr, run_loadVar_row w g t ty cs fr d hg hu hd hi]

theorem num17_any (n : Int) (w : World) : Calls Tryd.prog 10 #[.int .i64 n] w fun e w' => e = .returned (.int .i64 n) ∧ w = w' := by
  go_enter Tryd.func10, Tryd.ntmps10
  go_wp2
  go_ret
  exact ⟨rfl, rfl⟩

theorem after_any (n : Int) (s : ByteArray) (w : World) : Calls Tryd.prog 21 #[.int .i64 n, .string s] w fun e w' => e = .returned (.agg #[.int .i64 1, .int .i64 n, .string s, .slice none 0 0]) ∧ Below w.heap.size w w' := by
  have K := KB.new w 35 #[.int .i64 0, .int .i64 0, .string ⟨#[]⟩, .slice none 0 0]
  have B := (Below.refl w.heap.size w).alloc (Nat.le_refl _) (.cells #[.int .i64 0, .int .i64 0, .string ⟨#[]⟩, .slice none 0 0] 35)
  obtain ⟨W8, hW8⟩ : ∃ W8, W8 = w.alloc (.cells #[.int .i64 1, .int .i64 n, .string s, .slice none 0 0] 35) := ⟨_, rfl⟩
  have kfin : KB W8 w.heap.size 35 #[.int .i64 1, .int .i64 n, .string s, .slice none 0 0] := by rw [hW8]; exact KB.new _ _ _
  have b8 : Below w.heap.size w W8 := by rw [hW8]; exact (Below.refl w.heap.size w).alloc (Nat.le_refl _) _
  have HW8 := Lib.hid hW8
  clear hW8 K B
  go_enter Tryd.func21, Tryd.ntmps21
  go_wp2_with fail
  rw [← HW8.out]
  exact bodyPost_ret (results_one (P := Tryd.prog) rfl _ _ w.heap.size _ _ (0, 0) _ rfl kfin Tryd.underlying35 rfl (by kernel_rfl)) rfl ⟨rfl, b8⟩

def closedW : List UInt8 := [99, 108, 111, 115, 101, 100]
def leftW : List UInt8 := [108, 101, 102, 116]
def ingestW : List UInt8 := [105, 110, 103, 101, 115, 116]
def af (f : Nat) (n : Int) (s : List UInt8) : Ex (f + 1) := (⟨1, n, s, []⟩ : Nx (Ex f))
def andX : Ex 2 := (⟨3, 0, [], [af 0 30 leftW, af 0 1 ingestW]⟩ : Nx (Ex 1))
def liveX : Ex 3 := (⟨2, 0, [], [af 1 730 closedW, andX]⟩ : Nx (Ex 2))
def liveR : Rl 3 := ⟨[], liveX, 1⟩
def liveT : List UInt8 := (100 :: 101 :: 102 :: 97 :: 117 :: 108 :: 116 :: 32 :: 107 :: 101 :: 101 :: 112 :: 32 :: 50 :: 121 :: 32 :: 97 :: 102 :: 116 :: 101 :: 114 :: 32 :: 99 :: 108 :: 111 :: 115 :: 101 :: 100 :: 32 :: 111 :: 114 :: 32 :: 49 :: 109 :: 32 :: 97 :: 102 :: 116 :: 101 :: 114 :: 32 :: 108 :: 101 :: 102 :: 116 :: 32 :: 97 :: 110 :: 100 :: 32 :: 49 :: 100 :: 32 :: 97 :: 102 :: 116 :: 101 :: 114 :: 32 :: 105 :: 110 :: 103 :: 101 :: 115 :: 116 :: 32 :: 116 :: 104 :: 101 :: 110 :: 32 :: 100 :: 101 :: 115 :: 116 :: 114 :: 111 :: 121 :: 59 :: 10 :: [])
theorem live_print : printR 3 [liveR] = (liveT, 0) := by decide +kernel

theorem xs_two {α : Type} {W : World} {S : Nat → Prop} {E : α → Value → Value → Value → Value → Prop} {A : Nat} {t : TypeId} {a b : α} {c0 c1 c2 c3 d0 d1 d2 d3 : Value} (h : KB W A t #[c0, c1, c2, c3, d0, d1, d2, d3]) (hS : S A) (ha : E a c0 c1 c2 c3) (hb : E b d0 d1 d2 d3) :
    XS W S E (.slice (some ⟨A, 0, none⟩) 2 2) [a, b] := by
  refine ⟨_, 2, rfl, by simp, by unfold maxLen; omega, fun _ => ⟨A, 0, rfl, hS, h.lt, fun i u hi => ?_⟩⟩
  match i with
  | 0 =>
    injection hi with hi
    subst hi
    exact ⟨c0, c1, c2, c3, h.cell 0, h.cell 1, h.cell 2, h.cell 3, ha⟩
  | 1 =>
    injection hi with hi
    subst hi
    exact ⟨d0, d1, d2, d3, h.cell 4, h.cell 5, h.cell 6, h.cell 7, hb⟩
  | k + 2 => cases hi

theorem after_ex (W : World) (S : Nat → Prop) (f : Nat) (n : Int) (hn : I64 n) (s : List UInt8) (hs : s.length ≤ maxLen) : EX W S (f + 1) (af f n s) (.int .i64 1) (.int .i64 n) (strV s) (.slice none 0 0) :=
  ⟨rfl, by show I64 1; unfold I64; decide, rfl, hn, rfl, hs, XS.nil _ _ _⟩

theorem live_rules {W : World} {A B R : Nat} (hA : KB W A 35 #[.int .i64 1, .int .i64 30, strV leftW, .slice none 0 0, .int .i64 1, .int .i64 1, strV ingestW, .slice none 0 0])
    (hB : KB W B 35 #[.int .i64 1, .int .i64 730, strV closedW, .slice none 0 0, .int .i64 3, .int .i64 0, strV [], .slice (some ⟨A, 0, none⟩) 2 2])
    (hR : KB W R 37 #[strV [], .int .i64 2, .int .i64 0, strV [], .slice (some ⟨B, 0, none⟩) 2 2, .int .i64 1]) :
    RS W (fun b => b < W.heap.size) 3 (.slice (some ⟨R, 0, none⟩) 1 1) [liveR] := by
  have hand : EX W (fun b => b < W.heap.size) 2 andX (.int .i64 3) (.int .i64 0) (strV []) (.slice (some ⟨A, 0, none⟩) 2 2) :=
    ⟨rfl, by unfold I64; decide, rfl, by unfold I64; decide, rfl, Nat.zero_le _, xs_two hA hA.lt (after_ex _ _ 0 30 (by unfold I64; omega) _ (by unfold maxLen leftW; simp)) (after_ex _ _ 0 1 (by unfold I64; omega) _ (by unfold maxLen ingestW; simp))⟩
  have hor : EX W (fun b => b < W.heap.size) 3 liveX (.int .i64 2) (.int .i64 0) (strV []) (.slice (some ⟨B, 0, none⟩) 2 2) :=
    ⟨rfl, by unfold I64; decide, rfl, by unfold I64; decide, rfl, Nat.zero_le _, xs_two hB hB.lt (after_ex _ _ 1 730 (by unfold I64; omega) _ (by unfold maxLen closedW; simp)) hand⟩
  refine ⟨_, 1, rfl, by simp, by unfold maxLen; omega, fun _ => ⟨R, 0, rfl, hR.lt, hR.lt, fun i u hi => ?_⟩⟩
  match i with
  | 0 =>
    injection hi with hi
    subst hi
    exact ⟨_, _, _, _, _, _, hR.cell 0, hR.cell 1, hR.cell 2, hR.cell 3, hR.cell 4, hR.cell 5, rfl, by simp [liveR], hor, rfl, by unfold I64 liveR; decide⟩
  | k + 1 => cases hi

theorem four_new (w : World) (t t' : TypeId) (c d e g : Array Value) (h : c.size = c.size) : KB ((((w.alloc (.cells c t)).alloc (.cells d t)).alloc (.cells e t)).alloc (.cells g t')) w.heap.size t c ∧ KB ((((w.alloc (.cells c t)).alloc (.cells d t)).alloc (.cells e t)).alloc (.cells g t')) (w.heap.size + 1) t d ∧
    KB ((((w.alloc (.cells c t)).alloc (.cells d t)).alloc (.cells e t)).alloc (.cells g t')) (w.heap.size + 1 + 1 + 1) t' g ∧ Below w.heap.size w ((((w.alloc (.cells c t)).alloc (.cells d t)).alloc (.cells e t)).alloc (.cells g t')) := by
  have h2 := KB.new (w.alloc (.cells c t)) t d
  have h4 := KB.new (((w.alloc (.cells c t)).alloc (.cells d t)).alloc (.cells e t)) t' g
  simp only [World.size_alloc] at h2 h4
  exact ⟨(((KB.new w t c).alloc _).alloc _).alloc _, (h2.alloc _).alloc _, h4, ((((Below.refl _ _).alloc (Nat.le_refl _) _).alloc (by simp) _).alloc (by simp; omega) _).alloc (by simp; omega) _⟩

set_option maxHeartbeats 4000000 in
/-- live. -/
theorem live17_any (w : World) (hp : Pow w) : Calls Tryd.prog 7 #[] w fun e w' => e = .returned (.bool true) ∧ Below w.heap.size w w' := by
  have hnum := num17_any
  have haf := after_any
  obtain ⟨u, hu⟩ : ∃ u : ByteArray, u = ⟨liveT.toArray⟩ := ⟨_, rfl⟩
  have HPR : Hid (∀ (W : World) (A B R : Nat), Below w.heap.size w W → KB W A 35 #[.int .i64 1, .int .i64 30, strV leftW, .slice none 0 0, .int .i64 1, .int .i64 1, strV ingestW, .slice none 0 0] →
    KB W B 35 #[.int .i64 1, .int .i64 730, strV closedW, .slice none 0 0, .int .i64 3, .int .i64 0, strV [], .slice (some ⟨A, 0, none⟩) 2 2] →
    KB W R 37 #[strV [], .int .i64 2, .int .i64 0, strV [], .slice (some ⟨B, 0, none⟩) 2 2, .int .i64 1] →
    Calls Tryd.prog 8 #[.slice (some ⟨R, 0, none⟩) 1 1] W fun e w' => e = .returned (.tuple #[.string u, .int .i64 0]) ∧ Below W.heap.size W w') := fun W A B R hb hA hB hR => by
    have h := print_any _ 3 [liveR] _ W (fun b h => h) (hp.below hb) (live_rules hA hB hR)
    rw [live_print] at h
    rw [hu]
    exact h
  have E1 : (u.toList == ({ data := ((100 :: 101 :: 102 :: 97 :: 117 :: 108 :: 116 :: 32 :: 107 :: 101 :: 101 :: 112 :: 32 :: 50 :: 121 :: 32 :: 97 :: 102 :: 116 :: 101 :: 114 :: 32 :: 99 :: 108 :: 111 :: 115 :: 101 :: 100 :: 32 :: 111 :: 114 :: 32 :: 49 :: 109 :: 32 :: 97 :: 102 :: 116 :: 101 :: 114 :: []).append (32 :: 108 :: 101 :: 102 :: 116 :: 32 :: 97 :: 110 :: 100 :: 32 :: 49 :: 100 :: 32 :: 97 :: 102 :: 116 :: 101 :: 114 :: 32 :: 105 :: 110 :: 103 :: 101 :: 115 :: 116 :: 32 :: 116 :: 104 :: 101 :: 110 :: 32 :: 100 :: 101 :: 115 :: 116 :: 114 :: 111 :: 121 :: 59 :: 10 :: [])).toArray } : ByteArray).toList) = true := by rw [hu]; exact (str_eq _ _).trans (decide_eq_true rfl)
  obtain ⟨q, hq⟩ : ∃ q : ByteArray, q = ({ data := ((100 :: 101 :: 102 :: 97 :: 117 :: 108 :: 116 :: 32 :: 107 :: 101 :: 101 :: 112 :: 32 :: 50 :: 121 :: 32 :: 97 :: 102 :: 116 :: 101 :: 114 :: 32 :: 99 :: 108 :: 111 :: 115 :: 101 :: 100 :: 32 :: 111 :: 114 :: 32 :: 49 :: 109 :: 32 :: 97 :: 102 :: 116 :: 101 :: 114 :: []).append (32 :: 108 :: 101 :: 102 :: 116 :: 32 :: 97 :: 110 :: 100 :: 32 :: 49 :: 100 :: 32 :: 97 :: 102 :: 116 :: 101 :: 114 :: 32 :: 105 :: 110 :: 103 :: 101 :: 115 :: 116 :: 32 :: 116 :: 104 :: 101 :: 110 :: 32 :: 100 :: 101 :: 115 :: 116 :: 114 :: 111 :: 121 :: 59 :: 10 :: [])).toArray } : ByteArray) := ⟨_, rfl⟩
  rw [← hq] at E1
  clear hu hp
  go_enter Tryd.func7, Tryd.ntmps7
  rw [← hq]
  clear hq
  have B := Below.refl w.heap.size w
  go_wp2_with (go_at_call 21; refine (haf _ _ _).mono ?_; rintro e w1 ⟨rfl, b1⟩; replace B := B.trans (b1.mono B.size); clear b1)
  obtain ⟨hA, hB, hR, b4⟩ := four_new w1 35 37 #[.int .i64 1, .int .i64 30, strV leftW, .slice none 0 0, .int .i64 1, .int .i64 1, strV ingestW, .slice none 0 0] #[.int .i64 1, .int .i64 730, strV closedW, .slice none 0 0, .int .i64 3, .int .i64 0, strV [], .slice (some ⟨w1.heap.size, 0, none⟩) 2 2]
    #[.int .i64 2, .int .i64 0, strV [], .slice (some ⟨w1.heap.size + 1, 0, none⟩) 2 2] #[strV [], .int .i64 2, .int .i64 0, strV [], .slice (some ⟨w1.heap.size + 1, 0, none⟩) 2 2, .int .i64 1] rfl
  have B4 := B.trans (b4.mono B.size)
  refine (HPR.out _ _ _ _ B4 hA hB hR).mono ?_
  rintro e w5 ⟨rfl, b5⟩
  have B5 := B4.trans (b5.mono B4.size)
  clear b5 hA hB hR b4 B B4 HPR haf
  go_wp2_with (go_at_call 10; refine (hnum _ _).mono ?_; rintro e w2 ⟨rfl, rfl⟩)
  go_ret
  exact ⟨rfl, B5⟩
end Go.Proofs.YtbhebjkicooidaaDoor
