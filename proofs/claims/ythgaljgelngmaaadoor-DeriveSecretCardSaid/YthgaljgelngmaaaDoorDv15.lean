/-
  TpD: How the program goes through a term's parts, from its first one on: the contract of each, for every function value whose own contract is known; and which terms may be, by the program. No condition but what they name.
  TermK: The document's reading of a term, over the loaded program: its whole contract. No condition but the sizes that it names.
  TermU: The document's bytes of a term, over the loaded program: its contract. No condition but the sizes that it names.
-/
import Derived.Test.YthgaljgelngmaaaDoorDv14
import Derived.Laws.EntriesVeiled
import Derived.Test.YthgaljgelngmaaaDoorDv08
import Derived.Test.YthgaljgelngmaaaDoorDv06

section
namespace Go.Proofs.YthgaljgelngmaaaDoor
open Go.RowKit
set_option linter.unusedVariables false

theorem i64_1 : I64 1 := by unfold I64; omega

set_option maxHeartbeats 1000000 in
theorem each_any {σ : Type} (F : Nat) (caps : Array Value) (I : (Nat → Prop) → World → σ → Prop) (ok : (f : Nat) → Nd (Tm f) → Int → Bool) (nxt : (f : Nat) → Nd (Tm f) → σ → σ) (Bd : σ → Prop) (S : Nat → Prop)
    (hI1 : ∀ P w s o, I P w s → I (fun b => P b ∨ b = w.heap.size) (w.alloc o) s) (hI2 : ∀ P Q w s, I P w s → (∀ b, Q b → P b) → I Q w s)
    (hrun : ∀ (args : Array Value) (w : World), (callFunc F args).run Tryd.prog w = .ok (.enter F args) w) (hbd : ∀ f t s, Bd (nxtT nxt f t s) → Bd s)
    (hdo : ∀ (f : Nat) (t : Nd (Tm f)) (v : Value) (d : Int) (s : σ) (w : World) (P : Nat → Prop), I64 d → (∀ b, P b → b < w.heap.size) → (∀ b, S b → P b) → P 0 → Shp w → I P w s → Bd (nxt f t s) → TV w S (f + 1) v t →
      Calls Tryd.prog F (#[v, .int .i64 d] ++ caps) w fun e w' => e = .returned (.bool (ok f t d)) ∧ (ok f t d = true → I P w' (nxt f t s)) ∧ KeepP P w w')
    (f : Nat) (t : Tm f) (v : Value) (s : σ) (w : World) (P : Nat → Prop) (hP : ∀ b, P b → b < w.heap.size) (hS : ∀ b, S b → P b) (hPg : P 0)
    (hsh : Shp w) (hi : I P w s) (hb : Bd (nxtT nxt f t s)) (hv : TV w S f v t) :
      Calls Tryd.prog 40 #[v, .func (.func F) #[] caps] w fun e w' => e = .returned (.bool (okT ok f t 1)) ∧ (okT ok f t 1 = true → I P w' (nxtT nxt f t s)) ∧ KeepP P w w' := by
  obtain ⟨e0, e1, e2, e3, rfl, ht⟩ := hv
  obtain ⟨i0, i1, X2, n2, z2, X3, n3, z3, rfl, rfl, rfl, rfl⟩ := tm_form ht
  have h1 := each1_any F caps I ok nxt Bd S (w.heap.size + 1) (w.heap.size + 2) hI1 hI2 hrun hbd hdo f t (.agg #[.int .i64 i0, .int .u64 i1, .slice X2 n2 z2, .slice X3 n3 z3]) 1 s
    (((w.alloc (.cells #[.int .i64 i0, .int .u64 i1, .slice X2 n2 z2, .slice X3 n3 z3] 35)).alloc (.cells #[.func (.func F) #[] caps] 36)).alloc (.cells #[.func (.func 52) #[] #[.pointer (some ⟨w.heap.size + 1, 0, none⟩), .pointer (some ⟨w.heap.size + 2, 0, none⟩)]] 36))
    (fun b => ((P b ∨ b = w.heap.size) ∨ b = w.heap.size + 1) ∨ b = w.heap.size + 2) i64_1 (by intro b hb; simp; rcases hb with ((hb | hb) | hb) | hb
                                                                                               · have := hP b hb; omega
                                                                                               · omega
                                                                                               · omega
                                                                                               · omega)
    (fun b hb => .inl (.inl (.inl (hS b hb)))) (.inl (.inl (.inl hPg))) (.inl (.inr rfl)) (.inr rfl)
    (by
      have := (KB.new (w.alloc (.cells #[.int .i64 i0, .int .u64 i1, .slice X2 n2 z2, .slice X3 n3 z3] 35)) 36 #[.func (.func F) #[] caps]).alloc (.cells #[.func (.func 52) #[] #[.pointer (some ⟨w.heap.size + 1, 0, none⟩), .pointer (some ⟨w.heap.size + 2, 0, none⟩)]] 36)
      simpa using this)
    (by
      have := KB.new ((w.alloc (.cells #[.int .i64 i0, .int .u64 i1, .slice X2 n2 z2, .slice X3 n3 z3] 35)).alloc (.cells #[.func (.func F) #[] caps] 36)) 36 #[.func (.func 52) #[] #[.pointer (some ⟨w.heap.size + 1, 0, none⟩), .pointer (some ⟨w.heap.size + 2, 0, none⟩)]]
      simpa using this)
    (((hsh.alloc _).alloc _).alloc _)
    (by
      have := hI1 _ _ _ (.cells #[.func (.func 52) #[] #[.pointer (some ⟨w.heap.size + 1, 0, none⟩), .pointer (some ⟨w.heap.size + 2, 0, none⟩)]] 36) (hI1 _ _ _ (.cells #[.func (.func F) #[] caps] 36) (hI1 P w s (.cells #[.int .i64 i0, .int .u64 i1, .slice X2 n2 z2, .slice X3 n3 z3] 35) hi))
      simpa using this)
    hb (((TV.alloc ⟨_, _, _, _, rfl, ht⟩ _).alloc _).alloc _)
  have KP0 := ((KeepP.alloc w (.cells #[.int .i64 i0, .int .u64 i1, .slice X2 n2 z2, .slice X3 n3 z3] 35) hP).trans (KeepP.alloc _ (.cells #[.func (.func F) #[] caps] 36) fun b hb => by have := hP b hb; simp; omega)).trans (KeepP.alloc _ (.cells #[.func (.func 52) #[] #[.pointer (some ⟨w.heap.size + 1, 0, none⟩), .pointer (some ⟨w.heap.size + 2, 0, none⟩)]] 36) fun b hb => by have := hP b hb; simp; omega)
  generalize okT ok f t 1 = r at *
  generalize nxtT nxt f t s = s2 at *
  clear hrun hdo hbd
  go_enter Tryd.func40, Tryd.ntmps40
  go_wp2_with fail
  refine h1.mono ?_
  rintro e w5 ⟨rfl, hok, kp⟩
  have kp5 := KP0.trans (kp.mono fun b hb => .inl (.inl (.inl hb)))
  have hok2 : r = true → I P w5 s2 := fun h => hI2 _ _ _ _ (hok h) fun b hb => .inl (.inl (.inl hb))
  have HH := Lib.hid hok2
  clear h1 hok hok2
  go_wp2_with fail
  go_ret
  exact ⟨rfl, HH.out, kp5⟩

/-- What the program asks of a part, so deep. -/
def okC (f : Nat) (t : Nd (Tm f)) (d : Int) : Bool := decide (d ≤ 8) && fitsT t

theorem okC_may : ∀ (f : Nat) (t : Tm f) (d : Int), 0 ≤ d → d ≤ 9 → okT okC f t d = mayT f t (9 - d)
  | 0, t, _, _, _ => nomatch t
  | f + 1, (t : Nd (Tm f)), d, h0, h9 => by
    show (okC f t d && t.kids.all fun u => okT okC f u (deeper d)) = (decide (1 ≤ 9 - d) && ownOk t && (t.kids.all fun u => mayT f u (9 - d - 1)) && (decide (t.kind ≠ 5) || decide (kindAt f t.kids 1 = 2)))
    rw [show okC f t d = (decide (d ≤ 8) && (ownOk t && (decide (t.kind ≠ 5) || decide (kindAt f t.kids 1 = 2)))) from rfl]
    by_cases h : d ≤ 8
    · have e : deeper d = d + 1 := by unfold deeper; exact IntWalk.wrap64_in _ (by omega)
      rw [decide_eq_true h, decide_eq_true (show 1 ≤ 9 - d by omega), Bool.true_and, Bool.true_and, e]
      have : (t.kids.all fun u => okT okC f u (d + 1)) = (t.kids.all fun u => mayT f u (9 - d - 1)) := by
        have hx : ∀ u, okT okC f u (d + 1) = mayT f u (9 - d - 1) := fun u => by
          rw [okC_may f u (d + 1) (by omega) (by omega)]; congr 1; omega
        simp only [hx]
      rw [this]
      cases ownOk t <;> cases (t.kids.all fun u => mayT f u (9 - d - 1)) <;> simp
    · rw [decide_eq_false h, decide_eq_false (show ¬ 1 ≤ 9 - d by omega)]
      simp

theorem check1_any (S : Nat → Prop) (f : Nat) (t : Nd (Tm f)) (v : Value) (d : Int) (w : World) (hd : I64 d) (h : Shp w) (hv : TV w S (f + 1) v t) :
    Calls Tryd.prog 43 #[v, .int .i64 d] w fun e w' => e = .returned (.bool (okC f t d)) ∧ Below w.heap.size w w' := by
  obtain ⟨e0, e1, e2, e3, rfl, ht⟩ := hv
  obtain ⟨i0, i1, X2, n2, z2, X3, n3, z3, rfl, rfl, rfl, rfl⟩ := tm_form ht
  have h1 := fits_any S f t _ (w.alloc (.cells #[.int .i64 i0, .int .u64 i1, .slice X2 n2 z2, .slice X3 n3 z3] 35)) (h.alloc _) (TV.alloc ⟨_, _, _, _, rfl, ht⟩ _)
  have B0 := (Below.refl w.heap.size w).alloc (Nat.le_refl _) (.cells #[.int .i64 i0, .int .u64 i1, .slice X2 n2 z2, .slice X3 n3 z3] 35)
  unfold okC
  generalize fitsT t = r at *
  have hd1 := hd.1
  have hd2 := hd.2
  by_cases h8 : d ≤ 8
  · rw [decide_eq_true h8, Bool.true_and]
    have g8 := decide_eq_true h8
    go_enter Tryd.func43, Tryd.ntmps43
    go_wp2_with fail
    refine h1.mono ?_
    rintro e w5 ⟨rfl, b5⟩
    have B5 := B0.trans (b5.mono B0.size)
    clear h1
    go_wp2_with fail
    go_ret
    exact ⟨rfl, B5⟩
  · rw [decide_eq_false h8, Bool.false_and]
    have g8 := decide_eq_false h8
    go_enter Tryd.func43, Tryd.ntmps43
    go_wp2_with fail
    go_ret
    exact ⟨rfl, B0⟩

theorem runs_check1 (args : Array Value) (w : World) : (callFunc 43 args).run Tryd.prog w = .ok (.enter 43 args) w :=
  enters_of Tryd.func43 (by kernel_rfl) rfl args w

/-- Which terms may be, by the program. -/
theorem check_any (S : Nat → Prop) (f : Nat) (t : Tm f) (v : Value) (w : World) (hS : ∀ b, S b → b < w.heap.size) (h : Shp w) (hv : TV w S f v t) :
    Calls Tryd.prog 27 #[v] w fun e w' => e = .returned (.int .i64 (if mayT f t 8 = true then 0 else 1)) ∧ Below w.heap.size w w' := by
  obtain ⟨e0, e1, e2, e3, rfl, ht⟩ := hv
  obtain ⟨i0, i1, X2, n2, z2, X3, n3, z3, rfl, rfl, rfl, rfl⟩ := tm_form ht
  have h1 := each_any 43 #[] (fun (_ : Nat → Prop) (_ : World) (_ : Unit) => True) okC (fun _ _ s => s) (fun _ => True) S (fun _ _ _ _ _ => trivial) (fun _ _ _ _ _ _ => trivial) runs_check1 (fun _ _ _ _ => trivial)
    (fun f t v d s w P hd hP hS hg hsh _ _ hv => (check1_any S f t v d w hd hsh hv).mono fun e w' hh => ⟨hh.1, fun _ => trivial, KeepP.of_below hh.2 hP⟩)
    f t _ () (w.alloc (.cells #[.int .i64 i0, .int .u64 i1, .slice X2 n2 z2, .slice X3 n3 z3] 35)) (fun b => b < (w.alloc (.cells #[.int .i64 i0, .int .u64 i1, .slice X2 n2 z2, .slice X3 n3 z3] 35)).heap.size) (fun b hb => hb)
    (fun b hb => by have := hS b hb; simp; omega) (h.alloc _).1 (h.alloc _) trivial trivial (TV.alloc ⟨_, _, _, _, rfl, ht⟩ _)
  have B0 := (Below.refl w.heap.size w).alloc (Nat.le_refl _) (.cells #[.int .i64 i0, .int .u64 i1, .slice X2 n2 z2, .slice X3 n3 z3] 35)
  rw [okC_may f t 1 (by omega) (by omega)] at h1
  rw [show (9 : Int) - 1 = 8 from rfl] at h1
  generalize mayT f t 8 = r at *
  cases r with
  | true =>
    rw [if_pos rfl]
    go_enter Tryd.func27, Tryd.ntmps27
    go_wp2_with fail
    refine h1.mono ?_
    rintro e w5 ⟨rfl, _, kp⟩
    have B5 := B0.trans (kp.to_below (B := w.heap.size) fun b hb => by simp; omega)
    clear h1
    go_wp2_with fail
    go_ret
    exact ⟨rfl, B5⟩
  | false =>
    rw [if_neg (by simp)]
    go_enter Tryd.func27, Tryd.ntmps27
    go_wp2_with fail
    refine h1.mono ?_
    rintro e w5 ⟨rfl, _, kp⟩
    have B5 := B0.trans (kp.to_below (B := w.heap.size) fun b hb => by simp; omega)
    clear h1
    go_wp2_with fail
    go_ret
    exact ⟨rfl, B5⟩
end Go.Proofs.YthgaljgelngmaaaDoor
end

section
namespace Go.Proofs.YthgaljgelngmaaaDoor
open Go.RowKit
set_option linter.unusedVariables false

theorem own_grown {w w' : World} {base e size n g : Nat} {v : Value} {xs : List Value} (h : w.ownsRow base e size v n xs) (hg : w.grownBy w' (some g)) (hb : g < base) : w'.ownsRow base e size v n xs := by
  refine h.kept hg ?_
  have := own_ne h hb
  first | exact .inl this | (intro e; exact this e) | (cases hq : v.ownBlock <;> simp_all)

theorem step_growT {ops : Array Oper} {o : Oper} {a : Act} {w : World} {K : Act → World → Prop} {Q : Exit → Act → World → Prop} {E : Prop} (hg : o.guard = none) (s x : Operand)
    (ho : o.op = .call { callee := .builtin .append, args := #[s, x], argTypes := #[22, 22] })
    (base : Nat) (v : Value) (qs : List Quad) (hs : a.eval s = v) (hown : w.ownsRow base 35 4 v qs.length (flatQ qs))
    (ad : Addr) (c : Nat) (ps : List Quad) (hxe : a.eval x = .slice (some ad) ps.length c) (hx : At w ad ps) (h1 : ∀ u ∈ flatQ ps, u.oneCell' = true) (hb : qs.length + ps.length ≤ 1000000000) (hbase : base ≤ w.heap.size)
    (hK : ∀ v' w', w'.ownsRow base 35 4 v' (qs ++ ps).length (flatQ (qs ++ ps)) → w.grownBy w' v.ownBlock → (v'.ownBlock = v.ownBlock ∨ v'.ownBlock = some w.heap.size) → K (a.put o.dst v') w') :
    if Region.wanted o (yielded ops a.tmps) = true then Oper.wp Tryd.prog o a w K Q else E := by
  have hw : Region.wanted o (yielded ops a.tmps) = true := by simp [Region.wanted, hg]
  rw [if_pos hw]
  obtain ⟨v', w', hrun, h2, h3, h4⟩ := run_growT w base v qs hown ad c ps hx h1 hb hbase o.type
  unfold Oper.wp execOp
  simp only [ho, resolve, invoke, builtin, Sem.run_bind, Sem.run_pure, Result.andThen_ok, List.map_toArray, List.map_cons, List.map_nil, hs, hxe, hrun]
  exact hK _ _ h2 h3 h4

theorem At_new (w : World) (q : Quad) : At (w.alloc (.cells #[q.1, q.2.1, q.2.2.1, q.2.2.2] 35)) ⟨w.heap.size, 0, none⟩ [q] := by
  have h := own_one w w.heap.size (Nat.le_refl _) q
  obtain ⟨g, c, e, ha⟩ := At_of_own h (by simp)
  injection e with e1 e2 e3
  injection e1 with e1
  rw [e1]; exact ha

theorem readL_zero {α : Type} (g : Option (List UInt8) → Option (List UInt8) × α) (st : Option (List UInt8)) : readL g 0 st = (st, []) := by cases st <;> rfl
theorem readL_none {α : Type} (g : Option (List UInt8) → Option (List UInt8) × α) (n : Nat) : readL g n none = (none, []) := by cases n <;> rfl
theorem readL_some {α : Type} (g : Option (List UInt8) → Option (List UInt8) × α) (n : Nat) (l : List UInt8) : readL g (n + 1) (some l) = ((readL g n (g (some l)).1).1, (g (some l)).2 :: (readL g n (g (some l)).1).2) := rfl

/-- How far the kids are read. -/
def Sofar {α : Type} (g : Option (List UInt8) → Option (List UInt8) × α) (r : Option (List UInt8) × List α) (n : Nat) (st : Option (List UInt8)) (ks : List α) : Prop := r = ((readL g n st).1, ks ++ (readL g n st).2)
theorem Sofar.start {α : Type} (g : Option (List UInt8) → Option (List UInt8) × α) (n : Nat) (st : Option (List UInt8)) : Sofar g (readL g n st) n st [] := rfl
theorem Sofar.step {α : Type} {g : Option (List UInt8) → Option (List UInt8) × α} {r : Option (List UInt8) × List α} {n : Nat} {l : List UInt8} {ks : List α} (h : Sofar g r (n + 1) (some l) ks) : Sofar g r n (g (some l)).1 (ks ++ [(g (some l)).2]) := by
  unfold Sofar at h ⊢
  rw [h, readL_some]
  simp
theorem Sofar.done {α : Type} {g : Option (List UInt8) → Option (List UInt8) × α} {r : Option (List UInt8) × List α} {n : Nat} {st : Option (List UInt8)} {ks : List α} (h : Sofar g r n st ks) (he : n = 0 ∨ st = none) : r = (st, ks) := by
  unfold Sofar at h
  rcases he with rfl | rfl
  · rw [h, readL_zero, List.append_nil]
  · rw [h, readL_none, List.append_nil]

end Go.Proofs.YthgaljgelngmaaaDoor
end

section
namespace Go.Proofs.YthgaljgelngmaaaDoor
open Go.RowKit
set_option linter.unusedVariables false

theorem lit_b (w : World) (b : UInt8) (base : Nat) (hb : base ≤ w.heap.size) : (w.alloc (.cells #[bv b] 5)).ownsRow base 5 1 (.slice (some ⟨w.heap.size, 0, none⟩) 1 1) [b].length ([b].map bv) :=
  World.ownsRow_lit w #[bv b] 1 hb (by simp [maxLen]) rfl

theorem byte_int (k : Int) : Value.int .u8 (k % 256) = bv (UInt8.ofNat (k % 256).toNat) := by
  unfold bv
  have : (UInt8.ofNat (k % 256).toNat).toNat = (k % 256).toNat := by simp; omega
  rw [this]
  congr 1
  omega

/-- The bytes of a term with its first j kids. -/
def partB {f : Nat} (h : List UInt8) (ks : List (Tm f)) (j : Nat) : List UInt8 := h ++ ((ks.take j).map (bytesT f)).flatten
theorem partB_zero {f : Nat} (h : List UInt8) (ks : List (Tm f)) : partB h ks 0 = h := by simp [partB]
theorem partB_succ {f : Nat} (h : List UInt8) (ks : List (Tm f)) (j : Nat) (hj : j < ks.length) : partB h ks (j + 1) = partB h ks j ++ bytesT f ks[j] := by
  unfold partB
  rw [List.take_add_one, List.getElem?_eq_getElem hj, List.map_append, List.flatten_append, List.append_assoc]
  simp
theorem partB_all {f : Nat} (h : List UInt8) (ks : List (Tm f)) : partB h ks ks.length = h ++ (ks.map (bytesT f)).flatten := by simp [partB]
theorem partB_le {f : Nat} (h : List UInt8) (ks : List (Tm f)) (j : Nat) : (partB h ks j).length ≤ (h ++ (ks.map (bytesT f)).flatten).length := by
  have e : ks.map (bytesT f) = (ks.take j).map (bytesT f) ++ (ks.drop j).map (bytesT f) := by rw [← List.map_append, List.take_append_drop]
  rw [partB, e, List.flatten_append]
  simp only [List.length_append]
  omega

end Go.Proofs.YthgaljgelngmaaaDoor
end
