/-
  A term's bytes, by the program: its contract over the loaded program. No condition but what it names.
-/
import Derived.Test.YtmepcdljobdigaaDoorTpE
import Derived.Test.YtmepcdljobdigaaDoorTermL
import Derived.Test.YtmepcdljobdigaaDoorTermW
import Derived.Deep.RegionLaw
namespace Go.Proofs.YtmepcdljobdigaaDoor
open Go.RowKit
set_option linter.unusedVariables false

/-- The variable at gb holds the bytes s, in a row of the call's own; neither is among the blocks of which P holds. -/
def IP (gb B : Nat) (P : Nat → Prop) (w : World) (s : List UInt8) : Prop :=
  ¬ P gb ∧ gb < B ∧ B ≤ w.heap.size ∧ ∃ v, KB w gb 23 #[v] ∧ w.ownsRow B 5 1 v s.length (s.map bv) ∧ ∀ k, v.ownBlock = some k → ¬ P k

theorem IP.alloc {gb B : Nat} {P : Nat → Prop} {w : World} {s : List UInt8} (h : IP gb B P w s) (o : Obj) : IP gb B (fun b => P b ∨ b = w.heap.size) (w.alloc o) s := by
  obtain ⟨h1, h2, h3, v, h4, h5, h6⟩ := h
  refine ⟨?_, h2, by simp; omega, v, h4.alloc o, own_past ((Below.refl _ _).alloc (Nat.le_refl _) o) h5, fun k hk => ?_⟩
  · rintro (h | h)
    · exact h1 h
    · omega
  · rintro (h | h)
    · exact h6 k hk h
    · have := own_lt h5 k hk; omega
theorem IP.mono {gb B : Nat} {P Q : Nat → Prop} {w : World} {s : List UInt8} (h : IP gb B P w s) (hq : ∀ b, Q b → P b) : IP gb B Q w s := by
  obtain ⟨h1, h2, h3, v, h4, h5, h6⟩ := h
  exact ⟨fun h => h1 (hq _ h), h2, h3, v, h4, h5, fun k hk h => h6 k hk (hq _ h)⟩

/-- Behind the append and the store. -/
theorem IP.put {gb B : Nat} {P : Nat → Prop} {w w5 w7 : World} {s M : List UInt8} {vb v7 : Value} (hP : ∀ b, P b → b < w.heap.size) (hPg : ¬ P gb) (hgB : gb < B) (hB : B ≤ w.heap.size) (hPo : ∀ k, vb.ownBlock = some k → ¬ P k)
    (B5 : Below w.heap.size w w5) (kg7 : KB w7 gb 23 #[vb]) (how7 : w7.ownsRow B 5 1 v7 (s ++ M).length ((s ++ M).map bv)) (hg7 : w5.grownBy w7 vb.ownBlock) (h7 : v7.ownBlock = vb.ownBlock ∨ v7.ownBlock = some w5.heap.size) :
    IP gb B P (w7.setCell ⟨gb, 0, none⟩ v7) (s ++ M) ∧ KeepP P w (w7.setCell ⟨gb, 0, none⟩ v7) := by
  have hs8 : (w7.setCell ⟨gb, 0, none⟩ v7).heap.size = w7.heap.size := by simp [World.setCell]
  have h5 := B5.size
  have h75 := hg7.size
  refine ⟨⟨hPg, hgB, by rw [hs8]; omega, v7, kg7.put 0 v7, own_grown how7 (grown_set w7 gb 0 v7) hgB, fun k hk => ?_⟩, ?_⟩
  · rcases h7 with h7 | h7
    · exact hPo k (h7 ▸ hk)
    · rw [h7] at hk
      injection hk with hk
      intro hp
      have := hP k hp
      omega
  · refine ⟨hg7.os.trans B5.os, hg7.tape.trans B5.tape, hg7.output.trans B5.output, by rw [hs8]; omega, fun b hb => ?_⟩
    have hbw := hP b hb
    rw [Below.heap_setCell w7 ⟨gb, 0, none⟩ v7 b (fun e => hPg (by rw [← show b = gb from e]; exact hb)), hg7.block b (by omega) (fun e => hPo b e.symm hb), B5.block b hbw]

set_option maxHeartbeats 1000000 in
theorem put1_any (gb B : Nat) (S : Nat → Prop) (f : Nat) (t : Nd (Tm f)) (v : Value) (d : Int) (s : List UInt8) (w : World) (P : Nat → Prop) (hP : ∀ b, P b → b < w.heap.size) (hS : ∀ b, S b → P b) (hsh : Shp w) (hi : IP gb B P w s)
    (hlen : (s ++ headB t).length ≤ 1000000) (hv : TV w S (f + 1) v t) :
    Calls Tryd.prog 31 #[v, .int .i64 d, .pointer (some ⟨gb, 0, none⟩)] w fun e w' => e = .returned (.bool true) ∧ IP gb B P w' (s ++ headB t) ∧ KeepP P w w' := by
  obtain ⟨i0, hi0, hz0, hz1, hz2⟩ := info_parts info_byte
  obtain ⟨hPg, hgB, hB, vb, kg, how, hPo⟩ := hi
  obtain ⟨e0, e1, e2, e3, rfl, ht⟩ := hv
  obtain ⟨j0, j1, X2, n2, z2, X3, n3, z3, rfl, rfl, rfl, rfl⟩ := tm_form ht
  have hc := head_any S f t _ (w.alloc (.cells #[.int .i64 j0, .int .u64 j1, .slice X2 n2 z2, .slice X3 n3 z3] 26)).drew ((hsh.alloc _).keep (Nat.le_refl _) rfl) (TV.keep (TV.alloc ⟨_, _, _, _, rfl, ht⟩ _) (Nat.le_refl _) fun _ _ _ => rfl) (by simp at hlen; omega)
  have hll : Hid (s.length + (headB t).length ≤ 140737488355328) := by show _ ≤ _; rw [List.length_append] at hlen; omega
  clear hlen ht
  generalize headB t = M at *
  have K0 : KB (w.alloc (.cells #[.int .i64 j0, .int .u64 j1, .slice X2 n2 z2, .slice X3 n3 z3] 26)).drew w.heap.size 26 #[.int .i64 j0, .int .u64 j1, .slice X2 n2 z2, .slice X3 n3 z3] := KB.new w _ _
  have kg0 : KB (w.alloc (.cells #[.int .i64 j0, .int .u64 j1, .slice X2 n2 z2, .slice X3 n3 z3] 26)).drew gb 23 #[vb] := kg.alloc _
  have B0 : Below w.heap.size w (w.alloc (.cells #[.int .i64 j0, .int .u64 j1, .slice X2 n2 z2, .slice X3 n3 z3] 26)).drew := Below_drawn ((Below.refl _ _).alloc (Nat.le_refl _) _) 1
  have how0 : (w.alloc (.cells #[.int .i64 j0, .int .u64 j1, .slice X2 n2 z2, .slice X3 n3 z3] 26)).drew.ownsRow B 5 1 vb s.length (s.map bv) := own_past B0 how
  obtain ⟨Ab, cb, rfl⟩ := own_form how
  have hgw := kg.lt
  have qb : w.cell? ⟨gb, 0, none⟩ = some (.slice Ab s.length cb) := kg.cell 0
  go_enter Tryd.func31, Tryd.ntmps31
  go_wp2_with fail
  generalize (w.alloc (.cells #[.int .i64 j0, .int .u64 j1, .slice X2 n2 z2, .slice X3 n3 z3] 26)) = w1 at *
  have b0 : w1.cell? ⟨w.heap.size, 0, none⟩ = some (.int .i64 j0) := K0.cell 0
  have b1 : w1.cell? ⟨w.heap.size, 1, none⟩ = some (.int .u64 j1) := K0.cell 1
  have b2 : w1.cell? ⟨w.heap.size, 2, none⟩ = some (.slice X2 n2 z2) := K0.cell 2
  have b3 : w1.cell? ⟨w.heap.size, 3, none⟩ = some (.slice X3 n3 z3) := K0.cell 3
  clear qb
  have qb : w1.cell? ⟨gb, 0, none⟩ = some (.slice Ab s.length cb) := kg0.cell 0
  have fb := kg0.free 0
  go_region_law
    (first
      | (go_simp; go_at_call 32; refine hc.mono ?_; rintro e w5 ⟨v5, rfl, how5, b5⟩; have kg5 := kg0.below b5 kg0.lt; have how6 := own_past b5 how0; have B5 := B0.trans (b5.mono B0.size); have hB5 : B ≤ w5.heap.size := Nat.le_trans hB B5.size; clear b0 b1 b2 b3 qb fb; have qb : w5.cell? ⟨gb, 0, none⟩ = some (.slice Ab s.length cb) := kg5.cell 0; have fb := kg5.free 0)
      | (refine step_grow rfl _ _ _ rfl B 5 i0 Tryd.underlying23 hi0 hz0 hz1 hz2 _ _ rfl how6 _ _ _ rfl (own_BS how5) hll.out hB5 ?_; intro v7 w7 how7 hg7 h7; have kg7 := kg5.grown hg7 (own_ne how6 hgB); obtain ⟨A7, c7, rfl⟩ := own_form how7; clear qb fb; have qb : w7.cell? ⟨gb, 0, none⟩ = some (.slice Ab s.length cb) := kg7.cell 0; have fb := kg7.free 0))
  all_goals
    obtain ⟨hI8, hK8⟩ := IP.put hP hPg hgB hB hPo B5 kg7 how7 hg7 h7
    clear qb fb
    rw [List.length_append] at hI8 hK8
    go_wp2
    go_ret
    exact ⟨rfl, hI8, hK8⟩

theorem runs_put1 (args : Array Value) (w : World) : (callFunc 31 args).run Tryd.prog w = .ok (.enter 31 args) w :=
  enters_of Tryd.func31 (by kernel_rfl) rfl args w

theorem nxtB_bytes : ∀ (f : Nat) (t : Tm f) (s : List UInt8), nxtT (fun _ t s => s ++ headB t) f t s = s ++ bytesT f t
  | 0, t, _ => nomatch t
  | f + 1, (t : Nd (Tm f)), s => by
    have h : ∀ (ks : List (Tm f)) (s : List UInt8), ks.foldl (fun s u => nxtT (fun _ t s => s ++ headB t) f u s) s = s ++ (ks.map (bytesT f)).flatten := by
      intro ks
      induction ks with
      | nil => intro s; simp
      | cons k ks ih =>
        intro s
        rw [List.foldl_cons, ih, nxtB_bytes f k s]
        simp
    show t.kids.foldl (fun s u => nxtT (fun _ t s => s ++ headB t) f u s) (s ++ headB t) = s ++ (headB t ++ (t.kids.map (bytesT f)).flatten)
    rw [h, List.append_assoc]

theorem okT_true : ∀ (f : Nat) (t : Tm f) (d : Int), okT (fun _ _ _ => true) f t d = true
  | 0, t, _ => nomatch t
  | f + 1, (t : Nd (Tm f)), d => by
    show (true && t.kids.all fun u => okT (fun _ _ _ => true) f u (deeper d)) = true
    rw [Bool.true_and, List.all_eq_true]
    exact fun u _ => okT_true f u (deeper d)

set_option maxHeartbeats 1000000 in
/-- The bytes of a term that may be, or the error. -/
theorem put_any (S : Nat → Prop) (f : Nat) (t : Tm f) (v : Value) (w : World) (hS : ∀ b, S b → b < w.heap.size) (hsh : Shp w) (hv : TV w S f v t) :
    Calls Tryd.prog 9 #[v] w fun e w' => ∃ u, e = .returned (.tuple #[u, .int .i64 (putOf f t).2]) ∧ w'.ownsRow w.heap.size 5 1 u (putOf f t).1.length ((putOf f t).1.map bv) ∧ Below w.heap.size w w' := by
  obtain ⟨e0, e1, e2, e3, rfl, ht⟩ := hv
  obtain ⟨j0, j1, X2, n2, z2, X3, n3, z3, rfl, rfl, rfl, rfl⟩ := tm_form ht
  have tv : TV w S f (.agg #[.int .i64 j0, .int .u64 j1, .slice X2 n2 z2, .slice X3 n3 z3]) t := ⟨_, _, _, _, rfl, ht⟩
  have hchk := check_any S f t _ (w.alloc (.cells #[.int .i64 j0, .int .u64 j1, .slice X2 n2 z2, .slice X3 n3 z3] 26)) (fun b hb => by have := hS b hb; simp; omega) (hsh.alloc _) (tv.alloc _)
  have K0 := KB.new w 26 #[.int .i64 j0, .int .u64 j1, .slice X2 n2 z2, .slice X3 n3 z3]
  have B0 := (Below.refl w.heap.size w).alloc (Nat.le_refl _) (.cells #[.int .i64 j0, .int .u64 j1, .slice X2 n2 z2, .slice X3 n3 z3] 26)
  unfold putOf
  cases hm : mayT f t 8 with
  | false =>
    rw [hm, if_neg (by simp)] at hchk
    rw [if_neg (by simp)]
    go_enter Tryd.func9, Tryd.ntmps9
    go_wp2_with fail
    refine hchk.mono ?_
    rintro e w5 ⟨rfl, b5⟩
    have B5 := B0.trans (b5.mono B0.size)
    clear hchk
    go_wp2_with fail
    go_ret2
    exact ⟨_, rfl, World.ownsRow_nil _ _ _ _, B5⟩
  | true =>
    rw [hm, if_pos rfl] at hchk
    rw [if_pos rfl]
    have hle := bytes_may hm
    have hea := fun (w5 : World) (b5 : Below (w.alloc (.cells #[.int .i64 j0, .int .u64 j1, .slice X2 n2 z2, .slice X3 n3 z3] 26)).heap.size (w.alloc (.cells #[.int .i64 j0, .int .u64 j1, .slice X2 n2 z2, .slice X3 n3 z3] 26)) w5) =>
      each_any 31 #[.pointer (some ⟨w5.heap.size, 0, none⟩)] (IP w5.heap.size (w5.heap.size + 1)) (fun _ _ _ => true) (fun _ t s => s ++ headB t) (fun s => s.length ≤ 1000000) S (fun P w s o h => h.alloc o) (fun P Q w s h hq => h.mono hq) runs_put1
        (fun f t s h => by rw [nxtB_bytes, List.length_append] at h; omega)
        (fun f t v d s w P hd hP hS hg hsh hi hb hv => (put1_any w5.heap.size (w5.heap.size + 1) S f t v d s w P hP hS hsh hi hb hv).mono fun e w' hh => ⟨hh.1, fun _ => hh.2.1, hh.2.2⟩)
        f t _ [] (w5.alloc (.cells #[.slice none 0 0] 23)) (fun b => b < w5.heap.size) (fun b hb => by simp; omega) (fun b hb => by have := hS b hb; have := b5.size; simp at this; omega)
        (((hsh.alloc _).below b5).1) (((hsh.alloc _).below b5).alloc _)
        ⟨Nat.lt_irrefl _, Nat.lt_succ_self _, by simp, _, KB.new w5 _ _, World.ownsRow_nil _ _ _ _, fun k hk => by simp [Value.ownBlock] at hk⟩
        (by rw [nxtB_bytes]; simpa using hle) (((tv.alloc (.cells #[.int .i64 j0, .int .u64 j1, .slice X2 n2 z2, .slice X3 n3 z3] 26)).below' b5).alloc _)
    rw [okT_true, nxtB_bytes, List.nil_append] at hea
    clear hm hle tv ht hsh
    generalize bytesT f t = L at *
    by_cases h4 : 400 < L.length
    · rw [if_pos h4]
      go_enter Tryd.func9, Tryd.ntmps9
      go_wp2_with fail
      refine hchk.mono ?_
      rintro e w5 ⟨rfl, b5⟩
      have B5 := B0.trans (b5.mono B0.size)
      have K5 := K0.below b5 K0.lt
      have hc := hea w5 b5
      have hz5 := K5.lt
      have q0 := K5.cell 0
      have q1 := K5.cell 1
      have q2 := K5.cell 2
      have q3 := K5.cell 3
      clear hea hchk
      go_wp2_with fail
      refine hc.mono ?_
      rintro e w7 ⟨rfl, hI7, hk7⟩
      obtain ⟨_, _, _, v7, kg7, how7, _⟩ := hI7 (by trivial)
      have B7 := (B5.alloc (by have := B5.size; omega) (.cells #[.slice none 0 0] 23)).trans (hk7.to_below (B := w.heap.size) fun x hx => by omega)
      obtain ⟨A7, c7, rfl⟩ := own_form how7
      have qb : w7.cell? ⟨w5.heap.size, 0, none⟩ = some (.slice A7 L.length c7) := kg7.cell 0
      clear hc q0 q1 q2 q3 hI7 hk7 b5
      go_wp2_with fail
      go_ret2
      exact ⟨_, rfl, World.ownsRow_nil _ _ _ _, B7⟩
    · rw [if_neg h4]
      go_enter Tryd.func9, Tryd.ntmps9
      go_wp2_with fail
      refine hchk.mono ?_
      rintro e w5 ⟨rfl, b5⟩
      have B5 := B0.trans (b5.mono B0.size)
      have K5 := K0.below b5 K0.lt
      have hc := hea w5 b5
      have hz5 := K5.lt
      have q0 := K5.cell 0
      have q1 := K5.cell 1
      have q2 := K5.cell 2
      have q3 := K5.cell 3
      clear hea hchk
      go_wp2_with fail
      refine hc.mono ?_
      rintro e w7 ⟨rfl, hI7, hk7⟩
      obtain ⟨_, _, _, v7, kg7, how7, _⟩ := hI7 (by trivial)
      have B7 := (B5.alloc (by have := B5.size; omega) (.cells #[.slice none 0 0] 23)).trans (hk7.to_below (B := w.heap.size) fun x hx => by omega)
      obtain ⟨A7, c7, rfl⟩ := own_form how7
      have qb : w7.cell? ⟨w5.heap.size, 0, none⟩ = some (.slice A7 L.length c7) := kg7.cell 0
      clear hc q0 q1 q2 q3 hI7 hk7 b5
      go_wp2_with fail
      go_ret2
      exact ⟨_, rfl, own_base how7 (by omega), B7⟩
end Go.Proofs.YtmepcdljobdigaaDoor
