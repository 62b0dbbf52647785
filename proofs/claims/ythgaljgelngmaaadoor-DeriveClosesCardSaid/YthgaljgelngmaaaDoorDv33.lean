/-
  DcG: How the program puts terms behind the list so far, each once: its contract, over the loaded program. No condition but what the theorem names.
-/
import Derived.Test.YthgaljgelngmaaaDoorDv31
import Derived.Deep.RegionLaw
import Derived.Deep.CutRange
import Derived.Test.YthgaljgelngmaaaDoorInv

section
namespace Go.Proofs.YthgaljgelngmaaaDoor
open Go.RowKit
set_option linter.unusedVariables false

theorem allocB (w : World) (o : Obj) : Below w.heap.size w (w.alloc o) := (Below.refl _ _).alloc (Nat.le_refl _) o

/-- An element of a row of terms, where memory stands now. -/
theorem el_kp {w wr : World} {S1 S : Nat → Prop} {f : Nat} {A : Option Addr} {n c : Nat} {ks : List (Tm f)} (h : KS w S1 (TM w S f) (.slice A n c) ks) (hn : ks.length = n) (hs : w.heap.size ≤ wr.heap.size) (h1 : ∀ b, S1 b → b < w.heap.size → wr.heap[b]? = w.heap[b]?) (h2 : ∀ b, S b → b < w.heap.size → wr.heap[b]? = w.heap[b]?) (j : Nat) (hj : j < ks.length) :
    ∃ b o e0 e1 e2 e3, A = some ⟨b, o, none⟩ ∧ b < wr.heap.size ∧ wr.cell? ⟨b, o + j * 4, none⟩ = some e0 ∧ wr.cell? ⟨b, o + j * 4 + 1, none⟩ = some e1 ∧ wr.cell? ⟨b, o + j * 4 + 2, none⟩ = some e2 ∧ wr.cell? ⟨b, o + j * 4 + 3, none⟩ = some e3 ∧ TM wr S f ks[j] e0 e1 e2 e3 := by
  subst hn
  obtain ⟨A', c', e, hl, hc, hz, hx⟩ := h
  injection e with e1 e2 e3
  subst e1 e3
  obtain ⟨b, o, rfl, sb, hlt, hx⟩ := hx (by omega)
  obtain ⟨e0, e1, e2, e3, k0, k1, k2, k3, ht⟩ := hx j ks[j] (List.getElem?_eq_getElem hj)
  have hc := fun (x : Nat) => World.cell?_of_block (w := w) (w' := wr) (a := ⟨b, x, none⟩) (h1 b sb hlt)
  exact ⟨b, o, e0, e1, e2, e3, rfl, by omega, (hc _).trans k0, (hc _).trans k1, (hc _).trans k2, (hc _).trans k3, TM.keepS f ks[j] e0 e1 e2 e3 ht hs h2 fun _ h => h⟩

theorem putsD_take_len {α : Type} [DecidableEq α] (c g : List α) (j : Nat) : (putsD c (g.take j)).length ≤ (putsD c g).length := by
  have : putsD c g = putsD (putsD c (g.take j)) (g.drop j) := by
    unfold putsD
    rw [← List.foldl_append, List.take_append_drop]
  obtain ⟨m, hm⟩ := putsD_pre (g.drop j) (putsD c (g.take j))
  rw [this, hm, List.length_append]
  omega

theorem there_r {r : Bool} (bl m n : Nat) (vo : Look → Value) (S1 S S' : Nat → Prop) (f : Nat) (ks : List (Tm f)) (t : Tm f) (x : Value) (w : World) (kl : KB w bl 59 #[.map (some m)]) (hm : MapW w m vo n) (hx : TV w S' f x t) (hk : KS w S1 (TM w S f) (vo (lookT f t)) ks) (hr : decide (t ∈ ks) = r) :
    Calls Tryd.prog 35 #[x, .pointer (some ⟨bl, 0, none⟩)] w fun e w' => e = .returned (.bool r) ∧ Below w.heap.size w w' := by
  subst hr
  exact there_any bl m n vo S1 S S' f ks t x w kl hm hx hk

theorem grow_ne {g7 ba n c N : Nat} {v : Value} (h7 : (Value.slice (some ⟨g7, 0, none⟩) n c).ownBlock = v.ownBlock ∨ (Value.slice (some ⟨g7, 0, none⟩) n c).ownBlock = some N) (h1 : v.ownBlock ≠ some ba) (h2 : ba < N) : ¬ g7 = ba := by
  rintro rfl
  rcases h7 with e | e
  · exact h1 e.symm
  · simp [Value.ownBlock] at e; omega

theorem BB_step {w8 wx w9 : World} {T : TypeId} {cs : Array Value} (BB : Below w8.heap.size w8 wx) (b9 : Below (wx.alloc (.cells cs T)).heap.size (wx.alloc (.cells cs T)) w9) : Below w8.heap.size w8 w9 ∧ KB w9 wx.heap.size T cs :=
  ⟨(BB.alloc BB.size _).trans (b9.mono (BB.alloc BB.size _).size), (KB.new wx T cs).below b9 (KB.new wx T cs).lt⟩
theorem KB_step {wx w9 : World} {g : Nat} {t : TypeId} {cs : Array Value} {o : Obj} (k : KB wx g t cs) (b9 : Below (wx.alloc o).heap.size (wx.alloc o) w9) : KB w9 g t cs := (k.alloc o).below b9 (k.alloc o).lt

theorem At_kbq {w : World} {g : Nat} {q : Quad} (h : KB w g 35 #[q.1, q.2.1, q.2.2.1, q.2.2.2]) : At w ⟨g, 0, none⟩ [q] := by
  intro j u hu
  rw [Addr.add_lit, Nat.zero_add, h.cell]
  simpa [flatQ, quad] using hu

theorem LkS.stored {S : Nat → Prop} {B ba m f : Nat} {O : Nat → Prop} {w : World} {va : Value} {qs : List Quad} {vo : Look → Value} {qo : Look → List Quad} {n : Nat} {seen : List (Tm f)} {t' : Tm f} {K : Look} (hK : lookT f t' = K)
    (h : LkS S B ba m f O w va qs vo qo n (seen ++ [t']) seen) (hB : B ≤ w.heap.size) {w6 w7 w9 : World} {v7 : Value} {l0 l1 l2 l3 : Value} (B6 : Below w.heap.size w w6) (tm : TM w S f t' l0 l1 l2 l3)
    (how7 : w7.ownsRow B 35 4 v7 (qo K ++ [(l0, l1, l2, l3)]).length (flatQ (qo K ++ [(l0, l1, l2, l3)]))) (hg7 : w6.grownBy w7 (vo K).ownBlock)
    (h7 : v7.ownBlock = (vo K).ownBlock ∨ v7.ownBlock = some w6.heap.size)
    (hm9 : MapW w9 m (fun k => if k = K then v7 else vo k) (n + 1) ∧ w7.grownBy w9 (some m)) :
    ∃ O9 : Nat → Prop, Lk S B ba m f O9 w9 (seen ++ [t']) ∧ (∀ b, O9 b → O b ∨ w.heap.size ≤ b) ∧ KeepP (fun b => b < w.heap.size ∧ ¬ O b) w w9 := by
  subst hK
  obtain ⟨h1, h2, h3⟩ := h.store hB B6 tm how7 hg7 h7 fun _ => hm9
  exact ⟨_, ⟨_, _, _, _, _, h1⟩, fun b hb => hb.elim .inl (h2 b), h3⟩

theorem LkS.putMap {S : Nat → Prop} {B ba m f : Nat} {O : Nat → Prop} {w w6 w7 : World} {va : Value} {qs : List Quad} {vo : Look → Value} {qo : Look → List Quad} {n : Nat} {all seen : List (Tm f)} (h : LkS S B ba m f O w va qs vo qo n all seen) (hn : n < maxLen) (K : Look) (hK : goodL K) (v7 : Value)
    (B6 : Below w.heap.size w w6) (hg7 : w6.grownBy w7 (vo K).ownBlock) :
    ∃ w9, (Instr.mapUpdate 59 (.map (some m)) (keyV K) v7).run Tryd.prog w7 = .ok () w9 ∧ (MapW w9 m (fun k => if k = K then v7 else vo k) (n + 1) ∧ w7.grownBy w9 (some m)) := by
  have hlt := (h.ob m h.om).2
  have h6 := B6.size
  obtain ⟨w9, h1, h2, h3⟩ := (h.mw.keep (w' := w7) (by rw [hg7.block m (by omega) fun e => (h.far K m e.symm).2.2.1 rfl, B6.block m hlt])).put hn K hK v7
  exact ⟨w9, h1, h2, h3⟩

theorem step_mapput {ops : Array Oper} {o : Oper} {a : Act} {w : World} {K : Act → World → Prop} {Q : Exit → Act → World → Prop} {E : Prop} (hg : o.guard = none) (m x v : Operand) (t : TypeId) (hop : o.op = Op.mapUpdate t m x v)
    (b : Nat) (hm : a.eval m = .map (some b)) (key val : Value) (hx : a.eval x = key) (hv : a.eval v = val) (R : World → Prop) (hrun : ∃ w', (Instr.mapUpdate t (.map (some b)) key val).run Tryd.prog w = .ok () w' ∧ R w')
    (hK : ∀ w', R w' → K (a.put o.dst undef) w') : if Region.wanted o (yielded ops a.tmps) = true then Oper.wp Tryd.prog o a w K Q else E := by
  have hw : Region.wanted o (yielded ops a.tmps) = true := by simp [Region.wanted, hg]
  rw [if_pos hw]
  obtain ⟨w', hr, h1⟩ := hrun
  unfold Oper.wp
  simp [execOp, hop, hm, hx, hv, hr, Result.andThen]
  exact hK _ h1

theorem not_ready2 {md : Region.Mode} {ops : Array Oper} {listed : Array Bool} {i : Nat} (h : i ∉ Region.ready md ops listed) (ha : ((ops[i]?).map (·.after.all fun e => !Region.binds md e || listed.getD e.on false)).getD false = true) : listed.getD i true = true := by
  cases ho : ops[i]? with
  | none => rw [ho] at ha; cases ha
  | some o => rw [ho] at ha; exact not_ready h ho ha

/-- What holds at each point of the region that keeps one more term by its look. -/
structure PB (w8 : World) (M Q KV V : Value) (T : TypeId) (cs : Array Value) (r0 r1 r2 r3 r4 r5 r6 r7 r8 : Bool) (s23 s24 s25 s26 s27 s28 s29 s30 s31 : Value) (gq : Nat) (w : World) : Prop where
  bl : Below w8.heap.size w8 w
  e0 : r0 = true → s23 = M
  e1 : r1 = true → s24 = Q
  e2 : r2 = true → s25 = KV
  e3 : r3 = true → s26 = M
  e4 : r4 = true → s27 = Q
  e5 : r5 = true → s28 = KV
  e6 : r6 = true → s29 = V
  e7 : r7 = true → s30 = Q
  e8 : r8 = true → s31 = .slice (some ⟨gq, 0, none⟩) 1 1 ∧ KB w gq T cs
  c2 : r2 = true → r1 = true
  c5 : r5 = true → r4 = true ∧ r2 = true
  c6 : r6 = true → r3 = true ∧ r5 = true
  c8 : r8 = true → r7 = true

section
variable {w8 : World} {M Q KV V : Value} {T : TypeId} {cs : Array Value} {r0 r1 r2 r3 r4 r5 r6 r7 r8 : Bool} {s23 s24 s25 s26 s27 s28 s29 s30 s31 : Value} {gq : Nat} {w w' : World}
theorem PB.below (h : PB w8 M Q KV V T cs r0 r1 r2 r3 r4 r5 r6 r7 r8 s23 s24 s25 s26 s27 s28 s29 s30 s31 gq w) (hb : Below w.heap.size w w') : PB w8 M Q KV V T cs r0 r1 r2 r3 r4 r5 r6 r7 r8 s23 s24 s25 s26 s27 s28 s29 s30 s31 gq w' :=
  { h with bl := h.bl.trans (hb.mono h.bl.size), e8 := fun k => ⟨(h.e8 k).1, (h.e8 k).2.below hb (h.e8 k).2.lt⟩ }
theorem PB.l0 (h : PB w8 M Q KV V T cs r0 r1 r2 r3 r4 r5 r6 r7 r8 s23 s24 s25 s26 s27 s28 s29 s30 s31 gq w) : PB w8 M Q KV V T cs true r1 r2 r3 r4 r5 r6 r7 r8 M s24 s25 s26 s27 s28 s29 s30 s31 gq w := { h with e0 := fun _ => rfl }
theorem PB.l1 (h : PB w8 M Q KV V T cs r0 r1 r2 r3 r4 r5 r6 r7 r8 s23 s24 s25 s26 s27 s28 s29 s30 s31 gq w) : PB w8 M Q KV V T cs r0 true r2 r3 r4 r5 r6 r7 r8 s23 Q s25 s26 s27 s28 s29 s30 s31 gq w := { h with e1 := fun _ => rfl, c2 := fun _ => rfl }
theorem PB.l2 (h : PB w8 M Q KV V T cs r0 r1 r2 r3 r4 r5 r6 r7 r8 s23 s24 s25 s26 s27 s28 s29 s30 s31 gq w) (h1 : r1 = true) : PB w8 M Q KV V T cs r0 r1 true r3 r4 r5 r6 r7 r8 s23 s24 KV s26 s27 s28 s29 s30 s31 gq w := { h with e2 := fun _ => rfl, c2 := fun _ => h1, c5 := fun k => ⟨(h.c5 k).1, rfl⟩ }
theorem PB.l3 (h : PB w8 M Q KV V T cs r0 r1 r2 r3 r4 r5 r6 r7 r8 s23 s24 s25 s26 s27 s28 s29 s30 s31 gq w) : PB w8 M Q KV V T cs r0 r1 r2 true r4 r5 r6 r7 r8 s23 s24 s25 M s27 s28 s29 s30 s31 gq w := { h with e3 := fun _ => rfl, c6 := fun k => ⟨rfl, (h.c6 k).2⟩ }
theorem PB.l4 (h : PB w8 M Q KV V T cs r0 r1 r2 r3 r4 r5 r6 r7 r8 s23 s24 s25 s26 s27 s28 s29 s30 s31 gq w) : PB w8 M Q KV V T cs r0 r1 r2 r3 true r5 r6 r7 r8 s23 s24 s25 s26 Q s28 s29 s30 s31 gq w := { h with e4 := fun _ => rfl, c5 := fun k => ⟨rfl, (h.c5 k).2⟩ }
theorem PB.l5 (h : PB w8 M Q KV V T cs r0 r1 r2 r3 r4 r5 r6 r7 r8 s23 s24 s25 s26 s27 s28 s29 s30 s31 gq w) (h4 : r4 = true) (h2 : r2 = true) : PB w8 M Q KV V T cs r0 r1 r2 r3 r4 true r6 r7 r8 s23 s24 s25 s26 s27 KV s29 s30 s31 gq w := { h with e5 := fun _ => rfl, c5 := fun _ => ⟨h4, h2⟩, c6 := fun k => ⟨(h.c6 k).1, rfl⟩ }
theorem PB.l6 (h : PB w8 M Q KV V T cs r0 r1 r2 r3 r4 r5 r6 r7 r8 s23 s24 s25 s26 s27 s28 s29 s30 s31 gq w) (h3 : r3 = true) (h5 : r5 = true) : PB w8 M Q KV V T cs r0 r1 r2 r3 r4 r5 true r7 r8 s23 s24 s25 s26 s27 s28 V s30 s31 gq w := { h with e6 := fun _ => rfl, c6 := fun _ => ⟨h3, h5⟩ }
theorem PB.l7 (h : PB w8 M Q KV V T cs r0 r1 r2 r3 r4 r5 r6 r7 r8 s23 s24 s25 s26 s27 s28 s29 s30 s31 gq w) : PB w8 M Q KV V T cs r0 r1 r2 r3 r4 r5 r6 true r8 s23 s24 s25 s26 s27 s28 s29 Q s31 gq w := { h with e7 := fun _ => rfl, c8 := fun _ => rfl }
theorem PB.n8 (h : PB w8 M Q KV V T cs r0 r1 r2 r3 r4 r5 r6 r7 r8 s23 s24 s25 s26 s27 s28 s29 s30 s31 gq w) (h7 : r7 = true) : PB w8 M Q KV V T cs r0 r1 r2 r3 r4 r5 r6 r7 true s23 s24 s25 s26 s27 s28 s29 s30 (.slice (some ⟨w.heap.size, 0, none⟩) 1 1) w.heap.size (w.alloc (.cells cs T)) :=
  { h with bl := h.bl.alloc h.bl.size _, e8 := fun _ => ⟨rfl, KB.new w T cs⟩, c8 := fun _ => h7 }
end

set_option maxHeartbeats 4000000 in
theorem dput_any (bt bl : Nat) (S Sv : Nat → Prop) (B ba m f : Nat) (O : Nat → Prop) (all ks : List (Tm f)) (v : Value) (w : World) (hB : B ≤ w.heap.size) (hL : Lk S B ba m f O w all)
    (kt : KB w bt 41 #[.func (.func 35) #[] #[.pointer (some ⟨bl, 0, none⟩)]]) (kl : KB w bl 59 #[.map (some m)]) (hbt : ¬ O bt) (hbl : ¬ O bl)
    (hk : KS w Sv (TM w S f) v ks) (hSv : ∀ b, Sv b → ¬ O b) (hlen : (putsD all ks).length ≤ 100000) :
    Calls Tryd.prog 39 #[v, .pointer (some ⟨bt, 0, none⟩), .pointer (some ⟨ba, 0, none⟩), .pointer (some ⟨bl, 0, none⟩)] w fun e w' =>
      e = .returned (.tuple #[]) ∧ (∃ O', Lk S B ba m f O' w' (putsD all ks) ∧ (∀ b, O' b → O b ∨ w.heap.size ≤ b)) ∧ KeepP (fun b => b < w.heap.size ∧ ¬ O b) w w' := by
  obtain ⟨A, c, rfl, hlc, hm, _⟩ := id hk
  have hle : ks.length ≤ 9223372036854775807 := by unfold maxLen at hm; omega
  have HB : Hid (∀ j, (putsD all (ks.take j)).length ≤ 100000) := fun j => Nat.le_trans (putsD_take_len all ks j) hlen
  have hbtl := kt.lt
  have hbll := kl.lt
  have HSB : Hid (∀ b, S b → b < B ∧ ¬ O b) := by
    obtain ⟨_, _, _, _, _, h⟩ := hL
    exact fun b hb => ⟨h.sb b hb, fun ob => by have := (h.ob b ob).1; have := h.sb b hb; omega⟩
  clear hm hlen
  go_enter Tryd.func39, Tryd.ntmps39
  go_wp2_with fail
  go_loopw [9] (fun iv wr => ∃ (j : Nat) (O' : Nat → Prop), j ≤ ks.length ∧ iv = .int .i64 j ∧ Lk S B ba m f O' wr (putsD all (ks.take j)) ∧ Hid (∀ b, O' b → O b ∨ w.heap.size ≤ b) ∧ KeepP (fun b => b < w.heap.size ∧ ¬ O b) w wr) (fun iv _ => ks.length - (intOf iv).toNat)
  case atStart => exact ⟨0, O, by omega, rfl, hL, fun b hb => .inl hb, KeepP.refl _ _⟩
  case round =>
    obtain ⟨j, O', hj, rfl, ⟨va, qs, vo, qo, n, L⟩, HO, kp⟩ := hrel
    by_cases hlt : j < ks.length
    · obtain ⟨b, o, e0, e1, e2, e3, rfl, hb, k0, k1, k2, k3, hv⟩ := el_kp hk rfl kp.size (fun b hb hl => kp.block b ⟨hl, hSv b hb⟩) (fun b hb hl => kp.block b ⟨hl, (HSB.out b hb).2⟩) j hlt
      obtain ⟨hgood, rfl, rfl, ⟨X2, z2, rfl⟩, X3, n3, z3, rfl⟩ := lookT_tm hv
      have kt1 : KB wr bt 41 #[.func (.func 35) #[] #[.pointer (some ⟨bl, 0, none⟩)]] := kt.keepP kp ⟨hbtl, hbt⟩
      have kl1 : KB wr bl 59 #[.map (some m)] := kl.keepP kp ⟨hbll, hbl⟩
      have hB1 : B ≤ wr.heap.size := Nat.le_trans hB kp.size
      have hrow := (L.below (allocB wr (.cells #[.int .i64 (lookT f ks[j]).1, .int .u64 ((lookT f ks[j]).2.1 : Int), .slice X2 (lookT f ks[j]).2.2 z2, .slice X3 n3 z3] 35)) hB1)
      have hc := there_r (r := decide (ks[j] ∈ putsD all (ks.take j))) bl m n vo _ _ S f (inL f (lookT f ks[j]) (putsD all (ks.take j))) ks[j] (.agg #[.int .i64 (lookT f ks[j]).1, .int .u64 ((lookT f ks[j]).2.1 : Int), .slice X2 (lookT f ks[j]).2.2 z2, .slice X3 n3 z3]) _ (kl1.alloc _) hrow.mw (TV.alloc ⟨_, _, _, _, rfl, hv⟩ _) (hrow.ks (by simp; omega) _) (decide_eq_decide.2 (inL_mem (l := putsD all (ks.take j)) ks[j]))
      have HS : Hid (putsD all (ks.take (j + 1)) = putD (putsD all (ks.take j)) ks[j]) := putsD_take all ks j hlt
      have HD : Hid (∀ c : List (Tm f), putD c ks[j] = if ks[j] ∈ c then c else c ++ [ks[j]]) := fun c => rfl
      have HLn : Hid ((putsD all (ks.take j)).length ≤ 100000) := HB.out j
      generalize putsD all (ks.take j) = C at *
      have HY : Hid (decide (ks[j] ∈ C) = true → putsD all (ks.take (j + 1)) = C) := fun h => by
        rw [HS.out, HD.out, if_pos (of_decide_eq_true h)]
      have HN : Hid (decide (ks[j] ∈ C) = false → putsD all (ks.take (j + 1)) = C ++ [ks[j]]) := fun h => by
        rw [HS.out, HD.out, if_neg (of_decide_eq_false h)]
      generalize decide (ks[j] ∈ C) = r at *
      clear hrow HD HS
      have hlook := lookOf_any (lookT f ks[j]) hgood X2 X3 z2 n3 z3
      have HLK : Hid (∃ K : Look, K = lookT f ks[j] ∧ goodL K) := ⟨_, rfl, hgood⟩
      have qt : (wr.alloc (.cells #[.int .i64 (lookT f ks[j]).1, .int .u64 ((lookT f ks[j]).2.1 : Int), .slice X2 (lookT f ks[j]).2.2 z2, .slice X3 n3 z3] 35)).cell? ⟨bt, 0, none⟩ = some (.func (.func 35) #[] #[.pointer (some ⟨bl, 0, none⟩)]) := (kt1.alloc _).cell 0
      have K0 := KB.new wr 35 #[.int .i64 (lookT f ks[j]).1, .int .u64 ((lookT f ks[j]).2.1 : Int), .slice X2 (lookT f ks[j]).2.2 z2, .slice X3 n3 z3]
      have B0 := allocB wr (.cells #[.int .i64 (lookT f ks[j]).1, .int .u64 ((lookT f ks[j]).2.1 : Int), .slice X2 (lookT f ks[j]).2.2 z2, .slice X3 n3 z3] 35)
      generalize hkk : lookT f ks[j] = K at *
      generalize hi0 : K.1 = i0 at *
      generalize hi1 : ((K.2.1 : Nat) : Int) = i1 at *
      generalize hi2 : K.2.2 = n2 at *
      have hbt1 : bt < wr.heap.size := kt1.lt
      clear kt1
      go_wp2_with fail
      refine hc.mono ?_
      rintro e w5 ⟨rfl, b5⟩
      have B5 := B0.trans (b5.mono B0.size)
      have L5 := L.below B5 hB1
      have HOb : Hid (∀ b, O' b → b < wr.heap.size) := fun b hb => (L.ob b hb).2
      have kp5 := kp.trans ((KeepP.of_below (P := fun b => b < wr.heap.size) B5 fun b h => h).mono fun b hb => Nat.lt_of_lt_of_le hb.1 kp.size)
      have K5 := K0.below b5 K0.lt
      have kl5 := kl1.below B5 kl1.lt
      have hv5 := TM.keepS f _ _ _ _ _ hv B5.size (fun b _ hlt => B5.block b hlt) fun _ h => h
      clear hc qt k0 k1 k2 k3 L hv B0 b5 K0 kl1
      cases r with
      | true =>
        have hr := HY.out rfl
        have hL5 : Lk S B ba m f O' w5 (putsD all (ks.take (j + 1))) := by rw [hr]; exact ⟨_, _, _, _, _, L5⟩
        clear HY HN hr L5
        go_wp2_with fail
        go_roundw
        case rel => exact ⟨j + 1, O', by omega, by go_num, hL5, HO, kp5⟩
        case measure => simp [intOf]; omega
      | false =>
        have HN' := Lib.hid (HN.out rfl)
        clear HY HN
        have hB5 : B ≤ w5.heap.size := Nat.le_trans hB1 B5.size
        have HQ : Hid (qs.length + 1 ≤ 1000000000) := by have h1 := L5.qt.1; have h2 := HLn.out; show _ ≤ _; omega
        have HQo : Hid ((qo K).length + 1 ≤ 1000000000) := by have h1 := (L5.rqt K).1; have h2 := inL_len f K C; have h3 := HLn.out; show _ ≤ _; omega
        have Hn : Hid (n < maxLen) := by have h1 := L5.nn; have h3 := HLn.out; show _ < _; unfold maxLen; omega
        obtain ⟨Aa, ca, rfl⟩ := own_form L5.ro
        have hba := (L5.ob ba L5.oa).2
        have hbaO : ¬ ba = wr.heap.size := fun e => by have := HOb.out ba L5.oa; omega
        have hbaO' : ¬ wr.heap.size = ba := fun e => hbaO e.symm
        have hwx : wr.heap.size < w5.heap.size := K5.lt
        have hvx : (Value.slice Aa qs.length ca).ownBlock ≠ some wr.heap.size := fun e => by have := HOb.out _ (L5.mine _ e).2.2; omega
        have K6 := K5.alloc (.cells #[.int .i64 0, .int .u64 0, .slice none 0 0, .slice none 0 0] 35)
        have x0 : w5.cell? ⟨wr.heap.size, 0, none⟩ = some (.int .i64 i0) := K5.cell 0
        have x1 : w5.cell? ⟨wr.heap.size, 1, none⟩ = some (.int .u64 i1) := K5.cell 1
        have x2 : w5.cell? ⟨wr.heap.size, 2, none⟩ = some (.slice X2 n2 z2) := K5.cell 2
        have x3 : w5.cell? ⟨wr.heap.size, 3, none⟩ = some (.slice X3 n3 z3) := K5.cell 3
        have qa : w5.cell? ⟨ba, 0, none⟩ = some (.slice Aa qs.length ca) := L5.kb.cell 0
        have fa := L5.kb.free 0
        have hlt1 : (qs.length : Int) < (qs.length : Int) + 1 := by omega
        have B6 : Below w5.heap.size w5 (w5.alloc (.cells #[.int .i64 0, .int .u64 0, .slice none 0 0, .slice none 0 0] 35)).drew := Below_drawn (allocB w5 _) 1
        have how6 : (w5.alloc (.cells #[.int .i64 0, .int .u64 0, .slice none 0 0, .slice none 0 0] 35)).drew.ownsRow B 35 4 (.slice Aa qs.length ca) qs.length (flatQ qs) := own_past B6 L5.ro
        have hB6 : B ≤ (w5.alloc (.cells #[.int .i64 0, .int .u64 0, .slice none 0 0, .slice none 0 0] 35)).drew.heap.size := Nat.le_trans hB5 B6.size
        have kg6 : KB (w5.alloc (.cells #[.int .i64 0, .int .u64 0, .slice none 0 0, .slice none 0 0] 35)).drew ba 22 #[.slice Aa qs.length ca] := L5.kb.alloc _
        have hne6 : (Value.slice Aa qs.length ca).ownBlock ≠ some ba := fun e => (L5.mine ba e).1 rfl
        have hba6 := Nat.lt_of_lt_of_le hba B6.size
        go_upto_region 4 with fail
        go_cut [] from 10 to 33 (fun wc => ∃ (O8 : Nat → Prop) (va8 : Value) (qs8 : List Quad), LkS S B ba m f O8 wc va8 qs8 vo qo n (C ++ [ks[j]]) C ∧ Hid (∀ b, O8 b → O' b ∨ w5.heap.size ≤ b) ∧ KeepP (fun b => b < w5.heap.size ∧ ¬ O' b) w5 wc)
        case first =>
          clear hlook
          go_region_law
            (first
            | (refine step_growT rfl _ _ rfl B _ qs rfl how6 _ 1 [zq] rfl (At_new w5 zq) (by intro u hu; simp [flatQ, quad] at hu; rcases hu with rfl | rfl | rfl | rfl <;> rfl) HQ.out hB6 ?_; intro v7 w7 how7 hg7 h7; have kg7 := kg6.grown hg7 hne6; obtain ⟨g7, c7, rfl, hB7, t0, t1, t2, t3, hfr⟩ := own_KB how7; have r0 := hfr (qs.length * 4); have r1 := hfr (qs.length * 4 + 1); have r2 := hfr (qs.length * 4 + 2); have r3 := hfr (qs.length * 4 + 3); have K7 := KB.grown (w := (w5.alloc (.cells #[.int .i64 0, .int .u64 0, .slice none 0 0, .slice none 0 0] 35)).drew) K6 hg7 hvx; clear x0 x1 x2 x3; have x0 : w7.cell? ⟨wr.heap.size, 0, none⟩ = some (.int .i64 i0) := K7.cell 0; have x1 : w7.cell? ⟨wr.heap.size, 1, none⟩ = some (.int .u64 i1) := K7.cell 1; have x2 : w7.cell? ⟨wr.heap.size, 2, none⟩ = some (.slice X2 n2 z2) := K7.cell 2; have x3 : w7.cell? ⟨wr.heap.size, 3, none⟩ = some (.slice X3 n3 z3) := K7.cell 3; have hne := grow_ne h7 hne6 hba6; have hne' : ¬ ba = g7 := (fun e => hne e.symm); clear qa fa hfr; have qa : w7.cell? ⟨ba, 0, none⟩ = some (.slice Aa qs.length ca) := kg7.cell 0; have fa := kg7.free 0))
          all_goals
            obtain ⟨L8, hO8, hK8⟩ := LkS.grow L5 hB5 B6 hv5 how7 hg7 h7
            (first | rw [set_swap _ ba g7 _ _ _ _ hne', set_swap _ ba g7 _ _ _ _ hne', set_swap _ ba g7 _ _ _ _ hne', set_swap _ ba g7 _ _ _ _ hne'] | skip)
            clear qa fa t0 t1 t2 t3 r0 r1 r2 r3 x0 x1 x2 x3
            rw [List.length_append, List.length_singleton] at L8 hK8
            generalize ((((w7.setCell ⟨g7, qs.length * 4, none⟩ (.int .i64 i0)).setCell ⟨g7, qs.length * 4 + 1, none⟩ (.int .u64 i1)).setCell ⟨g7, qs.length * 4 + 2, none⟩ (.slice X2 n2 z2)).setCell ⟨g7, qs.length * 4 + 3, none⟩ (.slice X3 n3 z3)).setCell ⟨ba, 0, none⟩ (.slice (some ⟨g7, 0, none⟩) (qs.length + 1) c7) = w8 at *
            go_wp2_with fail
            go_meet
            exact ⟨_, _, _, L8, fun b hb => by
              rcases hb with hb | rfl
              · exact .inl hb
              · exact hO8, hK8⟩
        case rest =>
          obtain ⟨O8, va8, qs8, L8, HO8, hK8⟩ := hcut
          obtain ⟨w8, rfl⟩ : ∃ w8, w8 = wc := ⟨_, rfl⟩
          have hB8 : B ≤ w8.heap.size := Nat.le_trans hB5 hK8.size
          have K8 := K5.keepP hK8 ⟨hwx, fun h => Nat.lt_irrefl _ (HOb.out _ h)⟩
          have kl8 := kl5.keepP hK8 ⟨kl5.lt, fun h => (HO.out bl h).elim hbl fun h => by omega⟩
          have hv8 := TM.keepS (w' := w8) (S' := S) f _ _ _ _ _ hv5 hK8.size (fun b sb hlt => hK8.block b ⟨hlt, fun h => by have := (L5.ob b h).1; have := (HSB.out b sb).1; omega⟩) fun _ h => h
          have HM : Hid (∀ w9, Below w8.heap.size w8 w9 → (Instr.lookup 59 (.map (some m)) (keyV K) false).run Tryd.prog w9 = .ok (vo K) w9) := fun w9 b9 => (L8.mw.keep (b9.block m L8.mw.lt)).look _ hgood
          have HW : Hid (∀ w9, Below w8.heap.size w8 w9 → w9.ownsRow B 35 4 (vo K) (qo K).length (flatQ (qo K))) := fun w9 b9 => own_past b9 (L8.row K)
          have HP : Hid (∀ w6 w7 v7, Below w8.heap.size w8 w6 → w6.grownBy w7 (vo K).ownBlock → ∃ w9, (Instr.mapUpdate 59 (.map (some m)) (keyV K) v7).run Tryd.prog w7 = .ok () w9 ∧ (MapW w9 m (fun k => if k = K then v7 else vo k) (n + 1) ∧ w7.grownBy w9 (some m))) := fun w6 w7 v7 b6 hg => L8.putMap Hn.out K hgood v7 b6 hg
          clear x0 x1 x2 x3 qa fa hlt1 how6 kg6 hba6 hB6 B6 K6 hvx hne6 hbaO hbaO' hba
          have BB : Below w8.heap.size w8 w8.drew := Below_drawn (Below.refl _ _) 1
          have hwx8 : wr.heap.size < w8.heap.size := K8.lt
          have hbl8 : bl < w8.heap.size := kl8.lt
          go_upto_region 5 with fail
          have HJ : Hid (∀ (O9 : Nat → Prop) (w9 : World), Lk S B ba m f O9 w9 (C ++ [ks[j]]) → (∀ b, O9 b → O8 b ∨ w8.heap.size ≤ b) → KeepP (fun b => b < w8.heap.size ∧ ¬ O8 b) w8 w9 →
              Lk S B ba m f O9 w9 (putsD all (ks.take (j + 1))) ∧ Hid (∀ b, O9 b → O b ∨ w.heap.size ≤ b) ∧ KeepP (fun b => b < w.heap.size ∧ ¬ O b) w w9) := by
            intro O9 w9 L9 h9 k9
            have s58 := hK8.size
            have sw5 := kp5.size
            have h8 : ∀ b, O8 b → O b ∨ w.heap.size ≤ b := fun b hb => (HO8.out b hb).elim (HO.out b) fun h => .inr (by omega)
            refine ⟨by rw [HN'.out]; exact L9, fun b hb => (h9 b hb).elim (h8 b) fun h => .inr (by omega), (kp5.trans (hK8.mono fun b hb => ⟨by omega, fun ho => ?_⟩)).trans (k9.mono fun b hb => ⟨by omega, fun ho => ?_⟩)⟩
            · exact (HO.out b ho).elim hb.2 fun h => by omega
            · exact (h8 b ho).elim hb.2 fun h => by omega
          have hnbl : (vo K).ownBlock ≠ some bl := fun e => (HO8.out bl (L8.far K bl e).2.2.2).elim (fun h => (HO.out bl h).elim hbl fun h => by omega) fun h => by have := kl5.lt; omega
          clear hi0 hi1 hi2
          refine wp_region_any (by kernel_rfl) ?_
          change wpAny _ _ _ _ _ _ _ (World.drew _)
          refine wpAny_inv (fun listed act w' => ∃ (r0 r1 r2 r3 r4 r5 r6 r7 r8 : Bool) (s23 s24 s25 s26 s27 s28 s29 s30 s31 : Value) (gq : Nat), listed = #[r0, r1, r2, r3, r4, r5, r6, r7, r8, false, false] ∧ act = { tmps := #[.slice (some ⟨b, o, none⟩) ks.length c, .pointer (some ⟨bt, 0, none⟩), .pointer (some ⟨ba, 0, none⟩), .pointer (some ⟨bl, 0, none⟩), undef, undef, .pointer (some ⟨wr.heap.size, 0, none⟩), .slice (some ⟨b, o, none⟩) ks.length c, .int .i64 ks.length, .int .i64 j, u10, u11, u12, u13, u14, u15, u16, u17, u18, u19, u20, u21, u22, s23, s24, s25, s26, s27, s28, s29, s30, s31, u32, u33], defers := [] } ∧ PB w8 (.map (some m)) (.agg #[.int .i64 i0, .int .u64 i1, .slice X2 n2 z2, .slice X3 n3 z3]) (keyV K) (vo K) 35 #[.int .i64 i0, .int .u64 i1, .slice X2 n2 z2, .slice X3 n3 z3] r0 r1 r2 r3 r4 r5 r6 r7 r8 s23 s24 s25 s26 s27 s28 s29 s30 s31 gq w') ?_ ?_ _ _ _ _
            ⟨false, false, false, false, false, false, false, false, false, u23, u24, u25, u26, u27, u28, u29, u30, u31, 0, rfl, rfl, ⟨BB, (fun k => by cases k), (fun k => by cases k), (fun k => by cases k), (fun k => by cases k), (fun k => by cases k), (fun k => by cases k), (fun k => by cases k), (fun k => by cases k), (fun k => by cases k), (fun k => by cases k), (fun k => by cases k), (fun k => by cases k), (fun k => by cases k)⟩⟩ rfl
          · rintro fuel listed act w' ⟨r0, r1, r2, r3, r4, r5, r6, r7, r8, s23, s24, s25, s26, s27, s28, s29, s30, s31, gq, rfl, rfl, hPB⟩ _ hr
            exfalso
            have hnr : ∀ i : Nat, ¬ i ∈ ([] : List Nat) := by simp
            rw [← hr] at hnr
            have t0 : r0 = true := by
              exact not_ready2 (hnr 0) (by simp [Region.binds])
            subst t0
            have t1 : r1 = true := by
              exact not_ready2 (hnr 1) (by simp [Region.binds])
            subst t1
            have t3 : r3 = true := by
              exact not_ready2 (hnr 3) (by simp [Region.binds])
            subst t3
            have t4 : r4 = true := by
              exact not_ready2 (hnr 4) (by simp [Region.binds])
            subst t4
            have t7 : r7 = true := by
              exact not_ready2 (hnr 7) (by simp [Region.binds])
            subst t7
            have t2 : r2 = true := by
              exact not_ready2 (hnr 2) (by simp [Region.binds])
            subst t2
            have t5 : r5 = true := by
              exact not_ready2 (hnr 5) (by simp [Region.binds])
            subst t5
            have t6 : r6 = true := by
              exact not_ready2 (hnr 6) (by simp [Region.binds])
            subst t6
            have t8 : r8 = true := by
              exact not_ready2 (hnr 8) (by simp [Region.binds])
            subst t8
            have h9 : false = true := by
              exact not_ready2 (hnr 9) (by simp [Region.binds])
            cases h9
          · rintro fuel listed act w' ⟨r0, r1, r2, r3, r4, r5, r6, r7, r8, s23, s24, s25, s26, s27, s28, s29, s30, s31, gq, rfl, rfl, hPB⟩ hcnt
            by_cases hall : r6 = true ∧ r8 = true
            · obtain ⟨rfl, rfl⟩ := hall
              obtain rfl := hPB.c8 rfl
              obtain ⟨rfl, rfl⟩ := hPB.c6 rfl
              obtain ⟨rfl, rfl⟩ := hPB.c5 rfl
              obtain rfl := hPB.c2 rfl
              left
              obtain rfl := hPB.e1 rfl
              obtain rfl := hPB.e2 rfl
              obtain rfl := hPB.e3 rfl
              obtain rfl := hPB.e4 rfl
              obtain rfl := hPB.e5 rfl
              obtain rfl := hPB.e6 rfl
              obtain rfl := hPB.e7 rfl
              obtain ⟨rfl, KQ⟩ := hPB.e8 rfl
              have B6 := hPB.bl
              have kl9 := kl8.below B6 kl8.lt
              have ql : w'.cell? ⟨bl, 0, none⟩ = some (.map (some m)) := kl9.cell 0
              cases r0 with
              | true =>
                obtain rfl := hPB.e0 rfl
                obtain rfl : fuel = 1 := by
                  have h3 : (2 : Nat) = fuel + 1 := hcnt
                  omega
                clear hPB hcnt
                refine wpAny_ready (rs := [9]) (by kernel_rfl) (by simp) ?_
                refine AllReady.cons rfl (fun K0 hK => ?_) AllReady.nil
                refine step_growT rfl _ _ rfl B (vo K) (qo K) rfl (HW.out _ B6) _ 1 [(.int .i64 i0, .int .u64 i1, .slice X2 n2 z2, .slice X3 n3 z3)] rfl (At_kbq (q := (.int .i64 i0, .int .u64 i1, .slice X2 n2 z2, .slice X3 n3 z3)) KQ) (by intro u hu; simp [flatQ, quad] at hu; rcases hu with rfl | rfl | rfl | rfl <;> rfl) HQo.out (Nat.le_trans hB8 B6.size) ?_
                intro v7 w7 how7 hg7 h7
                refine hK _ _ ?_
                clear hK K0
                obtain ⟨w10, hmu, hm9, hg9⟩ := HP.out _ w7 v7 B6 hg7
                refine wpAny_ready (rs := [10]) (by kernel_rfl) (by simp) ?_
                refine AllReady.cons rfl (fun K0 hK => ?_) AllReady.nil
                go_simp
                refine hK _ _ ?_
                clear hK K0
                refine wpAny_done (by kernel_rfl) ?_ _
                obtain ⟨O9, L9, HO9, hK9⟩ := LkS.stored hkk L8 hB8 B6 hv8 how7 hg7 h7 ⟨hm9, hg9⟩
                obtain ⟨L10, HO10, hK10⟩ := HJ.out O9 _ L9 HO9 hK9
                clear hmu HJ HM HW HP L8 how7 hg7 h7 hm9 hg9 L9 HO9 hK9 hK8 BB B6 hlook KQ
                go_wp2_with fail
                go_roundw
                case rel => exact ⟨j + 1, O9, by omega, by go_num, L10, HO10, hK10⟩
                case measure => simp [intOf]; omega
              | false =>
                obtain rfl : fuel = 2 := by
                  have h3 : (3 : Nat) = fuel + 1 := hcnt
                  omega
                clear hPB hcnt
                refine wpAny_ready (rs := [0, 9]) (by kernel_rfl) (by simp) ?_
                refine AllReady.cons rfl (fun K0 hK => ?_) (AllReady.cons rfl (fun K0 hK => ?_) AllReady.nil)
                · go_simp
                  refine hK _ _ ?_
                  clear hK K0
                  refine wpAny_ready (rs := [9]) (by kernel_rfl) (by simp) ?_
                  refine AllReady.cons rfl (fun K0 hK => ?_) AllReady.nil
                  refine step_growT rfl _ _ rfl B (vo K) (qo K) rfl (HW.out _ B6) _ 1 [(.int .i64 i0, .int .u64 i1, .slice X2 n2 z2, .slice X3 n3 z3)] rfl (At_kbq (q := (.int .i64 i0, .int .u64 i1, .slice X2 n2 z2, .slice X3 n3 z3)) KQ) (by intro u hu; simp [flatQ, quad] at hu; rcases hu with rfl | rfl | rfl | rfl <;> rfl) HQo.out (Nat.le_trans hB8 B6.size) ?_
                  intro v7 w7 how7 hg7 h7
                  refine hK _ _ ?_
                  clear hK K0
                  obtain ⟨w10, hmu, hm9, hg9⟩ := HP.out _ w7 v7 B6 hg7
                  refine wpAny_ready (rs := [10]) (by kernel_rfl) (by simp) ?_
                  refine AllReady.cons rfl (fun K0 hK => ?_) AllReady.nil
                  go_simp
                  refine hK _ _ ?_
                  clear hK K0
                  refine wpAny_done (by kernel_rfl) ?_ _
                  obtain ⟨O9, L9, HO9, hK9⟩ := LkS.stored hkk L8 hB8 B6 hv8 how7 hg7 h7 ⟨hm9, hg9⟩
                  obtain ⟨L10, HO10, hK10⟩ := HJ.out O9 _ L9 HO9 hK9
                  clear hmu HJ HM HW HP L8 how7 hg7 h7 hm9 hg9 L9 HO9 hK9 hK8 BB B6 hlook KQ
                  go_wp2_with fail
                  go_roundw
                  case rel => exact ⟨j + 1, O9, by omega, by go_num, L10, HO10, hK10⟩
                  case measure => simp [intOf]; omega
                · refine step_growT rfl _ _ rfl B (vo K) (qo K) rfl (HW.out _ B6) _ 1 [(.int .i64 i0, .int .u64 i1, .slice X2 n2 z2, .slice X3 n3 z3)] rfl (At_kbq (q := (.int .i64 i0, .int .u64 i1, .slice X2 n2 z2, .slice X3 n3 z3)) KQ) (by intro u hu; simp [flatQ, quad] at hu; rcases hu with rfl | rfl | rfl | rfl <;> rfl) HQo.out (Nat.le_trans hB8 B6.size) ?_
                  intro v7 w7 how7 hg7 h7
                  refine hK _ _ ?_
                  clear hK K0
                  obtain ⟨w10, hmu, hm9, hg9⟩ := HP.out _ w7 v7 B6 hg7
                  have ql7 : w7.cell? ⟨bl, 0, none⟩ = some (.map (some m)) := (kl9.grown hg7 hnbl).cell 0
                  refine wpAny_ready (rs := [0]) (by kernel_rfl) (by simp) ?_
                  refine AllReady.cons rfl (fun K0 hK => ?_) AllReady.nil
                  go_simp
                  refine hK _ _ ?_
                  clear hK K0
                  refine wpAny_ready (rs := [10]) (by kernel_rfl) (by simp) ?_
                  refine AllReady.cons rfl (fun K0 hK => ?_) AllReady.nil
                  go_simp
                  refine hK _ _ ?_
                  clear hK K0
                  refine wpAny_done (by kernel_rfl) ?_ _
                  obtain ⟨O9, L9, HO9, hK9⟩ := LkS.stored hkk L8 hB8 B6 hv8 how7 hg7 h7 ⟨hm9, hg9⟩
                  obtain ⟨L10, HO10, hK10⟩ := HJ.out O9 _ L9 HO9 hK9
                  clear hmu HJ HM HW HP L8 how7 hg7 h7 hm9 hg9 L9 HO9 hK9 hK8 BB B6 hlook KQ
                  go_wp2_with fail
                  go_roundw
                  case rel => exact ⟨j + 1, O9, by omega, by go_num, L10, HO10, hK10⟩
                  case measure => simp [intOf]; omega
            · right
              intro i hi
              obtain ⟨hlt9, hfl, ha⟩ := mem_ready hi
              have hi11 : i < 11 := hlt9
              have K9 := K8.below hPB.bl K8.lt
              have kl9 := kl8.below hPB.bl kl8.lt
              have hrun := HM.out w' hPB.bl
              clear hlt9 hi
              have x0 : w'.cell? ⟨wr.heap.size, 0, none⟩ = some (.int .i64 i0) := K9.cell 0
              have x1 : w'.cell? ⟨wr.heap.size, 1, none⟩ = some (.int .u64 i1) := K9.cell 1
              have x2 : w'.cell? ⟨wr.heap.size, 2, none⟩ = some (.slice X2 n2 z2) := K9.cell 2
              have x3 : w'.cell? ⟨wr.heap.size, 3, none⟩ = some (.slice X3 n3 z3) := K9.cell 3
              have ql : w'.cell? ⟨bl, 0, none⟩ = some (.map (some m)) := kl9.cell 0
              have hcase : i = 0 ∨ i = 1 ∨ i = 2 ∨ i = 3 ∨ i = 4 ∨ i = 5 ∨ i = 6 ∨ i = 7 ∨ i = 8 ∨ i = 9 ∨ i = 10 := by omega
              rcases hcase with rfl | rfl | rfl | rfl | rfl | rfl | rfl | rfl | rfl | rfl | rfl
              · refine wpOp_step rfl (fun K0 hK => ?_)
                go_simp
                refine hK _ _ ?_
                exact ⟨true, r1, r2, r3, r4, r5, r6, r7, r8, _, s24, s25, s26, s27, s28, s29, s30, s31, gq, rfl, rfl, hPB.l0 ⟩
              · refine wpOp_step rfl (fun K0 hK => ?_)
                go_simp
                refine hK _ _ ?_
                exact ⟨r0, true, r2, r3, r4, r5, r6, r7, r8, s23, _, s25, s26, s27, s28, s29, s30, s31, gq, rfl, rfl, hPB.l1 ⟩
              · have hd : r1 = true := by
                  have := ha _ rfl
                  simp [Region.binds] at this
                  simp_all
                have g1 := hd
                obtain rfl := hPB.e1 g1
                refine wpOp_step rfl (fun K0 hK => ?_)
                go_simp
                go_at_call 37
                refine (hlook _).mono ?_
                rintro e w9 ⟨rfl, b9⟩
                refine hK _ _ ?_
                exact ⟨r0, r1, true, r3, r4, r5, r6, r7, r8, s23, _, _, s26, s27, s28, s29, s30, s31, gq, rfl, rfl, (hPB.below b9).l2 g1⟩
              · refine wpOp_step rfl (fun K0 hK => ?_)
                go_simp
                refine hK _ _ ?_
                exact ⟨r0, r1, r2, true, r4, r5, r6, r7, r8, s23, s24, s25, _, s27, s28, s29, s30, s31, gq, rfl, rfl, hPB.l3 ⟩
              · refine wpOp_step rfl (fun K0 hK => ?_)
                go_simp
                refine hK _ _ ?_
                exact ⟨r0, r1, r2, r3, true, r5, r6, r7, r8, s23, s24, s25, s26, _, s28, s29, s30, s31, gq, rfl, rfl, hPB.l4 ⟩
              · have hd : r4 = true ∧ r2 = true := by
                  have := ha _ rfl
                  simp [Region.binds] at this
                  simp_all
                obtain ⟨g4, g2⟩ := hd
                obtain rfl := hPB.e4 g4
                obtain rfl := hPB.e2 g2
                refine wpOp_step rfl (fun K0 hK => ?_)
                go_simp
                go_at_call 37
                refine (hlook _).mono ?_
                rintro e w9 ⟨rfl, b9⟩
                refine hK _ _ ?_
                exact ⟨r0, r1, r2, r3, r4, true, r6, r7, r8, s23, s24, _, s26, _, _, s29, s30, s31, gq, rfl, rfl, (hPB.below b9).l5 g4 g2⟩
              · have hd : r3 = true ∧ r5 = true := by
                  have := ha _ rfl
                  simp [Region.binds] at this
                  simp_all
                obtain ⟨g3, g5⟩ := hd
                obtain rfl := hPB.e3 g3
                obtain rfl := hPB.e5 g5
                refine wpOp_step rfl (fun K0 hK => ?_)
                go_simp
                refine hK _ _ ?_
                exact ⟨r0, r1, r2, r3, r4, r5, true, r7, r8, s23, s24, s25, _, s27, _, _, s30, s31, gq, rfl, rfl, hPB.l6 g3 g5⟩
              · refine wpOp_step rfl (fun K0 hK => ?_)
                go_simp
                refine hK _ _ ?_
                exact ⟨r0, r1, r2, r3, r4, r5, r6, true, r8, s23, s24, s25, s26, s27, s28, s29, _, s31, gq, rfl, rfl, hPB.l7 ⟩
              · have hd : r7 = true := by
                  have := ha _ rfl
                  simp [Region.binds] at this
                  simp_all
                have g7 := hd
                obtain rfl := hPB.e7 g7
                refine wpOp_step rfl (fun K0 hK => ?_)
                go_simp
                refine hK _ _ ?_
                exact ⟨r0, r1, r2, r3, r4, r5, r6, r7, true, s23, s24, s25, s26, s27, s28, s29, _, _, _, rfl, rfl, hPB.n8 g7⟩
              · exfalso
                apply hall
                have := ha _ rfl
                simp [Region.binds] at this
                simp_all
              · exfalso
                have := ha _ rfl
                simp [Region.binds] at this
    · obtain rfl : j = ks.length := by omega
      rw [List.take_length] at L
      go_wp2_with fail
      go_end0
      exact ⟨rfl, ⟨O', ⟨_, _, _, _, _, L⟩, HO.out⟩, kp⟩
end Go.Proofs.YthgaljgelngmaaaDoor
end
