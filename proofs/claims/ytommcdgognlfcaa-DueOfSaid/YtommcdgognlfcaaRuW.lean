/-
  The program's own (layer 17): a condition in memory of its own, over the loaded program: its contract. No condition but sizes.
-/
import Derived.Test.YtommcdgognlfcaaRuZ
import Derived.Test.YtommcdgognlfcaaRuG
import Derived.Test.YtommcdgognlfcaaCln
import Derived.Test.YtommcdgognlfcaaRes
import Derived.Laws.EntriesVeiled
namespace Go.Proofs.Ytommcdgognlfcaa
open Go.RowKit
set_option maxRecDepth 100000
set_option linter.unusedVariables false

/-- The variable of the closure. -/
def OwAt (w : World) (go : Nat) : Prop := KB w go 63 #[.func (.func 42) #[] #[.pointer (some ⟨go, 0, none⟩)]]
/-- Blocks of the call's own but for the row that grows. -/
def SO (n : Nat) (kv : Value) (m : Nat) (b : Nat) : Prop := n + 2 ≤ b ∧ b < m ∧ kv.ownBlock ≠ some b
def OwnAs (w : World) (f : Nat) (x : Ex f) (e : Ending) (w' : World) : Prop := ∃ v', e = .returned v' ∧ EV w' (fun b => w.heap.size ≤ b ∧ b < w'.heap.size) f v' x ∧ Below w.heap.size w w'

set_option maxHeartbeats 8000000 in
/-- The closure. -/
theorem own1_any (S : Nat → Prop) (go : Nat) : ∀ (f : Nat) (x : Ex f) (v : Value) (w : World), fewX f x → OwAt w go → EV w S f v x →
    Calls Try.prog 42 #[v, .pointer (some ⟨go, 0, none⟩)] w (OwnAs w f x) := by
  intro f
  induction f with
  | zero => intro x; exact nomatch x
  | succ f ih =>
    intro x v w hfew hg hv
    obtain ⟨c0, c1, c2, c3, rfl, rfl, hk, rfl, hdy, rfl, hml, hks⟩ := hv
    obtain ⟨A3, cap3, e3, hl3, hm3⟩ := hks.form
    subst e3
    obtain ⟨hf1, hf2, hf3⟩ := hfew
    have hgl := hg.lt
    have HGW : Hid (∀ W, Below w.heap.size w W → OwAt W go) := fun W hb => KB.below hg hb hgl
    have hcl := clone_any (x : Nx (Ex f)).mile (by omega)
    obtain ⟨D, hD⟩ : ∃ D, D = OwnAs w (f + 1) x := ⟨_, rfl⟩
    rw [← hD]
    have HD : Hid (∀ (W : World) (kv : Value), XS W (fun b => w.heap.size ≤ b ∧ b < W.heap.size) (EX W (fun b => w.heap.size ≤ b ∧ b < W.heap.size) f) kv (x : Nx (Ex f)).kids → Below w.heap.size w W → D (.returned (.agg #[.int .i64 (x : Nx (Ex f)).op, .int .i64 (x : Nx (Ex f)).days, strV (x : Nx (Ex f)).mile, kv])) W) := fun W kv h1 h2 => by
      rw [hD]
      exact ⟨_, rfl, ⟨_, _, _, _, rfl, rfl, hk, rfl, hdy, rfl, hml, h1⟩, h2⟩
    clear hD hk hdy hml hg
    have HF3 := Lib.hid hf3
    clear hf3
    generalize (x : Nx (Ex f)).op = k at *
    generalize (x : Nx (Ex f)).days = dy at *
    generalize (x : Nx (Ex f)).mile = l at *
    generalize (x : Nx (Ex f)).kids = ks at *
    clear x
    have hlen : ks.length ≤ 9223372036854775807 := by omega
    obtain ⟨kl, hkl⟩ : ∃ kl, kl = ks.length := ⟨_, rfl⟩
    rw [← hkl] at hks hl3 hlen hf1 ⊢
    have HKL := Lib.hid hkl
    clear hkl hf2
    unfold strV at *
    generalize (⟨l.toArray⟩ : ByteArray) = s at *
    obtain ⟨n, hn⟩ : ∃ n, n = w.heap.size := ⟨_, rfl⟩
    have HNN := Lib.hid hn
    have B0 := ((Below.refl w.heap.size w).alloc (Nat.le_refl _) (.cells #[.int .i64 k, .int .i64 dy, .string s, .slice A3 kl cap3] 24)).alloc (by simp) (.cells #[.int .i64 0, .int .i64 0, .string ⟨#[]⟩, .slice none 0 0] 24)
    obtain ⟨K0, R0, _⟩ := two_boxes w #[.int .i64 k, .int .i64 dy, .string s, .slice A3 kl cap3] #[.int .i64 0, .int .i64 0, .string ⟨#[]⟩, .slice none 0 0] 24
    have s0 : ((w.alloc (.cells #[.int .i64 k, .int .i64 dy, .string s, .slice A3 kl cap3] 24)).alloc (.cells #[.int .i64 0, .int .i64 0, .string ⟨#[]⟩, .slice none 0 0] 24)).heap.size = w.heap.size + 2 := by simp
    go_enter Try.func42, Try.ntmps42
    go_wp2_with fail
    refine (hcl _).mono ?_
    rintro e w1 ⟨rfl, b1⟩
    have K1 := K0.below b1 K0.lt
    have R1 := R0.below b1 R0.lt
    have B1 := B0.trans (b1.mono B0.size)
    have hs1 : w.heap.size + 2 ≤ w1.heap.size := by have := b1.size; omega
    have f1 := K1.free 2
    have K2 : KB (w1.setCell ⟨w.heap.size, 2, none⟩ (.string s)) w.heap.size 24 #[.int .i64 k, .int .i64 dy, .string s, .slice A3 kl cap3] := K1.put 2 (.string s)
    have R2 : KB (w1.setCell ⟨w.heap.size, 2, none⟩ (.string s)) (w.heap.size + 1) 24 #[.int .i64 0, .int .i64 0, .string ⟨#[]⟩, .slice none 0 0] := R1.keep (Below.heap_setCell w1 _ _ _ (by show w.heap.size + 1 ≠ w.heap.size; omega))
    have B2 := B1.setCell (p := ⟨w.heap.size, 2, none⟩) (Nat.le_refl _) (.string s)
    have hs2 : w.heap.size + 2 ≤ (w1.setCell ⟨w.heap.size, 2, none⟩ (.string s)).heap.size := by simp [World.setCell]; omega
    have p3 := K2.cell 3
    have q2 : w1.cell? ⟨w.heap.size, 2, none⟩ = some (.string s) := K1.cell 2
    have q3 : w1.cell? ⟨w.heap.size, 3, none⟩ = some (.slice A3 kl cap3) := K1.cell 3
    clear hcl K0 R0 K1 R1 B0 s0 b1 B1 hs1
    go_wp2_with fail
    clear p3 q2 q3 f1
    generalize w1.setCell ⟨w.heap.size, 2, none⟩ (.string s) = w2 at *
    go_loopw [4, 14] (fun sv iv wr => ∃ (j : Nat) (qs : List QuX), j ≤ kl ∧ iv = .int .i64 j ∧ qs.length = j ∧ wr.ownsRow (w.heap.size + 2) 24 4 sv qs.length (flatX qs) ∧ Hid (QX wr (SO w.heap.size sv wr.heap.size) f qs (ks.take j)) ∧
      KB wr w.heap.size 24 #[.int .i64 k, .int .i64 dy, .string s, .slice A3 kl cap3] ∧ KB wr (w.heap.size + 1) 24 #[.int .i64 0, .int .i64 0, .string ⟨#[]⟩, .slice none 0 0] ∧ w.heap.size + 2 ≤ wr.heap.size ∧ Below w.heap.size w wr) (fun _ iv _ => kl - (intOf iv).toNat)
    case atStart => exact ⟨0, [], by omega, rfl, rfl, ⟨rfl, .inl ⟨rfl, rfl⟩⟩, by rw [List.take_zero]; exact QX.nil _ _ _, K2, R2, hs2, B2⟩
    case round =>
      clear K2 R2 hs2 B2
      obtain ⟨j, qs, hj, rfl, hqj, how, HQ, K, R, hsz, B⟩ := hrel
      by_cases hlt : j < kl
      · have hltI : (j : Int) < (kl : Int) := by omega
        have hjk : j < ks.length := by rw [← HKL.out]; exact hlt
        obtain ⟨b, o, e0, e1, e2, e3, rfl, hb, k0, k1, k2, k3, hx⟩ := kid_b hks HKL.out.symm B j hjk
        have bal := B.alloc B.size (.cells #[e0, e1, e2, e3] 24)
        have hc := ih ks[j] _ (wr.alloc (.cells #[e0, e1, e2, e3] 24)) (HF3.out _ (List.getElem_mem hjk)) (HGW.out _ bal) (hx.alloc _)
        have qw : wr.cell? ⟨go, 0, none⟩ = some (.func (.func 42) #[] #[.pointer (some ⟨go, 0, none⟩)]) := (HGW.out wr B).cell 0
        have hgl2 : go < wr.heap.size := Nat.lt_of_lt_of_le hgl B.size
        have hbr : b < wr.heap.size := Nat.lt_of_lt_of_le hb B.size
        obtain ⟨_, _, _, _, e, hx4⟩ := hx
        injection e with e
        simp only [Array.mk.injEq, List.cons.injEq, and_true] at e
        obtain ⟨rfl, rfl, rfl, rfl⟩ := e
        have HTK : Hid (ks.take (j + 1) = ks.take j ++ [ks[j]]) := by show _ = _; rw [List.take_add_one, List.getElem?_eq_getElem hjk]; rfl
        obtain ⟨i0, i1, l2, X3, n3, z3, rfl, rfl, rfl, rfl⟩ := hx4.form
        clear hx4
        unfold strV at *
        generalize (⟨l2.toArray⟩ : ByteArray) = s2 at *
        generalize ks[j] = kj at *
        have HLQ : Hid (qs.length = j) := hqj
        clear hqj
        go_wp2_with fail
        refine hc.mono ?_
        rintro e w5 ⟨v5, rfl, hv5, b5⟩
        obtain ⟨d0, d1, d2, d3, rfl, hx5⟩ := hv5
        have h1c := hx5.cells1
        have B5 := bal.trans (b5.mono bal.size)
        have hs5 : wr.heap.size + 1 ≤ w5.heap.size := by have := b5.size; simp at this; omega
        have how5 := own_past b5 (own_past ((Below.refl wr.heap.size wr).alloc (Nat.le_refl _) (.cells #[.int .i64 i0, .int .i64 i1, .string s2, .slice X3 n3 z3] 24)) how)
        obtain ⟨j0, j1, m2, Y3, y3, t3, rfl, rfl, rfl, rfl⟩ := hx5.form
        unfold strV at *
        generalize (⟨m2.toArray⟩ : ByteArray) = sm at *
        have b6 := (Below.refl w5.heap.size w5).alloc (Nat.le_refl _) (.cells #[.int .i64 j0, .int .i64 j1, .string sm, .slice Y3 y3 t3] 24)
        have how6 := own_past b6 how5
        have B6 := B5.trans (b6.mono B5.size)
        have bal1 := (Below.refl wr.heap.size wr).alloc (Nat.le_refl _) (.cells #[.int .i64 i0, .int .i64 i1, .string s2, .slice X3 n3 z3] 24)
        have b15 : Below wr.heap.size wr w5 := bal1.trans (b5.mono bal1.size)
        have b16 : Below wr.heap.size wr (w5.alloc (.cells #[.int .i64 j0, .int .i64 j1, .string sm, .slice Y3 y3 t3] 24)) := b15.trans (b6.mono b15.size)
        have kat := KB.new w5 24 #[.int .i64 j0, .int .i64 j1, .string sm, .slice Y3 y3 t3]
        have hat : ∀ i u, (quadX (.int .i64 j0, .int .i64 j1, .string sm, .slice Y3 y3 t3))[i]? = some u → (w5.alloc (.cells #[.int .i64 j0, .int .i64 j1, .string sm, .slice Y3 y3 t3] 24)).cell? ((⟨w5.heap.size, 0, none⟩ : Addr).add i) = some u := fun i u hu => by
          rw [Addr.add_lit, Nat.zero_add, kat.cell]
          simpa [quadX] using hu
        have hown := fun k hk => how.lt k hk
        have hs16 := b16.size
        obtain ⟨w6, hw6⟩ : ∃ w6, w6 = w5.alloc (.cells #[.int .i64 j0, .int .i64 j1, .string sm, .slice Y3 y3 t3] 24) := ⟨_, rfl⟩
        have hsz6 : w6.heap.size = w5.heap.size + 1 := by rw [hw6]; simp
        rw [← hw6] at b6 how6 B6 b16 hat hs16
        have HW6 := Lib.hid hw6
        have HK7 : Hid (∀ w7, w6.grownBy w7 u4.ownBlock → KB w7 w.heap.size 24 #[.int .i64 k, .int .i64 dy, .string s, .slice (some ⟨b, o, none⟩) kl cap3] ∧ KB w7 (w.heap.size + 1) 24 #[.int .i64 0, .int .i64 0, .string ⟨#[]⟩, .slice none 0 0] ∧ w.heap.size + 2 ≤ w7.heap.size ∧ Below w.heap.size w w7) := fun w7 g7 => by
          refine ⟨(K.below b16 K.lt).grown g7 (fun e => ?_), (R.below b16 R.lt).grown g7 (fun e => ?_), by have := g7.size; omega, B6.grown g7 B6.size (fun k hk => ?_)⟩
          · have := (hown _ e).1; omega
          · have := (hown _ e).1; omega
          · have := (hown _ hk).1; omega
        have HQ7 : Hid (∀ v7 w7, w6.grownBy w7 u4.ownBlock → (v7.ownBlock = u4.ownBlock ∨ v7.ownBlock = some w6.heap.size) → QX w7 (SO w.heap.size v7 w7.heap.size) f (qs ++ [(.int .i64 j0, .int .i64 j1, .string sm, .slice Y3 y3 t3)]) (ks.take (j + 1))) := fun v7 w7 g7 ho7 => by
          have hs7 := g7.size
          rw [HTK.out]
          refine QX.append (HQ.out.keepL (by have := b16.size; omega) (fun b' sb hb' => ?_) (fun b' sb hb' => ?_)) ((QX.one hx5).keepL (by omega) (fun b' sb hb' => ?_) (fun b' sb hb' => ?_))
          · exact (g7.block b' (by have := b16.size; omega) (fun e => sb.2.2 e.symm)).trans (b16.block b' hb')
          · refine ⟨sb.1, by have := b16.size; omega, fun e => ?_⟩
            rcases ho7 with h | h
            · exact sb.2.2 (h.symm.trans e)
            · rw [h] at e; injection e with e; have := b16.size; omega
          · refine (g7.block b' (by omega) (fun e => ?_)).trans (b6.block b' hb')
            have h1 := (hown _ e.symm).2
            have h2 : wr.heap.size + 1 ≤ b' := by have := sb.1; simpa using this
            omega
          · have h2 : wr.heap.size + 1 ≤ b' := by have := sb.1; simpa using this
            refine ⟨by omega, by omega, fun e => ?_⟩
            rcases ho7 with h | h
            · have h1 := (hown _ (h.symm.trans e)).2
              omega
            · rw [h] at e; injection e with e; omega
        clear hx5 HQ K R B B5 bal bal1 b5 b6 b15 b16 how how5 hown hc qw k0 k1 k2 k3 kat hks hw6 hs5
        have hB6 : w.heap.size + 2 ≤ w6.heap.size := by omega
        have hql : qs.length ≤ 1000000000 := by rw [HLQ.out]; omega
        clear B6 hs16 hsz6
        go_wp2_with (at_builtin; rw [← HW6.out]; go_loud (refine wpList_growX w6 rfl _ _ rfl (w.heap.size + 2) _ qs rfl how6 ⟨_, 0, none⟩ 1 (.int .i64 j0, .int .i64 j1, .string sm, .slice Y3 y3 t3) rfl hat h1c hql hB6 ?_); intro v7 w7 how7 g7 ho7)
        go_roundw
        case rel => exact ⟨j + 1, _, by omega, by go_num, by rw [List.length_append, HLQ.out]; rfl, how7, HQ7.out v7 w7 g7 ho7, HK7.out w7 g7⟩
        case measure => simp [intOf]; omega
      · have hxs : True := trivial
        have q2 := K.cell 0
        have q3 := K.cell 1
        have q4 := K.cell 2
        have q5 := K.cell 3
        have r0 := R.cell 0
        have r1 := R.cell 1
        have r2 := R.cell 2
        have r3 := R.cell 3
        have f3 := K.free 3
        have g0 := R.free 0
        have g1 := R.free 1
        have g2 := R.free 2
        have g3 := R.free 3
        obtain ⟨A4, n4, c4, hu4⟩ : ∃ A n c, u4 = .slice A n c := by
          rcases how.2 with ⟨h, _⟩ | ⟨_, _, _, h, _⟩
          · exact ⟨_, _, _, h⟩
          · exact ⟨_, _, _, h⟩
        subst hu4
        have hxs2 := XS_of_own how (HQ.out.mono (S' := fun b => w.heap.size + 2 ≤ b ∧ b < wr.heap.size) fun b h => ⟨h.1, h.2.1⟩) fun b h1 h2 => ⟨h1, h2⟩
        rw [show ks.take j = ks by rw [show j = ks.length by have := HKL.out; omega, List.take_length]] at hxs2
        obtain ⟨W5, hW5⟩ : ∃ W5, W5 = (((((wr.setCell ⟨w.heap.size, 3, none⟩ (.slice A4 n4 c4)).setCell ⟨w.heap.size + 1, 0, none⟩ (.int .i64 k)).setCell ⟨w.heap.size + 1, 1, none⟩ (.int .i64 dy)).setCell ⟨w.heap.size + 1, 2, none⟩ (.string s)).setCell ⟨w.heap.size + 1, 3, none⟩ (.slice A4 n4 c4)) := ⟨_, rfl⟩
        have hs5 : W5.heap.size = wr.heap.size := by rw [hW5]; simp [World.setCell]
        have kfin : KB W5 (w.heap.size + 1) 24 #[.int .i64 k, .int .i64 dy, .string s, .slice A4 n4 c4] := by
          rw [hW5]
          have R' : KB (wr.setCell ⟨w.heap.size, 3, none⟩ (.slice A4 n4 c4)) (w.heap.size + 1) 24 #[.int .i64 0, .int .i64 0, .string ⟨#[]⟩, .slice none 0 0] := R.keep (Below.heap_setCell wr _ _ _ (by show w.heap.size + 1 ≠ w.heap.size; omega))
          exact (((R'.put 0 _).put 1 _).put 2 _).put 3 _
        have bfin : Below w.heap.size w W5 := by
          rw [hW5]
          exact ((((B.setCell (p := ⟨w.heap.size, 3, none⟩) (Nat.le_refl _) _).setCell (p := ⟨w.heap.size + 1, 0, none⟩) (by simp) _).setCell (p := ⟨w.heap.size + 1, 1, none⟩) (by simp) _).setCell (p := ⟨w.heap.size + 1, 2, none⟩) (by simp) _).setCell (p := ⟨w.heap.size + 1, 3, none⟩) (by simp) _
        have hblk : ∀ b, w.heap.size + 2 ≤ b → W5.heap[b]? = wr.heap[b]? := fun b hb => by
          rw [hW5]
          exact (Below.heap_setCell _ _ _ _ (by show b ≠ w.heap.size + 1; omega)).trans ((Below.heap_setCell _ _ _ _ (by show b ≠ w.heap.size + 1; omega)).trans ((Below.heap_setCell _ _ _ _ (by show b ≠ w.heap.size + 1; omega)).trans ((Below.heap_setCell _ _ _ _ (by show b ≠ w.heap.size + 1; omega)).trans (Below.heap_setCell _ _ _ _ (by show b ≠ w.heap.size; omega)))))
        have hfin := HD.out W5 (.slice A4 n4 c4) (XS.mapL hxs2 (by omega) (fun b h _ => hblk b h.1) (fun b h _ => ⟨by have := h.1; omega, by have := h.2; omega⟩) (fun t c0 c1 c2 c3 h => EX.keepL f t c0 c1 c2 c3 h (by omega) (fun b h _ => hblk b h.1) (fun b h _ => ⟨by have := h.1; omega, by have := h.2; omega⟩))) bfin
        have HW5 := Lib.hid hW5
        clear hxs hxs2 hblk bfin how HQ K R B hW5 hs5 HD HF3 ih hks
        go_wp2_with fail
        rw [← HW5.out]
        exact bodyPost_ret (results_cell (P := Try.prog) rfl _ _ (w.heap.size + 1) _ _ (0, 0) _ rfl kfin Try.underlying24 rfl (by kernel_rfl)) rfl hfin
end Go.Proofs.Ytommcdgognlfcaa
