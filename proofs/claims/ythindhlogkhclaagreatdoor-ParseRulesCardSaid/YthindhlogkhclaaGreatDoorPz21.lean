/-
  PaB: The program's found and place (layer 18), over the loaded program: their contracts. No condition but what each names.
  PaC: The program's several (layer 18), over the loaded program, for every method whose contract is known: its contract. No condition but what it names.
  PbC: What the document's ways of reading hand back, and what is left, as memory has it (layer 18), over the loaded program. No condition but what each names.
-/
import Derived.Test.YthindhlogkhclaaGreatDoorPz18
import Derived.Laws.EntriesVeiled
import Derived.Test.YthindhlogkhclaaGreatDoorPz20
import Derived.BigQuiet
set_option linter.unusedVariables false
set_option maxRecDepth 100000
namespace Go.Proofs.YthindhlogkhclaaGreatDoor
section
open Go.RowKit
def foundP (m : Tk → Bool) (s : Ps) : Bool × Ps := if isB m s = true then (decide ((nextB m s).2.e = 0), (nextB m s).2) else (false, s)
def FoundAs (p : Nat) (n d : Int) (m : Tk → Bool) (s : Ps) (w : World) (e : Ending) (w' : World) : Prop := e = .returned (.bool (foundP m s).1) ∧ St w' p n d (foundP m s).2 ∧ w.grownBy w' (some p)
theorem found_nil {m : Tk → Bool} {s : Ps} (h : s.rest = []) : foundP m s = (false, s) := by unfold foundP isB; rw [h]; simp
theorem found_no {m : Tk → Bool} {s : Ps} {t : Tk} {r : List Tk} (h : s.rest = t :: r) (hm : m t = false) : foundP m s = (false, s) := by unfold foundP isB; rw [h]; simp [hm]
theorem found_yes {m : Tk → Bool} {s : Ps} {t : Tk} {r : List Tk} (h : s.rest = t :: r) (hm : m t = true) : foundP m s = (decide ((nextB m s).2.e = 0), (nextB m s).2) := by
  by_cases he : s.e = 0
  · have : isB m s = true := by unfold isB; rw [h]; simp [hm, he]
    unfold foundP
    rw [if_pos this]
  · unfold foundP
    rw [if_neg (isb_err he), nextb_err he, decide_eq_false he]
theorem head_at {w : World} {p : Nat} {n d : Int} {s : Ps} (h : St w p n d s) {t : Tk} {r : List Tk} (hr : s.rest = t :: r) :
    ∃ b o ll c, KB w p 50 #[.slice (some ⟨b, o, none⟩) ll c, .int .i64 n, (.int .i64 (match w.cell? ⟨p, 2, none⟩ with | some (.int _ k) => k | _ => 0)), .int .i64 d, .int .i64 s.e] ∧ b < p ∧ b < w.heap.size ∧ ll ≤ maxLen ∧ ll = r.length + 1 ∧ ll ≤ c ∧
      w.cell? ⟨b, o, none⟩ = some (.int .i64 (t.kind : Int)) ∧ w.cell? ⟨b, o + 1, none⟩ = some (strV t.text) ∧ w.cell? ⟨b, o + 2, none⟩ = some (.int .i64 t.n) ∧ w.cell? ⟨b, o + 3, none⟩ = some (.int .i64 (t.at_ : Int)) := by
  obtain ⟨v, F, k, ht, _⟩ := h
  obtain ⟨A, c, rfl, hlc, hcm⟩ := ht.form
  rw [hr] at ht hlc k
  obtain ⟨b, o, rfl, hbp, hb1, hcs⟩ := ht.at_ (by simp)
  obtain ⟨c0, c1, c2, c3⟩ := hcs 0 t rfl
  rw [Nat.zero_mul, Nat.add_zero] at c0 c1 c2 c3
  have k2 : w.cell? ⟨p, 2, none⟩ = some (.int .i64 F) := k.cell 2
  refine ⟨b, o, (t :: r).length, c, ?_, hbp, hb1, by omega, rfl, hlc, c0, c1, c2, c3⟩
  rw [k2]; exact k
set_option maxHeartbeats 4000000 in
theorem found_any (p : Nat) (n d : Int) (s : Ps) (F : Nat) (caps : Array Value) (m : Tk → Bool) (w : World) (hm : MayF p w F caps m) (h : St w p n d s) :
    Calls Tryz.prog 87 #[.pointer (some ⟨p, 0, none⟩), .func (.func F) #[] caps] w (FoundAs p n d m s w) := by
  have hp := h.lt
  obtain ⟨D, hD⟩ : ∃ D, D = FoundAs p n d m s w := ⟨_, rfl⟩
  rw [← hD]
  have HD : Hid (∀ W, St W p n d (foundP m s).2 → w.grownBy W (some p) → D (.returned (.bool (foundP m s).1)) W) := fun W h1 h2 => by rw [hD]; exact ⟨rfl, h1, h2⟩
  clear hD
  have hrun := hm.run
  have HS := Lib.hid h
  cases hr : s.rest with
  | nil =>
    have hd := HD.out w
    rw [found_nil hr] at hd
    have hfin := hd h (World.grownBy.refl w _)
    obtain ⟨v, F1, k, ht, _⟩ := h
    obtain ⟨A, c, rfl, _⟩ := ht.form
    rw [hr] at k
    have q0 : w.cell? ⟨p, 0, none⟩ = some (.slice A 0 c) := k.cell 0
    clear hd HD HS k ht hm
    go_enter Tryz.func87, Tryz.ntmps87
    go_wp2_with fail
    exact hfin
  | cons t r =>
    obtain ⟨b, o, ll, c, k, hbp, hbw, hlm, hll, hlc, c0, c1, c2, c3⟩ := head_at h hr
    have q0 : w.cell? ⟨p, 0, none⟩ = some (.slice (some ⟨b, o, none⟩) ll c) := k.cell 0
    have hlen : (0 : Int) < (ll : Int) := by omega
    have hl0 : ¬ ((ll : Int) = 0) := by omega
    have hl1 : ((ll : Int) == 0) = false := beq_eq_false_iff_ne.2 hl0
    have hdo := hm.does t w (World.grownBy.refl w _)
    unfold tokV at hdo
    obtain ⟨st, hsv⟩ : ∃ z : ByteArray, strV t.text = .string z := ⟨_, rfl⟩
    rw [hsv] at hdo c1
    have HHR := Lib.hid hr
    have HM := Lib.hid hm
    clear hll hr k hm h hsv
    cases hmt : m t with
    | false =>
      rw [hmt] at hdo
      have hd := HD.out
      rw [found_no HHR.out hmt] at hd
      clear HD
      have HD := Lib.hid hd
      clear hd
      generalize t.n = tn at *
      generalize t.at_ = ta at *
      generalize t.kind = tk at *
      go_enter Tryz.func87, Tryz.ntmps87
      go_wp2_with fail
      refine hdo.mono ?_
      rintro e w2 ⟨rfl, b2⟩
      have hfin := HD.out w2 (HS.out.below b2) (grown_of_below b2 _)
      clear hdo HD q0 c0 c1 c2 c3
      go_wp2_with fail
      exact hfin
    | true =>
      rw [hmt] at hdo
      have hd := HD.out
      rw [found_yes HHR.out hmt] at hd
      clear HD
      have HD := Lib.hid hd
      have HT : Hid (∀ W, w.grownBy W (some p) → St W p n d s → Calls Tryz.prog 30 #[.pointer (some ⟨p, 0, none⟩), .func (.func F) #[] caps] W (TakeAs p n d m s W)) := fun W g h => take_any p n d s F caps m W (HM.out.later g) h
      unfold TakeAs at HT
      clear hd hmt HHR
      generalize t.n = tn at *
      generalize t.at_ = ta at *
      generalize t.kind = tk at *
      generalize (nextB m s).2 = s2 at *
      generalize (nextB m s).1 = t2 at *
      go_enter Tryz.func87, Tryz.ntmps87
      go_wp2_with fail
      refine hdo.mono ?_
      rintro e w2 ⟨rfl, b2⟩
      have g2 := grown_of_below b2 (some p)
      have ht := HT.out w2 g2 (HS.out.below b2)
      clear hdo q0 c0 c1 c2 c3 HT
      go_wp2_with fail
      refine ht.mono ?_
      rintro e w3 ⟨rfl, h3, g3⟩
      have hfin := HD.out w3 h3 (grown_trans g2 g3)
      obtain ⟨v, F1, k3, _⟩ := h3
      have q4 : w3.cell? ⟨p, 4, none⟩ = some (.int .i64 s2.e) := k3.cell 4
      have hp3 := k3.lt
      clear ht HD k3
      generalize s2.e = e2 at *
      have ee : (e2 == 0) = decide (e2 = 0) := by
        by_cases h : e2 = 0
        · subst h; rfl
        · rw [decide_eq_false h]; exact beq_eq_false_iff_ne.2 h
      go_wp2_with fail
      first | exact hfin | (rw [← ee] at hfin; exact hfin) | (simp only [ee]; exact hfin)
theorem place18_any (p : Nat) (n : Nat) (d : Int) (s : Ps) (w : World) (h : St w p (n : Int) d s) :
    Calls Tryz.prog 16 #[.pointer (some ⟨p, 0, none⟩)] w fun e w' => e = .returned (.int .i64 ((hereP n s : Nat) : Int)) ∧ w' = w := by
  have hp := h.lt
  cases hr : s.rest with
  | nil =>
    have hh : hereP n s = n := by unfold hereP; rw [hr]
    rw [hh]
    obtain ⟨v, F1, k, ht, _⟩ := h
    obtain ⟨A, c, rfl, _⟩ := ht.form
    rw [hr] at k
    have q0 : w.cell? ⟨p, 0, none⟩ = some (.slice A 0 c) := k.cell 0
    have q1 : w.cell? ⟨p, 1, none⟩ = some (.int .i64 (n : Int)) := k.cell 1
    clear k ht hh hr
    go_enter Tryz.func16, Tryz.ntmps16
    go_wp2_with fail
    go_ret
    exact ⟨rfl, rfl⟩
  | cons t r =>
    have hh : hereP n s = t.at_ := by unfold hereP; rw [hr]
    rw [hh]
    obtain ⟨b, o, ll, c, k, hbp, hbw, hlm, hll, hlc, c0, c1, c2, c3⟩ := head_at h hr
    have q0 : w.cell? ⟨p, 0, none⟩ = some (.slice (some ⟨b, o, none⟩) ll c) := k.cell 0
    have hlen : (0 : Int) < (ll : Int) := by omega
    have hl0 : ¬ ((ll : Int) = 0) := by omega
    have hl1 : ((ll : Int) == 0) = false := beq_eq_false_iff_ne.2 hl0
    clear k hll hh hr h c0 c1 c2
    go_enter Tryz.func16, Tryz.ntmps16
    go_wp2_with fail
    go_ret
    exact ⟨rfl, rfl⟩
end
section
open Go.RowKit
def GotAs (p : Nat) (n d : Int) {k : Nat} (f : Ps → Ex k × Ps) (s : Ps) (w : World) (e : Ending) (w' : World) : Prop :=
  ∃ (i0 i1 : Int) (z2 : ByteArray) (X3 : Option Addr) (n3 z3 : Nat), e = .returned (.agg #[.int .i64 i0, .int .i64 i1, .string z2, .slice X3 n3 z3]) ∧
    ((f s).2.e = 0 → EX w' (fun b => w.heap.size ≤ b) k (f s).1 (.int .i64 i0) (.int .i64 i1) (.string z2) (.slice X3 n3 z3)) ∧ St w' p n d (f s).2 ∧ w.grownBy w' (some p)
def Okg (g : Bool) (s : Ps) : Prop := g = true ∨ s.e ≠ 0
theorem Okg.step {g : Bool} {s : Ps} {α : Type} {f : Ps → α × Ps} (hf : Stuck f) (h : Okg g s) : Okg g (f s).2 := by
  rcases h with h | h
  · exact .inl h
  · exact .inr (by rw [hf s h]; exact h)
theorem Stuck.found (m : Tk → Bool) : Stuck (foundP m) := fun s h => by unfold foundP; rw [if_neg (isb_err h)]
theorem found_way {k : Nat} {f : Ps → Ex k × Ps} (hi : Way f) (hs : Stuck f) {bw : List UInt8} (hw : bw ≠ []) {G : Nat} {l : List (Ex k)} {s : Ps} (hG : s.rest.length ≤ G) :
    ((foundP (saysB [bw]) s).1 = true ∧ s.e = 0 ∧ (foundP (saysB [bw]) s).2.e = 0 ∧ (foundP (saysB [bw]) s).2.rest.length + 1 = s.rest.length ∧ moreP f bw G l s = moreP f bw G (l ++ [(f (foundP (saysB [bw]) s).2).1]) (f (foundP (saysB [bw]) s).2).2) ∨
    ((foundP (saysB [bw]) s).1 = false ∧ (moreP f bw G l s).2 = (foundP (saysB [bw]) s).2 ∧ ((foundP (saysB [bw]) s).2.e = 0 → (moreP f bw G l s).1 = l ∧ s.e = 0)) := by
  by_cases hb : isP 1 bw s = true
  · have hb' : isB (saysB [bw]) s = true := by rw [← isp_says hw]; exact hb
    have e1 : foundP (saysB [bw]) s = (decide ((nextP 1 bw s).2.e = 0), (nextP 1 bw s).2) := by unfold foundP; rw [if_pos hb', next_says hw]
    rw [e1]
    by_cases he : (nextP 1 bw s).2.e = 0
    · exact .inl ⟨decide_eq_true he, (next_ok he).1, he, next_short he, more_step hi hb hG⟩
    · refine .inr ⟨decide_eq_false he, ?_, fun h => absurd h he⟩
      rw [more_step hi hb hG, hs _ he, more_stop (is_err he)]
  · have hb0 : isP 1 bw s = false := by simpa using hb
    have hb' : ¬ isB (saysB [bw]) s = true := by rw [← isp_says hw]; exact hb
    have e1 : foundP (saysB [bw]) s = (false, s) := by unfold foundP; rw [if_neg hb']
    rw [e1, more_stop hb0]
    exact .inr ⟨rfl, rfl, fun h => ⟨rfl, h⟩⟩
def FormQ (q : QuX) : Prop := ∃ (i0 i1 : Int) (z2 : ByteArray) (X3 : Option Addr) (n3 z3 : Nat), q = (.int .i64 i0, .int .i64 i1, .string z2, .slice X3 n3 z3)
def SR (n : Nat) (kv : Value) (m : Nat) (b : Nat) : Prop := n ≤ b ∧ b < m ∧ kv.ownBlock ≠ some b
theorem ownX_one (w : World) (base : Nat) (hb : base ≤ w.heap.size) (q : QuX) : (w.alloc (.cells #[q.1, q.2.1, q.2.2.1, q.2.2.2] 42)).ownsRow base 42 4 (.slice (some ⟨w.heap.size, 0, none⟩) 1 1) [q].length (flatX [q]) :=
  ⟨rfl, .inr ⟨w.heap.size, 1, #[q.1, q.2.1, q.2.2.1, q.2.2.2], rfl, hb, heap_alloc_new w _, Nat.le_refl _, by simp [maxLen], rfl, rfl⟩⟩
theorem ownX_head {w : World} {base : Nat} {v : Value} {q : QuX} {qs : List QuX} (h : w.ownsRow base 42 4 v (q :: qs).length (flatX (q :: qs))) :
    ∃ g c, v = .slice (some ⟨g, 0, none⟩) (qs.length + 1) c ∧ base ≤ g ∧ g < w.heap.size ∧ qs.length + 1 ≤ c ∧ c ≤ maxLen ∧ w.cell? ⟨g, 0, none⟩ = some q.1 ∧ w.cell? ⟨g, 1, none⟩ = some q.2.1 ∧ w.cell? ⟨g, 2, none⟩ = some q.2.2.1 ∧ w.cell? ⟨g, 3, none⟩ = some q.2.2.2 := by
  obtain ⟨_, h2⟩ := h
  rcases h2 with ⟨_, h0⟩ | ⟨g, cap, cur, rfl, hb, hg, hnc, hcm, hcs, htk⟩
  · simp at h0
  · refine ⟨g, cap, rfl, hb, (Array.getElem?_eq_some_iff.1 hg).1, hnc, hcm, ?_⟩
    have cell : ∀ k u, k < 4 → (flatX (q :: qs))[k]? = some u → w.cell? ⟨g, k, none⟩ = some u := fun k u hk hu => by
      rw [cell_of_row w g k cur _ (0, 0) hg]
      rw [← htk, List.getElem?_take, if_pos (by rw [List.length_cons]; omega)] at hu
      simpa using hu
    exact ⟨cell 0 _ (by omega) rfl, cell 1 _ (by omega) rfl, cell 2 _ (by omega) rfl, cell 3 _ (by omega) rfl⟩
theorem cs_lit (w : World) (t : TypeId) (cs : List Value) (hl : cs.length ≤ maxLen) : CS (w.alloc (.cells cs.toArray t)) (fun b => b = w.heap.size) (.slice (some ⟨w.heap.size, 0, none⟩) cs.length cs.length) cs := by
  refine ⟨_, _, rfl, Nat.le_refl _, hl, fun _ => ⟨w.heap.size, 0, rfl, rfl, by simp, fun j u hu => ?_⟩⟩
  rw [Nat.zero_add, cell_of_row _ w.heap.size j _ t (0, 0) (heap_alloc_new w _)]
  simp [hu]
theorem grown_own {w w6 w7 : World} {p : Nat} {r : Option Nat} (h : w.grownBy w6 (some p)) (g : w6.grownBy w7 r) (hr : ∀ k, r = some k → w.heap.size ≤ k) : w.grownBy w7 (some p) :=
  ⟨g.os.trans h.os, g.tape.trans h.tape, g.output.trans h.output, Nat.le_trans h.size g.size, fun i hi hne => (g.block i (Nat.lt_of_lt_of_le hi h.size) (fun e => by have := hr i e.symm; omega)).trans (h.block i hi hne)⟩
theorem St.own {w w' : World} {p : Nat} {n d : Int} {s : Ps} (h : St w p n d s) {r : Option Nat} (g : w.grownBy w' r) (hr : ∀ k, r = some k → p < k) : St w' p n d s :=
  h.keep g.size fun b hb => g.block b (Nat.lt_of_le_of_lt hb h.lt) (fun e => by have := hr b e.symm; omega)
theorem own_but {w w' : World} {base e size n p : Nat} {v : Value} {xs : List Value} (g : w.grownBy w' (some p)) (hp : p < base) (h : w.ownsRow base e size v n xs) : w'.ownsRow base e size v n xs :=
  h.kept g (.inr fun e => by have := (h.lt _ e).1; omega)
end
section
open Go.RowKit
def GotD (p : Nat) (n : Int) (L : List Tk) {k : Nat} (f : Ps → Ex k × Ps) (s : Ps) (w : World) (e : Ending) (w' : World) : Prop :=
  ∃ (i0 i1 : Int) (z2 : ByteArray) (X3 : Option Addr) (n3 z3 : Nat), e = .returned (.agg #[.int .i64 i0, .int .i64 i1, .string z2, .slice X3 n3 z3]) ∧
    EX w' (fun b => w.heap.size ≤ b) k (f s).1 (.int .i64 i0) (.int .i64 i1) (.string z2) (.slice X3 n3 z3) ∧ Sd w' p n L (f s).2 ∧ w.grownBy w' (some p)
def measD (w : World) (p : Nat) : Nat :=
  2 * ((match w.cell? ⟨p, 0, none⟩ with | some (.slice _ n _) => n | _ => 0) - (match w.cell? ⟨p, 1, none⟩ with | some (.int _ k) => k.toNat | _ => 0)) + (match w.cell? ⟨p, 4, none⟩ with | some (.int _ k) => if k = 0 then 1 else 0 | _ => 0)
theorem Sd.meas {w : World} {p : Nat} {n : Int} {L : List Tk} {s : Ps} (h : Sd w p n L s) : measD w p = 2 * s.rest.length + (if s.e = 0 then 1 else 0) := by
  obtain ⟨v, a, k, ht, ha, hd, _⟩ := h
  obtain ⟨A, c, rfl, _⟩ := ht.form
  have q0 : w.cell? ⟨p, 0, none⟩ = some (.slice A L.length c) := k.cell 0
  have q1 : w.cell? ⟨p, 1, none⟩ = some (.int .i64 (a : Int)) := k.cell 1
  have q4 : w.cell? ⟨p, 4, none⟩ = some (.int .i64 s.e) := k.cell 4
  unfold measD
  rw [q0, q1, q4, hd, List.length_drop]
  rfl
theorem wp_growX {w : World} {o : Oper} {a : Act} {K : Act → World → Prop} {Q : Exit → Act → World → Prop} (s y : Operand)
    (ho : o.op = .call { callee := .builtin .append, args := #[s, y], argTypes := #[40, 40] })
    (base : Nat) (v : Value) (qs : List QuX) (hs : a.eval s = v) (hown : w.ownsRow base 42 4 v qs.length (flatX qs))
    (ad : Addr) (c : Nat) (p : QuX) (hye : a.eval y = .slice (some ad) 1 c) (hx : ∀ j u, (quadX p)[j]? = some u → w.cell? (ad.add j) = some u) (h1 : ∀ u ∈ quadX p, u.oneCell' = true)
    (hb : qs.length ≤ 1000000000) (hbase : base ≤ w.heap.size)
    (hK : ∀ v' w', w'.ownsRow base 42 4 v' (qs ++ [p]).length (flatX (qs ++ [p])) → w.grownBy w' v.ownBlock → (v'.ownBlock = v.ownBlock ∨ v'.ownBlock = some w.heap.size) → K (a.put o.dst v') w') : Oper.wp Tryz.prog o a w K Q := by
  obtain ⟨v', w', hrun, h2, h3, h4⟩ := run_growX w base v qs hown ad c p hx h1 hb hbase o.type
  unfold Oper.wp execOp
  simp only [ho, resolve, invoke, builtin, Sem.run_bind, Sem.run_pure, Result.andThen_ok, List.map_toArray, List.map_cons, List.map_nil, hs, hye, hrun]
  exact hK _ _ h2 h3 h4
set_option maxHeartbeats 4000000 in
theorem here18_any (p : Nat) (n : Nat) (L : List Tk) (s : Ps) (w : World) (h : Sd w p (n : Int) L s) :
    Calls Tryz.prog 20 #[.pointer (some ⟨p, 0, none⟩)] w fun e w' => e = .returned (.int .i64 ((hereP n s : Nat) : Int)) ∧ ∃ m, w' = w.drewN m := by
  have hp := h.lt
  cases hr : s.rest with
  | nil =>
    have hh : hereP n s = n := by unfold hereP; rw [hr]
    rw [hh]
    obtain ⟨A, c, kb, hlm⟩ := h.none_left hr
    have q0 : w.cell? ⟨p, 0, none⟩ = some (.slice A L.length c) := kb.cell 0
    have q1 : w.cell? ⟨p, 1, none⟩ = some (.int .i64 (L.length : Int)) := kb.cell 1
    have q2 : w.cell? ⟨p, 2, none⟩ = some (.int .i64 (n : Int)) := kb.cell 2
    obtain ⟨ll, hll⟩ : ∃ ll, ll = L.length := ⟨_, rfl⟩
    rw [← hll] at q0 q1 hlm
    clear kb hh hr h hll
    go_enter Tryz.func20, Tryz.ntmps20
    go_wp2_with fail
    go_quiet (fail)
    go_wp2
    go_ret
    exact ⟨rfl, _, rfl⟩
  | cons t r =>
    have hh : hereP n s = t.at_ := by unfold hereP; rw [hr]
    rw [hh]
    obtain ⟨b, o, c, a, kb, hbp, hbw, hal, hlm, c0, c1, c2, c3, _⟩ := h.head hr
    have q0 : w.cell? ⟨p, 0, none⟩ = some (.slice (some ⟨b, o, none⟩) L.length c) := kb.cell 0
    have q1 : w.cell? ⟨p, 1, none⟩ = some (.int .i64 (a : Int)) := kb.cell 1
    obtain ⟨ll, hll⟩ : ∃ ll, ll = L.length := ⟨_, rfl⟩
    rw [← hll] at q0 hal hlm
    have hl : ((a : Int) < (ll : Int)) := by omega
    clear kb hh hr h hll c0 c1 c2
    go_enter Tryz.func20, Tryz.ntmps20
    go_wp2_with fail
    go_quiet (fail)
    go_wp2
    go_quiet (fail)
    go_wp2
    go_ret
    exact ⟨rfl, _, World.drewN_drewN _ _ _⟩
end
end Go.Proofs.YthindhlogkhclaaGreatDoor
