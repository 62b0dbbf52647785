/-
  DcH: How the program takes terms apart, round by round: its contract, over the loaded program. No condition but what the theorem names.
-/
import Derived.Test.YthgaljgelngmaaaDoorDv33
import Derived.Test.YthgaljgelngmaaaDoorDv34
import Derived.Test.YthgaljgelngmaaaDoorDv35
import Derived.ScopeJumps
import Derived.WalkMore

section
namespace Go.Proofs.YthgaljgelngmaaaDoor
open Go.RowKit
set_option linter.unusedVariables false

theorem wp_scope_back {P : Program} {a : Act} {w : World} {Q : Exit → Act → World → Prop} {c rest : Code} (l : Nat) (J : Act → World → Prop) (μ : Act → World → Nat) (hf : findLabel c l = some (Code.skip.seq rest))
    (pass : ∀ a w, J a w → rest.wp P (Exit.jump l (fun a' w' => J a' w' ∧ μ a' w' < μ a w) Q) a w)
    (first : (∀ a w, J a w → rest.wp P (Exit.jump l J Q) a w) → c.wp P (Exit.jump l J Q) a w) : (Code.scope c).wp P Q a w :=
  wp_scope_jumps l J μ hf (first fun a w h => Code.wp_mono (fun e a' w' hh => by
    cases e with
    | goto l' => exact ⟨hh.1, hh.2.1⟩
    | _ => exact hh) (pass a w h)) fun a w h => wp_seq (wp_skip (pass a w h))

/-- The state of what takes terms apart, whose variables were made behind w. -/
structure Apart (S : Nat → Prop) (f : Nat) (w wr : World) (O : Nat → Prop) (out : List (Tm f)) : Prop where
  lk : Lk S w.heap.size w.heap.size (w.heap.size + 1) f O wr out
  kl : KB wr (w.heap.size + 2) 59 #[.map (some (w.heap.size + 1))]
  kt : KB wr (w.heap.size + 3) 41 #[.func (.func 35) #[] #[.pointer (some ⟨w.heap.size + 2, 0, none⟩)]]
  o2 : ¬ O (w.heap.size + 2)
  o3 : ¬ O (w.heap.size + 3)
/-- A row of the call's own that is none of the state's. -/
structure Off (w : World) (O : Nat → Prop) (v : Value) : Prop where
  o : ∀ b, v.ownBlock = some b → ¬ O b
  n2 : v.ownBlock ≠ some (w.heap.size + 2)
  n3 : v.ownBlock ≠ some (w.heap.size + 3)
theorem Off.nil (w : World) (O : Nat → Prop) : Off w O (.slice none 0 0) := ⟨fun b h => by simp [Value.ownBlock] at h, by simp [Value.ownBlock], by simp [Value.ownBlock]⟩

section
variable {S : Nat → Prop} {f : Nat} {w wr w' : World} {O O' : Nat → Prop} {out out' : List (Tm f)}
theorem Apart.ob (h : Apart S f w wr O out) : ∀ b, O b → w.heap.size ≤ b ∧ b < wr.heap.size := by
  obtain ⟨_, _, _, _, _, L⟩ := h.lk
  exact L.ob
theorem Apart.sb (h : Apart S f w wr O out) : ∀ b, S b → b < w.heap.size := by
  obtain ⟨_, _, _, _, _, L⟩ := h.lk
  exact L.sb
theorem Apart.keep (h : Apart S f w wr O out) (hs : wr.heap.size ≤ w'.heap.size) (hk : ∀ b, b < wr.heap.size → (O b ∨ S b ∨ b = w.heap.size + 2 ∨ b = w.heap.size + 3) → w'.heap[b]? = wr.heap[b]?) (hw : w.heap.size ≤ wr.heap.size) : Apart S f w w' O out := by
  obtain ⟨va, qs, vo, qo, n, L⟩ := h.lk
  exact ⟨⟨va, qs, vo, qo, n, L.keep hs (fun b ob => hk b (L.ob b ob).2 (.inl ob)) fun b sb => hk b (Nat.lt_of_lt_of_le (L.sb b sb) hw) (.inr (.inl sb))⟩, h.kl.keep (hk _ h.kl.lt (.inr (.inr (.inl rfl)))), h.kt.keep (hk _ h.kt.lt (.inr (.inr (.inr rfl)))), h.o2, h.o3⟩
theorem Apart.below (h : Apart S f w wr O out) (hb : Below wr.heap.size wr w') (hw : w.heap.size ≤ wr.heap.size) : Apart S f w w' O out := h.keep hb.size (fun b hl _ => hb.block b hl) hw
/-- A row of the call's own grows that is none of the state's. -/
theorem Apart.grow (h : Apart S f w wr O out) {v : Value} (hv : Off w O v) {n e size : Nat} {xs : List Value} (how : wr.ownsRow w.heap.size e size v n xs) {w6 : World} (b6 : Below wr.heap.size wr w6) (hg : w6.grownBy w' v.ownBlock) (hw : w.heap.size ≤ wr.heap.size) : Apart S f w w' O out :=
  h.keep (Nat.le_trans b6.size hg.size) (fun b hl hb => by
    rw [hg.block b (Nat.lt_of_lt_of_le hl b6.size) (fun e => ?_), b6.block b hl]
    rcases hb with hb | hb | hb | hb
    · exact hv.o b e.symm hb
    · have := own_ge how b e.symm; have := h.sb b hb; omega
    · exact hv.n2 (hb ▸ e.symm)
    · exact hv.n3 (hb ▸ e.symm)) hw
/-- What was put behind. -/
theorem Apart.put (h : Apart S f w wr O out) {wx : World} (hx : Below wr.heap.size wr wx) (hL : Lk S w.heap.size w.heap.size (w.heap.size + 1) f O' w' out') (hO : ∀ b, O' b → O b ∨ wx.heap.size ≤ b) (kp : KeepP (fun b => b < wx.heap.size ∧ ¬ O b) wx w') : Apart S f w w' O' out' := by
  have h2 := h.kl.lt
  have h3 := h.kt.lt
  have hs := hx.size
  exact ⟨hL, (h.kl.below hx h2).keepP kp ⟨by omega, h.o2⟩, (h.kt.below hx h3).keepP kp ⟨by omega, h.o3⟩, fun ho => (hO _ ho).elim h.o2 fun h => by omega, fun ho => (hO _ ho).elim h.o3 fun h => by omega⟩
/-- A row that is none of the state's, behind what was put. -/
theorem Off.put {v : Value} (h : Off w O v) {wx : World} {B e size n : Nat} {xs : List Value} (how : wx.ownsRow B e size v n xs) (hO : ∀ b, O' b → O b ∨ wx.heap.size ≤ b) : Off w O' v :=
  ⟨fun b hb ho => (hO b ho).elim (h.o b hb) fun hl => by have := own_lt how b hb; omega, h.n2, h.n3⟩
theorem own_kp {v : Value} {wx : World} {B e size n : Nat} {xs : List Value} (how : wx.ownsRow B e size v n xs) (h : Off w O v) (kp : KeepP (fun b => b < wx.heap.size ∧ ¬ O b) wx w') : w'.ownsRow B e size v n xs :=
  own_keep how fun b hb => kp.block b ⟨own_lt how b hb, h.o b hb⟩
theorem QT.kp {wx : World} {qs : List Quad} {ks : List (Tm f)} (h : QT wx S f qs ks) (hS : ∀ b, S b → b < w.heap.size) (hO : ∀ b, O b → w.heap.size ≤ b) (kp : KeepP (fun b => b < wx.heap.size ∧ ¬ O b) wx w') : QT w' S f qs ks :=
  h.keepS kp.size (fun b sb hl => kp.block b ⟨hl, fun ho => by have := hS b sb; have := hO b ho; omega⟩) fun _ h => h
theorem Below_kp {wx : World} {m : Nat} (h : Below m w wx) (hm : m ≤ wx.heap.size) (hO : ∀ b, O b → m ≤ b) (kp : KeepP (fun b => b < wx.heap.size ∧ ¬ O b) wx w') : Below m w w' :=
  h.trans (kp.to_below fun b hb => ⟨by omega, fun ho => by have := hO b ho; omega⟩)
/-- The new row of one that grew is none of the state's either. -/
theorem Off.grown {v v7 : Value} {w6 : World} (h : Off w O v) (ha : Apart S f w wr O out) (h7 : v7.ownBlock = v.ownBlock ∨ v7.ownBlock = some w6.heap.size) (hs : wr.heap.size ≤ w6.heap.size) : Off w O v7 := by
  have h2 := ha.kl.lt
  have h3 := ha.kt.lt
  rcases h7 with e | e
  · exact ⟨fun b hb => h.o b (e ▸ hb), e ▸ h.n2, e ▸ h.n3⟩
  · exact ⟨fun b hb ho => by rw [e] at hb; have := Option.some.inj hb; have := (ha.ob b ho).2; omega, fun hb => by rw [e] at hb; have := Option.some.inj hb; omega, fun hb => by rw [e] at hb; have := Option.some.inj hb; omega⟩
theorem kids_ks {S : Nat → Prop} : ∀ {f : Nat} {t : Tm f} {c0 c1 c2 c3 : Value}, TM w S f t c0 c1 c2 c3 → KS w S (TM w S f) c3 (kidsT f t) ∧ c0 = .int .i64 (kindT f t)
  | 0, t, _, _, _, _, _ => nomatch t
  | f + 1, (t : Nd (Tm f)), c0, c1, c2, c3, h => ⟨h.2.2.2.2.2.lifted, h.1⟩
end

/-- append onto a row of the call's own; the source may be nil. -/
theorem wpList_growN (w : World) {ops : Array Oper} {rest : List Oper} {o : Oper} {a : Act} {Q : Exit → Act → World → Prop} (hgd : o.guard = none) (s x : Operand)
    (ho : o.op = .call { callee := .builtin .append, args := #[s, x], argTypes := #[22, 22] })
    (base : Nat) (v : Value) (qs : List Quad) (hs : a.eval s = v) (hown : w.ownsRow base 35 4 v qs.length (flatQ qs))
    (xv : Value) (ps : List Quad) (hxe : a.eval x = xv) (hx : (xv = .slice none 0 0 ∧ ps = []) ∨ ∃ ad c, xv = .slice (some ad) ps.length c ∧ At w ad ps) (h1 : ∀ u ∈ flatQ ps, u.oneCell' = true) (hb : qs.length + ps.length ≤ 1000000000) (hbase : base ≤ w.heap.size)
    (h : ∀ v' w', w'.ownsRow base 35 4 v' (qs ++ ps).length (flatQ (qs ++ ps)) → w.grownBy w' v.ownBlock → (v'.ownBlock = v.ownBlock ∨ v'.ownBlock = some w.heap.size) → wpList Tryd.prog ops Q rest (a.put o.dst v') w') :
    wpList Tryd.prog ops Q (o :: rest) a w := by
  rcases hx with ⟨rfl, rfl⟩ | ⟨ad, c, rfl, hat⟩
  · refine wpList_plain hgd fun K hK => ?_
    obtain ⟨i0, hi, hz0, hz1, hz2⟩ := info_parts info_term
    have hrun := run_append_owned_none (P := Tryd.prog) w base 22 o.type 35 i0 4 Tryd.underlying22 hi v _ _ hown
    unfold Oper.wp execOp
    simp only [ho, resolve, invoke, builtin, Sem.run_bind, Sem.run_pure, Result.andThen_ok, List.map_toArray, List.map_cons, List.map_nil, hs, hxe, hrun]
    exact hK _ _ (h v w (by rw [List.append_nil]; exact hown) (World.grownBy.refl w _) (.inl rfl))
  · exact wpList_growT w hgd s x ho base v qs hs hown ad c ps hxe hat h1 hb hbase h

/-- All but the first few of a row of the call's own, as the program cuts it. -/
theorem At_drop {w : World} {base g cap fr : Nat} {qs : List Quad} (h : w.ownsRow base 35 4 (.slice (some ⟨g, 0, none⟩) qs.length cap) qs.length (flatQ qs)) (hf : fr ≤ qs.length) :
    At w (if cap = fr then ⟨g, 0, none⟩ else ⟨g, fr * 4, none⟩) (qs.drop fr) := by
  intro j u hu
  have hj := (List.getElem?_eq_some_iff.1 hu).1
  rw [flatQ_length, List.length_drop] at hj
  have hcap : qs.length ≤ cap := by
    obtain ⟨_, h2⟩ := h
    rcases h2 with ⟨e, _⟩ | ⟨g', cap', cur, e, hb, hg, hnc, _⟩
    · cases e
    · injection e with e1 e2 e3; omega
  obtain ⟨g', c', e, hat⟩ := At_of_own h (by omega)
  injection e with e1 e2 e3
  injection e1 with e1
  rw [← e1] at hat
  rw [if_neg (by omega)]
  have hfl : flatQ qs = flatQ (qs.take fr) ++ flatQ (qs.drop fr) := by rw [← flatQ_append, List.take_append_drop]
  have hl : (flatQ (qs.take fr)).length = fr * 4 := by rw [flatQ_length, List.length_take]; omega
  have h3 : (flatQ qs)[fr * 4 + j]? = some u := by
    rw [hfl, List.getElem?_append_right (by omega), hl, show fr * 4 + j - fr * 4 = j by omega]
    exact hu
  have h4 := hat (fr * 4 + j) u h3
  rw [Addr.add_lit, Nat.zero_add] at h4
  rw [Addr.add_lit]
  exact h4
theorem QT.drop {w : World} {S : Nat → Prop} {f : Nat} {qs : List Quad} {ks : List (Tm f)} (h : QT w S f qs ks) (n : Nat) : QT w S f (qs.drop n) (ks.drop n) :=
  ⟨by rw [List.length_drop, List.length_drop, h.1], fun i q t hq ht => h.2 (n + i) q t (by rw [← List.getElem?_drop]; exact hq) (by rw [← List.getElem?_drop]; exact ht)⟩

/-- How many terms there are so far. -/
def soFar (w : World) (ba : Nat) : Nat := match w.cell? ⟨ba, 0, none⟩ with
  | some v => intOf' v
  | none => 0


theorem apart_start (S : Nat → Prop) (f : Nat) (w : World) (hS : ∀ b, S b → b < w.heap.size) :
    Apart S f w ((((w.alloc (.cells #[.slice none 0 0] 22)).alloc (.map #[] 0)).alloc (.cells #[.map (some (w.heap.size + 1))] 59)).alloc (.cells #[.func (.func 35) #[] #[.pointer (some ⟨w.heap.size + 2, 0, none⟩)]] 41)) (fun b => b = w.heap.size ∨ b = w.heap.size + 1) [] ∧
    Below w.heap.size w ((((w.alloc (.cells #[.slice none 0 0] 22)).alloc (.map #[] 0)).alloc (.cells #[.map (some (w.heap.size + 1))] 59)).alloc (.cells #[.func (.func 35) #[] #[.pointer (some ⟨w.heap.size + 2, 0, none⟩)]] 41)) := by
  have k1 := (((KB.new w 22 #[.slice none 0 0]).alloc (.map #[] 0)).alloc (.cells #[.map (some (w.heap.size + 1))] 59)).alloc (.cells #[.func (.func 35) #[] #[.pointer (some ⟨w.heap.size + 2, 0, none⟩)]] 41)
  have k2 : MapW ((w.alloc (.cells #[.slice none 0 0] 22)).alloc (.map #[] 0)) (w.heap.size + 1) (fun _ => nilS) 0 := by
    have := MapW.made (w.alloc (.cells #[.slice none 0 0] 22))
    simpa using this
  have k2' := (k2.keep (Below.heap_alloc _ (.cells #[.map (some (w.heap.size + 1))] 59) _ k2.lt))
  have k2'' := k2'.keep (Below.heap_alloc _ (.cells #[.func (.func 35) #[] #[.pointer (some ⟨w.heap.size + 2, 0, none⟩)]] 41) _ k2'.lt)
  have k3 : KB (((w.alloc (.cells #[.slice none 0 0] 22)).alloc (.map #[] 0)).alloc (.cells #[.map (some (w.heap.size + 1))] 59)) (w.heap.size + 2) 59 #[.map (some (w.heap.size + 1))] := by
    have := KB.new ((w.alloc (.cells #[.slice none 0 0] 22)).alloc (.map #[] 0)) 59 #[.map (some (w.heap.size + 1))]
    simpa using this
  have k3' := k3.alloc (.cells #[.func (.func 35) #[] #[.pointer (some ⟨w.heap.size + 2, 0, none⟩)]] 41)
  have k4 : KB ((((w.alloc (.cells #[.slice none 0 0] 22)).alloc (.map #[] 0)).alloc (.cells #[.map (some (w.heap.size + 1))] 59)).alloc (.cells #[.func (.func 35) #[] #[.pointer (some ⟨w.heap.size + 2, 0, none⟩)]] 41)) (w.heap.size + 3) 41 #[.func (.func 35) #[] #[.pointer (some ⟨w.heap.size + 2, 0, none⟩)]] := by
    have := KB.new (((w.alloc (.cells #[.slice none 0 0] 22)).alloc (.map #[] 0)).alloc (.cells #[.map (some (w.heap.size + 1))] 59)) 41 #[.func (.func 35) #[] #[.pointer (some ⟨w.heap.size + 2, 0, none⟩)]]
    simpa using this
  have hsz : ((((w.alloc (.cells #[.slice none 0 0] 22)).alloc (.map #[] 0)).alloc (.cells #[.map (some (w.heap.size + 1))] 59)).alloc (.cells #[.func (.func 35) #[] #[.pointer (some ⟨w.heap.size + 2, 0, none⟩)]] 41)).heap.size = w.heap.size + 4 := by simp
  refine ⟨⟨⟨nilS, [], fun _ => nilS, fun _ => [], 0, { kb := k1, ro := ⟨rfl, .inl ⟨rfl, rfl⟩⟩, qt := QT.nil _ _ _, mw := k2'', row := fun _ => ⟨rfl, .inl ⟨rfl, rfl⟩⟩, rqt := fun _ => QT.nil _ _ _, inj := fun k k' b h => by simp [Value.ownBlock] at h, far := fun k b h => by simp [Value.ownBlock] at h, mine := fun b h => by simp [Value.ownBlock] at h, ne := by omega, oa := .inl rfl, om := .inr rfl, ob := fun b hb => by rw [hsz]; omega, nn := Nat.le_refl _, sb := hS }⟩, k3', k4, by omega, by omega⟩, ?_⟩
  exact (((((Below.refl _ _).alloc (Nat.le_refl _) _).alloc (by simp) _).alloc (by simp; omega) _).alloc (by simp; omega) _)

section
variable {S : Nat → Prop} {f : Nat} {w wx : World} {O : Nat → Prop} {out : List (Tm f)}
theorem put_apart {Sv : Nat → Prop} (hA : Apart S f w wx O out) (hB : w.heap.size ≤ wx.heap.size) (ks : List (Tm f)) (v : Value) (hk : KS wx Sv (TM wx S f) v ks) (hSv : ∀ b, Sv b → ¬ O b) (hlen : (putsD out ks).length ≤ 100000) :
    Calls Tryd.prog 39 #[v, .pointer (some ⟨w.heap.size + 3, 0, none⟩), .pointer (some ⟨w.heap.size, 0, none⟩), .pointer (some ⟨w.heap.size + 2, 0, none⟩)] wx fun e w' =>
      e = .returned (.tuple #[]) ∧ ∃ O', Apart S f w w' O' (putsD out ks) ∧ (∀ b, O' b → O b ∨ wx.heap.size ≤ b) ∧ KeepP (fun b => b < wx.heap.size ∧ ¬ O b) wx w' := by
  refine (dput_any (w.heap.size + 3) (w.heap.size + 2) S Sv w.heap.size w.heap.size (w.heap.size + 1) f O out ks v wx hB hA.lk hA.kt hA.kl hA.o3 hA.o2 hk hSv hlen).mono ?_
  rintro e w' ⟨rfl, ⟨O', hL, hO⟩, kp⟩
  exact ⟨rfl, O', hA.put (Below.refl _ _) hL hO kp, hO, kp⟩
theorem there_apart {S' : Nat → Prop} (hA : Apart S f w wx O out) (hB : w.heap.size ≤ wx.heap.size) (t : Tm f) (x : Value) (hx : TV wx S' f x t) :
    Calls Tryd.prog 35 #[x, .pointer (some ⟨w.heap.size + 2, 0, none⟩)] wx fun e w' => e = .returned (.bool (decide (t ∈ out))) ∧ Below wx.heap.size wx w' := by
  obtain ⟨va, qs, vo, qo, n, L⟩ := hA.lk
  exact there_r (w.heap.size + 2) (w.heap.size + 1) n vo _ _ S' f (inL f (lookT f t) out) t x wx hA.kl L.mw hx (L.ks hB _) (decide_eq_decide.2 (inL_mem t))
end

theorem KS_single {w : World} {S : Nat → Prop} {f : Nat} {t : Tm f} {e0 e1 e2 e3 : Value} (h : TM w S f t e0 e1 e2 e3) :
    KS (w.alloc (.cells #[e0, e1, e2, e3] 35)) (fun b => b = w.heap.size) (TM (w.alloc (.cells #[e0, e1, e2, e3] 35)) S f) (.slice (some ⟨w.heap.size, 0, none⟩) 1 1) [t] := by
  have k := KB.new w 35 #[e0, e1, e2, e3]
  refine ⟨_, 1, rfl, Nat.le_refl _, by simp [maxLen], (fun h => by cases h), fun _ => ⟨w.heap.size, 0, rfl, rfl, k.lt, fun i u hu => ?_⟩⟩
  match i, hu with
  | 0, hu =>
    simp at hu
    subst hu
    exact ⟨_, _, _, _, k.cell 0, k.cell 1, k.cell 2, k.cell 3, TM.keepS f _ _ _ _ _ h (by simp) (fun b _ hb => Below.heap_alloc w _ b hb) fun _ h => h⟩
theorem within_any {f : Nat} {l c r : List (Tm f)} {i : Nat} (hn : c.Nodup) (hc : ∀ x ∈ c, x ∈ univT f l) (hr : ∀ x ∈ r, x ∈ univT f l) : (stepD (vwT f) c (r.take i)).length ≤ (univT f l).length :=
  nodup_le _ _ (nodup_stepD (vwT f) _ hn) (step_in (l := l) (r.take i) c hc fun x hx => hr x (List.mem_of_mem_take hx))
end Go.Proofs.YthgaljgelngmaaaDoor
end
