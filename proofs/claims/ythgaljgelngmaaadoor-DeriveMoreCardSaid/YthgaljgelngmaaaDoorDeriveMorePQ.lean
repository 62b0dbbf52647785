/-
  DcX: A list of terms in memory, as quads; append of it onto a row of a call's own, as a step of a region: over the loaded program. No condition.
  DeriveMoreW: DeriveMore: what follows from some terms follows from more; what follows from terms that follow, follows: the law's walk. No condition but that the table lies as the row says.
  DeriveMoreP: THE STATEMENT DeriveMore of layer: proved out of the law's contract (deriveMore_law): for every input the call returns true, and the input reads as it did. No condition.
-/
import Derived.Test.YthgaljgelngmaaaDoorDv37
import Derived.Test.YthgaljgelngmaaaDoorDv46
import Derived.Test.YthgaljgelngmaaaDoorCards
import Derived.Test.YthgaljgelngmaaaDoorTie
import Derived.Test.YthgaljgelngmaaaDoorDv09
import Derived.Stop.Joined
import Derived.SevenTiedAt
import Derived.WalkKit
import Derived.ProofKit
import Derived.OpenShut
import Derived.ShutString
import Derived.ChangeOld
import Derived.Below

section
namespace Go.Proofs.YthgaljgelngmaaaDoor
open Go.RowKit
set_option linter.unusedVariables false

theorem ks_quads {w : World} {S : Nat → Prop} {f : Nat} {v : Value} {l : List (Tm f)} (h : KS w S (TM w S f) v l) : ∃ qs : List Quad, QT w S f qs l ∧ ((v = .slice none 0 0 ∧ qs = []) ∨ ∃ ad c, v = .slice (some ad) qs.length c ∧ At w ad qs) := by
  obtain ⟨A, c, e, hl, hc, hn, hx⟩ := h
  by_cases h0 : l.length = 0
  · have hl0 : l = [] := List.eq_nil_of_length_eq_zero h0
    subst hl0
    refine ⟨[], QT.nil _ _ _, ?_⟩
    rcases A with _ | ad
    · obtain rfl := hn rfl
      exact .inl ⟨e, rfl⟩
    · exact .inr ⟨ad, c, e, fun j u hu => by simp [flatQ] at hu⟩
  · obtain ⟨b, o, rfl, sb, hb, hx⟩ := hx (by omega)
    have hx2 : ∀ i, i < l.length → ∃ q : Quad, w.cell? ⟨b, o + i * 4, none⟩ = some q.1 ∧ w.cell? ⟨b, o + i * 4 + 1, none⟩ = some q.2.1 ∧ w.cell? ⟨b, o + i * 4 + 2, none⟩ = some q.2.2.1 ∧ w.cell? ⟨b, o + i * 4 + 3, none⟩ = some q.2.2.2 ∧ ∀ t, l[i]? = some t → TM w S f t q.1 q.2.1 q.2.2.1 q.2.2.2 := by
      intro i hi
      obtain ⟨c0, c1, c2, c3, k0, k1, k2, k3, ht⟩ := hx i l[i] (List.getElem?_eq_getElem hi)
      refine ⟨(c0, c1, c2, c3), k0, k1, k2, k3, fun t h => ?_⟩
      rw [List.getElem?_eq_getElem hi] at h
      obtain rfl := Option.some.inj h
      exact ht
    haveI : Inhabited Quad := ⟨(.int .i64 0, .int .u64 0, .slice none 0 0, .slice none 0 0)⟩
    obtain ⟨g, hg⟩ := Deep.choose_lt (α := Quad) hx2
    have hlen : ((List.range l.length).map g).length = l.length := by simp
    refine ⟨(List.range l.length).map g, ⟨hlen, fun i q t hq ht => ?_⟩, .inr ⟨⟨b, o, none⟩, c, by rw [hlen]; exact e, fun j u hu => ?_⟩⟩
    · have hil : i < l.length := (List.getElem?_eq_some_iff.1 ht).1
      simp [hil] at hq
      subst hq
      exact (hg i hil).2.2.2.2 t ht
    · have hj := (List.getElem?_eq_some_iff.1 hu).1
      rw [flatQ_length, hlen] at hj
      have hij : j / 4 < l.length := by omega
      obtain ⟨g0, g1, g2, g3, _⟩ := hg (j / 4) hij
      obtain ⟨f0, f1, f2, f3⟩ := flatQ_at ((List.range l.length).map g) (j / 4) (g (j / 4)) (by simp [hij])
      rw [Addr.add_lit]
      have hj4 : j = j / 4 * 4 + j % 4 := by omega
      have hm : j % 4 < 4 := Nat.mod_lt _ (by omega)
      generalize j / 4 = i at *
      generalize j % 4 = r at *
      subst hj4
      match r, hm with
      | 0, _ => rw [Nat.add_zero] at hu ⊢; rw [f0] at hu; rw [g0, ← hu]
      | 1, _ => rw [f1] at hu; rw [← Nat.add_assoc, g1, ← hu]
      | 2, _ => rw [f2] at hu; rw [← Nat.add_assoc, g2, ← hu]
      | 3, _ => rw [f3] at hu; rw [← Nat.add_assoc, g3, ← hu]

/-- append onto a row of the call's own; the source may be nil: as a step of a region. -/
theorem step_growN {ops : Array Oper} {o : Oper} {a : Act} {w : World} {K : Act → World → Prop} {Q : Exit → Act → World → Prop} {E : Prop} (hg : o.guard = none) (s x : Operand)
    (ho : o.op = .call { callee := .builtin .append, args := #[s, x], argTypes := #[22, 22] })
    (base : Nat) (v : Value) (qs : List Quad) (hs : a.eval s = v) (hown : w.ownsRow base 35 4 v qs.length (flatQ qs))
    (xv : Value) (ps : List Quad) (hxe : a.eval x = xv) (hx : (xv = .slice none 0 0 ∧ ps = []) ∨ ∃ ad c, xv = .slice (some ad) ps.length c ∧ At w ad ps) (h1 : ∀ u ∈ flatQ ps, u.oneCell' = true) (hb : qs.length + ps.length ≤ 1000000000) (hbase : base ≤ w.heap.size)
    (hK : ∀ v' w', w'.ownsRow base 35 4 v' (qs ++ ps).length (flatQ (qs ++ ps)) → w.grownBy w' v.ownBlock → (v'.ownBlock = v.ownBlock ∨ v'.ownBlock = some w.heap.size) → K (a.put o.dst v') w') :
    if Region.wanted o (yielded ops a.tmps) = true then Oper.wp Tryd.prog o a w K Q else E := by
  rcases hx with ⟨rfl, rfl⟩ | ⟨ad, c, rfl, hat⟩
  · have hw : Region.wanted o (yielded ops a.tmps) = true := by simp [Region.wanted, hg]
    rw [if_pos hw]
    obtain ⟨i0, hi, hz0, hz1, hz2⟩ := info_parts info_term
    have hrun := run_append_owned_none (P := Tryd.prog) w base 22 o.type 35 i0 4 Tryd.underlying22 hi v _ _ hown
    unfold Oper.wp execOp
    simp only [ho, resolve, invoke, builtin, Sem.run_bind, Sem.run_pure, Result.andThen_ok, List.map_toArray, List.map_cons, List.map_nil, hs, hxe, hrun]
    exact hK v w (by rw [List.append_nil]; exact hown) (World.grownBy.refl w _) (.inl rfl)
  · exact step_growT hg s x ho base v qs hs hown ad c ps hxe hat h1 hb hbase hK

/-- A new row of no term. -/
theorem own_none (w : World) (base : Nat) (hb : base ≤ w.heap.size) : (w.alloc (.cells #[] 35)).ownsRow base 35 4 (.slice (some ⟨w.heap.size, 0, none⟩) 0 0) ([] : List Quad).length (flatQ []) :=
  ⟨rfl, .inr ⟨w.heap.size, 0, #[], rfl, hb, heap_alloc_new w _, Nat.le_refl _, by simp [maxLen], rfl, rfl⟩⟩
end Go.Proofs.YthgaljgelngmaaaDoor
end

section
namespace Go.Proofs.YthgaljgelngmaaaDoor
open Go.RowKit
set_option linter.unusedVariables false

theorem errF_64 (f : Nat) (l : List (Tm f)) (t : Tm f) : I64 (errF f l t) := by
  unfold I64 errF
  rcases errT_cases f l with h | h | h
  · rw [if_pos h]; split <;> omega
  · rw [h]; simp
  · rw [h]; simp
theorem ansF_off {f : Nat} {l : List (Tm f)} {t : Tm f} (h : errF f l t = 0) : ansF f l t = followT f l t := (errF_ok h).2.2

/-- What the walk asks of the answers. -/
theorem more_yes {f : Nat} {l more : List (Tm f)} {t : Tm f} (h1 : errF f l t = 0) (h2 : errF f (l ++ more) t = 0) (ha : ansF f l t = true) : ansF f (l ++ more) t = true := by
  rw [ansF_off h1] at ha
  rw [ansF_off h2]
  exact followT_more f l more t ha
theorem more_back {f : Nat} {l more : List (Tm f)} {t : Tm f} (h1 : errF f l t = 0) (h2 : errF f (l ++ more) t = 0) (hm : ∀ x ∈ more, errF f l x = 0 ∧ ansF f l x = true) : ansF f l t = ansF f (l ++ more) t := by
  cases hb : ansF f (l ++ more) t with
  | false =>
    cases ha : ansF f l t with
    | false => rfl
    | true => rw [more_yes h1 h2 ha] at hb; cases hb
  | true =>
    rw [ansF_off h2] at hb
    rw [ansF_off h1]
    have hok := errT_ok (errF_ok h1).1
    exact followT_cut f l more t hok.1 (fun x hx => (errF_ok (hm x hx).1).2.1) (fun x hx => by rw [← ansF_off (hm x hx).1]; exact (hm x hx).2) hb

theorem At_below {w w' : World} {ad : Addr} {qs : List Quad} (h : At w ad qs) (hb : Below w.heap.size w w') : At w' ad qs := fun j u hu =>
  (World.cell?_of_block (w := w) (w' := w') (hb.block _ (World.block_lt_of_cell? _ _ (h j u hu)))).trans (h j u hu)

/-- What holds at each point of the region that joins two lists. -/
structure PM (w3 : World) (lv mv tv : Value) (lq mq : List Quad) (r0 r1 r2 r3 r4 r5 : Bool) (s35 s36 s37 s38 s39 s40 : Value) (w : World) : Prop where
  bl : Below w3.heap.size w3 w
  e0 : r0 = true → r2 = false → w.ownsRow w3.heap.size 35 4 s35 ([] : List Quad).length (flatQ [])
  e1 : r1 = true → s36 = lv
  e2 : r2 = true → r4 = false → w.ownsRow w3.heap.size 35 4 s37 lq.length (flatQ lq)
  e3 : r3 = true → s38 = mv
  e4 : r4 = true → w.ownsRow w3.heap.size 35 4 s39 (lq ++ mq).length (flatQ (lq ++ mq))
  e5 : r5 = true → s40 = tv
  c2 : r2 = true → r0 = true ∧ r1 = true
  c4 : r4 = true → r2 = true ∧ r3 = true

section
variable {w3 : World} {lv mv tv : Value} {lq mq : List Quad} {r0 r1 r2 r3 r4 r5 : Bool} {s35 s36 s37 s38 s39 s40 : Value} {w w' : World}
theorem PM.n0 (h : PM w3 lv mv tv lq mq r0 r1 r2 r3 r4 r5 s35 s36 s37 s38 s39 s40 w) : PM w3 lv mv tv lq mq true r1 r2 r3 r4 r5 (.slice (some ⟨w.heap.size, 0, none⟩) 0 0) s36 s37 s38 s39 s40 (w.alloc (.cells #[] 35)) :=
  { h with
    bl := h.bl.alloc h.bl.size _
    e0 := fun _ _ => own_none w _ h.bl.size
    e2 := fun k k' => own_past ((Below.refl _ _).alloc (Nat.le_refl _) _) (h.e2 k k')
    e4 := fun k => own_past ((Below.refl _ _).alloc (Nat.le_refl _) _) (h.e4 k)
    c2 := fun k => ⟨rfl, (h.c2 k).2⟩ }
theorem PM.l1 (h : PM w3 lv mv tv lq mq r0 r1 r2 r3 r4 r5 s35 s36 s37 s38 s39 s40 w) : PM w3 lv mv tv lq mq r0 true r2 r3 r4 r5 s35 lv s37 s38 s39 s40 w := { h with e1 := fun _ => rfl, c2 := fun k => ⟨(h.c2 k).1, rfl⟩ }
theorem PM.l3 (h : PM w3 lv mv tv lq mq r0 r1 r2 r3 r4 r5 s35 s36 s37 s38 s39 s40 w) : PM w3 lv mv tv lq mq r0 r1 r2 true r4 r5 s35 s36 s37 mv s39 s40 w := { h with e3 := fun _ => rfl, c4 := fun k => ⟨(h.c4 k).1, rfl⟩ }
theorem PM.l5 (h : PM w3 lv mv tv lq mq r0 r1 r2 r3 r4 r5 s35 s36 s37 s38 s39 s40 w) : PM w3 lv mv tv lq mq r0 r1 r2 r3 r4 true s35 s36 s37 s38 s39 tv w := { h with e5 := fun _ => rfl }
theorem PM.k2 (h : PM w3 lv mv tv lq mq r0 r1 r2 r3 r4 r5 s35 s36 s37 s38 s39 s40 w) (h0 : r0 = true) (h1 : r1 = true) (h2 : r2 = false) {v' : Value} (how : w'.ownsRow w3.heap.size 35 4 v' lq.length (flatQ lq)) (hg : w.grownBy w' s35.ownBlock) : PM w3 lv mv tv lq mq r0 r1 true r3 r4 r5 s35 s36 v' s38 s39 s40 w' :=
  { h with
    bl := h.bl.grown hg h.bl.size fun x hx => own_ge (h.e0 h0 h2) x hx
    e0 := fun _ k => by cases k
    e2 := fun _ _ => how
    e4 := fun k => by have := (h.c4 k).1; rw [h2] at this; cases this
    c2 := fun _ => ⟨h0, h1⟩
    c4 := fun k => ⟨rfl, (h.c4 k).2⟩ }
theorem PM.k4 (h : PM w3 lv mv tv lq mq r0 r1 r2 r3 r4 r5 s35 s36 s37 s38 s39 s40 w) (h2 : r2 = true) (h3 : r3 = true) (h4 : r4 = false) {v' : Value} (how : w'.ownsRow w3.heap.size 35 4 v' (lq ++ mq).length (flatQ (lq ++ mq))) (hg : w.grownBy w' s37.ownBlock) : PM w3 lv mv tv lq mq r0 r1 r2 r3 true r5 s35 s36 s37 s38 v' s40 w' :=
  { h with
    bl := h.bl.grown hg h.bl.size fun x hx => own_ge (h.e2 h2 h4) x hx
    e0 := fun _ k => by rw [h2] at k; cases k
    e2 := fun _ k => by cases k
    e4 := fun _ => how
    c4 := fun _ => ⟨h2, h3⟩ }
end

set_option maxHeartbeats 4000000 in
theorem deriveMore_any (S : Nat → Prop) (f : Nat) (l more : List (Tm f)) (t : Tm f) (v v1 x : Value) (w : World) (hS : ∀ b, S b → b < w.heap.size) (hsh : Shp w) (hl : KS w S (TM w S f) v l) (hm : KS w S (TM w S f) v1 more) (ht : TV w S f x t) :
    Calls Tryd.prog 4 #[v, v1, x] w fun e w' => e = .returned (.bool true) ∧ Below w.heap.size w w' := by
  obtain ⟨d0, d1, d2, d3, rfl, ts⟩ := ht
  obtain ⟨i0, i1, X2, n2, z2, X3, n3, z3, rfl, rfl, rfl, rfl⟩ := tm_form ts
  obtain ⟨A, c, rfl, _, hmx, _⟩ := id hl
  obtain ⟨AM, cM, rfl, _, hmM, _⟩ := id hm
  have hle : l.length ≤ 9223372036854775807 := by unfold maxLen at hmx; omega
  have hleM : more.length ≤ 9223372036854775807 := by unfold maxLen at hmM; omega
  have b1 := allocO w (.cells #[.int .i64 i0, .int .u64 i1, .slice X2 n2 z2, .slice X3 n3 z3] 35)
  have kx := KB.new w 35 #[.int .i64 i0, .int .u64 i1, .slice X2 n2 z2, .slice X3 n3 z3]
  obtain ⟨w1, hw1⟩ : ∃ w1, w1 = w.alloc (.cells #[.int .i64 i0, .int .u64 i1, .slice X2 n2 z2, .slice X3 n3 z3] 35) := ⟨_, rfl⟩
  rw [← hw1] at b1 kx
  have hl1 := hl.keep b1.size fun b _ hb => b1.block b hb
  have hm1 := hm.keep b1.size fun b _ hb => b1.block b hb
  have ts1 := TM.keepS (w' := w1) (S' := S) f _ _ _ _ _ ts b1.size (fun b _ hl => b1.block b hl) fun _ h => h
  have hS1 : ∀ b, S b → b < w1.heap.size := fun b hb => Nat.lt_of_lt_of_le (hS b hb) b1.size
  have hsh1 := hsh.below b1
  have hsm := small6_any S f l (.slice A l.length c) w1 hl1
  have HSM := Lib.hid (fun (w2 : World) (b2 : Below w1.heap.size w1 w2) => small6_any S f more (.slice AM more.length cM) w2 (hm1.keep b2.size fun b _ hb => b2.block b hb))
  have HST := Lib.hid (fun (w2 : World) (b2 : Below w1.heap.size w1 w2) => small_any S f t (.agg #[.int .i64 i0, .int .u64 i1, .slice X2 n2 z2, .slice X3 n3 z3]) 40 w2 (by unfold I64; omega) ⟨_, _, _, _, rfl, TM.keepS f _ _ _ _ _ ts1 b2.size (fun b _ hl => b2.block b hl) fun _ h => h⟩)
  clear hmx hmM ts hl hm hS hsh
  go_enter Tryd.func4, Tryd.ntmps4
  go_upto_region 1 with fail
  rw [← hw1]
  clear hw1
  go_cut [26] from 14 to 25 (fun q wc => ∃ b : Bool, q = .bool b ∧ Below w1.heap.size w1 wc ∧ Hid (b = false → l.length ≤ 24 ∧ more.length ≤ 24))
  case first =>
    go_wp2_with fail
    refine hsm.mono ?_
    rintro e w2 ⟨b, rfl, hb24, b2⟩
    have HB1 := Lib.hid hb24
    clear hsm hb24
    cases b with
    | false =>
      go_wp2_with fail
      go_meet
      exact ⟨true, rfl, b2, fun h => by cases h⟩
    | true =>
      have hsm2 := HSM.out w2 b2
      go_wp2_with fail
      refine hsm2.mono ?_
      rintro e w3 ⟨b, rfl, hb24, b3⟩
      have HB2 := Lib.hid hb24
      have B3 := b2.trans (b3.mono b2.size)
      clear hsm2 hb24
      cases b with
      | false =>
        go_wp2_with fail
        go_meet
        exact ⟨true, rfl, B3, fun h => by cases h⟩
      | true =>
        have kx3 := kx.below B3 kx.lt
        have x0 : w3.cell? ⟨w.heap.size, 0, none⟩ = some (.int .i64 i0) := kx3.cell 0
        have x1 : w3.cell? ⟨w.heap.size, 1, none⟩ = some (.int .u64 i1) := kx3.cell 1
        have x2 : w3.cell? ⟨w.heap.size, 2, none⟩ = some (.slice X2 n2 z2) := kx3.cell 2
        have x3 : w3.cell? ⟨w.heap.size, 3, none⟩ = some (.slice X3 n3 z3) := kx3.cell 3
        have hst3 := HST.out w3 B3
        go_wp2_with fail
        refine hst3.mono ?_
        rintro e w4 ⟨b, rfl, b4⟩
        clear hst3 x0 x1 x2 x3
        have HF : Hid (l.length ≤ 24 ∧ more.length ≤ 24) := ⟨HB1.out (by trivial), HB2.out (by trivial)⟩
        go_wp2_with fail
        go_meet
        exact ⟨_, rfl, B3.trans (b4.mono B3.size), fun _ => HF.out⟩
  case rest =>
    obtain ⟨b, rfl, b2, HAS⟩ := hcut
    obtain ⟨w2, rfl⟩ : ∃ w2, w2 = wc := ⟨_, rfl⟩
    have B2 := b1.trans (b2.mono b1.size)
    have hsh2 := hsh1.below b2
    cases b with
    | true =>
      clear hl1 hm1 ts1 hsm HSM HST
      go_wp2_with fail
      refine (dlive_any w2 hsh2).mono ?_
      rintro e w3 ⟨rfl, b3⟩
      have B3 := B2.trans (b3.mono B2.size)
      go_wp2_with fail
      go_ret
      exact ⟨rfl, B3⟩
    | false =>
      have H24 := Lib.hid (HAS.out rfl)
      have hl2 := hl1.keep b2.size fun b _ hb => b2.block b hb
      have hm2 := hm1.keep b2.size fun b _ hb => b2.block b hb
      have ts2 := TM.keepS (w' := w2) (S' := S) f _ _ _ _ _ ts1 b2.size (fun b _ hl => b2.block b hl) fun _ h => h
      have hS2 : ∀ b, S b → b < w2.heap.size := fun b hb => Nat.lt_of_lt_of_le (hS1 b hb) b2.size
      have kx2 := kx.below b2 kx.lt
      have hfo := follows_any S S f l t (.slice A l.length c) (.agg #[.int .i64 i0, .int .u64 i1, .slice X2 n2 z2, .slice X3 n3 z3]) w2 hS2 hS2 hsh2 hl2 ⟨_, _, _, _, rfl, ts2⟩
      have HY : Hid (errF f l t = 0 → errF f (l ++ more) t = 0 → ansF f l t = true → ansF f (l ++ more) t = true) := more_yes
      have HBK : Hid (errF f l t = 0 → errF f (l ++ more) t = 0 → (∀ x ∈ more, errF f l x = 0 ∧ ansF f l x = true) → ansF f l t = ansF f (l ++ more) t) := more_back
      have hE1 := errF_64 f l t
      have hE2 := errF_64 f (l ++ more) t
      have HFM := Lib.hid (fun (w4 : World) (b4 : Below w2.heap.size w2 w4) (u : Value) (hu : KS w4 (fun b => b < w4.heap.size) (TM w4 (fun b => b < w4.heap.size) f) u (l ++ more)) => follows_any _ S f (l ++ more) t u (.agg #[.int .i64 i0, .int .u64 i1, .slice X2 n2 z2, .slice X3 n3 z3]) w4 (fun b h => h) (fun b hb => Nat.lt_of_lt_of_le (hS2 b hb) b4.size) (hsh2.below b4) hu ⟨_, _, _, _, rfl, TM.keepS f _ _ _ _ _ ts2 b4.size (fun b _ hl => b4.block b hl) fun _ h => h⟩)
      generalize ansF f l t = a1 at *
      generalize ansF f (l ++ more) t = a2 at *
      generalize errF f l t = E1 at *
      generalize errF f (l ++ more) t = E2 at *
      have x0 : w2.cell? ⟨w.heap.size, 0, none⟩ = some (.int .i64 i0) := kx2.cell 0
      have x1 : w2.cell? ⟨w.heap.size, 1, none⟩ = some (.int .u64 i1) := kx2.cell 1
      have x2 : w2.cell? ⟨w.heap.size, 2, none⟩ = some (.slice X2 n2 z2) := kx2.cell 2
      have x3 : w2.cell? ⟨w.heap.size, 3, none⟩ = some (.slice X3 n3 z3) := kx2.cell 3
      clear HAS hl1 hm1 ts1 hsm HSM HST hsh1 hS1
      go_wp2_with fail
      refine hfo.mono ?_
      rintro e w3 ⟨rfl, b3⟩
      have B3 := B2.trans (b3.mono B2.size)
      have hsh3 := hsh2.below b3
      have hl3 := hl2.keep b3.size fun b _ hb => b3.block b hb
      have hm3 := hm2.keep b3.size fun b _ hb => b3.block b hb
      have kx3 := kx2.below b3 kx2.lt
      clear hfo x0 x1 x2 x3
      have x0 : w3.cell? ⟨w.heap.size, 0, none⟩ = some (.int .i64 i0) := kx3.cell 0
      have x1 : w3.cell? ⟨w.heap.size, 1, none⟩ = some (.int .u64 i1) := kx3.cell 1
      have x2 : w3.cell? ⟨w.heap.size, 2, none⟩ = some (.slice X2 n2 z2) := kx3.cell 2
      have x3 : w3.cell? ⟨w.heap.size, 3, none⟩ = some (.slice X3 n3 z3) := kx3.cell 3
      go_upto_region 4 with fail
      go_cut [9, 10] from 34 to 43 (fun p q wc => p = .bool a2 ∧ q = .int .i64 E2 ∧ Below w3.heap.size w3 wc)
      case first =>
        obtain ⟨lq, hlq, hlx⟩ := ks_quads hl3
        obtain ⟨mq, hmq, hmx⟩ := ks_quads hm3
        have hS3 : ∀ b, S b → b < w3.heap.size := fun b hb => Nat.lt_of_lt_of_le (hS2 b hb) b3.size
        have HL1 : Hid (([] : List Quad).length + lq.length ≤ 1000000000) := by have h1 := hlq.1; have h2 := H24.out.1; show _ ≤ _; simp; omega
        have HL2 : Hid (lq.length + mq.length ≤ 1000000000) := by have h1 := hlq.1; have h2 := H24.out; have h3 := hmq.1; show _ ≤ _; omega
        refine wp_region_any (by kernel_rfl) ?_
        change wpAny _ _ _ _ _ _ _ (World.drew _)
        refine wpAny_inv (fun listed act w' => ∃ (r0 r1 r2 r3 r4 r5 : Bool) (s35 s36 s37 s38 s39 s40 : Value), listed = #[r0, r1, r2, r3, r4, r5, false, false, false, false, false, false] ∧ act = { tmps := #[.slice A l.length c, .slice AM more.length cM, .agg #[.int .i64 i0, .int .u64 i1, .slice X2 n2 z2, .slice X3 n3 z3], undef, undef, .pointer (some ⟨w.heap.size, 0, none⟩), .bool false, .bool a1, .int .i64 E1, undef, undef, undef, undef, undef, u14, u15, u16, u17, u18, u19, u20, u21, u22, u23, u24, u25, .bool false, undef, .tuple #[.bool a1, .int .i64 E1], .slice A l.length c, .agg #[.int .i64 i0, .int .u64 i1, .slice X2 n2 z2, .slice X3 n3 z3], .tuple #[.bool a1, .int .i64 E1], .bool a1, .int .i64 E1, undef, s35, s36, s37, s38, s39, s40, undef, undef, undef, undef, undef, undef, undef, undef, undef, undef, undef, undef, undef, undef, undef, undef, undef, undef, undef, undef, undef, undef, undef, undef, undef, undef, undef, undef, undef, undef, undef, undef, undef, undef, undef, undef, undef, undef, undef, undef, undef, undef, undef, undef, undef, undef], defers := [] } ∧ PM w3 (.slice A l.length c) (.slice AM more.length cM) (.agg #[.int .i64 i0, .int .u64 i1, .slice X2 n2 z2, .slice X3 n3 z3]) lq mq r0 r1 r2 r3 r4 r5 s35 s36 s37 s38 s39 s40 w') ?_ ?_ _ _ _ _
          ⟨false, false, false, false, false, false, _, _, _, _, _, _, rfl, rfl, ⟨Below_drawn (Below.refl _ _) 1, (fun k => by cases k), (fun k => by cases k), (fun k => by cases k), (fun k => by cases k), (fun k => by cases k), (fun k => by cases k), (fun k => by cases k), (fun k => by cases k)⟩⟩ rfl
        · rintro fuel listed act w' ⟨r0, r1, r2, r3, r4, r5, s35, s36, s37, s38, s39, s40, rfl, rfl, hPM⟩ _ hr
          exfalso
          have hnr : ∀ i : Nat, ¬ i ∈ ([] : List Nat) := by simp
          rw [← hr] at hnr
          have t0 : r0 = true := by
            exact not_ready2 (hnr 0) (by simp [Region.binds])
          subst t0
          have t1 : r1 = true := by
            exact not_ready2 (hnr 1) (by simp [Region.binds])
          subst t1
          have t3 : r3 = true := by
            exact not_ready2 (hnr 3) (by simp [Region.binds])
          subst t3
          have t5 : r5 = true := by
            exact not_ready2 (hnr 5) (by simp [Region.binds])
          subst t5
          have t2 : r2 = true := by
            exact not_ready2 (hnr 2) (by simp [Region.binds])
          subst t2
          have t4 : r4 = true := by
            exact not_ready2 (hnr 4) (by simp [Region.binds])
          subst t4
          have hF : false = true := by
            exact not_ready2 (hnr 6) (by simp [Region.binds])
          cases hF
        · rintro fuel listed act w' ⟨r0, r1, r2, r3, r4, r5, s35, s36, s37, s38, s39, s40, rfl, rfl, hPM⟩ hcnt
          by_cases hall : r4 = true ∧ r5 = true
          · obtain ⟨rfl, rfl⟩ := hall
            obtain ⟨rfl, rfl⟩ := hPM.c4 rfl
            obtain ⟨rfl, rfl⟩ := hPM.c2 rfl
            obtain rfl : fuel = 5 := by
              have h3 : (6 : Nat) = fuel + 1 := hcnt
              omega
            left
            clear hcnt
            obtain rfl := hPM.e5 rfl
            have b8 := hPM.bl
            have how8 := hPM.e4 rfl
            have hks := KS_row how8 ((hlq.append hmq).below' b8) (fun b hb => Nat.lt_of_lt_of_le (hS3 b hb) b8.size)
            have hfo := HFM.out w' (b3.trans (b8.mono b3.size)) _ hks
            clear hPM how8 hks
            refine wpAny_ready (rs := [6]) (by kernel_rfl) (by simp) ?_
            refine AllReady.cons rfl (fun K0 hK => ?_) AllReady.nil
            go_simp
            refine hfo.mono ?_
            rintro e w9 ⟨rfl, b9⟩
            have BE := b8.trans (b9.mono b8.size)
            clear hfo
            refine hK _ _ ?_
            clear hK K0
            refine wpAny_ready (rs := [7]) (by kernel_rfl) (by simp) ?_
            refine AllReady.cons rfl (fun K0 hK => ?_) AllReady.nil
            go_simp
            refine hK _ _ ?_
            clear hK K0
            refine wpAny_ready (rs := [8, 9]) (by kernel_rfl) (by simp) ?_
            refine AllReady.cons rfl (fun K0 hK => ?_) (AllReady.cons rfl (fun K0 hK => ?_) (AllReady.nil))
            · go_simp
              refine hK _ _ ?_
              clear hK K0
              refine wpAny_ready (rs := [9, 10]) (by kernel_rfl) (by simp) ?_
              refine AllReady.cons rfl (fun K0 hK => ?_) (AllReady.cons rfl (fun K0 hK => ?_) (AllReady.nil))
              · go_simp
                refine hK _ _ ?_
                clear hK K0
                refine wpAny_ready (rs := [10]) (by kernel_rfl) (by simp) ?_
                refine AllReady.cons rfl (fun K0 hK => ?_) AllReady.nil
                go_simp
                refine hK _ _ ?_
                clear hK K0
                refine wpAny_ready (rs := [11]) (by kernel_rfl) (by simp) ?_
                refine AllReady.cons rfl (fun K0 hK => ?_) AllReady.nil
                go_simp
                refine hK _ _ ?_
                clear hK K0
                refine wpAny_done (by kernel_rfl) ?_ _
                go_wp2_with fail
                go_meet
                exact ⟨rfl, rfl, BE⟩
              · go_simp
                refine hK _ _ ?_
                clear hK K0
                refine wpAny_ready (rs := [9]) (by kernel_rfl) (by simp) ?_
                refine AllReady.cons rfl (fun K0 hK => ?_) AllReady.nil
                go_simp
                refine hK _ _ ?_
                clear hK K0
                refine wpAny_ready (rs := [11]) (by kernel_rfl) (by simp) ?_
                refine AllReady.cons rfl (fun K0 hK => ?_) AllReady.nil
                go_simp
                refine hK _ _ ?_
                clear hK K0
                refine wpAny_done (by kernel_rfl) ?_ _
                go_wp2_with fail
                go_meet
                exact ⟨rfl, rfl, BE⟩
            · go_simp
              refine hK _ _ ?_
              clear hK K0
              refine wpAny_ready (rs := [8]) (by kernel_rfl) (by simp) ?_
              refine AllReady.cons rfl (fun K0 hK => ?_) AllReady.nil
              go_simp
              refine hK _ _ ?_
              clear hK K0
              refine wpAny_ready (rs := [10]) (by kernel_rfl) (by simp) ?_
              refine AllReady.cons rfl (fun K0 hK => ?_) AllReady.nil
              go_simp
              refine hK _ _ ?_
              clear hK K0
              refine wpAny_ready (rs := [11]) (by kernel_rfl) (by simp) ?_
              refine AllReady.cons rfl (fun K0 hK => ?_) AllReady.nil
              go_simp
              refine hK _ _ ?_
              clear hK K0
              refine wpAny_done (by kernel_rfl) ?_ _
              go_wp2_with fail
              go_meet
              exact ⟨rfl, rfl, BE⟩
          · right
            intro i hi
            obtain ⟨hlt9, hfl, ha⟩ := mem_ready hi
            have hi9 : i < 12 := hlt9
            have K9 := kx3.below hPM.bl kx3.lt
            clear hlt9 hi x0 x1 x2 x3
            have c0 : w'.cell? ⟨w.heap.size, 0, none⟩ = some (.int .i64 i0) := K9.cell 0
            have c1 : w'.cell? ⟨w.heap.size, 1, none⟩ = some (.int .u64 i1) := K9.cell 1
            have c2 : w'.cell? ⟨w.heap.size, 2, none⟩ = some (.slice X2 n2 z2) := K9.cell 2
            have c3 : w'.cell? ⟨w.heap.size, 3, none⟩ = some (.slice X3 n3 z3) := K9.cell 3
            have hcase : i = 0 ∨ i = 1 ∨ i = 2 ∨ i = 3 ∨ i = 4 ∨ i = 5 ∨ i = 6 ∨ i = 7 ∨ i = 8 ∨ i = 9 ∨ i = 10 ∨ i = 11 := by omega
            rcases hcase with rfl | rfl | rfl | rfl | rfl | rfl | rfl | rfl | rfl | rfl | rfl | rfl
            · refine wpOp_step rfl (fun K0 hK => ?_)
              go_simp
              refine hK _ _ ?_
              exact ⟨true, r1, r2, r3, r4, r5, _, s36, s37, s38, s39, s40, rfl, rfl, hPM.n0⟩
            · refine wpOp_step rfl (fun K0 hK => ?_)
              go_simp
              refine hK _ _ ?_
              exact ⟨r0, true, r2, r3, r4, r5, s35, _, s37, s38, s39, s40, rfl, rfl, hPM.l1⟩
            · have hd : r0 = true ∧ r1 = true := by
                have := ha _ rfl
                simp [Region.binds] at this
                simp_all
              obtain ⟨g0, g1⟩ := hd
              have hn2 : r2 = false := hfl
              obtain rfl := hPM.e1 g1
              have how := hPM.e0 g0 hn2
              refine wpOp_step rfl (fun K0 hK => ?_)
              refine step_growN rfl _ _ rfl w3.heap.size s35 [] rfl how _ lq rfl (hlx.imp id fun ⟨ad, cc, e, h⟩ => ⟨ad, cc, e, At_below h hPM.bl⟩) hlq.cells1 HL1.out hPM.bl.size ?_
              intro v7 w7 how7 hg7 _
              refine hK _ _ ?_
              exact ⟨r0, r1, true, r3, r4, r5, s35, _, _, s38, s39, s40, rfl, rfl, hPM.k2 g0 g1 hn2 how7 hg7⟩
            · refine wpOp_step rfl (fun K0 hK => ?_)
              go_simp
              refine hK _ _ ?_
              exact ⟨r0, r1, r2, true, r4, r5, s35, s36, s37, _, s39, s40, rfl, rfl, hPM.l3⟩
            · have hd : r2 = true ∧ r3 = true := by
                have := ha _ rfl
                simp [Region.binds] at this
                simp_all
              obtain ⟨g2, g3⟩ := hd
              have hn4 : r4 = false := hfl
              obtain rfl := hPM.e3 g3
              have how := hPM.e2 g2 hn4
              refine wpOp_step rfl (fun K0 hK => ?_)
              refine step_growN rfl _ _ rfl w3.heap.size s37 lq rfl how _ mq rfl (hmx.imp id fun ⟨ad, cc, e, h⟩ => ⟨ad, cc, e, At_below h hPM.bl⟩) hmq.cells1 HL2.out hPM.bl.size ?_
              intro v7 w7 how7 hg7 _
              refine hK _ _ ?_
              exact ⟨r0, r1, r2, r3, true, r5, s35, s36, s37, _, _, s40, rfl, rfl, hPM.k4 g2 g3 hn4 how7 hg7⟩
            · refine wpOp_step rfl (fun K0 hK => ?_)
              go_simp
              refine hK _ _ ?_
              exact ⟨r0, r1, r2, r3, r4, true, s35, s36, s37, s38, s39, _, rfl, rfl, hPM.l5⟩
            · exfalso
              apply hall
              have := ha _ rfl
              simp [Region.binds] at this
              simp_all
            · exfalso
              have := ha _ rfl
              simp [Region.binds] at this
            · exfalso
              have := ha _ rfl
              simp [Region.binds] at this
            · exfalso
              have := ha _ rfl
              simp [Region.binds] at this
            · exfalso
              have := ha _ rfl
              simp [Region.binds] at this
            · exfalso
              have := ha _ rfl
              simp [Region.binds] at this
      case rest =>
        obtain ⟨rfl, rfl, b4⟩ := hcut
        obtain ⟨w4, rfl⟩ : ∃ w4, w4 = wc := ⟨_, rfl⟩
        have B4 := B3.trans (b4.mono B3.size)
        have hsh4 := hsh3.below b4
        have hl4 := hl3.keep b4.size fun b _ hb => b4.block b hb
        have hm4 := hm3.keep b4.size fun b _ hb => b4.block b hb
        have hS4 : ∀ b, S b → b < w4.heap.size := fun b hb => Nat.lt_of_lt_of_le (hS2 b hb) (Nat.le_trans b3.size b4.size)
        clear x0 x1 x2 x3 HFM hl3 hm3 hl2 hm2 ts2
        have hlv4 := dlive_any w4 hsh4
        go_wp2_with fail
        refine (num6_any E1 w4 hE1).mono ?_
        rintro e w4' ⟨rfl, rfl⟩
        by_cases h1 : E1 = 0
        · subst h1
          go_wp2_with fail
          refine (num6_any E2 w4 hE2).mono ?_
          rintro e w4' ⟨rfl, rfl⟩
          by_cases h2 : E2 = 0
          · subst h2
            cases a1 with
            | true =>
              have ha2 := HY.out (by trivial) (by trivial) (by trivial)
              subst ha2
              clear HY hlv4
              go_wp2_with fail
              go_loopw [11] (fun iv wr => ∃ j : Nat, j ≤ more.length ∧ iv = .int .i64 j ∧ Hid (∀ i x, i < j → more[i]? = some x → errF f l x = 0 ∧ ansF f l x = true) ∧ Below w4.heap.size w4 wr) (fun iv _ => more.length - (intOf iv).toNat)
              case atStart => exact ⟨0, by omega, rfl, fun i x h => absurd h (Nat.not_lt_zero _), Below.refl _ _⟩
              case round =>
                obtain ⟨j, hj, rfl, HN, B⟩ := hrel
                have BW := B4.trans (B.mono B4.size)
                by_cases hlt : j < more.length
                · obtain ⟨b, o, e0, e1, e2, e3, rfl, hb, k0, k1, k2, k3, hv⟩ := el_at hm4 rfl B j hlt
                  have hfo := follows_any S S f l more[j] (.slice A l.length c) (.agg #[e0, e1, e2, e3]) wr (fun b hb => Nat.lt_of_lt_of_le (hS4 b hb) B.size) (fun b hb => Nat.lt_of_lt_of_le (hS4 b hb) B.size) (hsh4.below B) (hl4.keep B.size fun b _ hb => B.block b hb) ⟨_, _, _, _, rfl, hv⟩
                  have hE3 := errF_64 f l more[j]
                  have hkj : more[j]? = some more[j] := List.getElem?_eq_getElem hlt
                  have HNN : Hid (errF f l more[j] = 0 → ansF f l more[j] = true → ∀ i x, i < j + 1 → more[i]? = some x → errF f l x = 0 ∧ ansF f l x = true) := by
                    intro h1 h2 i x hi hx
                    by_cases hij : i < j
                    · exact HN.out i x hij hx
                    · obtain rfl : i = j := by omega
                      rw [hkj] at hx
                      obtain rfl := Option.some.inj hx
                      exact ⟨h1, h2⟩
                  generalize errF f l more[j] = E3 at *
                  generalize ansF f l more[j] = a3 at *
                  clear HN hkj hv
                  go_wp2_with fail
                  refine hfo.mono ?_
                  rintro e w5 ⟨rfl, b5⟩
                  have B5 := B.trans (b5.mono B.size)
                  have BE := B4.trans (B5.mono B4.size)
                  have hlv := dlive_any w5 (hsh4.below B5)
                  clear hfo k0 k1 k2 k3
                  go_wp2_with fail
                  refine (num6_any E3 w5 hE3).mono ?_
                  rintro e w5' ⟨rfl, rfl⟩
                  by_cases h3 : E3 = 0
                  · subst h3
                    cases a3 with
                    | true =>
                      have HN' := Lib.hid (HNN.out rfl rfl)
                      clear HNN hlv
                      go_wp2_with fail
                      go_roundw
                      case rel => exact ⟨j + 1, by omega, by go_num, HN', B5⟩
                      case measure => simp [intOf]; omega
                    | false =>
                      clear HNN
                      go_wp2_with fail
                      refine hlv.mono ?_
                      rintro e w6 ⟨rfl, b6⟩
                      go_wp2_with fail
                      go_ret
                      exact ⟨rfl, BE.trans (b6.mono BE.size)⟩
                  · have g1 : (E3 != 0) = true := bne_iff_ne.2 h3
                    clear HNN
                    go_wp2_with fail
                    refine hlv.mono ?_
                    rintro e w6 ⟨rfl, b6⟩
                    go_wp2_with fail
                    go_ret
                    exact ⟨rfl, BE.trans (b6.mono BE.size)⟩
                · obtain rfl : j = more.length := by omega
                  have hab := HBK.out (by trivial) (by trivial) fun x hx => by
                    obtain ⟨i, hi, he⟩ := List.mem_iff_getElem.1 hx
                    exact HN.out i x hi (by rw [List.getElem?_eq_getElem hi, he])
                  have hlv := dlive_any wr (hsh4.below B)
                  clear HBK HN
                  clear hab
                  go_wp2_with fail
                  refine hlv.mono ?_
                  rintro e w6 ⟨rfl, b6⟩
                  go_wp2_with fail
                  go_ret
                  exact ⟨rfl, BW.trans (b6.mono BW.size)⟩
            | false =>
              clear HY hlv4
              go_wp2_with fail
              go_loopw [11] (fun iv wr => ∃ j : Nat, j ≤ more.length ∧ iv = .int .i64 j ∧ Hid (∀ i x, i < j → more[i]? = some x → errF f l x = 0 ∧ ansF f l x = true) ∧ Below w4.heap.size w4 wr) (fun iv _ => more.length - (intOf iv).toNat)
              case atStart => exact ⟨0, by omega, rfl, fun i x h => absurd h (Nat.not_lt_zero _), Below.refl _ _⟩
              case round =>
                obtain ⟨j, hj, rfl, HN, B⟩ := hrel
                have BW := B4.trans (B.mono B4.size)
                by_cases hlt : j < more.length
                · obtain ⟨b, o, e0, e1, e2, e3, rfl, hb, k0, k1, k2, k3, hv⟩ := el_at hm4 rfl B j hlt
                  have hfo := follows_any S S f l more[j] (.slice A l.length c) (.agg #[e0, e1, e2, e3]) wr (fun b hb => Nat.lt_of_lt_of_le (hS4 b hb) B.size) (fun b hb => Nat.lt_of_lt_of_le (hS4 b hb) B.size) (hsh4.below B) (hl4.keep B.size fun b _ hb => B.block b hb) ⟨_, _, _, _, rfl, hv⟩
                  have hE3 := errF_64 f l more[j]
                  have hkj : more[j]? = some more[j] := List.getElem?_eq_getElem hlt
                  have HNN : Hid (errF f l more[j] = 0 → ansF f l more[j] = true → ∀ i x, i < j + 1 → more[i]? = some x → errF f l x = 0 ∧ ansF f l x = true) := by
                    intro h1 h2 i x hi hx
                    by_cases hij : i < j
                    · exact HN.out i x hij hx
                    · obtain rfl : i = j := by omega
                      rw [hkj] at hx
                      obtain rfl := Option.some.inj hx
                      exact ⟨h1, h2⟩
                  generalize errF f l more[j] = E3 at *
                  generalize ansF f l more[j] = a3 at *
                  clear HN hkj hv
                  go_wp2_with fail
                  refine hfo.mono ?_
                  rintro e w5 ⟨rfl, b5⟩
                  have B5 := B.trans (b5.mono B.size)
                  have BE := B4.trans (B5.mono B4.size)
                  have hlv := dlive_any w5 (hsh4.below B5)
                  clear hfo k0 k1 k2 k3
                  go_wp2_with fail
                  refine (num6_any E3 w5 hE3).mono ?_
                  rintro e w5' ⟨rfl, rfl⟩
                  by_cases h3 : E3 = 0
                  · subst h3
                    cases a3 with
                    | true =>
                      have HN' := Lib.hid (HNN.out rfl rfl)
                      clear HNN hlv
                      go_wp2_with fail
                      go_roundw
                      case rel => exact ⟨j + 1, by omega, by go_num, HN', B5⟩
                      case measure => simp [intOf]; omega
                    | false =>
                      clear HNN
                      go_wp2_with fail
                      refine hlv.mono ?_
                      rintro e w6 ⟨rfl, b6⟩
                      go_wp2_with fail
                      go_ret
                      exact ⟨rfl, BE.trans (b6.mono BE.size)⟩
                  · have g1 : (E3 != 0) = true := bne_iff_ne.2 h3
                    clear HNN
                    go_wp2_with fail
                    refine hlv.mono ?_
                    rintro e w6 ⟨rfl, b6⟩
                    go_wp2_with fail
                    go_ret
                    exact ⟨rfl, BE.trans (b6.mono BE.size)⟩
                · obtain rfl : j = more.length := by omega
                  have hab := HBK.out (by trivial) (by trivial) fun x hx => by
                    obtain ⟨i, hi, he⟩ := List.mem_iff_getElem.1 hx
                    exact HN.out i x hi (by rw [List.getElem?_eq_getElem hi, he])
                  have hlv := dlive_any wr (hsh4.below B)
                  clear HBK HN
                  subst hab
                  go_wp2_with fail
                  refine hlv.mono ?_
                  rintro e w6 ⟨rfl, b6⟩
                  go_wp2_with fail
                  go_ret
                  exact ⟨rfl, BW.trans (b6.mono BW.size)⟩
          · have g1 : (E2 != 0) = true := bne_iff_ne.2 h2
            clear HY HBK
            go_wp2_with fail
            refine hlv4.mono ?_
            rintro e w6 ⟨rfl, b6⟩
            go_wp2_with fail
            go_ret
            exact ⟨rfl, B4.trans (b6.mono B4.size)⟩
        · have g1 : (E1 != 0) = true := bne_iff_ne.2 h1
          clear HY HBK
          go_wp2_with fail
          refine hlv4.mono ?_
          rintro e w6 ⟨rfl, b6⟩
          go_wp2_with fail
          go_ret
          exact ⟨rfl, B4.trans (b6.mono B4.size)⟩

theorem deriveMore_law {H : Type} (enc : TypeId × Value → H) (W : World) (base : Nat) (hsh : Shp W) (v0 : Value) (d0 : DataW H) (p0 : List MemPlace) (v1 : Value) (d1 : DataW H) (p1 : List MemPlace) (v2 : Value) (d2 : DataW H) (p2 : List MemPlace)
    (hv0 : Value.okWide Tryd.prog W .any base 22 v0) (hv1 : Value.okWide Tryd.prog W .any base 22 v1) (hv2 : Value.okWide Tryd.prog W .any base 35 v2) (h0 : DataW.Trod enc Tryd.prog W 0 (fun _ => true) true 22 v0 d0 p0) (h1 : DataW.Trod enc Tryd.prog W 0 (fun _ => true) true 22 v1 d1 p1) (h2 : DataW.Trod enc Tryd.prog W 0 (fun _ => true) true 35 v2 d2 p2) :
    Calls Tryd.prog 4 #[v0, v1, v2] W fun e w' => e = .returned (.bool true) ∧ Below W.heap.size W w' := by
  obtain ⟨n, hn⟩ := open_terms hv0 h0
  obtain ⟨n', hn'⟩ := open_terms hv1 h1
  obtain ⟨m, hm⟩ := open_term hv2 h2
  obtain ⟨ks, hk⟩ := hn (max n (max n' m)) (by omega)
  obtain ⟨ks', hk'⟩ := hn' (max n (max n' m)) (by omega)
  obtain ⟨t, ht⟩ := hm (max n (max n' m)) (by omega)
  exact deriveMore_any _ _ ks ks' t v0 v1 v2 W (fun b h => h) hsh hk hk' ht
end Go.Proofs.YthgaljgelngmaaaDoor
end

section
namespace Go.Proofs.YthgaljgelngmaaaDoor.deriveMore
open Go.ChangeShapes Go.WideShapes Go.ChangeAt Go.RowKit
set_option linter.unusedVariables false

theorem own : ownKnob Tryd.prog.godebug = none := by kernel_rfl
theorem laidOut : laidOutB Tryd.prog = true := by kernel_rfl

theorem door_met (os : Os) (args : Array Value) : laidMetH Tryd.prog Rows.deriveMoreRow.laid ((World.doorLaid Tryd.prog 400 os).forCall (fun _ _ => 0) ⟨#[], args, []⟩).memory :=
  laidMetH_of_parts3 (fuel := 8) (laidMet_of_run' 8 (by kernel_rfl) (by kernel_rfl)) (by kernel_rfl) (by kernel_rfl)

set_option maxRecDepth 100000 in
theorem lifted (os : Os) (started : os.Started) (H : Type) (enc : TypeId × Value → H) :
    ReturnsInHanded {} Tryd.checked os 4 .any (fun w args => (Rows.deriveMoreSpec.pre enc Tryd.prog Tryd.f4 [] false w args ∧ laidMetH Tryd.prog Rows.deriveMoreRow.laid w) ∧ sizedMet enc Tryd.prog Tryd.f4 (OpenSpec.ofChange Rows.deriveMoreSpec) false w args)
      (Rows.deriveMoreSpec.post enc Tryd.prog Tryd.f4 false true false false) := by
  refine returnsInHanded_of_change_and (C := Tryd.checked) (X := fun w _ => laidMetH Tryd.prog Rows.deriveMoreRow.laid w) (fun _ _ _ hh h => h.of_heap hh) own started (by kernel_rfl) Tryd.func4
    (ChangeSpec.witness_shaped (enc := enc) (C := Tryd.checked) (os := os) (X := fun w _ => laidMetH Tryd.prog Rows.deriveMoreRow.laid w) false (World.doorLaid Tryd.prog 400 os) #[.slice none 0 0, .slice none 0 0, .agg #[.int .i64 0, .int .u64 0, .slice none 0 0, .slice none 0 0]] 8 rfl (World.shaped_of_RefB (by kernel_rfl) (by kernel_rfl)) (by kernel_rfl) (by kernel_rfl) (by kernel_rfl) (door_met os _)) ?_
  intro W base args ds gs before hval0 hW _ _ hL _
  have hval : ∀ (j : Nat) t v, Tryd.f4.params[j]? = some t → args[j]? = some v → Value.okWide Tryd.prog W .any base t v := hval0
  have hW' := hW
  obtain ⟨p, q, hA0, hV, rfl, hfz, hnd⟩ := hW
  have hA : DataW.TrodAll enc Tryd.prog W 0 (fun _ => true) true Tryd.f4.params.toList args.toList ds p := hA0
  rw [Tryd.params4] at hA hval
  obtain ⟨v0, vs0, d0, ds0, p0, q0, hargs, rfl, rfl, h0, r0⟩ := trodAll_cons hA
  obtain ⟨v1, vs1, d1, ds1, p1, q1, rfl, rfl, rfl, h1, r1⟩ := trodAll_cons r0
  obtain ⟨v2, vs2, d2, ds2, p2, q2, rfl, rfl, rfl, h2, r2⟩ := trodAll_cons r1
  obtain ⟨rfl, rfl, rfl⟩ := trodAll_nil r2
  obtain rfl : args = #[v0, v1, v2] := by cases args; simp_all
  obtain ⟨rfl, rfl⟩ := trodVars_none hV
  have lt0 : ∀ x ∈ p0, x.block < W.heap.size := by obtain ⟨m, hm⟩ := h0; exact DataW.trod_lt m _ _ _ hm
  have lt1 : ∀ x ∈ p1, x.block < W.heap.size := by obtain ⟨m, hm⟩ := h1; exact DataW.trod_lt m _ _ _ hm
  have lt2 : ∀ x ∈ p2, x.block < W.heap.size := by obtain ⟨m, hm⟩ := h2; exact DataW.trod_lt m _ _ _ hm
  refine (deriveMore_law enc W base (shp_of_laid (by kernel_rfl) hL) v0 d0 p0 v1 d1 p1 v2 d2 p2 (hval 0 _ v0 rfl rfl) (hval 1 _ v1 rfl rfl) (hval 2 _ v2 rfl rfl) h0 h1 h2).mono fun e W' ⟨he, bel⟩ => ?_
  subst he
  exact ⟨_, rfl, _, _, _, [], _, [], hW', trodAll_mk1 (shut_bool Tryd.underlying4 _), (trodAll_cons_mk (Below.trod laidOut (by kernel_rfl) (of_decide_eq_true (by kernel_rfl)) h0 bel lt0) (trodAll_cons_mk (Below.trod laidOut (by kernel_rfl) (of_decide_eq_true (by kernel_rfl)) h1 bel lt1) (trodAll_cons_mk (Below.trod laidOut (by kernel_rfl) (of_decide_eq_true (by kernel_rfl)) h2 bel lt2) trodAll_mk0))), rfl, bel.frame _, fun h => by cases h⟩

theorem over : Rows.deriveMoreRow.holds Tryd.pinned (OpenSpec.ofChange Rows.deriveMoreSpec) :=
  OpenClaim.holds_of_wide 4 Tryd.f4 rfl rfl rfl rfl rfl rfl rfl ⟨rfl, rfl, rfl, rfl, rfl⟩ rfl rfl rfl rfl rfl (by kernel_rfl) Tryd.func4 (by kernel_rfl)
    (of_decide_eq_true (by kernel_rfl)) (by unfold Func.isWrapper; first | (rw [if_pos (by decide +kernel)]; kernel_rfl) | (rw [if_neg (by decide +kernel)]; exact ⟨rfl, rfl⟩))
    (fun os started H enc _ => lifted os started H enc)

theorem proved : Rows.DeriveMoreSaid := over

theorem row_tie : Rows.deriveMoreRow.laidByTextAt .later Tryd.pinned [.data] true := deriveMore_row_tie

theorem card : Rows.DeriveMoreCardSaid :=
  Claim7.holds_tied_plain_at .later [] [.data] true Rows.deriveMoreCard.stood.harness false
    over (fun _ h => by cases h) (by kernel_rfl) (fun _ h => by cases h) row_tie rfl ⟨rfl, rfl⟩ (by kernel_rfl) rfl
    (fun f fn hf hfn => by
      obtain rfl : f = 4 := Option.some.inj ((show Tryd.prog.funcNamed Rows.deriveMoreRow.func = some 4 by kernel_rfl).symm.trans hf) |>.symm
      obtain rfl : fn = Tryd.f4 := (Option.some.inj (Tryd.func4.symm.trans hfn)).symm
      exact ⟨by kernel_rfl, fun j t ht => by
        rw [Tryd.params4] at ht
        have hm : t ∈ [22, 22, 35] := by simpa using Array.mem_of_getElem? ht
        have hall : ([22, 22, 35].all fun u => !Tryd.prog.wantsStandIn u) = true := by kernel_rfl
        exact (show Tryd.prog.wantsStandIn t = false by simpa using List.all_eq_true.1 hall t hm)⟩)
    (by kernel_rfl)
end Go.Proofs.YthgaljgelngmaaaDoor.deriveMore
end
