/-
  TpC: How the program goes through a term's parts, whatever it does with each: the contract of the function that calls itself, over the loaded program, for every function value whose own contract is known. No condition but what it names.
-/
import Derived.Test.YthgaljgelngmaaaDoorDv13
import Derived.Shelf.Abstract

section
namespace Go.Proofs.YthgaljgelngmaaaDoor
open Go.RowKit
set_option linter.unusedVariables false

/-- Nothing but memory has turned, and no block of which P holds. -/
structure KeepP (P : Nat → Prop) (w w' : World) : Prop where
  os : w'.os = w.os
  tape : w'.tape = w.tape
  output : w'.output = w.output
  size : w.heap.size ≤ w'.heap.size
  block : ∀ b, P b → w'.heap[b]? = w.heap[b]?

section
variable {P Q : Nat → Prop} {a b c : World}
theorem KeepP.refl (P : Nat → Prop) (w : World) : KeepP P w w := ⟨rfl, rfl, rfl, Nat.le_refl _, fun _ _ => rfl⟩
theorem KeepP.trans (h : KeepP P a b) (k : KeepP P b c) : KeepP P a c := ⟨k.os.trans h.os, k.tape.trans h.tape, k.output.trans h.output, Nat.le_trans h.size k.size, fun i hi => (k.block i hi).trans (h.block i hi)⟩
theorem KeepP.mono (h : KeepP P a b) (hq : ∀ x, Q x → P x) : KeepP Q a b := ⟨h.os, h.tape, h.output, h.size, fun i hi => h.block i (hq i hi)⟩
theorem KeepP.of_below (h : Below a.heap.size a b) (hp : ∀ x, P x → x < a.heap.size) : KeepP P a b := ⟨h.os, h.tape, h.output, h.size, fun i hi => h.block i (hp i hi)⟩
theorem KeepP.alloc (w : World) (o : Obj) (hp : ∀ x, P x → x < w.heap.size) : KeepP P w (w.alloc o) := KeepP.of_below ((Below.refl _ _).alloc (Nat.le_refl _) o) hp
theorem KeepP.to_below {B : Nat} (h : KeepP P a b) (hp : ∀ x, x < B → P x) : Below B a b := ⟨h.os, h.tape, h.output, h.size, fun i hi => h.block i (hp i hi)⟩
theorem KB.keepP {g : Nat} {t : TypeId} {cs : Array Value} (h : KB a g t cs) (k : KeepP P a b) (hp : P g) : KB b g t cs := h.keep (k.block g hp)
end

/-- A kid of a term, where memory stands now. -/
theorem kid_kp {w wr : World} {S : Nat → Prop} {f : Nat} {A : Option Addr} {c n : Nat} {ks : List (Tm f)} (h : KS w S (TM w S f) (.slice A n c) ks) (hn : ks.length = n) (hs : w.heap.size ≤ wr.heap.size) (hk : ∀ b, S b → wr.heap[b]? = w.heap[b]?) (j : Nat) (hj : j < ks.length) :
    ∃ b o e0 e1 e2 e3, A = some ⟨b, o, none⟩ ∧ b < wr.heap.size ∧ wr.cell? ⟨b, o + j * 4, none⟩ = some e0 ∧ wr.cell? ⟨b, o + j * 4 + 1, none⟩ = some e1 ∧ wr.cell? ⟨b, o + j * 4 + 2, none⟩ = some e2 ∧ wr.cell? ⟨b, o + j * 4 + 3, none⟩ = some e3 ∧
      TM wr S f ks[j] e0 e1 e2 e3 := by
  subst hn
  obtain ⟨A', c', e, hl, hc, hz, hx⟩ := h
  injection e with e1 e2 e3
  subst e1 e3
  obtain ⟨b, o, rfl, sb, hlt, hx⟩ := hx (by omega)
  obtain ⟨e0, e1, e2, e3, k0, k1, k2, k3, ht⟩ := hx j ks[j] (List.getElem?_eq_getElem hj)
  have hc := fun (x : Nat) => World.cell?_of_block (w := w) (w' := wr) (a := ⟨b, x, none⟩) (hk b sb)
  exact ⟨b, o, e0, e1, e2, e3, rfl, by omega, (hc _).trans k0, (hc _).trans k1, (hc _).trans k2, (hc _).trans k3, TM.keepS f ks[j] e0 e1 e2 e3 ht hs (fun b sb _ => hk b sb) fun _ h => h⟩

theorem tm_form {w : World} {S : Nat → Prop} : ∀ {f : Nat} {t : Tm f} {e0 e1 e2 e3 : Value}, TM w S f t e0 e1 e2 e3 → ∃ (i0 i1 : Int) (X2 : Option Addr) (n2 z2 : Nat) (X3 : Option Addr) (n3 z3 : Nat), e0 = .int .i64 i0 ∧ e1 = .int .u64 i1 ∧ e2 = .slice X2 n2 z2 ∧ e3 = .slice X3 n3 z3
  | 0, t, _, _, _, _, _ => nomatch t
  | f + 1, (t : Nd (Tm f)), e0, e1, e2, e3, h => by
    obtain ⟨rfl, _, rfl, _, hb, hk⟩ := h
    obtain ⟨A2, c2, rfl, _⟩ := hb.form
    obtain ⟨A3, c3, rfl, _⟩ := hk
    exact ⟨_, _, A2, _, c2, A3, _, c3, rfl, rfl, rfl, rfl⟩

/-- One deeper, as the program reckons it. -/
def deeper (d : Int) : Int := wrap64 (d + 1)
theorem deeper_in (d : Int) : I64 (deeper d) := by
  unfold deeper I64
  unfold wrap64
  omega

/-- Whether all parts are told yes. -/
def okT (ok : (f : Nat) → Nd (Tm f) → Int → Bool) : (f : Nat) → Tm f → Int → Bool
  | 0, t, _ => nomatch t
  | f + 1, (t : Nd (Tm f)), d => ok f t d && t.kids.all fun u => okT ok f u (deeper d)

/-- What all parts, one behind the other, make of s. -/
def nxtT {σ : Type} (nxt : (f : Nat) → Nd (Tm f) → σ → σ) : (f : Nat) → Tm f → σ → σ
  | 0, t, _ => nomatch t
  | f + 1, (t : Nd (Tm f)), s => t.kids.foldl (fun s u => nxtT nxt f u s) (nxt f t s)

theorem fold_step {α σ : Type} (g : σ → α → σ) (ks : List α) (s : σ) (j : Nat) (hj : j < ks.length) : (ks.take (j + 1)).foldl g s = g ((ks.take j).foldl g s) ks[j] := by
  rw [List.take_add_one, List.getElem?_eq_getElem hj, List.foldl_append]; rfl
theorem fold_bd {α σ : Type} (g : σ → α → σ) (Bd : σ → Prop) (h : ∀ s u, Bd (g s u) → Bd s) : ∀ (ks : List α) (s : σ), Bd (ks.foldl g s) → Bd s
  | [], s, hb => hb
  | k :: ks, s, hb => h s k (fold_bd g Bd h ks (g s k) hb)
theorem fold_take {α σ : Type} (g : σ → α → σ) (Bd : σ → Prop) (h : ∀ s u, Bd (g s u) → Bd s) (ks : List α) (s : σ) (j : Nat) (hb : Bd (ks.foldl g s)) : Bd ((ks.take j).foldl g s) := by
  rw [← List.take_append_drop j ks, List.foldl_append] at hb
  exact fold_bd g Bd h _ _ hb

set_option maxHeartbeats 1000000 in
theorem each1_any {σ : Type} (F : Nat) (caps : Array Value) (I : (Nat → Prop) → World → σ → Prop) (ok : (f : Nat) → Nd (Tm f) → Int → Bool) (nxt : (f : Nat) → Nd (Tm f) → σ → σ) (Bd : σ → Prop) (S : Nat → Prop) (gd gw : Nat)
    (hI1 : ∀ P w s o, I P w s → I (fun b => P b ∨ b = w.heap.size) (w.alloc o) s) (hI2 : ∀ P Q w s, I P w s → (∀ b, Q b → P b) → I Q w s)
    (hrun : ∀ (args : Array Value) (w : World), (callFunc F args).run Tryd.prog w = .ok (.enter F args) w) (hbd : ∀ f t s, Bd (nxtT nxt f t s) → Bd s)
    (hdo : ∀ (f : Nat) (t : Nd (Tm f)) (v : Value) (d : Int) (s : σ) (w : World) (P : Nat → Prop), I64 d → (∀ b, P b → b < w.heap.size) → (∀ b, S b → P b) → P 0 → Shp w → I P w s → Bd (nxt f t s) → TV w S (f + 1) v t →
      Calls Tryd.prog F (#[v, .int .i64 d] ++ caps) w fun e w' => e = .returned (.bool (ok f t d)) ∧ (ok f t d = true → I P w' (nxt f t s)) ∧ KeepP P w w') :
    ∀ (f : Nat) (t : Tm f) (v : Value) (d : Int) (s : σ) (w : World) (P : Nat → Prop), I64 d → (∀ b, P b → b < w.heap.size) → (∀ b, S b → P b) → P 0 → P gd → P gw →
      KB w gd 36 #[.func (.func F) #[] caps] → KB w gw 36 #[.func (.func 52) #[] #[.pointer (some ⟨gd, 0, none⟩), .pointer (some ⟨gw, 0, none⟩)]] →
      Shp w → I P w s → Bd (nxtT nxt f t s) → TV w S f v t →
      Calls Tryd.prog 52 #[v, .int .i64 d, .pointer (some ⟨gd, 0, none⟩), .pointer (some ⟨gw, 0, none⟩)] w fun e w' => e = .returned (.bool (okT ok f t d)) ∧ (okT ok f t d = true → I P w' (nxtT nxt f t s)) ∧ KeepP P w w' := by
  intro f
  induction f with
  | zero => intro t; exact nomatch t
  | succ f ih =>
    intro t v d s w P hd hP hS hPg hPd hPw kd kw hsh hi hb hv
    obtain ⟨c0, c1, c2, c3, rfl, ht⟩ := hv
    have hz := hP _ hPg
    have hgd := kd.lt
    have hgw := kw.lt
    obtain ⟨x0, x1, x2, hks⟩ : ∃ x0 x1 : Value, ∃ x2 : Value, KS w S (TM w S f) c3 (t : Nd (Tm f)).kids := ⟨c0, c0, c0, ht.2.2.2.2.2⟩
    obtain ⟨A3, cap3, e3, hl3, hm3, _⟩ := id hks
    obtain ⟨k, n, dd, ks⟩ := (t : Nd (Tm f))
    simp only at e3 hks hl3
    subst e3
    have hlen : ks.length ≤ 9223372036854775807 := by unfold maxLen at hm3; omega
    obtain ⟨A2, cap2, rfl, _⟩ := ht.2.2.2.2.1.form
    obtain ⟨rfl, _, rfl, _⟩ := id ht
    dsimp only at ht ⊢
    have e1 : okT ok (f + 1) (⟨k, n, dd, ks⟩ : Nd (Tm f)) d = (ok f ⟨k, n, dd, ks⟩ d && ks.all fun u => okT ok f u (deeper d)) := rfl
    have e2 : nxtT nxt (f + 1) (⟨k, n, dd, ks⟩ : Nd (Tm f)) s = ks.foldl (fun s u => nxtT nxt f u s) (nxt f ⟨k, n, dd, ks⟩ s) := rfl
    rw [e1, e2]
    rw [e2] at hb
    clear e1 e2
    have K0 := KB.new w 35 #[.int .i64 k, .int .u64 n, .slice A2 dd.length cap2, .slice A3 ks.length cap3]
    have kd0 := kd.alloc (.cells #[.int .i64 k, .int .u64 n, .slice A2 dd.length cap2, .slice A3 ks.length cap3] 35)
    have kw0 := kw.alloc (.cells #[.int .i64 k, .int .u64 n, .slice A2 dd.length cap2, .slice A3 ks.length cap3] 35)
    have hI := hI1 P w s (.cells #[.int .i64 k, .int .u64 n, .slice A2 dd.length cap2, .slice A3 ks.length cap3] 35) hi
    have tv : TV (w.alloc (.cells #[.int .i64 k, .int .u64 n, .slice A2 dd.length cap2, .slice A3 ks.length cap3] 35)) S (f + 1) (.agg #[.int .i64 k, .int .u64 n, .slice A2 dd.length cap2, .slice A3 ks.length cap3]) (⟨k, n, dd, ks⟩ : Nd (Tm f)) := TV.alloc ⟨_, _, _, _, rfl, ht⟩ _
    have hdoc := hdo f ⟨k, n, dd, ks⟩ _ d s _ (fun b => P b ∨ b = w.heap.size) hd (by intro b hb; simp; rcases hb with hb | hb; · have := hP b hb; omega
                                                                                      · omega) (fun b hb => .inl (hS b hb)) (.inl hPg) (hsh.alloc _) hI (fold_bd _ Bd (fun s u h => hbd f u s h) ks _ hb) tv
    have KP0 := KeepP.alloc w (.cells #[.int .i64 k, .int .u64 n, .slice A2 dd.length cap2, .slice A3 ks.length cap3] 35) hP
    obtain ⟨G, hG⟩ : ∃ G : σ → Tm f → σ, G = fun s u => nxtT nxt f u s := ⟨_, rfl⟩
    rw [← hG] at hb ⊢
    have HG : Hid (∀ s u, G s u = nxtT nxt f u s) := by intro s u; rw [hG]
    obtain ⟨Pk, hPk⟩ : ∃ Pk : Tm f → Bool, Pk = fun u => okT ok f u (deeper d) := ⟨_, rfl⟩
    rw [← hPk]
    have HPk : Hid (∀ u, Pk u = okT ok f u (deeper d)) := by intro u; rw [hPk]
    have HBd : Hid (∀ j, Bd ((ks.take j).foldl G (nxt f ⟨k, n, dd, ks⟩ s))) := fun j => fold_take G Bd (fun s u h => hbd f u s (by rw [HG.out] at h; exact h)) ks _ j hb
    have HFold : Hid (∀ (s : σ) (j : Nat) (hj : j < ks.length), (ks.take (j + 1)).foldl G s = nxtT nxt f ks[j] ((ks.take j).foldl G s)) := fun s j hj => by rw [fold_step G ks s j hj, HG.out]
    have HAll : Hid ((ks.take ks.length).foldl G (nxt f ⟨k, n, dd, ks⟩ s) = ks.foldl G (nxt f ⟨k, n, dd, ks⟩ s)) := by show _ = _; rw [List.take_length]
    have HR1 : Hid ((ks.take ks.length).all Pk = ks.all Pk) := by show _ = _; rw [List.take_length]
    have HR2 : Hid (∀ (j : Nat) (hj : j < ks.length), Pk ks[j] = false → ks.all Pk = false) := fun j hj h => all_stop hj h
    have HR3 : Hid (∀ (j : Nat) (hj : j < ks.length), (ks.take j).all Pk = true → Pk ks[j] = true → (ks.take (j + 1)).all Pk = true) := fun j hj h1 h2 => all_step hj h1 h2
    clear hG hPk hb
    generalize nxt f ⟨k, n, dd, ks⟩ s = s1 at *
    generalize ok f ⟨k, n, dd, ks⟩ d = r0 at *
    generalize ks.foldl G s1 = sE at *
    generalize ks.all Pk = rE at *
    have qd : w.cell? ⟨gd, 0, none⟩ = some (.func (.func F) #[] caps) := kd.cell 0
    have qw : w.cell? ⟨gw, 0, none⟩ = some (.func (.func 52) #[] #[.pointer (some ⟨gd, 0, none⟩), .pointer (some ⟨gw, 0, none⟩)]) := kw.cell 0
    cases r0 with
    | false =>
      rw [Bool.false_and]
      go_enter Tryd.func52, Tryd.ntmps52
      go_wp2_with fail
      refine hdoc.mono ?_
      rintro e w1 ⟨rfl, hok, kp1⟩
      clear hdoc
      have KP1 := KP0.trans (kp1.mono fun b hb => .inl hb)
      have P0 : ∀ b, P b ∨ b = w.heap.size → b < w1.heap.size := by
        intro b hb
        have := kp1.size
        simp at this
        rcases hb with hb | hb
        · have := hP b hb; omega
        · omega
      have K1 := K0.keepP kp1 (.inr rfl)
      have kd1 := kd0.keepP kp1 (.inl hPd)
      have kw1 := kw0.keepP kp1 (.inl hPw)
      have hks1 : ∀ b, S b → w1.heap[b]? = w.heap[b]? := fun b hb => KP1.block b (hS b hb)
      have hsh1 : Shp w1 := hsh.keep KP1.size (KP1.block _ hPg)
      clear qd qw
      go_wp2_with fail
      go_ret
      exact ⟨rfl, (fun h => by cases h), KP1⟩
    | true =>
      rw [Bool.true_and]
      go_enter Tryd.func52, Tryd.ntmps52
      go_wp2_with fail
      refine hdoc.mono ?_
      rintro e w1 ⟨rfl, hok, kp1⟩
      clear hdoc
      have KP1 := KP0.trans (kp1.mono fun b hb => .inl hb)
      have P0 : ∀ b, P b ∨ b = w.heap.size → b < w1.heap.size := by
        intro b hb
        have := kp1.size
        simp at this
        rcases hb with hb | hb
        · have := hP b hb; omega
        · omega
      have K1 := K0.keepP kp1 (.inr rfl)
      have kd1 := kd0.keepP kp1 (.inl hPd)
      have kw1 := kw0.keepP kp1 (.inl hPw)
      have hks1 : ∀ b, S b → w1.heap[b]? = w.heap[b]? := fun b hb => KP1.block b (hS b hb)
      have hsh1 : Shp w1 := hsh.keep KP1.size (KP1.block _ hPg)
      clear qd qw
      have hI1' := hok trivial
      have q3 : w1.cell? ⟨w.heap.size, 3, none⟩ = some (.slice A3 ks.length cap3) := K1.cell 3
      have hs1 : w.heap.size < w1.heap.size := P0 _ (.inr rfl)
      clear hok tv hi hI K0 K1 kd0 kw0 KP0
      go_wp2_with fail
      clear q3
      go_loopw [17] (fun iv wr => ∃ j : Nat, j ≤ ks.length ∧ iv = .int .i64 j ∧ Hid ((ks.take j).all Pk = true) ∧ I (fun b => P b ∨ b = w.heap.size) wr ((ks.take j).foldl G s1) ∧ KeepP (fun b => P b ∨ b = w.heap.size) w1 wr) (fun iv _ => ks.length - (intOf iv).toNat)
      case atStart => exact ⟨0, by omega, rfl, by show _ = _; simp, hI1', KeepP.refl _ _⟩
      case round =>
        obtain ⟨j, hj, rfl, hall, hir, kr⟩ := hrel
        have KR := KP1.trans (kr.mono fun b hb => .inl hb)
        by_cases hlt : j < ks.length
        · obtain ⟨b, o, e0, e1, e2, e3, rfl, hb, k0, k1, k2, k3, hv⟩ := kid_kp hks rfl KR.size (fun b hb => KR.block b (hS b hb)) j hlt
          have qw : wr.cell? ⟨gw, 0, none⟩ = some (.func (.func 52) #[] #[.pointer (some ⟨gd, 0, none⟩), .pointer (some ⟨gw, 0, none⟩)]) := (kw1.keepP kr (.inl hPw)).cell 0
          have hgw2 : gw < wr.heap.size := Nat.lt_of_lt_of_le hgw KR.size
          have hh := ih ks[j] (.agg #[e0, e1, e2, e3]) (deeper d) ((ks.take j).foldl G s1) (wr.alloc (.cells #[e0, e1, e2, e3] 35)) (fun b => P b ∨ b = w.heap.size) (deeper_in d)
            (by intro b hb; have := P0 b hb; have := kr.size; simp; omega) (fun b hb => .inl (hS b hb)) (.inl hPg) (.inl hPd) (.inl hPw)
            (((kd1.keepP kr (.inl hPd)).alloc _)) (((kw1.keepP kr (.inl hPw)).alloc _)) ((hsh1.keep kr.size (kr.block _ (.inl hPg))).alloc _) (hI2 _ _ _ _ (hI1 _ _ _ _ hir) fun b hb => .inl hb)
            (by have := HBd.out (j + 1); rw [HFold.out _ j hlt] at this; exact this) (TV.alloc ⟨e0, e1, e2, e3, rfl, hv⟩ _)
          rw [← HPk.out ks[j]] at hh
          have hf4 := tm_form hv
          have HF := Lib.hid (HFold.out s1 j hlt)
          have HN := Lib.hid (HR2.out j hlt)
          have HY := Lib.hid (HR3.out j hlt hall.out)
          clear hv hks hks1 hir hall HBd HFold HR2 HR3
          generalize Pk ks[j] = p at *
          generalize nxtT nxt f ks[j] ((ks.take j).foldl G s1) = s2 at *
          obtain ⟨i0, i1, X2, n2, z2, X3, n3, z3, rfl, rfl, rfl, rfl⟩ := hf4
          go_wp2_with fail
          refine hh.mono ?_
          rintro e w5 ⟨rfl, hok5, kp5⟩
          have kr5 := kr.trans ((KeepP.alloc wr _ (fun b hb => by have := P0 b hb; have := kr.size; omega)).trans kp5)
          cases p with
          | true =>
            have hi5 := hok5 rfl
            have hy := Lib.hid (HY.out rfl)
            have hi6 : I (fun b => P b ∨ b = w.heap.size) w5 ((ks.take (j + 1)).foldl G s1) := by rw [HF.out]; exact hi5
            clear hh hok5 hi5 HN HY
            go_wp2_with fail
            go_roundw
            case rel => exact ⟨j + 1, by omega, by go_num, hy, hi6, kr5⟩
            case measure => simp [intOf]; omega
          | false =>
            have hr := HN.out rfl
            have KR5 := KP1.trans (kr5.mono fun b hb => .inl hb)
            clear hh hok5 HN HY
            subst hr
            go_wp2_with fail
            go_ret
            exact ⟨rfl, (fun h => by cases h), KR5⟩
        · obtain rfl : j = ks.length := by omega
          have hr := HR1.out
          rw [hall.out] at hr
          have hi6 : I (fun b => P b ∨ b = w.heap.size) wr sE := by rw [← HAll.out]; exact hir
          have hi7 := hI2 _ P _ _ hi6 fun b hb => .inl hb
          clear HR1 HR2 HR3 HAll HFold HBd hir hi6
          subst hr
          go_wp2_with fail
          go_ret
          first | exact ⟨rfl, hi7, KR⟩ | exact ⟨rfl, fun _ => hi7, KR⟩
end Go.Proofs.YthgaljgelngmaaaDoor
end
