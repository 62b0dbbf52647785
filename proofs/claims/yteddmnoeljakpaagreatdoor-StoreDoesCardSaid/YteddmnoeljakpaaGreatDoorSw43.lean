/-
  SuI: Lists of files in memory that grow; the document's Do, over the loaded program: its contract. No condition but what each theorem names.
  SuJ: The document's Do, over the loaded program: its contract. No condition but what each theorem names.
  SuK: Names, over the loaded program: ref01.SameNames, the document's Names. No condition but what each theorem names.
  SuL: Names, over the loaded program: the document's Names: its contract. No condition but what each theorem names.
-/
import Derived.Test.YteddmnoeljakpaaGreatDoorSw42
import Derived.Test.YteddmnoeljakpaaGreatDoorSw14
import Derived.Test.YteddmnoeljakpaaGreatDoorSw21
import Derived.Test.YteddmnoeljakpaaGreatDoorSw12
import Derived.Test.YteddmnoeljakpaaGreatDoorSw30
set_option linter.unusedVariables false
set_option maxRecDepth 100000
namespace Go.Proofs.YteddmnoeljakpaaGreatDoor
section
open Go.RowKit
structure F3 where
  nm : ByteArray
  bx : Value
  g : Bool
def three (q : F3) : List Value := [.string q.nm, q.bx, .bool q.g]
def flatF (qs : List F3) : List Value := qs.flatMap three
theorem flatF_cons (q : F3) (qs : List F3) : flatF (q :: qs) = three q ++ flatF qs := rfl
theorem flatF_append (a b : List F3) : flatF (a ++ b) = flatF a ++ flatF b := List.flatMap_append
theorem flatF_len : ∀ qs : List F3, (flatF qs).length = qs.length * 3
  | [] => rfl
  | q :: qs => by rw [flatF_cons, List.length_append, flatF_len qs, List.length_cons]; show 3 + _ = _; omega
theorem flatF_at : ∀ (qs : List F3) (i : Nat) (q : F3), qs[i]? = some q → ∀ k, k < 3 → (flatF qs)[i * 3 + k]? = (three q)[k]?
  | [], i, q, h => by simp at h
  | p :: qs, 0, q, h => by
    intro k hk
    simp at h
    subst h
    rw [flatF_cons, Nat.zero_mul, Nat.zero_add, List.getElem?_append_left (show k < (three p).length from hk)]
  | p :: qs, i + 1, q, h => by
    intro k hk
    have := flatF_at qs i q (by simpa using h) k hk
    rw [flatF_cons, List.getElem?_append_right (by show 3 ≤ _; omega), show (three p).length = 3 from rfl, ← this]
    congr 1
    omega
def FT (w : World) (S : Nat → Prop) (qs : List F3) (l : List Fi) : Prop :=
  qs.length = l.length ∧ ∀ (i : Nat) (q : F3) (f : Fi), qs[i]? = some q → l[i]? = some f → q.nm = ⟨f.name.toArray⟩ ∧ f.name.length ≤ maxLen ∧ (∃ X z, q.bx = .slice X f.b.length z ∧ BS w S (.slice X f.b.length z) f.b) ∧ q.g = f.gone
section
variable {w w' : World} {S S' : Nat → Prop} {qs us : List F3} {l m : List Fi}
theorem FT.keepS (h : FT w S qs l) (hs : w.heap.size ≤ w'.heap.size) (hk : ∀ b, S b → b < w.heap.size → w'.heap[b]? = w.heap[b]?) (hS : ∀ b, S b → S' b) : FT w' S' qs l :=
  ⟨h.1, fun i q f hq hf => by
    obtain ⟨h1, h2, ⟨X, z, h3, h4⟩, h5⟩ := h.2 i q f hq hf
    exact ⟨h1, h2, ⟨X, z, h3, (h4.keep hs hk).mono hS⟩, h5⟩⟩
theorem FT.nil (w : World) (S : Nat → Prop) : FT w S [] [] := ⟨rfl, fun i q f h => by simp at h⟩
theorem FT.append (h : FT w S qs l) (g : FT w S us m) : FT w S (qs ++ us) (l ++ m) := by
  refine ⟨by rw [List.length_append, List.length_append, h.1, g.1], fun i q t hq ht => ?_⟩
  rcases Nat.lt_or_ge i qs.length with hi | hi
  · rw [List.getElem?_append_left hi] at hq
    rw [List.getElem?_append_left (by rw [← h.1]; exact hi)] at ht
    exact h.2 i q t hq ht
  · rw [List.getElem?_append_right hi] at hq
    rw [List.getElem?_append_right (by rw [← h.1]; exact hi), ← h.1] at ht
    exact g.2 _ q t hq ht
theorem FT.one {f : Fi} {X : Option Addr} {z : Nat} (hn : f.name.length ≤ maxLen) (h : BS w S (.slice X f.b.length z) f.b) : FT w S [⟨⟨f.name.toArray⟩, .slice X f.b.length z, f.gone⟩] [f] := by
  refine ⟨rfl, fun i q u hq hu => ?_⟩
  match i, hq, hu with
  | 0, hq, hu =>
    simp at hq hu
    subst hq hu
    exact ⟨rfl, hn, ⟨X, z, rfl, h⟩, rfl⟩
end
theorem FS_of_own {w : World} {S : Nat → Prop} {base : Nat} {v : Value} {qs : List F3} {l : List Fi} (h : w.ownsRow base 71 3 v qs.length (flatF qs)) (hq : FT w S qs l)
    (hS : ∀ b, base ≤ b → b < w.heap.size → S b) : FS w S v l := by
  obtain ⟨_, h2⟩ := h
  rw [hq.1] at h2
  rcases h2 with ⟨rfl, h0⟩ | ⟨g, cap, cur, rfl, hb, hg, hnc, hcm, hcs, htk⟩
  · obtain rfl : l = [] := List.eq_nil_of_length_eq_zero h0
    exact FS.nil _ _
  · have hlt : g < w.heap.size := (Array.getElem?_eq_some_iff.1 hg).1
    refine ⟨_, cap, rfl, hnc, hcm, fun h0 => ⟨g, 0, rfl, hS g hb hlt, hlt, fun i f hi => ?_⟩⟩
    have hil := (List.getElem?_eq_some_iff.1 hi).1
    have hqi : qs[i]? = some (qs[i]'(by rw [hq.1]; exact hil)) := List.getElem?_eq_getElem _
    obtain ⟨h1, hn, ⟨X, z, h3, h4⟩, h5⟩ := hq.2 i _ f hqi hi
    have cell : ∀ k u, k < 3 → (three (qs[i]'(by rw [hq.1]; exact hil)))[k]? = some u → w.cell? ⟨g, 0 + i * 3 + k, none⟩ = some u := fun k u hk hu => by
      rw [← flatF_at qs i _ hqi k hk] at hu
      rw [cell_of_row w g (0 + i * 3 + k) cur _ (0, 0) hg, Nat.zero_add]
      rw [← htk, List.getElem?_take, if_pos (by omega)] at hu
      simpa using hu
    refine ⟨?_, hn, ⟨X, z, ?_, h4⟩, ?_⟩
    · have := cell 0 _ (by omega) rfl
      rw [h1] at this
      exact this
    · have := cell 1 _ (by omega) rfl
      rw [h3] at this
      exact this
    · have := cell 2 _ (by omega) rfl
      rw [h5] at this
      exact this
theorem info_file : (Tryz.prog.info? 71).map (fun i => (i.zero, i.size, i.bytes)) = some (some (.agg #[.string ⟨#[]⟩, .slice none 0 0, .bool false]), 3, 48) := by kernel_rfl
theorem run_growF (w : World) (base : Nat) (v : Value) (qs : List F3) (hown : w.ownsRow base 71 3 v qs.length (flatF qs)) (ad : Addr) (c : Nat) (us : List F3) (hx : ∀ j u, (flatF us)[j]? = some u → w.cell? (ad.add j) = some u) (h1 : ∀ u ∈ flatF us, u.oneCell' = true)
    (hb : qs.length + us.length ≤ 1000000000) (hbase : base ≤ w.heap.size) (ty : TypeId) :
    ∃ v' w', (Builtin.append_ #[38, 38] ty #[v, .slice (some ad) us.length c]).run Tryz.prog w = .ok v' w' ∧ w'.ownsRow base 71 3 v' (qs ++ us).length (flatF (qs ++ us)) ∧ w.grownBy w' v.ownBlock ∧
      (v'.ownBlock = v.ownBlock ∨ v'.ownBlock = some w.heap.size) := by
  obtain ⟨i0, hi, hz0, hz1, hz2⟩ := info_parts info_file
  obtain ⟨v', w', a1, a2, a3, _, a5⟩ := run_append_own_at (P := Tryz.prog) (w := w) base 38 ty 71 i0 _ 3 48 Tryz.underlying38 hi hz0 hz1 hz2 rfl (by omega) v qs.length _ hown ad us.length c (flatF us) (flatF_len us) hx h1
    (by unfold maxLen; omega) (by omega) hbase
  exact ⟨v', w', a1, by rw [List.length_append, flatF_append]; exact a2, a3, a5⟩
theorem wpList_growF (w : World) {ops : Array Oper} {rest : List Oper} {o : Oper} {a : Act} {Q : Exit → Act → World → Prop} (hgd : o.guard = none) (s x : Operand)
    (ho : o.op = .call { callee := .builtin .append, args := #[s, x], argTypes := #[38, 38] })
    (base : Nat) (v : Value) (qs : List F3) (hs : a.eval s = v) (hown : w.ownsRow base 71 3 v qs.length (flatF qs))
    (ad : Addr) (c n : Nat) (us : List F3) (hxe : a.eval x = .slice (some ad) n c) (hn : n = us.length) (hx : ∀ j u, (flatF us)[j]? = some u → w.cell? (ad.add j) = some u)
    (h1 : ∀ u ∈ flatF us, u.oneCell' = true) (hb : qs.length + us.length ≤ 1000000000) (hbase : base ≤ w.heap.size)
    (h : ∀ v' w', w'.ownsRow base 71 3 v' (qs ++ us).length (flatF (qs ++ us)) → w.grownBy w' v.ownBlock → (v'.ownBlock = v.ownBlock ∨ v'.ownBlock = some w.heap.size) → wpList Tryz.prog ops Q rest (a.put o.dst v') w') :
    wpList Tryz.prog ops Q (o :: rest) a w := by
  subst hn
  refine wpList_plain hgd fun K hK => ?_
  obtain ⟨v', w', hrun, h2, h3, h4⟩ := run_growF w base v qs hown ad c us hx h1 hb hbase o.type
  unfold Oper.wp execOp
  simp only [ho, resolve, invoke, builtin, Sem.run_bind, Sem.run_pure, Result.andThen_ok, List.map_toArray, List.map_cons, List.map_nil, hs, hxe, hrun]
  exact hK _ _ (h v' w' h2 h3 h4)
theorem wp_growF {w : World} {o : Oper} {a : Act} {K : Act → World → Prop} {Q : Exit → Act → World → Prop} (s x : Operand)
    (ho : o.op = .call { callee := .builtin .append, args := #[s, x], argTypes := #[38, 38] })
    (base : Nat) (v : Value) (qs : List F3) (hs : a.eval s = v) (hown : w.ownsRow base 71 3 v qs.length (flatF qs))
    (ad : Addr) (c n : Nat) (us : List F3) (hxe : a.eval x = .slice (some ad) n c) (hn : n = us.length) (hx : ∀ j u, (flatF us)[j]? = some u → w.cell? (ad.add j) = some u)
    (h1 : ∀ u ∈ flatF us, u.oneCell' = true) (hb : qs.length + us.length ≤ 1000000000) (hbase : base ≤ w.heap.size)
    (h : ∀ v' w', w'.ownsRow base 71 3 v' (qs ++ us).length (flatF (qs ++ us)) → w.grownBy w' v.ownBlock → (v'.ownBlock = v.ownBlock ∨ v'.ownBlock = some w.heap.size) → K (a.put o.dst v') w') :
    Oper.wp Tryz.prog o a w K Q := by
  subst hn
  obtain ⟨v', w', hrun, h2, h3, h4⟩ := run_growF w base v qs hown ad c us hx h1 hb hbase o.type
  unfold Oper.wp execOp
  simp only [ho, resolve, invoke, builtin, Sem.run_bind, Sem.run_pure, Result.andThen_ok, List.map_toArray, List.map_cons, List.map_nil, hs, hxe, hrun]
  exact h _ _ h2 h3 h4
theorem onef_at (w : World) (t : TypeId) (n : ByteArray) (x : Value) (g : Bool) : ∀ j u, (flatF [⟨n, x, g⟩])[j]? = some u → (w.alloc (.cells #[.string n, x, .bool g] t)).cell? ((⟨w.heap.size, 0, none⟩ : Addr).add j) = some u := by
  intro j u h
  rw [Addr.add_lit, Nat.zero_add, (KB.new w t #[.string n, x, .bool g]).cell]
  simpa [flatF, three] using h
def MineF (S : Nat → Prop) (B : Nat) (v : Value) (w : World) (x : Nat) : Prop := (S x ∧ x < B) ∨ Mine B v w x
section
variable {S : Nat → Prop} {B : Nat} {v v' : Value} {w w' : World} {qs : List F3} {l : List Fi}
theorem FT.mine (h : FT w (MineF S B v w) qs l) (hb : Below w.heap.size w w') : FT w' (MineF S B v w') qs l :=
  h.keepS hb.size (fun b _ hlt => hb.block b hlt) fun b hb' => hb'.imp id fun hb' => ⟨hb'.1, Nat.lt_of_lt_of_le hb'.2.1 hb.size, hb'.2.2⟩
theorem FT.minegrow (h : FT w (MineF S B v w) qs l) (hn : ∀ g, v.ownBlock = some g → B ≤ g) (hg : w.grownBy w' v.ownBlock) (ho : v'.ownBlock = v.ownBlock ∨ v'.ownBlock = some w.heap.size) : FT w' (MineF S B v' w') qs l :=
  h.keepS hg.size (fun b sb hlt => hg.block b hlt fun e => by
    rcases sb with sb | sb
    · have := hn b e.symm; have := sb.2; omega
    · exact sb.2.2 e.symm) fun b sb => sb.imp id fun sb => ⟨sb.1, Nat.lt_of_lt_of_le sb.2.1 hg.size, by
    rcases ho with ho | ho
    · rw [ho]; exact sb.2.2
    · rw [ho]; intro e; injection e with e; have := sb.2.1; omega⟩
end
theorem filt_succ {l : List Fi} {P : Fi → Bool} {k : Nat} {f : Fi} (h : l[k]? = some f) : (l.take (k + 1)).filter P = (l.take k).filter P ++ if P f = true then [f] else [] := by
  obtain ⟨hk, e⟩ := List.getElem?_eq_some_iff.1 h
  rw [List.take_succ_eq_append_getElem hk, e, List.filter_append]
  by_cases hp : P f = true
  · simp [hp]
  · simp [hp]
end
section
open Go.RowKit
set_option maxHeartbeats 8000000 in
theorem rdo_any (S T : Nat → Prop) (v u : Value) (l d : List Fi) (w : World) (h : FS w S v l) (g : FS w T u d) (hl : l.length ≤ 100000) (hd : d.length ≤ 100000) (hdb : ∀ f ∈ d, f.b.length ≤ 1000000) :
  Calls Tryz.prog 19 #[v, u] w fun e w' => ∃ v', e = .returned v' ∧ FS w' (fun b => (S b ∧ b < w.heap.size) ∨ (w.heap.size ≤ b ∧ b < w'.heap.size)) v' (doL l d) ∧ Below w.heap.size w w' := by
 obtain ⟨A, cp, rfl, hlc, hcm⟩ := h.form
 obtain ⟨B, cq, rfl, hdc, hdm⟩ := g.form
 have hd63 : d.length ≤ 9223372036854775807 := by omega
 have hl63 : l.length ≤ 9223372036854775807 := by omega
 have HF := Lib.hid (fun W (b : Below w.heap.size w W) n => rfind_any T _ d n W (g.below' b) (by omega))
 have HL := Lib.hid hl
 have HD := Lib.hid hd
 have HDB := Lib.hid hdb
 have HE : Hid ((l.filter fun f => decide (findI d f.name < 0)) ++ (d.filter fun f => !f.gone) = doL l d) := rfl
 clear hl hd hdb
 go_enter Tryz.func19, Tryz.ntmps19
 go_wp2
 go_loopw [5, 6] (fun v iv wr => ∃ (k : Nat) (qs : List F3), k ≤ l.length ∧ iv = .int .i64 (k : Int) ∧ wr.ownsRow w.heap.size 71 3 v qs.length (flatF qs) ∧ FT wr (MineF S w.heap.size v wr) qs ((l.take k).filter fun f => decide (findI d f.name < 0)) ∧ Below w.heap.size w wr) (fun _ iv _ => l.length - (intOf iv).toNat)
 case atStart => exact ⟨0, [], by omega, rfl, World.ownsRow_nil _ _ _ _, FT.nil _ _, Below.refl _ _⟩
 case round =>
  obtain ⟨k, qs, hk, rfl, how, pt, bl⟩ := hrel
  by_cases hlt : k < l.length
  ·have hltI : (k : Int) < (l.length : Int) := by omega
   obtain ⟨b, o, rfl, sb, hbl, hx⟩ := h.at_ (by omega)
   obtain ⟨f, hf⟩ : ∃ f, l[k]? = some f := ⟨_, List.getElem?_eq_getElem hlt⟩
   obtain ⟨j0, hnm, ⟨X, z, j1, hbs⟩, j2⟩ := hx k f hf
   have hkb := bl.block b hbl
   have q0 := (World.cell?_of_block (w := w) hkb).trans j0
   have q1 := (World.cell?_of_block (w := w) hkb).trans j1
   have q2 := (World.cell?_of_block (w := w) hkb).trans j2
   have hfi := HF.out wr bl f.name
   have HS := Lib.hid (filt_succ (P := fun f => decide (findI d f.name < 0)) hf)
   have ql := pt.1
   have hql : qs.length ≤ 100000 := by
    rw [ql]
    have := List.length_filter_le (fun f : Fi => decide (findI d f.name < 0)) (l.take k)
    rw [List.length_take] at this
    have := HL.out
    omega
   have HQL : Hid (qs.length + 1 ≤ 1000000000) := by show _ ≤ _; omega
   have hbs1 := (hbs.lt.below' bl).mono (S' := MineF S w.heap.size u5 wr) fun x hx => .inl hx
   have HO := Lib.hid (FT.one hnm hbs1)
   by_cases hfx : findI d f.name < 0
   ·have D : decide (findI d f.name < 0) = true := decide_eq_true hfx
    have HS2 : Hid ((l.take (k + 1)).filter (fun f => decide (findI d f.name < 0)) = (l.take k).filter (fun f => decide (findI d f.name < 0)) ++ [f]) := by
     show _ = _
     rw [HS.out, if_pos D]
    have pt1 := pt.append HO.out
    rw [← HS2.out] at pt1
    unfold strV at *
    obtain ⟨fn, hfn⟩ : ∃ b : ByteArray, b = ⟨f.name.toArray⟩ := ⟨_, rfl⟩
    rw [← hfn] at q0 hfi pt1
    have B6 := (Below.refl wr.heap.size wr).alloc (Nat.le_refl _) (.cells #[.string fn, .slice X f.b.length z, .bool f.gone] 71)
    have how6 := own_past B6 how
    have pt6 := pt1.mine B6
    have hat := onef_at wr 71 fn (.slice X f.b.length z) f.gone
    have BL6 := bl.trans (B6.mono bl.size)
    generalize findI d f.name = fx at *
    clear hx hf hkb hbs hbs1 HO HS HS2 pt pt1 how ql hql hfn j0 j1 j2 hfx
    generalize f.b.length = fb at *
    generalize f.gone = fg at *
    go_wp2_with (first | (go_at_call 37; refine hfi.mono ?_; rintro e w' ⟨rfl, rfl⟩) | (at_builtin; go_loud (refine wpList_growF _ rfl _ _ rfl w.heap.size u5 qs rfl how6 ⟨wr.heap.size, 0, none⟩ 1 1 [⟨fn, .slice X fb z, fg⟩] rfl rfl hat (by intro u hu; simp [flatF, three] at hu; rcases hu with rfl | rfl | rfl <;> rfl) HQL.out BL6.size ?_); intro v7 w7 how7 g7 ho7))
    go_roundw
    case rel => exact ⟨k + 1, _, by omega, by go_num, how7, pt6.minegrow (fun g e => own_ge how6 g e) g7 ho7, BL6.grown g7 BL6.size fun g e => own_ge how6 g e⟩
    case measure => simp [intOf]; omega
   ·have D : decide (findI d f.name < 0) = false := decide_eq_false hfx
    have HS2 : Hid ((l.take (k + 1)).filter (fun f => decide (findI d f.name < 0)) = (l.take k).filter (fun f => decide (findI d f.name < 0))) := by
     show _ = _
     rw [HS.out, if_neg (by rw [D]; simp), List.append_nil]
    unfold strV at *
    generalize (⟨f.name.toArray⟩ : ByteArray) = fn at *
    generalize findI d f.name = fx at *
    clear hx hf hkb hbs hbs1 HO HS ql hql j0 j1 j2 hfx
    go_wp2_with (go_at_call 37; refine hfi.mono ?_; rintro e w' ⟨rfl, rfl⟩)
    go_roundw
    case rel => exact ⟨k + 1, qs, by omega, by go_num, how, by rw [HS2.out]; exact pt, bl⟩
    case measure => simp [intOf]; omega
  ·obtain rfl : k = l.length := by omega
   rw [List.take_length] at pt
   obtain ⟨L0, hL0⟩ : ∃ x, x = l.filter fun f => decide (findI d f.name < 0) := ⟨_, rfl⟩
   rw [← hL0] at pt HE
   have HL0 : Hid (L0.length ≤ 100000) := by
    show _ ≤ _
    rw [hL0]
    have := List.length_filter_le (fun f : Fi => decide (findI d f.name < 0)) l
    have := HL.out
    omega
   clear hL0
   go_wp2
   have HBL := Lib.hid bl
   go_loopw [5, 7] (fun v iv wr => ∃ (k : Nat) (qs : List F3), k ≤ d.length ∧ iv = .int .i64 (k : Int) ∧ wr.ownsRow w.heap.size 71 3 v qs.length (flatF qs) ∧ FT wr (MineF S w.heap.size v wr) qs (L0 ++ (d.take k).filter fun f => !f.gone) ∧ Below w.heap.size w wr) (fun _ iv _ => d.length - (intOf iv).toNat)
   case atStart => exact ⟨0, qs, by omega, rfl, how, by rw [List.take_zero]; simpa using pt, bl⟩
   case round =>
    clear how pt bl
    obtain ⟨k, qs, hk, rfl, how, pt, bl⟩ := hrel
    by_cases hlt : k < d.length
    ·have hltI : (k : Int) < (d.length : Int) := by omega
     obtain ⟨b, o, rfl, sb, hbl, hx⟩ := g.at_ (by omega)
     obtain ⟨f, hf⟩ : ∃ f, d[k]? = some f := ⟨_, List.getElem?_eq_getElem hlt⟩
     obtain ⟨j0, hnm, ⟨X, z, j1, hbs⟩, j2⟩ := hx k f hf
     have HC : Hid (∀ W, Below w.heap.size w W → W.cell? ⟨b, o + k * 3, none⟩ = some (.string ⟨f.name.toArray⟩) ∧ W.cell? ⟨b, o + k * 3 + 1, none⟩ = some (.slice X f.b.length z)) :=
      fun W bW => ⟨(World.cell?_of_block (w := w) (bW.block b hbl)).trans j0, (World.cell?_of_block (w := w) (bW.block b hbl)).trans j1⟩
     have q2 := (World.cell?_of_block (w := w) (bl.block b hbl)).trans j2
     have HS := Lib.hid (filt_succ (P := fun f => !f.gone) hf)
     have HFB := Lib.hid (HDB.out f (List.mem_of_getElem? hf))
     have ql := pt.1
     have hql : qs.length ≤ 200000 := by
      rw [ql, List.length_append]
      have := List.length_filter_le (fun f : Fi => !f.gone) (d.take k)
      rw [List.length_take] at this
      have := HL0.out
      have := HD.out
      omega
     have HQL : Hid (qs.length + 1 ≤ 1000000000) := by show _ ≤ _; omega
     cases hg : f.gone with
     | true =>
      have HS2 : Hid ((d.take (k + 1)).filter (fun f => !f.gone) = (d.take k).filter fun f => !f.gone) := by
       show _ = _
       rw [HS.out, if_neg (by rw [hg]; simp), List.append_nil]
      rw [hg] at q2
      clear hx hf hbs HS ql hql j0 j1 j2 hg
      go_wp2
      go_roundw
      case rel => exact ⟨k + 1, qs, by omega, by go_num, how, by rw [HS2.out]; exact pt, bl⟩
      case measure => simp [intOf]; omega
     | false =>
      have HS2 : Hid ((d.take (k + 1)).filter (fun f => !f.gone) = ((d.take k).filter fun f => !f.gone) ++ [f]) := by
       show _ = _
       rw [HS.out, if_pos (by rw [hg]; rfl)]
      have BD : Below w.heap.size w wr.drew := Below_drawn bl 1
      have hcp := copy_any _ _ f.b wr.drew (hbs.below' BD) (by have := HFB.out; omega)
      have howD : wr.drew.ownsRow w.heap.size 71 3 u5 qs.length (flatF qs) := how
      have ptD : FT wr.drew (MineF S w.heap.size u5 wr.drew) qs (L0 ++ (d.take k).filter fun f => !f.gone) := pt
      rw [hg] at q2
      have HG := Lib.hid hg
      have HNM := Lib.hid hnm
      clear hx hf hbs HS ql hql j0 j1 j2 hg how pt
      obtain ⟨fn, hfn⟩ : ∃ b : ByteArray, b = ⟨f.name.toArray⟩ := ⟨_, rfl⟩
      rw [← hfn] at HC
      have HFN := Lib.hid hfn
      clear hfn
      go_wp2
      rename_i KK hKK
      have HKK := Lib.hid hKK
      clear hKK
      refine wp_region_held_drew (S := (fun W => W.cell? ⟨b, o + k * 3, none⟩ = some (.string fn) ∧ W.cell? ⟨b, o + k * 3 + 1, none⟩ = some (.slice X f.b.length z))) (by kernel_rfl) (HC.out _ BD) (fun hHeld => ?_)
      refine hyY (some 41) 0 rfl hHeld ?_; go_frame
      refine hyY (some 42) 1 rfl hHeld ?_; go_frame
      refine hyY (some 43) 2 rfl hHeld ?_; go_frame
      refine hyY (some 44) 3 rfl hHeld ?_; go_frame
      refine hyY (some 45) 4 rfl hHeld ?_; go_frame
      refine hyY (some 46) 5 rfl hHeld ?_; go_frame
      refine hyY (some 47) 6 rfl hHeld ?_; go_frame
      refine hyY (some 48) 7 rfl hHeld ?_; go_frame
      refine hyY (some 49) 8 rfl hHeld ?_; go_frame
      refine hyY (some 50) 9 rfl hHeld ?_; go_frame
      refine hyY (some 51) 10 rfl hHeld ?_; go_frame
      refine hyO (some 52) 11 rfl (fun K hK => ?_)
      go_simp
      go_at_call 54
      refine hcp.mono ?_
      rintro e w8 ⟨v8, rfl, o8, b8⟩
      have x8 := own_BS o8
      obtain ⟨A8, c8, rfl, _⟩ := x8.form
      have BL8 := BD.trans (b8.mono BD.size)
      have how8 := own_past b8 howD
      have pt8 := ptD.mine b8
      have hsD : w.heap.size ≤ wr.drew.heap.size := BD.size
      go_wp2_with fail
      refine hK.out _ _ ?_ (fun hH2 => ?_)
      ·first | exact HC.out _ BL10 | exact HC.out _ BL9 | exact HC.out _ BL8
      clear hHeld hK K; have hHeld := hH2; clear hH2; try go_frame
      refine hyY (some 53) 12 rfl hHeld ?_; go_frame
      refine hyO (some 54) 13 rfl (fun K hK => ?_)
      go_simp
      have B9 := (Below.refl w8.heap.size w8).alloc (Nat.le_refl _) (.cells #[.string fn, .slice A8 f.b.length c8, .bool false] 71)
      have BL9 := BL8.trans (B9.mono BL8.size)
      have how9 := own_past B9 how8
      have hx9 : BS (w8.alloc (.cells #[.string fn, .slice A8 f.b.length c8, .bool false] 71)) (MineF S w.heap.size u5 (w8.alloc (.cells #[.string fn, .slice A8 f.b.length c8, .bool false] 71))) (.slice A8 f.b.length c8) f.b := (x8.alloc _).mono fun y hy => .inr ⟨by have := hy.1; omega, by have := hy.2; simp; omega, fun e => by have := own_lt howD e; have := hy.1; omega⟩
      have pt9 := (pt8.mine B9).append (FT.one HNM.out hx9)
      rw [List.append_assoc, ← HS2.out, ← HFN.out, HG.out] at pt9
      have hat := onef_at w8 71 fn (.slice A8 f.b.length c8) false
      refine hK.out _ _ ?_ (fun hH2 => ?_)
      ·first | exact HC.out _ BL10 | exact HC.out _ BL9 | exact HC.out _ BL8
      clear hHeld hK K; have hHeld := hH2; clear hH2; try go_frame
      refine hyO (some 55) 14 rfl (fun K hK => ?_)
      refine wp_growF _ _ rfl w.heap.size u5 qs rfl how9 ⟨w8.heap.size, 0, none⟩ 1 1 [⟨fn, .slice A8 f.b.length c8, false⟩] rfl rfl hat (by intro u hu; simp [flatF, three] at hu; rcases hu with rfl | rfl | rfl <;> rfl) HQL.out BL9.size ?_
      intro v10 w10 how10 g10 ho10
      have BL10 := BL9.grown g10 BL9.size fun g e => own_ge how9 g e
      have pt10 := pt9.minegrow (fun g e => own_ge how9 g e) g10 ho10
      refine hK.out _ _ ?_ (fun hH2 => ?_)
      ·first | exact HC.out _ BL10 | exact HC.out _ BL9 | exact HC.out _ BL8
      clear hHeld hK K; have hHeld := hH2; clear hH2; try go_frame
      refine hyY (some 5) 15 rfl hHeld ?_; go_frame
      refine wpAnyH_done (by kernel_rfl) ?_ _
      have hKK := HKK.out
      go_wp2
      go_roundw
      case rel => exact ⟨k + 1, _, by omega, by go_num, how10, pt10, BL10⟩
      case measure => simp [intOf]; omega
    ·obtain rfl : k = d.length := by omega
     rw [List.take_length, HE.out] at pt
     have hfs := FS_of_own (S := fun b => (S b ∧ b < w.heap.size) ∨ (w.heap.size ≤ b ∧ b < wr.heap.size)) how (pt.keepS (Nat.le_refl _) (fun _ _ _ => rfl) fun b hb => hb.imp id fun hb => ⟨hb.1, hb.2.1⟩) fun b h1 h2 => .inr ⟨h1, h2⟩
     go_wp2
     go_ret
     exact ⟨_, rfl, hfs, bl⟩
end
section
open Go.RowKit
theorem cs_str {w : World} {S : Nat → Prop} {A : Option Addr} {n c : Nat} {ns : List (List UInt8)} (h : CS w S (.slice A n c) (ns.map strV)) {k : Nat} {x : List UInt8} (hk : ns[k]? = some x) :
    ∃ b o, A = some ⟨b, o, none⟩ ∧ S b ∧ b < w.heap.size ∧ w.cell? ⟨b, o + k, none⟩ = some (strV x) := by
  have hl := (List.getElem?_eq_some_iff.1 hk).1
  obtain ⟨b, o, e, sb, hb, hx⟩ := h.at_ (by rw [List.length_map]; omega)
  exact ⟨b, o, e, sb, hb, hx k (strV x) (by rw [List.getElem?_map, hk]; rfl)⟩
set_option maxHeartbeats 4000000 in
theorem rsamenames_any (S T : Nat → Prop) (v u : Value) (a b : List (List UInt8)) (w : World) (h : CS w S v (a.map strV)) (g : CS w T u (b.map strV)) (ha : a.length ≤ 100000) (hb : b.length ≤ 100000) :
    Calls Tryz.prog 28 #[v, u] w fun e w' => e = .returned (.bool (decide (a = b))) ∧ Below w.heap.size w w' := by
  obtain ⟨A, cp, rfl, hac, hacm⟩ := h.form
  obtain ⟨B, cq, rfl, hbc, hbcm⟩ := g.form
  rw [List.length_map] at h hac g hbc ⊢
  rw [List.length_map]
  obtain ⟨R, hR⟩ : ∃ R, R = decide (a = b) := ⟨_, rfl⟩
  rw [← hR]
  have HR := Lib.hid hR
  clear hR
  have ha63 : a.length ≤ 9223372036854775807 := by omega
  by_cases hl : a.length = b.length
  · have HLE := Lib.hid hl
    have D0 : ((a.length : Int) != (b.length : Int)) = false := by rw [hl]; simp
    have D1 : decide ((a.length : Int) = (b.length : Int)) = true := decide_eq_true (by omega)
    clear hl
    go_enter Tryz.func28, Tryz.ntmps28
    go_wp2
    go_loopw [5] (fun iv wr => ∃ k : Nat, k ≤ a.length ∧ iv = .int .i64 (k : Int) ∧ Hid (∀ j, j < k → a[j]? = b[j]?) ∧ Below w.heap.size w wr) (fun iv _ => a.length - (intOf iv).toNat)
    case atStart => exact ⟨0, by omega, rfl, fun j hj => absurd hj (Nat.not_lt_zero _), Below.refl _ _⟩
    case round =>
      obtain ⟨k, hk, rfl, HN, bl⟩ := hrel
      by_cases hlt : k < a.length
      · have hltI : (k : Int) < (a.length : Int) := by omega
        have hltB : (k : Int) < (b.length : Int) := by have := HLE.out; omega
        obtain ⟨x, hx⟩ : ∃ x, a[k]? = some x := ⟨_, List.getElem?_eq_getElem hlt⟩
        obtain ⟨y, hy⟩ : ∃ y, b[k]? = some y := ⟨_, List.getElem?_eq_getElem (by have := HLE.out; omega)⟩
        have BD : Below w.heap.size w wr.drew := Below_drawn bl 1
        obtain ⟨b1, o1, rfl, _, _, q1⟩ := cs_str (h.below' BD) hx
        obtain ⟨b2, o2, rfl, _, _, q2⟩ := cs_str (g.below' BD) hy
        have hse := str_eq x y
        have HX := Lib.hid hx
        have HY := Lib.hid hy
        have HBD := Lib.hid BD
        unfold strV at *
        clear hx hy BD bl
        have HSX : Hid (∃ b : ByteArray, b = ⟨x.toArray⟩) := ⟨_, rfl⟩
        by_cases hxy : x = y
        · rw [decide_eq_true hxy] at hse
          have HXY := Lib.hid hxy
          clear hxy HSX
          generalize (⟨x.toArray⟩ : ByteArray) = sx at *
          generalize (⟨y.toArray⟩ : ByteArray) = sy at *
          go_wp2
          rename_i KK hKK
          have HKK := Lib.hid hKK
          clear hKK
          refine wp_region_held_drew (S := (fun W => W.cell? ⟨b1, o1 + k, none⟩ = some (.string sx) ∧ W.cell? ⟨b2, o2 + k, none⟩ = some (.string sy))) (by kernel_rfl) ⟨q1, q2⟩ (fun hHeld => ?_)
          refine hyY (some 17) 0 rfl hHeld ?_; go_frame
          refine hyY (some 18) 1 rfl hHeld ?_; go_frame
          refine hyY (some 19) 2 rfl hHeld ?_; go_frame
          refine hyY (some 20) 3 rfl hHeld ?_; go_frame
          refine hyY (some 21) 4 rfl hHeld ?_; go_frame
          refine hyY (some 22) 5 rfl hHeld ?_; go_frame
          refine hyY (some 23) 6 rfl hHeld ?_; go_frame
          refine hyY (some 24) 7 rfl hHeld ?_; go_frame
          refine hyY (some 25) 8 rfl hHeld ?_; go_frame
          refine wpAnyH_done (by kernel_rfl) ?_ _
          have hKK := HKK.out
          go_wp2
          go_roundw
          case rel => exact ⟨k + 1, by omega, by go_num, fun j hj => by
            by_cases hjk : j < k
            · exact HN.out j hjk
            · obtain rfl : j = k := by omega
              rw [HX.out, HY.out, HXY.out], HBD.out⟩
          case measure => simp [intOf]; omega
        · rw [decide_eq_false hxy] at hse
          have HBAD : Hid (R = false) := by
            show _ = _
            rw [HR.out]
            refine decide_eq_false fun e => hxy ?_
            have h1 := HX.out
            rw [e, HY.out] at h1
            exact (Option.some.inj h1).symm
          clear hxy HSX
          generalize (⟨x.toArray⟩ : ByteArray) = sx at *
          generalize (⟨y.toArray⟩ : ByteArray) = sy at *
          go_wp2
          rename_i KK hKK
          have HKK := Lib.hid hKK
          clear hKK
          refine wp_region_held_drew (S := (fun W => W.cell? ⟨b1, o1 + k, none⟩ = some (.string sx) ∧ W.cell? ⟨b2, o2 + k, none⟩ = some (.string sy))) (by kernel_rfl) ⟨q1, q2⟩ (fun hHeld => ?_)
          refine hyY (some 17) 0 rfl hHeld ?_; go_frame
          refine hyY (some 18) 1 rfl hHeld ?_; go_frame
          refine hyY (some 19) 2 rfl hHeld ?_; go_frame
          refine hyY (some 20) 3 rfl hHeld ?_; go_frame
          refine hyY (some 21) 4 rfl hHeld ?_; go_frame
          refine hyY (some 22) 5 rfl hHeld ?_; go_frame
          refine hyY (some 23) 6 rfl hHeld ?_; go_frame
          refine hyY (some 24) 7 rfl hHeld ?_; go_frame
          refine hyY (some 25) 8 rfl hHeld ?_; go_frame
          refine wpAnyH_done (by kernel_rfl) ?_ _
          have hKK := HKK.out
          go_wp2
          go_ret
          exact ⟨by rw [HBAD.out]; rfl, HBD.out⟩
      · obtain rfl : k = a.length := by omega
        have HY : Hid (R = true) := by
          show _ = _
          rw [HR.out]
          refine decide_eq_true (List.ext_getElem? fun j => ?_)
          by_cases hj : j < a.length
          · exact HN.out j hj
          · rw [List.getElem?_eq_none (by omega), List.getElem?_eq_none (by have := HLE.out; omega)]
        go_wp2
        go_ret
        exact ⟨by rw [HY.out]; rfl, bl⟩
  · have D0 : ((a.length : Int) != (b.length : Int)) = true := by simp; omega
    have D1 : decide ((a.length : Int) = (b.length : Int)) = false := decide_eq_false (by omega)
    have D2 : decide (a.length = b.length) = false := decide_eq_false hl
    have HBAD : Hid (R = false) := by
      show _ = _
      rw [HR.out]
      exact decide_eq_false fun e => hl (by rw [e])
    clear hl
    go_enter Tryz.func28, Tryz.ntmps28
    go_wp2
    go_ret
    exact ⟨by rw [HBAD.out]; rfl, Below.refl _ _⟩
end
section
open Go.RowKit Go.Sort
theorem info_str : (Tryz.prog.info? 9).map (fun i => (i.zero, i.size, i.bytes)) = some (some (.string ⟨#[]⟩), 1, 16) := by kernel_rfl
theorem run_growS (w : World) (base : Nat) (ty : TypeId) (v : Value) (xs : List (List UInt8)) (hown : w.ownsRow base 9 1 v xs.length (xs.map strV)) (ad : Addr) (c : Nat) (x : List UInt8) (hx : w.cell? ad = some (strV x))
    (hb : xs.length + 1 ≤ 1000000000) (hbase : base ≤ w.heap.size) :
    ∃ v' w', (Builtin.append_ #[61, 61] ty #[v, .slice (some ad) 1 c]).run Tryz.prog w = .ok v' w' ∧ w'.ownsRow base 9 1 v' (xs.length + 1) ((xs ++ [x]).map strV) ∧ w.grownBy w' v.ownBlock ∧
      (v'.ownBlock = v.ownBlock ∨ v'.ownBlock = some w.heap.size) := by
  obtain ⟨i0, hi, hz0, hz1, hz2⟩ := info_parts info_str
  obtain ⟨v', w', h1, h2, h3, _, h5⟩ := run_append_own_at (P := Tryz.prog) w base 61 ty 9 i0 _ 1 16 Tryz.underlying61 hi hz0 hz1 hz2 rfl (by omega) v xs.length _ hown ad 1 c [strV x] (by simp) (by
      intro j u hu
      match j, hu with
      | 0, hu =>
        simp at hu
        subst hu
        rw [add_zero']
        exact hx) (by intro u hu; simp at hu; subst hu; rfl)
    (by unfold maxLen; omega) (by omega) hbase
  exact ⟨v', w', h1, by simpa using h2, h3, h5⟩
theorem wpList_growS (w : World) {ops : Array Oper} {rest : List Oper} {o : Oper} {a : Act} {Q : Exit → Act → World → Prop} (hgd : o.guard = none) (s y : Operand)
    (ho : o.op = .call { callee := .builtin .append, args := #[s, y], argTypes := #[61, 61] })
    (base : Nat) (v : Value) (xs : List (List UInt8)) (hs : a.eval s = v) (hown : w.ownsRow base 9 1 v xs.length (xs.map strV))
    (ad : Addr) (c : Nat) (x : List UInt8) (hxe : a.eval y = .slice (some ad) 1 c) (hx : w.cell? ad = some (strV x)) (hb : xs.length + 1 ≤ 1000000000) (hbase : base ≤ w.heap.size)
    (h : ∀ v' w', w'.ownsRow base 9 1 v' (xs.length + 1) ((xs ++ [x]).map strV) → w.grownBy w' v.ownBlock → (v'.ownBlock = v.ownBlock ∨ v'.ownBlock = some w.heap.size) → wpList Tryz.prog ops Q rest (a.put o.dst v') w') :
    wpList Tryz.prog ops Q (o :: rest) a w := by
  refine wpList_plain hgd fun K hK => ?_
  obtain ⟨v', w', hrun, h2, h3, h4⟩ := run_growS w base o.type v xs hown ad c x hx hb hbase
  unfold Oper.wp execOp
  simp only [ho, resolve, invoke, builtin, Sem.run_bind, Sem.run_pure, Result.andThen_ok, List.map_toArray, List.map_cons, List.map_nil, hs, hxe, hrun]
  exact hK _ _ (h v' w' h2 h3 h4)
def OS (w : World) (B g c : Nat) (xs : List (List UInt8)) : Prop := ∃ cur : List Value, KB w g 9 cur.toArray ∧ cur.take xs.length = xs.map strV ∧ xs.length ≤ c ∧ c ≤ maxLen ∧ cur.length = c ∧ B ≤ g
section
variable {w w' : World} {B g c n : Nat} {xs : List (List UInt8)}
theorem OS.of {v : Value} (h : w.ownsRow B 9 1 v xs.length (xs.map strV)) (hl : 0 < xs.length) : ∃ g c, v = .slice (some ⟨g, 0, none⟩) xs.length c ∧ OS w B g c xs := by
  obtain ⟨_, h2⟩ := h
  rcases h2 with ⟨rfl, h0⟩ | ⟨g, cap, cur, rfl, hb, hg, hnc, hcm, hcs, htk⟩
  · omega
  · exact ⟨g, cap, rfl, cur.toList, hg, by simpa using htk, hnc, hcm, by simpa using hcs, hb⟩
theorem OS.own (h : OS w B g c xs) : w.ownsRow B 9 1 (.slice (some ⟨g, 0, none⟩) xs.length c) xs.length (xs.map strV) := by
  obtain ⟨cur, hk, ht, hc, hm, hl, hB⟩ := h
  exact ⟨by simp, .inr ⟨g, c, cur.toArray, rfl, hB, hk, hc, hm, by simpa using hl, by simpa using ht⟩⟩
theorem OS.cell (h : OS w B g c xs) {i : Nat} {x : List UInt8} (hi : xs[i]? = some x) : w.cell? ⟨g, i, none⟩ = some (strV x) := by
  obtain ⟨cur, hk, ht, _⟩ := h
  rw [hk.cell]
  have hj := (List.getElem?_eq_some_iff.1 hi).1
  have : (cur.take xs.length)[i]? = some (strV x) := by rw [ht, List.getElem?_map, hi]; rfl
  rw [List.getElem?_take, if_pos hj] at this
  simpa using this
theorem OS.free (h : OS w B g c xs) (i : Nat) : w.frozen? ⟨g, i, none⟩ = false := by
  obtain ⟨cur, hk, _⟩ := h
  exact hk.free i
theorem OS.put (h : OS w B g c xs) (i : Nat) (x : List UInt8) : OS (w.setCell ⟨g, i, none⟩ (strV x)) B g c (xs.set i x) := by
  obtain ⟨cur, hk, ht, hc, hm, hl, hB⟩ := h
  refine ⟨cur.set i (strV x), ?_, ?_, by simpa using hc, hm, by simpa using hl, hB⟩
  · have := hk.put i (strV x)
    simpa using this
  · rw [List.length_set, List.take_set, ht, List.map_set]
theorem OS.drewN (h : OS w B g c xs) (n : Nat) : OS (w.drewN n) B g c xs := h
theorem OS.ge (h : OS w B g c xs) : B ≤ g := h.choose_spec.2.2.2.2.2
end
theorem names_swap {P : List (List UInt8)} {x : List UInt8} {i : Nat} {p : List UInt8} (hp : P[i]? = some p) :
    ((P.take (i + 1) ++ x :: P.drop (i + 1)).set i x).set (i + 1) p = P.take i ++ x :: P.drop i ∧ (P.take (i + 1) ++ x :: P.drop (i + 1))[i]? = some p ∧ (P.take (i + 1) ++ x :: P.drop (i + 1))[i + 1]? = some x := by
  obtain ⟨hi, e⟩ := List.getElem?_eq_some_iff.1 hp
  have ht : P.take (i + 1) = P.take i ++ [p] := by rw [List.take_succ_eq_append_getElem hi, e]
  have hd : P.drop i = p :: P.drop (i + 1) := by rw [List.drop_eq_getElem_cons hi, e]
  have hl : (P.take i).length = i := by rw [List.length_take]; omega
  have e1 : P.take (i + 1) ++ x :: P.drop (i + 1) = P.take i ++ (p :: x :: P.drop (i + 1)) := by rw [ht, List.append_assoc]; rfl
  rw [e1]
  refine ⟨?_, ?_, ?_⟩
  · rw [List.set_append_right _ _ (by omega), hl, Nat.sub_self, List.set_append_right _ _ (by omega), hl, show i + 1 - i = 1 by omega, hd]
    rfl
  · rw [List.getElem?_append_right (by omega), hl, Nat.sub_self]
    rfl
  · rw [List.getElem?_append_right (by omega), hl, show i + 1 - i = 1 by omega]
    rfl
theorem names_in {P : List (List UInt8)} {x : List UInt8} {j : Nat} (hs : P.Pairwise (fun a b => leB a b = true)) (h1 : ∀ y ∈ P.drop j, ¬ y ≤ x) (h2 : ∀ p, 0 < j → P[j - 1]? = some p → p ≤ x) (hj : j ≤ P.length) :
    (P.take j ++ x :: P.drop j).Pairwise (fun a b => leB a b = true) := by
  have hle : ∀ y ∈ P.take j, y ≤ x := by
    intro y hy
    by_cases h0 : j = 0
    · subst h0; simp at hy
    · obtain ⟨q, hq⟩ : ∃ q, P[j - 1]? = some q := ⟨_, List.getElem?_eq_getElem (by omega)⟩
      have hq2 := h2 q (by omega) hq
      obtain ⟨k, hk⟩ := List.mem_iff_getElem?.1 hy
      rw [List.getElem?_take] at hk
      split at hk
      · rename_i hkj
        by_cases e : k = j - 1
        · subst e
          rw [hq] at hk
          obtain rfl := Option.some.inj hk
          exact hq2
        · obtain ⟨hk1, e1⟩ := List.getElem?_eq_some_iff.1 hk
          obtain ⟨hq1, e2⟩ := List.getElem?_eq_some_iff.1 hq
          have := List.pairwise_iff_getElem.1 hs k (j - 1) hk1 hq1 (by omega)
          rw [e1, e2] at this
          exact List.le_trans (of_decide_eq_true this) hq2
      · cases hk
  have hs2 := hs
  rw [← List.take_append_drop j P, List.pairwise_append] at hs2
  refine List.pairwise_append.2 ⟨hs2.1, List.pairwise_cons.2 ⟨fun y hy => ?_, hs2.2.1⟩, fun a ha b hb => ?_⟩
  · rcases List.le_total x y with h | h
    · exact decide_eq_true h
    · exact absurd h (h1 y hy)
  · rcases List.mem_cons.1 hb with rfl | hb
    · exact decide_eq_true (hle a ha)
    · exact hs2.2.2 a ha b hb
def namesL (l : List Fi) : List (List UInt8) := (l.map (·.name)).mergeSort leB
theorem namesL_of {l : List Fi} {P : List (List UInt8)} (hs : P.Pairwise (fun a b => leB a b = true)) (hp : P.Perm (l.map (·.name))) : P = namesL l := by
  have tr : ∀ a b c : List UInt8, leB a b = true → leB b c = true → leB a c = true := fun a b c h1 h2 => by simp only [leB, decide_eq_true_eq] at *; exact List.le_trans h1 h2
  have to : ∀ a b : List UInt8, (leB a b || leB b a) = true := fun a b => by simp only [leB, Bool.or_eq_true, decide_eq_true_eq]; exact List.le_total a b
  refine List.Perm.eq_of_pairwise (le := fun a b => leB a b = true) (fun a b _ _ h1 h2 => ?_) hs (List.pairwise_mergeSort tr to _) (hp.trans (List.mergeSort_perm _ leB).symm)
  simp only [leB, decide_eq_true_eq] at h1 h2
  exact List.le_antisymm h1 h2
theorem names_nodes (fl : List Fe) : namesN (nodesF fl) = namesL (filesF fl) := by
  unfold namesN namesL
  rw [nodes_names]
  congr 1
  unfold filesF
  rw [List.map_map]
  rfl
end
end Go.Proofs.YteddmnoeljakpaaGreatDoor
