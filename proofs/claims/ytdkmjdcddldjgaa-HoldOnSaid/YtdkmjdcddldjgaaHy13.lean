/-
  HdP: The document's Place (layer 22), over the loaded program: its contract. No condition but the size that it names.
  ScE: The document's Same (layer 20), over the loaded program: its contract. No condition.
  HdS: The document's Small and Same (layer 22), over the loaded program: their contracts. No condition.
-/
import Derived.Test.YtdkmjdcddldjgaaHy05
import Derived.Test.YtdkmjdcddldjgaaHy12
import Derived.Test.YtdkmjdcddldjgaaHy10
import Derived.Test.YtdkmjdcddldjgaaHy03
import Derived.Deep.RegionHeld3
import Derived.Test.YtdkmjdcddldjgaaHy04
set_option linter.unusedVariables false
set_option maxRecDepth 100000
namespace Go.Proofs.Ytdkmjdcddldjgaa
section
open Go.RowKit Go.ChangeShapes Go.WideShapes Go.Joins
theorem wp_growHL {w : World} {o : Oper} {a : Act} {K : Act → World → Prop} {Q : Exit → Act → World → Prop} (s x : Operand)
    (ho : o.op = .call { callee := .builtin .append, args := #[s, x], argTypes := #[22, 22] })
    (base : Nat) (v : Value) (qs : List SvH) (hs : a.eval s = v) (hown : w.ownsRow base 47 7 v qs.length (flatH qs))
    (S : Nat → Prop) (f : Nat) (xv : Value) (l : List (Hl f)) (hxe : a.eval x = xv) (hx : HS w S f xv l)
    (hb : qs.length + l.length ≤ 1000000000) (hbase : base ≤ w.heap.size)
    (h : ∀ (ps : List SvH) v' w', QH w S f ps l → w'.ownsRow base 47 7 v' (qs ++ ps).length (flatH (qs ++ ps)) → w.grownBy w' v.ownBlock → (v'.ownBlock = v.ownBlock ∨ v'.ownBlock = some w.heap.size) → K (a.put o.dst v') w') :
    Oper.wp Try.prog o a w K Q := by
  obtain ⟨ps, v', w', hq, hrun, h2, h3, h4⟩ := run_growHL w base v qs hown xv l hx hb hbase o.type
  unfold Oper.wp execOp
  simp only [ho, resolve, invoke, builtin, Sem.run_bind, Sem.run_pure, Result.andThen_ok, List.map_toArray, List.map_cons, List.map_nil, hs, hxe, hrun]
  exact h _ _ _ hq h2 h3 h4
theorem wp_growH1 {w : World} {o : Oper} {a : Act} {K : Act → World → Prop} {Q : Exit → Act → World → Prop} (s x : Operand)
    (ho : o.op = .call { callee := .builtin .append, args := #[s, x], argTypes := #[22, 22] })
    (base : Nat) (v : Value) (qs : List SvH) (hs : a.eval s = v) (hown : w.ownsRow base 47 7 v qs.length (flatH qs))
    (ad : Addr) (c : Nat) (p : SvH) (hxe : a.eval x = .slice (some ad) 1 c) (hx : ∀ j u, (sevH p)[j]? = some u → w.cell? (ad.add j) = some u) (h1 : ∀ u ∈ sevH p, u.oneCell' = true)
    (hb : qs.length ≤ 100000000) (hbase : base ≤ w.heap.size)
    (h : ∀ v' w', w'.ownsRow base 47 7 v' (qs ++ [p]).length (flatH (qs ++ [p])) → w.grownBy w' v.ownBlock → (v'.ownBlock = v.ownBlock ∨ v'.ownBlock = some w.heap.size) → K (a.put o.dst v') w') :
    Oper.wp Try.prog o a w K Q := by
  have e : flatH [p] = sevH p := by simp [flatH]
  obtain ⟨v', w', hrun, h2, h3, h4⟩ := run_growHs w base v qs hown ad c [p] (by rw [e]; exact hx) (fun q hq => by rw [List.mem_singleton] at hq; rw [hq]; exact h1) (by simp; omega) hbase o.type
  have hrun : (Builtin.append_ #[22, 22] o.type #[v, .slice (some ad) 1 c]).run Try.prog w = .ok v' w' := hrun
  unfold Oper.wp execOp
  simp only [ho, resolve, invoke, builtin, Sem.run_bind, Sem.run_pure, Result.andThen_ok, List.map_toArray, List.map_cons, List.map_nil, hs, hxe, hrun]
  exact h _ _ h2 h3 h4
theorem KB_sev {w : World} {g t : Nat} {c0 c1 c2 c3 c4 c5 c6 : Value} (k : KB w g t #[c0, c1, c2, c3, c4, c5, c6]) : ∀ j u, (sevH (c0, c1, c2, c3, c4, c5, c6))[j]? = some u → w.cell? ((⟨g, 0, none⟩ : Addr).add j) = some u := fun j u h => by
  rw [add_plain, Nat.zero_add]
  match j, h with
  | 0, h => simp [sevH] at h; subst h; exact k.cell 0
  | 1, h => simp [sevH] at h; subst h; exact k.cell 1
  | 2, h => simp [sevH] at h; subst h; exact k.cell 2
  | 3, h => simp [sevH] at h; subst h; exact k.cell 3
  | 4, h => simp [sevH] at h; subst h; exact k.cell 4
  | 5, h => simp [sevH] at h; subst h; exact k.cell 5
  | 6, h => simp [sevH] at h; subst h; exact k.cell 6
  | j + 7, h => simp [sevH] at h
theorem QH.grown {w w' : World} {n f : Nat} {qs : List SvH} {ks : List (Hl f)} {row : Option Nat} (h : QH w (fun b => b < n) f qs ks) (g : w.grownBy w' row) (hr : ∀ x, row = some x → n ≤ x) : QH w' (fun b => b < n) f qs ks :=
  h.keepL g.size (fun b sb hl => g.block b hl fun e => by have := hr b e.symm; omega) fun b sb _ => sb
theorem QH.alloc {w : World} {S : Nat → Prop} {f : Nat} {qs : List SvH} {ks : List (Hl f)} (h : QH w S f qs ks) (o : Obj) : QH (w.alloc o) S f qs ks := h.keepL (by simp) (fun b _ hb => Below.heap_alloc w o b hb) fun _ h _ => h
set_option maxHeartbeats 8000000 in
theorem xhplace_any (f : Nat) (l : List (Hl f)) (hl : l.length ≤ 1000) (id : List UInt8) (hid : id.length ≤ maxLen) (x : Sc f) (v vx : Value) (w : World) (hv : HS w (fun b => b < w.heap.size) f v l) (hx : ZV w (fun b => b < w.heap.size) f vx x) :
    Calls Try.prog 10 #[v, strV id, vx] w (HoldsErr w f (placeH f l id x)) := by
  obtain ⟨A, cap, rfl, hl3, hm3, _⟩ := hv.form
  obtain ⟨c0, c1, c2, c3, c4, rfl, hx5⟩ := hx
  obtain ⟨i0, l1, i2, i3, X4, n4, z4, rfl, rfl, rfl, rfl, rfl⟩ := hx5.form
  obtain ⟨s1, hs1⟩ : ∃ s : ByteArray, strV l1 = .string s := ⟨_, rfl⟩
  rw [hs1] at hx5 ⊢
  clear hs1
  obtain ⟨D, hD⟩ : ∃ D, D = HoldsErr w f (placeH f l id x) := ⟨_, rfl⟩
  rw [← hD]
  have HE : Hid (∀ (k : Int), placeH f l id x = ([], k) → ∀ W, Below w.heap.size w W → D (.returned (.tuple #[.slice none 0 0, .int .i64 k])) W) := fun k h W hb => by
    rw [hD, h]; exact ⟨_, rfl, HS.nil _ _ _, hb⟩
  have HOK : Hid (placeH f l id x = (l ++ [⟨id, x, true⟩], 0) → ∀ (W : World) (v : Value) (qs : List SvH), W.ownsRow (w.heap.size + 1) 47 7 v qs.length (flatH qs) → QH W (fun b => b < w.heap.size) f qs (l ++ [⟨id, x, true⟩]) → Below w.heap.size w W → D (.returned (.tuple #[v, .int .i64 0])) W) := fun h W v qs ho hq hb => by
    rw [hD, h]
    exact ⟨_, rfl, HS_of_own ho (hq.mono fun b h => Nat.lt_of_lt_of_le h hb.size) (fun b _ h => h), hb⟩
  have P1 : Hid (nameS id = false ∨ mayS f x = false → placeH f l id x = ([], 1)) := fun h => by unfold placeH; rw [if_pos h]
  have P2 : Hid (nameS id = true → mayS f x = true → placeH f l id x = if 0 ≤ findH l id then ([], 6) else if 12 ≤ l.length then ([], 4) else (l ++ [⟨id, x, true⟩], 0)) := fun h1 h2 => by unfold placeH; rw [if_neg (by rw [h1, h2]; decide)]
  clear hD
  generalize placeH f l id x = r at *
  have K0 := KB.new w 25 #[.int .i64 i0, .string s1, .int .i64 i2, .int .i64 i3, .slice X4 n4 z4]
  have B0 := (Below.refl w.heap.size w).alloc (Nat.le_refl _) (.cells #[.int .i64 i0, .string s1, .int .i64 i2, .int .i64 i3, .slice X4 n4 z4] 25)
  obtain ⟨s, hs⟩ : ∃ s : ByteArray, strV id = .string s := ⟨_, rfl⟩
  have HMAY := Lib.hid (zrmay_any _ f x _ _ ⟨_, _, _, _, _, rfl, hx5.below' B0⟩)
  have hnm := rname_any id hid (w.alloc (.cells #[.int .i64 i0, .string s1, .int .i64 i2, .int .i64 i3, .slice X4 n4 z4] 25))
  rw [hs] at hnm
  have HNM := Lib.hid hnm
  have hfi : ∀ W, Below w.heap.size w W → Calls Try.prog 28 #[.slice A l.length cap, .string s] W fun e w' => e = .returned (.int .i64 (findH l id)) ∧ w' = W := fun W hb => by
    rw [← hs]; exact xhfind_any _ f l id _ W (hv.below' hb)
  have HFI := Lib.hid hfi
  have hone : ∀ W, Below w.heap.size w W → HX W (fun b => b < w.heap.size) f (⟨id, x, true⟩ : Hl f) (.string s) (.int .i64 i0) (.string s1) (.int .i64 i2) (.int .i64 i3) (.slice X4 n4 z4) (.bool true) := fun W hb => ⟨hs.symm, hid, hx5.below' hb, rfl⟩
  have HONE := Lib.hid hone
  have HM := Lib.hid (fun W (hb : Below w.heap.size w W) => hv.below' hb)
  rw [hs]
  clear hx5 hv hid hl3 hnm hfi hone hs
  generalize nameS id = nm at *
  generalize mayS f x = my at *
  go_enter Try.func10, Try.ntmps10
  go_wp2_with fail
  refine HNM.out.mono ?_
  rintro e w1 ⟨rfl, rfl⟩
  clear HNM
  cases nm with
  | false =>
    have hfin := HE.out 1 (P1.out (.inl rfl)) _ B0
    clear HE HOK P1 P2 HFI HONE HM HMAY
    go_wp2_with fail
    exact hfin
  | true =>
  have q0 := K0.cell 0
  have q1 := K0.cell 1
  have q2 := K0.cell 2
  have q3 := K0.cell 3
  have q4 := K0.cell 4
  go_wp2_with fail
  refine HMAY.out.mono ?_
  rintro e w2 ⟨rfl, b2⟩
  have K2 := K0.below b2 K0.lt
  have B2 := B0.trans (b2.mono B0.size)
  clear HMAY b2 K0 B0 q0 q1 q2 q3 q4
  cases my with
  | false =>
    have hfin := HE.out 1 (P1.out (.inr rfl)) _ B2
    clear HE HOK P1 P2 HFI HONE HM
    go_wp2_with fail
    exact hfin
  | true =>
  have hp := P2.out (by first | rfl | trivial) (by first | rfl | trivial)
  have hfi := HFI.out w2 B2
  clear P1 P2 HFI
  go_wp2_with fail
  refine hfi.mono ?_
  rintro e w3 ⟨rfl, rfl⟩
  clear hfi
  generalize findH l id = at_ at *
  by_cases h1 : 0 ≤ at_
  · have d1 : decide (0 ≤ at_) = true := decide_eq_true h1
    rw [if_pos h1] at hp
    have hfin := HE.out 6 hp _ B2
    clear HE HOK HONE HM hp
    go_wp2_with fail
    exact hfin
  rw [if_neg h1] at hp
  have d1 : decide (0 ≤ at_) = false := decide_eq_false h1
  by_cases h2 : 12 ≤ l.length
  · have d2 : decide ((12 : Int) ≤ (l.length : Int)) = true := decide_eq_true (by omega)
    rw [if_pos h2] at hp
    have hfin := HE.out 4 hp _ B2
    clear HE HOK HONE HM hp
    go_wp2_with fail
    exact hfin
  rw [if_neg h2] at hp
  have d2 : decide ((12 : Int) ≤ (l.length : Int)) = false := decide_eq_false (by omega)
  have BL : Below (w.heap.size + 1) w3.drew w3.drew := Below.refl _ _
  have BW : Below w.heap.size w w3.drew := Below_drawn B2 1
  have KD : KB w3.drew w.heap.size 25 #[.int .i64 i0, .string s1, .int .i64 i2, .int .i64 i3, .slice X4 n4 z4] := K2
  have hsD : w.heap.size + 1 ≤ w3.drew.heap.size := K2.lt
  have HC : Hid (∀ W, Below (w.heap.size + 1) w3.drew W → W.cell? ⟨w.heap.size, 0, none⟩ = some (.int .i64 i0) ∧ W.cell? ⟨w.heap.size, 1, none⟩ = some (.string s1) ∧ W.cell? ⟨w.heap.size, 2, none⟩ = some (.int .i64 i2) ∧ W.cell? ⟨w.heap.size, 3, none⟩ = some (.int .i64 i3) ∧ W.cell? ⟨w.heap.size, 4, none⟩ = some (.slice X4 n4 z4)) := fun W hb => by
    have K' := KD.below hb (by omega)
    exact ⟨K'.cell 0, K'.cell 1, K'.cell 2, K'.cell 3, K'.cell 4⟩
  have HM2 : Hid (∀ W, Below (w.heap.size + 1) w3.drew W → HS W (fun b => b < w.heap.size) f (.slice A l.length cap) l) := fun W hb => HM.out W (BW.trans (hb.mono (by omega)))
  have HFIN : Hid (∀ (W : World) (v : Value) (ps : List SvH), W.ownsRow (w.heap.size + 1) 47 7 v (ps ++ [((.string s, .int .i64 i0, .string s1, .int .i64 i2, .int .i64 i3, .slice X4 n4 z4, .bool true) : SvH)]).length (flatH (ps ++ [((.string s, .int .i64 i0, .string s1, .int .i64 i2, .int .i64 i3, .slice X4 n4 z4, .bool true) : SvH)])) → QH W (fun b => b < w.heap.size) f ps l → Below (w.heap.size + 1) w3.drew W → D (.returned (.tuple #[v, .int .i64 0])) W) := fun W v ps ho hq hb => by
    have hb' := BW.trans (hb.mono (by omega))
    exact HOK.out hp W v _ ho (hq.append (QH.one (HONE.out W hb'))) hb'
  have H1 : Hid (∀ u ∈ sevH ((.string s, .int .i64 i0, .string s1, .int .i64 i2, .int .i64 i3, .slice X4 n4 z4, .bool true) : SvH), u.oneCell' = true) := (HONE.out _ BW).cells1
  clear HE HOK HONE HM hp KD K2 BW B2 h1 h2
  go_wp2_with fail
  rename_i KK hKK
  have HKK := Lib.hid hKK
  clear hKK
  refine wp_region_held_drew (S := (fun W => W.cell? ⟨w.heap.size, 0, none⟩ = some (.int .i64 i0) ∧ W.cell? ⟨w.heap.size, 1, none⟩ = some (.string s1) ∧ W.cell? ⟨w.heap.size, 2, none⟩ = some (.int .i64 i2) ∧ W.cell? ⟨w.heap.size, 3, none⟩ = some (.int .i64 i3) ∧ W.cell? ⟨w.heap.size, 4, none⟩ = some (.slice X4 n4 z4))) (by kernel_rfl) (HC.out _ BL) (fun hHeld => ?_)
  generalize w3.drew = wd at *
  refine hyY (some 24) 1 rfl hHeld ?_; go_frame
  refine hyY (some 26) 3 rfl hHeld ?_; go_frame
  refine hyY (some 27) 4 rfl hHeld ?_; go_frame
  refine hyY (some 28) 5 rfl hHeld ?_; go_frame
  refine held_two (o := ⟨some 23, _, _, _, _, _⟩) (p := ⟨some 29, _, _, _, _, _⟩) 0 6 (by kernel_rfl) rfl rfl (by rfl) (by rfl) (fun K hK => ?_) (fun K hK => ?_)
  · go_simp
    have OW := ownH_empty wd (w.heap.size + 1) hsD
    replace BL := BL.alloc hsD (.cells #[] 47)
    refine hK.out _ _ ?_ (fun hH2 => ?_)
    · exact HC.out _ BL
    clear hHeld hK K; have hHeld := hH2; clear hH2; try go_frame
    refine held_two (o := ⟨some 25, _, _, _, _, _⟩) (p := ⟨some 29, _, _, _, _, _⟩) 2 6 (by kernel_rfl) rfl rfl (by rfl) (by rfl) (fun K hK => ?_) (fun K hK => ?_)
    · refine wp_growHL _ _ rfl (w.heap.size + 1) _ [] rfl OW (fun b => b < w.heap.size) f _ l rfl (HM2.out _ BL) (by simp; omega) (Nat.le_trans hsD BL.size) ?_
      intro ps v2 w2 Q2 O2 g2 ho2
      rw [List.nil_append] at O2
      replace BL := BL.grown g2 (Nat.le_trans hsD BL.size) fun g hg => own_ge OW g hg
      replace Q2 := Q2.grown g2 fun g hg => Nat.le_of_succ_le (own_ge OW g hg)
      replace OW := O2
      refine hK.out _ _ ?_ (fun hH2 => ?_)
      · exact HC.out _ BL
      clear hHeld hK K; have hHeld := hH2; clear hH2; try go_frame
      refine hyO (some 29) 6 rfl (fun K hK => ?_)
      go_simp
      have K1 := KB.new w2 47 #[.string s, .int .i64 i0, .string s1, .int .i64 i2, .int .i64 i3, .slice X4 n4 z4, .bool true]
      replace OW := own_past ((Below.refl _ _).alloc (Nat.le_refl _) (.cells #[.string s, .int .i64 i0, .string s1, .int .i64 i2, .int .i64 i3, .slice X4 n4 z4, .bool true] 47)) OW
      replace Q2 := Q2.alloc (.cells #[.string s, .int .i64 i0, .string s1, .int .i64 i2, .int .i64 i3, .slice X4 n4 z4, .bool true] 47)
      replace BL := BL.alloc (Nat.le_trans hsD BL.size) (.cells #[.string s, .int .i64 i0, .string s1, .int .i64 i2, .int .i64 i3, .slice X4 n4 z4, .bool true] 47)
      refine hK.out _ _ ?_ (fun hH2 => ?_)
      · exact HC.out _ BL
      clear hHeld hK K; have hHeld := hH2; clear hH2; try go_frame
      refine hyO (some 30) 7 rfl (fun K hK => ?_)
      refine wp_growH1 _ _ rfl (w.heap.size + 1) _ ps rfl OW _ _ (.string s, .int .i64 i0, .string s1, .int .i64 i2, .int .i64 i3, .slice X4 n4 z4, .bool true) rfl (KB_sev K1) H1.out (by have := Q2.1; omega) (Nat.le_trans hsD BL.size) ?_
      intro v5 w5 O5 g5 ho5
      replace BL := BL.grown g5 (Nat.le_trans hsD BL.size) fun g hg => own_ge OW g hg
      replace Q2 := Q2.grown g5 fun g hg => Nat.le_of_succ_le (own_ge OW g hg)
      refine hK.out _ _ ?_ (fun hH2 => ?_)
      · exact HC.out _ BL
      clear hHeld hK K; have hHeld := hH2; clear hH2; try go_frame
      refine hyY (some 6) 8 rfl hHeld ?_; go_frame
      refine hyY (some 7) 9 rfl hHeld ?_; go_frame
      refine wpAnyH_done (by kernel_rfl) ?_ _
      have hfin := HFIN.out w5 v5 ps O5 Q2 BL
      have hKK := HKK.out
      clear HFIN HM2 HC H1 OW O5 K1 Q2 BL g5 ho5 hHeld
      go_wp2_with fail
      exact hfin
    · go_simp
      have K1 := KB.new (wd.alloc (.cells #[] 47)) 47 #[.string s, .int .i64 i0, .string s1, .int .i64 i2, .int .i64 i3, .slice X4 n4 z4, .bool true]
      rw [World.size_alloc] at K1
      replace OW := own_past ((Below.refl _ _).alloc (Nat.le_refl _) (.cells #[.string s, .int .i64 i0, .string s1, .int .i64 i2, .int .i64 i3, .slice X4 n4 z4, .bool true] 47)) OW
      replace BL := BL.alloc (Nat.le_trans hsD BL.size) (.cells #[.string s, .int .i64 i0, .string s1, .int .i64 i2, .int .i64 i3, .slice X4 n4 z4, .bool true] 47)
      refine hK.out _ _ ?_ (fun hH2 => ?_)
      · exact HC.out _ BL
      clear hHeld hK K; have hHeld := hH2; clear hH2; try go_frame
      refine hyO (some 25) 2 rfl (fun K hK => ?_)
      refine wp_growHL _ _ rfl (w.heap.size + 1) _ [] rfl OW (fun b => b < w.heap.size) f _ l rfl (HM2.out _ BL) (by simp; omega) (Nat.le_trans hsD BL.size) ?_
      intro ps v2 w2 Q2 O2 g2 ho2
      rw [List.nil_append] at O2
      replace BL := BL.grown g2 (Nat.le_trans hsD BL.size) fun g hg => own_ge OW g hg
      replace Q2 := Q2.grown g2 fun g hg => Nat.le_of_succ_le (own_ge OW g hg)
      replace K1 := K1.grown g2 (by intro e; injection e with e; simp at e)
      replace OW := O2
      refine hK.out _ _ ?_ (fun hH2 => ?_)
      · exact HC.out _ BL
      clear hHeld hK K; have hHeld := hH2; clear hH2; try go_frame
      refine hyO (some 30) 7 rfl (fun K hK => ?_)
      refine wp_growH1 _ _ rfl (w.heap.size + 1) _ ps rfl OW _ _ (.string s, .int .i64 i0, .string s1, .int .i64 i2, .int .i64 i3, .slice X4 n4 z4, .bool true) rfl (KB_sev K1) H1.out (by have := Q2.1; omega) (Nat.le_trans hsD BL.size) ?_
      intro v5 w5 O5 g5 ho5
      replace BL := BL.grown g5 (Nat.le_trans hsD BL.size) fun g hg => own_ge OW g hg
      replace Q2 := Q2.grown g5 fun g hg => Nat.le_of_succ_le (own_ge OW g hg)
      refine hK.out _ _ ?_ (fun hH2 => ?_)
      · exact HC.out _ BL
      clear hHeld hK K; have hHeld := hH2; clear hH2; try go_frame
      refine hyY (some 6) 8 rfl hHeld ?_; go_frame
      refine hyY (some 7) 9 rfl hHeld ?_; go_frame
      refine wpAnyH_done (by kernel_rfl) ?_ _
      have hfin := HFIN.out w5 v5 ps O5 Q2 BL
      have hKK := HKK.out
      clear HFIN HM2 HC H1 OW O5 K1 Q2 BL g5 ho5 hHeld
      go_wp2_with fail
      exact hfin
  · go_simp
    have K0 := KB.new wd 47 #[.string s, .int .i64 i0, .string s1, .int .i64 i2, .int .i64 i3, .slice X4 n4 z4, .bool true]
    replace BL := BL.alloc hsD (.cells #[.string s, .int .i64 i0, .string s1, .int .i64 i2, .int .i64 i3, .slice X4 n4 z4, .bool true] 47)
    refine hK.out _ _ ?_ (fun hH2 => ?_)
    · exact HC.out _ BL
    clear hHeld hK K; have hHeld := hH2; clear hH2; try go_frame
    refine hyO (some 23) 0 rfl (fun K hK => ?_)
    go_simp
    have OW := ownH_empty (wd.alloc (.cells #[.string s, .int .i64 i0, .string s1, .int .i64 i2, .int .i64 i3, .slice X4 n4 z4, .bool true] 47)) (w.heap.size + 1) (by simp; omega)
    rw [World.size_alloc] at OW
    replace BL := BL.alloc (Nat.le_trans hsD BL.size) (.cells #[] 47)
    have K1 := K0.alloc (.cells #[] 47)
    refine hK.out _ _ ?_ (fun hH2 => ?_)
    · exact HC.out _ BL
    clear hHeld hK K; have hHeld := hH2; clear hH2; try go_frame
    refine hyO (some 25) 2 rfl (fun K hK => ?_)
    refine wp_growHL _ _ rfl (w.heap.size + 1) _ [] rfl OW (fun b => b < w.heap.size) f _ l rfl (HM2.out _ BL) (by simp; omega) (Nat.le_trans hsD BL.size) ?_
    intro ps v2 w2 Q2 O2 g2 ho2
    rw [List.nil_append] at O2
    replace BL := BL.grown g2 (Nat.le_trans hsD BL.size) fun g hg => own_ge OW g hg
    replace Q2 := Q2.grown g2 fun g hg => Nat.le_of_succ_le (own_ge OW g hg)
    replace K1 := K1.grown g2 (by intro e; injection e with e; simp at e)
    replace OW := O2
    refine hK.out _ _ ?_ (fun hH2 => ?_)
    · exact HC.out _ BL
    clear hHeld hK K; have hHeld := hH2; clear hH2; try go_frame
    refine hyO (some 30) 7 rfl (fun K hK => ?_)
    refine wp_growH1 _ _ rfl (w.heap.size + 1) _ ps rfl OW _ _ (.string s, .int .i64 i0, .string s1, .int .i64 i2, .int .i64 i3, .slice X4 n4 z4, .bool true) rfl (KB_sev K1) H1.out (by have := Q2.1; omega) (Nat.le_trans hsD BL.size) ?_
    intro v5 w5 O5 g5 ho5
    replace BL := BL.grown g5 (Nat.le_trans hsD BL.size) fun g hg => own_ge OW g hg
    replace Q2 := Q2.grown g5 fun g hg => Nat.le_of_succ_le (own_ge OW g hg)
    refine hK.out _ _ ?_ (fun hH2 => ?_)
    · exact HC.out _ BL
    clear hHeld hK K; have hHeld := hH2; clear hH2; try go_frame
    refine hyY (some 6) 8 rfl hHeld ?_; go_frame
    refine hyY (some 7) 9 rfl hHeld ?_; go_frame
    refine wpAnyH_done (by kernel_rfl) ?_ _
    have hfin := HFIN.out w5 v5 ps O5 Q2 BL
    have hKK := HKK.out
    clear HFIN HM2 HC H1 OW O5 K1 Q2 BL g5 ho5 hHeld
    go_wp2_with fail
    exact hfin
end
section
open Go.RowKit
set_option maxHeartbeats 4000000 in
theorem zrsame_any (S S' : Nat → Prop) : ∀ (f g : Nat) (a : Sc f) (b : Sc g) (x y : Value) (w : World), ZV w S f x a → ZV w S' g y b →
    Calls Try.prog 34 #[x, y] w fun e w' => e = .returned (.bool (sameS f g a b)) ∧ Below w.heap.size w w' := by
  intro f
  induction f with
  | zero => intro g a; exact nomatch a
  | succ f ih =>
    intro g a b x y w hx hy
    cases g with
    | zero => exact nomatch b
    | succ g =>
    obtain ⟨c0, c1, c2, c3, c4, rfl, rfl, _, rfl, _, rfl, _, rfl, _, hks⟩ := hx
    obtain ⟨c0', c1', c2', c3', c4', rfl, rfl, _, rfl, _, rfl, _, rfl, _, hks'⟩ := hy
    obtain ⟨A3, cap3, e3, hl3, hm3⟩ := hks.form
    obtain ⟨A3', cap3', e3', _⟩ := hks'.form
    obtain ⟨k, d, n, o, ks⟩ := (a : Ns (Sc f))
    obtain ⟨k', d', n', o', ks'⟩ := (b : Ns (Sc g))
    simp only at e3 e3' hks hks' hl3
    subst e3 e3'
    have hlen : ks.length ≤ 9223372036854775807 := by unfold maxLen at hm3; omega
    have hr : sameS (f + 1) (g + 1) (⟨k, d, n, o, ks⟩ : Ns (Sc f)) (⟨k', d', n', o', ks'⟩ : Ns (Sc g)) = (decide (k = k') && (decide (d = d') && (decide (n = n') && (decide (o = o') && sameSL (sameS f g) ks ks')))) := by
      rw [Bool.eq_iff_iff, sameS_parts]
      simp only [Bool.and_eq_true, decide_eq_true_eq]
    rw [hr]
    clear hr
    dsimp only
    unfold strV at *
    obtain ⟨s, hs⟩ : ∃ s : ByteArray, s = ⟨d.toArray⟩ := ⟨_, rfl⟩
    obtain ⟨s', hs'⟩ : ∃ s : ByteArray, s = ⟨d'.toArray⟩ := ⟨_, rfl⟩
    rw [← hs, ← hs']
    have gs := zne_txt s s' d d' hs hs'
    clear hs hs'
    obtain ⟨kx, ky, B0⟩ := ztwo_boxes w #[.int .i64 k, .string s, .int .i64 n, .int .i64 o, .slice A3 ks.length cap3] #[.int .i64 k', .string s', .int .i64 n', .int .i64 o', .slice A3' ks'.length cap3'] 25 25
    generalize decide (d = d') = e at *
    by_cases h1 : k = k'
    case neg =>
      rw [decide_eq_false h1, Bool.false_and]
      have g1 : (k != k') = true := bne_iff_ne.2 h1
      clear gs
      go_enter Try.func34, Try.ntmps34
      go_wp2_with fail
      go_ret
      exact ⟨rfl, B0⟩
    subst h1
    rw [decide_eq_true rfl, Bool.true_and]
    cases e with
    | false =>
      rw [Bool.false_and]
      rw [Bool.not_false] at gs
      replace gs := (zeq_prop gs).1 rfl
      go_enter Try.func34, Try.ntmps34
      go_wp2_with fail
      go_ret
      exact ⟨rfl, B0⟩
    | true =>
      rw [Bool.true_and]
      rw [Bool.not_true] at gs
      replace gs := (zeq_prop gs).2 rfl
      by_cases h2 : n = n'
      case neg =>
        rw [decide_eq_false h2, Bool.false_and]
        have g1 : (n != n') = true := bne_iff_ne.2 h2
        go_enter Try.func34, Try.ntmps34
        go_wp2_with fail
        go_ret
        exact ⟨rfl, B0⟩
      subst h2
      rw [decide_eq_true rfl, Bool.true_and]
      by_cases h2 : o = o'
      case neg =>
        rw [decide_eq_false h2, Bool.false_and]
        have g1 : (o != o') = true := bne_iff_ne.2 h2
        go_enter Try.func34, Try.ntmps34
        go_wp2_with fail
        go_ret
        exact ⟨rfl, B0⟩
      subst h2
      rw [decide_eq_true rfl, Bool.true_and]
      by_cases h3 : ks.length = ks'.length
      case neg =>
        rw [zsame_long h3]
        have g1 : (ks.length != ks'.length) = true := bne_iff_ne.2 h3
        have g2 : ((ks.length : Int) != (ks'.length : Int)) = true := bne_iff_ne.2 (by omega)
        go_enter Try.func34, Try.ntmps34
        go_wp2_with fail
        go_ret
        exact ⟨rfl, B0⟩
      rw [← h3] at hks' kx ky B0 ⊢
      have HR : Hid ((∀ (i : Nat) (u : Sc f) (v : Sc g), ks[i]? = some u → ks'[i]? = some v → sameS f g u v = true) → sameSL (sameS f g) ks ks' = true) := fun h => zsame_yes h3 h
      have HN : Hid (∀ (i : Nat) (u : Sc f) (v : Sc g), ks[i]? = some u → ks'[i]? = some v → sameS f g u v = false → sameSL (sameS f g) ks ks' = false) := fun i u v h1 h2 h => zsame_stop h1 h2 h
      have H3 := Lib.hid h3
      clear h3
      generalize sameSL (sameS f g) ks ks' = r at *
      go_enter Try.func34, Try.ntmps34
      go_wp2_with fail
      clear gs
      go_loopw [5] (fun iv wr => ∃ j : Nat, j ≤ ks.length ∧ Hid (∀ (i : Nat) (u : Sc f) (v : Sc g), i < j → ks[i]? = some u → ks'[i]? = some v → sameS f g u v = true) ∧ iv = .int .i64 j ∧
        KB wr w.heap.size 25 #[.int .i64 k, .string s, .int .i64 n, .int .i64 o, .slice A3 ks.length cap3] ∧ KB wr (w.heap.size + 1) 25 #[.int .i64 k, .string s', .int .i64 n, .int .i64 o, .slice A3' ks.length cap3'] ∧
        Below w.heap.size w wr) (fun iv _ => ks.length - (intOf iv).toNat)
      case atStart => exact ⟨0, by omega, fun i u v h => absurd h (by omega), rfl, kx, ky, B0⟩
      case round =>
        obtain ⟨j, hj, hall, rfl, K, L, B⟩ := hrel
        have q3 : wr.cell? ⟨w.heap.size, 4, none⟩ = some (.slice A3 ks.length cap3) := K.cell 4
        by_cases hlt : j < ks.length
        · have hlt' : j < ks'.length := by have := H3.out; omega
          obtain ⟨b, q, e0, e1, e2, e3, e4, rfl, hb, k0, k1, k2, k3, k4, hv⟩ := kid_zb hks rfl B j hlt
          obtain ⟨b', q', d0, d1, d2, d3, d4, rfl, hb', m0, m1, m2, m3, m4, hv'⟩ := kid_zb hks' H3.out.symm B j hlt'
          have p3 : wr.cell? ⟨w.heap.size + 1, 4, none⟩ = some (.slice (some ⟨b', q', none⟩) ks.length cap3') := L.cell 4
          have tv : ZV wr.drew S f (.agg #[e0, e1, e2, e3, e4]) ks[j] := hv.below' (Below_drawn (Below.refl _ _) 1)
          have tv' : ZV wr.drew S' g (.agg #[d0, d1, d2, d3, d4]) ks'[j] := hv'.below' (Below_drawn (Below.refl _ _) 1)
          have hc := ih g ks[j] ks'[j] _ _ wr.drew tv tv'
          have hyes : Hid (sameS f g ks[j] ks'[j] = true → ∀ (i : Nat) (u : Sc f) (v : Sc g), i < j + 1 → ks[i]? = some u → ks'[i]? = some v → sameS f g u v = true) := by
            intro hp i u v hi hu hw
            rcases Nat.lt_or_ge i j with h | h
            · exact hall.out i u v h hu hw
            · obtain rfl : i = j := by omega
              rw [List.getElem?_eq_getElem hlt] at hu
              rw [List.getElem?_eq_getElem hlt'] at hw
              injection hu with hu
              injection hw with hw
              rw [← hu, ← hw]; exact hp
          have hno : Hid (sameS f g ks[j] ks'[j] = false → r = false) := fun hp => HN.out j _ _ (List.getElem?_eq_getElem hlt) (List.getElem?_eq_getElem hlt') hp
          have K' : KB wr.drew w.heap.size 25 #[.int .i64 k, .string s, .int .i64 n, .int .i64 o, .slice (some ⟨b, q, none⟩) ks.length cap3] := K
          have L' : KB wr.drew (w.heap.size + 1) 25 #[.int .i64 k, .string s', .int .i64 n, .int .i64 o, .slice (some ⟨b', q', none⟩) ks.length cap3'] := L
          have B' : Below w.heap.size w wr.drew := Below_drawn B 1
          clear hv hv' tv tv' hks hks' HR HN K L B hall
          generalize sameS f g ks[j] ks'[j] = p at *
          have far : ∀ w5, Below wr.drew.heap.size wr.drew w5 → ∀ (h : Nat) (i : Nat) (u : Value), h < w.heap.size → wr.cell? ⟨h, i, none⟩ = some u → w5.cell? ⟨h, i, none⟩ = some u := fun w5 b5 h i u hg hu =>
            (World.cell?_of_block (w := wr.drew) (b5.block h (Nat.lt_of_lt_of_le hg B'.size))).trans hu
          go_wp2_with fail
          go_region_held3 (fun w' => w'.cell? ⟨w.heap.size, 4, none⟩ = some (.slice (some ⟨b, q, none⟩) ks.length cap3) ∧ w'.cell? ⟨w.heap.size + 1, 4, none⟩ = some (.slice (some ⟨b', q', none⟩) ks.length cap3') ∧
              w'.cell? ⟨b, q + j * 5, none⟩ = some e0 ∧ w'.cell? ⟨b, q + j * 5 + 1, none⟩ = some e1 ∧ w'.cell? ⟨b, q + j * 5 + 2, none⟩ = some e2 ∧ w'.cell? ⟨b, q + j * 5 + 3, none⟩ = some e3 ∧ w'.cell? ⟨b, q + j * 5 + 4, none⟩ = some e4 ∧
              w'.cell? ⟨b', q' + j * 5, none⟩ = some d0 ∧ w'.cell? ⟨b', q' + j * 5 + 1, none⟩ = some d1 ∧ w'.cell? ⟨b', q' + j * 5 + 2, none⟩ = some d2 ∧ w'.cell? ⟨b', q' + j * 5 + 3, none⟩ = some d3 ∧ w'.cell? ⟨b', q' + j * 5 + 4, none⟩ = some d4)
            (first | exact ⟨q3, p3, k0, k1, k2, k3, k4, m0, m1, m2, m3, m4⟩ | exact ⟨K'.cell 4, L'.cell 4, far _ b5 _ _ _ hb k0, far _ b5 _ _ _ hb k1, far _ b5 _ _ _ hb k2, far _ b5 _ _ _ hb k3, far _ b5 _ _ _ hb k4, far _ b5 _ _ _ hb' m0, far _ b5 _ _ _ hb' m1, far _ b5 _ _ _ hb' m2, far _ b5 _ _ _ hb' m3, far _ b5 _ _ _ hb' m4⟩ | go_keep)
            (first
              | (go_at_call 34; refine hc.mono ?_; rintro e w5 ⟨rfl, b5⟩; replace K' := K'.below b5 K'.lt; replace L' := L'.below b5 L'.lt; replace B' := B'.trans (b5.mono B'.size)))
          clear far k0 k1 k2 k3 k4 m0 m1 m2 m3 m4 q3 p3 hc b5
          cases p with
          | true =>
            have hy := Lib.hid (hyes.out rfl)
            clear hyes hno
            go_wp2_with fail
            go_roundw
            case rel => exact ⟨j + 1, by omega, hy.out, by go_num, K', L', B'⟩
            case measure => simp [intOf]; omega
          | false =>
            have hr := hno.out rfl
            clear hyes hno
            subst hr
            go_wp2_with fail
            go_ret
            exact ⟨rfl, B'⟩
        · have hr : r = true := HR.out fun i u v hu hv => hall.out i u v (by have := (List.getElem?_eq_some_iff.1 hu).1; omega) hu hv
          clear HR HN hall
          subst hr
          go_wp2_with fail
          go_ret
          exact ⟨rfl, B⟩
end
section
open Go.RowKit Go.ChangeShapes Go.WideShapes Go.Joins
def SmallH (f : Nat) (l : List (Hl f)) : Prop := l.length ≤ 30 ∧ ∀ (i : Nat) (hi : i < l.length), l[i].id.length ≤ 100 ∧ fewZ f l[i].sc
set_option maxHeartbeats 8000000 in
theorem xhsmall_any (S : Nat → Prop) (f : Nat) (l : List (Hl f)) (v : Value) (w : World) (hv : HS w S f v l) :
    Calls Try.prog 6 #[v] w fun e w' => ∃ b : Bool, e = .returned (.bool b) ∧ (b = true → SmallH f l) ∧ Below w.heap.size w w' := by
  obtain ⟨A, cap, rfl, hl3, hm3, _⟩ := hv.form
  have hlen : l.length ≤ 9223372036854775807 := by unfold maxLen at hm3; omega
  have HAT := Lib.hid (fun W (hb : Below w.heap.size w W) j (hj : j < l.length) => hold_atb hv rfl hb j hj)
  have HF : Hid (l.length ≤ 30 → (∀ (i : Nat) (hi : i < l.length), l[i].id.length ≤ 100 ∧ fewZ f l[i].sc) → SmallH f l) := fun h1 h2 => ⟨h1, h2⟩
  generalize SmallH f l = F at *
  clear hv hl3 hm3
  go_enter Try.func6, Try.ntmps6
  go_wp2_with fail
  go_loopw [3] (fun iv wr => ∃ j : Nat, j ≤ l.length ∧ iv = .int .i64 j ∧ Hid (∀ (i : Nat) (hi : i < l.length), i < j → l[i].id.length ≤ 100 ∧ fewZ f l[i].sc) ∧ Below w.heap.size w wr) (fun iv _ => l.length - (intOf iv).toNat)
  case atStart => exact ⟨0, by omega, rfl, fun i _ h => absurd h (Nat.not_lt_zero _), Below.refl _ _⟩
  case round =>
    obtain ⟨j, hj, rfl, hall, B⟩ := hrel
    by_cases hlt : j < l.length
    · have d1 : decide ((j : Int) < (l.length : Int)) = true := decide_eq_true (by omega)
      by_cases h40 : j < 40
      · have d2 : decide ((j : Int) < 40) = true := decide_eq_true (by omega)
        have hltI : (j : Int) < (l.length : Int) := by omega
        obtain ⟨b, o, e0, e1, e2, e3, e4, e5, e6, rfl, hb, k0, k1, k2, k3, k4, k5, k6, h0, _, hz, h6⟩ := HAT.out _ B j hlt
        have hsm := Lib.hid (zsmall_any _ f l[j].sc _ wr ⟨_, _, _, _, _, rfl, hz⟩)
        obtain ⟨i1, l2, i3, i4, X5, n5, z5, rfl, rfl, rfl, rfl, rfl⟩ := hz.form
        obtain ⟨s, hs⟩ : ∃ s : ByteArray, s = ⟨l[j].id.toArray⟩ := ⟨_, rfl⟩
        have hsz : (s.size : Int) = (l[j].id.length : Int) := by rw [hs]; rfl
        have k0' : wr.cell? ⟨b, o + j * 7, none⟩ = some (.string s) := by rw [k0, h0, hs]; rfl
        obtain ⟨s2, hs2⟩ : ∃ s : ByteArray, strV l2 = .string s := ⟨_, rfl⟩
        have hsm' := hsm.out
        rw [hs2] at k2 hsm'
        replace hsm := Lib.hid hsm'
        by_cases h100 : 100 < l[j].id.length
        · have d3 : decide ((100 : Int) < (s.size : Int)) = true := decide_eq_true (by omega)
          clear HAT HF hall hsm hsm' hz hs hs2 h0 h6 k0 hsz
          go_wp2_with fail
          go_ret
          exact ⟨false, rfl, (fun h => by cases h), B⟩
        · have d3 : decide ((100 : Int) < (s.size : Int)) = false := decide_eq_false (by omega)
          have HM : Hid (fewZ f l[j].sc → ∀ (i : Nat) (hi : i < l.length), i < j + 1 → l[i].id.length ≤ 100 ∧ fewZ f l[i].sc) := fun h i hi hij => by
            rcases Nat.lt_or_ge i j with h' | h'
            · exact hall.out i hi h'
            · obtain rfl : i = j := by omega
              exact ⟨by omega, h⟩
          clear hall hsm' hz hs hs2 h0 h6 k0 hsz
          go_wp2_with fail
          refine hsm.out.mono ?_
          rintro e w2 ⟨bb, rfl, hbb, b2⟩
          have B2 := B.trans (b2.mono B.size)
          have HBB := Lib.hid hbb
          clear hsm hbb b2
          cases bb with
          | false =>
            clear HM HAT HF HBB
            go_wp2_with fail
            go_ret
            exact ⟨false, rfl, (fun h => by cases h), B2⟩
          | true =>
            have HN := Lib.hid (HM.out (HBB.out (by first | rfl | trivial)))
            clear HM HBB
            go_wp2_with fail
            go_roundw
            case rel => exact ⟨j + 1, by omega, by go_num, HN, B2⟩
            case measure => simp [intOf]; omega
      · have d2 : decide ((j : Int) < 40) = false := decide_eq_false (by omega)
        have d3 : decide ((l.length : Int) ≤ 30) = false := decide_eq_false (by omega)
        clear HAT HF hall
        go_wp2_with fail
        go_ret
        exact ⟨false, rfl, (fun h => by cases h), B⟩
    · have d1 : decide ((j : Int) < (l.length : Int)) = false := decide_eq_false (by omega)
      have HN := Lib.hid (fun h => HF.out h fun i hi => hall.out i hi (by omega))
      clear HAT HF hall
      by_cases h30 : l.length ≤ 30
      · have d3 : decide ((l.length : Int) ≤ 30) = true := decide_eq_true (by omega)
        go_wp2_with fail
        go_ret
        exact ⟨true, rfl, fun _ => HN.out h30, B⟩
      · have d3 : decide ((l.length : Int) ≤ 30) = false := decide_eq_false (by omega)
        go_wp2_with fail
        go_ret
        exact ⟨false, rfl, (fun h => by cases h), B⟩
end
end Go.Proofs.Ytdkmjdcddldjgaa
