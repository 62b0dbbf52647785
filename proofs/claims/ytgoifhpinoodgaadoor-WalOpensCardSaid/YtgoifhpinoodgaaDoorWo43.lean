/-
  WbH: The document's own Clean (layer 10), over the loaded program: its contract. No condition but what it names.
  WbI: What the document's own Read (layer 10) tells, plainly; that it is what a log tells. No program, no condition.
-/
import Derived.Test.YtgoifhpinoodgaaDoorWo42
import Derived.Test.YtgoifhpinoodgaaDoorWo28

section
namespace Go.Proofs.YtgoifhpinoodgaaDoor
open Go.RowKit
set_option maxRecDepth 100000
set_option linter.unusedVariables false

/-- An image whose first sectors are zero. -/
def zeroK : Nat → List (List UInt8) → List (List UInt8)
  | 0, ls => ls
  | k + 1, ls => (zeroK k ls).set k (zs 256)
theorem zeroK_len : ∀ (k : Nat) (ls : List (List UInt8)), (zeroK k ls).length = ls.length
  | 0, ls => rfl
  | k + 1, ls => by rw [zeroK, List.length_set, zeroK_len k ls]
theorem zeroK_at : ∀ (k : Nat) (ls : List (List UInt8)) (i : Nat), i < ls.length → (zeroK k ls)[i]? = if i < k then some (zs 256) else ls[i]?
  | 0, ls, i, h => by rw [if_neg (by omega)]; rfl
  | k + 1, ls, i, h => by
    rw [zeroK, List.getElem?_set, zeroK_len]
    by_cases e : k = i
    · subst e
      rw [if_pos rfl, if_pos h, if_pos (by omega)]
    · rw [if_neg e, zeroK_at k ls i h]
      by_cases h2 : i < k
      · rw [if_pos h2, if_pos (by omega)]
      · rw [if_neg h2, if_neg (by omega)]

set_option maxHeartbeats 2000000 in
/-- Clean. -/
theorem rclean_any (S : Nat → Prop) (x : Value) (ls : List (List UInt8)) (n : Nat) (w : World) (hx : LS w S x ls) (hn : n < ls.length) (hl : ls.length ≤ 1000000) (hb : ∀ l ∈ ls, l.length ≤ 100000000) :
    Calls Tryd.prog 36 #[x, .int .i64 n] w fun e w' => ∃ v', e = .returned v' ∧ LS w' (fun x => w.heap.size ≤ x ∧ x < w'.heap.size) v' (zeroK (n + 1) ls) ∧ Below w.heap.size w w' := by
  have hdo := rdone_row S (fun _ => False) x _ ls [] w hx (PS.nil _ _) (by omega) hl hb (fun q hq => by cases hq)
  have e0 : doneL ls [] = ls := rfl
  rw [e0] at hdo
  obtain ⟨A, c, rfl, _⟩ := hx.form
  clear hx hb e0
  obtain ⟨N, hN⟩ : ∃ N, N = ls.length := ⟨_, rfl⟩
  rw [← hN] at hn hl hdo ⊢
  have HN := Lib.hid hN
  clear hN
  have hz : (zs 256).length = 256 := by simp [zs]
  have hmk0 := make_256
  obtain ⟨Z, HZ0, HZs, HZl, HZR⟩ : ∃ Z : Nat → List (List UInt8), Hid (Z 0 = ls) ∧ Hid (∀ k, Z (k + 1) = (Z k).set k (zs 256)) ∧ Hid ((Z (n + 1)).length = ls.length) ∧ Z (n + 1) = zeroK (n + 1) ls :=
    ⟨fun k => zeroK k ls, rfl, fun k => rfl, zeroK_len _ _, rfl⟩
  rw [← HZR]
  clear HZR
  generalize zs 256 = z at *
  have HMK := Lib.hid hmk0
  clear hmk0
  go_enter Tryd.func36, Tryd.ntmps36
  go_wp2_with fail
  refine hdo.mono ?_
  rintro e w1 ⟨g, cg, vs, rfl, hg, hrow, hvs, bl⟩
  rw [← HN.out]
  have HVL0 : Hid (vs.length = N) := by show _ = _; rw [hvs.1, HN.out]
  clear hdo
  go_wp2_with fail
  go_loopw [6] (fun iv wr => ∃ (k : Nat) (vs : List Value), k ≤ n + 1 ∧ iv = .int .i64 k ∧ Hid (vs.length = N) ∧ RowOf wr g cg vs ∧ VS wr (fun x => w.heap.size ≤ x ∧ x < wr.heap.size ∧ x ≠ g) vs (Z k) ∧ Below w.heap.size w wr) (fun iv _ => n + 1 - (intOf iv).toNat)
  case atStart => exact ⟨0, vs, by omega, rfl, HVL0, hrow, by rw [HZ0.out]; exact hvs, bl⟩
  case round =>
    clear hrow hvs bl HVL0
    obtain ⟨k, vs, hk, rfl, HVL, hrow, hvs, bl⟩ := hrel
    by_cases hlt : k ≤ n
    · have D1 : decide ((k : Int) ≤ (n : Int)) = true := decide_eq_true (by omega)
      obtain ⟨C, hC, hmk⟩ := HMK.out wr
      have hkv : k < vs.length := by have := HVL.out; omega
      have D3 : (k : Int) < (N : Int) := by omega
      have B1 := (Below.refl wr.heap.size wr).alloc (Nat.le_refl _) (.cells C 5)
      have K1 : KB (wr.alloc (.cells C 5)) wr.heap.size 5 (z.map bv).toArray := by rw [← hC]; exact KB.new _ _ _
      have rw1 := hrow.below B1
      have cc := rw1.cell k hkv
      have ff := rw1.free k
      have hs := bl.size
      have hgl := hrow.lt
      have BL := bl.trans (B1.mono hs)
      have row2 := rw1.set k (.slice (some ⟨wr.heap.size, 0, none⟩) 256 256)
      have bs : BS (wr.alloc (.cells C 5)) (fun x => w.heap.size ≤ x ∧ x < (wr.alloc (.cells C 5)).heap.size ∧ x ≠ g) (.slice (some ⟨wr.heap.size, 0, none⟩) 256 256) z := (K1.bs hz (by simp [maxLen])).mono fun b hb => by subst hb; exact ⟨hs, by simp, by omega⟩
      have vs1 : VS (wr.alloc (.cells C 5)) (fun x => w.heap.size ≤ x ∧ x < (wr.alloc (.cells C 5)).heap.size ∧ x ≠ g) vs (Z k) := (hvs.below' B1).mono fun x hx => ⟨hx.1, Nat.lt_of_lt_of_le hx.2.1 B1.size, hx.2.2⟩
      have vs2 := vs1.set bs k
      rw [← HZs.out] at vs2
      have vs3 := vs2.keep (w' := (wr.alloc (.cells C 5)).setCell ⟨g, k, none⟩ (.slice (some ⟨wr.heap.size, 0, none⟩) 256 256)) (by simp [World.setCell]) fun b hb _ => Below.heap_setCell _ ⟨g, k, none⟩ _ b hb.2.2
      have B6 := BL.setCell (p := ⟨g, k, none⟩) hg (.slice (some ⟨wr.heap.size, 0, none⟩) 256 256)
      have HVL2 : Hid ((vs.set k (.slice (some ⟨wr.heap.size, 0, none⟩) 256 256)).length = N) := by show _ = _; rw [List.length_set]; exact HVL.out
      have ew := World.setCell_alloc_past (w := wr) (.cells C 5) g k (.slice (some ⟨wr.heap.size, 0, none⟩) 256 256) hgl
      have vs4 := vs3.mono (S' := fun x => w.heap.size ≤ x ∧ x < ((wr.alloc (.cells C 5)).setCell ⟨g, k, none⟩ (.slice (some ⟨wr.heap.size, 0, none⟩) 256 256)).heap.size ∧ x ≠ g) fun x hx => ⟨hx.1, by simp [World.setCell] at hx ⊢; omega, hx.2.2⟩
      rw [ew] at vs4 row2 B6
      clear vs3 ew hC B1 K1 rw1 BL bs vs1 vs2 hvs hrow bl
      go_wp2_with fail
      go_roundw
      case rel => exact ⟨k + 1, _, by omega, by go_num, HVL2, row2, vs4, B6⟩
      case measure => simp [intOf]; omega
    · obtain rfl : k = n + 1 := by omega
      have D1 : decide (((n + 1 : Nat) : Int) ≤ (n : Int)) = false := decide_eq_false (by omega)
      have D2 : decide ((n : Int) + 1 ≤ (n : Int)) = false := decide_eq_false (by omega)
      have hls := hrow.ls (S' := fun x => w.heap.size ≤ x ∧ x < wr.heap.size) hvs (fun x hx => ⟨hx.1, hx.2.1⟩) ⟨hg, hrow.lt⟩
      rw [HZl.out, ← HN.out] at hls
      clear hvs hrow
      go_wp2_with fail
      go_ret
      exact ⟨_, rfl, hls, bl⟩
end Go.Proofs.YtgoifhpinoodgaaDoor
end

section
namespace Go.Proofs.YtgoifhpinoodgaaDoor
open Go.RowKit
set_option maxRecDepth 100000
set_option linter.unusedVariables false

theorem getS_kind {s : List UInt8} (h : (getS s).1 ≠ 0) : (getS s).2.2 = 0 := by
  unfold getS at h ⊢
  repeat' split
  all_goals first | rfl | (simp_all)
theorem pairs_small : ∀ (b : List UInt8), ∀ x ∈ pairsP b, x < 65536
  | [], x, h => by cases h
  | [_], x, h => by cases h
  | a :: c :: r, x, h => by
    rcases List.mem_cons.1 h with rfl | h
    · have := a.toNat_lt; have := c.toNat_lt; omega
    · exact pairs_small r x h
theorem pairs_back : ∀ (n : Nat) (b : List UInt8), b.length = 2 * n → (pairsP b).flatMap numB = b
  | 0, b, h => by
    obtain rfl : b = [] := List.eq_nil_of_length_eq_zero (by omega)
    rfl
  | n + 1, b, h => by
    match b, h with
    | a :: c :: r, h =>
      show numB (a.toNat * 256 + c.toNat) ++ (pairsP r).flatMap numB = _
      have h1 := a.toNat_lt
      have h2 := c.toNat_lt
      rw [pairs_back n r (by simp at h; omega)]
      unfold numB
      rw [show (a.toNat * 256 + c.toNat) / 256 = a.toNat by omega, show (a.toNat * 256 + c.toNat) % 256 = c.toNat by omega, UInt8.ofNat_toNat, UInt8.ofNat_toNat]
      rfl
theorem list_cons {k i : Nat} {s : List UInt8} {r : List (List UInt8)} {ns : List Nat} (h : listL k i (s :: r) = some ns) :
    (getS s).1 = 2 ∧ (getS s).2.1.length = 2 * min 120 (k - 120 * i) ∧ ∃ ns', listL k (i + 1) r = some ns' ∧ ns = pairsP (getS s).2.1 ++ ns' := by
  unfold listL at h
  split at h
  · rename_i hc
    obtain ⟨ns', h1, h2⟩ := Option.map_eq_some_iff.1 h
    exact ⟨hc.1, hc.2, ns', h1, h2.symm⟩
  · cases h
theorem list_len : ∀ (Ls : List (List UInt8)) (k i : Nat) (ns : List Nat), listL k i Ls = some ns → ns.length = min (k - 120 * i) (120 * Ls.length)
  | [], k, i, ns, h => by
    obtain rfl : [] = ns := Option.some.inj h
    simp
  | s :: r, k, i, ns, h => by
    obtain ⟨_, h2, ns', h3, rfl⟩ := list_cons h
    rw [List.length_append, pairs_len _ _ h2, list_len r k (i + 1) ns' h3, List.length_cons]
    omega
theorem list_small : ∀ (Ls : List (List UInt8)) (k i : Nat) (ns : List Nat), listL k i Ls = some ns → ∀ x ∈ ns, x < 65536
  | [], k, i, ns, h, x, hx => by
    obtain rfl : [] = ns := Option.some.inj h
    cases hx
  | s :: r, k, i, ns, h, x, hx => by
    obtain ⟨_, h2, ns', h3, rfl⟩ := list_cons h
    rcases List.mem_append.1 hx with hx | hx
    · exact pairs_small _ x hx
    · exact list_small r k (i + 1) ns' h3 x hx
theorem body_map (q : List Pt) : bodyL q = (q.map fun v => v.1.toNat).flatMap numB := by
  unfold bodyL
  rw [List.flatMap_map]
theorem list_inv (p : List Pt) : ∀ (Ls : List (List UInt8)) (i : Nat) (ns : List Nat), listL p.length i Ls = some ns → (p.drop (120 * i)).map (fun v => v.1.toNat) = ns → Ls = (List.range' i Ls.length).map fun j => secL (partL p j)
  | [], i, ns, _, _ => rfl
  | s :: r, i, ns, h, hp => by
    obtain ⟨h1, h2, ns', h3, rfl⟩ := list_cons h
    have hl := list_len r _ _ _ h3
    have hc := pairs_len _ _ h2
    have e1 : (partL p i).map (fun v => v.1.toNat) = pairsP (getS s).2.1 := by
      unfold partL
      rw [List.map_take, hp]
      by_cases hm : 120 ≤ p.length - 120 * i
      · rw [List.take_append_of_le_length (by rw [hc]; omega), List.take_of_length_le (by rw [hc]; omega)]
      · obtain rfl : ns' = [] := List.eq_nil_of_length_eq_zero (by rw [hl]; omega)
        rw [List.append_nil, List.take_of_length_le (by rw [hc]; omega)]
    have e2 : (p.drop (120 * (i + 1))).map (fun v => v.1.toNat) = ns' := by
      rw [show 120 * (i + 1) = 120 * i + 120 by omega, ← List.drop_drop, List.map_drop, hp]
      by_cases hm : 120 ≤ p.length - 120 * i
      · have hc' : (pairsP (getS s).2.1).length = 120 := by rw [hc]; omega
        rw [← hc', List.drop_left]
      · obtain rfl : ns' = [] := List.eq_nil_of_length_eq_zero (by rw [hl]; omega)
        rw [List.append_nil, List.drop_of_length_le (by rw [hc]; omega)]
    have e3 : secL (partL p i) = s := by
      unfold secL
      rw [body_map, e1, pairs_back _ _ h2]
      have := put_get (getS_kind (s := s) (by rw [h1]; decide))
      rw [h1] at this
      rw [this]
    rw [List.length_cons, List.range'_succ, List.map_cons, e3, ← list_inv p r (i + 1) ns' h3 e2]
theorem zip_fst (ns : List Nat) (D : List (List UInt8)) (h : ns.length = D.length) : (zipW ns D).map (fun v => v.1.toNat) = ns := by
  apply List.ext_getElem
  · rw [List.length_map, zipW_len _ _ (by omega)]
  · intro i h1 h2
    simp [zipW]
theorem zip_snd (ns : List Nat) (D : List (List UInt8)) (h : ns.length = D.length) : (zipW ns D).map (·.2) = D := by
  apply List.ext_getElem
  · rw [List.length_map, zipW_len _ _ (by omega), h]
  · intro i h1 h2
    simp [zipW]
theorem entries_back {k : Nat} {Ls D : List (List UInt8)} {ns : List Nat} (h : listL k 0 Ls = some ns) (hL : Ls.length = listsN k) (hD : D.length = k) : ns.length = k ∧ (zipW ns D).length = k ∧ entriesL (zipW ns D) = Ls ++ D := by
  have hn : ns.length = k := by
    rw [list_len _ _ _ _ h, hL]
    unfold listsN
    omega
  have hz : (zipW ns D).length = k := by rw [zipW_len _ _ (by omega), hn]
  refine ⟨hn, hz, ?_⟩
  unfold entriesL
  rw [zip_snd ns D (by omega), hz, ← hL]
  congr 1
  rw [← hz] at h
  have := list_inv (zipW ns D) Ls 0 ns h (by rw [Nat.mul_zero, List.drop_zero, zip_fst ns D (by omega)])
  rw [List.range_eq_range']
  exact this.symm

/-- What the document's Read hands back. -/
def readP (n N : Nat) (img : List (List UInt8)) : List Pt × Bool :=
  if ¬ ((getS (img.getD 0 [])).2.2 = 0 ∧ (getS (img.getD 0 [])).1 = 1 ∧ (getS (img.getD 0 [])).2.1.length = 34) then ([], false) else
  if ¬ (1 ≤ numP (getS (img.getD 0 [])).2.1 ∧ numP (getS (img.getD 0 [])).2.1 ≤ roomN n) then ([], false) else
  match listL (numP (getS (img.getD 0 [])).2.1) 0 ((img.drop 1).take (listsN (numP (getS (img.getD 0 [])).2.1))) with
  | none => ([], false)
  | some ns =>
    if takesB n N (zipW ns ((img.drop (1 + listsN (numP (getS (img.getD 0 [])).2.1))).take (numP (getS (img.getD 0 [])).2.1))) = true then
      (zipW ns ((img.drop (1 + listsN (numP (getS (img.getD 0 [])).2.1))).take (numP (getS (img.getD 0 [])).2.1)),
        decide (headL (zipW ns ((img.drop (1 + listsN (numP (getS (img.getD 0 [])).2.1))).take (numP (getS (img.getD 0 [])).2.1))).length (entriesL (zipW ns ((img.drop (1 + listsN (numP (getS (img.getD 0 [])).2.1))).take (numP (getS (img.getD 0 [])).2.1)))) = img.getD 0 []))
    else ([], false)
/-- What stands whole in an image's log. -/
def leftB (n N : Nat) (img : List (List UInt8)) : List Pt := if takesB n N (toldL (img.take (n + 1))) = true then toldL (img.take (n + 1)) else []

theorem leftB_nil {n N : Nat} {img : List (List UInt8)} (h : toldL (img.take (n + 1)) = []) : leftB n N img = [] := by
  unfold leftB
  rw [h]
  exact ite_self _
theorem read_left {n N : Nat} {img : List (List UInt8)} (hn : n < img.length) : ((readP n N img).2 = true → (readP n N img).1 = leftB n N img) ∧ ((readP n N img).2 = false → leftB n N img = []) := by
  have h0 : (img.take (n + 1)).getD 0 [] = img.getD 0 [] := by
    rw [List.getD_eq_getElem?_getD, List.getElem?_take, if_pos (by omega), ← List.getD_eq_getElem?_getD]
  have hlen : (img.take (n + 1)).length - 1 = n := by rw [List.length_take]; omega
  obtain ⟨s0, hs0⟩ : ∃ s0, s0 = img.getD 0 [] := ⟨_, rfl⟩
  unfold readP
  rw [← hs0]
  by_cases c1 : (getS s0).2.2 = 0 ∧ (getS s0).1 = 1 ∧ (getS s0).2.1.length = 34
  case neg =>
    rw [if_pos c1]
    refine ⟨fun h => by simp at h, fun _ => leftB_nil ?_⟩
    unfold toldL
    rw [h0, ← hs0]
    dsimp only
    apply if_pos
    by_cases a1 : (getS s0).1 = 1
    · exact .inr fun a2 => c1 ⟨getS_kind (by rw [a1]; decide), a1, a2⟩
    · exact .inl a1
  rw [if_neg (by simpa using c1)]
  obtain ⟨g1, g2, g3⟩ := c1
  obtain ⟨b, hb⟩ : ∃ b, b = (getS s0).2.1 := ⟨_, rfl⟩
  obtain ⟨k, hk⟩ : ∃ k, k = numP b := ⟨_, rfl⟩
  have hpg := put_get g1
  rw [← hb] at g3 hpg ⊢
  rw [g2] at hpg
  rw [← hk]
  have htold : toldL (img.take (n + 1)) = if n' : roomN n < k then [] else
      if sumB (catB (((img.take (n + 1)).drop 1).take (listsN k + k))) ≠ b.drop 2 then [] else
      match listL k 0 ((((img.take (n + 1)).drop 1).take (listsN k + k)).take (listsN k)) with
      | none => []
      | some ns => zipW ns ((((img.take (n + 1)).drop 1).take (listsN k + k)).drop (listsN k)) := by
    unfold toldL
    rw [h0, ← hs0]
    dsimp only
    rw [if_neg (by rw [g2, ← hb, g3]; simp), ← hb, ← hk, hlen]
    rfl
  by_cases c2 : roomN n < k
  · rw [if_pos (by omega)]
    refine ⟨fun h => by simp at h, fun _ => leftB_nil ?_⟩
    rw [htold, dif_pos c2]
  rw [dif_neg c2] at htold
  have hfit := room_fits (n := n) (k := k) (by omega)
  have e1 : ((img.take (n + 1)).drop 1).take (listsN k + k) = (img.drop 1).take (listsN k + k) := by
    apply List.ext_getElem?
    intro i
    rw [List.getElem?_take, List.getElem?_take, List.getElem?_drop, List.getElem?_drop, List.getElem?_take]
    by_cases hi : i < listsN k + k
    · rw [if_pos hi, if_pos (by omega)]
      rw [if_pos hi]
    · rw [if_neg hi, if_neg hi]
  have e2 : ((img.drop 1).take (listsN k + k)).take (listsN k) = (img.drop 1).take (listsN k) := by rw [List.take_take, Nat.min_eq_left (by omega)]
  have e3 : ((img.drop 1).take (listsN k + k)).drop (listsN k) = (img.drop (1 + listsN k)).take k := by rw [List.drop_take, List.drop_drop, Nat.add_sub_cancel_left]
  rw [e1, e2, e3] at htold
  obtain ⟨D, hD⟩ : ∃ D, D = (img.drop (1 + listsN k)).take k := ⟨_, rfl⟩
  obtain ⟨Ls, hL⟩ : ∃ Ls, Ls = (img.drop 1).take (listsN k) := ⟨_, rfl⟩
  have hDl : D.length = k := by rw [hD, List.length_take, List.length_drop]; omega
  have hLl : Ls.length = listsN k := by rw [hL, List.length_take, List.length_drop]; omega
  have hLD : (img.drop 1).take (listsN k + k) = Ls ++ D := by rw [← e2, ← e3] at *; rw [hL, hD, List.take_append_drop]
  rw [hLD, ← hD, ← hL] at htold
  rw [← hD, ← hL]
  by_cases c3 : 1 ≤ k
  case neg =>
    obtain rfl : k = 0 := by omega
    rw [if_pos (by omega)]
    refine ⟨fun h => by simp at h, fun _ => leftB_nil ?_⟩
    rw [htold]
    obtain rfl : D = [] := List.eq_nil_of_length_eq_zero hDl
    split
    · rfl
    · split
      · rfl
      · unfold zipW; simp
  rw [if_neg (by omega)]
  cases hls : listL k 0 Ls with
  | none =>
    rw [hls] at htold
    refine ⟨fun h => by simp at h, fun _ => leftB_nil ?_⟩
    rw [htold]
    exact ite_self _
  | some ns =>
    rw [hls] at htold
    dsimp only at htold ⊢
    obtain ⟨n1, n2, n3⟩ := entries_back hls hLl hDl
    obtain ⟨p, hp⟩ : ∃ p, p = zipW ns D := ⟨_, rfl⟩
    rw [← hp] at htold n2 n3 ⊢
    by_cases c4 : takesB n N p = true
    · rw [if_pos c4, n2, n3]
      dsimp only
      have hiff : headL k (Ls ++ D) = s0 ↔ sumB (catB (Ls ++ D)) = b.drop 2 := by
        unfold headL
        constructor
        · intro h
          have hgp := get_put (kind := 1) (body := numB k ++ sumB (catB (Ls ++ D))) (put1_ok (by rw [head_body]; omega))
          rw [h] at hgp
          have : b = numB k ++ sumB (catB (Ls ++ D)) := by rw [hb, hgp]
          rw [this]
          rfl
        · intro h
          have : b = numB k ++ b.drop 2 := by
            rw [hk]
            match b, g3 with
            | x :: y :: r, _ =>
              show _ = [UInt8.ofNat ((x.toNat * 256 + y.toNat) / 256), UInt8.ofNat ((x.toNat * 256 + y.toNat) % 256)] ++ r
              have h1 := x.toNat_lt
              have h2 := y.toNat_lt
              rw [show (x.toNat * 256 + y.toNat) / 256 = x.toNat by omega, show (x.toNat * 256 + y.toNat) % 256 = y.toNat by omega, UInt8.ofNat_toNat, UInt8.ofNat_toNat]
              rfl
          rw [h, ← this, hpg]
      by_cases c5 : sumB (catB (Ls ++ D)) = b.drop 2
      · rw [if_neg (by simpa using c5)] at htold
        refine ⟨fun _ => ?_, fun h => absurd (hiff.2 c5) (of_decide_eq_false h)⟩
        unfold leftB
        rw [htold, if_pos c4]
      · rw [if_pos c5] at htold
        exact ⟨fun h => absurd (hiff.1 (of_decide_eq_true h)) c5, fun _ => leftB_nil htold⟩
    · rw [if_neg c4]
      refine ⟨fun h => by simp at h, fun _ => ?_⟩
      unfold leftB
      rw [htold]
      by_cases c5 : sumB (catB (Ls ++ D)) ≠ b.drop 2
      · rw [if_pos c5]
        exact ite_self _
      · rw [if_neg c5]
        exact if_neg c4
end Go.Proofs.YtgoifhpinoodgaaDoor
end
