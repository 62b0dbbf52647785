/-
  The program's phrase and written (layer 17), over the loaded program: each one's contract. No condition but sizes, and that the library's table of powers of ten is as laid.
-/
import Derived.Test.YtbhebjkicooidaaDoorRuS
import Derived.Test.YtbhebjkicooidaaDoorRuJ
import Derived.Test.YtbhebjkicooidaaDoorRuG
import Derived.Test.YtbhebjkicooidaaDoorSpF
import Derived.Test.YtbhebjkicooidaaDoorHeld
import Derived.Laws.EntriesVeiled
namespace Go.Proofs.YtbhebjkicooidaaDoor
open Go.RowKit
set_option maxRecDepth 100000
set_option linter.unusedVariables false

/-- phrase. -/
theorem phrase_any (bk o c : Nat) (xs : List (List UInt8)) (w : World) (hcells : ∀ (j : Nat) x, xs[j]? = some x → w.cell? ⟨bk, o + j, none⟩ = some (strV x))
    (hbk : bk < w.heap.size) (hN : xs.length ≤ 1000000000) (hcap : xs.length ≤ c) (hlen : (Lib.join xs [32]).length ≤ 1000000000) :
    Calls Tryd.prog 43 #[.slice (some ⟨bk, o, none⟩) xs.length c] w fun e w' => e = .returned (strV (Lib.join xs [32])) ∧ Below w.heap.size w w' := by
  have hj := join_any bk o c xs [32] w hcells hbk hN hcap hlen
  unfold strV at hj ⊢
  clear hcells hlen
  generalize (⟨(Lib.join xs [32]).toArray⟩ : ByteArray) = s at *
  generalize xs.length = n at *
  go_enter Tryd.func43, Tryd.ntmps43
  go_wp2_with fail
  refine hj.mono ?_
  rintro e w1 ⟨rfl, b1⟩
  go_wp2_with fail
  go_ret
  exact ⟨rfl, b1⟩

theorem info_string : (Tryd.prog.info? 9).map (fun i => (i.zero, i.size, i.bytes)) = some (some (.string ⟨#[]⟩), 1, 16) := by kernel_rfl
theorem make_strs (w : World) (m : Nat) (hm : m ≤ 1000000) : (Instr.makeSlice 65 (.int .i64 m) (.int .i64 m)).run Tryd.prog w = .ok (.slice (some ⟨w.heap.size, 0, none⟩) m m) (w.alloc (.cells (Array.replicate m (.string ⟨#[]⟩)) 9)) := by
  obtain ⟨i0, hi, hz0, hz1, hz2⟩ := info_parts info_string
  have hmk := run_make (P := Tryd.prog) w 65 9 i0 _ Tryd.underlying65 hi hz0 .i64 .i64 m m (by omega) (by omega) (by rw [hz2]; omega) (by omega)
  rw [hz1, Int.toNat_natCast] at hmk
  have e : madeCells (Value.string ⟨#[]⟩).cells (m * 1) = Array.replicate m (.string ⟨#[]⟩) := by
    rw [Nat.mul_one]
    apply Array.ext
    · rw [size_madeCells, Array.size_replicate]
    · intro i h1 h2
      simp only [madeCells, Value.cells, Array.getElem_map, Array.getElem_range, Array.getElem_replicate]
      have : i % 1 = 0 := Nat.mod_one i
      simp [this]
  rw [e] at hmk
  exact hmk

/-- A row of texts of which the first j are as they will be. -/
def RowT (w : World) (g n : Nat) (parts : List (List UInt8)) (j : Nat) : Prop :=
  ∃ arr, KB w g 9 arr ∧ arr.size = n ∧ (∀ i q, i < j → parts[i]? = some q → arr[i]? = some (strV q)) ∧ ∀ i, i < n → ∃ s, arr[i]? = some (.string s)
theorem RowT.new (w : World) (n : Nat) (parts : List (List UInt8)) : RowT (w.alloc (.cells (Array.replicate n (.string ⟨#[]⟩)) 9)) w.heap.size n parts 0 :=
  ⟨_, KB.new _ _ _, by simp, fun i q h => absurd h (Nat.not_lt_zero _), fun i hi => ⟨⟨#[]⟩, by rw [Array.getElem?_eq_getElem (by simpa using hi)]; simp⟩⟩
section
variable {w w' : World} {g n j : Nat} {parts : List (List UInt8)}
theorem RowT.below {B : Nat} (h : RowT w g n parts j) (hb : Below B w w') (hg : g < B) : RowT w' g n parts j := by
  obtain ⟨arr, h1, h2⟩ := h
  exact ⟨arr, h1.below hb hg, h2⟩
theorem RowT.alloc (h : RowT w g n parts j) (o : Obj) : RowT (w.alloc o) g n parts j := by
  obtain ⟨arr, h1, h2⟩ := h
  exact ⟨arr, h1.alloc o, h2⟩
theorem RowT.lt (h : RowT w g n parts j) : g < w.heap.size := by
  obtain ⟨arr, h1, _⟩ := h
  exact h1.lt
theorem RowT.store (h : RowT w g n parts j) (hj : j < n) (q : List UInt8) : RowT (w.setCell ⟨g, j, none⟩ (strV q)) g n parts j ∧ (w.setCell ⟨g, j, none⟩ (strV q)).cell? ⟨g, j, none⟩ = some (strV q) ∧ (parts[j]? = some q → RowT (w.setCell ⟨g, j, none⟩ (strV q)) g n parts (j + 1)) := by
  obtain ⟨arr, h1, h2, h3, h4⟩ := h
  have hk := h1.put j (strV q)
  have hsz : (arr.setIfInBounds j (strV q)).size = n := by rw [Array.size_setIfInBounds]; exact h2
  have hjj : (arr.setIfInBounds j (strV q))[j]? = some (strV q) := by rw [Array.getElem?_setIfInBounds_self_of_lt (by omega)]
  have hne : ∀ i, i ≠ j → (arr.setIfInBounds j (strV q))[i]? = arr[i]? := fun i hi => Array.getElem?_setIfInBounds_ne (fun e => hi e.symm)
  have hall : ∀ i, i < n → ∃ s, (arr.setIfInBounds j (strV q))[i]? = some (.string s) := fun i hi => by
    by_cases e : i = j
    · subst e; exact ⟨_, hjj⟩
    · rw [hne i e]; exact h4 i hi
  refine ⟨⟨_, hk, hsz, fun i r hi hr => by rw [hne i (by omega)]; exact h3 i r hi hr, hall⟩, (hk.cell j).trans hjj, fun hq => ⟨_, hk, hsz, fun i r hi hr => ?_, hall⟩⟩
  by_cases e : i = j
  · subst e
    rw [hq] at hr
    injection hr with hr
    rw [hjj, hr]
  · rw [hne i e]; exact h3 i r (by omega) hr
theorem RowT.there (h : RowT w g n parts j) (hj : j < n) : ∃ s, w.cell? ⟨g, j, none⟩ = some (.string s) ∧ w.frozen? ⟨g, j, none⟩ = false := by
  obtain ⟨arr, h1, h2, h3, h4⟩ := h
  obtain ⟨s, hs⟩ := h4 j hj
  exact ⟨s, (h1.cell j).trans hs, h1.free j⟩
theorem RowT.cells (h : RowT w g n parts n) (hn : parts.length = n) : ∀ (i : Nat) q, parts[i]? = some q → w.cell? ⟨g, 0 + i, none⟩ = some (strV q) := fun i q hq => by
  obtain ⟨arr, h1, h2, h3, h4⟩ := h
  rw [Nat.zero_add, h1.cell]
  exact h3 i q (by have := (List.getElem?_eq_some_iff.1 hq).1; omega) hq
end

/-- The variable of the closure. -/
def WrAt (w : World) (gw : Nat) : Prop := KB w gw 40 #[.func (.func 51) #[] #[.pointer (some ⟨gw, 0, none⟩)]]

set_option maxHeartbeats 8000000 in
/-- A day's condition. -/
theorem wone_any (gw : Nat) (dy : Int) (l : List UInt8) (k3 : Value) (A3 : Option Addr) (n3 z3 : Nat) (w : World) (hk3 : k3 = .slice A3 n3 z3) (hl : l.length ≤ 16) (hp : Pow w) :
    Calls Tryd.prog 51 #[.agg #[.int .i64 1, .int .i64 dy, strV l, k3], .pointer (some ⟨gw, 0, none⟩)] w fun e w' => e = .returned (strV (textD dy ++ afterW ++ l)) ∧ Below w.heap.size w w' := by
  subst hk3
  have htx := text15_any dy
  have hlt := text_len dy
  have ej : Lib.join [textD dy, [97, 102, 116, 101, 114], l] [32] = textD dy ++ afterW ++ l := by
    unfold afterW
    simp [Lib.join, List.intercalate]
  have HPH : Hid (∀ W : World, Calls Tryd.prog 43 #[.slice (some ⟨W.heap.size, 0, none⟩) 3 3] (W.alloc (.cells #[strV (textD dy), strV [97, 102, 116, 101, 114], strV l] 9)) fun e w' => e = .returned (strV (textD dy ++ afterW ++ l)) ∧ Below (W.alloc (.cells #[strV (textD dy), strV [97, 102, 116, 101, 114], strV l] 9)).heap.size (W.alloc (.cells #[strV (textD dy), strV [97, 102, 116, 101, 114], strV l] 9)) w') := fun W => by
    rw [← ej]
    have kb := KB.new W 9 #[strV (textD dy), strV [97, 102, 116, 101, 114], strV l]
    refine phrase_any W.heap.size 0 3 [textD dy, [97, 102, 116, 101, 114], l] _ (fun j x hx => ?_) kb.lt (by simp) (by simp) (by rw [ej]; unfold afterW; simp; omega)
    rw [Nat.zero_add, kb.cell]
    match j, hx with
    | 0, hx => simp at hx; subst hx; rfl
    | 1, hx => simp at hx; subst hx; rfl
    | 2, hx => simp at hx; subst hx; rfl
    | j + 3, hx => simp at hx
  clear ej hlt hl
  unfold strV at *
  generalize (⟨(textD dy ++ afterW ++ l).toArray⟩ : ByteArray) = s3 at *
  generalize (⟨(textD dy).toArray⟩ : ByteArray) = s1 at *
  generalize (⟨l.toArray⟩ : ByteArray) = s at *
  have B0 := (Below.refl w.heap.size w).alloc (Nat.le_refl _) (.cells #[.int .i64 1, .int .i64 dy, .string s, .slice A3 n3 z3] 35)
  have K0 := KB.new w 35 #[.int .i64 1, .int .i64 dy, .string s, .slice A3 n3 z3]
  have hp0 := hp.below B0
  go_enter Tryd.func51, Tryd.ntmps51
  go_wp2_with fail
  generalize w.alloc (.cells #[.int .i64 1, .int .i64 dy, .string s, .slice A3 n3 z3] 35) = w0 at *
  have HC : Hid (∀ W, Below w0.heap.size w0 W → W.cell? ⟨w.heap.size, 1, none⟩ = some (.int .i64 dy) ∧ W.cell? ⟨w.heap.size, 2, none⟩ = some (.string s)) := fun W h => ⟨(K0.below h K0.lt).cell 1, (K0.below h K0.lt).cell 2⟩
  have Bd : Below w.heap.size w w0.drew := Below_drawn B0 1
  have Bdd : Below w0.heap.size w0 w0.drew := Below_drawn (Below.refl _ _) 1
  have hpd : Pow w0.drew := hp0.below Bdd
  have hst := htx w0.drew hpd
  clear htx hp hp0 K0 B0 hpd
  rename_i KK hKK
  have HKK := Lib.hid hKK
  clear hKK
  refine wp_region_held_drew (S := (fun W => W.cell? ⟨w.heap.size, 1, none⟩ = some (.int .i64 dy) ∧ W.cell? ⟨w.heap.size, 2, none⟩ = some (.string s))) (by kernel_rfl) (HC.out _ Bdd) (fun hHeld => ?_)
  refine hyY (some 11) 0 rfl hHeld ?_; go_frame
  refine hyY (some 12) 1 rfl hHeld ?_; go_frame
  refine hyY (some 14) 3 rfl hHeld ?_; go_frame
  refine hyY (some 15) 4 rfl hHeld ?_; go_frame
  refine hyO (some 13) 2 rfl (fun K hK => ?_)
  go_simp
  go_at_call 52
  refine hst.mono ?_
  rintro e w2 ⟨rfl, b2⟩
  go_wp2_with fail
  refine hK.out _ _ ?_ (fun hH2 => ?_)
  · first | exact HC.out _ (Bdd.trans b2) | exact HC.out _ (Bdd.trans B3) | exact HC.out _ (Bdd.trans (B3.trans (b4.mono B3.size)))
  clear hHeld hK K; have hHeld := hH2; clear hH2; try go_frame
  refine hyO (some 16) 5 rfl (fun K hK => ?_)
  go_simp
  have B3 := b2.alloc b2.size (.cells #[.string s1, .string { data := #[97, 102, 116, 101, 114] }, .string s] 9)
  refine hK.out _ _ ?_ (fun hH2 => ?_)
  · first | exact HC.out _ (Bdd.trans b2) | exact HC.out _ (Bdd.trans B3) | exact HC.out _ (Bdd.trans (B3.trans (b4.mono B3.size)))
  clear hHeld hK K; have hHeld := hH2; clear hH2; try go_frame
  refine hyO (some 17) 6 rfl (fun K hK => ?_)
  go_simp
  go_at_call 43
  refine (HPH.out w2).mono ?_
  rintro e w4 ⟨rfl, b4⟩
  go_wp2_with fail
  refine hK.out _ _ ?_ (fun hH2 => ?_)
  · first | exact HC.out _ (Bdd.trans b2) | exact HC.out _ (Bdd.trans B3) | exact HC.out _ (Bdd.trans (B3.trans (b4.mono B3.size)))
  clear hHeld hK K; have hHeld := hH2; clear hH2; try go_frame
  refine hyY (some 3) 7 rfl hHeld ?_; go_frame
  refine wpAnyH_done (by kernel_rfl) ?_ _
  have hKK := HKK.out
  go_wp2_with fail
  go_ret
  exact ⟨rfl, Bd.trans ((B3.trans (b4.mono B3.size)).mono Bd.size)⟩

theorem KB.aside {w : World} {g h i : Nat} {t : TypeId} {cs : Array Value} {v : Value} (k : KB w g t cs) (hne : h ≠ g) : KB (w.setCell ⟨h, i, none⟩ v) g t cs :=
  k.keep (Below.heap_setCell w ⟨h, i, none⟩ v g fun e => hne e.symm)
theorem wr_many (f : Nat) (x : Nx (Ex f)) (h : x.op ≠ 1) : exprX (f + 1) x = Lib.join (x.kids.map fun u => brX x.op (opX f u) (exprX f u)) (sepX x.op) := by rw [expr_eq, if_neg h]
theorem br_no {p k : Int} (t : List UInt8) (h2 : k ≠ 2) (h3 : k = 3 → p ≠ 3) : brX p k t = t := by
  unfold brX
  rw [if_neg (by rintro (h | ⟨h, h'⟩); exact h2 h; exact h3 h h')]
theorem br_yes {p k : Int} (t : List UInt8) (h : k = 2 ∨ (k = 3 ∧ p = 3)) : brX p k t = 40 :: (t ++ [41]) := by
  unfold brX
  rw [if_pos h]

set_option maxHeartbeats 8000000 in
/-- The closure. -/
theorem wr1_any (S : Nat → Prop) (gw : Nat) : ∀ (f : Nat) (x : Ex f) (d : Int) (v : Value) (w : World), okX f x d = true → nodesX f x ≤ 24 → WrAt w gw → Pow w → EV w S f v x →
    Calls Tryd.prog 51 #[v, .pointer (some ⟨gw, 0, none⟩)] w fun e w' => e = .returned (strV (exprX f x)) ∧ Below w.heap.size w w' := by
  intro f
  induction f with
  | zero => intro x; exact nomatch x
  | succ f ih =>
    intro x d v w hok hno hg hp hv
    obtain ⟨c0, c1, c2, c3, rfl, rfl, hk, rfl, hdy, rfl, hml, hks⟩ := hv
    obtain ⟨A3, cap3, e3, hl3, hm3⟩ := hks.form
    subst e3
    have hfit := ok_fits (x := (x : Nx (Ex f))) hok
    by_cases h1 : (x : Nx (Ex f)).op = 1
    · obtain ⟨_, _, hw, _⟩ := fits_one hfit h1
      have := wone_any gw (x : Nx (Ex f)).days (x : Nx (Ex f)).mile _ _ _ w rfl (word_sixteen hw).1 hp (k3 := .slice A3 (x : Nx (Ex f)).kids.length cap3)
      have e : exprX (f + 1) x = textD (x : Nx (Ex f)).days ++ afterW ++ (x : Nx (Ex f)).mile := (expr_eq f x).trans (if_pos h1)
      rw [e, h1]
      exact this
    obtain ⟨h23, hd0, hm0, h2k⟩ := fits_many hfit h1
    have hr : exprX (f + 1) x = Lib.join ((x : Nx (Ex f)).kids.map fun u => brX (x : Nx (Ex f)).op (opX f u) (exprX f u)) (sepX (x : Nx (Ex f)).op) := wr_many f x h1
    have hlen := expr_len (f + 1) x d hok
    rw [hr] at hlen ⊢
    have hpart : ∀ (j : Nat) (hj : j < (x : Nx (Ex f)).kids.length), ((x : Nx (Ex f)).kids.map fun u => brX (x : Nx (Ex f)).op (opX f u) (exprX f u))[j]? = some (brX (x : Nx (Ex f)).op (opX f (x : Nx (Ex f)).kids[j]) (exprX f (x : Nx (Ex f)).kids[j])) := fun j hj => by
      rw [List.getElem?_map, List.getElem?_eq_getElem hj]; rfl
    have HPART := Lib.hid hpart
    have hpl : ((x : Nx (Ex f)).kids.map fun u => brX (x : Nx (Ex f)).op (opX f u) (exprX f u)).length = (x : Nx (Ex f)).kids.length := by simp
    have HKOK : Hid (∀ (j : Nat) (hj : j < (x : Nx (Ex f)).kids.length), okX f (x : Nx (Ex f)).kids[j] (d - 1) = true ∧ nodesX f (x : Nx (Ex f)).kids[j] ≤ 24 ∧ (exprX f (x : Nx (Ex f)).kids[j]).length ≤ 1000) := fun j hj => by
      have h1 := ok_kid (x := (x : Nx (Ex f))) hok (List.getElem_mem hj)
      have h2 := nodes_kid (x := (x : Nx (Ex f))) hj
      have h4 : nodesX f (x : Nx (Ex f)).kids[j] + (x : Nx (Ex f)).kids.length ≤ 24 := Nat.le_trans h2 hno
      have h3 := expr_len f _ (d - 1) h1
      exact ⟨h1, by omega, by omega⟩
    have hkl24 : (x : Nx (Ex f)).kids.length ≤ 24 := by
      have h2 := nodes_kid (x := (x : Nx (Ex f))) (j := 0) (by omega)
      have h4 : nodesX f (x : Nx (Ex f)).kids[0] + (x : Nx (Ex f)).kids.length ≤ 24 := Nat.le_trans h2 hno
      omega
    have hjl : (Lib.join ((x : Nx (Ex f)).kids.map fun u => brX (x : Nx (Ex f)).op (opX f u) (exprX f u)) (sepX (x : Nx (Ex f)).op)).length ≤ 1000000000 := by
      have h2 : nodesX (f + 1) x ≤ 24 := hno
      omega
    clear hlen hpart hok hno hfit hr h2k hdy hml
    rw [hd0, hm0]
    generalize ((x : Nx (Ex f)).kids.map fun u => brX (x : Nx (Ex f)).op (opX f u) (exprX f u)) = parts at *
    generalize (x : Nx (Ex f)).op = k at *
    generalize (x : Nx (Ex f)).kids = ks at *
    clear hd0 hm0 x
    obtain ⟨r, hr⟩ : ∃ r, r = Lib.join parts (sepX k) := ⟨_, rfl⟩
    rw [← hr] at hjl ⊢
    obtain ⟨kl, hkl⟩ : ∃ kl, kl = ks.length := ⟨_, rfl⟩
    rw [← hkl] at hks hl3 hpl hkl24 ⊢
    have HKL := Lib.hid hkl
    obtain ⟨sp, hsp⟩ : ∃ sp, sp = sepX k := ⟨_, rfl⟩
    have HJN : Hid (∀ (g : Nat) (W : World), RowT W g kl parts kl → Calls Tryd.prog 53 #[.slice (some ⟨g, 0, none⟩) kl kl, strV sp] W fun e w' => e = .returned (strV r) ∧ Below W.heap.size W w') := fun g W h => by
      have := join_any g 0 kl parts (sepX k) W (h.cells hpl) h.lt (by omega) (by omega) (by rw [← hr]; omega)
      rw [hpl, ← hr, ← hsp] at this
      exact this
    have HSP := Lib.hid hsp
    clear hkl hjl hr hsp
    have hmk := fun W => make_strs W kl (by omega)
    obtain ⟨C, hC⟩ : ∃ C : Array Value, C = Array.replicate kl (.string ⟨#[]⟩) := ⟨_, rfl⟩
    have B0 := (Below.refl w.heap.size w).alloc (Nat.le_refl _) (.cells #[.int .i64 k, .int .i64 0, strV [], .slice A3 kl cap3] 35)
    have K0 := KB.new w 35 #[.int .i64 k, .int .i64 0, strV [], .slice A3 kl cap3]
    have hgl := hg.lt
    have HGW : Hid (∀ W, Below w.heap.size w W → WrAt W gw) := fun W hb => KB.below hg hb hgl
    have HPW : Hid (∀ W, Below w.heap.size w W → Pow W) := fun W hb => hp.below hb
    have s0 : (w.alloc (.cells #[.int .i64 k, .int .i64 0, strV [], .slice A3 kl cap3] 35)).heap.size = w.heap.size + 1 := by simp
    have R1 := RowT.new (w.alloc (.cells #[.int .i64 k, .int .i64 0, strV [], .slice A3 kl cap3] 35)) kl parts
    rw [← hC] at R1 hmk
    have K1 := K0.alloc (.cells C 9)
    have B1 := B0.alloc B0.size (.cells C 9)
    rw [s0] at R1
    have HR1 := Lib.hid R1
    have HB1 := Lib.hid B1
    clear R1 B1 B0 hC hg hp
    have E1 : (k == 1) = false := beq_eq_false_iff_ne.2 h1
    unfold strV at *
    obtain ⟨s0e, hs0e⟩ : ∃ s : ByteArray, s = ⟨([] : List UInt8).toArray⟩ := ⟨_, rfl⟩
    rw [← hs0e] at K0 K1 HR1 HB1 s0 ⊢
    clear hs0e
    generalize (⟨r.toArray⟩ : ByteArray) = sr at *
    go_enter Tryd.func51, Tryd.ntmps51
    go_wp2_with fail
    clear E1 hmk K0
    go_loopw [25] (fun iv wr => ∃ j : Nat, j ≤ kl ∧ iv = .int .i64 j ∧ RowT wr (w.heap.size + 1) kl parts j ∧ KB wr w.heap.size 35 #[.int .i64 k, .int .i64 0, .string s0e, .slice A3 kl cap3] ∧ Below w.heap.size w wr) (fun iv _ => kl - (intOf iv).toNat)
    case atStart => exact ⟨0, by omega, rfl, HR1.out, K1, HB1.out⟩
    case round =>
      clear HR1 HB1 K1
      obtain ⟨j, hj, rfl, R, K, B⟩ := hrel
      by_cases hlt : j < kl
      · have hltI : (j : Int) < (kl : Int) := by omega
        have hjk : j < ks.length := by rw [← HKL.out]; exact hlt
        obtain ⟨b, o, e0, e1, e2, e3, rfl, hb, k0, k1, k2, k3, hv⟩ := kid_b hks HKL.out.symm B j hjk
        obtain ⟨hko, hkn, hkt⟩ := HKOK.out j hjk
        have bal := B.alloc B.size (.cells #[e0, e1, e2, e3] 35)
        have hc := ih ks[j] (d - 1) _ (wr.alloc (.cells #[e0, e1, e2, e3] 35)) hko hkn (HGW.out _ bal) (HPW.out _ bal) (hv.alloc _)
        have HPJ : Hid (parts[j]? = some (brX k (opX f ks[j]) (exprX f ks[j]))) := HPART.out j hjk
        obtain ⟨_, _, _, _, e, hx4⟩ := hv
        injection e with e
        simp only [Array.mk.injEq, List.cons.injEq, and_true] at e
        obtain ⟨rfl, rfl, rfl, rfl⟩ := e
        obtain ⟨eo, _⟩ := hx4.op_cell
        obtain ⟨i0, i1, l2, X3, n3, z3, rfl, rfl, rfl, rfl⟩ := hx4.form
        injection eo with _ eo
        subst eo
        have qw : wr.cell? ⟨gw, 0, none⟩ = some (.func (.func 51) #[] #[.pointer (some ⟨gw, 0, none⟩)]) := (HGW.out wr B).cell 0
        have hgl2 : gw < wr.heap.size := Nat.lt_of_lt_of_le hgl B.size
        have hbr : b < wr.heap.size := Nat.lt_of_lt_of_le hb B.size
        have hgs : w.heap.size + 1 < wr.heap.size := R.lt
        have kk := KB.new wr 35 #[.int .i64 (opX f ks[j]), .int .i64 i1, strV l2, .slice X3 n3 z3]
        have R2 := R.alloc (.cells #[.int .i64 (opX f ks[j]), .int .i64 i1, strV l2, .slice X3 n3 z3] 35)
        have kx2 := K.alloc (.cells #[.int .i64 (opX f ks[j]), .int .i64 i1, strV l2, .slice X3 n3 z3] 35)
        have B2 := B.alloc B.size (.cells #[.int .i64 (opX f ks[j]), .int .i64 i1, strV l2, .slice X3 n3 z3] 35)
        have ha1 := txt_add [40] (exprX f ks[j]) (by simp; omega)
        have ha2 := txt_add (40 :: exprX f ks[j]) [41] (by simp; omega)
        have HRS := Lib.hid (fun (W : World) (h : RowT W (w.heap.size + 1) kl parts j) (q : List UInt8) => h.store hlt q)
        unfold strV at *
        generalize (⟨l2.toArray⟩ : ByteArray) = s2 at *
        clear hx4 hko hkn bal hkt R K
        generalize opX f ks[j] = ko at *
        generalize exprX f ks[j] = tx at *
        obtain ⟨s5, hs5⟩ : ∃ s : ByteArray, s = ⟨tx.toArray⟩ := ⟨_, rfl⟩
        obtain ⟨s6, hs6⟩ : ∃ s : ByteArray, s = ⟨(40 :: tx).toArray⟩ := ⟨_, rfl⟩
        obtain ⟨s7, hs7⟩ : ∃ s : ByteArray, s = ⟨(40 :: (tx ++ [41])).toArray⟩ := ⟨_, rfl⟩
        rw [show ([40] : List UInt8) ++ tx = 40 :: tx from rfl, ← hs6, ← hs5] at ha1
        rw [show (40 :: tx) ++ [41] = 40 :: (tx ++ [41]) from rfl, ← hs6, ← hs7] at ha2
        rw [← hs5] at hc
        have HRS5 : Hid (∀ (W : World), RowT W (w.heap.size + 1) kl parts j → RowT (W.setCell ⟨w.heap.size + 1, j, none⟩ (.string s5)) (w.heap.size + 1) kl parts j ∧ (W.setCell ⟨w.heap.size + 1, j, none⟩ (.string s5)).cell? ⟨w.heap.size + 1, j, none⟩ = some (.string s5) ∧ (parts[j]? = some tx → RowT (W.setCell ⟨w.heap.size + 1, j, none⟩ (.string s5)) (w.heap.size + 1) kl parts (j + 1))) := fun W h => by rw [hs5]; exact HRS.out W h tx
        have HRS7 : Hid (∀ (W : World), RowT W (w.heap.size + 1) kl parts j → parts[j]? = some (40 :: (tx ++ [41])) → RowT (W.setCell ⟨w.heap.size + 1, j, none⟩ (.string s7)) (w.heap.size + 1) kl parts (j + 1)) := fun W h => by rw [hs7]; exact (HRS.out W h _).2.2
        clear hs5 hs6 hs7 HRS
        go_wp2_with fail
        refine hc.mono ?_
        rintro e w5 ⟨rfl, b5⟩
        have R5 := R2.below b5 R2.lt
        have kk5 := kk.below b5 kk.lt
        have kx5 := kx2.below b5 kx2.lt
        have B5 := B2.trans (b5.mono B2.size)
        obtain ⟨sj, t5, f5⟩ := R5.there hlt
        obtain ⟨R6, t6, R6'⟩ := HRS5.out w5 R5
        obtain ⟨sj6, _, f6⟩ := R6.there hlt
        have kk6 := kk5.aside (h := w.heap.size + 1) (i := j) (v := .string s5) (by omega)
        have kx6 := kx5.aside (h := w.heap.size + 1) (i := j) (v := .string s5) (by omega)
        have q0 := kk6.cell 0
        have p0 := kx6.cell 0
        have hs5 : w.heap.size + 1 < w5.heap.size := R5.lt
        have B6 := B5.setCell (p := ⟨w.heap.size + 1, j, none⟩) (by simp) (.string s5)
        have B7 := B6.setCell (p := ⟨w.heap.size + 1, j, none⟩) (by simp) (.string s7)
        have HR6 := Lib.hid R6
        have HR6' := Lib.hid R6'
        have HB6 := Lib.hid B6
        have HB7 := Lib.hid B7
        have HK6 := Lib.hid kx6
        have HK7 := Lib.hid (kx6.aside (h := w.heap.size + 1) (i := j) (v := .string s7) (by omega))
        clear hc R2 R5 kk kk5 kk6 kx2 kx5 kx6 B B2 B5 B6 B7 b5 R6 R6' k0 k1 k2 k3 qw hks

        by_cases h2 : ko = 2
        · have D2 : (ko == 2) = true := beq_iff_eq.2 h2
          have hpj := HPJ.out
          rw [br_yes tx (.inl h2)] at hpj
          have HR7 := Lib.hid (HRS7.out _ HR6.out hpj)
          clear hpj HR6 HR6' HRS5 HRS7 h2
          go_wp2_with fail
          go_roundw
          case rel => exact ⟨j + 1, by omega, by go_num, HR7.out, HK7.out, HB7.out⟩
          case measure => simp [intOf]; omega
        have D2 : (ko == 2) = false := beq_eq_false_iff_ne.2 h2
        by_cases h3 : ko = 3
        · have D3 : (ko == 3) = true := beq_iff_eq.2 h3
          by_cases h4 : k = 3
          · have D4 : (k == 3) = true := beq_iff_eq.2 h4
            have hpj := HPJ.out
            rw [br_yes tx (.inr ⟨h3, h4⟩)] at hpj
            have HR7 := Lib.hid (HRS7.out _ HR6.out hpj)
            clear hpj HR6 HR6' HRS5 HRS7 h2 h3 h4
            go_wp2_with fail
            go_roundw
            case rel => exact ⟨j + 1, by omega, by go_num, HR7.out, HK7.out, HB7.out⟩
            case measure => simp [intOf]; omega
          · have D4 : (k == 3) = false := beq_eq_false_iff_ne.2 h4
            have hpj := HPJ.out
            rw [br_no tx h2 (fun _ => h4)] at hpj
            have HR7 := Lib.hid (HR6'.out hpj)
            clear hpj HR6 HR6' HRS5 HRS7 h2 h3 h4
            go_wp2_with fail
            go_roundw
            case rel => exact ⟨j + 1, by omega, by go_num, HR7.out, HK6.out, HB6.out⟩
            case measure => simp [intOf]; omega
        have D3 : (ko == 3) = false := beq_eq_false_iff_ne.2 h3
        have hpj := HPJ.out
        rw [br_no tx h2 (fun h => absurd h h3)] at hpj
        have HR7 := Lib.hid (HR6'.out hpj)
        clear hpj HR6 HR6' HRS5 HRS7 h2 h3
        go_wp2_with fail
        go_roundw
        case rel => exact ⟨j + 1, by omega, by go_num, HR7.out, HK6.out, HB6.out⟩
        case measure => simp [intOf]; omega
      · obtain rfl : j = kl := by omega
        have hq0 := K.cell 0
        by_cases h4 : k = 3
        · have D4 : (k == 3) = true := beq_iff_eq.2 h4
          have e : sp = [32, 97, 110, 100, 32] := by rw [HSP.out]; unfold sepX; rw [if_pos h4]
          have hjn := HJN.out _ wr R
          rw [e] at hjn
          have ha1 := txt_add [32] [97, 110, 100] (by simp)
          have ha2 := txt_add [32, 97, 110, 100] [32] (by simp)
          clear HPART HKOK HJN HSP hks e h4
          go_wp2_with fail
          refine hjn.mono ?_
          rintro e w5 ⟨rfl, b5⟩
          have B5 := B.trans (b5.mono B.size)
          clear hjn
          go_wp2_with fail
          go_ret
          exact ⟨rfl, B5⟩
        · have D4 : (k == 3) = false := beq_eq_false_iff_ne.2 h4
          have e : sp = [32, 111, 114, 32] := by rw [HSP.out]; unfold sepX; rw [if_neg h4]
          have hjn := HJN.out _ wr R
          rw [e] at hjn
          have ha1 := txt_add [32] [111, 114] (by simp)
          have ha2 := txt_add [32, 111, 114] [32] (by simp)
          clear HPART HKOK HJN HSP hks e h4
          go_wp2_with fail
          refine hjn.mono ?_
          rintro e w5 ⟨rfl, b5⟩
          have B5 := B.trans (b5.mono B.size)
          clear hjn
          go_wp2_with fail
          go_ret
          exact ⟨rfl, B5⟩
end Go.Proofs.YtbhebjkicooidaaDoor
