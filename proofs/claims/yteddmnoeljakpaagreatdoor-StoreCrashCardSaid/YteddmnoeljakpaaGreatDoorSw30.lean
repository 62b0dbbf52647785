/-
  StJ: What of a store is free, and its files' names; over the loaded program: Free, List: each one's contract. No condition but what each theorem names.
  StP: Whether a list finds room, and what it costs, over the loaded program: fits, cost: each one's contract. No condition but what each theorem names.
  StS: Changes in memory: rows of eight cells; what becomes of a list, one by one, plainly. No condition but what each theorem names.
-/
import Derived.Test.YteddmnoeljakpaaGreatDoorSw28
import Derived.Test.YteddmnoeljakpaaGreatDoorSw05
import Derived.Test.YteddmnoeljakpaaGreatDoorLayT
import Derived.Test.YteddmnoeljakpaaGreatDoorSw22
import Derived.Test.YteddmnoeljakpaaGreatDoorSw25
set_option linter.unusedVariables false
set_option maxRecDepth 100000
namespace Go.Proofs.YteddmnoeljakpaaGreatDoor
section
open Go.RowKit Go.Maps Go.Sort
section
variable {w : World} {a : SA} {c : CI} {nl : List Nd} {s : Dk} {br : Bool}
def usC (c : CI) (nl : List Nd) : Nat := countS ((List.range c.cn.data).map (usN nl))
theorem usC_le (c : CI) (nl : List Nd) : usC c nl ≤ c.cn.data := by
  unfold usC countS
  have := selK_le (usedF ((List.range c.cn.data).map (usN nl))) ((List.range c.cn.data).map (usN nl)).length
  simpa using this
set_option maxHeartbeats 4000000 in
theorem sfree_any (h : ST w a c nl s br) : Calls Tryz.prog 31 #[.pointer (some ⟨a.sg, 0, none⟩)] w fun e w' =>
    e = .returned (.tuple #[.int .i64 ((c.cn.files : Int) - (nl.length : Int)), .int .i64 ((c.cn.data : Int) - (usC c nl : Int))]) ∧ Below w.heap.size w w' := by
  have hm := smade_any h
  have c3 := h.c3
  have c5 := h.c5
  have c6 := h.c6
  rw [h.files_nat] at c3
  rw [h.data_nat] at c5
  have hf := h.few
  have hd := usC_le c nl
  have hok := h.may.ok
  have hu := fun (n : Nat) => used_any (h.drewN n)
  have hcn := fun (W : World) (u : Nat) (k : KB W u 4 (rowB c.cn.data (usN nl))) => count_any _ _ _ W (k.bo (by have := hok.data2; unfold maxLen; omega))
  have hlen : ∀ W : World, Below w.heap.size w W → (Builtin.len_ #[80] 3 #[.map (some a.m)]).run Tryz.prog W = .ok (.int .i64 (nl.length : Int)) W := fun W b => by
    obtain ⟨g, h1, _⟩ := (h.below b).mf
    exact h1.len Tryz.underlying80 _
  have hcell : ∀ W : World, Below w.heap.size w W → W.cell? ⟨a.sg, 3, none⟩ = some (.int .i64 (c.cn.files : Int)) ∧ W.cell? ⟨a.sg, 5, none⟩ = some (.int .i64 (c.cn.data : Int)) ∧ W.cell? ⟨a.sg, 6, none⟩ = some (.map (some a.m)) := fun W b => by
    have hk := b.block a.sg h.kb.lt
    exact ⟨(World.cell?_of_block (w := w) hk).trans c3, (World.cell?_of_block (w := w) hk).trans c5, (World.cell?_of_block (w := w) hk).trans c6⟩
  unfold usC at hd ⊢
  generalize countS ((List.range c.cn.data).map (usN nl)) = U at *
  have hd2 := hok.data2
  have hf2 := hok.files2
  clear c3 c5 c6 hok
  generalize c.cn.data = D at *
  generalize c.cn.files = F at *
  generalize nl.length = k at *
  have e1 : IntKind.i64.wrap ((F : Int) - (k : Int)) = (F : Int) - (k : Int) := by rw [IntKind.wrap_i64]; omega
  have e2 : IntKind.i64.wrap ((D : Int) - (U : Int)) = (D : Int) - (U : Int) := by rw [IntKind.wrap_i64]; omega
  clear h hd hd2 hf hf2
  go_enter Tryz.func31, Tryz.ntmps31
  go_wp2_with (go_at_call 42; refine hm.mono ?_; rintro e w' ⟨rfl, rfl⟩)
  rename_i KK hKK
  have HKK := Lib.hid hKK
  clear hKK
  have HC : Hid (∀ W, Below w.heap.size w W → W.cell? ⟨a.sg, 3, none⟩ = some (.int .i64 (F : Int)) ∧ W.cell? ⟨a.sg, 5, none⟩ = some (.int .i64 (D : Int)) ∧ W.cell? ⟨a.sg, 6, none⟩ = some (.map (some a.m)) ∧ (Builtin.len_ #[80] 3 #[.map (some a.m)]).run Tryz.prog W = .ok (.int .i64 (k : Int)) W) :=
    fun W b => ⟨(hcell W b).1, (hcell W b).2.1, (hcell W b).2.2, hlen W b⟩
  clear hcell hlen
  have B := Below_drawn (Below.refl w.heap.size w) 1
  refine wp_region_held_drew (S := (fun W => W.cell? ⟨a.sg, 3, none⟩ = some (.int .i64 (F : Int)) ∧ W.cell? ⟨a.sg, 5, none⟩ = some (.int .i64 (D : Int)) ∧ W.cell? ⟨a.sg, 6, none⟩ = some (.map (some a.m)) ∧ (Builtin.len_ #[80] 3 #[.map (some a.m)]).run Tryz.prog W = .ok (.int .i64 (k : Int)) W)) (by kernel_rfl) (HC.out _ B) (fun hHeld => ?_)
  refine hyY (some 7) 0 rfl hHeld ?_; go_frame
  refine hyY (some 8) 1 rfl hHeld ?_; go_frame
  refine hyY (some 9) 2 rfl hHeld ?_; go_frame
  refine hyY (some 10) 3 rfl hHeld ?_; go_frame
  refine hyY (some 11) 4 rfl hHeld ?_; go_frame
  refine hyY (some 12) 5 rfl hHeld ?_; go_frame
  refine hyY (some 13) 6 rfl hHeld ?_; go_frame
  refine hyY (some 14) 7 rfl hHeld ?_; go_frame
  refine hyY (some 15) 8 rfl hHeld ?_; go_frame
  refine hyY (some 16) 9 rfl hHeld ?_; go_frame
  refine hyY (some 17) 10 rfl hHeld ?_; go_frame
  refine hyY (some 18) 11 rfl hHeld ?_; go_frame
  refine hyY (some 19) 12 rfl hHeld ?_; go_frame
  refine hyY (some 20) 13 rfl hHeld ?_; go_frame
  refine hyY (some 21) 14 rfl hHeld ?_; go_frame
  refine hyY (some 22) 15 rfl hHeld ?_; go_frame
  refine hyY (some 23) 16 rfl hHeld ?_; go_frame
  refine hyO (some 24) 17 rfl (fun K hK => ?_)
  go_simp
  go_at_call 69
  refine (hu 1).mono ?_
  rintro e w2 ⟨rfl, k2, b2⟩
  replace B := B.trans b2
  clear b2
  go_wp2_with fail
  refine hK.out _ _ ?_ (fun hH2 => ?_)
  · exact HC.out _ B
  clear hHeld hK K; have hHeld := hH2; clear hH2; try go_frame
  refine hyO (some 25) 18 rfl (fun K hK => ?_)
  go_simp
  go_at_call 68
  refine (hcn _ _ k2).mono ?_
  rintro e w' ⟨rfl, rfl⟩
  go_wp2_with fail
  refine hK.out _ _ ?_ (fun hH2 => ?_)
  · exact HC.out _ B
  clear hHeld hK K; have hHeld := hH2; clear hH2; try go_frame
  refine hyY (some 26) 19 rfl hHeld ?_; go_frame
  refine hyY (some 2) 20 rfl hHeld ?_; go_frame
  refine hyY (some 3) 21 rfl hHeld ?_; go_frame
  refine wpAnyH_done (by kernel_rfl) ?_ _
  have hKK := HKK.out
  go_wp2_with fail
  go_ret2
  exact ⟨rfl, B⟩
theorem sfree_nil (w : World) : Calls Tryz.prog 31 #[.pointer none] w fun e w' => e = .returned (.tuple #[.int .i64 0, .int .i64 0]) ∧ w = w' := by
  have hm := smade_nil w
  go_enter Tryz.func31, Tryz.ntmps31
  go_wp2_with (go_at_call 42; refine hm.mono ?_; rintro e w' ⟨rfl, rfl⟩)
  go_ret2
  exact ⟨rfl, rfl⟩
def namesN (nl : List Nd) : List (List UInt8) := (nl.map (·.2.name)).mergeSort leB
theorem sortsT_in (m : Nat) : AnyZ.SortsIn Tryz.prog Tryz.laysSortedT_ren Fence.wide m :=
  ⟨fun blk off cap ss W hH hblk hsz => callsIn_wide.2 (AnyM.slices_Sort_string Tryz.laysSortT blk off cap ss W hH hblk hsz),
   fun p cap W => callsIn_wide.2 (AnyM.slices_Sort_string_none Tryz.laysSortT p cap W)⟩
theorem skeys_any (m : Option Nat) (w : World) : Calls Tryz.prog 67 #[.map m] w fun e w' =>
    e = .returned (.func (.func 108) #[] #[.pointer (some ⟨w.heap.size, 0, none⟩)]) ∧ w' = w.alloc (.cells #[.map m] 80) :=
  (callsIn_wide (n := 5)).1 (AnyZ.keys_in Tryz.laysKeysT Fence.wide 5 trivial rfl m w)
set_option maxHeartbeats 1000000 in
theorem ssorted_any (m : Nat) (S : Nat → Prop) (w : World) (h : MF w m S nl) (hN : nl.length ≤ 1000000) :
    Calls Tryz.prog 66 #[.func (.func 108) #[] #[.pointer (some ⟨w.heap.size, 0, none⟩)]] (w.alloc (.cells #[.map (some m)] 80)) fun e w' =>
      ∃ v, e = .returned v ∧ w'.ownsRow w.heap.size 9 1 v (namesN nl).length ((namesN nl).map strV) ∧ Below w.heap.size w w' := by
  obtain ⟨g, ⟨D, hown, ht⟩, hn, h3, h4⟩ := h
  have hbl := hown.lt
  have hsz : Maps.size D ≤ nl.length := hown.size_le
  have hseq : SeqGives Fence.wide 2 Tryz.prog 108 #[.pointer (some ⟨w.heap.size, 0, none⟩)] encStr (fun ss => ss.Perm (strKeys D)) (Maps.size D) (w.alloc (.cells #[.map (some m)] 80)) :=
    AnyZ.keys_gives (ρ := Tryz.laysKeysT_ren) { Tryz.laysKeysT with } Fence.wide _ trivial rfl (by omega) w.heap.size m nl.length D _ (by simp) (by simp) (by
      obtain ⟨es, clock, hb, Ft, hs, hD⟩ := hown
      exact ⟨es, clock, (Below.heap_alloc _ _ m hbl).trans hb, Ft, hs, hD⟩)
  have hc := AnyZ.sorted_in Tryz.laysSortedT Fence.wide 5 trivial trivial trivial trivial rfl (by omega) (sortsT_in _) (enters_of Tryz.func107 (by kernel_rfl) rfl) 108 #[.pointer (some ⟨w.heap.size, 0, none⟩)] trivial (enters_of Tryz.func108 (by kernel_rfl) rfl) _ _ (by unfold maxLen; omega) (by omega) _ hseq
  refine ((callsIn_wide (n := 5)).1 hc).mono ?_
  rintro e w' ⟨v, ss, rfl, hS, hrow, _, hb⟩
  refine ⟨v, rfl, ?_, ((Below.refl _ w).alloc (Nat.le_refl _) _).trans (hb.mono (by simp))⟩
  have hp : (nl.map (·.2.name)).Perm (strKeys D) := by
    obtain ⟨es, hD, hpw, _⟩ := hown.entries law_str
    obtain ⟨es', hD', hko⟩ := hown.keysOf
    obtain rfl : es = es' := by rw [hD] at hD'; simpa using hD'
    subst hD
    refine perm_strKeys hpw (fun p hp => ?_) hn fun x => ?_
    · obtain ⟨v, hv⟩ := hko p hp
      obtain ⟨n, _, e⟩ := str_inv hv
      exact ⟨n, e⟩
    · rw [ht.has x, List.mem_map]
      constructor
      · rintro ⟨q, hq, rfl⟩
        obtain ⟨v, e, _⟩ := h4 _ q (lookN_mem hn hq)
        rw [e]
        rfl
      · intro hx
        cases hl : lookN nl x with
        | none => rw [h3 x hl] at hx; cases hx
        | some q => exact ⟨q, (lookN_some hl).1, (lookN_some hl).2⟩
  have e1 : ss.mergeSort leB = namesN nl := mergeSort_of_perm (hS.trans hp.symm)
  have e2 : ss.length = (namesN nl).length := by rw [← e1, List.length_mergeSort]
  rw [show (ss.mergeSort fun x y => decide (x ≤ y)) = namesN nl from e1, e2] at hrow
  exact own_base hrow (by simp)
set_option maxHeartbeats 1000000 in
theorem slist_any (h : ST w a c nl s br) : Calls Tryz.prog 27 #[.pointer (some ⟨a.sg, 0, none⟩)] w fun e w' =>
    ∃ v, e = .returned v ∧ w'.ownsRow w.heap.size 9 1 v (namesN nl).length ((namesN nl).map strV) ∧ Below w.heap.size w w' := by
  have hm := smade_any h
  have c6 := h.c6
  have hs := ssorted_any a.m _ w h.mf (by have := h.few; have := h.may.ok.files2; omega)
  have hk := fun (W : World) => skeys_any (some a.m) W
  clear h
  go_enter Tryz.func27, Tryz.ntmps27
  go_wp2_with (go_at_call 42; refine hm.mono ?_; rintro e w' ⟨rfl, rfl⟩)
  refine (hk _).mono ?_
  rintro e w2 ⟨rfl, rfl⟩
  go_wp2_with fail
  refine hs.mono ?_
  rintro e w3 ⟨v, rfl, how, b3⟩
  go_wp2_with fail
  go_ret
  exact ⟨v, rfl, how, b3⟩
theorem slist_nil (w : World) : Calls Tryz.prog 27 #[.pointer none] w fun e w' => e = .returned (.slice none 0 0) ∧ w = w' := by
  have hm := smade_nil w
  go_enter Tryz.func27, Tryz.ntmps27
  go_wp2_with (go_at_call 42; refine hm.mono ?_; rintro e w' ⟨rfl, rfl⟩)
  go_ret
  exact ⟨rfl, rfl⟩
end
end
section
open Go.RowKit
def mapN (nl : List Nd) : MapF := fun n => (lookN nl n).map fun q => (q.1, q.2.at_)
theorem had_map (nl : List Nd) (n : List UInt8) : hadM (mapN nl) n = hadN nl n := by
 unfold hadM mapN hadN
 rw [Option.map_map]
 rfl
theorem fresh_succ (m : MapF) {l : List Fi} {k : Nat} {f : Fi} (h : l[k]? = some f) : freshC m (l.take (k + 1)) = freshC m (l.take k) + (if (m f.name).isSome = true then 0 else 1) := by
 have hk := (List.getElem?_eq_some_iff.1 h).1
 have e := (List.getElem?_eq_some_iff.1 h).2
 unfold freshC
 rw [List.take_succ_eq_append_getElem hk, List.countP_append, e]
 cases hm : m f.name <;> simp [hm]
theorem grow_succ (m : MapF) {l : List Fi} {k : Nat} {f : Fi} (h : l[k]? = some f) : growC m (l.take (k + 1)) = growC m (l.take k) + (pagesN f.b.length - (hadM m f.name).length) := by
 have hk := (List.getElem?_eq_some_iff.1 h).1
 have e := (List.getElem?_eq_some_iff.1 h).2
 unfold growC
 rw [List.take_succ_eq_append_getElem hk, List.map_append, List.sum_append, e]
 simp
theorem cost_succ (m : MapF) {l : List Fi} {k : Nat} {f : Fi} (h : l[k]? = some f) : costC m (l.take (k + 1)) = costC m (l.take k) + (1 + max (hadM m f.name).length (pagesN f.b.length)) := by
 have hk := (List.getElem?_eq_some_iff.1 h).1
 have e := (List.getElem?_eq_some_iff.1 h).2
 unfold costC
 rw [List.take_succ_eq_append_getElem hk, List.map_append, List.sum_append, e]
 simp
theorem fresh_le (m : MapF) (l : List Fi) : freshC m l ≤ l.length := List.countP_le_length
theorem grow_le (m : MapF) : ∀ {l : List Fi}, (∀ f ∈ l, f.b.length ≤ 24576) → growC m l ≤ 96 * l.length
 | [], _ => Nat.le_refl _
 | f :: r, h => by
  have h1 := grow_le m (l := r) fun g hg => h g (by simp [hg])
  have h2 := h f (by simp)
  have h3 : pagesN f.b.length ≤ 96 := by unfold pagesN; omega
  unfold growC at *
  rw [List.map_cons, List.sum_cons, List.length_cons]
  omega
theorem cost_le (m : MapF) (hm : ∀ n, (hadM m n).length ≤ 96) : ∀ {l : List Fi}, (∀ f ∈ l, f.b.length ≤ 24576) → costC m l ≤ 97 * l.length
 | [], _ => Nat.le_refl _
 | f :: r, h => by
  have h1 := cost_le m hm (l := r) fun g hg => h g (by simp [hg])
  have h2 := h f (by simp)
  have h3 : pagesN f.b.length ≤ 96 := by unfold pagesN; omega
  have h4 := hm f.name
  unfold costC at *
  rw [List.map_cons, List.sum_cons, List.length_cons]
  omega
section
variable {w : World} {a : SA} {c : CI} {nl : List Nd} {s : Dk} {br : Bool}
theorem ST.had_few (h : ST w a c nl s br) (n : List UInt8) : (hadN nl n).length ≤ 96 := by
 unfold hadN
 cases hl : lookN nl n with
 | none => simp
 | some q =>
  obtain ⟨_, _, f3, f4, _⟩ := (fit_iff _ _).1 (h.fit q (lookN_some hl).1).2
  have hps : pagesS q.2.size = (pagesN q.2.size.toNat : Int) := by
   have := pages_nat q.2.size.toNat
   rwa [show ((q.2.size.toNat : Nat) : Int) = q.2.size by omega] at this
  rw [hps] at f4
  unfold pagesN at f4
  show q.2.at_.length ≤ 96
  omega
set_option maxHeartbeats 8000000 in
theorem fits_any (h : ST w a c nl s br) (S : Nat → Prop) (v : Value) (l : List Fi) (hv : FS w S v l) (hl : l.length ≤ 1000000) (hb : ∀ f ∈ l, f.b.length ≤ 24576) :
  Calls Tryz.prog 48 #[.pointer (some ⟨a.sg, 0, none⟩), v] w fun e w' =>
   e = .returned (.bool (decide ((freshC (mapN nl) l : Int) ≤ (c.cn.files : Int) - (nl.length : Int)) && decide ((growC (mapN nl) l : Int) ≤ (c.cn.data : Int) - (usC c nl : Int)))) ∧ Below w.heap.size w w' := by
 obtain ⟨A, cp, rfl, hlc, hcm⟩ := hv.form
 have hfree := fun (W : World) (b : Below w.heap.size w W) => sfree_any (h.below b)
 have hGL := grow_le (mapN nl) hb
 have hFL := fresh_le (mapN nl) l
 have hfew := h.had_few
 have hmf := h.mf
 have hC : ∀ W, Below w.heap.size w W → W.cell? ⟨a.sg, 6, none⟩ = some (.map (some a.m)) := fun W b => (h.below b).c6
 have hsg := h.kb.lt
 have HFREE := Lib.hid hfree
 clear hfree
 generalize (c.cn.files : Int) - (nl.length : Int) = F1 at *
 generalize (c.cn.data : Int) - (usC c nl : Int) = D1 at *
 have hl63 : l.length ≤ 9223372036854775807 := by omega
 have HB := Lib.hid hb
 obtain ⟨R, hR⟩ : ∃ R, R = (decide ((freshC (mapN nl) l : Int) ≤ F1) && decide ((growC (mapN nl) l : Int) ≤ D1)) := ⟨_, rfl⟩
 rw [← hR]
 have HR := Lib.hid hR
 clear h hb hR
 go_enter Tryz.func48, Tryz.ntmps48
 go_wp2_with fail
 go_loopw [5, 6, 15] (fun xv yv iv wr => ∃ k F G : Nat, k ≤ l.length ∧ iv = .int .i64 k ∧ xv = .int .i64 F ∧ yv = .int .i64 G ∧ Hid (F = freshC (mapN nl) (l.take k)) ∧ Hid (G = growC (mapN nl) (l.take k)) ∧ Below w.heap.size w wr) (fun _ _ iv _ => l.length - (intOf iv).toNat)
 case atStart => exact ⟨0, 0, 0, by omega, rfl, rfl, rfl, rfl, rfl, Below.refl _ _⟩
 case round =>
  obtain ⟨k, F, G, hk, rfl, rfl, rfl, HF, HG, bl⟩ := hrel
  by_cases hlt : k < l.length
  ·obtain ⟨b, o, rfl, _, _, hx⟩ := (hv.below' bl).at_ (by omega)
   obtain ⟨f, hf⟩ : ∃ f, l[k]? = some f := ⟨_, List.getElem?_eq_getElem hlt⟩
   obtain ⟨k0, hnm, ⟨X, z, k1, _⟩, k2⟩ := hx k f hf
   obtain ⟨qn, zz, A2, cp2, _, hlk⟩ := hmf.file hnm
   have hf24 := HB.out f (List.mem_of_getElem? hf)
   have HF1 := Lib.hid (fresh_succ (mapN nl) hf)
   have HG1 := Lib.hid (grow_succ (mapN nl) hf)
   have hFk : F ≤ k := by
    rw [HF.out]
    have := fresh_le (mapN nl) (l.take k)
    rw [List.length_take] at this
    omega
   have hGk : G ≤ 96 * k := by
    rw [HG.out]
    have := grow_le (mapN nl) (l := l.take k) fun g hg => HB.out g (List.mem_of_mem_take hg)
    rw [List.length_take] at this
    omega
   have hms : (mapN nl f.name).isSome = (lookN nl f.name).isSome := by unfold mapN; cases lookN nl f.name <;> rfl
   have hhd := hfew f.name
   rw [hms] at HF1
   rw [had_map] at HG1
   have hpg := fun W => pages_any (f.b.length : Int) ⟨by omega, by omega⟩ W
   rw [pages_nat] at hpg
   have hpp : pagesN f.b.length ≤ 96 := by unfold pagesN; omega
   have hltI : (k : Int) < (l.length : Int) := by omega
   generalize (lookN nl f.name).isSome = th at *
   generalize (hadN nl f.name).length = hd at *
   generalize ((placeN nl f.name : Nat) : Int) = pl at *
   generalize pagesN f.b.length = pg at *
   generalize f.b.length = fb at *
   generalize f.gone = fg at *
   unfold strV at *
   generalize (⟨f.name.toArray⟩ : ByteArray) = fn at *
   clear hx hf hms hnm
   have K1 := KB.new wr 71 #[.string fn, .slice X fb z, .bool fg]
   have B1 := bl.alloc bl.size (.cells #[.string fn, .slice X fb z, .bool fg] 71)
   have hsz := bl.size
   go_wp2_with fail
   rename_i KK hKK
   have HKK := Lib.hid hKK
   clear hKK
   have HC : Hid (∀ W, KB W wr.heap.size 71 #[.string fn, .slice X fb z, .bool fg] → Below w.heap.size w W → W.cell? ⟨a.sg, 6, none⟩ = some (.map (some a.m)) ∧ W.cell? ⟨wr.heap.size, 0, none⟩ = some (.string fn) ∧ (Instr.lookup 80 (.map (some a.m)) (.string fn) true).run Tryz.prog W = .ok (.tuple #[.agg #[.int .i64 pl, .string qn, .int .i64 zz, .slice A2 hd cp2], .bool th]) W) :=
    fun W k b => ⟨hC W b, k.cell 0, (hlk W b).1⟩
   clear hlk
   generalize wr.alloc (.cells #[.string fn, .slice X fb z, .bool fg] 71) = w1 at *
   have hsz1 := B1.size
   have hw1 := K1.lt
   have K2 : ∀ o, KB (w1.alloc o).drew wr.heap.size 71 #[.string fn, .slice X fb z, .bool fg] := fun o => (K1.alloc o).drewN 1
   have B2 : ∀ o, Below w.heap.size w (w1.alloc o).drew := fun o => Below_drawn (B1.alloc hsz1 o) 1
   have K1d := K1.drewN 1
   have B1d := Below_drawn B1 1
   refine wp_region_held_drew (S := (fun W => W.cell? ⟨a.sg, 6, none⟩ = some (.map (some a.m)) ∧ W.cell? ⟨wr.heap.size, 0, none⟩ = some (.string fn) ∧ (Instr.lookup 80 (.map (some a.m)) (.string fn) true).run Tryz.prog W = .ok (.tuple #[.agg #[.int .i64 pl, .string qn, .int .i64 zz, .slice A2 hd cp2], .bool th]) W)) (by kernel_rfl) (HC.out _ K1d B1d) (fun hHeld => ?_)
   refine hyY (some 20) 0 rfl hHeld ?_; go_frame
   refine hyY (some 21) 1 rfl hHeld ?_; go_frame
   refine hyY (some 22) 2 rfl hHeld ?_; go_frame
   refine hyY (some 23) 3 rfl hHeld ?_; go_frame
   refine hyY (some 24) 4 rfl hHeld ?_; go_frame
   refine hyY (some 25) 5 rfl hHeld ?_; go_frame
   refine hyY (some 26) 6 rfl hHeld ?_; go_frame
   refine hyY (some 19) 7 rfl hHeld ?_; go_frame
   refine hyY (some 27) 8 rfl hHeld ?_; go_frame
   refine hyY (some 28) 9 rfl hHeld ?_; go_frame
   refine hyO (some 9) 10 rfl (fun K hK => ?_)
   go_simp
   refine hK.out _ _ ?_ (fun hH2 => ?_)
   ·first | exact HC.out _ K1d B1d | exact HC.out _ (K2 _) (B2 _)
   clear hHeld hK K; have hHeld := hH2; clear hH2; try go_frame
   refine hyO none 11 rfl (fun K hK => ?_)
   go_simp
   refine hK.out _ _ ?_ (fun hH2 => ?_)
   ·first | exact HC.out _ K1d B1d | exact HC.out _ (K2 _) (B2 _)
   clear hHeld hK K; have hHeld := hH2; clear hH2; try go_frame
   refine hyY (some 10) 12 rfl hHeld ?_; go_frame
   refine wpAnyH_done (by kernel_rfl) ?_ _
   skip
   have K3 := K2 (.cells #[.int .i64 pl, .string qn, .int .i64 zz, .slice A2 hd cp2] 93)
   have B3 := B2 (.cells #[.int .i64 pl, .string qn, .int .i64 zz, .slice A2 hd cp2] 93)
   have K4 : KB (w1.alloc (.cells #[.int .i64 pl, .string qn, .int .i64 zz, .slice A2 hd cp2] 93)).drew w1.heap.size 93 #[.int .i64 pl, .string qn, .int .i64 zz, .slice A2 hd cp2] := (KB.new w1 93 #[.int .i64 pl, .string qn, .int .i64 zz, .slice A2 hd cp2]).drewN 1
   clear K1 K2 B2 K1d B1d B1 hHeld HC
   generalize (w1.alloc (.cells #[.int .i64 pl, .string qn, .int .i64 zz, .slice A2 hd cp2] 93)).drew = w3 at *
   have hKK := HKK.out
   cases th with
   | false =>
    have eF : IntKind.i64.wrap ((F : Int) + 1) = ((F + 1 : Nat) : Int) := by rw [IntKind.wrap_i64]; omega
    have e1 : IntKind.i64.wrap ((pg : Int) - (hd : Int)) = (pg : Int) - (hd : Int) := by rw [IntKind.wrap_i64]; omega
    have emx : max (0 : Int) ((pg : Int) - (hd : Int)) = ((pg - hd : Nat) : Int) := by omega
    have e2 : IntKind.i64.wrap ((G : Int) + ((pg - hd : Nat) : Int)) = ((G + (pg - hd) : Nat) : Int) := by rw [IntKind.wrap_i64]; omega
    have HE := Lib.hid emx
    go_wp2_with fail
    rename_i KK2 hKK2
    have HKK2 := Lib.hid hKK2
    clear hKK2
    have HC2 : w3.drew.cell? ⟨wr.heap.size, 1, none⟩ = some (.slice X fb z) ∧ w3.drew.cell? ⟨w1.heap.size, 3, none⟩ = some (.slice A2 hd cp2) := ⟨(K3.drewN 1).cell 1, (K4.drewN 1).cell 3⟩
    refine wp_region_held_drew (S := (fun W => W.cell? ⟨wr.heap.size, 1, none⟩ = some (.slice X fb z) ∧ W.cell? ⟨w1.heap.size, 3, none⟩ = some (.slice A2 hd cp2))) (by kernel_rfl) HC2 (fun hHeld => ?_)
    refine hyY (some 33) 0 rfl hHeld ?_; go_frame
    refine hyY (some 34) 1 rfl hHeld ?_; go_frame
    refine hyY (some 35) 2 rfl hHeld ?_; go_frame
    refine hyY (some 36) 3 rfl hHeld ?_; go_frame
    refine hyY (some 38) 5 rfl hHeld ?_; go_frame
    refine hyY (some 39) 6 rfl hHeld ?_; go_frame
    refine hyY (some 40) 7 rfl hHeld ?_; go_frame
    refine hyY (some 41) 8 rfl hHeld ?_; go_frame
    refine hyO (some 37) 4 rfl (fun K hK => ?_)
    go_simp
    go_at_call 74
    refine (hpg _).mono ?_
    rintro e w' ⟨rfl, rfl⟩
    go_wp2_with fail
    refine hK.out _ _ ?_ (fun hH2 => ?_)
    ·exact hHeld
    clear hHeld hK K; have hHeld := hH2; clear hH2; try go_frame
    refine hyY (some 42) 9 rfl hHeld ?_; go_frame
    refine hyY (some 43) 10 rfl hHeld ?_; go_frame
    refine hyY (some 44) 11 rfl hHeld ?_; go_frame
    refine hyY (some 6) 12 rfl hHeld ?_; go_frame
    refine wpAnyH_done (by kernel_rfl) ?_ _
    have hKK2 := HKK2.out
    have B4 := Below_drawn B3 1
    go_wp2_with fail
    go_roundw
    case rel => exact ⟨k + 1, F + 1, G + (pg - hd), by omega, by go_num, by go_num, by go_num, by rw [HF1.out, ← HF.out]; rfl, by show _ = _; rw [HG1.out, ← HG.out], B4⟩
    case measure => simp [intOf]; omega
   | true =>
    have e1 : IntKind.i64.wrap ((pg : Int) - (hd : Int)) = (pg : Int) - (hd : Int) := by rw [IntKind.wrap_i64]; omega
    have emx : max (0 : Int) ((pg : Int) - (hd : Int)) = ((pg - hd : Nat) : Int) := by omega
    have e2 : IntKind.i64.wrap ((G : Int) + ((pg - hd : Nat) : Int)) = ((G + (pg - hd) : Nat) : Int) := by rw [IntKind.wrap_i64]; omega
    have HE := Lib.hid emx
    go_wp2_with fail
    rename_i KK2 hKK2
    have HKK2 := Lib.hid hKK2
    clear hKK2
    have HC2 : w3.drew.cell? ⟨wr.heap.size, 1, none⟩ = some (.slice X fb z) ∧ w3.drew.cell? ⟨w1.heap.size, 3, none⟩ = some (.slice A2 hd cp2) := ⟨(K3.drewN 1).cell 1, (K4.drewN 1).cell 3⟩
    refine wp_region_held_drew (S := (fun W => W.cell? ⟨wr.heap.size, 1, none⟩ = some (.slice X fb z) ∧ W.cell? ⟨w1.heap.size, 3, none⟩ = some (.slice A2 hd cp2))) (by kernel_rfl) HC2 (fun hHeld => ?_)
    refine hyY (some 33) 0 rfl hHeld ?_; go_frame
    refine hyY (some 34) 1 rfl hHeld ?_; go_frame
    refine hyY (some 35) 2 rfl hHeld ?_; go_frame
    refine hyY (some 36) 3 rfl hHeld ?_; go_frame
    refine hyY (some 38) 5 rfl hHeld ?_; go_frame
    refine hyY (some 39) 6 rfl hHeld ?_; go_frame
    refine hyY (some 40) 7 rfl hHeld ?_; go_frame
    refine hyY (some 41) 8 rfl hHeld ?_; go_frame
    refine hyO (some 37) 4 rfl (fun K hK => ?_)
    go_simp
    go_at_call 74
    refine (hpg _).mono ?_
    rintro e w' ⟨rfl, rfl⟩
    go_wp2_with fail
    refine hK.out _ _ ?_ (fun hH2 => ?_)
    ·exact hHeld
    clear hHeld hK K; have hHeld := hH2; clear hH2; try go_frame
    refine hyY (some 42) 9 rfl hHeld ?_; go_frame
    refine hyY (some 43) 10 rfl hHeld ?_; go_frame
    refine hyY (some 44) 11 rfl hHeld ?_; go_frame
    refine hyY (some 6) 12 rfl hHeld ?_; go_frame
    refine wpAnyH_done (by kernel_rfl) ?_ _
    have hKK2 := HKK2.out
    have B4 := Below_drawn B3 1
    go_wp2_with fail
    go_roundw
    case rel => exact ⟨k + 1, F, G + (pg - hd), by omega, by go_num, by go_num, by go_num, by rw [HF1.out, ← HF.out]; rfl, by show _ = _; rw [HG1.out, ← HG.out], B4⟩
    case measure => simp [intOf]; omega
  ·obtain rfl : k = l.length := by omega
   rw [List.take_length] at HF HG
   have hfr := HFREE.out wr bl
   have hr := HR.out
   rw [← HF.out, ← HG.out] at hr
   by_cases h1 : (F : Int) ≤ F1
   ·have D1' := decide_eq_true h1
    rw [D1', Bool.true_and] at hr
    by_cases h2 : (G : Int) ≤ D1
    ·have D2' := decide_eq_true h2
     rw [D2'] at hr
     subst hr
     go_wp2_with fail
     refine hfr.mono ?_
     rintro e w2 ⟨rfl, b2⟩
     have B2 := bl.trans (b2.mono bl.size)
     go_wp2_with fail
     go_ret
     exact ⟨rfl, B2⟩
    ·have D2' := decide_eq_false h2
     rw [D2'] at hr
     subst hr
     go_wp2_with fail
     refine hfr.mono ?_
     rintro e w2 ⟨rfl, b2⟩
     have B2 := bl.trans (b2.mono bl.size)
     go_wp2_with fail
     go_ret
     exact ⟨rfl, B2⟩
   ·have D1' := decide_eq_false h1
    rw [D1', Bool.false_and] at hr
    subst hr
    go_wp2_with fail
    refine hfr.mono ?_
    rintro e w2 ⟨rfl, b2⟩
    have B2 := bl.trans (b2.mono bl.size)
    go_wp2_with fail
    go_ret
    exact ⟨rfl, B2⟩
set_option maxHeartbeats 8000000 in
theorem cost_any (h : ST w a c nl s br) (S : Nat → Prop) (v : Value) (l : List Fi) (hv : FS w S v l) (hl : l.length ≤ 1000000) (hb : ∀ f ∈ l, f.b.length ≤ 24576) :
  Calls Tryz.prog 49 #[.pointer (some ⟨a.sg, 0, none⟩), v] w fun e w' => e = .returned (.int .i64 (costC (mapN nl) l : Int)) ∧ Below w.heap.size w w' := by
 obtain ⟨A, cp, rfl, hlc, hcm⟩ := hv.form
 have hfew := h.had_few
 have hcl := fun k => cost_le (mapN nl) (fun n => by rw [had_map]; exact hfew n) (l := l.take k) fun g hg => hb g (List.mem_of_mem_take hg)
 have hmf := h.mf
 have hC : ∀ W, Below w.heap.size w W → W.cell? ⟨a.sg, 6, none⟩ = some (.map (some a.m)) := fun W b => (h.below b).c6
 have hsg := h.kb.lt
 have hl63 : l.length ≤ 9223372036854775807 := by omega
 have HB := Lib.hid hb
 have HCL := Lib.hid hcl
 obtain ⟨R, hR⟩ : ∃ R, R = costC (mapN nl) l := ⟨_, rfl⟩
 rw [← hR]
 have HR := Lib.hid hR
 clear h hb hR hcl
 go_enter Tryz.func49, Tryz.ntmps49
 go_wp2_with fail
 go_loopw [5, 10] (fun xv iv wr => ∃ k F : Nat, k ≤ l.length ∧ iv = .int .i64 k ∧ xv = .int .i64 F ∧ Hid (F = costC (mapN nl) (l.take k)) ∧ Below w.heap.size w wr) (fun _ iv _ => l.length - (intOf iv).toNat)
 case atStart => exact ⟨0, 0, by omega, rfl, rfl, rfl, Below.refl _ _⟩
 case round =>
  obtain ⟨k, F, hk, rfl, rfl, HF, bl⟩ := hrel
  by_cases hlt : k < l.length
  ·obtain ⟨b, o, rfl, _, _, hx⟩ := (hv.below' bl).at_ (by omega)
   obtain ⟨f, hf⟩ : ∃ f, l[k]? = some f := ⟨_, List.getElem?_eq_getElem hlt⟩
   obtain ⟨k0, hnm, ⟨X, z, k1, _⟩, k2⟩ := hx k f hf
   obtain ⟨qn, zz, A2, cp2, _, hlk⟩ := hmf.file hnm
   have hf24 := HB.out f (List.mem_of_getElem? hf)
   have HF1 := Lib.hid (cost_succ (mapN nl) hf)
   have hFk : F ≤ 97 * k := by
    rw [HF.out]
    have := HCL.out k
    rw [List.length_take] at this
    omega
   have hhd := hfew f.name
   rw [had_map] at HF1
   have hpg := fun W => pages_any (f.b.length : Int) ⟨by omega, by omega⟩ W
   rw [pages_nat] at hpg
   have hpp : pagesN f.b.length ≤ 96 := by unfold pagesN; omega
   have hltI : (k : Int) < (l.length : Int) := by omega
   generalize (hadN nl f.name).length = hd at *
   generalize ((placeN nl f.name : Nat) : Int) = pl at *
   generalize pagesN f.b.length = pg at *
   generalize f.b.length = fb at *
   generalize f.gone = fg at *
   unfold strV at *
   generalize (⟨f.name.toArray⟩ : ByteArray) = fn at *
   clear hx hf hnm
   have K1 := KB.new wr 71 #[.string fn, .slice X fb z, .bool fg]
   have B1 := bl.alloc bl.size (.cells #[.string fn, .slice X fb z, .bool fg] 71)
   go_wp2_with fail
   rename_i KK hKK
   have HKK := Lib.hid hKK
   clear hKK
   generalize wr.alloc (.cells #[.string fn, .slice X fb z, .bool fg] 71) = w1 at *
   have hC1 : w1.drew.cell? ⟨a.sg, 6, none⟩ = some (.map (some a.m)) ∧ w1.drew.cell? ⟨wr.heap.size, 0, none⟩ = some (.string fn) ∧ w1.drew.cell? ⟨wr.heap.size, 1, none⟩ = some (.slice X fb z) ∧ (Instr.lookup 80 (.map (some a.m)) (.string fn) false).run Tryz.prog w1.drew = .ok (.agg #[.int .i64 pl, .string qn, .int .i64 zz, .slice A2 hd cp2]) w1.drew :=
    ⟨hC _ (Below_drawn B1 1), (K1.drewN 1).cell 0, (K1.drewN 1).cell 1, (hlk _ (Below_drawn B1 1)).2⟩
   have e1 : ((max hd pg : Nat) : Int) = max (hd : Int) (pg : Int) := by omega
   have e2 : IntKind.i64.wrap (1 + max (hd : Int) (pg : Int)) = 1 + max (hd : Int) (pg : Int) := by rw [IntKind.wrap_i64]; omega
   have e3 : IntKind.i64.wrap ((F : Int) + (1 + max (hd : Int) (pg : Int))) = ((F + (1 + max hd pg) : Nat) : Int) := by rw [IntKind.wrap_i64]; omega
   have E1 := Lib.hid e1
   have hfd1 : ∀ W : World, (Instr.field 93 (.agg #[.int .i64 pl, .string qn, .int .i64 zz, .slice A2 hd cp2]) 1).run Tryz.prog W = .ok (.agg #[.string qn, .int .i64 zz, .slice A2 hd cp2]) W := fun W => by kernel_rfl
   have hfd2 : ∀ W : World, (Instr.field 91 (.agg #[.string qn, .int .i64 zz, .slice A2 hd cp2]) 2).run Tryz.prog W = .ok (.slice A2 hd cp2) W := fun W => by kernel_rfl
   clear hlk e1
   refine wp_region_held_drew (S := (fun W => W.cell? ⟨a.sg, 6, none⟩ = some (.map (some a.m)) ∧ W.cell? ⟨wr.heap.size, 0, none⟩ = some (.string fn) ∧ W.cell? ⟨wr.heap.size, 1, none⟩ = some (.slice X fb z) ∧ (Instr.lookup 80 (.map (some a.m)) (.string fn) false).run Tryz.prog W = .ok (.agg #[.int .i64 pl, .string qn, .int .i64 zz, .slice A2 hd cp2]) W)) (by kernel_rfl) hC1 (fun hHeld => ?_)
   refine hyY (some 14) 0 rfl hHeld ?_; go_frame
   refine hyY (some 15) 1 rfl hHeld ?_; go_frame
   refine hyY (some 16) 2 rfl hHeld ?_; go_frame
   refine hyY (some 17) 3 rfl hHeld ?_; go_frame
   refine hyY (some 18) 4 rfl hHeld ?_; go_frame
   refine hyY (some 19) 5 rfl hHeld ?_; go_frame
   refine hyY (some 20) 6 rfl hHeld ?_; go_frame
   refine hyY (some 21) 7 rfl hHeld ?_; go_frame
   refine hyY (some 22) 8 rfl hHeld ?_; go_frame
   refine hyY (some 23) 9 rfl hHeld ?_; go_frame
   refine hyY (some 24) 10 rfl hHeld ?_; go_frame
   refine hyY (some 25) 11 rfl hHeld ?_; go_frame
   refine hyY (some 26) 12 rfl hHeld ?_; go_frame
   refine hyY (some 27) 13 rfl hHeld ?_; go_frame
   refine hyO (some 28) 14 rfl (fun K hK => ?_)
   go_simp
   go_at_call 74
   refine (hpg _).mono ?_
   rintro e w' ⟨rfl, rfl⟩
   go_wp2_with fail
   refine hK.out _ _ ?_ (fun hH2 => ?_)
   ·exact hHeld
   clear hHeld hK K; have hHeld := hH2; clear hH2; try go_frame
   refine hyY (some 29) 15 rfl hHeld ?_; go_frame
   refine hyY (some 30) 16 rfl hHeld ?_; go_frame
   refine hyY (some 31) 17 rfl hHeld ?_; go_frame
   refine hyY (some 5) 18 rfl hHeld ?_; go_frame
   refine wpAnyH_done (by kernel_rfl) ?_ _
   have hKK := HKK.out
   have B4 := Below_drawn B1 1
   go_wp2_with fail
   go_roundw
   case rel => exact ⟨k + 1, F + (1 + max hd pg), by omega, by go_num, by go_num, by show _ = _; rw [HF1.out, ← HF.out], B4⟩
   case measure => simp [intOf]; omega
  ·obtain rfl : k = l.length := by omega
   rw [List.take_length] at HF
   have hr := HR.out
   rw [← HF.out] at hr
   subst hr
   go_wp2_with fail
   go_ret
   exact ⟨rfl, bl⟩
end
end
section
open Go.RowKit
theorem IS.take {w : World} {S : Nat → Prop} {A : Option Addr} {n c : Nat} {l : List Int} (h : IS w S (.slice A n c) l) (k : Nat) (hk : k ≤ l.length) : IS w S (.slice A k c) (l.take k) := by
  obtain ⟨A', c', e, hl, hc, hn, hx⟩ := h
  injection e with e1 e2 e3
  subst e1 e3
  have hlk : (l.take k).length = k := by rw [List.length_take]; omega
  refine ⟨A, c, by rw [hlk], by rw [hlk]; omega, hc, hn, fun h0 => ?_⟩
  obtain ⟨b, o, ea, sb, hb, hx⟩ := hx (by rw [hlk] at h0; omega)
  refine ⟨b, o, ea, sb, hb, fun j z hj => hx j z ?_⟩
  rw [List.getElem?_take] at hj
  split at hj
  · exact hj
  · cases hj
theorem elem_ints : Tryz.prog.elem 89 = 3 := by kernel_rfl
theorem und_ints : Tryz.prog.underlying 89 = some (.slice (Tryz.prog.elem 89)) := by rw [elem_ints]; exact Tryz.underlying89
theorem add_zero' (a : Addr) : a.add 0 = a := by cases a; rfl
theorem run_slice_to (w : World) (A : Option Addr) (n c k : Nat) (hk : k ≤ n) (hc : n ≤ c) : (Instr.slice 89 (.slice A n c) none (some (.int .i64 (k : Int))) none).run Tryz.prog w = .ok (.slice A k c) w := by
  rw [run_slice_h (P := Tryz.prog) (w := w) (t := 89) (a := A) (len := n) (cap := c) und_ints (kh := .i64) (h := (k : Int)) (by omega) (by omega), elem_ints, Tryz.sizeOf3]
  simp only [Result.andThen_ok, sliced, Int.toNat_natCast, Nat.zero_mul, Nat.sub_zero]
  congr 2
  split
  · rfl
  · cases A with
    | none => rfl
    | some a => rw [Option.map_some, add_zero']
theorem run_slice_from (w : World) (A : Option Addr) (n c k : Nat) (hk : k ≤ n) (hc : n ≤ c) :
    (Instr.slice 89 (.slice A n c) (some (.int .i64 (k : Int))) none none).run Tryz.prog w = .ok (.slice (if c = k then A else A.map (·.add k)) (n - k) (c - k)) w := by
  rw [run_slice_l (P := Tryz.prog) (w := w) (t := 89) (a := A) (len := n) (cap := c) und_ints (kl := .i64) (l := (k : Int)) (by omega) (by omega), elem_ints, Tryz.sizeOf3]
  simp only [Result.andThen_ok, sliced, Int.toNat_natCast, Nat.mul_one]
theorem IS.from_ {W : World} {S : Nat → Prop} {A : Option Addr} {n c : Nat} {l : List Int} (h : IS W S (.slice A n c) l) (hl : l.length = n) (k : Nat) (hk : k ≤ n) : IS W S (.slice (if c = k then A else A.map (·.add k)) (n - k) (c - k)) (l.drop k) := by
  cases A with
  | none =>
    obtain ⟨A', c', e, h1, h2, h3, _⟩ := h
    injection e with e1 e2 e3
    subst e1 e3
    obtain rfl := h3 rfl
    have h0 : l = [] := List.eq_nil_of_length_eq_zero (by omega)
    subst h0
    obtain rfl : n = 0 := by simpa using hl.symm
    obtain rfl : k = 0 := by omega
    exact IS.nil _ _
  | some a =>
    obtain ⟨b, o, spot⟩ := a
    by_cases h0 : 0 < l.length
    · obtain ⟨b', o', ea, _⟩ := h.at_ h0
      injection ea with ea
      injection ea with e1 e2 e3
      subst e1 e2 e3
      have := h.drop k (by omega)
      have e : (if c = k then some (⟨b, o, none⟩ : Addr) else (some (⟨b, o, none⟩ : Addr)).map (·.add k)) = some (if c = k then ⟨b, o, none⟩ else ⟨b, o + k, none⟩) := by
        split
        · rfl
        · rw [Option.map_some, Addr.add_lit]
      rw [e]
      exact this
    · have h0 : l = [] := List.eq_nil_of_length_eq_zero (by omega)
      subst h0
      obtain rfl : n = 0 := by simpa using hl.symm
      obtain rfl : k = 0 := by omega
      obtain ⟨A', c', e, h1, h2, h3, _⟩ := h
      injection e with e1 e2 e3
      subst e3
      refine ⟨_, _, rfl, by simp, by omega, fun e => ?_, fun h => absurd h (by simp)⟩
      split at e <;> cases e
structure H8 where
  nm : ByteArray
  bx : Value
  gone : Bool
  place : Int
  nm2 : ByteArray
  sz : Int
  ax : Value
  lx : Value
def eight (q : H8) : List Value := [.string q.nm, q.bx, .bool q.gone, .int .i64 q.place, .string q.nm2, .int .i64 q.sz, q.ax, q.lx]
def z8 : H8 := ⟨⟨#[]⟩, .slice none 0 0, false, 0, ⟨#[]⟩, 0, .slice none 0 0, .slice none 0 0⟩
def flat8 (qs : List H8) : List Value := qs.flatMap eight
theorem flat8_nil : flat8 [] = [] := rfl
theorem flat8_cons (q : H8) (qs : List H8) : flat8 (q :: qs) = eight q ++ flat8 qs := rfl
theorem flat8_append (a b : List H8) : flat8 (a ++ b) = flat8 a ++ flat8 b := List.flatMap_append
theorem eight_len (q : H8) : (eight q).length = 8 := rfl
theorem flat8_len : ∀ qs : List H8, (flat8 qs).length = qs.length * 8
  | [] => rfl
  | q :: qs => by rw [flat8_cons, List.length_append, flat8_len qs, eight_len, List.length_cons]; omega
theorem flat8_at : ∀ (qs : List H8) (i : Nat) (q : H8), qs[i]? = some q → ∀ k, k < 8 → (flat8 qs)[i * 8 + k]? = (eight q)[k]?
  | [], i, q, h => by simp at h
  | p :: qs, 0, q, h => by
    intro k hk
    simp at h
    subst h
    rw [flat8_cons, Nat.zero_mul, Nat.zero_add, List.getElem?_append_left (by rw [eight_len]; exact hk)]
  | p :: qs, i + 1, q, h => by
    intro k hk
    have := flat8_at qs i q (by simpa using h) k hk
    rw [flat8_cons, List.getElem?_append_right (by rw [eight_len]; omega), eight_len, ← this]
    congr 1
    omega
theorem splice_eight (qs : List H8) (m : Nat) (q : H8) : splice (flat8 (qs ++ List.replicate (m + 1) z8)) (qs.length * 8) (eight q) = flat8 ((qs ++ [q]) ++ List.replicate m z8) := by
  rw [flat8_append, List.replicate_succ, flat8_cons, ← flat8_len, splice_mid _ _ _ _ (by rfl), flat8_append, flat8_append, flat8_cons, flat8_nil, List.append_nil, List.append_assoc]
theorem madeCells_eight (n : Nat) : madeCells (Value.agg (eight z8).toArray).cells (n * 8) = (flat8 (List.replicate n z8)).toArray := by
  apply Array.toList_inj.1
  apply List.ext_getElem?
  intro i
  rw [Array.getElem?_toList]
  show _ = (flat8 (List.replicate n z8))[i]?
  by_cases hi : i < n * 8
  · have h1 : (madeCells (Value.agg (eight z8).toArray).cells (n * 8))[i]? = some (((eight z8).toArray)[i % 8]!) := by
      unfold madeCells
      rw [Array.getElem?_map, Array.getElem?_range, if_pos hi]
      rfl
    have h2 := flat8_at (List.replicate n z8) (i / 8) z8 (by rw [List.getElem?_replicate, if_pos (by omega)]) (i % 8) (Nat.mod_lt _ (by omega))
    rw [h1, show i / 8 * 8 + i % 8 = i by omega] at *
    rw [h2]
    have hlt : i % 8 < 8 := Nat.mod_lt _ (by omega)
    generalize i % 8 = r at *
    match r, hlt with
    | 0, _ | 1, _ | 2, _ | 3, _ | 4, _ | 5, _ | 6, _ | 7, _ => rfl
  · rw [Array.getElem?_eq_none (by rw [size_madeCells]; omega), List.getElem?_eq_none (by rw [flat8_len, List.length_replicate]; omega)]
theorem info_change : (Tryz.prog.info? 95).map (fun i => (i.zero, i.size, i.bytes)) = some (some (.agg (eight z8).toArray), 8, 128) := by kernel_rfl
theorem make_changes (w : World) (n : Nat) (hn : n ≤ 1000000) : ∃ C, C = (flat8 ([] ++ List.replicate (n - 0) z8)).toArray ∧ (Instr.makeSlice 86 (.int .i64 n) (.int .i64 n)).run Tryz.prog w = .ok (.slice (some ⟨w.heap.size, 0, none⟩) n n) (w.alloc (.cells C 95)) := by
  obtain ⟨i0, hi, hz0, hz1, hz2⟩ := info_parts info_change
  have hmk := run_make (P := Tryz.prog) w 86 95 i0 _ Tryz.underlying86 hi hz0 .i64 .i64 n n (by omega) (by omega) (by rw [hz2]; omega) (by omega)
  rw [hz1, Int.toNat_natCast, madeCells_eight] at hmk
  exact ⟨_, rfl, hmk⟩
structure H8ok (w : World) (S : Nat → Prop) (q : H8) (h : Ch) : Prop where
  nm : q.nm = ⟨h.to.name.toArray⟩
  bx : ∃ X z, q.bx = .slice X h.to.b.length z ∧ BS w S (.slice X h.to.b.length z) h.to.b
  gone : q.gone = h.to.gone
  place : q.place = (h.place : Int)
  nm2 : q.nm2 = ⟨h.to.name.toArray⟩
  sz : q.sz = (h.to.b.length : Int)
  ax : ∃ X z, q.ax = .slice X h.at_.length z ∧ IS w S (.slice X h.at_.length z) h.at_
  lx : ∃ X z, q.lx = .slice X h.loses.length z ∧ IS w S (.slice X h.loses.length z) h.loses
def HT (w : World) (S : Nat → Prop) (qs : List H8) (hs : List Ch) : Prop := qs.length = hs.length ∧ ∀ (i : Nat) (q : H8) (h : Ch), qs[i]? = some q → hs[i]? = some h → H8ok w S q h
section
variable {w w' : World} {S S' : Nat → Prop} {q : H8} {h : Ch} {qs : List H8} {hs : List Ch}
theorem H8ok.keep (k : H8ok w S q h) (hs : w.heap.size ≤ w'.heap.size) (hk : ∀ b, S b → b < w.heap.size → w'.heap[b]? = w.heap[b]?) (hS : ∀ b, S b → S' b) : H8ok w' S' q h := by
  obtain ⟨X, z, e1, h1⟩ := k.bx
  obtain ⟨Y, y, e2, h2⟩ := k.ax
  obtain ⟨Z, u, e3, h3⟩ := k.lx
  exact ⟨k.nm, ⟨X, z, e1, (h1.keep hs hk).mono hS⟩, k.gone, k.place, k.nm2, k.sz, ⟨Y, y, e2, (h2.keep hs hk).mono hS⟩, ⟨Z, u, e3, (h3.keep hs hk).mono hS⟩⟩
theorem HT.keep (k : HT w S qs hs) (hsz : w.heap.size ≤ w'.heap.size) (hk : ∀ b, S b → b < w.heap.size → w'.heap[b]? = w.heap[b]?) (hS : ∀ b, S b → S' b) : HT w' S' qs hs :=
  ⟨k.1, fun i q h hq hh => (k.2 i q h hq hh).keep hsz hk hS⟩
theorem HT.nil (w : World) (S : Nat → Prop) : HT w S [] [] := ⟨rfl, fun i q h e => by simp at e⟩
theorem HT.snoc (k : HT w S qs hs) (j : H8ok w S q h) : HT w S (qs ++ [q]) (hs ++ [h]) := by
  refine ⟨by simp [k.1], fun i p g hp hg => ?_⟩
  by_cases hi : i < qs.length
  · rw [List.getElem?_append_left hi] at hp
    rw [List.getElem?_append_left (by rw [← k.1]; exact hi)] at hg
    exact k.2 i p g hp hg
  · have h1 : i = qs.length := by
      have := (List.getElem?_eq_some_iff.1 hp).1
      simp at this
      omega
    subst h1
    simp at hp
    rw [k.1] at hg
    simp at hg
    subst hp hg
    exact j
end
def MidC (m : MapF) (tk us : List Bool) (l : List Fi) (k : Nat) (dn : List Ch) (tk' us' : List Bool) : Prop :=
  dn.length = k ∧ chsM m tk us l = dn ++ chsM m tk' us' (l.drop k) ∧ tk'.length = tk.length ∧ us'.length = us.length ∧ freshC m (l.drop k) ≤ freeC tk'
theorem mid_start {m : MapF} {tk us : List Bool} {l : List Fi} (h : freshC m l ≤ freeC tk) : MidC m tk us l 0 [] tk us := ⟨rfl, rfl, rfl, rfl, h⟩
theorem mid_step {m : MapF} {tk us tk' us' : List Bool} {l : List Fi} {k : Nat} {dn : List Ch} {f : Fi} (h : MidC m tk us l k dn tk' us') (hf : l[k]? = some f) :
    MidC m tk us l (k + 1) (dn ++ [chM m tk' us' f]) (takeM m tk' f.name) (markL us' (newM m us' f)) ∧ (m f.name = none → 1 ≤ freeC tk') := by
  obtain ⟨h1, h2, h3, h4, h5⟩ := h
  have hk := (List.getElem?_eq_some_iff.1 hf).1
  have hd : l.drop k = f :: l.drop (k + 1) := by
    rw [List.drop_eq_getElem_cons hk, (List.getElem?_eq_some_iff.1 hf).2]
  have hc : freshC m (l.drop k) = (if (m f.name).isSome = true then 0 else 1) + freshC m (l.drop (k + 1)) := by
    rw [hd]
    unfold freshC
    rw [List.countP_cons]
    cases hm : m f.name <;> simp
    omega
  refine ⟨⟨by simp [h1], ?_, ?_, by rw [markL_len]; exact h4, ?_⟩, fun hm => ?_⟩
  · rw [h2, hd]
    show dn ++ (chM m tk' us' f :: chsM m (takeM m tk' f.name) (markL us' (newM m us' f)) (l.drop (k + 1))) = _
    rw [List.append_assoc]
    rfl
  · unfold takeM
    split
    · exact h3
    · rw [markL_len]; exact h3
  · unfold takeM
    cases hm : m f.name with
    | some x =>
      rw [hm] at hc
      simp at hc
      show freshC m (l.drop (k + 1)) ≤ freeC tk'
      omega
    | none =>
      rw [hm] at hc
      simp at hc
      show freshC m (l.drop (k + 1)) ≤ freeC (markL tk' (giveL tk' 1))
      rw [free_mark (by omega)]
      omega
  · rw [hm] at hc
    simp at hc
    omega
theorem mid_end {m : MapF} {tk us tk' us' : List Bool} {l : List Fi} {dn : List Ch} (h : MidC m tk us l l.length dn tk' us') : chsM m tk us l = dn := by
  have := h.2.1
  rw [List.drop_length] at this
  rw [this]
  show dn ++ [] = dn
  simp
end
end Go.Proofs.YteddmnoeljakpaaGreatDoor
