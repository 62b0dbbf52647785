/-
  WbD: Commit of any patches, whether they are refused or not, and crashes behind it, plainly; Commit's contract for all patches. No condition but what each theorem names.
  WbK: The document's own Opened (layer 10), over the loaded program: its contract. What Open leaves is that image. No condition but what each theorem names.
  DkO: Arguments of the statements of layer 8, opened: a list of acts, and a list of bools. No condition.
-/
import Derived.Test.YtgoifhpinoodgaaDoorWo37
import Derived.Test.YtgoifhpinoodgaaDoorWo45
import Derived.Test.YtgoifhpinoodgaaDoorWo17
import Derived.Test.YtgoifhpinoodgaaDoorWo05
import Derived.Test.YtgoifhpinoodgaaDoorWo02
import Derived.Deep.Grids

section
namespace Go.Proofs.YtgoifhpinoodgaaDoor
open Go.RowKit
set_option maxRecDepth 100000
set_option linter.unusedVariables false

/-- What a Commit makes of a disk, whatever the patches are. -/
def comA (n N : Nat) (ps : List Pt) (s : Dk) : Dk × Int := if rightP n N ps ≠ 0 ∨ ps.length = 0 then (s, rightP n N ps) else commitD ps s
/-- The patches that are done. -/
def goodP (n N : Nat) (ps : List Pt) : List Pt := if rightP n N ps = 0 then ps else []
theorem right_zero {n N : Nat} {ps : List Pt} (h : rightP n N ps = 0) : takesB n N ps = true ∧ ps.length ≤ roomN n := by
  unfold rightP at h
  split at h
  · rename_i ht
    refine ⟨ht, ?_⟩
    split at h
    · cases h
    · omega
  · cases h
theorem fine_good {n N : Nat} (ps : List Pt) (hn : n < N) (hN : N ≤ 1024) : Fine n N (goodP n N ps) := by
  unfold goodP
  split
  · rename_i h
    obtain ⟨h1, h2⟩ := right_zero h
    exact ⟨h1, h2, hn, hN⟩
  · exact ⟨rfl, Nat.zero_le _, hn, hN⟩
section
variable {n N : Nat} {ps : List Pt} {s : Dk} {W0 : Nat → List UInt8}
theorem comA_no (h : rightP n N ps ≠ 0 ∨ ps.length = 0) : comA n N ps s = (s, rightP n N ps) := if_pos h
theorem comA_go (h : ¬ (rightP n N ps ≠ 0 ∨ ps.length = 0)) : comA n N ps s = commitD ps s ∧ goodP n N ps = ps := by
  refine ⟨if_neg h, if_pos ?_⟩
  exact Classical.byContradiction fun hh => h (.inl hh)
theorem goodP_no (h : rightP n N ps ≠ 0 ∨ ps.length = 0) : goodP n N ps = [] := by
  unfold goodP
  split
  · rename_i h0
    rcases h with h | h
    · exact absurd h0 h
    · exact List.eq_nil_of_length_eq_zero h
  · rfl
theorem comA_len : (comA n N ps s).1.safe.length = s.safe.length := by
  unfold comA
  split
  · rfl
  · exact commitD_len _ _
/-- On a disk whose log is zero, and whose power does not go. -/
theorem comA_stands (hn : n < N) (hN : N ≤ 1024) (hl : s.safe.length = N) (hf : s.fuse = -1) (hs : Stands n N W0 s) :
    (comA n N ps s).2 = rightP n N ps ∧ (comA n N ps s).1.fuse = -1 ∧ Stands n N (W1 (goodP n N ps) W0) (comA n N ps s).1 := by
  have hfi := fine_good ps hn hN
  by_cases h : rightP n N ps ≠ 0 ∨ ps.length = 0
  · rw [comA_no h, goodP_no h]
    exact ⟨rfl, hf, hs⟩
  · obtain ⟨e1, e2⟩ := comA_go (s := s) h
    rw [e1, e2]
    rw [e2] at hfi
    obtain ⟨c1, c2⟩ := commitD_never ps s hf
    have hr : rightP n N ps = 0 := Classical.byContradiction fun hh => h (.inl hh)
    exact ⟨by rw [c1, hr], c2, commit_stands hfi hl hs c1⟩

/-- What a crash may leave, whatever stays; and what it must, if dn. -/
structure Left (n N : Nat) (P : List Pt) (W0 : Nat → List UInt8) (dn : Bool) (s : Dk) : Prop where
  len : s.safe.length = N
  good : ∀ ks, Good n P W0 (s.crashed ks)
  sure : dn = true → ∀ ks, Allow (AlZ n (W1 P W0)) (s.crashed ks)
theorem Left.fuse {P : List Pt} {dn : Bool} (h : Left n N P W0 dn s) (f : Int) : Left n N P W0 dn { s with fuse := f } := ⟨h.len, h.good, h.sure⟩
theorem stands_allow {W : Nat → List UInt8} (hl : s.safe.length = N) (hs : Stands n N W s) : Allow (AlZ n W) s :=
  Allow.of_now hs.1 fun i hi => ⟨fun e => by subst e; exact hs.2.1 0 (Nat.zero_le _), fun e => hs.2.2 i e (by omega)⟩
/-- Behind a Commit. -/
theorem comA_left (hn : n < N) (hN : N ≤ 1024) (hl : s.safe.length = N) (hs : Stands n N W0 s) (dn : Bool) (hdn : dn = true → (comA n N ps s).2 = 0 ∧ rightP n N ps = 0) : Left n N (goodP n N ps) W0 dn (comA n N ps s).1 := by
  have hfi := fine_good ps hn hN
  have ha := stands_allow hl hs
  by_cases h : rightP n N ps ≠ 0 ∨ ps.length = 0
  · rw [comA_no h, goodP_no h]
    exact ⟨hl, Good.z0 ha, fun _ ks => ha.crashed ks⟩
  · obtain ⟨e1, e2⟩ := comA_go (s := s) h
    rw [e1] at hdn ⊢
    rw [e2] at hfi ⊢
    obtain ⟨g1, g2⟩ := commit_good hfi hl hs.1 ha
    exact ⟨by rw [commitD_len]; exact hl, g1, fun hd ks => (g2 (hdn hd).1).2.1.crashed ks⟩
/-- A crash, and Open behind it. -/
theorem Left.open_ {P : List Pt} {dn : Bool} (h : Left n N P W0 dn s) (hf : Fine n N P) (ks : List Bool) (f : Int) : Left n N P W0 dn (openD n { s.crashed ks with fuse := f }).1 := by
  have hl : ({ s.crashed ks with fuse := f } : Dk).safe.length = N := by show (over _ _).length = N; rw [over_len]; exact h.len
  have hc : ({ s.crashed ks with fuse := f } : Dk).calm := fun _ => rfl
  have hg : Good n P W0 { s.crashed ks with fuse := f } := h.good ks
  obtain ⟨g1, _⟩ := open_good hf hl hc hg
  exact ⟨by rw [openD_len]; exact hl, g1, fun hd ks' => ((open_zero (s := { s.crashed ks with fuse := f }) hf.log hl hc (h.sure hd ks)).2.1).crashed ks'⟩
/-- A crash, and Open behind it, of a disk whose power does not go. -/
theorem Left.last {P : List Pt} {dn : Bool} (h : Left n N P W0 dn s) (hf : Fine n N P) (ks : List Bool) :
    (openD n (s.crashed ks)).2 = 0 ∧ (openD n (s.crashed ks)).1.fuse = -1 ∧ (openD n (s.crashed ks)).1.safe.length = N ∧ (Stands n N (W1 P W0) (openD n (s.crashed ks)).1 ∨ dn = false ∧ Stands n N W0 (openD n (s.crashed ks)).1) := by
  have hl : (s.crashed ks).safe.length = N := by show (over _ _).length = N; rw [over_len]; exact h.len
  have hc : (s.crashed ks).calm := fun _ => rfl
  obtain ⟨c1, c2⟩ := openD_never n (s.crashed ks) rfl
  refine ⟨c1, c2, by rw [openD_len]; exact hl, ?_⟩
  cases dn with
  | true => exact .inl ((open_zero hf.log hl hc (h.sure rfl ks)).2.2 c1)
  | false =>
    rcases (open_good hf hl hc (h.good ks)).2 c1 with h | h
    · exact .inr ⟨rfl, h⟩
    · exact .inl h
/-- The sectors of a disk of which nothing is pending. -/
theorem calm_at (hc : s.calm) {i : Nat} (hi : i < s.safe.length) : s.safe[i]? = some (s.now i) := by
  unfold Dk.now
  rw [hc i, Option.getD_none, List.getD_eq_getElem?_getD, List.getElem?_eq_getElem hi]
  rfl
theorem stands_image {P : List Pt} {t : Dk} (hf : Fine n N P) (hl : s.safe.length = N) (hs : Stands n N W0 s) (ht : t.safe.length = N) (h : Stands n N (W1 P W0) t) : t.safe = doneL s.safe P := by
  apply List.ext_getElem?
  intro i
  by_cases hi : i < N
  · rw [calm_at h.1 (by omega), doneL_at _ _ _ (by omega)]
    have e : s.safe.getD i [] = s.now i := by rw [List.getD_eq_getElem?_getD, calm_at hs.1 (by omega)]; rfl
    rw [e]
    by_cases hin : i ≤ n
    · rw [h.2.1 i hin, hs.2.1 i hin]
      exact congrArg some (lastP_no _ _ _ fun v hv e => by have := hf.behind hv; omega).symm
    · rw [h.2.2 i (by omega) hi, hs.2.2 i (by omega) hi]
      rfl
  · rw [List.getElem?_eq_none (by omega), List.getElem?_eq_none (by rw [doneL_len]; omega)]
end

/-- Commit, of any patches. -/
theorem commit_all {w : World} {lg n : Nat} {p : DA} {s : Dk} (v : Value) (ps : List Pt) (hg : LG w lg p n false) (hgp : ¬ p.has lg) (hd : DS w p s) (h : PS w (Off p w) v ps) (hn : n < s.safe.length) (ht : Tab w) (htp : ¬ p.has 0) :
    Calls Tryd.prog 20 #[.pointer (some ⟨lg, 0, none⟩), v] w fun e w' => e = .returned (.int .i64 (comA n s.safe.length ps s).2) ∧ DS w' p (comA n s.safe.length ps s).1 ∧ (∃ br, LG w' lg p n br ∧ ((comA n s.safe.length ps s).2 = rightP n s.safe.length ps → br = false)) ∧ KeepP (fun x => Off p w x ∧ x ≠ lg) w w' := by
  have few := hd.ok.few
  by_cases hr : rightP n s.safe.length ps ≠ 0 ∨ ps.length = 0
  · rw [comA_no hr]
    refine (commit_no v ps (by omega) hg hd h (by rw [chk_right]; exact hr)).mono ?_
    rintro e w' ⟨rfl, b⟩
    rw [chk_right]
    exact ⟨rfl, hd.below b, ⟨false, hg.below b, fun _ => rfl⟩, KeepP.of_below b fun x hx => hx.1.1⟩
  · obtain ⟨e1, e2⟩ := comA_go (s := s) hr
    rw [e1]
    have hr0 : rightP n s.safe.length ps = 0 := Classical.byContradiction fun hh => hr (.inl hh)
    have hfi := fine_good ps hn few
    rw [e2] at hfi
    refine (commit_go v ps hg hgp hd h hfi (by omega) ht htp).mono ?_
    rintro e w' ⟨rfl, d, l, k⟩
    exact ⟨rfl, d, ⟨_, l, fun hh => by rw [hr0] at hh; simp [hh]⟩, k⟩
end Go.Proofs.YtgoifhpinoodgaaDoor
end

section
namespace Go.Proofs.YtgoifhpinoodgaaDoor
open Go.RowKit
set_option maxRecDepth 100000
set_option linter.unusedVariables false

theorem leftB_takes (n N : Nat) (img : List (List UInt8)) : takesB n N (leftB n N img) = true := by
  unfold leftB
  split
  · assumption
  · rfl
theorem doneL_256 : ∀ (ps : List Pt) (ls : List (List UInt8)), (∀ l ∈ ls, l.length = 256) → (∀ q ∈ ps, q.2.length = 256) → ∀ l ∈ doneL ls ps, l.length = 256
  | [], ls, h, _ => h
  | p :: r, ls, h, hp => by
    refine doneL_256 r (ls.set p.1.toNat p.2) (fun l hl => ?_) fun q hq => hp q (by simp [hq])
    rcases List.mem_or_eq_of_mem_set hl with hl | rfl
    · exact h l hl
    · exact hp p (by simp)
/-- What Opened hands back. -/
def OpAs (w : World) (L : List (List UInt8)) (k : Nat) (e : Ending) (w' : World) : Prop :=
  ∃ v', e = .returned (.tuple #[v', .int .i64 k]) ∧ LS w' (fun x => w.heap.size ≤ x ∧ x < w'.heap.size) v' L ∧ Below w.heap.size w w'

set_option maxHeartbeats 2000000 in
/-- Opened. -/
theorem ropened_any (S : Nat → Prop) (v : Value) (img : List (List UInt8)) (n : Nat) (w : World) (h : LS w S v img) (hn : n < img.length) (hN : img.length ≤ 1000) (h256 : ∀ l ∈ img, l.length = 256) :
    Calls Tryd.prog 16 #[v, .int .i64 n] w (OpAs w (zeroK (n + 1) (doneL img (leftB n img.length img))) (leftB n img.length img).length) := by
  have hrd := rread_any S v img n w h hn hN h256
  obtain ⟨c1, c2⟩ := read_left hn
  have hcl := fun (W : World) (hW : LS W S v img) => rclean_any S v img n W hW hn (by omega) fun l hl => by rw [h256 l hl]; omega
  have htk := leftB_takes n img.length img
  have hdn := fun (W : World) (S' : Nat → Prop) (y : Value) (hW : LS W S v img) (hy : PS W S' y (leftB n img.length img)) => rdone_any S S' v y img _ W hW hy (by omega) (by omega) (fun l hl => by rw [h256 l hl]; omega) fun q hq => by have := takes_at htk hq; omega
  have hcl2 := fun (W : World) (S' : Nat → Prop) (y : Value) (hW : LS W S' y (doneL img (leftB n img.length img))) => rclean_any S' y _ n W hW (by rw [doneL_len]; exact hn) (by rw [doneL_len]; omega) fun l hl => by rw [doneL_256 _ _ h256 (fun q hq => (takes_at htk hq).2.2) l hl]; omega
  obtain ⟨P, hP⟩ : ∃ P, P = leftB n img.length img := ⟨_, rfl⟩
  rw [← hP] at c1 c2 hdn hcl2 ⊢
  obtain ⟨RR, hRR⟩ : ∃ RR, RR = readP n img.length img := ⟨_, rfl⟩
  rw [← hRR] at hrd c1 c2
  obtain ⟨p, ok⟩ := RR
  obtain ⟨Z, hZ⟩ : ∃ Z, Z = zeroK (n + 1) (doneL img P) := ⟨_, rfl⟩
  rw [← hZ] at hcl2 ⊢
  have HH := Lib.hid h
  obtain ⟨A, c, rfl, _⟩ := h.form
  have HCL := Lib.hid hcl
  have HDN := Lib.hid hdn
  have HCL2 := Lib.hid hcl2
  clear hRR htk hcl hdn hcl2 hP h256 h
  go_enter Tryd.func16, Tryd.ntmps16
  go_wp2_with fail
  refine hrd.mono ?_
  rintro e w1 ⟨pv, rfl, hps, b1⟩
  clear hrd
  cases ok with
  | false =>
    obtain rfl : P = [] := c2 rfl
    have e0 : doneL img [] = img := rfl
    rw [e0] at hZ
    have hcl := HCL.out w1 (HH.out.below' b1)
    rw [← hZ] at hcl
    clear c1 c2 hps e0 hZ HCL HDN HCL2
    go_wp2_with fail
    refine hcl.mono ?_
    rintro e w2 ⟨v2, rfl, ls2, b2⟩
    have B2 := b1.trans (b2.mono b1.size)
    have hs := b1.size
    clear hcl
    go_wp2_with fail
    go_ret2
    exact ⟨_, rfl, ls2.mono fun x hx => ⟨by omega, hx.2⟩, B2⟩
  | true =>
    obtain rfl : p = P := c1 rfl
    have hp1 := hps rfl
    obtain ⟨Ap, cp, rfl, _⟩ := hp1.form
    have hdn := HDN.out w1 _ _ (HH.out.below' b1) hp1
    dsimp only at hdn hp1
    clear c1 c2 hps hZ HCL HDN
    go_wp2_with fail
    refine hdn.mono ?_
    rintro e w2 ⟨v2, rfl, ls2, b2⟩
    have B2 := b1.trans (b2.mono b1.size)
    have hcl2 := HCL2.out w2 _ _ ls2
    clear hdn ls2
    go_wp2_with fail
    refine hcl2.mono ?_
    rintro e w3 ⟨v3, rfl, ls3, b3⟩
    have B3 := B2.trans (b3.mono B2.size)
    have hs := B2.size
    clear hcl2
    go_wp2_with fail
    go_ret2
    exact ⟨_, rfl, ls3.mono fun x hx => ⟨by omega, hx.2⟩, B3⟩

/-- What Open leaves is the image that Opened hands back. -/
theorem log_take {n : Nat} {s : Dk} (hc : s.calm) (hn : n < s.safe.length) : logD n s = s.safe.take (n + 1) := by
  unfold logD
  apply List.ext_getElem?
  intro i
  rw [List.getElem?_map, List.getElem?_take]
  by_cases hi : i < n + 1
  · rw [if_pos hi, calm_at hc (by omega), List.getElem?_eq_getElem (by simpa using hi)]
    simp
  · rw [if_neg hi, List.getElem?_eq_none (by simp; omega)]
    rfl
theorem open_image {n : Nat} {s : Dk} (hc : s.calm) (hf : s.fuse = -1) (hn : n < s.safe.length) :
    leftP n s = leftB n s.safe.length s.safe ∧ (openD n s).2 = 0 ∧ (openD n s).1.safe = zeroK (n + 1) (doneL s.safe (leftB n s.safe.length s.safe)) := by
  have e1 : leftP n s = leftB n s.safe.length s.safe := by
    unfold leftP leftB
    rw [log_take hc hn]
  refine ⟨e1, (openD_never n s hf).1, ?_⟩
  obtain ⟨a1, a2⟩ := doD_never (leftP n s) s hf
  obtain ⟨b1, b2⟩ := wipeD_never 0 0 _ a2
  obtain ⟨c1, c2⟩ := wipeD_never 1 n _ b2
  have he : openD n s = wipeD 1 n (wipeD 0 0 (doD (leftP n s) s).1).1 := by
    rw [openD_four (by rw [hf]; decide) a1 b1 c1]
    exact Prod.ext rfl c1.symm
  obtain ⟨d1, d2⟩ := doD_ok hc a1
  obtain ⟨f1, f2⟩ := wipeD_ok d1 b1
  obtain ⟨g1, g2⟩ := wipeD_ok f1 c1
  have hl1 : (doD (leftP n s) s).1.safe.length = s.safe.length := doD_len _ _
  have hl2 : (wipeD 0 0 (doD (leftP n s) s).1).1.safe.length = s.safe.length := by rw [wipeD_len, hl1]
  have hl3 : (wipeD 1 n (wipeD 0 0 (doD (leftP n s) s).1).1).1.safe.length = s.safe.length := by rw [wipeD_len, hl2]
  rw [he, ← e1]
  apply List.ext_getElem?
  intro i
  by_cases hi : i < s.safe.length
  · rw [calm_at g1 (by omega), g2 i (by omega), f2 i (by omega), d2 i hi, zeroK_at _ _ _ (by rw [doneL_len]; exact hi), doneL_at _ _ _ hi]
    have e : s.safe.getD i [] = s.now i := by rw [List.getD_eq_getElem?_getD, calm_at hc hi]; rfl
    rw [e]
    by_cases h1 : 1 ≤ i ∧ i ≤ n
    · rw [if_pos h1, if_pos (by omega)]
    · rw [if_neg h1]
      by_cases h0 : 0 ≤ i ∧ i ≤ 0
      · rw [if_pos h0, if_pos (by omega)]
      · rw [if_neg h0, if_neg (by omega)]
  · rw [List.getElem?_eq_none (by omega), List.getElem?_eq_none (by rw [zeroK_len, doneL_len]; omega)]
end Go.Proofs.YtgoifhpinoodgaaDoor
end

section
namespace Go.Proofs.YtgoifhpinoodgaaDoor
open Go.RowKit Go.ChangeShapes Go.WideShapes Go.Joins
set_option maxRecDepth 100000
set_option linter.unusedVariables false

/-- A list of bools that came in. -/
theorem open_keep {H : Type} {enc : TypeId × Value → H} {W : World} {base : Nat} {v : Value} {d : DataW H} {p : List MemPlace}
    (ok : Value.okWide Tryd.prog W .any base 93 v) (h : DataW.Trod enc Tryd.prog W 0 (fun _ => true) true 93 v d p) : ∃ ks : List Bool, CS W (fun b => b < W.heap.size) v (ks.map Value.bool) := by
  obtain ⟨a0, len, cap, rfl⟩ := okWide_slice Tryd.underlying93 ok
  obtain ⟨fuel, hf⟩ := h
  rcases Deep.open_bools Tryd.underlying93 Tryd.underlying4 (by kernel_rfl) hf with ⟨hcs, _⟩ | ⟨a, len', cap', B, hcs, _, hl, hm, _, hc⟩
  · simp [Value.cells] at hcs
    obtain ⟨rfl, rfl, rfl⟩ := hcs
    exact ⟨[], CS.nil _ _⟩
  · simp [Value.cells] at hcs
    obtain ⟨rfl, rfl, rfl⟩ := hcs
    have hlen : (((List.range len).map B).map Value.bool).length = len := by simp
    refine ⟨(List.range len).map B, some a, cap, by rw [hlen], by omega, hm, fun h0 => ?_⟩
    rw [hlen] at h0
    obtain ⟨b, o, spot⟩ := a
    have k0 := hc 0 (by omega)
    have hspot : spot = none := by simpa [Addr.add] using World.cell?_spot k0
    subst hspot
    rw [add_plain] at k0
    refine ⟨b, o, rfl, World.block_lt_of_cell? _ _ k0, World.block_lt_of_cell? _ _ k0, fun j u hu => ?_⟩
    have hj : j < len := by
      have := (List.getElem?_eq_some_iff.1 hu).1
      omega
    have kj := hc j (by omega)
    rw [add_plain] at kj
    rw [kj]
    simpa [hj] using hu

/-- An act, as a law takes it. -/
structure Ac where
  kind : Int
  at_ : Int
  c : UInt8
  short : Bool
  keep : Value
def acRow (a : Ac) : List Value := [.int .i64 a.kind, .int .i64 a.at_, bv a.c, .bool a.short, a.keep]
def Ac.ok (a : Ac) : Prop := (∃ A n c, a.keep = .slice A n c) ∧ -9223372036854775808 ≤ a.kind ∧ a.kind ≤ 9223372036854775807 ∧ -9223372036854775808 ≤ a.at_ ∧ a.at_ ≤ 9223372036854775807

/-- The slice value v reads, in w, as the acts l. -/
def AS (w : World) (v : Value) (l : List Ac) : Prop :=
  ∃ A c, v = .slice A l.length c ∧ l.length ≤ c ∧ c ≤ maxLen ∧ (0 < l.length → ∃ b o, A = some ⟨b, o, none⟩ ∧ b < w.heap.size ∧ ∀ (i : Nat) (a : Ac), l[i]? = some a → a.ok ∧ w.rangeAt b (o + i * 5) (acRow a))
theorem AS.below {w w' : World} {v : Value} {l : List Ac} (h : AS w v l) (hb : Below w.heap.size w w') : AS w' v l := by
  obtain ⟨A, c, e, h1, h2, hx⟩ := h
  refine ⟨A, c, e, h1, h2, fun h0 => ?_⟩
  obtain ⟨b, o, ea, hlt, hx⟩ := hx h0
  refine ⟨b, o, ea, Nat.lt_of_lt_of_le hlt hb.size, fun i a hi => ⟨(hx i a hi).1, fun j u hj => ?_⟩⟩
  exact (World.cell?_of_block (w := w) (hb.block b hlt)).trans ((hx i a hi).2 j u hj)

theorem cells_bool : Tryd.prog.cellsOf 4 = 1 := by kernel_rfl
theorem cells_i : Tryd.prog.cellsOf 3 = 1 := by kernel_rfl
theorem cells_bools : Tryd.prog.cellsOf 93 = 1 := by kernel_rfl

end Go.Proofs.YtgoifhpinoodgaaDoor
end
