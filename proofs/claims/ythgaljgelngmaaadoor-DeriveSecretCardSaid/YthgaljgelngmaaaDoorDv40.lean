/-
  DcQ: Whether a term follows, by the program: its contract, over the loaded program. No condition but what each theorem names.
-/
import Derived.Test.YthgaljgelngmaaaDoorDv39

section
namespace Go.Proofs.YthgaljgelngmaaaDoor
open Go.RowKit
set_option linter.unusedVariables false

theorem putK_kids : ∀ (f : Nat) (t : Tm f), okD f t → putK (kindT f t) = decide (0 < (kidsT f t).length)
  | 0, t => nomatch t
  | f + 1, (t : Nd (Tm f)) => by
    rintro ⟨d, h⟩
    have h' : (decide (1 ≤ d) && ownOk t && (t.kids.all fun u => mayT f u (d - 1)) && (decide (t.kind ≠ 5) || decide (kindAt f t.kids 1 = 2))) = true := h
    rw [Bool.and_eq_true, Bool.and_eq_true, Bool.and_eq_true] at h'
    obtain ⟨k, n, dd, ks⟩ := t
    have h2 := (ownOk_iff k n dd ks).1 h'.1.1.2
    show putK k = decide (0 < (ks.map (lift f)).length)
    rw [List.length_map]
    unfold putK
    have h3 := h2.2.1
    have h4 := h2.1
    unfold kidsN at h3 h4
    apply decide_eq_decide.2
    split at h3 <;> omega

theorem made_no {f : Nat} {c : List (Tm f)} {t : Tm f} (h : decide (t ∈ c) = false) : madeD (vwT f) c t = (putK (kindT f t) && (kidsT f t).all (madeD (vwT f) c)) := by
  rw [madeT_eq, h, Bool.false_or]
theorem made_yes {f : Nat} {c : List (Tm f)} {t : Tm f} (h : decide (t ∈ c) = true) : madeD (vwT f) c t = true := by
  rw [madeT_eq, h, Bool.true_or]

set_option maxHeartbeats 1000000 in
theorem follows1_any (w0 : World) (O : Nat → Prop) (bth bf : Nat) (S S' : Nat → Prop) (f : Nat) (cl : List (Tm f)) : ∀ (n : Nat) (t : Tm f) (v : Value) (w : World), sizeT f t < n → okD f t →
    KB w bth 41 #[.func (.func 35) #[] #[.pointer (some ⟨w0.heap.size + 2, 0, none⟩)]] → KB w bf 41 #[.func (.func 28) #[] #[.pointer (some ⟨bth, 0, none⟩), .pointer (some ⟨bf, 0, none⟩)]] →
    Apart S f w0 w O cl → w0.heap.size ≤ w.heap.size → TV w S' f v t →
    Calls Tryd.prog 28 #[v, .pointer (some ⟨bth, 0, none⟩), .pointer (some ⟨bf, 0, none⟩)] w fun e w' => e = .returned (.bool (madeD (vwT f) cl t)) ∧ Below w.heap.size w w' := by
  intro n
  induction n with
  | zero => intro t v w h; exact absurd h (Nat.not_lt_zero _)
  | succ n ih =>
    intro t v w hsz hok kt kf hA h0 hv
    obtain ⟨e0, e1, e2, e3, rfl, tm⟩ := hv
    obtain ⟨i0, i1, X2, n2, z2, X3, n3, z3, rfl, rfl, rfl, rfl⟩ := tm_form tm
    have B0 := allocO w (.cells #[.int .i64 i0, .int .u64 i1, .slice X2 n2 z2, .slice X3 n3 z3] 35)
    have K0 := KB.new w 35 #[.int .i64 i0, .int .u64 i1, .slice X2 n2 z2, .slice X3 n3 z3]
    have hcT := there_apart (S' := S') (hA.below B0 h0) (Nat.le_trans h0 B0.size) t (.agg #[.int .i64 i0, .int .u64 i1, .slice X2 n2 z2, .slice X3 n3 z3]) (TV.alloc ⟨_, _, _, _, rfl, tm⟩ _)
    have hbl := kt.lt
    have hbl2 := kf.lt
    have kt0 := kt.alloc (.cells #[.int .i64 i0, .int .u64 i1, .slice X2 n2 z2, .slice X3 n3 z3] 35)
    have q0 := kt0.cell 0
    obtain ⟨hkd, _⟩ := kids_ks tm
    have hpk := putK_kids f t hok
    have HKid : Hid (∀ u ∈ kidsT f t, sizeT f u < n ∧ okD f u) := fun u hu => ⟨Nat.lt_of_lt_of_le (sizeT_less f t u hu) (by omega), okD_kid f t hok u hu⟩
    by_cases htc : decide (t ∈ cl) = true
    · rw [made_yes htc]
      rw [htc] at hcT
      clear ih tm kt kf hA htc hkd hpk
      go_enter Tryd.func28, Tryd.ntmps28
      go_wp2_with fail
      refine hcT.mono ?_
      rintro e w5 ⟨rfl, b5⟩
      have B5 := B0.trans (b5.mono B0.size)
      clear hcT q0
      go_wp2_with fail
      go_ret
      exact ⟨rfl, B5⟩
    · have htf : decide (t ∈ cl) = false := by simpa using htc
      rw [made_no htf, hpk]
      rw [htf] at hcT
      generalize kidsT f t = L at *
      obtain ⟨R9, hR9⟩ : ∃ R9, R9 = (decide (0 < L.length) && L.all (madeD (vwT f) cl)) := ⟨_, rfl⟩
      rw [← hR9]
      have HR9 := Lib.hid hR9
      obtain ⟨A3, c3, e3, hl3, hm3, hn3, _⟩ := id hkd
      injection e3 with e31 e32 e33
      subst e31 e32 e33
      have hle : L.length ≤ 9223372036854775807 := by unfold maxLen at hm3; omega
      clear hR9 htc htf hpk hm3 tm
      go_enter Tryd.func28, Tryd.ntmps28
      go_wp2_with fail
      refine hcT.mono ?_
      rintro e w5 ⟨rfl, b5⟩
      have B5 := B0.trans (b5.mono B0.size)
      have K5 := K0.below b5 K0.lt
      clear hcT q0
      have x3 : w5.cell? ⟨w.heap.size, 3, none⟩ = some (.slice X3 L.length z3) := K5.cell 3
      go_wp2_with fail
      clear x3
      go_loopw [13] (fun iv wr => ∃ j : Nat, j ≤ L.length ∧ iv = .int .i64 j ∧ Hid ((L.take j).all (madeD (vwT f) cl) = true) ∧ Below w5.heap.size w5 wr) (fun iv _ => L.length - (intOf iv).toNat)
      case atStart => exact ⟨0, by omega, rfl, by show _ = _; simp, Below.refl _ _⟩
      case round =>
        obtain ⟨j, hj, rfl, HA, B⟩ := hrel
        have BW := B5.trans (B.mono B5.size)
        by_cases hlt : j < L.length
        · obtain ⟨b, o, d0', d1', d2', d3', rfl, hb, k0, k1, k2, k3, hv⟩ := el_at hkd rfl BW j hlt
          obtain ⟨j0, j1, Y2, m2, y2, Y3, m3, y3, rfl, rfl, rfl, rfl⟩ := tm_form hv
          obtain ⟨hsz', hok'⟩ := HKid.out L[j] (List.getElem_mem hlt)
          have bw := BW.trans ((allocO wr (.cells #[.int .i64 j0, .int .u64 j1, .slice Y2 m2 y2, .slice Y3 m3 y3] 35)).mono BW.size)
          have hc := ih L[j] (.agg #[.int .i64 j0, .int .u64 j1, .slice Y2 m2 y2, .slice Y3 m3 y3]) (wr.alloc (.cells #[.int .i64 j0, .int .u64 j1, .slice Y2 m2 y2, .slice Y3 m3 y3] 35)) hsz' hok' (kt.below bw hbl) (kf.below bw hbl2) (hA.below bw h0) (Nat.le_trans h0 bw.size) (TV.alloc ⟨_, _, _, _, rfl, TM.keepS f _ _ _ _ _ hv (Nat.le_refl _) (fun _ _ _ => rfl) fun _ h => h⟩ _)
          have qg : (wr.alloc (.cells #[.int .i64 j0, .int .u64 j1, .slice Y2 m2 y2, .slice Y3 m3 y3] 35)).cell? ⟨bf, 0, none⟩ = some (.func (.func 28) #[] #[.pointer (some ⟨bth, 0, none⟩), .pointer (some ⟨bf, 0, none⟩)]) := (kf.below bw hbl2).cell 0
          have HY : Hid (madeD (vwT f) cl L[j] = true → (L.take (j + 1)).all (madeD (vwT f) cl) = true) := fun h => all_step hlt HA.out h
          have HN : Hid (madeD (vwT f) cl L[j] = false → L.all (madeD (vwT f) cl) = false) := fun h => all_stop hlt h
          generalize madeD (vwT f) cl L[j] = r at *
          have hbg : bf < wr.heap.size := Nat.lt_of_lt_of_le hbl2 BW.size
          clear hv hsz' hok' HA
          go_wp2_with fail
          refine hc.mono ?_
          rintro e w7 ⟨rfl, b7⟩
          have B7 := B.trans (((allocO wr _).trans (b7.mono (allocO wr _).size)).mono B.size)
          clear hc qg k0 k1 k2 k3
          cases r with
          | true =>
            have HY' := Lib.hid (HY.out rfl)
            clear HY HN bw
            go_wp2_with fail
            go_roundw
            case rel => exact ⟨j + 1, by omega, by go_num, HY', B7⟩
            case measure => simp [intOf]; omega
          | false =>
            have hr := HR9.out
            rw [HN.out rfl, Bool.and_false] at hr
            have BE := B5.trans (B7.mono B5.size)
            clear HY HN HR9 bw
            subst hr
            go_wp2_with fail
            go_ret
            exact ⟨rfl, BE⟩
        · obtain rfl : j = L.length := by omega
          have hA := HA.out
          rw [List.take_length] at hA
          have hr := HR9.out
          rw [hA, Bool.and_true] at hr
          have K9 := K5.below B K5.lt
          have x3 : wr.cell? ⟨w.heap.size, 3, none⟩ = some (.slice X3 L.length z3) := K9.cell 3
          have hint : decide (0 < L.length) = decide ((0 : Int) < (L.length : Int)) := decide_eq_decide.2 (by omega)
          rw [hint] at hr
          have HRF := Lib.hid hr
          clear HR9 HA hA hint hr
          go_wp2_with fail
          go_ret
          exact ⟨by rw [HRF.out]; first | rfl | simp, BW⟩

/-- The error of Follows, and its answer. -/
def errF (f : Nat) (l : List (Tm f)) (t : Tm f) : Int := if errT f l = 0 then (if mayT f t 8 = true then 0 else 1) else errT f l
def ansF (f : Nat) (l : List (Tm f)) (t : Tm f) : Bool := if errF f l t = 0 then followT f l t else false
theorem errF_ok {f : Nat} {l : List (Tm f)} {t : Tm f} (h : errF f l t = 0) : errT f l = 0 ∧ mayT f t 8 = true ∧ ansF f l t = followT f l t := by
  have h2 : ansF f l t = followT f l t := by unfold ansF; rw [if_pos h]
  unfold errF at h
  split at h
  · rename_i h1
    split at h
    · rename_i h3; exact ⟨h1, h3, h2⟩
    · cases h
  · rename_i h1; exact absurd h h1

set_option maxHeartbeats 1000000 in
theorem follows_any (S S' : Nat → Prop) (f : Nat) (l : List (Tm f)) (t : Tm f) (v x : Value) (w : World) (hS : ∀ b, S b → b < w.heap.size) (hS' : ∀ b, S' b → b < w.heap.size) (hsh : Shp w) (hl : KS w S (TM w S f) v l) (ht : TV w S' f x t) :
    Calls Tryd.prog 13 #[v, x] w fun e w' => e = .returned (.tuple #[.bool (ansF f l t), .int .i64 (errF f l t)]) ∧ Below w.heap.size w w' := by
  obtain ⟨d0, d1, d2, d3, rfl, tm⟩ := ht
  obtain ⟨j0, j1, Y2, m2, y2, Y3, m3, y3, rfl, rfl, rfl, rfl⟩ := tm_form tm
  obtain ⟨A, c, rfl, hlc, hm, _⟩ := id hl
  have b1 := allocO w (.cells #[.int .i64 j0, .int .u64 j1, .slice Y2 m2 y2, .slice Y3 m3 y3] 35)
  have kx := KB.new w 35 #[.int .i64 j0, .int .u64 j1, .slice Y2 m2 y2, .slice Y3 m3 y3]
  have hchk := dcheck_any S f l (.slice A l.length c) (w.alloc (.cells #[.int .i64 j0, .int .u64 j1, .slice Y2 m2 y2, .slice Y3 m3 y3] 35)) (fun b hb => Nat.lt_of_lt_of_le (hS b hb) b1.size) (hsh.below b1) (hl.keep b1.size fun b _ hb => b1.block b hb)
  have HAC := Lib.hid (fun (w5 : World) (b5 : Below w.heap.size w w5) => check_any S' f t (.agg #[.int .i64 j0, .int .u64 j1, .slice Y2 m2 y2, .slice Y3 m3 y3]) w5 (fun b hb => Nat.lt_of_lt_of_le (hS' b hb) b5.size) (hsh.below b5) ⟨_, _, _, _, rfl, TM.keepS f _ _ _ _ _ tm b5.size (fun b _ hl => b5.block b hl) fun _ h => h⟩)
  have HTM := Lib.hid tm
  obtain ⟨E, hE⟩ : ∃ E, E = errT f l := ⟨_, rfl⟩
  have hef : errF f l t = if E = 0 then (if mayT f t 8 = true then 0 else 1) else E := by rw [hE]; rfl
  have han : ansF f l t = if errF f l t = 0 then followT f l t else false := rfl
  rw [← hE] at hchk
  rw [han, hef]
  have HE := Lib.hid hE
  clear hE hef han hm
  by_cases h0 : E = 0
  · obtain ⟨hmay, hl3, hu2⟩ := errT_ok (HE.out.symm.trans h0)
    subst h0
    rw [if_pos rfl]
    have HAP := Lib.hid (fun (w5 : World) (b5 : Below w.heap.size w w5) => apart_any S f l (.slice A l.length c) w5 (fun b hb => Nat.lt_of_lt_of_le (hS b hb) b5.size) (hl.keep b5.size fun b _ hb => b5.block b hb) hmay hu2)
    clear hmay hl3 hu2 hl HE tm
    by_cases hmt : mayT f t 8 = true
    · rw [if_pos hmt, if_pos rfl]
      have HF1 := Lib.hid (fun (w6 w7 : World) (O : Nat → Prop) (hA : Apart S f w6 w7 O (cloT f l)) (h6 : w6.heap.size ≤ w7.heap.size) (b7 : Below w.heap.size w w7) => follows1_any w6 O w7.heap.size (w7.heap.size + 1) S S' f (cloT f l) (sizeT f t + 1) t (.agg #[.int .i64 j0, .int .u64 j1, .slice Y2 m2 y2, .slice Y3 m3 y3]))
      have hfol : followT f l t = madeD (vwT f) (cloT f l) t := rfl
      rw [hfol]
      clear hfol
      have HSZ : Hid (sizeT f t < sizeT f t + 1 ∧ okD f t) := ⟨Nat.lt_succ_self _, 8, hmt⟩
      generalize madeD (vwT f) (cloT f l) t = r at *
      generalize cloT f l = cl at *
      go_enter Tryd.func13, Tryd.ntmps13
      go_wp2_with fail
      refine hchk.mono ?_
      rintro e w5 ⟨rfl, b5⟩
      have B5 := b1.trans (b5.mono b1.size)
      have k5 := kx.below b5 kx.lt
      have hcc := HAC.out w5 B5
      rw [if_pos hmt] at hcc
      have x0 := k5.cell 0
      have x1 := k5.cell 1
      have x2 := k5.cell 2
      have x3 := k5.cell 3
      clear hchk HAC hmt
      go_wp2_with fail
      refine hcc.mono ?_
      rintro e w6 ⟨rfl, b6⟩
      have B6 := B5.trans (b6.mono B5.size)
      have k6 := k5.below b6 k5.lt
      have hap := HAP.out w6 B6
      clear hcc HAP x0 x1 x2 x3
      go_wp2_with fail
      refine hap.mono ?_
      rintro e w7 ⟨va, O, rfl, hA, _, b7⟩
      have B7 := B6.trans (b7.mono B6.size)
      have k7 := k6.below b7 k6.lt
      clear hap
      have bW : Below w7.heap.size w7 ((w7.alloc (.cells #[.func (.func 35) #[] #[.pointer (some ⟨w6.heap.size + 2, 0, none⟩)]] 41)).alloc (.cells #[.func (.func 28) #[] #[.pointer (some ⟨w7.heap.size, 0, none⟩), .pointer (some ⟨w7.heap.size + 1, 0, none⟩)]] 41)) := ((Below.refl _ _).alloc (Nat.le_refl _) _).alloc (by simp) _
      have kt9 := (KB.new w7 41 #[.func (.func 35) #[] #[.pointer (some ⟨w6.heap.size + 2, 0, none⟩)]]).alloc (.cells #[.func (.func 28) #[] #[.pointer (some ⟨w7.heap.size, 0, none⟩), .pointer (some ⟨w7.heap.size + 1, 0, none⟩)]] 41)
      have kf9 : KB ((w7.alloc (.cells #[.func (.func 35) #[] #[.pointer (some ⟨w6.heap.size + 2, 0, none⟩)]] 41)).alloc (.cells #[.func (.func 28) #[] #[.pointer (some ⟨w7.heap.size, 0, none⟩), .pointer (some ⟨w7.heap.size + 1, 0, none⟩)]] 41)) (w7.heap.size + 1) 41 #[.func (.func 28) #[] #[.pointer (some ⟨w7.heap.size, 0, none⟩), .pointer (some ⟨w7.heap.size + 1, 0, none⟩)]] := by
        have := KB.new (w7.alloc (.cells #[.func (.func 35) #[] #[.pointer (some ⟨w6.heap.size + 2, 0, none⟩)]] 41)) 41 #[.func (.func 28) #[] #[.pointer (some ⟨w7.heap.size, 0, none⟩), .pointer (some ⟨w7.heap.size + 1, 0, none⟩)]]
        simpa using this
      have B9 := B7.trans (bW.mono B7.size)
      have hc := HF1.out w6 w7 O hA b7.size B7 ((w7.alloc (.cells #[.func (.func 35) #[] #[.pointer (some ⟨w6.heap.size + 2, 0, none⟩)]] 41)).alloc (.cells #[.func (.func 28) #[] #[.pointer (some ⟨w7.heap.size, 0, none⟩), .pointer (some ⟨w7.heap.size + 1, 0, none⟩)]] 41)) HSZ.out.1 HSZ.out.2 kt9 kf9 (hA.below bW b7.size) (Nat.le_trans b7.size bW.size) ⟨_, _, _, _, rfl, TM.keepS f _ _ _ _ _ HTM.out B9.size (fun b _ hl => B9.block b hl) fun _ h => h⟩
      have x0 : w7.cell? ⟨w.heap.size, 0, none⟩ = some (.int .i64 j0) := k7.cell 0
      have x1 : w7.cell? ⟨w.heap.size, 1, none⟩ = some (.int .u64 j1) := k7.cell 1
      have x2 : w7.cell? ⟨w.heap.size, 2, none⟩ = some (.slice Y2 m2 y2) := k7.cell 2
      have x3 : w7.cell? ⟨w.heap.size, 3, none⟩ = some (.slice Y3 m3 y3) := k7.cell 3
      have hlt7 : w.heap.size < w7.heap.size := k7.lt
      have hvaf : True := trivial
      clear HF1 HSZ HTM kt9 kf9 k7 k6 k5 hA
      go_wp2_with fail
      refine hc.mono ?_
      rintro e w9 ⟨rfl, b9⟩
      have BE := B9.trans (b9.mono B9.size)
      clear hc x0 x1 x2 x3
      go_wp2_with fail
      go_ret2
      exact ⟨rfl, BE⟩
    · rw [if_neg hmt, if_neg (by decide)]
      clear HAP
      go_enter Tryd.func13, Tryd.ntmps13
      go_wp2_with fail
      refine hchk.mono ?_
      rintro e w5 ⟨rfl, b5⟩
      have B5 := b1.trans (b5.mono b1.size)
      have k5 := kx.below b5 kx.lt
      have hcc := HAC.out w5 B5
      rw [if_neg hmt] at hcc
      have x0 := k5.cell 0
      have x1 := k5.cell 1
      have x2 := k5.cell 2
      have x3 := k5.cell 3
      clear hchk HAC hmt
      go_wp2_with fail
      refine hcc.mono ?_
      rintro e w6 ⟨rfl, b6⟩
      have B6 := B5.trans (b6.mono B5.size)
      clear hcc x0 x1 x2 x3
      go_wp2_with fail
      go_ret2
      exact ⟨rfl, B6⟩
  · rw [if_neg h0, if_neg h0]
    have g2 : (E != 0) = true := bne_iff_ne.2 h0
    have g3 : (E == 0) = false := beq_eq_false_iff_ne.2 h0
    have hE64 : -9223372036854775808 ≤ E ∧ E ≤ 9223372036854775807 := by rcases errT_cases f l with h | h | h <;> (have := HE.out; omega)
    clear HE hl HAC
    go_enter Tryd.func13, Tryd.ntmps13
    go_wp2_with fail
    refine hchk.mono ?_
    rintro e w5 ⟨rfl, b5⟩
    have B5 := b1.trans (b5.mono b1.size)
    clear hchk
    go_wp2_with fail
    go_ret2
    exact ⟨rfl, B5⟩
end Go.Proofs.YthgaljgelngmaaaDoor
end
