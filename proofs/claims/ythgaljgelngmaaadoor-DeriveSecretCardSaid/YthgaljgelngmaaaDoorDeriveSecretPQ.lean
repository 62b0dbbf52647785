/-
  DeriveSecretW: DeriveSecret: secrets stay: the law's walk. No condition but that the table lies as the row says.
  DeriveSecretP: THE STATEMENT DeriveSecret of layer: proved out of the law's contract (deriveSecret_law): for every input the call returns true, and the input reads as it did. No condition.
-/
import Derived.Test.YthgaljgelngmaaaDoorDv46
import Derived.Test.YthgaljgelngmaaaDoorDv41
import Derived.Test.YthgaljgelngmaaaDoorCards
import Derived.Test.YthgaljgelngmaaaDoorTie
import Derived.Test.YthgaljgelngmaaaDoorDv09
import Derived.Stop.Joined
import Derived.SevenTiedAt
import Derived.WalkKit
import Derived.ProofKit
import Derived.OpenShut
import Derived.ShutString
import Derived.ChangeOld
import Derived.Below

section
namespace Go.Proofs.YthgaljgelngmaaaDoor
open Go.RowKit
set_option linter.unusedVariables false

/-- A key that may be is no more than its number. -/
theorem key_only {f : Nat} {x : Tm (f + 1)} (h : okD (f + 1) x) (hk : kindT (f + 1) x = 2) : x = (⟨2, numT (f + 1) x, [], []⟩ : Nd (Tm f)) := by
  obtain ⟨d, h⟩ := h
  have h' : (decide (1 ≤ d) && ownOk (x : Nd (Tm f)) && ((x : Nd (Tm f)).kids.all fun u => mayT f u (d - 1)) && (decide ((x : Nd (Tm f)).kind ≠ 5) || decide (kindAt f (x : Nd (Tm f)).kids 1 = 2))) = true := h
  rw [Bool.and_eq_true, Bool.and_eq_true, Bool.and_eq_true] at h'
  obtain ⟨k, n, dd, ks⟩ := (x : Nd (Tm f))
  have h2 := (ownOk_iff k n dd ks).1 h'.1.1.2
  have hk2 : k = 2 := hk
  subst hk2
  have hk0 : kidsN 2 = 0 := by decide
  rw [hk0] at h2
  obtain ⟨_, h3, _, h5, _⟩ := h2
  have h6 : ks = [] := List.eq_nil_of_length_eq_zero (by omega)
  have h7 : dd = [] := List.eq_nil_of_length_eq_zero (by rcases h5 with h | h <;> omega)
  subst h6 h7
  rfl

theorem has_key (S1 S : Nat → Prop) : ∀ (f : Nat) (s : Tm f) (cl : List (Tm f)) (n : Nat) (v : Value) (w : World), n < 18446744073709551616 → KS w S1 (TM w S f) v cl →
    Calls Tryd.prog 16 #[v, .agg #[.int .i64 2, .int .u64 (n : Int), .slice none 0 0, .slice none 0 0]] w fun e w' => ∃ b : Bool, e = .returned (.bool b) ∧ (b = false → ∀ x ∈ cl, okD f x → kindT f x = 2 → numT f x ≠ n) ∧ Below w.heap.size w w'
  | 0, s, _, _, _, _, _, _ => nomatch s
  | f + 1, s, cl, n, v, w, hn, hk => by
    obtain ⟨t, ht⟩ : ∃ t : Tm (f + 1), t = (⟨2, n, [], []⟩ : Nd (Tm f)) := ⟨_, rfl⟩
    have htm : TM w S (f + 1) t (.int .i64 2) (.int .u64 (n : Int)) (.slice none 0 0) (.slice none 0 0) := by
      rw [ht]
      exact TM.plain (by unfold I64; omega) hn
    refine (has_any S1 S S (f + 1) cl t v _ w hk ⟨_, _, _, _, rfl, htm⟩).mono ?_
    rintro e w' ⟨rfl, b5⟩
    refine ⟨_, rfl, fun h x hx hok hkd hnum => ?_, b5⟩
    have hxe := key_only hok hkd
    rw [hnum, ← ht] at hxe
    exact of_decide_eq_false h (hxe ▸ hx)

/-- What is asked of a secret. -/
def askS (f : Nat) (s : Tm f) : Prop := putK (kindT f s) = false ∧ mayT f s 8 = true

set_option maxHeartbeats 4000000 in
theorem deriveSecret_any (S : Nat → Prop) (f : Nat) (l : List (Tm f)) (s : Tm f) (keys : List Nat) (v x kv : Value) (w : World) (hS : ∀ b, S b → b < w.heap.size) (hsh : Shp w) (hl : KS w S (TM w S f) v l) (hs : TV w S f x s) (hkeys : US w S kv keys) :
    Calls Tryd.prog 5 #[v, x, kv] w fun e w' => e = .returned (.bool true) ∧ Below w.heap.size w w' := by
  obtain ⟨d0, d1, d2, d3, rfl, ts⟩ := hs
  obtain ⟨i0, i1, X2, n2, z2, X3, n3, z3, rfl, rfl, rfl, rfl⟩ := tm_form ts
  obtain ⟨_, hkid⟩ := kids_ks ts
  obtain rfl : i0 = kindT f s := by injection hkid
  clear hkid
  obtain ⟨A, c, rfl, _, hm, _⟩ := id hl
  obtain ⟨AK, cK, rfl, _, hmK, _⟩ := id hkeys
  have hle : l.length ≤ 9223372036854775807 := by unfold maxLen at hm; omega
  have hleK : keys.length ≤ 9223372036854775807 := by unfold maxLen at hmK; omega
  generalize hkd : kindT f s = kd at *
  have HKD := Lib.hid hkd
  have b1 := allocO w (.cells #[.int .i64 kd, .int .u64 i1, .slice X2 n2 z2, .slice X3 n3 z3] 35)
  have kx := KB.new w 35 #[.int .i64 kd, .int .u64 i1, .slice X2 n2 z2, .slice X3 n3 z3]
  obtain ⟨w1, hw1⟩ : ∃ w1, w1 = w.alloc (.cells #[.int .i64 kd, .int .u64 i1, .slice X2 n2 z2, .slice X3 n3 z3] 35) := ⟨_, rfl⟩
  rw [← hw1] at b1 kx
  have hl1 := hl.keep b1.size fun b _ hb => b1.block b hb
  have hk1 := hkeys.below' b1
  have ts1 := TM.keepS (w' := w1) (S' := S) f _ _ _ _ _ ts b1.size (fun b _ hl => b1.block b hl) fun _ h => h
  have hS1 : ∀ b, S b → b < w1.heap.size := fun b hb => Nat.lt_of_lt_of_le (hS b hb) b1.size
  have hsh1 := hsh.below b1
  have hsm := small6_any S f l (.slice A l.length c) w1 hl1
  have HSM := Lib.hid (fun (w2 : World) (b2 : Below w1.heap.size w1 w2) => small_any S f s (.agg #[.int .i64 kd, .int .u64 i1, .slice X2 n2 z2, .slice X3 n3 z3]) 40 w2 (by unfold I64; omega) ⟨_, _, _, _, rfl, TM.keepS f _ _ _ _ _ ts1 b2.size (fun b _ hl => b2.block b hl) fun _ h => h⟩)
  have HMY := Lib.hid (fun (w2 : World) (b2 : Below w1.heap.size w1 w2) => rMay_any S f s (.agg #[.int .i64 kd, .int .u64 i1, .slice X2 n2 z2, .slice X3 n3 z3]) w2 ⟨_, _, _, _, rfl, TM.keepS f _ _ _ _ _ ts1 b2.size (fun b _ hl => b2.block b hl) fun _ h => h⟩)
  clear hm hmK ts hl hkeys hS hsh hkd
  go_enter Tryd.func5, Tryd.ntmps5
  go_upto_region 1 with fail
  rw [← hw1]
  clear hw1
  go_cut [45] from 13 to 44 (fun q wc => ∃ b : Bool, q = .bool b ∧ Below w1.heap.size w1 wc ∧ Hid (b = false → askS f s))
  case first =>
    go_wp2_with fail
    refine hsm.mono ?_
    rintro e w2 ⟨b, rfl, _, b2⟩
    clear hsm
    cases b with
    | false =>
      go_wp2_with fail
      go_meet
      exact ⟨true, rfl, b2, fun h => by cases h⟩
    | true =>
      have kx2 := kx.below b2 kx.lt
      have x0 : w2.cell? ⟨w.heap.size, 0, none⟩ = some (.int .i64 kd) := kx2.cell 0
      have x1 : w2.cell? ⟨w.heap.size, 1, none⟩ = some (.int .u64 i1) := kx2.cell 1
      have x2 : w2.cell? ⟨w.heap.size, 2, none⟩ = some (.slice X2 n2 z2) := kx2.cell 2
      have x3 : w2.cell? ⟨w.heap.size, 3, none⟩ = some (.slice X3 n3 z3) := kx2.cell 3
      have hsm2 := HSM.out w2 b2
      go_wp2_with fail
      refine hsm2.mono ?_
      rintro e w3 ⟨b, rfl, b3⟩
      have B3 := b2.trans (b3.mono b2.size)
      clear hsm2 x0 x1 x2 x3
      cases b with
      | false =>
        go_wp2_with fail
        go_meet
        exact ⟨true, rfl, B3, fun h => by cases h⟩
      | true =>
        have kx3 := kx.below B3 kx.lt
        have x0 : w3.cell? ⟨w.heap.size, 0, none⟩ = some (.int .i64 kd) := kx3.cell 0
        have x1 : w3.cell? ⟨w.heap.size, 1, none⟩ = some (.int .u64 i1) := kx3.cell 1
        have x2 : w3.cell? ⟨w.heap.size, 2, none⟩ = some (.slice X2 n2 z2) := kx3.cell 2
        have x3 : w3.cell? ⟨w.heap.size, 3, none⟩ = some (.slice X3 n3 z3) := kx3.cell 3
        have hmy3 := HMY.out w3 B3
        by_cases h40 : 40 < keys.length
        · have g1 : (40 : Int) < (keys.length : Int) := by omega
          go_wp2_with fail
          go_meet
          exact ⟨true, rfl, B3, fun h => by cases h⟩
        · have g1 : ¬ (40 : Int) < (keys.length : Int) := by omega
          have fin : ∀ (q : kd = 1 ∨ kd = 3 ∨ kd = 2) (b : Bool), mayT f s 8 = b → (!b) = false → askS f s := fun q b hb h => by
            refine ⟨?_, by rw [hb]; cases b <;> simp_all⟩
            rw [HKD.out]
            unfold putK
            exact decide_eq_false (by omega)
          have HFIN := Lib.hid fin
          clear fin
          generalize mayT f s 8 = my at *
          by_cases h1 : kd = 1
          · have HF := Lib.hid (HFIN.out (.inl h1) my rfl)
            have h1' := h1
            subst h1
            clear HKD HFIN HSM HMY
            go_wp2_with fail
            refine hmy3.mono ?_
            rintro e w4 ⟨rfl, b4⟩
            clear hmy3 x0 x1 x2 x3
            go_wp2_with fail
            go_meet
            exact ⟨_, rfl, B3.trans (b4.mono B3.size), fun h => HF.out (Bool.or_eq_false_iff.1 h).2⟩
          · have n1 : (kd != 1) = true := bne_iff_ne.2 h1
            by_cases h3 : kd = 3
            · have HF := Lib.hid (HFIN.out (.inr (.inl h3)) my rfl)
              subst h3
              clear HKD HFIN HSM HMY
              go_wp2_with fail
              refine hmy3.mono ?_
              rintro e w4 ⟨rfl, b4⟩
              clear hmy3 x0 x1 x2 x3
              go_wp2_with fail
              go_meet
              exact ⟨_, rfl, B3.trans (b4.mono B3.size), fun h => HF.out (Bool.or_eq_false_iff.1 h).2⟩
            · have n3 : (kd != 3) = true := bne_iff_ne.2 h3
              by_cases h2 : kd = 2
              · have HF := Lib.hid (HFIN.out (.inr (.inr h2)) my rfl)
                subst h2
                clear HKD HFIN HSM HMY
                go_wp2_with fail
                refine hmy3.mono ?_
                rintro e w4 ⟨rfl, b4⟩
                clear hmy3 x0 x1 x2 x3
                go_wp2_with fail
                go_meet
                exact ⟨_, rfl, B3.trans (b4.mono B3.size), fun h => HF.out (Bool.or_eq_false_iff.1 h).2⟩
              · have n2' : (kd != 2) = true := bne_iff_ne.2 h2
                clear HKD HFIN HSM HMY hmy3
                go_wp2_with fail
                go_meet
                exact ⟨true, rfl, B3, fun h => by cases h⟩
  case rest =>
    obtain ⟨b, rfl, b2, HAS⟩ := hcut
    obtain ⟨w2, rfl⟩ : ∃ w2, w2 = wc := ⟨_, rfl⟩
    have B2 := b1.trans (b2.mono b1.size)
    have hsh2 := hsh1.below b2
    cases b with
    | true =>
      clear hl1 hk1 ts1 hsm HSM HMY
      go_wp2_with fail
      refine (dlive_any w2 hsh2).mono ?_
      rintro e w3 ⟨rfl, b3⟩
      have B3 := B2.trans (b3.mono B2.size)
      go_wp2_with fail
      go_ret
      exact ⟨rfl, B3⟩
    | false =>
      obtain ⟨hput, hmay⟩ := HAS.out rfl
      have hl2 := hl1.keep b2.size fun b _ hb => b2.block b hb
      have hk2 := hk1.below' b2
      have ts2 := TM.keepS (w' := w2) (S' := S) f _ _ _ _ _ ts1 b2.size (fun b _ hl => b2.block b hl) fun _ h => h
      have hS2 : ∀ b, S b → b < w2.heap.size := fun b hb => Nat.lt_of_lt_of_le (hS1 b hb) b2.size
      have kx2 := kx.below b2 kx.lt
      have hc := closure_any S f l (.slice A l.length c) w2 hS2 hsh2 hl2
      have hE64 := errT_64 f l
      obtain ⟨E, hE⟩ : ∃ E, E = errT f l := ⟨_, rfl⟩
      rw [← hE] at hc hE64
      have HE := Lib.hid hE
      have HPK := Lib.hid hput
      have HMS := Lib.hid hmay
      clear hE hput hmay HAS hl1 hk1 ts1 hsm HSM HMY hsh1 hS1 HKD
      go_wp2_with fail
      refine hc.mono ?_
      rintro e w3 ⟨u, rfl, hcl, b3⟩
      have B3 := B2.trans (b3.mono B2.size)
      have hsh3 := hsh2.below b3
      obtain ⟨ks, hks, k1⟩ := closed_ks hcl (Below.refl _ _)
      obtain ⟨A1, n1, c1, rfl⟩ := ks_form k1
      clear hc hcl
      go_wp2_with fail
      refine (num6_any E w3 hE64).mono ?_
      rintro e w3' ⟨rfl, rfl⟩
      by_cases h0 : E = 0
      · subst h0
        rw [if_pos rfl] at hks
        subst hks
        have HOK := Lib.hid (errT_ok HE.out.symm)
        have hl3 := hl2.keep b3.size fun b _ hb => b3.block b hb
        have hk3 := hk2.below' b3
        have ts3 := TM.keepS (w' := w3) (S' := S) f _ _ _ _ _ ts2 b3.size (fun b _ hl => b3.block b hl) fun _ h => h
        have hS3 : ∀ b, S b → b < w3.heap.size := fun b hb => Nat.lt_of_lt_of_le (hS2 b hb) b3.size
        have kx3 := kx2.below b3 kx2.lt
        clear hl2 hk2 ts2 hS2 kx2 hE64
        go_wp2_with fail
        go_loopw [9] (fun iv wr => ∃ j : Nat, j ≤ l.length ∧ iv = .int .i64 j ∧ Hid ((l.take j).all (guardD (vwT f) s keys) = true) ∧ Below w3.heap.size w3 wr) (fun iv _ => l.length - (intOf iv).toNat)
        case atStart => exact ⟨0, by omega, rfl, by show _ = _; simp, Below.refl _ _⟩
        case round =>
          obtain ⟨j, hj, rfl, HA, B⟩ := hrel
          have BW := B3.trans (B.mono B3.size)
          have kxr := kx3.below B kx3.lt
          by_cases hlt : j < l.length
          · obtain ⟨b, o, e0, e1, e2, e3, rfl, hb, k0, k1', k2, k3, hv⟩ := el_at hl3 rfl B j hlt
            have hml := HOK.out.1 _ (List.getElem_mem hlt)
            have bd : Below w3.heap.size w3 wr.drew := Below_drawn B 1
            have hc := guarded_any S S S f l[j] s keys (.agg #[e0, e1, e2, e3]) (.agg #[.int .i64 kd, .int .u64 i1, .slice X2 n2 z2, .slice X3 n3 z3]) (.slice AK keys.length cK) wr.drew (fun b hb => Nat.lt_of_lt_of_le (hS3 b hb) bd.size) (hsh3.below bd) hml ⟨_, _, _, _, rfl, TM.keepS f _ _ _ _ _ hv (Nat.le_refl _) (fun _ _ _ => rfl) fun _ h => h⟩ ⟨_, _, _, _, rfl, TM.keepS f _ _ _ _ _ ts3 bd.size (fun b _ hl => bd.block b hl) fun _ h => h⟩ (hk3.below' bd)
            have HY : Hid (guardD (vwT f) s keys l[j] = true → (l.take (j + 1)).all (guardD (vwT f) s keys) = true) := fun h => all_step hlt HA.out h
            have q0 := kxr.cell 0
            have q1 := kxr.cell 1
            have q2 := kxr.cell 2
            have q3 := kxr.cell 3
            generalize guardD (vwT f) s keys l[j] = r at *
            have B' : Below w3.heap.size w3 wr.drew := bd
            have hb2 : b < wr.heap.size := Nat.lt_of_lt_of_le hb B.size
            have hw2 : w.heap.size < wr.heap.size := kxr.lt
            clear hv hml HA bd
            have far : ∀ w5, Below wr.drew.heap.size wr.drew w5 → ∀ (g : Nat) (i : Nat) (u : Value), g < wr.heap.size → wr.cell? ⟨g, i, none⟩ = some u → w5.cell? ⟨g, i, none⟩ = some u := fun w5 b5 g i u hg hu =>
              (World.cell?_of_block (w := wr.drew) (b5.block g hg)).trans hu
            go_wp2_with fail
            go_region_held3 (fun w' => w'.cell? ⟨b, o + j * 4, none⟩ = some e0 ∧ w'.cell? ⟨b, o + j * 4 + 1, none⟩ = some e1 ∧ w'.cell? ⟨b, o + j * 4 + 2, none⟩ = some e2 ∧ w'.cell? ⟨b, o + j * 4 + 3, none⟩ = some e3 ∧
                w'.cell? ⟨w.heap.size, 0, none⟩ = some (.int .i64 kd) ∧ w'.cell? ⟨w.heap.size, 1, none⟩ = some (.int .u64 i1) ∧ w'.cell? ⟨w.heap.size, 2, none⟩ = some (.slice X2 n2 z2) ∧ w'.cell? ⟨w.heap.size, 3, none⟩ = some (.slice X3 n3 z3))
              (first | exact ⟨k0, k1', k2, k3, q0, q1, q2, q3⟩ | exact ⟨far _ b5 _ _ _ hb2 k0, far _ b5 _ _ _ hb2 k1', far _ b5 _ _ _ hb2 k2, far _ b5 _ _ _ hb2 k3, far _ b5 _ _ _ hw2 q0, far _ b5 _ _ _ hw2 q1, far _ b5 _ _ _ hw2 q2, far _ b5 _ _ _ hw2 q3⟩ | go_keep)
              (first
                | (go_at_call 15; refine hc.mono ?_; rintro e w5 ⟨rfl, b5⟩; replace B' := B'.trans (b5.mono B'.size)))
            clear far k0 k1' k2 k3 q0 q1 q2 q3 hc b5
            cases r with
            | true =>
              have HY' := Lib.hid (HY.out rfl)
              clear HY
              go_wp2_with fail
              go_roundw
              case rel => exact ⟨j + 1, by omega, by go_num, HY', B'⟩
              case measure => simp [intOf]; omega
            | false =>
              clear HY
              have BE := B3.trans (B'.mono B3.size)
              go_wp2_with fail
              refine (dlive_any _ (hsh3.below B')).mono ?_
              rintro e w6 ⟨rfl, b6⟩
              go_wp2_with fail
              go_ret
              exact ⟨rfl, BE.trans (b6.mono BE.size)⟩
          · obtain rfl : j = l.length := by omega
            have HG : Hid ((∀ x ∈ l, guardD (vwT f) s keys x = true)) := by
              have := HA.out
              rw [List.take_length] at this
              exact List.all_eq_true.1 this
            clear HA
            go_wp2_with fail
            go_loopw [10] (fun iv wr => ∃ j : Nat, j ≤ keys.length ∧ iv = .int .i64 j ∧ Hid (∀ (i n : Nat), i < j → keys[i]? = some n → ∀ x ∈ cloT f l, okD f x → kindT f x = 2 → numT f x ≠ n) ∧ Below w3.heap.size w3 wr) (fun iv _ => keys.length - (intOf iv).toNat)
            case atStart => exact ⟨0, by omega, rfl, fun i n h => absurd h (Nat.not_lt_zero _), B⟩
            case round =>
              clear B BW kxr
              obtain ⟨j, hj, rfl, HN, B⟩ := hrel
              have BW := B3.trans (B.mono B3.size)
              have kxr := kx3.below B kx3.lt
              by_cases hlt : j < keys.length
              · obtain ⟨b, o, rfl, hb, k0⟩ := us_at hk3 rfl B j hlt
                have hkj : keys[j]? = some keys[j] := List.getElem?_eq_getElem hlt
                have hnj : keys[j] < 18446744073709551616 := by
                  obtain ⟨_, _, _, _, _, _, hr, _⟩ := hk3
                  exact hr _ (List.getElem_mem hlt)
                have hh := has_key _ _ f s (cloT f l) keys[j] (.slice A1 n1 c1) wr hnj (k1.keep B.size fun b _ hb => B.block b hb)
                have HNN : Hid ((∀ x ∈ cloT f l, okD f x → kindT f x = 2 → numT f x ≠ keys[j]) → ∀ (i n : Nat), i < j + 1 → keys[i]? = some n → ∀ x ∈ cloT f l, okD f x → kindT f x = 2 → numT f x ≠ n) := by
                  intro h i n hi hin
                  by_cases hij : i < j
                  · exact HN.out i n hij hin
                  · obtain rfl : i = j := by omega
                    rw [hkj] at hin
                    obtain rfl := Option.some.inj hin
                    exact h
                generalize keys[j] = nj at *
                clear HN hkj hnj
                go_wp2_with fail
                refine hh.mono ?_
                rintro e w5 ⟨r, rfl, hr, b5⟩
                have B5 := B.trans (b5.mono B.size)
                have HR := Lib.hid hr
                clear hh k0 hr
                cases r with
                | true =>
                  clear HNN HR
                  have BE := B3.trans (B5.mono B3.size)
                  go_wp2_with fail
                  refine (dlive_any _ (hsh3.below B5)).mono ?_
                  rintro e w6 ⟨rfl, b6⟩
                  go_wp2_with fail
                  go_ret
                  exact ⟨rfl, BE.trans (b6.mono BE.size)⟩
                | false =>
                  have HN' := Lib.hid (HNN.out (HR.out rfl))
                  clear HNN HR
                  go_wp2_with fail
                  go_roundw
                  case rel => exact ⟨j + 1, by omega, by go_num, HN', B5⟩
                  case measure => simp [intOf]; omega
              · obtain rfl : j = keys.length := by omega
                have hfol : followT f l s = false := secretT f l s keys HPK.out HOK.out.1 HG.out fun x hx hok hkd hmem => by
                  obtain ⟨i, hi, he⟩ := List.mem_iff_getElem.1 hmem
                  exact HN.out i _ hi (List.getElem?_eq_getElem hi) x hx hok hkd he.symm
                have hef : errF f l s = 0 := by unfold errF; rw [if_pos HE.out.symm, if_pos HMS.out]
                have han : ansF f l s = false := by unfold ansF; rw [if_pos hef, hfol]
                have hfo := follows_any S S f l s (.slice A l.length c) (.agg #[.int .i64 kd, .int .u64 i1, .slice X2 n2 z2, .slice X3 n3 z3]) wr (fun b hb => Nat.lt_of_lt_of_le (hS3 b hb) B.size) (fun b hb => Nat.lt_of_lt_of_le (hS3 b hb) B.size) (hsh3.below B) (hl3.keep B.size fun b _ hb => B.block b hb) ⟨_, _, _, _, rfl, TM.keepS f _ _ _ _ _ ts3 B.size (fun b _ hl => B.block b hl) fun _ h => h⟩
                rw [hef, han] at hfo
                have x0 : wr.cell? ⟨w.heap.size, 0, none⟩ = some (.int .i64 kd) := kxr.cell 0
                have x1 : wr.cell? ⟨w.heap.size, 1, none⟩ = some (.int .u64 i1) := kxr.cell 1
                have x2 : wr.cell? ⟨w.heap.size, 2, none⟩ = some (.slice X2 n2 z2) := kxr.cell 2
                have x3 : wr.cell? ⟨w.heap.size, 3, none⟩ = some (.slice X3 n3 z3) := kxr.cell 3
                clear hfol hef han HN HG HOK HPK HMS HE hl3 hk3 ts3 k1
                go_wp2_with fail
                refine hfo.mono ?_
                rintro e w5 ⟨rfl, b5⟩
                have B5 := B.trans (b5.mono B.size)
                clear hfo x0 x1 x2 x3
                go_wp2_with fail
                refine (num6_any 0 _ (by unfold I64; omega)).mono ?_
                rintro e w5' ⟨rfl, rfl⟩
                have BE := B3.trans (B5.mono B3.size)
                go_wp2_with fail
                refine (dlive_any _ (hsh3.below B5)).mono ?_
                rintro e w6 ⟨rfl, b6⟩
                go_wp2_with fail
                go_ret
                exact ⟨rfl, BE.trans (b6.mono BE.size)⟩
      · clear hl2 hk2 ts2 hS2 kx2
        have g1 : (E != 0) = true := bne_iff_ne.2 h0
        have g2 : (E == 0) = false := beq_eq_false_iff_ne.2 h0
        go_wp2_with fail
        refine (dlive_any w3 hsh3).mono ?_
        rintro e w4 ⟨rfl, b4⟩
        have B4 := B3.trans (b4.mono B3.size)
        go_wp2_with fail
        go_ret
        exact ⟨rfl, B4⟩

theorem deriveSecret_law {H : Type} (enc : TypeId × Value → H) (W : World) (base : Nat) (hsh : Shp W) (v0 : Value) (d0 : DataW H) (p0 : List MemPlace) (v1 : Value) (d1 : DataW H) (p1 : List MemPlace) (v2 : Value) (d2 : DataW H) (p2 : List MemPlace)
    (hv0 : Value.okWide Tryd.prog W .any base 22 v0) (hv1 : Value.okWide Tryd.prog W .any base 35 v1) (hv2 : Value.okWide Tryd.prog W .any base 40 v2) (h0 : DataW.Trod enc Tryd.prog W 0 (fun _ => true) true 22 v0 d0 p0) (h1 : DataW.Trod enc Tryd.prog W 0 (fun _ => true) true 35 v1 d1 p1) (h2 : DataW.Trod enc Tryd.prog W 0 (fun _ => true) true 40 v2 d2 p2) :
    Calls Tryd.prog 5 #[v0, v1, v2] W fun e w' => e = .returned (.bool true) ∧ Below W.heap.size W w' := by
  obtain ⟨n, hn⟩ := open_terms hv0 h0
  obtain ⟨m, hm⟩ := open_term hv1 h1
  obtain ⟨ks, hk⟩ := hn (max n m) (Nat.le_max_left _ _)
  obtain ⟨t, ht⟩ := hm (max n m) (Nat.le_max_right _ _)
  obtain ⟨keys, hkeys⟩ := open_nums Tryd.underlying40 Tryd.underlying32 (by kernel_rfl) hv2 h2
  exact deriveSecret_any _ (max n m) ks t keys v0 v1 v2 W (fun b h => h) hsh hk ht hkeys
end Go.Proofs.YthgaljgelngmaaaDoor
end

section
namespace Go.Proofs.YthgaljgelngmaaaDoor.deriveSecret
open Go.ChangeShapes Go.WideShapes Go.ChangeAt Go.RowKit
set_option linter.unusedVariables false

theorem own : ownKnob Tryd.prog.godebug = none := by kernel_rfl
theorem laidOut : laidOutB Tryd.prog = true := by kernel_rfl

theorem door_met (os : Os) (args : Array Value) : laidMetH Tryd.prog Rows.deriveSecretRow.laid ((World.doorLaid Tryd.prog 400 os).forCall (fun _ _ => 0) ⟨#[], args, []⟩).memory :=
  laidMetH_of_parts3 (fuel := 8) (laidMet_of_run' 8 (by kernel_rfl) (by kernel_rfl)) (by kernel_rfl) (by kernel_rfl)

set_option maxRecDepth 100000 in
theorem lifted (os : Os) (started : os.Started) (H : Type) (enc : TypeId × Value → H) :
    ReturnsInHanded {} Tryd.checked os 5 .any (fun w args => (Rows.deriveSecretSpec.pre enc Tryd.prog Tryd.f5 [] false w args ∧ laidMetH Tryd.prog Rows.deriveSecretRow.laid w) ∧ sizedMet enc Tryd.prog Tryd.f5 (OpenSpec.ofChange Rows.deriveSecretSpec) false w args)
      (Rows.deriveSecretSpec.post enc Tryd.prog Tryd.f5 false true false false) := by
  refine returnsInHanded_of_change_and (C := Tryd.checked) (X := fun w _ => laidMetH Tryd.prog Rows.deriveSecretRow.laid w) (fun _ _ _ hh h => h.of_heap hh) own started (by kernel_rfl) Tryd.func5
    (ChangeSpec.witness_shaped (enc := enc) (C := Tryd.checked) (os := os) (X := fun w _ => laidMetH Tryd.prog Rows.deriveSecretRow.laid w) false (World.doorLaid Tryd.prog 400 os) #[.slice none 0 0, .agg #[.int .i64 0, .int .u64 0, .slice none 0 0, .slice none 0 0], .slice none 0 0] 8 rfl (World.shaped_of_RefB (by kernel_rfl) (by kernel_rfl)) (by kernel_rfl) (by kernel_rfl) (by kernel_rfl) (door_met os _)) ?_
  intro W base args ds gs before hval0 hW _ _ hL _
  have hval : ∀ (j : Nat) t v, Tryd.f5.params[j]? = some t → args[j]? = some v → Value.okWide Tryd.prog W .any base t v := hval0
  have hW' := hW
  obtain ⟨p, q, hA0, hV, rfl, hfz, hnd⟩ := hW
  have hA : DataW.TrodAll enc Tryd.prog W 0 (fun _ => true) true Tryd.f5.params.toList args.toList ds p := hA0
  rw [Tryd.params5] at hA hval
  obtain ⟨v0, vs0, d0, ds0, p0, q0, hargs, rfl, rfl, h0, r0⟩ := trodAll_cons hA
  obtain ⟨v1, vs1, d1, ds1, p1, q1, rfl, rfl, rfl, h1, r1⟩ := trodAll_cons r0
  obtain ⟨v2, vs2, d2, ds2, p2, q2, rfl, rfl, rfl, h2, r2⟩ := trodAll_cons r1
  obtain ⟨rfl, rfl, rfl⟩ := trodAll_nil r2
  obtain rfl : args = #[v0, v1, v2] := by cases args; simp_all
  obtain ⟨rfl, rfl⟩ := trodVars_none hV
  have lt0 : ∀ x ∈ p0, x.block < W.heap.size := by obtain ⟨m, hm⟩ := h0; exact DataW.trod_lt m _ _ _ hm
  have lt1 : ∀ x ∈ p1, x.block < W.heap.size := by obtain ⟨m, hm⟩ := h1; exact DataW.trod_lt m _ _ _ hm
  have lt2 : ∀ x ∈ p2, x.block < W.heap.size := by obtain ⟨m, hm⟩ := h2; exact DataW.trod_lt m _ _ _ hm
  refine (deriveSecret_law enc W base (shp_of_laid (by kernel_rfl) hL) v0 d0 p0 v1 d1 p1 v2 d2 p2 (hval 0 _ v0 rfl rfl) (hval 1 _ v1 rfl rfl) (hval 2 _ v2 rfl rfl) h0 h1 h2).mono fun e W' ⟨he, bel⟩ => ?_
  subst he
  exact ⟨_, rfl, _, _, _, [], _, [], hW', trodAll_mk1 (shut_bool Tryd.underlying4 _), (trodAll_cons_mk (Below.trod laidOut (by kernel_rfl) (of_decide_eq_true (by kernel_rfl)) h0 bel lt0) (trodAll_cons_mk (Below.trod laidOut (by kernel_rfl) (of_decide_eq_true (by kernel_rfl)) h1 bel lt1) (trodAll_cons_mk (Below.trod laidOut (by kernel_rfl) (of_decide_eq_true (by kernel_rfl)) h2 bel lt2) trodAll_mk0))), rfl, bel.frame _, fun h => by cases h⟩

theorem over : Rows.deriveSecretRow.holds Tryd.pinned (OpenSpec.ofChange Rows.deriveSecretSpec) :=
  OpenClaim.holds_of_wide 5 Tryd.f5 rfl rfl rfl rfl rfl rfl rfl ⟨rfl, rfl, rfl, rfl, rfl⟩ rfl rfl rfl rfl rfl (by kernel_rfl) Tryd.func5 (by kernel_rfl)
    (of_decide_eq_true (by kernel_rfl)) (by unfold Func.isWrapper; first | (rw [if_pos (by decide +kernel)]; kernel_rfl) | (rw [if_neg (by decide +kernel)]; exact ⟨rfl, rfl⟩))
    (fun os started H enc _ => lifted os started H enc)

theorem proved : Rows.DeriveSecretSaid := over

theorem row_tie : Rows.deriveSecretRow.laidByTextAt .later Tryd.pinned [.data] true := deriveSecret_row_tie

theorem card : Rows.DeriveSecretCardSaid :=
  Claim7.holds_tied_plain_at .later [] [.data] true Rows.deriveSecretCard.stood.harness false
    over (fun _ h => by cases h) (by kernel_rfl) (fun _ h => by cases h) row_tie rfl ⟨rfl, rfl⟩ (by kernel_rfl) rfl
    (fun f fn hf hfn => by
      obtain rfl : f = 5 := Option.some.inj ((show Tryd.prog.funcNamed Rows.deriveSecretRow.func = some 5 by kernel_rfl).symm.trans hf) |>.symm
      obtain rfl : fn = Tryd.f5 := (Option.some.inj (Tryd.func5.symm.trans hfn)).symm
      exact ⟨by kernel_rfl, fun j t ht => by
        rw [Tryd.params5] at ht
        have hm : t ∈ [22, 35, 40] := by simpa using Array.mem_of_getElem? ht
        have hall : ([22, 35, 40].all fun u => !Tryd.prog.wantsStandIn u) = true := by kernel_rfl
        exact (show Tryd.prog.wantsStandIn t = false by simpa using List.all_eq_true.1 hall t hm)⟩)
    (by kernel_rfl)
end Go.Proofs.YthgaljgelngmaaaDoor.deriveSecret
end
