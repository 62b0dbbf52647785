/-
  Which inode bytes are: the document's Get (layer 12), over the loaded program. No condition but sizes that the contract names.
-/
import Derived.Test.YtgahnjhibpcbaaaInF
import Derived.Test.YtgahnjhibpcbaaaInS
import Derived.Test.YtgahnjhibpcbaaaRefB
import Derived.Test.YtgahnjhibpcbaaaAlT
import Derived.Test.YtgahnjhibpcbaaaCopy
import Derived.Test.YtgahnjhibpcbaaaHeld
import Derived.Test.YtgahnjhibpcbaaaRes
import Derived.Deep.Cut
import Derived.Deep.CutRange
namespace Go.Proofs.Ytgahnjhibpcbaaa
open Go.RowKit
set_option maxRecDepth 100000
set_option linter.unusedVariables false

theorem RR.far {w w' : World} {g k : Nat} {S : Nat → Prop} {st : Option (List UInt8)} (h : RR w g S st) (hg : w.grownBy w' (some k)) (hne : k ≠ g) (hs : ¬ S k) : RR w' g S st := by
  obtain ⟨v, l, h1, h2, h3, h4⟩ := h
  exact ⟨v, l, h1.grown hg (fun e => hne (by injection e)), h2.grown hg (fun j e => by injection e with e; subst e; exact hs), h3, h4⟩
theorem RR.flag {w : World} {g : Nat} {S : Nat → Prop} {st : Option (List UInt8)} (h : RR w g S st) : w.cell? ⟨g, 1, none⟩ = some (.bool st.isNone) := by
  obtain ⟨v, l, h1, _⟩ := h
  exact h1.cell 1
theorem RR.rest {w : World} {g : Nat} {S : Nat → Prop} {l : List UInt8} (h : RR w g S (some l)) : ∃ v, w.cell? ⟨g, 0, none⟩ = some v ∧ BS w S v l := by
  obtain ⟨v, l', h1, h2, _, h4⟩ := h
  have := h4 l rfl
  subst this
  exact ⟨v, h1.cell 0, h2⟩

set_option maxHeartbeats 2000000 in
theorem rget_any (S : Nat → Prop) (v : Value) (l : List UInt8) (n : Int) (w : World) (h : BS w S v l) (hl : l.length ≤ 1000000) :
    Calls Try.prog 16 #[v, .int .i64 n] w (GetAs w (getS l n)) := by
  have K4 := KB.new w 24 #[.string ⟨#[]⟩, .int .i64 0, .slice none 0 0]
  have B := (Below.refl w.heap.size w).alloc (Nat.le_refl _) (.cells #[.string ⟨#[]⟩, .int .i64 0, .slice none 0 0] 24)
  have h1 := h.alloc (.cells #[.string ⟨#[]⟩, .int .i64 0, .slice none 0 0] 24)
  obtain ⟨R, hR⟩ : ∃ R, R = getS l n := ⟨_, rfl⟩
  rw [← hR]
  have HR := Lib.hid hR
  obtain ⟨⟨st1, nm⟩, hT⟩ : ∃ p, txtOf 16 (some l) = p := ⟨_, rfl⟩
  obtain ⟨⟨st2, z⟩, hC⟩ : ∃ p, cntOf 24576 st1 = p := ⟨_, rfl⟩
  have hnl : nm.length ≤ 1000000 := by
    have k1 := congrArg (fun p => p.2.length) hT
    have k2 := txt_few 16 (some l)
    simp only at k1
    rw [← k1]
    simp at k2
    omega
  have hz64 : I64 (z : Int) := by
    have k := numOf_lt st1
    have : (z : Int) ≤ 24576 := by
      unfold cntOf at hC
      split at hC
      · injection hC with _ e; omega
      · rename_i hh; rw [hC] at hh; simp only at hh; omega
    exact ⟨by omega, by omega⟩
  have hlen1 : (st1.getD []).length ≤ 1000000 := by
    have k1 := txt_len 16 (some l)
    rw [hT] at k1
    simp at k1
    omega
  have hlen2 : (st2.getD []).length ≤ 1000000 := by
    have k2 := cntOf_len 24576 st1
    rw [hC] at k2
    simp only at k2
    omega
  have htext := fun g S0 W h => rtext 16 (by omega) g S0 (some l) W h (by simp; omega)
  rw [hT] at htext
  simp only at htext
  have hcnt := fun g S0 W h => rcount 24576 (by omega) g S0 st1 W h (by omega)
  rw [hC] at hcnt
  simp only at hcnt
  have HT := Lib.hid hT
  have HC := Lib.hid hC
  clear hR h hT hC hlen1
  go_enter Try.func16, Try.ntmps16
  go_wp2_with fail
  refine (copy_any S v l _ h1 (by omega)).mono ?_
  rintro e w1 ⟨v1, rfl, o1, b1⟩
  have x1 := own_BS o1
  obtain ⟨A1, c1, rfl, _⟩ := x1.form
  replace K4 := K4.below b1 K4.lt
  replace B := B.trans (b1.mono B.size)
  clear h1 b1 o1
  go_upto_region 2 with fail
  have bA := (Below.refl w1.heap.size w1).alloc (Nat.le_refl _) (.cells #[.slice A1 l.length c1, .bool false] 61)
  have hr : RR (w1.alloc (.cells #[.slice A1 l.length c1, .bool false] 61)) w1.heap.size (fun b => (w.alloc (.cells #[.string ⟨#[]⟩, .int .i64 0, .slice none 0 0] 24)).heap.size ≤ b ∧ b < w1.heap.size) (some l) :=
    ⟨_, l, KB.new w1 _ _, x1.below' bA, (fun h => by have := h.2; omega), fun l' h => by injection h⟩
  obtain ⟨S0, hS0, hS0l⟩ : ∃ S0 : Nat → Prop, S0 = (fun b => (w.alloc (.cells #[.string ⟨#[]⟩, .int .i64 0, .slice none 0 0] 24)).heap.size ≤ b ∧ b < w1.heap.size) ∧ ∀ b, S0 b → b < w1.heap.size := ⟨_, rfl, fun b h => h.2⟩
  rw [← hS0] at hr
  clear hS0 x1
  replace hgw : w.heap.size < w1.heap.size := K4.lt
  replace K4 := K4.below bA K4.lt
  replace B := B.trans (bA.mono B.size)
  obtain ⟨g, hg⟩ : ∃ g, g = w1.heap.size := ⟨_, rfl⟩
  rw [← hg] at hr hS0l hgw ⊢
  generalize w1.alloc (.cells #[.slice A1 l.length c1, .bool false] 61) = w2 at hr K4 B ⊢
  clear hg bA
  have hne4 : some g ≠ some w.heap.size := by simp; omega
  go_cut [7] from 14 to 20 (fun p wc => ∃ g7, p = .pointer (some ⟨g7, 0, none⟩) ∧ KB wc g7 24 #[.string ⟨nm.toArray⟩, .int .i64 (z : Int), .slice none 0 0] ∧ RR wc g S0 st2 ∧ KB wc w.heap.size 24 #[.string ⟨#[]⟩, .int .i64 0, .slice none 0 0] ∧ Below w.heap.size w wc ∧ g < g7)
  case first =>
    clear HR HT HC hz64 hnl hlen2
    have HTX := Lib.hid (fun W => htext g S0 W)
    have HCN := Lib.hid (fun W => hcnt g S0 W)
    clear htext hcnt
    replace hr := RR.below hr (Below_drawn (Below.refl w2.heap.size w2) 1)
    replace K4 := K4.drewN 1
    replace B := Below_drawn B 1
    refine wp_region_held_drew (S := (fun _ => True)) (by kernel_rfl) trivial (fun hHeld => ?_)
    obtain ⟨wB, hwB⟩ : ∃ u, u = w2.drew := ⟨_, rfl⟩
    rw [← hwB]
    change RR w2.drew g S0 (some l) at hr
    change KB w2.drew w.heap.size _ _ at K4
    change Below w.heap.size w w2.drew at B
    rw [← hwB] at hr K4 B
    clear hwB
    refine held_yes (o := ⟨some 14, _, _, _, _, _⟩) (v := ?_) 0 rfl (by kernel_rfl) (by kernel_rfl) (by kernel_rfl) (fun _ _ _ h => h) (by rfl) hHeld (fun w hSw => ?_) ?_
    rotate_left
    · (try dsimp only at hSw)
      go_simp
      with_reducible rfl
    go_frame
    refine held_yes (o := ⟨some 17, _, _, _, _, _⟩) (v := ?_) 3 rfl (by kernel_rfl) (by kernel_rfl) (by kernel_rfl) (fun _ _ _ h => h) (by rfl) hHeld (fun w hSw => ?_) ?_
    rotate_left
    · (try dsimp only at hSw)
      go_simp
      with_reducible rfl
    go_frame
    refine held_two (o := ⟨some 15, _, _, _, _, _⟩) (p := ⟨some 7, _, _, _, _, _⟩) 1 6 (by kernel_rfl) rfl rfl (by rfl) (by rfl) (fun K hK => ?_) (fun K hK => ?_)
    · go_simp
      go_at_call 39
      refine (HTX.out _ hr).mono ?_
      rintro e w3 ⟨v2, rfl, hr1, x2, gr⟩
      have hgS : ∀ k, some g = some k → ¬ (wB.heap.size ≤ k) := fun k e => by injection e with e; have := hr.lt; omega
      replace K4 := K4.grown gr hne4
      replace B := B.trans (below_of_grown' gr (Nat.le_of_lt hgw) B.size)
      replace hr := hr1
      obtain ⟨A2, c2, rfl, _⟩ := x2.form
      clear gr hr1
      go_wp2_with fail
      refine hK.out _ _ ?_ (fun hH2 => ?_)
      · trivial
      clear hHeld hK K
      have hHeld := hH2
      clear hH2
      try go_frame
      refine held_three (o := ⟨some 16, _, _, _, _, _⟩) (p := ⟨some 18, _, _, _, _, _⟩) (q := ⟨some 7, _, _, _, _, _⟩) 2 4 6 (by kernel_rfl) rfl rfl rfl (by rfl) (by rfl) (by rfl) (fun K hK => ?_) (fun K hK => ?_) (fun K hK => ?_)
      · have hcv := x2.str (P := Try.prog) Try.underlying27 Try.underlying5 Try.underlying9
        go_simp
        clear hcv x2 hgS
        obtain ⟨w4, hw4⟩ : ∃ u, u = w3 := ⟨_, rfl⟩
        rw [← hw4] at hr K4 B ⊢
        clear hw4
        refine hK.out _ _ ?_ (fun hH2 => ?_)
        · trivial
        clear hHeld hK K
        have hHeld := hH2
        clear hH2
        try go_frame
        refine held_two (o := ⟨some 18, _, _, _, _, _⟩) (p := ⟨some 7, _, _, _, _, _⟩) 4 6 (by kernel_rfl) rfl rfl (by rfl) (by rfl) (fun K hK => ?_) (fun K hK => ?_)
        · go_simp
          go_at_call 40
          refine (HCN.out _ hr).mono ?_
          rintro e w5 ⟨rfl, hr1, gr⟩
          replace K4 := K4.grown gr hne4
          replace B := B.trans (below_of_grown' gr (Nat.le_of_lt hgw) B.size)
          replace hr := hr1
          clear gr hr1
          go_wp2_with fail
          refine hK.out _ _ ?_ (fun hH2 => ?_)
          · trivial
          clear hHeld hK K
          have hHeld := hH2
          clear hH2
          try go_frame
          refine held_yes (o := ⟨some 19, _, _, _, _, _⟩) (v := ?_) 5 rfl (by kernel_rfl) (by kernel_rfl) (by kernel_rfl) (fun _ _ _ h => h) (by rfl) hHeld (fun w hSw => ?_) ?_
          rotate_left
          · (try dsimp only at hSw)
            go_simp
            with_reducible rfl
          go_frame
          refine held_one (o := ⟨some 7, _, _, _, _, _⟩) 6 (by kernel_rfl) rfl (by rfl) (fun K hK => ?_)
          go_simp
          have bA := (Below.refl w5.heap.size w5).alloc (Nat.le_refl _) (.cells #[.string ⟨#[]⟩, .int .i64 0, .slice none 0 0] 24)
          have K7 := KB.new w5 24 #[.string ⟨#[]⟩, .int .i64 0, .slice none 0 0]
          have h7 : g < w5.heap.size := hr.lt
          have h47 : w.heap.size < w5.heap.size := K4.lt
          replace hr := hr.below bA
          replace K4 := K4.below bA K4.lt
          replace B := B.trans (bA.mono B.size)
          obtain ⟨g7, hg7⟩ : ∃ g7, g7 = w5.heap.size := ⟨_, rfl⟩
          rw [← hg7] at K7 h7 h47 ⊢
          have hne7 : some g ≠ some g7 := by simp; omega
          generalize w5.alloc (.cells #[.string ⟨#[]⟩, .int .i64 0, .slice none 0 0] 24) = w6 at hr K4 K7 B ⊢
          clear bA hg7
          refine hK.out _ _ ?_ (fun hH2 => ?_)
          · trivial
          clear hHeld hK K
          have hHeld := hH2
          clear hH2
          try go_frame
          refine held_one (o := ⟨none, _, _, _, _, _⟩) 7 (by kernel_rfl) rfl (by rfl) (fun K hK => ?_)
          have c0 : w6.cell? ⟨g7, 0, none⟩ = some (.string ⟨#[]⟩) := K7.cell 0
          have c1 : w6.cell? ⟨g7, 1, none⟩ = some (.int .i64 0) := K7.cell 1
          have c2 : w6.cell? ⟨g7, 2, none⟩ = some (.slice none 0 0) := K7.cell 2
          have f0 := K7.free 0
          have f1 := K7.free 1
          have f2 := K7.free 2
          have k8 := K7.put3 (.string ⟨nm.toArray⟩) (.int .i64 (z : Int)) (.slice none 0 0)
          have g8 := grown_three w6 g7 (.string ⟨nm.toArray⟩) (.int .i64 (z : Int)) (.slice none 0 0)
          replace hr := hr.far g8 (by omega) (fun hs => by have := hS0l g7 hs; omega)
          replace K4 := K4.grown g8 (by simp; omega)
          replace B := B.trans (below_of_grown' g8 (Nat.le_of_lt h47) B.size)
          go_simp
          refine hK.out _ _ ?_ (fun hH2 => ?_)
          · trivial
          clear hHeld hK K
          have hHeld := hH2
          clear hH2
          try go_frame
          refine wpAnyH_done (by kernel_rfl) ?_ _
          go_wp2_with fail
          go_meet
          exact ⟨g7, rfl, k8, hr, K4, B, h7⟩
        · go_simp
          have bA := (Below.refl w4.heap.size w4).alloc (Nat.le_refl _) (.cells #[.string ⟨#[]⟩, .int .i64 0, .slice none 0 0] 24)
          have K7 := KB.new w4 24 #[.string ⟨#[]⟩, .int .i64 0, .slice none 0 0]
          have h7 : g < w4.heap.size := hr.lt
          have h47 : w.heap.size < w4.heap.size := K4.lt
          replace hr := hr.below bA
          replace K4 := K4.below bA K4.lt
          replace B := B.trans (bA.mono B.size)
          obtain ⟨g7, hg7⟩ : ∃ g7, g7 = w4.heap.size := ⟨_, rfl⟩
          rw [← hg7] at K7 h7 h47 ⊢
          have hne7 : some g ≠ some g7 := by simp; omega
          generalize w4.alloc (.cells #[.string ⟨#[]⟩, .int .i64 0, .slice none 0 0] 24) = w5 at hr K4 K7 B ⊢
          clear bA hg7
          refine hK.out _ _ ?_ (fun hH2 => ?_)
          · trivial
          clear hHeld hK K
          have hHeld := hH2
          clear hH2
          try go_frame
          refine held_one (o := ⟨some 18, _, _, _, _, _⟩) 4 (by kernel_rfl) rfl (by rfl) (fun K hK => ?_)
          go_simp
          go_at_call 40
          refine (HCN.out _ hr).mono ?_
          rintro e w6 ⟨rfl, hr1, gr⟩
          replace K4 := K4.grown gr hne4
          replace K7 := K7.grown gr hne7
          replace B := B.trans (below_of_grown' gr (Nat.le_of_lt hgw) B.size)
          replace hr := hr1
          clear gr hr1
          go_wp2_with fail
          refine hK.out _ _ ?_ (fun hH2 => ?_)
          · trivial
          clear hHeld hK K
          have hHeld := hH2
          clear hH2
          try go_frame
          refine held_yes (o := ⟨some 19, _, _, _, _, _⟩) (v := ?_) 5 rfl (by kernel_rfl) (by kernel_rfl) (by kernel_rfl) (fun _ _ _ h => h) (by rfl) hHeld (fun w hSw => ?_) ?_
          rotate_left
          · (try dsimp only at hSw)
            go_simp
            with_reducible rfl
          go_frame
          refine held_one (o := ⟨none, _, _, _, _, _⟩) 7 (by kernel_rfl) rfl (by rfl) (fun K hK => ?_)
          have c0 : w6.cell? ⟨g7, 0, none⟩ = some (.string ⟨#[]⟩) := K7.cell 0
          have c1 : w6.cell? ⟨g7, 1, none⟩ = some (.int .i64 0) := K7.cell 1
          have c2 : w6.cell? ⟨g7, 2, none⟩ = some (.slice none 0 0) := K7.cell 2
          have f0 := K7.free 0
          have f1 := K7.free 1
          have f2 := K7.free 2
          have k8 := K7.put3 (.string ⟨nm.toArray⟩) (.int .i64 (z : Int)) (.slice none 0 0)
          have g8 := grown_three w6 g7 (.string ⟨nm.toArray⟩) (.int .i64 (z : Int)) (.slice none 0 0)
          replace hr := hr.far g8 (by omega) (fun hs => by have := hS0l g7 hs; omega)
          replace K4 := K4.grown g8 (by simp; omega)
          replace B := B.trans (below_of_grown' g8 (Nat.le_of_lt h47) B.size)
          go_simp
          refine hK.out _ _ ?_ (fun hH2 => ?_)
          · trivial
          clear hHeld hK K
          have hHeld := hH2
          clear hH2
          try go_frame
          refine wpAnyH_done (by kernel_rfl) ?_ _
          go_wp2_with fail
          go_meet
          exact ⟨g7, rfl, k8, hr, K4, B, h7⟩
      · go_simp
        go_at_call 40
        refine (HCN.out _ hr).mono ?_
        rintro e w4 ⟨rfl, hr1, gr⟩
        replace K4 := K4.grown gr hne4
        replace x2 := x2.grown gr hgS
        replace B := B.trans (below_of_grown' gr (Nat.le_of_lt hgw) B.size)
        replace hr := hr1
        clear gr hr1
        go_wp2_with fail
        refine hK.out _ _ ?_ (fun hH2 => ?_)
        · trivial
        clear hHeld hK K
        have hHeld := hH2
        clear hH2
        try go_frame
        refine held_two (o := ⟨some 16, _, _, _, _, _⟩) (p := ⟨some 7, _, _, _, _, _⟩) 2 6 (by kernel_rfl) rfl rfl (by rfl) (by rfl) (fun K hK => ?_) (fun K hK => ?_)
        · have hcv := x2.str (P := Try.prog) Try.underlying27 Try.underlying5 Try.underlying9
          go_simp
          clear hcv x2 hgS
          obtain ⟨w5, hw5⟩ : ∃ u, u = w4 := ⟨_, rfl⟩
          rw [← hw5] at hr K4 B ⊢
          clear hw5
          refine hK.out _ _ ?_ (fun hH2 => ?_)
          · trivial
          clear hHeld hK K
          have hHeld := hH2
          clear hH2
          try go_frame
          refine held_yes (o := ⟨some 19, _, _, _, _, _⟩) (v := ?_) 5 rfl (by kernel_rfl) (by kernel_rfl) (by kernel_rfl) (fun _ _ _ h => h) (by rfl) hHeld (fun w hSw => ?_) ?_
          rotate_left
          · (try dsimp only at hSw)
            go_simp
            with_reducible rfl
          go_frame
          refine held_one (o := ⟨some 7, _, _, _, _, _⟩) 6 (by kernel_rfl) rfl (by rfl) (fun K hK => ?_)
          go_simp
          have bA := (Below.refl w5.heap.size w5).alloc (Nat.le_refl _) (.cells #[.string ⟨#[]⟩, .int .i64 0, .slice none 0 0] 24)
          have K7 := KB.new w5 24 #[.string ⟨#[]⟩, .int .i64 0, .slice none 0 0]
          have h7 : g < w5.heap.size := hr.lt
          have h47 : w.heap.size < w5.heap.size := K4.lt
          replace hr := hr.below bA
          replace K4 := K4.below bA K4.lt
          replace B := B.trans (bA.mono B.size)
          obtain ⟨g7, hg7⟩ : ∃ g7, g7 = w5.heap.size := ⟨_, rfl⟩
          rw [← hg7] at K7 h7 h47 ⊢
          have hne7 : some g ≠ some g7 := by simp; omega
          generalize w5.alloc (.cells #[.string ⟨#[]⟩, .int .i64 0, .slice none 0 0] 24) = w6 at hr K4 K7 B ⊢
          clear bA hg7
          refine hK.out _ _ ?_ (fun hH2 => ?_)
          · trivial
          clear hHeld hK K
          have hHeld := hH2
          clear hH2
          try go_frame
          refine held_one (o := ⟨none, _, _, _, _, _⟩) 7 (by kernel_rfl) rfl (by rfl) (fun K hK => ?_)
          have c0 : w6.cell? ⟨g7, 0, none⟩ = some (.string ⟨#[]⟩) := K7.cell 0
          have c1 : w6.cell? ⟨g7, 1, none⟩ = some (.int .i64 0) := K7.cell 1
          have c2 : w6.cell? ⟨g7, 2, none⟩ = some (.slice none 0 0) := K7.cell 2
          have f0 := K7.free 0
          have f1 := K7.free 1
          have f2 := K7.free 2
          have k8 := K7.put3 (.string ⟨nm.toArray⟩) (.int .i64 (z : Int)) (.slice none 0 0)
          have g8 := grown_three w6 g7 (.string ⟨nm.toArray⟩) (.int .i64 (z : Int)) (.slice none 0 0)
          replace hr := hr.far g8 (by omega) (fun hs => by have := hS0l g7 hs; omega)
          replace K4 := K4.grown g8 (by simp; omega)
          replace B := B.trans (below_of_grown' g8 (Nat.le_of_lt h47) B.size)
          go_simp
          refine hK.out _ _ ?_ (fun hH2 => ?_)
          · trivial
          clear hHeld hK K
          have hHeld := hH2
          clear hH2
          try go_frame
          refine wpAnyH_done (by kernel_rfl) ?_ _
          go_wp2_with fail
          go_meet
          exact ⟨g7, rfl, k8, hr, K4, B, h7⟩
        · go_simp
          have bA := (Below.refl w4.heap.size w4).alloc (Nat.le_refl _) (.cells #[.string ⟨#[]⟩, .int .i64 0, .slice none 0 0] 24)
          have K7 := KB.new w4 24 #[.string ⟨#[]⟩, .int .i64 0, .slice none 0 0]
          have h7 : g < w4.heap.size := hr.lt
          have h47 : w.heap.size < w4.heap.size := K4.lt
          replace hr := hr.below bA
          replace K4 := K4.below bA K4.lt
          replace B := B.trans (bA.mono B.size)
          replace x2 := x2.below' bA
          obtain ⟨g7, hg7⟩ : ∃ g7, g7 = w4.heap.size := ⟨_, rfl⟩
          rw [← hg7] at K7 h7 h47 ⊢
          have hne7 : some g ≠ some g7 := by simp; omega
          generalize w4.alloc (.cells #[.string ⟨#[]⟩, .int .i64 0, .slice none 0 0] 24) = w5 at hr K4 K7 B x2 ⊢
          clear bA hg7
          refine hK.out _ _ ?_ (fun hH2 => ?_)
          · trivial
          clear hHeld hK K
          have hHeld := hH2
          clear hH2
          try go_frame
          refine held_one (o := ⟨some 16, _, _, _, _, _⟩) 2 (by kernel_rfl) rfl (by rfl) (fun K hK => ?_)
          have hcv := x2.str (P := Try.prog) Try.underlying27 Try.underlying5 Try.underlying9
          go_simp
          clear hcv x2 hgS
          obtain ⟨w6, hw6⟩ : ∃ u, u = w5 := ⟨_, rfl⟩
          rw [← hw6] at hr K4 B K7 ⊢
          clear hw6
          refine hK.out _ _ ?_ (fun hH2 => ?_)
          · trivial
          clear hHeld hK K
          have hHeld := hH2
          clear hH2
          try go_frame
          refine held_yes (o := ⟨some 19, _, _, _, _, _⟩) (v := ?_) 5 rfl (by kernel_rfl) (by kernel_rfl) (by kernel_rfl) (fun _ _ _ h => h) (by rfl) hHeld (fun w hSw => ?_) ?_
          rotate_left
          · (try dsimp only at hSw)
            go_simp
            with_reducible rfl
          go_frame
          refine held_one (o := ⟨none, _, _, _, _, _⟩) 7 (by kernel_rfl) rfl (by rfl) (fun K hK => ?_)
          have c0 : w6.cell? ⟨g7, 0, none⟩ = some (.string ⟨#[]⟩) := K7.cell 0
          have c1 : w6.cell? ⟨g7, 1, none⟩ = some (.int .i64 0) := K7.cell 1
          have c2 : w6.cell? ⟨g7, 2, none⟩ = some (.slice none 0 0) := K7.cell 2
          have f0 := K7.free 0
          have f1 := K7.free 1
          have f2 := K7.free 2
          have k8 := K7.put3 (.string ⟨nm.toArray⟩) (.int .i64 (z : Int)) (.slice none 0 0)
          have g8 := grown_three w6 g7 (.string ⟨nm.toArray⟩) (.int .i64 (z : Int)) (.slice none 0 0)
          replace hr := hr.far g8 (by omega) (fun hs => by have := hS0l g7 hs; omega)
          replace K4 := K4.grown g8 (by simp; omega)
          replace B := B.trans (below_of_grown' g8 (Nat.le_of_lt h47) B.size)
          go_simp
          refine hK.out _ _ ?_ (fun hH2 => ?_)
          · trivial
          clear hHeld hK K
          have hHeld := hH2
          clear hH2
          try go_frame
          refine wpAnyH_done (by kernel_rfl) ?_ _
          go_wp2_with fail
          go_meet
          exact ⟨g7, rfl, k8, hr, K4, B, h7⟩
      · go_simp
        have bA := (Below.refl w3.heap.size w3).alloc (Nat.le_refl _) (.cells #[.string ⟨#[]⟩, .int .i64 0, .slice none 0 0] 24)
        have K7 := KB.new w3 24 #[.string ⟨#[]⟩, .int .i64 0, .slice none 0 0]
        have h7 : g < w3.heap.size := hr.lt
        have h47 : w.heap.size < w3.heap.size := K4.lt
        replace hr := hr.below bA
        replace K4 := K4.below bA K4.lt
        replace B := B.trans (bA.mono B.size)
        replace x2 := x2.below' bA
        obtain ⟨g7, hg7⟩ : ∃ g7, g7 = w3.heap.size := ⟨_, rfl⟩
        rw [← hg7] at K7 h7 h47 ⊢
        have hne7 : some g ≠ some g7 := by simp; omega
        generalize w3.alloc (.cells #[.string ⟨#[]⟩, .int .i64 0, .slice none 0 0] 24) = w4 at hr K4 K7 B x2 ⊢
        clear bA hg7
        refine hK.out _ _ ?_ (fun hH2 => ?_)
        · trivial
        clear hHeld hK K
        have hHeld := hH2
        clear hH2
        try go_frame
        refine held_two (o := ⟨some 16, _, _, _, _, _⟩) (p := ⟨some 18, _, _, _, _, _⟩) 2 4 (by kernel_rfl) rfl rfl (by rfl) (by rfl) (fun K hK => ?_) (fun K hK => ?_)
        · have hcv := x2.str (P := Try.prog) Try.underlying27 Try.underlying5 Try.underlying9
          go_simp
          clear hcv x2 hgS
          obtain ⟨w5, hw5⟩ : ∃ u, u = w4 := ⟨_, rfl⟩
          rw [← hw5] at hr K4 B K7 ⊢
          clear hw5
          refine hK.out _ _ ?_ (fun hH2 => ?_)
          · trivial
          clear hHeld hK K
          have hHeld := hH2
          clear hH2
          try go_frame
          refine held_one (o := ⟨some 18, _, _, _, _, _⟩) 4 (by kernel_rfl) rfl (by rfl) (fun K hK => ?_)
          go_simp
          go_at_call 40
          refine (HCN.out _ hr).mono ?_
          rintro e w6 ⟨rfl, hr1, gr⟩
          replace K4 := K4.grown gr hne4
          replace K7 := K7.grown gr hne7
          replace B := B.trans (below_of_grown' gr (Nat.le_of_lt hgw) B.size)
          replace hr := hr1
          clear gr hr1
          go_wp2_with fail
          refine hK.out _ _ ?_ (fun hH2 => ?_)
          · trivial
          clear hHeld hK K
          have hHeld := hH2
          clear hH2
          try go_frame
          refine held_yes (o := ⟨some 19, _, _, _, _, _⟩) (v := ?_) 5 rfl (by kernel_rfl) (by kernel_rfl) (by kernel_rfl) (fun _ _ _ h => h) (by rfl) hHeld (fun w hSw => ?_) ?_
          rotate_left
          · (try dsimp only at hSw)
            go_simp
            with_reducible rfl
          go_frame
          refine held_one (o := ⟨none, _, _, _, _, _⟩) 7 (by kernel_rfl) rfl (by rfl) (fun K hK => ?_)
          have c0 : w6.cell? ⟨g7, 0, none⟩ = some (.string ⟨#[]⟩) := K7.cell 0
          have c1 : w6.cell? ⟨g7, 1, none⟩ = some (.int .i64 0) := K7.cell 1
          have c2 : w6.cell? ⟨g7, 2, none⟩ = some (.slice none 0 0) := K7.cell 2
          have f0 := K7.free 0
          have f1 := K7.free 1
          have f2 := K7.free 2
          have k8 := K7.put3 (.string ⟨nm.toArray⟩) (.int .i64 (z : Int)) (.slice none 0 0)
          have g8 := grown_three w6 g7 (.string ⟨nm.toArray⟩) (.int .i64 (z : Int)) (.slice none 0 0)
          replace hr := hr.far g8 (by omega) (fun hs => by have := hS0l g7 hs; omega)
          replace K4 := K4.grown g8 (by simp; omega)
          replace B := B.trans (below_of_grown' g8 (Nat.le_of_lt h47) B.size)
          go_simp
          refine hK.out _ _ ?_ (fun hH2 => ?_)
          · trivial
          clear hHeld hK K
          have hHeld := hH2
          clear hH2
          try go_frame
          refine wpAnyH_done (by kernel_rfl) ?_ _
          go_wp2_with fail
          go_meet
          exact ⟨g7, rfl, k8, hr, K4, B, h7⟩
        · go_simp
          go_at_call 40
          refine (HCN.out _ hr).mono ?_
          rintro e w5 ⟨rfl, hr1, gr⟩
          replace K4 := K4.grown gr hne4
          replace K7 := K7.grown gr hne7
          replace x2 := x2.grown gr hgS
          replace B := B.trans (below_of_grown' gr (Nat.le_of_lt hgw) B.size)
          replace hr := hr1
          clear gr hr1
          go_wp2_with fail
          refine hK.out _ _ ?_ (fun hH2 => ?_)
          · trivial
          clear hHeld hK K
          have hHeld := hH2
          clear hH2
          try go_frame
          refine held_one (o := ⟨some 16, _, _, _, _, _⟩) 2 (by kernel_rfl) rfl (by rfl) (fun K hK => ?_)
          have hcv := x2.str (P := Try.prog) Try.underlying27 Try.underlying5 Try.underlying9
          go_simp
          clear hcv x2 hgS
          obtain ⟨w6, hw6⟩ : ∃ u, u = w5 := ⟨_, rfl⟩
          rw [← hw6] at hr K4 B K7 ⊢
          clear hw6
          refine hK.out _ _ ?_ (fun hH2 => ?_)
          · trivial
          clear hHeld hK K
          have hHeld := hH2
          clear hH2
          try go_frame
          refine held_yes (o := ⟨some 19, _, _, _, _, _⟩) (v := ?_) 5 rfl (by kernel_rfl) (by kernel_rfl) (by kernel_rfl) (fun _ _ _ h => h) (by rfl) hHeld (fun w hSw => ?_) ?_
          rotate_left
          · (try dsimp only at hSw)
            go_simp
            with_reducible rfl
          go_frame
          refine held_one (o := ⟨none, _, _, _, _, _⟩) 7 (by kernel_rfl) rfl (by rfl) (fun K hK => ?_)
          have c0 : w6.cell? ⟨g7, 0, none⟩ = some (.string ⟨#[]⟩) := K7.cell 0
          have c1 : w6.cell? ⟨g7, 1, none⟩ = some (.int .i64 0) := K7.cell 1
          have c2 : w6.cell? ⟨g7, 2, none⟩ = some (.slice none 0 0) := K7.cell 2
          have f0 := K7.free 0
          have f1 := K7.free 1
          have f2 := K7.free 2
          have k8 := K7.put3 (.string ⟨nm.toArray⟩) (.int .i64 (z : Int)) (.slice none 0 0)
          have g8 := grown_three w6 g7 (.string ⟨nm.toArray⟩) (.int .i64 (z : Int)) (.slice none 0 0)
          replace hr := hr.far g8 (by omega) (fun hs => by have := hS0l g7 hs; omega)
          replace K4 := K4.grown g8 (by simp; omega)
          replace B := B.trans (below_of_grown' g8 (Nat.le_of_lt h47) B.size)
          go_simp
          refine hK.out _ _ ?_ (fun hH2 => ?_)
          · trivial
          clear hHeld hK K
          have hHeld := hH2
          clear hH2
          try go_frame
          refine wpAnyH_done (by kernel_rfl) ?_ _
          go_wp2_with fail
          go_meet
          exact ⟨g7, rfl, k8, hr, K4, B, h7⟩
    · go_simp
      have bA := (Below.refl wB.heap.size wB).alloc (Nat.le_refl _) (.cells #[.string ⟨#[]⟩, .int .i64 0, .slice none 0 0] 24)
      have K7 := KB.new wB 24 #[.string ⟨#[]⟩, .int .i64 0, .slice none 0 0]
      have h7 : g < wB.heap.size := hr.lt
      have h47 : w.heap.size < wB.heap.size := K4.lt
      replace hr := hr.below bA
      replace K4 := K4.below bA K4.lt
      replace B := B.trans (bA.mono B.size)
      obtain ⟨g7, hg7⟩ : ∃ g7, g7 = wB.heap.size := ⟨_, rfl⟩
      rw [← hg7] at K7 h7 h47 ⊢
      have hne7 : some g ≠ some g7 := by simp; omega
      generalize wB.alloc (.cells #[.string ⟨#[]⟩, .int .i64 0, .slice none 0 0] 24) = w3 at hr K4 K7 B ⊢
      clear bA hg7
      refine hK.out _ _ ?_ (fun hH2 => ?_)
      · trivial
      clear hHeld hK K
      have hHeld := hH2
      clear hH2
      try go_frame
      refine held_one (o := ⟨some 15, _, _, _, _, _⟩) 1 (by kernel_rfl) rfl (by rfl) (fun K hK => ?_)
      go_simp
      go_at_call 39
      refine (HTX.out _ hr).mono ?_
      rintro e w4 ⟨v2, rfl, hr1, x2, gr⟩
      have hgS : ∀ k, some g = some k → ¬ (w3.heap.size ≤ k) := fun k e => by injection e with e; have := hr.lt; omega
      replace K4 := K4.grown gr hne4
      replace K7 := K7.grown gr hne7
      replace B := B.trans (below_of_grown' gr (Nat.le_of_lt hgw) B.size)
      replace hr := hr1
      obtain ⟨A2, c2, rfl, _⟩ := x2.form
      clear gr hr1
      go_wp2_with fail
      refine hK.out _ _ ?_ (fun hH2 => ?_)
      · trivial
      clear hHeld hK K
      have hHeld := hH2
      clear hH2
      try go_frame
      refine held_two (o := ⟨some 16, _, _, _, _, _⟩) (p := ⟨some 18, _, _, _, _, _⟩) 2 4 (by kernel_rfl) rfl rfl (by rfl) (by rfl) (fun K hK => ?_) (fun K hK => ?_)
      · have hcv := x2.str (P := Try.prog) Try.underlying27 Try.underlying5 Try.underlying9
        go_simp
        clear hcv x2 hgS
        obtain ⟨w5, hw5⟩ : ∃ u, u = w4 := ⟨_, rfl⟩
        rw [← hw5] at hr K4 B K7 ⊢
        clear hw5
        refine hK.out _ _ ?_ (fun hH2 => ?_)
        · trivial
        clear hHeld hK K
        have hHeld := hH2
        clear hH2
        try go_frame
        refine held_one (o := ⟨some 18, _, _, _, _, _⟩) 4 (by kernel_rfl) rfl (by rfl) (fun K hK => ?_)
        go_simp
        go_at_call 40
        refine (HCN.out _ hr).mono ?_
        rintro e w6 ⟨rfl, hr1, gr⟩
        replace K4 := K4.grown gr hne4
        replace K7 := K7.grown gr hne7
        replace B := B.trans (below_of_grown' gr (Nat.le_of_lt hgw) B.size)
        replace hr := hr1
        clear gr hr1
        go_wp2_with fail
        refine hK.out _ _ ?_ (fun hH2 => ?_)
        · trivial
        clear hHeld hK K
        have hHeld := hH2
        clear hH2
        try go_frame
        refine held_yes (o := ⟨some 19, _, _, _, _, _⟩) (v := ?_) 5 rfl (by kernel_rfl) (by kernel_rfl) (by kernel_rfl) (fun _ _ _ h => h) (by rfl) hHeld (fun w hSw => ?_) ?_
        rotate_left
        · (try dsimp only at hSw)
          go_simp
          with_reducible rfl
        go_frame
        refine held_one (o := ⟨none, _, _, _, _, _⟩) 7 (by kernel_rfl) rfl (by rfl) (fun K hK => ?_)
        have c0 : w6.cell? ⟨g7, 0, none⟩ = some (.string ⟨#[]⟩) := K7.cell 0
        have c1 : w6.cell? ⟨g7, 1, none⟩ = some (.int .i64 0) := K7.cell 1
        have c2 : w6.cell? ⟨g7, 2, none⟩ = some (.slice none 0 0) := K7.cell 2
        have f0 := K7.free 0
        have f1 := K7.free 1
        have f2 := K7.free 2
        have k8 := K7.put3 (.string ⟨nm.toArray⟩) (.int .i64 (z : Int)) (.slice none 0 0)
        have g8 := grown_three w6 g7 (.string ⟨nm.toArray⟩) (.int .i64 (z : Int)) (.slice none 0 0)
        replace hr := hr.far g8 (by omega) (fun hs => by have := hS0l g7 hs; omega)
        replace K4 := K4.grown g8 (by simp; omega)
        replace B := B.trans (below_of_grown' g8 (Nat.le_of_lt h47) B.size)
        go_simp
        refine hK.out _ _ ?_ (fun hH2 => ?_)
        · trivial
        clear hHeld hK K
        have hHeld := hH2
        clear hH2
        try go_frame
        refine wpAnyH_done (by kernel_rfl) ?_ _
        go_wp2_with fail
        go_meet
        exact ⟨g7, rfl, k8, hr, K4, B, h7⟩
      · go_simp
        go_at_call 40
        refine (HCN.out _ hr).mono ?_
        rintro e w5 ⟨rfl, hr1, gr⟩
        replace K4 := K4.grown gr hne4
        replace K7 := K7.grown gr hne7
        replace x2 := x2.grown gr hgS
        replace B := B.trans (below_of_grown' gr (Nat.le_of_lt hgw) B.size)
        replace hr := hr1
        clear gr hr1
        go_wp2_with fail
        refine hK.out _ _ ?_ (fun hH2 => ?_)
        · trivial
        clear hHeld hK K
        have hHeld := hH2
        clear hH2
        try go_frame
        refine held_one (o := ⟨some 16, _, _, _, _, _⟩) 2 (by kernel_rfl) rfl (by rfl) (fun K hK => ?_)
        have hcv := x2.str (P := Try.prog) Try.underlying27 Try.underlying5 Try.underlying9
        go_simp
        clear hcv x2 hgS
        obtain ⟨w6, hw6⟩ : ∃ u, u = w5 := ⟨_, rfl⟩
        rw [← hw6] at hr K4 B K7 ⊢
        clear hw6
        refine hK.out _ _ ?_ (fun hH2 => ?_)
        · trivial
        clear hHeld hK K
        have hHeld := hH2
        clear hH2
        try go_frame
        refine held_yes (o := ⟨some 19, _, _, _, _, _⟩) (v := ?_) 5 rfl (by kernel_rfl) (by kernel_rfl) (by kernel_rfl) (fun _ _ _ h => h) (by rfl) hHeld (fun w hSw => ?_) ?_
        rotate_left
        · (try dsimp only at hSw)
          go_simp
          with_reducible rfl
        go_frame
        refine held_one (o := ⟨none, _, _, _, _, _⟩) 7 (by kernel_rfl) rfl (by rfl) (fun K hK => ?_)
        have c0 : w6.cell? ⟨g7, 0, none⟩ = some (.string ⟨#[]⟩) := K7.cell 0
        have c1 : w6.cell? ⟨g7, 1, none⟩ = some (.int .i64 0) := K7.cell 1
        have c2 : w6.cell? ⟨g7, 2, none⟩ = some (.slice none 0 0) := K7.cell 2
        have f0 := K7.free 0
        have f1 := K7.free 1
        have f2 := K7.free 2
        have k8 := K7.put3 (.string ⟨nm.toArray⟩) (.int .i64 (z : Int)) (.slice none 0 0)
        have g8 := grown_three w6 g7 (.string ⟨nm.toArray⟩) (.int .i64 (z : Int)) (.slice none 0 0)
        replace hr := hr.far g8 (by omega) (fun hs => by have := hS0l g7 hs; omega)
        replace K4 := K4.grown g8 (by simp; omega)
        replace B := B.trans (below_of_grown' g8 (Nat.le_of_lt h47) B.size)
        go_simp
        refine hK.out _ _ ?_ (fun hH2 => ?_)
        · trivial
        clear hHeld hK K
        have hHeld := hH2
        clear hH2
        try go_frame
        refine wpAnyH_done (by kernel_rfl) ?_ _
        go_wp2_with fail
        go_meet
        exact ⟨g7, rfl, k8, hr, K4, B, h7⟩
  case rest =>
    obtain ⟨g7, rfl, K7, hr2, K5, B5, h7⟩ := hcut
    clear K4 B hr htext hcnt
    have hflag := hr2.flag
    obtain ⟨⟨at_, ok⟩, hL⟩ : ∃ p, listS (st2.getD []) n = p := ⟨_, rfl⟩
    have hread : readS l n = (st2, ⟨nm, z, at_⟩, ok) := by
      unfold readS
      rw [HT.out]
      simp only [HC.out, hL]
    have HG : Hid (R = if st2.isSome = true ∧ ok = true ∧ fitS ⟨nm, z, at_⟩ n = true then (⟨nm, z, at_⟩, 0) else (ino0, 2)) := by
      show _ = _
      rw [HR.out]
      unfold getS
      rw [hread]
    have hfew := list_few (st2.getD []) n
    rw [hL] at hfew
    simp only at hfew
    have HL := Lib.hid hL
    clear hread HT HC HR hL
    cases st2 with
    | none =>
      change wc.cell? ⟨g, 1, none⟩ = some (.bool true) at hflag
      have hR := HG.out
      rw [if_neg (fun h => by cases h.1)] at hR
      subst hR
      have c0 : wc.cell? ⟨w.heap.size, 0, none⟩ = some (.string ⟨#[]⟩) := K5.cell 0
      have c1 : wc.cell? ⟨w.heap.size, 1, none⟩ = some (.int .i64 0) := K5.cell 1
      have c2 : wc.cell? ⟨w.heap.size, 2, none⟩ = some (.slice none 0 0) := K5.cell 2
      have f0 := K5.free 0
      have f1 := K5.free 1
      have f2 := K5.free 2
      clear HG
      have k6 := K5.put3 (.string ⟨#[]⟩) (.int .i64 0) (.slice none 0 0)
      have B9 := B5.trans (below_of_grown' (grown_three wc w.heap.size (.string ⟨#[]⟩) (.int .i64 0) (.slice none 0 0)) (Nat.le_refl _) B5.size)
      go_wp2_with fail
      exact bodyPost_ret (results_cell_tmp (P := Try.prog) rfl _ _ w.heap.size _ _ (0, 0) _ rfl k6 Try.underlying24 rfl (by kernel_rfl)) rfl ⟨_, rfl, IV.zero _ _, B9⟩
    | some rest =>
      change wc.cell? ⟨g, 1, none⟩ = some (.bool false) at hflag
      have HNF : Hid (n < 0 ∨ 1024 < n → ¬ fitS ⟨nm, z, at_⟩ n = true) := fun h k => by have := ((fit_iff _ _).1 k).2.1; omega
      by_cases n0 : n < 0
      · have E0 : decide (n < 0) = true := decide_eq_true n0
        have hR := HG.out
        rw [if_neg (fun h => HNF.out (.inl n0) h.2.2)] at hR
        subst hR
        have c0 : wc.cell? ⟨w.heap.size, 0, none⟩ = some (.string ⟨#[]⟩) := K5.cell 0
        have c1 : wc.cell? ⟨w.heap.size, 1, none⟩ = some (.int .i64 0) := K5.cell 1
        have c2 : wc.cell? ⟨w.heap.size, 2, none⟩ = some (.slice none 0 0) := K5.cell 2
        have f0 := K5.free 0
        have f1 := K5.free 1
        have f2 := K5.free 2
        clear HG
        have k6 := K5.put3 (.string ⟨#[]⟩) (.int .i64 0) (.slice none 0 0)
        have B9 := B5.trans (below_of_grown' (grown_three wc w.heap.size (.string ⟨#[]⟩) (.int .i64 0) (.slice none 0 0)) (Nat.le_refl _) B5.size)
        go_wp2_with fail
        exact bodyPost_ret (results_cell_tmp (P := Try.prog) rfl _ _ w.heap.size _ _ (0, 0) _ rfl k6 Try.underlying24 rfl (by kernel_rfl)) rfl ⟨_, rfl, IV.zero _ _, B9⟩
      · have E0 : decide (n < 0) = false := decide_eq_false n0
        by_cases n1 : 1024 < n
        · have E1 : decide ((1024 : Int) < n) = true := decide_eq_true n1
          have hR := HG.out
          rw [if_neg (fun h => HNF.out (.inr n1) h.2.2)] at hR
          subst hR
          have c0 : wc.cell? ⟨w.heap.size, 0, none⟩ = some (.string ⟨#[]⟩) := K5.cell 0
          have c1 : wc.cell? ⟨w.heap.size, 1, none⟩ = some (.int .i64 0) := K5.cell 1
          have c2 : wc.cell? ⟨w.heap.size, 2, none⟩ = some (.slice none 0 0) := K5.cell 2
          have f0 := K5.free 0
          have f1 := K5.free 1
          have f2 := K5.free 2
          clear HG
          have k6 := K5.put3 (.string ⟨#[]⟩) (.int .i64 0) (.slice none 0 0)
          have B9 := B5.trans (below_of_grown' (grown_three wc w.heap.size (.string ⟨#[]⟩) (.int .i64 0) (.slice none 0 0)) (Nat.le_refl _) B5.size)
          go_wp2_with fail
          exact bodyPost_ret (results_cell_tmp (P := Try.prog) rfl _ _ w.heap.size _ _ (0, 0) _ rfl k6 Try.underlying24 rfl (by kernel_rfl)) rfl ⟨_, rfl, IV.zero _ _, B9⟩
        · have E1 : decide ((1024 : Int) < n) = false := decide_eq_false n1
          obtain ⟨v3, hv3, x3⟩ := hr2.rest
          obtain ⟨A3, c3, rfl, _⟩ := x3.form
          clear HNF
          go_wp2_with fail
          have hlist := rlist_any _ rest n wc (x3.lt.mono fun b hb => hb.2)
          have hLL : listS rest n = (at_, ok) := HL.out
          rw [hLL] at hlist
          refine hlist.mono ?_
          rintro e w5 ⟨v5, rfl, o5, b5⟩
          simp only at o5
          have x5 := own_IS o5
          obtain ⟨A5, c5, rfl, _⟩ := x5.form
          have K75 := K7.below b5 K7.lt
          have K55 := K5.below b5 K5.lt
          have B55 := B5.trans (b5.mono B5.size)
          have h77 := K7.lt
          have h55 := K5.lt
          have d2 : w5.cell? ⟨g7, 2, none⟩ = some (.slice none 0 0) := K75.cell 2
          have e2 := K75.free 2
          have K6 : KB (w5.setCell ⟨g7, 2, none⟩ (.slice A5 at_.length c5)) g7 24 #[.string ⟨nm.toArray⟩, .int .i64 (z : Int), .slice A5 at_.length c5] := K75.put 2 _
          have g6 := grown_set w5 g7 2 (.slice A5 at_.length c5)
          have K56 := K55.grown g6 (by simp; omega)
          have B6 := B55.trans (below_of_grown' g6 (by omega) B55.size)
          have x6 := x5.setCell (p := ⟨g7, 2, none⟩) (fun h => by have := h.1; simp at this; omega) (.slice A5 at_.length c5)
          clear hlist o5 b5 x3 hr2 K7 K5 K75 K55 B5 B55 x5 hLL HL
          obtain ⟨sx, hsx⟩ : ∃ s : ByteArray, s = ⟨nm.toArray⟩ := ⟨_, rfl⟩
          rw [← hsx] at K6
          cases ok with
          | false =>
            go_upto_region 7 with fail
            clear hflag hv3 d2 e2 hsx
            generalize w5.setCell ⟨g7, 2, none⟩ (.slice A5 at_.length c5) = w6 at K6 g6 K56 B6 x6 ⊢
            have hR := HG.out
            rw [if_neg (fun h => by cases h.2.1)] at hR
            subst hR
            have c0 : w6.cell? ⟨w.heap.size, 0, none⟩ = some (.string ⟨#[]⟩) := K56.cell 0
            have c1 : w6.cell? ⟨w.heap.size, 1, none⟩ = some (.int .i64 0) := K56.cell 1
            have c2 : w6.cell? ⟨w.heap.size, 2, none⟩ = some (.slice none 0 0) := K56.cell 2
            have f0 := K56.free 0
            have f1 := K56.free 1
            have f2 := K56.free 2
            clear HG
            have k6 := K56.put3 (.string ⟨#[]⟩) (.int .i64 0) (.slice none 0 0)
            have B9 := B6.trans (below_of_grown' (grown_three w6 w.heap.size (.string ⟨#[]⟩) (.int .i64 0) (.slice none 0 0)) (Nat.le_refl _) B6.size)
            go_wp2_with fail
            exact bodyPost_ret (results_cell_tmp (P := Try.prog) rfl _ _ w.heap.size _ _ (0, 0) _ rfl k6 Try.underlying24 rfl (by kernel_rfl)) rfl ⟨_, rfl, IV.zero _ _, B9⟩
          | true =>
            go_upto_region 7 with fail
            clear hflag hv3 d2 e2
            have V6 : IV (w5.setCell ⟨g7, 2, none⟩ (.slice A5 at_.length c5)) (fun b => wc.heap.size ≤ b ∧ b < w5.heap.size) (.agg #[.string sx, .int .i64 (z : Int), .slice A5 at_.length c5]) ⟨nm, z, at_⟩ := ⟨_, by rw [hsx]; rfl, x6, hz64, by show nm.length ≤ _; unfold maxLen; omega⟩
            generalize w5.setCell ⟨g7, 2, none⟩ (.slice A5 at_.length c5) = w6 at K6 g6 K56 B6 x6 V6 ⊢
            have hck := may_any (.agg #[.string sx, .int .i64 (z : Int), .slice A5 at_.length c5]) ⟨nm, z, at_⟩ n w6 (V6.lt.mono fun b hb => hb.2)
            have HCK := Lib.hid hck
            have d0 : w6.cell? ⟨g7, 0, none⟩ = some (.string sx) := K6.cell 0
            have d1 : w6.cell? ⟨g7, 1, none⟩ = some (.int .i64 (z : Int)) := K6.cell 1
            have d2 : w6.cell? ⟨g7, 2, none⟩ = some (.slice A5 at_.length c5) := K6.cell 2
            have HSX := Lib.hid hsx
            clear hck hsx x6 g6
            by_cases hf : fitS ⟨nm, z, at_⟩ n = true
            · have hR := HG.out
              rw [if_pos ⟨by simp, by trivial, hf⟩] at hR
              subst hR
              have hck := HCK.out
              rw [hf] at hck
              clear HG HCK
              go_wp2_with fail
              refine hck.mono ?_
              rintro e w7 ⟨rfl, b7⟩
              have K7 := K56.below b7 K56.lt
              have K12 := K6.below b7 K6.lt
              have B7 := B6.trans (b7.mono B6.size)
              have V7 := V6.below' b7
              clear d0 d1 d2 hck
              have d0 : w7.cell? ⟨g7, 0, none⟩ = some (.string sx) := K12.cell 0
              have d1 : w7.cell? ⟨g7, 1, none⟩ = some (.int .i64 (z : Int)) := K12.cell 1
              have d2 : w7.cell? ⟨g7, 2, none⟩ = some (.slice A5 at_.length c5) := K12.cell 2
              have c0 : w7.cell? ⟨w.heap.size, 0, none⟩ = some (.string ⟨#[]⟩) := K7.cell 0
              have c1 : w7.cell? ⟨w.heap.size, 1, none⟩ = some (.int .i64 0) := K7.cell 1
              have c2 : w7.cell? ⟨w.heap.size, 2, none⟩ = some (.slice none 0 0) := K7.cell 2
              have f0 := K7.free 0
              have f1 := K7.free 1
              have f2 := K7.free 2
              have k8 := K7.put3 (.string sx) (.int .i64 (z : Int)) (.slice A5 at_.length c5)
              have g8 := grown_three w7 w.heap.size (.string sx) (.int .i64 (z : Int)) (.slice A5 at_.length c5)
              have B8 := B7.trans (below_of_grown' g8 (Nat.le_refl _) B7.size)
              have V8 := (V7.keep (w' := ((w7.setCell ⟨w.heap.size, 0, none⟩ (.string sx)).setCell ⟨w.heap.size, 1, none⟩ (.int .i64 (z : Int))).setCell ⟨w.heap.size, 2, none⟩ (.slice A5 at_.length c5)) g8.size fun b hb hlt => g8.block b hlt fun e => by injection e with e; omega).mono (S' := fun b => w.heap.size ≤ b) fun b hb => by omega
              go_wp2_with fail
              exact bodyPost_ret (results_cell_tmp (P := Try.prog) rfl _ _ w.heap.size _ _ (0, 0) _ rfl k8 Try.underlying24 rfl (by kernel_rfl)) rfl ⟨_, rfl, V8, B8⟩
            · have hR := HG.out
              rw [if_neg (fun h => hf h.2.2)] at hR
              subst hR
              have hck := HCK.out
              rw [show fitS ⟨nm, z, at_⟩ n = false by simpa using hf] at hck
              clear HG HCK
              go_wp2_with fail
              refine hck.mono ?_
              rintro e w7 ⟨rfl, b7⟩
              have K7 := K56.below b7 K56.lt
              have B7 := B6.trans (b7.mono B6.size)
              clear d0 d1 d2 hck
              have c0 : w7.cell? ⟨w.heap.size, 0, none⟩ = some (.string ⟨#[]⟩) := K7.cell 0
              have c1 : w7.cell? ⟨w.heap.size, 1, none⟩ = some (.int .i64 0) := K7.cell 1
              have c2 : w7.cell? ⟨w.heap.size, 2, none⟩ = some (.slice none 0 0) := K7.cell 2
              have f0 := K7.free 0
              have f1 := K7.free 1
              have f2 := K7.free 2
              have k6 := K7.put3 (.string ⟨#[]⟩) (.int .i64 0) (.slice none 0 0)
              have B9 := B7.trans (below_of_grown' (grown_three w7 w.heap.size (.string ⟨#[]⟩) (.int .i64 0) (.slice none 0 0)) (Nat.le_refl _) B7.size)
              go_wp2_with fail
              exact bodyPost_ret (results_cell_tmp (P := Try.prog) rfl _ _ w.heap.size _ _ (0, 0) _ rfl k6 Try.underlying24 rfl (by kernel_rfl)) rfl ⟨_, rfl, IV.zero _ _, B9⟩
end Go.Proofs.Ytgahnjhibpcbaaa
