/-
  ScG: The document's left (layer 20), over the loaded program: where it is low, flat or of no kind. No condition but the sizes that each contract names.
  ScGN: The document's left (layer 20), over the loaded program: of a case, a subject or a class. No condition but the sizes that each contract names.
  ScGA: The document's left (layer 20), over the loaded program: of all. No condition but the sizes that each contract names.
  ScGT: The document's left (layer 20), over the loaded program: of a time. No condition but the sizes that each contract names.
-/
import Derived.Test.YtdkmjdcddldjgaaHy03
import Derived.Test.YtdkmjdcddldjgaaHy10
import Derived.Test.YtdkmjdcddldjgaaHy05
import Derived.WalkSpells
import Derived.BigQuiet
set_option linter.unusedVariables false
set_option maxRecDepth 100000
namespace Go.Proofs.Ytdkmjdcddldjgaa
section
open Go.RowKit
theorem zne_if (s : ByteArray) (l : List UInt8) (hs : s = ⟨l.toArray⟩) (h : ¬ l = []) : (s.toList != []) = true ∧ (s.toList != (⟨#[]⟩ : ByteArray).toList) = true ∧ (¬ s.toList = [] ∧ s.toList.isEmpty = false) := by
  have e : s.toList = l := by rw [hs, Lib.toList_data]
  rw [e]
  exact ⟨bne_iff_ne.2 h, bne_iff_ne.2 (by simpa using h), h, by simpa using h⟩
theorem zne_not (s : ByteArray) (hs : s = ⟨([] : List UInt8).toArray⟩) : (s.toList != []) = false ∧ (s.toList != (⟨#[]⟩ : ByteArray).toList) = false ∧ (s.toList = [] ∧ s.toList.isEmpty = true) := by
  subst hs
  exact ⟨by simp, by simp, by simp, by simp⟩
theorem zname_some {l : List UInt8} (h : nameS l = true) : ¬ l = [] := fun e => by
  have := ((name_iff l).1 h).1
  rw [e] at this
  simp at this
def LeftIh (S : Nat → Prop) (f : Nat) : Prop := ∀ (t : Sc f) (v : Value) (n d : Int) (w : World), -1 ≤ n → n ≤ 1000 → -1000 ≤ d → d ≤ 1000 → ZV w S f v t →
    Calls Try.prog 46 #[v, .int .i64 n, .int .i64 d] w fun e w' => e = .returned (.int .i64 (leftS f t n d)) ∧ Below w.heap.size w w'
set_option maxHeartbeats 4000000 in
theorem zleft_none (S : Nat → Prop) (f : Nat) (t : Ns (Sc f)) (v : Value) (n d : Int) (w : World) (hn : -1 ≤ n) (hn2 : n ≤ 1000) (hd : -1000 ≤ d) (hd2 : d ≤ 1000) (h : n < 1 ∨ d < 1 ∨ t.op < 1 ∨ 8 < t.op) (hv : ZV w S (f + 1) v t) :
    Calls Try.prog 46 #[v, .int .i64 n, .int .i64 d] w fun e w' => e = .returned (.int .i64 (leftS (f + 1) t n d)) ∧ Below w.heap.size w w' := by
  have hr : leftS (f + 1) t n d = -1 := by
    rcases h with h | h | h
    · exact zleft_low _ h
    · exact zleft_flat t h
    · exact zleft_unfit t (zunfit_op h)
  rw [hr]
  clear hr
  obtain ⟨c0, c1, c2, c3, c4, rfl, rfl, hk, rfl, hml, rfl, hfr, rfl, hto, hks⟩ := hv
  obtain ⟨A3, cap3, e3, hl3, hm3⟩ := hks.form
  subst e3
  clear hks
  generalize t.op = k at *
  generalize t.from_ = fr at *
  generalize t.to_ = to_ at *
  generalize t.name = l at *
  generalize t.kids.length = kl at *
  unfold strV at *
  generalize (⟨l.toArray⟩ : ByteArray) = s at *
  have B0 := (Below.refl w.heap.size w).alloc (Nat.le_refl _) (.cells #[.int .i64 k, .string s, .int .i64 fr, .int .i64 to_, .slice A3 kl cap3] 25)
  by_cases h1 : n < 1
  · have E := decide_eq_true h1
    go_enter Try.func46, Try.ntmps46
    go_wp2_with fail
    go_ret
    exact ⟨rfl, B0⟩
  have E1 : decide (n < 1) = false := decide_eq_false h1
  by_cases h2 : d < 1
  · have E := decide_eq_true h2
    go_enter Try.func46, Try.ntmps46
    go_wp2_with fail
    go_ret
    exact ⟨rfl, B0⟩
  have E2 : decide (d < 1) = false := decide_eq_false h2
  by_cases h3 : k < 1
  · have E := decide_eq_true h3
    go_enter Try.func46, Try.ntmps46
    go_wp2_with fail
    go_ret
    exact ⟨rfl, B0⟩
  have E3 : decide (k < 1) = false := decide_eq_false h3
  have h4 : 8 < k := by omega
  have E := decide_eq_true h4
  go_enter Try.func46, Try.ntmps46
  go_wp2_with fail
  go_ret
  exact ⟨rfl, B0⟩
end
section
open Go.RowKit
set_option maxHeartbeats 8000000 in
theorem zleft_named (S : Nat → Prop) (f : Nat) (ih : LeftIh S f) (t : Ns (Sc f)) (v : Value) (n d : Int) (w : World) (hn2 : n ≤ 1000) (hd2 : d ≤ 1000) (h1 : 1 ≤ n) (h2 : 1 ≤ d) (hop : t.op = 2 ∨ t.op = 3 ∨ t.op = 4) (hv : ZV w S (f + 1) v t) :
    Calls Try.prog 46 #[v, .int .i64 n, .int .i64 d] w fun e w' => e = .returned (.int .i64 (leftS (f + 1) t n d)) ∧ Below w.heap.size w w' := by
  obtain ⟨c0, c1, c2, c3, c4, rfl, rfl, hk, rfl, hml, rfl, hfr, rfl, hto, hks⟩ := hv
  obtain ⟨A3, cap3, e3, hl3, hm3⟩ := hks.form
  subst e3
  obtain ⟨r, hr⟩ : ∃ r, r = leftS (f + 1) t n d := ⟨_, rfl⟩
  rw [← hr]
  have HU : Hid (¬ (nameS t.name = true ∧ t.from_ = 0 ∧ t.to_ = 0 ∧ t.kids.length = 0) → r = -1) := fun h => hr.trans (zleft_unfit t (by
    cases hb : fitsS t with
    | false => rfl
    | true => exact absurd ((zfit_named hop).1 hb) h))
  have HY : Hid (nameS t.name = true ∧ t.from_ = 0 ∧ t.to_ = 0 ∧ t.kids.length = 0 → r = n - 1) := fun h => hr.trans (zleft_one t ((zfit_named hop).2 h) h.2.2.2 h1 h2)
  clear hr
  have HNM : Hid (∀ W : World, Calls Try.prog 55 #[.int .i64 t.op] W fun e w' => e = .returned (.bool true) ∧ w' = W) := fun W => by
    have := znamed_any t.op W
    rwa [show namedS t.op = true from by unfold namedS; exact decide_eq_true hop] at this
  have HMM : Hid (∀ W : World, Calls Try.prog 48 #[.int .i64 t.op] W fun e w' => e = .returned (.bool false) ∧ w' = W) := fun W => by
    have := zmany_any t.op W
    rwa [show manyS t.op = false from by unfold manyS; exact decide_eq_false (by omega)] at this
  have HNA := Lib.hid (fun W : World => rname_any t.name hml W)
  generalize t.op = k at *
  generalize t.from_ = fr at *
  generalize t.to_ = to_ at *
  generalize t.name = l at *
  generalize t.kids = ks at *
  clear t
  have hlen : ks.length ≤ 9223372036854775807 := by unfold maxLen at hm3; omega
  have hlz : ((⟨l.toArray⟩ : ByteArray).size : Int) = (l.length : Int) := rfl
  have W1 : wrap64 (n - 1) = n - 1 := IntWalk.wrap64_in _ (by omega)
  have W2 : wrap64 (d - 1) = d - 1 := IntWalk.wrap64_in _ (by omega)
  have I1 : IntKind.i64.wrap (n - 1) = n - 1 := by rw [IntKind.wrap_i64]; omega
  have I2 : IntKind.i64.wrap (d - 1) = d - 1 := by rw [IntKind.wrap_i64]; omega
  have HM2 := Lib.hid (zne_if ⟨l.toArray⟩ l rfl)
  have HM : Hid (l = [] → ((⟨l.toArray⟩ : ByteArray).toList != []) = false ∧ ((⟨l.toArray⟩ : ByteArray).toList != (⟨#[]⟩ : ByteArray).toList) = false ∧ (⟨l.toArray⟩ : ByteArray).toList = [] ∧ (⟨l.toArray⟩ : ByteArray).toList.isEmpty = true) := fun h => zne_not ⟨l.toArray⟩ (by rw [h])
  unfold strV at *
  obtain ⟨s, hs⟩ : ∃ s : ByteArray, s = ⟨l.toArray⟩ := ⟨_, rfl⟩
  rw [← hs] at HNA HM HM2 ⊢
  clear hs hlz hml
  obtain ⟨kl, hkl⟩ : ∃ kl, kl = ks.length := ⟨_, rfl⟩
  rw [← hkl] at hks hl3 hlen HU HY ⊢
  have HKL := Lib.hid hkl
  clear hkl
  have kb := KB.new w 25 #[.int .i64 k, .string s, .int .i64 fr, .int .i64 to_, .slice A3 kl cap3]
  have B0 := (Below.refl w.heap.size w).alloc (Nat.le_refl _) (.cells #[.int .i64 k, .string s, .int .i64 fr, .int .i64 to_, .slice A3 kl cap3] 25)
  have B1 := Below_drawn B0 1
  have kc := kb.below (Below_drawn (Below.refl _ _) 1) kb.lt
  have E1 : decide (n < 1) = false := decide_eq_false (by omega)
  have E2 : decide (d < 1) = false := decide_eq_false (by omega)
  have E3 : decide (k < 1) = false := decide_eq_false (by omega)
  have E4 : decide (8 < k) = false := decide_eq_false (by omega)
  have E5 : (k == 5) = false := beq_eq_false_iff_ne.2 (by omega)
  have E6 : (k == 8) = false := beq_eq_false_iff_ne.2 (by omega)
  have E7 : (k != 8) = true := bne_iff_ne.2 (by omega)
  by_cases h5 : l = []
  · obtain rfl := HU.out (fun h => zname_some h.1 h5)
    obtain ⟨E8, E8b⟩ := (HM.out h5).2.2
    clear HU HM HM2 HY
    go_enter Try.func46, Try.ntmps46
    go_wp2_with fail
    rename_i KK hKK
    have HKK := Lib.hid hKK
    clear hKK
    refine wp_region_held_drew (S := (fun W => W.cell? ⟨w.heap.size, 0, none⟩ = some (.int .i64 k) ∧ W.cell? ⟨w.heap.size, 1, none⟩ = some (.string s))) (by kernel_rfl) ⟨kb.cell 0, kb.cell 1⟩ (fun hHeld => ?_)
    refine hyY (some 26) 0 rfl hHeld ?_; go_frame
    refine hyY (some 27) 1 rfl hHeld ?_; go_frame
    refine hyY (some 29) 3 rfl hHeld ?_; go_frame
    refine hyY (some 30) 4 rfl hHeld ?_; go_frame
    refine hyY (some 31) 5 rfl hHeld ?_; go_frame
    refine hyO (some 28) 2 rfl (fun K hK => ?_)
    go_simp
    go_at_call 55
    refine (HNM.out _).mono ?_
    rintro e w5 ⟨rfl, rfl⟩
    go_wp2_with fail
    refine hK.out _ _ ?_ (fun hH2 => ?_)
    · exact ⟨kb.cell 0, kb.cell 1⟩
    clear hHeld hK K; have hHeld := hH2; clear hH2; try go_frame
    refine hyY (some 32) 6 rfl hHeld ?_; go_frame
    refine hyY (some 33) 7 rfl hHeld ?_; go_frame
    refine hyN (some 34) 8 rfl hHeld ?_; go_frame
    refine hyN (some 35) 9 rfl hHeld ?_; go_frame
    refine hyN (some 36) 10 rfl hHeld ?_; go_frame
    refine hyN (some 37) 11 rfl hHeld ?_; go_frame
    refine hyN (some 38) 12 rfl hHeld ?_; go_frame
    refine hyN (some 39) 13 rfl hHeld ?_; go_frame
    refine hyN (some 40) 14 rfl hHeld ?_; go_frame
    refine hyN (some 41) 15 rfl hHeld ?_; go_frame
    refine hyN (some 42) 16 rfl hHeld ?_; go_frame
    refine hyY (some 43) 17 rfl hHeld ?_; go_frame
    refine wpAnyH_done (by kernel_rfl) ?_ _
    have hKK := HKK.out
    go_wp2_with fail
    go_ret
    exact ⟨rfl, B1⟩
  obtain ⟨E8, E8b⟩ := (HM2.out h5).2.2
  clear HM HM2
  generalize hnn : nameS l = nn at *
  cases nn with
  | false =>
    obtain rfl := HU.out (fun h => by cases h.1)
    clear HU HY
    go_enter Try.func46, Try.ntmps46
    go_wp2_with fail
    rename_i KK hKK
    have HKK := Lib.hid hKK
    clear hKK
    refine wp_region_held_drew (S := (fun W => W.cell? ⟨w.heap.size, 0, none⟩ = some (.int .i64 k) ∧ W.cell? ⟨w.heap.size, 1, none⟩ = some (.string s))) (by kernel_rfl) ⟨kb.cell 0, kb.cell 1⟩ (fun hHeld => ?_)
    refine hyY (some 26) 0 rfl hHeld ?_; go_frame
    refine hyY (some 27) 1 rfl hHeld ?_; go_frame
    refine hyY (some 29) 3 rfl hHeld ?_; go_frame
    refine hyY (some 30) 4 rfl hHeld ?_; go_frame
    refine hyY (some 31) 5 rfl hHeld ?_; go_frame
    refine hyO (some 28) 2 rfl (fun K hK => ?_)
    go_simp
    go_at_call 55
    refine (HNM.out _).mono ?_
    rintro e w5 ⟨rfl, rfl⟩
    go_wp2_with fail
    refine hK.out _ _ ?_ (fun hH2 => ?_)
    · exact ⟨kb.cell 0, kb.cell 1⟩
    clear hHeld hK K; have hHeld := hH2; clear hH2; try go_frame
    refine hyY (some 32) 6 rfl hHeld ?_; go_frame
    refine hyY (some 33) 7 rfl hHeld ?_; go_frame
    refine hyY (some 34) 8 rfl hHeld ?_; go_frame
    refine hyY (some 35) 9 rfl hHeld ?_; go_frame
    refine hyO (some 36) 10 rfl (fun K hK => ?_)
    go_simp
    go_at_call 55
    refine (HNM.out _).mono ?_
    rintro e w5 ⟨rfl, rfl⟩
    go_wp2_with fail
    refine hK.out _ _ ?_ (fun hH2 => ?_)
    · exact ⟨kb.cell 0, kb.cell 1⟩
    clear hHeld hK K; have hHeld := hH2; clear hH2; try go_frame
    refine hyY (some 37) 11 rfl hHeld ?_; go_frame
    refine hyY (some 38) 12 rfl hHeld ?_; go_frame
    refine hyY (some 39) 13 rfl hHeld ?_; go_frame
    refine hyO (some 40) 14 rfl (fun K hK => ?_)
    go_simp
    go_at_call 26
    refine (HNA.out _).mono ?_
    rintro e w5 ⟨rfl, rfl⟩
    go_wp2_with fail
    refine hK.out _ _ ?_ (fun hH2 => ?_)
    · exact ⟨kb.cell 0, kb.cell 1⟩
    clear hHeld hK K; have hHeld := hH2; clear hH2; try go_frame
    refine hyY (some 41) 15 rfl hHeld ?_; go_frame
    refine hyY (some 42) 16 rfl hHeld ?_; go_frame
    refine hyY (some 43) 17 rfl hHeld ?_; go_frame
    refine wpAnyH_done (by kernel_rfl) ?_ _
    have hKK := HKK.out
    go_wp2_with fail
    go_ret
    exact ⟨rfl, B1⟩
  | true =>
    go_enter Try.func46, Try.ntmps46
    go_wp2_with fail
    rename_i KK hKK
    have HKK := Lib.hid hKK
    clear hKK
    refine wp_region_held_drew (S := (fun W => W.cell? ⟨w.heap.size, 0, none⟩ = some (.int .i64 k) ∧ W.cell? ⟨w.heap.size, 1, none⟩ = some (.string s))) (by kernel_rfl) ⟨kb.cell 0, kb.cell 1⟩ (fun hHeld => ?_)
    refine hyY (some 26) 0 rfl hHeld ?_; go_frame
    refine hyY (some 27) 1 rfl hHeld ?_; go_frame
    refine hyY (some 29) 3 rfl hHeld ?_; go_frame
    refine hyY (some 30) 4 rfl hHeld ?_; go_frame
    refine hyY (some 31) 5 rfl hHeld ?_; go_frame
    refine hyO (some 28) 2 rfl (fun K hK => ?_)
    go_simp
    go_at_call 55
    refine (HNM.out _).mono ?_
    rintro e w5 ⟨rfl, rfl⟩
    go_wp2_with fail
    refine hK.out _ _ ?_ (fun hH2 => ?_)
    · exact ⟨kb.cell 0, kb.cell 1⟩
    clear hHeld hK K; have hHeld := hH2; clear hH2; try go_frame
    refine hyY (some 32) 6 rfl hHeld ?_; go_frame
    refine hyY (some 33) 7 rfl hHeld ?_; go_frame
    refine hyY (some 34) 8 rfl hHeld ?_; go_frame
    refine hyY (some 35) 9 rfl hHeld ?_; go_frame
    refine hyO (some 36) 10 rfl (fun K hK => ?_)
    go_simp
    go_at_call 55
    refine (HNM.out _).mono ?_
    rintro e w5 ⟨rfl, rfl⟩
    go_wp2_with fail
    refine hK.out _ _ ?_ (fun hH2 => ?_)
    · exact ⟨kb.cell 0, kb.cell 1⟩
    clear hHeld hK K; have hHeld := hH2; clear hH2; try go_frame
    refine hyY (some 37) 11 rfl hHeld ?_; go_frame
    refine hyY (some 38) 12 rfl hHeld ?_; go_frame
    refine hyY (some 39) 13 rfl hHeld ?_; go_frame
    refine hyO (some 40) 14 rfl (fun K hK => ?_)
    go_simp
    go_at_call 26
    refine (HNA.out _).mono ?_
    rintro e w5 ⟨rfl, rfl⟩
    go_wp2_with fail
    refine hK.out _ _ ?_ (fun hH2 => ?_)
    · exact ⟨kb.cell 0, kb.cell 1⟩
    clear hHeld hK K; have hHeld := hH2; clear hH2; try go_frame
    refine hyY (some 41) 15 rfl hHeld ?_; go_frame
    refine hyY (some 42) 16 rfl hHeld ?_; go_frame
    refine hyY (some 43) 17 rfl hHeld ?_; go_frame
    refine wpAnyH_done (by kernel_rfl) ?_ _
    have hKK := HKK.out
    by_cases a1 : fr = 0
    case neg =>
      have E9 : (fr != 0) = true := bne_iff_ne.2 a1
      obtain rfl := HU.out (by intro h; exact a1 h.2.1)
      go_wp2_with (go_at_call 48; refine (HMM.out _).mono ?_; rintro e wq ⟨rfl, rfl⟩)
      go_ret
      exact ⟨rfl, B1⟩
    subst a1
    by_cases a2 : to_ = 0
    case neg =>
      have E10 : (to_ != 0) = true := bne_iff_ne.2 a2
      obtain rfl := HU.out (by intro h; exact a2 h.2.2.1)
      go_wp2_with (go_at_call 48; refine (HMM.out _).mono ?_; rintro e wq ⟨rfl, rfl⟩)
      go_ret
      exact ⟨rfl, B1⟩
    subst a2
    by_cases a4 : kl = 0
    case neg =>
      have E12 : decide ((0 : Int) < (kl : Int)) = true := decide_eq_true (by omega)
      have E13 : decide (0 < kl) = true := decide_eq_true (by omega)
      obtain rfl := HU.out (by intro h; exact a4 h.2.2.2)
      go_wp2_with (go_at_call 48; refine (HMM.out _).mono ?_; rintro e wq ⟨rfl, rfl⟩)
      go_ret
      exact ⟨rfl, B1⟩
    subst a4
    obtain rfl := HY.out ⟨by simp, rfl, rfl, rfl⟩
    have E14 : decide (n - 1 < 0) = false := decide_eq_false (by omega)
    go_wp2_with (go_at_call 48; refine (HMM.out _).mono ?_; rintro e wq ⟨rfl, rfl⟩)
    go_loopw [1, 7] (fun mv iv wr => mv = .int .i64 (n - 1) ∧ iv = .int .i64 0 ∧ KB wr w.heap.size 25 #[.int .i64 k, .string s, .int .i64 0, .int .i64 0, .slice A3 0 cap3] ∧ Below w.heap.size w wr) (fun _ iv _ => 0)
    case atStart => exact ⟨rfl, rfl, kc, B1⟩
    case round =>
      obtain ⟨rfl, rfl, K, B⟩ := hrel
      have q4 : wr.cell? ⟨w.heap.size, 4, none⟩ = some (.slice A3 0 cap3) := K.cell 4
      go_wp2_with fail
      go_ret
      exact ⟨rfl, B⟩
end
section
open Go.RowKit
set_option maxHeartbeats 8000000 in
theorem zleft_all_ (S : Nat → Prop) (f : Nat) (ih : LeftIh S f) (t : Ns (Sc f)) (v : Value) (n d : Int) (w : World) (hn2 : n ≤ 1000) (hd2 : d ≤ 1000) (h1 : 1 ≤ n) (h2 : 1 ≤ d) (hop : t.op = 1) (hv : ZV w S (f + 1) v t) :
    Calls Try.prog 46 #[v, .int .i64 n, .int .i64 d] w fun e w' => e = .returned (.int .i64 (leftS (f + 1) t n d)) ∧ Below w.heap.size w w' := by
  obtain ⟨c0, c1, c2, c3, c4, rfl, rfl, hk, rfl, hml, rfl, hfr, rfl, hto, hks⟩ := hv
  obtain ⟨A3, cap3, e3, hl3, hm3⟩ := hks.form
  subst e3
  obtain ⟨r, hr⟩ : ∃ r, r = leftS (f + 1) t n d := ⟨_, rfl⟩
  rw [← hr]
  have HU : Hid (¬ (t.name = [] ∧ t.from_ = 0 ∧ t.to_ = 0 ∧ t.kids.length = 0) → r = -1) := fun h => hr.trans (zleft_unfit t (by
    cases hb : fitsS t with
    | false => rfl
    | true => exact absurd ((zfit_all hop).1 hb) h))
  have HY : Hid (t.name = [] ∧ t.from_ = 0 ∧ t.to_ = 0 ∧ t.kids.length = 0 → r = n - 1) := fun h => hr.trans (zleft_one t ((zfit_all hop).2 h) h.2.2.2 h1 h2)
  clear hr
  have HNM : Hid (∀ W : World, Calls Try.prog 55 #[.int .i64 t.op] W fun e w' => e = .returned (.bool false) ∧ w' = W) := fun W => by
    have := znamed_any t.op W
    rwa [show namedS t.op = false from by unfold namedS; exact decide_eq_false (by omega)] at this
  have HMM : Hid (∀ W : World, Calls Try.prog 48 #[.int .i64 t.op] W fun e w' => e = .returned (.bool false) ∧ w' = W) := fun W => by
    have := zmany_any t.op W
    rwa [show manyS t.op = false from by unfold manyS; exact decide_eq_false (by omega)] at this
  have HNA := Lib.hid (fun W : World => rname_any t.name hml W)
  generalize t.op = k at *
  generalize t.from_ = fr at *
  generalize t.to_ = to_ at *
  generalize t.name = l at *
  generalize t.kids = ks at *
  clear t
  have hlen : ks.length ≤ 9223372036854775807 := by unfold maxLen at hm3; omega
  have hlz : ((⟨l.toArray⟩ : ByteArray).size : Int) = (l.length : Int) := rfl
  have W1 : wrap64 (n - 1) = n - 1 := IntWalk.wrap64_in _ (by omega)
  have W2 : wrap64 (d - 1) = d - 1 := IntWalk.wrap64_in _ (by omega)
  have I1 : IntKind.i64.wrap (n - 1) = n - 1 := by rw [IntKind.wrap_i64]; omega
  have I2 : IntKind.i64.wrap (d - 1) = d - 1 := by rw [IntKind.wrap_i64]; omega
  have HM2 := Lib.hid (zne_if ⟨l.toArray⟩ l rfl)
  have HM : Hid (l = [] → ((⟨l.toArray⟩ : ByteArray).toList != []) = false ∧ ((⟨l.toArray⟩ : ByteArray).toList != (⟨#[]⟩ : ByteArray).toList) = false ∧ (⟨l.toArray⟩ : ByteArray).toList = [] ∧ (⟨l.toArray⟩ : ByteArray).toList.isEmpty = true) := fun h => zne_not ⟨l.toArray⟩ (by rw [h])
  unfold strV at *
  obtain ⟨s, hs⟩ : ∃ s : ByteArray, s = ⟨l.toArray⟩ := ⟨_, rfl⟩
  rw [← hs] at HNA HM HM2 ⊢
  clear hs hlz hml
  obtain ⟨kl, hkl⟩ : ∃ kl, kl = ks.length := ⟨_, rfl⟩
  rw [← hkl] at hks hl3 hlen HU HY ⊢
  have HKL := Lib.hid hkl
  clear hkl
  subst hop
  have kb := KB.new w 25 #[.int .i64 1, .string s, .int .i64 fr, .int .i64 to_, .slice A3 kl cap3]
  have B0 := (Below.refl w.heap.size w).alloc (Nat.le_refl _) (.cells #[.int .i64 1, .string s, .int .i64 fr, .int .i64 to_, .slice A3 kl cap3] 25)
  have B1 := Below_drawn B0 1
  have kc := kb.below (Below_drawn (Below.refl _ _) 1) kb.lt
  have E1 : decide (n < 1) = false := decide_eq_false (by omega)
  have E2 : decide (d < 1) = false := decide_eq_false (by omega)
  by_cases h5 : l = []
  case neg =>
    obtain rfl := HU.out (fun h => h5 h.1)
    obtain ⟨E8, E8b⟩ := (HM2.out h5).2.2
    clear HU HM HM2
    go_enter Try.func46, Try.ntmps46
    go_wp2_with fail
    rename_i KK hKK
    have HKK := Lib.hid hKK
    clear hKK
    refine wp_region_held_drew (S := (fun W => W.cell? ⟨w.heap.size, 0, none⟩ = some (.int .i64 1) ∧ W.cell? ⟨w.heap.size, 1, none⟩ = some (.string s))) (by kernel_rfl) ⟨kb.cell 0, kb.cell 1⟩ (fun hHeld => ?_)
    refine hyY (some 26) 0 rfl hHeld ?_; go_frame
    refine hyY (some 27) 1 rfl hHeld ?_; go_frame
    refine hyY (some 29) 3 rfl hHeld ?_; go_frame
    refine hyY (some 30) 4 rfl hHeld ?_; go_frame
    refine hyY (some 31) 5 rfl hHeld ?_; go_frame
    refine hyO (some 28) 2 rfl (fun K hK => ?_)
    go_simp
    go_at_call 55
    refine (HNM.out _).mono ?_
    rintro e w5 ⟨rfl, rfl⟩
    go_wp2_with fail
    refine hK.out _ _ ?_ (fun hH2 => ?_)
    · exact ⟨kb.cell 0, kb.cell 1⟩
    clear hHeld hK K; have hHeld := hH2; clear hH2; try go_frame
    refine hyY (some 32) 6 rfl hHeld ?_; go_frame
    refine hyY (some 33) 7 rfl hHeld ?_; go_frame
    refine hyN (some 34) 8 rfl hHeld ?_; go_frame
    refine hyN (some 35) 9 rfl hHeld ?_; go_frame
    refine hyN (some 36) 10 rfl hHeld ?_; go_frame
    refine hyN (some 37) 11 rfl hHeld ?_; go_frame
    refine hyN (some 38) 12 rfl hHeld ?_; go_frame
    refine hyN (some 39) 13 rfl hHeld ?_; go_frame
    refine hyN (some 40) 14 rfl hHeld ?_; go_frame
    refine hyN (some 41) 15 rfl hHeld ?_; go_frame
    refine hyN (some 42) 16 rfl hHeld ?_; go_frame
    refine hyY (some 43) 17 rfl hHeld ?_; go_frame
    refine wpAnyH_done (by kernel_rfl) ?_ _
    have hKK := HKK.out
    go_wp2_with fail
    go_ret
    exact ⟨rfl, B1⟩
  obtain ⟨E8, E8b⟩ := (HM.out h5).2.2
  clear HM HM2
  go_enter Try.func46, Try.ntmps46
  go_wp2_with fail
  rename_i KK hKK
  have HKK := Lib.hid hKK
  clear hKK
  refine wp_region_held_drew (S := (fun W => W.cell? ⟨w.heap.size, 0, none⟩ = some (.int .i64 1) ∧ W.cell? ⟨w.heap.size, 1, none⟩ = some (.string s))) (by kernel_rfl) ⟨kb.cell 0, kb.cell 1⟩ (fun hHeld => ?_)
  refine hyY (some 26) 0 rfl hHeld ?_; go_frame
  refine hyY (some 27) 1 rfl hHeld ?_; go_frame
  refine hyY (some 29) 3 rfl hHeld ?_; go_frame
  refine hyY (some 30) 4 rfl hHeld ?_; go_frame
  refine hyY (some 31) 5 rfl hHeld ?_; go_frame
  refine hyO (some 28) 2 rfl (fun K hK => ?_)
  go_simp
  go_at_call 55
  refine (HNM.out _).mono ?_
  rintro e w5 ⟨rfl, rfl⟩
  go_wp2_with fail
  refine hK.out _ _ ?_ (fun hH2 => ?_)
  · exact ⟨kb.cell 0, kb.cell 1⟩
  clear hHeld hK K; have hHeld := hH2; clear hH2; try go_frame
  refine hyY (some 32) 6 rfl hHeld ?_; go_frame
  refine hyY (some 33) 7 rfl hHeld ?_; go_frame
  refine hyY (some 34) 8 rfl hHeld ?_; go_frame
  refine hyY (some 35) 9 rfl hHeld ?_; go_frame
  refine hyO (some 36) 10 rfl (fun K hK => ?_)
  go_simp
  go_at_call 55
  refine (HNM.out _).mono ?_
  rintro e w5 ⟨rfl, rfl⟩
  go_wp2_with fail
  refine hK.out _ _ ?_ (fun hH2 => ?_)
  · exact ⟨kb.cell 0, kb.cell 1⟩
  clear hHeld hK K; have hHeld := hH2; clear hH2; try go_frame
  refine hyY (some 37) 11 rfl hHeld ?_; go_frame
  refine hyN (some 38) 12 rfl hHeld ?_; go_frame
  refine hyN (some 39) 13 rfl hHeld ?_; go_frame
  refine hyN (some 40) 14 rfl hHeld ?_; go_frame
  refine hyN (some 41) 15 rfl hHeld ?_; go_frame
  refine hyY (some 42) 16 rfl hHeld ?_; go_frame
  refine hyY (some 43) 17 rfl hHeld ?_; go_frame
  refine wpAnyH_done (by kernel_rfl) ?_ _
  have hKK := HKK.out
  by_cases a1 : fr = 0
  case neg =>
    have E9 : (fr != 0) = true := bne_iff_ne.2 a1
    obtain rfl := HU.out (by intro h; exact a1 h.2.1)
    go_wp2_with (go_at_call 48; refine (HMM.out _).mono ?_; rintro e wq ⟨rfl, rfl⟩)
    go_ret
    exact ⟨rfl, B1⟩
  subst a1
  by_cases a2 : to_ = 0
  case neg =>
    have E10 : (to_ != 0) = true := bne_iff_ne.2 a2
    obtain rfl := HU.out (by intro h; exact a2 h.2.2.1)
    go_wp2_with (go_at_call 48; refine (HMM.out _).mono ?_; rintro e wq ⟨rfl, rfl⟩)
    go_ret
    exact ⟨rfl, B1⟩
  subst a2
  by_cases a4 : kl = 0
  case neg =>
    have E12 : decide ((0 : Int) < (kl : Int)) = true := decide_eq_true (by omega)
    have E13 : decide (0 < kl) = true := decide_eq_true (by omega)
    obtain rfl := HU.out (by intro h; exact a4 h.2.2.2)
    go_wp2_with (go_at_call 48; refine (HMM.out _).mono ?_; rintro e wq ⟨rfl, rfl⟩)
    go_ret
    exact ⟨rfl, B1⟩
  subst a4
  obtain rfl := HY.out ⟨h5, rfl, rfl, rfl⟩
  have E14 : decide (n - 1 < 0) = false := decide_eq_false (by omega)
  go_wp2_with (go_at_call 48; refine (HMM.out _).mono ?_; rintro e wq ⟨rfl, rfl⟩)
  go_loopw [1, 7] (fun mv iv wr => mv = .int .i64 (n - 1) ∧ iv = .int .i64 0 ∧ KB wr w.heap.size 25 #[.int .i64 1, .string s, .int .i64 0, .int .i64 0, .slice A3 0 cap3] ∧ Below w.heap.size w wr) (fun _ iv _ => 0)
  case atStart => exact ⟨rfl, rfl, kc, B1⟩
  case round =>
    obtain ⟨rfl, rfl, K, B⟩ := hrel
    have q4 : wr.cell? ⟨w.heap.size, 4, none⟩ = some (.slice A3 0 cap3) := K.cell 4
    go_wp2_with fail
    go_ret
    exact ⟨rfl, B⟩
end
section
open Go.RowKit
set_option maxHeartbeats 8000000 in
theorem zleft_time (S : Nat → Prop) (f : Nat) (ih : LeftIh S f) (t : Ns (Sc f)) (v : Value) (n d : Int) (w : World) (hn2 : n ≤ 1000) (hd2 : d ≤ 1000) (h1 : 1 ≤ n) (h2 : 1 ≤ d) (hop : t.op = 5) (hv : ZV w S (f + 1) v t) :
    Calls Try.prog 46 #[v, .int .i64 n, .int .i64 d] w fun e w' => e = .returned (.int .i64 (leftS (f + 1) t n d)) ∧ Below w.heap.size w w' := by
  obtain ⟨c0, c1, c2, c3, c4, rfl, rfl, hk, rfl, hml, rfl, hfr, rfl, hto, hks⟩ := hv
  obtain ⟨A3, cap3, e3, hl3, hm3⟩ := hks.form
  subst e3
  obtain ⟨r, hr⟩ : ∃ r, r = leftS (f + 1) t n d := ⟨_, rfl⟩
  rw [← hr]
  have HU : Hid (¬ (t.name = [] ∧ (0 ≤ t.from_ ∧ t.from_ ≤ t.to_ ∧ t.to_ ≤ 1099511627776) ∧ t.kids.length = 0) → r = -1) := fun h => hr.trans (zleft_unfit t (by
    cases hb : fitsS t with
    | false => rfl
    | true => exact absurd ((zfit_time hop).1 hb) h))
  have HY : Hid (t.name = [] ∧ (0 ≤ t.from_ ∧ t.from_ ≤ t.to_ ∧ t.to_ ≤ 1099511627776) ∧ t.kids.length = 0 → r = n - 1) := fun h => hr.trans (zleft_one t ((zfit_time hop).2 h) h.2.2 h1 h2)
  clear hr
  have HNM : Hid (∀ W : World, Calls Try.prog 55 #[.int .i64 t.op] W fun e w' => e = .returned (.bool false) ∧ w' = W) := fun W => by
    have := znamed_any t.op W
    rwa [show namedS t.op = false from by unfold namedS; exact decide_eq_false (by omega)] at this
  have HMM : Hid (∀ W : World, Calls Try.prog 48 #[.int .i64 t.op] W fun e w' => e = .returned (.bool false) ∧ w' = W) := fun W => by
    have := zmany_any t.op W
    rwa [show manyS t.op = false from by unfold manyS; exact decide_eq_false (by omega)] at this
  have HNA := Lib.hid (fun W : World => rname_any t.name hml W)
  generalize t.op = k at *
  generalize t.from_ = fr at *
  generalize t.to_ = to_ at *
  generalize t.name = l at *
  generalize t.kids = ks at *
  clear t
  have hlen : ks.length ≤ 9223372036854775807 := by unfold maxLen at hm3; omega
  have hlz : ((⟨l.toArray⟩ : ByteArray).size : Int) = (l.length : Int) := rfl
  have W1 : wrap64 (n - 1) = n - 1 := IntWalk.wrap64_in _ (by omega)
  have W2 : wrap64 (d - 1) = d - 1 := IntWalk.wrap64_in _ (by omega)
  have I1 : IntKind.i64.wrap (n - 1) = n - 1 := by rw [IntKind.wrap_i64]; omega
  have I2 : IntKind.i64.wrap (d - 1) = d - 1 := by rw [IntKind.wrap_i64]; omega
  have HM2 := Lib.hid (zne_if ⟨l.toArray⟩ l rfl)
  have HM : Hid (l = [] → ((⟨l.toArray⟩ : ByteArray).toList != []) = false ∧ ((⟨l.toArray⟩ : ByteArray).toList != (⟨#[]⟩ : ByteArray).toList) = false ∧ (⟨l.toArray⟩ : ByteArray).toList = [] ∧ (⟨l.toArray⟩ : ByteArray).toList.isEmpty = true) := fun h => zne_not ⟨l.toArray⟩ (by rw [h])
  unfold strV at *
  obtain ⟨s, hs⟩ : ∃ s : ByteArray, s = ⟨l.toArray⟩ := ⟨_, rfl⟩
  rw [← hs] at HNA HM HM2 ⊢
  clear hs hlz hml
  obtain ⟨kl, hkl⟩ : ∃ kl, kl = ks.length := ⟨_, rfl⟩
  rw [← hkl] at hks hl3 hlen HU HY ⊢
  have HKL := Lib.hid hkl
  clear hkl
  subst hop
  have kb := KB.new w 25 #[.int .i64 5, .string s, .int .i64 fr, .int .i64 to_, .slice A3 kl cap3]
  have B0 := (Below.refl w.heap.size w).alloc (Nat.le_refl _) (.cells #[.int .i64 5, .string s, .int .i64 fr, .int .i64 to_, .slice A3 kl cap3] 25)
  have B1 := Below_drawn B0 1
  have kc := kb.below (Below_drawn (Below.refl _ _) 1) kb.lt
  have E1 : decide (n < 1) = false := decide_eq_false (by omega)
  have E2 : decide (d < 1) = false := decide_eq_false (by omega)
  by_cases h5 : l = []
  case neg =>
    obtain rfl := HU.out (fun h => h5 h.1)
    obtain ⟨E8, E8b⟩ := (HM2.out h5).2.2
    clear HU HM HM2
    go_enter Try.func46, Try.ntmps46
    go_wp2_with fail
    rename_i KK hKK
    have HKK := Lib.hid hKK
    clear hKK
    refine wp_region_held_drew (S := (fun W => W.cell? ⟨w.heap.size, 0, none⟩ = some (.int .i64 5) ∧ W.cell? ⟨w.heap.size, 1, none⟩ = some (.string s))) (by kernel_rfl) ⟨kb.cell 0, kb.cell 1⟩ (fun hHeld => ?_)
    refine hyY (some 26) 0 rfl hHeld ?_; go_frame
    refine hyY (some 27) 1 rfl hHeld ?_; go_frame
    refine hyY (some 29) 3 rfl hHeld ?_; go_frame
    refine hyY (some 30) 4 rfl hHeld ?_; go_frame
    refine hyY (some 31) 5 rfl hHeld ?_; go_frame
    refine hyO (some 28) 2 rfl (fun K hK => ?_)
    go_simp
    go_at_call 55
    refine (HNM.out _).mono ?_
    rintro e w5 ⟨rfl, rfl⟩
    go_wp2_with fail
    refine hK.out _ _ ?_ (fun hH2 => ?_)
    · exact ⟨kb.cell 0, kb.cell 1⟩
    clear hHeld hK K; have hHeld := hH2; clear hH2; try go_frame
    refine hyY (some 32) 6 rfl hHeld ?_; go_frame
    refine hyY (some 33) 7 rfl hHeld ?_; go_frame
    refine hyN (some 34) 8 rfl hHeld ?_; go_frame
    refine hyN (some 35) 9 rfl hHeld ?_; go_frame
    refine hyN (some 36) 10 rfl hHeld ?_; go_frame
    refine hyN (some 37) 11 rfl hHeld ?_; go_frame
    refine hyN (some 38) 12 rfl hHeld ?_; go_frame
    refine hyN (some 39) 13 rfl hHeld ?_; go_frame
    refine hyN (some 40) 14 rfl hHeld ?_; go_frame
    refine hyN (some 41) 15 rfl hHeld ?_; go_frame
    refine hyN (some 42) 16 rfl hHeld ?_; go_frame
    refine hyY (some 43) 17 rfl hHeld ?_; go_frame
    refine wpAnyH_done (by kernel_rfl) ?_ _
    have hKK := HKK.out
    go_wp2_with fail
    go_ret
    exact ⟨rfl, B1⟩
  obtain ⟨E8, E8b⟩ := (HM.out h5).2.2
  clear HM HM2
  go_enter Try.func46, Try.ntmps46
  go_wp2_with fail
  rename_i KK hKK
  have HKK := Lib.hid hKK
  clear hKK
  refine wp_region_held_drew (S := (fun W => W.cell? ⟨w.heap.size, 0, none⟩ = some (.int .i64 5) ∧ W.cell? ⟨w.heap.size, 1, none⟩ = some (.string s))) (by kernel_rfl) ⟨kb.cell 0, kb.cell 1⟩ (fun hHeld => ?_)
  refine hyY (some 26) 0 rfl hHeld ?_; go_frame
  refine hyY (some 27) 1 rfl hHeld ?_; go_frame
  refine hyY (some 29) 3 rfl hHeld ?_; go_frame
  refine hyY (some 30) 4 rfl hHeld ?_; go_frame
  refine hyY (some 31) 5 rfl hHeld ?_; go_frame
  refine hyO (some 28) 2 rfl (fun K hK => ?_)
  go_simp
  go_at_call 55
  refine (HNM.out _).mono ?_
  rintro e w5 ⟨rfl, rfl⟩
  go_wp2_with fail
  refine hK.out _ _ ?_ (fun hH2 => ?_)
  · exact ⟨kb.cell 0, kb.cell 1⟩
  clear hHeld hK K; have hHeld := hH2; clear hH2; try go_frame
  refine hyY (some 32) 6 rfl hHeld ?_; go_frame
  refine hyY (some 33) 7 rfl hHeld ?_; go_frame
  refine hyY (some 34) 8 rfl hHeld ?_; go_frame
  refine hyY (some 35) 9 rfl hHeld ?_; go_frame
  refine hyO (some 36) 10 rfl (fun K hK => ?_)
  go_simp
  go_at_call 55
  refine (HNM.out _).mono ?_
  rintro e w5 ⟨rfl, rfl⟩
  go_wp2_with fail
  refine hK.out _ _ ?_ (fun hH2 => ?_)
  · exact ⟨kb.cell 0, kb.cell 1⟩
  clear hHeld hK K; have hHeld := hH2; clear hH2; try go_frame
  refine hyY (some 37) 11 rfl hHeld ?_; go_frame
  refine hyN (some 38) 12 rfl hHeld ?_; go_frame
  refine hyN (some 39) 13 rfl hHeld ?_; go_frame
  refine hyN (some 40) 14 rfl hHeld ?_; go_frame
  refine hyN (some 41) 15 rfl hHeld ?_; go_frame
  refine hyY (some 42) 16 rfl hHeld ?_; go_frame
  refine hyY (some 43) 17 rfl hHeld ?_; go_frame
  refine wpAnyH_done (by kernel_rfl) ?_ _
  have hKK := HKK.out
  by_cases a1 : fr < 0
  · have E9 := decide_eq_true a1
    obtain rfl := HU.out (by intro h; have := h.2.1.1; omega)
    go_wp2_with (go_at_call 48; refine (HMM.out _).mono ?_; rintro e wq ⟨rfl, rfl⟩)
    go_ret
    exact ⟨rfl, B1⟩
  have E9 : decide (fr < 0) = false := decide_eq_false a1
  by_cases a2 : to_ < fr
  · have E10 := decide_eq_true a2
    obtain rfl := HU.out (by intro h; have := h.2.1.2.1; omega)
    go_wp2_with (go_at_call 48; refine (HMM.out _).mono ?_; rintro e wq ⟨rfl, rfl⟩)
    go_ret
    exact ⟨rfl, B1⟩
  have E10 : decide (to_ < fr) = false := decide_eq_false a2
  by_cases a3 : 1099511627776 < to_
  · have E11 := decide_eq_true a3
    obtain rfl := HU.out (by intro h; have := h.2.1.2.2; omega)
    go_wp2_with (go_at_call 48; refine (HMM.out _).mono ?_; rintro e wq ⟨rfl, rfl⟩)
    go_ret
    exact ⟨rfl, B1⟩
  have E11 : decide (1099511627776 < to_) = false := decide_eq_false a3
  by_cases a4 : kl = 0
  case neg =>
    have E12 : decide ((0 : Int) < (kl : Int)) = true := decide_eq_true (by omega)
    have E13 : decide (0 < kl) = true := decide_eq_true (by omega)
    obtain rfl := HU.out (by intro h; exact a4 h.2.2)
    go_wp2_with (go_at_call 48; refine (HMM.out _).mono ?_; rintro e wq ⟨rfl, rfl⟩)
    go_ret
    exact ⟨rfl, B1⟩
  subst a4
  obtain rfl := HY.out ⟨h5, ⟨by omega, by omega, by omega⟩, rfl⟩
  have E14 : decide (n - 1 < 0) = false := decide_eq_false (by omega)
  go_wp2_with (go_at_call 48; refine (HMM.out _).mono ?_; rintro e wq ⟨rfl, rfl⟩)
  go_loopw [1, 7] (fun mv iv wr => mv = .int .i64 (n - 1) ∧ iv = .int .i64 0 ∧ KB wr w.heap.size 25 #[.int .i64 5, .string s, .int .i64 fr, .int .i64 to_, .slice A3 0 cap3] ∧ Below w.heap.size w wr) (fun _ iv _ => 0)
  case atStart => exact ⟨rfl, rfl, kc, B1⟩
  case round =>
    obtain ⟨rfl, rfl, K, B⟩ := hrel
    have q4 : wr.cell? ⟨w.heap.size, 4, none⟩ = some (.slice A3 0 cap3) := K.cell 4
    go_wp2_with fail
    go_ret
    exact ⟨rfl, B⟩
end
end Go.Proofs.Ytdkmjdcddldjgaa
