/-
  LxV: The document's one (layer 16), where a word of letters, a quoted text or days begin, over the loaded program: its contract. No condition but sizes. (Written by wip/gen/lex/mk_s.py.)
-/
import Derived.Test.YthindhlogkhclaaGreatDoorPz46
set_option linter.unusedVariables false
set_option maxRecDepth 100000
namespace Go.Proofs.YthindhlogkhclaaGreatDoor
section
open Go.RowKit
set_option maxHeartbeats 8000000 in
theorem rone_word (s : List UInt8) (hl : s.length ≤ 1000000000) (i : Nat) (c : UInt8) (l : List UInt8) (hd : s.drop i = c :: l) (h2 : lowC c.toNat = true) (w : World) :
    Calls Tryz.prog 40 #[strV s, .int .i64 (i : Int)] w (OneAs w i (oneC c l)) := by
  have hs : ((⟨s.toArray⟩ : ByteArray).size : Int) = (s.length : Int) := rfl
  have hml : s.length ≤ 1000000000 := hl
  have HML := Lib.hid hml
  obtain ⟨hi, hd2, hlen⟩ : i < s.length ∧ s.drop (i + 1) = l ∧ l.length + 1 + i = s.length := by
    have hll := congrArg List.length hd
    rw [List.length_drop, List.length_cons] at hll
    refine ⟨by omega, ?_, by omega⟩
    rw [← List.drop_drop, hd]
    rfl
  have hix := txt_at s i c (by have := congrArg (fun l => l[0]?) hd; rw [List.getElem?_drop] at this; simpa using this)
  have hcr : 97 ≤ c.toNat ∧ c.toNat ≤ 122 := by simpa [lowC] using h2
  have ho : oneC c l = wordW (c :: l) := by
    unfold oneC
    rw [if_neg (by omega), if_neg (by omega), if_neg (by omega), if_pos h2]
  rw [ho]
  have htk := takeN_le wordC (s.drop i)
  rw [List.length_drop] at htk
  have HD : Hid (∀ (u : ByteArray) w', .string u = strV ((s.drop i).take (takeN wordC (s.drop i))) → Below w.heap.size w w' → OneAs w i (wordW (c :: l)) (.returned (.tuple #[.agg #[.int .i64 1, .string u, .int .i64 0, .int .i64 (i : Int)], .int .i64 ((i + takeN wordC (s.drop i) : Nat) : Int), .int .i64 0])) w') := fun u w' e b => by
    rw [e, hd]
    exact ⟨rfl, b⟩
  have HMID : Hid (∀ z : ByteArray, z = ⟨s.toArray⟩ → ∀ W : World, (Instr.slice 9 (.string z) (some (.int .i64 (i : Int))) (some (.int .i64 ((i + takeN wordC (s.drop i) : Nat) : Int))) none).run Tryz.prog W = .ok (strV ((s.drop i).take (takeN wordC (s.drop i)))) W) := fun z e => by
    subst e
    have := txt_mid s .i64 .i64 i (i + takeN wordC (s.drop i)) (by omega) (by omega)
    rw [show i + takeN wordC (s.drop i) - i = takeN wordC (s.drop i) by omega] at this
    exact this
  have HAT0 : Hid (∀ z : ByteArray, z = ⟨s.toArray⟩ → ∀ (k : Nat) (x : UInt8), s[k]? = some x → ∀ W : World, (Instr.index 9 (.string z) (.int .i64 (k : Int))).run Tryz.prog W = .ok (.int .u8 (x.toNat : Int)) W) := fun z e => by subst e; exact txt_at s
  have hlo := low_any
  have hdi := digit_any
  have hl0 := low_any c.toNat
  rw [h2] at hl0
  obtain ⟨cc, hcc⟩ : ∃ k, k = c.toNat := ⟨_, rfl⟩
  rw [← hcc] at hix hl0 hcr
  have E40 : ((cc : Int) == 40) = false := by simp; omega
  have E41 : ((cc : Int) == 41) = false := by simp; omega
  have E59 : ((cc : Int) == 59) = false := by simp; omega
  obtain ⟨e, he⟩ : ∃ e, e = i + takeN wordC (s.drop i) := ⟨_, rfl⟩
  have HE := Lib.hid he
  rw [← he] at HD HMID
  have hie : i ≤ e := by omega
  have hes : e ≤ s.length := by omega
  obtain ⟨tx, htx⟩ : ∃ tx : ByteArray, .string tx = strV ((s.drop i).take (takeN wordC (s.drop i))) := ⟨_, rfl⟩
  rw [← htx] at HMID
  replace HD := Lib.hid (HD.out tx · htx)
  unfold strV at *
  obtain ⟨z, hz⟩ : ∃ z : ByteArray, z = ⟨s.toArray⟩ := ⟨_, rfl⟩
  rw [← hz] at hs hix ⊢
  replace HMID := Lib.hid (HMID.out z hz)
  have HAT := Lib.hid (HAT0.out z hz)
  clear hl hd hd2 hlen ho htk hcc h2 hz htx HAT0 he
  go_enter Tryz.func40, Tryz.ntmps40
  go_wp2_with (go_at_call 73; refine (hl0 _).mono ?_; rintro e w2 ⟨rfl, rfl⟩)
  go_loop [8] (fun kv => ∃ k : Nat, i ≤ k ∧ k ≤ e ∧ kv = .int .i64 (k : Int)) (fun kv => s.length - (intOf kv).toNat)
  case atStart => exact ⟨i, Nat.le_refl _, hie, rfl⟩
  case round =>
    obtain ⟨k, hik, hle, rfl⟩ := hrel
    clear hl0
    by_cases hlt : k < s.length
    · have hltI : (k : Int) < (s.length : Int) := by omega
      have hle0 := hle
      rw [HE.out] at hle
      obtain ⟨x, hx⟩ : ∃ x, s[k]? = some x := ⟨_, List.getElem?_eq_getElem hlt⟩
      have hix2 := HAT.out k x hx
      have HSTEP := Lib.hid (fun hp => tk_step (p := wordC) hx hik hle hp)
      have HSTOP := Lib.hid (fun hp => tk_stop (p := wordC) hx hik hle hp)
      obtain ⟨xx, hxx⟩ : ∃ k, k = x.toNat := ⟨_, rfl⟩
      rw [← hxx] at hix2 HSTEP HSTOP
      have hwk : IntKind.i64.wrap ((k : Int) + 1) = ((k + 1 : Nat) : Int) := by have := HML.out; rw [IntKind.wrap_i64]; omega
      clear hx hxx
      have hlx := hlo xx
      have hdx := hdi xx
      clear hlo hdi hle
      cases q1 : lowC xx with
      | true =>
        rw [q1] at hlx
        have hp : wordC xx = true := by unfold wordC; rw [q1]; rfl
        have HT := Lib.hid (HSTEP.out (by exact hp))
        clear HSTEP HSTOP HD HAT HMID
        go_wp2_with (first
          | (go_at_call 73; refine (hlx _).mono ?_; rintro e w2 ⟨rfl, rfl⟩)
          | fail)
        go_round
        case rel => exact ⟨k + 1, by omega, by rw [HE.out]; exact HT.out, by first | rfl | (rw [hwk])⟩
        case measure => simp [intOf]; omega
      | false =>
        rw [q1] at hlx
        cases q2 : digC xx with
        | true =>
          rw [q2] at hdx
          have hp : wordC xx = true := by unfold wordC; rw [q1, q2]; rfl
          have HT := Lib.hid (HSTEP.out (by exact hp))
          clear HSTEP HSTOP HD HAT HMID
          go_wp2_with (first
            | (go_at_call 73; refine (hlx _).mono ?_; rintro e w2 ⟨rfl, rfl⟩)
            | (go_at_call 74; refine (hdx _).mono ?_; rintro e w2 ⟨rfl, rfl⟩)
            | fail)
          go_round
          case rel => exact ⟨k + 1, by omega, by rw [HE.out]; exact HT.out, by first | rfl | (rw [hwk])⟩
          case measure => simp [intOf]; omega
        | false =>
          rw [q2] at hdx
          by_cases q3 : xx = 45
          · have hp : wordC xx = true := by rw [q3]; decide
            have D1 : ((xx : Int) == 45) = true := by simp; omega
            clear q3
            have HT := Lib.hid (HSTEP.out (by exact hp))
            clear HSTEP HSTOP HD HAT HMID
            go_wp2_with (first
              | (go_at_call 73; refine (hlx _).mono ?_; rintro e w2 ⟨rfl, rfl⟩)
              | (go_at_call 74; refine (hdx _).mono ?_; rintro e w2 ⟨rfl, rfl⟩)
              | fail)
            go_round
            case rel => exact ⟨k + 1, by omega, by rw [HE.out]; exact HT.out, by first | rfl | (rw [hwk])⟩
            case measure => simp [intOf]; omega
          · have D1 : ((xx : Int) == 45) = false := by simp; omega
            by_cases q4 : xx = 95
            · have hp : wordC xx = true := by rw [q4]; decide
              have D2 : ((xx : Int) == 95) = true := by simp; omega
              clear q4 q3
              have HT := Lib.hid (HSTEP.out (by exact hp))
              clear HSTEP HSTOP HD HAT HMID
              go_wp2_with (first
                | (go_at_call 73; refine (hlx _).mono ?_; rintro e w2 ⟨rfl, rfl⟩)
                | (go_at_call 74; refine (hdx _).mono ?_; rintro e w2 ⟨rfl, rfl⟩)
                | fail)
              go_round
              case rel => exact ⟨k + 1, by omega, by rw [HE.out]; exact HT.out, by first | rfl | (rw [hwk])⟩
              case measure => simp [intOf]; omega
            · have D2 : ((xx : Int) == 95) = false := by simp; omega
              have hp : wordC xx = false := by unfold wordC; rw [q1, q2, decide_eq_false q3, decide_eq_false q4]; rfl
              have hk := HSTOP.out hp
              rw [← HE.out] at hk
              have hmid := HMID.out
              rw [hk] at hmid HD
              clear HSTEP HSTOP HAT HMID q3 q4
              have K1 := KB.new w 79 #[.int .i64 1, .string tx, .int .i64 0, .int .i64 (i : Int)]
              have B1 := (Below.refl w.heap.size w).alloc (Nat.le_refl _) (.cells #[.int .i64 1, .string tx, .int .i64 0, .int .i64 (i : Int)] 79)
              have HK1 := Lib.hid K1
              have HB1 := Lib.hid B1
              clear K1 B1
              go_wp2_with (first
                | (go_at_call 73; refine (hlx _).mono ?_; rintro e w2 ⟨rfl, rfl⟩)
                | (go_at_call 74; refine (hdx _).mono ?_; rintro e w2 ⟨rfl, rfl⟩)
                | fail)
              have K1 := HK1.out
              have B1 := HB1.out
              (try simp only [Exit.inBlock, Exit.then])
              refine bodyPost_ret (results_cell_tmp2 (P := Tryz.prog) rfl _ _ w.heap.size _ _ (0, 0) _ rfl K1 Tryz.underlying79 rfl (by kernel_rfl)) rfl ?_
              exact HD.out _ B1
    · have hk : e = k := by rw [HE.out] at hle ⊢; exact tk_end (by omega) hik hle
      have hnI : ¬ (k : Int) < (s.length : Int) := by omega
      have hmid := HMID.out
      rw [hk] at hmid HD
      clear HAT HMID hlo hdi
      have K1 := KB.new w 79 #[.int .i64 1, .string tx, .int .i64 0, .int .i64 (i : Int)]
      have B1 := (Below.refl w.heap.size w).alloc (Nat.le_refl _) (.cells #[.int .i64 1, .string tx, .int .i64 0, .int .i64 (i : Int)] 79)
      have HK1 := Lib.hid K1
      have HB1 := Lib.hid B1
      clear K1 B1
      go_wp2
      have K1 := HK1.out
      have B1 := HB1.out
      (try simp only [Exit.inBlock, Exit.then])
      refine bodyPost_ret (results_cell_tmp2 (P := Tryz.prog) rfl _ _ w.heap.size _ _ (0, 0) _ rfl K1 Tryz.underlying79 rfl (by kernel_rfl)) rfl ?_
      exact HD.out _ B1
set_option maxHeartbeats 8000000 in
theorem rone_quote (s : List UInt8) (hl : s.length ≤ 1000000000) (i : Nat) (c : UInt8) (l : List UInt8) (hd : s.drop i = c :: l) (h3 : c.toNat = 34) (w : World) :
    Calls Tryz.prog 40 #[strV s, .int .i64 (i : Int)] w (OneAs w i (oneC c l)) := by
  have hs : ((⟨s.toArray⟩ : ByteArray).size : Int) = (s.length : Int) := rfl
  have hml : s.length ≤ 1000000000 := hl
  have HML := Lib.hid hml
  obtain ⟨hi, hd2, hlen⟩ : i < s.length ∧ s.drop (i + 1) = l ∧ l.length + 1 + i = s.length := by
    have hll := congrArg List.length hd
    rw [List.length_drop, List.length_cons] at hll
    refine ⟨by omega, ?_, by omega⟩
    rw [← List.drop_drop, hd]
    rfl
  have hix := txt_at s i c (by have := congrArg (fun l => l[0]?) hd; rw [List.getElem?_drop] at this; simpa using this)
  have ho : oneC c l = quoteW l := by
    unfold oneC
    rw [if_neg (by omega), if_neg (by omega), if_neg (by omega), if_neg (by rw [h3]; decide), if_pos h3]
  have HB : Hid (∀ er w', oneC c l = badW er → er ≠ 0 → Below w.heap.size w w' → OneAs w i (oneC c l) (.returned (.tuple #[.agg #[.int .i64 0, .string ⟨#[]⟩, .int .i64 0, .int .i64 0], .int .i64 (i : Int), .int .i64 er])) w') := fun er w' e h b => by
    rw [e]
    refine ⟨?_, b⟩
    unfold oneV badW
    rw [if_neg h]
    rfl
  obtain ⟨j1, hj1⟩ : ∃ j, j = i + 1 := ⟨_, rfl⟩
  rw [← hj1] at hd2
  have htk := takeN_le noQ (s.drop j1)
  rw [hd2] at htk
  obtain ⟨e, he⟩ : ∃ e, e = j1 + takeN noQ (s.drop j1) := ⟨_, rfl⟩
  have he2 : e = j1 + takeN noQ l := by rw [he, hd2]
  have hna := rname_any (l.take (takeN noQ l)) (by rw [List.length_take]; unfold maxLen; omega)
  have HD : Hid (nameS (l.take (takeN noQ l)) = true → e < s.length → ∀ (u : ByteArray) w', .string u = strV (l.take (takeN noQ l)) → Below w.heap.size w w' → OneAs w i (oneC c l) (.returned (.tuple #[.agg #[.int .i64 2, .string u, .int .i64 0, .int .i64 (i : Int)], .int .i64 ((e + 1 : Nat) : Int), .int .i64 0])) w') := fun h1 h2 u w' eu b => by
    have e1 : oneC c l = ⟨2, l.take (takeN noQ l), 0, takeN noQ l + 2, 0⟩ := by rw [ho]; unfold quoteW; rw [if_pos ⟨by omega, h1⟩]
    rw [e1, eu]
    refine ⟨?_, b⟩
    unfold oneV
    rw [show e + 1 = i + (takeN noQ l + 2) by omega]
    rfl
  have HN : Hid ((nameS (l.take (takeN noQ l)) = false ∨ s.length ≤ e) → oneC c l = badW 2) := fun h => by
    rw [ho]
    unfold quoteW
    rw [if_neg]
    rintro ⟨h1, h2⟩
    rcases h with h | h
    · rw [h2] at h; cases h
    · omega
  have HMID : Hid (∀ z : ByteArray, z = ⟨s.toArray⟩ → ∀ W : World, (Instr.slice 9 (.string z) (some (.int .i64 (j1 : Int))) (some (.int .i64 (e : Int))) none).run Tryz.prog W = .ok (strV (l.take (takeN noQ l))) W) := fun z ez => by
    subst ez
    have := txt_mid s .i64 .i64 j1 e (by omega) (by omega)
    rw [show e - j1 = takeN noQ l by omega, hd2] at this
    exact this
  have HAT0 : Hid (∀ z : ByteArray, z = ⟨s.toArray⟩ → ∀ (k : Nat) (x : UInt8), s[k]? = some x → ∀ W : World, (Instr.index 9 (.string z) (.int .i64 (k : Int))).run Tryz.prog W = .ok (.int .u8 (x.toNat : Int)) W) := fun z e => by subst e; exact txt_at s
  have hl0 := low_any c.toNat
  rw [show lowC c.toNat = false by rw [h3]; decide] at hl0
  obtain ⟨cc, hcc⟩ : ∃ k, k = c.toNat := ⟨_, rfl⟩
  rw [← hcc] at hix hl0
  have hc34 : cc = 34 := by omega
  have hw1 : IntKind.i64.wrap ((i : Int) + 1) = (j1 : Int) := by rw [IntKind.wrap_i64]; omega
  have hwe : IntKind.i64.wrap ((e : Int) + 1) = ((e + 1 : Nat) : Int) := by rw [IntKind.wrap_i64]; omega
  have HE := Lib.hid he
  have hie : j1 ≤ e := by omega
  have hes : e ≤ s.length := by omega
  obtain ⟨nm, hnm⟩ : ∃ nm, nm = nameS (l.take (takeN noQ l)) := ⟨_, rfl⟩
  rw [← hnm] at HD HN hna
  obtain ⟨tx, htx⟩ : ∃ tx : ByteArray, .string tx = strV (l.take (takeN noQ l)) := ⟨_, rfl⟩
  rw [← htx] at HMID hna
  replace HD : Hid (nm = true → e < s.length → ∀ w', Below w.heap.size w w' → OneAs w i (oneC c l) (.returned (.tuple #[.agg #[.int .i64 2, .string tx, .int .i64 0, .int .i64 (i : Int)], .int .i64 ((e + 1 : Nat) : Int), .int .i64 0])) w') := fun h1 h2 w' => HD.out h1 h2 tx w' htx
  obtain ⟨R, hR⟩ : ∃ R, R = OneAs w i (oneC c l) := ⟨_, rfl⟩
  rw [← hR] at HD HB ⊢
  unfold strV at *
  obtain ⟨z, hz⟩ : ∃ z : ByteArray, z = ⟨s.toArray⟩ := ⟨_, rfl⟩
  rw [← hz] at hs hix ⊢
  replace HMID := Lib.hid (HMID.out z hz)
  have HAT := Lib.hid (HAT0.out z hz)
  clear hl hd hd2 hlen ho htk hcc h3 hz htx HAT0 he he2 hnm hR hml hi hj1
  subst hc34
  go_enter Tryz.func40, Tryz.ntmps40
  go_wp2_with (go_at_call 73; refine (hl0 _).mono ?_; rintro e w2 ⟨rfl, rfl⟩)
  go_loop [8] (fun kv => ∃ k : Nat, j1 ≤ k ∧ k ≤ e ∧ kv = .int .i64 (k : Int)) (fun kv => s.length - (intOf kv).toNat)
  case atStart => exact ⟨j1, Nat.le_refl _, hie, rfl⟩
  case round =>
    obtain ⟨k, hik, hle, rfl⟩ := hrel
    clear hl0
    by_cases hlt : k < s.length
    · have hltI : (k : Int) < (s.length : Int) := by omega
      have hle0 := hle
      rw [HE.out] at hle
      obtain ⟨x, hx⟩ : ∃ x, s[k]? = some x := ⟨_, List.getElem?_eq_getElem hlt⟩
      have hix2 := HAT.out k x hx
      have HSTEP := Lib.hid (fun hp => tk_step (p := noQ) hx hik hle hp)
      have HSTOP := Lib.hid (fun hp => tk_stop (p := noQ) hx hik hle hp)
      obtain ⟨xx, hxx⟩ : ∃ k, k = x.toNat := ⟨_, rfl⟩
      rw [← hxx] at hix2 HSTEP HSTOP
      have hwk : IntKind.i64.wrap ((k : Int) + 1) = ((k + 1 : Nat) : Int) := by have := HML.out; rw [IntKind.wrap_i64]; omega
      clear hx hxx
      clear hle
      by_cases q3 : xx = 34
      · have hk := HSTOP.out (by rw [q3]; decide)
        rw [← HE.out] at hk
        have D1 : ((xx : Int) != 34) = false := by simp; omega
        have hmid := HMID.out
        subst hk
        clear HSTEP HSTOP HAT HMID q3 hle0 hwk
        cases nm with
        | true =>
          have HF := Lib.hid (HD.out rfl hlt)
          clear HD HN HB
          have K1 := KB.new w 79 #[.int .i64 2, .string tx, .int .i64 0, .int .i64 (i : Int)]
          have B1 := (Below.refl w.heap.size w).alloc (Nat.le_refl _) (.cells #[.int .i64 2, .string tx, .int .i64 0, .int .i64 (i : Int)] 79)
          have HK1 := Lib.hid K1
          have HB1 := Lib.hid B1
          clear K1 B1
          go_wp2_with (first
            | (go_at_call 44; refine (hna _).mono ?_; rintro e w3 ⟨rfl, rfl⟩)
            | fail)
          have K1 := HK1.out
          have B1 := HB1.out
          (try simp only [Exit.inBlock, Exit.then])
          refine bodyPost_ret (results_cell_tmp2 (P := Tryz.prog) rfl _ _ w.heap.size _ _ (0, 0) _ rfl K1 Tryz.underlying79 rfl (by kernel_rfl)) rfl ?_
          exact HF.out _ B1
        | false =>
          have HF := Lib.hid (HB.out 2 · (HN.out (.inl rfl)) (by decide))
          clear HD HN HB
          have K1 := KB.new w 79 #[.int .i64 0, .string ⟨#[]⟩, .int .i64 0, .int .i64 0]
          have B1 := (Below.refl w.heap.size w).alloc (Nat.le_refl _) (.cells #[.int .i64 0, .string ⟨#[]⟩, .int .i64 0, .int .i64 0] 79)
          have HK1 := Lib.hid K1
          have HB1 := Lib.hid B1
          clear K1 B1
          go_wp2_with (first
            | (go_at_call 44; refine (hna _).mono ?_; rintro e w3 ⟨rfl, rfl⟩)
            | fail)
          have K1 := HK1.out
          have B1 := HB1.out
          (try simp only [Exit.inBlock, Exit.then])
          refine bodyPost_ret (results_cell_tmp2 (P := Tryz.prog) rfl _ _ w.heap.size _ _ (0, 0) _ rfl K1 Tryz.underlying79 rfl (by kernel_rfl)) rfl ?_
          exact HF.out _ B1
      · have D1 : ((xx : Int) != 34) = true := by simp; omega
        have HT := Lib.hid (HSTEP.out (decide_eq_true q3))
        clear HSTEP HSTOP HD HAT HMID HN HB q3
        go_wp2
        go_round
        case rel => exact ⟨k + 1, by omega, by rw [HE.out]; exact HT.out, by first | rfl | (rw [hwk])⟩
        case measure => simp [intOf]; omega
    · have hk : e = k := by rw [HE.out] at hle ⊢; exact tk_end (by omega) hik hle
      have hnI : ¬ (k : Int) < (s.length : Int) := by omega
      have HF := Lib.hid (HB.out 2 · (HN.out (.inr (by omega))) (by decide))
      clear HAT HMID HD HN HB hna
      have K1 := KB.new w 79 #[.int .i64 0, .string ⟨#[]⟩, .int .i64 0, .int .i64 0]
      have B1 := (Below.refl w.heap.size w).alloc (Nat.le_refl _) (.cells #[.int .i64 0, .string ⟨#[]⟩, .int .i64 0, .int .i64 0] 79)
      have HK1 := Lib.hid K1
      have HB1 := Lib.hid B1
      clear K1 B1
      go_wp2_with (first
        | fail)
      have K1 := HK1.out
      have B1 := HB1.out
      (try simp only [Exit.inBlock, Exit.then])
      refine bodyPost_ret (results_cell_tmp2 (P := Tryz.prog) rfl _ _ w.heap.size _ _ (0, 0) _ rfl K1 Tryz.underlying79 rfl (by kernel_rfl)) rfl ?_
      exact HF.out _ B1
end
end Go.Proofs.YthindhlogkhclaaGreatDoor
