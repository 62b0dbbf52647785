/-
  The document's one (layer 16), where days begin; and as a whole, over the loaded program: its contract. No condition but sizes. (Written by wip/gen/lex/mk_s.py.)
-/
import Derived.Test.YtndmdenhmcmbcaaDoorLxV
namespace Go.Proofs.YtndmdenhmcmbcaaDoor
open Go.RowKit
set_option maxRecDepth 100000
set_option linter.unusedVariables false

set_option maxHeartbeats 8000000 in
theorem rone_days (s : List UInt8) (hl : s.length ≤ 1000000000) (i : Nat) (c : UInt8) (l : List UInt8) (hd : s.drop i = c :: l) (h4 : digC c.toNat = true) (w : World) :
    Calls Tryd.prog 20 #[strV s, .int .i64 (i : Int)] w (OneAs w i (oneC c l)) := by
  have hs : ((⟨s.toArray⟩ : ByteArray).size : Int) = (s.length : Int) := rfl
  have hml : s.length ≤ 1000000000 := hl
  have HML := Lib.hid hml
  obtain ⟨hi, hd2, hlen⟩ : i < s.length ∧ s.drop (i + 1) = l ∧ l.length + 1 + i = s.length := by
    have hll := congrArg List.length hd
    rw [List.length_drop, List.length_cons] at hll
    refine ⟨by omega, ?_, by omega⟩
    rw [← List.drop_drop, hd]
    rfl
  have hix := txt_at s i c (by have := congrArg (fun l => l[0]?) hd; rw [List.getElem?_drop] at this; simpa using this)
  have hcr : 48 ≤ c.toNat ∧ c.toNat ≤ 57 := by simpa [digC] using h4
  have hnl : lowC c.toNat = false := decide_eq_false (by omega)
  have ho : oneC c l = spanW (s.drop i) := by
    unfold oneC
    rw [if_neg (by omega), if_neg (by omega), if_neg (by omega), hnl, if_neg (by decide), if_neg (by omega), if_pos h4, hd]
  have HB : Hid (∀ er w', oneC c l = badW er → er ≠ 0 → Below w.heap.size w w' → OneAs w i (oneC c l) (.returned (.tuple #[.agg #[.int .i64 0, .string ⟨#[]⟩, .int .i64 0, .int .i64 0], .int .i64 (i : Int), .int .i64 er])) w') := fun er w' e h b => by
    rw [e]
    refine ⟨?_, b⟩
    unfold oneV badW
    rw [if_neg h]
    rfl
  have hne : s.drop i ≠ [] := by rw [hd]; simp
  have htk := takeN_le digC (s.drop i)
  rw [List.length_drop] at htk
  obtain ⟨e, he⟩ : ∃ e, e = i + takeN digC (s.drop i) := ⟨_, rfl⟩
  obtain ⟨e1, he1⟩ : ∃ j, j = e + 1 := ⟨_, rfl⟩
  have hpa := rparse15_any (spanE (s.drop i)) (by rw [spanE_len, List.length_drop]; unfold maxLen; omega)
  have HNO : Hid ((∀ x, s[e]? = some x → lowC x.toNat = false) → oneC c l = badW 2) := fun h => by
    have h2 : (parseD (spanE (s.drop i))).2 = 2 := span_none hne fun x hx => h x (by rw [he]; rw [List.getElem?_drop] at hx; exact hx)
    rw [ho]
    unfold spanW
    rw [if_neg (by rw [h2]; decide), h2]
  obtain ⟨nn, hnn⟩ : ∃ n, n = (parseD (spanE (s.drop i))).1 := ⟨_, rfl⟩
  obtain ⟨er, her⟩ : ∃ n, n = (parseD (spanE (s.drop i))).2 := ⟨_, rfl⟩
  unfold pairV at hpa
  rw [← hnn, ← her] at hpa
  have HER : Hid (er ≠ 0 → oneC c l = badW er) := fun h => by
    rw [ho]
    unfold spanW
    rw [if_neg (by rw [← her]; exact h), ← her]
  have HD : Hid (er = 0 → e < s.length → ∀ (u : ByteArray) w', .string u = strV (spanE (s.drop i)) → Below w.heap.size w w' → OneAs w i (oneC c l) (.returned (.tuple #[.agg #[.int .i64 3, .string u, .int .i64 nn, .int .i64 (i : Int)], .int .i64 (e1 : Int), .int .i64 0])) w') := fun h1 h2 u w' eu b => by
    have hsl := spanE_len (s.drop i)
    rw [List.length_drop] at hsl
    have e3 : oneC c l = ⟨3, spanE (s.drop i), nn, e + 1 - i, 0⟩ := by
      rw [ho]
      unfold spanW
      rw [if_pos (by rw [← her]; exact h1), ← hnn, hsl, show min (takeN digC (s.drop i) + 1) (s.length - i) = e + 1 - i by omega]
    rw [e3, eu]
    refine ⟨?_, b⟩
    unfold oneV
    rw [show i + (Wd.mk 3 (spanE (s.drop i)) nn (e + 1 - i) 0).size = e1 by show i + (e + 1 - i) = e1; omega]
    rfl
  have HMID : Hid (e < s.length → ∀ z : ByteArray, z = ⟨s.toArray⟩ → ∀ W : World, (Instr.slice 9 (.string z) (some (.int .i64 (i : Int))) (some (.int .i64 (e1 : Int))) none).run Tryd.prog W = .ok (strV (spanE (s.drop i))) W) := fun hlt z ez => by
    subst ez
    have := txt_mid s .i64 .i64 i e1 (by omega) (by omega)
    rw [show e1 - i = takeN digC (s.drop i) + 1 by omega] at this
    exact this
  have HAT0 : Hid (∀ z : ByteArray, z = ⟨s.toArray⟩ → ∀ (k : Nat) (x : UInt8), s[k]? = some x → ∀ W : World, (Instr.index 9 (.string z) (.int .i64 (k : Int))).run Tryd.prog W = .ok (.int .u8 (x.toNat : Int)) W) := fun z e => by subst e; exact txt_at s
  have hl0 := low_any c.toNat
  rw [hnl] at hl0
  have hd0 := digit_any c.toNat
  rw [h4] at hd0
  have hlo := low_any
  have hdi := digit_any
  obtain ⟨cc, hcc⟩ : ∃ k, k = c.toNat := ⟨_, rfl⟩
  rw [← hcc] at hix hl0 hd0 hcr
  have E40 : ((cc : Int) == 40) = false := by simp; omega
  have E41 : ((cc : Int) == 41) = false := by simp; omega
  have E59 : ((cc : Int) == 59) = false := by simp; omega
  have E34 : ((cc : Int) == 34) = false := by simp; omega
  have HE := Lib.hid he
  have hie : i ≤ e := by omega
  have hes : e ≤ s.length := by omega
  have hwe : IntKind.i64.wrap ((e : Int) + 1) = (e1 : Int) := by rw [IntKind.wrap_i64]; omega
  obtain ⟨tx, htx⟩ : ∃ tx : ByteArray, .string tx = strV (spanE (s.drop i)) := ⟨_, rfl⟩
  rw [← htx] at HMID hpa
  replace HD : Hid (er = 0 → e < s.length → ∀ w', Below w.heap.size w w' → OneAs w i (oneC c l) (.returned (.tuple #[.agg #[.int .i64 3, .string tx, .int .i64 nn, .int .i64 (i : Int)], .int .i64 (e1 : Int), .int .i64 0])) w') := fun h1 h2 w' => HD.out h1 h2 tx w' htx
  obtain ⟨R, hR⟩ : ∃ R, R = OneAs w i (oneC c l) := ⟨_, rfl⟩
  rw [← hR] at HD HB ⊢
  unfold strV at *
  obtain ⟨z, hz⟩ : ∃ z : ByteArray, z = ⟨s.toArray⟩ := ⟨_, rfl⟩
  rw [← hz] at hs hix ⊢
  replace HMID : Hid (e < s.length → ∀ W : World, (Instr.slice 9 (.string z) (some (.int .i64 (i : Int))) (some (.int .i64 (e1 : Int))) none).run Tryd.prog W = .ok (.string tx) W) := fun h => HMID.out h z hz
  have HAT := Lib.hid (HAT0.out z hz)
  clear hl hd hd2 hlen ho htk hcc h4 hz htx HAT0 he hnn her hR hml hi hcr hnl hne he1
  go_enter Tryd.func20, Tryd.ntmps20
  go_wp2_with (first
    | (go_at_call 38; refine (hl0 _).mono ?_; rintro e w2 ⟨rfl, rfl⟩)
    | (go_at_call 39; refine (hd0 _).mono ?_; rintro e w2 ⟨rfl, rfl⟩))
  go_loop [8] (fun kv => ∃ k : Nat, i ≤ k ∧ k ≤ e ∧ kv = .int .i64 (k : Int)) (fun kv => s.length - (intOf kv).toNat)
  case atStart => exact ⟨i, Nat.le_refl _, hie, rfl⟩
  case round =>
    obtain ⟨k, hik, hle, rfl⟩ := hrel
    clear hl0 hd0
    by_cases hlt : k < s.length
    · have hltI : (k : Int) < (s.length : Int) := by omega
      have hle0 := hle
      rw [HE.out] at hle
      obtain ⟨x, hx⟩ : ∃ x, s[k]? = some x := ⟨_, List.getElem?_eq_getElem hlt⟩
      have hix2 := HAT.out k x hx
      have HSTEP := Lib.hid (fun hp => tk_step (p := digC) hx hik hle hp)
      have HSTOP := Lib.hid (fun hp => tk_stop (p := digC) hx hik hle hp)
      obtain ⟨xx, hxx⟩ : ∃ k, k = x.toNat := ⟨_, rfl⟩
      rw [← hxx] at hix2 HSTEP HSTOP
      have hwk : IntKind.i64.wrap ((k : Int) + 1) = ((k + 1 : Nat) : Int) := by have := HML.out; rw [IntKind.wrap_i64]; omega
      have HX : Hid (∀ y, s[k]? = some y → y.toNat = xx) := fun y hy => by rw [hx] at hy; rw [← Option.some.inj hy, hxx]
      clear hx hxx
      have hlx := hlo xx
      have hdx := hdi xx
      clear hlo hdi hle
      cases q2 : digC xx with
      | true =>
        rw [q2] at hdx
        have HT := Lib.hid (HSTEP.out q2)
        clear HSTEP HSTOP HD HAT HMID HNO HB HER HX hlx
        go_wp2_with (go_at_call 39; refine (hdx _).mono ?_; rintro e w2 ⟨rfl, rfl⟩)
        go_round
        case rel => exact ⟨k + 1, by omega, by rw [HE.out]; exact HT.out, by first | rfl | (rw [hwk])⟩
        case measure => simp [intOf]; omega
      | false =>
        rw [q2] at hdx
        have hk := HSTOP.out q2
        rw [← HE.out] at hk
        subst hk
        clear HSTEP HSTOP HAT hle0 hwk
        cases q1 : lowC xx with
        | false =>
          rw [q1] at hlx
          have HF := Lib.hid (HB.out 2 · (HNO.out fun y hy => by rw [HX.out y hy]; exact q1) (by decide))
          clear HD HNO HB HER HX HMID
          have K1 := KB.new w 43 #[.int .i64 0, .string ⟨#[]⟩, .int .i64 0, .int .i64 0]
          have B1 := (Below.refl w.heap.size w).alloc (Nat.le_refl _) (.cells #[.int .i64 0, .string ⟨#[]⟩, .int .i64 0, .int .i64 0] 43)
          have HK1 := Lib.hid K1
          have HB1 := Lib.hid B1
          clear K1 B1
          go_wp2_with (first
            | (go_at_call 38; refine (hlx _).mono ?_; rintro e w2 ⟨rfl, rfl⟩)
            | (go_at_call 39; refine (hdx _).mono ?_; rintro e w2 ⟨rfl, rfl⟩)
            | fail)
          have K1 := HK1.out
          have B1 := HB1.out
          (try simp only [Exit.inBlock, Exit.then])
          refine bodyPost_ret (results_cell_tmp2 (P := Tryd.prog) rfl _ _ w.heap.size _ _ (0, 0) _ rfl K1 Tryd.underlying43 rfl (by kernel_rfl)) rfl ?_
          exact HF.out _ B1
        | true =>
          rw [q1] at hlx
          have hmid := HMID.out hlt
          by_cases h0 : er = 0
          · have HF := Lib.hid (HD.out h0 hlt)
            subst h0
            clear HD HNO HB HER HX HMID
            have K1 := KB.new w 43 #[.int .i64 3, .string tx, .int .i64 nn, .int .i64 (i : Int)]
            have B1 := (Below.refl w.heap.size w).alloc (Nat.le_refl _) (.cells #[.int .i64 3, .string tx, .int .i64 nn, .int .i64 (i : Int)] 43)
            have HK1 := Lib.hid K1
            have HB1 := Lib.hid B1
            clear K1 B1
            go_wp2_with (first
              | (go_at_call 38; refine (hlx _).mono ?_; rintro e w2 ⟨rfl, rfl⟩)
              | (go_at_call 39; refine (hdx _).mono ?_; rintro e w2 ⟨rfl, rfl⟩)
              | (go_at_call 41; refine (hpa _).mono ?_; rintro e w3 ⟨rfl, rfl⟩)
              | fail)
            have K1 := HK1.out
            have B1 := HB1.out
            (try simp only [Exit.inBlock, Exit.then])
            refine bodyPost_ret (results_cell_tmp2 (P := Tryd.prog) rfl _ _ w.heap.size _ _ (0, 0) _ rfl K1 Tryd.underlying43 rfl (by kernel_rfl)) rfl ?_
            exact HF.out _ B1
          · have HF := Lib.hid (HB.out er · (HER.out h0) h0)
            have D9 : (er != 0) = true := by simpa using h0
            clear HD HNO HB HER HX HMID
            have K1 := KB.new w 43 #[.int .i64 0, .string ⟨#[]⟩, .int .i64 0, .int .i64 0]
            have B1 := (Below.refl w.heap.size w).alloc (Nat.le_refl _) (.cells #[.int .i64 0, .string ⟨#[]⟩, .int .i64 0, .int .i64 0] 43)
            have HK1 := Lib.hid K1
            have HB1 := Lib.hid B1
            clear K1 B1
            go_wp2_with (first
              | (go_at_call 38; refine (hlx _).mono ?_; rintro e w2 ⟨rfl, rfl⟩)
              | (go_at_call 39; refine (hdx _).mono ?_; rintro e w2 ⟨rfl, rfl⟩)
              | (go_at_call 41; refine (hpa _).mono ?_; rintro e w3 ⟨rfl, rfl⟩)
              | fail)
            have K1 := HK1.out
            have B1 := HB1.out
            (try simp only [Exit.inBlock, Exit.then])
            refine bodyPost_ret (results_cell_tmp2 (P := Tryd.prog) rfl _ _ w.heap.size _ _ (0, 0) _ rfl K1 Tryd.underlying43 rfl (by kernel_rfl)) rfl ?_
            exact HF.out _ B1
    · have hk : e = k := by rw [HE.out] at hle ⊢; exact tk_end (by omega) hik hle
      have hnI : ¬ (k : Int) < (s.length : Int) := by omega
      have HF := Lib.hid (HB.out 2 · (HNO.out fun y hy => by have := (List.getElem?_eq_some_iff.1 hy).1; omega) (by decide))
      clear HAT HMID HD HNO HB HER hpa hlo hdi
      have K1 := KB.new w 43 #[.int .i64 0, .string ⟨#[]⟩, .int .i64 0, .int .i64 0]
      have B1 := (Below.refl w.heap.size w).alloc (Nat.le_refl _) (.cells #[.int .i64 0, .string ⟨#[]⟩, .int .i64 0, .int .i64 0] 43)
      have HK1 := Lib.hid K1
      have HB1 := Lib.hid B1
      clear K1 B1
      go_wp2_with (first
        | fail)
      have K1 := HK1.out
      have B1 := HB1.out
      (try simp only [Exit.inBlock, Exit.then])
      refine bodyPost_ret (results_cell_tmp2 (P := Tryd.prog) rfl _ _ w.heap.size _ _ (0, 0) _ rfl K1 Tryd.underlying43 rfl (by kernel_rfl)) rfl ?_
      exact HF.out _ B1

/-- one. -/
theorem rone_any (s : List UInt8) (hl : s.length ≤ 1000000000) (i : Nat) (c : UInt8) (l : List UInt8) (hd : s.drop i = c :: l) (w : World) :
    Calls Tryd.prog 20 #[strV s, .int .i64 (i : Int)] w (OneAs w i (oneC c l)) := by
  by_cases h40 : c.toNat = 40
  · exact rone_open s hl i c l hd h40 w
  by_cases h41 : c.toNat = 41
  · exact rone_close s hl i c l hd h41 w
  by_cases h59 : c.toNat = 59
  · exact rone_end s hl i c l hd h59 w
  cases h2 : lowC c.toNat with
  | true => exact rone_word s hl i c l hd h2 w
  | false =>
    by_cases h3 : c.toNat = 34
    · exact rone_quote s hl i c l hd h3 w
    cases h4 : digC c.toNat with
    | true => exact rone_days s hl i c l hd h4 w
    | false => exact rone_bad s hl i c l hd (by unfold signW0; simp [h40, h41, h59]) h2 h3 h4 w
end Go.Proofs.YtndmdenhmcmbcaaDoor
