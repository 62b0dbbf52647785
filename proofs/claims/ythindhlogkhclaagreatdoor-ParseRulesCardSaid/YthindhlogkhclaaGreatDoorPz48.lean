/-
  LxW: The document's one (layer 16), where days begin; and as a whole, over the loaded program: its contract. No condition but sizes. (Written by wip/gen/lex/mk_s.py.)
  LxU: The document's All (layer 16), over the loaded program: its contract. No condition but a size.
-/
import Derived.Test.YthindhlogkhclaaGreatDoorPz47
import Derived.Test.YthindhlogkhclaaGreatDoorPz07
set_option linter.unusedVariables false
set_option maxRecDepth 100000
namespace Go.Proofs.YthindhlogkhclaaGreatDoor
section
open Go.RowKit
set_option maxHeartbeats 8000000 in
theorem rone_days (s : List UInt8) (hl : s.length ≤ 1000000000) (i : Nat) (c : UInt8) (l : List UInt8) (hd : s.drop i = c :: l) (h4 : digC c.toNat = true) (w : World) :
    Calls Tryz.prog 40 #[strV s, .int .i64 (i : Int)] w (OneAs w i (oneC c l)) := by
  have hs : ((⟨s.toArray⟩ : ByteArray).size : Int) = (s.length : Int) := rfl
  have hml : s.length ≤ 1000000000 := hl
  have HML := Lib.hid hml
  obtain ⟨hi, hd2, hlen⟩ : i < s.length ∧ s.drop (i + 1) = l ∧ l.length + 1 + i = s.length := by
    have hll := congrArg List.length hd
    rw [List.length_drop, List.length_cons] at hll
    refine ⟨by omega, ?_, by omega⟩
    rw [← List.drop_drop, hd]
    rfl
  have hix := txt_at s i c (by have := congrArg (fun l => l[0]?) hd; rw [List.getElem?_drop] at this; simpa using this)
  have hcr : 48 ≤ c.toNat ∧ c.toNat ≤ 57 := by simpa [digC] using h4
  have hnl : lowC c.toNat = false := decide_eq_false (by omega)
  have ho : oneC c l = spanW (s.drop i) := by
    unfold oneC
    rw [if_neg (by omega), if_neg (by omega), if_neg (by omega), hnl, if_neg (by decide), if_neg (by omega), if_pos h4, hd]
  have HB : Hid (∀ er w', oneC c l = badW er → er ≠ 0 → Below w.heap.size w w' → OneAs w i (oneC c l) (.returned (.tuple #[.agg #[.int .i64 0, .string ⟨#[]⟩, .int .i64 0, .int .i64 0], .int .i64 (i : Int), .int .i64 er])) w') := fun er w' e h b => by
    rw [e]
    refine ⟨?_, b⟩
    unfold oneV badW
    rw [if_neg h]
    rfl
  have hne : s.drop i ≠ [] := by rw [hd]; simp
  have htk := takeN_le digC (s.drop i)
  rw [List.length_drop] at htk
  obtain ⟨e, he⟩ : ∃ e, e = i + takeN digC (s.drop i) := ⟨_, rfl⟩
  obtain ⟨e1, he1⟩ : ∃ j, j = e + 1 := ⟨_, rfl⟩
  have hpa := rparse15_any (spanE (s.drop i)) (by rw [spanE_len, List.length_drop]; unfold maxLen; omega)
  have HNO : Hid ((∀ x, s[e]? = some x → lowC x.toNat = false) → oneC c l = badW 2) := fun h => by
    have h2 : (parseD (spanE (s.drop i))).2 = 2 := span_none hne fun x hx => h x (by rw [he]; rw [List.getElem?_drop] at hx; exact hx)
    rw [ho]
    unfold spanW
    rw [if_neg (by rw [h2]; decide), h2]
  obtain ⟨nn, hnn⟩ : ∃ n, n = (parseD (spanE (s.drop i))).1 := ⟨_, rfl⟩
  obtain ⟨er, her⟩ : ∃ n, n = (parseD (spanE (s.drop i))).2 := ⟨_, rfl⟩
  unfold pairV at hpa
  rw [← hnn, ← her] at hpa
  have HER : Hid (er ≠ 0 → oneC c l = badW er) := fun h => by
    rw [ho]
    unfold spanW
    rw [if_neg (by rw [← her]; exact h), ← her]
  have HD : Hid (er = 0 → e < s.length → ∀ (u : ByteArray) w', .string u = strV (spanE (s.drop i)) → Below w.heap.size w w' → OneAs w i (oneC c l) (.returned (.tuple #[.agg #[.int .i64 3, .string u, .int .i64 nn, .int .i64 (i : Int)], .int .i64 (e1 : Int), .int .i64 0])) w') := fun h1 h2 u w' eu b => by
    have hsl := spanE_len (s.drop i)
    rw [List.length_drop] at hsl
    have e3 : oneC c l = ⟨3, spanE (s.drop i), nn, e + 1 - i, 0⟩ := by
      rw [ho]
      unfold spanW
      rw [if_pos (by rw [← her]; exact h1), ← hnn, hsl, show min (takeN digC (s.drop i) + 1) (s.length - i) = e + 1 - i by omega]
    rw [e3, eu]
    refine ⟨?_, b⟩
    unfold oneV
    rw [show i + (Wd.mk 3 (spanE (s.drop i)) nn (e + 1 - i) 0).size = e1 by show i + (e + 1 - i) = e1; omega]
    rfl
  have HMID : Hid (e < s.length → ∀ z : ByteArray, z = ⟨s.toArray⟩ → ∀ W : World, (Instr.slice 9 (.string z) (some (.int .i64 (i : Int))) (some (.int .i64 (e1 : Int))) none).run Tryz.prog W = .ok (strV (spanE (s.drop i))) W) := fun hlt z ez => by
    subst ez
    have := txt_mid s .i64 .i64 i e1 (by omega) (by omega)
    rw [show e1 - i = takeN digC (s.drop i) + 1 by omega] at this
    exact this
  have HAT0 : Hid (∀ z : ByteArray, z = ⟨s.toArray⟩ → ∀ (k : Nat) (x : UInt8), s[k]? = some x → ∀ W : World, (Instr.index 9 (.string z) (.int .i64 (k : Int))).run Tryz.prog W = .ok (.int .u8 (x.toNat : Int)) W) := fun z e => by subst e; exact txt_at s
  have hl0 := low_any c.toNat
  rw [hnl] at hl0
  have hd0 := digit_any c.toNat
  rw [h4] at hd0
  have hlo := low_any
  have hdi := digit_any
  obtain ⟨cc, hcc⟩ : ∃ k, k = c.toNat := ⟨_, rfl⟩
  rw [← hcc] at hix hl0 hd0 hcr
  have E40 : ((cc : Int) == 40) = false := by simp; omega
  have E41 : ((cc : Int) == 41) = false := by simp; omega
  have E59 : ((cc : Int) == 59) = false := by simp; omega
  have E34 : ((cc : Int) == 34) = false := by simp; omega
  have HE := Lib.hid he
  have hie : i ≤ e := by omega
  have hes : e ≤ s.length := by omega
  have hwe : IntKind.i64.wrap ((e : Int) + 1) = (e1 : Int) := by rw [IntKind.wrap_i64]; omega
  obtain ⟨tx, htx⟩ : ∃ tx : ByteArray, .string tx = strV (spanE (s.drop i)) := ⟨_, rfl⟩
  rw [← htx] at HMID hpa
  replace HD : Hid (er = 0 → e < s.length → ∀ w', Below w.heap.size w w' → OneAs w i (oneC c l) (.returned (.tuple #[.agg #[.int .i64 3, .string tx, .int .i64 nn, .int .i64 (i : Int)], .int .i64 (e1 : Int), .int .i64 0])) w') := fun h1 h2 w' => HD.out h1 h2 tx w' htx
  obtain ⟨R, hR⟩ : ∃ R, R = OneAs w i (oneC c l) := ⟨_, rfl⟩
  rw [← hR] at HD HB ⊢
  unfold strV at *
  obtain ⟨z, hz⟩ : ∃ z : ByteArray, z = ⟨s.toArray⟩ := ⟨_, rfl⟩
  rw [← hz] at hs hix ⊢
  replace HMID : Hid (e < s.length → ∀ W : World, (Instr.slice 9 (.string z) (some (.int .i64 (i : Int))) (some (.int .i64 (e1 : Int))) none).run Tryz.prog W = .ok (.string tx) W) := fun h => HMID.out h z hz
  have HAT := Lib.hid (HAT0.out z hz)
  clear hl hd hd2 hlen ho htk hcc h4 hz htx HAT0 he hnn her hR hml hi hcr hnl hne he1
  go_enter Tryz.func40, Tryz.ntmps40
  go_wp2_with (first
    | (go_at_call 73; refine (hl0 _).mono ?_; rintro e w2 ⟨rfl, rfl⟩)
    | (go_at_call 74; refine (hd0 _).mono ?_; rintro e w2 ⟨rfl, rfl⟩))
  go_loop [8] (fun kv => ∃ k : Nat, i ≤ k ∧ k ≤ e ∧ kv = .int .i64 (k : Int)) (fun kv => s.length - (intOf kv).toNat)
  case atStart => exact ⟨i, Nat.le_refl _, hie, rfl⟩
  case round =>
    obtain ⟨k, hik, hle, rfl⟩ := hrel
    clear hl0 hd0
    by_cases hlt : k < s.length
    · have hltI : (k : Int) < (s.length : Int) := by omega
      have hle0 := hle
      rw [HE.out] at hle
      obtain ⟨x, hx⟩ : ∃ x, s[k]? = some x := ⟨_, List.getElem?_eq_getElem hlt⟩
      have hix2 := HAT.out k x hx
      have HSTEP := Lib.hid (fun hp => tk_step (p := digC) hx hik hle hp)
      have HSTOP := Lib.hid (fun hp => tk_stop (p := digC) hx hik hle hp)
      obtain ⟨xx, hxx⟩ : ∃ k, k = x.toNat := ⟨_, rfl⟩
      rw [← hxx] at hix2 HSTEP HSTOP
      have hwk : IntKind.i64.wrap ((k : Int) + 1) = ((k + 1 : Nat) : Int) := by have := HML.out; rw [IntKind.wrap_i64]; omega
      have HX : Hid (∀ y, s[k]? = some y → y.toNat = xx) := fun y hy => by rw [hx] at hy; rw [← Option.some.inj hy, hxx]
      clear hx hxx
      have hlx := hlo xx
      have hdx := hdi xx
      clear hlo hdi hle
      cases q2 : digC xx with
      | true =>
        rw [q2] at hdx
        have HT := Lib.hid (HSTEP.out q2)
        clear HSTEP HSTOP HD HAT HMID HNO HB HER HX hlx
        go_wp2_with (go_at_call 74; refine (hdx _).mono ?_; rintro e w2 ⟨rfl, rfl⟩)
        go_round
        case rel => exact ⟨k + 1, by omega, by rw [HE.out]; exact HT.out, by first | rfl | (rw [hwk])⟩
        case measure => simp [intOf]; omega
      | false =>
        rw [q2] at hdx
        have hk := HSTOP.out q2
        rw [← HE.out] at hk
        subst hk
        clear HSTEP HSTOP HAT hle0 hwk
        cases q1 : lowC xx with
        | false =>
          rw [q1] at hlx
          have HF := Lib.hid (HB.out 2 · (HNO.out fun y hy => by rw [HX.out y hy]; exact q1) (by decide))
          clear HD HNO HB HER HX HMID
          have K1 := KB.new w 79 #[.int .i64 0, .string ⟨#[]⟩, .int .i64 0, .int .i64 0]
          have B1 := (Below.refl w.heap.size w).alloc (Nat.le_refl _) (.cells #[.int .i64 0, .string ⟨#[]⟩, .int .i64 0, .int .i64 0] 79)
          have HK1 := Lib.hid K1
          have HB1 := Lib.hid B1
          clear K1 B1
          go_wp2_with (first
            | (go_at_call 73; refine (hlx _).mono ?_; rintro e w2 ⟨rfl, rfl⟩)
            | (go_at_call 74; refine (hdx _).mono ?_; rintro e w2 ⟨rfl, rfl⟩)
            | fail)
          have K1 := HK1.out
          have B1 := HB1.out
          (try simp only [Exit.inBlock, Exit.then])
          refine bodyPost_ret (results_cell_tmp2 (P := Tryz.prog) rfl _ _ w.heap.size _ _ (0, 0) _ rfl K1 Tryz.underlying79 rfl (by kernel_rfl)) rfl ?_
          exact HF.out _ B1
        | true =>
          rw [q1] at hlx
          have hmid := HMID.out hlt
          by_cases h0 : er = 0
          · have HF := Lib.hid (HD.out h0 hlt)
            subst h0
            clear HD HNO HB HER HX HMID
            have K1 := KB.new w 79 #[.int .i64 3, .string tx, .int .i64 nn, .int .i64 (i : Int)]
            have B1 := (Below.refl w.heap.size w).alloc (Nat.le_refl _) (.cells #[.int .i64 3, .string tx, .int .i64 nn, .int .i64 (i : Int)] 79)
            have HK1 := Lib.hid K1
            have HB1 := Lib.hid B1
            clear K1 B1
            go_wp2_with (first
              | (go_at_call 73; refine (hlx _).mono ?_; rintro e w2 ⟨rfl, rfl⟩)
              | (go_at_call 74; refine (hdx _).mono ?_; rintro e w2 ⟨rfl, rfl⟩)
              | (go_at_call 75; refine (hpa _).mono ?_; rintro e w3 ⟨rfl, rfl⟩)
              | fail)
            have K1 := HK1.out
            have B1 := HB1.out
            (try simp only [Exit.inBlock, Exit.then])
            refine bodyPost_ret (results_cell_tmp2 (P := Tryz.prog) rfl _ _ w.heap.size _ _ (0, 0) _ rfl K1 Tryz.underlying79 rfl (by kernel_rfl)) rfl ?_
            exact HF.out _ B1
          · have HF := Lib.hid (HB.out er · (HER.out h0) h0)
            have D9 : (er != 0) = true := by simpa using h0
            clear HD HNO HB HER HX HMID
            have K1 := KB.new w 79 #[.int .i64 0, .string ⟨#[]⟩, .int .i64 0, .int .i64 0]
            have B1 := (Below.refl w.heap.size w).alloc (Nat.le_refl _) (.cells #[.int .i64 0, .string ⟨#[]⟩, .int .i64 0, .int .i64 0] 79)
            have HK1 := Lib.hid K1
            have HB1 := Lib.hid B1
            clear K1 B1
            go_wp2_with (first
              | (go_at_call 73; refine (hlx _).mono ?_; rintro e w2 ⟨rfl, rfl⟩)
              | (go_at_call 74; refine (hdx _).mono ?_; rintro e w2 ⟨rfl, rfl⟩)
              | (go_at_call 75; refine (hpa _).mono ?_; rintro e w3 ⟨rfl, rfl⟩)
              | fail)
            have K1 := HK1.out
            have B1 := HB1.out
            (try simp only [Exit.inBlock, Exit.then])
            refine bodyPost_ret (results_cell_tmp2 (P := Tryz.prog) rfl _ _ w.heap.size _ _ (0, 0) _ rfl K1 Tryz.underlying79 rfl (by kernel_rfl)) rfl ?_
            exact HF.out _ B1
    · have hk : e = k := by rw [HE.out] at hle ⊢; exact tk_end (by omega) hik hle
      have hnI : ¬ (k : Int) < (s.length : Int) := by omega
      have HF := Lib.hid (HB.out 2 · (HNO.out fun y hy => by have := (List.getElem?_eq_some_iff.1 hy).1; omega) (by decide))
      clear HAT HMID HD HNO HB HER hpa hlo hdi
      have K1 := KB.new w 79 #[.int .i64 0, .string ⟨#[]⟩, .int .i64 0, .int .i64 0]
      have B1 := (Below.refl w.heap.size w).alloc (Nat.le_refl _) (.cells #[.int .i64 0, .string ⟨#[]⟩, .int .i64 0, .int .i64 0] 79)
      have HK1 := Lib.hid K1
      have HB1 := Lib.hid B1
      clear K1 B1
      go_wp2_with (first
        | fail)
      have K1 := HK1.out
      have B1 := HB1.out
      (try simp only [Exit.inBlock, Exit.then])
      refine bodyPost_ret (results_cell_tmp2 (P := Tryz.prog) rfl _ _ w.heap.size _ _ (0, 0) _ rfl K1 Tryz.underlying79 rfl (by kernel_rfl)) rfl ?_
      exact HF.out _ B1
theorem rone_any (s : List UInt8) (hl : s.length ≤ 1000000000) (i : Nat) (c : UInt8) (l : List UInt8) (hd : s.drop i = c :: l) (w : World) :
    Calls Tryz.prog 40 #[strV s, .int .i64 (i : Int)] w (OneAs w i (oneC c l)) := by
  by_cases h40 : c.toNat = 40
  · exact rone_open s hl i c l hd h40 w
  by_cases h41 : c.toNat = 41
  · exact rone_close s hl i c l hd h41 w
  by_cases h59 : c.toNat = 59
  · exact rone_end s hl i c l hd h59 w
  cases h2 : lowC c.toNat with
  | true => exact rone_word s hl i c l hd h2 w
  | false =>
    by_cases h3 : c.toNat = 34
    · exact rone_quote s hl i c l hd h3 w
    cases h4 : digC c.toNat with
    | true => exact rone_days s hl i c l hd h4 w
    | false => exact rone_bad s hl i c l hd (by unfold signW0; simp [h40, h41, h59]) h2 h3 h4 w
end
section
open Go.RowKit
theorem skip_done (l : List UInt8) : skipN false (l.drop (skipN false l)) = 0 := by
  by_cases h : l.drop (skipN false l) = []
  · rw [h]; rfl
  · obtain ⟨c, m, e, h1, h2⟩ := skip_at l h
    rw [e]
    exact skip_none c m h1 h2
theorem skip_zero {c : UInt8} {l : List UInt8} (h : skipN false (c :: l) = 0) : c.toNat ≠ 35 ∧ blankC c.toNat = false := by
  rw [skipN] at h
  by_cases h1 : c.toNat = 35
  · rw [if_pos h1] at h; exact absurd h (by omega)
  · rw [if_neg h1] at h
    refine ⟨h1, ?_⟩
    cases h2 : blankC c.toNat with
    | false => rfl
    | true => rw [h2, if_pos rfl] at h; exact absurd h (by omega)
theorem lead_skip {s : List UInt8} {acc : List Tk} {i : Nat} (h : Lead s acc i) : Lead s acc (i + skipN false (s.drop i)) ∧ skipN false (s.drop (i + skipN false (s.drop i))) = 0 := by
  have hs := skip_le false (s.drop i)
  have hi := h.1
  rw [List.length_drop] at hs
  have hz : skipN false (s.drop (i + skipN false (s.drop i))) = 0 := by
    have := skip_done (s.drop i)
    rw [List.drop_drop] at this
    exact this
  exact ⟨lead_move h (by omega) (by rw [hz]; omega), hz⟩
def RAllAs (s : List UInt8) (w0 : World) (e : Ending) (w : World) : Prop :=
  ∃ v, e = .returned (.tuple #[v, .int .i64 ((allS s).2.1 : Int), .int .i64 (allS s).2.2]) ∧ TS w (fun b => w0.heap.size ≤ b) v (allS s).1 ∧ Below w0.heap.size w0 w
set_option maxHeartbeats 8000000 in
theorem rall_any (s : List UInt8) (hs : s.length ≤ maxLen) (w : World) : Calls Tryz.prog 18 #[strV s] w (RAllAs s w) := by
  have hzs : ((⟨s.toArray⟩ : ByteArray).size : Int) = (s.length : Int) := rfl
  by_cases h6 : 600 < s.length
  · have hall := all_long h6
    have HD : Hid (RAllAs s w (.returned (.tuple #[.slice none 0 0, .int .i64 0, .int .i64 3])) w) := by
      refine ⟨.slice none 0 0, ?_, ?_, Below.refl _ _⟩
      · rw [hall]; rfl
      · rw [hall]; exact TS.nil _ _
    unfold strV
    generalize (⟨s.toArray⟩ : ByteArray) = z at *
    clear hs hall
    go_enter Tryz.func18, Tryz.ntmps18
    go_wp2
    go_ret3
    exact HD.out
  have h6' : s.length ≤ 600 := by omega
  have hsk := fun i hi => skip_any s hs i hi
  have h0 := (lead_skip (lead_zero s))
  rw [List.drop_zero, Nat.zero_add] at h0
  have hs0 := hsk 0 (Nat.zero_le _)
  rw [List.drop_zero, Nat.zero_add] at hs0
  have HON := Lib.hid (fun i c l hd => rone_any s (by omega) i c l hd)
  have HSK := Lib.hid hsk
  have H0 := Lib.hid h0
  obtain ⟨i0, hi0⟩ : ∃ i, i = skipN false s := ⟨_, rfl⟩
  rw [← hi0] at H0 hs0
  have HZ : Hid (∀ (acc : List Tk) (i : Nat) v w1, Lead s acc i → i = s.length → w1.ownsRow w.heap.size 79 4 v acc.length (flatK acc) → Below w.heap.size w w1 → RAllAs s w (.returned (.tuple #[v, .int .i64 (s.length : Int), .int .i64 0])) w1) := by
    intro acc i v w1 hl hi how b
    subst hi
    have hall := all_done h6' hl
    refine ⟨v, ?_, ?_, b⟩
    · rw [hall]
    · rw [hall]; exact TS_of_own how
  have HBAD : Hid (∀ (acc : List Tk) (i : Nat) (c : UInt8) (l : List UInt8) w1, Lead s acc i → s.drop i = c :: l → c.toNat ≠ 35 → blankC c.toNat = false → (oneC c l).e ≠ 0 → Below w.heap.size w w1 → RAllAs s w (.returned (.tuple #[.slice none 0 0, .int .i64 (i : Int), .int .i64 (oneC c l).e])) w1) := by
    intro acc i c l w1 hl hd h1 h2 he b
    have hall := all_bad h6' hl hd h1 h2 he
    refine ⟨.slice none 0 0, ?_, ?_, b⟩
    · rw [hall]
    · rw [hall]; exact TS.nil _ _
  obtain ⟨R, hR⟩ : ∃ R, R = RAllAs s w := ⟨_, rfl⟩
  rw [← hR] at HZ HBAD ⊢
  unfold strV at *
  obtain ⟨z, hz⟩ : ∃ z : ByteArray, z = ⟨s.toArray⟩ := ⟨_, rfl⟩
  rw [← hz] at hzs hs0 HSK HON ⊢
  have HI0 : Hid (i0 ≤ s.length) := H0.out.1.1
  clear hs hsk h0 hR hz hi0
  go_enter Tryz.func18, Tryz.ntmps18
  go_wp2_with (go_at_call 39; refine (hs0 _).mono ?_; rintro e w2 ⟨rfl, rfl⟩)
  go_loopw [5, 6] (fun v iv wr => ∃ (acc : List Tk) (i : Nat), iv = .int .i64 (i : Int) ∧ i ≤ s.length ∧ Hid (Lead s acc i ∧ skipN false (s.drop i) = 0) ∧ wr.ownsRow w.heap.size 79 4 v acc.length (flatK acc) ∧ Below w.heap.size w wr) (fun _ iv _ => s.length - (intOf iv).toNat)
  case atStart => exact ⟨[], i0, rfl, HI0.out, H0, World.ownsRow_nil _ _ _ _, Below.refl _ _⟩
  case round =>
    obtain ⟨acc, i, rfl, hi, HL, how, bl⟩ := hrel
    clear H0 HI0 hs0
    by_cases hlt : i < s.length
    · have hltI : (i : Int) < (s.length : Int) := by omega
      obtain ⟨c, l, hd⟩ : ∃ c l, s.drop i = c :: l := ⟨_, _, List.drop_eq_getElem_cons hlt⟩
      obtain ⟨n35, nb⟩ := skip_zero (by rw [← hd]; exact HL.out.2)
      have hon := HON.out i c l hd
      by_cases he : (oneC c l).e = 0
      · have hlead := lead_tok HL.out.1 hd n35 nb he
        obtain ⟨j, hj⟩ : ∃ j, j = i + (oneC c l).size := ⟨_, rfl⟩
        have hnext := lead_skip hlead
        rw [← hj] at hlead hnext
        have hjl := hlead.1
        have hsj := HSK.out j hjl
        obtain ⟨j2, hj2⟩ : ∃ k, k = j + skipN false (s.drop j) := ⟨_, rfl⟩
        rw [← hj2] at hnext hsj
        have HN := Lib.hid hnext
        have HJ : Hid (i < j2 ∧ j2 ≤ s.length) := by
          have o1 := one_size (r := c :: l) (by rw [oneW_cons]; exact he)
          rw [oneW_cons] at o1
          exact ⟨by omega, hnext.1.1⟩
        have hcnt := lead_count HL.out.1
        have HLEN : Hid (acc.length ≤ 1000000000) := by show _ ≤ _; omega
        unfold OneAs oneV at hon
        rw [if_pos he, he, ← hj] at hon
        obtain ⟨kd, hkd⟩ : ∃ x, x = (oneC c l).kind := ⟨_, rfl⟩
        obtain ⟨nn, hnn⟩ : ∃ x, x = (oneC c l).n := ⟨_, rfl⟩
        obtain ⟨tl, htl⟩ : ∃ x, x = (oneC c l).text := ⟨_, rfl⟩
        rw [← hkd, ← hnn, ← htl] at hon HN
        obtain ⟨t, ht⟩ : ∃ t : ByteArray, t = ⟨tl.toArray⟩ := ⟨_, rfl⟩
        have HT : Hid (Value.string t = strV tl) := by show _ = _; rw [ht]; rfl
        unfold strV at hon
        rw [← ht] at hon
        clear HZ HBAD HON HSK HL hd n35 nb he hlead hnext hjl hcnt hkd hnn htl ht hj hj2
        go_wp2_with (first
          | (go_at_call 40; refine (hon _).mono ?_; rintro e w2 ⟨rfl, b2⟩;
             have B5 := b2.alloc b2.size (.cells #[.int .i64 (kd : Int), .string t, .int .i64 nn, .int .i64 (i : Int)] 79);
             have B6 := B5.alloc B5.size (.cells #[.int .i64 (kd : Int), .string t, .int .i64 nn, .int .i64 (i : Int)] 79);
             have how6 := own_past B6 how; have BL6 := bl.trans (B6.mono bl.size);
             have hat : ∀ k u, (fourT ⟨kd, tl, nn, i⟩)[k]? = some u → ((w2.alloc (.cells #[.int .i64 (kd : Int), .string t, .int .i64 nn, .int .i64 (i : Int)] 79)).alloc (.cells #[.int .i64 (kd : Int), .string t, .int .i64 nn, .int .i64 (i : Int)] 79)).cell? ((⟨w2.heap.size + 1, 0, none⟩ : Addr).add k) = some u := (by rw [HT.out, ← (show (w2.alloc (.cells #[.int .i64 (kd : Int), strV tl, .int .i64 nn, .int .i64 (i : Int)] 79)).heap.size = w2.heap.size + 1 by simp)]; exact onek_at _ _ ⟨kd, tl, nn, i⟩))
          | (at_builtin; go_loud (refine wpList_growK tok_ref _ rfl _ _ rfl w.heap.size _ acc rfl how6 ⟨_, 0, none⟩ 1 ⟨kd, tl, nn, i⟩ rfl hat HLEN.out BL6.size ?_); intro v7 w7 how7 g7 ho7)
          | (go_at_call 39; refine (hsj _).mono ?_; rintro e w8 ⟨rfl, rfl⟩))
        go_roundw
        case rel => exact ⟨_, j2, rfl, HJ.out.2, HN, how7, BL6.grown g7 BL6.size fun g e => own_ge how6 g e⟩
        case measure => have := HJ.out; simp [intOf]; omega
      · have HF := Lib.hid (fun w1 => HBAD.out acc i c l w1 HL.out.1 hd n35 nb he)
        unfold OneAs oneV at hon
        rw [if_neg he] at hon
        obtain ⟨o, ho⟩ : ∃ o, o = oneC c l := ⟨_, rfl⟩
        rw [← ho] at hon HF he
        have hbad : ((o.e : Int) != 0) = true := by simpa using he
        unfold strV at hon
        obtain ⟨kd, tx, nn, sz, er⟩ := o
        dsimp only at *
        generalize (⟨tx.toArray⟩ : ByteArray) = t at *
        clear HZ HBAD HON HSK HL how hd n35 nb ho
        go_wp2_with (go_at_call 40; refine (hon _).mono ?_; rintro e w2 ⟨rfl, b2⟩)
        go_ret3
        exact HF.out _ (bl.trans (((b2.alloc b2.size _)).mono bl.size))
    · obtain rfl : i = s.length := by omega
      have HF := Lib.hid (HZ.out acc _ _ wr HL.out.1 rfl how bl)
      obtain ⟨A, cp, rfl⟩ := own_slice how
      clear HZ HBAD HON HSK HL how
      go_wp2
      go_ret3
      exact HF.out
end
end Go.Proofs.YthindhlogkhclaaGreatDoor
