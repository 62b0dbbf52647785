/-
  LxS: The document's one (layer 16), over the loaded program: its contract. No condition but sizes. (Written by wip/gen/lex/mk_s.py.)
-/
import Derived.Test.YthindhlogkhclaaGreatDoorPz45
import Derived.Test.YthindhlogkhclaaGreatDoorPz34
import Derived.Test.YthindhlogkhclaaGreatDoorPz43
import Derived.Test.YthindhlogkhclaaGreatDoorPz37
set_option linter.unusedVariables false
set_option maxRecDepth 100000
namespace Go.Proofs.YthindhlogkhclaaGreatDoor
section
open Go.RowKit
theorem results_cell_tmp2 {P : Program} {fn : Func} {p u v : Tmp} {ty : TypeId} (h : fn.results = #[.cell p ty, .tmp u, .tmp v]) (tmps : Array Value) (w : World) (g : Nat) (t : TypeId) (cs : Array Value) (fr : Nat × Nat) (d : TypeDesc)
    (hp : tmps.getD p undef = .pointer (some ⟨g, 0, none⟩)) (hg : w.heap[g]? = some (.cells cs t fr))
    (hu : P.underlying ty = some d) (hd : (match d with | .struct _ | .array _ _ => true | _ => false) = true) (hi : (P.info? ty).map (·.size) = some cs.size) :
    (results fn tmps).run P w = .ok (.tuple #[.agg cs, tmps.getD u undef, tmps.getD v undef]) w := by
  have hp' : tmps[p]?.getD undef = .pointer (some ⟨g, 0, none⟩) := by simpa using hp
  simp [results, h, hp', asAddr, run_loadVar_row w g t ty cs fr d hg hu hd hi]
section
variable {s : List UInt8} {i k : Nat} {x : UInt8} {p : Nat → Bool}
theorem tk_step (hx : s[k]? = some x) (hik : i ≤ k) (hle : k ≤ i + takeN p (s.drop i)) (hp : p x.toNat = true) : k + 1 ≤ i + takeN p (s.drop i) := by
  have := takeN_step p (s.drop i) (k - i) x (by rw [List.getElem?_drop, show i + (k - i) = k by omega]; exact hx) (by omega) hp
  omega
theorem tk_stop (hx : s[k]? = some x) (hik : i ≤ k) (hle : k ≤ i + takeN p (s.drop i)) (hp : p x.toNat = false) : i + takeN p (s.drop i) = k := by
  have := takeN_stop p (s.drop i) (k - i) x (by rw [List.getElem?_drop, show i + (k - i) = k by omega]; exact hx) (by omega) hp
  omega
theorem tk_end (hk : s.length ≤ k) (hik : i ≤ k) (hle : k ≤ i + takeN p (s.drop i)) : i + takeN p (s.drop i) = k := by
  have := takeN_end p (s.drop i) (k - i) (by omega) (by rw [List.length_drop]; omega)
  omega
end
def signW0 (c : Nat) : Bool := decide (c = 40) || decide (c = 41) || decide (c = 59)
def oneV (i : Nat) (o : Wd) : Value := .tuple #[.agg #[.int .i64 (o.kind : Int), strV o.text, .int .i64 o.n, .int .i64 ((if o.e = 0 then i else 0 : Nat) : Int)], .int .i64 ((i + o.size : Nat) : Int), .int .i64 o.e]
def OneAs (w : World) (i : Nat) (o : Wd) (e : Ending) (w' : World) : Prop := e = .returned (oneV i o) ∧ Below w.heap.size w w'
theorem span_none {r : List UInt8} (h0 : r ≠ []) (h : ∀ x, r[takeN digC r]? = some x → lowC x.toNat = false) : (parseD (spanE r)).2 = 2 := by
  have key : ∀ u, (spanE r).getLast? = some u → unitD u.toNat = 0 := by
    intro u hu
    have hle := takeN_le digC r
    by_cases hlt : takeN digC r < r.length
    · have es : spanE r = r.take (takeN digC r) ++ [r[takeN digC r]] := by
        unfold spanE
        rw [List.take_succ_eq_append_getElem hlt]
      rw [es, List.getLast?_append] at hu
      have hu' : r[takeN digC r] = u := by simpa using hu
      have hl := h _ (List.getElem?_eq_getElem hlt)
      rw [hu'] at hl
      rcases unit_cases u.toNat with e | ⟨e, _⟩ | ⟨e, _⟩ | ⟨e, _⟩ | ⟨e, _⟩
      · exact e
      all_goals (rw [e] at hl; exact absurd hl (by decide))
    · have e : spanE r = r := by unfold spanE; rw [List.take_of_length_le (by omega)]
      rw [e, List.getLast?_eq_getElem?] at hu
      have hl := (List.getElem?_eq_some_iff.1 hu).1
      have hd := takeN_in digC r _ u hu (by omega)
      rcases unit_cases u.toNat with e | ⟨e, _⟩ | ⟨e, _⟩ | ⟨e, _⟩ | ⟨e, _⟩
      · exact e
      all_goals (rw [e] at hd; exact absurd hd (by decide))
  unfold parseD
  cases hl : (spanE r).getLast? with
  | none => rfl
  | some u => simp only; rw [if_pos (key u hl)]
set_option maxHeartbeats 2000000 in
theorem rone_open (s : List UInt8) (hl : s.length ≤ 1000000000) (i : Nat) (c : UInt8) (l : List UInt8) (hd : s.drop i = c :: l) (hc : c.toNat = 40) (w : World) :
    Calls Tryz.prog 40 #[strV s, .int .i64 (i : Int)] w (OneAs w i (oneC c l)) := by
  have hs : ((⟨s.toArray⟩ : ByteArray).size : Int) = (s.length : Int) := rfl
  have hml : s.length ≤ 1000000000 := hl
  have HML := Lib.hid hml
  obtain ⟨hi, hd2, hlen⟩ : i < s.length ∧ s.drop (i + 1) = l ∧ l.length + 1 + i = s.length := by
    have hll := congrArg List.length hd
    rw [List.length_drop, List.length_cons] at hll
    refine ⟨by omega, ?_, by omega⟩
    rw [← List.drop_drop, hd]
    rfl
  have hix := txt_at s i c (by have := congrArg (fun l => l[0]?) hd; rw [List.getElem?_drop] at this; simpa using this)
  have ho : oneC c l = ⟨4, [40], 0, 1, 0⟩ := by
    have e : c = 40 := UInt8.toNat_inj.1 hc
    subst e
    rfl
  rw [ho]
  rw [hc] at hix
  have HD : Hid (∀ w', Below w.heap.size w w' → OneAs w i ⟨4, [40], 0, 1, 0⟩ (.returned (.tuple #[.agg #[.int .i64 4, .string ⟨#[40]⟩, .int .i64 0, .int .i64 (i : Int)], .int .i64 ((i : Int) + 1), .int .i64 0])) w') := fun w' b => ⟨rfl, b⟩
  have hw1 : IntKind.i64.wrap ((i : Int) + 1) = (i : Int) + 1 := by rw [IntKind.wrap_i64]; omega
  have K1 := KB.new w 79 #[.int .i64 4, .string ⟨#[40]⟩, .int .i64 0, .int .i64 (i : Int)]
  have B1 := (Below.refl w.heap.size w).alloc (Nat.le_refl _) (.cells #[.int .i64 4, .string ⟨#[40]⟩, .int .i64 0, .int .i64 (i : Int)] 79)
  have HK1 := Lib.hid K1
  have HB1 := Lib.hid B1
  unfold strV at *
  generalize (⟨s.toArray⟩ : ByteArray) = z at *
  clear hl hd hc hd2 hlen ho K1 B1 hml hi
  go_enter Tryz.func40, Tryz.ntmps40
  go_wp2
  have K1 := HK1.out
  have B1 := HB1.out
  (try simp only [Exit.inBlock, Exit.then])
  refine bodyPost_ret (results_cell_tmp2 (P := Tryz.prog) rfl _ _ w.heap.size _ _ (0, 0) _ rfl K1 Tryz.underlying79 rfl (by kernel_rfl)) rfl ?_
  exact HD.out _ B1
set_option maxHeartbeats 2000000 in
theorem rone_close (s : List UInt8) (hl : s.length ≤ 1000000000) (i : Nat) (c : UInt8) (l : List UInt8) (hd : s.drop i = c :: l) (hc : c.toNat = 41) (w : World) :
    Calls Tryz.prog 40 #[strV s, .int .i64 (i : Int)] w (OneAs w i (oneC c l)) := by
  have hs : ((⟨s.toArray⟩ : ByteArray).size : Int) = (s.length : Int) := rfl
  have hml : s.length ≤ 1000000000 := hl
  have HML := Lib.hid hml
  obtain ⟨hi, hd2, hlen⟩ : i < s.length ∧ s.drop (i + 1) = l ∧ l.length + 1 + i = s.length := by
    have hll := congrArg List.length hd
    rw [List.length_drop, List.length_cons] at hll
    refine ⟨by omega, ?_, by omega⟩
    rw [← List.drop_drop, hd]
    rfl
  have hix := txt_at s i c (by have := congrArg (fun l => l[0]?) hd; rw [List.getElem?_drop] at this; simpa using this)
  have ho : oneC c l = ⟨5, [41], 0, 1, 0⟩ := by
    have e : c = 41 := UInt8.toNat_inj.1 hc
    subst e
    rfl
  rw [ho]
  rw [hc] at hix
  have HD : Hid (∀ w', Below w.heap.size w w' → OneAs w i ⟨5, [41], 0, 1, 0⟩ (.returned (.tuple #[.agg #[.int .i64 5, .string ⟨#[41]⟩, .int .i64 0, .int .i64 (i : Int)], .int .i64 ((i : Int) + 1), .int .i64 0])) w') := fun w' b => ⟨rfl, b⟩
  have hw1 : IntKind.i64.wrap ((i : Int) + 1) = (i : Int) + 1 := by rw [IntKind.wrap_i64]; omega
  have K1 := KB.new w 79 #[.int .i64 5, .string ⟨#[41]⟩, .int .i64 0, .int .i64 (i : Int)]
  have B1 := (Below.refl w.heap.size w).alloc (Nat.le_refl _) (.cells #[.int .i64 5, .string ⟨#[41]⟩, .int .i64 0, .int .i64 (i : Int)] 79)
  have HK1 := Lib.hid K1
  have HB1 := Lib.hid B1
  unfold strV at *
  generalize (⟨s.toArray⟩ : ByteArray) = z at *
  clear hl hd hc hd2 hlen ho K1 B1 hml hi
  go_enter Tryz.func40, Tryz.ntmps40
  go_wp2
  have K1 := HK1.out
  have B1 := HB1.out
  (try simp only [Exit.inBlock, Exit.then])
  refine bodyPost_ret (results_cell_tmp2 (P := Tryz.prog) rfl _ _ w.heap.size _ _ (0, 0) _ rfl K1 Tryz.underlying79 rfl (by kernel_rfl)) rfl ?_
  exact HD.out _ B1
set_option maxHeartbeats 2000000 in
theorem rone_end (s : List UInt8) (hl : s.length ≤ 1000000000) (i : Nat) (c : UInt8) (l : List UInt8) (hd : s.drop i = c :: l) (hc : c.toNat = 59) (w : World) :
    Calls Tryz.prog 40 #[strV s, .int .i64 (i : Int)] w (OneAs w i (oneC c l)) := by
  have hs : ((⟨s.toArray⟩ : ByteArray).size : Int) = (s.length : Int) := rfl
  have hml : s.length ≤ 1000000000 := hl
  have HML := Lib.hid hml
  obtain ⟨hi, hd2, hlen⟩ : i < s.length ∧ s.drop (i + 1) = l ∧ l.length + 1 + i = s.length := by
    have hll := congrArg List.length hd
    rw [List.length_drop, List.length_cons] at hll
    refine ⟨by omega, ?_, by omega⟩
    rw [← List.drop_drop, hd]
    rfl
  have hix := txt_at s i c (by have := congrArg (fun l => l[0]?) hd; rw [List.getElem?_drop] at this; simpa using this)
  have ho : oneC c l = ⟨6, [59], 0, 1, 0⟩ := by
    have e : c = 59 := UInt8.toNat_inj.1 hc
    subst e
    rfl
  rw [ho]
  rw [hc] at hix
  have HD : Hid (∀ w', Below w.heap.size w w' → OneAs w i ⟨6, [59], 0, 1, 0⟩ (.returned (.tuple #[.agg #[.int .i64 6, .string ⟨#[59]⟩, .int .i64 0, .int .i64 (i : Int)], .int .i64 ((i : Int) + 1), .int .i64 0])) w') := fun w' b => ⟨rfl, b⟩
  have hw1 : IntKind.i64.wrap ((i : Int) + 1) = (i : Int) + 1 := by rw [IntKind.wrap_i64]; omega
  have K1 := KB.new w 79 #[.int .i64 6, .string ⟨#[59]⟩, .int .i64 0, .int .i64 (i : Int)]
  have B1 := (Below.refl w.heap.size w).alloc (Nat.le_refl _) (.cells #[.int .i64 6, .string ⟨#[59]⟩, .int .i64 0, .int .i64 (i : Int)] 79)
  have HK1 := Lib.hid K1
  have HB1 := Lib.hid B1
  unfold strV at *
  generalize (⟨s.toArray⟩ : ByteArray) = z at *
  clear hl hd hc hd2 hlen ho K1 B1 hml hi
  go_enter Tryz.func40, Tryz.ntmps40
  go_wp2
  have K1 := HK1.out
  have B1 := HB1.out
  (try simp only [Exit.inBlock, Exit.then])
  refine bodyPost_ret (results_cell_tmp2 (P := Tryz.prog) rfl _ _ w.heap.size _ _ (0, 0) _ rfl K1 Tryz.underlying79 rfl (by kernel_rfl)) rfl ?_
  exact HD.out _ B1
set_option maxHeartbeats 2000000 in
theorem rone_bad (s : List UInt8) (hl : s.length ≤ 1000000000) (i : Nat) (c : UInt8) (l : List UInt8) (hd : s.drop i = c :: l) (h1 : signW0 c.toNat = false) (h2 : lowC c.toNat = false) (h3 : c.toNat ≠ 34) (h4 : digC c.toNat = false) (w : World) :
    Calls Tryz.prog 40 #[strV s, .int .i64 (i : Int)] w (OneAs w i (oneC c l)) := by
  have hs : ((⟨s.toArray⟩ : ByteArray).size : Int) = (s.length : Int) := rfl
  have hml : s.length ≤ 1000000000 := hl
  have HML := Lib.hid hml
  obtain ⟨hi, hd2, hlen⟩ : i < s.length ∧ s.drop (i + 1) = l ∧ l.length + 1 + i = s.length := by
    have hll := congrArg List.length hd
    rw [List.length_drop, List.length_cons] at hll
    refine ⟨by omega, ?_, by omega⟩
    rw [← List.drop_drop, hd]
    rfl
  have hix := txt_at s i c (by have := congrArg (fun l => l[0]?) hd; rw [List.getElem?_drop] at this; simpa using this)
  obtain ⟨n40, n41, n59⟩ : c.toNat ≠ 40 ∧ c.toNat ≠ 41 ∧ c.toNat ≠ 59 := by simpa [signW0, and_assoc] using h1
  have ho : oneC c l = badW 2 := by
    unfold oneC
    rw [if_neg n40, if_neg n41, if_neg n59, h2, if_neg (by decide), if_neg h3, h4, if_neg (by decide)]
  rw [ho]
  have HD : Hid (∀ w', Below w.heap.size w w' → OneAs w i (badW 2) (.returned (.tuple #[.agg #[.int .i64 0, .string ⟨#[]⟩, .int .i64 0, .int .i64 0], .int .i64 (i : Int), .int .i64 2])) w') := fun w' b => ⟨rfl, b⟩
  have hlo := low_any c.toNat
  have hdi := digit_any c.toNat
  rw [h2] at hlo
  rw [h4] at hdi
  obtain ⟨cc, hcc⟩ : ∃ k, k = c.toNat := ⟨_, rfl⟩
  rw [← hcc] at hix hlo hdi n40 n41 n59 h3
  have E40 : ((cc : Int) == 40) = false := by simp; omega
  have E41 : ((cc : Int) == 41) = false := by simp; omega
  have E59 : ((cc : Int) == 59) = false := by simp; omega
  have E34 : ((cc : Int) == 34) = false := by simp; omega
  have K1 := KB.new w 79 #[.int .i64 0, .string ⟨#[]⟩, .int .i64 0, .int .i64 0]
  have B1 := (Below.refl w.heap.size w).alloc (Nat.le_refl _) (.cells #[.int .i64 0, .string ⟨#[]⟩, .int .i64 0, .int .i64 0] 79)
  have HK1 := Lib.hid K1
  have HB1 := Lib.hid B1
  unfold strV at *
  generalize (⟨s.toArray⟩ : ByteArray) = z at *
  clear hl hd hd2 hlen ho K1 B1 hml hi hcc h1 h2 h3 h4 n40 n41 n59
  go_enter Tryz.func40, Tryz.ntmps40
  go_wp2_with (first
    | (go_at_call 73; refine (hlo _).mono ?_; rintro e w2 ⟨rfl, rfl⟩)
    | (go_at_call 74; refine (hdi _).mono ?_; rintro e w2 ⟨rfl, rfl⟩))
  have K1 := HK1.out
  have B1 := HB1.out
  (try simp only [Exit.inBlock, Exit.then])
  refine bodyPost_ret (results_cell_tmp2 (P := Tryz.prog) rfl _ _ w.heap.size _ _ (0, 0) _ rfl K1 Tryz.underlying79 rfl (by kernel_rfl)) rfl ?_
  exact HD.out _ B1
end
end Go.Proofs.YthindhlogkhclaaGreatDoor
