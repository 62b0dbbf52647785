/-
  SuE: What the document tells of files, over the loaded program: Size, Find, Used, fresh. No condition but what each theorem names.
  AlS: The document's own Bits (layer 11), over the loaded program: its contract. No condition but sizes that it names.
  InR: Which names and inodes may be: the document's Name and May (layer 12), over the loaded program: each one's contract. No condition but sizes that each contract names.
  SuF: What the document tells of what is to be done: Right, over the loaded program: its contract. No condition but what each theorem names.
  SuH: What the document tells, and what the store does, are the same: plainly. No condition but what each theorem names.
-/
import Derived.Test.YteddmnoeljakpaaGreatDoorSw41
import Derived.Test.YteddmnoeljakpaaGreatDoorSw22
import Derived.Test.YteddmnoeljakpaaGreatDoorSw39
import Derived.Test.YteddmnoeljakpaaGreatDoorSw33
import Derived.Laws.BitsAll
import Derived.Lib.Strings
import Derived.Test.YteddmnoeljakpaaGreatDoorSw21
import Derived.Test.YteddmnoeljakpaaGreatDoorSw12
set_option linter.unusedVariables false
set_option maxRecDepth 100000
namespace Go.Proofs.YteddmnoeljakpaaGreatDoor
section
open Go.RowKit
theorem rsize_any (c : CI) (w : World) : Calls Tryz.prog 14 #[cfgV c] w fun e w' => e = .returned (.int .i64 c.size) ∧ Below w.heap.size w w' := by
  have B0 := (Below.refl w.heap.size w).alloc (Nat.le_refl _) (.cells #[.int .i64 c.log, .int .i64 c.files, .int .i64 c.slots, .int .i64 c.data] 23)
  have K0 := KB.new w 23 #[.int .i64 c.log, .int .i64 c.files, .int .i64 c.slots, .int .i64 c.data]
  have hm := fun W => rmay_any c W
  have HM := Lib.hid hm
  clear hm
  obtain ⟨R, hR⟩ : ∃ R, R = c.size := ⟨_, rfl⟩
  rw [← hR]
  unfold CI.size at hR
  have HR := Lib.hid hR
  clear hR
  by_cases hmay : c.may
  · have hm := HM.out (w.alloc (.cells #[.int .i64 c.log, .int .i64 c.files, .int .i64 c.slots, .int .i64 c.data] 23))
    rw [decide_eq_true hmay] at hm
    have HRE : Hid (R = c.sum) := by show _ = _; rw [HR.out, if_pos hmay]
    obtain ⟨⟨a1, a2⟩, ⟨b1, b2⟩, ⟨c1, c2⟩, d1, d2⟩ := hmay.1
    have e1 : IntKind.i64.wrap (1 + c.log) = 1 + c.log := by rw [IntKind.wrap_i64]; omega
    have e2 : IntKind.i64.wrap (1 + c.log + c.files) = 1 + c.log + c.files := by rw [IntKind.wrap_i64]; omega
    have e3 : IntKind.i64.wrap (1 + c.log + c.files + c.slots) = 1 + c.log + c.files + c.slots := by rw [IntKind.wrap_i64]; omega
    have e4 : IntKind.i64.wrap (1 + c.log + c.files + c.slots + c.data) = 1 + c.log + c.files + c.slots + c.data := by rw [IntKind.wrap_i64]; omega
    unfold cfgV at *
    clear hmay HM
    go_enter Tryz.func14, Tryz.ntmps14
    go_wp2_with fail
    refine hm.mono ?_
    rintro e w1 ⟨rfl, b1⟩
    have K1 := K0.below b1 K0.lt
    have q0 := K1.cell 0
    have q1 := K1.cell 1
    have q2 := K1.cell 2
    have q3 := K1.cell 3
    have B1 := B0.trans (b1.mono B0.size)
    clear hm K0 B0 b1
    go_wp2_with fail
    go_ret
    exact ⟨by rw [HRE.out]; rfl, B1⟩
  · have hm := HM.out (w.alloc (.cells #[.int .i64 c.log, .int .i64 c.files, .int .i64 c.slots, .int .i64 c.data] 23))
    rw [decide_eq_false hmay] at hm
    have HRE : Hid (R = 0) := by show _ = _; rw [HR.out, if_neg hmay]
    unfold cfgV at *
    clear hmay HM
    go_enter Tryz.func14, Tryz.ntmps14
    go_wp2_with fail
    refine hm.mono ?_
    rintro e w1 ⟨rfl, b1⟩
    have B1 := B0.trans (b1.mono B0.size)
    clear hm B0 b1 K0
    go_wp2_with fail
    go_ret
    exact ⟨by rw [HRE.out]; rfl, B1⟩
def findI (l : List Fi) (n : List UInt8) : Int := match l.findIdx? fun f => decide (f.name = n) with | some i => (i : Int) | none => -1
theorem findI_at {l : List Fi} {n : List UInt8} {k : Nat} {f : Fi} (hk : l[k]? = some f) (hf : f.name = n) (hno : ∀ (j : Nat) (g : Fi), j < k → l[j]? = some g → g.name ≠ n) : findI l n = (k : Int) := by
  unfold findI
  have : l.findIdx? (fun f => decide (f.name = n)) = some k := by
    rw [List.findIdx?_eq_some_iff_getElem]
    obtain ⟨h1, h2⟩ := List.getElem?_eq_some_iff.1 hk
    exact ⟨h1, by rw [h2]; simpa using hf, fun j hj => by simpa using hno j _ hj (List.getElem?_eq_getElem (by omega))⟩
  rw [this]
theorem findI_no {l : List Fi} {n : List UInt8} (hno : ∀ (j : Nat) (g : Fi), l[j]? = some g → g.name ≠ n) : findI l n = -1 := by
  unfold findI
  have : l.findIdx? (fun f => decide (f.name = n)) = none := by
    rw [List.findIdx?_eq_none_iff]
    intro f hf
    obtain ⟨j, hj⟩ := List.mem_iff_getElem?.1 hf
    simpa using hno j f hj
  rw [this]
set_option maxHeartbeats 2000000 in
theorem rfind_any (S : Nat → Prop) (v : Value) (l : List Fi) (n : List UInt8) (w : World) (h : FS w S v l) (hl : l.length ≤ 1000000) : Calls Tryz.prog 37 #[v, strV n] w fun e w' => e = .returned (.int .i64 (findI l n)) ∧ w = w' := by
  obtain ⟨A, cp, rfl, hlc, hcm⟩ := h.form
  have hl63 : l.length ≤ 9223372036854775807 := by omega
  obtain ⟨R, hR⟩ : ∃ R, R = findI l n := ⟨_, rfl⟩
  rw [← hR]
  have HR := Lib.hid hR
  clear hR
  have HSE := Lib.hid (fun x => str_eq x n)
  unfold strV at *
  generalize hnn : (⟨n.toArray⟩ : ByteArray) = nn at *
  go_enter Tryz.func37, Tryz.ntmps37
  go_wp2
  go_loopw [5] (fun iv wr => ∃ k : Nat, k ≤ l.length ∧ iv = .int .i64 (k : Int) ∧ Hid (∀ (j : Nat) (g : Fi), j < k → l[j]? = some g → g.name ≠ n) ∧ wr = w) (fun iv _ => l.length - (intOf iv).toNat)
  case atStart => exact ⟨0, by omega, rfl, fun j g hj => absurd hj (Nat.not_lt_zero _), rfl⟩
  case round =>
    obtain ⟨k, hk, rfl, HN, rfl⟩ := hrel
    by_cases hlt : k < l.length
    · have hltI : (k : Int) < (l.length : Int) := by omega
      obtain ⟨b, o, rfl, _, _, hx⟩ := h.at_ (by omega)
      obtain ⟨f, hf⟩ : ∃ f, l[k]? = some f := ⟨_, List.getElem?_eq_getElem hlt⟩
      have j0 := (hx k f hf).1
      have hse := HSE.out f.name
      unfold strV at j0
      have HF := Lib.hid hf
      clear hx hf
      by_cases he : f.name = n
      · rw [decide_eq_true he] at hse
        have HE := Lib.hid he
        clear he
        generalize (⟨f.name.toArray⟩ : ByteArray) = fn at *
        go_wp2
        go_ret
        exact ⟨by rw [HR.out, findI_at HF.out HE.out HN.out]; rfl, rfl⟩
      · rw [decide_eq_false he] at hse
        have HE := Lib.hid he
        clear he
        generalize (⟨f.name.toArray⟩ : ByteArray) = fn at *
        go_wp2
        go_roundw
        case rel =>
          refine ⟨k + 1, by omega, by go_num, fun j g hj hg => ?_, trivial⟩
          by_cases hjk : j = k
          · subst hjk
            rw [HF.out] at hg
            obtain rfl := Option.some.inj hg
            exact HE.out
          · exact HN.out j g (by omega) hg
        case measure => simp [intOf]; omega
    · obtain rfl : k = l.length := by omega
      go_wp2
      go_ret
      exact ⟨by rw [HR.out, findI_no fun j g hg => HN.out j g (List.getElem?_eq_some_iff.1 hg).1 hg]; rfl, rfl⟩
def pagesL (l : List Fi) : Nat := (l.map fun f => pagesN f.b.length).sum
theorem pagesL_succ {l : List Fi} {k : Nat} {f : Fi} (h : l[k]? = some f) : pagesL (l.take (k + 1)) = pagesL (l.take k) + pagesN f.b.length := by
  obtain ⟨hk, e⟩ := List.getElem?_eq_some_iff.1 h
  unfold pagesL
  rw [List.take_succ_eq_append_getElem hk, e, List.map_append, List.sum_append]
  simp
theorem pagesL_le {l : List Fi} (hb : ∀ f ∈ l, f.b.length ≤ 1000000) : pagesL l ≤ l.length * 4000 := by
  unfold pagesL
  induction l with
  | nil => exact Nat.le_refl _
  | cons f r ih =>
    have h1 := ih fun g hg => hb g (by simp [hg])
    have h2 := hb f (by simp)
    rw [List.map_cons, List.sum_cons, List.length_cons]
    unfold pagesN at *
    omega
set_option maxHeartbeats 2000000 in
theorem rused_any (S : Nat → Prop) (v : Value) (l : List Fi) (w : World) (h : FS w S v l) (hl : l.length ≤ 1000000) (hb : ∀ f ∈ l, f.b.length ≤ 1000000) : Calls Tryz.prog 39 #[v] w fun e w' => e = .returned (.int .i64 (pagesL l : Int)) ∧ w = w' := by
  obtain ⟨A, cp, rfl, hlc, hcm⟩ := h.form
  have hl63 : l.length ≤ 9223372036854775807 := by omega
  have HLE : Hid (∀ k, pagesL (l.take k) ≤ 4000000000) := fun k => by
    have := pagesL_le (l := l.take k) fun f hf => hb f (List.mem_of_mem_take hf)
    rw [List.length_take] at this
    omega
  obtain ⟨R, hR⟩ : ∃ R, R = pagesL l := ⟨_, rfl⟩
  rw [← hR]
  have HR := Lib.hid hR
  have HB := Lib.hid hb
  clear hR hb
  go_enter Tryz.func39, Tryz.ntmps39
  go_wp2
  go_loopw [3, 4] (fun nv iv wr => ∃ k : Nat, k ≤ l.length ∧ iv = .int .i64 (k : Int) ∧ nv = .int .i64 (pagesL (l.take k) : Int) ∧ wr = w) (fun _ iv _ => l.length - (intOf iv).toNat)
  case atStart => exact ⟨0, by omega, rfl, rfl, rfl⟩
  case round =>
    obtain ⟨k, hk, rfl, rfl, rfl⟩ := hrel
    by_cases hlt : k < l.length
    · have hltI : (k : Int) < (l.length : Int) := by omega
      obtain ⟨b, o, rfl, _, _, hx⟩ := h.at_ (by omega)
      obtain ⟨f, hf⟩ : ∃ f, l[k]? = some f := ⟨_, List.getElem?_eq_getElem hlt⟩
      obtain ⟨_, _, ⟨X, z, j1, _⟩, _⟩ := hx k f hf
      have hfb := HB.out f (List.mem_of_getElem? hf)
      have hpg := fun W => rpages_any (f.b.length : Int) ⟨by omega, by omega⟩ W
      rw [pages_nat] at hpg
      have HS := Lib.hid (pagesL_succ hf)
      have h1 := HLE.out k
      have hpp : pagesN f.b.length ≤ 4000 := by unfold pagesN; omega
      have ew : IntKind.i64.wrap ((pagesL (l.take k) : Int) + (pagesN f.b.length : Int)) = ((pagesL (l.take k) + pagesN f.b.length : Nat) : Int) := by rw [IntKind.wrap_i64]; omega
      clear hx hf hfb
      generalize pagesN f.b.length = pn at *
      generalize f.b.length = fb at *
      generalize pagesL (l.take k) = q at *
      go_wp2_with (go_at_call 38; refine (hpg _).mono ?_; rintro e w' ⟨rfl, rfl⟩)
      go_roundw
      case rel => exact ⟨k + 1, by omega, by go_num, by rw [HS.out]; first | rfl | exact congrArg (Value.int IntKind.i64) (Int.natCast_add _ _).symm, trivial⟩
      case measure => simp [intOf]; omega
    · obtain rfl : k = l.length := by omega
      go_wp2
      go_ret
      exact ⟨by rw [HR.out, List.take_length]; rfl, rfl⟩
def freshL (l d : List Fi) : Nat := d.countP fun f => decide (findI l f.name < 0)
theorem freshL_succ (l : List Fi) {d : List Fi} {k : Nat} {f : Fi} (h : d[k]? = some f) : freshL l (d.take (k + 1)) = freshL l (d.take k) + if findI l f.name < 0 then 1 else 0 := by
  obtain ⟨hk, e⟩ := List.getElem?_eq_some_iff.1 h
  unfold freshL
  rw [List.take_succ_eq_append_getElem hk, e, List.countP_append]
  simp [List.countP_cons]
theorem freshL_le (l d : List Fi) : freshL l d ≤ d.length := List.countP_le_length
set_option maxHeartbeats 2000000 in
theorem rfresh_any (S T : Nat → Prop) (v u : Value) (l d : List Fi) (w : World) (h : FS w S v l) (g : FS w T u d) (hl : l.length ≤ 1000000) (hd : d.length ≤ 1000000) : Calls Tryz.prog 40 #[v, u] w fun e w' => e = .returned (.int .i64 (freshL l d : Int)) ∧ w = w' := by
  obtain ⟨A, cp, rfl, hlc, hcm⟩ := h.form
  obtain ⟨B, cq, rfl, hdc, hdm⟩ := g.form
  have hd63 : d.length ≤ 9223372036854775807 := by omega
  have hfi := fun n => rfind_any S _ l n w h hl
  have HFI := Lib.hid hfi
  have HLE : Hid (∀ k, freshL l (d.take k) ≤ 1000000) := fun k => by
    have := freshL_le l (d.take k)
    rw [List.length_take] at this
    omega
  obtain ⟨R, hR⟩ : ∃ R, R = freshL l d := ⟨_, rfl⟩
  rw [← hR]
  have HR := Lib.hid hR
  clear hR hfi
  go_enter Tryz.func40, Tryz.ntmps40
  go_wp2
  go_loopw [5, 6] (fun nv iv wr => ∃ k : Nat, k ≤ d.length ∧ iv = .int .i64 (k : Int) ∧ nv = .int .i64 (freshL l (d.take k) : Int) ∧ wr = w) (fun _ iv _ => d.length - (intOf iv).toNat)
  case atStart => exact ⟨0, by omega, rfl, rfl, rfl⟩
  case round =>
    obtain ⟨k, hk, rfl, rfl, rfl⟩ := hrel
    by_cases hlt : k < d.length
    · have hltI : (k : Int) < (d.length : Int) := by omega
      obtain ⟨b, o, rfl, _, _, hx⟩ := g.at_ (by omega)
      obtain ⟨f, hf⟩ : ∃ f, d[k]? = some f := ⟨_, List.getElem?_eq_getElem hlt⟩
      have j0 := (hx k f hf).1
      have hfi := HFI.out f.name
      have HS := Lib.hid (freshL_succ l hf)
      have h1 := HLE.out k
      have ew : IntKind.i64.wrap ((freshL l (d.take k) : Int) + 1) = ((freshL l (d.take k) + 1 : Nat) : Int) := by rw [IntKind.wrap_i64]; omega
      clear hx hf
      unfold strV at *
      generalize (⟨f.name.toArray⟩ : ByteArray) = fn at *
      generalize findI l f.name = fx at *
      generalize freshL l (d.take k) = q at *
      by_cases hfx : fx < 0
      · have D : decide (fx < 0) = true := decide_eq_true hfx
        have HS2 : Hid (freshL l (d.take (k + 1)) = q + 1) := by show _ = _; rw [HS.out, if_pos hfx]
        clear hfx HS
        go_wp2_with (go_at_call 37; refine hfi.mono ?_; rintro e w' ⟨rfl, rfl⟩)
        go_roundw
        case rel => exact ⟨k + 1, by omega, by go_num, by rw [HS2.out]; first | rfl | exact congrArg (Value.int IntKind.i64) (Int.natCast_add _ _).symm, trivial⟩
        case measure => simp [intOf]; omega
      · have D : decide (fx < 0) = false := decide_eq_false hfx
        have HS2 : Hid (freshL l (d.take (k + 1)) = q) := by show _ = _; rw [HS.out, if_neg hfx, Nat.add_zero]
        clear hfx HS
        go_wp2_with (go_at_call 37; refine hfi.mono ?_; rintro e w' ⟨rfl, rfl⟩)
        go_roundw
        case rel => exact ⟨k + 1, by omega, by go_num, by rw [HS2.out], trivial⟩
        case measure => simp [intOf]; omega
    · obtain rfl : k = d.length := by omega
      go_wp2
      go_ret
      exact ⟨by rw [HR.out, List.take_length]; rfl, rfl⟩
end
section
open Go.RowKit
end
section
open Go.RowKit
theorem str_at (l : List UInt8) (k : Nat) (x : UInt8) (hx : l[k]? = some x) : ∀ W : World, (Instr.index 9 (.string ⟨l.toArray⟩) (.int .i64 (k : Int))).run Tryz.prog W = .ok (.int .u8 (x.toNat : Int)) W := fun W => by
  have hk := (List.getElem?_eq_some_iff.1 hx).1
  have hs : (⟨l.toArray⟩ : ByteArray).size = l.length := rfl
  rw [run_index_string W 9 ⟨l.toArray⟩ .i64 (k : Int) Tryz.underlying9, dif_pos ⟨by omega, by rw [hs]; omega⟩]
  simp only [Int.toNat_natCast]
  have e : (⟨l.toArray⟩ : ByteArray)[k]'(by rw [hs]; exact hk) = x := by
    have := (List.getElem?_eq_some_iff.1 hx).2
    exact this
  rw [e]
theorem all_step {l : List UInt8} {k : Nat} {x : UInt8} (hx : l[k]? = some x) (h : ((l.take k).all fun b => okc b.toNat) = true) (ho : okc x.toNat = true) : ((l.take (k + 1)).all fun b => okc b.toNat) = true := by
  rw [List.take_add_one, hx, List.all_append, h]
  simp [ho]
theorem all_stop {l : List UInt8} {k : Nat} {x : UInt8} (hx : l[k]? = some x) (ho : okc x.toNat = false) : nameS l = false := by
  unfold nameS
  have : (l.all fun b => okc b.toNat) = false := by
    cases hq : l.all fun b => okc b.toNat with
    | false => rfl
    | true =>
      have := List.all_eq_true.1 hq x (List.mem_of_getElem? hx)
      rw [ho] at this
      cases this
  rw [this]; simp
set_option maxHeartbeats 2000000 in
theorem rname_any (l : List UInt8) (hl : l.length ≤ maxLen) (w : World) :
    Calls Tryz.prog 36 #[strV l] w fun e w' => e = .returned (.bool (nameS l)) ∧ w = w' := by
  have hs : ((⟨l.toArray⟩ : ByteArray).size : Int) = (l.length : Int) := rfl
  have hat := str_at l
  have HAT := Lib.hid hat
  have hml : l.length ≤ 9223372036854775807 := by unfold maxLen at hl; omega
  obtain ⟨r, hr⟩ : ∃ r, r = nameS l := ⟨_, rfl⟩
  rw [← hr]
  have HR := Lib.hid hr
  unfold strV
  clear hat hr hl
  have HAT2 : Hid (∀ s : ByteArray, s = ⟨l.toArray⟩ → ∀ (k : Nat) (x : UInt8), l[k]? = some x → ∀ W : World, (Instr.index 9 (.string s) (.int .i64 (k : Int))).run Tryz.prog W = .ok (.int .u8 (x.toNat : Int)) W) := fun s e => by subst e; exact HAT.out
  obtain ⟨s, hse⟩ : ∃ s : ByteArray, s = ⟨l.toArray⟩ := ⟨_, rfl⟩
  rw [← hse] at hs ⊢
  replace HAT := Lib.hid (HAT2.out s hse)
  clear HAT2 hse
  go_enter Tryz.func36, Tryz.ntmps36
  go_wp2
  go_loop [3] (fun i => ∃ k : Nat, k ≤ l.length ∧ i = .int .i64 k ∧ Hid (((l.take k).all fun b => okc b.toNat) = true)) (fun i => l.length - (intOf i).toNat)
  case atStart => exact ⟨0, by omega, rfl, rfl⟩
  case round =>
    obtain ⟨k, hk, rfl, ha⟩ := hrel
    by_cases hlt : k < l.length
    · obtain ⟨x, hx⟩ : ∃ x, l[k]? = some x := ⟨_, List.getElem?_eq_getElem hlt⟩
      have hix := HAT.out k x hx
      have hxl := x.toNat_lt
      have HS := Lib.hid (all_stop (l := l) (k := k) (x := x) hx)
      have HST := Lib.hid (fun ho => all_step (l := l) (k := k) (x := x) hx ha.out ho)
      have HO : Hid (okc x.toNat = okc x.toNat) := rfl
      generalize hc : x.toNat = c at hix HS HST HO
      have hc256 : c < 256 := by omega
      clear hc hx hxl HAT ha
      by_cases q0 : c ≤ 44
      · have ho : okc c = false := by unfold okc; simp; omega
        have E0 : decide ((c : Int) < 97) = true := decide_eq_true (by omega)
        have E1 : decide ((122 : Int) < (c : Int)) = false := decide_eq_false (by omega)
        have E2 : decide ((c : Int) < 48) = true := decide_eq_true (by omega)
        have E3 : decide ((57 : Int) < (c : Int)) = false := decide_eq_false (by omega)
        have N0 : ((c : Int) != 46) = true := by simp; omega
        have N1 : ((c : Int) != 45) = true := by simp; omega
        have N2 : ((c : Int) != 95) = true := by simp; omega
        have hr := HR.out
        rw [HS.out ho] at hr
        clear HS HST HO HR ho
        subst hr
        go_wp2
        go_ret
        exact ⟨rfl, rfl⟩
      by_cases q1 : c = 45
      · have ho : okc c = true := by unfold okc; simp; omega
        have E0 : decide ((c : Int) < 97) = true := decide_eq_true (by omega)
        have E1 : decide ((122 : Int) < (c : Int)) = false := decide_eq_false (by omega)
        have E2 : decide ((c : Int) < 48) = true := decide_eq_true (by omega)
        have E3 : decide ((57 : Int) < (c : Int)) = false := decide_eq_false (by omega)
        have N0 : ((c : Int) != 46) = true := by simp; omega
        have N1 : ((c : Int) != 45) = false := by simp; omega
        have N2 : ((c : Int) != 95) = true := by simp; omega
        have HT := Lib.hid (HST.out ho)
        clear HS HST HO HR ho
        go_wp2
        go_round
        case rel => exact ⟨k + 1, by omega, by go_num, HT⟩
        case measure => simp [intOf]; omega
      by_cases q2 : c = 46
      · have ho : okc c = true := by unfold okc; simp; omega
        have E0 : decide ((c : Int) < 97) = true := decide_eq_true (by omega)
        have E1 : decide ((122 : Int) < (c : Int)) = false := decide_eq_false (by omega)
        have E2 : decide ((c : Int) < 48) = true := decide_eq_true (by omega)
        have E3 : decide ((57 : Int) < (c : Int)) = false := decide_eq_false (by omega)
        have N0 : ((c : Int) != 46) = false := by simp; omega
        have N1 : ((c : Int) != 45) = true := by simp; omega
        have N2 : ((c : Int) != 95) = true := by simp; omega
        have HT := Lib.hid (HST.out ho)
        clear HS HST HO HR ho
        go_wp2
        go_round
        case rel => exact ⟨k + 1, by omega, by go_num, HT⟩
        case measure => simp [intOf]; omega
      by_cases q3 : c = 47
      · have ho : okc c = false := by unfold okc; simp; omega
        have E0 : decide ((c : Int) < 97) = true := decide_eq_true (by omega)
        have E1 : decide ((122 : Int) < (c : Int)) = false := decide_eq_false (by omega)
        have E2 : decide ((c : Int) < 48) = true := decide_eq_true (by omega)
        have E3 : decide ((57 : Int) < (c : Int)) = false := decide_eq_false (by omega)
        have N0 : ((c : Int) != 46) = true := by simp; omega
        have N1 : ((c : Int) != 45) = true := by simp; omega
        have N2 : ((c : Int) != 95) = true := by simp; omega
        have hr := HR.out
        rw [HS.out ho] at hr
        clear HS HST HO HR ho
        subst hr
        go_wp2
        go_ret
        exact ⟨rfl, rfl⟩
      by_cases q4 : c ≤ 57
      · have ho : okc c = true := by unfold okc; simp; omega
        have E0 : decide ((c : Int) < 97) = true := decide_eq_true (by omega)
        have E1 : decide ((122 : Int) < (c : Int)) = false := decide_eq_false (by omega)
        have E2 : decide ((c : Int) < 48) = false := decide_eq_false (by omega)
        have E3 : decide ((57 : Int) < (c : Int)) = false := decide_eq_false (by omega)
        have N0 : ((c : Int) != 46) = true := by simp; omega
        have N1 : ((c : Int) != 45) = true := by simp; omega
        have N2 : ((c : Int) != 95) = true := by simp; omega
        have HT := Lib.hid (HST.out ho)
        clear HS HST HO HR ho
        go_wp2
        go_round
        case rel => exact ⟨k + 1, by omega, by go_num, HT⟩
        case measure => simp [intOf]; omega
      by_cases q5 : c ≤ 94
      · have ho : okc c = false := by unfold okc; simp; omega
        have E0 : decide ((c : Int) < 97) = true := decide_eq_true (by omega)
        have E1 : decide ((122 : Int) < (c : Int)) = false := decide_eq_false (by omega)
        have E2 : decide ((c : Int) < 48) = false := decide_eq_false (by omega)
        have E3 : decide ((57 : Int) < (c : Int)) = true := decide_eq_true (by omega)
        have N0 : ((c : Int) != 46) = true := by simp; omega
        have N1 : ((c : Int) != 45) = true := by simp; omega
        have N2 : ((c : Int) != 95) = true := by simp; omega
        have hr := HR.out
        rw [HS.out ho] at hr
        clear HS HST HO HR ho
        subst hr
        go_wp2
        go_ret
        exact ⟨rfl, rfl⟩
      by_cases q6 : c = 95
      · have ho : okc c = true := by unfold okc; simp; omega
        have E0 : decide ((c : Int) < 97) = true := decide_eq_true (by omega)
        have E1 : decide ((122 : Int) < (c : Int)) = false := decide_eq_false (by omega)
        have E2 : decide ((c : Int) < 48) = false := decide_eq_false (by omega)
        have E3 : decide ((57 : Int) < (c : Int)) = true := decide_eq_true (by omega)
        have N0 : ((c : Int) != 46) = true := by simp; omega
        have N1 : ((c : Int) != 45) = true := by simp; omega
        have N2 : ((c : Int) != 95) = false := by simp; omega
        have HT := Lib.hid (HST.out ho)
        clear HS HST HO HR ho
        go_wp2
        go_round
        case rel => exact ⟨k + 1, by omega, by go_num, HT⟩
        case measure => simp [intOf]; omega
      by_cases q7 : c = 96
      · have ho : okc c = false := by unfold okc; simp; omega
        have E0 : decide ((c : Int) < 97) = true := decide_eq_true (by omega)
        have E1 : decide ((122 : Int) < (c : Int)) = false := decide_eq_false (by omega)
        have E2 : decide ((c : Int) < 48) = false := decide_eq_false (by omega)
        have E3 : decide ((57 : Int) < (c : Int)) = true := decide_eq_true (by omega)
        have N0 : ((c : Int) != 46) = true := by simp; omega
        have N1 : ((c : Int) != 45) = true := by simp; omega
        have N2 : ((c : Int) != 95) = true := by simp; omega
        have hr := HR.out
        rw [HS.out ho] at hr
        clear HS HST HO HR ho
        subst hr
        go_wp2
        go_ret
        exact ⟨rfl, rfl⟩
      by_cases q8 : c ≤ 122
      · have ho : okc c = true := by unfold okc; simp; omega
        have E0 : decide ((c : Int) < 97) = false := decide_eq_false (by omega)
        have E1 : decide ((122 : Int) < (c : Int)) = false := decide_eq_false (by omega)
        have E2 : decide ((c : Int) < 48) = false := decide_eq_false (by omega)
        have E3 : decide ((57 : Int) < (c : Int)) = true := decide_eq_true (by omega)
        have N0 : ((c : Int) != 46) = true := by simp; omega
        have N1 : ((c : Int) != 45) = true := by simp; omega
        have N2 : ((c : Int) != 95) = true := by simp; omega
        have HT := Lib.hid (HST.out ho)
        clear HS HST HO HR ho
        go_wp2
        go_round
        case rel => exact ⟨k + 1, by omega, by go_num, HT⟩
        case measure => simp [intOf]; omega
      have ho : okc c = false := by unfold okc; simp; omega
      have E0 : decide ((c : Int) < 97) = false := decide_eq_false (by omega)
      have E1 : decide ((122 : Int) < (c : Int)) = true := decide_eq_true (by omega)
      have E2 : decide ((c : Int) < 48) = false := decide_eq_false (by omega)
      have E3 : decide ((57 : Int) < (c : Int)) = true := decide_eq_true (by omega)
      have N0 : ((c : Int) != 46) = true := by simp; omega
      have N1 : ((c : Int) != 45) = true := by simp; omega
      have N2 : ((c : Int) != 95) = true := by simp; omega
      have hr := HR.out
      rw [HS.out ho] at hr
      clear HS HST HO HR ho
      subst hr
      go_wp2
      go_ret
      exact ⟨rfl, rfl⟩
    · have hkl : k = l.length := by omega
      subst hkl
      have hr := HR.out
      have ha' := ha.out
      rw [List.take_length] at ha'
      unfold nameS at hr
      rw [ha', Bool.and_true] at hr
      have e1 : decide ((1 : Int) ≤ (l.length : Int)) = decide (1 ≤ l.length) := decide_eq_decide.2 (by omega)
      have e2 : decide ((l.length : Int) ≤ 16) = decide (l.length ≤ 16) := decide_eq_decide.2 (by omega)
      clear ha ha' HAT HR
      cases g1 : decide (1 ≤ l.length) with
      | false =>
        rw [g1] at e1 hr
        simp only [Bool.false_and] at hr
        subst hr
        clear g1 e2
        go_wp2
        go_ret
        exact ⟨rfl, rfl⟩
      | true =>
        rw [g1] at e1 hr
        simp only [Bool.true_and] at hr
        rw [← e2] at hr
        clear g1 e2
        subst hr
        go_wp2
        go_ret
        exact ⟨rfl, rfl⟩
end
section
open Go.RowKit
theorem FS.take {w : World} {S : Nat → Prop} {A : Option Addr} {n c : Nat} {l : List Fi} (h : FS w S (.slice A n c) l) (k : Nat) (hk : k ≤ l.length) : FS w S (.slice A k c) (l.take k) := by
  obtain ⟨A', c', e, hl, hc, hx⟩ := h
  injection e with e1 e2 e3
  subst e1 e3
  have hlk : (l.take k).length = k := by rw [List.length_take]; omega
  refine ⟨A, c, by rw [hlk], by rw [hlk]; omega, hc, fun h0 => ?_⟩
  obtain ⟨b, o, ea, sb, hb, hx⟩ := hx (by rw [hlk] at h0; omega)
  refine ⟨b, o, ea, sb, hb, fun j f hj => hx j f ?_⟩
  rw [List.getElem?_take] at hj
  split at hj
  · exact hj
  · cases hj
theorem elem_files : Tryz.prog.elem 38 = 71 := by kernel_rfl
theorem und_files : Tryz.prog.underlying 38 = some (.slice (Tryz.prog.elem 38)) := by rw [elem_files]; exact Tryz.underlying38
theorem run_files_to (w : World) (A : Option Addr) (n c k : Nat) (hk : k ≤ n) (hc : n ≤ c) : (Instr.slice 38 (.slice A n c) none (some (.int .i64 (k : Int))) none).run Tryz.prog w = .ok (.slice A k c) w := by
  rw [run_slice_h (P := Tryz.prog) (w := w) (t := 38) (a := A) (len := n) (cap := c) und_files (kh := .i64) (h := (k : Int)) (by omega) (by omega), elem_files, Tryz.sizeOf71]
  simp only [Result.andThen_ok, sliced, Int.toNat_natCast, Nat.zero_mul, Nat.sub_zero]
  congr 2
  split
  · rfl
  · cases A with
    | none => rfl
    | some a => rw [Option.map_some, add_zero']
def wasL (l : List Fi) (n : List UInt8) : Nat := if 0 ≤ findI l n then pagesN (l.getD (findI l n).toNat ⟨[], [], false⟩).b.length else 0
def growL (l d : List Fi) : Nat := (d.map fun f => pagesN f.b.length - wasL l f.name).sum
def costL (l d : List Fi) : Nat := (d.map fun f => 1 + max (wasL l f.name) (pagesN f.b.length)).sum
def missL (l : List Fi) (f : Fi) : Bool := f.gone && decide (findI l f.name < 0)
def rightL (c : CI) (l d : List Fi) : Int :=
  if argsB d = false then 1 else if (d.any fun f => longF f) = true then 3 else if (d.any fun f => missL l f) = true then 5
  else if c.data - (pagesL l : Int) < (growL l d : Int) ∨ c.files - (l.length : Int) < (freshL l d : Int) then 7 else if (roomN c.cn.log : Int) < (costL l d : Int) then 4 else 0
theorem okF_iff {d : List Fi} {k : Nat} {f : Fi} (hf : d[k]? = some f) : okF d k ↔ nameS f.name = true ∧ findI (d.take k) f.name < 0 ∧ ¬ (f.gone = true ∧ 0 < f.b.length) := by
  have hg := getD_fi hf
  have hk := (List.getElem?_eq_some_iff.1 hf).1
  unfold okF
  rw [hg]
  have key : (∀ j, j < k → (d.getD j ⟨[], [], false⟩).name ≠ f.name) ↔ findI (d.take k) f.name < 0 := by
    constructor
    · intro h
      rw [findI_no fun j g hj e => ?_]
      · omega
      · rw [List.getElem?_take] at hj
        split at hj
        · rename_i hjk
          exact h j hjk (by rw [getD_fi hj]; exact e)
        · cases hj
    · intro h j hj e
      have hd : (d.take k)[j]? = some (d.getD j ⟨[], [], false⟩) := by
        rw [List.getElem?_take, if_pos hj, List.getD_eq_getElem?_getD, List.getElem?_eq_getElem (by omega)]
        rfl
      have : ∃ i, (d.take k).findIdx? (fun g => decide (g.name = f.name)) = some i := by
        cases hi : (d.take k).findIdx? (fun g => decide (g.name = f.name)) with
        | some i => exact ⟨i, rfl⟩
        | none =>
          have := List.findIdx?_eq_none_iff.1 hi _ (List.mem_of_getElem? hd)
          exact absurd e (of_decide_eq_false this)
      obtain ⟨i, hi⟩ := this
      unfold findI at h
      rw [hi] at h
      simp only at h
      omega
  rw [key]
theorem any_no {l : List Fi} {P : Fi → Bool} (h : ∀ (j : Nat) (g : Fi), l[j]? = some g → P g = false) : (l.any P) = false := by
  rw [List.any_eq_false]
  intro f hf
  obtain ⟨j, hj⟩ := List.mem_iff_getElem?.1 hf
  simp [h j f hj]
theorem any_yes {l : List Fi} {P : Fi → Bool} {k : Nat} {f : Fi} (hk : l[k]? = some f) (h : P f = true) : (l.any P) = true := List.any_eq_true.2 ⟨f, List.mem_of_getElem? hk, h⟩
theorem growL_succ (l : List Fi) {d : List Fi} {k : Nat} {f : Fi} (h : d[k]? = some f) : growL l (d.take (k + 1)) = growL l (d.take k) + (pagesN f.b.length - wasL l f.name) := by
  obtain ⟨hk, e⟩ := List.getElem?_eq_some_iff.1 h
  unfold growL
  rw [List.take_succ_eq_append_getElem hk, e, List.map_append, List.sum_append]
  simp
theorem costL_succ (l : List Fi) {d : List Fi} {k : Nat} {f : Fi} (h : d[k]? = some f) : costL l (d.take (k + 1)) = costL l (d.take k) + (1 + max (wasL l f.name) (pagesN f.b.length)) := by
  obtain ⟨hk, e⟩ := List.getElem?_eq_some_iff.1 h
  unfold costL
  rw [List.take_succ_eq_append_getElem hk, e, List.map_append, List.sum_append]
  simp
theorem wasL_le {l : List Fi} (hb : ∀ f ∈ l, f.b.length ≤ 1000000) (n : List UInt8) : wasL l n ≤ 4000 := by
  unfold wasL
  split
  · rw [List.getD_eq_getElem?_getD]
    cases h : l[(findI l n).toNat]? with
    | none => simp [pagesN]
    | some f =>
      have := hb f (List.mem_of_getElem? h)
      simp only [Option.getD_some]
      unfold pagesN
      omega
  · omega
theorem growL_le {l d : List Fi} (hd : ∀ f ∈ d, f.b.length ≤ 1000000) : growL l d ≤ d.length * 4000 := by
  unfold growL
  induction d with
  | nil => exact Nat.le_refl _
  | cons f r ih =>
    have h1 := ih fun g hg => hd g (by simp [hg])
    have h2 := hd f (by simp)
    rw [List.map_cons, List.sum_cons, List.length_cons]
    unfold pagesN at *
    omega
theorem costL_le {l d : List Fi} (hb : ∀ f ∈ l, f.b.length ≤ 1000000) (hd : ∀ f ∈ d, f.b.length ≤ 1000000) : costL l d ≤ d.length * 4001 := by
  unfold costL
  induction d with
  | nil => exact Nat.le_refl _
  | cons f r ih =>
    have h1 := ih fun g hg => hd g (by simp [hg])
    have h2 := hd f (by simp)
    have h3 := wasL_le hb f.name
    rw [List.map_cons, List.sum_cons, List.length_cons]
    unfold pagesN at *
    omega
end
section
open Go.RowKit
def fiF (x : Fe) : Fi := ⟨x.name, x.b, false⟩
def filesF (fl : List Fe) : List Fi := fl.map fiF
section
variable {c : CI} {fl : List Fe} {l : List Fi}
theorem files_len (fl : List Fe) : (filesF fl).length = fl.length := by simp [filesF]
theorem files_find (fl : List Fe) (n : List UInt8) : (findI (filesF fl) n < 0 ↔ fl.find? (fun x => decide (x.name = n)) = none) := by
  unfold findI filesF
  rw [List.findIdx?_map]
  cases h : fl.findIdx? ((fun f => decide (f.name = n)) ∘ fiF) with
  | none =>
    rw [List.findIdx?_eq_none_iff] at h
    constructor
    · intro _
      rw [List.find?_eq_none]
      intro x hx
      have h2 : decide (x.name = n) = false := h x hx
      rw [h2]
      simp
    · intro _
      simp
  | some i =>
    rw [List.findIdx?_eq_some_iff_getElem] at h
    obtain ⟨hi, hp, _⟩ := h
    constructor
    · intro h0
      simp only at h0
      omega
    · intro h0
      rw [List.find?_eq_none] at h0
      have := h0 fl[i] (List.getElem_mem hi)
      have hp2 : decide ((fl[i]).name = n) = true := hp
      exact absurd hp2 this
theorem files_was (gf : Fine13 c.cn fl) (n : List UInt8) : wasL (filesF fl) n = (hadM (mapF fl) n).length := by
  unfold wasL
  by_cases h : findI (filesF fl) n < 0
  · rw [if_neg (by omega)]
    have := (files_find fl n).1 h
    unfold hadM mapF
    rw [this]
    rfl
  · rw [if_pos (by omega)]
    cases hx : fl.findIdx? ((fun f => decide (f.name = n)) ∘ fiF) with
    | none =>
      exfalso
      apply h
      unfold findI filesF
      rw [List.findIdx?_map, hx]
      simp
    | some i =>
      have hfi : findI (filesF fl) n = (i : Int) := by
        unfold findI filesF
        rw [List.findIdx?_map, hx]
      rw [List.findIdx?_eq_some_iff_getElem] at hx
      obtain ⟨hi, hp, _⟩ := hx
      have hn : (fl[i]).name = n := of_decide_eq_true hp
      have hg : (filesF fl).getD i ⟨[], [], false⟩ = fiF fl[i] := by
        rw [List.getD_eq_getElem?_getD]
        unfold filesF
        rw [List.getElem?_map, List.getElem?_eq_getElem hi]
        rfl
      rw [hfi, Int.toNat_natCast, hg]
      have hm := List.getElem_mem hi
      rw [← hn, had_of gf.names hm, (gf.each _ hm).len]
      rfl
theorem files_pages (fl : List Fe) : pagesL (filesF fl) = pagesF fl := by
  unfold pagesL filesF pagesF
  rw [List.map_map]
  rfl
theorem files_grow (gf : Fine13 c.cn fl) (l : List Fi) : growL (filesF fl) l = growC (mapF fl) l := by
  unfold growL growC
  congr 1
  exact List.map_congr_left fun f _ => by rw [files_was gf]
theorem files_cost (gf : Fine13 c.cn fl) (l : List Fi) : costL (filesF fl) l = costC (mapF fl) l := by
  unfold costL costC
  congr 1
  exact List.map_congr_left fun f _ => by rw [files_was gf]
theorem files_fresh (fl : List Fe) (l : List Fi) : freshL (filesF fl) l = freshC (mapF fl) l := by
  unfold freshL freshC
  apply List.countP_congr
  intro f _
  rw [decide_eq_true_iff, files_find]
  unfold mapF
  cases fl.find? (fun x => decide (x.name = f.name)) <;> simp
theorem files_miss (fl : List Fe) (f : Fi) : missL (filesF fl) f = missF (nodesF fl) f := by
  unfold missL missF
  rw [look_nodes]
  congr 1
  have := files_find fl f.name
  cases h : fl.find? (fun x => decide (x.name = f.name)) with
  | none => rw [decide_eq_true (this.2 h)]; rfl
  | some x => rw [decide_eq_false (fun hh => by have := this.1 hh; rw [h] at this; cases this)]; rfl
theorem right_try (hm : c.may) (gf : Fine13 c.cn fl) (l : List Fi) : rightL c (filesF fl) l = tryN c (nodesF fl) false l := by
  have hcd := data_cn hm
  have hcf : c.files = (c.cn.files : Int) := by
    have := hm.1.2.1.1
    unfold CI.cn
    simp only
    omega
  unfold rightL tryN
  rw [if_neg (show ¬ (false = true) by simp)]
  have e1 : (l.any fun f => missL (filesF fl) f) = l.any fun f => missF (nodesF fl) f := by
    congr 1
    funext f
    exact files_miss fl f
  rw [e1, files_pages, files_grow gf, files_fresh, files_len, files_cost gf, map_nodes]
  have e2 : (c.data - (pagesF fl : Int) < (growC (mapF fl) l : Int) ∨ c.files - (fl.length : Int) < (freshC (mapF fl) l : Int)) ↔ fitB c (nodesF fl) l = false := by
    unfold fitB
    rw [map_nodes, nodes_len, usC_nodes gf, ← hcd, hcf]
    rw [Bool.and_eq_false_iff, decide_eq_false_iff_not, decide_eq_false_iff_not]
    omega
  by_cases h1 : argsB l = false
  · rw [if_pos h1, if_pos h1]
  rw [if_neg h1, if_neg h1]
  by_cases h2 : (l.any fun f => longF f) = true
  · rw [if_pos h2, if_pos h2]
  rw [if_neg h2, if_neg h2]
  by_cases h3 : (l.any fun f => missF (nodesF fl) f) = true
  · rw [if_pos h3, if_pos h3]
  rw [if_neg h3, if_neg h3]
  by_cases h4 : fitB c (nodesF fl) l = false
  · rw [if_pos (e2.2 h4), if_pos h4]
  rw [if_neg (fun h => h4 (e2.1 h)), if_neg h4]
  by_cases h5 : roomN c.cn.log < costC (mapF fl) l
  · rw [if_pos (by omega), if_pos h5]
  · rw [if_neg (by omega), if_neg h5]
end
def doL (l d : List Fi) : List Fi := (l.filter fun f => decide (findI d f.name < 0)) ++ (d.filter fun f => !f.gone)
theorem files_next {c : Cn} {fl : List Fe} {l : List Fi} : filesF (nextF c fl l) = doL (filesF fl) l := by
  unfold filesF nextF doL
  rw [List.map_append, List.filter_map, List.map_map]
  congr 1
  · congr 1
    apply List.filter_congr
    intro x _
    unfold findI hasN
    show (!l.any fun f => decide (f.name = x.name)) = decide ((match l.findIdx? fun f => decide (f.name = x.name) with | some i => (i : Int) | none => -1) < 0)
    cases h : l.findIdx? (fun f => decide (f.name = x.name)) with
    | none =>
      have : (l.any fun f => decide (f.name = x.name)) = false := by
        rw [List.any_eq_false]
        intro f hf
        have := List.findIdx?_eq_none_iff.1 h f hf
        rw [this]
        simp
      rw [this]
      rfl
    | some i =>
      obtain ⟨hi, hp, _⟩ := List.findIdx?_eq_some_iff_getElem.1 h
      have : (l.any fun f => decide (f.name = x.name)) = true := List.any_eq_true.2 ⟨l[i], List.getElem_mem hi, hp⟩
      rw [this]
      symm
      exact decide_eq_false (by simp only; omega)
  · have key : ∀ hs : List Ch, (hs.filter fun h => !h.to.gone).map (fiF ∘ Ch.fe) = (hs.map (·.to)).filter fun f => !f.gone := by
      intro hs
      induction hs with
      | nil => rfl
      | cons h r ih =>
        by_cases hg : h.to.gone = true
        · rw [List.filter_cons_of_neg (by simp [hg]), List.map_cons, List.filter_cons_of_neg (by simp [hg]), ih]
        · have hg' : h.to.gone = false := by simpa using hg
          rw [List.filter_cons_of_pos (by simp [hg']), List.map_cons, List.map_cons, List.filter_cons_of_pos (by simp [hg']), ih]
          congr 1
          show (⟨h.to.name, h.to.b, false⟩ : Fi) = h.to
          rw [← hg']
    rw [key, chsM_to]
end
end Go.Proofs.YteddmnoeljakpaaGreatDoor
