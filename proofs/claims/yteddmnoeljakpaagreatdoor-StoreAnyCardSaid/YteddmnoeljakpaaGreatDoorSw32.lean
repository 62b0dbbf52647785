/-
  StK: A file's bytes, over the loaded program: Read: its contract. No condition but what each theorem names.
  StD: What a Do makes of files, plainly: they may be together again; its patches are what a log takes, and make of what the sectors held what they are to hold. No program, no condition.
-/
import Derived.Test.YteddmnoeljakpaaGreatDoorSw28
import Derived.Test.YteddmnoeljakpaaGreatDoorSw03
import Derived.Test.YteddmnoeljakpaaGreatDoorSw23
import Derived.Test.YteddmnoeljakpaaGreatDoorSw21
set_option linter.unusedVariables false
set_option maxRecDepth 100000
namespace Go.Proofs.YteddmnoeljakpaaGreatDoor
section
open Go.RowKit
def rawN (c : CI) (s : Dk) (at_ : List Int) : List UInt8 := at_.flatMap fun z => s.now (c.cn.base + z.toNat)
def readN (c : CI) (s : Dk) (q : Nd) : List UInt8 := (rawN c s q.2.at_).take q.2.size.toNat
theorem rawN_succ (c : CI) (s : Dk) (L : List Int) (j : Nat) (h : j < L.length) : rawN c s (L.take (j + 1)) = rawN c s (L.take j) ++ s.now (c.cn.base + L[j].toNat) := by
  unfold rawN
  rw [List.take_succ_eq_append_getElem h, List.flatMap_append]
  simp
theorem rawN_len {c : CI} {s : Dk} (hs : s.ok) : ∀ {L : List Int}, (∀ z ∈ L, c.cn.base + z.toNat < s.safe.length) → (rawN c s L).length = 256 * L.length
  | [], _ => rfl
  | z :: L, h => by
    have h1 := rawN_len hs (L := L) fun y hy => h y (by simp [hy])
    have h2 := hs.now_len _ (h z (by simp))
    unfold rawN at h1 ⊢
    rw [List.flatMap_cons, List.length_append, h1, h2, List.length_cons]
    omega
section
variable {w : World} {a : SA} {c : CI} {nl : List Nd} {s : Dk} {br : Bool}
theorem ST.len_nat (h : ST w a c nl s br) : s.safe.length = c.cn.size := by
  have h1 := h.len
  obtain ⟨⟨⟨a1, a2⟩, ⟨b1, b2⟩, ⟨c1, c2⟩, d1, d2⟩, e⟩ := h.may
  unfold CI.sum at h1
  unfold Cn.size CI.cn
  simp only
  omega
theorem data_st (hm : c.may) (W : World) : Calls Tryz.prog 57 #[.agg #[.int .i64 c.log, .int .i64 c.files, .int .i64 c.slots, .int .i64 c.data]] W fun e w' => e = .returned (.tuple #[.int .i64 (c.cn.base : Int), .int .i64 (c.cn.data : Int)]) ∧ Below W.heap.size W w' := by
  have hd := sdata_any c W
  rw [if_pos hm, if_pos hm] at hd
  obtain ⟨⟨⟨a1, a2⟩, ⟨b1, b2⟩, ⟨c1, c2⟩, d1, d2⟩, e⟩ := hm
  have e1 : (1 + c.log + c.files + c.slots : Int) = (c.cn.base : Int) := by
    unfold Cn.base CI.cn
    simp only
    omega
  have e2 : c.data = (c.cn.data : Int) := by
    unfold CI.cn
    simp only
    omega
  rw [e1] at hd
  have := hd
  rw [show (Value.int IntKind.i64 c.data) = .int .i64 (c.cn.data : Int) by rw [← e2]] at this
  exact this
theorem nodes_st (hm : c.may) (W : World) : Calls Tryz.prog 33 #[.agg #[.int .i64 c.log, .int .i64 c.files, .int .i64 c.slots, .int .i64 c.data]] W fun e w' => e = .returned (.int .i64 (c.cn.nodes : Int)) ∧ Below W.heap.size W w' := by
  have hd := nodes_any c (by have := hm.1.1.1; omega) hm.1.1.2 W
  have e1 : (1 + c.log : Int) = (c.cn.nodes : Int) := by
    have := hm.1.1.1
    unfold Cn.nodes CI.cn
    simp only
    omega
  rwa [e1] at hd
theorem sread_nil (w : World) (n : Value) : Calls Tryz.prog 29 #[.pointer none, n] w fun e w' => e = .returned (.tuple #[.slice none 0 0, .int .i64 9]) ∧ w = w' := by
  have hm := smade_nil w
  go_enter Tryz.func29, Tryz.ntmps29
  go_wp2_with (go_at_call 42; refine hm.mono ?_; rintro e w' ⟨rfl, rfl⟩)
  go_ret2
  exact ⟨rfl, rfl⟩
set_option maxHeartbeats 1000000 in
theorem sread_none (h : ST w a c nl s br) {n : List UInt8} (hn : n.length ≤ maxLen) (hl : lookN nl n = none) : Calls Tryz.prog 29 #[.pointer (some ⟨a.sg, 0, none⟩), strV n] w fun e w' =>
    e = .returned (.tuple #[.slice none 0 0, .int .i64 5]) ∧ Below w.heap.size w w' := by
  have hm := smade_any h
  have c6 := h.c6
  have hlk : (Instr.lookup 80 (.map (some a.m)) (strV n) true).run Tryz.prog w = .ok (.tuple #[nd0, .bool false]) w := by
    rcases h.mf.look_ok hn with ⟨_, e⟩ | ⟨q, _, _, e, _⟩
    · exact e
    · rw [hl] at e; cases e
  unfold nd0 strV at *
  generalize (⟨n.toArray⟩ : ByteArray) = nn at *
  clear h hl
  have B := (Below.refl w.heap.size w).alloc (Nat.le_refl _) (.cells #[.int .i64 0, .string ⟨#[]⟩, .int .i64 0, .slice none 0 0] 93)
  go_enter Tryz.func29, Tryz.ntmps29
  go_wp2_with (go_at_call 42; refine hm.mono ?_; rintro e w' ⟨rfl, rfl⟩)
  go_ret2
  exact ⟨rfl, B⟩
set_option maxHeartbeats 4000000 in
theorem sread_some (h : ST w a c nl s br) (hf : s.fuse ≠ 0) {n : List UInt8} (hn : n.length ≤ maxLen) {q : Nd} (hl : lookN nl n = some q) : Calls Tryz.prog 29 #[.pointer (some ⟨a.sg, 0, none⟩), strV n] w fun e w' =>
    ∃ v, e = .returned (.tuple #[v, .int .i64 0]) ∧ BS w' (fun b => w.heap.size ≤ b) v (readN c s q) ∧ Below w.heap.size w w' := by
  have hm := smade_any h
  have c0 := h.c0
  have c2 := h.c2
  have c3 := h.c3
  have c4 := h.c4
  have c5 := h.c5
  have c6 := h.c6
  have hdt := fun W => data_st h.may W
  obtain ⟨A, cp, hv, hz, _, _, hlk⟩ : ∃ A cp, IS w (OffS a w) (.slice A q.2.at_.length cp) q.2.at_ ∧ I64 q.2.size ∧ q.2.name = n ∧ q.1 ≤ 1000000 ∧ (Instr.lookup 80 (.map (some a.m)) (strV n) true).run Tryz.prog w = .ok (.tuple #[ndV q.1 q.2 (.slice A q.2.at_.length cp), .bool true]) w := by
    rcases h.mf.look_ok hn with ⟨e, _⟩ | ⟨r, A, cp, e, hv, hz, hnm, hq, hrun⟩
    · rw [hl] at e; cases e
    · rw [hl] at e
      obtain rfl := Option.some.inj e
      exact ⟨A, cp, hv, hz, hnm, hq, hrun⟩
  obtain ⟨hqm, _⟩ := lookN_some hl
  obtain ⟨_, _, f3, f4, _⟩ := (fit_iff _ _).1 (h.fit q hqm).2
  have hin : ∀ z ∈ q.2.at_, 0 ≤ z ∧ c.cn.base + z.toNat < s.safe.length := fun z hz => by
    have := h.at_in hqm hz
    rw [h.len_nat]
    unfold Cn.base Cn.size
    omega
  have hRL := rawN_len h.ds.ok fun z hz => (hin z hz).2
  have hps : pagesS q.2.size = (pagesN q.2.size.toNat : Int) := by
    have := pages_nat q.2.size.toNat
    rwa [show ((q.2.size.toNat : Nat) : Int) = q.2.size by omega] at this
  have hfew : q.2.at_.length ≤ 96 := by
    rw [hps] at f4
    unfold pagesN at f4
    omega
  have hszR : q.2.size.toNat ≤ (rawN c s q.2.at_).length := by
    rw [hRL]
    rw [hps] at f4
    unfold pagesN at f4
    omega
  obtain ⟨RD, hRD⟩ : ∃ RD, RD = readN c s q := ⟨_, rfl⟩
  rw [← hRD]
  unfold readN at hRD
  have HRD := Lib.hid hRD
  have HRL := Lib.hid hRL
  have HSZ := Lib.hid hszR
  have HIN := Lib.hid hin
  have HRS := Lib.hid (fun j hj => rawN_succ c s q.2.at_ j hj)
  have HD := h.ds
  have hsg := h.kb.lt
  have hzn : q.2.size = ((q.2.size.toNat : Nat) : Int) := by omega
  have hz1 : q.2.size.toNat ≤ 24576 := by omega
  rw [show ndV q.1 q.2 (.slice A q.2.at_.length cp) = .agg #[.int .i64 (q.1 : Int), strV q.2.name, .int .i64 ((q.2.size.toNat : Nat) : Int), .slice A q.2.at_.length cp] by unfold ndV; rw [← hzn]] at hlk
  clear hRD hRL hszR hin hps f3 f4 hqm hl h hzn
  obtain ⟨RAW, hRAW⟩ : ∃ R, R = rawN c s q.2.at_ := ⟨_, rfl⟩
  rw [← hRAW] at HRD HRL HSZ
  have HRAW := Lib.hid hRAW
  clear hRAW
  generalize hZ : q.2.size.toNat = Z at *
  clear hZ hz
  generalize q.2.at_ = L at *
  unfold strV at *
  generalize (⟨n.toArray⟩ : ByteArray) = nn at *
  generalize (⟨q.2.name.toArray⟩ : ByteArray) = qn at *
  generalize ((q.1 : Nat) : Int) = qp at *
  have K0 := KB.new w 93 #[.int .i64 qp, .string qn, .int .i64 (Z : Int), .slice A L.length cp]
  have B := (Below.refl w.heap.size w).alloc (Nat.le_refl _) (.cells #[.int .i64 qp, .string qn, .int .i64 (Z : Int), .slice A L.length cp] 93)
  go_enter Tryz.func29, Tryz.ntmps29
  go_wp2_with (go_at_call 42; refine hm.mono ?_; rintro e w' ⟨rfl, rfl⟩)
  refine (hdt _).mono ?_
  rintro e w1 ⟨rfl, b1⟩
  have B1 := B.trans (b1.mono B.size)
  have K1 := K0.below b1 K0.lt
  have d1 := K1.cell 2
  have d2 := K1.cell 3
  have hsz1 := K1.lt
  clear hm hdt K0 B b1 hlk c2 c3 c4 c5 c6
  go_wp2_with fail
  obtain ⟨i0, hi, hi0, hi1, hi2⟩ := info_parts info_byte
  have hL63 : L.length ≤ 9223372036854775807 := by omega
  go_loopw [10, 41] (fun v iv wr => ∃ j : Nat, j ≤ L.length ∧ iv = .int .i64 j ∧ wr.ownsRow w1.heap.size 5 1 v (rawN c s (L.take j)).length ((rawN c s (L.take j)).map bv) ∧ Below w1.heap.size w1 wr) (fun _ iv _ => L.length - (intOf iv).toNat)
  case atStart => exact ⟨0, by omega, rfl, World.ownsRow_nil _ _ _ _, Below.refl _ _⟩
  case round =>
    rename Value => v
    obtain ⟨j, hj, rfl, how, bl⟩ := hrel
    have BL := B1.trans (bl.mono B1.size)
    by_cases hlt : j < L.length
    · obtain ⟨b, o, rfl, _, _, hx⟩ := (hv.below' BL).at_ (by omega)
      have hcj := hx j _ (List.getElem?_eq_getElem hlt)
      have hin := HIN.out _ (List.getElem_mem hlt)
      have hrs := Lib.hid (HRS.out j hlt)
      have hHD := HD.below BL
      generalize L[j] = z at *
      obtain ⟨zn, rfl⟩ : ∃ zn : Nat, z = (zn : Int) := ⟨z.toNat, by omega⟩
      rw [Int.toNat_natCast] at hin hrs
      have hrd := read_ok hHD (c.cn.base + zn) hin.2 hf
      have few := HD.ok.few
      have ew : IntKind.i64.wrap ((c.cn.base : Int) + (zn : Int)) = ((c.cn.base + zn : Nat) : Int) := by rw [IntKind.wrap_i64]; omega
      have hltI : (j : Int) < (L.length : Int) := by omega
      have q0 : wr.cell? ⟨a.sg, 0, none⟩ = some (.pointer (some ⟨a.p.d, 0, none⟩)) := (World.cell?_of_block (w := w) (BL.block _ hsg)).trans c0
      have h256 := HD.ok.now_len _ hin.2
      generalize s.now (c.cn.base + zn) = X at *
      obtain ⟨Y, hY⟩ : ∃ Y, Y = rawN c s (L.take j) := ⟨_, rfl⟩
      rw [← hY] at how hrs
      have hYl : Y.length + X.length ≤ 140737488355328 := by
        have : Y.length = 256 * (L.take j).length := by
          rw [hY]
          exact rawN_len HD.ok fun y hy => (HIN.out y (List.mem_of_mem_take hy)).2
        rw [this, List.length_take]
        omega
      have HYL := Lib.hid hYl
      obtain ⟨Av, cv, rfl, _⟩ := (own_BS how).form
      clear hx hin few hHD hY hYl c0 h256
      go_wp2_with fail
      refine hrd.mono ?_
      rintro e w2 ⟨v2, rfl, o2, b2⟩
      have x2 := own_BS o2
      obtain ⟨A2, c2, rfl, _⟩ := x2.form
      have how2 := own_past b2 how
      have bl2 := bl.trans (b2.mono bl.size)
      clear o2 b2 hrd how
      go_wp2_with (at_builtin; go_loud (refine wpList_grow w2 rfl (.tmp 59) (.tmp 60) _ rfl w1.heap.size 5 i0 Tryz.underlying55 hi hi0 hi1 hi2 _ Y rfl how2 _ _ X rfl x2 HYL.out bl2.size ?_); intro v3 w3 o3 g3 ho3)
      have bl3 : Below w1.heap.size w1 w3 := bl2.grown g3 bl2.size fun g hg => own_ge how2 g hg
      go_wp2_with fail
      go_roundw
      case rel =>
        refine ⟨j + 1, by omega, by go_num, ?_, bl3⟩
        rw [hrs.out]
        exact o3
      case measure => simp [intOf]; omega
    · obtain rfl : j = L.length := by omega
      rw [List.take_length, ← HRAW.out] at how
      have hx := own_BS how
      obtain ⟨A3, c3, rfl, hc3, hm3, hn3⟩ := hx.form
      have K2 := K1.below bl K1.lt
      have q2 : wr.cell? ⟨w.heap.size, 2, none⟩ = some (.int .i64 (Z : Int)) := K2.cell 2
      have hzc : Z ≤ c3 := by have := HSZ.out; omega
      have hres := (hx.take Z HSZ.out).mono (S' := fun b => w.heap.size ≤ b) fun b hb => by have := hb.1; omega
      rw [← HRD.out] at hres
      clear hx K2 how
      go_wp2_with fail
      go_ret2
      exact ⟨_, rfl, hres, BL⟩
end
end
section
open Go.RowKit
def mapF (fl : List Fe) : MapF := fun n => (fl.find? fun x => decide (x.name = n)).map fun x => (x.place, x.at_)
def tkF (c : Cn) (fl : List Fe) : List Bool := (List.range c.files).map fun (k : Nat) => fl.any fun x => decide (x.place = k)
def usF (c : Cn) (fl : List Fe) : List Bool := (List.range c.data).map fun (k : Nat) => fl.any fun x => decide ((k : Int) ∈ x.at_)
def hasN (l : List Fi) (n : List UInt8) : Bool := l.any fun f => decide (f.name = n)
def nextF (c : Cn) (fl : List Fe) (l : List Fi) : List Fe :=
  (fl.filter fun x => !hasN l x.name) ++ ((chsM (mapF fl) (tkF c fl) (usF c fl) l).filter fun h => !h.to.gone).map Ch.fe
def zerP (c : Cn) (l : List Int) : List Pt := l.map fun z => ((c.base : Int) + z, zs 256)
def headS (c : Cn) (h : Ch) : List UInt8 := if h.to.gone = true then zs 256 else nodeS c h.fe
def patH (c : Cn) (h : Ch) : List Pt := (((c.nodes + h.place : Nat) : Int), headS c h) :: (patB c h.at_ h.to.b ++ zerP c h.loses)
def patsH (c : Cn) (l : List Ch) : List Pt := l.flatMap (patH c)
structure Can13 (c : Cn) (fl : List Fe) (l : List Fi) : Prop where
  name : ∀ f ∈ l, nameS f.name = true
  names : (l.map (·.name)).Nodup
  bare : ∀ f ∈ l, f.gone = true → f.b = []
  size : ∀ f ∈ l, f.b.length ≤ 24576
  there : ∀ f ∈ l, f.gone = true → mapF fl f.name ≠ none
  fresh : freshC (mapF fl) l ≤ freeC (tkF c fl)
  grow : growC (mapF fl) l ≤ freeC (usF c fl)
theorem mapF_some {fl : List Fe} {n : List UInt8} {q : Nat × List Int} (h : mapF fl n = some q) : ∃ x ∈ fl, x.name = n ∧ q = (x.place, x.at_) := by
  unfold mapF at h
  obtain ⟨x, hx, e⟩ := Option.map_eq_some_iff.1 h
  exact ⟨x, List.mem_of_find?_eq_some hx, by simpa using List.find?_some hx, e.symm⟩
theorem mapF_mem {fl : List Fe} (hn : (fl.map (·.name)).Nodup) {x : Fe} (hx : x ∈ fl) : mapF fl x.name = some (x.place, x.at_) := by
  unfold mapF
  cases h : fl.find? (fun y => decide (y.name = x.name)) with
  | none => exact absurd (List.find?_eq_none.1 h x hx) (by simp)
  | some y =>
    have hy := List.mem_of_find?_eq_some h
    have e : y.name = x.name := by simpa using List.find?_some h
    rw [nodup_inj hn y hy x hx e]
    rfl
theorem mapF_none {fl : List Fe} {n : List UInt8} (h : mapF fl n = none) : ∀ x ∈ fl, x.name ≠ n := by
  intro x hx e
  unfold mapF at h
  rw [Option.map_eq_none_iff, List.find?_eq_none] at h
  exact h x hx (by simpa using e)
theorem tkF_len (c : Cn) (fl : List Fe) : (tkF c fl).length = c.files := by simp [tkF]
theorem usF_len (c : Cn) (fl : List Fe) : (usF c fl).length = c.data := by simp [usF]
theorem free_tk {c : Cn} {fl : List Fe} {z : Int} : isFree (tkF c fl) z ↔ 0 ≤ z ∧ z < c.files ∧ ∀ x ∈ fl, (x.place : Int) ≠ z := by
  unfold isFree
  rw [tkF_len]
  constructor
  · rintro ⟨h1, h2, h3⟩
    refine ⟨h1, h2, fun x hx e => ?_⟩
    rw [List.getD_eq_getElem?_getD] at h3
    unfold tkF at h3
    rw [List.getElem?_map, List.getElem?_range (by omega), Option.map_some, Option.getD_some, List.any_eq_false] at h3
    exact h3 x hx (by simpa using (by omega : x.place = z.toNat))
  · rintro ⟨h1, h2, h3⟩
    refine ⟨h1, h2, ?_⟩
    rw [List.getD_eq_getElem?_getD]
    unfold tkF
    rw [List.getElem?_map, List.getElem?_range (by omega), Option.map_some, Option.getD_some, List.any_eq_false]
    intro x hx e
    have : x.place = z.toNat := by simpa using e
    exact h3 x hx (by omega)
theorem free_us {c : Cn} {fl : List Fe} {z : Int} : isFree (usF c fl) z ↔ 0 ≤ z ∧ z < c.data ∧ ∀ x ∈ fl, z ∉ x.at_ := by
  unfold isFree
  rw [usF_len]
  have hz : 0 ≤ z → ((z.toNat : Nat) : Int) = z := fun h => by omega
  constructor
  · rintro ⟨h1, h2, h3⟩
    refine ⟨h1, h2, fun x hx e => ?_⟩
    rw [List.getD_eq_getElem?_getD] at h3
    unfold usF at h3
    rw [List.getElem?_map, List.getElem?_range (by omega), Option.map_some, Option.getD_some, List.any_eq_false, hz h1] at h3
    exact h3 x hx (by simpa using e)
  · rintro ⟨h1, h2, h3⟩
    refine ⟨h1, h2, ?_⟩
    rw [List.getD_eq_getElem?_getD]
    unfold usF
    rw [List.getElem?_map, List.getElem?_range (by omega), Option.map_some, Option.getD_some, List.any_eq_false, hz h1]
    intro x hx e
    exact h3 x hx (by simpa using e)
theorem had_mem {fl : List Fe} {n : List UInt8} {z : Int} (h : z ∈ hadM (mapF fl) n) : ∃ x ∈ fl, x.name = n ∧ hadM (mapF fl) n = x.at_ := by
  unfold hadM at h ⊢
  cases hm : mapF fl n with
  | none => rw [hm] at h; cases h
  | some q =>
    obtain ⟨x, hx, e1, e2⟩ := mapF_some hm
    exact ⟨x, hx, e1, by rw [e2]; rfl⟩
theorem had_used (c : Cn) (fl : List Fe) : ∀ n z, z ∈ hadM (mapF fl) n → ¬ isFree (usF c fl) z := by
  intro n z h hf
  obtain ⟨x, hx, _, e⟩ := had_mem h
  rw [e] at h
  exact (free_us.1 hf).2.2 x hx h
theorem had_of {fl : List Fe} (hn : (fl.map (·.name)).Nodup) {x : Fe} (hx : x ∈ fl) : hadM (mapF fl) x.name = x.at_ := by
  unfold hadM
  rw [mapF_mem hn hx]
  rfl
theorem had_ok {c : Cn} {fl : List Fe} (g : Fine13 c fl) (n : List UInt8) : okB (hadM (mapF fl) n) c.data := by
  unfold hadM
  cases hm : mapF fl n with
  | none => intro j hj; exact absurd hj (Nat.not_lt_zero _)
  | some q =>
    obtain ⟨x, hx, _, rfl⟩ := mapF_some hm
    exact (g.each x hx).at_
theorem hasN_iff {l : List Fi} {n : List UInt8} : hasN l n = true ↔ ∃ f ∈ l, f.name = n := by simp [hasN]
theorem okB_of {l : List Int} {n : Int} (h : l.Pairwise (· < ·)) (hb : ∀ z ∈ l, 0 ≤ z ∧ z < n) : okB l n := by
  intro j hj
  have e : l.getD j 0 = l[j] := by rw [List.getD_eq_getElem?_getD, List.getElem?_eq_getElem hj]; rfl
  have hm := hb _ (List.getElem_mem hj)
  refine ⟨by rw [e]; exact hm.1, by rw [e]; exact hm.2, fun h0 => ?_⟩
  have e2 : l.getD (j - 1) 0 = l[j - 1] := by rw [List.getD_eq_getElem?_getD, List.getElem?_eq_getElem (by omega)]; rfl
  rw [e, e2]
  exact List.pairwise_iff_getElem.1 h (j - 1) j (by omega) hj (by omega)
theorem sortI_rise {l : List Int} (h : l.Nodup) : (sortI l).Pairwise (· < ·) := by
  have tr : ∀ a b c : Int, decide (a ≤ b) = true → decide (b ≤ c) = true → decide (a ≤ c) = true := fun a b c h1 h2 => by simp only [decide_eq_true_eq] at *; omega
  have to : ∀ a b : Int, (decide (a ≤ b) || decide (b ≤ a)) = true := fun a b => by simp only [Bool.or_eq_true, decide_eq_true_eq]; omega
  have h1 := List.pairwise_mergeSort tr to l
  have h2 : (sortI l).Nodup := (List.mergeSort_perm l _).nodup_iff.2 h
  have h2' : (sortI l).Pairwise (· ≠ ·) := h2
  exact (h1.and h2').imp fun {a b} ⟨x, y⟩ => by
    have : a ≤ b := by simpa using x
    omega
section
variable {c : Cn} {fl : List Fe} {l : List Fi}
theorem can_gets (g : Can13 c fl l) : (∀ h ∈ chsM (mapF fl) (tkF c fl) (usF c fl) l, Gets (mapF fl) (tkF c fl) (usF c fl) h) ∧ (chsM (mapF fl) (tkF c fl) (usF c fl) l).Pairwise (Apart13 (mapF fl) (usF c fl)) :=
  chsM_gets (mapF fl) l (tkF c fl) (usF c fl) g.fresh g.grow (had_used c fl)
theorem chs_in (h : Ch) (hh : h ∈ chsM (mapF fl) (tkF c fl) (usF c fl) l) : h.to ∈ l := by
  rw [← chsM_to (mapF fl) l (tkF c fl) (usF c fl)]
  exact List.mem_map.2 ⟨h, hh, rfl⟩
theorem chs_of {f : Fi} (hf : f ∈ l) : ∃ h ∈ chsM (mapF fl) (tkF c fl) (usF c fl) l, h.to = f := by
  rw [← chsM_to (mapF fl) l (tkF c fl) (usF c fl)] at hf
  obtain ⟨h, hh, e⟩ := List.mem_map.1 hf
  exact ⟨h, hh, e⟩
theorem chs_names (g : Can13 c fl l) : ((chsM (mapF fl) (tkF c fl) (usF c fl) l).map (·.to.name)).Nodup := by
  have := g.names
  rw [← chsM_to (mapF fl) l (tkF c fl) (usF c fl), List.map_map] at this
  exact this
theorem chs_one (g : Can13 c fl l) {h k : Ch} (hh : h ∈ chsM (mapF fl) (tkF c fl) (usF c fl) l) (hk : k ∈ chsM (mapF fl) (tkF c fl) (usF c fl) l) (e : h.to.name = k.to.name) : h = k :=
  nodup_inj (f := fun h : Ch => h.to.name) (chs_names g) h hh k hk e
theorem chs_apart (g : Can13 c fl l) {h k : Ch} (hh : h ∈ chsM (mapF fl) (tkF c fl) (usF c fl) l) (hk : k ∈ chsM (mapF fl) (tkF c fl) (usF c fl) l) (hne : h ≠ k) :
    (mapF fl h.to.name = none → mapF fl k.to.name = none → h.place ≠ k.place) ∧ ∀ z, isFree (usF c fl) z → z ∈ h.at_ → z ∉ k.at_ := by
  obtain ⟨i, hi, rfl⟩ := List.mem_iff_getElem.1 hh
  obtain ⟨j, hj, rfl⟩ := List.mem_iff_getElem.1 hk
  have hp := List.pairwise_iff_getElem.1 (can_gets g).2
  rcases Nat.lt_trichotomy i j with h | h | h
  · exact hp i j hi hj h
  · subst h; exact absurd rfl hne
  · obtain ⟨h1, h2⟩ := hp j i hj hi h
    exact ⟨fun a b e => h1 b a e.symm, fun z hz ha hb => h2 z hz hb ha⟩
theorem gets_at {h : Ch} (g : Gets (mapF fl) (tkF c fl) (usF c fl) h) {z : Int} (hz : z ∈ h.at_) : z ∈ (hadM (mapF fl) h.to.name).take (keepN (mapF fl) h.to) ∨ isFree (usF c fl) z := by
  obtain ⟨q, e, _, _, e4⟩ := g.at_
  rw [e, mem_sortI, List.mem_append] at hz
  rcases hz with hz | hz
  · exact .inl hz
  · exact .inr (e4 z hz)
theorem gets_kept {h : Ch} (g : Gets (mapF fl) (tkF c fl) (usF c fl) h) {z : Int} (hz : z ∈ hadM (mapF fl) h.to.name) : z ∈ h.at_ ∨ z ∈ h.loses := by
  obtain ⟨q, e, _, _, _⟩ := g.at_
  rw [← List.take_append_drop (keepN (mapF fl) h.to) (hadM (mapF fl) h.to.name), List.mem_append] at hz
  rw [e, mem_sortI, List.mem_append, g.loses]
  rcases hz with hz | hz
  · exact .inl (.inl hz)
  · exact .inr hz
theorem gets_len {h : Ch} (g : Gets (mapF fl) (tkF c fl) (usF c fl) h) : h.at_.length = pagesN h.to.b.length := by
  obtain ⟨q, e, e2, _, _⟩ := g.at_
  rw [e, sortI_len, List.length_append, List.length_take, e2]
  unfold keepN
  omega
theorem gets_ok (gf : Fine13 c fl) {h : Ch} (g : Gets (mapF fl) (tkF c fl) (usF c fl) h) : okB h.at_ c.data := by
  obtain ⟨q, e, e2, e3, e4⟩ := g.at_
  have ho := had_ok gf h.to.name
  rw [e]
  refine okB_of (sortI_rise ?_) fun z hz => ?_
  · have n1 : (hadM (mapF fl) h.to.name).Nodup := (okB_pair ho).imp fun {a b} h => by omega
    have n2 : q.Nodup := e3.imp fun {a b} h => by omega
    refine List.nodup_append.2 ⟨n1.sublist (List.take_sublist _ _), n2, fun a ha b hb e => ?_⟩
    subst e
    exact had_used c fl _ _ (List.mem_of_mem_take ha) (e4 _ hb)
  · rw [mem_sortI, List.mem_append] at hz
    rcases hz with hz | hz
    · exact okB_mem ho (List.mem_of_mem_take hz)
    · have := free_us.1 (e4 z hz)
      exact ⟨this.1, this.2.1⟩
theorem gets_place (gf : Fine13 c fl) {h : Ch} (g : Gets (mapF fl) (tkF c fl) (usF c fl) h) : h.place < c.files := by
  rcases g.place with ⟨q, hq, e⟩ | ⟨_, hf⟩
  · obtain ⟨x, hx, _, rfl⟩ := mapF_some hq
    rw [e]
    exact (gf.each x hx).place
  · have := free_tk.1 hf
    omega
theorem gets_loses (gf : Fine13 c fl) {h : Ch} (g : Gets (mapF fl) (tkF c fl) (usF c fl) h) {z : Int} (hz : z ∈ h.loses) : z ∈ hadM (mapF fl) h.to.name ∧ z ∉ h.at_ := by
  rw [g.loses] at hz
  refine ⟨List.mem_of_mem_drop hz, fun hm => ?_⟩
  have ho := had_ok gf h.to.name
  rcases gets_at g hm with h1 | h1
  · have n1 : (hadM (mapF fl) h.to.name).Nodup := (okB_pair ho).imp fun {a b} h => by omega
    rw [← List.take_append_drop (keepN (mapF fl) h.to) (hadM (mapF fl) h.to.name), List.nodup_append] at n1
    exact n1.2.2 z h1 z hz rfl
  · exact had_used c fl _ _ (List.mem_of_mem_drop hz) h1
theorem place_ne (gf : Fine13 c fl) (g : Can13 c fl l) {h k : Ch} (hh : h ∈ chsM (mapF fl) (tkF c fl) (usF c fl) l) (hk : k ∈ chsM (mapF fl) (tkF c fl) (usF c fl) l) (e : h.place = k.place) : h = k := by
  rcases Classical.em (h = k) with e' | hne
  · exact e'
  have g1 := (can_gets g).1 h hh
  have g2 := (can_gets g).1 k hk
  rcases g1.place with ⟨q, hq, e1⟩ | ⟨hn, hf⟩
  · obtain ⟨x, hx, ex, rfl⟩ := mapF_some hq
    rcases g2.place with ⟨q', hq', e2⟩ | ⟨hn', hf'⟩
    · obtain ⟨y, hy, ey, rfl⟩ := mapF_some hq'
      have := gf.place x hx y hy (e1.symm.trans (e.trans e2))
      subst this
      exact chs_one g hh hk (ex.symm.trans ey)
    · exact absurd (by rw [← e, e1]) ((free_tk.1 hf').2.2 x hx)
  · rcases g2.place with ⟨q', hq', e2⟩ | ⟨hn', hf'⟩
    · obtain ⟨y, hy, ey, rfl⟩ := mapF_some hq'
      exact absurd (by rw [e, e2]) ((free_tk.1 hf).2.2 y hy)
    · exact absurd e ((chs_apart g hh hk hne).1 hn hn')
theorem place_old (gf : Fine13 c fl) (g : Can13 c fl l) {h : Ch} (hh : h ∈ chsM (mapF fl) (tkF c fl) (usF c fl) l) {x : Fe} (hx : x ∈ fl) (e : x.place = h.place) : h.to.name = x.name := by
  rcases ((can_gets g).1 h hh).place with ⟨q, hq, e1⟩ | ⟨hn, hf⟩
  · obtain ⟨y, hy, ey, rfl⟩ := mapF_some hq
    rw [gf.place x hx y hy (e.trans e1)]
    exact ey.symm
  · exact absurd (by rw [e]) ((free_tk.1 hf).2.2 x hx)
theorem sector_ne (gf : Fine13 c fl) (g : Can13 c fl l) {h k : Ch} (hh : h ∈ chsM (mapF fl) (tkF c fl) (usF c fl) l) (hk : k ∈ chsM (mapF fl) (tkF c fl) (usF c fl) l) {z : Int} (h1 : z ∈ h.at_ ∨ z ∈ h.loses) (h2 : z ∈ k.at_ ∨ z ∈ k.loses) : h = k := by
  rcases Classical.em (h = k) with e' | hne
  · exact e'
  have g1 := (can_gets g).1 h hh
  have g2 := (can_gets g).1 k hk
  have a1 : z ∈ hadM (mapF fl) h.to.name ∨ (isFree (usF c fl) z ∧ z ∈ h.at_) := by
    rcases h1 with h1 | h1
    · rcases gets_at g1 h1 with h | h
      · exact .inl (List.mem_of_mem_take h)
      · exact .inr ⟨h, h1⟩
    · exact .inl (gets_loses gf g1 h1).1
  have a2 : z ∈ hadM (mapF fl) k.to.name ∨ (isFree (usF c fl) z ∧ z ∈ k.at_) := by
    rcases h2 with h2 | h2
    · rcases gets_at g2 h2 with h | h
      · exact .inl (List.mem_of_mem_take h)
      · exact .inr ⟨h, h2⟩
    · exact .inl (gets_loses gf g2 h2).1
  rcases a1 with a1 | ⟨f1, a1⟩
  · rcases a2 with a2 | ⟨f2, _⟩
    · obtain ⟨x, hx, ex, e1⟩ := had_mem a1
      obtain ⟨y, hy, ey, e2⟩ := had_mem a2
      rw [e1] at a1
      rw [e2] at a2
      have := gf.at_ x hx y hy z a1 a2
      subst this
      exact chs_one g hh hk (ex.symm.trans ey)
    · exact absurd f2 (had_used c fl _ _ a1)
  · rcases a2 with a2 | ⟨_, a2⟩
    · exact absurd f1 (had_used c fl _ _ a2)
    · exact absurd a2 ((chs_apart g hh hk hne).2 z f1 a1)
theorem sector_old (gf : Fine13 c fl) (g : Can13 c fl l) {h : Ch} (hh : h ∈ chsM (mapF fl) (tkF c fl) (usF c fl) l) {x : Fe} (hx : x ∈ fl) {z : Int} (h1 : z ∈ h.at_ ∨ z ∈ h.loses) (h2 : z ∈ x.at_) : h.to.name = x.name := by
  have g1 := (can_gets g).1 h hh
  have a1 : z ∈ hadM (mapF fl) h.to.name := by
    rcases h1 with h1 | h1
    · rcases gets_at g1 h1 with h | h
      · exact List.mem_of_mem_take h
      · exact absurd h2 ((free_us.1 h).2.2 x hx)
    · exact (gets_loses gf g1 h1).1
  obtain ⟨y, hy, ey, e⟩ := had_mem a1
  rw [e] at a1
  rw [gf.at_ x hx y hy z h2 a1]
  exact ey.symm
theorem mem_next {x : Fe} : x ∈ nextF c fl l ↔ (x ∈ fl ∧ hasN l x.name = false) ∨ ∃ h ∈ chsM (mapF fl) (tkF c fl) (usF c fl) l, h.to.gone = false ∧ x = h.fe := by
  unfold nextF
  rw [List.mem_append, List.mem_filter, List.mem_map]
  simp only [Bool.not_eq_true']
  constructor
  · rintro (h | ⟨h, hh, e⟩)
    · exact .inl h
    · rw [List.mem_filter] at hh
      exact .inr ⟨h, hh.1, by simpa using hh.2, e.symm⟩
  · rintro (h | ⟨h, hh, hg, e⟩)
    · exact .inl h
    · exact .inr ⟨h, List.mem_filter.2 ⟨hh, by simpa using hg⟩, e.symm⟩
theorem fe_ok (gf : Fine13 c fl) (g : Can13 c fl l) {h : Ch} (hh : h ∈ chsM (mapF fl) (tkF c fl) (usF c fl) l) : h.fe.ok c :=
  have g1 := (can_gets g).1 h hh
  ⟨gets_place gf g1, g.name _ (chs_in h hh), g.size _ (chs_in h hh), gets_len g1, gets_ok gf g1⟩
theorem next_fine (gf : Fine13 c fl) (g : Can13 c fl l) : Fine13 c (nextF c fl l) := by
  refine ⟨fun x hx => ?_, ?_, fun x hx y hy e => ?_, fun x hx y hy z h1 h2 => ?_⟩
  · rcases mem_next.1 hx with ⟨hx, _⟩ | ⟨h, hh, _, rfl⟩
    · exact gf.each x hx
    · exact fe_ok gf g hh
  · unfold nextF
    rw [List.map_append, List.nodup_append]
    refine ⟨gf.names.sublist (List.Sublist.map _ List.filter_sublist), ?_, ?_⟩
    · rw [List.map_map]
      exact (chs_names g).sublist (List.Sublist.map _ List.filter_sublist)
    · rintro a ha b hb rfl
      obtain ⟨x, hx, rfl⟩ := List.mem_map.1 ha
      obtain ⟨y, hy, e⟩ := List.mem_map.1 hb
      obtain ⟨h, hh, rfl⟩ := List.mem_map.1 hy
      have h1 := (List.mem_filter.1 hx).2
      have h2 := chs_in h (List.mem_filter.1 hh).1
      have : hasN l x.name = true := hasN_iff.2 ⟨_, h2, e⟩
      rw [this] at h1
      cases h1
  · rcases mem_next.1 hx with ⟨hx, nx⟩ | ⟨h, hh, _, rfl⟩
    · rcases mem_next.1 hy with ⟨hy, ny⟩ | ⟨k, hk, _, rfl⟩
      · exact gf.place x hx y hy e
      · have := place_old gf g hk hx e
        rw [hasN_iff.2 ⟨_, chs_in k hk, this⟩] at nx
        cases nx
    · rcases mem_next.1 hy with ⟨hy, ny⟩ | ⟨k, hk, _, rfl⟩
      · have := place_old gf g hh hy e.symm
        rw [hasN_iff.2 ⟨_, chs_in h hh, this⟩] at ny
        cases ny
      · rw [place_ne gf g hh hk e]
  · rcases mem_next.1 hx with ⟨hx, nx⟩ | ⟨h, hh, _, rfl⟩
    · rcases mem_next.1 hy with ⟨hy, ny⟩ | ⟨k, hk, _, rfl⟩
      · exact gf.at_ x hx y hy z h1 h2
      · have := sector_old gf g hk hx (.inl h2) h1
        rw [hasN_iff.2 ⟨_, chs_in k hk, this⟩] at nx
        cases nx
    · rcases mem_next.1 hy with ⟨hy, ny⟩ | ⟨k, hk, _, rfl⟩
      · have := sector_old gf g hh hy (.inl h1) h2
        rw [hasN_iff.2 ⟨_, chs_in h hh, this⟩] at ny
        cases ny
      · rw [sector_ne gf g hh hk (.inl h1) (.inl h2)]
theorem mem_patH {h : Ch} {p : Pt} : p ∈ patH c h ↔ p = (((c.nodes + h.place : Nat) : Int), headS c h) ∨ p ∈ patB c h.at_ h.to.b ∨ ∃ z ∈ h.loses, p = ((c.base : Int) + z, zs 256) := by
  unfold patH zerP
  rw [List.mem_cons, List.mem_append, List.mem_map]
  constructor
  · rintro (h | h | ⟨z, hz, e⟩)
    · exact .inl h
    · exact .inr (.inl h)
    · exact .inr (.inr ⟨z, hz, e.symm⟩)
  · rintro (h | h | ⟨z, hz, e⟩)
    · exact .inl h
    · exact .inr (.inl h)
    · exact .inr (.inr ⟨z, hz, e.symm⟩)
theorem head_len (hc : c.ok) (gf : Fine13 c fl) (g : Can13 c fl l) {h : Ch} (hh : h ∈ chsM (mapF fl) (tkF c fl) (usF c fl) l) : (headS c h).length = 256 := by
  unfold headS
  split
  · exact zs_len 256
  · exact node_len hc (fe_ok gf g hh)
theorem pat_in (hc : c.ok) (gf : Fine13 c fl) (g : Can13 c fl l) {h : Ch} (hh : h ∈ chsM (mapF fl) (tkF c fl) (usF c fl) l) {p : Pt} (hp : p ∈ patH c h) : (c.log : Int) < p.1 ∧ p.1 < c.size ∧ p.2.length = 256 := by
  have g1 := (can_gets g).1 h hh
  have ho := gets_ok gf g1
  have hpl := gets_place gf g1
  unfold Cn.size
  rcases mem_patH.1 hp with rfl | hp | ⟨z, hz, rfl⟩
  · refine ⟨?_, ?_, head_len hc gf g hh⟩
    · show (c.log : Int) < ((c.nodes + h.place : Nat) : Int)
      unfold Cn.nodes
      omega
    · show ((c.nodes + h.place : Nat) : Int) < _
      unfold Cn.nodes
      omega
  · obtain ⟨j, z, b, h1, h2, rfl⟩ := mem_patB hp
    have hz := okB_mem ho (List.mem_of_getElem? h1)
    refine ⟨?_, ?_, cutS_256 (List.mem_of_getElem? h2)⟩
    · show (c.log : Int) < (c.base : Int) + z
      unfold Cn.base
      omega
    · show (c.base : Int) + z < _
      unfold Cn.base
      omega
  · have hz2 := okB_mem (had_ok gf h.to.name) (gets_loses gf g1 hz).1
    refine ⟨?_, ?_, zs_len 256⟩
    · show (c.log : Int) < (c.base : Int) + z
      unfold Cn.base
      omega
    · show (c.base : Int) + z < _
      unfold Cn.base
      omega
def numsH (c : Cn) (h : Ch) : List Int := ((c.nodes + h.place : Nat) : Int) :: (h.at_ ++ h.loses).map fun z => (c.base : Int) + z
theorem patB_nums {c : Cn} {at_ : List Int} {b : List UInt8} (h : at_.length = pagesN b.length) : (patB c at_ b).map (·.1) = at_.map fun z => (c.base : Int) + z := by
  unfold patB
  rw [List.map_map]
  have : (at_.zip (cutS b)).map Prod.fst = at_ := List.map_fst_zip (by rw [cutS_len]; omega)
  conv => rhs; rw [← this, List.map_map]
  rfl
theorem patH_nums {h : Ch} (g : Gets (mapF fl) (tkF c fl) (usF c fl) h) : (patH c h).map (·.1) = numsH c h := by
  unfold patH numsH zerP
  rw [List.map_cons, List.map_append, patB_nums (gets_len g), List.map_map, List.map_append]
  rfl
theorem patH_nodup (gf : Fine13 c fl) (g : Can13 c fl l) {h : Ch} (hh : h ∈ chsM (mapF fl) (tkF c fl) (usF c fl) l) : ((patH c h).map (·.1)).Nodup := by
  have g1 := (can_gets g).1 h hh
  rw [patH_nums g1]
  have hpl := gets_place gf g1
  have ho := gets_ok gf g1
  have hh2 := had_ok gf h.to.name
  unfold numsH
  refine List.nodup_cons.2 ⟨fun hm => ?_, ?_⟩
  · obtain ⟨z, hz, e⟩ := List.mem_map.1 hm
    have : 0 ≤ z := by
      rcases List.mem_append.1 hz with hz | hz
      · exact (okB_mem ho hz).1
      · exact (okB_mem hh2 (gets_loses gf g1 hz).1).1
    unfold Cn.base Cn.nodes at e
    omega
  · have hstep : ∀ {a b : Int}, a ≠ b → (c.base : Int) + a ≠ (c.base : Int) + b := fun hne e => hne (by omega)
    refine List.pairwise_map.2 (List.Pairwise.imp hstep ?_)
    show (h.at_ ++ h.loses).Nodup
    refine List.nodup_append.2 ⟨(okB_pair ho).imp fun {a b} h => by omega, ?_, fun a ha b hb e => ?_⟩
    · rw [g1.loses]
      exact (List.Pairwise.imp (fun {a b} h => by omega) (okB_pair hh2) : (hadM (mapF fl) h.to.name).Nodup).sublist (List.drop_sublist _ _)
    · subst e
      exact (gets_loses gf g1 hb).2 ha
theorem mem_numsH {h : Ch} {a : Int} : a ∈ numsH c h ↔ a = ((c.nodes + h.place : Nat) : Int) ∨ ∃ z, (z ∈ h.at_ ∨ z ∈ h.loses) ∧ a = (c.base : Int) + z := by
  unfold numsH
  rw [List.mem_cons, List.mem_map]
  simp only [List.mem_append]
  constructor
  · rintro (h | ⟨z, hz, e⟩)
    · exact .inl h
    · exact .inr ⟨z, hz, e.symm⟩
  · rintro (h | ⟨z, hz, e⟩)
    · exact .inl h
    · exact .inr ⟨z, hz, e.symm⟩
theorem sec_pos (gf : Fine13 c fl) {h : Ch} (g1 : Gets (mapF fl) (tkF c fl) (usF c fl) h) {z : Int} (hz : z ∈ h.at_ ∨ z ∈ h.loses) : 0 ≤ z ∧ z < c.data := by
  rcases hz with hz | hz
  · exact okB_mem (gets_ok gf g1) hz
  · exact okB_mem (had_ok gf h.to.name) (gets_loses gf g1 hz).1
theorem nums_apart (gf : Fine13 c fl) (g : Can13 c fl l) {h k : Ch} (hh : h ∈ chsM (mapF fl) (tkF c fl) (usF c fl) l) (hk : k ∈ chsM (mapF fl) (tkF c fl) (usF c fl) l) {a : Int} (h1 : a ∈ numsH c h) (h2 : a ∈ numsH c k) : h = k := by
  have g1 := (can_gets g).1 h hh
  have g2 := (can_gets g).1 k hk
  have p1 := gets_place gf g1
  have p2 := gets_place gf g2
  rcases mem_numsH.1 h1 with e1 | ⟨z, hz, e1⟩
  · rcases mem_numsH.1 h2 with e2 | ⟨y, hy, e2⟩
    · exact place_ne gf g hh hk (by omega)
    · have := sec_pos gf g2 hy
      unfold Cn.base Cn.nodes at *
      omega
  · have := sec_pos gf g1 hz
    rcases mem_numsH.1 h2 with e2 | ⟨y, hy, e2⟩
    · unfold Cn.base Cn.nodes at *
      omega
    · obtain rfl : z = y := by omega
      exact sector_ne gf g hh hk hz hy
theorem nodup_flat {α β : Type} {f : α → List β} : ∀ {l : List α}, l.Nodup → (∀ a ∈ l, (f a).Nodup) → (∀ a ∈ l, ∀ b ∈ l, ∀ x, x ∈ f a → x ∈ f b → a = b) → (l.flatMap f).Nodup
  | [], _, _, _ => List.nodup_nil
  | a :: r, hn, h1, h2 => by
    rw [List.flatMap_cons, List.nodup_append]
    rw [List.nodup_cons] at hn
    refine ⟨h1 a (by simp), nodup_flat hn.2 (fun b hb => h1 b (by simp [hb])) fun b hb d hd => h2 b (by simp [hb]) d (by simp [hd]), fun x hx y hy e => ?_⟩
    subst e
    obtain ⟨b, hb, hxb⟩ := List.mem_flatMap.1 hy
    have := h2 a (by simp) b (by simp [hb]) x hx hxb
    subst this
    exact hn.1 hb
theorem patsH_nodup (gf : Fine13 c fl) (g : Can13 c fl l) : ((patsH c (chsM (mapF fl) (tkF c fl) (usF c fl) l)).map (·.1)).Nodup := by
  unfold patsH
  rw [List.map_flatMap]
  refine nodup_flat (nodup_of_map (chs_names g)) (fun h hh => patH_nodup gf g hh) fun h hh k hk a h1 h2 => ?_
  rw [patH_nums ((can_gets g).1 h hh)] at h1
  rw [patH_nums ((can_gets g).1 k hk)] at h2
  exact nums_apart gf g hh hk h1 h2
theorem pats_takes (hc : c.ok) (gf : Fine13 c fl) (g : Can13 c fl l) : takesB c.log c.size (patsH c (chsM (mapF fl) (tkF c fl) (usF c fl) l)) = true := by
  refine takes_yes fun i hi => ?_
  have hm := List.getElem_mem hi
  obtain ⟨h, hh, hp⟩ := List.mem_flatMap.1 hm
  obtain ⟨h1, h2, h3⟩ := pat_in hc gf g hh hp
  have hn := List.pairwise_iff_getElem.1 (patsH_nodup gf g)
  unfold okAt
  rw [getD_pt hi]
  refine ⟨h1, h2, h3, fun j hj => ?_⟩
  rw [getD_pt (by omega)]
  have := hn j i (by rw [List.length_map]; omega) (by rw [List.length_map]; exact hi) hj
  rwa [List.getElem_map, List.getElem_map] at this
theorem patH_len {h : Ch} (g : Gets (mapF fl) (tkF c fl) (usF c fl) h) : (patH c h).length = 1 + max (hadM (mapF fl) h.to.name).length (pagesN h.to.b.length) := by
  have := congrArg List.length (patH_nums g)
  rw [List.length_map] at this
  rw [this]
  unfold numsH
  rw [List.length_cons, List.length_map, List.length_append, gets_len g, g.loses, List.length_drop]
  unfold keepN
  omega
theorem patsH_len (g : Can13 c fl l) : (patsH c (chsM (mapF fl) (tkF c fl) (usF c fl) l)).length = costC (mapF fl) l := by
  unfold patsH costC
  rw [List.length_flatMap]
  congr 1
  conv => rhs; rw [← chsM_to (mapF fl) l (tkF c fl) (usF c fl)]
  rw [List.map_map]
  refine List.map_congr_left fun h hh => ?_
  exact patH_len ((can_gets g).1 h hh)
end
end
end Go.Proofs.YteddmnoeljakpaaGreatDoor
