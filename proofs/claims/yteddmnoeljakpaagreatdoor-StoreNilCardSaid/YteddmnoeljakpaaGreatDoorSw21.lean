/-
  StM: Files on a disk, plainly: how a disk is parted, which files may be together, what each sector holds of them. No program, no condition.
  StA: How a disk is parted (layer 13): within, nodes, end, Check, Size, Slots, Data, over the loaded program: each one's contract. No condition but bounds that each contract names.
  WbA: The document's own lists, Room and Right (layer 10), over the loaded program: each one's contract. No condition but what each theorem names.
  SameAll: The document's SameAll (layer 1), over the loaded program: its contract. No condition.
  WbB: What the statements of layer 10 hand in: Of; SameAll; over the loaded program. No condition but what each theorem names.
  Copy: The document's Copy (layer 1), over the loaded program: its contract. No condition but the sizes that it names.
  WbC: The document's own Done (layer 10), over the loaded program: its contract. No condition but what it names.
  WbD: Commit of any patches, whether they are refused or not, and crashes behind it, plainly; Commit's contract for all patches. No condition but what each theorem names.
-/
import Derived.Test.YteddmnoeljakpaaGreatDoorSw18
import Derived.Test.YteddmnoeljakpaaGreatDoorSw20
import Derived.Test.YteddmnoeljakpaaGreatDoorSw12
import Derived.Test.YteddmnoeljakpaaGreatDoorSw11
import Derived.Deep.RegionHeld3
import Derived.Test.YteddmnoeljakpaaGreatDoorSw00
import Derived.WalkSpells
import Derived.BigQuiet
import Derived.Deep.QuietTactic
set_option linter.unusedVariables false
set_option maxRecDepth 100000
namespace Go.Proofs.YteddmnoeljakpaaGreatDoor
section
open Go.RowKit
structure Cn where
  log : Nat
  files : Nat
  slots : Nat
  data : Nat
structure Cn.ok (c : Cn) : Prop where
  log1 : 2 ≤ c.log
  log2 : c.log ≤ 400
  files1 : 1 ≤ c.files
  files2 : c.files ≤ 64
  slots2 : c.slots ≤ 16
  data1 : 1 ≤ c.data
  data2 : c.data ≤ 800
  all : 1 + c.log + c.files + c.slots + c.data ≤ 1024
def Cn.nodes (c : Cn) : Nat := 1 + c.log
def Cn.base (c : Cn) : Nat := 1 + c.log + c.files + c.slots
def Cn.size (c : Cn) : Nat := 1 + c.log + c.files + c.slots + c.data
structure Fe where
  place : Nat
  name : List UInt8
  b : List UInt8
  at_ : List Int
def Fe.ino (x : Fe) : Ino := ⟨x.name, (x.b.length : Int), x.at_⟩
structure Fe.ok (c : Cn) (x : Fe) : Prop where
  place : x.place < c.files
  name : nameS x.name = true
  size : x.b.length ≤ 24576
  len : x.at_.length = pagesN x.b.length
  at_ : okB x.at_ c.data
structure Fine13 (c : Cn) (fl : List Fe) : Prop where
  each : ∀ x ∈ fl, x.ok c
  names : (fl.map (·.name)).Nodup
  place : ∀ x ∈ fl, ∀ y ∈ fl, x.place = y.place → x = y
  at_ : ∀ x ∈ fl, ∀ y ∈ fl, ∀ z, z ∈ x.at_ → z ∈ y.at_ → x = y
theorem nodup_inj {α β : Type} {f : α → β} : ∀ {l : List α}, (l.map f).Nodup → ∀ x ∈ l, ∀ y ∈ l, f x = f y → x = y
  | [], _, _, hx, _, _, _ => by cases hx
  | a :: r, h, x, hx, y, hy, e => by
    rw [List.map_cons, List.nodup_cons] at h
    rcases List.mem_cons.1 hx with e1 | h1
    · rcases List.mem_cons.1 hy with e2 | h2
      · rw [e1, e2]
      · exact absurd (List.mem_map.2 ⟨y, h2, by rw [← e, e1]⟩) h.1
    · rcases List.mem_cons.1 hy with e2 | h2
      · exact absurd (List.mem_map.2 ⟨x, h1, by rw [e, e2]⟩) h.1
      · exact nodup_inj h.2 x h1 y h2 e
theorem nodup_of_map {α β : Type} {f : α → β} : ∀ {l : List α}, (l.map f).Nodup → l.Nodup
  | [], _ => List.nodup_nil
  | a :: r, h => by
    rw [List.map_cons, List.nodup_cons] at h
    exact List.nodup_cons.2 ⟨fun hm => h.1 (List.mem_map.2 ⟨a, hm, rfl⟩), nodup_of_map h.2⟩
section
variable {c : Cn} {fl : List Fe}
theorem Fine13.name (h : Fine13 c fl) : ∀ x ∈ fl, ∀ y ∈ fl, x.name = y.name → x = y := nodup_inj h.names
theorem Fine13.nil (c : Cn) : Fine13 c [] := ⟨fun x hx => by (cases hx), List.nodup_nil, fun x hx => by (cases hx), fun x hx => by (cases hx)⟩
end
theorem Fe.ok.fit {c : Cn} {x : Fe} (hc : c.ok) (h : x.ok c) : fitS x.ino c.data = true := by
  have h1 := h.size
  have h2 := hc.data2
  refine (fit_iff _ _).2 ⟨h.name, ⟨by omega, by omega⟩, ⟨by show (0 : Int) ≤ (x.b.length : Int); omega, by show (x.b.length : Int) ≤ 24576; omega⟩, ?_, ?_⟩
  · show (x.at_.length : Int) = pagesS (x.b.length : Int)
    rw [pages_nat, h.len]
  · unfold bitsS
    rw [if_neg]
    have := h.at_
    rintro (h | h | h)
    · omega
    · omega
    · exact h this
def nodeS (c : Cn) (x : Fe) : List UInt8 := (putS 3 (iputS x.ino c.data).1).1
theorem node_ok {c : Cn} {x : Fe} (hc : c.ok) (h : x.ok c) : (putS 3 (iputS x.ino c.data).1).2 = 0 := by
  have hf := h.fit hc
  unfold iputS
  rw [if_pos hf]
  have := put_few hf
  rw [putS_ok (by omega) (by show ¬ 249 < (putB x.ino c.data).length; omega)]
theorem node_len {c : Cn} {x : Fe} (hc : c.ok) (h : x.ok c) : (nodeS c x).length = 256 := putS_256' (node_ok hc h)
where
  putS_256' {k : Int} {b : List UInt8} (h : (putS k b).2 = 0) : (putS k b).1.length = 256 := putS_256 h
theorem node_nz {c : Cn} {x : Fe} (hc : c.ok) (h : x.ok c) : nodeS c x ≠ zs 256 := by
  intro e
  have h1 := get_put (node_ok hc h)
  have h2 : getS (zs 256) = (0, [], 5) := by decide +kernel
  unfold nodeS at e
  rw [e, h2] at h1
  injection h1 with h1 _
  omega
theorem node_get {c : Cn} {x : Fe} (hc : c.ok) (h : x.ok c) : getS (nodeS c x) = (3, putB x.ino c.data, 0) ∧ igetS (putB x.ino c.data) c.data = (x.ino, 0) := by
  have hf := h.fit hc
  refine ⟨?_, put_got hf⟩
  have h1 := get_put (node_ok hc h)
  have : (iputS x.ino c.data).1 = putB x.ino c.data := by unfold iputS; rw [if_pos hf]
  rw [this] at h1
  unfold nodeS
  rw [this]
  exact h1
def patB (c : Cn) (at_ : List Int) (b : List UInt8) : List Pt := (at_.zip (cutS b)).map fun q => ((c.base : Int) + q.1, q.2)
def patF (c : Cn) (x : Fe) : List Pt := (((c.nodes + x.place : Nat) : Int), nodeS c x) :: patB c x.at_ x.b
def patsF (c : Cn) (fl : List Fe) : List Pt := fl.flatMap (patF c)
def imgF (c : Cn) (fl : List Fe) (i : Nat) : List UInt8 := lastP (patsF c fl) i (zs 256)
theorem cutS_len (b : List UInt8) : (cutS b).length = pagesN b.length := cutK_length _ _
theorem cutS_256 {b l : List UInt8} (h : l ∈ cutS b) : l.length = 256 := by
  unfold cutS cutK at h
  obtain ⟨i, _, rfl⟩ := List.mem_map.1 h
  exact sectC_length _ _
theorem mem_patB {c : Cn} {at_ : List Int} {b : List UInt8} {p : Pt} (h : p ∈ patB c at_ b) : ∃ (j : Nat) (z : Int) (l : List UInt8), at_[j]? = some z ∧ (cutS b)[j]? = some l ∧ p = ((c.base : Int) + z, l) := by
  obtain ⟨q, hq, e⟩ := List.mem_map.1 h
  obtain ⟨j, hj⟩ := List.mem_iff_getElem?.1 hq
  rw [List.getElem?_zip_eq_some] at hj
  exact ⟨j, q.1, q.2, hj.1, hj.2, e.symm⟩
theorem patB_mem {c : Cn} {at_ : List Int} {b : List UInt8} {j : Nat} {z : Int} {l : List UInt8} (h1 : at_[j]? = some z) (h2 : (cutS b)[j]? = some l) : ((c.base : Int) + z, l) ∈ patB c at_ b :=
  List.mem_map.2 ⟨(z, l), List.mem_iff_getElem?.2 ⟨j, List.getElem?_zip_eq_some.2 ⟨h1, h2⟩⟩, rfl⟩
theorem okB_inj {at_ : List Int} {n : Int} (h : okB at_ n) {i j : Nat} {z : Int} (hi : at_[i]? = some z) (hj : at_[j]? = some z) : i = j := by
  have h1 := (List.getElem?_eq_some_iff.1 hi).1
  have h2 := (List.getElem?_eq_some_iff.1 hj).1
  have e1 := getD_of hi
  have e2 := getD_of hj
  rcases Nat.lt_trichotomy i j with hij | hij | hij
  · have := okB_lt h hij h2; omega
  · exact hij
  · have := okB_lt h hij h1; omega
section
variable {c : Cn} {fl : List Fe}
theorem pats_one (g : Fine13 c fl) : ∀ p ∈ patsF c fl, ∀ q ∈ patsF c fl, p.1.toNat = q.1.toNat → p.2 = q.2 := by
  intro p hp q hq e
  obtain ⟨x, hx, hp⟩ := List.mem_flatMap.1 hp
  obtain ⟨y, hy, hq⟩ := List.mem_flatMap.1 hq
  have ox := g.each x hx
  have oy := g.each y hy
  have px := ox.place
  have py := oy.place
  rcases List.mem_cons.1 hp with rfl | hp
  · rcases List.mem_cons.1 hq with rfl | hq
    · simp only [Int.toNat_natCast] at e
      rw [g.place x hx y hy (by omega)]
    · obtain ⟨j, z, l, h1, h2, rfl⟩ := mem_patB hq
      have hz := okB_mem oy.at_ (List.mem_of_getElem? h1)
      unfold Cn.nodes Cn.base at e
      simp only at e
      omega
  · obtain ⟨j, z, l, h1, h2, rfl⟩ := mem_patB hp
    have hz := okB_mem ox.at_ (List.mem_of_getElem? h1)
    rcases List.mem_cons.1 hq with rfl | hq
    · unfold Cn.nodes Cn.base at e
      simp only at e
      omega
    · obtain ⟨j', z', l', h1', h2', rfl⟩ := mem_patB hq
      have hz' := okB_mem oy.at_ (List.mem_of_getElem? h1')
      simp only at e
      obtain rfl : z = z' := by omega
      obtain rfl := g.at_ x hx y hy z (List.mem_of_getElem? h1) (List.mem_of_getElem? h1')
      obtain rfl := okB_inj ox.at_ h1 h1'
      exact Option.some.inj (h2.symm.trans h2')
theorem img_at (g : Fine13 c fl) {p : Pt} (hp : p ∈ patsF c fl) : imgF c fl p.1.toNat = p.2 :=
  lastP_all _ _ _ _ (fun q hq e => pats_one g q hq p hp e) ⟨p, hp, rfl⟩
theorem img_no {i : Nat} (h : ∀ p ∈ patsF c fl, p.1.toNat ≠ i) : imgF c fl i = zs 256 := lastP_no _ _ _ h
theorem img_node (g : Fine13 c fl) {x : Fe} (hx : x ∈ fl) : imgF c fl (c.nodes + x.place) = nodeS c x := by
  have := img_at g (p := (((c.nodes + x.place : Nat) : Int), nodeS c x)) (List.mem_flatMap.2 ⟨x, hx, by simp [patF]⟩)
  rwa [Int.toNat_natCast] at this
theorem img_data (g : Fine13 c fl) {x : Fe} (hx : x ∈ fl) {j : Nat} {z : Int} {l : List UInt8} (h1 : x.at_[j]? = some z) (h2 : (cutS x.b)[j]? = some l) : imgF c fl ((c.base : Int) + z).toNat = l :=
  img_at g (p := ((c.base : Int) + z, l)) (List.mem_flatMap.2 ⟨x, hx, List.mem_cons.2 (.inr (patB_mem h1 h2))⟩)
theorem img_free (g : Fine13 c fl) {k : Nat} (hk : k < c.files) (h : ∀ x ∈ fl, x.place ≠ k) : imgF c fl (c.nodes + k) = zs 256 := by
  refine img_no fun p hp e => ?_
  obtain ⟨x, hx, hp⟩ := List.mem_flatMap.1 hp
  rcases List.mem_cons.1 hp with rfl | hp
  · rw [Int.toNat_natCast] at e
    exact h x hx (by omega)
  · obtain ⟨j, z, l, h1, h2, rfl⟩ := mem_patB hp
    have hz := okB_mem (g.each x hx).at_ (List.mem_of_getElem? h1)
    unfold Cn.nodes Cn.base at e
    simp only at e
    omega
theorem img_spare (g : Fine13 c fl) {k : Nat} (h : ∀ x ∈ fl, (k : Int) ∉ x.at_) : imgF c fl (c.base + k) = zs 256 := by
  refine img_no fun p hp e => ?_
  obtain ⟨x, hx, hp⟩ := List.mem_flatMap.1 hp
  have hpl := (g.each x hx).place
  rcases List.mem_cons.1 hp with rfl | hp
  · unfold Cn.nodes Cn.base at e
    simp only at e
    omega
  · obtain ⟨j, z, l, h1, h2, rfl⟩ := mem_patB hp
    have hm := List.mem_of_getElem? h1
    have hz := okB_mem (g.each x hx).at_ hm
    simp only at e
    obtain rfl : z = (k : Int) := by omega
    exact h x hx hm
end
def readF (c : Cn) (W : Nat → List UInt8) (at_ : List Int) : List UInt8 := at_.flatMap fun z => W ((c.base : Int) + z).toNat
theorem readF_img {c : Cn} {fl : List Fe} (g : Fine13 c fl) {x : Fe} (hx : x ∈ fl) {W : Nat → List UInt8} (hW : ∀ i, c.base ≤ i → i < c.size → W i = imgF c fl i) : (readF c W x.at_).take x.b.length = x.b := by
  have ox := g.each x hx
  have hl := ox.len
  have e : readF c W x.at_ = (cutS x.b).flatten := by
    unfold readF
    rw [List.flatMap_def]
    congr 1
    apply List.ext_getElem
    · rw [List.length_map, cutS_len, hl]
    · intro j h1 h2
      rw [List.length_map] at h1
      rw [List.getElem_map]
      have hz := okB_mem ox.at_ (List.getElem_mem h1)
      rw [hW _ (by omega) (by unfold Cn.size; unfold Cn.base; omega)]
      exact img_data g hx (List.getElem?_eq_getElem h1) (List.getElem?_eq_getElem h2)
  rw [e, cutS_flat, List.take_left']
  rfl
end
section
open Go.RowKit
structure CI where
  log : Int
  files : Int
  slots : Int
  data : Int
def cfgV (c : CI) : Value := .agg #[.int .i64 c.log, .int .i64 c.files, .int .i64 c.slots, .int .i64 c.data]
def CI.bound (c : CI) : Prop := (2 ≤ c.log ∧ c.log ≤ 400) ∧ (1 ≤ c.files ∧ c.files ≤ 64) ∧ (0 ≤ c.slots ∧ c.slots ≤ 16) ∧ (1 ≤ c.data ∧ c.data ≤ 800)
def CI.sum (c : CI) : Int := 1 + c.log + c.files + c.slots + c.data
def CI.may (c : CI) : Prop := c.bound ∧ c.sum ≤ 1024
instance (c : CI) : Decidable c.bound := by unfold CI.bound; infer_instance
instance (c : CI) : Decidable c.may := by unfold CI.may; infer_instance
def CI.chk (c : CI) : Int := if c.may then 0 else 1
def CI.size (c : CI) : Int := if c.may then c.sum else 0
def CI.cn (c : CI) : Cn := ⟨c.log.toNat, c.files.toNat, c.slots.toNat, c.data.toNat⟩
theorem CI.may.ok {c : CI} (h : c.may) : c.cn.ok := by
  obtain ⟨⟨⟨a1, a2⟩, ⟨b1, b2⟩, ⟨c1, c2⟩, d1, d2⟩, e⟩ := h
  unfold CI.sum at e
  constructor <;> simp only [CI.cn] <;> omega
theorem CI.chk_yes {c : CI} (h : c.may) : c.chk = 0 := if_pos h
theorem CI.chk_no {c : CI} (h : ¬ c.may) : c.chk = 1 := if_neg h
theorem within_any (n a b : Int) (w : World) :
    Calls Tryz.prog 34 #[.int .i64 n, .int .i64 a, .int .i64 b] w fun e w' => e = .returned (.bool (decide (a ≤ n ∧ n ≤ b))) ∧ w = w' := by
  by_cases h : a ≤ n
  · have e : decide (a ≤ n ∧ n ≤ b) = decide (n ≤ b) := by simp [h]
    rw [e]
    have D0 := decide_eq_true h
    go_enter Tryz.func34, Tryz.ntmps34
    go_wp2
    go_ret
    exact ⟨rfl, rfl⟩
  · have e : decide (a ≤ n ∧ n ≤ b) = false := by simp [h]
    rw [e]
    have D0 := decide_eq_false h
    go_enter Tryz.func34, Tryz.ntmps34
    go_wp2
    go_ret
    exact ⟨rfl, rfl⟩
theorem nodes_any (c : CI) (h0 : 0 ≤ c.log) (h1 : c.log ≤ 400) (w : World) :
    Calls Tryz.prog 33 #[cfgV c] w fun e w' => e = .returned (.int .i64 (1 + c.log)) ∧ Below w.heap.size w w' := by
  have B0 := (Below.refl w.heap.size w).alloc (Nat.le_refl _) (.cells #[.int .i64 c.log, .int .i64 c.files, .int .i64 c.slots, .int .i64 c.data] 23)
  unfold cfgV
  go_enter Tryz.func33, Tryz.ntmps33
  go_wp2
  go_ret
  exact ⟨rfl, B0⟩
set_option maxHeartbeats 1000000 in
theorem end_any (c : CI) (h : c.bound) (w : World) :
    Calls Tryz.prog 35 #[cfgV c] w fun e w' => e = .returned (.int .i64 c.sum) ∧ Below w.heap.size w w' := by
  obtain ⟨⟨a1, a2⟩, ⟨b1, b2⟩, ⟨c1, c2⟩, d1, d2⟩ := h
  have hn := fun W => nodes_any c (by omega) a2 W
  have K0 := KB.new w 23 #[.int .i64 c.log, .int .i64 c.files, .int .i64 c.slots, .int .i64 c.data]
  have B0 := (Below.refl w.heap.size w).alloc (Nat.le_refl _) (.cells #[.int .i64 c.log, .int .i64 c.files, .int .i64 c.slots, .int .i64 c.data] 23)
  have e1 : IntKind.i64.wrap (1 + c.log + c.files) = 1 + c.log + c.files := by rw [IntKind.wrap_i64]; omega
  have e2 : IntKind.i64.wrap (1 + c.log + c.files + c.slots) = 1 + c.log + c.files + c.slots := by rw [IntKind.wrap_i64]; omega
  have e3 : IntKind.i64.wrap (1 + c.log + c.files + c.slots + c.data) = 1 + c.log + c.files + c.slots + c.data := by rw [IntKind.wrap_i64]; omega
  unfold CI.sum
  unfold cfgV at hn ⊢
  go_enter Tryz.func35, Tryz.ntmps35
  go_wp2_with fail
  rename_i KK hKK
  have HKK := Lib.hid hKK
  clear hKK
  generalize w.alloc (.cells #[.int .i64 c.log, .int .i64 c.files, .int .i64 c.slots, .int .i64 c.data] 23) = w1 at *
  have HC : Hid (∀ W, Below w1.heap.size w1 W → W.cell? ⟨w.heap.size, 0, none⟩ = some (.int .i64 c.log) ∧ W.cell? ⟨w.heap.size, 1, none⟩ = some (.int .i64 c.files) ∧ W.cell? ⟨w.heap.size, 2, none⟩ = some (.int .i64 c.slots) ∧ W.cell? ⟨w.heap.size, 3, none⟩ = some (.int .i64 c.data)) :=
    fun W h => ⟨(K0.below h K0.lt).cell 0, (K0.below h K0.lt).cell 1, (K0.below h K0.lt).cell 2, (K0.below h K0.lt).cell 3⟩
  have B := Below_drawn (Below.refl w1.heap.size w1) 1
  refine wp_region_held_drew (S := (fun W => W.cell? ⟨w.heap.size, 0, none⟩ = some (.int .i64 c.log) ∧ W.cell? ⟨w.heap.size, 1, none⟩ = some (.int .i64 c.files) ∧ W.cell? ⟨w.heap.size, 2, none⟩ = some (.int .i64 c.slots) ∧ W.cell? ⟨w.heap.size, 3, none⟩ = some (.int .i64 c.data))) (by kernel_rfl) (HC.out _ B) (fun hHeld => ?_)
  refine hyY (some 3) 0 rfl hHeld ?_; go_frame
  refine hyY (some 5) 2 rfl hHeld ?_; go_frame
  refine hyY (some 6) 3 rfl hHeld ?_; go_frame
  refine hyY (some 8) 5 rfl hHeld ?_; go_frame
  refine hyY (some 9) 6 rfl hHeld ?_; go_frame
  refine hyY (some 11) 8 rfl hHeld ?_; go_frame
  refine hyY (some 12) 9 rfl hHeld ?_; go_frame
  refine hyO (some 4) 1 rfl (fun K hK => ?_)
  go_simp
  go_at_call 33
  refine (hn _).mono ?_
  rintro e w2 ⟨rfl, b2⟩
  replace B := B.trans (b2.mono B.size)
  clear b2
  go_wp2_with fail
  refine hK.out _ _ ?_ (fun hH2 => ?_)
  · exact HC.out _ B
  clear hHeld hK K; have hHeld := hH2; clear hH2; try go_frame
  refine hyY (some 7) 4 rfl hHeld ?_; go_frame
  refine hyY (some 10) 7 rfl hHeld ?_; go_frame
  refine hyY (some 13) 10 rfl hHeld ?_; go_frame
  refine hyY (some 2) 11 rfl hHeld ?_; go_frame
  refine wpAnyH_done (by kernel_rfl) ?_ _
  have hKK := HKK.out
  go_wp2_with fail
  go_ret
  exact ⟨rfl, B0.trans (B.mono B0.size)⟩
theorem within_yes {n a b : Int} (h : a ≤ n ∧ n ≤ b) (w : World) : Calls Tryz.prog 34 #[.int .i64 n, .int .i64 a, .int .i64 b] w fun e w' => e = .returned (.bool true) ∧ w = w' := by
  have := within_any n a b w
  rwa [decide_eq_true h] at this
theorem within_no {n a b : Int} (h : ¬ (a ≤ n ∧ n ≤ b)) (w : World) : Calls Tryz.prog 34 #[.int .i64 n, .int .i64 a, .int .i64 b] w fun e w' => e = .returned (.bool false) ∧ w = w' := by
  have := within_any n a b w
  rwa [decide_eq_false h] at this
set_option maxHeartbeats 2000000 in
theorem scheck_any (c : CI) (w : World) : Calls Tryz.prog 10 #[cfgV c] w fun e w' => e = .returned (.int .i64 c.chk) ∧ Below w.heap.size w w' := by
  have B0 := (Below.refl w.heap.size w).alloc (Nat.le_refl _) (.cells #[.int .i64 c.log, .int .i64 c.files, .int .i64 c.slots, .int .i64 c.data] 23)
  have hend := fun (h : c.bound) W => end_any c h W
  unfold cfgV at hend ⊢
  by_cases h0 : 2 ≤ c.log ∧ c.log ≤ 400
  · skip
    by_cases h1 : 1 ≤ c.files ∧ c.files ≤ 64
    · skip
      by_cases h2 : 0 ≤ c.slots ∧ c.slots ≤ 16
      · skip
        by_cases h3 : 1 ≤ c.data ∧ c.data ≤ 800
        · skip
          have hB : c.bound := ⟨h0, h1, h2, h3⟩
          replace hend := hend hB
          by_cases h4 : c.sum ≤ 1024
          · rw [CI.chk_yes (⟨hB, h4⟩ : c.may)]
            have D4 : decide (c.sum ≤ 1024) = true := decide_eq_true h4
            generalize c.sum = sm at *
            go_enter Tryz.func10, Tryz.ntmps10
            go_wp2_with fail
            refine (within_yes h0 _).mono ?_
            rintro e w' ⟨rfl, rfl⟩
            go_wp2_with fail
            refine (within_yes h1 _).mono ?_
            rintro e w' ⟨rfl, rfl⟩
            go_wp2_with fail
            refine (within_yes h2 _).mono ?_
            rintro e w' ⟨rfl, rfl⟩
            go_wp2_with fail
            refine (within_yes h3 _).mono ?_
            rintro e w' ⟨rfl, rfl⟩
            go_wp2_with fail
            refine (hend _).mono ?_
            rintro e w2 ⟨rfl, b2⟩
            have B2 := B0.trans (b2.mono B0.size)
            go_wp2_with fail
            go_ret
            exact ⟨rfl, B2⟩
          · rw [CI.chk_no (fun h : c.may => h4 h.2)]
            have D4 : decide (c.sum ≤ 1024) = false := decide_eq_false h4
            generalize c.sum = sm at *
            go_enter Tryz.func10, Tryz.ntmps10
            go_wp2_with fail
            refine (within_yes h0 _).mono ?_
            rintro e w' ⟨rfl, rfl⟩
            go_wp2_with fail
            refine (within_yes h1 _).mono ?_
            rintro e w' ⟨rfl, rfl⟩
            go_wp2_with fail
            refine (within_yes h2 _).mono ?_
            rintro e w' ⟨rfl, rfl⟩
            go_wp2_with fail
            refine (within_yes h3 _).mono ?_
            rintro e w' ⟨rfl, rfl⟩
            go_wp2_with fail
            refine (hend _).mono ?_
            rintro e w2 ⟨rfl, b2⟩
            have B2 := B0.trans (b2.mono B0.size)
            go_wp2_with fail
            go_ret
            exact ⟨rfl, B2⟩
        · have hn : ¬ c.may := fun h => h3 h.1.2.2.2
          rw [CI.chk_no hn]
          clear hend hn
          go_enter Tryz.func10, Tryz.ntmps10
          go_wp2_with fail
          refine (within_yes h0 _).mono ?_
          rintro e w' ⟨rfl, rfl⟩
          go_wp2_with fail
          refine (within_yes h1 _).mono ?_
          rintro e w' ⟨rfl, rfl⟩
          go_wp2_with fail
          refine (within_yes h2 _).mono ?_
          rintro e w' ⟨rfl, rfl⟩
          go_wp2_with fail
          refine (within_no h3 _).mono ?_
          rintro e w' ⟨rfl, rfl⟩
          go_wp2_with fail
          go_ret
          exact ⟨rfl, B0⟩
      · have hn : ¬ c.may := fun h => h2 h.1.2.2.1
        rw [CI.chk_no hn]
        clear hend hn
        go_enter Tryz.func10, Tryz.ntmps10
        go_wp2_with fail
        refine (within_yes h0 _).mono ?_
        rintro e w' ⟨rfl, rfl⟩
        go_wp2_with fail
        refine (within_yes h1 _).mono ?_
        rintro e w' ⟨rfl, rfl⟩
        go_wp2_with fail
        refine (within_no h2 _).mono ?_
        rintro e w' ⟨rfl, rfl⟩
        go_wp2_with fail
        go_ret
        exact ⟨rfl, B0⟩
    · have hn : ¬ c.may := fun h => h1 h.1.2.1
      rw [CI.chk_no hn]
      clear hend hn
      go_enter Tryz.func10, Tryz.ntmps10
      go_wp2_with fail
      refine (within_yes h0 _).mono ?_
      rintro e w' ⟨rfl, rfl⟩
      go_wp2_with fail
      refine (within_no h1 _).mono ?_
      rintro e w' ⟨rfl, rfl⟩
      go_wp2_with fail
      go_ret
      exact ⟨rfl, B0⟩
  · have hn : ¬ c.may := fun h => h0 h.1.1
    rw [CI.chk_no hn]
    clear hend hn
    go_enter Tryz.func10, Tryz.ntmps10
    go_wp2_with fail
    refine (within_no h0 _).mono ?_
    rintro e w' ⟨rfl, rfl⟩
    go_wp2_with fail
    go_ret
    exact ⟨rfl, B0⟩
theorem ssize_any (c : CI) (w : World) : Calls Tryz.prog 11 #[cfgV c] w fun e w' => e = .returned (.int .i64 c.size) ∧ Below w.heap.size w w' := by
  have K0 := KB.new w 23 #[.int .i64 c.log, .int .i64 c.files, .int .i64 c.slots, .int .i64 c.data]
  have B0 := (Below.refl w.heap.size w).alloc (Nat.le_refl _) (.cells #[.int .i64 c.log, .int .i64 c.files, .int .i64 c.slots, .int .i64 c.data] 23)
  have hck := fun W => scheck_any c W
  have hend := fun (h : c.bound) W => end_any c h W
  unfold CI.size
  unfold cfgV at hck hend ⊢
  by_cases hm : c.may
  · rw [if_pos hm]
    rw [CI.chk_yes hm] at hck
    replace hend := hend hm.1
    generalize c.sum = sm at *
    go_enter Tryz.func11, Tryz.ntmps11
    go_wp2_with fail
    refine (hck _).mono ?_
    rintro e w2 ⟨rfl, b2⟩
    have B2 := B0.trans (b2.mono B0.size)
    have K2 := K0.below b2 K0.lt
    have q0 := K2.cell 0
    have q1 := K2.cell 1
    have q2 := K2.cell 2
    have q3 := K2.cell 3
    clear hck K0 B0 b2
    go_wp2_with fail
    refine (hend _).mono ?_
    rintro e w3 ⟨rfl, b3⟩
    have B3 := B2.trans (b3.mono B2.size)
    clear B2 K2 q0 q1 q2 q3
    go_wp2_with fail
    go_ret
    exact ⟨rfl, B3⟩
  · rw [if_neg hm]
    rw [CI.chk_no hm] at hck
    go_enter Tryz.func11, Tryz.ntmps11
    go_wp2_with fail
    refine (hck _).mono ?_
    rintro e w2 ⟨rfl, b2⟩
    have B2 := B0.trans (b2.mono B0.size)
    go_wp2_with fail
    go_ret
    exact ⟨rfl, B2⟩
set_option maxHeartbeats 1000000 in
theorem sslots_any (c : CI) (w : World) : Calls Tryz.prog 7 #[cfgV c] w fun e w' => e = .returned (.tuple #[.int .i64 (if c.may then 1 + c.log + c.files else 0), .int .i64 (if c.may then c.slots else 0)]) ∧ Below w.heap.size w w' := by
  have K0 := KB.new w 23 #[.int .i64 c.log, .int .i64 c.files, .int .i64 c.slots, .int .i64 c.data]
  have B0 := (Below.refl w.heap.size w).alloc (Nat.le_refl _) (.cells #[.int .i64 c.log, .int .i64 c.files, .int .i64 c.slots, .int .i64 c.data] 23)
  have hck := fun W => scheck_any c W
  have hcal := fun (h : c.may) W => nodes_any c (by have := h.1.1; omega) h.1.1.2 W
  unfold cfgV at hck hcal ⊢
  by_cases hm : c.may
  · rw [if_pos hm, if_pos hm]
    rw [CI.chk_yes hm] at hck
    replace hcal := hcal hm
    obtain ⟨⟨⟨a1, a2⟩, ⟨b1, b2⟩, ⟨c1, c2⟩, d1, d2⟩, e9⟩ := hm
    have ew : IntKind.i64.wrap (1 + c.log + c.files) = 1 + c.log + c.files := by rw [IntKind.wrap_i64]; omega
    go_enter Tryz.func7, Tryz.ntmps7
    go_wp2_with fail
    refine (hck _).mono ?_
    rintro e w2 ⟨rfl, b2⟩
    have B2 := B0.trans (b2.mono B0.size)
    have K2 := K0.below b2 K0.lt
    clear hck K0 B0 b2
    go_wp2_with fail
    rename_i KK hKK
    have HKK := Lib.hid hKK
    clear hKK
    have HC : Hid (∀ W, Below w2.heap.size w2 W → W.cell? ⟨w.heap.size, 0, none⟩ = some (.int .i64 c.log) ∧ W.cell? ⟨w.heap.size, 1, none⟩ = some (.int .i64 c.files) ∧ W.cell? ⟨w.heap.size, 2, none⟩ = some (.int .i64 c.slots) ∧ W.cell? ⟨w.heap.size, 3, none⟩ = some (.int .i64 c.data)) :=
      fun W h => ⟨(K2.below h K2.lt).cell 0, (K2.below h K2.lt).cell 1, (K2.below h K2.lt).cell 2, (K2.below h K2.lt).cell 3⟩
    have B := Below_drawn (Below.refl w2.heap.size w2) 1
    refine wp_region_held_drew (S := (fun W => W.cell? ⟨w.heap.size, 0, none⟩ = some (.int .i64 c.log) ∧ W.cell? ⟨w.heap.size, 1, none⟩ = some (.int .i64 c.files) ∧ W.cell? ⟨w.heap.size, 2, none⟩ = some (.int .i64 c.slots) ∧ W.cell? ⟨w.heap.size, 3, none⟩ = some (.int .i64 c.data))) (by kernel_rfl) (HC.out _ B) (fun hHeld => ?_)
    refine hyY (some 7) 0 rfl hHeld ?_; go_frame
    refine hyY (some 9) 2 rfl hHeld ?_; go_frame
    refine hyY (some 10) 3 rfl hHeld ?_; go_frame
    refine hyY (some 12) 5 rfl hHeld ?_; go_frame
    refine hyY (some 13) 6 rfl hHeld ?_; go_frame
    refine hyO (some 8) 1 rfl (fun K hK => ?_)
    go_simp
    go_at_call 33
    refine (hcal _).mono ?_
    rintro e w3 ⟨rfl, b3⟩
    replace B := B.trans (b3.mono B.size)
    clear b3
    go_wp2_with fail
    refine hK.out _ _ ?_ (fun hH2 => ?_)
    · exact HC.out _ B
    clear hHeld hK K; have hHeld := hH2; clear hH2; try go_frame
    refine hyY (some 11) 4 rfl hHeld ?_; go_frame
    refine hyY (some 2) 7 rfl hHeld ?_; go_frame
    refine hyY (some 3) 8 rfl hHeld ?_; go_frame
    refine wpAnyH_done (by kernel_rfl) ?_ _
    have hKK := HKK.out
    go_wp2_with fail
    go_ret2
    exact ⟨rfl, B2.trans (B.mono B2.size)⟩
  · rw [if_neg hm, if_neg hm]
    rw [CI.chk_no hm] at hck
    go_enter Tryz.func7, Tryz.ntmps7
    go_wp2_with fail
    refine (hck _).mono ?_
    rintro e w2 ⟨rfl, b2⟩
    have B2 := B0.trans (b2.mono B0.size)
    go_wp2_with fail
    go_ret2
    exact ⟨rfl, B2⟩
set_option maxHeartbeats 1000000 in
theorem sdata_any (c : CI) (w : World) : Calls Tryz.prog 57 #[cfgV c] w fun e w' => e = .returned (.tuple #[.int .i64 (if c.may then 1 + c.log + c.files + c.slots else 0), .int .i64 (if c.may then c.data else 0)]) ∧ Below w.heap.size w w' := by
  have K0 := KB.new w 23 #[.int .i64 c.log, .int .i64 c.files, .int .i64 c.slots, .int .i64 c.data]
  have B0 := (Below.refl w.heap.size w).alloc (Nat.le_refl _) (.cells #[.int .i64 c.log, .int .i64 c.files, .int .i64 c.slots, .int .i64 c.data] 23)
  have hck := fun W => scheck_any c W
  have hcal := fun (h : c.may) W => end_any c h.1 W
  unfold cfgV at hck hcal ⊢
  by_cases hm : c.may
  · rw [if_pos hm, if_pos hm]
    rw [CI.chk_yes hm] at hck
    replace hcal := hcal hm
    obtain ⟨⟨⟨a1, a2⟩, ⟨b1, b2⟩, ⟨c1, c2⟩, d1, d2⟩, e9⟩ := hm
    have ew : IntKind.i64.wrap (c.sum - c.data) = 1 + c.log + c.files + c.slots := by
      unfold CI.sum
      rw [IntKind.wrap_i64]
      omega
    clear e9
    generalize c.sum = sm at *
    go_enter Tryz.func57, Tryz.ntmps57
    go_wp2_with fail
    refine (hck _).mono ?_
    rintro e w2 ⟨rfl, b2⟩
    have B2 := B0.trans (b2.mono B0.size)
    have K2 := K0.below b2 K0.lt
    clear hck K0 B0 b2
    go_wp2_with fail
    rename_i KK hKK
    have HKK := Lib.hid hKK
    clear hKK
    have HC : Hid (∀ W, Below w2.heap.size w2 W → W.cell? ⟨w.heap.size, 0, none⟩ = some (.int .i64 c.log) ∧ W.cell? ⟨w.heap.size, 1, none⟩ = some (.int .i64 c.files) ∧ W.cell? ⟨w.heap.size, 2, none⟩ = some (.int .i64 c.slots) ∧ W.cell? ⟨w.heap.size, 3, none⟩ = some (.int .i64 c.data)) :=
      fun W h => ⟨(K2.below h K2.lt).cell 0, (K2.below h K2.lt).cell 1, (K2.below h K2.lt).cell 2, (K2.below h K2.lt).cell 3⟩
    have B := Below_drawn (Below.refl w2.heap.size w2) 1
    refine wp_region_held_drew (S := (fun W => W.cell? ⟨w.heap.size, 0, none⟩ = some (.int .i64 c.log) ∧ W.cell? ⟨w.heap.size, 1, none⟩ = some (.int .i64 c.files) ∧ W.cell? ⟨w.heap.size, 2, none⟩ = some (.int .i64 c.slots) ∧ W.cell? ⟨w.heap.size, 3, none⟩ = some (.int .i64 c.data))) (by kernel_rfl) (HC.out _ B) (fun hHeld => ?_)
    refine hyY (some 7) 0 rfl hHeld ?_; go_frame
    refine hyY (some 9) 2 rfl hHeld ?_; go_frame
    refine hyY (some 10) 3 rfl hHeld ?_; go_frame
    refine hyY (some 12) 5 rfl hHeld ?_; go_frame
    refine hyY (some 13) 6 rfl hHeld ?_; go_frame
    refine hyO (some 8) 1 rfl (fun K hK => ?_)
    go_simp
    go_at_call 35
    refine (hcal _).mono ?_
    rintro e w3 ⟨rfl, b3⟩
    replace B := B.trans (b3.mono B.size)
    clear b3
    go_wp2_with fail
    refine hK.out _ _ ?_ (fun hH2 => ?_)
    · exact HC.out _ B
    clear hHeld hK K; have hHeld := hH2; clear hH2; try go_frame
    refine hyY (some 11) 4 rfl hHeld ?_; go_frame
    refine hyY (some 2) 7 rfl hHeld ?_; go_frame
    refine hyY (some 3) 8 rfl hHeld ?_; go_frame
    refine wpAnyH_done (by kernel_rfl) ?_ _
    have hKK := HKK.out
    go_wp2_with fail
    go_ret2
    exact ⟨rfl, B2.trans (B.mono B2.size)⟩
  · rw [if_neg hm, if_neg hm]
    rw [CI.chk_no hm] at hck
    go_enter Tryz.func57, Tryz.ntmps57
    go_wp2_with fail
    refine (hck _).mono ?_
    rintro e w2 ⟨rfl, b2⟩
    have B2 := B0.trans (b2.mono B0.size)
    go_wp2_with fail
    go_ret2
    exact ⟨rfl, B2⟩
end
section
open Go.RowKit
theorem rlists_any (k : Nat) (w : World) (hk : k ≤ 100000) : Calls Tryz.prog 70 #[.int .i64 k] w fun e w' => e = .returned (.int .i64 (listsN k : Nat)) ∧ w = w' := by
  unfold listsN
  go_enter Tryz.func70, Tryz.ntmps70
  go_wp2
  go_ret
  refine ⟨ret_int ?_, rfl⟩
  omega
theorem room_is {k n : Nat} (h1 : k + listsN k ≤ n ∨ k = 0) (h2 : ¬ k + 1 + listsN (k + 1) ≤ n) : k = roomN n := by
  unfold listsN at h1 h2
  unfold roomN
  split
  · omega
  · omega
theorem rroom_any (n : Nat) (w : World) (hn : n ≤ 1000) : Calls Tryz.prog 41 #[.int .i64 n] w fun e w' => e = .returned (.int .i64 (roomN n : Nat)) ∧ w = w' := by
  obtain ⟨R, hR⟩ : ∃ R, R = roomN n := ⟨_, rfl⟩
  have HR := Lib.hid hR
  rw [← hR]
  clear hR
  go_enter Tryz.func41, Tryz.ntmps41
  go_wp2
  go_loopw [3] (fun kv wr => ∃ k : Nat, kv = .int .i64 k ∧ k ≤ 1000 ∧ Hid (k + listsN k ≤ n ∨ k = 0) ∧ wr = w) (fun kv _ => 1000 - (intOf kv).toNat)
  case atStart => exact ⟨0, rfl, by omega, .inr rfl, rfl⟩
  case round =>
    obtain ⟨k, rfl, hk, HK, rfl⟩ := hrel
    have hl := rlists_any (k + 1) wr (by omega)
    obtain ⟨m, hm⟩ : ∃ m, m = listsN (k + 1) := ⟨_, rfl⟩
    rw [← hm] at hl
    have hm2 : m ≤ 100 := by rw [hm]; unfold listsN; omega
    rw [show ((k + 1 : Nat) : Int) = (k : Int) + 1 by omega] at hl
    have HM := Lib.hid hm
    clear hm
    by_cases h : k + 1 + m ≤ n
    · have D0 : decide ((k : Int) + 1 + (m : Int) ≤ (n : Int)) = true := decide_eq_true (by omega)
      have D1 : decide ((k : Int) < 1024) = true := decide_eq_true (by omega)
      have HK2 : Hid (k + 1 + listsN (k + 1) ≤ n ∨ k + 1 = 0) := .inl (by rw [← HM.out]; exact h)
      have hkn : k + 1 ≤ 1000 := by omega
      go_wp2_with (go_at_call 70; refine hl.mono ?_; rintro e w' ⟨rfl, rfl⟩)
      go_roundw
      case rel => exact ⟨k + 1, by go_num, hkn, HK2, by trivial⟩
      case measure => simp [intOf]; omega
    · have D0 : decide ((k : Int) + 1 + (m : Int) ≤ (n : Int)) = false := decide_eq_false (by omega)
      have hr : R = k := by rw [HR.out]; exact (room_is HK.out (by rw [← HM.out]; exact h)).symm
      subst hr
      go_wp2_with (go_at_call 70; refine hl.mono ?_; rintro e w' ⟨rfl, rfl⟩)
      go_ret
      exact ⟨rfl, rfl⟩
def rightP (n : Nat) (N : Int) (ps : List Pt) : Int := if takesB n N ps = true then (if roomN n < ps.length then 4 else 0) else 1
theorem chk_right (n : Nat) (N : Int) (ps : List Pt) : chkP false n N ps = rightP n N ps := by
  unfold chkP rightP
  rw [if_neg (by simp)]
end
section
open Go.RowKit
end
section
open Go.RowKit
end
section
open Go.RowKit
theorem copy_any (S : Nat → Prop) (v : Value) (l : List UInt8) (w : World) (h : BS w S v l) (hl : l.length ≤ 140737488355328) :
    Calls Tryz.prog 54 #[v] w fun e w' => Fresh w e w' l := by
  obtain ⟨i0, hi, hz0, hz1, hz2⟩ := info_parts info_byte
  go_enter Tryz.func54, Tryz.ntmps54
  go_wp2_with (at_builtin; refine wpList_grow _ rfl _ _ _ rfl w.heap.size 5 i0 Tryz.underlying55 hi hz0 hz1 hz2 (.slice (some ⟨w.heap.size, 0, none⟩) 0 0) [] rfl (World.ownsRow_lit w #[] 0 (Nat.le_refl _) (by simp [maxLen]) rfl) S _ l rfl (h.alloc _) (by simp; omega) (by simp) ?_; intro v1 w1 hown hg _)
  go_ret
  exact ⟨_, rfl, hown, ((Below.refl _ _).alloc (Nat.le_refl _) _).grown hg (by simp) (by simp [Value.ownBlock])⟩
end
section
open Go.RowKit
end
section
open Go.RowKit
def comA (n N : Nat) (ps : List Pt) (s : Dk) : Dk × Int := if rightP n N ps ≠ 0 ∨ ps.length = 0 then (s, rightP n N ps) else commitD ps s
def goodP (n N : Nat) (ps : List Pt) : List Pt := if rightP n N ps = 0 then ps else []
theorem right_zero {n N : Nat} {ps : List Pt} (h : rightP n N ps = 0) : takesB n N ps = true ∧ ps.length ≤ roomN n := by
  unfold rightP at h
  split at h
  · rename_i ht
    refine ⟨ht, ?_⟩
    split at h
    · cases h
    · omega
  · cases h
theorem fine_good {n N : Nat} (ps : List Pt) (hn : n < N) (hN : N ≤ 1024) : Fine n N (goodP n N ps) := by
  unfold goodP
  split
  · rename_i h
    obtain ⟨h1, h2⟩ := right_zero h
    exact ⟨h1, h2, hn, hN⟩
  · exact ⟨rfl, Nat.zero_le _, hn, hN⟩
section
variable {n N : Nat} {ps : List Pt} {s : Dk} {W0 : Nat → List UInt8}
theorem comA_no (h : rightP n N ps ≠ 0 ∨ ps.length = 0) : comA n N ps s = (s, rightP n N ps) := if_pos h
theorem comA_go (h : ¬ (rightP n N ps ≠ 0 ∨ ps.length = 0)) : comA n N ps s = commitD ps s ∧ goodP n N ps = ps := by
  refine ⟨if_neg h, if_pos ?_⟩
  exact Classical.byContradiction fun hh => h (.inl hh)
theorem goodP_no (h : rightP n N ps ≠ 0 ∨ ps.length = 0) : goodP n N ps = [] := by
  unfold goodP
  split
  · rename_i h0
    rcases h with h | h
    · exact absurd h0 h
    · exact List.eq_nil_of_length_eq_zero h
  · rfl
theorem comA_len : (comA n N ps s).1.safe.length = s.safe.length := by
  unfold comA
  split
  · rfl
  · exact commitD_len _ _
theorem comA_stands (hn : n < N) (hN : N ≤ 1024) (hl : s.safe.length = N) (hf : s.fuse = -1) (hs : Stands n N W0 s) :
    (comA n N ps s).2 = rightP n N ps ∧ (comA n N ps s).1.fuse = -1 ∧ Stands n N (W1 (goodP n N ps) W0) (comA n N ps s).1 := by
  have hfi := fine_good ps hn hN
  by_cases h : rightP n N ps ≠ 0 ∨ ps.length = 0
  · rw [comA_no h, goodP_no h]
    exact ⟨rfl, hf, hs⟩
  · obtain ⟨e1, e2⟩ := comA_go (s := s) h
    rw [e1, e2]
    rw [e2] at hfi
    obtain ⟨c1, c2⟩ := commitD_never ps s hf
    have hr : rightP n N ps = 0 := Classical.byContradiction fun hh => h (.inl hh)
    exact ⟨by rw [c1, hr], c2, commit_stands hfi hl hs c1⟩
structure Left (n N : Nat) (P : List Pt) (W0 : Nat → List UInt8) (dn : Bool) (s : Dk) : Prop where
  len : s.safe.length = N
  good : ∀ ks, Good n P W0 (s.crashed ks)
  sure : dn = true → ∀ ks, Allow (AlZ n (W1 P W0)) (s.crashed ks)
theorem stands_allow {W : Nat → List UInt8} (hl : s.safe.length = N) (hs : Stands n N W s) : Allow (AlZ n W) s :=
  Allow.of_now hs.1 fun i hi => ⟨fun e => by subst e; exact hs.2.1 0 (Nat.zero_le _), fun e => hs.2.2 i e (by omega)⟩
theorem comA_left (hn : n < N) (hN : N ≤ 1024) (hl : s.safe.length = N) (hs : Stands n N W0 s) (dn : Bool) (hdn : dn = true → (comA n N ps s).2 = 0 ∧ rightP n N ps = 0) : Left n N (goodP n N ps) W0 dn (comA n N ps s).1 := by
  have hfi := fine_good ps hn hN
  have ha := stands_allow hl hs
  by_cases h : rightP n N ps ≠ 0 ∨ ps.length = 0
  · rw [comA_no h, goodP_no h]
    exact ⟨hl, Good.z0 ha, fun _ ks => ha.crashed ks⟩
  · obtain ⟨e1, e2⟩ := comA_go (s := s) h
    rw [e1] at hdn ⊢
    rw [e2] at hfi ⊢
    obtain ⟨g1, g2⟩ := commit_good hfi hl hs.1 ha
    exact ⟨by rw [commitD_len]; exact hl, g1, fun hd ks => (g2 (hdn hd).1).2.1.crashed ks⟩
theorem Left.open_ {P : List Pt} {dn : Bool} (h : Left n N P W0 dn s) (hf : Fine n N P) (ks : List Bool) (f : Int) : Left n N P W0 dn (openD n { s.crashed ks with fuse := f }).1 := by
  have hl : ({ s.crashed ks with fuse := f } : Dk).safe.length = N := by show (over _ _).length = N; rw [over_len]; exact h.len
  have hc : ({ s.crashed ks with fuse := f } : Dk).calm := fun _ => rfl
  have hg : Good n P W0 { s.crashed ks with fuse := f } := h.good ks
  obtain ⟨g1, _⟩ := open_good hf hl hc hg
  exact ⟨by rw [openD_len]; exact hl, g1, fun hd ks' => ((open_zero (s := { s.crashed ks with fuse := f }) hf.log hl hc (h.sure hd ks)).2.1).crashed ks'⟩
theorem Left.last {P : List Pt} {dn : Bool} (h : Left n N P W0 dn s) (hf : Fine n N P) (ks : List Bool) :
    (openD n (s.crashed ks)).2 = 0 ∧ (openD n (s.crashed ks)).1.fuse = -1 ∧ (openD n (s.crashed ks)).1.safe.length = N ∧ (Stands n N (W1 P W0) (openD n (s.crashed ks)).1 ∨ dn = false ∧ Stands n N W0 (openD n (s.crashed ks)).1) := by
  have hl : (s.crashed ks).safe.length = N := by show (over _ _).length = N; rw [over_len]; exact h.len
  have hc : (s.crashed ks).calm := fun _ => rfl
  obtain ⟨c1, c2⟩ := openD_never n (s.crashed ks) rfl
  refine ⟨c1, c2, by rw [openD_len]; exact hl, ?_⟩
  cases dn with
  | true => exact .inl ((open_zero hf.log hl hc (h.sure rfl ks)).2.2 c1)
  | false =>
    rcases (open_good hf hl hc (h.good ks)).2 c1 with h | h
    · exact .inr ⟨rfl, h⟩
    · exact .inl h
theorem calm_at (hc : s.calm) {i : Nat} (hi : i < s.safe.length) : s.safe[i]? = some (s.now i) := by
  unfold Dk.now
  rw [hc i, Option.getD_none, List.getD_eq_getElem?_getD, List.getElem?_eq_getElem hi]
  rfl
end
theorem commit_all {w : World} {lg n : Nat} {p : DA} {s : Dk} (v : Value) (ps : List Pt) (hg : LG w lg p n false) (hgp : ¬ p.has lg) (hd : DS w p s) (h : PS w (Off p w) v ps) (hn : n < s.safe.length) (ht : Tab w) (htp : ¬ p.has 1) :
    Calls Tryz.prog 53 #[.pointer (some ⟨lg, 0, none⟩), v] w fun e w' => e = .returned (.int .i64 (comA n s.safe.length ps s).2) ∧ DS w' p (comA n s.safe.length ps s).1 ∧ (∃ br, LG w' lg p n br ∧ ((comA n s.safe.length ps s).2 = rightP n s.safe.length ps → br = false)) ∧ KeepP (fun x => Off p w x ∧ x ≠ lg) w w' := by
  have few := hd.ok.few
  by_cases hr : rightP n s.safe.length ps ≠ 0 ∨ ps.length = 0
  · rw [comA_no hr]
    refine (commit_no v ps (by omega) hg hd h (by rw [chk_right]; exact hr)).mono ?_
    rintro e w' ⟨rfl, b⟩
    rw [chk_right]
    exact ⟨rfl, hd.below b, ⟨false, hg.below b, fun _ => rfl⟩, KeepP.of_below b fun x hx => hx.1.1⟩
  · obtain ⟨e1, e2⟩ := comA_go (s := s) hr
    rw [e1]
    have hr0 : rightP n s.safe.length ps = 0 := Classical.byContradiction fun hh => hr (.inl hh)
    have hfi := fine_good ps hn few
    rw [e2] at hfi
    refine (commit_go v ps hg hgp hd h hfi (by omega) ht htp).mono ?_
    rintro e w' ⟨rfl, d, l, k⟩
    exact ⟨rfl, d, ⟨_, l, fun hh => by rw [hr0] at hh; simp [hh]⟩, k⟩
end
end Go.Proofs.YteddmnoeljakpaaGreatDoor
