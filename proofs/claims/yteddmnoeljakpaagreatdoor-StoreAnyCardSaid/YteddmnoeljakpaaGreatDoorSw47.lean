/-
  SuQ: A store's files are few and small. No condition but what each theorem names.
  SuR: Light of the law, over the loaded program: lists of lists of files. No condition but what each theorem names.
  SuX: What Open makes of any disk: its log is zero, and opened again it stays; what a Do leaves, whatever a crash takes. No condition.
  SuY: A round of the law: Do while the power does not go; lists of files beside a store; what is kept. No condition but what each theorem names.
  SuU: Arguments of the statements of layer 13, opened: files, lists of files, lists of these; spoils and crashes. No condition.
  SvE: Arguments of the statements of layer 13, opened: a config. No condition.
-/
import Derived.Test.YteddmnoeljakpaaGreatDoorSw45
import Derived.Test.YteddmnoeljakpaaGreatDoorSw11
import Derived.Test.YteddmnoeljakpaaGreatDoorSw12
import Derived.Test.YteddmnoeljakpaaGreatDoorSw27
import Derived.Test.YteddmnoeljakpaaGreatDoorSw41
import Derived.Test.YteddmnoeljakpaaGreatDoorSw42
import Derived.Test.YteddmnoeljakpaaGreatDoorSw43
import Derived.Test.YteddmnoeljakpaaGreatDoorSw02
import Derived.Test.YteddmnoeljakpaaGreatDoorSw22
import Derived.Test.YteddmnoeljakpaaGreatDoorSw46
set_option linter.unusedVariables false
set_option maxRecDepth 100000
namespace Go.Proofs.YteddmnoeljakpaaGreatDoor
section
open Go.RowKit
section
variable {w : World} {a : SA} {c : CI} {fl : List Fe} {s : Dk} {br : Bool}
theorem fine_few (hr : Rest c fl s) (hm : c.may) : fl.length ≤ 64 := by
  have h1 := few_nodes hr.fine
  rw [nodes_len] at h1
  have := hm.ok.files2
  omega
theorem fine_small (hr : Rest c fl s) : ∀ f ∈ filesF fl, f.b.length ≤ 24576 := by
  intro f hf
  obtain ⟨x, hx, rfl⟩ := List.mem_map.1 hf
  exact (hr.fine.each x hx).size
theorem files_at {i : Nat} {f : Fi} (h : (filesF fl)[i]? = some f) : ∃ x ∈ fl, x.name = f.name ∧ x.b = f.b := by
  obtain ⟨x, hx, rfl⟩ := List.mem_map.1 (List.mem_of_getElem? h)
  exact ⟨x, hx, rfl, rfl⟩
theorem names_len (l : List Fi) : (namesL l).length = l.length := by
  unfold namesL
  rw [(List.mergeSort_perm _ leB).length_eq, List.length_map]
def noneN : List UInt8 := [110, 111, 46, 115, 117, 99, 104, 45, 102, 105, 108, 101, 46, 104, 101, 114, 101]
end
end
section
open Go.RowKit
def FSS (w : World) (S : Nat → Prop) (v : Value) (ls : List (List Fi)) : Prop :=
 ∃ A c, v = .slice A ls.length c ∧ ls.length ≤ c ∧ c ≤ maxLen ∧
  (0 < ls.length → ∃ b o, A = some ⟨b, o, none⟩ ∧ S b ∧ b < w.heap.size ∧ ∀ j l, ls[j]? = some l → ∃ X z, w.cell? ⟨b, o + j, none⟩ = some (.slice X l.length z) ∧ FS w S (.slice X l.length z) l)
section
variable {w w' : World} {S S' : Nat → Prop} {v : Value} {ls : List (List Fi)}
theorem FSS.keep (h : FSS w S v ls) (hs : w.heap.size ≤ w'.heap.size) (hk : ∀ b, S b → b < w.heap.size → w'.heap[b]? = w.heap[b]?) : FSS w' S v ls := by
 obtain ⟨A, c, e, hl, hc, hx⟩ := h
 refine ⟨A, c, e, hl, hc, fun h0 => ?_⟩
 obtain ⟨b, o, ea, sb, hb, hx⟩ := hx h0
 refine ⟨b, o, ea, sb, by omega, fun j l hj => ?_⟩
 obtain ⟨X, z, h1, h2⟩ := hx j l hj
 exact ⟨X, z, (World.cell?_of_block (w := w) (hk b sb hb)).trans h1, h2.keep hs hk⟩
theorem FSS.form (h : FSS w S v ls) : ∃ A c, v = .slice A ls.length c ∧ ls.length ≤ c ∧ c ≤ maxLen := by
 obtain ⟨A, c, e, hl, hc, _⟩ := h
 exact ⟨A, c, e, hl, hc⟩
theorem FSS.at_ {A : Option Addr} {n c : Nat} (h : FSS w S (.slice A n c) ls) (hp : 0 < ls.length) :
  ∃ b o, A = some ⟨b, o, none⟩ ∧ S b ∧ b < w.heap.size ∧ ∀ j l, ls[j]? = some l → ∃ X z, w.cell? ⟨b, o + j, none⟩ = some (.slice X l.length z) ∧ FS w S (.slice X l.length z) l := by
 obtain ⟨A', c', e, _, _, hx⟩ := h
 injection e with e1 e2 e3
 subst e1
 exact hx hp
end
def okList (l : List Fi) : Prop := l.length ≤ 20 ∧ ∀ f ∈ l, f.name.length ≤ 100 ∧ f.b.length ≤ 30000
def LightOk (ls : List (List Fi)) : Prop := ls.length ≤ 12 ∧ ∀ l ∈ ls, okList l
def LightAs (w : World) (ls : List (List Fi)) (e : Ending) (w' : World) : Prop := ∃ b : Bool, e = .returned (.bool b) ∧ (b = true → LightOk ls) ∧ w = w'
set_option maxHeartbeats 8000000 in
theorem light_any (S : Nat → Prop) (v : Value) (ls : List (List Fi)) (w : World) (h : FSS w S v ls) : Calls Tryz.prog 13 #[v] w (LightAs w ls) := by
 obtain ⟨A, cp, rfl, hlc, hcm⟩ := h.form
 have hl63 : ls.length ≤ 9223372036854775807 := by unfold maxLen at hcm; omega
 obtain ⟨D, hD⟩ : ∃ D, D = LightAs w ls := ⟨_, rfl⟩
 rw [← hD]
 have HD : Hid (∀ b : Bool, (b = true → LightOk ls) → D (.returned (.bool b)) w) := fun b hb => by rw [hD]; exact ⟨b, rfl, hb, rfl⟩
 clear hD
 go_enter Tryz.func13, Tryz.ntmps13
 go_wp2
 go_loopw [3, 4] (fun nv iv wr => ∃ k m : Nat, k ≤ ls.length ∧ k ≤ 40 ∧ m ≤ k * 600000 ∧ iv = .int .i64 (k : Int) ∧ nv = .int .i64 (m : Int) ∧ Hid (∀ (j : Nat) (l : List Fi), j < k → ls[j]? = some l → okList l) ∧ w = wr) (fun _ iv _ => ls.length - (intOf iv).toNat)
 case atStart => exact ⟨0, 0, by omega, by omega, by omega, rfl, rfl, fun j l hj => absurd hj (Nat.not_lt_zero _), rfl⟩
 case round =>
  obtain ⟨k, m, hk, hk40, hm, rfl, rfl, HN, rfl⟩ := hrel
  by_cases hlt : k < ls.length
  ·have hltI : (k : Int) < (ls.length : Int) := by omega
   by_cases h40 : k < 40
   ·have h40I : (k : Int) < 40 := by omega
    obtain ⟨b, o, rfl, sb, hbl, hx⟩ := h.at_ (by omega)
    obtain ⟨l, hl⟩ : ∃ l, ls[k]? = some l := ⟨_, List.getElem?_eq_getElem hlt⟩
    obtain ⟨X, z, j0, hfs⟩ := hx k l hl
    have HL := Lib.hid hl
    clear hx hl
    by_cases h20 : 20 < l.length
    ·have D : decide ((20 : Int) < (l.length : Int)) = true := decide_eq_true (by omega)
     have D' : decide (20 < l.length) = true := decide_eq_true h20
     have HF := Lib.hid (HD.out false (fun e => by cases e))
     clear h20
     generalize l.length = n at *
     go_wp2
     exact HF.out
    ·have D : decide ((20 : Int) < (l.length : Int)) = false := decide_eq_false (by omega)
     have D' : decide (20 < l.length) = false := decide_eq_false h20
     have H20 := Lib.hid h20
     have hl63' : l.length ≤ 9223372036854775807 := by omega
     clear h20
     go_wp2
     go_loopw [3, 5] (fun nv jv wr => ∃ j q : Nat, j ≤ l.length ∧ q ≤ k * 600000 + j * 30000 ∧ jv = .int .i64 (j : Int) ∧ nv = .int .i64 (q : Int) ∧ Hid (∀ (i : Nat) (f : Fi), i < j → l[i]? = some f → f.name.length ≤ 100 ∧ f.b.length ≤ 30000) ∧ w = wr) (fun _ jv _ => l.length - (intOf jv).toNat)
     case atStart =>
      have hm0 : m ≤ k * 600000 + 0 * 30000 := by rw [Nat.zero_mul, Nat.add_zero]; exact hm
      have hfi : Hid (∀ (i : Nat) (f : Fi), i < 0 → l[i]? = some f → f.name.length ≤ 100 ∧ f.b.length ≤ 30000) := fun i f hi => absurd hi (Nat.not_lt_zero _)
      exact ⟨0, m, Nat.zero_le _, hm0, by simp, by simp, hfi, by trivial⟩
     case round =>
      obtain ⟨j, q, hj, hq, rfl, rfl, HM, rfl⟩ := hrel
      by_cases hjl : j < l.length
      ·have hjI : (j : Int) < (l.length : Int) := by omega
       obtain ⟨b2, o2, rfl, _, _, hy⟩ := hfs.at_ (by omega)
       obtain ⟨f, hf⟩ : ∃ f, l[j]? = some f := ⟨_, List.getElem?_eq_getElem hjl⟩
       obtain ⟨y0, _, ⟨X2, z2, y1, _⟩, _⟩ := hy j f hf
       have HF := Lib.hid hf
       unfold strV at y0
       obtain ⟨fn, hfn⟩ : ∃ b : ByteArray, b = ⟨f.name.toArray⟩ := ⟨_, rfl⟩
       rw [← hfn] at y0
       have HFN : Hid (fn.size = f.name.length) := by show _ = _; rw [hfn]; rfl
       clear hy hf hfn
       by_cases h100 : 100 < fn.size
       ·have E : decide ((100 : Int) < (fn.size : Int)) = true := decide_eq_true (by omega)
        have E' : decide (100 < fn.size) = true := decide_eq_true h100
        have HF2 := Lib.hid (HD.out false (fun e => by cases e))
        clear h100
        go_wp2
        exact HF2.out
       ·have E : decide ((100 : Int) < (fn.size : Int)) = false := decide_eq_false (by omega)
        have E' : decide (100 < fn.size) = false := decide_eq_false h100
        by_cases h3 : 30000 < f.b.length
        ·have G : decide ((30000 : Int) < (f.b.length : Int)) = true := decide_eq_true (by omega)
         have G' : decide (30000 < f.b.length) = true := decide_eq_true h3
         have HF2 := Lib.hid (HD.out false (fun e => by cases e))
         clear h100 h3
         generalize f.b.length = fb at *
         go_wp2
         exact HF2.out
        ·have G : decide ((30000 : Int) < (f.b.length : Int)) = false := decide_eq_false (by omega)
         have G' : decide (30000 < f.b.length) = false := decide_eq_false h3
         have ew : IntKind.i64.wrap ((q : Int) + (f.b.length : Int)) = ((q + f.b.length : Nat) : Int) := by rw [IntKind.wrap_i64]; have := H20.out; omega
         have HOK : Hid (f.name.length ≤ 100 ∧ f.b.length ≤ 30000) := ⟨by rw [← HFN.out]; omega, by omega⟩
         clear h100 h3
         obtain ⟨fb, hfb⟩ : ∃ x, x = f.b.length := ⟨_, rfl⟩
         rw [← hfb] at y1 G G' ew
         have HFB := Lib.hid hfb
         clear hfb
         go_wp2
         go_roundw
         case rel => exact ⟨j + 1, q + fb, by omega, by have := HFB.out; have := HOK.out.2; omega, by go_num, by first | rfl | exact congrArg (Value.int IntKind.i64) (Int.natCast_add _ _).symm, fun i g hi hg => by
          by_cases hij : i < j
          ·exact HM.out i g hij hg
          ·obtain rfl : i = j := by omega
           rw [HF.out] at hg
           obtain rfl := Option.some.inj hg
           exact HOK.out, trivial⟩
         case measure => simp [intOf]; omega
      ·obtain rfl : j = l.length := by omega
       have HOKL : Hid (okList l) := ⟨by have := H20.out; omega, fun f hf => by
        obtain ⟨i, hi⟩ := List.mem_iff_getElem?.1 hf
        exact HM.out i f (List.getElem?_eq_some_iff.1 hi).1 hi⟩
       have hq2 : q ≤ (k + 1) * 600000 := by have := H20.out; omega
       go_wp2
       go_roundw
       case rel => exact ⟨k + 1, q, by omega, by omega, hq2, by go_num, rfl, fun i g hi hg => by
        by_cases hik : i < k
        ·exact HN.out i g hik hg
        ·obtain rfl : i = k := by omega
         rw [HL.out] at hg
         obtain rfl := Option.some.inj hg
         exact HOKL.out, trivial⟩
       case measure => simp [intOf]; omega
   ·have h40I : decide ((k : Int) < 40) = false := decide_eq_false (by omega)
    have D : decide ((ls.length : Int) ≤ 12) = false := decide_eq_false (by omega)
    have D' : decide (ls.length ≤ 12) = false := decide_eq_false (by omega)
    have h40N : decide (k < 40) = false := decide_eq_false (by omega)
    have HF := Lib.hid (HD.out false (fun e => by cases e))
    clear h40 hlt
    go_wp2
    exact HF.out
  ·obtain rfl : k = ls.length := by omega
   by_cases h12 : ls.length ≤ 12
   ·have D : decide ((ls.length : Int) ≤ 12) = true := decide_eq_true (by omega)
    have D' : decide (ls.length ≤ 12) = true := decide_eq_true h12
    have HT := Lib.hid (HD.out true (fun _ => ⟨h12, fun l hl => by
     obtain ⟨j, hj⟩ := List.mem_iff_getElem?.1 hl
     exact HN.out j l (List.getElem?_eq_some_iff.1 hj).1 hj⟩))
    have HF := Lib.hid (HD.out false (fun e => by cases e))
    by_cases hm6 : m ≤ 60000
    ·have E : decide ((m : Int) ≤ 60000) = true := decide_eq_true (by omega)
     have E' : decide (m ≤ 60000) = true := decide_eq_true hm6
     clear h12 hm6 hk40
     go_wp2
     exact HT.out
    ·have E : decide ((m : Int) ≤ 60000) = false := decide_eq_false (by omega)
     have E' : decide (m ≤ 60000) = false := decide_eq_false hm6
     clear h12 hm6 hk40
     go_wp2
     exact HF.out
   ·have D : decide ((ls.length : Int) ≤ 12) = false := decide_eq_false (by omega)
    have D' : decide (ls.length ≤ 12) = false := decide_eq_false h12
    have HF := Lib.hid (HD.out false (fun e => by cases e))
    clear h12 hk40
    go_wp2
    exact HF.out
end
section
open Go.RowKit
theorem doD_now {ps : List Pt} {s : Dk} (h : (doD ps s).2 = 0) : ∀ i, i < s.safe.length → (doD ps s).1.now i = lastP ps i (s.now i) := by
  unfold doD at h ⊢
  split at h
  · rename_i h0
    rw [if_pos h0]
    obtain rfl : ps = [] := List.eq_nil_of_length_eq_zero h0
    exact fun _ _ => rfl
  · rename_i h0
    rw [if_neg h0]
    exact (wsD_ok ps s h).2
theorem wipeD_now {a b : Nat} {s : Dk} (h : (wipeD a b s).2 = 0) : ∀ i, i < s.safe.length → (wipeD a b s).1.now i = if a ≤ i ∧ i ≤ b then zs 256 else s.now i := by
  unfold wipeD at h ⊢
  split at h
  · cases h
  · rename_i hf
    rw [if_neg hf]
    intro i hi
    rw [doD_now h i hi]
    split
    · rename_i hab
      exact wipe_last hab.1 hab.2
    · exact wipe_far (by omega) _
theorem openD_zero {n : Nat} {s : Dk} (hn : n < s.safe.length) (h : (openD n s).2 = 0) : ∀ i, i ≤ n → (openD n s).1.now i = zs 256 := by
  unfold openD at h ⊢
  split at h
  · cases h
  · rename_i hf
    rw [if_neg hf]
    simp only [seqD] at h ⊢
    by_cases h1 : (doD (leftP n s) s).2 = 0
    · rw [if_pos h1] at h ⊢
      by_cases h2 : (wipeD 0 0 (doD (leftP n s) s).1).2 = 0
      · rw [if_pos h2] at h ⊢
        by_cases h3 : (wipeD 1 n (wipeD 0 0 (doD (leftP n s) s).1).1).2 = 0
        · rw [if_pos h3]
          intro i hi
          show (wipeD 1 n _).1.now i = _
          rw [wipeD_now h3 i (by rw [wipeD_len, doD_len]; omega)]
          split
          · rfl
          · rw [wipeD_now h2 i (by rw [doD_len]; omega), if_pos (by omega)]
        · rw [if_neg h3] at h; exact absurd h h3
      · rw [if_neg h2] at h; exact absurd h h2
    · rw [if_neg h1] at h; exact absurd h h1
theorem open_idle {n : Nat} {s : Dk} (hf : s.fuse ≠ 0) (hz : ∀ i, i ≤ n → s.now i = zs 256) : openD n s = (s, 0) := by
  have h0 : s.now 0 = zs 256 := hz 0 (Nat.zero_le _)
  have hp : leftP n s = [] := by
    unfold leftP
    rw [told_zero (log := logD n s) (by unfold logD; rw [List.range_succ_eq_map]; simpa using h0)]
    split <;> rfl
  unfold openD
  have e2 : wipeD 0 0 s = (s, 0) := wipeD_none hf fun i _ hi => hz i (by omega)
  have e3 : wipeD 1 n s = (s, 0) := wipeD_none hf fun i _ hi => hz i hi
  rw [if_neg hf, hp, seqD_one, show doD [] s = (s, 0) from rfl, if_pos rfl, seqD_one, e2, if_pos rfl, seqD_one, e3, if_pos rfl]
  rfl
section
variable {c : CI} {fl : List Fe} {s : Dk}
theorem Rest.fuse (h : Rest c fl s) (f : Int) : Rest c fl { s with fuse := f } := ⟨h.fine, h.len, h.stands⟩
def willF (c : CI) (fl : List Fe) (l : List Fi) : List Fe := if tryN c (nodesF fl) false l = 0 then nextF c.cn fl l else fl
structure Aft (c : CI) (fl fl' : List Fe) (P : List Pt) (dn : Bool) (s : Dk) : Prop where
  fine : Fine c.cn.log c.cn.size P
  left : Left c.cn.log c.cn.size P (imgF c.cn fl) dn s
  was : Fine13 c.cn fl
  then_ : Fine13 c.cn fl'
  will : ∀ t : Dk, t.safe.length = c.cn.size → Stands c.cn.log c.cn.size (W1 P (imgF c.cn fl)) t → Rest c fl' t
theorem doF_left (hm : c.may) (hr : Rest c fl s) (l : List Fi) : ∃ P, Aft c fl (willF c fl l) P (decide ((doF c fl false l s).2.1 = 0)) (doF c fl false l s).1 := by
  obtain ⟨hn, hN⟩ := cn_log _ hm.ok
  by_cases h0 : tryN c (nodesF fl) false l = 0
  · obtain ⟨_, hcan, hcost⟩ := can_of_try hr.fine h0
    have htk := pats_takes hm.ok hr.fine hcan
    have hpl := patsH_len hcan
    have e1 : doF c fl false l s = ((comA c.cn.log s.safe.length (patsH c.cn (chsM (mapF fl) (tkF c.cn fl) (usF c.cn fl) l)) s).1, (comA c.cn.log s.safe.length (patsH c.cn (chsM (mapF fl) (tkF c.cn fl) (usF c.cn fl) l)) s).2,
        if (comA c.cn.log s.safe.length (patsH c.cn (chsM (mapF fl) (tkF c.cn fl) (usF c.cn fl) l)) s).2 = 0 then nextF c.cn fl l else fl) := if_neg (by simp [h0])
    have hrp : rightP c.cn.log c.cn.size (patsH c.cn (chsM (mapF fl) (tkF c.cn fl) (usF c.cn fl) l)) = 0 := by
      unfold rightP
      rw [if_pos htk, if_neg (by omega)]
    have hgp : goodP c.cn.log c.cn.size (patsH c.cn (chsM (mapF fl) (tkF c.cn fl) (usF c.cn fl) l)) = patsH c.cn (chsM (mapF fl) (tkF c.cn fl) (usF c.cn fl) l) := if_pos hrp
    refine ⟨goodP c.cn.log c.cn.size (patsH c.cn (chsM (mapF fl) (tkF c.cn fl) (usF c.cn fl) l)), fine_good _ hn hN, ?_, hr.fine, by rw [show willF c fl l = nextF c.cn fl l from if_pos h0]; exact next_fine hr.fine hcan, fun t ht hs => ?_⟩
    · rw [e1, hr.len]
      exact comA_left hn hN hr.len hr.stands _ fun h => ⟨of_decide_eq_true h, hrp⟩
    · have ew : willF c fl l = nextF c.cn fl l := if_pos h0
      rw [ew]
      refine ⟨next_fine hr.fine hcan, ht, hs.1, hs.2.1, fun i hi hlt => ?_⟩
      rw [hs.2.2 i hi hlt, hgp]
      exact pats_make hm.ok hr.fine hcan hi hlt
  · have e1 : doF c fl false l s = (s, tryN c (nodesF fl) false l, fl) := if_pos h0
    have ew : willF c fl l = fl := if_neg h0
    rw [e1, ew]
    have ha := stands_allow hr.len hr.stands
    exact ⟨[], ⟨decide_eq_true fun i hi => absurd hi (Nat.not_lt_zero _), Nat.zero_le _, hn, hN⟩, ⟨hr.len, Good.z0 ha, fun _ ks => ha.crashed ks⟩, hr.fine, hr.fine, fun t ht hs => ⟨hr.fine, ht, hs⟩⟩
theorem Aft.open_ {fl' : List Fe} {P : List Pt} {dn : Bool} (h : Aft c fl fl' P dn s) (ks : List Bool) (f : Int) : Aft c fl fl' P dn (openD c.cn.log { s.crashed ks with fuse := f }).1 := ⟨h.fine, h.left.open_ h.fine ks f, h.was, h.then_, h.will⟩
theorem Aft.last {fl' : List Fe} {P : List Pt} {dn : Bool} (h : Aft c fl fl' P dn s) (ks : List Bool) :
    (openD c.cn.log (s.crashed ks)).2 = 0 ∧ (openD c.cn.log (s.crashed ks)).1.fuse = -1 ∧ (Rest c fl' (openD c.cn.log (s.crashed ks)).1 ∨ dn = false ∧ Rest c fl (openD c.cn.log (s.crashed ks)).1) := by
  obtain ⟨h1, h2, h3, h4⟩ := h.left.last h.fine ks
  refine ⟨h1, h2, ?_⟩
  rcases h4 with h4 | ⟨h4, h5⟩
  · exact .inl (h.will _ h3 h4)
  · exact .inr ⟨h4, h.was, h3, h5⟩
theorem Aft.len {fl' : List Fe} {P : List Pt} {dn : Bool} (h : Aft c fl fl' P dn s) : s.safe.length = c.cn.size := h.left.len
theorem OpAs.rest {w w' : World} {p : DA} {e : Ending} (h : OpAs w p c s e w') (hm : c.may) (h1 : (openD c.cn.log s).2 = 0) (h2 : (openD c.cn.log s).1.fuse ≠ 0) (hr : Rest c fl (openD c.cn.log s).1) :
    ∃ a : SA, a.p = p ∧ e = .returned (.tuple #[.pointer (some ⟨a.sg, 0, none⟩), .int .i64 0]) ∧ ST w' a c (nodesF fl) (openD c.cn.log s).1 false ∧ (∀ x, a.has x → p.has x ∨ w.heap.size ≤ x) := by
  obtain ⟨nl, k1, k2⟩ := ldA_files hm hr.fine (s := (openD c.cn.log s).1) fun i hi hlt => hr.stands.2.2 i hi hlt
  obtain ⟨a, ha, he, hst, hh⟩ := h.good h1 h2 nl k1
  refine ⟨a, ha, he, ?_, hh⟩
  exact hst.remap (KeepP.refl _ _) (hst.mf.like (by rw [nodes_names]; exact hr.fine.names) k2) (fit_nodes hm hr.fine) (few_nodes hr.fine)
end
theorem few_of {c : CI} {fl : List Fe} (gf : Fine13 c.cn fl) (hm : c.may) : (filesF fl).length ≤ 64 := by
  have h1 := few_nodes gf
  rw [nodes_len] at h1
  have := hm.ok.files2
  rw [files_len]
  omega
theorem small_of {c : CI} {fl : List Fe} (gf : Fine13 c.cn fl) : ∀ f ∈ filesF fl, f.b.length ≤ 24576 := by
  intro f hf
  obtain ⟨x, hx, rfl⟩ := List.mem_map.1 hf
  exact (gf.each x hx).size
theorem OpAs.back {w w' : World} {p : DA} {c : CI} {s : Dk} {e : Ending} (h : OpAs w p c s e w') : ∃ v, e = .returned v := by
  by_cases h1 : (openD c.cn.log s).2 = 0
  · by_cases h2 : (openD c.cn.log s).1.fuse = 0
    · exact ⟨_, h.dead h1 h2⟩
    · cases h3 : ldA c (openD c.cn.log s).1 c.cn.files with
      | none => exact ⟨_, h.bad h1 h2 h3⟩
      | some nl =>
        obtain ⟨a, _, he, _⟩ := h.good h1 h2 nl h3
        exact ⟨_, he⟩
  · exact ⟨_, h.log h1⟩
theorem ST.again {w w' : World} {a : SA} {c : CI} {nl : List Nd} {s s' : Dk} {br : Bool} (h : ST w a c nl s br) (hd : DS w' a.p s') (k : KeepP (Off a.p w) w w') (hl : s'.safe.length = s.safe.length) : ST w' a c nl s' br :=
  h.commit hd (h.lg.keepP k ⟨KB.lt h.lg, h.sn.pl⟩) (k.mono fun x hx => hx.1) hl
end
section
open Go.RowKit
section
variable {w w' : World} {a : SA} {c : CI} {fl : List Fe} {s : Dk}
theorem KeepP.elder {W : World} {B : Nat} (k : KeepP (OffS a w) w w') (bl : Below B W w) (ha : ∀ x, a.has x → B ≤ x) (hB : B ≤ w.heap.size) : Below B W w' :=
  bl.trans (k.to_below fun x hx => ⟨by omega, fun h => by have := ha x h; omega⟩)
theorem KeepP.elderP {W : World} {B : Nat} {p : DA} (k : KeepP (Off p w) w w') (bl : Below B W w) (ha : ∀ x, p.has x → B ≤ x) (hB : B ≤ w.heap.size) : Below B W w' :=
  bl.trans (k.to_below fun x hx => ⟨by omega, fun h => by have := ha x h; omega⟩)
theorem FS.beside {v : Value} {l : List Fi} (h : FS w (fun b => ¬ a.has b) v l) (k : KeepP (OffS a w) w w') : FS w' (fun b => ¬ a.has b) v l := h.keep k.size fun b hb hlt => k.block b ⟨hlt, hb⟩
theorem sdo_rest (h : ST w a c (nodesF fl) s false) (hr : Rest c fl s) (hf : s.fuse = -1) (S : Nat → Prop) (v : Value) (l : List Fi) (hv : FS w S v l) (hS : ∀ b, S b → ¬ a.has b) (hl : l.length ≤ 1000000) :
    Calls Tryz.prog 18 #[.pointer (some ⟨a.sg, 0, none⟩), v] w fun e w' => e = .returned (.int .i64 (tryN c (nodesF fl) false l)) ∧
      (∃ s', ST w' a c (nodesF (willF c fl l)) s' false ∧ Rest c (willF c fl l) s' ∧ s'.fuse = -1) ∧ KeepP (OffS a w) w w' := by
  obtain ⟨e1, e2, e3, e4⟩ := do_rest h.may hr hf l
  refine (sdo_any h hr.fine S v l hv hS hl).mono ?_
  rintro e w' ⟨he, ⟨br, hst, hb1, hb2⟩, hk⟩
  rw [e1] at he
  have hbr : br = false := by
    by_cases h0 : tryN c (nodesF fl) false l = 0
    · exact hb1 (e1.trans h0)
    · exact hb2 h0
  subst hbr
  have ew : willF c fl l = (doF c fl false l s).2.2 := e4.symm
  rw [ew]
  exact ⟨he, ⟨_, hst, e3, e2⟩, hk⟩
theorem will_files (l : List Fi) : filesF (willF c fl l) = if tryN c (nodesF fl) false l = 0 then doL (filesF fl) l else filesF fl := by
  unfold willF
  split
  · exact files_next
  · rfl
theorem light_at {ls : List (List Fi)} (h : LightOk ls) {k : Nat} {l : List Fi} (hl : ls[k]? = some l) : okList l := h.2 l (List.mem_of_getElem? hl)
end
theorem FSS.elder {W w : World} {B : Nat} {v : Value} {ls : List (List Fi)} (h : FSS W (fun b => b < B) v ls) (hB : B ≤ W.heap.size) (bl : Below B W w) : FSS w (fun b => b < B) v ls :=
  h.keep bl.size fun b hb _ => bl.block b hb
end
section
open Go.RowKit Go.ChangeShapes Go.WideShapes Go.Joins
theorem cells_fil : Tryz.prog.cellsOf 71 = 3 := by kernel_rfl
theorem cells_fils : Tryz.prog.cellsOf 38 = 1 := by kernel_rfl
theorem open_file {H : Type} {enc : TypeId × Value → H} {W : World} {fuel : Nat} {cs : List Value} {x : DataW H × List MemPlace}
    (h : DataW.trod enc Tryz.prog W 0 (fun _ => true) true fuel 71 cs = some x) :
    ∃ f : Fi, ∃ X z, cs = [strV f.name, .slice X f.b.length z, .bool f.gone] ∧ f.name.length ≤ maxLen ∧ BS W (fun b => b < W.heap.size) (.slice X f.b.length z) f.b := by
  obtain ⟨xs, n, _, _, hl, hlen, hf⟩ := DataW.trod_struct Tryz.underlying71 h
  rw [cells_fil] at hl
  match cs, hl with
  | [c0, c1, c2], _ =>
    have hxs : xs.length = 3 := by simpa using hlen
    have at_ : ∀ i, (hi : i < 3) → xs[i]? = some (xs[i]'(by omega)) := fun i hi => List.getElem?_eq_getElem (by omega)
    have k0 : DataW.trod enc Tryz.prog W 0 (fun _ => true) true n 9 ([c0, c1, c2].drop 0 |>.take (Tryz.prog.cellsOf 9)) = some (xs[0]'(by omega)) := (hf 0 _ rfl).trans (at_ 0 (by omega))
    have k1 : DataW.trod enc Tryz.prog W 0 (fun _ => true) true n 55 ([c0, c1, c2].drop 1 |>.take (Tryz.prog.cellsOf 55)) = some (xs[1]'(by omega)) := (hf 1 _ rfl).trans (at_ 1 (by omega))
    have k2 : DataW.trod enc Tryz.prog W 0 (fun _ => true) true n 4 ([c0, c1, c2].drop 2 |>.take (Tryz.prog.cellsOf 4)) = some (xs[2]'(by omega)) := (hf 2 _ rfl).trans (at_ 2 (by omega))
    rw [cells_str] at k0
    rw [cells_bytes] at k1
    rw [cells_bool] at k2
    obtain ⟨s, e0, _, hs⟩ := DataW.trod_string Tryz.underlying9 k0
    obtain ⟨l, hb⟩ := BS_of_trod (v := c1) (by simpa using k1)
    obtain ⟨g, e2, _⟩ := DataW.trod_bool Tryz.underlying4 k2
    obtain ⟨X, z, e1⟩ : ∃ X z, c1 = .slice X l.length z := by
      obtain ⟨X, z, e, _⟩ := hb
      exact ⟨X, z, e⟩
    simp at e0 e2
    subst e0 e1 e2
    refine ⟨⟨s.data.toList, l, g⟩, X, z, rfl, ?_, hb.lt.mono fun _ h => h.2⟩
    have : s.data.toList.length = s.size := by rw [Array.length_toList]; rfl
    show s.data.toList.length ≤ maxLen
    omega
theorem files_of_trod {H : Type} {enc : TypeId × Value → H} {W : World} {fuel : Nat} {v : Value} {x : DataW H × List MemPlace}
    (h : DataW.trod enc Tryz.prog W 0 (fun _ => true) true fuel 38 [v] = some x) : ∃ l : List Fi, FS W (fun b => b < W.heap.size) v l := by
  rcases DataW.trod_slice Tryz.underlying38 h with ⟨hcs, _⟩ | ⟨a, len, cap, elems, rest, n, _, hcs, _, _, hlc, hm, hel, hi, _, _⟩
  · simp at hcs
    subst hcs
    exact ⟨[], FS.nil _ _⟩
  · simp at hcs
    subst hcs
    rw [cells_fil] at hi
    have hi2 : ∀ i, i < len → ∃ f : Fi, f.name.length ≤ maxLen ∧ ∃ X z, BS W (fun b => b < W.heap.size) (.slice X f.b.length z) f.b ∧ W.cell? ((a.add (i * 3)).add 0) = some (strV f.name) ∧ W.cell? ((a.add (i * 3)).add 1) = some (.slice X f.b.length z) ∧ W.cell? ((a.add (i * 3)).add 2) = some (.bool f.gone) := by
      intro i hil
      have := hi i hil
      rw [List.getElem?_eq_getElem (by omega)] at this
      obtain ⟨cs, hcs, htr⟩ := Option.bind_eq_some_iff.1 this
      obtain ⟨f, X, z, rfl, hn, hb⟩ := open_file htr
      obtain ⟨_, _, hcell⟩ := World.cells?_some hcs
      exact ⟨f, hn, X, z, hb, hcell 0 (by simp), hcell 1 (by simp), hcell 2 (by simp)⟩
    haveI : Inhabited Fi := ⟨⟨[], [], false⟩⟩
    obtain ⟨F, hF⟩ := Deep.choose_lt (α := Fi) hi2
    have hlen : ((List.range len).map F).length = len := by simp
    refine ⟨(List.range len).map F, some a, cap, by rw [hlen], by omega, hm, fun h0 => ?_⟩
    rw [hlen] at h0
    obtain ⟨b, o, spot⟩ := a
    obtain ⟨_, _, _, _, k0, _⟩ := hF 0 h0
    have hspot : spot = none := by simpa [Addr.add] using World.cell?_spot k0
    subst hspot
    rw [add_plain, add_plain] at k0
    have hbl := World.block_lt_of_cell? _ _ k0
    refine ⟨b, o, rfl, hbl, hbl, fun i f hif => ?_⟩
    have hil : i < len := by
      have := (List.getElem?_eq_some_iff.1 hif).1
      omega
    simp [hil] at hif
    subst hif
    obtain ⟨hn, X, z, hb, q0, q1, q2⟩ := hF i hil
    rw [add_plain, add_plain] at q0 q1 q2
    exact ⟨q0, hn, ⟨X, z, q1, hb⟩, q2⟩
theorem open_files {H : Type} {enc : TypeId × Value → H} {W : World} {base : Nat} {v : Value} {d : DataW H} {p : List MemPlace}
    (ok : Value.okWide Tryz.prog W .any base 38 v) (h : DataW.Trod enc Tryz.prog W 0 (fun _ => true) true 38 v d p) : ∃ l : List Fi, FS W (fun b => b < W.heap.size) v l := by
  obtain ⟨a0, len, cap, rfl⟩ := okWide_slice Tryz.underlying38 ok
  obtain ⟨fuel, hf⟩ := h
  exact files_of_trod (x := _) hf
theorem lists_of_trod {H : Type} {enc : TypeId × Value → H} {W : World} {fuel : Nat} {v : Value} {x : DataW H × List MemPlace}
    (h : DataW.trod enc Tryz.prog W 0 (fun _ => true) true fuel 24 [v] = some x) : ∃ ls : List (List Fi), FSS W (fun b => b < W.heap.size) v ls := by
  rcases Deep.open_slice1 Tryz.underlying24 cells_fils h with ⟨hcs, _⟩ | ⟨a, len, cap, m, n, V, D, Pl, hcs, _, hl, hm, hmm, _, hi⟩
  · simp at hcs
    subst hcs
    exact ⟨[], none, 0, rfl, by simp, by simp [maxLen], fun h0 => absurd h0 (by simp)⟩
  · simp at hcs
    subst hcs
    simp only [if_true] at hmm
    obtain ⟨f, hf⟩ := Deep.choose_lt (α := List Fi) (n := m) (p := fun i l => FS W (fun b => b < W.heap.size) (V i) l) (fun i him => files_of_trod (hi i him).2)
    have hlen : ((List.range len).map f).length = len := by simp
    refine ⟨(List.range len).map f, some a, cap, by rw [hlen], by omega, hm, fun h0 => ?_⟩
    rw [hlen] at h0
    obtain ⟨b, o, spot⟩ := a
    have hspot : spot = none := by simpa [Addr.add] using World.cell?_spot (hi 0 (by omega)).1
    subst hspot
    have hc0 := (hi 0 (by omega)).1
    rw [add_plain] at hc0
    refine ⟨b, o, rfl, World.block_lt_of_cell? _ _ hc0, World.block_lt_of_cell? _ _ hc0, fun j l hj => ?_⟩
    have hjl : j < len := by
      have := (List.getElem?_eq_some_iff.1 hj).1
      omega
    have hc := (hi j (by omega)).1
    rw [add_plain] at hc
    simp [hjl] at hj
    subst hj
    have hfj := hf j (by omega)
    obtain ⟨X, z, e, _⟩ := hfj.form
    rw [e] at hc hfj
    exact ⟨X, z, hc, hfj⟩
theorem open_lists {H : Type} {enc : TypeId × Value → H} {W : World} {base : Nat} {v : Value} {d : DataW H} {p : List MemPlace}
    (ok : Value.okWide Tryz.prog W .any base 24 v) (h : DataW.Trod enc Tryz.prog W 0 (fun _ => true) true 24 v d p) : ∃ ls : List (List Fi), FSS W (fun b => b < W.heap.size) v ls := by
  obtain ⟨a0, len, cap, rfl⟩ := okWide_slice Tryz.underlying24 ok
  obtain ⟨fuel, hf⟩ := h
  exact lists_of_trod (x := _) hf
end
section
open Go.RowKit Go.ChangeShapes Go.WideShapes Go.Joins
theorem open_cfg13 {H : Type} {enc : TypeId × Value → H} {W : World} {base : Nat} {v : Value} {d : DataW H} {p : List MemPlace}
    (ok : Value.okWide Tryz.prog W .any base 23 v) (h : DataW.Trod enc Tryz.prog W 0 (fun _ => true) true 23 v d p) : ∃ c : CI, v = cfgV c := by
  obtain ⟨cs, rfl, hsz⟩ := okWide_struct Tryz.underlying23 ok
  obtain ⟨n, hn⟩ := h
  obtain ⟨xs, m, _, _, hl, hlen, hf⟩ := DataW.trod_struct Tryz.underlying23 hn
  rw [show Tryz.prog.cellsOf 23 = 4 by kernel_rfl] at hl
  obtain ⟨c0, c1, c2, c3, hcs⟩ : ∃ c0 c1 c2 c3, cs = #[c0, c1, c2, c3] := by
    have hl' : cs.toList.length = 4 := hl
    match hc : cs.toList, hl' with
    | [c0, c1, c2, c3], _ => exact ⟨c0, c1, c2, c3, Array.toList_inj.1 hc⟩
  subst hcs
  have hxs : xs.length = 4 := by simpa using hlen
  have at_ : ∀ i, (hi : i < 4) → xs[i]? = some (xs[i]'(by omega)) := fun i hi => List.getElem?_eq_getElem (by omega)
  have k0 : DataW.trod enc Tryz.prog W 0 (fun _ => true) true m 3 ([c0, c1, c2, c3].drop 0 |>.take (Tryz.prog.cellsOf 3)) = some (xs[0]'(by omega)) := (hf 0 _ rfl).trans (at_ 0 (by omega))
  have k1 : DataW.trod enc Tryz.prog W 0 (fun _ => true) true m 3 ([c0, c1, c2, c3].drop 1 |>.take (Tryz.prog.cellsOf 3)) = some (xs[1]'(by omega)) := (hf 1 _ rfl).trans (at_ 1 (by omega))
  have k2 : DataW.trod enc Tryz.prog W 0 (fun _ => true) true m 3 ([c0, c1, c2, c3].drop 2 |>.take (Tryz.prog.cellsOf 3)) = some (xs[2]'(by omega)) := (hf 2 _ rfl).trans (at_ 2 (by omega))
  have k3 : DataW.trod enc Tryz.prog W 0 (fun _ => true) true m 3 ([c0, c1, c2, c3].drop 3 |>.take (Tryz.prog.cellsOf 3)) = some (xs[3]'(by omega)) := (hf 3 _ rfl).trans (at_ 3 (by omega))
  rw [cells_int] at k0 k1 k2 k3
  obtain ⟨z0, e0, _, _⟩ := DataW.trod_int Tryz.underlying3 k0
  obtain ⟨z1, e1, _, _⟩ := DataW.trod_int Tryz.underlying3 k1
  obtain ⟨z2, e2, _, _⟩ := DataW.trod_int Tryz.underlying3 k2
  obtain ⟨z3, e3, _, _⟩ := DataW.trod_int Tryz.underlying3 k3
  simp at e0 e1 e2 e3
  subst e0 e1 e2 e3
  exact ⟨⟨z0, z1, z2, z3⟩, rfl⟩
end
end Go.Proofs.YteddmnoeljakpaaGreatDoor
