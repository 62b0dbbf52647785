/-
  WaD: wipe, over the loaded program: its contract. No condition but what each theorem names.
  WaE: row, over the loaded program: sectors as patches. No condition but what it names.
-/
import Derived.Test.YtgoifhpinoodgaaDoorWo24

section
namespace Go.Proofs.YtgoifhpinoodgaaDoor
open Go.RowKit
set_option maxRecDepth 100000
set_option linter.unusedVariables false

/-- Those from a on, ahead of k, that are not zero. -/
def wipeQ (s : Dk) (a k : Nat) : List Pt := ((List.range' a (k - a)).filter fun i => !decide (s.now i = zs 256)).map fun (i : Nat) => ((i : Int), zs 256)
theorem wipeQ_all (s : Dk) (a b : Nat) : wipeQ s a (b + 1) = wipeP s a b := rfl
theorem wipeQ_zero (s : Dk) (a : Nat) : wipeQ s a a = [] := by unfold wipeQ; rw [Nat.sub_self]; rfl
theorem wipeQ_succ (s : Dk) {a k : Nat} (h : a ≤ k) : wipeQ s a (k + 1) = wipeQ s a k ++ (if s.now k = zs 256 then [] else [((k : Int), zs 256)]) := by
  unfold wipeQ
  rw [show k + 1 - a = (k - a) + 1 by omega, List.range'_concat, List.filter_append, List.map_append, Nat.one_mul, show a + (k - a) = k by omega]
  by_cases hz : s.now k = zs 256
  · simp [hz]
  · simp [hz]
theorem wipeQ_len (s : Dk) (a k : Nat) : (wipeQ s a k).length ≤ k - a := by
  unfold wipeQ
  rw [List.length_map]
  exact Nat.le_trans (List.length_filter_le _ _) (by simp)
theorem wipeP_fit {s : Dk} {a b : Nat} (h : b < s.safe.length) : Fit s.safe.length (wipeP s a b) := by
  intro q hq
  obtain ⟨i, h1, h2, rfl⟩ := wipeP_mem hq
  exact ⟨by show (0 : Int) ≤ (i : Int); omega, by show (i : Int) < _; omega, zs_len 256⟩

theorem onep_at (w : World) (t : TypeId) (a : Int) (x : Value) : ∀ j u, (flatW [(a, x)])[j]? = some u → (w.alloc (.cells #[.int .i64 a, x] t)).cell? ((⟨w.heap.size, 0, none⟩ : Addr).add j) = some u := by
  intro j u h
  rw [Addr.add_lit, Nat.zero_add, (KB.new w t #[.int .i64 a, x]).cell]
  simpa [flatW, two2] using h
theorem own_lt {w : World} {B e size n : Nat} {v : Value} {xs : List Value} (h : w.ownsRow B e size v n xs) {k : Nat} (hk : v.ownBlock = some k) : k < w.heap.size := by
  obtain ⟨_, h2⟩ := h
  rcases h2 with ⟨rfl, _⟩ | ⟨g', c, cur, rfl, hb, hg, _⟩
  · cases hk
  · simp [Value.ownBlock] at hk
    subst hk
    exact (Array.getElem?_eq_some_iff.1 hg).1
/-- Blocks of the call's own, but the row's. -/
def Mine (B : Nat) (v : Value) (w : World) (x : Nat) : Prop := B ≤ x ∧ x < w.heap.size ∧ v.ownBlock ≠ some x
theorem PT.mine {B : Nat} {v : Value} {w w' : World} {qs : List Two2} {ps : List Pt} (h : PT w (Mine B v w) qs ps) (hb : Below w.heap.size w w') : PT w' (Mine B v w') qs ps :=
  h.keepS hb.size (fun b _ hlt => hb.block b hlt) fun b hb' => ⟨hb'.1, Nat.lt_of_lt_of_le hb'.2.1 hb.size, hb'.2.2⟩
theorem PT.minegrow {B : Nat} {v v' : Value} {w w' : World} {qs : List Two2} {ps : List Pt} (h : PT w (Mine B v w) qs ps) (hg : w.grownBy w' v.ownBlock) (ho : v'.ownBlock = v.ownBlock ∨ v'.ownBlock = some w.heap.size) : PT w' (Mine B v' w') qs ps :=
  h.keepS hg.size (fun b sb hlt => hg.block b hlt fun e => sb.2.2 e.symm) fun b sb => ⟨sb.1, Nat.lt_of_lt_of_le sb.2.1 hg.size, by
    rcases ho with ho | ho
    · rw [ho]; exact sb.2.2
    · rw [ho]; intro e; injection e with e; have := sb.2.1; omega⟩

section
variable {w : World} {g n : Nat} {p : DA} {br : Bool} {s : Dk}
theorem wipe_dead (hg : LG w g p n br) (hd : DS w p s) (a b : Nat) (hab : a ≤ b) (hf : s.fuse = 0) :
    Calls Tryd.prog 45 #[.pointer (some ⟨g, 0, none⟩), .int .i64 (a : Int), .int .i64 (b : Int)] w fun e w' => e = .returned (.int .i64 8) ∧ w = w' := by
  have hr := read_chk hd (a : Int) (by simp [chk, hf])
  rw [show chk s (a : Int) = 8 from by simp [chk, hf]] at hr
  have c0 := hg.c0
  have D0 : decide ((a : Int) ≤ (b : Int)) = true := by simp; omega
  go_enter Tryd.func45, Tryd.ntmps45
  go_wp2
  go_loopw [7, 8] (fun v iv wr => v = .slice none 0 0 ∧ iv = .int .i64 (a : Int) ∧ wr = w) (fun _ _ _ => 0)
  case atStart => exact ⟨rfl, rfl, rfl⟩
  case round =>
    obtain ⟨rfl, rfl, rfl⟩ := hrel
    go_wp2_with (go_at_call 13; refine hr.mono ?_; rintro e w' ⟨rfl, rfl⟩)
    go_ret
    exact ⟨rfl, rfl⟩

set_option maxHeartbeats 2000000 in
theorem wipe_live (hg : LG w g p n br) (hgp : ¬ p.has g) (hd : DS w p s) (a b : Nat) (hab : a ≤ b) (hb : b < s.safe.length) (hf : s.fuse ≠ 0) :
    Calls Tryd.prog 45 #[.pointer (some ⟨g, 0, none⟩), .int .i64 (a : Int), .int .i64 (b : Int)] w fun e w' => e = .returned (.int .i64 (doD (wipeP s a b) s).2) ∧ DS w' p (doD (wipeP s a b) s).1 ∧ KeepP (Off p w) w w' := by
  have hN := hd.ok.few
  have hrd := fun (W : World) (hdW : DS W p s) (i : Nat) (hi : i < s.safe.length) => read_ok hdW i hi hf
  have HRD := Lib.hid hrd
  have hwr := fun (W : World) (v : Value) (hgW : LG W g p n br) (hdW : DS W p s) (h : PS W (Off p W) v (wipeP s a b)) => lwrite_any v _ W hgW hgp hdW h (wipeP_fit hb)
  have HWR := Lib.hid hwr
  have HQA := Lib.hid (wipeQ_all s a b)
  have hlt := hd.lt
  clear hrd hwr hf
  have hoff : Off p w g := ⟨KB.lt hg, hgp⟩
  go_enter Tryd.func45, Tryd.ntmps45
  go_wp2
  go_loopw [7, 8] (fun v iv wr => ∃ (k : Nat) (qs : List Two2), a ≤ k ∧ k ≤ b + 1 ∧ iv = .int .i64 (k : Int) ∧ wr.ownsRow w.heap.size 55 2 v qs.length (flatW qs) ∧ PT wr (Mine w.heap.size v wr) qs (wipeQ s a k) ∧ Below w.heap.size w wr) (fun _ iv _ => b + 1 - (intOf iv).toNat)
  case atStart => exact ⟨a, [], Nat.le_refl _, by omega, rfl, World.ownsRow_nil _ _ _ _, by rw [wipeQ_zero]; exact PT.nil _ _, Below.refl _ _⟩
  case round =>
    obtain ⟨k, qs, hak, hkb, rfl, how, pt, bl⟩ := hrel
    have hgr := hg.below bl
    have hdr := hd.below bl
    by_cases hle : k ≤ b
    · have D0 : decide ((k : Int) ≤ (b : Int)) = true := by simp; omega
      have c0 := hgr.c0
      have HS := Lib.hid (wipeQ_succ s hak)
      have hr := HRD.out wr hdr k (by omega)
      have hlen := wipeQ_len s a k
      have hql := pt.1
      have HLEN : Hid (qs.length + 1 ≤ 1000000000) := by show _ ≤ _; omega
      clear hlen hql
      generalize wipeQ s a k = ps at *
      have hnl := hd.ok.now_len k (by omega)
      have HNL := Lib.hid hnl
      generalize hx : s.now k = x at *
      clear hx hnl
      go_wp2_with fail
      refine hr.mono ?_
      rintro e w1 ⟨v1, rfl, how1, b1⟩
      have bs1 := own_BS how1
      have B1 := bl.trans (b1.mono bl.size)
      have how' := own_past b1 how
      have pt1 := pt.mine b1
      obtain ⟨A1, c1, rfl, _⟩ := bs1.form
      have he := empty_any _ _ x w1 bs1
      clear how how1 hr pt c0
      by_cases hz : x = zs 256
      · rw [decide_eq_true hz] at he
        have HZ : Hid (wipeQ s a (k + 1) = ps) := by show _ = _; rw [HS.out, if_pos hz, List.append_nil]
        clear hz bs1
        generalize x.length = m at *
        go_wp2_with fail
        refine he.mono ?_
        rintro e w2 ⟨rfl, b2⟩
        have how2 := own_past b2 how'
        have pt2 := pt1.mine b2
        clear he how' pt1
        go_wp2_with fail
        go_roundw
        case rel => exact ⟨k + 1, qs, by omega, by omega, by go_num, how2, by rw [HZ.out]; exact pt2, B1.trans (b2.mono B1.size)⟩
        case measure => simp [intOf]; omega
      · rw [decide_eq_false hz] at he
        have HZ : Hid (wipeQ s a (k + 1) = ps ++ [((k : Int), zs 256)]) := by show _ = _; rw [HS.out, if_neg hz]
        clear hz bs1
        generalize x.length = m at *
        go_wp2_with fail
        refine he.mono ?_
        rintro e w2 ⟨rfl, b2⟩
        have how2 := own_past b2 how'
        have pt2 := pt1.mine b2
        have B2 := B1.trans (b2.mono B1.size)
        clear he how' pt1 B1 b1 b2
        go_wp2_with fail
        refine (zero_any w2).mono ?_
        rintro e w3 ⟨rfl, k3, b3⟩
        have hbz := kb_256 k3 (zs_len 256)
        have how3 := own_past b3 how2
        have B3 := B2.trans (b3.mono B2.size)
        have hw2 := B2.size
        have hne : Mine w.heap.size u7 w3 w2.heap.size := ⟨hw2, k3.lt, fun e => by have := own_lt how2 e; omega⟩
        have pt3 := (pt2.mine b3).append (PT.one (a := (k : Int)) (hbz.mono (S' := Mine w.heap.size u7 w3) fun b hb => by subst hb; exact hne))
        rw [← HZ.out] at pt3
        have B4 := (Below.refl w3.heap.size w3).alloc (Nat.le_refl _) (.cells #[.int .i64 (k : Int), .slice (some ⟨w2.heap.size, 0, none⟩) 256 256] 55)
        have how4 := own_past B4 how3
        have pt4 := pt3.mine B4
        have hat := onep_at w3 55 (k : Int) (.slice (some ⟨w2.heap.size, 0, none⟩) 256 256)
        have hw3 := B3.size
        have B34 := B3.trans (B4.mono B3.size)
        clear pt2 pt3 how2 how3 hbz hne B2 b3 k3 B3 B4
        go_wp2_with (at_builtin; refine wpList_growP _ rfl _ _ rfl w.heap.size u7 qs rfl how4 ⟨w3.heap.size, 0, none⟩ 1 1 [((k : Int), .slice (some ⟨w2.heap.size, 0, none⟩) 256 256)] rfl rfl hat (by intro u hu; simp [flatW, two2] at hu; rcases hu with rfl | rfl <;> rfl) HLEN.out (by simp; omega) ?_; intro v5 w5 how5 g5 ho5)
        go_roundw
        case rel =>
          refine ⟨k + 1, _, by omega, by omega, by go_num, how5, pt4.minegrow g5 ho5, B34.grown g5 B34.size fun g e => ?_⟩
          exact own_ge how4 g e
        case measure => simp [intOf]; omega
    · obtain rfl : k = b + 1 := by omega
      have D0 : decide (((b + 1 : Nat) : Int) ≤ (b : Int)) = false := by simp; omega
      rw [HQA.out] at pt
      have hp := PS_of_own (S := Off p wr) how (pt.mono fun x hx => ⟨hx.2.1, fun e => by have := hlt x e; have := hx.1; omega⟩) fun x h1 h2 => ⟨h2, fun e => by have := hlt x e; omega⟩
      have hw := HWR.out wr u7 hgr hdr hp
      have hoffr : ∀ x, Off p w x → Off p wr x := fun x hx => ⟨Nat.lt_of_lt_of_le hx.1 bl.size, hx.2⟩
      obtain ⟨A1, c1, rfl, _⟩ := hp.form
      generalize (wipeP s a b).length = m at *
      go_wp2_with (go_at_call 43; refine hw.mono ?_; rintro e w5 ⟨rfl, d5, k5⟩)
      go_ret
      exact ⟨rfl, d5, (KeepP.of_below bl fun x hx => hx.1).trans (k5.mono hoffr)⟩

/-- wipe. -/
theorem wipe_any (hg : LG w g p n br) (hgp : ¬ p.has g) (hd : DS w p s) (a b : Nat) (hab : a ≤ b) (hb : b < s.safe.length) :
    Calls Tryd.prog 45 #[.pointer (some ⟨g, 0, none⟩), .int .i64 (a : Int), .int .i64 (b : Int)] w fun e w' => e = .returned (.int .i64 (wipeD a b s).2) ∧ DS w' p (wipeD a b s).1 ∧ KeepP (Off p w) w w' := by
  unfold wipeD
  by_cases hf : s.fuse = 0
  · rw [if_pos hf]
    refine (wipe_dead hg hd a b hab hf).mono ?_
    rintro e w' ⟨rfl, rfl⟩
    exact ⟨rfl, hd, KeepP.refl _ _⟩
  · rw [if_neg hf]
    exact wipe_live hg hgp hd a b hab hb hf
end
end Go.Proofs.YtgoifhpinoodgaaDoor
end

section
namespace Go.Proofs.YtgoifhpinoodgaaDoor
open Go.RowKit
set_option maxRecDepth 100000
set_option linter.unusedVariables false

def zP : Two2 := (0, .slice none 0 0)
theorem flatW_rep : ∀ n : Nat, flatW (List.replicate (n + 1) zP) = two2 zP ++ flatW (List.replicate n zP) := fun n => by rw [List.replicate_succ, flatW_cons]
theorem flatW_even : ∀ (n i : Nat), i < n → (flatW (List.replicate n zP))[i * 2]? = some (.int .i64 0) ∧ (flatW (List.replicate n zP))[i * 2 + 1]? = some (.slice none 0 0) := fun n i h =>
  flatW_at _ i zP (by rw [List.getElem?_replicate, if_pos h])
theorem madeCells_two (n : Nat) : madeCells (Value.agg #[.int .i64 0, .slice none 0 0]).cells (n * 2) = (flatW (List.replicate n zP)).toArray := by
  apply Array.toList_inj.1
  apply List.ext_getElem?
  intro i
  rw [Array.getElem?_toList]
  show _ = (flatW (List.replicate n zP))[i]?
  by_cases hi : i < n * 2
  · have h1 : (madeCells (Value.agg #[.int .i64 0, .slice none 0 0]).cells (n * 2))[i]? = some ((#[Value.int .i64 0, Value.slice none 0 0] : Array Value)[i % 2]!) := by
      unfold madeCells
      rw [Array.getElem?_map, Array.getElem?_range, if_pos hi]
      rfl
    rw [h1]
    obtain ⟨e0, e1⟩ := flatW_even n (i / 2) (by omega)
    rcases Nat.mod_two_eq_zero_or_one i with hm | hm
    · rw [hm, show i = i / 2 * 2 by omega, e0]; rfl
    · rw [hm, show i = i / 2 * 2 + 1 by omega, e1]; rfl
  · rw [Array.getElem?_eq_none (by rw [size_madeCells]; omega), List.getElem?_eq_none (by rw [flatW_length, List.length_replicate]; omega)]
theorem make_patches (w : World) (n : Nat) (hn : n ≤ 1000000) : ∃ C, C = (flatW ([] ++ List.replicate (n - 0) zP)).toArray ∧ (Instr.makeSlice 25 (.int .i64 n) (.int .i64 n)).run Tryd.prog w = .ok (.slice (some ⟨w.heap.size, 0, none⟩) n n) (w.alloc (.cells C 55)) := by
  obtain ⟨i0, hi, hz0, hz1, hz2⟩ := info_parts info_patch
  have hmk := run_make (P := Tryd.prog) w 25 55 i0 _ Tryd.underlying25 hi hz0 .i64 .i64 n n (by omega) (by omega) (by rw [hz2]; omega) (by omega)
  rw [hz1, Int.toNat_natCast, madeCells_two] at hmk
  exact ⟨_, rfl, hmk⟩
theorem splice_pair (qs : List Two2) (m : Nat) (q : Two2) : splice (flatW (qs ++ List.replicate (m + 1) zP)) (qs.length * 2) (two2 q) = flatW ((qs ++ [q]) ++ List.replicate m zP) := by
  rw [flatW_append, flatW_rep, ← flatW_length, splice_mid _ _ _ _ (by rfl), flatW_append, flatW_append, flatW_cons, flatW_nil, List.append_nil, List.append_assoc]

theorem rowP_succ (at_ k : Nat) {ls : List (List UInt8)} {l : List UInt8} (h : ls[k]? = some l) : rowP at_ (ls.take (k + 1)) = rowP at_ (ls.take k) ++ [(((at_ + k : Nat) : Int), l)] := by
  have hk := (List.getElem?_eq_some_iff.1 h).1
  apply List.ext_getElem?
  intro i
  rw [rowP_at]
  rcases Nat.lt_trichotomy i k with hi | hi | hi
  · rw [List.getElem?_append_left (by rw [rowP_len, List.length_take]; omega), rowP_at, List.getElem?_take, if_pos (by omega), List.getElem?_take, if_pos hi]
  · subst hi
    rw [List.getElem?_append_right (by rw [rowP_len, List.length_take]; omega), rowP_len, List.length_take, List.getElem?_take, if_pos (by omega), h, show i - min i ls.length = 0 by omega]
    rfl
  · rw [List.getElem?_append_right (by rw [rowP_len, List.length_take]; omega), rowP_len, List.length_take, List.getElem?_take, if_neg (by omega), List.getElem?_eq_none (by simp; omega)]
    rfl

set_option maxHeartbeats 2000000 in
/-- row. -/
theorem row_any (at_ : Nat) (ha : at_ ≤ 1000000) (S : Nat → Prop) (v : Value) (ls : List (List UInt8)) (w : World) (h : LS w S v ls) (hls : ls.length ≤ 1000000) :
    Calls Tryd.prog 51 #[.int .i64 (at_ : Int), v] w fun e w' => ∃ v', e = .returned v' ∧ PS w' (fun x => S x ∧ x < w.heap.size ∨ x = w.heap.size) v' (rowP at_ ls) ∧ Below w.heap.size w w' := by
  obtain ⟨A, c, rfl, hlc, hcm⟩ := h.form
  obtain ⟨C, hC, hmk⟩ := make_patches w ls.length hls
  have K0 : KB (w.alloc (.cells C 55)) w.heap.size 55 (flatW ([] ++ List.replicate (ls.length - 0) zP)).toArray := by rw [hC]; exact KB.new _ _ _
  have B0 := (Below.refl w.heap.size w).alloc (Nat.le_refl _) (.cells C 55)
  have hlen : ls.length ≤ 9223372036854775807 := by omega
  have HLS := Lib.hid hls
  have HAT := Lib.hid ha
  clear hC hls ha
  go_enter Tryd.func51, Tryd.ntmps51
  go_wp2
  go_loopw [13] (fun iv wr => ∃ (k : Nat) (qs : List Two2), k ≤ ls.length ∧ iv = .int .i64 k ∧ qs.length = k ∧ KB wr w.heap.size 55 (flatW (qs ++ List.replicate (ls.length - k) zP)).toArray ∧ PT wr (fun x => S x ∧ x < w.heap.size) qs (rowP at_ (ls.take k)) ∧ Below w.heap.size w wr) (fun iv _ => ls.length - (intOf iv).toNat)
  case atStart => exact ⟨0, [], by omega, rfl, rfl, K0, PT.nil _ _, B0⟩
  case round =>
    obtain ⟨k, qs, hk, rfl, hql, kb, pt, bl⟩ := hrel
    clear K0 B0 hmk
    by_cases hlt : k < ls.length
    · obtain ⟨b, o, rfl, sb, hb, hx⟩ := (h.below' bl).at_ (by omega)
      obtain ⟨l, hv⟩ : ∃ l, ls[k]? = some l := ⟨_, List.getElem?_eq_getElem hlt⟩
      obtain ⟨X, z, k0, hbs⟩ := hx k l hv
      have HS := Lib.hid (rowP_succ at_ k hv)
      have hbs2 : BS wr (fun x => S x ∧ x < w.heap.size) (.slice X l.length z) l := by
        obtain ⟨b', o', e', sb', hb', hx'⟩ := h.at_ (by omega)
        injection e' with e'
        injection e' with e1 e2
        subst e1 e2
        obtain ⟨X', z', k0', hbs'⟩ := hx' k l hv
        have := (World.cell?_of_block (w := w) (bl.block _ hb')).trans k0'
        rw [this] at k0
        obtain ⟨rfl, _, rfl⟩ : X' = X ∧ l.length = l.length ∧ z' = z := by simpa using k0
        exact hbs'.lt.below bl fun b hb => hb.2
      have HK : Hid (KB wr w.heap.size 55 (flatW (qs ++ List.replicate ((ls.length - (k + 1)) + 1) zP)).toArray) := by rw [show (ls.length - (k + 1)) + 1 = ls.length - k by omega]; exact kb
      have HW : Hid (wrap64 ((at_ : Int) + (k : Int)) = ((at_ + k : Nat) : Int)) := by
        have := HAT.out
        have := HLS.out
        show _ = _
        rw [IntWalk.wrap64_in _ (by omega)]
        omega
      clear hx hv hbs kb
      have hfit : k * 2 + 2 ≤ (flatW (qs ++ List.replicate ((ls.length - (k + 1)) + 1) zP)).length := by rw [flatW_length, List.length_append, List.length_replicate, hql]; omega
      have HSP : Hid (splice (flatW (qs ++ List.replicate ((ls.length - (k + 1)) + 1) zP)) (k * 2) [.int .i64 ((at_ + k : Nat) : Int), .slice X l.length z] = flatW ((qs ++ [(((at_ + k : Nat) : Int), .slice X l.length z)]) ++ List.replicate (ls.length - (k + 1)) zP)) := by
        show _ = _
        rw [← hql]
        exact splice_pair qs _ (((at_ + qs.length : Nat) : Int), .slice X l.length z)
      go_wp2_with (refine wpList_store_part rfl 55 (.tmp 25) (.tmp 24) rfl w.heap.size (k * 2) [.int .i64 (wrap64 ((at_ : Int) + (k : Int))), .slice X l.length z] rfl rfl _ _ HK.out 2 (by kernel_rfl) rfl hfit (by intro u hu; simp at hu; rcases hu with rfl | rfl <;> rfl) ?_; intro w5 k5 g5)
      go_roundw
      case rel =>
        rw [HW.out, HSP.out] at k5
        refine ⟨k + 1, _, by omega, by go_num, by simp [hql], k5, ?_, bl.grown g5 bl.size fun g e => by injection e with e; omega⟩
        rw [HS.out]
        exact (pt.append (PT.one hbs2)).keepS g5.size (fun b hb hlt => g5.block b hlt fun e => by injection e with e; have := hb.2; omega) fun _ h => h
      case measure => simp [intOf]; omega
    · obtain rfl : k = ls.length := by omega
      have hl : qs ++ List.replicate (ls.length - ls.length) zP = qs := by rw [Nat.sub_self]; simp
      rw [hl] at kb
      rw [List.take_length] at pt
      have hp := PS_of_kb (S' := fun x => S x ∧ x < w.heap.size ∨ x = w.heap.size) kb pt (n := ls.length) (rowP_len _ _) (fun b hb => .inl hb) (.inr rfl) (by unfold maxLen; omega)
      clear pt kb hl
      go_wp2_with fail
      go_ret
      exact ⟨_, rfl, hp, bl⟩
end Go.Proofs.YtgoifhpinoodgaaDoor
end
