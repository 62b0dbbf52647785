/-
  The program's Cut, over the loaded program: its contract. No condition but sizes that it names.
-/
import Derived.Test.YtelcfchnaglpcaaAlB
import Derived.Test.YtelcfchnaglpcaaCmV
namespace Go.Proofs.Ytelcfchnaglpcaa
open Go.RowKit
set_option maxRecDepth 100000
set_option linter.unusedVariables false

theorem own_lt {w : World} {B e size n : Nat} {v : Value} {xs : List Value} (h : w.ownsRow B e size v n xs) (k : Nat) (hk : v.ownBlock = some k) : k < w.heap.size := by
  obtain ⟨_, h2⟩ := h
  rcases h2 with ⟨rfl, _⟩ | ⟨g, c, cur, rfl, _, hg, _⟩
  · simp [Value.ownBlock] at hk
  · simp [Value.ownBlock] at hk; subst hk; exact (Array.getElem?_eq_some_iff.1 hg).1

/-- A list of byte slices that grows: the row is the call's own, and so are they; none of them lies in the row's block. -/
def RowsAt (w0 w : World) (v : Value) (ls : List (List UInt8)) : Prop :=
  ∃ vs, w.ownsRow w0.heap.size 30 1 v vs.length vs ∧ VS w (fun x => w0.heap.size ≤ x ∧ x < w.heap.size ∧ v.ownBlock ≠ some x) vs ls
theorem RowsAt.nil (w0 w : World) : RowsAt w0 w (.slice none 0 0) [] := ⟨[], World.ownsRow_nil _ _ _ _, rfl, fun i v l hv _ => by simp at hv⟩
theorem RowsAt.len {w0 w : World} {v : Value} {ls : List (List UInt8)} (h : RowsAt w0 w v ls) : ∃ A c, v = .slice A ls.length c := by
  obtain ⟨vs, how, hvs⟩ := h
  obtain ⟨A, c, rfl, _⟩ := (CS.of_own how).form
  exact ⟨A, c, by rw [hvs.1]⟩
/-- The list that it is. -/
theorem RowsAt.ls {w0 w : World} {v : Value} {ls : List (List UInt8)} (h : RowsAt w0 w v ls) : LS w (fun x => w0.heap.size ≤ x ∧ x < w.heap.size) v ls := by
  obtain ⟨vs, how, hvs⟩ := h
  exact LS_of_own how (hvs.mono fun b hb => ⟨hb.1, hb.2.1⟩) fun b h1 h2 => ⟨h1, h2⟩

set_option maxHeartbeats 1000000 in
/-- One more is put behind: of a slice in a block of the call's own that is not the row's. -/
theorem wpList_rows (w0 w : World) {ops : Array Oper} {rest : List Oper} {o : Oper} {a : Act} {Q : Exit → Act → World → Prop} (hgd : o.guard = none) (s x : Operand)
    (ho : o.op = .call { callee := .builtin .append, args := #[s, x], argTypes := #[37, 37] })
    (v : Value) (ls : List (List UInt8)) (hs : a.eval s = v) (h : RowsAt w0 w v ls) (hB : Below w0.heap.size w0 w) (c : Nat) (u : Value) (l : List UInt8) (hxe : a.eval x = .slice (some ⟨w.heap.size, 0, none⟩) 1 c)
    (hu : BS w (fun b => w0.heap.size ≤ b ∧ b < w.heap.size ∧ v.ownBlock ≠ some b) u l) (t : TypeId) (hb : ls.length ≤ 100000000)
    (k : ∀ v' w', RowsAt w0 w' v' (ls ++ [l]) → Below w0.heap.size w0 w' → wpList Try.prog ops Q rest (a.put o.dst v') w') : wpList Try.prog ops Q (o :: rest) a (w.alloc (.cells #[u] t)) := by
  obtain ⟨vs, how, hvs⟩ := h
  have how1 := own_past ((Below.refl w.heap.size w).alloc (Nat.le_refl _) (.cells #[u] t)) how
  have B1 := hB.alloc hB.size (.cells #[u] t)
  obtain ⟨A', c', rfl, _⟩ := hu.form
  have hx : ∀ j z, [Value.slice A' l.length c'][j]? = some z → (w.alloc (.cells #[Value.slice A' l.length c'] t)).cell? ((⟨w.heap.size, 0, none⟩ : Addr).add j) = some z := by
    intro j z hz
    match j, hz with
    | 0, hz => simp at hz; subst hz; rw [Addr.add_lit]; exact (KB.new w t #[Value.slice A' l.length c']).cell 0
  refine wpList_growL _ hgd s x ho w0.heap.size v vs hs how1 ⟨w.heap.size, 0, none⟩ c 1 [Value.slice A' l.length c'] hxe rfl hx (by intro z hz; simp at hz; subst hz; rfl) (by rw [hvs.1]; simp; omega) B1.size ?_
  intro v' w' how2 g2 ho2
  have hsz := g2.size
  rw [World.size_alloc] at hsz
  have hstay : ∀ b, (w0.heap.size ≤ b ∧ b < w.heap.size ∧ v.ownBlock ≠ some b) → b < w.heap.size → w'.heap[b]? = w.heap[b]? := fun b h1 h2 =>
    (g2.block b (by rw [World.size_alloc]; omega) (fun e => h1.2.2 e.symm)).trans (Below.heap_alloc w _ b h2)
  have hin : ∀ b, (w0.heap.size ≤ b ∧ b < w.heap.size ∧ v.ownBlock ≠ some b) → (w0.heap.size ≤ b ∧ b < w'.heap.size ∧ v'.ownBlock ≠ some b) := fun b h1 =>
    ⟨h1.1, by omega, fun e => by
      rcases ho2 with h | h
      · exact h1.2.2 (h ▸ e)
      · rw [h] at e; injection e with e; rw [World.size_alloc] at e; omega⟩
  refine k v' w' ⟨_, how2, ((hvs.keep (by omega) hstay).mono hin).append (VS.one ((hu.keep (by omega) hstay).mono hin))⟩ (B1.grown g2 B1.size fun g e => own_ge how1 g e)

theorem sect_cells (b : List UInt8) (i : Nat) : splice ((zsK 256).map bv) 0 (((b.drop (256 * i)).take 256).map bv) = (sectC b i).map bv := by
  unfold splice sectC zsK
  rw [List.take_zero, List.nil_append, List.map_append, List.length_map, List.length_take, List.map_replicate, List.map_replicate, List.drop_replicate]
  congr 2
  omega

theorem make_sect (w : World) : (Instr.makeSlice 30 (.int .i64 256) (.int .i64 256)).run Try.prog w = .ok (.slice (some ⟨w.heap.size, 0, none⟩) 256 256) (w.alloc (.cells ((zsK 256).map bv).toArray 5)) := make_bytes w 256 (by omega)

theorem pagesS_le (n : Nat) (h : n ≤ 1000000000) : I64 (n : Int) := ⟨by omega, by omega⟩

/-- A new block is laid, and written over: the list stays, and the new block is none of it. -/
theorem rows_copy {w wr w2 : World} {v : Value} {ls : List (List UInt8)} {o : Obj} {s : List UInt8} (hrow : RowsAt w wr v ls) (bl : Below w.heap.size w wr) (g2 : (wr.alloc o).grownBy w2 (some wr.heap.size)) (k2 : KB w2 wr.heap.size 5 (s.map bv).toArray) (hs : s.length = 256) :
    RowsAt w w2 v ls ∧ Below w.heap.size w w2 ∧ BS w2 (fun x => w.heap.size ≤ x ∧ x < w2.heap.size ∧ v.ownBlock ≠ some x) (.slice (some ⟨wr.heap.size, 0, none⟩) 256 256) s := by
  have bs2 := k2.bsA hs (by simp [maxLen])
  have hs2 := g2.size
  have B1 := bl.alloc bl.size o
  have hbl := bl.size
  rw [World.size_alloc] at hs2
  refine ⟨?_, B1.grown g2 B1.size (fun g e => by injection e with e; omega), bs2.mono fun x e => ?_⟩
  · obtain ⟨vs, how, hvs⟩ := hrow
    have hkp : ∀ x, x < wr.heap.size → w2.heap[x]? = wr.heap[x]? := fun x hx => (g2.block x (by rw [World.size_alloc]; omega) (by simp; omega)).trans (Below.heap_alloc wr _ x hx)
    exact ⟨vs, own_keep how fun x hx => hkp x (own_lt how x hx), (hvs.keep (by omega) fun x h1 h2 => hkp x h2).mono fun x h1 => ⟨h1.1, by omega, h1.2.2⟩⟩
  · subst e
    refine ⟨bl.size, by omega, fun e => ?_⟩
    obtain ⟨vs, how, _⟩ := hrow
    have := own_lt how _ e
    omega

/-- What a call hands back: byte slices in new memory. -/
def CutAs (w : World) (ls : List (List UInt8)) (e : Ending) (w' : World) : Prop := ∃ v, e = .returned v ∧ RowsAt w w' v ls ∧ Below w.heap.size w w'

set_option maxHeartbeats 1000000 in
/-- Cut. -/
theorem cut_any (v : Value) (b : List UInt8) (hsm : b.length ≤ 1000000000) (w : World) (h : BS w (fun b => b < w.heap.size) v b) :
    Calls Try.prog 19 #[v] w (CutAs w (cutS b)) := by
  have hpg := pages_any (b.length : Int) (pagesS_le _ hsm) w
  rw [pages_nat] at hpg
  obtain ⟨R, hR⟩ : ∃ R, R = cutS b := ⟨_, rfl⟩
  have HR : Hid (cutK b (pagesN b.length) = R) := hR.symm
  rw [← hR]
  have hin : ∀ k, k < pagesN b.length → 256 * k < b.length := fun k hk => by unfold pagesN at hk; omega
  have hfew : pagesN b.length ≤ 10000000 := by unfold pagesN; omega
  generalize pagesN b.length = m at *
  obtain ⟨A, c, rfl, hc, hcm, _⟩ := h.form
  have HI := Lib.hid hin
  clear hR hin
  go_enter Try.func19, Try.ntmps19
  go_wp2_with (go_at_call 21; refine hpg.mono ?_; rintro e w' ⟨rfl, rfl⟩)
  go_loopw [3, 9] (fun lv iw wr => ∃ (k : Nat) (ls : List (List UInt8)), k ≤ m ∧ iw = .int .i64 k ∧ Hid (cutK b k = ls) ∧ RowsAt w wr lv ls ∧ Below w.heap.size w wr) (fun _ iw _ => m - (intOf iw).toNat)
  case atStart => exact ⟨0, [], by omega, rfl, rfl, RowsAt.nil _ _, Below.refl _ _⟩
  case round =>
    clear hpg
    obtain ⟨k, ls, hk, rfl, HS, hrow, bl⟩ := hrel
    by_cases hlt : k < m
    · have hp : 256 * k < b.length := HI.out k hlt
      have hll : ls.length ≤ 100000000 := by rw [← HS.out, cutK_length]; omega
      obtain ⟨A3, c3, rfl⟩ := hrow.len
      obtain ⟨q, hq⟩ : ∃ q, q = ls.length := ⟨_, rfl⟩
      rw [← hq] at hrow ⊢
      clear hq
      obtain ⟨bb, o, rfl, hbs, hbb, _⟩ := h.at_ (by omega)
      have hmk := make_sect wr
      have K1 : KB (wr.alloc (.cells ((zsK 256).map bv).toArray 5)) wr.heap.size 5 ((zsK 256).map bv).toArray := KB.new _ _ _
      have B1 := bl.alloc bl.size (.cells ((zsK 256).map bv).toArray 5)
      have b1 := (Below.refl wr.heap.size wr).alloc (Nat.le_refl _) (.cells ((zsK 256).map bv).toArray 5)
      have hd0 := (h.below B1 fun x hx => hx).drop (256 * k) (by omega)
      rw [if_neg (by omega)] at hd0
      have hsc := sect_cells b k
      have hsl : (sectC b k).length = 256 := sectC_length b k
      have HS2 : Hid (cutK b (k + 1) = ls ++ [sectC b k]) := by show _ = _; rw [cutK_more, HS.out]
      have hzl : ((zsK 256).map bv).length = 256 := by rw [List.length_map, zsK_length]
      have e1 : (256 : Int) * (k : Int) = ((256 * k : Nat) : Int) := by omega
      have hcp : ¬ c = 256 * k := by omega
      generalize 256 * k = p at *
      generalize sectC b k = s at *
      have HSC := Lib.hid hsc
      obtain ⟨Z, hZZ⟩ : ∃ Z, Z = (zsK 256).map bv := ⟨_, rfl⟩
      rw [← hZZ] at hmk K1 B1 b1 hd0 HSC hzl
      clear hsc hZZ
      have HSL := Lib.hid hsl
      clear hsl
      clear b1 B1
      go_wp2_with (first
        | (refine wpList_copy_kb rfl (.tmp 13) (.tmp 17) 30 30 rfl 5 Try.underlying30 (by kernel_rfl) wr.heap.size 0 256 256 rfl 5 Z K1 (by omega) _ _ (b.drop p) rfl hd0 ?_; intro w2 k2 g2; rw [HSC.out] at k2; obtain ⟨hrow2, B2, bs3⟩ := rows_copy hrow bl g2 k2 HSL.out; clear k2 g2)
        | (at_builtin; refine wpList_rows w w2 rfl _ _ rfl (.slice A3 q c3) ls rfl hrow2 B2 1 (.slice (some ⟨wr.heap.size, 0, none⟩) 256 256) s rfl bs3 _ hll ?_; intro v4 w4 hrow4 B4))
      go_roundw
      case rel => exact ⟨k + 1, _, by omega, by go_num, HS2, hrow4, B4⟩
      case measure => simp [intOf]; omega
    · obtain rfl : k = m := by omega
      have hr := HR.out
      rw [HS.out] at hr
      subst hr
      clear HS HR
      go_wp2
      go_ret
      exact ⟨_, rfl, hrow, bl⟩
end Go.Proofs.Ytelcfchnaglpcaa
