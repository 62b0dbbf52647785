/-
  The program's own and Find (layer 17), over the loaded program: each one's contract. No condition but sizes.
-/
import Derived.Test.YtommcdgognlfcaaRuW
import Derived.Test.YtommcdgognlfcaaRvG
import Derived.Test.YtommcdgognlfcaaHeld
namespace Go.Proofs.Ytommcdgognlfcaa
open Go.RowKit
set_option maxRecDepth 100000
set_option linter.unusedVariables false

set_option maxHeartbeats 2000000 in
/-- own. -/
theorem own_any (S : Nat → Prop) (f : Nat) (x : Ex f) (v : Value) (w : World) (hf : fewX f x) (hv : EV w S f v x) : Calls Try.prog 34 #[v] w (OwnAs w f x) := by
  obtain ⟨e0, e1, e2, e3, rfl, ht⟩ := hv
  have hf4 := ht.form
  obtain ⟨w1, hw1⟩ : ∃ w1, w1 = (w.alloc (.cells #[e0, e1, e2, e3] 24)).alloc (.cells #[.int .i64 0, .int .i64 0, .string ⟨#[]⟩, .slice none 0 0] 24) := ⟨_, rfl⟩
  obtain ⟨w3, hw3⟩ : ∃ w3, w3 = w1.alloc (.cells #[.func (.func 42) #[] #[.pointer (some ⟨w.heap.size + 2, 0, none⟩)]] 63) := ⟨_, rfl⟩
  have s1 : w1.heap.size = w.heap.size + 2 := by rw [hw1]; simp
  have s3 : w3.heap.size = w.heap.size + 3 := by rw [hw3]; simp; omega
  have kw : OwAt w3 (w.heap.size + 2) := by
    have := KB.new w1 63 #[.func (.func 42) #[] #[.pointer (some ⟨w.heap.size + 2, 0, none⟩)]]
    rw [← hw3, s1] at this
    exact this
  have R1 : KB w3 (w.heap.size + 1) 24 #[.int .i64 0, .int .i64 0, .string ⟨#[]⟩, .slice none 0 0] := by
    obtain ⟨_, R, _⟩ := two_boxes w #[e0, e1, e2, e3] #[.int .i64 0, .int .i64 0, .string ⟨#[]⟩, .slice none 0 0] 24
    rw [hw3, hw1]
    exact R.alloc _
  have B3 : Below w.heap.size w w3 := by
    rw [hw3, hw1]
    exact (((Below.refl _ _).alloc (Nat.le_refl _) _).alloc (by simp) _).alloc (by simp; omega) _
  have hh := own1_any S (w.heap.size + 2) f x (.agg #[e0, e1, e2, e3]) w3 hf kw ⟨e0, e1, e2, e3, rfl, ht.below' B3⟩
  have HW : Hid (w3 = ((w.alloc (.cells #[e0, e1, e2, e3] 24)).alloc (.cells #[.int .i64 0, .int .i64 0, .string ⟨#[]⟩, .slice none 0 0] 24)).alloc (.cells #[.func (.func 42) #[] #[.pointer (some ⟨w.heap.size + 2, 0, none⟩)]] 63)) := by show _ = _; rw [hw3, hw1]
  obtain ⟨D, hD⟩ : ∃ D, D = OwnAs w f x := ⟨_, rfl⟩
  rw [← hD]
  have HD : Hid (∀ v' W, EV W (fun b => w.heap.size ≤ b ∧ b < W.heap.size) f v' x → Below w.heap.size w W → D (.returned v') W) := fun v' W h1 h2 => by rw [hD]; exact ⟨v', rfl, h1, h2⟩
  clear ht kw hw1 hw3 s1 hD hf
  obtain ⟨i0, i1, l2, X3, n3, z3, rfl, rfl, rfl, rfl⟩ := hf4
  unfold strV at *
  generalize (⟨l2.toArray⟩ : ByteArray) = s at *
  go_enter Try.func34, Try.ntmps34
  go_wp2_with fail
  rw [← HW.out]
  refine hh.mono ?_
  rintro e w5 ⟨v5, rfl, ⟨d0, d1, d2, d3, rfl, hx5⟩, b5⟩
  have B5 := B3.trans (b5.mono B3.size)
  have R5 := R1.below b5 (by omega)
  have hf5 := hx5.form
  obtain ⟨j0, j1, m2, Y3, y3, t3, rfl, rfl, rfl, rfl⟩ := hf5
  obtain ⟨W5, hW5⟩ : ∃ W5, W5 = (((w5.setCell ⟨w.heap.size + 1, 0, none⟩ (.int .i64 j0)).setCell ⟨w.heap.size + 1, 1, none⟩ (.int .i64 j1)).setCell ⟨w.heap.size + 1, 2, none⟩ (strV m2)).setCell ⟨w.heap.size + 1, 3, none⟩ (.slice Y3 y3 t3) := ⟨_, rfl⟩
  have kfin : KB W5 (w.heap.size + 1) 24 #[.int .i64 j0, .int .i64 j1, strV m2, .slice Y3 y3 t3] := by
    rw [hW5]
    exact (((R5.put 0 _).put 1 _).put 2 _).put 3 _
  have hs5 : W5.heap.size = w5.heap.size := by rw [hW5]; simp [World.setCell]
  have bfin : Below w.heap.size w W5 := by
    rw [hW5]
    exact (((B5.setCell (p := ⟨w.heap.size + 1, 0, none⟩) (by simp) _).setCell (p := ⟨w.heap.size + 1, 1, none⟩) (by simp) _).setCell (p := ⟨w.heap.size + 1, 2, none⟩) (by simp) _).setCell (p := ⟨w.heap.size + 1, 3, none⟩) (by simp) _
  have hblk : ∀ b, w3.heap.size ≤ b → W5.heap[b]? = w5.heap[b]? := fun b hb => by
    rw [hW5]
    exact (Below.heap_setCell _ _ _ _ (by show b ≠ w.heap.size + 1; omega)).trans ((Below.heap_setCell _ _ _ _ (by show b ≠ w.heap.size + 1; omega)).trans ((Below.heap_setCell _ _ _ _ (by show b ≠ w.heap.size + 1; omega)).trans (Below.heap_setCell _ _ _ _ (by show b ≠ w.heap.size + 1; omega))))
  have hfin := HD.out _ W5 ⟨_, _, _, _, rfl, EX.keepL f x _ _ _ _ hx5 (by omega) (fun b h _ => hblk b h.1) (fun b h _ => ⟨by have := h.1; omega, by have := h.2; omega⟩)⟩ bfin
  have r0 := R5.cell 0
  have r1 := R5.cell 1
  have r2 := R5.cell 2
  have r3 := R5.cell 3
  have g0 := R5.free 0
  have g1 := R5.free 1
  have g2 := R5.free 2
  have g3 := R5.free 3
  have HW5 := Lib.hid hW5
  unfold strV at *
  generalize (⟨m2.toArray⟩ : ByteArray) = sm at *
  clear hh HW hx5 b5 B5 R5 R1 B3 hblk bfin hW5 HD hs5
  go_wp2_with fail
  rw [← HW5.out]
  exact bodyPost_ret (results_cell (P := Try.prog) rfl _ _ (w.heap.size + 1) _ _ (0, 0) _ rfl kfin Try.underlying24 rfl (by kernel_rfl)) rfl hfin

/-- The rule that is found. -/
def seekR (f : Nat) (l : List (Rl f)) (c : List UInt8) : Option (Rl f) := if 0 ≤ placeR f l c then l[(placeR f l c).toNat]? else if 0 ≤ placeR f l [] then l[(placeR f l []).toNat]? else none
/-- The value v, a whole rule, reads in w as r. -/
def RV (w : World) (S : Nat → Prop) (f : Nat) (v : Value) (r : Rl f) : Prop := ∃ c0 c1 c2 c3 c4 c5, v = .agg #[c0, c1, c2, c3, c4, c5] ∧ RX w S f r c0 c1 c2 c3 c4 c5
def FindAs (w : World) (f : Nat) (o : Option (Rl f)) (e : Ending) (w' : World) : Prop :=
  match o with
  | some r => ∃ v, e = .returned (.tuple #[v, .bool true]) ∧ RV w' (fun b => b < w'.heap.size) f v r ∧ Below w.heap.size w w'
  | none => e = .returned (.tuple #[.agg #[.string ⟨#[]⟩, .int .i64 0, .int .i64 0, .string ⟨#[]⟩, .slice none 0 0, .int .i64 0], .bool false]) ∧ Below w.heap.size w w'

set_option maxHeartbeats 8000000 in
/-- Find. -/
theorem find_any (S : Nat → Prop) (f : Nat) (l : List (Rl f)) (c : List UInt8) (v : Value) (w : World) (hS : ∀ b, S b → b < w.heap.size) (hf : ∀ r ∈ l, r.cls.length ≤ 1000000 ∧ fewX f r.when_) (hv : RS w S f v l) :
    Calls Try.prog 27 #[v, strV c] w (FindAs w f (seekR f l c)) := by
  obtain ⟨A3, cap3, rfl, hl3, hm3⟩ := hv.form
  have hlen : l.length ≤ 9223372036854775807 := by unfold maxLen at hm3; omega
  obtain ⟨D, hD⟩ : ∃ D, D = FindAs w f (seekR f l c) := ⟨_, rfl⟩
  rw [← hD]
  have HNO : Hid (placeR f l c < 0 → placeR f l [] < 0 → ∀ W, Below w.heap.size w W → D (.returned (.tuple #[.agg #[.string ⟨#[]⟩, .int .i64 0, .int .i64 0, .string ⟨#[]⟩, .slice none 0 0, .int .i64 0], .bool false])) W) := fun h1 h2 W hb => by
    rw [hD]
    unfold seekR
    rw [if_neg (by omega), if_neg (by omega)]
    exact ⟨rfl, hb⟩
  have HYES : Hid (∀ (j : Nat) (hj : j < l.length), (placeR f l c = (j : Int) ∨ (placeR f l c < 0 ∧ placeR f l [] = (j : Int))) → ∀ W d0 d1 d2 d3, EX W (fun b => b < W.heap.size) f l[j].when_ d0 d1 d2 d3 → l[j].cls.length ≤ maxLen → I64 l[j].act → Below w.heap.size w W → D (.returned (.tuple #[.agg #[strV l[j].cls, d0, d1, d2, d3, .int .i64 l[j].act], .bool true])) W) := fun j hj h W d0 d1 d2 d3 hx hm hi hb => by
    rw [hD]
    have e : seekR f l c = some l[j] := by
      unfold seekR
      rcases h with h | ⟨h1, h2⟩
      · rw [if_pos (by omega), h, Int.toNat_natCast, List.getElem?_eq_getElem hj]
      · rw [if_neg (by omega), if_pos (by omega), h2, Int.toNat_natCast, List.getElem?_eq_getElem hj]
    rw [e]
    exact ⟨_, rfl, ⟨_, _, _, _, _, _, rfl, rfl, hm, hx, rfl, hi⟩, hb⟩
  clear hD
  have HPL : Hid (∀ (cl : List UInt8) (W : World), Below w.heap.size w W → Calls Try.prog 32 #[.slice A3 l.length cap3, strV cl] W fun e w' => e = .returned (.int .i64 (placeR f l cl)) ∧ Below W.heap.size W w') := fun cl W hb =>
    place_any S f l cl _ W (hv.keepS hb.size (fun b sb _ => hb.block b (hS b sb)) fun _ h => h)
  have HRB : Hid (∀ (wr : World), Below w.heap.size w wr → ∀ (j : Nat) (hj : j < l.length), ∃ b o e1 e2 e3 e4, A3 = some ⟨b, o, none⟩ ∧ b < w.heap.size ∧ wr.cell? ⟨b, o + j * 6, none⟩ = some (strV l[j].cls) ∧ wr.cell? ⟨b, o + j * 6 + 1, none⟩ = some e1 ∧ wr.cell? ⟨b, o + j * 6 + 2, none⟩ = some e2 ∧ wr.cell? ⟨b, o + j * 6 + 3, none⟩ = some e3 ∧
      wr.cell? ⟨b, o + j * 6 + 4, none⟩ = some e4 ∧ wr.cell? ⟨b, o + j * 6 + 5, none⟩ = some (.int .i64 l[j].act) ∧ EV wr S f (.agg #[e1, e2, e3, e4]) l[j].when_ ∧ l[j].cls.length ≤ maxLen ∧ I64 l[j].act) := fun wr hb j hj => rule_b hv rfl hb j hj
  have HFW : Hid (∀ (j : Nat) (hj : j < l.length), l[j].cls.length ≤ 1000000 ∧ fewX f l[j].when_) := fun j hj => hf _ (List.getElem_mem hj)
  clear hv hf
  have K0 := KB.new w 49 #[.string ⟨#[]⟩, .int .i64 0, .int .i64 0, .string ⟨#[]⟩, .slice none 0 0, .int .i64 0]
  have B0 := (Below.refl w.heap.size w).alloc (Nat.le_refl _) (.cells #[.string ⟨#[]⟩, .int .i64 0, .int .i64 0, .string ⟨#[]⟩, .slice none 0 0, .int .i64 0] 49)
  have K1 := K0.alloc (.cells #[strV c, .string ⟨#[]⟩] 9)
  have L1 := KB.new (w.alloc (.cells #[.string ⟨#[]⟩, .int .i64 0, .int .i64 0, .string ⟨#[]⟩, .slice none 0 0, .int .i64 0] 49)) 9 #[strV c, .string ⟨#[]⟩]
  rw [World.size_alloc] at L1
  have B1 := B0.alloc B0.size (.cells #[strV c, .string ⟨#[]⟩] 9)
  clear K0 B0
  go_enter Try.func27, Try.ntmps27
  unfold strV at *
  go_wp2_with fail
  go_loopw [12] (fun iv wr => ∃ k : Nat, k ≤ 2 ∧ iv = .int .i64 (k : Int) ∧ Hid ((1 ≤ k → placeR f l c < 0) ∧ (2 ≤ k → placeR f l [] < 0)) ∧ KB wr w.heap.size 49 #[.string ⟨#[]⟩, .int .i64 0, .int .i64 0, .string ⟨#[]⟩, .slice none 0 0, .int .i64 0] ∧ KB wr (w.heap.size + 1) 9 #[.string ⟨c.toArray⟩, .string ⟨#[]⟩] ∧ Below w.heap.size w wr) (fun iv _ => 2 - (intOf iv).toNat)
  case atStart => exact ⟨0, by omega, rfl, ⟨fun h => by omega, fun h => by omega⟩, K1, L1, B1⟩
  case round =>
    clear K1 L1 B1
    obtain ⟨k, hk, rfl, HK, K, L, B⟩ := hrel
    by_cases hlt : k < 2
    · have hltI : (k : Int) < 2 := by omega
      obtain ⟨cl, hcell, hcl⟩ : ∃ cl : List UInt8, wr.cell? ⟨w.heap.size + 1, k, none⟩ = some (.string ⟨cl.toArray⟩) ∧ ((k = 0 ∧ cl = c) ∨ (k = 1 ∧ cl = [])) := by
        rcases (show k = 0 ∨ k = 1 by omega) with rfl | rfl
        · exact ⟨c, L.cell 0, .inl ⟨rfl, rfl⟩⟩
        · exact ⟨[], L.cell 1, .inr ⟨rfl, rfl⟩⟩
      have hpl := HPL.out cl wr B
      have hpi := place_is f l cl
      have HCL := Lib.hid hcl
      have HNX : Hid (placeR f l cl < 0 → (1 ≤ k + 1 → placeR f l c < 0) ∧ (2 ≤ k + 1 → placeR f l [] < 0)) := fun h => by
        rcases hcl with ⟨h0, h1⟩ | ⟨h0, h1⟩
        · subst h1; exact ⟨fun _ => h, fun h => by omega⟩
        · subst h1; exact ⟨fun _ => HK.out.1 (by omega), fun _ => h⟩
      have HHIT : Hid (∀ j : Nat, placeR f l cl = (j : Int) → placeR f l c = (j : Int) ∨ (placeR f l c < 0 ∧ placeR f l [] = (j : Int))) := fun j h => by
        rcases hcl with ⟨h0, h1⟩ | ⟨h0, h1⟩
        · subst h1; exact .inl h
        · subst h1; exact .inr ⟨HK.out.1 (by omega), h⟩
      clear hcl
      unfold strV at *
      generalize placeR f l cl = pl at *
      generalize (⟨cl.toArray⟩ : ByteArray) = scl at *
      have HPI := Lib.hid hpi
      clear hpi
      go_wp2_with fail
      refine hpl.mono ?_
      rintro e w5 ⟨rfl, b5⟩
      have B5 := B.trans (b5.mono B.size)
      have K5 := K.below b5 K.lt
      have L5 := L.below b5 L.lt
      clear hpl b5 hcell
      by_cases hpos : 0 ≤ pl
      · obtain ⟨j, hj, rfl, _, _⟩ : ∃ (j : Nat) (hj : j < l.length), pl = (j : Int) ∧ l[j].cls = cl ∧ ∀ (i : Nat) (hi : i < l.length), i < j → l[i].cls ≠ cl := by
          rcases HPI.out with ⟨h, _⟩ | h
          · omega
          · exact h
        have hjI : (j : Int) < (l.length : Int) := by omega
        obtain ⟨b, o, e1, e2, e3, e4, rfl, hb, k0, k1, k2, k3, k4, k5, hx, hcm, hai⟩ := HRB.out w5 B5 j hj
        obtain ⟨hc6, hfw⟩ := HFW.out j hj
        have Bd : Below w.heap.size w w5.drew := Below_drawn B5 1
        have Bdd : Below w5.heap.size w5 w5.drew := Below_drawn (Below.refl _ _) 1
        have hclo := clone_any l[j].cls (by omega)
        have HOW : Hid (∀ W, Below w5.heap.size w5 W → Calls Try.prog 34 #[.agg #[e1, e2, e3, e4]] W (OwnAs W f l[j].when_)) := fun W hb => own_any S f l[j].when_ _ W hfw (hx.below' hb)
        have HYJ := Lib.hid (fun W d0 d1 d2 d3 hxx hbb => HYES.out j hj (HHIT.out j rfl) W d0 d1 d2 d3 hxx hcm hai hbb)
        obtain ⟨_, _, _, _, e, hx4⟩ := hx
        injection e with e
        simp only [Array.mk.injEq, List.cons.injEq, and_true] at e
        obtain ⟨rfl, rfl, rfl, rfl⟩ := e
        obtain ⟨i0, i1, l2, X3, n3, z3, rfl, rfl, rfl, rfl⟩ := hx4.form
        clear hx4 HPI HNX HHIT HYES HNO HFW HRB HPL hcm hai hc6 hfw
        unfold strV at *
        generalize (⟨l2.toArray⟩ : ByteArray) = s2 at *
        generalize l[j].act = ac at *
        generalize (⟨l[j].cls.toArray⟩ : ByteArray) = sc at *
        generalize l[j].when_ = wh at *
        have HC : Hid (∀ W, Below w.heap.size w5 W → W.cell? ⟨b, o + j * 6, none⟩ = some (.string sc) ∧ W.cell? ⟨b, o + j * 6 + 1, none⟩ = some (.int .i64 i0) ∧ W.cell? ⟨b, o + j * 6 + 2, none⟩ = some (.int .i64 i1) ∧ W.cell? ⟨b, o + j * 6 + 3, none⟩ = some (.string s2) ∧ W.cell? ⟨b, o + j * 6 + 4, none⟩ = some (.slice X3 n3 z3) ∧ W.cell? ⟨b, o + j * 6 + 5, none⟩ = some (.int .i64 ac)) := fun W hb5 => by
          have far : ∀ (g : Nat) (i : Nat) (u : Value), g < w.heap.size → w5.cell? ⟨g, i, none⟩ = some u → W.cell? ⟨g, i, none⟩ = some u := fun g i u hg hu =>
            (World.cell?_of_block (w := w5) (hb5.block g hg)).trans hu
          exact ⟨far _ _ _ hb k0, far _ _ _ hb k1, far _ _ _ hb k2, far _ _ _ hb k3, far _ _ _ hb k4, far _ _ _ hb k5⟩
        have hgsz := K5.lt
        go_wp2_with fail
        rename_i KK hKK
        have HKK := Lib.hid hKK
        clear hKK k0 k1 k2 k3 k4 k5 L5 K L B HK HCL
        refine wp_region_held_drew (S := (fun W => W.cell? ⟨b, o + j * 6, none⟩ = some (.string sc) ∧ W.cell? ⟨b, o + j * 6 + 1, none⟩ = some (.int .i64 i0) ∧ W.cell? ⟨b, o + j * 6 + 2, none⟩ = some (.int .i64 i1) ∧ W.cell? ⟨b, o + j * 6 + 3, none⟩ = some (.string s2) ∧ W.cell? ⟨b, o + j * 6 + 4, none⟩ = some (.slice X3 n3 z3) ∧ W.cell? ⟨b, o + j * 6 + 5, none⟩ = some (.int .i64 ac))) (by kernel_rfl) (HC.out _ (Bdd.mono B5.size)) (fun hHeld => ?_)
        refine hyY (some 21) 0 rfl hHeld ?_; go_frame
        refine hyY (some 22) 1 rfl hHeld ?_; go_frame
        refine hyY (some 23) 2 rfl hHeld ?_; go_frame
        refine hyY (some 24) 3 rfl hHeld ?_; go_frame
        refine hyY (some 25) 4 rfl hHeld ?_; go_frame
        refine hyY (some 27) 6 rfl hHeld ?_; go_frame
        refine hyY (some 28) 7 rfl hHeld ?_; go_frame
        refine hyY (some 29) 8 rfl hHeld ?_; go_frame
        refine hyY (some 30) 9 rfl hHeld ?_; go_frame
        refine hyY (some 31) 10 rfl hHeld ?_; go_frame
        refine hyY (some 33) 12 rfl hHeld ?_; go_frame
        refine hyY (some 34) 13 rfl hHeld ?_; go_frame
        refine hyY (some 35) 14 rfl hHeld ?_; go_frame
        refine hyY (some 36) 15 rfl hHeld ?_; go_frame
        refine hyY (some 37) 16 rfl hHeld ?_; go_frame
        refine hyO (some 26) 5 rfl (fun K hK => ?_)
        go_simp
        go_at_call 33
        refine (hclo _).mono ?_
        rintro e w6 ⟨rfl, b6⟩
        go_wp2_with fail
        refine hK.out _ _ ?_ (fun hH2 => ?_)
        · first | exact HC.out _ ((Bdd.trans b6).mono B5.size) | exact HC.out _ (b57.mono B5.size) | exact HC.out _ b8
        clear hHeld hK K; have hHeld := hH2; clear hH2; try go_frame
        refine hyO (some 32) 11 rfl (fun K hK => ?_)
        go_simp
        go_at_call 34
        refine (HOW.out _ (Bdd.trans b6)).mono ?_
        rintro e w7 ⟨v7, rfl, ⟨d0, d1, d2, d3, rfl, hx7⟩, b7⟩
        have b57 : Below w5.heap.size w5 w7 := (Bdd.trans b6).trans (b7.mono (Bdd.trans b6).size)
        obtain ⟨j0, j1, m2, Y3, y3, t3, rfl, rfl, rfl, rfl⟩ := hx7.form
        obtain ⟨sm, hsm⟩ : ∃ sm : ByteArray, strV m2 = .string sm := ⟨_, rfl⟩
        rw [hsm] at hx7 ⊢
        go_wp2_with fail
        refine hK.out _ _ ?_ (fun hH2 => ?_)
        · first | exact HC.out _ ((Bdd.trans b6).mono B5.size) | exact HC.out _ (b57.mono B5.size) | exact HC.out _ b8
        clear hHeld hK K; have hHeld := hH2; clear hH2; try go_frame
        refine hyY (some 38) 17 rfl hHeld ?_; go_frame
        refine hyO none 18 rfl (fun K hK => ?_)
        have K7 := K5.below b57 K5.lt
        have r0 := K7.cell 0
        have r1 := K7.cell 1
        have r2 := K7.cell 2
        have r3 := K7.cell 3
        have r4 := K7.cell 4
        have r5 := K7.cell 5
        have g0 := K7.free 0
        have g1 := K7.free 1
        have g2 := K7.free 2
        have g3 := K7.free 3
        have g4 := K7.free 4
        have g5 := K7.free 5
        obtain ⟨W8, hW8⟩ : ∃ W8, W8 = ((((((w7.setCell ⟨w.heap.size, 0, none⟩ (.string sc)).setCell ⟨w.heap.size, 1, none⟩ (.int .i64 j0)).setCell ⟨w.heap.size, 2, none⟩ (.int .i64 j1)).setCell ⟨w.heap.size, 3, none⟩ (.string sm)).setCell ⟨w.heap.size, 4, none⟩ (.slice Y3 y3 t3)).setCell ⟨w.heap.size, 5, none⟩ (.int .i64 ac)) := ⟨_, rfl⟩
        have kfin : KB W8 w.heap.size 49 #[.string sc, .int .i64 j0, .int .i64 j1, .string sm, .slice Y3 y3 t3, .int .i64 ac] := by rw [hW8]; exact (((((K7.put 0 _).put 1 _).put 2 _).put 3 _).put 4 _).put 5 _
        have hs8 : W8.heap.size = w7.heap.size := by rw [hW8]; simp [World.setCell]
        have b8 : Below w.heap.size w5 W8 := by rw [hW8]; exact ((((((b57.mono B5.size).setCell (p := ⟨w.heap.size, 0, none⟩) (Nat.le_refl _) _).setCell (p := ⟨w.heap.size, 1, none⟩) (Nat.le_refl _) _).setCell (p := ⟨w.heap.size, 2, none⟩) (Nat.le_refl _) _).setCell (p := ⟨w.heap.size, 3, none⟩) (Nat.le_refl _) _).setCell (p := ⟨w.heap.size, 4, none⟩) (Nat.le_refl _) _).setCell (p := ⟨w.heap.size, 5, none⟩) (Nat.le_refl _) _
        have hblk : ∀ q, w.heap.size < q → W8.heap[q]? = w7.heap[q]? := fun q hq => by rw [hW8]; exact (Below.heap_setCell _ _ _ _ (by show q ≠ w.heap.size; omega)).trans ((Below.heap_setCell _ _ _ _ (by show q ≠ w.heap.size; omega)).trans ((Below.heap_setCell _ _ _ _ (by show q ≠ w.heap.size; omega)).trans ((Below.heap_setCell _ _ _ _ (by show q ≠ w.heap.size; omega)).trans ((Below.heap_setCell _ _ _ _ (by show q ≠ w.heap.size; omega)).trans (Below.heap_setCell _ _ _ _ (by show q ≠ w.heap.size; omega))))))
        have hs6 : w5.heap.size ≤ w6.heap.size := (Bdd.trans b6).size
        have hfin := HYJ.out W8 _ _ _ _ (EX.keepL f wh _ _ _ _ hx7 (by omega) (fun q h _ => hblk q (by have := h.1; omega)) (fun q h _ => by have := h.2; omega)) (B5.trans b8)
        clear hx7 hblk K7
        go_simp
        rw [← hW8]
        clear r0 r1 r2 r3 r4 r5 g0 g1 g2 g3 g4 g5
        refine hK.out _ _ ?_ (fun hH2 => ?_)
        · first | exact HC.out _ ((Bdd.trans b6).mono B5.size) | exact HC.out _ (b57.mono B5.size) | exact HC.out _ b8
        clear hHeld hK K; have hHeld := hH2; clear hH2; try go_frame
        refine hyY (some 5) 19 rfl hHeld ?_; go_frame
        refine wpAnyH_done (by kernel_rfl) ?_ _
        have hKK := HKK.out
        go_wp2_with fail
        exact bodyPost_ret (results_cell_tmp (P := Try.prog) (p := 4) (u := 5) rfl _ _ w.heap.size _ _ (0, 0) _ rfl kfin Try.underlying49 rfl (by kernel_rfl)) rfl hfin
      · have E : ¬ 0 ≤ pl := hpos
        have hnx := Lib.hid (HNX.out (by omega))
        clear HNX HHIT HPI HCL
        go_wp2_with fail
        go_roundw
        case rel => exact ⟨k + 1, by omega, by go_num, hnx, K5, L5, B5⟩
        case measure => simp [intOf]; omega
    · obtain ⟨h1, h2⟩ := HK.out
      have hno := HNO.out (h1 (by omega)) (h2 (by omega))
      have K7 := K
      have r0 := K7.cell 0
      have r1 := K7.cell 1
      have r2 := K7.cell 2
      have r3 := K7.cell 3
      have r4 := K7.cell 4
      have r5 := K7.cell 5
      have g0 := K7.free 0
      have g1 := K7.free 1
      have g2 := K7.free 2
      have g3 := K7.free 3
      have g4 := K7.free 4
      have g5 := K7.free 5
      obtain ⟨W8, hW8⟩ : ∃ W8, W8 = ((((((wr.setCell ⟨w.heap.size, 0, none⟩ (.string ⟨#[]⟩)).setCell ⟨w.heap.size, 1, none⟩ (.int .i64 0)).setCell ⟨w.heap.size, 2, none⟩ (.int .i64 0)).setCell ⟨w.heap.size, 3, none⟩ (.string ⟨#[]⟩)).setCell ⟨w.heap.size, 4, none⟩ (.slice none 0 0)).setCell ⟨w.heap.size, 5, none⟩ (.int .i64 0)) := ⟨_, rfl⟩
      have kfin : KB W8 w.heap.size 49 #[.string ⟨#[]⟩, .int .i64 0, .int .i64 0, .string ⟨#[]⟩, .slice none 0 0, .int .i64 0] := by rw [hW8]; exact (((((K7.put 0 _).put 1 _).put 2 _).put 3 _).put 4 _).put 5 _
      have b8 : Below w.heap.size w W8 := by rw [hW8]; exact (((((B.setCell (p := ⟨w.heap.size, 0, none⟩) (Nat.le_refl _) _).setCell (p := ⟨w.heap.size, 1, none⟩) (Nat.le_refl _) _).setCell (p := ⟨w.heap.size, 2, none⟩) (Nat.le_refl _) _).setCell (p := ⟨w.heap.size, 3, none⟩) (Nat.le_refl _) _).setCell (p := ⟨w.heap.size, 4, none⟩) (Nat.le_refl _) _).setCell (p := ⟨w.heap.size, 5, none⟩) (Nat.le_refl _) _
      have hfin := hno W8 b8
      have HW8 := Lib.hid hW8
      clear h1 h2 hno K7 b8 hW8 HNO HYES HPL HRB HFW HK L
      go_wp2_with fail
      rw [← HW8.out]
      exact bodyPost_ret (results_cell_tmp (P := Try.prog) (p := 4) (u := 5) rfl _ _ w.heap.size _ _ (0, 0) _ rfl kfin Try.underlying49 rfl (by kernel_rfl)) rfl hfin
end Go.Proofs.Ytommcdgognlfcaa
