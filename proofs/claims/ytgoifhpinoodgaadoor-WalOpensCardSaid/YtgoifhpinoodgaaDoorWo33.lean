/-
  WaR: What Commit's steps do together, over the loaded program. No condition but what it names (the table roots among it).
-/
import Derived.Test.YtgoifhpinoodgaaDoorWo32

section
namespace Go.Proofs.YtgoifhpinoodgaaDoor
open Go.RowKit
set_option maxRecDepth 100000
set_option linter.unusedVariables false

theorem LS.off {w w' : World} {p : DA} {v : Value} {ls : List (List UInt8)} (h : LS w (Off p w) v ls) (k : KeepP (Off p w) w w') : LS w' (Off p w') v ls :=
  (h.keep k.size fun b sb _ => k.block b sb).mono fun b sb => ⟨Nat.lt_of_lt_of_le sb.1 k.size, sb.2⟩

/-- Commit's steps, as they are done to a disk. -/
def comD (ps : List Pt) : List (Dk → Dk × Int) :=
  [doD (rowP 1 (entriesL ps)), doD (rowP 0 [headL ps.length (entriesL ps)]), doD ps, doD (rowP 0 [zs 256]), doD (rowP 1 ((entriesL ps).map fun _ => zs 256))]
theorem commitD_seq (ps : List Pt) (s : Dk) : commitD ps s = seqD (comD ps) s := rfl
/-- The five functions. -/
def comFs (b2 b3 b6 b7 : Nat) : List Fn2 :=
  [(50, #[.pointer (some ⟨b2, 0, none⟩), .pointer (some ⟨b6, 0, none⟩)]), (52, #[.pointer (some ⟨b2, 0, none⟩), .pointer (some ⟨b3, 0, none⟩), .pointer (some ⟨b6, 0, none⟩)]),
   (54, #[.pointer (some ⟨b2, 0, none⟩), .pointer (some ⟨b3, 0, none⟩)]), (55, #[.pointer (some ⟨b2, 0, none⟩)]),
   (56, #[.pointer (some ⟨b2, 0, none⟩), .pointer (some ⟨b7, 0, none⟩)])]
theorem comFs_run (b2 b3 b6 b7 : Nat) : ∀ q ∈ comFs b2 b3 b6 b7, Runs q := by
  intro q hq args w
  simp [comFs] at hq
  rcases hq with rfl | rfl | rfl | rfl | rfl
  · exact enters_of Tryd.func50 (by kernel_rfl) rfl args w
  · exact enters_of Tryd.func52 (by kernel_rfl) rfl args w
  · exact enters_of Tryd.func54 (by kernel_rfl) rfl args w
  · exact enters_of Tryd.func55 (by kernel_rfl) rfl args w
  · exact enters_of Tryd.func56 (by kernel_rfl) rfl args w

/-- Where Commit's variables lie. -/
structure CA where
  b : Nat
  b2 : Nat
  b3 : Nat
  b6 : Nat
  b7 : Nat
  lg : Nat
/-- What stands in memory between the steps. -/
structure CC (w W : World) (p : DA) (a : CA) (n : Nat) (ps : List Pt) (vP vL vZ : Value) : Prop where
  kf : KB W a.b 43 ((comFs a.b2 a.b3 a.b6 a.b7).map fnV).toArray
  k2 : KB W a.b2 47 #[.pointer (some ⟨a.lg, 0, none⟩)]
  k3 : KB W a.b3 25 #[vP]
  k6 : KB W a.b6 33 #[vL]
  k7 : KB W a.b7 33 #[vZ]
  lg : LG W a.lg p n false
  tab : Tab W
  hP : PS W (Off p W) vP ps
  hL : LS W (Off p W) vL (entriesL ps)
  hZ : LS W (Off p W) vZ ((entriesL ps).map fun _ => zs 256)
  kp : KeepP (Off p w) w W
/-- None of these is the disk's. -/
structure CN (p : DA) (a : CA) : Prop where
  nb : ¬ p.has a.b
  n2 : ¬ p.has a.b2
  n3 : ¬ p.has a.b3
  n6 : ¬ p.has a.b6
  n7 : ¬ p.has a.b7
  nl : ¬ p.has a.lg
  nt : ¬ p.has 0
theorem CC.step {w W W' : World} {p : DA} {a : CA} {n : Nat} {ps : List Pt} {vP vL vZ : Value} (h : CC w W p a n ps vP vL vZ) (c : CN p a) (k : KeepP (Off p W) W W') : CC w W' p a n ps vP vL vZ :=
  ⟨h.kf.keepP k ⟨h.kf.lt, c.nb⟩, h.k2.keepP k ⟨h.k2.lt, c.n2⟩, h.k3.keepP k ⟨h.k3.lt, c.n3⟩, h.k6.keepP k ⟨h.k6.lt, c.n6⟩, h.k7.keepP k ⟨h.k7.lt, c.n7⟩, h.lg.keepP k ⟨KB.lt h.lg, c.nl⟩,
    h.tab.keep k.size (k.block _ ⟨h.tab.1, c.nt⟩), h.hP.off k, h.hL.off k, h.hZ.off k, h.kp.trans (k.mono fun x hx => ⟨Nat.lt_of_lt_of_le hx.1 h.kp.size, hx.2⟩)⟩

/-- What holds behind j steps. -/
def IC (w : World) (p : DA) (a : CA) (n : Nat) (ps : List Pt) (vP vL vZ : Value) (s : Dk) (j : Nat) (W : World) : Prop :=
  CC w W p a n ps vP vL vZ ∧ ∃ t : Dk, DS W p t ∧ t.safe.length = s.safe.length ∧ seqD ((comD ps).drop j) t = seqD (comD ps) s
/-- What holds behind an error. -/
def EC (w : World) (p : DA) (a : CA) (n : Nat) (ps : List Pt) (vP vL vZ : Value) (s : Dk) (x : Int) (W : World) : Prop :=
  CC w W p a n ps vP vL vZ ∧ x = (commitD ps s).2 ∧ DS W p (commitD ps s).1

theorem catB_small {L : List (List UInt8)} (h : ∀ l ∈ L, l.length = 256) (hl : L.length ≤ 100000) : (catB L).length < 100000000000000000 := by
  have := catB_256 h
  omega
theorem rowP_fit {N at_ : Nat} {L : List (List UInt8)} (h : ∀ l ∈ L, l.length = 256) (hN : at_ + L.length ≤ N) : Fit N (rowP at_ L) := by
  intro q hq
  obtain ⟨j, hj, e⟩ := rowP_mem hq
  have := (List.getElem?_eq_some_iff.1 hj).1
  exact ⟨by omega, by omega, h _ (List.mem_of_getElem? hj)⟩

set_option maxHeartbeats 1000000 in
theorem commit_steps {w W : World} {p : DA} {a : CA} {n : Nat} {ps : List Pt} {vP vL vZ : Value} {s : Dk} (c : CN p a) (hcc : CC w W p a n ps vP vL vZ) (hd : DS W p s) (hf : Fine n s.safe.length ps) :
    Calls Tryd.prog 39 #[.slice (some ⟨a.b, 0, none⟩) 5 5] W fun e W' => ∃ x : Int, e = .returned (.int .i64 x) ∧ (x = 0 → IC w p a n ps vP vL vZ s 5 W') ∧ (x ≠ 0 → EC w p a n ps vP vL vZ s x W') := by
  have h256 := entries_256 (p := ps) fun v hv => (takes_at hf.takes hv).2.2
  have hlen := hf.len
  have hlog := hf.log
  have hfew := hf.few
  refine inOrder_any (comFs a.b2 a.b3 a.b6 a.b7) a.b W (IC w p a n ps vP vL vZ s) (EC w p a n ps vP vL vZ s) (by simp [comFs]) ⟨hcc, s, hd, rfl, rfl⟩ (comFs_run _ _ _ _) (fun j W h => h.1.kf) ?_
  intro j q W hq hI
  obtain ⟨cc, t, d, hl, hs⟩ := hI
  have done : ∀ (f : Dk → Dk × Int) (r : List (Dk → Dk × Int)) (e : Ending) (W' : World), (comD ps).drop j = f :: r → (comD ps).drop (j + 1) = r → (f t).1.safe.length = t.safe.length → e = .returned (.int .i64 (f t).2) ∧ DS W' p (f t).1 ∧ KeepP (Off p W) W W' →
      ∃ x : Int, e = .returned (.int .i64 x) ∧ (x = 0 → IC w p a n ps vP vL vZ s (j + 1) W') ∧ (x ≠ 0 → EC w p a n ps vP vL vZ s x W') := by
    rintro f r e W' h1 h2 h3 ⟨rfl, d1, k1⟩
    rw [h1, seqD_one] at hs
    refine ⟨_, rfl, fun hx => ⟨cc.step c k1, _, d1, h3.trans hl, ?_⟩, fun hx => ⟨cc.step c k1, ?_, ?_⟩⟩
    · rw [h2, ← hs, if_pos hx]
    · rw [commitD_seq, ← hs, if_neg hx]
    · rw [commitD_seq, ← hs, if_neg hx]; exact d1
  match j, hq with
  | 0, hq =>
    obtain rfl : (50, #[.pointer (some ⟨a.b2, 0, none⟩), .pointer (some ⟨a.b6, 0, none⟩)]) = q := Option.some.inj hq
    exact (commit1_any cc.k2 cc.k6 c.n2 c.n6 cc.lg c.nl d cc.hL (by omega) (rowP_fit h256 (by omega))).mono fun e W' h => done _ _ e W' rfl rfl (doD_len _ _) h
  | 1, hq =>
    obtain rfl : (52, #[.pointer (some ⟨a.b2, 0, none⟩), .pointer (some ⟨a.b3, 0, none⟩), .pointer (some ⟨a.b6, 0, none⟩)]) = q := Option.some.inj hq
    obtain ⟨AP, cP, e, _⟩ := cc.hP.form
    have k3 := cc.k3
    rw [e] at k3
    have hk : ps.length < 65536 := by have := room_fits hf.room; omega
    exact (commit2_any cc.k2 k3 cc.k6 c.n2 c.n3 c.n6 cc.lg c.nl d cc.tab cc.hL hk (catB_small h256 (by omega))).mono fun e W' h => done _ _ e W' rfl rfl (doD_len _ _) h
  | 2, hq =>
    obtain rfl : (54, #[.pointer (some ⟨a.b2, 0, none⟩), .pointer (some ⟨a.b3, 0, none⟩)]) = q := Option.some.inj hq
    exact (commit3_any cc.k2 cc.k3 cc.lg c.nl d cc.hP (by rw [hl]; exact takes_fit hf.takes)).mono fun e W' h => done _ _ e W' rfl rfl (doD_len _ _) h
  | 3, hq =>
    obtain rfl : (55, #[.pointer (some ⟨a.b2, 0, none⟩)]) = q := Option.some.inj hq
    exact (commit4_any cc.k2 c.n2 cc.lg c.nl d).mono fun e W' h => done _ _ e W' rfl rfl (doD_len _ _) h
  | 4, hq =>
    obtain rfl : (56, #[.pointer (some ⟨a.b2, 0, none⟩), .pointer (some ⟨a.b7, 0, none⟩)]) = q := Option.some.inj hq
    exact (commit5_any cc.k2 cc.k7 c.n2 c.n7 cc.lg c.nl d cc.hZ (by rw [List.length_map]; omega) (rowP_fit (fun l hl => by obtain ⟨_, _, rfl⟩ := List.mem_map.1 hl; exact zs_len 256) (by rw [List.length_map]; omega))).mono fun e W' h => done _ _ e W' rfl rfl (doD_len _ _) h
  | j + 5, hq => simp [comFs] at hq
end Go.Proofs.YtgoifhpinoodgaaDoor
end
