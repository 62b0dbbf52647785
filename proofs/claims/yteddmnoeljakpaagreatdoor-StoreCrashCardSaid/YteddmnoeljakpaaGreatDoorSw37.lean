/-
  StW: Files on a disk, and the map of them in memory; which lists may be done, and what becomes of the map: plainly. No condition but what each theorem names.
  StX: What Do is made of: patches joined to patches; a store behind a Commit. No condition but what each theorem names.
-/
import Derived.Test.YteddmnoeljakpaaGreatDoorSw36
import Derived.Test.YteddmnoeljakpaaGreatDoorSw21
set_option linter.unusedVariables false
set_option maxRecDepth 100000
namespace Go.Proofs.YteddmnoeljakpaaGreatDoor
section
open Go.RowKit
def ndF (x : Fe) : Nd := (x.place, x.ino)
def nodesF (fl : List Fe) : List Nd := fl.map ndF
theorem nodes_names (fl : List Fe) : (nodesF fl).map (·.2.name) = fl.map (·.name) := by
  unfold nodesF
  rw [List.map_map]
  rfl
theorem nodes_len (fl : List Fe) : (nodesF fl).length = fl.length := by simp [nodesF]
theorem look_nodes (fl : List Fe) (n : List UInt8) : lookN (nodesF fl) n = (fl.find? fun x => decide (x.name = n)).map ndF := by
  unfold lookN nodesF
  rw [List.find?_map]
  rfl
theorem map_nodes (fl : List Fe) : mapN (nodesF fl) = mapF fl := by
  funext n
  unfold mapN mapF
  rw [look_nodes, Option.map_map]
  rfl
theorem tkN_nodes (fl : List Fe) (k : Nat) : tkN (nodesF fl) k = fl.any fun x => decide (x.place = k) := by
  unfold tkN nodesF
  rw [List.any_map]
  rfl
theorem usN_nodes (fl : List Fe) (k : Nat) : usN (nodesF fl) k = fl.any fun x => decide ((k : Int) ∈ x.at_) := by
  unfold usN nodesF
  rw [List.any_map]
  rfl
theorem tk_nodes (c : CI) (fl : List Fe) : tkZ c (nodesF fl) = tkF c.cn fl := by
  unfold tkZ tkF
  exact List.map_congr_left fun k _ => tkN_nodes fl k
theorem us_nodes (c : CI) (fl : List Fe) : usZ c (nodesF fl) = usF c.cn fl := by
  unfold usZ usF
  exact List.map_congr_left fun k _ => usN_nodes fl k
section
variable {c : CI} {fl : List Fe} {l : List Fi}
theorem usC_nodes (gf : Fine13 c.cn fl) : usC c (nodesF fl) = pagesF fl := by
  rw [← used_us gf]
  unfold usC
  rw [← us_nodes]
  rfl
theorem data_cn (hm : c.may) : (c.cn.data : Int) = c.data := by
  obtain ⟨⟨⟨a1, a2⟩, ⟨b1, b2⟩, ⟨c1, c2⟩, d1, d2⟩, e⟩ := hm
  unfold CI.cn
  simp only
  omega
theorem fit_nodes (hm : c.may) (gf : Fine13 c.cn fl) : ∀ q ∈ nodesF fl, q.1 < c.cn.files ∧ fitS q.2 c.data = true := by
  intro q hq
  obtain ⟨x, hx, rfl⟩ := List.mem_map.1 hq
  have h1 := gf.each x hx
  have h2 := h1.fit hm.ok
  rw [data_cn hm] at h2
  exact ⟨h1.place, h2⟩
theorem few_nodes (gf : Fine13 c.cn fl) : (nodesF fl).length ≤ c.cn.files := by
  rw [nodes_len]
  have := free_tk_len gf
  omega
theorem may_name {n : List UInt8} (h : nameS n = true) : n.length ≤ maxLen := by
  unfold nameS at h
  simp at h
  unfold maxLen
  omega
theorem can_of_try {br : Bool} (gf : Fine13 c.cn fl) (h : tryN c (nodesF fl) br l = 0) : br = false ∧ Can13 c.cn fl l ∧ costC (mapF fl) l ≤ roomN c.cn.log := by
  unfold tryN at h
  split at h
  · cases h
  split at h
  · cases h
  split at h
  · cases h
  split at h
  · cases h
  split at h
  · cases h
  split at h
  · cases h
  rename_i h1 h2 h3 h4 h5 h6
  have ha : ∀ i, i < l.length → okF l i := of_decide_eq_true (by simpa [argsB] using h2)
  have hat : ∀ f ∈ l, ∃ i, i < l.length ∧ l.getD i ⟨[], [], false⟩ = f := fun f hf => by
    obtain ⟨i, hi⟩ := List.mem_iff_getElem?.1 hf
    exact ⟨i, (List.getElem?_eq_some_iff.1 hi).1, getD_fi hi⟩
  rw [map_nodes] at h6
  refine ⟨by simpa using h1, ⟨fun f hf => ?_, ?_, fun f hf hg => ?_, fun f hf => ?_, fun f hf hg hn => ?_, ?_, ?_⟩, by omega⟩
  · obtain ⟨i, hi, rfl⟩ := hat f hf
    exact (ha i hi).1
  · refine List.pairwise_iff_getElem.2 fun i j hi hj hij e => ?_
    rw [List.length_map] at hi hj
    have := (ha j hj).2.1 i hij
    apply this
    rw [getD_fi (List.getElem?_eq_getElem hj), getD_fi (List.getElem?_eq_getElem hi)]
    simpa using e
  · obtain ⟨i, hi, rfl⟩ := hat f hf
    have := (ha i hi).2.2
    exact List.eq_nil_of_length_eq_zero (Nat.eq_zero_of_not_pos fun hp => this ⟨hg, hp⟩)
  · have := h3
    simp [longF] at this
    exact this f hf
  · have := h4
    simp [missF] at this
    have := this f hf hg
    rw [look_nodes] at this
    unfold mapF at hn
    rw [Option.map_eq_none_iff] at hn
    rw [hn] at this
    simp at this
  · have := h5
    unfold fitB at this
    simp at this
    have h7 := this.1
    rw [map_nodes, nodes_len] at h7
    have := free_tk_len gf
    omega
  · have := h5
    unfold fitB at this
    simp at this
    have h7 := this.2
    rw [map_nodes, usC_nodes gf] at h7
    have := free_us_len gf
    omega
theorem chs_fit (gf : Fine13 c.cn fl) (g : Can13 c.cn fl l) (h : Ch) (hh : h ∈ chsM (mapF fl) (tkF c.cn fl) (usF c.cn fl) l) : ChIn c.cn h := by
  have g1 := (can_gets g).1 h hh
  have ho := gets_ok gf g1
  refine ⟨gets_place gf g1, may_name (g.name _ (chs_in h hh)), g.size _ (chs_in h hh), gets_len g1, fun z hz => okB_mem ho hz, fun z hz => sec_pos gf g1 (.inr hz), ?_⟩
  rw [g1.loses, List.length_drop]
  have h1 := had_ok gf h.to.name
  cases hm : mapF fl h.to.name with
  | none =>
    have : hadM (mapF fl) h.to.name = [] := by unfold hadM; rw [hm]; rfl
    rw [this]
    simp
  | some q =>
    obtain ⟨x, hx, hn, rfl⟩ := mapF_some hm
    have : hadM (mapF fl) h.to.name = x.at_ := by unfold hadM; rw [hm]; rfl
    rw [this]
    have h2 := (gf.each x hx).len
    have h3 := (gf.each x hx).size
    rw [h2]
    unfold pagesN
    omega
end
theorem same_len {a b : List Nd} (ha : (a.map (·.2.name)).Nodup) (hb : (b.map (·.2.name)).Nodup) (h : ∀ n, (lookN a n).isSome = (lookN b n).isSome) : a.length = b.length := by
  have key : ∀ {l : List Nd} {n : List UInt8}, n ∈ l.map (·.2.name) ↔ (lookN l n).isSome = true := by
    intro l n
    constructor
    · intro hm
      obtain ⟨q, hq, e⟩ := List.mem_map.1 hm
      cases hl : lookN l n with
      | none => exact absurd e (lookN_none hl q hq)
      | some r => rfl
    · intro hs
      obtain ⟨q, hq⟩ := Option.isSome_iff_exists.1 hs
      obtain ⟨h1, h2⟩ := lookN_some hq
      exact List.mem_map.2 ⟨q, h1, h2⟩
  have : (a.map (·.2.name)).Perm (b.map (·.2.name)) := (List.perm_ext_iff_of_nodup ha hb).2 fun n => by rw [key, key, h n]
  simpa using this.length_eq
theorem MF.like {w : World} {m : Nat} {S : Nat → Prop} {a b : List Nd} (h : MF w m S a) (hb : (b.map (·.2.name)).Nodup) (he : ∀ n, lookN a n = lookN b n) : MF w m S b := by
  obtain ⟨g, h1, h2, h3, h4⟩ := h
  have hl := same_len h2 hb fun n => by rw [he]
  rw [hl] at h1
  exact ⟨g, h1, hb, fun n hn => h3 n (by rw [he]; exact hn), fun n q hq => h4 n q (by rw [he]; exact hq)⟩
def appN (nl : List Nd) (hs : List Ch) : List Nd := hs.foldl (fun nl h => if h.to.gone = true then delN nl h.to.name else putN nl (h.place, h.fe.ino)) nl
theorem app_snoc (nl : List Nd) (hs : List Ch) (h : Ch) : appN nl (hs ++ [h]) = if h.to.gone = true then delN (appN nl hs) h.to.name else putN (appN nl hs) (h.place, h.fe.ino) := by
  unfold appN
  rw [List.foldl_append]
  rfl
theorem app_look (n : List UInt8) : ∀ (hs : List Ch) (nl : List Nd), (hs.map (·.to.name)).Nodup →
    lookN (appN nl hs) n = match hs.find? (fun h => decide (h.to.name = n)) with | none => lookN nl n | some h => if h.to.gone = true then none else some (h.place, h.fe.ino)
  | [], nl, _ => rfl
  | h :: r, nl, hn => by
    rw [List.map_cons, List.nodup_cons] at hn
    show lookN (appN (if h.to.gone = true then delN nl h.to.name else putN nl (h.place, h.fe.ino)) r) n = _
    rw [app_look n r _ hn.2]
    by_cases e : h.to.name = n
    · have h0 : r.find? (fun k => decide (k.to.name = n)) = none := by
        rw [List.find?_eq_none]
        intro k hk hh
        exact hn.1 (List.mem_map.2 ⟨k, hk, by rw [e]; simpa using hh⟩)
      rw [h0, List.find?_cons_of_pos (by simpa using e)]
      simp only
      by_cases hg : h.to.gone = true
      · rw [if_pos hg, if_pos hg, look_del, if_pos e.symm]
      · rw [if_neg hg, if_neg hg, look_put, if_pos (show n = h.fe.ino.name from e.symm)]
    · rw [List.find?_cons_of_neg (by simpa using e)]
      cases hf : r.find? (fun k => decide (k.to.name = n)) with
      | some k => rfl
      | none =>
        simp only
        by_cases hg : h.to.gone = true
        · rw [if_pos hg, look_del, if_neg (fun q => e q.symm)]
        · rw [if_neg hg, look_put, if_neg (fun q : n = h.fe.ino.name => e q.symm)]
theorem look_fe {fl : List Fe} (hn : (fl.map (·.name)).Nodup) {x : Fe} (hx : x ∈ fl) : lookN (nodesF fl) x.name = some (ndF x) := by
  have := lookN_mem (nl := nodesF fl) (q := ndF x) (by rw [nodes_names]; exact hn) (List.mem_map.2 ⟨x, hx, rfl⟩)
  exact this
theorem look_fe_none {fl : List Fe} {n : List UInt8} (h : ∀ x ∈ fl, x.name ≠ n) : lookN (nodesF fl) n = none := by
  cases hl : lookN (nodesF fl) n with
  | none => rfl
  | some q =>
    obtain ⟨h1, h2⟩ := lookN_some hl
    obtain ⟨x, hx, rfl⟩ := List.mem_map.1 h1
    exact absurd h2 (h x hx)
theorem app_next {c : Cn} {fl : List Fe} {l : List Fi} (gf : Fine13 c fl) (g : Can13 c fl l) (n : List UInt8) :
    lookN (appN (nodesF fl) (chsM (mapF fl) (tkF c fl) (usF c fl) l)) n = lookN (nodesF (nextF c fl l)) n := by
  have hnf := next_fine gf g
  rw [app_look _ _ _ (chs_names g)]
  cases hf : (chsM (mapF fl) (tkF c fl) (usF c fl) l).find? (fun h => decide (h.to.name = n)) with
  | some h =>
    have hh := List.mem_of_find?_eq_some hf
    have hn : h.to.name = n := by simpa using List.find?_some hf
    simp only
    by_cases hg : h.to.gone = true
    · rw [if_pos hg]
      refine (look_fe_none fun x hx e => ?_).symm
      rcases mem_next.1 hx with ⟨_, h2⟩ | ⟨k, hk, hkg, rfl⟩
      · have : hasN l x.name = true := hasN_iff.2 ⟨h.to, chs_in h hh, by rw [hn, e]⟩
        rw [this] at h2
        cases h2
      · have := chs_one g hh hk (by rw [hn]; exact e.symm)
        rw [this, hkg] at hg
        cases hg
    · rw [if_neg hg]
      have hx : h.fe ∈ nextF c fl l := mem_next.2 (.inr ⟨h, hh, by simpa using hg, rfl⟩)
      have := look_fe hnf.names hx
      rw [show h.fe.name = n from hn] at this
      exact this.symm
  | none =>
    simp only
    have hno : hasN l n = false := by
      cases hb : hasN l n with
      | false => rfl
      | true =>
        obtain ⟨f, hf2, hfn⟩ := hasN_iff.1 hb
        obtain ⟨h, hh, e⟩ := chs_of (c := c) (fl := fl) hf2
        have := List.find?_eq_none.1 hf h hh
        rw [e] at this
        simp [hfn] at this
    cases hl : lookN (nodesF fl) n with
    | none =>
      refine (look_fe_none fun x hx e => ?_).symm
      rcases mem_next.1 hx with ⟨h1, _⟩ | ⟨k, hk, _, rfl⟩
      · have := look_fe gf.names h1
        rw [e, hl] at this
        cases this
      · have : hasN l n = true := hasN_iff.2 ⟨k.to, chs_in k hk, e⟩
        rw [this] at hno
        cases hno
    | some q =>
      obtain ⟨h1, h2⟩ := lookN_some hl
      obtain ⟨x, hx, rfl⟩ := List.mem_map.1 h1
      have hx2 : x ∈ nextF c fl l := mem_next.2 (.inl ⟨hx, by rw [show x.name = n from h2]; exact hno⟩)
      have := look_fe hnf.names hx2
      rw [show x.name = n from h2] at this
      exact this.symm
end
section
open Go.RowKit
theorem PS.rows {w : World} {S : Nat → Prop} {v : Value} {ps : List Pt} (h : PS w S v ps) (hp : 0 < ps.length) :
    ∃ (b o c : Nat) (us : List Two2), v = .slice (some ⟨b, o, none⟩) ps.length c ∧ us.length = ps.length ∧ S b ∧ (∀ j u, (flatW us)[j]? = some u → w.cell? ((⟨b, o, none⟩ : Addr).add j) = some u) ∧ PT w S us ps := by
  obtain ⟨A, c, rfl, hl, hc, hn⟩ := h.form
  obtain ⟨b, o, rfl, sb, hb, hx⟩ := h.at_ hp
  have key : ∀ (k : Nat), k ≤ ps.length → ∃ us : List Two2, us.length = k ∧ ∀ i q t, us[i]? = some q → ps[i]? = some t → q.1 = t.1 ∧ (∃ X z, q.2 = .slice X t.2.length z) ∧ w.cell? ⟨b, o + i * 2, none⟩ = some (.int .i64 q.1) ∧ w.cell? ⟨b, o + i * 2 + 1, none⟩ = some q.2 ∧ BS w S q.2 t.2 := by
    intro k
    induction k with
    | zero => exact fun _ => ⟨[], rfl, fun i q t hq => by simp at hq⟩
    | succ k ih =>
      intro hk
      obtain ⟨us, hu, hx2⟩ := ih (by omega)
      obtain ⟨p, hpk⟩ : ∃ p, ps[k]? = some p := ⟨_, List.getElem?_eq_getElem (by omega)⟩
      obtain ⟨h1, X, z, h2, h3⟩ := hx k p hpk
      refine ⟨us ++ [(p.1, .slice X p.2.length z)], by simp [hu], fun i q t hq ht => ?_⟩
      by_cases hi : i < us.length
      · rw [List.getElem?_append_left hi] at hq
        exact hx2 i q t hq ht
      · have : i = k := by
          have := (List.getElem?_eq_some_iff.1 hq).1
          simp at this
          omega
        subst this
        rw [List.getElem?_append_right (by omega), hu, Nat.sub_self] at hq
        simp at hq
        rw [hpk] at ht
        obtain rfl := Option.some.inj ht
        subst hq
        exact ⟨rfl, ⟨X, z, rfl⟩, h1, h2, h3⟩
  obtain ⟨us, hu, hx2⟩ := key ps.length (Nat.le_refl _)
  refine ⟨b, o, c, us, rfl, hu, sb, fun j u hj => ?_, hu, fun i q t hq ht => ⟨(hx2 i q t hq ht).1, (hx2 i q t hq ht).2.2.2.2⟩⟩
  have hjl := (List.getElem?_eq_some_iff.1 hj).1
  rw [flatW_length] at hjl
  have hi : j / 2 < us.length := by omega
  obtain ⟨q, hq⟩ : ∃ q, us[j / 2]? = some q := ⟨_, List.getElem?_eq_getElem hi⟩
  obtain ⟨t, ht⟩ : ∃ t, ps[j / 2]? = some t := ⟨_, List.getElem?_eq_getElem (by omega)⟩
  obtain ⟨_, _, h1, h2, _⟩ := hx2 _ q t hq ht
  obtain ⟨e0, e1⟩ := flatW_at us _ q hq
  rw [Addr.add_lit]
  rcases Nat.mod_two_eq_zero_or_one j with hm | hm
  · rw [show j = j / 2 * 2 by omega] at hj ⊢
    rw [e0] at hj
    obtain rfl := Option.some.inj hj
    exact h1
  · rw [show j = j / 2 * 2 + 1 by omega] at hj ⊢
    rw [e1] at hj
    obtain rfl := Option.some.inj hj
    exact h2
theorem patsH_snoc (c : Cn) (l : List Ch) (h : Ch) : patsH c (l ++ [h]) = patsH c l ++ patH c h := by
  unfold patsH
  rw [List.flatMap_append]
  simp
theorem patH_pos (c : Cn) (h : Ch) : 0 < (patH c h).length := by simp [patH]
theorem patsH_take {c : Cn} {hs : List Ch} {k : Nat} : (patsH c (hs.take k)).length ≤ (patsH c hs).length := by
  have : patsH c hs = patsH c (hs.take k) ++ patsH c (hs.drop k) := by
    unfold patsH
    rw [← List.flatMap_append, List.take_append_drop]
  rw [this, List.length_append]
  omega
theorem patsH_many (c : Cn) : ∀ hs : List Ch, hs.length ≤ (patsH c hs).length
  | [] => Nat.le_refl _
  | h :: r => by
    have h1 := patsH_many c r
    have h2 := patH_pos c h
    show r.length + 1 ≤ (patH c h ++ patsH c r).length
    rw [List.length_append]
    omega
theorem app_le (nl : List Nd) : ∀ hs : List Ch, (appN nl hs).length ≤ nl.length + hs.length := by
  intro hs
  induction hs generalizing nl with
  | nil => exact Nat.le_refl _
  | cons h r ih =>
    have := ih (if h.to.gone = true then delN nl h.to.name else putN nl (h.place, h.fe.ino))
    have h2 : (if h.to.gone = true then delN nl h.to.name else putN nl (h.place, h.fe.ino)).length ≤ nl.length + 1 := by
      split
      · exact Nat.le_trans (List.length_filter_le _ _) (by omega)
      · unfold putN
        rw [List.length_append]
        have := List.length_filter_le (fun r : Nd => decide (r.2.name ≠ (h.place, h.fe.ino).2.name)) nl
        exact Nat.add_le_add_right this 1
    show (appN _ r).length ≤ _
    simp only [List.length_cons]
    omega
theorem room_le (n : Nat) : roomN n ≤ n := by unfold roomN; split <;> omega
section
variable {w : World} {a : SA} {c : CI} {nl : List Nd} {s : Dk} {br : Bool}
theorem ST.commit {w' : World} {s' : Dk} {br' : Bool} (h : ST w a c nl s br) (hd : DS w' a.p s') (hg : LG w' a.lg a.p c.log.toNat br') (k : KeepP (fun x => Off a.p w x ∧ x ≠ a.lg) w w') (hl : s'.safe.length = s.safe.length) : ST w' a c nl s' br' := by
  have hsg : Off a.p w a.sg ∧ a.sg ≠ a.lg := ⟨⟨h.kb.lt, h.sn.ps⟩, h.sn.sl⟩
  have hm : Off a.p w a.m ∧ a.m ≠ a.lg := ⟨⟨h.mf.lt, h.sn.pm⟩, fun e => h.sn.lm e.symm⟩
  have ht : Off a.p w 1 ∧ 1 ≠ a.lg := ⟨⟨h.tab.1, fun e => h.sn.pt (.inl e)⟩, fun e => h.sn.pt (.inr (.inr (.inl e)))⟩
  refine ⟨h.kb.keepP k hsg, hg, hd, h.mf.keep k.size (k.block _ hm) (fun b sb _ => k.block b ⟨⟨sb.1, fun e => sb.2 (.inl e)⟩, fun e => sb.2 (.inr (.inr (.inl e)))⟩) (fun b sb => ⟨Nat.lt_of_lt_of_le sb.1 k.size, sb.2⟩), h.tab.keep k.size (k.block _ ht), h.sn, h.may, by rw [hl]; exact h.len, h.fit, h.few⟩
theorem ST.remap {w' : World} {nl' : List Nd} (h : ST w a c nl s br) (k : KeepP (fun x => x < w.heap.size ∧ x ≠ a.m) w w') (hm : MF w' a.m (OffS a w') nl') (hf : ∀ q ∈ nl', q.1 < c.cn.files ∧ fitS q.2 c.data = true) (hw : nl'.length ≤ c.cn.files) : ST w' a c nl' s br := by
  have hne : ∀ x, a.p.has x → x < w.heap.size ∧ x ≠ a.m := fun x hx => ⟨h.ds.lt x hx, fun e => h.sn.pm (e ▸ hx)⟩
  exact ⟨h.kb.keepP k ⟨h.kb.lt, h.sn.sm⟩, KB.keepP h.lg k ⟨KB.lt h.lg, h.sn.lm⟩, h.ds.keep fun x hx => k.block x (hne x hx), hm, h.tab.keep k.size (k.block _ ⟨h.tab.1, fun e => h.sn.pt (.inr (.inr (.inr e)))⟩), h.sn, h.may, h.len, hf, hw⟩
end
def doF (c : CI) (fl : List Fe) (br : Bool) (l : List Fi) (s : Dk) : Dk × Int × List Fe :=
  if tryN c (nodesF fl) br l ≠ 0 then (s, tryN c (nodesF fl) br l, fl) else
    ((comA c.cn.log s.safe.length (patsH c.cn (chsM (mapF fl) (tkF c.cn fl) (usF c.cn fl) l)) s).1, (comA c.cn.log s.safe.length (patsH c.cn (chsM (mapF fl) (tkF c.cn fl) (usF c.cn fl) l)) s).2,
      if (comA c.cn.log s.safe.length (patsH c.cn (chsM (mapF fl) (tkF c.cn fl) (usF c.cn fl) l)) s).2 = 0 then nextF c.cn fl l else fl)
def DoAs (w : World) (a : SA) (c : CI) (fl : List Fe) (s : Dk) (br : Bool) (l : List Fi) (e : Ending) (w' : World) : Prop :=
  e = .returned (.int .i64 (doF c fl br l s).2.1) ∧ (∃ br', ST w' a c (nodesF (doF c fl br l s).2.2) (doF c fl br l s).1 br' ∧ ((doF c fl br l s).2.1 = 0 → br' = false) ∧ (tryN c (nodesF fl) br l ≠ 0 → br' = br)) ∧ KeepP (OffS a w) w w'
end
end Go.Proofs.YteddmnoeljakpaaGreatDoor
