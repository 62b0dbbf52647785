/-
  DrT: Terms as the closure sees them: kinds, numbers, kids said to be as deep; all the parts of a list hold what can ever be there. Plain mathematics, no program, no condition.
  DrL: The closure as a loop goes: what holds of the list so far at the head of each round, and within one. Plain mathematics, no program, no condition.
-/
import Derived.Test.YthgaljgelngmaaaDoorDv10

section
namespace Go.Proofs.YthgaljgelngmaaaDoor
set_option linter.unusedVariables false

instance decTm (f : Nat) : DecidableEq (Tm f) := fun a b => decidable_of_iff _ (sameT_iff f a b)

def kindT : (f : Nat) → Tm f → Int
  | 0, t => nomatch t
  | f + 1, (t : Nd (Tm f)) => t.kind
def numT : (f : Nat) → Tm f → Nat
  | 0, t => nomatch t
  | f + 1, (t : Nd (Tm f)) => t.n
def kidsT : (f : Nat) → Tm f → List (Tm f)
  | 0, t => nomatch t
  | f + 1, (t : Nd (Tm f)) => t.kids.map (lift f)
def sizeT : (f : Nat) → Tm f → Nat
  | 0, t => nomatch t
  | f + 1, (t : Nd (Tm f)) => 1 + (t.kids.map (sizeT f)).sum

theorem kindT_lift : ∀ (f : Nat) (t : Tm f), kindT (f + 1) (lift f t) = kindT f t
  | 0, t => nomatch t
  | f + 1, t => rfl
theorem numT_lift : ∀ (f : Nat) (t : Tm f), numT (f + 1) (lift f t) = numT f t
  | 0, t => nomatch t
  | f + 1, t => rfl
theorem kidsT_lift : ∀ (f : Nat) (t : Tm f), kidsT (f + 1) (lift f t) = (kidsT f t).map (lift f)
  | 0, t => nomatch t
  | f + 1, t => rfl
theorem sizeT_lift : ∀ (f : Nat) (t : Tm f), sizeT (f + 1) (lift f t) = sizeT f t
  | 0, t => nomatch t
  | f + 1, (t : Nd (Tm f)) => by
    show 1 + ((t.kids.map (lift f)).map (sizeT (f + 1))).sum = 1 + (t.kids.map (sizeT f)).sum
    rw [List.map_map, show (sizeT (f + 1) ∘ lift f) = sizeT f from funext fun u => sizeT_lift f u]
theorem le_sum_mem : ∀ (l : List Nat) (x : Nat), x ∈ l → x ≤ l.sum
  | a :: l, x, h => by
    rw [List.sum_cons]
    rcases List.mem_cons.1 h with rfl | h
    · omega
    · have := le_sum_mem l x h; omega
theorem sizeT_less : ∀ (f : Nat) (t u : Tm f), u ∈ kidsT f t → sizeT f u < sizeT f t
  | 0, t, _, _ => nomatch t
  | f + 1, (t : Nd (Tm f)), u, h => by
    obtain ⟨v, hv, rfl⟩ := List.mem_map.1 (show u ∈ t.kids.map (lift f) from h)
    rw [sizeT_lift]
    show _ < 1 + (t.kids.map (sizeT f)).sum
    have := le_sum_mem _ _ (List.mem_map_of_mem (f := sizeT f) hv)
    omega

def vwT (f : Nat) : Vw (Tm f) := ⟨kindT f, numT f, kidsT f, sizeT f, sizeT_less f⟩

theorem kindAt_get : ∀ (f : Nat) (l : List (Tm f)) (i : Nat), kindAt f l i = ((l[i]?).map (kindT f)).getD 0
  | 0, [], _ => rfl
  | 0, t :: _, _ => nomatch t
  | f + 1, _, _ => rfl
theorem kindAt_lift (f : Nat) (l : List (Tm f)) (i : Nat) : kindAt (f + 1) (l.map (lift f)) i = kindAt f l i := by
  rw [kindAt_get, kindAt_get, List.getElem?_map, Option.map_map, show (kindT (f + 1) ∘ lift f) = kindT f from funext fun u => kindT_lift f u]
theorem mayT_lift : ∀ (f : Nat) (t : Tm f) (d : Int), mayT (f + 1) (lift f t) d = mayT f t d
  | 0, t, _ => nomatch t
  | f + 1, (t : Nd (Tm f)), d => by
    show (decide (1 ≤ d) && ownOk (⟨t.kind, t.n, t.data, t.kids.map (lift f)⟩ : Nd (Tm (f + 1))) && ((t.kids.map (lift f)).all fun u => mayT (f + 1) u (d - 1)) && (decide (t.kind ≠ 5) || decide (kindAt (f + 1) (t.kids.map (lift f)) 1 = 2))) = _
    have h1 : ownOk (⟨t.kind, t.n, t.data, t.kids.map (lift f)⟩ : Nd (Tm (f + 1))) = ownOk t := by unfold ownOk; simp only [List.length_map]
    have h2 : ((t.kids.map (lift f)).all fun u => mayT (f + 1) u (d - 1)) = t.kids.all fun u => mayT f u (d - 1) := by
      rw [List.all_map]
      congr 1
      funext u
      exact mayT_lift f u (d - 1)
    rw [h1, h2, kindAt_lift]
    rfl

/-- A term that may be, however deep. -/
def okD (f : Nat) (t : Tm f) : Prop := ∃ d, mayT f t d = true
theorem okD_kid : ∀ (f : Nat) (t : Tm f), okD f t → ∀ u ∈ kidsT f t, okD f u
  | 0, t => nomatch t
  | f + 1, (t : Nd (Tm f)) => by
    rintro ⟨d, h⟩ u hu
    obtain ⟨v, hv, rfl⟩ := List.mem_map.1 (show u ∈ t.kids.map (lift f) from hu)
    have h' : (decide (1 ≤ d) && ownOk t && (t.kids.all fun u => mayT f u (d - 1)) && (decide (t.kind ≠ 5) || decide (kindAt f t.kids 1 = 2))) = true := h
    rw [Bool.and_eq_true, Bool.and_eq_true, List.all_eq_true] at h'
    exact ⟨d - 1, by rw [mayT_lift]; exact h'.1.2 v hv⟩
theorem okD_key : ∀ (f : Nat) (t k : Tm f), okD f t → kindT f t = 5 → (kidsT f t)[1]? = some k → kindT f k = 2
  | 0, t, _ => nomatch t
  | f + 1, (t : Nd (Tm f)), k => by
    rintro ⟨d, h⟩ h5 hk
    have h' : (decide (1 ≤ d) && ownOk t && (t.kids.all fun u => mayT f u (d - 1)) && (decide (t.kind ≠ 5) || decide (kindAt f t.kids 1 = 2))) = true := h
    rw [Bool.and_eq_true, Bool.or_eq_true, decide_eq_true_iff, decide_eq_true_iff] at h'
    have h2 : kindAt f t.kids 1 = 2 := h'.2.resolve_left fun hn => hn h5
    rw [show (kidsT (f + 1) (t : Nd (Tm f)))[1]? = (t.kids[1]?).map (lift f) from List.getElem?_map] at hk
    cases he : t.kids[1]? with
    | none => rw [he] at hk; cases hk
    | some v =>
      rw [he] at hk
      obtain rfl : lift f v = k := Option.some.inj hk
      rw [kindAt_get, he] at h2
      rw [kindT_lift]
      exact h2

/-- All that can ever be there. -/
def univT (f : Nat) (l : List (Tm f)) : List (Tm f) := l.flatMap (partsT f)
theorem partsT_self : ∀ (f : Nat) (t : Tm f), t ∈ partsT f t
  | 0, t => nomatch t
  | f + 1, (t : Nd (Tm f)) => List.mem_cons_self
theorem partsT_kid : ∀ (f : Nat) (t x : Tm f), x ∈ partsT f t → ∀ u ∈ kidsT f x, u ∈ partsT f t
  | 0, t, _ => nomatch t
  | f + 1, t, x => by
    intro hx u hu
    obtain ⟨tk, tn, td, tks⟩ := (t : Nd (Tm f))
    rcases List.mem_cons.1 (show x ∈ ((⟨tk, tn, td, tks⟩ : Nd (Tm f)) : Tm (f + 1)) :: (tks.flatMap fun u => (partsT f u).map (lift f)) from hx) with rfl | hx
    · obtain ⟨v, hv, rfl⟩ := List.mem_map.1 (show u ∈ tks.map (lift f) from hu)
      exact List.mem_cons_of_mem _ (List.mem_flatMap.2 ⟨v, hv, List.mem_map_of_mem (partsT_self f v)⟩)
    · obtain ⟨v, hv, hx⟩ := List.mem_flatMap.1 hx
      obtain ⟨y, hy, rfl⟩ := List.mem_map.1 hx
      rw [kidsT_lift] at hu
      obtain ⟨z, hz, rfl⟩ := List.mem_map.1 hu
      exact List.mem_cons_of_mem _ (List.mem_flatMap.2 ⟨v, hv, List.mem_map_of_mem (partsT_kid f v y hy z hz)⟩)
theorem univT_self (f : Nat) (l : List (Tm f)) : ∀ x ∈ l, x ∈ univT f l := fun x hx => List.mem_flatMap.2 ⟨x, hx, partsT_self f x⟩
theorem univT_kid (f : Nat) (l : List (Tm f)) : ∀ t ∈ univT f l, ∀ u ∈ kidsT f t, u ∈ univT f l := fun t ht u hu => by
  obtain ⟨v, hv, h⟩ := List.mem_flatMap.1 ht
  exact List.mem_flatMap.2 ⟨v, hv, partsT_kid f v t h u hu⟩

/-- The closure of a list of terms: as many rounds as it can take. -/
def cloT (f : Nat) (l : List (Tm f)) : List (Tm f) := cloD (vwT f) ((univT f l).length + 1) l
theorem cloT_shut (f : Nat) (l : List (Tm f)) : shutD (vwT f) (cloT f l) :=
  roundsD_shut (vwT f) (univT f l) (univT_kid f l) _ _ (nodup_putsD l List.nodup_nil) (fun x hx => ((mem_putsD l [] x).1 hx).elim (fun h => absurd h (by simp)) (univT_self f l x)) (by omega)
theorem cloT_in (f : Nat) (l : List (Tm f)) : ∀ x ∈ cloT f l, x ∈ univT f l := by
  refine cloD_ind (vwT f) (· ∈ univT f l) _ l (fun c t _ ht x hx => ?_) (univT_self f l)
  rcases givesD_case (vwT f) hx with ⟨_, h⟩ | ⟨_, h, _⟩
  · exact univT_kid f l t ht x h
  · exact univT_kid f l t ht x (List.mem_of_mem_take h)

def followT (f : Nat) (l : List (Tm f)) (t : Tm f) : Bool := madeD (vwT f) (cloT f l) t

/-- What follows from some follows from more. -/
theorem followT_more (f : Nat) (l more : List (Tm f)) (t : Tm f) (h : followT f l t = true) : followT f (l ++ more) t = true :=
  madeD_mono (vwT f) (cloD_mono (vwT f) (cloT_shut f (l ++ more)) fun x hx => List.mem_append_left _ hx) t h
/-- What follows from terms that follow, follows. -/
theorem followT_cut (f : Nat) (l more : List (Tm f)) (t : Tm f) (hl : ∀ x ∈ l, mayT f x 8 = true) (hm : ∀ x ∈ more, mayT f x 8 = true) (hf : ∀ x ∈ more, followT f l x = true) (h : followT f (l ++ more) t = true) : followT f l t = true :=
  madeD_trans (vwT f) (fun x hx => (cloD_cut (vwT f) (okD f) (okD_kid f) (okD_key f) (cloT_shut f l) (fun x hx => ⟨8, hl x hx⟩) (fun x hx => ⟨8, hm x hx⟩) hf x hx).2) _ t (Nat.lt_succ_self _) h
/-- Secrets stay. -/
theorem secretT (f : Nat) (l : List (Tm f)) (s : Tm f) (keys : List Nat) (hs : putK (kindT f s) = false) (hl : ∀ x ∈ l, mayT f x 8 = true) (hg : ∀ x ∈ l, guardD (vwT f) s keys x = true)
    (hk : ∀ x ∈ cloT f l, okD f x → kindT f x = 2 → numT f x ∉ keys) : followT f l s = false :=
  secret_stays (vwT f) (okD f) (okD_kid f) (okD_key f) (cloT_shut f l) (fun x hx => ⟨8, hl x hx⟩) s keys hs hg hk
end Go.Proofs.YthgaljgelngmaaaDoor
end

section
namespace Go.Proofs.YthgaljgelngmaaaDoor
set_option linter.unusedVariables false

/-- The list so far, at the head of a round. -/
def SofarD (f : Nat) (l out : List (Tm f)) : Prop :=
  out.Nodup ∧ (∀ x ∈ out, x ∈ univT f l) ∧ ∃ n, (univT f l).length < n + out.length ∧ roundsD (vwT f) n out = cloT f l

theorem SofarD.start (f : Nat) (l : List (Tm f)) : SofarD f l (putsD [] l) :=
  ⟨nodup_putsD l List.nodup_nil, fun x hx => ((mem_putsD l [] x).1 hx).elim (fun h => absurd h (by simp)) (univT_self f l x), (univT f l).length + 1, by omega, rfl⟩

section
variable {f : Nat} {l out : List (Tm f)}
theorem SofarD.len (h : SofarD f l out) : out.length ≤ (univT f l).length := nodup_le _ _ h.1 h.2.1
/-- A round that brought nothing: the closure is there. -/
theorem SofarD.done (h : SofarD f l out) (hl : (roundD (vwT f) out).length = out.length) : roundD (vwT f) out = cloT f l := by
  obtain ⟨n, hn, he⟩ := h.2.2
  have := h.len
  obtain ⟨k, rfl⟩ : ∃ k, n = k + 1 := ⟨n - 1, by omega⟩
  rw [← he, roundsD, if_pos hl]
theorem gives_in (c : List (Tm f)) (t : Tm f) (ht : t ∈ univT f l) : ∀ x ∈ givesD (vwT f) c t, x ∈ univT f l := by
  intro x hx
  rcases givesD_case (vwT f) hx with ⟨_, h⟩ | ⟨_, h, _⟩
  · exact univT_kid f l t ht x h
  · exact univT_kid f l t ht x (List.mem_of_mem_take h)
theorem step_in (g c : List (Tm f)) (hc : ∀ x ∈ c, x ∈ univT f l) (hg : ∀ x ∈ g, x ∈ univT f l) : ∀ x ∈ stepD (vwT f) c g, x ∈ univT f l :=
  stepD_ind (vwT f) (· ∈ univT f l) (fun c t _ ht => gives_in c t ht) g c hc hg
/-- A round that brought something: on with the next. -/
theorem SofarD.next (h : SofarD f l out) (hl : (roundD (vwT f) out).length ≠ out.length) : SofarD f l (roundD (vwT f) out) ∧ out.length < (roundD (vwT f) out).length := by
  obtain ⟨m, hm⟩ := stepD_pre (vwT f) out out
  have hlen : (roundD (vwT f) out).length = out.length + m.length := by unfold roundD; rw [hm, List.length_append]
  obtain ⟨n, hn, he⟩ := h.2.2
  have := h.len
  obtain ⟨k, rfl⟩ : ∃ k, n = k + 1 := ⟨n - 1, by omega⟩
  rw [roundsD_on (vwT f) hl] at he
  exact ⟨⟨nodup_stepD (vwT f) out h.1, step_in out out h.2.1 h.2.1, k, by omega, he⟩, by omega⟩

/-- Within a round, and within what one term gives: so few, that are there. -/
theorem SofarD.within (h : SofarD f l out) (i j : Nat) (t : Tm f) (ht : t ∈ univT f l) :
    (putsD (stepD (vwT f) out (out.take i)) ((givesD (vwT f) (stepD (vwT f) out (out.take i)) t).take j)).length ≤ (univT f l).length := by
  have h1 := step_in (l := l) (out.take i) out h.2.1 fun x hx => h.2.1 x (List.mem_of_mem_take hx)
  refine nodup_le _ _ (nodup_putsD _ (nodup_stepD (vwT f) _ h.1)) fun x hx => ?_
  exact ((mem_putsD _ _ _).1 hx).elim (h1 x) fun hx => gives_in _ t ht x (List.mem_of_mem_take hx)
theorem SofarD.within' (h : SofarD f l out) (i : Nat) : (stepD (vwT f) out (out.take i)).length ≤ (univT f l).length :=
  nodup_le _ _ (nodup_stepD (vwT f) _ h.1) (step_in (l := l) (out.take i) out h.2.1 fun x hx => h.2.1 x (List.mem_of_mem_take hx))
/-- The terms that were there ahead of the round stand where they stood. -/
theorem step_get (c g : List (Tm f)) (i : Nat) (hi : i < c.length) : (stepD (vwT f) c g)[i]? = c[i]? := by
  obtain ⟨m, hm⟩ := stepD_pre (vwT f) g c
  rw [hm, List.getElem?_append_left hi]
theorem step_whole (c : List (Tm f)) : stepD (vwT f) c (c.take c.length) = roundD (vwT f) c := by rw [List.take_length]; rfl
theorem step_none (c : List (Tm f)) : stepD (vwT f) c (c.take 0) = c := rfl
theorem start_len (i : Nat) : (putsD [] (l.take i)).length ≤ l.length :=
  nodup_le _ _ (nodup_putsD _ List.nodup_nil) fun x hx => ((mem_putsD _ _ _).1 hx).elim (fun h => absurd h (by simp)) List.mem_of_mem_take
end

/-- The cases of one step, by the term's own fields. -/
theorem gives_kinds (f : Nat) (c : List (Tm f)) (t : Tm f) :
    givesD (vwT f) c t = if kindT f t = 4 then kidsT f t else if kindT f t = 5 ∧ keyD (vwT f) c t = true then (kidsT f t).take 1 else [] := rfl
theorem keyD_of (f : Nat) (c : List (Tm f)) (t k : Tm f) (h : (kidsT f t)[1]? = some k) : keyD (vwT f) c t = decide (k ∈ c) := by
  unfold keyD
  rw [show (vwT f).kids t = kidsT f t from rfl, h]

/-- What follows, by the term's own fields. -/
theorem madeT_eq (f : Nat) (c : List (Tm f)) (t : Tm f) : madeD (vwT f) c t = (decide (t ∈ c) || putK (kindT f t) && (kidsT f t).all (madeD (vwT f) c)) := madeD_eq (vwT f) c t
theorem guardT_eq (f : Nat) (s : Tm f) (keys : List Nat) (t : Tm f) :
    guardD (vwT f) s keys t = (!decide (t = s) && (decide (kindT f t = 6) || ((kidsT f t).drop (fromD (vwT f) keys t)).all (guardD (vwT f) s keys))) := guardD_eq (vwT f) s keys t

/-- Whether one is there, as a loop asks. -/
theorem has_take (f : Nat) (l : List (Tm f)) (t : Tm f) (j : Nat) (h : ∀ i u, i < j → l[i]? = some u → sameT f u t = false) : t ∉ l.take j := by
  intro ht
  obtain ⟨i, hi, he⟩ := List.mem_iff_getElem.1 ht
  rw [List.length_take] at hi
  have hg : l[i]? = some t := by
    rw [List.getElem?_eq_getElem (by omega)]
    rw [List.getElem_take] at he
    rw [he]
  have := h i t (by omega) hg
  rw [(sameT_iff f t t).2 rfl] at this
  cases this
theorem has_yes (f : Nat) (l : List (Tm f)) (t u : Tm f) (j : Nat) (h : l[j]? = some u) (hs : sameT f u t = true) : decide (t ∈ l) = true := by
  obtain rfl := (sameT_iff f u t).1 hs
  exact decide_eq_true (List.mem_of_getElem? h)
theorem has_no (f : Nat) (l : List (Tm f)) (t : Tm f) (h : ∀ i u, i < l.length → l[i]? = some u → sameT f u t = false) : decide (t ∈ l) = false := by
  have := has_take f l t l.length h
  rw [List.take_length] at this
  exact decide_eq_false this
end Go.Proofs.YthgaljgelngmaaaDoor
end
