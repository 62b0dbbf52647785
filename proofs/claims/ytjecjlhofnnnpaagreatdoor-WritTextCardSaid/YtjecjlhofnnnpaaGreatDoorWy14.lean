/-
  WtL: What a factor is (layer 21), by the word at its front; a row of one scope. Plain mathematics, and what memory says of it. No program. No condition.
-/
import Derived.Test.YtjecjlhofnnnpaaGreatDoorWy12
import Derived.Test.YtjecjlhofnnnpaaGreatDoorWy13
set_option linter.unusedVariables false
set_option maxRecDepth 100000
namespace Go.Proofs.YtjecjlhofnnnpaaGreatDoor
section
open Go.RowKit
def closeQ {f : Nat} (p : Sc f × List Wv) : Option (Sc f × List Wv) := match p.2 with
  | [] => none
  | c :: rest => if c = wClose then some (p.1, rest) else none
theorem close_yes {f : Nat} {o : Option (Sc f × List Wv)} {s3 : Option (List Wv)} (h : takeW (o.map (·.2)) = (wClose, s3)) : (o.bind closeQ).map (·.2) = s3 ∧ ∀ p, o.bind closeQ = some p → ∃ q, o = some q ∧ p.1 = q.1 := by
  cases o with
  | none =>
    have : ([] : Wv) = wClose := congrArg Prod.fst h
    cases this
  | some q =>
    obtain ⟨x, ws⟩ := q
    cases ws with
    | nil =>
      have : ([] : Wv) = wClose := congrArg Prod.fst h
      cases this
    | cons c rest =>
      have h1 : c = wClose := congrArg Prod.fst h
      have h2 : some rest = s3 := congrArg Prod.snd h
      subst h1 h2
      exact ⟨rfl, fun p e => by injection e with e; exact ⟨_, rfl, by rw [← e]⟩⟩
theorem close_no {f : Nat} {o : Option (Sc f × List Wv)} {c : Wv} {s3 : Option (List Wv)} (h : takeW (o.map (·.2)) = (c, s3)) (hc : ¬ c = wClose) : o.bind closeQ = none := by
  cases o with
  | none => rfl
  | some q =>
    obtain ⟨x, ws⟩ := q
    cases ws with
    | nil => rfl
    | cons c' rest =>
      have h1 : c' = c := congrArg Prod.fst h
      subst h1
      exact if_neg hc
def nameQ (f : Nat) (op : Int) : List Wv → Option (Sc (f + 1) × List Wv)
  | [] => none
  | n :: rest => if op = 0 ∨ nameS n = false then none else some (leafS op n 0 0, rest)
theorem name_takes {f : Nat} {op : Int} {st1 st2 : Option (List Wv)} {n : Wv} (h : takeW st1 = (n, st2)) : (op = 0 ∨ nameS n = false → st1.bind (nameQ f op) = none) ∧ (¬ (op = 0 ∨ nameS n = false) → (st1.bind (nameQ f op)).map (·.2) = st2 ∧ ∀ p, st1.bind (nameQ f op) = some p → (leafS op n 0 0 : Sc (f + 1)) = p.1) := by
  rcases st1 with _ | _ | ⟨u, l⟩
  · have h2 : none = st2 := congrArg Prod.snd h
    subst h2
    exact ⟨fun _ => rfl, fun _ => ⟨rfl, fun p e => by cases e⟩⟩
  · have h2 : none = st2 := congrArg Prod.snd h
    subst h2
    exact ⟨fun _ => rfl, fun _ => ⟨rfl, fun p e => by cases e⟩⟩
  · have h1 : u = n := congrArg Prod.fst h
    have h2 : some l = st2 := congrArg Prod.snd h
    subst h1 h2
    exact ⟨fun q => if_pos q, fun q => by
      have e : (some (u :: l) : Option (List Wv)).bind (nameQ f op) = some (leafS op u 0 0, l) := if_neg q
      rw [e]
      exact ⟨rfl, fun p e => by injection e with e; rw [← e]⟩⟩
theorem fact_takes {d : Nat} {st st1 : Option (List Wv)} {u : Wv} (h : takeW st = (u, st1)) :
    (u = wNot → st.bind (factW (d + 1)) = (st1.bind (factW d)).map fun p => (notsS p.1, p.2)) ∧
    (u = wOpen → st.bind (factW (d + 1)) = (st1.bind (orV (factW d))).bind closeQ) ∧
    (u = wAll → st.bind (factW (d + 1)) = st1.map fun l => (leafS 1 [] 0 0, l)) ∧
    (u = wTime → st.bind (factW (d + 1)) = st1.bind (timeQ (2 * d + 2))) ∧
    (¬ u = wNot → ¬ u = wOpen → ¬ u = wAll → ¬ u = wTime → st.bind (factW (d + 1)) = st1.bind (nameQ (2 * d + 2) (namesOp u))) := by
  have hn : ([] : Wv) = u → st1 = none → st.bind (factW (d + 1)) = none → (u = wNot → st.bind (factW (d + 1)) = (st1.bind (factW d)).map fun p => (notsS p.1, p.2)) ∧
    (u = wOpen → st.bind (factW (d + 1)) = (st1.bind (orV (factW d))).bind closeQ) ∧
    (u = wAll → st.bind (factW (d + 1)) = st1.map fun l => (leafS 1 [] 0 0, l)) ∧
    (u = wTime → st.bind (factW (d + 1)) = st1.bind (timeQ (2 * d + 2))) ∧
    (¬ u = wNot → ¬ u = wOpen → ¬ u = wAll → ¬ u = wTime → st.bind (factW (d + 1)) = st1.bind (nameQ (2 * d + 2) (namesOp u))) := fun e1 e2 e3 => by
    subst e1 e2
    rw [e3]
    exact ⟨fun e => (by cases e), fun e => (by cases e), fun e => (by cases e), fun e => (by cases e), fun _ _ _ _ => rfl⟩
  rcases st with _ | _ | ⟨v, l⟩
  · exact hn (congrArg Prod.fst h) (congrArg Prod.snd h).symm rfl
  · exact hn (congrArg Prod.fst h) (congrArg Prod.snd h).symm (by show factW (d + 1) [] = none; rw [factW.eq_2])
  · have h1 : v = u := congrArg Prod.fst h
    have h2 : some l = st1 := congrArg Prod.snd h
    subst h1 h2
    have e : (some (v :: l) : Option (List Wv)).bind (factW (d + 1)) = factW (d + 1) (v :: l) := rfl
    rw [e, factW.eq_2]
    dsimp only
    refine ⟨fun hu => ?_, fun hu => ?_, fun hu => ?_, fun hu => ?_, fun a1 a2 a3 a4 => ?_⟩
    · rw [if_pos hu]; rfl
    · subst hu
      rw [if_neg (by decide), if_pos rfl]; rfl
    · subst hu
      rw [if_neg (by decide), if_neg (by decide), if_pos rfl]; rfl
    · subst hu
      rw [if_neg (by decide), if_neg (by decide), if_neg (by decide)]
      cases l with
      | nil => rfl
      | cons n rest =>
        dsimp only
        rw [if_pos rfl]; rfl
    · rw [if_neg a1, if_neg a2, if_neg a3]
      cases l with
      | nil => rfl
      | cons n rest =>
        dsimp only
        rw [if_neg a4]; rfl
theorem nots_ZX {w w5 : World} {B f : Nat} {x : Sc f} {e0 e1 e2 e3 e4 : Value} (hB : B < w5.heap.size) (tm : ZX w5 (fun b => B < b ∧ b < w5.heap.size) f x e0 e1 e2 e3 e4) (hw : w = w5.alloc (.cells #[e0, e1, e2, e3, e4] 24)) :
    ZX w (fun b => B < b ∧ b < w.heap.size) (f + 2) (notsS x) (.int .i64 8) (.string ⟨#[]⟩) (.int .i64 0) (.int .i64 0) (.slice (some ⟨w5.heap.size, 0, none⟩) 1 1) := by
  subst hw
  have K := KB.new w5 24 #[e0, e1, e2, e3, e4]
  have tm2 := ZX.keepS (S' := fun b => B < b ∧ b < (w5.alloc (.cells #[e0, e1, e2, e3, e4] 24)).heap.size) (tm.alloc (.cells #[e0, e1, e2, e3, e4] 24)) (Nat.le_refl _) (fun _ _ _ => rfl) fun b hb => ⟨hb.1, by simp; omega⟩
  refine ZX.lifted (f + 1) (⟨8, [], 0, 0, [x]⟩ : Ns (Sc f)) _ _ _ _ _ ⟨rfl, by show I64 8; unfold I64; omega, rfl, by simp [maxLen], rfl, by show I64 0; unfold I64; omega, rfl, by show I64 0; unfold I64; omega, ?_⟩
  refine ⟨some ⟨w5.heap.size, 0, none⟩, 1, rfl, Nat.le_refl _, by simp [maxLen], (fun h => by cases h), fun _ => ⟨w5.heap.size, 0, rfl, ⟨hB, by simp⟩, by simp, fun i t hi => ?_⟩⟩
  match i, hi with
  | 0, hi =>
    simp at hi
    subst hi
    exact ⟨e0, e1, e2, e3, e4, K.cell 0, K.cell 1, K.cell 2, K.cell 3, K.cell 4, tm2⟩
end
end Go.Proofs.YtjecjlhofnnnpaaGreatDoor
