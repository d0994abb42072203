/- Maps as functions from keys to what lies there. -/
import Derived.Test.YtdogecaonlmalaaGreatMapG
namespace Go.Proofs.YtdogecaonlmalaaGreat
open Go.RowKit Go.MapKept Go.ChangeMaps

theorem idxE_snd {K : Type} [DecidableEq K] (a : K) (l : List (Ent K)) (i j : Nat) : (idxE a l i).map (·.2) = (idxE a l j).map (·.2) := by
  induction l generalizing i j with
  | nil => rfl
  | cons x l ih =>
    rw [idxE, idxE]
    by_cases e : x.k = a
    · rw [if_pos e, if_pos e]; rfl
    · rw [if_neg e, if_neg e]; exact ih _ _
theorem atE_nil {K : Type} [DecidableEq K] (a : K) : atE ([] : List (Ent K)) a = none := rfl
theorem atE_cons {K : Type} [DecidableEq K] (x : Ent K) (l : List (Ent K)) (a : K) : atE (x :: l) a = if x.k = a then some x.v else atE l a := by
  unfold atE
  rw [idxE]
  by_cases e : x.k = a
  · rw [if_pos e, if_pos e]; rfl
  · rw [if_neg e, if_neg e]; exact idxE_snd a l _ _
theorem atE_snoc {K : Type} [DecidableEq K] (l : List (Ent K)) (a : K) (v : Value) (c : Nat) (ha : a ∉ l.map Ent.k) (b : K) : atE (l ++ [⟨a, v, c⟩]) b = if b = a then some v else atE l b := by
  induction l with
  | nil =>
    rw [List.nil_append, atE_cons]
    by_cases e : b = a
    · subst e; simp
    · rw [if_neg (fun h => e h.symm), if_neg e]
  | cons x l ih =>
    rw [List.map_cons, List.mem_cons, not_or] at ha
    rw [List.cons_append, atE_cons, ih ha.2, atE_cons]
    by_cases e : x.k = b
    · rw [if_pos e, if_pos e, if_neg (fun h => ha.1 (by rw [← h, e]))]
    · rw [if_neg e, if_neg e]
theorem atE_setE {K : Type} [DecidableEq K] (l : List (Ent K)) (a : K) (v : Value) (ha : a ∈ l.map Ent.k) (b : K) : atE (setE l a v) b = if b = a then some v else atE l b := by
  induction l with
  | nil => simp at ha
  | cons x l ih =>
    rw [setE_cons, atE_cons, atE_cons]
    by_cases e : x.k = a
    · rw [if_pos e]
      by_cases eb : b = a
      · subst eb; rw [if_pos rfl, if_pos (show (⟨x.k, v, x.b⟩ : Ent K).k = b from e)]
      · have h1 : ¬ (⟨x.k, v, x.b⟩ : Ent K).k = b := fun h => eb (h.symm.trans e)
        have h2 : ¬ x.k = b := fun h => eb (h.symm.trans e)
        rw [if_neg h1, if_neg eb, if_neg h2]
        by_cases hm : a ∈ l.map Ent.k
        · rw [ih hm, if_neg eb]
        · rw [setE_not v hm]
    · rw [if_neg e]
      have hm : a ∈ l.map Ent.k := by
        rw [List.map_cons, List.mem_cons] at ha
        exact ha.resolve_left (fun h => e h.symm)
      rw [ih hm]
      by_cases eb : x.k = b
      · rw [if_pos eb, if_pos eb, if_neg (fun h => e (eb.trans h))]
      · rw [if_neg eb, if_neg eb]
theorem atE_delE {K : Type} [DecidableEq K] (l : List (Ent K)) (a b : K) : atE (delE l a) b = if b = a then none else atE l b := by
  induction l with
  | nil => simp [delE, atE_nil]
  | cons x l ih =>
    unfold delE at ih ⊢
    rw [List.filter_cons]
    by_cases e : x.k = a
    · rw [if_neg (by simp [e]), ih, atE_cons]
      by_cases eb : b = a
      · rw [if_pos eb, if_pos eb]
      · rw [if_neg eb, if_neg eb, if_neg (fun h => eb (h.symm.trans e))]
    · rw [if_pos (by simp [e]), atE_cons, ih, atE_cons]
      by_cases eb : x.k = b
      · rw [if_pos eb, if_pos eb, if_neg (fun h => e (eb.trans h))]
      · rw [if_neg eb, if_neg eb]
theorem atE_key {K : Type} [DecidableEq K] (l : List (Ent K)) (a : K) : a ∈ l.map Ent.k ↔ atE l a ≠ none := by
  refine ⟨fun h => ?_, fun h => ?_⟩
  · obtain ⟨x, _, _, e⟩ := atE_some h
    rw [e]; simp
  · by_cases hm : a ∈ l.map Ent.k
    · exact hm
    · exact absurd (atE_none hm) h

/-- An update, whatever was there. -/
theorem Mp.upd2 {K : Type} [DecidableEq K] {E : K → Value} {kt et T : TypeId} (kd : Keyd E kt) (hT : Tryz.prog.underlying T = some (.map kt et)) {w : World} {r : Nat} {l : List (Ent K)} {c : Nat} (h : Mp E w r l c) (a : K) (v : Value) :
    ∃ w' l' c', (Instr.mapUpdate T (.map (some r)) (E a) v).run Tryz.prog w = .ok () w' ∧ Mp E w' r l' c' ∧ w.grownBy w' (some r) ∧ (∀ b, atE l' b = if b = a then some v else atE l b) ∧ l'.length ≤ l.length + 1 := by
  by_cases ha : a ∈ l.map Ent.k
  · obtain ⟨w', h1, h2, h3⟩ := h.set kd hT a v ha
    exact ⟨w', _, _, h1, h2, h3, atE_setE l a v ha, by simp [setE]⟩
  · obtain ⟨w', h1, h2, h3⟩ := h.put kd hT a v ha
    exact ⟨w', _, _, h1, h2, h3, atE_snoc l a v c ha, by simp⟩
end Go.Proofs.YtdogecaonlmalaaGreat
