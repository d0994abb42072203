/- m[k] = f(m[k]): an entry taken, and stored into. -/
import Derived.Test.YtdogecaonlmalaaGreatMapF
namespace Go.Proofs.YtdogecaonlmalaaGreat
open Go.RowKit Go.MapKept Go.ChangeMaps

/-- What a taken entry leaves: it is there, with the zero value if it was not. -/
def entE {K : Type} [DecidableEq K] (l : List (Ent K)) (a : K) (z : Value) (c : Nat) : List (Ent K) × Nat := if a ∈ l.map Ent.k then (l, c) else (l ++ [⟨a, z, c⟩], c + 1)

theorem modify_same {α : Type} (l : List α) (f : α → α) (j : Nat) (x : α) (h : l[j]? = some x) (hf : f x = x) : l.modify j f = l := by
  apply List.ext_getElem?
  intro i
  rw [List.getElem?_modify]
  by_cases e : j = i
  · subst e; simp [h, hf]
  · simp [e]

theorem Mp.entry {K : Type} [DecidableEq K] {E : K → Value} {kt et T : TypeId} (kd : Keyd E kt) (hT : Tryz.prog.underlying T = some (.map kt et)) {z : Value} {w : World} (hz : (zeroValue et).run Tryz.prog w = .ok z w) {r : Nat} {l : List (Ent K)} {c : Nat} (h : Mp E w r l c) (a : K) :
    ∃ w' l' c', ∃ x ∈ l', x.k = a ∧ (Instr.mapEntry T (.map (some r)) (E a)).run Tryz.prog w = .ok (.tuple #[(atE l a).getD z, .int .i64 (x.b : Int)]) w' ∧ Mp E w' r l' c' ∧ w.grownBy w' (some r) ∧ (∀ b, b ≠ a → atE l' b = atE l b) ∧ (∀ y ∈ l', y ∈ l ∨ y.k = a) ∧ (∀ y ∈ l, y ∈ l') ∧ l'.length ≤ l.length + 1 ∧ x.v = (atE l a).getD z := by
  have h1 := kd.chk false a w
  have h2 := kd.fnd l a w h.keys
  have h3 := Go.MapKept.run_getObj_map (P := Tryz.prog) h.heap
  have hlt := h.lt
  by_cases ha : a ∈ l.map Ent.k
  · obtain ⟨j, x, hj, hx, hi, _⟩ := idxE_some ha 0
    rw [hi, Nat.zero_add] at h2
    have hk0 : (((l.map (Ent.e E)).toArray[j]?).map (·.key)).getD (E a) = E a := by simp [hj, Ent.e, hx]
    have hb0 : (((l.map (Ent.e E)).toArray[j]?).map (fun e => (e.born : Int))).getD 0 = (x.b : Int) := by simp [hj, Ent.e]
    have h5 := kd.stays a w
    have em : (l.map (Ent.e E)).toArray.modify j (fun e => { e with key := E a }) = (l.map (Ent.e E)).toArray := by
      apply Array.ext'
      rw [Array.toList_modify, List.toList_toArray]
      exact modify_same _ _ j (x.e E) (by simp [hj]) (by simp [Ent.e, hx])
    have h4 := Go.MapKept.run_setObj_map (P := Tryz.prog) (.map (l.map (Ent.e E)).toArray c) h.heap
    have hat : atE l a = some x.v := by unfold atE; rw [hi]; rfl
    refine ⟨{ w with heap := w.heap.setIfInBounds r (.map (l.map (Ent.e E)).toArray c) }, l, c, x, List.mem_of_getElem? hj, hx, ?_, ⟨by simp [hlt], h.born, h.ones, h.keys⟩, grown_setBlock w r _, fun b _ => rfl, fun y hy => Or.inl hy, fun y hy => hy, by omega, by rw [hat]; rfl⟩
    simp only [Instr.mapEntry, Sem.run_bind, run_underlying hT, h1, h2, h3, Result.andThen_ok, hk0, h5, em, h4, hb0, Sem.run_pure, hat, Option.getD_some]
    rfl
  · have hat : atE l a = none := atE_none ha
    rw [idxE_none ha] at h2
    have h4 := Go.MapKept.run_setObj_map (P := Tryz.prog) (.map ((l.map (Ent.e E)).toArray.push ⟨E a, z, c⟩) (c + 1)) h.heap
    refine ⟨{ w with heap := w.heap.setIfInBounds r (.map ((l.map (Ent.e E)).toArray.push ⟨E a, z, c⟩) (c + 1)) }, l ++ [⟨a, z, c⟩], c + 1, ⟨a, z, c⟩, by simp, rfl, ?_, ⟨?_, ?_, ?_, ?_⟩, grown_setBlock w r _, fun b hb => by rw [atE_snoc l a z c ha, if_neg hb], fun y hy => ?_, fun y hy => List.mem_append_left _ hy, by simp, by rw [hat]; rfl⟩
    · simp only [Instr.mapEntry, Sem.run_bind, run_underlying hT, h1, h2, h3, Result.andThen_ok, hz, h4, Sem.run_pure, hat, Option.getD_none]
      rfl
    · simp [hlt, Ent.e]
    · intro x hx
      rcases List.mem_append.1 hx with hx | hx
      · have := h.born x hx; omega
      · simp at hx; subst hx; simp
    · rw [List.map_append]
      refine Nodup_snoc h.ones (fun hm => ?_)
      obtain ⟨x, hx, e⟩ := List.mem_map.1 hm
      have := h.born x hx
      have e' : x.b = c := e
      omega
    · rw [List.map_append]; exact Nodup_snoc h.keys ha
    · rcases List.mem_append.1 hy with hy | hy
      · exact Or.inl hy
      · simp at hy; subst hy; exact Or.inr rfl

theorem findIdx_born {K : Type} (E : K → Value) (l : List (Ent K)) (hn : (l.map Ent.b).Nodup) (x : Ent K) (hx : x ∈ l) : ∃ j, l[j]? = some x ∧ (l.map (Ent.e E)).findIdx? (fun e => (e.born : Int) == (x.b : Int)) = some j := by
  induction l with
  | nil => simp at hx
  | cons y l ih =>
    rw [List.map_cons, List.nodup_cons] at hn
    rcases List.mem_cons.1 hx with rfl | hx'
    · exact ⟨0, rfl, by simp [List.findIdx?_cons, Ent.e]⟩
    · obtain ⟨j, h1, h2⟩ := ih hn.2 hx'
      have hne : y.b ≠ x.b := fun e => hn.1 (by rw [e]; exact List.mem_map.2 ⟨x, hx', rfl⟩)
      refine ⟨j + 1, by simpa using h1, ?_⟩
      rw [List.map_cons, List.findIdx?_cons, if_neg (by simp [Ent.e]; omega), h2]
      rfl

theorem Mp.store {K : Type} [DecidableEq K] {E : K → Value} (T : TypeId) {w : World} {r : Nat} {l : List (Ent K)} {c : Nat} (h : Mp E w r l c) (x : Ent K) (hx : x ∈ l) (v : Value) :
    ∃ w', (Instr.entryStore T (.map (some r)) (.int .i64 (x.b : Int)) v).run Tryz.prog w = .ok () w' ∧ Mp E w' r (setE l x.k v) c ∧ w.grownBy w' (some r) := by
  have h3 := Go.MapKept.run_getObj_map (P := Tryz.prog) h.heap
  have hlt := h.lt
  obtain ⟨j, hj, hf⟩ := findIdx_born E l h.ones x hx
  have em : (l.map (Ent.e E)).toArray.modify j (fun e => { e with val := v }) = ((setE l x.k v).map (Ent.e E)).toArray := by
    rw [← modify_setE (E := E) v h.keys j x hj rfl]
    apply Array.ext'
    rw [Array.toList_modify, List.toList_toArray]
    apply List.ext_getElem?
    intro i
    rw [List.getElem?_modify, List.getElem?_modify]
    by_cases hij : j = i
    · subst hij; simp [hj, Ent.e]
    · simp [hij]
  have h4 := Go.MapKept.run_setObj_map (P := Tryz.prog) (.map ((setE l x.k v).map (Ent.e E)).toArray c) h.heap
  refine ⟨{ w with heap := w.heap.setIfInBounds r (.map ((setE l x.k v).map (Ent.e E)).toArray c) }, ?_, ⟨by simp [hlt], fun y hy => ?_, by rw [setE_ones]; exact h.ones, by rw [setE_keys]; exact h.keys⟩, grown_setBlock w r _⟩
  · simp only [Instr.entryStore, Sem.run_bind, h3, Result.andThen_ok, asInt, asIntOf]
    simp only [List.findIdx?_toArray, hf, em, h4, Sem.run_pure, Result.andThen_ok]
  · unfold setE at hy
    obtain ⟨q, hq, rfl⟩ := List.mem_map.1 hy
    have := h.born q hq
    split <;> exact this
end Go.Proofs.YtdogecaonlmalaaGreat
