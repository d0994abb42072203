/- Maps of whatever many entries, as lists of entries; keys of whatever kind that can be told apart. -/
import Derived.Test.YtdogecaonlmalaaGreatMap1
import Derived.Maps.RangeRun
namespace Go.Proofs.YtdogecaonlmalaaGreat
open Go.RowKit Go.MapKept Go.ChangeMaps

/-- An entry of a map: its key, what lies there, when it was born. -/
structure Ent (K : Type) where
  k : K
  v : Value
  b : Nat

def Ent.e {K : Type} (E : K → Value) (x : Ent K) : MapEntry := ⟨E x.k, x.v, x.b⟩

/-- Where a key lies, and what. -/
def idxE {K : Type} [DecidableEq K] (a : K) : List (Ent K) → Nat → Option (Nat × Value)
  | [], _ => none
  | x :: l, i => if x.k = a then some (i, x.v) else idxE a l (i + 1)

/-- What lies at a key. -/
def atE {K : Type} [DecidableEq K] (l : List (Ent K)) (a : K) : Option Value := (idxE a l 0).map (·.2)

/-- Keys that the model tells apart as they are. -/
structure Keyd {K : Type} [DecidableEq K] (E : K → Value) (kt : TypeId) : Prop where
  inj : ∀ a b, E a = E b → a = b
  chk : ∀ (e : Bool) (a : K) (w : World), (Instr.checkKey e 10000 kt (E a)).run Tryz.prog w = .ok () w
  fnd : ∀ (l : List (Ent K)) (a : K) (w : World), (l.map Ent.k).Nodup → (Instr.findKey kt (E a) (l.map (Ent.e E))).run Tryz.prog w = .ok (idxE a l 0) w
  stays : ∀ (a : K) (w : World), (Instr.keyThatStays (E a) (E a)).run Tryz.prog w = .ok (E a) w

/-- A map that lies at r. -/
structure Mp {K : Type} (E : K → Value) (w : World) (r : Nat) (l : List (Ent K)) (c : Nat) : Prop where
  heap : w.heap[r]? = some (.map (l.map (Ent.e E)).toArray c)
  born : ∀ x ∈ l, x.b < c
  ones : (l.map Ent.b).Nodup
  keys : (l.map Ent.k).Nodup

theorem Mp.lt {K : Type} {E : K → Value} {w : World} {r : Nat} {l : List (Ent K)} {c : Nat} (h : Mp E w r l c) : r < w.heap.size := lt_of_heap h.heap
theorem Mp.later {K : Type} {E : K → Value} {w w' : World} {r B : Nat} {l : List (Ent K)} {c : Nat} (h : Mp E w r l c) (hb : Below B w w') (hB : w.heap.size ≤ B) : Mp E w' r l c :=
  ⟨(hb.block _ (Nat.lt_of_lt_of_le h.lt hB)).trans h.heap, h.born, h.ones, h.keys⟩
theorem Mp.kept {K : Type} {E : K → Value} {w w' : World} {r : Nat} {l : List (Ent K)} {c : Nat} {row : Option Nat} (h : Mp E w r l c) (hg : w.grownBy w' row) (hne : row ≠ some r) : Mp E w' r l c :=
  ⟨(hg.block _ h.lt (fun e => hne e.symm)).trans h.heap, h.born, h.ones, h.keys⟩
theorem Mp.at {K : Type} {E : K → Value} {w w' : World} {r : Nat} {l : List (Ent K)} {c : Nat} (h : Mp E w r l c) (hh : w'.heap[r]? = w.heap[r]?) : Mp E w' r l c := ⟨hh.trans h.heap, h.born, h.ones, h.keys⟩

theorem Mp.new {K : Type} {E : K → Value} (w : World) : Mp E (w.alloc (.map #[] 0)) w.heap.size ([] : List (Ent K)) 0 := ⟨heap_alloc_new w _, by simp, by simp, by simp⟩

theorem idxE_none {K : Type} [DecidableEq K] {l : List (Ent K)} {a : K} (h : a ∉ l.map Ent.k) (i : Nat) : idxE a l i = none := by
  induction l generalizing i with
  | nil => rfl
  | cons x l ih =>
    rw [List.map_cons, List.mem_cons, not_or] at h
    rw [idxE, if_neg (fun e => h.1 e.symm), ih h.2]
theorem idxE_some {K : Type} [DecidableEq K] {l : List (Ent K)} {a : K} (h : a ∈ l.map Ent.k) (i : Nat) : ∃ j x, l[j]? = some x ∧ x.k = a ∧ idxE a l i = some (i + j, x.v) ∧ (∀ y ∈ l.take j, y.k ≠ a) := by
  induction l generalizing i with
  | nil => simp at h
  | cons x l ih =>
    by_cases e : x.k = a
    · exact ⟨0, x, rfl, e, by rw [idxE, if_pos e]; rfl, by simp⟩
    · rw [List.map_cons, List.mem_cons] at h
      rcases h with h | h
      · exact absurd h.symm e
      · obtain ⟨j, y, h1, h2, h3, h4⟩ := ih h (i + 1)
        refine ⟨j + 1, y, by simpa using h1, h2, by rw [idxE, if_neg e, h3]; congr 2; omega, ?_⟩
        intro z hz
        rw [List.take_succ_cons, List.mem_cons] at hz
        rcases hz with rfl | hz
        · exact e
        · exact h4 z hz

theorem atE_none {K : Type} [DecidableEq K] {l : List (Ent K)} {a : K} (h : a ∉ l.map Ent.k) : atE l a = none := by rw [atE, idxE_none h]; rfl
theorem atE_mem {K : Type} [DecidableEq K] {l : List (Ent K)} {a : K} {v : Value} (h : atE l a = some v) : ∃ x ∈ l, x.k = a ∧ x.v = v := by
  unfold atE at h
  by_cases hm : a ∈ l.map Ent.k
  · obtain ⟨j, x, h1, h2, h3, _⟩ := idxE_some hm 0
    rw [h3] at h
    exact ⟨x, List.mem_of_getElem? h1, h2, by simpa using h⟩
  · rw [idxE_none hm] at h; simp at h
theorem atE_some {K : Type} [DecidableEq K] {l : List (Ent K)} {a : K} (h : a ∈ l.map Ent.k) : ∃ x ∈ l, x.k = a ∧ atE l a = some x.v := by
  obtain ⟨j, x, h1, h2, h3, _⟩ := idxE_some h 0
  exact ⟨x, List.mem_of_getElem? h1, h2, by rw [atE, h3]; rfl⟩

/-- A look: what lies there, or the zero value. -/
theorem Mp.look {K : Type} [DecidableEq K] {E : K → Value} {kt et T : TypeId} (kd : Keyd E kt) (hT : Tryz.prog.underlying T = some (.map kt et)) {z : Value} {w : World} (hz : (zeroValue et).run Tryz.prog w = .ok z w) {r : Nat} {l : List (Ent K)} {c : Nat} (h : Mp E w r l c) (a : K) (ok : Bool) :
    (Instr.lookup T (.map (some r)) (E a) ok).run Tryz.prog w = .ok (if ok then .tuple #[(atE l a).getD z, .bool (atE l a).isSome] else (atE l a).getD z) w := by
  have h1 := fun e => kd.chk e a w
  have h2 := kd.fnd l a w h.keys
  have h3 := Go.MapKept.run_getObj_map (P := Tryz.prog) h.heap
  unfold atE
  cases hi : idxE a l 0 with
  | none =>
    rw [hi] at h2
    cases ok <;> simp [Instr.lookup, run_underlying hT, h1, h2, h3, hz]
  | some p =>
    rw [hi] at h2
    cases ok <;> simp [Instr.lookup, run_underlying hT, h1, h2, h3]

theorem look_nilE {K : Type} [DecidableEq K] {E : K → Value} {kt et T : TypeId} (kd : Keyd E kt) (hT : Tryz.prog.underlying T = some (.map kt et)) {z : Value} {w : World} (hz : (zeroValue et).run Tryz.prog w = .ok z w) (a : K) (ok : Bool) :
    (Instr.lookup T (.map none) (E a) ok).run Tryz.prog w = .ok (if ok then .tuple #[z, .bool false] else z) w := by
  have h1 := fun e => kd.chk e a w
  have h2 := kd.fnd [] a w (by simp)
  rw [idxE] at h2
  simp only [List.map_nil] at h2
  cases ok <;> simp [Instr.lookup, run_underlying hT, h1, h2, hz]

theorem Nodup_snoc {α : Type} {l : List α} {a : α} (h : l.Nodup) (ha : a ∉ l) : (l ++ [a]).Nodup := by
  rw [List.nodup_append]
  exact ⟨h, by simp, by intro x hx y hy e; simp at hy; subst hy; subst e; exact ha hx⟩

/-- An update at a key that is not there. -/
theorem Mp.put {K : Type} [DecidableEq K] {E : K → Value} {kt et T : TypeId} (kd : Keyd E kt) (hT : Tryz.prog.underlying T = some (.map kt et)) {w : World} {r : Nat} {l : List (Ent K)} {c : Nat} (h : Mp E w r l c) (a : K) (v : Value) (ha : a ∉ l.map Ent.k) :
    ∃ w', (Instr.mapUpdate T (.map (some r)) (E a) v).run Tryz.prog w = .ok () w' ∧ Mp E w' r (l ++ [⟨a, v, c⟩]) (c + 1) ∧ w.grownBy w' (some r) := by
  have h1 := kd.chk false a w
  have h2 := kd.fnd l a w h.keys
  rw [idxE_none ha] at h2
  have h3 := Go.MapKept.run_getObj_map (P := Tryz.prog) h.heap
  have h4 := Go.MapKept.run_setObj_map (P := Tryz.prog) (.map ((l.map (Ent.e E)).toArray.push ⟨E a, v, c⟩) (c + 1)) h.heap
  have hlt := h.lt
  refine ⟨_, by simp only [Instr.mapUpdate, Sem.run_bind, run_underlying hT, h1, h2, h3, Result.andThen_ok]; exact h4, ⟨?_, ?_, ?_, ?_⟩, grown_setBlock w r _⟩
  · simp [hlt, Ent.e]
  · intro x hx
    rcases List.mem_append.1 hx with hx | hx
    · have := h.born x hx; omega
    · simp at hx; subst hx; simp
  · rw [List.map_append]
    refine Nodup_snoc h.ones (fun hm => ?_)
    obtain ⟨x, hx, e⟩ := List.mem_map.1 hm
    have := h.born x hx
    have e' : x.b = c := e
    omega
  · rw [List.map_append]; exact Nodup_snoc h.keys ha

/-- What an update at a key that is there makes of the entries. -/
def setE {K : Type} [DecidableEq K] (l : List (Ent K)) (a : K) (v : Value) : List (Ent K) := l.map fun x => if x.k = a then ⟨x.k, v, x.b⟩ else x
theorem setE_cons {K : Type} [DecidableEq K] (x : Ent K) (l : List (Ent K)) (a : K) (v : Value) : setE (x :: l) a v = (if x.k = a then ⟨x.k, v, x.b⟩ else x) :: setE l a v := rfl
theorem setE_keys {K : Type} [DecidableEq K] (l : List (Ent K)) (a : K) (v : Value) : (setE l a v).map Ent.k = l.map Ent.k := by
  rw [setE, List.map_map]; congr 1; funext x; simp only [Function.comp]; split <;> rfl
theorem setE_ones {K : Type} [DecidableEq K] (l : List (Ent K)) (a : K) (v : Value) : (setE l a v).map Ent.b = l.map Ent.b := by
  rw [setE, List.map_map]; congr 1; funext x; simp only [Function.comp]; split <;> rfl

theorem setE_not {K : Type} [DecidableEq K] {l : List (Ent K)} {a : K} (v : Value) (h : a ∉ l.map Ent.k) : setE l a v = l := by
  unfold setE
  conv => rhs; rw [← List.map_id l]
  refine List.map_congr_left fun x hx => ?_
  rw [if_neg (fun e => h (by rw [← e]; exact List.mem_map.2 ⟨x, hx, rfl⟩))]; rfl

theorem modify_setE {K : Type} [DecidableEq K] {E : K → Value} {l : List (Ent K)} {a : K} (v : Value) (hk : (l.map Ent.k).Nodup) (j : Nat) (x : Ent K) (hj : l[j]? = some x) (hx : x.k = a) : (l.map (Ent.e E)).modify j (fun _ => ⟨E a, v, x.b⟩) = (setE l a v).map (Ent.e E) := by
  induction l generalizing j with
  | nil => simp at hj
  | cons y l ih =>
    rw [List.map_cons, List.nodup_cons] at hk
    cases j with
    | zero =>
      simp at hj; subst hj
      have hn : a ∉ l.map Ent.k := by rw [← hx]; exact hk.1
      rw [setE_cons, if_pos hx, setE_not v hn]
      simp [Ent.e, hx]
    | succ j =>
      have hne : ¬ y.k = a := fun e => hk.1 (by rw [e, ← hx]; exact List.mem_map.2 ⟨x, List.mem_of_getElem? (by simpa using hj), rfl⟩)
      rw [setE_cons, if_neg hne, List.map_cons, List.map_cons, List.modify_succ_cons, ih hk.2 j (by simpa using hj)]

/-- An update at a key that is there. -/
theorem Mp.set {K : Type} [DecidableEq K] {E : K → Value} {kt et T : TypeId} (kd : Keyd E kt) (hT : Tryz.prog.underlying T = some (.map kt et)) {w : World} {r : Nat} {l : List (Ent K)} {c : Nat} (h : Mp E w r l c) (a : K) (v : Value) (ha : a ∈ l.map Ent.k) :
    ∃ w', (Instr.mapUpdate T (.map (some r)) (E a) v).run Tryz.prog w = .ok () w' ∧ Mp E w' r (setE l a v) c ∧ w.grownBy w' (some r) := by
  have h1 := kd.chk false a w
  have h2 := kd.fnd l a w h.keys
  obtain ⟨j, x, hj, hx, hi, _⟩ := idxE_some ha 0
  rw [hi, Nat.zero_add] at h2
  have h3 := Go.MapKept.run_getObj_map (P := Tryz.prog) h.heap
  have hk0 : (((l.map (Ent.e E)).toArray[j]?).map (·.key)).getD (E a) = E a := by simp [hj, Ent.e, hx]
  have h5 := kd.stays a w
  have em : (l.map (Ent.e E)).toArray.modify j (fun e => { e with key := E a, val := v }) = ((setE l a v).map (Ent.e E)).toArray := by
    rw [← modify_setE (E := E) v h.keys j x hj hx]
    apply Array.ext'
    rw [Array.toList_modify, List.toList_toArray]
    obtain ⟨hlt, hget⟩ := List.getElem?_eq_some_iff.1 hj
    apply List.ext_getElem?
    intro i
    rw [List.getElem?_modify, List.getElem?_modify]
    by_cases hij : j = i
    · subst hij; simp [hj, Ent.e]
    · simp [hij]
  have h4 := Go.MapKept.run_setObj_map (P := Tryz.prog) (.map ((setE l a v).map (Ent.e E)).toArray c) h.heap
  have hlt := h.lt
  refine ⟨_, by simp only [Instr.mapUpdate, Sem.run_bind, run_underlying hT, h1, h2, h3, Result.andThen_ok, hk0, h5, em]; exact h4, ⟨?_, ?_, ?_, ?_⟩, grown_setBlock w r _⟩
  · simp [hlt]
  · intro y hy
    unfold setE at hy
    obtain ⟨z, hz, rfl⟩ := List.mem_map.1 hy
    have := h.born z hz
    split <;> exact this
  · rw [setE_ones]; exact h.ones
  · rw [setE_keys]; exact h.keys

/-- What a deletion leaves. -/
def delE {K : Type} [DecidableEq K] (l : List (Ent K)) (a : K) : List (Ent K) := l.filter fun x => decide (x.k ≠ a)

theorem delE_not {K : Type} [DecidableEq K] {l : List (Ent K)} {a : K} (h : a ∉ l.map Ent.k) : delE l a = l := by
  rw [delE, List.filter_eq_self]
  intro x hx
  simp only [decide_eq_true_eq]
  intro e
  exact h (by rw [← e]; exact List.mem_map.2 ⟨x, hx, rfl⟩)
theorem erase_delE {K : Type} [DecidableEq K] {l : List (Ent K)} {a : K} (hk : (l.map Ent.k).Nodup) (j : Nat) (x : Ent K) (hj : l[j]? = some x) (hx : x.k = a) : l.eraseIdx j = delE l a := by
  induction l generalizing j with
  | nil => simp at hj
  | cons y l ih =>
    rw [List.map_cons, List.nodup_cons] at hk
    cases j with
    | zero =>
      simp at hj; subst hj
      have hn : a ∉ l.map Ent.k := by rw [← hx]; exact hk.1
      have := delE_not hn
      unfold delE at this ⊢
      rw [List.eraseIdx_zero, List.tail_cons, List.filter_cons, if_neg (by simp [hx]), this]
    | succ j =>
      have hne : ¬ y.k = a := fun e => hk.1 (by rw [e, ← hx]; exact List.mem_map.2 ⟨x, List.mem_of_getElem? (by simpa using hj), rfl⟩)
      have := ih hk.2 j (by simpa using hj)
      unfold delE at this ⊢
      rw [List.eraseIdx_cons_succ, List.filter_cons, if_pos (by simp [hne]), this]

theorem Mp.del {K : Type} [DecidableEq K] {E : K → Value} {kt et T : TypeId} (kd : Keyd E kt) (hT : Tryz.prog.underlying T = some (.map kt et)) (ty : TypeId) {w : World} {r : Nat} {l : List (Ent K)} {c : Nat} (h : Mp E w r l c) (a : K) :
    ∃ w', (Builtin.delete_ #[T, kt] ty #[.map (some r), E a]).run Tryz.prog w = .ok (.tuple #[]) w' ∧ Mp E w' r (delE l a) c ∧ w.grownBy w' (some r) := by
  have h1 := fun e => kd.chk e a w
  have h2 := kd.fnd l a w h.keys
  have h3 := Go.MapKept.run_getObj_map (P := Tryz.prog) h.heap
  have h4 := Go.MapKept.run_setObj_map (P := Tryz.prog) (.map ((delE l a).map (Ent.e E)).toArray c) h.heap
  have hlt := h.lt
  have good : Mp E { w with heap := w.heap.setIfInBounds r (.map ((delE l a).map (Ent.e E)).toArray c) } r (delE l a) c := by
    refine ⟨by simp [hlt], fun x hx => h.born x (List.mem_filter.1 hx).1, ?_, ?_⟩
    · exact h.ones.sublist (List.Sublist.map _ List.filter_sublist)
    · exact h.keys.sublist (List.Sublist.map _ List.filter_sublist)
  refine ⟨_, ?_, good, grown_setBlock w r _⟩
  by_cases ha : a ∈ l.map Ent.k
  · obtain ⟨j, x, hj, hx, hi, _⟩ := idxE_some ha 0
    rw [hi, Nat.zero_add] at h2
    have e1 : (l.map (Ent.e E)).toArray.eraseIdxIfInBounds j = ((delE l a).map (Ent.e E)).toArray := by
      rw [← erase_delE h.keys j x hj hx]
      obtain ⟨hjl, _⟩ := List.getElem?_eq_some_iff.1 hj
      apply Array.ext'
      rw [List.toList_toArray, map_eraseIdx]
      simp [Array.eraseIdxIfInBounds, hjl]
    simp only [Builtin.delete_, Sem.run_bind, Sem.run_pure, run_underlying hT, h1, h2, h3, Result.andThen_ok, e1, h4, List.getElem?_toArray, List.getElem?_cons_zero, List.getElem?_cons_succ]
  · rw [idxE_none ha] at h2
    rw [delE_not ha] at h4
    simp only [Builtin.delete_, Sem.run_bind, Sem.run_pure, run_underlying hT, h1, h2, h3, Result.andThen_ok, h4, List.getElem?_toArray, List.getElem?_cons_zero, List.getElem?_cons_succ]
    rw [delE_not ha]

/-- An iterator over a map at r: what is still to come. -/
def Itr {K : Type} (E : K → Value) (w : World) (g r : Nat) (l todo : List (Ent K)) (c : Nat) : Prop :=
  Mp E w r l c ∧ ∃ seen c0, w.heap[g]? = some (.mapIter (some r) c seen c0) ∧ c ≤ c0 ∧ todo = l.filter (fun x => !seen.contains x.b)

theorem Itr.start {K : Type} {E : K → Value} {kt et T : TypeId} (hT : Tryz.prog.underlying T = some (.map kt et)) {w : World} {r : Nat} {l : List (Ent K)} {c : Nat} (h : Mp E w r l c) :
    (Instr.range T (.map (some r))).run Tryz.prog w = .ok (.pointer (some ⟨w.heap.size, 0, none⟩)) (w.alloc (.mapIter (some r) c #[] c)) ∧ Itr E (w.alloc (.mapIter (some r) c #[] c)) w.heap.size r l l c := by
  refine ⟨?_, h.later (below_alloc w _ _ (Nat.le_refl _)) (Nat.le_refl _), #[], c, heap_alloc_new w _, Nat.le_refl _, ?_⟩
  · exact run_range_map w T kt et r _ c hT h.heap
  · exact (List.filter_eq_self.2 (fun x _ => by simp)).symm

theorem left_todo {K : Type} (E : K → Value) (l : List (Ent K)) (seen : Array Nat) : (leftOf (l.map (Ent.e E)).toArray seen).toList = (l.filter (fun x => !seen.contains x.b)).map (Ent.e E) := by
  unfold leftOf
  rw [Array.toList_filter, List.toList_toArray, List.filter_map]
  rfl

/-- The next one: nothing is left; or one of those that are left, whichever. -/
theorem Itr.next {K : Type} {E : K → Value} {w : World} {g r : Nat} {l todo : List (Ent K)} {c : Nat} (h : Itr E w g r l todo c) (hgr : g ≠ r) (ty : TypeId) :
    (todo = [] ∧ (Instr.next (.pointer (some ⟨g, 0, none⟩)) false ty).run Tryz.prog w = .ok (.tuple #[.bool false]) w) ∨
    ∃ x ∈ todo, ∃ w' todo', (Instr.next (.pointer (some ⟨g, 0, none⟩)) false ty).run Tryz.prog w = .ok (.tuple #[.bool true, E x.k, x.v]) w' ∧ (Instr.entry (.pointer (some ⟨g, 0, none⟩))).run Tryz.prog w' = .ok (.tuple #[E x.k, x.v]) w' ∧ Itr E w' g r l todo' c ∧ todo.Perm (x :: todo') ∧ w.grownBy w' (some g) := by
  obtain ⟨hm, seen, c0, hg, hc, rfl⟩ := h
  have hold : ∀ x ∈ (l.map (Ent.e E)).toArray.toList, x.born < c := by
    intro x hx
    rw [List.toList_toArray] at hx
    obtain ⟨y, hy, rfl⟩ := List.mem_map.1 hx
    exact hm.born y hy
  have hlt := left_todo E l seen
  rcases run_next_at (P := Tryz.prog) w ty g r c c0 seen _ c hg hm.heap hold hc with ⟨h0, hrun⟩ | ⟨e, he, w1, hw1, hrun⟩
  · left
    refine ⟨?_, hrun⟩
    have : (l.filter (fun x => !seen.contains x.b)).map (Ent.e E) = [] := by rw [← hlt]; exact List.eq_nil_of_length_eq_zero (by rw [Array.length_toList]; exact h0)
    exact List.map_eq_nil_iff.1 this
  · right
    rw [hlt] at he
    obtain ⟨x, hx, rfl⟩ := List.mem_map.1 he
    have hxm := List.mem_filter.1 hx
    have hh1 : ∀ k : Nat, w1.heap[k]? = w.heap[k]? := by rcases hw1 with rfl | rfl <;> intro k <;> rfl
    have hs1 : w1.heap.size = w.heap.size := by rcases hw1 with rfl | rfl <;> rfl
    have hgl := lt_of_heap hg
    have hR : (setBlock w1 g (.mapIter (some r) c (seen.push (Ent.e E x).born) c)).heap[r]? = some (.map (l.map (Ent.e E)).toArray c) := by
      show (w1.heap.setIfInBounds g _)[r]? = _
      rw [Array.getElem?_setIfInBounds_ne hgr, hh1]; exact hm.heap
    have hG : (setBlock w1 g (.mapIter (some r) c (seen.push (Ent.e E x).born) c)).heap[g]? = some (.mapIter (some r) c (seen.push (Ent.e E x).born) c) := by
      show (w1.heap.setIfInBounds g _)[g]? = _
      rw [Array.getElem?_setIfInBounds_self_of_lt (by omega)]
    have hen := run_entry_at (P := Tryz.prog) _ g r c seen _ c (Ent.e E x) hG hR (by rw [List.toList_toArray]; exact List.mem_map.2 ⟨x, hxm.1, rfl⟩) (by rw [List.toList_toArray, List.map_map]; exact hm.ones)
    refine ⟨x, hx, _, l.filter (fun y => !(seen.push x.b).contains y.b), hrun, hen, ⟨⟨hR, hm.born, hm.ones, hm.keys⟩, seen.push x.b, c, hG, Nat.le_refl _, rfl⟩, ?_, ?_⟩
    · clear hrun hold hlt hR hG hen
      have key : ∀ (m : List (Ent K)), (m.map Ent.b).Nodup → x ∈ m → (m.filter (fun y => !seen.contains y.b)).Perm (x :: m.filter (fun y => !(seen.push x.b).contains y.b)) := by
        intro m
        induction m with
        | nil => intro _ hx; simp at hx
        | cons y m ih =>
          intro hn hxm'
          rw [List.map_cons, List.nodup_cons] at hn
          rcases List.mem_cons.1 hxm' with rfl | hx'
          · have e1 : m.filter (fun y => !(seen.push x.b).contains y.b) = m.filter (fun y => !seen.contains y.b) := by
              refine List.filter_congr fun z hz => ?_
              have hne : z.b ≠ x.b := fun e => hn.1 (by rw [← e]; exact List.mem_map.2 ⟨z, hz, rfl⟩)
              simp [hne]
            rw [List.filter_cons, if_pos hxm.2, List.filter_cons, if_neg (by simp), e1]
          · have hne : y.b ≠ x.b := fun e => hn.1 (by rw [e]; exact List.mem_map.2 ⟨x, hx', rfl⟩)
            have e2 : (!(seen.push x.b).contains y.b) = !seen.contains y.b := by simp [hne]
            rw [List.filter_cons, List.filter_cons, e2]
            split
            · exact ((ih hn.2 hx').cons y).trans (List.Perm.swap _ _ _)
            · exact ih hn.2 hx'
      exact key l hm.ones hxm.1
    · refine ⟨?_, ?_, ?_, by simp [setBlock, hs1], fun k hk hne => ?_⟩
      · rcases hw1 with rfl | rfl <;> rfl
      · rcases hw1 with rfl | rfl <;> rfl
      · rcases hw1 with rfl | rfl <;> rfl
      · show (w1.heap.setIfInBounds g _)[k]? = _
        rw [Array.getElem?_setIfInBounds_ne (fun e => hne (by rw [e])), hh1]

theorem Itr.kept {K : Type} {E : K → Value} {w w' : World} {g r : Nat} {l todo : List (Ent K)} {c : Nat} {row : Option Nat} (h : Itr E w g r l todo c) (hg : w.grownBy w' row) (h1 : row ≠ some r) (h2 : row ≠ some g) : Itr E w' g r l todo c := by
  obtain ⟨hm, seen, c0, hi, hc, ht⟩ := h
  exact ⟨hm.kept hg h1, seen, c0, (hg.block _ (lt_of_heap hi) (fun e => h2 e.symm)).trans hi, hc, ht⟩
theorem Itr.later {K : Type} {E : K → Value} {w w' : World} {g r B : Nat} {l todo : List (Ent K)} {c : Nat} (h : Itr E w g r l todo c) (hb : Below B w w') (hB : w.heap.size ≤ B) : Itr E w' g r l todo c := by
  obtain ⟨hm, seen, c0, hi, hc, ht⟩ := h
  exact ⟨hm.later hb hB, seen, c0, (hb.block _ (Nat.lt_of_lt_of_le (lt_of_heap hi) hB)).trans hi, hc, ht⟩
theorem Itr.lt {K : Type} {E : K → Value} {w : World} {g r : Nat} {l todo : List (Ent K)} {c : Nat} (h : Itr E w g r l todo c) : r < w.heap.size ∧ g < w.heap.size := by
  obtain ⟨hm, seen, c0, hi, _⟩ := h
  exact ⟨hm.lt, lt_of_heap hi⟩
end Go.Proofs.YtdogecaonlmalaaGreat
