/- Rows of changes that a call makes itself. -/
import Derived.Test.YtkchfbigkecodaaGreatStaL
namespace Go.Proofs.YtkchfbigkecodaaGreat
open Go.RowKit

theorem infoM : (Tryz.prog.info? 73).map (fun i => (i.zero, i.size, i.bytes)) = some (some (.agg #[.int .i64 0, .int .i64 0, .int .i64 0, .int .i64 0, .int .i64 0, .int .i64 0]), 6, 48) := by kernel_rfl

/-- A row of changes that is the call's own. -/
def OwnM (w : World) (B : Nat) (v : Value) (ms : List Mt) : Prop := w.ownsRow B 73 6 v ms.length (ms.flatMap mCs)

theorem OwnM.nil (w : World) (B : Nat) : OwnM w B (.slice none 0 0) [] := World.ownsRow_nil _ _ _ _
theorem OwnM.later {w w' : World} {B : Nat} {v : Value} {ms : List Mt} (h : OwnM w B v ms) (hb : Below w.heap.size w w') : OwnM w' B v ms :=
  World.ownsRow.kept h (below_grown hb none) (by cases e : v.ownBlock with | none => exact Or.inl rfl | some _ => exact Or.inr (by simp))
theorem OwnM.lt {w : World} {B : Nat} {v : Value} {ms : List Mt} (h : OwnM w B v ms) : ∀ k, v.ownBlock = some k → B ≤ k ∧ k < w.heap.size := World.ownsRow.lt h

theorem flat_len (ms : List Mt) : (ms.flatMap mCs).length = ms.length * 6 := by
  induction ms with
  | nil => rfl
  | cons m ms ih => rw [List.flatMap_cons, List.length_append, ih, List.length_cons]; simp [mCs]; omega
theorem flat_at (ms : List Mt) (i j : Nat) (m : Mt) (h : ms[i]? = some m) (hj : j < 6) : (ms.flatMap mCs)[i * 6 + j]? = (mCs m)[j]? := by
  induction ms generalizing i with
  | nil => simp at h
  | cons x ms ih =>
    rw [List.flatMap_cons]
    cases i with
    | zero =>
      simp at h
      subst h
      rw [List.getElem?_append_left (by simp [mCs]; omega)]
      simp
    | succ i =>
      rw [List.getElem?_append_right (by simp [mCs]; omega)]
      have e : (i + 1) * 6 + j - (mCs x).length = i * 6 + j := by simp [mCs]; omega
      rw [e]
      exact ih i (by simpa using h)

theorem OwnM.ms {w : World} {B : Nat} {v : Value} {ms : List Mt} (h : OwnM w B v ms) : ∃ pa c, v = .slice pa ms.length c ∧ Ms w pa ms.length ms := by
  obtain ⟨h1, h2⟩ := h
  rcases h2 with ⟨rfl, h0⟩ | ⟨g, cap, cur, rfl, hg, hh, hn, hm, hs, ht⟩
  · have : ms = [] := List.length_eq_zero_iff.1 h0
    subst this
    exact ⟨none, 0, rfl, rfl, fun h => absurd h (by simp)⟩
  · refine ⟨some ⟨g, 0, none⟩, cap, rfl, rfl, fun _ => ⟨g, 0, rfl, fun i m hi => ?_⟩⟩
    have hil : i < ms.length := (List.getElem?_eq_some_iff.1 hi).1
    have key : ∀ j, j < 6 → cur[i * 6 + j]? = (mCs m)[j]? := by
      intro j hj
      rw [← flat_at ms i j m hi hj, ← ht, List.getElem?_take, if_pos (by omega)]
      simp
    have k0 := key 0 (by omega); have k1 := key 1 (by omega); have k2 := key 2 (by omega)
    have k3 := key 3 (by omega); have k4 := key 4 (by omega); have k5 := key 5 (by omega)
    simp only [mCs, Nat.add_zero, List.getElem?_cons_zero, List.getElem?_cons_succ] at k0 k1 k2 k3 k4 k5
    refine ⟨?_, ?_, ?_, ?_, ?_, ?_⟩ <;> simp [World.cell?, hh, k0, k1, k2, k3, k4, k5]

/-- append(own, m) of a row of changes. -/
theorem wpList_appM {w : World} {ops : Array Oper} {rest : List Oper} {o : Oper} {a : Act} {Q : Exit → Act → World → Prop} (hgd : o.guard = none) (s x : Operand)
    (ho : o.op = .call { callee := .builtin .append, args := #[s, x], argTypes := #[74, 74] })
    (B : Nat) (v : Value) (ms : List Mt) (hs : a.eval s = v) (hown : OwnM w B v ms) (q : Nat) (m : Mt) (hx : a.eval x = .slice (some ⟨q, 0, none⟩) 1 1) (hq : w.heap[q]? = some (mtObj m)) (hsz : ms.length ≤ 1000000) (hB : B ≤ w.heap.size)
    (h : ∀ v' w', OwnM w' B v' (ms ++ [m]) → w.grownBy w' v.ownBlock → wpList Tryz.prog ops Q rest (a.put o.dst v') w') :
    wpList Tryz.prog ops Q (o :: rest) a w := by
  obtain ⟨i0, hi, hz0, hz1, hz2⟩ := info_parts infoM
  obtain ⟨c0, c1, c2, c3, c4, c5⟩ := mt_cells hq
  refine wpList_append_own_at w hgd s x 74 ho B 73 i0 _ 6 48 Tryz.underlying74 hi hz0 hz1 hz2 rfl (by decide) v ms.length (ms.flatMap mCs) hs hown ⟨q, 0, none⟩ 1 1 (mCs m) hx rfl ?_ ?_ (by simp only [maxLen]; omega) (by omega) hB ?_
  · intro j u hj
    rw [Go.Proofs.YtkchfbigkecodaaGreat.add_none]
    unfold mCs at hj
    match j, hj with
    | 0, hj => simp at hj; subst hj; exact c0
    | 1, hj => simp at hj; subst hj; exact c1
    | 2, hj => simp at hj; subst hj; exact c2
    | 3, hj => simp at hj; subst hj; exact c3
    | 4, hj => simp at hj; subst hj; exact c4
    | 5, hj => simp at hj; subst hj; exact c5
    | j + 6, hj => simp at hj
  · intro u hu
    simp [mCs] at hu
    rcases hu with rfl | rfl | rfl | rfl | rfl | rfl <;> rfl
  · intro v' w' h2 h3 _ _
    refine h v' w' ?_ h3
    unfold OwnM
    rw [List.length_append, List.flatMap_append]
    simpa using h2

theorem Ms.one (w : World) (m : Mt) : Ms (w.alloc (mtObj m)) (some ⟨w.heap.size, 0, none⟩) 1 [m] := by
  refine ⟨rfl, fun _ => ⟨w.heap.size, 0, rfl, fun i x hi => ?_⟩⟩
  have : i = 0 := by
    cases i with
    | zero => rfl
    | succ i => simp at hi
  subst this
  simp at hi
  subst hi
  have := mt_cells (heap_alloc_new w (mtObj m))
  simpa using this
end Go.Proofs.YtkchfbigkecodaaGreat
