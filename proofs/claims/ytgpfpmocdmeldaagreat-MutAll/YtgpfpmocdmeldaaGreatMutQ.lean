/- Rows of changes: cuts, appends that tell where the row lies. -/
import Derived.Test.YtgpfpmocdmeldaaGreatMutP
import Derived.Test.YtgpfpmocdmeldaaGreatLawF
namespace Go.Proofs.YtgpfpmocdmeldaaGreat
open Go.RowKit

theorem run_uptoM (a : Option Addr) (n cap j : Nat) (J : Int) (eJ : J = (j : Int)) (hj : j ≤ cap) (W : World) :
    (Instr.slice 35 (.slice a n cap) none (some (.int .i64 J)) none).run Tryz.prog W = .ok (.slice a j cap) W := by
  subst eJ
  have e1 : (Instr.sliceBound (.int .i64 (j : Int)) cap .sliceAcap).run Tryz.prog W = .ok j W := by
    have := run_sliceBound (P := Tryz.prog) W .i64 (j : Int) cap .sliceAcap (by omega) (by omega)
    simpa using this
  simp [Instr.slice, Instr.sliceBounds, run_underlying Tryz.underlying35, e1]
  try (cases a <;> simp [Addr.add])

theorem Ms.take {w : World} {pa : Option Addr} {m : Nat} {ms : List Mt} (h : Ms w pa m ms) (j : Nat) (hj : j ≤ m) : Ms w pa j (ms.take j) := by
  refine ⟨by rw [List.length_take, h.1]; omega, fun h0 => ?_⟩
  obtain ⟨b, o, rfl, hc⟩ := h.2 (by omega)
  refine ⟨b, o, rfl, fun i m hi => hc i m ?_⟩
  rw [List.getElem?_take] at hi
  split at hi
  · exact hi
  · cases hi

theorem OwnM.kept {w w' : World} {B : Nat} {v : Value} {ms : List Mt} {row : Option Nat} (h : OwnM w B v ms) (hg : w.grownBy w' row) (hne : v.ownBlock = none ∨ v.ownBlock ≠ row) : OwnM w' B v ms := World.ownsRow.kept h hg hne
theorem owns_kept {w w' : World} {B : Nat} {v : Value} {l : List Int} {row : Option Nat} (h : w.ownsInts B 5 .u8 v l) (hg : w.grownBy w' row) (hne : v.ownBlock = none ∨ v.ownBlock ≠ row) : w'.ownsInts B 5 .u8 v l := ⟨World.ownsRow.kept h.1 hg hne, h.2⟩

/-- append(own, m) of a row of changes; where the new row lies. -/
theorem wpList_appM2 {w : World} {ops : Array Oper} {rest : List Oper} {o : Oper} {a : Act} {Q : Exit → Act → World → Prop} (hgd : o.guard = none) (s x : Operand)
    (ho : o.op = .call { callee := .builtin .append, args := #[s, x], argTypes := #[35, 35] })
    (B : Nat) (v : Value) (ms : List Mt) (hs : a.eval s = v) (hown : OwnM w B v ms) (q : Nat) (m : Mt) (hx : a.eval x = .slice (some ⟨q, 0, none⟩) 1 1) (hq : w.heap[q]? = some (mtObj m)) (hsz : ms.length ≤ 1000000) (hB : B ≤ w.heap.size)
    (h : ∀ v' w', OwnM w' B v' (ms ++ [m]) → w.grownBy w' v.ownBlock → (v'.ownBlock = v.ownBlock ∨ v'.ownBlock = some w.heap.size) → wpList Tryz.prog ops Q rest (a.put o.dst v') w') :
    wpList Tryz.prog ops Q (o :: rest) a w := by
  obtain ⟨i0, hi, hz0, hz1, hz2⟩ := info_parts infoM
  obtain ⟨c0, c1, c2, c3, c4, c5⟩ := mt_cells hq
  refine wpList_append_own_at w hgd s x 35 ho B 40 i0 _ 6 48 Tryz.underlying35 hi hz0 hz1 hz2 rfl (by decide) v ms.length (ms.flatMap mCs) hs hown ⟨q, 0, none⟩ 1 1 (mCs m) hx rfl ?_ ?_ (by simp only [maxLen]; omega) (by omega) hB ?_
  · intro j u hj
    rw [Go.Proofs.YtgpfpmocdmeldaaGreat.add_none]
    unfold mCs at hj
    match j, hj with
    | 0, hj => simp at hj; subst hj; exact c0
    | 1, hj => simp at hj; subst hj; exact c1
    | 2, hj => simp at hj; subst hj; exact c2
    | 3, hj => simp at hj; subst hj; exact c3
    | 4, hj => simp at hj; subst hj; exact c4
    | 5, hj => simp at hj; subst hj; exact c5
    | j + 6, hj => simp at hj
  · intro u hu
    simp [mCs] at hu
    rcases hu with rfl | rfl | rfl | rfl | rfl | rfl <;> rfl
  · intro v' w' h2 h3 _ h5
    refine h v' w' ?_ h3 h5
    unfold OwnM
    rw [List.length_append, List.flatMap_append]
    simpa using h2

theorem OwnP.lit1 (w : World) (p : Option Addr × Nat × Nat) : OwnP (w.alloc (.cells #[sv p] 23)) w.heap.size (.slice (some ⟨w.heap.size, 0, none⟩) 1 1) [p] :=
  ⟨by simp, .inr ⟨_, _, _, rfl, Nat.le_refl _, heap_alloc_new w _, by simp, by simp [maxLen], by simp, by simp⟩⟩

theorem filter_take (ms : List Mt) (k : Nat) (m : Mt) (h : ms[k]? = some m) : (ms.take (k + 1)).filter mayB = (ms.take k).filter mayB ++ (if mayB m then [m] else []) := by
  obtain ⟨hk, rfl⟩ := List.getElem?_eq_some_iff.1 h
  rw [List.take_succ_eq_append_getElem hk, List.filter_append]
  cases h : mayB ms[k] <;> simp [h]

theorem putsB_filter (ms : List Mt) : putsB (ms.filter mayB) = putsB ms := by
  induction ms with
  | nil => rfl
  | cons m ms ih =>
    rw [List.filter_cons]
    cases h : mayB m with
    | true => simp only [if_true]; unfold putsB at ih ⊢; rw [List.map_cons, List.map_cons, List.flatten_cons, List.flatten_cons, ih]
    | false => simp only [Bool.false_eq_true, if_false]; unfold putsB at ih ⊢; rw [List.map_cons, List.flatten_cons, ih]; simp [putB, h]

theorem putsB_may (L : List Mt) (h : ∀ m ∈ L, mayB m = true) (k : Nat) (m : Mt) (hk : L[k]? = some m) : putsB (L.drop k) = mutB m ++ putsB (L.drop (k + 1)) := by
  obtain ⟨hlt, rfl⟩ := List.getElem?_eq_some_iff.1 hk
  have e : putB L[k] = mutB L[k] := by simp [putB, h _ (List.getElem_mem hlt)]
  rw [List.drop_eq_getElem_cons hlt, ← e, putsB, putsB, List.map_cons, List.flatten_cons]

theorem mutB_pos (m : Mt) : 1 ≤ (mutB m).length := by simp [mutB]

/-- Two rows that lie apart. -/
theorem sep_ne {p q : Option Nat} (h : ∀ g, p = some g → q ≠ some g) : q = none ∨ q ≠ p := by
  cases q with
  | none => exact Or.inl rfl
  | some g => exact Or.inr fun e => h g e.symm rfl
theorem sep_symm {p q : Option Nat} (h : ∀ g, p = some g → q ≠ some g) : ∀ g, q = some g → p ≠ some g := fun g hq hp => h g hp hq
theorem sep_step {p p' q : Option Nat} {n : Nat} (h : ∀ g, p = some g → q ≠ some g) (hp : p' = p ∨ p' = some n) (hq : ∀ g, q = some g → g < n) : ∀ g, p' = some g → q ≠ some g := by
  intro g hg e
  rcases hp with rfl | rfl
  · exact h g hg e
  · have := hq g e
    simp at hg
    omega

/-- The cells of the k-th change of a row. -/
def Six (w : World) (b o k : Nat) (m : Mt) : Prop :=
  w.cell? ⟨b, o + k * 6, none⟩ = some (.int .i64 m.k) ∧ w.cell? ⟨b, o + k * 6 + 1, none⟩ = some (.int .i64 m.g) ∧ w.cell? ⟨b, o + k * 6 + 2, none⟩ = some (.int .i64 m.n) ∧ w.cell? ⟨b, o + k * 6 + 3, none⟩ = some (.int .i64 m.i) ∧ w.cell? ⟨b, o + k * 6 + 4, none⟩ = some (.int .i64 m.f) ∧ w.cell? ⟨b, o + k * 6 + 5, none⟩ = some (.int .i64 m.v)
theorem Six.later {w w' : World} {B b o k : Nat} {m : Mt} (h : Six w b o k m) (hb : Below B w w') (hB : w.heap.size ≤ B) : Six w' b o k m := by
  obtain ⟨h0, h1, h2, h3, h4, h5⟩ := h
  have hl : b < B := Nat.lt_of_lt_of_le (lt_of_cell h0) hB
  exact ⟨(hb.cell hl).trans h0, (hb.cell hl).trans h1, (hb.cell hl).trans h2, (hb.cell hl).trans h3, (hb.cell hl).trans h4, (hb.cell hl).trans h5⟩
theorem Ms.six {w : World} {b o c : Nat} {ms : List Mt} (h : Ms w (some ⟨b, o, none⟩) c ms) (k : Nat) (m : Mt) (hk : ms[k]? = some m) : Six w b o k m := by
  have hl := (List.getElem?_eq_some_iff.1 hk).1
  obtain ⟨b', o', e, hc⟩ := h.2 (by rw [← h.1]; omega)
  obtain ⟨rfl, rfl⟩ : b = b' ∧ o = o' := by simpa using e
  obtain ⟨z0, z1, z2, z3, z4, z5⟩ := hc k m hk
  exact ⟨z0, z1, z2, z3, z4, z5⟩
end Go.Proofs.YtgpfpmocdmeldaaGreat
