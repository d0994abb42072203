/- The document's state: its cells. -/
import Derived.Test.YtgglokfpafbmeaaGreatRefW
namespace Go.Proofs.YtgglokfpafbmeaaGreat
open Go.RowKit Go.MapKept Go.ChangeMaps

theorem zeroSp : Tryz.t104.zero = some (.agg spotZ.toArray) := by kernel_rfl
theorem zeroRunSp (w : World) : (zeroValue 104).run Tryz.prog w = .ok (.agg spotZ.toArray) w := by
  have h := zeroSp
  simp [zeroValue, h]
theorem run_allocSp (w : World) : (Instr.alloc 104 true (.tuple #[])).run Tryz.prog w = .ok (.pointer (some ⟨w.heap.size, 0, none⟩)) (w.alloc (.cells spotZ.toArray 104)) := by
  have h := zeroRunSp w
  simp [Instr.alloc, h, newVar, newRow, Value.cells]
theorem wpList_allocSp {ops : Array Oper} {rest : List Oper} {op : Oper} {a : Act} {w : World} {Q : Exit → Act → World → Prop} (hgd : op.guard = none) (ho : op.op = .alloc 104)
    (h : wpList Tryz.prog ops Q rest (a.put op.dst (.pointer (some ⟨w.heap.size, 0, none⟩))) (w.alloc (.cells spotZ.toArray 104))) : wpList Tryz.prog ops Q (op :: rest) a w :=
  wpList_plain hgd fun _ hK => by
    have hr := run_allocSp w
    unfold Oper.wp execOp
    simp only [ho, Sem.run_bind, hr, Result.andThen_ok, Sem.run_pure]
    exact hK _ _ h

theorem spFill {W : World} {q : Nat} {z : Array Value} (hz : z.size = 19) (hq : W.heap[q]? = some (.cells z 104 (0, 0))) (c : Nat → Value) (p : Nat) :
    W.there q 0 (spA c p).size ∧ Tch (fun k => k = q) W (W.setCells q 0 (spA c p).toList) ∧ (W.setCells q 0 (spA c p).toList).heap[q]? = some (.cells (spA c p) 104 (0, 0)) := by
  have hl : (spA c p).toList.length = 19 := by rw [Array.length_toList, spA_size]
  have ht : W.there q 0 (spA c p).size := fun j hj => by
    rw [spA_size] at hj
    refine ⟨?_, by simp [World.frozen?, hq]⟩
    rw [Nat.zero_add]
    simp [World.cell?, hq, hz, hj]
  refine ⟨ht, (Tch.of (setCells_grown q (spA c p).toList 0 W)).mono (fun k _ e => Option.some.inj e), ?_⟩
  obtain ⟨cur', h4, h5⟩ := setCells_block (spA c p).toList 0 W z hq
  have ht2 : W.there q 0 (spA c p).toList.length := by rw [Array.length_toList]; exact ht
  have hr := World.rangeAt_setCells_same W q 0 (spA c p).toList ht2
  have e : cur' = spA c p := by
    refine Array.ext_getElem? fun o => ?_
    rcases Nat.lt_or_ge o 19 with ho | ho
    · have hv := spA_at c p o ho
      have hr1 := hr o (c (p + o)) (by rw [Array.getElem?_toList]; exact hv)
      rw [Nat.zero_add] at hr1
      rw [hv]
      simpa [World.cell?, h4] using hr1
    · rw [Array.getElem?_eq_none (by omega), Array.getElem?_eq_none (by rw [spA_size]; exact ho)]
  rw [h4, e]
theorem spotZ_size : spotZ.toArray.size = 19 := rfl
/-- A box of a spot, filled. -/
theorem spBox (w : World) (c : Nat → Value) (p : Nat) : (w.alloc (.cells spotZ.toArray 104)).there w.heap.size 0 (spA c p).size ∧
    Below w.heap.size w ((w.alloc (.cells spotZ.toArray 104)).setCells w.heap.size 0 (spA c p).toList) ∧
    ((w.alloc (.cells spotZ.toArray 104)).setCells w.heap.size 0 (spA c p).toList).heap[w.heap.size]? = some (.cells (spA c p) 104 (0, 0)) := by
  obtain ⟨h1, h2, h3⟩ := spFill spotZ_size (heap_alloc_new w (.cells spotZ.toArray 104)) c p
  exact ⟨h1, (below_alloc w _ w.heap.size (Nat.le_refl _)).trans (h2.below (fun k hk e => by omega) (below_alloc w _ w.heap.size (Nat.le_refl _)).size), h3⟩

/-- A row of cells made since B; what lies in them was made at whatever time. -/
structure OwnQ (w : World) (B : Nat) (v : Value) (xs : List Cr) : Prop where
  row : w.ownsRow B 76 7 v xs.length (xs.flatMap crC)
  all : ∀ x ∈ xs, CrOK w 0 x
theorem OwnQ.later {w w' : World} {B : Nat} {v : Value} {xs : List Cr} (h : OwnQ w B v xs) (hb : Below w.heap.size w w') : OwnQ w' B v xs :=
  ⟨own_tch (S := fun _ => False) (Below.tch hb) h.row (fun _ _ e => e), fun x hx => (h.all x hx).later hb⟩
theorem OwnQ.own {w : World} {B : Nat} {v : Value} {xs : List Cr} (h : OwnQ w B v xs) : OwnR w 0 v xs := ⟨row_mono h.row (Nat.zero_le _), h.all⟩
theorem OwnR.q {w : World} {B : Nat} {v : Value} {xs : List Cr} (h : OwnR w B v xs) : OwnQ w B v xs := ⟨h.row, fun x hx => (h.all x hx).mono (Nat.zero_le _)⟩
theorem appC0 {w : World} {B : Nat} {v : Value} {l : List Cr} (h : OwnQ w B v l) (q : Nat) (x : Cr) (hq : w.heap[q]? = some (crO x)) (hx : CrOK w 0 x) (hsz : l.length + 1 ≤ 1000000) (hB : B ≤ w.heap.size) :
    ∃ v' w', (∀ ty, (Builtin.append_ #[56, 56] ty #[v, .slice (some ⟨q, 0, none⟩) 1 1]).run Tryz.prog w = .ok v' w') ∧ OwnQ w' B v' (l ++ [x]) ∧ w.grownBy w' v.ownBlock := by
  obtain ⟨i0, hi, hz0, hz1, hz2⟩ := info_parts infoCr
  obtain ⟨o1, o2⟩ := hx.one
  have hcell : ∀ j u, ([x].flatMap crC)[j]? = some u → w.cell? ((⟨q, 0, none⟩ : Addr).add j) = some u := by
    intro j u hj
    rw [Go.Proofs.YtgglokfpafbmeaaGreat.add_none, Nat.zero_add]
    simp only [List.flatMap_cons, List.flatMap_nil, List.append_nil, crC] at hj
    match j, hj with
    | 0, hj => simp at hj; subst hj; simp [World.cell?, hq, crO]
    | 1, hj => simp at hj; subst hj; simp [World.cell?, hq, crO]
    | 2, hj => simp at hj; subst hj; simp [World.cell?, hq, crO]
    | 3, hj => simp at hj; subst hj; simp [World.cell?, hq, crO]
    | 4, hj => simp at hj; subst hj; simp [World.cell?, hq, crO]
    | 5, hj => simp at hj; subst hj; simp [World.cell?, hq, crO]
    | 6, hj => simp at hj; subst hj; simp [World.cell?, hq, crO]
    | j + 7, hj => simp at hj
  have hone : ∀ u ∈ [x].flatMap crC, u.oneCell' = true := by
    intro u hu
    simp only [List.flatMap_cons, List.flatMap_nil, List.append_nil, crC, List.mem_cons, List.not_mem_nil, or_false] at hu
    rcases hu with rfl | rfl | rfl | rfl | rfl | rfl | rfl
    · rfl
    · rfl
    · rfl
    · rfl
    · rfl
    · exact o1
    · exact o2
  have key := fun ty => run_append_own_at (P := Tryz.prog) w B 56 ty 76 i0 _ 7 88 Tryz.underlying56 hi hz0 hz1 hz2 rfl (by decide) v l.length (l.flatMap crC) h.row ⟨q, 0, none⟩ 1 1 ([x].flatMap crC) (by simp [crC]) hcell hone (by simp only [maxLen]; omega) (by omega) hB
  obtain ⟨v', w', hrun, h2, h3, _, h5⟩ := key 0
  have hS : ∀ k, some k = v.ownBlock → ∀ cur e, w.heap[k]? = some (.cells cur e (0, 0)) → e ≠ 2 ∧ e ≠ 43 := fun k hk cur e hc => by
    obtain ⟨cur', hc'⟩ := RowO.kind (C := crC) (row_mono h.row (Nat.zero_le _)) hk.symm
    rw [hc] at hc'
    have : e = 76 := by simp at hc'; exact hc'.2
    subst this
    exact ⟨by decide, by decide⟩
  refine ⟨v', w', fun ty => hrun, ⟨?_, fun y hy => ?_⟩, h3⟩
  · rw [List.flatMap_append, List.length_append]
    exact h2
  · rcases List.mem_append.1 hy with hy | hy
    · exact (h.all y hy).tch (Tch.of h3) hS
    · simp at hy; subst hy; exact hx.tch (Tch.of h3) hS
/-- append(cells, cell). -/
theorem appC1 {w : World} {B : Nat} {v : Value} {l : List Cr} (h : OwnQ w B v l) (x : Cr) (hx : CrOK w 0 x) (hsz : l.length + 1 ≤ 1000000) (hB : B ≤ w.heap.size) :
    ∃ v' w', (∀ ty, (Builtin.append_ #[56, 56] ty #[v, .slice (some ⟨w.heap.size, 0, none⟩) 1 1]).run Tryz.prog (w.alloc (crO x)) = .ok v' w') ∧ OwnQ w' B v' (l ++ [x]) ∧ Below B w w' := by
  have hb := below_alloc w (crO x) w.heap.size (Nat.le_refl _)
  obtain ⟨v', w', h1, h2, h3⟩ := appC0 (h.later hb) w.heap.size x (heap_alloc_new w (crO x)) (hx.later hb) hsz (Nat.le_trans hB hb.size)
  exact ⟨v', w', h1, h2, (below_alloc w (crO x) B hB).grown h3 (Nat.le_trans hB hb.size) (fun k hk => (World.ownsRow.lt h.row k hk).1)⟩

/-- Does something lie there? -/
def NeK (a : Ab) (k : K3) : Prop := a.V k ≠ none ∨ a.L k ≠ [] ∨ a.D k ≠ []
/-- The cells of the first m keys. -/
structure CsD (w0 w : World) (a : Ab) (m : Nat) (v : Value) : Prop where
  dat : ∃ ks xs, RiseK ks ∧ (∀ k, k ∈ ks ↔ InK k ∧ offK k < 19 * m ∧ NeK a k) ∧ xs.map Cr.c = ks.map a.at ∧ OwnQ w w0.heap.size v xs ∧ xs.length ≤ m
  bel : Below w0.heap.size w0 w
theorem CsD.zero (w0 : World) (a : Ab) : CsD w0 w0 a 0 (.slice none 0 0) :=
  ⟨⟨[], [], List.Pairwise.nil, fun k => by simp, rfl, ⟨World.ownsRow_nil _ _ _ _, fun x hx => by simp at hx⟩, Nat.le_refl _⟩, Below.refl _ _⟩
theorem CsD.later {w0 w w' : World} {a : Ab} {m : Nat} {v : Value} (h : CsD w0 w a m v) (hb : Below w.heap.size w w') : CsD w0 w' a m v := by
  obtain ⟨ks, xs, h1, h2, h3, h4, h5⟩ := h.dat
  exact ⟨⟨ks, xs, h1, h2, h3, h4.later hb, h5⟩, h.bel.trans (hb.mono h.bel.size)⟩
theorem off_same {k κ : K3} (h : InK k) (h' : InK κ) : offK k < offK κ + 19 ↔ (offK k < offK κ ∨ k = κ) := by
  constructor
  · intro hl
    by_cases e : k = κ
    · exact Or.inr e
    · refine Or.inl ?_
      rcases Nat.lt_or_ge (offK k) (offK κ) with h1 | h1
      · exact h1
      · exact absurd (off_inj h h' (t := 0) (u := offK k - offK κ) (by omega) (by omega) (by omega)).1 e
  · rintro (h1 | rfl)
    · omega
    · omega
theorem CsD.skip {w0 w : World} {a : Ab} {m : Nat} {v : Value} {κ : K3} (h : CsD w0 w a m v) (hκ : InK κ) (hm : offK κ = 19 * m) (hn : ¬ NeK a κ) : CsD w0 w a (m + 1) v := by
  obtain ⟨ks, xs, h1, h2, h3, h4, h5⟩ := h.dat
  refine ⟨⟨ks, xs, h1, fun k => ?_, h3, h4, by omega⟩, h.bel⟩
  rw [h2]
  constructor
  · rintro ⟨a1, a2, a3⟩; exact ⟨a1, by omega, a3⟩
  · rintro ⟨a1, a2, a3⟩
    rcases (off_same a1 hκ).1 (by omega) with h6 | rfl
    · exact ⟨a1, by omega, a3⟩
    · exact absurd a3 hn
theorem off_less {k κ : K3} (h : InK k) (h' : InK κ) (hl : offK k < offK κ) : k3Less k κ = true := by
  obtain ⟨a1, a2, a3, a4, a5, a6⟩ := h
  obtain ⟨b1, b2, b3, b4, b5, b6⟩ := h'
  unfold offK at hl
  show lessK (k.g, k.n, k.i) (κ.g, κ.n, κ.i) = true
  unfold lessK
  simp only
  split
  · exact decide_eq_true (by omega)
  · split
    · exact decide_eq_true (by omega)
    · exact decide_eq_true (by omega)
theorem CsD.add {w0 w w' : World} {a : Ab} {m : Nat} {v' : Value} {κ : K3} {ks : List K3} {xs : List Cr} (h1 : RiseK ks) (h2 : ∀ k, k ∈ ks ↔ InK k ∧ offK k < 19 * m ∧ NeK a k) (h3 : xs.map Cr.c = ks.map a.at) (h5 : xs.length ≤ m) (h6 : Below w0.heap.size w0 w) (hκ : InK κ) (hm : offK κ = 19 * m) (hn : NeK a κ) (x : Cr) (hx : x.c = a.at κ) (hr : OwnQ w' w0.heap.size v' (xs ++ [x])) (hb : Below w0.heap.size w w') : CsD w0 w' a (m + 1) v' := by
  refine ⟨⟨ks ++ [κ], xs ++ [x], ?_, fun k => ?_, by rw [List.map_append, List.map_append, h3]; simp [hx], hr, by rw [List.length_append]; simpa using h5⟩, h6.trans hb⟩
  · refine List.pairwise_append.2 ⟨h1, List.pairwise_singleton _ _, fun y hy z hz => ?_⟩
    rw [List.mem_singleton] at hz
    subst hz
    obtain ⟨a1, a2, _⟩ := (h2 y).1 hy
    exact off_less a1 hκ (by omega)
  · rw [List.mem_append, h2, List.mem_singleton]
    constructor
    · rintro (⟨a1, a2, a3⟩ | rfl)
      · exact ⟨a1, by omega, a3⟩
      · exact ⟨hκ, by omega, hn⟩
    · rintro ⟨a1, a2, a3⟩
      rcases (off_same a1 hκ).1 (by omega) with h6 | rfl
      · exact Or.inl ⟨a1, by omega, a3⟩
      · exact Or.inr rfl
theorem CsD.fin {w0 w : World} {a : Ab} {v : Value} (h : CsD w0 w a 192 v) (ho : ∀ κ, ¬ InK κ → a.V κ = none ∧ a.L κ = [] ∧ a.D κ = []) : ∃ xs ks, Kof a ks ∧ xs.map Cr.c = ks.map a.at ∧ OwnQ w w0.heap.size v xs ∧ Below w0.heap.size w0 w := by
  obtain ⟨ks, xs, h1, h2, h3, h4, h5⟩ := h.dat
  refine ⟨xs, ks, ⟨h1, fun k => ?_⟩, h3, h4, h.bel⟩
  rw [h2]
  constructor
  · exact fun e => e.2.2
  · intro e
    by_cases hi : InK k
    · exact ⟨hi, by have := offK_lt hi; omega, e⟩
    · obtain ⟨e1, e2, e3⟩ := ho k hi
      rcases e with e | e | e
      · exact absurd e1 e
      · exact absurd e2 e
      · exact absurd e3 e
end Go.Proofs.YtgglokfpafbmeaaGreat
