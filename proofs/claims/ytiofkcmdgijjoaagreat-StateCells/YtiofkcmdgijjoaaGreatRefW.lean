/- The document's state: a spot's fields. The document's state: its cells. The document's state: Cells walked. -/
import Derived.Test.YtiofkcmdgijjoaaGreatRefS
namespace Go.Proofs.YtiofkcmdgijjoaaGreat
open Go.RowKit Go.MapKept Go.ChangeMaps

theorem fil_none {z : List (Int × Int)} {t : Int} (h : ∀ p ∈ z, t ≤ p.1) : (z.filter fun p => decide (p.1 < t)) = [] := by
  rw [List.filter_eq_nil_iff]
  intro p hp e
  have := h p hp
  have := of_decide_eq_true e
  omega
theorem fil_all {z : List (Int × Int)} {t : Int} (h : ∀ p ∈ z, p.1 < t) : (z.filter fun p => decide (p.1 < t)) = z := by
  rw [List.filter_eq_self]
  intro p hp
  exact decide_eq_true (h p hp)
theorem fil_next {z : List (Int × Int)} (hz : RiseF z) (t : Int) : (z.filter fun p => decide (p.1 < t + 1)) = (z.filter fun p => decide (p.1 < t)) ++ (match fldZ z t with | some v => [(t, v)] | none => []) := by
  induction z with
  | nil => rfl
  | cons x z ih =>
    have hz' : RiseF z := (List.pairwise_cons.1 hz).2
    have hx := (List.pairwise_cons.1 hz).1
    rcases Int.lt_trichotomy x.1 t with h | h | h
    · rw [List.filter_cons_of_pos (by exact decide_eq_true (by omega)), List.filter_cons_of_pos (by exact decide_eq_true (by omega)), fld_lt h, ih hz', List.cons_append]
    · rw [List.filter_cons_of_pos (by exact decide_eq_true (by omega)), List.filter_cons_of_neg (by simp; omega), fld_eq hz h, fil_none (fun p hp => by have := hx p hp; omega), fil_none (fun p hp => by have := hx p hp; omega)]
      obtain ⟨x1, x2⟩ := x
      simp only at h
      subst h
      rfl
    · rw [List.filter_cons_of_neg (by simp; omega), List.filter_cons_of_neg (by simp; omega), fld_gt hz h, fil_none (fun p hp => by have := hx p hp; omega), fil_none (fun p hp => by have := hx p hp; omega)]
      rfl
theorem fil_nextN {z : List (Int × Int)} (hz : RiseF z) (t : Nat) : (z.filter fun p => decide (p.1 < ((t + 1 : Nat) : Int))) = (z.filter fun p => decide (p.1 < (t : Int))) ++ (match fldZ z (t : Int) with | some v => [((t : Int), v)] | none => []) := by
  have := fil_next hz (t : Int)
  rw [show ((t + 1 : Nat) : Int) = (t : Int) + 1 by omega]
  exact this

/-- The cells of a spot. -/
def spA (c : Nat → Value) (p : Nat) : Array Value := ((List.range 19).map fun t => c (p + t)).toArray
theorem spA_size (c : Nat → Value) (p : Nat) : (spA c p).size = 19 := by simp [spA]
theorem spA_at (c : Nat → Value) (p t : Nat) (ht : t < 19) : (spA c p)[t]? = some (c (p + t)) := by
  unfold spA
  simp [ht]
theorem spA_cell {w : World} {q : Nat} {c : Nat → Value} {p : Nat} {e : TypeId} {x : Nat × Nat} (h : w.heap[q]? = some (.cells (spA c p) e x)) {t : Nat} (ht : t < 19) : w.cell? ⟨q, t, none⟩ = some (c (p + t)) := by
  simp [World.cell?, h, spA_at c p t ht]
theorem run_boxSp (w : World) (c : Nat → Value) (p : Nat) : (Instr.box 92 (.agg (spA c p))).run Tryz.prog w = .ok (.pointer (some ⟨w.heap.size, 0, none⟩)) (w.alloc (.cells (spA c p) 92)) := by
  simp [Instr.box, newVar, newRow, Value.cells]

/-- append(fields, Field{t, v}). -/
theorem appF1 (w : World) (B : Nat) (v : Value) (z : List (Int × Int)) (h : OwnF w B v z) (a : Int × Int) (hsz : z.length ≤ 1000) (hB : B ≤ w.heap.size) :
    ∃ v' w', (∀ ty, (Builtin.append_ #[39, 39] ty #[v, .slice (some ⟨w.heap.size, 0, none⟩) 1 1]).run Tryz.prog (w.alloc (fdO a)) = .ok v' w') ∧ OwnF w' B v' (z ++ [a]) ∧ Below B w w' := by
  have hb := below_alloc w (fdO a) w.heap.size (Nat.le_refl _)
  have h1 : OwnF (w.alloc (fdO a)) B v z := own_tch (S := fun _ => False) (Below.tch hb) h (fun _ _ e => e)
  obtain ⟨v', w', r, o, g, _⟩ := run_appF B (w.alloc (fdO a)) v z h1 ⟨w.heap.size, 0, none⟩ 1 1 [a] rfl (fdO_cells (heap_alloc_new w _)) (by omega) (by have := hb.size; omega)
  exact ⟨v', w', r, o, (below_alloc w (fdO a) B hB).grown g (by have := hb.size; omega) (fun k hk => (World.ownsRow.lt h k hk).1)⟩

set_option maxRecDepth 100000 in
set_option maxHeartbeats 2000000 in
theorem refFields (c : Nat → Value) (κ : K3) (V : Option Int) (L : List Int) (D : List (Int × Int)) (l : Value) (h : SpOK c κ V L D l) (hD : OkF D) (w : World) :
    Calls Tryz.prog 53 #[.agg (spA c (offK κ))] w fun e w' => ∃ v, e = .returned v ∧ OwnF w' w.heap.size v D ∧ Below w.heap.size w w' := by
  have hb := below_alloc w (.cells (spA c (offK κ)) 92) w.heap.size (Nat.le_refl _)
  have hq := heap_alloc_new w (.cells (spA c (offK κ)) 92)
  have hqs : (w.alloc (.cells (spA c (offK κ)) 92)).heap.size = w.heap.size + 1 := by simp
  have HS := hide h
  have HD := hide hD
  have hbx := run_boxSp w c (offK κ)
  clear h hD
  go_enter Tryz.func53, Tryz.ntmps53
  go_wp2
  have HB := hide hb
  have HQ := hide hq
  have HZ := hide hqs
  clear hb hq hqs hbx
  generalize w.alloc (.cells (spA c (offK κ)) 92) = W at *
  generalize hqn : w.heap.size = q at *
  go_loopw [3, 4] (fun v i wr => ∃ t : Nat, t ≤ 8 ∧ i = .int .i64 t ∧ Hid (OwnF wr W.heap.size v (D.filter fun p => decide (p.1 < (t : Int))) ∧ Below W.heap.size W wr)) (fun _ i _ => 8 - (intOf i).toNat)
  case atStart =>
    refine ⟨0, by omega, rfl, ?_, Below.refl _ _⟩
    rw [fil_none (t := ((0 : Nat) : Int)) (fun p hp => (HD.out.2 p hp).1)]
    exact World.ownsRow_nil _ _ _ _
  case round =>
    obtain ⟨t, ht, rfl, HI⟩ := hrel
    by_cases hlt : t < 8
    · have t0 : (0 : Int) ≤ (t : Int) := by omega
      have t1 : (t : Int) < 8 := by omega
      have hh := (HI.out.2.block _ (by have := HZ.out; omega)).trans HQ.out
      have c1 : wr.cell? ⟨q, 3 + t, none⟩ = some (.bool (fldZ D (t : Int)).isSome) := by
        rw [spA_cell hh (by omega), ← Nat.add_assoc, HS.out.i t hlt]
      have c2 : wr.cell? ⟨q, 11 + t, none⟩ = some (.int .i64 ((fldZ D (t : Int)).getD 0)) := by
        rw [spA_cell hh (by omega), ← Nat.add_assoc, HS.out.d t hlt]
      have HN := hide (fil_nextN HD.out.1 t)
      clear hh
      cases hf : fldZ D (t : Int) with
      | none =>
        rw [hf] at c1 HN
        simp only [Option.isSome_none] at c1
        have h1 := HI.out
        have e := HN.out
        simp only [List.append_nil] at e
        rw [← e] at h1
        have HE := hide h1
        clear h1 e
        clear c2 HN hf HI
        go_wp2
        exact ⟨⟨t + 1, by omega, by simp, HE⟩, by simp [intOf]; omega⟩
      | some x =>
        rw [hf] at c1 c2 HN
        simp only [Option.isSome_some] at c1
        simp only [Option.getD_some] at c2
        obtain ⟨v', w', r, o, b⟩ := appF1 wr W.heap.size _ _ HI.out.1 ((t : Int), x) (Nat.le_trans (List.length_filter_le _ _) (by have := OkF.le HD.out; omega)) HI.out.2.size
        have HR := hide r
        have e := HN.out
        simp only at e
        rw [← e] at o
        have HE := hide (And.intro o (HI.out.2.trans b))
        clear e
        clear r o b HN hf HI
        go_wp2_with (at_builtin; refine wpList_ran rfl (.tmp 13) (.tmp 20) _ _ rfl _ _ v' (by rfl) (by rfl) HR.out ?_)
        exact ⟨⟨t + 1, by omega, by simp, HE⟩, by simp [intOf]; omega⟩
    · have e : (D.filter fun p => decide (p.1 < (t : Int))) = D := fil_all (fun p hp => by have := (HD.out.2 p hp).2; omega)
      have h1 := HI.out.1
      rw [e] at h1
      have HF := hide (And.intro (row_mono h1 (B' := q) (by have := HZ.out; omega)) (HB.out.trans (HI.out.2.mono (by have := HZ.out; omega))))
      clear h1 e
      clear HI
      go_wp2
      go_ret
      rw [hqn]
      exact ⟨_, rfl, HF.out.1, HF.out.2⟩
end Go.Proofs.YtiofkcmdgijjoaaGreat

namespace Go.Proofs.YtiofkcmdgijjoaaGreat
open Go.RowKit Go.MapKept Go.ChangeMaps

theorem zeroSp : Tryz.t92.zero = some (.agg spotZ.toArray) := by kernel_rfl
theorem zeroRunSp (w : World) : (zeroValue 92).run Tryz.prog w = .ok (.agg spotZ.toArray) w := by
  have h := zeroSp
  simp [zeroValue, h]
theorem run_allocSp (w : World) : (Instr.alloc 92 true (.tuple #[])).run Tryz.prog w = .ok (.pointer (some ⟨w.heap.size, 0, none⟩)) (w.alloc (.cells spotZ.toArray 92)) := by
  have h := zeroRunSp w
  simp [Instr.alloc, h, newVar, newRow, Value.cells]
theorem wpList_allocSp {ops : Array Oper} {rest : List Oper} {op : Oper} {a : Act} {w : World} {Q : Exit → Act → World → Prop} (hgd : op.guard = none) (ho : op.op = .alloc 92)
    (h : wpList Tryz.prog ops Q rest (a.put op.dst (.pointer (some ⟨w.heap.size, 0, none⟩))) (w.alloc (.cells spotZ.toArray 92))) : wpList Tryz.prog ops Q (op :: rest) a w :=
  wpList_plain hgd fun _ hK => by
    have hr := run_allocSp w
    unfold Oper.wp execOp
    simp only [ho, Sem.run_bind, hr, Result.andThen_ok, Sem.run_pure]
    exact hK _ _ h

theorem spFill {W : World} {q : Nat} {z : Array Value} (hz : z.size = 19) (hq : W.heap[q]? = some (.cells z 92 (0, 0))) (c : Nat → Value) (p : Nat) :
    W.there q 0 (spA c p).size ∧ Tch (fun k => k = q) W (W.setCells q 0 (spA c p).toList) ∧ (W.setCells q 0 (spA c p).toList).heap[q]? = some (.cells (spA c p) 92 (0, 0)) := by
  have hl : (spA c p).toList.length = 19 := by rw [Array.length_toList, spA_size]
  have ht : W.there q 0 (spA c p).size := fun j hj => by
    rw [spA_size] at hj
    refine ⟨?_, by simp [World.frozen?, hq]⟩
    rw [Nat.zero_add]
    simp [World.cell?, hq, hz, hj]
  refine ⟨ht, (Tch.of (setCells_grown q (spA c p).toList 0 W)).mono (fun k _ e => Option.some.inj e), ?_⟩
  obtain ⟨cur', h4, h5⟩ := setCells_block (spA c p).toList 0 W z hq
  have ht2 : W.there q 0 (spA c p).toList.length := by rw [Array.length_toList]; exact ht
  have hr := World.rangeAt_setCells_same W q 0 (spA c p).toList ht2
  have e : cur' = spA c p := by
    refine Array.ext_getElem? fun o => ?_
    rcases Nat.lt_or_ge o 19 with ho | ho
    · have hv := spA_at c p o ho
      have hr1 := hr o (c (p + o)) (by rw [Array.getElem?_toList]; exact hv)
      rw [Nat.zero_add] at hr1
      rw [hv]
      simpa [World.cell?, h4] using hr1
    · rw [Array.getElem?_eq_none (by omega), Array.getElem?_eq_none (by rw [spA_size]; exact ho)]
  rw [h4, e]
theorem spotZ_size : spotZ.toArray.size = 19 := rfl
/-- A box of a spot, filled. -/
theorem spBox (w : World) (c : Nat → Value) (p : Nat) : (w.alloc (.cells spotZ.toArray 92)).there w.heap.size 0 (spA c p).size ∧
    Below w.heap.size w ((w.alloc (.cells spotZ.toArray 92)).setCells w.heap.size 0 (spA c p).toList) ∧
    ((w.alloc (.cells spotZ.toArray 92)).setCells w.heap.size 0 (spA c p).toList).heap[w.heap.size]? = some (.cells (spA c p) 92 (0, 0)) := by
  obtain ⟨h1, h2, h3⟩ := spFill spotZ_size (heap_alloc_new w (.cells spotZ.toArray 92)) c p
  exact ⟨h1, (below_alloc w _ w.heap.size (Nat.le_refl _)).trans (h2.below (fun k hk e => by omega) (below_alloc w _ w.heap.size (Nat.le_refl _)).size), h3⟩

/-- A row of cells made since B; what lies in them was made at whatever time. -/
structure OwnQ (w : World) (B : Nat) (v : Value) (xs : List Cr) : Prop where
  row : w.ownsRow B 73 7 v xs.length (xs.flatMap crC)
  all : ∀ x ∈ xs, CrOK w 0 x
theorem OwnQ.later {w w' : World} {B : Nat} {v : Value} {xs : List Cr} (h : OwnQ w B v xs) (hb : Below w.heap.size w w') : OwnQ w' B v xs :=
  ⟨own_tch (S := fun _ => False) (Below.tch hb) h.row (fun _ _ e => e), fun x hx => (h.all x hx).later hb⟩
theorem OwnQ.own {w : World} {B : Nat} {v : Value} {xs : List Cr} (h : OwnQ w B v xs) : OwnR w 0 v xs := ⟨row_mono h.row (Nat.zero_le _), h.all⟩
theorem OwnR.q {w : World} {B : Nat} {v : Value} {xs : List Cr} (h : OwnR w B v xs) : OwnQ w B v xs := ⟨h.row, fun x hx => (h.all x hx).mono (Nat.zero_le _)⟩
theorem appC0 {w : World} {B : Nat} {v : Value} {l : List Cr} (h : OwnQ w B v l) (q : Nat) (x : Cr) (hq : w.heap[q]? = some (crO x)) (hx : CrOK w 0 x) (hsz : l.length + 1 ≤ 1000000) (hB : B ≤ w.heap.size) :
    ∃ v' w', (∀ ty, (Builtin.append_ #[65, 65] ty #[v, .slice (some ⟨q, 0, none⟩) 1 1]).run Tryz.prog w = .ok v' w') ∧ OwnQ w' B v' (l ++ [x]) ∧ w.grownBy w' v.ownBlock := by
  obtain ⟨i0, hi, hz0, hz1, hz2⟩ := info_parts infoCr
  obtain ⟨o1, o2⟩ := hx.one
  have hcell : ∀ j u, ([x].flatMap crC)[j]? = some u → w.cell? ((⟨q, 0, none⟩ : Addr).add j) = some u := by
    intro j u hj
    rw [Go.Proofs.YtiofkcmdgijjoaaGreat.add_none, Nat.zero_add]
    simp only [List.flatMap_cons, List.flatMap_nil, List.append_nil, crC] at hj
    match j, hj with
    | 0, hj => simp at hj; subst hj; simp [World.cell?, hq, crO]
    | 1, hj => simp at hj; subst hj; simp [World.cell?, hq, crO]
    | 2, hj => simp at hj; subst hj; simp [World.cell?, hq, crO]
    | 3, hj => simp at hj; subst hj; simp [World.cell?, hq, crO]
    | 4, hj => simp at hj; subst hj; simp [World.cell?, hq, crO]
    | 5, hj => simp at hj; subst hj; simp [World.cell?, hq, crO]
    | 6, hj => simp at hj; subst hj; simp [World.cell?, hq, crO]
    | j + 7, hj => simp at hj
  have hone : ∀ u ∈ [x].flatMap crC, u.oneCell' = true := by
    intro u hu
    simp only [List.flatMap_cons, List.flatMap_nil, List.append_nil, crC, List.mem_cons, List.not_mem_nil, or_false] at hu
    rcases hu with rfl | rfl | rfl | rfl | rfl | rfl | rfl
    · rfl
    · rfl
    · rfl
    · rfl
    · rfl
    · exact o1
    · exact o2
  have key := fun ty => run_append_own_at (P := Tryz.prog) w B 65 ty 73 i0 _ 7 88 Tryz.underlying65 hi hz0 hz1 hz2 rfl (by decide) v l.length (l.flatMap crC) h.row ⟨q, 0, none⟩ 1 1 ([x].flatMap crC) (by simp [crC]) hcell hone (by simp only [maxLen]; omega) (by omega) hB
  obtain ⟨v', w', hrun, h2, h3, _, h5⟩ := key 0
  have hS : ∀ k, some k = v.ownBlock → ∀ cur e, w.heap[k]? = some (.cells cur e (0, 0)) → e ≠ 2 ∧ e ≠ 43 := fun k hk cur e hc => by
    obtain ⟨cur', hc'⟩ := RowO.kind (C := crC) (row_mono h.row (Nat.zero_le _)) hk.symm
    rw [hc] at hc'
    have : e = 73 := by simp at hc'; exact hc'.2
    subst this
    exact ⟨by decide, by decide⟩
  refine ⟨v', w', fun ty => hrun, ⟨?_, fun y hy => ?_⟩, h3⟩
  · rw [List.flatMap_append, List.length_append]
    exact h2
  · rcases List.mem_append.1 hy with hy | hy
    · exact (h.all y hy).tch (Tch.of h3) hS
    · simp at hy; subst hy; exact hx.tch (Tch.of h3) hS
/-- append(cells, cell). -/
theorem appC1 {w : World} {B : Nat} {v : Value} {l : List Cr} (h : OwnQ w B v l) (x : Cr) (hx : CrOK w 0 x) (hsz : l.length + 1 ≤ 1000000) (hB : B ≤ w.heap.size) :
    ∃ v' w', (∀ ty, (Builtin.append_ #[65, 65] ty #[v, .slice (some ⟨w.heap.size, 0, none⟩) 1 1]).run Tryz.prog (w.alloc (crO x)) = .ok v' w') ∧ OwnQ w' B v' (l ++ [x]) ∧ Below B w w' := by
  have hb := below_alloc w (crO x) w.heap.size (Nat.le_refl _)
  obtain ⟨v', w', h1, h2, h3⟩ := appC0 (h.later hb) w.heap.size x (heap_alloc_new w (crO x)) (hx.later hb) hsz (Nat.le_trans hB hb.size)
  exact ⟨v', w', h1, h2, (below_alloc w (crO x) B hB).grown h3 (Nat.le_trans hB hb.size) (fun k hk => (World.ownsRow.lt h.row k hk).1)⟩

/-- Does something lie there? -/
def NeK (a : Ab) (k : K3) : Prop := a.V k ≠ none ∨ a.L k ≠ [] ∨ a.D k ≠ []
/-- The cells of the first m keys. -/
structure CsD (w0 w : World) (a : Ab) (m : Nat) (v : Value) : Prop where
  dat : ∃ ks xs, RiseK ks ∧ (∀ k, k ∈ ks ↔ InK k ∧ offK k < 19 * m ∧ NeK a k) ∧ xs.map Cr.c = ks.map a.at ∧ OwnQ w w0.heap.size v xs ∧ xs.length ≤ m
  bel : Below w0.heap.size w0 w
theorem CsD.zero (w0 : World) (a : Ab) : CsD w0 w0 a 0 (.slice none 0 0) :=
  ⟨⟨[], [], List.Pairwise.nil, fun k => by simp, rfl, ⟨World.ownsRow_nil _ _ _ _, fun x hx => by simp at hx⟩, Nat.le_refl _⟩, Below.refl _ _⟩
theorem CsD.later {w0 w w' : World} {a : Ab} {m : Nat} {v : Value} (h : CsD w0 w a m v) (hb : Below w.heap.size w w') : CsD w0 w' a m v := by
  obtain ⟨ks, xs, h1, h2, h3, h4, h5⟩ := h.dat
  exact ⟨⟨ks, xs, h1, h2, h3, h4.later hb, h5⟩, h.bel.trans (hb.mono h.bel.size)⟩
theorem off_same {k κ : K3} (h : InK k) (h' : InK κ) : offK k < offK κ + 19 ↔ (offK k < offK κ ∨ k = κ) := by
  constructor
  · intro hl
    by_cases e : k = κ
    · exact Or.inr e
    · refine Or.inl ?_
      rcases Nat.lt_or_ge (offK k) (offK κ) with h1 | h1
      · exact h1
      · exact absurd (off_inj h h' (t := 0) (u := offK k - offK κ) (by omega) (by omega) (by omega)).1 e
  · rintro (h1 | rfl)
    · omega
    · omega
theorem CsD.skip {w0 w : World} {a : Ab} {m : Nat} {v : Value} {κ : K3} (h : CsD w0 w a m v) (hκ : InK κ) (hm : offK κ = 19 * m) (hn : ¬ NeK a κ) : CsD w0 w a (m + 1) v := by
  obtain ⟨ks, xs, h1, h2, h3, h4, h5⟩ := h.dat
  refine ⟨⟨ks, xs, h1, fun k => ?_, h3, h4, by omega⟩, h.bel⟩
  rw [h2]
  constructor
  · rintro ⟨a1, a2, a3⟩; exact ⟨a1, by omega, a3⟩
  · rintro ⟨a1, a2, a3⟩
    rcases (off_same a1 hκ).1 (by omega) with h6 | rfl
    · exact ⟨a1, by omega, a3⟩
    · exact absurd a3 hn
theorem off_less {k κ : K3} (h : InK k) (h' : InK κ) (hl : offK k < offK κ) : k3Less k κ = true := by
  obtain ⟨a1, a2, a3, a4, a5, a6⟩ := h
  obtain ⟨b1, b2, b3, b4, b5, b6⟩ := h'
  unfold offK at hl
  show lessK (k.g, k.n, k.i) (κ.g, κ.n, κ.i) = true
  unfold lessK
  simp only
  split
  · exact decide_eq_true (by omega)
  · split
    · exact decide_eq_true (by omega)
    · exact decide_eq_true (by omega)
theorem CsD.add {w0 w w' : World} {a : Ab} {m : Nat} {v' : Value} {κ : K3} {ks : List K3} {xs : List Cr} (h1 : RiseK ks) (h2 : ∀ k, k ∈ ks ↔ InK k ∧ offK k < 19 * m ∧ NeK a k) (h3 : xs.map Cr.c = ks.map a.at) (h5 : xs.length ≤ m) (h6 : Below w0.heap.size w0 w) (hκ : InK κ) (hm : offK κ = 19 * m) (hn : NeK a κ) (x : Cr) (hx : x.c = a.at κ) (hr : OwnQ w' w0.heap.size v' (xs ++ [x])) (hb : Below w0.heap.size w w') : CsD w0 w' a (m + 1) v' := by
  refine ⟨⟨ks ++ [κ], xs ++ [x], ?_, fun k => ?_, by rw [List.map_append, List.map_append, h3]; simp [hx], hr, by rw [List.length_append]; simpa using h5⟩, h6.trans hb⟩
  · refine List.pairwise_append.2 ⟨h1, List.pairwise_singleton _ _, fun y hy z hz => ?_⟩
    rw [List.mem_singleton] at hz
    subst hz
    obtain ⟨a1, a2, _⟩ := (h2 y).1 hy
    exact off_less a1 hκ (by omega)
  · rw [List.mem_append, h2, List.mem_singleton]
    constructor
    · rintro (⟨a1, a2, a3⟩ | rfl)
      · exact ⟨a1, by omega, a3⟩
      · exact ⟨hκ, by omega, hn⟩
    · rintro ⟨a1, a2, a3⟩
      rcases (off_same a1 hκ).1 (by omega) with h6 | rfl
      · exact Or.inl ⟨a1, by omega, a3⟩
      · exact Or.inr rfl
theorem CsD.fin {w0 w : World} {a : Ab} {v : Value} (h : CsD w0 w a 192 v) (ho : ∀ κ, ¬ InK κ → a.V κ = none ∧ a.L κ = [] ∧ a.D κ = []) : ∃ xs ks, Kof a ks ∧ xs.map Cr.c = ks.map a.at ∧ OwnQ w w0.heap.size v xs ∧ Below w0.heap.size w0 w := by
  obtain ⟨ks, xs, h1, h2, h3, h4, h5⟩ := h.dat
  refine ⟨xs, ks, ⟨h1, fun k => ?_⟩, h3, h4, h.bel⟩
  rw [h2]
  constructor
  · exact fun e => e.2.2
  · intro e
    by_cases hi : InK k
    · exact ⟨hi, by have := offK_lt hi; omega, e⟩
    · obtain ⟨e1, e2, e3⟩ := ho k hi
      rcases e with e | e | e
      · exact absurd e1 e
      · exact absurd e2 e
      · exact absurd e3 e
end Go.Proofs.YtiofkcmdgijjoaaGreat

namespace Go.Proofs.YtiofkcmdgijjoaaGreat
open Go.RowKit Go.MapKept Go.ChangeMaps

theorem spA_range {w : World} {r p : Nat} {c : Nat → Value} (h : Bx w r c) (hp : p + 19 ≤ 3648) : w.rangeAt r p (spA c p).toList := fun j v hv => by
  have hj : j < 19 := by
    have := (List.getElem?_eq_some_iff.1 hv).1
    rw [Array.length_toList, spA_size] at this
    exact this
  rw [Array.getElem?_toList, spA_at c p j hj] at hv
  obtain rfl := Option.some.inj hv
  exact h.cell (by omega)
theorem spA_own {w : World} {q p : Nat} {c : Nat → Value} (h : w.heap[q]? = some (.cells (spA c p) 92 (0, 0))) : w.rangeAt q 0 (spA c p).toList := fun j v hv => by
  have hj : j < 19 := by
    have := (List.getElem?_eq_some_iff.1 hv).1
    rw [Array.length_toList, spA_size] at this
    exact this
  rw [Array.getElem?_toList, spA_at c p j hj] at hv
  obtain rfl := Option.some.inj hv
  rw [Nat.zero_add]
  exact spA_cell h hj
theorem spA_one {c : Nat → Value} {κ : K3} {V : Option Int} {L : List Int} {D : List (Int × Int)} {l : Value} (h : SpOK c κ V L D l) (hl : l.oneCell' = true) : (spA c (offK κ)).all (·.oneCell') = true := by
  refine Array.all_eq_true_iff_forall_mem.2 (fun v hv => ?_)
  obtain ⟨o, ho, rfl⟩ := Array.mem_iff_getElem.1 hv
  rw [spA_size] at ho
  have h1 := spA_at c (offK κ) o ho
  rw [Array.getElem?_eq_getElem (by rw [spA_size]; exact ho)] at h1
  rw [Option.some.inj h1]
  exact h.one hl ho

set_option maxRecDepth 100000 in
set_option maxHeartbeats 1000000 in
theorem refCells {w : World} {O : Nat → Prop} {r : Nat} {a : Ab} (h : Rf w O r a) :
    Calls Tryz.prog 27 #[.pointer (some ⟨r, 0, none⟩)] w fun e w' => ∃ v, e = .returned v ∧ ∃ xs ks, Kof a ks ∧ xs.map Cr.c = ks.map a.at ∧ OwnQ w' w.heap.size v xs ∧ Below w.heap.size w w' := by
  obtain ⟨c, lv, hB, hS, hR⟩ := h.dat
  have HB := hide hB
  have HS := hide hS
  have HR := hide (fun κ hκ => (hR κ hκ).1)
  have HU := hide h.out
  have HK := hide h.ok
  have HL := hide h.ll
  clear hB hS hR h
  go_enter Tryz.func27, Tryz.ntmps27
  go_wp2
  go_loopg [3, 4, 5, 6, 7, 8, 9] 4 (fun gm v _ _ _ _ _ ix wr => ∃ t : Nat, gm = 4 - t ∧ t ≤ 4 ∧ ix = .int .i64 t ∧ Hid (CsD w wr a (t * 48) v))
  case atStart => exact ⟨0, rfl, by omega, rfl, CsD.zero w a⟩
  case round =>
    obtain ⟨g, rfl, hg, rfl, H1⟩ := hrel
    by_cases hgl : g < 4
    · have hdg : decide ((g : Int) < 4) = true := decide_eq_true (by omega)
      go_wp2_with fail
      try simp only [hdg]
      clear hdg
      go_loopg [3, 5, 6, 7, 8, 12] 2 (fun gm v _ _ _ _ ix wr => ∃ t : Nat, gm = 2 - t ∧ t ≤ 2 ∧ ix = .int .i64 t ∧ Hid (CsD w wr a (g * 48 + t * 24) v))
      case atStart => exact ⟨0, rfl, by omega, rfl, H1⟩
      case round =>
        clear H1
        obtain ⟨n, rfl, hn, rfl, H1⟩ := hrel
        by_cases hnl : n < 2
        · have hdn : decide ((n : Int) < 2) = true := decide_eq_true (by omega)
          go_wp2_with fail
          try simp only [hdn]
          clear hdn
          go_loopg [3, 6, 7, 8, 15] 24 (fun gm v _ _ _ ix wr => ∃ t : Nat, gm = 24 - t ∧ t ≤ 24 ∧ ix = .int .i64 t ∧ Hid (CsD w wr a (g * 48 + n * 24 + t) v))
          case atStart => exact ⟨0, rfl, by omega, rfl, H1⟩
          case round =>
            clear H1
            obtain ⟨i, rfl, hi, rfl, H1⟩ := hrel
            by_cases hil : i < 24
            · have hκ : InK (kN g n i hgl hnl hil) := ⟨by show (0 : Int) ≤ (g : Int); omega, by show (g : Int) < 4; omega, by show (0 : Int) ≤ (n : Int); omega, by show (n : Int) < 2; omega, by show (0 : Int) ≤ (i : Int); omega, by show (i : Int) < 24; omega⟩
              have hp : offK (kN g n i hgl hnl hil) = g * 912 + n * 456 + i * 19 := by
                show (g : Int).toNat * 912 + (n : Int).toNat * 456 + (i : Int).toNat * 19 = _
                simp
              have hkg : (kN g n i hgl hnl hil).g = (g : Int) := rfl
              have hkn : (kN g n i hgl hnl hil).n = (n : Int) := rfl
              have hki : (kN g n i hgl hnl hil).i = (i : Int) := rfl
              have hpl : g * 912 + n * 456 + i * 19 + 19 ≤ 3648 := by omega
              generalize kN g n i hgl hnl hil = κ at *
              have hsp := HS.out κ hκ
              have hrow := HR.out κ hκ
              obtain ⟨la, lc, e1, hrd, _⟩ := RowI.slice hrow
              have hBr := HB.out.at (H1.out.bel.block _ HB.out.lt)
              have hrg := spA_range hBr hpl
              have hone := spA_one hsp (rowI_one hrow)
              rw [hp] at hone
              obtain ⟨hth, hbw, hbq⟩ := spBox wr c (g * 912 + n * 456 + i * 19)
              have hsi : (Tryz.prog.info? 92).map (·.size) = some (spA c (g * 912 + n * 456 + i * 19)).toList.length := by rw [infoSp, Array.length_toList, spA_size]
              have hsi2 : (Tryz.prog.info? 92).map (·.size) = some (spA c (g * 912 + n * 456 + i * 19)).size := by rw [infoSp, spA_size]
              have g0 : (0 : Int) ≤ (g : Int) := by omega
              have g1 : (g : Int) < 4 := by omega
              have n0 : (0 : Int) ≤ (n : Int) := by omega
              have n1 : (n : Int) < 2 := by omega
              have i0 : (0 : Int) ≤ (i : Int) := by omega
              have i1 : (i : Int) < 24 := by omega
              have Hrg := hide hrg
              have Hone := hide hone
              have Hth := hide hth
              have Hsi := hide (And.intro hsi hsi2)
              have Hrg2 := hide (spA_own hbq)
              have HBW := hide hbw
              have HCF : Hid (∀ W, Calls Tryz.prog 53 #[.agg (spA c (g * 912 + n * 456 + i * 19))] W fun e w' => ∃ v, e = .returned v ∧ OwnF w' W.heap.size v (a.D κ) ∧ Below W.heap.size W w') := fun W => by
                rw [← hp]
                exact refFields c κ _ _ _ _ hsp (HK.out κ) W
              have H2 : Hid (CsD w ((wr.alloc (.cells spotZ.toArray 92)).setCells wr.heap.size 0 (spA c (g * 912 + n * 456 + i * 19)).toList) a (g * 48 + n * 24 + i) _) := H1.out.later hbw
              have HW1 : Hid (wr.heap.size < ((wr.alloc (.cells spotZ.toArray 92)).setCells wr.heap.size 0 (spA c (g * 912 + n * 456 + i * 19)).toList).heap.size) := lt_of_heap hbq
              have HBQ := hide hbq
              have HSP := hide hsp
              have HRW := hide (And.intro e1 hrow)
              clear hsp hrow hrd e1 hBr hrg hone hth hbw hbq hsi hsi2 H1
              obtain ⟨A, hA⟩ : ∃ A, spA c (g * 912 + n * 456 + i * 19) = A := ⟨_, rfl⟩
              rw [hA] at Hrg Hone Hth Hsi Hrg2 HBW HCF H2 HW1 HBQ
              have HA := hide hA
              clear hA
              go_wp2_with (first | (refine wpList_load_mid rfl 92 _ rfl r (g * 912 + n * 456 + i * 19) rfl A.toList _ Hrg.out Tryz.underlying92 rfl Hsi.out.1 ?_) | (refine wpList_allocSp rfl rfl ?_) | (refine wpList_store_mid rfl 92 _ _ rfl wr.heap.size 0 A rfl rfl Hth.out Hsi.out.2 Hone.out ?_) | (refine wpList_load_mid rfl 92 _ rfl wr.heap.size 0 rfl A.toList _ Hrg2.out Tryz.underlying92 rfl Hsi.out.1 ?_))
              refine (HCF.out _).mono ?_
              rintro e w2 ⟨v2, rfl, hvo, hb2⟩
              obtain ⟨dp, dc, rfl, hdr⟩ := RowF.rd (row_mono hvo (Nat.zero_le _))
              have hq2 := (hb2.block _ HW1.out).trans HBQ.out
              rw [← HA.out] at hq2
              have x0 := spA_cell hq2 (t := 0) (by omega)
              have x1 := spA_cell hq2 (t := 1) (by omega)
              have x2 := spA_cell hq2 (t := 2) (by omega)
              rw [← hp] at x0 x1 x2
              rw [Nat.add_zero, HSP.out.h] at x0
              rw [HSP.out.v] at x1
              rw [HSP.out.l, HRW.out.1] at x2
              have H3 := hide (H2.out.later hb2)
              have hcr : CrOK w2 0 ⟨a.at κ, .slice la (a.L κ).length lc, .slice dp (a.D κ).length dc⟩ := ⟨by rw [← HRW.out.1]; exact RowO.later HRW.out.2 (H2.out.bel.trans (hb2.mono H2.out.bel.size)), row_mono hvo (Nat.zero_le _)⟩
              obtain ⟨ks, xs, d1, d2, d3, hown, d5⟩ := H3.out.dat
              obtain ⟨v', w', hrun, hrow', hbel'⟩ := appC1 hown ⟨a.at κ, .slice la (a.L κ).length lc, .slice dp (a.D κ).length dc⟩ hcr (by omega) H3.out.bel.size
              have hm : offK κ = 19 * (g * 48 + n * 24 + i) := by rw [hp]; omega
              have HX : Hid (NeK a κ → CsD w w' a (g * 48 + n * 24 + (i + 1)) v') := fun hne => CsD.add d1 d2 d3 d5 H3.out.bel hκ hm hne _ rfl hrow' hbel'
              have HY : Hid (¬ NeK a κ → CsD w w2 a (g * 48 + n * 24 + (i + 1)) _) := fun hne => H3.out.skip hκ hm hne
              have hrun2 : ∀ ty, (Builtin.append_ #[65, 65] ty #[_, .slice (some ⟨w2.heap.size, 0, none⟩) 1 1]).run Tryz.prog (w2.alloc (.cells #[.int .i64 κ.g, .int .i64 κ.n, .int .i64 κ.i, .bool (a.V κ).isSome, .int .i64 ((a.V κ).getD 0), .slice la (a.L κ).length lc, .slice dp (a.D κ).length dc] 73)) = .ok v' w' := hrun
              rw [hkg, hkn, hki] at hrun2
              have HNE : Hid (NeK a κ ↔ ((a.V κ).isSome = true ∨ 0 < (a.L κ).length ∨ 0 < (a.D κ).length)) := by
                show NeK a κ ↔ _
                unfold NeK
                rw [List.length_pos_iff, List.length_pos_iff, Option.isSome_iff_ne_none]
              clear HA hrun hrow' hbel' hown hcr hq2 hvo hdr hb2 d1 d2 d3 d5 H3 H2 HRW HSP HBQ HW1 HCF HBW Hrg2 Hsi Hth Hone Hrg
              generalize (a.V κ).isSome = hb at *
              generalize (a.V κ).getD 0 = hv at *
              generalize (a.L κ).length = ln at *
              generalize (a.D κ).length = dn at *
              have HR2 := hide hrun2
              clear hrun2
              cases hb with
              | true =>
                have HZ := hide (HX.out (HNE.out.2 (Or.inl rfl)))
                clear HX HY HNE
                go_wp2_with (at_builtin; refine wpList_ran rfl (.tmp 43) (.tmp 56) _ _ rfl _ _ v' (by rfl) (by rfl) HR2.out ?_)
                go_roundg (24 - (i + 1))
                case measure => omega
                case rel => exact ⟨i + 1, rfl, by omega, by simp, HZ⟩
              | false =>
                by_cases hln : 0 < ln
                · have hlz : (0 : Int) < (ln : Int) := by omega
                  have HZ := hide (HX.out (HNE.out.2 (Or.inr (Or.inl hln))))
                  clear HX HY HNE
                  go_wp2_with (at_builtin; refine wpList_ran rfl (.tmp 43) (.tmp 56) _ _ rfl _ _ v' (by rfl) (by rfl) HR2.out ?_)
                  go_roundg (24 - (i + 1))
                  case measure => omega
                  case rel => exact ⟨i + 1, rfl, by omega, by simp, HZ⟩
                · have hlz : ¬ (0 : Int) < (ln : Int) := by omega
                  by_cases hdn : 0 < dn
                  · have hdz : (0 : Int) < (dn : Int) := by omega
                    have HZ := hide (HX.out (HNE.out.2 (Or.inr (Or.inr hdn))))
                    clear HX HY HNE
                    go_wp2_with (at_builtin; refine wpList_ran rfl (.tmp 43) (.tmp 56) _ _ rfl _ _ v' (by rfl) (by rfl) HR2.out ?_)
                    go_roundg (24 - (i + 1))
                    case measure => omega
                    case rel => exact ⟨i + 1, rfl, by omega, by simp, HZ⟩
                  · have hdz : ¬ (0 : Int) < (dn : Int) := by omega
                    have HZ := hide (HY.out (fun e => by
                      rcases HNE.out.1 e with e | e | e
                      · cases e
                      · exact hln e
                      · exact hdn e))
                    clear HX HY HNE HR2
                    go_wp2
                    go_roundg (24 - (i + 1))
                    case measure => omega
                    case rel => exact ⟨i + 1, rfl, by omega, by simp, HZ⟩
            · have hix : ¬ ((i : Nat) : Int) < 24 := by omega
              have e : g * 48 + n * 24 + i = g * 48 + (n + 1) * 24 := by omega
              rw [e] at H1
              go_wp2
              go_roundg (2 - (n + 1))
              case measure => omega
              case rel => exact ⟨n + 1, rfl, by omega, by simp, H1⟩
        · have hnx : ¬ ((n : Nat) : Int) < 2 := by omega
          have e : g * 48 + n * 24 = (g + 1) * 48 := by omega
          rw [e] at H1
          go_wp2
          go_roundg (4 - (g + 1))
          case measure => omega
          case rel => exact ⟨g + 1, rfl, by omega, by simp, H1⟩
    · have hgx : ¬ ((g : Nat) : Int) < 4 := by omega
      have e : g * 48 = 192 := by omega
      rw [e] at H1
      have HF := hide (H1.out.fin HU.out)
      clear H1
      go_wp2
      go_ret
      obtain ⟨xs, ks, h1, h2, h3, h4⟩ := HF.out
      exact ⟨_, rfl, xs, ks, h1, h2, h3, h4⟩
end Go.Proofs.YtiofkcmdgijjoaaGreat
