/- The document's state: a spot's fields. -/
import Derived.Test.YtgglokfpafbmeaaGreatRefV
namespace Go.Proofs.YtgglokfpafbmeaaGreat
open Go.RowKit Go.MapKept Go.ChangeMaps

theorem fil_none {z : List (Int × Int)} {t : Int} (h : ∀ p ∈ z, t ≤ p.1) : (z.filter fun p => decide (p.1 < t)) = [] := by
  rw [List.filter_eq_nil_iff]
  intro p hp e
  have := h p hp
  have := of_decide_eq_true e
  omega
theorem fil_all {z : List (Int × Int)} {t : Int} (h : ∀ p ∈ z, p.1 < t) : (z.filter fun p => decide (p.1 < t)) = z := by
  rw [List.filter_eq_self]
  intro p hp
  exact decide_eq_true (h p hp)
theorem fil_next {z : List (Int × Int)} (hz : RiseF z) (t : Int) : (z.filter fun p => decide (p.1 < t + 1)) = (z.filter fun p => decide (p.1 < t)) ++ (match fldZ z t with | some v => [(t, v)] | none => []) := by
  induction z with
  | nil => rfl
  | cons x z ih =>
    have hz' : RiseF z := (List.pairwise_cons.1 hz).2
    have hx := (List.pairwise_cons.1 hz).1
    rcases Int.lt_trichotomy x.1 t with h | h | h
    · rw [List.filter_cons_of_pos (by exact decide_eq_true (by omega)), List.filter_cons_of_pos (by exact decide_eq_true (by omega)), fld_lt h, ih hz', List.cons_append]
    · rw [List.filter_cons_of_pos (by exact decide_eq_true (by omega)), List.filter_cons_of_neg (by simp; omega), fld_eq hz h, fil_none (fun p hp => by have := hx p hp; omega), fil_none (fun p hp => by have := hx p hp; omega)]
      obtain ⟨x1, x2⟩ := x
      simp only at h
      subst h
      rfl
    · rw [List.filter_cons_of_neg (by simp; omega), List.filter_cons_of_neg (by simp; omega), fld_gt hz h, fil_none (fun p hp => by have := hx p hp; omega), fil_none (fun p hp => by have := hx p hp; omega)]
      rfl
theorem fil_nextN {z : List (Int × Int)} (hz : RiseF z) (t : Nat) : (z.filter fun p => decide (p.1 < ((t + 1 : Nat) : Int))) = (z.filter fun p => decide (p.1 < (t : Int))) ++ (match fldZ z (t : Int) with | some v => [((t : Int), v)] | none => []) := by
  have := fil_next hz (t : Int)
  rw [show ((t + 1 : Nat) : Int) = (t : Int) + 1 by omega]
  exact this

/-- The cells of a spot. -/
def spA (c : Nat → Value) (p : Nat) : Array Value := ((List.range 19).map fun t => c (p + t)).toArray
theorem spA_size (c : Nat → Value) (p : Nat) : (spA c p).size = 19 := by simp [spA]
theorem spA_at (c : Nat → Value) (p t : Nat) (ht : t < 19) : (spA c p)[t]? = some (c (p + t)) := by
  unfold spA
  simp [ht]
theorem spA_cell {w : World} {q : Nat} {c : Nat → Value} {p : Nat} {e : TypeId} {x : Nat × Nat} (h : w.heap[q]? = some (.cells (spA c p) e x)) {t : Nat} (ht : t < 19) : w.cell? ⟨q, t, none⟩ = some (c (p + t)) := by
  simp [World.cell?, h, spA_at c p t ht]
theorem run_boxSp (w : World) (c : Nat → Value) (p : Nat) : (Instr.box 104 (.agg (spA c p))).run Tryz.prog w = .ok (.pointer (some ⟨w.heap.size, 0, none⟩)) (w.alloc (.cells (spA c p) 104)) := by
  simp [Instr.box, newVar, newRow, Value.cells]

/-- append(fields, Field{t, v}). -/
theorem appF1 (w : World) (B : Nat) (v : Value) (z : List (Int × Int)) (h : OwnF w B v z) (a : Int × Int) (hsz : z.length ≤ 1000) (hB : B ≤ w.heap.size) :
    ∃ v' w', (∀ ty, (Builtin.append_ #[39, 39] ty #[v, .slice (some ⟨w.heap.size, 0, none⟩) 1 1]).run Tryz.prog (w.alloc (fdO a)) = .ok v' w') ∧ OwnF w' B v' (z ++ [a]) ∧ Below B w w' := by
  have hb := below_alloc w (fdO a) w.heap.size (Nat.le_refl _)
  have h1 : OwnF (w.alloc (fdO a)) B v z := own_tch (S := fun _ => False) (Below.tch hb) h (fun _ _ e => e)
  obtain ⟨v', w', r, o, g, _⟩ := run_appF B (w.alloc (fdO a)) v z h1 ⟨w.heap.size, 0, none⟩ 1 1 [a] rfl (fdO_cells (heap_alloc_new w _)) (by omega) (by have := hb.size; omega)
  exact ⟨v', w', r, o, (below_alloc w (fdO a) B hB).grown g (by have := hb.size; omega) (fun k hk => (World.ownsRow.lt h k hk).1)⟩

set_option maxRecDepth 100000 in
set_option maxHeartbeats 2000000 in
theorem refFields (c : Nat → Value) (κ : K3) (V : Option Int) (L : List Int) (D : List (Int × Int)) (l : Value) (h : SpOK c κ V L D l) (hD : OkF D) (w : World) :
    Calls Tryz.prog 61 #[.agg (spA c (offK κ))] w fun e w' => ∃ v, e = .returned v ∧ OwnF w' w.heap.size v D ∧ Below w.heap.size w w' := by
  have hb := below_alloc w (.cells (spA c (offK κ)) 104) w.heap.size (Nat.le_refl _)
  have hq := heap_alloc_new w (.cells (spA c (offK κ)) 104)
  have hqs : (w.alloc (.cells (spA c (offK κ)) 104)).heap.size = w.heap.size + 1 := by simp
  have HS := hide h
  have HD := hide hD
  have hbx := run_boxSp w c (offK κ)
  clear h hD
  go_enter Tryz.func61, Tryz.ntmps61
  go_wp2
  have HB := hide hb
  have HQ := hide hq
  have HZ := hide hqs
  clear hb hq hqs hbx
  generalize w.alloc (.cells (spA c (offK κ)) 104) = W at *
  generalize hqn : w.heap.size = q at *
  go_loopw [3, 4] (fun v i wr => ∃ t : Nat, t ≤ 8 ∧ i = .int .i64 t ∧ Hid (OwnF wr W.heap.size v (D.filter fun p => decide (p.1 < (t : Int))) ∧ Below W.heap.size W wr)) (fun _ i _ => 8 - (intOf i).toNat)
  case atStart =>
    refine ⟨0, by omega, rfl, ?_, Below.refl _ _⟩
    rw [fil_none (t := ((0 : Nat) : Int)) (fun p hp => (HD.out.2 p hp).1)]
    exact World.ownsRow_nil _ _ _ _
  case round =>
    obtain ⟨t, ht, rfl, HI⟩ := hrel
    by_cases hlt : t < 8
    · have t0 : (0 : Int) ≤ (t : Int) := by omega
      have t1 : (t : Int) < 8 := by omega
      have hh := (HI.out.2.block _ (by have := HZ.out; omega)).trans HQ.out
      have c1 : wr.cell? ⟨q, 3 + t, none⟩ = some (.bool (fldZ D (t : Int)).isSome) := by
        rw [spA_cell hh (by omega), ← Nat.add_assoc, HS.out.i t hlt]
      have c2 : wr.cell? ⟨q, 11 + t, none⟩ = some (.int .i64 ((fldZ D (t : Int)).getD 0)) := by
        rw [spA_cell hh (by omega), ← Nat.add_assoc, HS.out.d t hlt]
      have HN := hide (fil_nextN HD.out.1 t)
      clear hh
      cases hf : fldZ D (t : Int) with
      | none =>
        rw [hf] at c1 HN
        simp only [Option.isSome_none] at c1
        have h1 := HI.out
        have e := HN.out
        simp only [List.append_nil] at e
        rw [← e] at h1
        have HE := hide h1
        clear h1 e
        clear c2 HN hf HI
        go_wp2
        exact ⟨⟨t + 1, by omega, by simp, HE⟩, by simp [intOf]; omega⟩
      | some x =>
        rw [hf] at c1 c2 HN
        simp only [Option.isSome_some] at c1
        simp only [Option.getD_some] at c2
        obtain ⟨v', w', r, o, b⟩ := appF1 wr W.heap.size _ _ HI.out.1 ((t : Int), x) (Nat.le_trans (List.length_filter_le _ _) (by have := OkF.le HD.out; omega)) HI.out.2.size
        have HR := hide r
        have e := HN.out
        simp only at e
        rw [← e] at o
        have HE := hide (And.intro o (HI.out.2.trans b))
        clear e
        clear r o b HN hf HI
        go_wp2_with (at_builtin; refine wpList_ran rfl (.tmp 13) (.tmp 20) _ _ rfl _ _ v' (by rfl) (by rfl) HR.out ?_)
        exact ⟨⟨t + 1, by omega, by simp, HE⟩, by simp [intOf]; omega⟩
    · have e : (D.filter fun p => decide (p.1 < (t : Int))) = D := fil_all (fun p hp => by have := (HD.out.2 p hp).2; omega)
      have h1 := HI.out.1
      rw [e] at h1
      have HF := hide (And.intro (row_mono h1 (B' := q) (by have := HZ.out; omega)) (HB.out.trans (HI.out.2.mono (by have := HZ.out; omega))))
      clear h1 e
      clear HI
      go_wp2
      go_ret
      rw [hqn]
      exact ⟨_, rfl, HF.out.1, HF.out.2⟩
end Go.Proofs.YtgglokfpafbmeaaGreat
