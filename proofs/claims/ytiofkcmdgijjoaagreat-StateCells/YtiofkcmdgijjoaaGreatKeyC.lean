/- Keys of the laws; numbers that are made. -/
import Derived.Test.YtiofkcmdgijjoaaGreatRowM
import Derived.Test.YtiofkcmdgijjoaaGreatLst1
import Derived.Test.YtiofkcmdgijjoaaGreatMutL
import Derived.Laws.OwnMore
namespace Go.Proofs.YtiofkcmdgijjoaaGreat
open Go.RowKit Go.MapKept Go.ChangeMaps

def k103 : K3 := ⟨(1, 0, 3), by decide, by decide, by decide⟩
set_option maxRecDepth 100000 in
theorem key_103 (w : World) : Calls Tryz.prog 20 #[.int .i64 1, .int .i64 0, .int .i64 3] w fun e w' => e = .returned (.agg #[.int .i64 1, .int .i64 0, .int .i64 3]) ∧ Below w.heap.size w w' := by
  go_enter Tryz.func20, Tryz.ntmps20
  go_wp2
  have eb : bits BinOp.and IntKind.i64 0 1 = 0 := by decide
  rw [eb]
  obtain ⟨q0, q1, q2⟩ := cells_three (heap_alloc_new w (.cells #[.int .i64 1, .int .i64 0, .int .i64 3] 28))
  refine bodyPost_ret (v := .agg #[.int .i64 1, .int .i64 0, .int .i64 3]) (by simp [results, Tryz.results20, go_sem, q0, q1, q2]) rfl ⟨rfl, below_alloc _ _ _ (Nat.le_refl _)⟩

def k113 : K3 := ⟨(1, 1, 3), by decide, by decide, by decide⟩
set_option maxRecDepth 100000 in
theorem key_113 (w : World) : Calls Tryz.prog 20 #[.int .i64 1, .int .i64 1, .int .i64 3] w fun e w' => e = .returned (.agg #[.int .i64 1, .int .i64 1, .int .i64 3]) ∧ Below w.heap.size w w' := by
  go_enter Tryz.func20, Tryz.ntmps20
  go_wp2
  have eb : bits BinOp.and IntKind.i64 1 1 = 1 := by decide
  rw [eb]
  obtain ⟨q0, q1, q2⟩ := cells_three (heap_alloc_new w (.cells #[.int .i64 1, .int .i64 1, .int .i64 3] 28))
  refine bodyPost_ret (v := .agg #[.int .i64 1, .int .i64 1, .int .i64 3]) (by simp [results, Tryz.results20, go_sem, q0, q1, q2]) rfl ⟨rfl, below_alloc _ _ _ (Nat.le_refl _)⟩

def k317 : K3 := ⟨(3, 1, 7), by decide, by decide, by decide⟩
set_option maxRecDepth 100000 in
theorem key_317 (w : World) : Calls Tryz.prog 20 #[.int .i64 3, .int .i64 1, .int .i64 7] w fun e w' => e = .returned (.agg #[.int .i64 3, .int .i64 1, .int .i64 7]) ∧ Below w.heap.size w w' := by
  go_enter Tryz.func20, Tryz.ntmps20
  go_wp2
  have eb : bits BinOp.and IntKind.i64 1 1 = 1 := by decide
  rw [eb]
  obtain ⟨q0, q1, q2⟩ := cells_three (heap_alloc_new w (.cells #[.int .i64 3, .int .i64 1, .int .i64 7] 28))
  refine bodyPost_ret (v := .agg #[.int .i64 3, .int .i64 1, .int .i64 7]) (by simp [results, Tryz.results20, go_sem, q0, q1, q2]) rfl ⟨rfl, below_alloc _ _ _ (Nat.le_refl _)⟩

def k000 : K3 := ⟨(0, 0, 0), by decide, by decide, by decide⟩
set_option maxRecDepth 100000 in
theorem key_000 (w : World) : Calls Tryz.prog 20 #[.int .i64 0, .int .i64 0, .int .i64 0] w fun e w' => e = .returned (.agg #[.int .i64 0, .int .i64 0, .int .i64 0]) ∧ Below w.heap.size w w' := by
  go_enter Tryz.func20, Tryz.ntmps20
  go_wp2
  have eb : bits BinOp.and IntKind.i64 0 1 = 0 := by decide
  rw [eb]
  obtain ⟨q0, q1, q2⟩ := cells_three (heap_alloc_new w (.cells #[.int .i64 0, .int .i64 0, .int .i64 0] 28))
  refine bodyPost_ret (v := .agg #[.int .i64 0, .int .i64 0, .int .i64 0]) (by simp [results, Tryz.results20, go_sem, q0, q1, q2]) rfl ⟨rfl, below_alloc _ _ _ (Nat.le_refl _)⟩

def k219 : K3 := ⟨(2, 1, 9), by decide, by decide, by decide⟩
set_option maxRecDepth 100000 in
theorem key_219 (w : World) : Calls Tryz.prog 20 #[.int .i64 2, .int .i64 1, .int .i64 9] w fun e w' => e = .returned (.agg #[.int .i64 2, .int .i64 1, .int .i64 9]) ∧ Below w.heap.size w w' := by
  go_enter Tryz.func20, Tryz.ntmps20
  go_wp2
  have eb : bits BinOp.and IntKind.i64 1 1 = 1 := by decide
  rw [eb]
  obtain ⟨q0, q1, q2⟩ := cells_three (heap_alloc_new w (.cells #[.int .i64 2, .int .i64 1, .int .i64 9] 28))
  refine bodyPost_ret (v := .agg #[.int .i64 2, .int .i64 1, .int .i64 9]) (by simp [results, Tryz.results20, go_sem, q0, q1, q2]) rfl ⟨rfl, below_alloc _ _ _ (Nat.le_refl _)⟩

/-- What make([]int64, n) lays. -/
theorem made_i64 (n : Nat) (hn : n ≤ 1000000) (w : World) : (Instr.makeSlice 29 (.int .i64 n) (.int .i64 (n : Int))).run Tryz.prog w = .ok (.slice (some ⟨w.heap.size, 0, none⟩) n n) (w.alloc (.cells (madeCells #[.int .i64 0] n) 2)) := by
  obtain ⟨i0, hi, hz0, hz1, hz2⟩ := info_parts infoI
  rw [run_make (P := Tryz.prog) w 29 2 i0 _ Tryz.underlying29 hi hz0 .i64 .i64 n (n : Int) (by omega) (by omega) (by rw [hz2]; omega) (by omega), hz1, Int.toNat_natCast, Nat.mul_one]
  rfl
theorem rd_made (n : Nat) (w : World) : Rd (w.alloc (.cells (madeCells #[.int .i64 0] n) 2)) (some ⟨w.heap.size, 0, none⟩) n n (List.replicate n 0) := by
  have hh := heap_alloc_new w (.cells (madeCells #[.int .i64 0] n) 2)
  generalize w.alloc (.cells (madeCells #[.int .i64 0] n) 2) = W at hh
  refine ⟨by simp, fun e => (by cases e), fun a ha j u hj => ?_, Nat.le_refl _⟩
  cases ha
  rw [add_none, Nat.zero_add]
  rw [List.map_replicate] at hj
  have hc : (madeCells #[Value.int .i64 0] n)[j]? = some u := by
    rw [← Array.getElem?_toList, toList_madeCells_one]
    exact hj
  simpa [World.cell?, hh] using hc
theorem rd_one (x : Int) (W : World) : Rd (W.alloc (.cells #[.int .i64 x] 2)) (some ⟨W.heap.size, 0, none⟩) 1 1 [x] := by
  have hh := heap_alloc_new W (.cells #[.int .i64 x] 2)
  generalize W.alloc (.cells #[.int .i64 x] 2) = V at hh
  refine ⟨rfl, fun e => (by cases e), fun a ha j u hj => ?_, Nat.le_refl _⟩
  cases ha
  rw [add_none]
  match j, hj with
  | 0, hj => simp at hj; subst hj; simp [World.cell?, hh]
  | j + 1, hj => simp at hj
theorem placeK (at' : Int) (k : Nat) (hk : 0 < k) : ∃ (r : Int) (i : Nat), at'.tmod (k : Int) = r ∧ -(k : Int) < r ∧ r < (k : Int) ∧ (r + (k : Int)) % (k : Int) = (i : Int) ∧ i < k := by
  have h1 := Int.tmod_lt_of_pos at' (b := (k : Int)) (by omega)
  have h2 := Int.lt_tmod_of_pos at' (b := (k : Int)) (by omega)
  refine ⟨_, ((at'.tmod (k : Int) + (k : Int)) % (k : Int)).toNat, rfl, h2, h1, ?_, ?_⟩
  · have := Int.emod_nonneg (at'.tmod (k : Int) + (k : Int)) (b := (k : Int)) (by omega)
    omega
  · have := Int.emod_lt_of_pos (at'.tmod (k : Int) + (k : Int)) (b := (k : Int)) (by omega)
    have := Int.emod_nonneg (at'.tmod (k : Int) + (k : Int)) (b := (k : Int)) (by omega)
    omega
theorem len110 (x : Int) : ∃ (r : Int) (i : Nat), x.tmod 110 = r ∧ -110 < r ∧ r < 110 ∧ (r + 110) % 110 = (i : Int) ∧ i < 110 := by
  obtain ⟨r, i, h1, h2, h3, h4, h5⟩ := placeK x 110 (by omega)
  exact ⟨r, i, h1, by omega, by omega, h4, h5⟩
theorem len30 (x : Int) : ∃ (r : Int) (i : Nat), x.tmod 30 = r ∧ -30 < r ∧ r < 30 ∧ (r + 30) % 30 = (i : Int) ∧ i < 30 := by
  obtain ⟨r, i, h1, h2, h3, h4, h5⟩ := placeK x 30 (by omega)
  exact ⟨r, i, h1, by omega, by omega, h4, h5⟩
end Go.Proofs.YtiofkcmdgijjoaaGreat
