/- What package list does: New, put, Push. -/
import Derived.Test.YtkchfbigkecodaaGreatLst1
import Derived.Test.YtkchfbigkecodaaGreatMutL
namespace Go.Proofs.YtkchfbigkecodaaGreat
open Go.RowKit Go.MapKept Go.ChangeMaps

set_option maxRecDepth 100000 in
theorem listNew (w : World) : Calls Tryz.prog 22 #[] w fun e w' => e = .returned (.pointer (some ⟨w.heap.size, 0, none⟩)) ∧ w' = w.alloc (rmObj 92 none) := by
  go_enter Tryz.func22, Tryz.ntmps22
  go_wp2
  go_ret
  exact ⟨rfl, rfl⟩

/-- The map that put makes. -/
theorem Rm.fresh {α : Type} {T e : TypeId} {sz : Nat} {C : α → List Value} {w : World} {O : Nat → Prop} {g N : Nat} {f : K3 → List α} {l : List (Ent K3)} {c : Nat} (h : Rm T e sz C w O g f N none l c) (hO : ∀ k, w.heap.size ≤ k → O k) (o : Obj) :
    Rm T e sz C (((w.setCell ⟨g, 0, none⟩ (.map (some (w.heap.size + 1)))).alloc o).alloc (.map #[] 0)) O g f N (some (w.heap.size + 1)) [] 0 ∧
    Tch (fun k => k = g) w (((w.setCell ⟨g, 0, none⟩ (.map (some (w.heap.size + 1)))).alloc o).alloc (.map #[] 0)) ∧
    (((w.setCell ⟨g, 0, none⟩ (.map (some (w.heap.size + 1)))).alloc o).alloc (.map #[] 0)).heap[w.heap.size]? = some o := by
  have hglt := lt_of_heap h.obj
  have hl := h.nomap rfl
  subst hl
  have hs0 : (w.setCell ⟨g, 0, none⟩ (.map (some (w.heap.size + 1)))).heap.size = w.heap.size := by simp [World.setCell]
  have hs1 : ((w.setCell ⟨g, 0, none⟩ (.map (some (w.heap.size + 1)))).alloc o).heap.size = w.heap.size + 1 := by simp [hs0]
  refine ⟨⟨?_, h.own, fun r e => ?_, fun e => (by cases e), fun x hx => (by simp at hx), h.non, fun x hx => (by simp at hx), h.len⟩, ?_, ?_⟩
  · rw [Below.heap_alloc _ _ _ (by rw [hs1]; omega), Below.heap_alloc _ _ _ (by rw [hs0]; omega)]
    exact rm_set h.obj _
  · cases e
    have hmp := Mp.new (E := k3E) ((w.setCell ⟨g, 0, none⟩ (.map (some (w.heap.size + 1)))).alloc o)
    rw [hs1] at hmp
    exact ⟨hO _ (by omega), by omega, hmp⟩
  · exact (((Tch.of (grown_setCell w g 0 (.map (some (w.heap.size + 1))))).mono (fun k _ e => by simpa using e)).trans (Below.tch (below_alloc _ _ _ (Nat.le_refl _)))).trans (Below.tch (below_alloc _ _ _ (Nat.le_refl _)))
  · rw [Below.heap_alloc _ _ _ (by rw [hs1]; omega)]
    have := heap_alloc_new (w.setCell ⟨g, 0, none⟩ (.map (some (w.heap.size + 1)))) o
    rwa [hs0] at this

set_option maxRecDepth 100000 in
set_option maxHeartbeats 1600000 in
theorem listPut (O : Nat → Prop) (g N : Nat) (f : K3 → List Int) (k : K3) (ao : Option Addr) (m cp : Nat) (z : List Int) (w : World) (h : LiS w O g f N) (hO : ∀ k, w.heap.size ≤ k → O k) (hr : Rd w ao m cp z) (hz : z ≠ []) (hsz : (f k).length + m ≤ 100000) :
    Calls Tryz.prog 44 #[.pointer (some ⟨g, 0, none⟩), k3E k, .slice ao m cp] w fun e w' => e = .returned (.tuple #[]) ∧ LiS w' O g (updR f k (f k ++ z)) (N + 1) ∧ Tch O w w' := by
  have hmm := @run_makeMap Tryz.prog
  have hnm := fun (W : World) (r : Option Nat) => run_eql_map_nil (P := Tryz.prog) W 42 28 29 r undL
  obtain ⟨mo, l, c, h⟩ := h
  have hb := below_alloc w (k3O k) w.heap.size (Nat.le_refl _)
  have h1 := h.later hb
  obtain ⟨q0, qf⟩ := rm_cell h1.obj
  have hbx := heap_alloc_new w (k3O k)
  have hglt := lt_of_heap h.obj
  cases mo with
  | some r =>
    obtain ⟨x0, x1, x2⟩ := cells_three hbx
    have hD := (Below.refl (w.alloc (k3O k)).heap.size (w.alloc (k3O k))).drew
    obtain ⟨W1, b, v0, v1, W2, W3, e1, e2, e3, hV, hT⟩ := Li.app (h1.later hD) (fun j hj => hO j (by simp at hj; omega)) k ao m cp z ((hr.later hb).later hD) hz hsz
    have HV := hide hV
    have HT : Hid (Tch O w W3) := ((Below.tch hb).trans (Below.tch hD)).trans hT
    have HE2 := hide e2
    clear h h1 hbx hb hV hT hO hD hr e2
    unfold k3O k3E at *
    go_enter Tryz.func44, Tryz.ntmps44
    go_wp2
    go_region_law (refine step_ran rfl _ _ _ _ rfl v0 (.slice ao m cp) v1 (by rfl) (by rfl) HE2.out ?_)
    all_goals
      go_wp2
      go_end0
      exact ⟨rfl, HV.out, HT.out⟩
  | none =>
    obtain ⟨h2, hT2, hbx2⟩ := h.fresh hO (k3O k)
    obtain ⟨x0, x1, x2⟩ := cells_three hbx2
    obtain ⟨y0, _⟩ := rm_cell h2.obj
    have hr2 := hr.tch hT2 (fun j hj a y ha => no_int_rm (k := j) (by subst hj; exact h.obj) a y ha)
    have hD := (Below.refl (((w.setCell ⟨g, 0, none⟩ (.map (some (w.heap.size + 1)))).alloc (k3O k)).alloc (.map #[] 0)).heap.size (((w.setCell ⟨g, 0, none⟩ (.map (some (w.heap.size + 1)))).alloc (k3O k)).alloc (.map #[] 0))).drew
    obtain ⟨W1, b, v0, v1, W2, W3, e1, e2, e3, hV, hT⟩ := Li.app (h2.later hD) (fun j hj => hO j (by have := hT2.size; have h5 : w.heap.size ≤ j := Nat.le_trans this hj; exact h5)) k ao m cp z (hr2.later hD) hz hsz
    have HV := hide hV
    have HT : Hid (Tch O w W3) := ((hT2.mono (fun j _ e' => e' ▸ h.own)).trans (Below.tch hD)).trans hT
    have HE2 := hide e2
    clear h h1 h2 hbx hbx2 hb hV hT hT2 hO hD hr hr2 e2
    unfold k3O k3E at *
    go_enter Tryz.func44, Tryz.ntmps44
    go_wp2
    go_region_law (refine step_ran rfl _ _ _ _ rfl v0 (.slice ao m cp) v1 (by rfl) (by rfl) HE2.out ?_)
    all_goals
      go_wp2
      go_end0
      exact ⟨rfl, HV.out, HT.out⟩
end Go.Proofs.YtkchfbigkecodaaGreat
