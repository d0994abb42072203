/- A field put behind others; the first field of a key. -/
import Derived.Test.YtkchfbigkecodaaGreatDct5
import Derived.Deep.RegionHeld3
namespace Go.Proofs.YtkchfbigkecodaaGreat
open Go.RowKit Go.MapKept Go.ChangeMaps

set_option maxRecDepth 100000 in
/-- slices.Insert of one field at the end of no fields. -/
theorem insert0 (a : Int × Int) (q : Nat) (w : World) (hq : w.heap[q]? = some (fdO a)) :
    Calls Tryz.prog 69 #[.slice none 0 0, .int .i64 0, .slice (some ⟨q, 0, none⟩) 1 1] w fun e w' => ∃ v, e = .returned v ∧ OwnF w' w.heap.size v [a] ∧ Below w.heap.size w w' := by
  obtain ⟨v', W', hrun, h2, h3, _⟩ := run_appF w.heap.size w (.slice none 0 0) [] (World.ownsRow_nil _ _ _ _) ⟨q, 0, none⟩ 1 1 [a] rfl (fdO_cells hq) (by simp) (Nat.le_refl _)
  simp only [List.nil_append] at h2
  have H2 : Hid (OwnF W' w.heap.size v' [a]) := h2
  have H3 := hide ((Below.refl w.heap.size w).grown h3 (Nat.le_refl _) (fun k hk => by cases hk))
  have HR := hide hrun
  clear h2 h3 hrun hq
  go_enter Tryz.func69, Tryz.ntmps69
  go_wp2_with (at_builtin; refine wpList_ran rfl (.tmp 23) (.tmp 24) _ _ rfl _ _ v' (by rfl) (by rfl) HR.out ?_)
  go_ret
  exact ⟨_, rfl, H2.out, H3.out⟩

set_option maxRecDepth 100000 in
/-- with, of no fields. -/
theorem with0 (f n : Int) (w : World) :
    Calls Tryz.prog 47 #[.slice none 0 0, .int .i64 f, .int .i64 n] w fun e w' => ∃ v, e = .returned v ∧ OwnF w' w.heap.size v [(f, n)] ∧ Below w.heap.size w w' := by
  have HP := hide (placeF [] (.slice none 0 0) f w (RowO.nil _ _ _ _) List.Pairwise.nil (by simp))
  have e1 : lowF [] f = 0 := rfl
  have e2 : hasT [] f = false := rfl
  rw [e1, e2] at HP
  clear e1 e2
  go_enter Tryz.func47, Tryz.ntmps47
  go_wp2_with fail
  refine HP.out.mono ?_
  rintro e w1 ⟨rfl, hb⟩
  have hb2 := below_alloc w1 (fdO (f, n)) w1.heap.size (Nat.le_refl _)
  have hbb := hb.trans (hb2.mono hb.size)
  have HI : Hid (Calls Tryz.prog 69 #[.slice none 0 0, .int .i64 0, .slice (some ⟨w1.heap.size, 0, none⟩) 1 1] (w1.alloc (fdO (f, n))) fun e w' => ∃ v, e = .returned v ∧ OwnF w' w.heap.size v [(f, n)] ∧ Below w.heap.size w w') := by
    refine (insert0 (f, n) w1.heap.size _ (heap_alloc_new w1 _)).mono ?_
    rintro e w' ⟨v, r1, r2, r3⟩
    exact ⟨v, r1, row_mono r2 hbb.size, hbb.trans (r3.mono hbb.size)⟩
  unfold fdO at HI
  clear hb hb2 hbb HP
  go_wp2_with fail
  refine HI.out.mono ?_
  rintro e w2 ⟨v, rfl, k1, k2⟩
  have K1 := hide k1
  have K2 := hide k2
  clear k1 k2 HI
  go_wp2
  go_ret
  exact ⟨_, rfl, K1.out, K2.out⟩

theorem same_cell {a b : World} {p : Addr} {v : Value} (h : Below a.heap.size a b) (hc : a.cell? p = some v) : b.cell? p = some v := by
  rw [World.cell?_of_block (h.block _ (World.block_lt_of_cell? a _ hc))]; exact hc
theorem same_cell2 {a b : World} {r : Nat} {p : Addr} {v : Value} (h : a.grownBy b (Option.some r)) (hc : a.cell? p = Option.some v) (hr : p.block ≠ r) : b.cell? p = Option.some v := by
  rw [World.cell?_of_block (h.block _ (World.block_lt_of_cell? a _ hc) (fun e => hr (Option.some.inj e)))]; exact hc
theorem OwnF.some {w : World} {B : Nat} {v : Value} {z : List (Int × Int)} (h : OwnF w B v z) (hz : z ≠ []) : ∃ j, v.ownBlock = some j ∧ B ≤ j := by
  rcases h.2 with ⟨rfl, hn⟩ | ⟨g, cap, cur, rfl, hg, _⟩
  · exact absurd (List.length_eq_zero_iff.1 hn) hz
  · exact ⟨g, rfl, hg⟩

/-- The call of with and the update behind it, at a key that has no fields. -/
theorem Di.put0 {w : World} {O : Nat → Prop} {g N r : Nat} {fd : K3 → List (Int × Int)} {l : List (Ent K3)} {c : Nat} (h : Di w O g fd N (some r) l c) (hO : ∀ k, w.heap.size ≤ k → O k) (k : K3) (hk : fd k = []) (f n : Int) :
    Calls Tryz.prog 47 #[.slice none 0 0, .int .i64 f, .int .i64 n] w fun e w' => ∃ v w2, e = .returned v ∧ (Instr.mapUpdate 96 (.map (some r)) (k3E k) v).run Tryz.prog w' = .ok () w2 ∧ DiS w2 O g (updR fd k [(f, n)]) (N + 1) ∧ Tch O w w2 ∧ Below w.heap.size w w' ∧ w'.grownBy w2 (some r) := by
  have ha : (atE l k).getD (.slice none 0 0) = .slice none 0 0 := by
    rcases h.atK k with ⟨_, h2, _⟩ | ⟨x, _, _, _, h3, _⟩
    · rw [h2]; rfl
    · exact absurd hk h3
  refine (with0 f n w).mono ?_
  rintro e w' ⟨v, r1, r2, r3⟩
  obtain ⟨j, hj, hge⟩ := r2.some (by simp)
  obtain ⟨w2, q1, q2, q3⟩ := h.put undD dicts_ne k [(f, n)] (by simp) (w1 := w') (by rw [ha]; exact below_grown r3 _) v r2.row (Or.inr ⟨j, hj, hge, hO j hge⟩)
  obtain ⟨_, _, hm⟩ := h.made r rfl
  have hm' : Mp k3E w' r l c := hm.at (r3.block r hm.lt)
  have hg : w'.grownBy w2 (Option.some r) := by
    by_cases hs : k ∈ l.map Ent.k
    · obtain ⟨w3, p1, _, p3⟩ := hm'.set k3Keyd undD k v hs
      have e := q1.symm.trans p1
      simp at e
      rw [e]; exact p3
    · obtain ⟨w3, p1, _, p3⟩ := hm'.put k3Keyd undD k v hs
      have e := q1.symm.trans p1
      simp at e
      rw [e]; exact p3
  exact ⟨v, w2, r1, q1, q2, q3, r3, hg⟩

set_option maxRecDepth 100000 in
set_option maxHeartbeats 1600000 in
/-- PutField at a key that has no fields. -/
theorem dictPut0 (O : Nat → Prop) (g N : Nat) (fd : K3 → List (Int × Int)) (k : K3) (f n : Int) (w : World) (h : DiS w O g fd N) (hO : ∀ k, w.heap.size ≤ k → O k) (hk : fd k = []) (h0 : 0 ≤ f) (h8 : f < 8) :
    Calls Tryz.prog 28 #[.pointer (some ⟨g, 0, none⟩), k3E k, .int .i64 f, .int .i64 n] w fun e w' => e = .returned (.int .i64 0) ∧ DiS w' O g (updR fd k [(f, n)]) (N + 1) ∧ Tch O w w' := by
  have hmm := @run_makeMap Tryz.prog
  have hnm := fun (W : World) (r : Option Nat) => run_eql_map_nil (P := Tryz.prog) W 96 28 53 r undD
  have c0 : ¬ f < 0 := by omega
  have c8 : ¬ 8 ≤ f := by omega
  obtain ⟨mo, l, c, h⟩ := h
  have hb := below_alloc w (k3O k) w.heap.size (Nat.le_refl _)
  have h1 := h.later hb
  obtain ⟨q0, qf⟩ := rm_cell h1.obj
  have hbx := heap_alloc_new w (k3O k)
  have hglt := lt_of_heap h.obj
  have ha : (atE l k).getD (.slice none 0 0) = .slice none 0 0 := by
    rcases h.atK k with ⟨_, h2, _⟩ | ⟨x, _, _, _, h3, _⟩
    · rw [h2]; rfl
    · exact absurd hk h3
  cases mo with
  | some r =>
    obtain ⟨x0, x1, x2⟩ := cells_three hbx
    have hD := (Below.refl (w.alloc (k3O k)).heap.size (w.alloc (k3O k))).drew
    have lk : (Instr.lookup 96 (.map (some r)) (k3E k) false).run Tryz.prog (w.alloc (k3O k)).drew = .ok (.slice none 0 0) (w.alloc (k3O k)).drew := by
      rw [Di.look (h1.later hD) k, ha]
    have HC : Hid (Calls Tryz.prog 47 #[.slice none 0 0, .int .i64 f, .int .i64 n] (w.alloc (k3O k)).drew fun e w' => ∃ v w2, e = .returned v ∧ (Instr.mapUpdate 96 (.map (some r)) (k3E k) v).run Tryz.prog w' = .ok () w2 ∧ DiS w2 O g (updR fd k [(f, n)]) (N + 1) ∧ Tch O w w2 ∧ (w'.cell? ⟨g, 0, none⟩ = some (.map (some r)) ∧ w'.cell? ⟨w.heap.size, 0, none⟩ = some (.int .i64 k.g) ∧ w'.cell? ⟨w.heap.size, 1, none⟩ = some (.int .i64 k.n) ∧ w'.cell? ⟨w.heap.size, 2, none⟩ = some (.int .i64 k.i)) ∧ w2.cell? ⟨g, 0, none⟩ = some (.map (some r)) ∧ w2.cell? ⟨w.heap.size, 0, none⟩ = some (.int .i64 k.g) ∧ w2.cell? ⟨w.heap.size, 1, none⟩ = some (.int .i64 k.n) ∧ w2.cell? ⟨w.heap.size, 2, none⟩ = some (.int .i64 k.i)) := by
      refine (Di.put0 (h1.later hD) (fun j hj => hO j (Nat.le_trans (hb.trans (hD.mono hb.size)).size hj)) k hk f n).mono ?_
      rintro e w' ⟨v, w2, r1, r2, r3, r4, r5, r6⟩
      have c0' := same_cell (hD.trans (r5.mono hD.size)) q0
      have c1' := same_cell (hD.trans (r5.mono hD.size)) x0
      have c2' := same_cell (hD.trans (r5.mono hD.size)) x1
      have c3' := same_cell (hD.trans (r5.mono hD.size)) x2
      exact ⟨v, w2, r1, r2, r3, ((Below.tch hb).trans (Below.tch hD)).trans r4, ⟨c0', c1', c2', c3'⟩, same_cell2 r6 c0' (fun e' => (h.made r rfl).2.1 e'.symm), same_cell2 r6 c1' (fun e' => by have := (h.made r rfl).2.2.lt; simp at e'; omega), same_cell2 r6 c2' (fun e' => by have := (h.made r rfl).2.2.lt; simp at e'; omega), same_cell2 r6 c3' (fun e' => by have := (h.made r rfl).2.2.lt; simp at e'; omega)⟩
    clear h h1 hbx hb hO hD ha
    unfold k3O k3E at *
    go_enter Tryz.func28, Tryz.ntmps28
    go_wp2
    go_region_held3 (fun w' => w'.cell? ⟨g, 0, none⟩ = some (.map (some r)) ∧ w'.cell? ⟨w.heap.size, 0, none⟩ = some (.int .i64 k.g) ∧ w'.cell? ⟨w.heap.size, 1, none⟩ = some (.int .i64 k.n) ∧ w'.cell? ⟨w.heap.size, 2, none⟩ = some (.int .i64 k.i)) (first | exact ⟨q0, x0, x1, x2⟩ | exact k4 | exact k8) ((go_at_call 47; refine HC.out.mono ?_; rintro e W1 ⟨v, W2, rfl, k1, k2, k3, k4, k8⟩; have K2 := hide k2; have K3 := hide k3; clear k2 k3))
    all_goals
      clear lk HC x0 x1 x2 q0 qf
      go_wp2
      go_ret
      exact ⟨rfl, K2.out, K3.out⟩
  | none =>
    obtain ⟨h2, hT2, hbx2⟩ := h.fresh hO (k3O k)
    obtain ⟨x0, x1, x2⟩ := cells_three hbx2
    obtain ⟨y0, _⟩ := rm_cell h2.obj
    obtain ⟨W, hW⟩ : ∃ W, W = (((w.setCell ⟨g, 0, none⟩ (.map (some (w.heap.size + 1)))).alloc (k3O k)).alloc (.map #[] 0)) := ⟨_, rfl⟩
    have hD := (Below.refl (((w.setCell ⟨g, 0, none⟩ (.map (some (w.heap.size + 1)))).alloc (k3O k)).alloc (.map #[] 0)).heap.size (((w.setCell ⟨g, 0, none⟩ (.map (some (w.heap.size + 1)))).alloc (k3O k)).alloc (.map #[] 0))).drew
    have lk : (Instr.lookup 96 (.map (some (w.heap.size + 1))) (k3E k) false).run Tryz.prog (((w.setCell ⟨g, 0, none⟩ (.map (some (w.heap.size + 1)))).alloc (k3O k)).alloc (.map #[] 0)).drew = .ok (.slice none 0 0) (((w.setCell ⟨g, 0, none⟩ (.map (some (w.heap.size + 1)))).alloc (k3O k)).alloc (.map #[] 0)).drew := by
      rw [Di.look (h2.later hD) k, atE_nil]; rfl
    have HC : Hid (Calls Tryz.prog 47 #[.slice none 0 0, .int .i64 f, .int .i64 n] (((w.setCell ⟨g, 0, none⟩ (.map (some (w.heap.size + 1)))).alloc (k3O k)).alloc (.map #[] 0)).drew fun e w' => ∃ v w2, e = .returned v ∧ (Instr.mapUpdate 96 (.map (some (w.heap.size + 1))) (k3E k) v).run Tryz.prog w' = .ok () w2 ∧ DiS w2 O g (updR fd k [(f, n)]) (N + 1) ∧ Tch O w w2 ∧ (w'.cell? ⟨g, 0, none⟩ = some (.map (some (w.heap.size + 1))) ∧ w'.cell? ⟨w.heap.size, 0, none⟩ = some (.int .i64 k.g) ∧ w'.cell? ⟨w.heap.size, 1, none⟩ = some (.int .i64 k.n) ∧ w'.cell? ⟨w.heap.size, 2, none⟩ = some (.int .i64 k.i)) ∧ w2.cell? ⟨g, 0, none⟩ = some (.map (some (w.heap.size + 1))) ∧ w2.cell? ⟨w.heap.size, 0, none⟩ = some (.int .i64 k.g) ∧ w2.cell? ⟨w.heap.size, 1, none⟩ = some (.int .i64 k.n) ∧ w2.cell? ⟨w.heap.size, 2, none⟩ = some (.int .i64 k.i)) := by
      refine (Di.put0 (h2.later hD) (fun j hj => hO j (Nat.le_trans hT2.size (Nat.le_trans hD.size hj))) k hk f n).mono ?_
      rintro e w' ⟨v, w2, r1, r2, r3, r4, r5, r6⟩
      have c0' := same_cell (hD.trans (r5.mono hD.size)) y0
      have c1' := same_cell (hD.trans (r5.mono hD.size)) x0
      have c2' := same_cell (hD.trans (r5.mono hD.size)) x1
      have c3' := same_cell (hD.trans (r5.mono hD.size)) x2
      exact ⟨v, w2, r1, r2, r3, ((hT2.mono (fun j _ e' => e' ▸ h.own)).trans (Below.tch hD)).trans r4, ⟨c0', c1', c2', c3'⟩, same_cell2 r6 c0' (fun e' => by simp at e'; omega), same_cell2 r6 c1' (fun e' => by simp at e'), same_cell2 r6 c2' (fun e' => by simp at e'), same_cell2 r6 c3' (fun e' => by simp at e')⟩
    clear h h1 h2 hbx hbx2 hb hT2 hO hD ha hW
    unfold k3O k3E at *
    go_enter Tryz.func28, Tryz.ntmps28
    go_wp2
    go_region_held3 (fun w' => w'.cell? ⟨g, 0, none⟩ = some (.map (some (w.heap.size + 1))) ∧ w'.cell? ⟨w.heap.size, 0, none⟩ = some (.int .i64 k.g) ∧ w'.cell? ⟨w.heap.size, 1, none⟩ = some (.int .i64 k.n) ∧ w'.cell? ⟨w.heap.size, 2, none⟩ = some (.int .i64 k.i)) (first | exact ⟨y0, x0, x1, x2⟩ | exact k4 | exact k8) ((go_at_call 47; refine HC.out.mono ?_; rintro e W1 ⟨v, W2, rfl, k1, k2, k3, k4, k8⟩; have K2 := hide k2; have K3 := hide k3; clear k2 k3))
    all_goals
      clear lk HC x0 x1 x2 q0 qf y0
      go_wp2
      go_ret
      exact ⟨rfl, K2.out, K3.out⟩
end Go.Proofs.YtkchfbigkecodaaGreat
