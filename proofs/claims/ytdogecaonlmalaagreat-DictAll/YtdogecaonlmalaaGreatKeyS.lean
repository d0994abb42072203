/- keys.Sorted of maps of keys of state and numbers. keys.Sorted of maps of keys of state and lists. keys.Sorted of maps of keys of state and fields. keys.Sorted of maps of keys of state and lists. -/
import Derived.Test.YtdogecaonlmalaaGreatKeyA
import Derived.Test.YtdogecaonlmalaaGreatKeyI
import Derived.Test.YtdogecaonlmalaaGreatDisk3
namespace Go.Proofs.YtdogecaonlmalaaGreat
open Go.RowKit Go.Sort Go.Shelf

theorem rangeNilV (w : World) : (Instr.range 77 (.map none)).run Tryz.prog w = .ok (.pointer (some ⟨w.heap.size, 0, none⟩)) (w.alloc (.mapIter none 0 #[] 0)) := by
  simp [Instr.range, run_underlying undV]

set_option maxRecDepth 100000 in
set_option maxHeartbeats 1000000 in
theorem keysNilV (n : Nat) (_hn : 1 ≤ n) (Bm : Nat) (w : World) (hBm : w.cell? ⟨Bm, 0, none⟩ = some (.map none)) :
    SeqStopsK Fence.wide n Tryz.prog 149 #[.pointer (some ⟨Bm, 0, none⟩)] (fun x : K3 => #[k3E x]) KeepsWalks (fun ks => ks = []) (fun _ => True) 0 w := by
  intro lp J Jx W hW hJ hJx hY h0
  have hc1 : W.cell? ⟨Bm, 0, none⟩ = some (.map none) := (hW.cell (lt_of_cell hBm)).trans hBm
  have rg := rangeNilV W
  have HN : Hid (∀ ty, (Instr.next (.pointer (some ⟨W.heap.size, 0, none⟩)) false ty).run Tryz.prog (W.alloc (.mapIter none 0 #[] 0)) = .ok (.tuple #[.bool false]) (W.alloc (.mapIter none 0 #[] 0))) := fun ty => by
    have h4 := run_getObj_it (heap_alloc_new W (.mapIter none 0 #[] 0))
    simp [Instr.next, h4]
  have HJ0 := hide (hJ [] W _ none h0 (World.grownBy_alloc W (.mapIter none 0 #[] 0) none) (fun r e => by cases e))
  clear hBm h0
  refine callsIn_of_wp Tryz.func149 rfl trivial ?_ rfl
  simp only [Tryz.ntmps149, List.size_toArray, List.length_cons, List.length_nil, Nat.reduceAdd, Nat.reduceSub, Array.replicate_succ, Array.replicate_zero, List.push_toArray, List.append_toArray, List.nil_append, List.cons_append]
  gi_wp2
  generalize W.alloc (.mapIter none 0 #[] 0) = W0 at *
  have nx := HN.out
  clear rg hc1
  gi_loopg [3] 0 (fun gm _ wr => gm = 0 ∧ wr = W0)
  case atStart => exact ⟨rfl, rfl⟩
  case round =>
    obtain ⟨_, rfl⟩ := hrel
    gi_wp2
    go_end0
    exact ⟨⟨_, rfl⟩, Or.inl ⟨[], rfl, HJ0.out⟩⟩

set_option maxRecDepth 100000 in
/-- The keys of a map by their order. -/
theorem sortedV (r : Nat) (l : List (Ent K3)) (c : Nat) (w : World) (hm : Mp k3E w r l c) (hl : l.length ≤ 1000000) :
    Calls Tryz.prog 84 #[.map (some r)] w fun e w' => ∃ v ks, e = .returned v ∧ ks.Perm (l.map Ent.k) ∧ RiseK ks ∧ OwnK w' w.heap.size v ks ∧ Below w.heap.size w w' := by
  have hb := below_alloc w (.cells #[.map (some r)] 77) w.heap.size (Nat.le_refl _)
  have hcell : (w.alloc (.cells #[.map (some r)] 77)).cell? ⟨w.heap.size, 0, none⟩ = some (.map (some r)) := (Boxed.new w _ _).cell
  have HS := hide (sortedFuncK 149 #[.pointer (some ⟨w.heap.size, 0, none⟩)] (enters_of Tryz.func149 (by kernel_rfl) rfl) (fun ks => ks.Perm (l.map Ent.k)) (fun _ => True) l.length hl (fun ks hk => by have := hk.length_eq; simp at this; omega) _ (keysIterV 4 (by omega) w.heap.size r l c _ hcell (hm.later hb (Nat.le_refl _))))
  have HK := hide hm.keys
  have HB := hide hb
  clear hm hb hcell
  go_enter Tryz.func84, Tryz.ntmps84
  go_wp2_with fail
  refine (keysCallV _ _).mono ?_
  rintro e w1 ⟨rfl, rfl⟩
  go_wp2_with fail
  refine HS.out.mono ?_
  rintro e w2 ⟨v, ks, rfl, k1, k2, k3⟩
  have H1 : Hid ((sortK ks).Perm (l.map Ent.k) ∧ RiseK (sortK ks)) := ⟨(sortK_perm ks).trans k1, sortK_rise ks (k1.nodup_iff.2 HK.out)⟩
  have H2 : Hid (OwnK w2 w.heap.size v (sortK ks)) := by
    obtain ⟨q1, q2⟩ := k2
    refine ⟨q1, ?_⟩
    rcases q2 with q2 | ⟨g', cap, cur, e, hg', rest⟩
    · exact Or.inl q2
    · exact Or.inr ⟨g', cap, cur, e, by simp at hg'; omega, rest⟩
  have H3 := hide (HB.out.trans (k3.mono (by simp)))
  clear k1 k2 k3 HS
  go_wp2
  go_ret
  exact ⟨v, _, rfl, H1.out.1, H1.out.2, H2.out, H3.out⟩

set_option maxRecDepth 100000 in
theorem sortedNilV (w : World) :
    Calls Tryz.prog 84 #[.map none] w fun e w' => ∃ v, e = .returned v ∧ OwnK w' w.heap.size v [] ∧ Below w.heap.size w w' := by
  have hb := below_alloc w (.cells #[.map none] 77) w.heap.size (Nat.le_refl _)
  have hcell : (w.alloc (.cells #[.map none] 77)).cell? ⟨w.heap.size, 0, none⟩ = some (.map none) := (Boxed.new w _ _).cell
  have HS := hide (sortedFuncK 149 #[.pointer (some ⟨w.heap.size, 0, none⟩)] (enters_of Tryz.func149 (by kernel_rfl) rfl) (fun ks => ks = []) (fun _ => True) 0 (by omega) (fun ks hk => by subst hk; simp) _ (keysNilV 4 (by omega) w.heap.size _ hcell))
  have HB := hide hb
  clear hb hcell
  go_enter Tryz.func84, Tryz.ntmps84
  go_wp2_with fail
  refine (keysCallV _ _).mono ?_
  rintro e w1 ⟨rfl, rfl⟩
  go_wp2_with fail
  refine HS.out.mono ?_
  rintro e w2 ⟨v, ks, rfl, rfl, k2, k3⟩
  have H2 : Hid (OwnK w2 w.heap.size v []) := by
    have k2' : OwnK w2 (w.alloc (.cells #[.map none] 77)).heap.size v [] := by simpa [sortK] using k2
    obtain ⟨q1, q2⟩ := k2'
    refine ⟨q1, ?_⟩
    rcases q2 with q2 | ⟨g', cap, cur, e, hg', rest⟩
    · exact Or.inl q2
    · exact Or.inr ⟨g', cap, cur, e, by simp at hg'; omega, rest⟩
  have H3 := hide (HB.out.trans (k3.mono (by simp)))
  clear k2 k3 HS
  go_wp2
  go_ret
  exact ⟨v, rfl, H2.out, H3.out⟩
end Go.Proofs.YtdogecaonlmalaaGreat

namespace Go.Proofs.YtdogecaonlmalaaGreat
open Go.RowKit Go.Sort Go.Shelf

theorem rangeNilL (w : World) : (Instr.range 80 (.map none)).run Tryz.prog w = .ok (.pointer (some ⟨w.heap.size, 0, none⟩)) (w.alloc (.mapIter none 0 #[] 0)) := by
  simp [Instr.range, run_underlying undL]

set_option maxRecDepth 100000 in
set_option maxHeartbeats 1000000 in
theorem keysNilL (n : Nat) (_hn : 1 ≤ n) (Bm : Nat) (w : World) (hBm : w.cell? ⟨Bm, 0, none⟩ = some (.map none)) :
    SeqStopsK Fence.wide n Tryz.prog 150 #[.pointer (some ⟨Bm, 0, none⟩)] (fun x : K3 => #[k3E x]) KeepsWalks (fun ks => ks = []) (fun _ => True) 0 w := by
  intro lp J Jx W hW hJ hJx hY h0
  have hc1 : W.cell? ⟨Bm, 0, none⟩ = some (.map none) := (hW.cell (lt_of_cell hBm)).trans hBm
  have rg := rangeNilL W
  have HN : Hid (∀ ty, (Instr.next (.pointer (some ⟨W.heap.size, 0, none⟩)) false ty).run Tryz.prog (W.alloc (.mapIter none 0 #[] 0)) = .ok (.tuple #[.bool false]) (W.alloc (.mapIter none 0 #[] 0))) := fun ty => by
    have h4 := run_getObj_it (heap_alloc_new W (.mapIter none 0 #[] 0))
    simp [Instr.next, h4]
  have HJ0 := hide (hJ [] W _ none h0 (World.grownBy_alloc W (.mapIter none 0 #[] 0) none) (fun r e => by cases e))
  clear hBm h0
  refine callsIn_of_wp Tryz.func150 rfl trivial ?_ rfl
  simp only [Tryz.ntmps150, List.size_toArray, List.length_cons, List.length_nil, Nat.reduceAdd, Nat.reduceSub, Array.replicate_succ, Array.replicate_zero, List.push_toArray, List.append_toArray, List.nil_append, List.cons_append]
  gi_wp2
  generalize W.alloc (.mapIter none 0 #[] 0) = W0 at *
  have nx := HN.out
  clear rg hc1
  gi_loopg [3] 0 (fun gm _ wr => gm = 0 ∧ wr = W0)
  case atStart => exact ⟨rfl, rfl⟩
  case round =>
    obtain ⟨_, rfl⟩ := hrel
    gi_wp2
    go_end0
    exact ⟨⟨_, rfl⟩, Or.inl ⟨[], rfl, HJ0.out⟩⟩

set_option maxRecDepth 100000 in
/-- The keys of a map by their order. -/
theorem sortedL (r : Nat) (l : List (Ent K3)) (c : Nat) (w : World) (hm : Mp k3E w r l c) (hl : l.length ≤ 1000000) :
    Calls Tryz.prog 85 #[.map (some r)] w fun e w' => ∃ v ks, e = .returned v ∧ ks.Perm (l.map Ent.k) ∧ RiseK ks ∧ OwnK w' w.heap.size v ks ∧ Below w.heap.size w w' := by
  have hb := below_alloc w (.cells #[.map (some r)] 80) w.heap.size (Nat.le_refl _)
  have hcell : (w.alloc (.cells #[.map (some r)] 80)).cell? ⟨w.heap.size, 0, none⟩ = some (.map (some r)) := (Boxed.new w _ _).cell
  have HS := hide (sortedFuncK 150 #[.pointer (some ⟨w.heap.size, 0, none⟩)] (enters_of Tryz.func150 (by kernel_rfl) rfl) (fun ks => ks.Perm (l.map Ent.k)) (fun _ => True) l.length hl (fun ks hk => by have := hk.length_eq; simp at this; omega) _ (keysIterL 4 (by omega) w.heap.size r l c _ hcell (hm.later hb (Nat.le_refl _))))
  have HK := hide hm.keys
  have HB := hide hb
  clear hm hb hcell
  go_enter Tryz.func85, Tryz.ntmps85
  go_wp2_with fail
  refine (keysCallL _ _).mono ?_
  rintro e w1 ⟨rfl, rfl⟩
  go_wp2_with fail
  refine HS.out.mono ?_
  rintro e w2 ⟨v, ks, rfl, k1, k2, k3⟩
  have H1 : Hid ((sortK ks).Perm (l.map Ent.k) ∧ RiseK (sortK ks)) := ⟨(sortK_perm ks).trans k1, sortK_rise ks (k1.nodup_iff.2 HK.out)⟩
  have H2 : Hid (OwnK w2 w.heap.size v (sortK ks)) := by
    obtain ⟨q1, q2⟩ := k2
    refine ⟨q1, ?_⟩
    rcases q2 with q2 | ⟨g', cap, cur, e, hg', rest⟩
    · exact Or.inl q2
    · exact Or.inr ⟨g', cap, cur, e, by simp at hg'; omega, rest⟩
  have H3 := hide (HB.out.trans (k3.mono (by simp)))
  clear k1 k2 k3 HS
  go_wp2
  go_ret
  exact ⟨v, _, rfl, H1.out.1, H1.out.2, H2.out, H3.out⟩

set_option maxRecDepth 100000 in
theorem sortedNilL (w : World) :
    Calls Tryz.prog 85 #[.map none] w fun e w' => ∃ v, e = .returned v ∧ OwnK w' w.heap.size v [] ∧ Below w.heap.size w w' := by
  have hb := below_alloc w (.cells #[.map none] 80) w.heap.size (Nat.le_refl _)
  have hcell : (w.alloc (.cells #[.map none] 80)).cell? ⟨w.heap.size, 0, none⟩ = some (.map none) := (Boxed.new w _ _).cell
  have HS := hide (sortedFuncK 150 #[.pointer (some ⟨w.heap.size, 0, none⟩)] (enters_of Tryz.func150 (by kernel_rfl) rfl) (fun ks => ks = []) (fun _ => True) 0 (by omega) (fun ks hk => by subst hk; simp) _ (keysNilL 4 (by omega) w.heap.size _ hcell))
  have HB := hide hb
  clear hb hcell
  go_enter Tryz.func85, Tryz.ntmps85
  go_wp2_with fail
  refine (keysCallL _ _).mono ?_
  rintro e w1 ⟨rfl, rfl⟩
  go_wp2_with fail
  refine HS.out.mono ?_
  rintro e w2 ⟨v, ks, rfl, rfl, k2, k3⟩
  have H2 : Hid (OwnK w2 w.heap.size v []) := by
    have k2' : OwnK w2 (w.alloc (.cells #[.map none] 80)).heap.size v [] := by simpa [sortK] using k2
    obtain ⟨q1, q2⟩ := k2'
    refine ⟨q1, ?_⟩
    rcases q2 with q2 | ⟨g', cap, cur, e, hg', rest⟩
    · exact Or.inl q2
    · exact Or.inr ⟨g', cap, cur, e, by simp at hg'; omega, rest⟩
  have H3 := hide (HB.out.trans (k3.mono (by simp)))
  clear k2 k3 HS
  go_wp2
  go_ret
  exact ⟨v, rfl, H2.out, H3.out⟩
end Go.Proofs.YtdogecaonlmalaaGreat

namespace Go.Proofs.YtdogecaonlmalaaGreat
open Go.RowKit Go.Sort Go.Shelf

theorem rangeNilD (w : World) : (Instr.range 67 (.map none)).run Tryz.prog w = .ok (.pointer (some ⟨w.heap.size, 0, none⟩)) (w.alloc (.mapIter none 0 #[] 0)) := by
  simp [Instr.range, run_underlying undD]

set_option maxRecDepth 100000 in
set_option maxHeartbeats 1000000 in
theorem keysNilD (n : Nat) (_hn : 1 ≤ n) (Bm : Nat) (w : World) (hBm : w.cell? ⟨Bm, 0, none⟩ = some (.map none)) :
    SeqStopsK Fence.wide n Tryz.prog 78 #[.pointer (some ⟨Bm, 0, none⟩)] (fun x : K3 => #[k3E x]) KeepsWalks (fun ks => ks = []) (fun _ => True) 0 w := by
  intro lp J Jx W hW hJ hJx hY h0
  have hc1 : W.cell? ⟨Bm, 0, none⟩ = some (.map none) := (hW.cell (lt_of_cell hBm)).trans hBm
  have rg := rangeNilD W
  have HN : Hid (∀ ty, (Instr.next (.pointer (some ⟨W.heap.size, 0, none⟩)) false ty).run Tryz.prog (W.alloc (.mapIter none 0 #[] 0)) = .ok (.tuple #[.bool false]) (W.alloc (.mapIter none 0 #[] 0))) := fun ty => by
    have h4 := run_getObj_it (heap_alloc_new W (.mapIter none 0 #[] 0))
    simp [Instr.next, h4]
  have HJ0 := hide (hJ [] W _ none h0 (World.grownBy_alloc W (.mapIter none 0 #[] 0) none) (fun r e => by cases e))
  clear hBm h0
  refine callsIn_of_wp Tryz.func78 rfl trivial ?_ rfl
  simp only [Tryz.ntmps78, List.size_toArray, List.length_cons, List.length_nil, Nat.reduceAdd, Nat.reduceSub, Array.replicate_succ, Array.replicate_zero, List.push_toArray, List.append_toArray, List.nil_append, List.cons_append]
  gi_wp2
  generalize W.alloc (.mapIter none 0 #[] 0) = W0 at *
  have nx := HN.out
  clear rg hc1
  gi_loopg [3] 0 (fun gm _ wr => gm = 0 ∧ wr = W0)
  case atStart => exact ⟨rfl, rfl⟩
  case round =>
    obtain ⟨_, rfl⟩ := hrel
    gi_wp2
    go_end0
    exact ⟨⟨_, rfl⟩, Or.inl ⟨[], rfl, HJ0.out⟩⟩

set_option maxRecDepth 100000 in
/-- The keys of a map by their order. -/
theorem sortedD (r : Nat) (l : List (Ent K3)) (c : Nat) (w : World) (hm : Mp k3E w r l c) (hl : l.length ≤ 1000000) :
    Calls Tryz.prog 28 #[.map (some r)] w fun e w' => ∃ v ks, e = .returned v ∧ ks.Perm (l.map Ent.k) ∧ RiseK ks ∧ OwnK w' w.heap.size v ks ∧ Below w.heap.size w w' := by
  have hb := below_alloc w (.cells #[.map (some r)] 67) w.heap.size (Nat.le_refl _)
  have hcell : (w.alloc (.cells #[.map (some r)] 67)).cell? ⟨w.heap.size, 0, none⟩ = some (.map (some r)) := (Boxed.new w _ _).cell
  have HS := hide (sortedFuncK 78 #[.pointer (some ⟨w.heap.size, 0, none⟩)] (enters_of Tryz.func78 (by kernel_rfl) rfl) (fun ks => ks.Perm (l.map Ent.k)) (fun _ => True) l.length hl (fun ks hk => by have := hk.length_eq; simp at this; omega) _ (keysIterD 4 (by omega) w.heap.size r l c _ hcell (hm.later hb (Nat.le_refl _))))
  have HK := hide hm.keys
  have HB := hide hb
  clear hm hb hcell
  go_enter Tryz.func28, Tryz.ntmps28
  go_wp2_with fail
  refine (keysCallD _ _).mono ?_
  rintro e w1 ⟨rfl, rfl⟩
  go_wp2_with fail
  refine HS.out.mono ?_
  rintro e w2 ⟨v, ks, rfl, k1, k2, k3⟩
  have H1 : Hid ((sortK ks).Perm (l.map Ent.k) ∧ RiseK (sortK ks)) := ⟨(sortK_perm ks).trans k1, sortK_rise ks (k1.nodup_iff.2 HK.out)⟩
  have H2 : Hid (OwnK w2 w.heap.size v (sortK ks)) := by
    obtain ⟨q1, q2⟩ := k2
    refine ⟨q1, ?_⟩
    rcases q2 with q2 | ⟨g', cap, cur, e, hg', rest⟩
    · exact Or.inl q2
    · exact Or.inr ⟨g', cap, cur, e, by simp at hg'; omega, rest⟩
  have H3 := hide (HB.out.trans (k3.mono (by simp)))
  clear k1 k2 k3 HS
  go_wp2
  go_ret
  exact ⟨v, _, rfl, H1.out.1, H1.out.2, H2.out, H3.out⟩

set_option maxRecDepth 100000 in
theorem sortedNilD (w : World) :
    Calls Tryz.prog 28 #[.map none] w fun e w' => ∃ v, e = .returned v ∧ OwnK w' w.heap.size v [] ∧ Below w.heap.size w w' := by
  have hb := below_alloc w (.cells #[.map none] 67) w.heap.size (Nat.le_refl _)
  have hcell : (w.alloc (.cells #[.map none] 67)).cell? ⟨w.heap.size, 0, none⟩ = some (.map none) := (Boxed.new w _ _).cell
  have HS := hide (sortedFuncK 78 #[.pointer (some ⟨w.heap.size, 0, none⟩)] (enters_of Tryz.func78 (by kernel_rfl) rfl) (fun ks => ks = []) (fun _ => True) 0 (by omega) (fun ks hk => by subst hk; simp) _ (keysNilD 4 (by omega) w.heap.size _ hcell))
  have HB := hide hb
  clear hb hcell
  go_enter Tryz.func28, Tryz.ntmps28
  go_wp2_with fail
  refine (keysCallD _ _).mono ?_
  rintro e w1 ⟨rfl, rfl⟩
  go_wp2_with fail
  refine HS.out.mono ?_
  rintro e w2 ⟨v, ks, rfl, rfl, k2, k3⟩
  have H2 : Hid (OwnK w2 w.heap.size v []) := by
    have k2' : OwnK w2 (w.alloc (.cells #[.map none] 67)).heap.size v [] := by simpa [sortK] using k2
    obtain ⟨q1, q2⟩ := k2'
    refine ⟨q1, ?_⟩
    rcases q2 with q2 | ⟨g', cap, cur, e, hg', rest⟩
    · exact Or.inl q2
    · exact Or.inr ⟨g', cap, cur, e, by simp at hg'; omega, rest⟩
  have H3 := hide (HB.out.trans (k3.mono (by simp)))
  clear k2 k3 HS
  go_wp2
  go_ret
  exact ⟨v, rfl, H2.out, H3.out⟩
end Go.Proofs.YtdogecaonlmalaaGreat

namespace Go.Proofs.YtdogecaonlmalaaGreat
open Go.RowKit Go.Sort Go.Shelf

theorem rangeNilE (w : World) : (Instr.range 105 (.map none)).run Tryz.prog w = .ok (.pointer (some ⟨w.heap.size, 0, none⟩)) (w.alloc (.mapIter none 0 #[] 0)) := by
  simp [Instr.range, run_underlying undE]

set_option maxRecDepth 100000 in
set_option maxHeartbeats 1000000 in
theorem keysNilE (n : Nat) (_hn : 1 ≤ n) (Bm : Nat) (w : World) (hBm : w.cell? ⟨Bm, 0, none⟩ = some (.map none)) :
    SeqStopsK Fence.wide n Tryz.prog 124 #[.pointer (some ⟨Bm, 0, none⟩)] (fun x : K3 => #[k3E x]) KeepsWalks (fun ks => ks = []) (fun _ => True) 0 w := by
  intro lp J Jx W hW hJ hJx hY h0
  have hc1 : W.cell? ⟨Bm, 0, none⟩ = some (.map none) := (hW.cell (lt_of_cell hBm)).trans hBm
  have rg := rangeNilE W
  have HN : Hid (∀ ty, (Instr.next (.pointer (some ⟨W.heap.size, 0, none⟩)) false ty).run Tryz.prog (W.alloc (.mapIter none 0 #[] 0)) = .ok (.tuple #[.bool false]) (W.alloc (.mapIter none 0 #[] 0))) := fun ty => by
    have h4 := run_getObj_it (heap_alloc_new W (.mapIter none 0 #[] 0))
    simp [Instr.next, h4]
  have HJ0 := hide (hJ [] W _ none h0 (World.grownBy_alloc W (.mapIter none 0 #[] 0) none) (fun r e => by cases e))
  clear hBm h0
  refine callsIn_of_wp Tryz.func124 rfl trivial ?_ rfl
  simp only [Tryz.ntmps124, List.size_toArray, List.length_cons, List.length_nil, Nat.reduceAdd, Nat.reduceSub, Array.replicate_succ, Array.replicate_zero, List.push_toArray, List.append_toArray, List.nil_append, List.cons_append]
  gi_wp2
  generalize W.alloc (.mapIter none 0 #[] 0) = W0 at *
  have nx := HN.out
  clear rg hc1
  gi_loopg [3] 0 (fun gm _ wr => gm = 0 ∧ wr = W0)
  case atStart => exact ⟨rfl, rfl⟩
  case round =>
    obtain ⟨_, rfl⟩ := hrel
    gi_wp2
    go_end0
    exact ⟨⟨_, rfl⟩, Or.inl ⟨[], rfl, HJ0.out⟩⟩

set_option maxRecDepth 100000 in
/-- The keys of a map by their order. -/
theorem sortedE (r : Nat) (l : List (Ent K3)) (c : Nat) (w : World) (hm : Mp k3E w r l c) (hl : l.length ≤ 1000000) :
    Calls Tryz.prog 55 #[.map (some r)] w fun e w' => ∃ v ks, e = .returned v ∧ ks.Perm (l.map Ent.k) ∧ RiseK ks ∧ OwnK w' w.heap.size v ks ∧ Below w.heap.size w w' := by
  have hb := below_alloc w (.cells #[.map (some r)] 105) w.heap.size (Nat.le_refl _)
  have hcell : (w.alloc (.cells #[.map (some r)] 105)).cell? ⟨w.heap.size, 0, none⟩ = some (.map (some r)) := (Boxed.new w _ _).cell
  have HS := hide (sortedFuncK 124 #[.pointer (some ⟨w.heap.size, 0, none⟩)] (enters_of Tryz.func124 (by kernel_rfl) rfl) (fun ks => ks.Perm (l.map Ent.k)) (fun _ => True) l.length hl (fun ks hk => by have := hk.length_eq; simp at this; omega) _ (keysIterE 4 (by omega) w.heap.size r l c _ hcell (hm.later hb (Nat.le_refl _))))
  have HK := hide hm.keys
  have HB := hide hb
  clear hm hb hcell
  go_enter Tryz.func55, Tryz.ntmps55
  go_wp2_with fail
  refine (keysCallE _ _).mono ?_
  rintro e w1 ⟨rfl, rfl⟩
  go_wp2_with fail
  refine HS.out.mono ?_
  rintro e w2 ⟨v, ks, rfl, k1, k2, k3⟩
  have H1 : Hid ((sortK ks).Perm (l.map Ent.k) ∧ RiseK (sortK ks)) := ⟨(sortK_perm ks).trans k1, sortK_rise ks (k1.nodup_iff.2 HK.out)⟩
  have H2 : Hid (OwnK w2 w.heap.size v (sortK ks)) := by
    obtain ⟨q1, q2⟩ := k2
    refine ⟨q1, ?_⟩
    rcases q2 with q2 | ⟨g', cap, cur, e, hg', rest⟩
    · exact Or.inl q2
    · exact Or.inr ⟨g', cap, cur, e, by simp at hg'; omega, rest⟩
  have H3 := hide (HB.out.trans (k3.mono (by simp)))
  clear k1 k2 k3 HS
  go_wp2
  go_ret
  exact ⟨v, _, rfl, H1.out.1, H1.out.2, H2.out, H3.out⟩

set_option maxRecDepth 100000 in
theorem sortedNilE (w : World) :
    Calls Tryz.prog 55 #[.map none] w fun e w' => ∃ v, e = .returned v ∧ OwnK w' w.heap.size v [] ∧ Below w.heap.size w w' := by
  have hb := below_alloc w (.cells #[.map none] 105) w.heap.size (Nat.le_refl _)
  have hcell : (w.alloc (.cells #[.map none] 105)).cell? ⟨w.heap.size, 0, none⟩ = some (.map none) := (Boxed.new w _ _).cell
  have HS := hide (sortedFuncK 124 #[.pointer (some ⟨w.heap.size, 0, none⟩)] (enters_of Tryz.func124 (by kernel_rfl) rfl) (fun ks => ks = []) (fun _ => True) 0 (by omega) (fun ks hk => by subst hk; simp) _ (keysNilE 4 (by omega) w.heap.size _ hcell))
  have HB := hide hb
  clear hb hcell
  go_enter Tryz.func55, Tryz.ntmps55
  go_wp2_with fail
  refine (keysCallE _ _).mono ?_
  rintro e w1 ⟨rfl, rfl⟩
  go_wp2_with fail
  refine HS.out.mono ?_
  rintro e w2 ⟨v, ks, rfl, rfl, k2, k3⟩
  have H2 : Hid (OwnK w2 w.heap.size v []) := by
    have k2' : OwnK w2 (w.alloc (.cells #[.map none] 105)).heap.size v [] := by simpa [sortK] using k2
    obtain ⟨q1, q2⟩ := k2'
    refine ⟨q1, ?_⟩
    rcases q2 with q2 | ⟨g', cap, cur, e, hg', rest⟩
    · exact Or.inl q2
    · exact Or.inr ⟨g', cap, cur, e, by simp at hg'; omega, rest⟩
  have H3 := hide (HB.out.trans (k3.mono (by simp)))
  clear k2 k3 HS
  go_wp2
  go_ret
  exact ⟨v, rfl, H2.out, H3.out⟩
end Go.Proofs.YtdogecaonlmalaaGreat
