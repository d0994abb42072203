/- The library's maps.Keys over maps of keys of state and numbers. The library's maps.Keys over maps of keys of state and lists. The library's maps.Keys over maps of keys of state and fields. The library's maps.Keys over maps of keys of state and lists. -/
import Derived.Test.YtdogecaonlmalaaGreatKeyK
import Derived.Shelf.SlIter.Collect
import Derived.RangeFuncNested
import Derived.Sort.LoopGhostIn
namespace Go.Proofs.YtdogecaonlmalaaGreat
open Go.RowKit Go.Sort Go.Shelf

theorem undV : Tryz.prog.underlying 77 = some (.map 28 2) := by kernel_rfl

theorem Itr.walks {w w' : World} {g r : Nat} {l todo : List (Ent K3)} {c : Nat} (h : Itr k3E w g r l todo c) (hk : KeepsWalks w w') : Itr k3E w' g r l todo c := by
  obtain ⟨hm, seen, c0, hi, hc, ht⟩ := h
  exact ⟨⟨hk.same r _ hm.heap rfl, hm.born, hm.ones, hm.keys⟩, seen, c0, hk.same g _ hi rfl, hc, ht⟩

theorem keysCallV (mb : Option Nat) (w : World) : Calls Tryz.prog 122 #[.map mb] w fun e w' => e = .returned (.func (.func 149) #[] #[.pointer (some ⟨w.heap.size, 0, none⟩)]) ∧ w' = w.alloc (.cells #[.map mb] 77) := by
  go_enter Tryz.func122, Tryz.ntmps122
  go_wp2
  go_ret
  exact ⟨rfl, rfl⟩

set_option maxRecDepth 100000 in
set_option maxHeartbeats 1000000 in
/-- The keys come, each once, in some order. -/
theorem keysIterV (n : Nat) (hn : 1 ≤ n) (Bm r : Nat) (l : List (Ent K3)) (c : Nat) (w : World) (hBm : w.cell? ⟨Bm, 0, none⟩ = some (.map (some r))) (hm : Mp k3E w r l c) :
    SeqStopsK Fence.wide n Tryz.prog 149 #[.pointer (some ⟨Bm, 0, none⟩)] (fun x : K3 => #[k3E x]) KeepsWalks (fun ks => ks.Perm (l.map Ent.k)) (fun _ => True) l.length w := by
  intro lp J Jx W hW hJ hJx hY h0
  have hm1 := hm.later hW (Nat.le_refl _)
  have hc1 : W.cell? ⟨Bm, 0, none⟩ = some (.map (some r)) := (hW.cell (lt_of_cell hBm)).trans hBm
  obtain ⟨rg, hit⟩ := Itr.start undV hm1
  have hml := hm1.lt
  have hJ0 : J [] (W.alloc (.mapIter (some r) c #[] c)) := hJ [] W _ none h0 (World.grownBy_alloc _ _ _) (fun r e => by cases e)
  have HIT := hide hit
  have HJ0 := hide hJ0
  clear hm1 hit hJ0 h0 hBm hm
  refine callsIn_of_wp Tryz.func149 rfl trivial ?_ rfl
  simp only [Tryz.ntmps149, List.size_toArray, List.length_cons, List.length_nil, Nat.reduceAdd, Nat.reduceSub, Array.replicate_succ, Array.replicate_zero, List.push_toArray, List.append_toArray, List.nil_append, List.cons_append]
  gi_wp2
  generalize W.alloc (.mapIter (some r) c #[] c) = W0 at *
  have hgr : W.heap.size ≠ r := by omega
  clear rg hc1
  gi_loopg [3] l.length (fun gm _ wr => ∃ (pre : List K3) (todo : List (Ent K3)), gm = todo.length ∧ Hid (Itr k3E wr W.heap.size r l todo c) ∧ Hid ((pre ++ todo.map Ent.k).Perm (l.map Ent.k)) ∧ Hid (J pre wr))
  case atStart => exact ⟨[], l, rfl, HIT, hide (List.Perm.refl _), HJ0⟩
  case round =>
    obtain ⟨pre, todo, rfl, HI, HP, HJs⟩ := hrel
    rcases HI.out.next hgr 0 with ⟨ht, nx⟩ | ⟨x, hx, W', todo', nx, en, hit', hp, hg⟩
    · subst ht
      gi_wp2
      go_end0
      exact ⟨⟨_, rfl⟩, Or.inl ⟨pre, by simpa using HP.out, HJs.out⟩⟩
    · have hlen : todo.length = todo'.length + 1 := by have := hp.length_eq; simpa using this
      have hpl : pre.length < l.length := by have := HP.out.length_eq; simp at this; omega
      have hJ2 : J pre W' := hJ pre wr W' (some W.heap.size) HJs.out hg (fun q e => by
        cases e
        obtain ⟨_, seen, c0, hi, _⟩ := HI.out
        exact ⟨Nat.le_refl _, _, hi, rfl⟩)
      have hJ3' : J pre (W'.alloc (.cells #[.int .i64 x.k.g, .int .i64 x.k.n, .int .i64 x.k.i] 28)) := hJ pre W' _ none hJ2 (World.grownBy_alloc _ _ _) (fun q e => by cases e)
      obtain ⟨fn, tmps, assign, body, hy, hR⟩ := hY pre x.k _ hJ3' hpl
      have HI' := hide (hit'.later (below_alloc W' (.cells #[.int .i64 x.k.g, .int .i64 x.k.n, .int .i64 x.k.i] 28) _ (Nat.le_refl _)) (Nat.le_refl _))
      have HP' : Hid (((pre ++ [x.k]) ++ todo'.map Ent.k).Perm (l.map Ent.k)) := by
        refine List.Perm.trans ?_ HP.out
        rw [List.append_assoc]
        exact List.Perm.append_left pre ((hp.map Ent.k).symm)
      unfold k3E at nx en
      simp only [k3E] at hy
      clear hit' hp hg hx HI HJs
      gi_wp2
      refine hR.mono ?_
      rintro e W3 (⟨rfl, hJ3, hk3⟩ | ⟨rfl, hJx3⟩)
      · have HI3 := hide (HI'.out.walks hk3)
        gi_wp2
        gi_roundg todo'.length
        case measure => omega
        case rel => exact ⟨pre ++ [x.k], todo', rfl, HI3, HP', hide hJ3⟩
      · gi_wp2
        first | exact bodyPost_ret (v := .tuple #[]) (by simp [results, Tryz.results149, go_sem]) rfl ⟨⟨_, rfl⟩, Or.inr ⟨_, trivial, hJx3⟩⟩ | (go_end0; exact ⟨⟨_, rfl⟩, Or.inr ⟨_, trivial, hJx3⟩⟩) | (go_ret; exact ⟨⟨_, rfl⟩, Or.inr ⟨_, trivial, hJx3⟩⟩)
end Go.Proofs.YtdogecaonlmalaaGreat

namespace Go.Proofs.YtdogecaonlmalaaGreat
open Go.RowKit Go.Sort Go.Shelf

theorem undL : Tryz.prog.underlying 80 = some (.map 28 29) := by kernel_rfl

theorem keysCallL (mb : Option Nat) (w : World) : Calls Tryz.prog 123 #[.map mb] w fun e w' => e = .returned (.func (.func 150) #[] #[.pointer (some ⟨w.heap.size, 0, none⟩)]) ∧ w' = w.alloc (.cells #[.map mb] 80) := by
  go_enter Tryz.func123, Tryz.ntmps123
  go_wp2
  go_ret
  exact ⟨rfl, rfl⟩

set_option maxRecDepth 100000 in
set_option maxHeartbeats 1000000 in
/-- The keys come, each once, in some order. -/
theorem keysIterL (n : Nat) (hn : 1 ≤ n) (Bm r : Nat) (l : List (Ent K3)) (c : Nat) (w : World) (hBm : w.cell? ⟨Bm, 0, none⟩ = some (.map (some r))) (hm : Mp k3E w r l c) :
    SeqStopsK Fence.wide n Tryz.prog 150 #[.pointer (some ⟨Bm, 0, none⟩)] (fun x : K3 => #[k3E x]) KeepsWalks (fun ks => ks.Perm (l.map Ent.k)) (fun _ => True) l.length w := by
  intro lp J Jx W hW hJ hJx hY h0
  have hm1 := hm.later hW (Nat.le_refl _)
  have hc1 : W.cell? ⟨Bm, 0, none⟩ = some (.map (some r)) := (hW.cell (lt_of_cell hBm)).trans hBm
  obtain ⟨rg, hit⟩ := Itr.start undL hm1
  have hml := hm1.lt
  have hJ0 : J [] (W.alloc (.mapIter (some r) c #[] c)) := hJ [] W _ none h0 (World.grownBy_alloc _ _ _) (fun r e => by cases e)
  have HIT := hide hit
  have HJ0 := hide hJ0
  clear hm1 hit hJ0 h0 hBm hm
  refine callsIn_of_wp Tryz.func150 rfl trivial ?_ rfl
  simp only [Tryz.ntmps150, List.size_toArray, List.length_cons, List.length_nil, Nat.reduceAdd, Nat.reduceSub, Array.replicate_succ, Array.replicate_zero, List.push_toArray, List.append_toArray, List.nil_append, List.cons_append]
  gi_wp2
  generalize W.alloc (.mapIter (some r) c #[] c) = W0 at *
  have hgr : W.heap.size ≠ r := by omega
  clear rg hc1
  gi_loopg [3] l.length (fun gm _ wr => ∃ (pre : List K3) (todo : List (Ent K3)), gm = todo.length ∧ Hid (Itr k3E wr W.heap.size r l todo c) ∧ Hid ((pre ++ todo.map Ent.k).Perm (l.map Ent.k)) ∧ Hid (J pre wr))
  case atStart => exact ⟨[], l, rfl, HIT, hide (List.Perm.refl _), HJ0⟩
  case round =>
    obtain ⟨pre, todo, rfl, HI, HP, HJs⟩ := hrel
    rcases HI.out.next hgr 0 with ⟨ht, nx⟩ | ⟨x, hx, W', todo', nx, en, hit', hp, hg⟩
    · subst ht
      gi_wp2
      go_end0
      exact ⟨⟨_, rfl⟩, Or.inl ⟨pre, by simpa using HP.out, HJs.out⟩⟩
    · have hlen : todo.length = todo'.length + 1 := by have := hp.length_eq; simpa using this
      have hpl : pre.length < l.length := by have := HP.out.length_eq; simp at this; omega
      have hJ2 : J pre W' := hJ pre wr W' (some W.heap.size) HJs.out hg (fun q e => by
        cases e
        obtain ⟨_, seen, c0, hi, _⟩ := HI.out
        exact ⟨Nat.le_refl _, _, hi, rfl⟩)
      have hJ3' : J pre (W'.alloc (.cells #[.int .i64 x.k.g, .int .i64 x.k.n, .int .i64 x.k.i] 28)) := hJ pre W' _ none hJ2 (World.grownBy_alloc _ _ _) (fun q e => by cases e)
      obtain ⟨fn, tmps, assign, body, hy, hR⟩ := hY pre x.k _ hJ3' hpl
      have HI' := hide (hit'.later (below_alloc W' (.cells #[.int .i64 x.k.g, .int .i64 x.k.n, .int .i64 x.k.i] 28) _ (Nat.le_refl _)) (Nat.le_refl _))
      have HP' : Hid (((pre ++ [x.k]) ++ todo'.map Ent.k).Perm (l.map Ent.k)) := by
        refine List.Perm.trans ?_ HP.out
        rw [List.append_assoc]
        exact List.Perm.append_left pre ((hp.map Ent.k).symm)
      unfold k3E at nx en
      simp only [k3E] at hy
      clear hit' hp hg hx HI HJs
      gi_wp2
      refine hR.mono ?_
      rintro e W3 (⟨rfl, hJ3, hk3⟩ | ⟨rfl, hJx3⟩)
      · have HI3 := hide (HI'.out.walks hk3)
        gi_wp2
        gi_roundg todo'.length
        case measure => omega
        case rel => exact ⟨pre ++ [x.k], todo', rfl, HI3, HP', hide hJ3⟩
      · gi_wp2
        first | exact bodyPost_ret (v := .tuple #[]) (by simp [results, Tryz.results150, go_sem]) rfl ⟨⟨_, rfl⟩, Or.inr ⟨_, trivial, hJx3⟩⟩ | (go_end0; exact ⟨⟨_, rfl⟩, Or.inr ⟨_, trivial, hJx3⟩⟩) | (go_ret; exact ⟨⟨_, rfl⟩, Or.inr ⟨_, trivial, hJx3⟩⟩)
end Go.Proofs.YtdogecaonlmalaaGreat

namespace Go.Proofs.YtdogecaonlmalaaGreat
open Go.RowKit Go.Sort Go.Shelf

theorem undD : Tryz.prog.underlying 67 = some (.map 28 39) := by kernel_rfl

theorem keysCallD (mb : Option Nat) (w : World) : Calls Tryz.prog 48 #[.map mb] w fun e w' => e = .returned (.func (.func 78) #[] #[.pointer (some ⟨w.heap.size, 0, none⟩)]) ∧ w' = w.alloc (.cells #[.map mb] 67) := by
  go_enter Tryz.func48, Tryz.ntmps48
  go_wp2
  go_ret
  exact ⟨rfl, rfl⟩

set_option maxRecDepth 100000 in
set_option maxHeartbeats 1000000 in
/-- The keys come, each once, in some order. -/
theorem keysIterD (n : Nat) (hn : 1 ≤ n) (Bm r : Nat) (l : List (Ent K3)) (c : Nat) (w : World) (hBm : w.cell? ⟨Bm, 0, none⟩ = some (.map (some r))) (hm : Mp k3E w r l c) :
    SeqStopsK Fence.wide n Tryz.prog 78 #[.pointer (some ⟨Bm, 0, none⟩)] (fun x : K3 => #[k3E x]) KeepsWalks (fun ks => ks.Perm (l.map Ent.k)) (fun _ => True) l.length w := by
  intro lp J Jx W hW hJ hJx hY h0
  have hm1 := hm.later hW (Nat.le_refl _)
  have hc1 : W.cell? ⟨Bm, 0, none⟩ = some (.map (some r)) := (hW.cell (lt_of_cell hBm)).trans hBm
  obtain ⟨rg, hit⟩ := Itr.start undD hm1
  have hml := hm1.lt
  have hJ0 : J [] (W.alloc (.mapIter (some r) c #[] c)) := hJ [] W _ none h0 (World.grownBy_alloc _ _ _) (fun r e => by cases e)
  have HIT := hide hit
  have HJ0 := hide hJ0
  clear hm1 hit hJ0 h0 hBm hm
  refine callsIn_of_wp Tryz.func78 rfl trivial ?_ rfl
  simp only [Tryz.ntmps78, List.size_toArray, List.length_cons, List.length_nil, Nat.reduceAdd, Nat.reduceSub, Array.replicate_succ, Array.replicate_zero, List.push_toArray, List.append_toArray, List.nil_append, List.cons_append]
  gi_wp2
  generalize W.alloc (.mapIter (some r) c #[] c) = W0 at *
  have hgr : W.heap.size ≠ r := by omega
  clear rg hc1
  gi_loopg [3] l.length (fun gm _ wr => ∃ (pre : List K3) (todo : List (Ent K3)), gm = todo.length ∧ Hid (Itr k3E wr W.heap.size r l todo c) ∧ Hid ((pre ++ todo.map Ent.k).Perm (l.map Ent.k)) ∧ Hid (J pre wr))
  case atStart => exact ⟨[], l, rfl, HIT, hide (List.Perm.refl _), HJ0⟩
  case round =>
    obtain ⟨pre, todo, rfl, HI, HP, HJs⟩ := hrel
    rcases HI.out.next hgr 0 with ⟨ht, nx⟩ | ⟨x, hx, W', todo', nx, en, hit', hp, hg⟩
    · subst ht
      gi_wp2
      go_end0
      exact ⟨⟨_, rfl⟩, Or.inl ⟨pre, by simpa using HP.out, HJs.out⟩⟩
    · have hlen : todo.length = todo'.length + 1 := by have := hp.length_eq; simpa using this
      have hpl : pre.length < l.length := by have := HP.out.length_eq; simp at this; omega
      have hJ2 : J pre W' := hJ pre wr W' (some W.heap.size) HJs.out hg (fun q e => by
        cases e
        obtain ⟨_, seen, c0, hi, _⟩ := HI.out
        exact ⟨Nat.le_refl _, _, hi, rfl⟩)
      have hJ3' : J pre (W'.alloc (.cells #[.int .i64 x.k.g, .int .i64 x.k.n, .int .i64 x.k.i] 28)) := hJ pre W' _ none hJ2 (World.grownBy_alloc _ _ _) (fun q e => by cases e)
      obtain ⟨fn, tmps, assign, body, hy, hR⟩ := hY pre x.k _ hJ3' hpl
      have HI' := hide (hit'.later (below_alloc W' (.cells #[.int .i64 x.k.g, .int .i64 x.k.n, .int .i64 x.k.i] 28) _ (Nat.le_refl _)) (Nat.le_refl _))
      have HP' : Hid (((pre ++ [x.k]) ++ todo'.map Ent.k).Perm (l.map Ent.k)) := by
        refine List.Perm.trans ?_ HP.out
        rw [List.append_assoc]
        exact List.Perm.append_left pre ((hp.map Ent.k).symm)
      unfold k3E at nx en
      simp only [k3E] at hy
      clear hit' hp hg hx HI HJs
      gi_wp2
      refine hR.mono ?_
      rintro e W3 (⟨rfl, hJ3, hk3⟩ | ⟨rfl, hJx3⟩)
      · have HI3 := hide (HI'.out.walks hk3)
        gi_wp2
        gi_roundg todo'.length
        case measure => omega
        case rel => exact ⟨pre ++ [x.k], todo', rfl, HI3, HP', hide hJ3⟩
      · gi_wp2
        first | exact bodyPost_ret (v := .tuple #[]) (by simp [results, Tryz.results78, go_sem]) rfl ⟨⟨_, rfl⟩, Or.inr ⟨_, trivial, hJx3⟩⟩ | (go_end0; exact ⟨⟨_, rfl⟩, Or.inr ⟨_, trivial, hJx3⟩⟩) | (go_ret; exact ⟨⟨_, rfl⟩, Or.inr ⟨_, trivial, hJx3⟩⟩)
end Go.Proofs.YtdogecaonlmalaaGreat

namespace Go.Proofs.YtdogecaonlmalaaGreat
open Go.RowKit Go.Sort Go.Shelf

theorem undE : Tryz.prog.underlying 105 = some (.map 28 107) := by kernel_rfl

theorem keysCallE (mb : Option Nat) (w : World) : Calls Tryz.prog 86 #[.map mb] w fun e w' => e = .returned (.func (.func 124) #[] #[.pointer (some ⟨w.heap.size, 0, none⟩)]) ∧ w' = w.alloc (.cells #[.map mb] 105) := by
  go_enter Tryz.func86, Tryz.ntmps86
  go_wp2
  go_ret
  exact ⟨rfl, rfl⟩

set_option maxRecDepth 100000 in
set_option maxHeartbeats 1000000 in
/-- The keys come, each once, in some order. -/
theorem keysIterE (n : Nat) (hn : 1 ≤ n) (Bm r : Nat) (l : List (Ent K3)) (c : Nat) (w : World) (hBm : w.cell? ⟨Bm, 0, none⟩ = some (.map (some r))) (hm : Mp k3E w r l c) :
    SeqStopsK Fence.wide n Tryz.prog 124 #[.pointer (some ⟨Bm, 0, none⟩)] (fun x : K3 => #[k3E x]) KeepsWalks (fun ks => ks.Perm (l.map Ent.k)) (fun _ => True) l.length w := by
  intro lp J Jx W hW hJ hJx hY h0
  have hm1 := hm.later hW (Nat.le_refl _)
  have hc1 : W.cell? ⟨Bm, 0, none⟩ = some (.map (some r)) := (hW.cell (lt_of_cell hBm)).trans hBm
  obtain ⟨rg, hit⟩ := Itr.start undE hm1
  have hml := hm1.lt
  have hJ0 : J [] (W.alloc (.mapIter (some r) c #[] c)) := hJ [] W _ none h0 (World.grownBy_alloc _ _ _) (fun r e => by cases e)
  have HIT := hide hit
  have HJ0 := hide hJ0
  clear hm1 hit hJ0 h0 hBm hm
  refine callsIn_of_wp Tryz.func124 rfl trivial ?_ rfl
  simp only [Tryz.ntmps124, List.size_toArray, List.length_cons, List.length_nil, Nat.reduceAdd, Nat.reduceSub, Array.replicate_succ, Array.replicate_zero, List.push_toArray, List.append_toArray, List.nil_append, List.cons_append]
  gi_wp2
  generalize W.alloc (.mapIter (some r) c #[] c) = W0 at *
  have hgr : W.heap.size ≠ r := by omega
  clear rg hc1
  gi_loopg [3] l.length (fun gm _ wr => ∃ (pre : List K3) (todo : List (Ent K3)), gm = todo.length ∧ Hid (Itr k3E wr W.heap.size r l todo c) ∧ Hid ((pre ++ todo.map Ent.k).Perm (l.map Ent.k)) ∧ Hid (J pre wr))
  case atStart => exact ⟨[], l, rfl, HIT, hide (List.Perm.refl _), HJ0⟩
  case round =>
    obtain ⟨pre, todo, rfl, HI, HP, HJs⟩ := hrel
    rcases HI.out.next hgr 0 with ⟨ht, nx⟩ | ⟨x, hx, W', todo', nx, en, hit', hp, hg⟩
    · subst ht
      gi_wp2
      go_end0
      exact ⟨⟨_, rfl⟩, Or.inl ⟨pre, by simpa using HP.out, HJs.out⟩⟩
    · have hlen : todo.length = todo'.length + 1 := by have := hp.length_eq; simpa using this
      have hpl : pre.length < l.length := by have := HP.out.length_eq; simp at this; omega
      have hJ2 : J pre W' := hJ pre wr W' (some W.heap.size) HJs.out hg (fun q e => by
        cases e
        obtain ⟨_, seen, c0, hi, _⟩ := HI.out
        exact ⟨Nat.le_refl _, _, hi, rfl⟩)
      have hJ3' : J pre (W'.alloc (.cells #[.int .i64 x.k.g, .int .i64 x.k.n, .int .i64 x.k.i] 28)) := hJ pre W' _ none hJ2 (World.grownBy_alloc _ _ _) (fun q e => by cases e)
      obtain ⟨fn, tmps, assign, body, hy, hR⟩ := hY pre x.k _ hJ3' hpl
      have HI' := hide (hit'.later (below_alloc W' (.cells #[.int .i64 x.k.g, .int .i64 x.k.n, .int .i64 x.k.i] 28) _ (Nat.le_refl _)) (Nat.le_refl _))
      have HP' : Hid (((pre ++ [x.k]) ++ todo'.map Ent.k).Perm (l.map Ent.k)) := by
        refine List.Perm.trans ?_ HP.out
        rw [List.append_assoc]
        exact List.Perm.append_left pre ((hp.map Ent.k).symm)
      unfold k3E at nx en
      simp only [k3E] at hy
      clear hit' hp hg hx HI HJs
      gi_wp2
      refine hR.mono ?_
      rintro e W3 (⟨rfl, hJ3, hk3⟩ | ⟨rfl, hJx3⟩)
      · have HI3 := hide (HI'.out.walks hk3)
        gi_wp2
        gi_roundg todo'.length
        case measure => omega
        case rel => exact ⟨pre ++ [x.k], todo', rfl, HI3, HP', hide hJ3⟩
      · gi_wp2
        first | exact bodyPost_ret (v := .tuple #[]) (by simp [results, Tryz.results124, go_sem]) rfl ⟨⟨_, rfl⟩, Or.inr ⟨_, trivial, hJx3⟩⟩ | (go_end0; exact ⟨⟨_, rfl⟩, Or.inr ⟨_, trivial, hJx3⟩⟩) | (go_ret; exact ⟨⟨_, rfl⟩, Or.inr ⟨_, trivial, hJx3⟩⟩)
end Go.Proofs.YtdogecaonlmalaaGreat
