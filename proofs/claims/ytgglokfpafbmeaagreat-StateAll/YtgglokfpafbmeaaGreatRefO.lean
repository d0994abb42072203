/- The document's state: one change, as far as its cells go. -/
import Derived.Test.YtgglokfpafbmeaaGreatRefT
import Derived.Deep.RegionHeld3
namespace Go.Proofs.YtgglokfpafbmeaaGreat
open Go.RowKit Go.MapKept Go.ChangeMaps

theorem updC_comm (c : Nat → Value) {p q : Nat} (h : p ≠ q) (u v : Value) : updC (updC c p u) q v = updC (updC c q v) p u := by
  funext o
  unfold updC
  by_cases e1 : o = q
  · subst e1; rw [if_pos rfl, if_neg (fun e => h e.symm), if_pos rfl]
  · rw [if_neg e1, if_neg e1]
/-- Two cells set. -/
theorem Bx.set2 {w : World} {x : Nat} {c : Nat → Value} (h : Bx w x c) {p q : Nat} (hp : p < 3648) (hq : q < 3648) (hne : p ≠ q) (u v : Value) :
    (Bx ((w.setCell ⟨x, p, none⟩ u).setCell ⟨x, q, none⟩ v) x (updC (updC c p u) q v) ∧ Tch (fun k => k = x) w ((w.setCell ⟨x, p, none⟩ u).setCell ⟨x, q, none⟩ v)) ∧
    (Bx ((w.setCell ⟨x, q, none⟩ v).setCell ⟨x, p, none⟩ u) x (updC (updC c p u) q v) ∧ Tch (fun k => k = x) w ((w.setCell ⟨x, q, none⟩ v).setCell ⟨x, p, none⟩ u)) := by
  obtain ⟨h1, t1⟩ := h.set hp u
  obtain ⟨h2, t2⟩ := h1.set hq v
  obtain ⟨k1, s1⟩ := h.set hq v
  obtain ⟨k2, s2⟩ := k1.set hp u
  rw [updC_comm c hne]
  exact ⟨⟨by rw [← updC_comm c hne]; exact h2, t1.trans t2⟩, k2, s1.trans s2⟩

theorem tch_same {S : Nat → Prop} {a b b' : World} (h : Tch S a b) (h1 : b'.heap = b.heap) (h2 : b'.os = b.os) (h3 : b'.tape = b.tape) (h4 : b'.output = b.output) : Tch S a b' :=
  ⟨h2.trans h.os, h3.trans h.tape, h4.trans h.output, by rw [h1]; exact h.size, fun k hk hn => by rw [h1]; exact h.block k hk hn⟩

set_option maxRecDepth 100000 in
set_option maxHeartbeats 2000000 in
theorem one_1 (x g n i : Nat) (f : Int) (v : Int) (c : Nat → Value) (w : World) (h : Bx w x c) (hg : g < 4) (hn : n < 2) (hi : i < 24) :
    Calls Tryz.prog 58 #[.pointer (some ⟨x, 0, none⟩), .agg #[.int .i64 1, .int .i64 (g : Int), .int .i64 (n : Int), .int .i64 (i : Int), .int .i64 f, .int .i64 v]] w fun e w' => e = .returned (.bool true) ∧ Bx w' x (updC (updC c (g * 912 + n * 456 + i * 19) (.bool true)) (g * 912 + n * 456 + i * 19 + 1) (.int .i64 v)) ∧ Tch (fun k => k = x) w w' := by
  obtain ⟨p, hp⟩ : ∃ p, g * 912 + n * 456 + i * 19 = p := ⟨_, rfl⟩
  rw [hp]
  have hpl : p + 19 ≤ 3648 := by omega
  have hb := below_alloc w (.cells #[.int .i64 1, .int .i64 (g : Int), .int .i64 (n : Int), .int .i64 (i : Int), .int .i64 f, .int .i64 v] 61) w.heap.size (Nat.le_refl _)
  have hbx := heap_alloc_new w (.cells #[.int .i64 1, .int .i64 (g : Int), .int .i64 (n : Int), .int .i64 (i : Int), .int .i64 f, .int .i64 v] 61)
  have hB : Bx (w.alloc (.cells #[.int .i64 1, .int .i64 (g : Int), .int .i64 (n : Int), .int .i64 (i : Int), .int .i64 f, .int .i64 v] 61)) x c := h.at (hb.block _ h.lt)
  have hqx : w.heap.size ≠ x := by have := h.lt; omega
  have hxq : x ≠ w.heap.size := fun e => hqx e.symm
  have HBE := hide (Below.tch (S := fun k => k = x) hb)
  clear h hb
  go_enter Tryz.func58, Tryz.ntmps58
  go_wp2
  generalize w.alloc (.cells #[.int .i64 1, .int .i64 (g : Int), .int .i64 (n : Int), .int .i64 (i : Int), .int .i64 f, .int .i64 v] 61) = W at *
  generalize w.heap.size = q at *
  have hm := mt_cells (m := ⟨1, g, n, i, f, v⟩) hbx
  simp only at hm
  have s0 : W.drew.cell? ⟨q, 1, none⟩ = some (.int .i64 (g : Int)) ∧ W.drew.cell? ⟨q, 2, none⟩ = some (.int .i64 (n : Int)) ∧ W.drew.cell? ⟨q, 3, none⟩ = some (.int .i64 (i : Int)) := ⟨hm.2.1, hm.2.2.1, hm.2.2.2.1⟩
  have hgi : (0 : Int) ≤ (g : Int) ∧ (g : Int) < 4 := by omega
  have hni : (0 : Int) ≤ (n : Int) ∧ (n : Int) < 2 := by omega
  have hii : (0 : Int) ≤ (i : Int) ∧ (i : Int) < 24 := by omega
  obtain ⟨g0, g1⟩ := hgi
  obtain ⟨n0, n1⟩ := hni
  obtain ⟨i0, i1⟩ := hii
  have hcA := hB.cell (o := p) (by omega)
  have hcB := hB.cell (o := p + 1) (by omega)
  have hfA := hB.free (p)
  have hfB := hB.free (p + 1)
  have hAB : ¬ p = p + 1 := by omega
  have hBA : ¬ p + 1 = p := by omega
  have H2 := hide (hB.set2 (p := p) (q := p + 1) (by omega) (by omega) hAB (.bool true) (.int .i64 v))
  clear hB hbx
  go_region_held3 (fun w' => w'.cell? ⟨q, 1, none⟩ = some (.int .i64 (g : Int)) ∧ w'.cell? ⟨q, 2, none⟩ = some (.int .i64 (n : Int)) ∧ w'.cell? ⟨q, 3, none⟩ = some (.int .i64 (i : Int))) (with_reducible exact s0) (fail)
  all_goals
    obtain ⟨m0, m1, m2, m3, m4, m5⟩ := hm
    clear s0
    have s1 : W.drew.drew.cell? ⟨q, 5, none⟩ = some (.int .i64 v) := m5
    clear m1 m2 m3
    go_wp2
    go_region_held3 (fun w' => w'.cell? ⟨q, 5, none⟩ = some (.int .i64 v)) (first | with_reducible exact s1 | go_keep) (fail)
    all_goals
      go_wp2
      go_ret
      first
        | exact ⟨rfl, H2.out.1.1.at rfl, tch_same (HBE.out.trans H2.out.1.2) rfl rfl rfl rfl⟩
        | exact ⟨rfl, H2.out.2.1.at rfl, tch_same (HBE.out.trans H2.out.2.2) rfl rfl rfl rfl⟩

set_option maxRecDepth 100000 in
set_option maxHeartbeats 2000000 in
theorem one_2 (x g n i : Nat) (f : Int) (v : Int) (c : Nat → Value) (w : World) (h : Bx w x c) (hg : g < 4) (hn : n < 2) (hi : i < 24) :
    Calls Tryz.prog 58 #[.pointer (some ⟨x, 0, none⟩), .agg #[.int .i64 2, .int .i64 (g : Int), .int .i64 (n : Int), .int .i64 (i : Int), .int .i64 f, .int .i64 v]] w fun e w' => e = .returned (.bool true) ∧ Bx w' x (updC (updC c (g * 912 + n * 456 + i * 19) (.bool false)) (g * 912 + n * 456 + i * 19 + 1) (.int .i64 0)) ∧ Tch (fun k => k = x) w w' := by
  obtain ⟨p, hp⟩ : ∃ p, g * 912 + n * 456 + i * 19 = p := ⟨_, rfl⟩
  rw [hp]
  have hpl : p + 19 ≤ 3648 := by omega
  have hb := below_alloc w (.cells #[.int .i64 2, .int .i64 (g : Int), .int .i64 (n : Int), .int .i64 (i : Int), .int .i64 f, .int .i64 v] 61) w.heap.size (Nat.le_refl _)
  have hbx := heap_alloc_new w (.cells #[.int .i64 2, .int .i64 (g : Int), .int .i64 (n : Int), .int .i64 (i : Int), .int .i64 f, .int .i64 v] 61)
  have hB : Bx (w.alloc (.cells #[.int .i64 2, .int .i64 (g : Int), .int .i64 (n : Int), .int .i64 (i : Int), .int .i64 f, .int .i64 v] 61)) x c := h.at (hb.block _ h.lt)
  have hqx : w.heap.size ≠ x := by have := h.lt; omega
  have hxq : x ≠ w.heap.size := fun e => hqx e.symm
  have HBE := hide (Below.tch (S := fun k => k = x) hb)
  clear h hb
  go_enter Tryz.func58, Tryz.ntmps58
  go_wp2
  generalize w.alloc (.cells #[.int .i64 2, .int .i64 (g : Int), .int .i64 (n : Int), .int .i64 (i : Int), .int .i64 f, .int .i64 v] 61) = W at *
  generalize w.heap.size = q at *
  have hm := mt_cells (m := ⟨2, g, n, i, f, v⟩) hbx
  simp only at hm
  have s0 : W.drew.cell? ⟨q, 1, none⟩ = some (.int .i64 (g : Int)) ∧ W.drew.cell? ⟨q, 2, none⟩ = some (.int .i64 (n : Int)) ∧ W.drew.cell? ⟨q, 3, none⟩ = some (.int .i64 (i : Int)) := ⟨hm.2.1, hm.2.2.1, hm.2.2.2.1⟩
  have hgi : (0 : Int) ≤ (g : Int) ∧ (g : Int) < 4 := by omega
  have hni : (0 : Int) ≤ (n : Int) ∧ (n : Int) < 2 := by omega
  have hii : (0 : Int) ≤ (i : Int) ∧ (i : Int) < 24 := by omega
  obtain ⟨g0, g1⟩ := hgi
  obtain ⟨n0, n1⟩ := hni
  obtain ⟨i0, i1⟩ := hii
  have hcA := hB.cell (o := p) (by omega)
  have hcB := hB.cell (o := p + 1) (by omega)
  have hfA := hB.free (p)
  have hfB := hB.free (p + 1)
  have hAB : ¬ p = p + 1 := by omega
  have hBA : ¬ p + 1 = p := by omega
  have H2 := hide (hB.set2 (p := p) (q := p + 1) (by omega) (by omega) hAB (.bool false) (.int .i64 0))
  clear hB hbx
  go_region_held3 (fun w' => w'.cell? ⟨q, 1, none⟩ = some (.int .i64 (g : Int)) ∧ w'.cell? ⟨q, 2, none⟩ = some (.int .i64 (n : Int)) ∧ w'.cell? ⟨q, 3, none⟩ = some (.int .i64 (i : Int))) (with_reducible exact s0) (fail)
  all_goals
    obtain ⟨m0, m1, m2, m3, m4, m5⟩ := hm
    clear s0
    clear m1 m2 m3
    go_wp2
    go_ret
    exact ⟨rfl, H2.out.1.1.at rfl, tch_same (HBE.out.trans H2.out.1.2) rfl rfl rfl rfl⟩

set_option maxRecDepth 100000 in
set_option maxHeartbeats 2000000 in
theorem one_5 (x g n i : Nat) (v : Int) (f8 : Nat) (hf : f8 < 8) (c : Nat → Value) (w : World) (h : Bx w x c) (hg : g < 4) (hn : n < 2) (hi : i < 24) :
    Calls Tryz.prog 58 #[.pointer (some ⟨x, 0, none⟩), .agg #[.int .i64 5, .int .i64 (g : Int), .int .i64 (n : Int), .int .i64 (i : Int), .int .i64 (f8 : Int), .int .i64 v]] w fun e w' => e = .returned (.bool true) ∧ Bx w' x (updC (updC c (g * 912 + n * 456 + i * 19 + 3 + f8) (.bool true)) (g * 912 + n * 456 + i * 19 + 11 + f8) (.int .i64 v)) ∧ Tch (fun k => k = x) w w' := by
  obtain ⟨p, hp⟩ : ∃ p, g * 912 + n * 456 + i * 19 = p := ⟨_, rfl⟩
  rw [hp]
  have hpl : p + 19 ≤ 3648 := by omega
  have hb := below_alloc w (.cells #[.int .i64 5, .int .i64 (g : Int), .int .i64 (n : Int), .int .i64 (i : Int), .int .i64 (f8 : Int), .int .i64 v] 61) w.heap.size (Nat.le_refl _)
  have hbx := heap_alloc_new w (.cells #[.int .i64 5, .int .i64 (g : Int), .int .i64 (n : Int), .int .i64 (i : Int), .int .i64 (f8 : Int), .int .i64 v] 61)
  have hB : Bx (w.alloc (.cells #[.int .i64 5, .int .i64 (g : Int), .int .i64 (n : Int), .int .i64 (i : Int), .int .i64 (f8 : Int), .int .i64 v] 61)) x c := h.at (hb.block _ h.lt)
  have hqx : w.heap.size ≠ x := by have := h.lt; omega
  have hxq : x ≠ w.heap.size := fun e => hqx e.symm
  have HBE := hide (Below.tch (S := fun k => k = x) hb)
  clear h hb
  go_enter Tryz.func58, Tryz.ntmps58
  go_wp2
  generalize w.alloc (.cells #[.int .i64 5, .int .i64 (g : Int), .int .i64 (n : Int), .int .i64 (i : Int), .int .i64 (f8 : Int), .int .i64 v] 61) = W at *
  generalize w.heap.size = q at *
  have hm := mt_cells (m := ⟨5, g, n, i, (f8 : Int), v⟩) hbx
  simp only at hm
  have s0 : W.drew.cell? ⟨q, 1, none⟩ = some (.int .i64 (g : Int)) ∧ W.drew.cell? ⟨q, 2, none⟩ = some (.int .i64 (n : Int)) ∧ W.drew.cell? ⟨q, 3, none⟩ = some (.int .i64 (i : Int)) := ⟨hm.2.1, hm.2.2.1, hm.2.2.2.1⟩
  have hgi : (0 : Int) ≤ (g : Int) ∧ (g : Int) < 4 := by omega
  have hni : (0 : Int) ≤ (n : Int) ∧ (n : Int) < 2 := by omega
  have hii : (0 : Int) ≤ (i : Int) ∧ (i : Int) < 24 := by omega
  obtain ⟨g0, g1⟩ := hgi
  obtain ⟨n0, n1⟩ := hni
  obtain ⟨i0, i1⟩ := hii
  have hcA := hB.cell (o := p + 3 + f8) (by omega)
  have hcB := hB.cell (o := p + 11 + f8) (by omega)
  have hfA := hB.free (p + 3 + f8)
  have hfB := hB.free (p + 11 + f8)
  have hAB : ¬ p + 3 + f8 = p + 11 + f8 := by omega
  have hBA : ¬ p + 11 + f8 = p + 3 + f8 := by omega
  have hfi0 : (0 : Int) ≤ (f8 : Int) := by omega
  have hfi1 : (f8 : Int) < 8 := by omega
  have H2 := hide (hB.set2 (p := p + 3 + f8) (q := p + 11 + f8) (by omega) (by omega) hAB (.bool true) (.int .i64 v))
  clear hB hbx
  go_region_held3 (fun w' => w'.cell? ⟨q, 1, none⟩ = some (.int .i64 (g : Int)) ∧ w'.cell? ⟨q, 2, none⟩ = some (.int .i64 (n : Int)) ∧ w'.cell? ⟨q, 3, none⟩ = some (.int .i64 (i : Int))) (with_reducible exact s0) (fail)
  all_goals
    obtain ⟨m0, m1, m2, m3, m4, m5⟩ := hm
    clear s0
    have s1 : W.drew.drew.cell? ⟨q, 4, none⟩ = some (.int .i64 (f8 : Int)) ∧ W.drew.drew.cell? ⟨q, 5, none⟩ = some (.int .i64 v) := ⟨m4, m5⟩
    clear m1 m2 m3
    go_wp2
    go_region_held3 (fun w' => w'.cell? ⟨q, 4, none⟩ = some (.int .i64 (f8 : Int)) ∧ w'.cell? ⟨q, 5, none⟩ = some (.int .i64 v)) (first | with_reducible exact s1 | go_keep) (fail)
    all_goals
      go_wp2
      go_ret
      first
        | exact ⟨rfl, H2.out.1.1.at rfl, tch_same (HBE.out.trans H2.out.1.2) rfl rfl rfl rfl⟩
        | exact ⟨rfl, H2.out.2.1.at rfl, tch_same (HBE.out.trans H2.out.2.2) rfl rfl rfl rfl⟩

set_option maxRecDepth 100000 in
set_option maxHeartbeats 2000000 in
theorem one_6 (x g n i : Nat) (v : Int) (f8 : Nat) (hf : f8 < 8) (c : Nat → Value) (w : World) (h : Bx w x c) (hg : g < 4) (hn : n < 2) (hi : i < 24) :
    Calls Tryz.prog 58 #[.pointer (some ⟨x, 0, none⟩), .agg #[.int .i64 6, .int .i64 (g : Int), .int .i64 (n : Int), .int .i64 (i : Int), .int .i64 (f8 : Int), .int .i64 v]] w fun e w' => e = .returned (.bool true) ∧ Bx w' x (updC (updC c (g * 912 + n * 456 + i * 19 + 3 + f8) (.bool false)) (g * 912 + n * 456 + i * 19 + 11 + f8) (.int .i64 0)) ∧ Tch (fun k => k = x) w w' := by
  obtain ⟨p, hp⟩ : ∃ p, g * 912 + n * 456 + i * 19 = p := ⟨_, rfl⟩
  rw [hp]
  have hpl : p + 19 ≤ 3648 := by omega
  have hb := below_alloc w (.cells #[.int .i64 6, .int .i64 (g : Int), .int .i64 (n : Int), .int .i64 (i : Int), .int .i64 (f8 : Int), .int .i64 v] 61) w.heap.size (Nat.le_refl _)
  have hbx := heap_alloc_new w (.cells #[.int .i64 6, .int .i64 (g : Int), .int .i64 (n : Int), .int .i64 (i : Int), .int .i64 (f8 : Int), .int .i64 v] 61)
  have hB : Bx (w.alloc (.cells #[.int .i64 6, .int .i64 (g : Int), .int .i64 (n : Int), .int .i64 (i : Int), .int .i64 (f8 : Int), .int .i64 v] 61)) x c := h.at (hb.block _ h.lt)
  have hqx : w.heap.size ≠ x := by have := h.lt; omega
  have hxq : x ≠ w.heap.size := fun e => hqx e.symm
  have HBE := hide (Below.tch (S := fun k => k = x) hb)
  clear h hb
  go_enter Tryz.func58, Tryz.ntmps58
  go_wp2
  generalize w.alloc (.cells #[.int .i64 6, .int .i64 (g : Int), .int .i64 (n : Int), .int .i64 (i : Int), .int .i64 (f8 : Int), .int .i64 v] 61) = W at *
  generalize w.heap.size = q at *
  have hm := mt_cells (m := ⟨6, g, n, i, (f8 : Int), v⟩) hbx
  simp only at hm
  have s0 : W.drew.cell? ⟨q, 1, none⟩ = some (.int .i64 (g : Int)) ∧ W.drew.cell? ⟨q, 2, none⟩ = some (.int .i64 (n : Int)) ∧ W.drew.cell? ⟨q, 3, none⟩ = some (.int .i64 (i : Int)) := ⟨hm.2.1, hm.2.2.1, hm.2.2.2.1⟩
  have hgi : (0 : Int) ≤ (g : Int) ∧ (g : Int) < 4 := by omega
  have hni : (0 : Int) ≤ (n : Int) ∧ (n : Int) < 2 := by omega
  have hii : (0 : Int) ≤ (i : Int) ∧ (i : Int) < 24 := by omega
  obtain ⟨g0, g1⟩ := hgi
  obtain ⟨n0, n1⟩ := hni
  obtain ⟨i0, i1⟩ := hii
  have hcA := hB.cell (o := p + 3 + f8) (by omega)
  have hcB := hB.cell (o := p + 11 + f8) (by omega)
  have hfA := hB.free (p + 3 + f8)
  have hfB := hB.free (p + 11 + f8)
  have hAB : ¬ p + 3 + f8 = p + 11 + f8 := by omega
  have hBA : ¬ p + 11 + f8 = p + 3 + f8 := by omega
  have hfi0 : (0 : Int) ≤ (f8 : Int) := by omega
  have hfi1 : (f8 : Int) < 8 := by omega
  have H2 := hide (hB.set2 (p := p + 3 + f8) (q := p + 11 + f8) (by omega) (by omega) hAB (.bool false) (.int .i64 0))
  clear hB hbx
  go_region_held3 (fun w' => w'.cell? ⟨q, 1, none⟩ = some (.int .i64 (g : Int)) ∧ w'.cell? ⟨q, 2, none⟩ = some (.int .i64 (n : Int)) ∧ w'.cell? ⟨q, 3, none⟩ = some (.int .i64 (i : Int))) (with_reducible exact s0) (fail)
  all_goals
    obtain ⟨m0, m1, m2, m3, m4, m5⟩ := hm
    clear s0
    have s1 : W.drew.drew.cell? ⟨q, 4, none⟩ = some (.int .i64 (f8 : Int)) ∧ W.drew.drew.cell? ⟨q, 5, none⟩ = some (.int .i64 v) := ⟨m4, m5⟩
    clear m1 m2 m3
    go_wp2
    go_region_held3 (fun w' => w'.cell? ⟨q, 4, none⟩ = some (.int .i64 (f8 : Int)) ∧ w'.cell? ⟨q, 5, none⟩ = some (.int .i64 v)) (first | with_reducible exact s1 | go_keep) (fail)
    all_goals
      go_wp2
      go_ret
      first
        | exact ⟨rfl, H2.out.1.1.at rfl, tch_same (HBE.out.trans H2.out.1.2) rfl rfl rfl rfl⟩
        | exact ⟨rfl, H2.out.2.1.at rfl, tch_same (HBE.out.trans H2.out.2.2) rfl rfl rfl rfl⟩

end Go.Proofs.YtgglokfpafbmeaaGreat
