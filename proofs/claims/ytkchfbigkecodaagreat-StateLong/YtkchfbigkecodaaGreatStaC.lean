/- Changes of all kinds. -/
import Derived.Test.YtkchfbigkecodaaGreatStat
import Derived.Test.YtkchfbigkecodaaGreatDctG
namespace Go.Proofs.YtkchfbigkecodaaGreat
open Go.RowKit Go.MapKept Go.ChangeMaps

theorem putOK : PutOK := fun O g N fd k f n w h hO hr hl h0 h8 => dictPut O g N fd k f n w h hO hr hl h0 h8
theorem cutOK : CutOK := fun O g N fd k f w h hO hr hl => dictCut O g N fd k f w h hO hr hl
theorem putF_eq (z : List (Int × Int)) (f v : Int) : putF z f v = putZ z f v := rfl
theorem cutF_eq (z : List (Int × Int)) (f : Int) : cutF z f = cutZ z f := rfl
theorem abOK_iff (a : Ab) : AbOK a ↔ ∀ k, OkF (a.D k) := Iff.rfl

set_option maxRecDepth 100000 in
set_option maxHeartbeats 800000 in
theorem changeUnset (O : Nat → Prop) (s gv gl gd N : Nat) (a : Ab) (k : K3) (f v : Int) (w : World) (h : AbS w O s gv gl gd a N) (hO : ∀ k, w.heap.size ≤ k → O k) :
    Calls Tryz.prog 55 #[.pointer (some ⟨s, 0, none⟩), mV ⟨2, k.g, k.n, k.i, f, v⟩] w fun e w' => e = .returned (.tuple #[]) ∧ AbS w' O s gv gl gd ⟨updK a.V k none, a.L, a.D⟩ (N + 1) ∧ Tch O w w' := by
  have hb := below_alloc w (mtObj ⟨2, k.g, k.n, k.i, f, v⟩) w.heap.size (Nat.le_refl _)
  have hbx := heap_alloc_new w (mtObj ⟨2, k.g, k.n, k.i, f, v⟩)
  obtain ⟨x0, x1, x2, x3, x4, x5⟩ := mt_cells hbx
  have h1 : AbS (w.alloc (mtObj ⟨2, k.g, k.n, k.i, f, v⟩)) (fun j => O j ∧ j ≠ w.heap.size) s gv gl gd a N := (StaS.wide h (O' := fun j => O j ∧ j ≠ w.heap.size) (fun j hj hl => ⟨hj, by omega⟩)).later hb
  obtain ⟨c0, c1, c2⟩ := sta_cells (StaS.obj h1)
  have hD := (Below.refl (w.alloc (mtObj ⟨2, k.g, k.n, k.i, f, v⟩)).heap.size (w.alloc (mtObj ⟨2, k.g, k.n, k.i, f, v⟩))).drew
  have HC : Hid (Calls Tryz.prog 18 #[.pointer (some ⟨gv, 0, none⟩), k3E k] (w.alloc (mtObj ⟨2, k.g, k.n, k.i, f, v⟩)).drew fun e w' => (∃ x, e = .returned (.bool x)) ∧ AbS w' O s gv gl gd ⟨updK a.V k none, a.L, a.D⟩ (N + 1) ∧ Tch O w w' ∧
      (w'.cell? ⟨s, 0, none⟩ = some (.pointer (some ⟨gv, 0, none⟩)) ∧ w'.cell? ⟨w.heap.size, 1, none⟩ = some (.int .i64 k.g) ∧ w'.cell? ⟨w.heap.size, 2, none⟩ = some (.int .i64 k.n) ∧ w'.cell? ⟨w.heap.size, 3, none⟩ = some (.int .i64 k.i))) := by
    refine (stUnset (fun j => O j ∧ j ≠ w.heap.size) s gv gl gd N a k _ (StaS.later h1 hD) (fun j hj => ⟨hO j (Nat.le_trans (hb.trans (hD.mono hb.size)).size hj), fun e => by have := hD.size; simp at this hj; omega⟩)).mono ?_
    rintro e w' ⟨r1, p1, p2⟩
    have hbx' : w'.heap[w.heap.size]? = _ := (p2.block w.heap.size (by show w.heap.size < (w.alloc (mtObj ⟨2, k.g, k.n, k.i, f, v⟩)).heap.size; simp) (fun e => e.2 rfl)).trans ((hD.block w.heap.size (by simp)).trans hbx)
    obtain ⟨z0, z1, z2, z3, z4, z5⟩ := mt_cells hbx'
    obtain ⟨d0, d1, d2⟩ := sta_cells (StaS.obj p1)
    exact ⟨⟨_, r1⟩, StaS.wide p1 (fun j hj _ => hj.1), ((Below.tch hb).trans (Below.tch hD)).trans (p2.mono (fun j _ hj => hj.1)), d0, z1, z2, z3⟩
  clear h h1 hb hO hD hbx
  unfold mtObj at *
  unfold mV k3E at *
  simp only at *
  go_enter Tryz.func55, Tryz.ntmps55
  go_wp2
  go_region_held3 (fun w' => w'.cell? ⟨s, 0, none⟩ = some (.pointer (some ⟨gv, 0, none⟩)) ∧ w'.cell? ⟨w.heap.size, 1, none⟩ = some (.int .i64 k.g) ∧ w'.cell? ⟨w.heap.size, 2, none⟩ = some (.int .i64 k.n) ∧ w'.cell? ⟨w.heap.size, 3, none⟩ = some (.int .i64 k.i)) (first | exact ⟨c0, x1, x2, x3⟩ | exact k4) ((go_at_call 18; refine HC.out.mono ?_; rintro e W1 ⟨⟨er, rfl⟩, k1, k2, k4⟩; have HK := hide (And.intro k1 k2); clear k1 k2))
  all_goals
    clear HC
    go_wp2
    go_end0
    exact ⟨rfl, HK.out.1, HK.out.2⟩

set_option maxRecDepth 100000 in
set_option maxHeartbeats 800000 in
theorem changeClear (O : Nat → Prop) (s gv gl gd N : Nat) (a : Ab) (k : K3) (f v : Int) (w : World) (h : AbS w O s gv gl gd a N) (hO : ∀ k, w.heap.size ≤ k → O k) :
    Calls Tryz.prog 55 #[.pointer (some ⟨s, 0, none⟩), mV ⟨4, k.g, k.n, k.i, f, v⟩] w fun e w' => e = .returned (.tuple #[]) ∧ AbS w' O s gv gl gd ⟨a.V, updR a.L k [], a.D⟩ (N + 1) ∧ Tch O w w' := by
  have hb := below_alloc w (mtObj ⟨4, k.g, k.n, k.i, f, v⟩) w.heap.size (Nat.le_refl _)
  have hbx := heap_alloc_new w (mtObj ⟨4, k.g, k.n, k.i, f, v⟩)
  obtain ⟨x0, x1, x2, x3, x4, x5⟩ := mt_cells hbx
  have h1 : AbS (w.alloc (mtObj ⟨4, k.g, k.n, k.i, f, v⟩)) (fun j => O j ∧ j ≠ w.heap.size) s gv gl gd a N := (StaS.wide h (O' := fun j => O j ∧ j ≠ w.heap.size) (fun j hj hl => ⟨hj, by omega⟩)).later hb
  obtain ⟨c0, c1, c2⟩ := sta_cells (StaS.obj h1)
  have hD := (Below.refl (w.alloc (mtObj ⟨4, k.g, k.n, k.i, f, v⟩)).heap.size (w.alloc (mtObj ⟨4, k.g, k.n, k.i, f, v⟩))).drew
  have HC : Hid (Calls Tryz.prog 24 #[.pointer (some ⟨gl, 0, none⟩), k3E k] (w.alloc (mtObj ⟨4, k.g, k.n, k.i, f, v⟩)).drew fun e w' => (∃ x, e = .returned (.int .i64 x)) ∧ AbS w' O s gv gl gd ⟨a.V, updR a.L k [], a.D⟩ (N + 1) ∧ Tch O w w' ∧
      (w'.cell? ⟨s, 1, none⟩ = some (.pointer (some ⟨gl, 0, none⟩)) ∧ w'.cell? ⟨w.heap.size, 1, none⟩ = some (.int .i64 k.g) ∧ w'.cell? ⟨w.heap.size, 2, none⟩ = some (.int .i64 k.n) ∧ w'.cell? ⟨w.heap.size, 3, none⟩ = some (.int .i64 k.i))) := by
    refine (stClear (fun j => O j ∧ j ≠ w.heap.size) s gv gl gd N a k _ (StaS.later h1 hD) (fun j hj => ⟨hO j (Nat.le_trans (hb.trans (hD.mono hb.size)).size hj), fun e => by have := hD.size; simp at this hj; omega⟩)).mono ?_
    rintro e w' ⟨r1, p1, p2⟩
    have hbx' : w'.heap[w.heap.size]? = _ := (p2.block w.heap.size (by show w.heap.size < (w.alloc (mtObj ⟨4, k.g, k.n, k.i, f, v⟩)).heap.size; simp) (fun e => e.2 rfl)).trans ((hD.block w.heap.size (by simp)).trans hbx)
    obtain ⟨z0, z1, z2, z3, z4, z5⟩ := mt_cells hbx'
    obtain ⟨d0, d1, d2⟩ := sta_cells (StaS.obj p1)
    exact ⟨⟨_, r1⟩, StaS.wide p1 (fun j hj _ => hj.1), ((Below.tch hb).trans (Below.tch hD)).trans (p2.mono (fun j _ hj => hj.1)), d1, z1, z2, z3⟩
  clear h h1 hb hO hD hbx
  unfold mtObj at *
  unfold mV k3E at *
  simp only at *
  go_enter Tryz.func55, Tryz.ntmps55
  go_wp2
  go_region_held3 (fun w' => w'.cell? ⟨s, 1, none⟩ = some (.pointer (some ⟨gl, 0, none⟩)) ∧ w'.cell? ⟨w.heap.size, 1, none⟩ = some (.int .i64 k.g) ∧ w'.cell? ⟨w.heap.size, 2, none⟩ = some (.int .i64 k.n) ∧ w'.cell? ⟨w.heap.size, 3, none⟩ = some (.int .i64 k.i)) (first | exact ⟨c1, x1, x2, x3⟩ | exact k4) ((go_at_call 24; refine HC.out.mono ?_; rintro e W1 ⟨⟨er, rfl⟩, k1, k2, k4⟩; have HK := hide (And.intro k1 k2); clear k1 k2))
  all_goals
    clear HC
    go_wp2
    go_end0
    exact ⟨rfl, HK.out.1, HK.out.2⟩

set_option maxRecDepth 100000 in
set_option maxHeartbeats 800000 in
theorem changePut (O : Nat → Prop) (s gv gl gd N : Nat) (a : Ab) (k : K3) (f v : Int) (w : World) (h : AbS w O s gv gl gd a N) (hO : ∀ k, w.heap.size ≤ k → O k) (ha : OkF (a.D k)) (h0 : 0 ≤ f) (h8 : f < 8) :
    Calls Tryz.prog 55 #[.pointer (some ⟨s, 0, none⟩), mV ⟨5, k.g, k.n, k.i, f, v⟩] w fun e w' => e = .returned (.tuple #[]) ∧ AbS w' O s gv gl gd ⟨a.V, a.L, updR a.D k (putF (a.D k) f v)⟩ (N + 1) ∧ Tch O w w' := by
  have hb := below_alloc w (mtObj ⟨5, k.g, k.n, k.i, f, v⟩) w.heap.size (Nat.le_refl _)
  have hbx := heap_alloc_new w (mtObj ⟨5, k.g, k.n, k.i, f, v⟩)
  obtain ⟨x0, x1, x2, x3, x4, x5⟩ := mt_cells hbx
  have h1 : AbS (w.alloc (mtObj ⟨5, k.g, k.n, k.i, f, v⟩)) (fun j => O j ∧ j ≠ w.heap.size) s gv gl gd a N := (StaS.wide h (O' := fun j => O j ∧ j ≠ w.heap.size) (fun j hj hl => ⟨hj, by omega⟩)).later hb
  obtain ⟨c0, c1, c2⟩ := sta_cells (StaS.obj h1)
  have hD := (Below.refl (w.alloc (mtObj ⟨5, k.g, k.n, k.i, f, v⟩)).heap.size (w.alloc (mtObj ⟨5, k.g, k.n, k.i, f, v⟩))).drew
  have HC : Hid (Calls Tryz.prog 28 #[.pointer (some ⟨gd, 0, none⟩), k3E k, .int .i64 f, .int .i64 v] (w.alloc (mtObj ⟨5, k.g, k.n, k.i, f, v⟩)).drew fun e w' => (∃ x, e = .returned (.int .i64 x)) ∧ AbS w' O s gv gl gd ⟨a.V, a.L, updR a.D k (putF (a.D k) f v)⟩ (N + 1) ∧ Tch O w w' ∧
      (w'.cell? ⟨s, 2, none⟩ = some (.pointer (some ⟨gd, 0, none⟩)) ∧ w'.cell? ⟨w.heap.size, 1, none⟩ = some (.int .i64 k.g) ∧ w'.cell? ⟨w.heap.size, 2, none⟩ = some (.int .i64 k.n) ∧ w'.cell? ⟨w.heap.size, 3, none⟩ = some (.int .i64 k.i) ∧ w'.cell? ⟨w.heap.size, 4, none⟩ = some (.int .i64 f) ∧ w'.cell? ⟨w.heap.size, 5, none⟩ = some (.int .i64 v))) := by
    refine (stPut putOK (fun j => O j ∧ j ≠ w.heap.size) s gv gl gd N a k f v _ (StaS.later h1 hD) (fun j hj => ⟨hO j (Nat.le_trans (hb.trans (hD.mono hb.size)).size hj), fun e => by have := hD.size; simp at this hj; omega⟩) ha.1 (by have := OkF.le ha; omega) h0 h8).mono ?_
    rintro e w' ⟨r1, p1, p2⟩
    have hbx' : w'.heap[w.heap.size]? = _ := (p2.block w.heap.size (by show w.heap.size < (w.alloc (mtObj ⟨5, k.g, k.n, k.i, f, v⟩)).heap.size; simp) (fun e => e.2 rfl)).trans ((hD.block w.heap.size (by simp)).trans hbx)
    obtain ⟨z0, z1, z2, z3, z4, z5⟩ := mt_cells hbx'
    obtain ⟨d0, d1, d2⟩ := sta_cells (StaS.obj p1)
    exact ⟨⟨_, r1⟩, StaS.wide p1 (fun j hj _ => hj.1), ((Below.tch hb).trans (Below.tch hD)).trans (p2.mono (fun j _ hj => hj.1)), d2, z1, z2, z3, z4, z5⟩
  clear h h1 hb hO hD hbx ha h0 h8
  unfold mtObj at *
  unfold mV k3E at *
  simp only at *
  go_enter Tryz.func55, Tryz.ntmps55
  go_wp2
  go_region_held3 (fun w' => w'.cell? ⟨s, 2, none⟩ = some (.pointer (some ⟨gd, 0, none⟩)) ∧ w'.cell? ⟨w.heap.size, 1, none⟩ = some (.int .i64 k.g) ∧ w'.cell? ⟨w.heap.size, 2, none⟩ = some (.int .i64 k.n) ∧ w'.cell? ⟨w.heap.size, 3, none⟩ = some (.int .i64 k.i) ∧ w'.cell? ⟨w.heap.size, 4, none⟩ = some (.int .i64 f) ∧ w'.cell? ⟨w.heap.size, 5, none⟩ = some (.int .i64 v)) (first | exact ⟨c2, x1, x2, x3, x4, x5⟩ | exact k4) ((go_at_call 28; refine HC.out.mono ?_; rintro e W1 ⟨⟨er, rfl⟩, k1, k2, k4⟩; have HK := hide (And.intro k1 k2); clear k1 k2))
  all_goals
    clear HC
    go_wp2
    go_end0
    exact ⟨rfl, HK.out.1, HK.out.2⟩

set_option maxRecDepth 100000 in
set_option maxHeartbeats 800000 in
theorem changeCut (O : Nat → Prop) (s gv gl gd N : Nat) (a : Ab) (k : K3) (f v : Int) (w : World) (h : AbS w O s gv gl gd a N) (hO : ∀ k, w.heap.size ≤ k → O k) (ha : OkF (a.D k)) :
    Calls Tryz.prog 55 #[.pointer (some ⟨s, 0, none⟩), mV ⟨6, k.g, k.n, k.i, f, v⟩] w fun e w' => e = .returned (.tuple #[]) ∧ AbS w' O s gv gl gd ⟨a.V, a.L, updR a.D k (cutF (a.D k) f)⟩ (N + 1) ∧ Tch O w w' := by
  have hb := below_alloc w (mtObj ⟨6, k.g, k.n, k.i, f, v⟩) w.heap.size (Nat.le_refl _)
  have hbx := heap_alloc_new w (mtObj ⟨6, k.g, k.n, k.i, f, v⟩)
  obtain ⟨x0, x1, x2, x3, x4, x5⟩ := mt_cells hbx
  have h1 : AbS (w.alloc (mtObj ⟨6, k.g, k.n, k.i, f, v⟩)) (fun j => O j ∧ j ≠ w.heap.size) s gv gl gd a N := (StaS.wide h (O' := fun j => O j ∧ j ≠ w.heap.size) (fun j hj hl => ⟨hj, by omega⟩)).later hb
  obtain ⟨c0, c1, c2⟩ := sta_cells (StaS.obj h1)
  have hD := (Below.refl (w.alloc (mtObj ⟨6, k.g, k.n, k.i, f, v⟩)).heap.size (w.alloc (mtObj ⟨6, k.g, k.n, k.i, f, v⟩))).drew
  have HC : Hid (Calls Tryz.prog 29 #[.pointer (some ⟨gd, 0, none⟩), k3E k, .int .i64 f] (w.alloc (mtObj ⟨6, k.g, k.n, k.i, f, v⟩)).drew fun e w' => (∃ x, e = .returned (.bool x)) ∧ AbS w' O s gv gl gd ⟨a.V, a.L, updR a.D k (cutF (a.D k) f)⟩ (N + 1) ∧ Tch O w w' ∧
      (w'.cell? ⟨s, 2, none⟩ = some (.pointer (some ⟨gd, 0, none⟩)) ∧ w'.cell? ⟨w.heap.size, 1, none⟩ = some (.int .i64 k.g) ∧ w'.cell? ⟨w.heap.size, 2, none⟩ = some (.int .i64 k.n) ∧ w'.cell? ⟨w.heap.size, 3, none⟩ = some (.int .i64 k.i) ∧ w'.cell? ⟨w.heap.size, 4, none⟩ = some (.int .i64 f))) := by
    refine (stCut cutOK (fun j => O j ∧ j ≠ w.heap.size) s gv gl gd N a k f _ (StaS.later h1 hD) (fun j hj => ⟨hO j (Nat.le_trans (hb.trans (hD.mono hb.size)).size hj), fun e => by have := hD.size; simp at this hj; omega⟩) ha.1 (by have := OkF.le ha; omega)).mono ?_
    rintro e w' ⟨r1, p1, p2⟩
    have hbx' : w'.heap[w.heap.size]? = _ := (p2.block w.heap.size (by show w.heap.size < (w.alloc (mtObj ⟨6, k.g, k.n, k.i, f, v⟩)).heap.size; simp) (fun e => e.2 rfl)).trans ((hD.block w.heap.size (by simp)).trans hbx)
    obtain ⟨z0, z1, z2, z3, z4, z5⟩ := mt_cells hbx'
    obtain ⟨d0, d1, d2⟩ := sta_cells (StaS.obj p1)
    exact ⟨⟨_, r1⟩, StaS.wide p1 (fun j hj _ => hj.1), ((Below.tch hb).trans (Below.tch hD)).trans (p2.mono (fun j _ hj => hj.1)), d2, z1, z2, z3, z4⟩
  clear h h1 hb hO hD hbx ha
  unfold mtObj at *
  unfold mV k3E at *
  simp only at *
  go_enter Tryz.func55, Tryz.ntmps55
  go_wp2
  go_region_held3 (fun w' => w'.cell? ⟨s, 2, none⟩ = some (.pointer (some ⟨gd, 0, none⟩)) ∧ w'.cell? ⟨w.heap.size, 1, none⟩ = some (.int .i64 k.g) ∧ w'.cell? ⟨w.heap.size, 2, none⟩ = some (.int .i64 k.n) ∧ w'.cell? ⟨w.heap.size, 3, none⟩ = some (.int .i64 k.i) ∧ w'.cell? ⟨w.heap.size, 4, none⟩ = some (.int .i64 f)) (first | exact ⟨c2, x1, x2, x3, x4⟩ | exact k4) ((go_at_call 29; refine HC.out.mono ?_; rintro e W1 ⟨⟨er, rfl⟩, k1, k2, k4⟩; have HK := hide (And.intro k1 k2); clear k1 k2))
  all_goals
    clear HC
    go_wp2
    go_end0
    exact ⟨rfl, HK.out.1, HK.out.2⟩

theorem chOK_2 (k : K3) (f v : Int) : ChOK ⟨2, k, f, v⟩ := fun O s gv gl gd N a w h _ _ hO => by
  have := changeUnset O s gv gl gd N a k f v w h hO
  simpa [Mq.m, doQ] using this
theorem chOK_4 (k : K3) (f v : Int) : ChOK ⟨4, k, f, v⟩ := fun O s gv gl gd N a w h _ _ hO => by
  have := changeClear O s gv gl gd N a k f v w h hO
  simpa [Mq.m, doQ] using this
theorem chOK_5 (k : K3) (f v : Int) (h0 : 0 ≤ f) (h8 : f < 8) : ChOK ⟨5, k, f, v⟩ := fun O s gv gl gd N a w h ha _ hO => by
  have := changePut O s gv gl gd N a k f v w h hO (ha k) h0 h8
  simpa [Mq.m, doQ] using this
theorem chOK_6 (k : K3) (f v : Int) : ChOK ⟨6, k, f, v⟩ := fun O s gv gl gd N a w h ha _ hO => by
  have := changeCut O s gv gl gd N a k f v w h hO (ha k)
  simpa [Mq.m, doQ] using this

/-- What a change leaves has fields as they may be. -/
theorem AbOK.doQ {a : Ab} (h : AbOK a) {x : Mq} (hx : x.c = 5 → 0 ≤ x.f ∧ x.f < 8) : AbOK (doQ a x) := by
  unfold Go.Proofs.YtkchfbigkecodaaGreat.doQ
  repeat' split
  all_goals first
    | exact h
    | skip
  · rename_i h5
    intro k
    show OkF (updR a.D x.k (putF (a.D x.k) x.f x.v) k)
    unfold updR
    by_cases e : k = x.k
    · rw [if_pos e]; exact OkF.put x.v (h x.k) (hx h5).1 (hx h5).2
    · rw [if_neg e]; exact h k
  · intro k
    show OkF (updR a.D x.k (cutF (a.D x.k) x.f) k)
    unfold updR
    by_cases e : k = x.k
    · rw [if_pos e]; exact OkF.cut x.f (h x.k)
    · rw [if_neg e]; exact h k
theorem AbOK.runQ {a : Ab} (h : AbOK a) : ∀ {xs : List Mq}, (∀ x ∈ xs, x.c = 5 → 0 ≤ x.f ∧ x.f < 8) → AbOK (runQ a xs) := by
  intro xs hx
  unfold Go.Proofs.YtkchfbigkecodaaGreat.runQ
  induction xs generalizing a with
  | nil => exact h
  | cons x xs ih =>
    rw [List.foldl_cons]
    exact ih (AbOK.doQ h (hx x List.mem_cons_self)) (fun y hy => hx y (List.mem_cons_of_mem _ hy))
theorem abOK0 : AbOK ab0 := fun _ => OkF.nil
end Go.Proofs.YtkchfbigkecodaaGreat
