/- Changes of all kinds. A state as a law holds it; Do, whatever the changes. Rows of changes that a call makes itself. -/
import Derived.Test.YtiofkcmdgijjoaaGreatStat
import Derived.Test.YtiofkcmdgijjoaaGreatDctG
namespace Go.Proofs.YtiofkcmdgijjoaaGreat
open Go.RowKit Go.MapKept Go.ChangeMaps

theorem putOK : PutOK := fun O g N fd k f n w h hO hr hl h0 h8 => dictPut O g N fd k f n w h hO hr hl h0 h8
theorem cutOK : CutOK := fun O g N fd k f w h hO hr hl => dictCut O g N fd k f w h hO hr hl
theorem putF_eq (z : List (Int × Int)) (f v : Int) : putF z f v = putZ z f v := rfl
theorem cutF_eq (z : List (Int × Int)) (f : Int) : cutF z f = cutZ z f := rfl
theorem abOK_iff (a : Ab) : AbOK a ↔ ∀ k, OkF (a.D k) := Iff.rfl

set_option maxRecDepth 100000 in
set_option maxHeartbeats 800000 in
theorem changeUnset (O : Nat → Prop) (s gv gl gd N : Nat) (a : Ab) (k : K3) (f v : Int) (w : World) (h : AbS w O s gv gl gd a N) (hO : ∀ k, w.heap.size ≤ k → O k) :
    Calls Tryz.prog 47 #[.pointer (some ⟨s, 0, none⟩), mV ⟨2, k.g, k.n, k.i, f, v⟩] w fun e w' => e = .returned (.tuple #[]) ∧ AbS w' O s gv gl gd ⟨updK a.V k none, a.L, a.D⟩ (N + 1) ∧ Tch O w w' := by
  have hb := below_alloc w (mtObj ⟨2, k.g, k.n, k.i, f, v⟩) w.heap.size (Nat.le_refl _)
  have hbx := heap_alloc_new w (mtObj ⟨2, k.g, k.n, k.i, f, v⟩)
  obtain ⟨x0, x1, x2, x3, x4, x5⟩ := mt_cells hbx
  have h1 : AbS (w.alloc (mtObj ⟨2, k.g, k.n, k.i, f, v⟩)) (fun j => O j ∧ j ≠ w.heap.size) s gv gl gd a N := (StaS.wide h (O' := fun j => O j ∧ j ≠ w.heap.size) (fun j hj hl => ⟨hj, by omega⟩)).later hb
  obtain ⟨c0, c1, c2⟩ := sta_cells (StaS.obj h1)
  have hD := (Below.refl (w.alloc (mtObj ⟨2, k.g, k.n, k.i, f, v⟩)).heap.size (w.alloc (mtObj ⟨2, k.g, k.n, k.i, f, v⟩))).drew
  have HC : Hid (Calls Tryz.prog 22 #[.pointer (some ⟨gv, 0, none⟩), k3E k] (w.alloc (mtObj ⟨2, k.g, k.n, k.i, f, v⟩)).drew fun e w' => (∃ x, e = .returned (.bool x)) ∧ AbS w' O s gv gl gd ⟨updK a.V k none, a.L, a.D⟩ (N + 1) ∧ Tch O w w' ∧
      (w'.cell? ⟨s, 0, none⟩ = some (.pointer (some ⟨gv, 0, none⟩)) ∧ w'.cell? ⟨w.heap.size, 1, none⟩ = some (.int .i64 k.g) ∧ w'.cell? ⟨w.heap.size, 2, none⟩ = some (.int .i64 k.n) ∧ w'.cell? ⟨w.heap.size, 3, none⟩ = some (.int .i64 k.i))) := by
    refine (stUnset (fun j => O j ∧ j ≠ w.heap.size) s gv gl gd N a k _ (StaS.later h1 hD) (fun j hj => ⟨hO j (Nat.le_trans (hb.trans (hD.mono hb.size)).size hj), fun e => by have := hD.size; simp at this hj; omega⟩)).mono ?_
    rintro e w' ⟨r1, p1, p2⟩
    have hbx' : w'.heap[w.heap.size]? = _ := (p2.block w.heap.size (by show w.heap.size < (w.alloc (mtObj ⟨2, k.g, k.n, k.i, f, v⟩)).heap.size; simp) (fun e => e.2 rfl)).trans ((hD.block w.heap.size (by simp)).trans hbx)
    obtain ⟨z0, z1, z2, z3, z4, z5⟩ := mt_cells hbx'
    obtain ⟨d0, d1, d2⟩ := sta_cells (StaS.obj p1)
    exact ⟨⟨_, r1⟩, StaS.wide p1 (fun j hj _ => hj.1), ((Below.tch hb).trans (Below.tch hD)).trans (p2.mono (fun j _ hj => hj.1)), d0, z1, z2, z3⟩
  clear h h1 hb hO hD hbx
  unfold mtObj at *
  unfold mV k3E at *
  simp only at *
  go_enter Tryz.func47, Tryz.ntmps47
  go_wp2
  go_region_held3 (fun w' => w'.cell? ⟨s, 0, none⟩ = some (.pointer (some ⟨gv, 0, none⟩)) ∧ w'.cell? ⟨w.heap.size, 1, none⟩ = some (.int .i64 k.g) ∧ w'.cell? ⟨w.heap.size, 2, none⟩ = some (.int .i64 k.n) ∧ w'.cell? ⟨w.heap.size, 3, none⟩ = some (.int .i64 k.i)) (first | exact ⟨c0, x1, x2, x3⟩ | exact k4) ((go_at_call 22; refine HC.out.mono ?_; rintro e W1 ⟨⟨er, rfl⟩, k1, k2, k4⟩; have HK := hide (And.intro k1 k2); clear k1 k2))
  all_goals
    clear HC
    go_wp2
    go_end0
    exact ⟨rfl, HK.out.1, HK.out.2⟩

set_option maxRecDepth 100000 in
set_option maxHeartbeats 800000 in
theorem changeClear (O : Nat → Prop) (s gv gl gd N : Nat) (a : Ab) (k : K3) (f v : Int) (w : World) (h : AbS w O s gv gl gd a N) (hO : ∀ k, w.heap.size ≤ k → O k) :
    Calls Tryz.prog 47 #[.pointer (some ⟨s, 0, none⟩), mV ⟨4, k.g, k.n, k.i, f, v⟩] w fun e w' => e = .returned (.tuple #[]) ∧ AbS w' O s gv gl gd ⟨a.V, updR a.L k [], a.D⟩ (N + 1) ∧ Tch O w w' := by
  have hb := below_alloc w (mtObj ⟨4, k.g, k.n, k.i, f, v⟩) w.heap.size (Nat.le_refl _)
  have hbx := heap_alloc_new w (mtObj ⟨4, k.g, k.n, k.i, f, v⟩)
  obtain ⟨x0, x1, x2, x3, x4, x5⟩ := mt_cells hbx
  have h1 : AbS (w.alloc (mtObj ⟨4, k.g, k.n, k.i, f, v⟩)) (fun j => O j ∧ j ≠ w.heap.size) s gv gl gd a N := (StaS.wide h (O' := fun j => O j ∧ j ≠ w.heap.size) (fun j hj hl => ⟨hj, by omega⟩)).later hb
  obtain ⟨c0, c1, c2⟩ := sta_cells (StaS.obj h1)
  have hD := (Below.refl (w.alloc (mtObj ⟨4, k.g, k.n, k.i, f, v⟩)).heap.size (w.alloc (mtObj ⟨4, k.g, k.n, k.i, f, v⟩))).drew
  have HC : Hid (Calls Tryz.prog 24 #[.pointer (some ⟨gl, 0, none⟩), k3E k] (w.alloc (mtObj ⟨4, k.g, k.n, k.i, f, v⟩)).drew fun e w' => (∃ x, e = .returned (.int .i64 x)) ∧ AbS w' O s gv gl gd ⟨a.V, updR a.L k [], a.D⟩ (N + 1) ∧ Tch O w w' ∧
      (w'.cell? ⟨s, 1, none⟩ = some (.pointer (some ⟨gl, 0, none⟩)) ∧ w'.cell? ⟨w.heap.size, 1, none⟩ = some (.int .i64 k.g) ∧ w'.cell? ⟨w.heap.size, 2, none⟩ = some (.int .i64 k.n) ∧ w'.cell? ⟨w.heap.size, 3, none⟩ = some (.int .i64 k.i))) := by
    refine (stClear (fun j => O j ∧ j ≠ w.heap.size) s gv gl gd N a k _ (StaS.later h1 hD) (fun j hj => ⟨hO j (Nat.le_trans (hb.trans (hD.mono hb.size)).size hj), fun e => by have := hD.size; simp at this hj; omega⟩)).mono ?_
    rintro e w' ⟨r1, p1, p2⟩
    have hbx' : w'.heap[w.heap.size]? = _ := (p2.block w.heap.size (by show w.heap.size < (w.alloc (mtObj ⟨4, k.g, k.n, k.i, f, v⟩)).heap.size; simp) (fun e => e.2 rfl)).trans ((hD.block w.heap.size (by simp)).trans hbx)
    obtain ⟨z0, z1, z2, z3, z4, z5⟩ := mt_cells hbx'
    obtain ⟨d0, d1, d2⟩ := sta_cells (StaS.obj p1)
    exact ⟨⟨_, r1⟩, StaS.wide p1 (fun j hj _ => hj.1), ((Below.tch hb).trans (Below.tch hD)).trans (p2.mono (fun j _ hj => hj.1)), d1, z1, z2, z3⟩
  clear h h1 hb hO hD hbx
  unfold mtObj at *
  unfold mV k3E at *
  simp only at *
  go_enter Tryz.func47, Tryz.ntmps47
  go_wp2
  go_region_held3 (fun w' => w'.cell? ⟨s, 1, none⟩ = some (.pointer (some ⟨gl, 0, none⟩)) ∧ w'.cell? ⟨w.heap.size, 1, none⟩ = some (.int .i64 k.g) ∧ w'.cell? ⟨w.heap.size, 2, none⟩ = some (.int .i64 k.n) ∧ w'.cell? ⟨w.heap.size, 3, none⟩ = some (.int .i64 k.i)) (first | exact ⟨c1, x1, x2, x3⟩ | exact k4) ((go_at_call 24; refine HC.out.mono ?_; rintro e W1 ⟨⟨er, rfl⟩, k1, k2, k4⟩; have HK := hide (And.intro k1 k2); clear k1 k2))
  all_goals
    clear HC
    go_wp2
    go_end0
    exact ⟨rfl, HK.out.1, HK.out.2⟩

set_option maxRecDepth 100000 in
set_option maxHeartbeats 800000 in
theorem changePut (O : Nat → Prop) (s gv gl gd N : Nat) (a : Ab) (k : K3) (f v : Int) (w : World) (h : AbS w O s gv gl gd a N) (hO : ∀ k, w.heap.size ≤ k → O k) (ha : OkF (a.D k)) (h0 : 0 ≤ f) (h8 : f < 8) :
    Calls Tryz.prog 47 #[.pointer (some ⟨s, 0, none⟩), mV ⟨5, k.g, k.n, k.i, f, v⟩] w fun e w' => e = .returned (.tuple #[]) ∧ AbS w' O s gv gl gd ⟨a.V, a.L, updR a.D k (putF (a.D k) f v)⟩ (N + 1) ∧ Tch O w w' := by
  have hb := below_alloc w (mtObj ⟨5, k.g, k.n, k.i, f, v⟩) w.heap.size (Nat.le_refl _)
  have hbx := heap_alloc_new w (mtObj ⟨5, k.g, k.n, k.i, f, v⟩)
  obtain ⟨x0, x1, x2, x3, x4, x5⟩ := mt_cells hbx
  have h1 : AbS (w.alloc (mtObj ⟨5, k.g, k.n, k.i, f, v⟩)) (fun j => O j ∧ j ≠ w.heap.size) s gv gl gd a N := (StaS.wide h (O' := fun j => O j ∧ j ≠ w.heap.size) (fun j hj hl => ⟨hj, by omega⟩)).later hb
  obtain ⟨c0, c1, c2⟩ := sta_cells (StaS.obj h1)
  have hD := (Below.refl (w.alloc (mtObj ⟨5, k.g, k.n, k.i, f, v⟩)).heap.size (w.alloc (mtObj ⟨5, k.g, k.n, k.i, f, v⟩))).drew
  have HC : Hid (Calls Tryz.prog 10 #[.pointer (some ⟨gd, 0, none⟩), k3E k, .int .i64 f, .int .i64 v] (w.alloc (mtObj ⟨5, k.g, k.n, k.i, f, v⟩)).drew fun e w' => (∃ x, e = .returned (.int .i64 x)) ∧ AbS w' O s gv gl gd ⟨a.V, a.L, updR a.D k (putF (a.D k) f v)⟩ (N + 1) ∧ Tch O w w' ∧
      (w'.cell? ⟨s, 2, none⟩ = some (.pointer (some ⟨gd, 0, none⟩)) ∧ w'.cell? ⟨w.heap.size, 1, none⟩ = some (.int .i64 k.g) ∧ w'.cell? ⟨w.heap.size, 2, none⟩ = some (.int .i64 k.n) ∧ w'.cell? ⟨w.heap.size, 3, none⟩ = some (.int .i64 k.i) ∧ w'.cell? ⟨w.heap.size, 4, none⟩ = some (.int .i64 f) ∧ w'.cell? ⟨w.heap.size, 5, none⟩ = some (.int .i64 v))) := by
    refine (stPut putOK (fun j => O j ∧ j ≠ w.heap.size) s gv gl gd N a k f v _ (StaS.later h1 hD) (fun j hj => ⟨hO j (Nat.le_trans (hb.trans (hD.mono hb.size)).size hj), fun e => by have := hD.size; simp at this hj; omega⟩) ha.1 (by have := OkF.le ha; omega) h0 h8).mono ?_
    rintro e w' ⟨r1, p1, p2⟩
    have hbx' : w'.heap[w.heap.size]? = _ := (p2.block w.heap.size (by show w.heap.size < (w.alloc (mtObj ⟨5, k.g, k.n, k.i, f, v⟩)).heap.size; simp) (fun e => e.2 rfl)).trans ((hD.block w.heap.size (by simp)).trans hbx)
    obtain ⟨z0, z1, z2, z3, z4, z5⟩ := mt_cells hbx'
    obtain ⟨d0, d1, d2⟩ := sta_cells (StaS.obj p1)
    exact ⟨⟨_, r1⟩, StaS.wide p1 (fun j hj _ => hj.1), ((Below.tch hb).trans (Below.tch hD)).trans (p2.mono (fun j _ hj => hj.1)), d2, z1, z2, z3, z4, z5⟩
  clear h h1 hb hO hD hbx ha h0 h8
  unfold mtObj at *
  unfold mV k3E at *
  simp only at *
  go_enter Tryz.func47, Tryz.ntmps47
  go_wp2
  go_region_held3 (fun w' => w'.cell? ⟨s, 2, none⟩ = some (.pointer (some ⟨gd, 0, none⟩)) ∧ w'.cell? ⟨w.heap.size, 1, none⟩ = some (.int .i64 k.g) ∧ w'.cell? ⟨w.heap.size, 2, none⟩ = some (.int .i64 k.n) ∧ w'.cell? ⟨w.heap.size, 3, none⟩ = some (.int .i64 k.i) ∧ w'.cell? ⟨w.heap.size, 4, none⟩ = some (.int .i64 f) ∧ w'.cell? ⟨w.heap.size, 5, none⟩ = some (.int .i64 v)) (first | exact ⟨c2, x1, x2, x3, x4, x5⟩ | exact k4) ((go_at_call 10; refine HC.out.mono ?_; rintro e W1 ⟨⟨er, rfl⟩, k1, k2, k4⟩; have HK := hide (And.intro k1 k2); clear k1 k2))
  all_goals
    clear HC
    go_wp2
    go_end0
    exact ⟨rfl, HK.out.1, HK.out.2⟩

set_option maxRecDepth 100000 in
set_option maxHeartbeats 800000 in
theorem changeCut (O : Nat → Prop) (s gv gl gd N : Nat) (a : Ab) (k : K3) (f v : Int) (w : World) (h : AbS w O s gv gl gd a N) (hO : ∀ k, w.heap.size ≤ k → O k) (ha : OkF (a.D k)) :
    Calls Tryz.prog 47 #[.pointer (some ⟨s, 0, none⟩), mV ⟨6, k.g, k.n, k.i, f, v⟩] w fun e w' => e = .returned (.tuple #[]) ∧ AbS w' O s gv gl gd ⟨a.V, a.L, updR a.D k (cutF (a.D k) f)⟩ (N + 1) ∧ Tch O w w' := by
  have hb := below_alloc w (mtObj ⟨6, k.g, k.n, k.i, f, v⟩) w.heap.size (Nat.le_refl _)
  have hbx := heap_alloc_new w (mtObj ⟨6, k.g, k.n, k.i, f, v⟩)
  obtain ⟨x0, x1, x2, x3, x4, x5⟩ := mt_cells hbx
  have h1 : AbS (w.alloc (mtObj ⟨6, k.g, k.n, k.i, f, v⟩)) (fun j => O j ∧ j ≠ w.heap.size) s gv gl gd a N := (StaS.wide h (O' := fun j => O j ∧ j ≠ w.heap.size) (fun j hj hl => ⟨hj, by omega⟩)).later hb
  obtain ⟨c0, c1, c2⟩ := sta_cells (StaS.obj h1)
  have hD := (Below.refl (w.alloc (mtObj ⟨6, k.g, k.n, k.i, f, v⟩)).heap.size (w.alloc (mtObj ⟨6, k.g, k.n, k.i, f, v⟩))).drew
  have HC : Hid (Calls Tryz.prog 11 #[.pointer (some ⟨gd, 0, none⟩), k3E k, .int .i64 f] (w.alloc (mtObj ⟨6, k.g, k.n, k.i, f, v⟩)).drew fun e w' => (∃ x, e = .returned (.bool x)) ∧ AbS w' O s gv gl gd ⟨a.V, a.L, updR a.D k (cutF (a.D k) f)⟩ (N + 1) ∧ Tch O w w' ∧
      (w'.cell? ⟨s, 2, none⟩ = some (.pointer (some ⟨gd, 0, none⟩)) ∧ w'.cell? ⟨w.heap.size, 1, none⟩ = some (.int .i64 k.g) ∧ w'.cell? ⟨w.heap.size, 2, none⟩ = some (.int .i64 k.n) ∧ w'.cell? ⟨w.heap.size, 3, none⟩ = some (.int .i64 k.i) ∧ w'.cell? ⟨w.heap.size, 4, none⟩ = some (.int .i64 f))) := by
    refine (stCut cutOK (fun j => O j ∧ j ≠ w.heap.size) s gv gl gd N a k f _ (StaS.later h1 hD) (fun j hj => ⟨hO j (Nat.le_trans (hb.trans (hD.mono hb.size)).size hj), fun e => by have := hD.size; simp at this hj; omega⟩) ha.1 (by have := OkF.le ha; omega)).mono ?_
    rintro e w' ⟨r1, p1, p2⟩
    have hbx' : w'.heap[w.heap.size]? = _ := (p2.block w.heap.size (by show w.heap.size < (w.alloc (mtObj ⟨6, k.g, k.n, k.i, f, v⟩)).heap.size; simp) (fun e => e.2 rfl)).trans ((hD.block w.heap.size (by simp)).trans hbx)
    obtain ⟨z0, z1, z2, z3, z4, z5⟩ := mt_cells hbx'
    obtain ⟨d0, d1, d2⟩ := sta_cells (StaS.obj p1)
    exact ⟨⟨_, r1⟩, StaS.wide p1 (fun j hj _ => hj.1), ((Below.tch hb).trans (Below.tch hD)).trans (p2.mono (fun j _ hj => hj.1)), d2, z1, z2, z3, z4⟩
  clear h h1 hb hO hD hbx ha
  unfold mtObj at *
  unfold mV k3E at *
  simp only at *
  go_enter Tryz.func47, Tryz.ntmps47
  go_wp2
  go_region_held3 (fun w' => w'.cell? ⟨s, 2, none⟩ = some (.pointer (some ⟨gd, 0, none⟩)) ∧ w'.cell? ⟨w.heap.size, 1, none⟩ = some (.int .i64 k.g) ∧ w'.cell? ⟨w.heap.size, 2, none⟩ = some (.int .i64 k.n) ∧ w'.cell? ⟨w.heap.size, 3, none⟩ = some (.int .i64 k.i) ∧ w'.cell? ⟨w.heap.size, 4, none⟩ = some (.int .i64 f)) (first | exact ⟨c2, x1, x2, x3, x4⟩ | exact k4) ((go_at_call 11; refine HC.out.mono ?_; rintro e W1 ⟨⟨er, rfl⟩, k1, k2, k4⟩; have HK := hide (And.intro k1 k2); clear k1 k2))
  all_goals
    clear HC
    go_wp2
    go_end0
    exact ⟨rfl, HK.out.1, HK.out.2⟩

theorem chOK_2 (k : K3) (f v : Int) : ChOK ⟨2, k, f, v⟩ := fun O s gv gl gd N a w h _ _ hO => by
  have := changeUnset O s gv gl gd N a k f v w h hO
  simpa [Mq.m, doQ] using this
theorem chOK_4 (k : K3) (f v : Int) : ChOK ⟨4, k, f, v⟩ := fun O s gv gl gd N a w h _ _ hO => by
  have := changeClear O s gv gl gd N a k f v w h hO
  simpa [Mq.m, doQ] using this
theorem chOK_5 (k : K3) (f v : Int) (h0 : 0 ≤ f) (h8 : f < 8) : ChOK ⟨5, k, f, v⟩ := fun O s gv gl gd N a w h ha _ hO => by
  have := changePut O s gv gl gd N a k f v w h hO (ha k) h0 h8
  simpa [Mq.m, doQ] using this
theorem chOK_6 (k : K3) (f v : Int) : ChOK ⟨6, k, f, v⟩ := fun O s gv gl gd N a w h ha _ hO => by
  have := changeCut O s gv gl gd N a k f v w h hO (ha k)
  simpa [Mq.m, doQ] using this

/-- What a change leaves has fields as they may be. -/
theorem AbOK.doQ {a : Ab} (h : AbOK a) {x : Mq} (hx : x.c = 5 → 0 ≤ x.f ∧ x.f < 8) : AbOK (doQ a x) := by
  unfold Go.Proofs.YtiofkcmdgijjoaaGreat.doQ
  repeat' split
  all_goals first
    | exact h
    | skip
  · rename_i h5
    intro k
    show OkF (updR a.D x.k (putF (a.D x.k) x.f x.v) k)
    unfold updR
    by_cases e : k = x.k
    · rw [if_pos e]; exact OkF.put x.v (h x.k) (hx h5).1 (hx h5).2
    · rw [if_neg e]; exact h k
  · intro k
    show OkF (updR a.D x.k (cutF (a.D x.k) x.f) k)
    unfold updR
    by_cases e : k = x.k
    · rw [if_pos e]; exact OkF.cut x.f (h x.k)
    · rw [if_neg e]; exact h k
theorem AbOK.runQ {a : Ab} (h : AbOK a) : ∀ {xs : List Mq}, (∀ x ∈ xs, x.c = 5 → 0 ≤ x.f ∧ x.f < 8) → AbOK (runQ a xs) := by
  intro xs hx
  unfold Go.Proofs.YtiofkcmdgijjoaaGreat.runQ
  induction xs generalizing a with
  | nil => exact h
  | cons x xs ih =>
    rw [List.foldl_cons]
    exact ih (AbOK.doQ h (hx x List.mem_cons_self)) (fun y hy => hx y (List.mem_cons_of_mem _ hy))
theorem abOK0 : AbOK ab0 := fun _ => OkF.nil
end Go.Proofs.YtiofkcmdgijjoaaGreat

namespace Go.Proofs.YtiofkcmdgijjoaaGreat
open Go.RowKit Go.MapKept Go.ChangeMaps

theorem may_range {x : Mq} (h : mayB x.m = true) : x.c = 5 → 0 ≤ x.f ∧ x.f < 8 := by
  intro hc
  obtain ⟨c, k, f, v⟩ := x
  simp only at hc
  subst hc
  simp [mayB, Mq.m, fieldB, hasF, inR] at h
  exact of_decide_eq_true h.1.2
theorem chOK_may (x : Mq) (h : mayB x.m = true) : ChOK x := by
  have h5 := may_range h
  obtain ⟨c, k, f, v⟩ := x
  have hk : 1 ≤ c ∧ c ≤ 6 := by
    simp [mayB, Mq.m, kindB] at h
    exact of_decide_eq_true h.1.1.1
  have hc : c = 1 ∨ c = 2 ∨ c = 3 ∨ c = 4 ∨ c = 5 ∨ c = 6 := by omega
  rcases hc with rfl | rfl | rfl | rfl | rfl | rfl
  · exact chOK_1 k f v
  · exact chOK_2 k f v
  · exact chOK_3 k f v
  · exact chOK_4 k f v
  · exact chOK_5 k f v (h5 rfl).1 (h5 rfl).2
  · exact chOK_6 k f v
theorem runQ_room {L0 : K3 → List Int} : ∀ {xs : List Mq} {lg : K3 → Option Int} {a : Ab}, roomB L0 lg xs = true → (∀ b, curL L0 lg b = ((a.L b).length : Int)) → (∀ b, (a.L b).length ≤ 100) → ∀ b, ((runQ a xs).L b).length ≤ 100 := by
  intro xs
  induction xs with
  | nil => intro lg a _ _ hl b; exact hl b
  | cons x xs ih =>
    intro lg a h hf hl b
    obtain ⟨f1, f2, f3⟩ := room_step h hf
    refine ih (a := doQ a x) f2 f3 (fun k => ?_) b
    unfold doQ
    by_cases e3 : x.c = 3
    · have h3 := f1 e3
      simp only [e3]
      by_cases ek : k = x.k
      · subst ek; simp [updR]; omega
      · simp [updR, ek]; exact hl k
    · repeat' split
      all_goals first
        | exact hl k
        | contradiction
        | skip
      show (updR a.L x.k [] k).length ≤ 100
      unfold updR
      split
      · simp
      · exact hl k

set_option maxRecDepth 100000 in
/-- Do of changes of which one may not be. -/
theorem do_form (s : Nat) (pa : Option Addr) (n cc : Nat) (ms : List Mt) (w : World) (hm : Ms w pa n ms) (hn : n ≤ 100000) (hmay : ms.all mayB = false) :
    Calls Tryz.prog 18 #[.pointer (some ⟨s, 0, none⟩), .slice pa n cc] w fun e w' => e = .returned (.int .i64 1) ∧ Below w.heap.size w w' := by
  have HA := hide (allMay_any pa n cc ms w hm hn)
  rw [hmay] at HA
  clear hm hmay
  go_enter Tryz.func18, Tryz.ntmps18
  go_wp2_with fail
  refine HA.out.mono ?_
  rintro e w1 ⟨rfl, hb1⟩
  have HB1 := hide hb1
  clear hb1 HA
  go_wp2_with fail
  go_ret
  exact ⟨rfl, HB1.out⟩

set_option maxRecDepth 100000 in
/-- Do of changes that there is no room for. -/
theorem do_full (O : Nat → Prop) (s gv gl gd N : Nat) (a : Ab) (pa : Option Addr) (n cc : Nat) (xs : List Mq) (w : World) (h : AbS w O s gv gl gd a N) (hL : ∀ k, (a.L k).length ≤ 100) (hm : Ms w pa n (xs.map Mq.m)) (hn : n ≤ 100000) (hmay : (xs.map Mq.m).all mayB = true) (hroom : roomB a.L (fun _ => none) xs = false) :
    Calls Tryz.prog 18 #[.pointer (some ⟨s, 0, none⟩), .slice pa n cc] w fun e w' => e = .returned (.int .i64 4) ∧ Below w.heap.size w w' := by
  have HA := hide (allMay_any pa n cc (xs.map Mq.m) w hm hn)
  rw [hmay] at HA
  have HRM : Hid (∀ W, Below w.heap.size w W → Calls Tryz.prog 45 #[.pointer (some ⟨s, 0, none⟩), .slice pa n cc] W fun e w' => e = .returned (.bool false) ∧ Below W.heap.size W w') := fun W hb => by
    have := hasRoom_any O s gv gl gd N a.V a.L a.D pa n cc xs W (StaS.later h hb) hL (hm.later hb (Nat.le_refl _)) hn
    rw [hroom] at this
    exact this
  clear h hm hmay hroom hL
  go_enter Tryz.func18, Tryz.ntmps18
  go_wp2_with fail
  refine HA.out.mono ?_
  rintro e w1 ⟨rfl, hb1⟩
  have HB1 := hide hb1
  clear hb1 HA
  go_wp2_with fail
  refine (HRM.out _ HB1.out).mono ?_
  rintro e w2 ⟨rfl, hb2⟩
  have HB2 := hide (HB1.out.trans (hb2.mono HB1.out.size))
  clear hb2 HB1 HRM
  go_wp2_with fail
  go_ret
  exact ⟨rfl, HB2.out⟩

/-- A state; the blocks E are the law's own. -/
structure Sh (w W : World) (s gv gl gd : Nat) (E : Nat → Prop) (a : Ab) (N : Nat) : Prop where
  st : AbS W (fun k => gv ≤ k ∧ ¬ E k) s gv gl gd a N
  lt : ∀ k, E k → k < W.heap.size
  gl : gv < W.heap.size
  gw : w.heap.size ≤ gv
  b : Below w.heap.size w W
  ok : AbOK a
  ll : ∀ k, (a.L k).length ≤ 100
section
variable {w W W' : World} {s gv gl gd N : Nat} {E : Nat → Prop} {a : Ab}
theorem Sh.later (h : Sh w W s gv gl gd E a N) (hb : Below W.heap.size W W') : Sh w W' s gv gl gd E a N :=
  ⟨StaS.later h.st hb, fun k hk => Nat.lt_of_lt_of_le (h.lt k hk) hb.size, Nat.lt_of_lt_of_le h.gl hb.size, h.gw, h.b.trans (hb.mono h.b.size), h.ok, h.ll⟩
theorem Sh.drew (h : Sh w W s gv gl gd E a N) : Sh w W.drew s gv gl gd E a N := h.later (Below.refl _ _).drew
theorem Sh.out (h : Sh w W s gv gl gd E a N) : ∀ k, W.heap.size ≤ k → gv ≤ k ∧ ¬ E k := fun k hk => ⟨by have := h.gl; omega, fun e => by have := h.lt k e; omega⟩
theorem Sh.dl (h : Sh w W s gv gl gd E a N) : ∀ k, (a.D k).length ≤ 100 := fun k => by have := OkF.le (h.ok k); omega
/-- One more block is the law's own. -/
theorem Sh.box (h : Sh w W s gv gl gd E a N) (o : Obj) : Sh w (W.alloc o) s gv gl gd (fun k => E k ∨ k = W.heap.size) a N := by
  have hb := below_alloc W o W.heap.size (Nat.le_refl _)
  have h1 := h.later hb
  have hl : AbS W (fun k => gv ≤ k ∧ ¬ (E k ∨ k = W.heap.size)) s gv gl gd a N := StaS.wide h.st (fun k hk hl => ⟨hk.1, fun e => by
    rcases e with e | e
    · exact hk.2 e
    · omega⟩)
  refine ⟨StaS.later hl hb, ?_, h1.gl, h.gw, h1.b, h.ok, h.ll⟩
  rintro k (e | e)
  · exact h1.lt k e
  · subst e; simp
theorem Sh.drop {E' : Nat → Prop} (h : Sh w W s gv gl gd E a N) (hE : ∀ j, E' j → E j) : Sh w W s gv gl gd E' a N :=
  ⟨StaS.wide h.st (fun k hk _ => ⟨hk.1, fun e => hk.2 (hE k e)⟩), fun j hj => h.lt j (hE j hj), h.gl, h.gw, h.b, h.ok, h.ll⟩
/-- Blocks ahead of the state may be the law's own as well. -/
theorem Sh.more {E' : Nat → Prop} (h : Sh w W s gv gl gd E a N) (hE : ∀ j, E' j → (E j ∨ j < gv) ∧ j < W.heap.size) : Sh w W s gv gl gd E' a N :=
  ⟨StaS.wide h.st (fun k hk _ => ⟨hk.1, fun e => (hE k e).1.elim hk.2 (fun hl => by have := hk.1; omega)⟩), fun j hj => (hE j hj).2, h.gl, h.gw, h.b, h.ok, h.ll⟩
/-- The law writes into what is its own. -/
theorem Sh.turn (h : Sh w W s gv gl gd E a N) (ht : Tch E W W') (hE : ∀ k, E k → w.heap.size ≤ k) : Sh w W' s gv gl gd E a N :=
  ⟨StaS.tch h.st ht (fun k hk _ e => hk.2 e), fun k hk => Nat.lt_of_lt_of_le (h.lt k hk) ht.size, Nat.lt_of_lt_of_le h.gl ht.size, h.gw, h.b.trans (ht.below (fun k hk e => by have := hE k e; omega) h.b.size), h.ok, h.ll⟩
theorem Sh.cells (h : Sh w W s gv gl gd E a N) : W.cell? ⟨s, 0, none⟩ = some (.pointer (some ⟨gv, 0, none⟩)) ∧ W.cell? ⟨s, 1, none⟩ = some (.pointer (some ⟨gl, 0, none⟩)) ∧ W.cell? ⟨s, 2, none⟩ = some (.pointer (some ⟨gd, 0, none⟩)) := sta_cells (StaS.obj h.st)
theorem Sh.do' (h : Sh w W s gv gl gd E a N) (pa : Option Addr) (n cc : Nat) (xs : List Mq) (hm : Ms W pa n (xs.map Mq.m)) (hn : n ≤ 100000) (hpa : ∀ b o, pa = some ⟨b, o, none⟩ → b < gv ∨ E b) (hmay : (xs.map Mq.m).all mayB = true) (hroom : roomB a.L (fun _ => none) xs = true) :
    Calls Tryz.prog 18 #[.pointer (some ⟨s, 0, none⟩), .slice pa n cc] W fun e w' => e = .returned (.int .i64 0) ∧ Sh w w' s gv gl gd E (runQ a xs) (N + n) ∧ Tch (fun k => gv ≤ k ∧ ¬ E k) W w' := by
  have hx : ∀ x ∈ xs, mayB x.m = true := fun x hx => by
    rw [List.all_eq_true] at hmay
    exact hmay _ (List.mem_map_of_mem hx)
  refine (do_ok (fun k => gv ≤ k ∧ ¬ E k) s gv gl gd N a pa n cc xs W h.st h.ll hm hn h.out (fun b o e hb => (hpa b o e).elim (fun hl => by have := hb.1; omega) hb.2) (fun x hm' => chOK_may x (hx x hm')) (fun k => AbOK.runQ h.ok (fun x hm' => may_range (hx x (List.mem_of_mem_take hm')))) hmay hroom).mono ?_
  rintro e w' ⟨r1, r2, r3⟩
  exact ⟨r1, ⟨r2, fun k hk => Nat.lt_of_lt_of_le (h.lt k hk) r3.size, Nat.lt_of_lt_of_le h.gl r3.size, h.gw, h.b.trans (r3.below (fun k hk e => by have := h.gw; omega) h.b.size), AbOK.runQ h.ok (fun x hm' => may_range (hx x hm')), runQ_room hroom (fun b => rfl) h.ll⟩, r3⟩
theorem Sh.value (h : Sh w W s gv gl gd E a N) (k : K3) :
    Calls Tryz.prog 36 #[.pointer (some ⟨gv, 0, none⟩), k3E k] W fun e w' => e = .returned (.tuple #[.int .i64 ((a.V k).getD 0), .bool (a.V k).isSome]) ∧ Sh w w' s gv gl gd E a N ∧ Below W.heap.size W w' := by
  obtain ⟨X, hX⟩ := StaS.rdV h.st
  refine (valueGet X gv N a.V k W hX).mono ?_
  rintro e w' ⟨r1, r2⟩
  exact ⟨r1, h.later r2, r2⟩
theorem Sh.field (h : Sh w W s gv gl gd E a N) (k : K3) (f : Int) :
    Calls Tryz.prog 15 #[.pointer (some ⟨gd, 0, none⟩), k3E k, .int .i64 f] W fun e w' => e = .returned (.tuple #[.int .i64 ((fldZ (a.D k) f).getD 0), .bool (fldZ (a.D k) f).isSome]) ∧ Sh w w' s gv gl gd E a N ∧ Below W.heap.size W w' := by
  obtain ⟨X, hX⟩ := StaS.rdD h.st
  refine (dictField X gd N a.D k f W hX (h.ok k).1 (h.dl k)).mono ?_
  rintro e w' ⟨r1, r2⟩
  exact ⟨r1, h.later r2, r2⟩
theorem Sh.list (h : Sh w W s gv gl gd E a N) (k : K3) :
    Calls Tryz.prog 38 #[.pointer (some ⟨gl, 0, none⟩), k3E k] W fun e w' => ∃ p c, e = .returned (.slice p (a.L k).length c) ∧ OwnI w' W.heap.size (.slice p (a.L k).length c) (a.L k) ∧ Sh w w' s gv gl gd E a N ∧ Below W.heap.size W w' := by
  obtain ⟨X, hX⟩ := StaS.rdL h.st
  refine (listList X gl N a.L k W hX (h.ll k)).mono ?_
  rintro e w' ⟨v, r1, r2, r3⟩
  obtain ⟨p, c, rfl, _⟩ := RowI.slice r2.row
  exact ⟨p, c, r1, r2, h.later r3, r3⟩
theorem Sh.dict (h : Sh w W s gv gl gd E a N) (k : K3) :
    Calls Tryz.prog 13 #[.pointer (some ⟨gd, 0, none⟩), k3E k] W fun e w' => ∃ p c, e = .returned (.slice p (a.D k).length c) ∧ Sh w w' s gv gl gd E a N ∧ Below W.heap.size W w' := by
  obtain ⟨X, hX⟩ := StaS.rdD h.st
  refine (dictDict X gd N a.D k W hX (h.dl k)).mono ?_
  rintro e w' ⟨v, r1, r2, r3⟩
  obtain ⟨p, c, rfl, _⟩ := RowF.rd r2.row
  exact ⟨p, c, r1, h.later r3, r3⟩
theorem Sh.told (h : Sh w W s gv gl gd E a N) (hN : N ≤ 1000) {ks : List K3} (hk : Kof a ks) :
    Calls Tryz.prog 26 #[.pointer (some ⟨s, 0, none⟩)] W fun e w' => ∃ p c, e = .returned (.slice p ks.length c) ∧ Sh w w' s gv gl gd E a N ∧ Below W.heap.size W w' := by
  refine (stateCells _ s gv gl gd N a W h.st hN h.ll h.dl).mono ?_
  rintro e w' ⟨v, xs, ks', r1, r2, r3, r4, r5, r6⟩
  have e1 : ks' = ks := rise_eq r2.1 hk.1 (fun k => (r2.2 k).trans (hk.2 k).symm)
  have e2 : xs.length = ks.length := by
    have := congrArg List.length r4
    rw [List.length_map, List.length_map, e1] at this
    exact this
  rcases r5.slice with ⟨e3, e4⟩ | ⟨g, cp, e3, _⟩
  · subst e4
    refine ⟨none, 0, ?_, h.later r6, r6⟩
    rw [r1, e3, ← e2]; rfl
  · refine ⟨some ⟨g, 0, none⟩, cp, ?_, h.later r6, r6⟩
    rw [r1, e3, e2]
end
theorem Sh.new (w w1 : World) (hb : Below w.heap.size w w1) : Sh w (newSt w1) (w1.heap.size + 1 + 1 + 1) w1.heap.size (w1.heap.size + 1) (w1.heap.size + 1 + 1) (fun _ => False) ab0 0 := by
  have h1 := newSt_below w1
  have h2 := newSt_size w1
  exact ⟨StaS.new w1 _ (fun k hk => ⟨hk, fun e => e⟩), fun _ e => e.elim, by omega, hb.size, hb.trans (h1.mono hb.size), abOK0, fun _ => Nat.zero_le _⟩
end Go.Proofs.YtiofkcmdgijjoaaGreat

namespace Go.Proofs.YtiofkcmdgijjoaaGreat
open Go.RowKit

theorem infoM : (Tryz.prog.info? 55).map (fun i => (i.zero, i.size, i.bytes)) = some (some (.agg #[.int .i64 0, .int .i64 0, .int .i64 0, .int .i64 0, .int .i64 0, .int .i64 0]), 6, 48) := by kernel_rfl

/-- A row of changes that is the call's own. -/
def OwnM (w : World) (B : Nat) (v : Value) (ms : List Mt) : Prop := w.ownsRow B 55 6 v ms.length (ms.flatMap mCs)

theorem OwnM.nil (w : World) (B : Nat) : OwnM w B (.slice none 0 0) [] := World.ownsRow_nil _ _ _ _
theorem OwnM.later {w w' : World} {B : Nat} {v : Value} {ms : List Mt} (h : OwnM w B v ms) (hb : Below w.heap.size w w') : OwnM w' B v ms :=
  World.ownsRow.kept h (below_grown hb none) (by cases e : v.ownBlock with | none => exact Or.inl rfl | some _ => exact Or.inr (by simp))
theorem OwnM.lt {w : World} {B : Nat} {v : Value} {ms : List Mt} (h : OwnM w B v ms) : ∀ k, v.ownBlock = some k → B ≤ k ∧ k < w.heap.size := World.ownsRow.lt h

theorem flat_len (ms : List Mt) : (ms.flatMap mCs).length = ms.length * 6 := by
  induction ms with
  | nil => rfl
  | cons m ms ih => rw [List.flatMap_cons, List.length_append, ih, List.length_cons]; simp [mCs]; omega
theorem flat_at (ms : List Mt) (i j : Nat) (m : Mt) (h : ms[i]? = some m) (hj : j < 6) : (ms.flatMap mCs)[i * 6 + j]? = (mCs m)[j]? := by
  induction ms generalizing i with
  | nil => simp at h
  | cons x ms ih =>
    rw [List.flatMap_cons]
    cases i with
    | zero =>
      simp at h
      subst h
      rw [List.getElem?_append_left (by simp [mCs]; omega)]
      simp
    | succ i =>
      rw [List.getElem?_append_right (by simp [mCs]; omega)]
      have e : (i + 1) * 6 + j - (mCs x).length = i * 6 + j := by simp [mCs]; omega
      rw [e]
      exact ih i (by simpa using h)

theorem OwnM.ms {w : World} {B : Nat} {v : Value} {ms : List Mt} (h : OwnM w B v ms) : ∃ pa c, v = .slice pa ms.length c ∧ Ms w pa ms.length ms := by
  obtain ⟨h1, h2⟩ := h
  rcases h2 with ⟨rfl, h0⟩ | ⟨g, cap, cur, rfl, hg, hh, hn, hm, hs, ht⟩
  · have : ms = [] := List.length_eq_zero_iff.1 h0
    subst this
    exact ⟨none, 0, rfl, rfl, fun h => absurd h (by simp)⟩
  · refine ⟨some ⟨g, 0, none⟩, cap, rfl, rfl, fun _ => ⟨g, 0, rfl, fun i m hi => ?_⟩⟩
    have hil : i < ms.length := (List.getElem?_eq_some_iff.1 hi).1
    have key : ∀ j, j < 6 → cur[i * 6 + j]? = (mCs m)[j]? := by
      intro j hj
      rw [← flat_at ms i j m hi hj, ← ht, List.getElem?_take, if_pos (by omega)]
      simp
    have k0 := key 0 (by omega); have k1 := key 1 (by omega); have k2 := key 2 (by omega)
    have k3 := key 3 (by omega); have k4 := key 4 (by omega); have k5 := key 5 (by omega)
    simp only [mCs, Nat.add_zero, List.getElem?_cons_zero, List.getElem?_cons_succ] at k0 k1 k2 k3 k4 k5
    refine ⟨?_, ?_, ?_, ?_, ?_, ?_⟩ <;> simp [World.cell?, hh, k0, k1, k2, k3, k4, k5]

/-- append(own, m) of a row of changes. -/
theorem wpList_appM {w : World} {ops : Array Oper} {rest : List Oper} {o : Oper} {a : Act} {Q : Exit → Act → World → Prop} (hgd : o.guard = none) (s x : Operand)
    (ho : o.op = .call { callee := .builtin .append, args := #[s, x], argTypes := #[46, 46] })
    (B : Nat) (v : Value) (ms : List Mt) (hs : a.eval s = v) (hown : OwnM w B v ms) (q : Nat) (m : Mt) (hx : a.eval x = .slice (some ⟨q, 0, none⟩) 1 1) (hq : w.heap[q]? = some (mtObj m)) (hsz : ms.length ≤ 1000000) (hB : B ≤ w.heap.size)
    (h : ∀ v' w', OwnM w' B v' (ms ++ [m]) → w.grownBy w' v.ownBlock → wpList Tryz.prog ops Q rest (a.put o.dst v') w') :
    wpList Tryz.prog ops Q (o :: rest) a w := by
  obtain ⟨i0, hi, hz0, hz1, hz2⟩ := info_parts infoM
  obtain ⟨c0, c1, c2, c3, c4, c5⟩ := mt_cells hq
  refine wpList_append_own_at w hgd s x 46 ho B 55 i0 _ 6 48 Tryz.underlying46 hi hz0 hz1 hz2 rfl (by decide) v ms.length (ms.flatMap mCs) hs hown ⟨q, 0, none⟩ 1 1 (mCs m) hx rfl ?_ ?_ (by simp only [maxLen]; omega) (by omega) hB ?_
  · intro j u hj
    rw [Go.Proofs.YtiofkcmdgijjoaaGreat.add_none]
    unfold mCs at hj
    match j, hj with
    | 0, hj => simp at hj; subst hj; exact c0
    | 1, hj => simp at hj; subst hj; exact c1
    | 2, hj => simp at hj; subst hj; exact c2
    | 3, hj => simp at hj; subst hj; exact c3
    | 4, hj => simp at hj; subst hj; exact c4
    | 5, hj => simp at hj; subst hj; exact c5
    | j + 6, hj => simp at hj
  · intro u hu
    simp [mCs] at hu
    rcases hu with rfl | rfl | rfl | rfl | rfl | rfl <;> rfl
  · intro v' w' h2 h3 _ _
    refine h v' w' ?_ h3
    unfold OwnM
    rw [List.length_append, List.flatMap_append]
    simpa using h2

theorem Ms.one (w : World) (m : Mt) : Ms (w.alloc (mtObj m)) (some ⟨w.heap.size, 0, none⟩) 1 [m] := by
  refine ⟨rfl, fun _ => ⟨w.heap.size, 0, rfl, fun i x hi => ?_⟩⟩
  have : i = 0 := by
    cases i with
    | zero => rfl
    | succ i => simp at hi
  subst this
  simp at hi
  subst hi
  have := mt_cells (heap_alloc_new w (mtObj m))
  simpa using this
end Go.Proofs.YtiofkcmdgijjoaaGreat
