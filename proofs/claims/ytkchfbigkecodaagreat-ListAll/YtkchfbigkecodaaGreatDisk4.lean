/- What disk.Sync, a second Append, Crash and Read do, as begun uses them. -/
import Derived.Test.YtkchfbigkecodaaGreatDisk3
namespace Go.Proofs.YtkchfbigkecodaaGreat
open Go.RowKit

/-- The disk behind its Sync. -/
def S2 (B g : Nat) (s : ByteArray) (l : List Int) (w : World) : Prop :=
  ∃ m1 m2 v v2, w.heap[g]? = some (dObj (some m1) (some m2) (.slice none 0 0) (.slice none 0 0)) ∧ w.heap[m1]? = some (fmap s v) ∧ w.heap[m2]? = some (fmap s v2) ∧ B ≤ m1 ∧ B ≤ m2 ∧ m1 ≠ m2 ∧ w.ownsInts B 5 .u8 v l ∧ w.ownsInts B 5 .u8 v2 l ∧ ∀ k, v.ownBlock = some k → v2.ownBlock ≠ some k

theorem owns_shape {w : World} {B : Nat} {v : Value} {l : List Int} (h : w.ownsInts B 5 .u8 v l) (hl : 0 < l.length) : ∃ g c, v = .slice (some ⟨g, 0, none⟩) l.length c ∧ B ≤ g ∧ Bs w (some ⟨g, 0, none⟩) l.length c l := by
  obtain ⟨a, c, rfl, hb⟩ := Bs.of_owns h
  rcases h.1.2 with ⟨e, h0⟩ | ⟨g, cap, cur, e, hg, _⟩
  · omega
  · obtain ⟨rfl, _, rfl⟩ : a = some ⟨g, 0, none⟩ ∧ l.length = l.length ∧ c = cap := by simpa using e
    exact ⟨g, c, rfl, hg, hb⟩

theorem sync_redo {B g m1 m2 gs cs gl lc : Nat} {s : ByteArray} {v : Value} {l : List Int} {w : World} (hl0 : 0 < l.length) (hl : l.length ≤ 1000) (h1 : w.heap[g]? = some (dObj (some m1) (some m2) (.slice (some ⟨gs, 0, none⟩) 1 cs) (.slice (some ⟨gl, 0, none⟩) l.length lc))) (h2 : w.heap[m1]? = some (fmap s v)) (h3 : w.heap[m2]? = some (.map #[] 0))
    (hB : B ≤ w.heap.size) (hB2 : B ≤ m2) (h12 : m1 ≠ m2) (hN : Noted w gs s l.length) (ho : w.ownsInts B 5 .u8 v l) (hb : Bs w (some ⟨gl, 0, none⟩) l.length lc l) :
    Calls Tryz.prog 128 #[.map (some m2), .slice (some ⟨gs, 0, none⟩) 1 cs, .slice (some ⟨gl, 0, none⟩) l.length lc] w fun e w' => e = .returned (.tuple #[]) ∧ Hid (∃ v2, w'.heap[g]? = some (dObj (some m1) (some m2) (.slice (some ⟨gs, 0, none⟩) 1 cs) (.slice (some ⟨gl, 0, none⟩) l.length lc)) ∧ w'.heap[m1]? = some (fmap s v) ∧ w'.heap[m2]? = some (fmap s v2) ∧ w'.ownsInts B 5 .u8 v l ∧ w'.ownsInts B 5 .u8 v2 l ∧ ∀ k, v.ownBlock = some k → v2.ownBlock ≠ some k) ∧ Hid (Below B w w') := by
  refine (redo_full m2 gs cs gl 0 l.length lc s l w h3 hN hb hl0 hl).mono ?_
  rintro e w1 ⟨v2, rfl, k1, k2, k3⟩
  have hg2 : ¬ some g = some m2 := by
    intro e; have e' : g = m2 := by simpa using e
    rw [← e', h1] at h3; simp [dObj] at h3
  refine ⟨rfl, ⟨v2, (Tch.of k3).old h1 hg2, (Tch.of k3).old h2 (by simpa using h12), k1, ?_, owns_mono k2 hB, ?_⟩, grown_below k3 hB2 hB⟩
  · exact (Tch.of k3).owns ho (fun k hk e => kind_owns ho h3 (by intro c e; simp at e) (by rw [hk, e]))
  · intro k hk e
    have h1 := (ho.1.lt k hk).2
    have h2 := (k2.1.lt k e).1
    omega

theorem tchB {B g : Nat} {w W : World} (hb : Below B w W) : Tch (fun k => k = g ∨ B ≤ k) w W := ⟨hb.os, hb.tape, hb.output, hb.size, fun k _ hn => hb.block k (by omega)⟩
theorem tchG {B g : Nat} {w W : World} (hb : w.grownBy W (some g)) : Tch (fun k => k = g ∨ B ≤ k) w W := (Tch.of hb).mono (fun k _ e => Or.inl (by simpa using e))

theorem sync_end {B g m1 m2 : Nat} {s : ByteArray} {v v2 sv lv : Value} {l : List Int} {w W : World}
    (h : W.heap[g]? = some (dObj (some m1) (some m2) sv lv) ∧ W.heap[m1]? = some (fmap s v) ∧ W.heap[m2]? = some (fmap s v2) ∧ W.ownsInts B 5 .u8 v l ∧ W.ownsInts B 5 .u8 v2 l ∧ ∀ k, v.ownBlock = some k → v2.ownBlock ≠ some k)
    (ha : B ≤ m1 ∧ B ≤ m2 ∧ m1 ≠ m2 ∧ m1 ≠ g ∧ m2 ≠ g) (hb : Below B w W) :
    S2 B g s l ((W.setCell ⟨g, 2, none⟩ (.slice none 0 0)).setCell ⟨g, 3, none⟩ (.slice none 0 0)) ∧ Tch (fun k => k = g ∨ B ≤ k) w ((W.setCell ⟨g, 2, none⟩ (.slice none 0 0)).setCell ⟨g, 3, none⟩ (.slice none 0 0)) := by
  obtain ⟨h1, h2, h3, h4, h5, h6⟩ := h
  have hgr := grown_trans (grown_setCell W g 2 (.slice none 0 0)) (grown_setCell _ g 3 (.slice none 0 0))
  have k1 := (d_set h1 none (.slice none 0 0)).2.2.1
  have k2 := (d_set k1 none (.slice none 0 0)).2.2.2
  have keep : ∀ {u : Value} {ll : List Int}, W.ownsInts B 5 .u8 u ll → ((W.setCell ⟨g, 2, none⟩ (.slice none 0 0)).setCell ⟨g, 3, none⟩ (.slice none 0 0)).ownsInts B 5 .u8 u ll := fun hu => (Tch.of hgr).owns hu (fun k hk e => kind_owns hu h1 (dObj_kind _ _ _ _) (by rw [hk, e]))
  exact ⟨⟨m1, m2, v, v2, k2, (Tch.of hgr).old h2 (by simpa using ha.2.2.2.1), (Tch.of hgr).old h3 (by simpa using ha.2.2.2.2), ha.1, ha.2.1, ha.2.2.1, keep h4, keep h5, h6⟩, (tchB hb).trans (tchG hgr)⟩

set_option maxRecDepth 100000 in
set_option maxHeartbeats 1600000 in
theorem sync_any (B g : Nat) (s : ByteArray) (l : List Int) (w : World) (h : S1 B g s l w) (hB : B ≤ w.heap.size) (hl0 : 0 < l.length) (hl : l.length ≤ 1000) :
    Calls Tryz.prog 88 #[.pointer (some ⟨g, 0, none⟩)] w fun e w' => e = .returned (.tuple #[]) ∧ S2 B g s l w' ∧ Tch (fun k => k = g ∨ B ≤ k) w w' := by
  obtain ⟨m1, m2, v, gs, cs, lv, h1, h2, h3, b1, b2, h12, _, hN, ho, hlv⟩ := h
  obtain ⟨gl, lc, rfl, _, hb⟩ := owns_shape hlv hl0
  obtain ⟨c0, c1, c2, c3⟩ := d_cells h1
  have hD : Below w.heap.size w w.drew := (Below.refl _ _).drew
  have HR := hide (sync_redo (w := w.drew) hl0 hl h1 h2 h3 hB b2 h12 hN (owns_later ho hD) (hb.later hD (Nat.le_refl _)))
  have HA : Hid (B ≤ m1 ∧ B ≤ m2 ∧ m1 ≠ m2 ∧ m1 ≠ g ∧ m2 ≠ g) := by
    refine ⟨b1, b2, h12, ?_, ?_⟩
    · intro e; rw [e, h1] at h2; simp [dObj, fmap] at h2
    · intro e; rw [e, h1] at h3; simp [dObj] at h3
  generalize l.length = n at *
  clear h1 h2 h3 hN ho hlv hb hD b1 b2 h12
  go_enter Tryz.func88, Tryz.ntmps88
  go_wp2
  go_region_with (go_at_call 128; (refine HR.out.mono ?_; rintro e W1 ⟨rfl, HX, HB1⟩; obtain ⟨v2, j1, j2, j3, j4, j5, j6⟩ := HX.out; have fr := d_free j1; have q := d_cells j1; obtain ⟨q0, q1, q2, q3⟩ := q; have HJ := hide (And.intro j1 (And.intro j2 (And.intro j3 (And.intro j4 (And.intro j5 j6))))); clear j1 j2 j3 j4 j5 j6 HX))
  all_goals
    go_wp2
    go_end0
    exact ⟨rfl, sync_end HJ.out HA.out ((Below.refl B w).drew.trans HB1.out)⟩

/-- The disk in the middle of its second Append. -/
def P3 (B g m1 m2 : Nat) (s : ByteArray) (v v2 sv lv : Value) (l l2 : List Int) (w : World) : Prop :=
  w.heap[g]? = some (dObj (some m1) (some m2) sv lv) ∧ w.heap[m1]? = some (fmap s v) ∧ w.heap[m2]? = some (fmap s v2) ∧ w.ownsInts B 5 .u8 v l ∧ w.ownsInts B 5 .u8 v2 l ∧ w.ownsInts B 5 .u8 lv l2 ∧ (∀ k, v.ownBlock = some k → v2.ownBlock ≠ some k) ∧ (∀ k, v.ownBlock = some k → lv.ownBlock ≠ some k)

/-- The disk behind its second Append, as far as Crash looks. -/
def S3 (B g : Nat) (s : ByteArray) (l l2 : List Int) (w : World) : Prop :=
  ∃ m1 m2 v2 gs cs lv, w.heap[g]? = some (dObj (some m1) (some m2) (.slice (some ⟨gs, 0, none⟩) 1 cs) lv) ∧ w.heap[m2]? = some (fmap s v2) ∧ w.ownsInts B 5 .u8 v2 l ∧ w.ownsInts B 5 .u8 lv l2 ∧ Noted w gs s l2.length

theorem ap2_note {B g m1 m2 : Nat} {v v2 lv : Value} {l l2 : List Int} {s : ByteArray} {w : World} (h0 : 1 ≤ s.size) (hs : s.size ≤ 40) (h : P3 B g m1 m2 s v v2 (.slice none 0 0) lv l l2 w) (n : Nat) (hn : n = l2.length) :
    Calls Tryz.prog 127 #[.pointer (some ⟨g, 0, none⟩), .int .i64 0, .string s, .int .i64 n] w fun e w' => e = .returned (.string s) ∧ w'.cell? ⟨g, 0, none⟩ = some (.map (some m1)) ∧
      Hid (∃ gs cs, P3 B g m1 m2 s v v2 (.slice (some ⟨gs, 0, none⟩) 1 cs) lv l l2 w' ∧ Noted w' gs s l2.length ∧ w.heap.size ≤ gs) ∧ w.grownBy w' (some g) := by
  obtain ⟨h1, h2, h3, h4, h5, h6, h7, h8⟩ := h
  refine (note_first g (some m1) (some m2) lv s n w h1 h0 hs).mono ?_
  rintro e w1 ⟨gs, cs, rfl, k1, k2, k3, k4⟩
  have keep : ∀ {u : Value} {ll : List Int}, w.ownsInts B 5 .u8 u ll → w1.ownsInts B 5 .u8 u ll := fun hu => (Tch.of k4).owns hu (fun k hk e => kind_owns hu h1 (dObj_kind _ _ _ _) (by rw [hk, e]))
  subst hn
  have hm1 : ¬ some m1 = some g := by intro e; have e' : m1 = g := by simpa using e
                                      rw [e', h1] at h2; simp [dObj, fmap] at h2
  have hm2 : ¬ some m2 = some g := by intro e; have e' : m2 = g := by simpa using e
                                      rw [e', h1] at h3; simp [dObj, fmap] at h3
  exact ⟨rfl, (d_cells k1).1, ⟨gs, cs, ⟨k1, (Tch.of k4).old h2 hm1, (Tch.of k4).old h3 hm2, keep h4, keep h5, keep h6, h7, h8⟩, k3, k2⟩, k4⟩

theorem ap2_add {B g m1 m2 : Nat} {v v2 lv : Value} {l l2 : List Int} {s : ByteArray} {w w0 : World} (a : Option Addr) (n cap : Nat) (hB : B ≤ w.heap.size) (hB1 : B ≤ m1) (h12 : m1 ≠ m2) (hw0 : ∀ k, v.ownBlock = some k → k < w0.heap.size) (hm0 : m1 < w0.heap.size)
    (h : ∃ gs cs, P3 B g m1 m2 s v v2 (.slice (some ⟨gs, 0, none⟩) 1 cs) lv l l2 w ∧ Noted w gs s l2.length ∧ w0.heap.size ≤ gs)
    (hbs : Bs w a n cap l2) (hn : n ≤ 1000) (hl : l.length ≤ 1000) :
    Calls Tryz.prog 126 #[.map (some m1), .string s, .slice a n cap] w fun e w' => e = .returned (.tuple #[]) ∧ Hid (S3 B g s l l2 w') ∧ Hid (Below B w w') := by
  obtain ⟨gs, cs, ⟨h1, h2, h3, h4, h5, h6, h7, h8⟩, hN, hgs⟩ := h
  refine (filesAdd_more B m1 s v l a n cap l2 w h2 h4 hB hbs hn hl).mono ?_
  rintro e w1 ⟨v', rfl, k1, k2, k3⟩
  have hgm : g ≠ m1 := by intro e; rw [← e, h1] at h2; simp [dObj, fmap] at h2
  have hvg : v.ownBlock ≠ some g := kind_owns h4 h1 (dObj_kind _ _ _ _)
  have hv2 : v.ownBlock ≠ some m2 := kind_owns h4 h3 (fmap_kind _ _)
  have hNg : ∀ {p : Addr} {x : Value}, p.block = gs → w.cell? p = some x → w1.cell? p = some x := by
    intro p x hp hx
    rw [← hx]
    refine World.cell?_of_block (k3.block _ (lt_of_cell hx) ?_)
    rintro (e | e)
    · omega
    · have := hw0 _ e.symm; omega
  refine ⟨rfl, ⟨m1, m2, v2, gs, cs, lv, k3.old h1 (by rintro (e | e); exact hgm e; exact hvg e.symm), k3.old h3 (by rintro (e | e); exact h12 e.symm; exact hv2 e.symm), ?_, ?_, hNg rfl hN.1, hNg rfl hN.2.1, hNg rfl hN.2.2⟩, k3.below (fun k hk e => ?_) hB⟩
  · refine k3.owns h5 (fun k hk e => ?_)
    rcases e with e | e
    · exact kind_owns h5 h2 (fmap_kind _ _) (by rw [hk, e])
    · exact h7 k e.symm hk
  · refine k3.owns h6 (fun k hk e => ?_)
    rcases e with e | e
    · exact kind_owns h6 h2 (fmap_kind _ _) (by rw [hk, e])
    · exact h8 k e.symm hk
  · rcases e with e | e
    · omega
    · have := (h4.1.lt k e.symm).1; omega
end Go.Proofs.YtkchfbigkecodaaGreat
