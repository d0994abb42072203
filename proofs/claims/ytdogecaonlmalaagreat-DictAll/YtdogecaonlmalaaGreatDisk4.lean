/- What disk.Sync, a second Append, Crash and Read do, as begun uses them. A second Append, Crash and Read, as begun uses them. Crash and Read, as begun uses them. -/
import Derived.Test.YtdogecaonlmalaaGreatDisk3
import Derived.Deep.RegionHeld3
namespace Go.Proofs.YtdogecaonlmalaaGreat
open Go.RowKit

/-- The disk behind its Sync. -/
def S2 (B g : Nat) (s : ByteArray) (l : List Int) (w : World) : Prop :=
  ∃ m1 m2 v v2, w.heap[g]? = some (dObj (some m1) (some m2) (.slice none 0 0) (.slice none 0 0)) ∧ w.heap[m1]? = some (fmap s v) ∧ w.heap[m2]? = some (fmap s v2) ∧ B ≤ m1 ∧ B ≤ m2 ∧ m1 ≠ m2 ∧ w.ownsInts B 5 .u8 v l ∧ w.ownsInts B 5 .u8 v2 l ∧ ∀ k, v.ownBlock = some k → v2.ownBlock ≠ some k

theorem owns_shape {w : World} {B : Nat} {v : Value} {l : List Int} (h : w.ownsInts B 5 .u8 v l) (hl : 0 < l.length) : ∃ g c, v = .slice (some ⟨g, 0, none⟩) l.length c ∧ B ≤ g ∧ Bs w (some ⟨g, 0, none⟩) l.length c l := by
  obtain ⟨a, c, rfl, hb⟩ := Bs.of_owns h
  rcases h.1.2 with ⟨e, h0⟩ | ⟨g, cap, cur, e, hg, _⟩
  · omega
  · obtain ⟨rfl, _, rfl⟩ : a = some ⟨g, 0, none⟩ ∧ l.length = l.length ∧ c = cap := by simpa using e
    exact ⟨g, c, rfl, hg, hb⟩

theorem sync_redo {B g m1 m2 gs cs gl lc : Nat} {s : ByteArray} {v : Value} {l : List Int} {w : World} (hl0 : 0 < l.length) (hl : l.length ≤ 1000) (h1 : w.heap[g]? = some (dObj (some m1) (some m2) (.slice (some ⟨gs, 0, none⟩) 1 cs) (.slice (some ⟨gl, 0, none⟩) l.length lc))) (h2 : w.heap[m1]? = some (fmap s v)) (h3 : w.heap[m2]? = some (.map #[] 0))
    (hB : B ≤ w.heap.size) (hB2 : B ≤ m2) (h12 : m1 ≠ m2) (hN : Noted w gs s l.length) (ho : w.ownsInts B 5 .u8 v l) (hb : Bs w (some ⟨gl, 0, none⟩) l.length lc l) :
    Calls Tryz.prog 102 #[.map (some m2), .slice (some ⟨gs, 0, none⟩) 1 cs, .slice (some ⟨gl, 0, none⟩) l.length lc] w fun e w' => e = .returned (.tuple #[]) ∧ Hid (∃ v2, w'.heap[g]? = some (dObj (some m1) (some m2) (.slice (some ⟨gs, 0, none⟩) 1 cs) (.slice (some ⟨gl, 0, none⟩) l.length lc)) ∧ w'.heap[m1]? = some (fmap s v) ∧ w'.heap[m2]? = some (fmap s v2) ∧ w'.ownsInts B 5 .u8 v l ∧ w'.ownsInts B 5 .u8 v2 l ∧ ∀ k, v.ownBlock = some k → v2.ownBlock ≠ some k) ∧ Hid (Below B w w') := by
  refine (redo_full m2 gs cs gl 0 l.length lc s l w h3 hN hb hl0 hl).mono ?_
  rintro e w1 ⟨v2, rfl, k1, k2, k3⟩
  have hg2 : ¬ some g = some m2 := by
    intro e; have e' : g = m2 := by simpa using e
    rw [← e', h1] at h3; simp [dObj] at h3
  refine ⟨rfl, ⟨v2, (Tch.of k3).old h1 hg2, (Tch.of k3).old h2 (by simpa using h12), k1, ?_, owns_mono k2 hB, ?_⟩, grown_below k3 hB2 hB⟩
  · exact (Tch.of k3).owns ho (fun k hk e => kind_owns ho h3 (by intro c e; simp at e) (by rw [hk, e]))
  · intro k hk e
    have h1 := (ho.1.lt k hk).2
    have h2 := (k2.1.lt k e).1
    omega

theorem tchB {B g : Nat} {w W : World} (hb : Below B w W) : Tch (fun k => k = g ∨ B ≤ k) w W := ⟨hb.os, hb.tape, hb.output, hb.size, fun k _ hn => hb.block k (by omega)⟩
theorem tchG {B g : Nat} {w W : World} (hb : w.grownBy W (some g)) : Tch (fun k => k = g ∨ B ≤ k) w W := (Tch.of hb).mono (fun k _ e => Or.inl (by simpa using e))

theorem sync_end {B g m1 m2 : Nat} {s : ByteArray} {v v2 sv lv : Value} {l : List Int} {w W : World}
    (h : W.heap[g]? = some (dObj (some m1) (some m2) sv lv) ∧ W.heap[m1]? = some (fmap s v) ∧ W.heap[m2]? = some (fmap s v2) ∧ W.ownsInts B 5 .u8 v l ∧ W.ownsInts B 5 .u8 v2 l ∧ ∀ k, v.ownBlock = some k → v2.ownBlock ≠ some k)
    (ha : B ≤ m1 ∧ B ≤ m2 ∧ m1 ≠ m2 ∧ m1 ≠ g ∧ m2 ≠ g) (hb : Below B w W) :
    S2 B g s l ((W.setCell ⟨g, 2, none⟩ (.slice none 0 0)).setCell ⟨g, 3, none⟩ (.slice none 0 0)) ∧ Tch (fun k => k = g ∨ B ≤ k) w ((W.setCell ⟨g, 2, none⟩ (.slice none 0 0)).setCell ⟨g, 3, none⟩ (.slice none 0 0)) := by
  obtain ⟨h1, h2, h3, h4, h5, h6⟩ := h
  have hgr := grown_trans (grown_setCell W g 2 (.slice none 0 0)) (grown_setCell _ g 3 (.slice none 0 0))
  have k1 := (d_set h1 none (.slice none 0 0)).2.2.1
  have k2 := (d_set k1 none (.slice none 0 0)).2.2.2
  have keep : ∀ {u : Value} {ll : List Int}, W.ownsInts B 5 .u8 u ll → ((W.setCell ⟨g, 2, none⟩ (.slice none 0 0)).setCell ⟨g, 3, none⟩ (.slice none 0 0)).ownsInts B 5 .u8 u ll := fun hu => (Tch.of hgr).owns hu (fun k hk e => kind_owns hu h1 (dObj_kind _ _ _ _) (by rw [hk, e]))
  exact ⟨⟨m1, m2, v, v2, k2, (Tch.of hgr).old h2 (by simpa using ha.2.2.2.1), (Tch.of hgr).old h3 (by simpa using ha.2.2.2.2), ha.1, ha.2.1, ha.2.2.1, keep h4, keep h5, h6⟩, (tchB hb).trans (tchG hgr)⟩

set_option maxRecDepth 100000 in
set_option maxHeartbeats 1600000 in
theorem sync_any (B g : Nat) (s : ByteArray) (l : List Int) (w : World) (h : S1 B g s l w) (hB : B ≤ w.heap.size) (hl0 : 0 < l.length) (hl : l.length ≤ 1000) :
    Calls Tryz.prog 64 #[.pointer (some ⟨g, 0, none⟩)] w fun e w' => e = .returned (.tuple #[]) ∧ S2 B g s l w' ∧ Tch (fun k => k = g ∨ B ≤ k) w w' := by
  obtain ⟨m1, m2, v, gs, cs, lv, h1, h2, h3, b1, b2, h12, _, hN, ho, hlv⟩ := h
  obtain ⟨gl, lc, rfl, _, hb⟩ := owns_shape hlv hl0
  obtain ⟨c0, c1, c2, c3⟩ := d_cells h1
  have hD : Below w.heap.size w w.drew := (Below.refl _ _).drew
  have HR := hide (sync_redo (w := w.drew) hl0 hl h1 h2 h3 hB b2 h12 hN (owns_later ho hD) (hb.later hD (Nat.le_refl _)))
  have HA : Hid (B ≤ m1 ∧ B ≤ m2 ∧ m1 ≠ m2 ∧ m1 ≠ g ∧ m2 ≠ g) := by
    refine ⟨b1, b2, h12, ?_, ?_⟩
    · intro e; rw [e, h1] at h2; simp [dObj, fmap] at h2
    · intro e; rw [e, h1] at h3; simp [dObj] at h3
  generalize l.length = n at *
  clear h1 h2 h3 hN ho hlv hb hD b1 b2 h12
  go_enter Tryz.func64, Tryz.ntmps64
  go_wp2
  go_region_with (go_at_call 102; (refine HR.out.mono ?_; rintro e W1 ⟨rfl, HX, HB1⟩; obtain ⟨v2, j1, j2, j3, j4, j5, j6⟩ := HX.out; have fr := d_free j1; have q := d_cells j1; obtain ⟨q0, q1, q2, q3⟩ := q; have HJ := hide (And.intro j1 (And.intro j2 (And.intro j3 (And.intro j4 (And.intro j5 j6))))); clear j1 j2 j3 j4 j5 j6 HX))
  all_goals
    go_wp2
    go_end0
    exact ⟨rfl, sync_end HJ.out HA.out ((Below.refl B w).drew.trans HB1.out)⟩

/-- The disk in the middle of its second Append. -/
def P3 (B g m1 m2 : Nat) (s : ByteArray) (v v2 sv lv : Value) (l l2 : List Int) (w : World) : Prop :=
  w.heap[g]? = some (dObj (some m1) (some m2) sv lv) ∧ w.heap[m1]? = some (fmap s v) ∧ w.heap[m2]? = some (fmap s v2) ∧ w.ownsInts B 5 .u8 v l ∧ w.ownsInts B 5 .u8 v2 l ∧ w.ownsInts B 5 .u8 lv l2 ∧ (∀ k, v.ownBlock = some k → v2.ownBlock ≠ some k) ∧ (∀ k, v.ownBlock = some k → lv.ownBlock ≠ some k)

/-- The disk behind its second Append, as far as Crash looks. -/
def S3 (B g : Nat) (s : ByteArray) (l l2 : List Int) (w : World) : Prop :=
  ∃ m1 m2 v2 gs cs lv, w.heap[g]? = some (dObj (some m1) (some m2) (.slice (some ⟨gs, 0, none⟩) 1 cs) lv) ∧ w.heap[m2]? = some (fmap s v2) ∧ w.ownsInts B 5 .u8 v2 l ∧ w.ownsInts B 5 .u8 lv l2 ∧ Noted w gs s l2.length

theorem ap2_note {B g m1 m2 : Nat} {v v2 lv : Value} {l l2 : List Int} {s : ByteArray} {w : World} (h0 : 1 ≤ s.size) (hs : s.size ≤ 40) (h : P3 B g m1 m2 s v v2 (.slice none 0 0) lv l l2 w) (n : Nat) (hn : n = l2.length) :
    Calls Tryz.prog 101 #[.pointer (some ⟨g, 0, none⟩), .int .i64 0, .string s, .int .i64 n] w fun e w' => e = .returned (.string s) ∧ w'.cell? ⟨g, 0, none⟩ = some (.map (some m1)) ∧
      Hid (∃ gs cs, P3 B g m1 m2 s v v2 (.slice (some ⟨gs, 0, none⟩) 1 cs) lv l l2 w' ∧ Noted w' gs s l2.length ∧ w.heap.size ≤ gs) ∧ w.grownBy w' (some g) := by
  obtain ⟨h1, h2, h3, h4, h5, h6, h7, h8⟩ := h
  refine (note_first g (some m1) (some m2) lv s n w h1 h0 hs).mono ?_
  rintro e w1 ⟨gs, cs, rfl, k1, k2, k3, k4⟩
  have keep : ∀ {u : Value} {ll : List Int}, w.ownsInts B 5 .u8 u ll → w1.ownsInts B 5 .u8 u ll := fun hu => (Tch.of k4).owns hu (fun k hk e => kind_owns hu h1 (dObj_kind _ _ _ _) (by rw [hk, e]))
  subst hn
  have hm1 : ¬ some m1 = some g := by intro e; have e' : m1 = g := by simpa using e
                                      rw [e', h1] at h2; simp [dObj, fmap] at h2
  have hm2 : ¬ some m2 = some g := by intro e; have e' : m2 = g := by simpa using e
                                      rw [e', h1] at h3; simp [dObj, fmap] at h3
  exact ⟨rfl, (d_cells k1).1, ⟨gs, cs, ⟨k1, (Tch.of k4).old h2 hm1, (Tch.of k4).old h3 hm2, keep h4, keep h5, keep h6, h7, h8⟩, k3, k2⟩, k4⟩

theorem ap2_add {B g m1 m2 : Nat} {v v2 lv : Value} {l l2 : List Int} {s : ByteArray} {w w0 : World} (a : Option Addr) (n cap : Nat) (hB : B ≤ w.heap.size) (hB1 : B ≤ m1) (h12 : m1 ≠ m2) (hw0 : ∀ k, v.ownBlock = some k → k < w0.heap.size) (hm0 : m1 < w0.heap.size)
    (h : ∃ gs cs, P3 B g m1 m2 s v v2 (.slice (some ⟨gs, 0, none⟩) 1 cs) lv l l2 w ∧ Noted w gs s l2.length ∧ w0.heap.size ≤ gs)
    (hbs : Bs w a n cap l2) (hn : n ≤ 1000) (hl : l.length ≤ 1000) :
    Calls Tryz.prog 100 #[.map (some m1), .string s, .slice a n cap] w fun e w' => e = .returned (.tuple #[]) ∧ Hid (S3 B g s l l2 w') ∧ Hid (Below B w w') := by
  obtain ⟨gs, cs, ⟨h1, h2, h3, h4, h5, h6, h7, h8⟩, hN, hgs⟩ := h
  refine (filesAdd_more B m1 s v l a n cap l2 w h2 h4 hB hbs hn hl).mono ?_
  rintro e w1 ⟨v', rfl, k1, k2, k3⟩
  have hgm : g ≠ m1 := by intro e; rw [← e, h1] at h2; simp [dObj, fmap] at h2
  have hvg : v.ownBlock ≠ some g := kind_owns h4 h1 (dObj_kind _ _ _ _)
  have hv2 : v.ownBlock ≠ some m2 := kind_owns h4 h3 (fmap_kind _ _)
  have hNg : ∀ {p : Addr} {x : Value}, p.block = gs → w.cell? p = some x → w1.cell? p = some x := by
    intro p x hp hx
    rw [← hx]
    refine World.cell?_of_block (k3.block _ (lt_of_cell hx) ?_)
    rintro (e | e)
    · omega
    · have := hw0 _ e.symm; omega
  refine ⟨rfl, ⟨m1, m2, v2, gs, cs, lv, k3.old h1 (by rintro (e | e); exact hgm e; exact hvg e.symm), k3.old h3 (by rintro (e | e); exact h12 e.symm; exact hv2 e.symm), ?_, ?_, hNg rfl hN.1, hNg rfl hN.2.1, hNg rfl hN.2.2⟩, k3.below (fun k hk e => ?_) hB⟩
  · refine k3.owns h5 (fun k hk e => ?_)
    rcases e with e | e
    · exact kind_owns h5 h2 (fmap_kind _ _) (by rw [hk, e])
    · exact h7 k e.symm hk
  · refine k3.owns h6 (fun k hk e => ?_)
    rcases e with e | e
    · exact kind_owns h6 h2 (fmap_kind _ _) (by rw [hk, e])
    · exact h8 k e.symm hk
  · rcases e with e | e
    · omega
    · have := (h4.1.lt k e.symm).1; omega
end Go.Proofs.YtdogecaonlmalaaGreat

namespace Go.Proofs.YtdogecaonlmalaaGreat
open Go.RowKit

theorem P3.drew {B g m1 m2 : Nat} {s : ByteArray} {v v2 sv lv : Value} {l l2 : List Int} {w : World} (h : P3 B g m1 m2 s v v2 sv lv l l2 w) : P3 B g m1 m2 s v v2 sv lv l l2 w.drew :=
  ⟨(Go.Proofs.YtdogecaonlmalaaGreat.heap_drew _ _).trans h.1, (Go.Proofs.YtdogecaonlmalaaGreat.heap_drew _ _).trans h.2.1, (Go.Proofs.YtdogecaonlmalaaGreat.heap_drew _ _).trans h.2.2.1, owns_later h.2.2.2.1 (Below.refl _ _).drew, owns_later h.2.2.2.2.1 (Below.refl _ _).drew, owns_later h.2.2.2.2.2.1 (Below.refl _ _).drew, h.2.2.2.2.2.2.1, h.2.2.2.2.2.2.2⟩

set_option maxRecDepth 100000 in
set_option maxHeartbeats 1600000 in
theorem append_second (B g : Nat) (s : ByteArray) (a : Option Addr) (n cap : Nat) (l l2 : List Int) (w : World) (hS : S2 B g s l w) (hB : B ≤ w.heap.size) (h0 : 1 ≤ s.size) (hs : s.size ≤ 40) (h : Bs w a n cap l2) (hn : n ≤ 1000) (hl0 : 0 < l.length) (hl : l.length ≤ 1000) :
    Calls Tryz.prog 63 #[.pointer (some ⟨g, 0, none⟩), .string s, .slice a n cap] w fun e w' => e = .returned (.int .i64 0) ∧ S3 B g s l l2 w' ∧ Tch (fun k => k = g ∨ B ≤ k) w w' := by
  obtain ⟨m1, m2, v, v2, hg, hm1, hm2, b1, b2, h12, ho, ho2, hd⟩ := hS
  obtain ⟨gv, vc, rfl, hgv, hvb⟩ := owns_shape ho hl0
  obtain ⟨c0, c1, c2, c3⟩ := d_cells hg
  have lk := look_one und101 s false w hm1
  simp only [if_false, Bool.false_eq_true] at lk
  have d1 : decide ((s.size : Int) ≤ 40) = true := by simp; omega
  have d2 : decide (1 ≤ (s.size : Int)) = true := by simp; omega
  have HK := hide (h.keepD hg)
  have HL := hide h.1
  have HM := hide (makeMaps_more g m1 (some m2) _ _ w hg)
  have HG := hide hg
  have HM1 := hide hm1
  have HM2 := hide hm2
  have HO := hide ho
  have HO2 := hide ho2
  have HD := hide hd
  have hgvlt := (ho.1.lt gv rfl).2
  have hm1lt := lt_of_heap hm1
  have hbs1 := h
  have HLL := hide hl0
  obtain ⟨N, HN⟩ : ∃ N, Hid (N = l.length) := ⟨_, rfl⟩
  have hN1 : N ≤ 1000 := by rw [HN.out]; exact hl
  rw [← HN.out] at lk
  clear h hg hm1 hm2 ho ho2 hd hvb hl0
  go_enter Tryz.func63, Tryz.ntmps63
  go_wp2_with (first | (go_at_call 98; go_in) | fail)
  refine HM.out.mono ?_
  rintro e w1 ⟨rfl, rfl⟩
  go_wp2_with (at_builtin; refine wpList_app rfl (.tmp 29) (.tmp 30) rfl B _ [] rfl (World.ownsInts_nil _ _ _ _) a n cap l2 rfl hbs1 (by simp; omega) hB ?_)
  intro lv w2 hown2 hg2 hloc
  have hg2' : w1.grownBy w2 none := hg2
  have hg2'' : w1.grownBy w2 (some g) := ⟨hg2'.os, hg2'.tape, hg2'.output, hg2'.size, fun k hk _ => hg2'.block k hk (by simp)⟩
  have j1 := (hg2'.block g (lt_of_heap HG.out) (by simp)).trans HG.out
  obtain ⟨la, lc, rfl, _⟩ := Bs.of_owns hown2
  have hS : Hid (P3 B g m1 m2 s (.slice (some ⟨gv, 0, none⟩) l.length vc) v2 (.slice none 0 0) (.slice la l2.length lc) l l2 (w2.setCell ⟨g, 3, none⟩ (.slice la l2.length lc))) := by
    have hol : w2.ownsInts B 5 .u8 (.slice la l2.length lc) l2 := by simpa using hown2
    have keep : ∀ {u : Value} {ll : List Int}, w2.ownsInts B 5 .u8 u ll → (w2.setCell ⟨g, 3, none⟩ (.slice la l2.length lc)).ownsInts B 5 .u8 u ll := fun hu => (Tch.of (grown_setCell _ g 3 _)).owns hu (fun k hk e => kind_owns hu j1 (dObj_kind _ _ _ _) (by rw [hk, e]))
    have o1 := (Tch.of hg2').owns HO.out (fun k _ e => by cases e)
    have o2 := (Tch.of hg2').owns HO2.out (fun k _ e => by cases e)
    refine ⟨(d_set j1 none _).2.2.2, ?_, ?_, keep o1, keep o2, keep hol, HD.out, ?_⟩
    · rw [Below.heap_setCell _ _ _ _ (by simp; intro e; have := HM1.out; rw [e, HG.out] at this; simp [dObj, fmap] at this)]
      exact (hg2'.block m1 (lt_of_heap HM1.out) (by simp)).trans HM1.out
    · rw [Below.heap_setCell _ _ _ _ (by simp; intro e; have := HM2.out; rw [e, HG.out] at this; simp [dObj, fmap] at this)]
      exact (hg2'.block m2 (lt_of_heap HM2.out) (by simp)).trans HM2.out
    · intro k hk e
      have hk' : k = gv := by simpa [Value.ownBlock] using hk.symm
      rcases hloc with e' | e'
      · rw [e] at e'; simp [Value.ownBlock] at e'
      · rw [e] at e'; simp at e'; omega
  have hT : Hid (w1.grownBy (w2.setCell ⟨g, 3, none⟩ (.slice la l2.length lc)) (some g)) := grown_trans hg2'' (grown_setCell _ _ _ _)
  clear c0 c1 c2 c3 lk
  obtain ⟨c0, c1, c2, c3⟩ := d_cells j1
  have fr := d_free j1
  clear hown2 hg2 hg2' hg2'' j1 hbs1 hloc
  go_wp2
  have hsz : B ≤ (w2.setCell ⟨g, 3, none⟩ (.slice la l2.length lc)).drew.heap.size := Nat.le_trans hB (grown_drew hT.out).size
  generalize w2.setCell ⟨g, 3, none⟩ (.slice la l2.length lc) = W0 at *
  have HS0 := hide hS.out.drew
  have HT0 := hide (grown_drew hT.out)
  clear c0 c1 c2 c3 fr
  obtain ⟨c0, c1, c2, c3⟩ := d_cells hS.out.1
  have HV : Hid ((∀ k, (Value.slice (some ⟨gv, 0, none⟩) l.length vc).ownBlock = some k → k < W0.drew.heap.size) ∧ m1 < W0.drew.heap.size) := by
    refine ⟨fun k hk => ?_, lt_of_heap HS0.out.2.1⟩
    exact (HS0.out.2.2.2.1.1.lt k hk).2
  clear hS hT
  go_region_with (first | (go_at_call 101; (refine (ap2_note h0 hs HS0.out n HL.out.symm).mono ?_; rintro e W1 ⟨rfl, d0, HX, hgr⟩)) | (go_at_call 100; (refine (ap2_add a n cap (Nat.le_trans hsz hgr.size) b1 h12 HV.out.1 HV.out.2 HX.out (HK.out W1 (grown_trans HT0.out hgr)) hn hl).mono ?_; rintro e W2 ⟨rfl, HS1, HB2⟩)))
  all_goals
    have HF : Hid (Tch (fun k => k = g ∨ B ≤ k) w1 W2) := (tchG (grown_trans HT0.out hgr)).trans (tchB HB2.out)
    go_wp2
    go_ret
    exact ⟨rfl, HS1.out, HF.out⟩
end Go.Proofs.YtdogecaonlmalaaGreat

namespace Go.Proofs.YtdogecaonlmalaaGreat
open Go.RowKit

set_option maxRecDepth 100000 in
theorem turn_neg (mb : Nat) (w : World) : Calls Tryz.prog 104 #[.map (some mb), .int .i64 (-1)] w fun e w' => e = .returned (.tuple #[]) ∧ w' = w := by
  go_enter Tryz.func104, Tryz.ntmps104
  go_wp2
  exact bodyPost_ret (v := .tuple #[]) (by simp [results, Tryz.results104, go_sem]) rfl ⟨rfl, rfl⟩

set_option maxRecDepth 100000 in
set_option maxHeartbeats 400000 in
theorem crash_any (B g : Nat) (s : ByteArray) (l l2 : List Int) (w : World) (hS : S3 B g s l l2 w) (hl0 : 0 < l.length) (hl : l.length ≤ 900) (hl2 : l2.length = 2) :
    Calls Tryz.prog 65 #[.pointer (some ⟨g, 0, none⟩), .int .i64 1, .int .i64 (-1)] w fun e w' => ∃ gc m v x, e = .returned (.pointer (some ⟨gc, 0, none⟩)) ∧ w'.heap[gc]? = some (dObj (some m) x (.slice none 0 0) (.slice none 0 0)) ∧ w'.heap[m]? = some (fmap s v) ∧ w'.ownsInts w.heap.size 5 .u8 v (l ++ l2.take 1) ∧ Below w.heap.size w w' := by
  obtain ⟨m1, m2, v2, gs, cs, lv, hg, hm2, ho2, hlv, hN⟩ := hS
  obtain ⟨g2, vc, rfl, _, hb2⟩ := owns_shape ho2 hl0
  obtain ⟨gl, lc, rfl, _, hbl⟩ := owns_shape hlv (by omega)
  obtain ⟨c0, c1, c2, c3⟩ := d_cells hg
  have HC := hide (filesCopy_one m2 s _ _ vc l w hm2 hb2 (by omega))
  have hcut : Bs w (some ⟨gl, 0, none⟩) 1 lc (l2.take 1) := by
    have := hbl.cut (i := 0) (j := 1) (by omega) (by omega)
    simpa using this
  have hlc := hbl.2.1
  have HCut := hide hcut
  have HG := hide hg
  have HN := hide hN
  have HN2 := hide hl2
  rw [hl2] at c3 hlc
  have su := fun W => run_upto gl 0 2 lc 1 (1 : Int) rfl (by omega) W
  clear hl2
  clear hg hm2 ho2 hlv hN hb2 hbl hcut
  go_enter Tryz.func65, Tryz.ntmps65
  go_wp2_with fail
  refine HC.out.mono ?_
  rintro e w1 ⟨m', v', rfl, km, k1, k2, hb1⟩
  have hg1 := (hb1.block g (lt_of_heap HG.out)).trans HG.out
  rw [HN2.out] at hg1
  clear c0 c1 c2 c3
  obtain ⟨c0, c1, c2, c3⟩ := d_cells hg1
  have hD : Below w1.heap.size w1 w1.drew := (Below.refl _ _).drew
  have hN1 : Noted w1.drew gs s 2 := by
    have e := HN.out
    rw [HN2.out] at e
    exact ⟨(hb1.cell (p := ⟨gs, 0, none⟩) (lt_of_cell e.1)).trans e.1, (hb1.cell (p := ⟨gs, 1, none⟩) (lt_of_cell e.2.1)).trans e.2.1, (hb1.cell (p := ⟨gs, 2, none⟩) (lt_of_cell e.2.2)).trans e.2.2⟩
  have d2 : w1.drew.cell? ⟨g, 2, none⟩ = some (.slice (some ⟨gs, 0, none⟩) 1 cs) := c2
  have d3 : w1.drew.cell? ⟨g, 3, none⟩ = some (.slice (some ⟨gl, 0, none⟩) 2 lc) := c3
  have HR0 := (redo_tear w.heap.size m' gs cs gl 0 2 1 lc s v' l (l2.take 1) w1.drew ((Go.Proofs.YtdogecaonlmalaaGreat.heap_drew _ _).trans k1) (owns_later k2 hD) hb1.size hN1 ((HCut.out.later hb1 (Nat.le_refl _)).later hD (Nat.le_refl _)) (by omega) (by omega) (by omega) (by omega))
  have hgnm : ∀ k, k = m' ∨ some k = v'.ownBlock → k ≠ g := by
    rintro k (e | e) e'
    · have := lt_of_heap HG.out; omega
    · have h1 := (k2.1.lt k e.symm).1; have := lt_of_heap HG.out; omega
  have HR : Hid (Calls Tryz.prog 102 #[.map (some m'), .slice (some ⟨gs, 0, none⟩) 1 cs, .slice (some ⟨gl, 0, none⟩) 1 lc] w1.drew fun e W1 => ∃ v3, e = .returned (.tuple #[]) ∧ W1.cell? ⟨g, 2, none⟩ = some (.slice (some ⟨gs, 0, none⟩) 1 cs) ∧ W1.cell? ⟨g, 3, none⟩ = some (.slice (some ⟨gl, 0, none⟩) 2 lc) ∧ Hid (W1.heap[m']? = some (fmap s v3)) ∧ Hid (W1.ownsInts w.heap.size 5 .u8 v3 (l ++ l2.take 1)) ∧ Hid (Tch (fun k => k = m' ∨ some k = v'.ownBlock) w1 W1)) := by
    refine HR0.mono ?_
    rintro e W1 ⟨v3, rfl, j1, j2, j3⟩
    have hgb := j3.block g (lt_of_heap hg1) (fun e => hgnm g e rfl)
    exact ⟨v3, rfl, (World.cell?_of_block (a := ⟨g, 2, none⟩) hgb).trans d2, (World.cell?_of_block (a := ⟨g, 3, none⟩) hgb).trans d3, j1, j2, ⟨j3.os, j3.tape, j3.output, j3.size, j3.block⟩⟩
  have HK : Hid (∀ k, v'.ownBlock = some k → w.heap.size ≤ k) := fun k hk => (k2.1.lt k hk).1
  clear hD hN1 k1 k2 HC hg1 HR0 hgnm
  go_wp2
  go_region_held3 (fun w' => w'.cell? ⟨g, 2, none⟩ = some (.slice (some ⟨gs, 0, none⟩) 1 cs) ∧ w'.cell? ⟨g, 3, none⟩ = some (.slice (some ⟨gl, 0, none⟩) 2 lc)) (first | exact ⟨d2, d3⟩ | exact ⟨e2, e3⟩) ((go_at_call 102; refine HR.out.mono ?_; rintro e W1 ⟨v3, rfl, e2, e3, HJ1, HJ2, HJ3⟩))
  obtain ⟨g3, c3', rfl, _, hb3⟩ := owns_shape HJ2.out (by simp; omega)
  have HC2 := hide (filesCopy_one m' s _ _ c3' _ W1 HJ1.out hb3 (by simp; omega))
  have hbw : Below w.heap.size w W1 := hb1.trans (HJ3.out.below (fun k hk e => by rcases e with e | e; omega; have := HK.out k e.symm; omega) hb1.size)
  have HBW := hide hbw
  clear hbw hb3 e2 e3 d2 d3 c0 c1 c2 c3 su HR HJ3 HK
  go_wp2_with fail
  refine (turn_neg m' W1).mono ?_
  rintro e w2 ⟨rfl, rfl⟩
  go_wp2_with fail
  refine HC2.out.mono ?_
  rintro e w3 ⟨m'', v'', rfl, _, _, _, hb4⟩
  have hm4 := (hb4.block m' (lt_of_heap HJ1.out)).trans HJ1.out
  have ho4 := owns_later HJ2.out hb4
  have hb5 : Below w.heap.size w w3 := HBW.out.trans (hb4.mono HBW.out.size)
  have HM4 := hide hm4
  have HO4 := hide ho4
  have HB5 := hide hb5
  clear hm4 ho4 hb5 hb4 HC2 HJ1 HJ2
  go_wp2
  go_ret
  refine ⟨w3.heap.size, m', _, some m'', rfl, heap_alloc_new w3 _, ?_, owns_alloc HO4.out _, HB5.out.alloc HB5.out.size _⟩
  rw [Below.heap_alloc _ _ _ (lt_of_heap HM4.out)]
  exact HM4.out

set_option maxRecDepth 100000 in
set_option maxHeartbeats 400000 in
theorem read_any (B gc m : Nat) (x : Option Nat) (s : ByteArray) (v : Value) (l : List Int) (w : World) (hg : w.heap[gc]? = some (dObj (some m) x (.slice none 0 0) (.slice none 0 0))) (hm : w.heap[m]? = some (fmap s v)) (ho : w.ownsInts B 5 .u8 v l) (hl0 : 0 < l.length) (hl : l.length ≤ 1000) :
    Calls Tryz.prog 66 #[.pointer (some ⟨gc, 0, none⟩), .string s] w fun e w' => ∃ gr, e = .returned (.tuple #[.slice (some ⟨gr, 0, none⟩) l.length l.length, .int .i64 0]) ∧ w'.ownsInts w.heap.size 5 .u8 (.slice (some ⟨gr, 0, none⟩) l.length l.length) l ∧ Below w.heap.size w w' := by
  obtain ⟨c0, c1, c2, c3⟩ := d_cells hg
  have lk := look_one und101 s true w hm
  simp only [if_true] at lk
  obtain ⟨gv, vc, rfl, _, hb⟩ := owns_shape ho hl0
  have HC := hide (copyOfD _ _ vc l w hb (by omega))
  generalize l.length = n at *
  clear hg hm ho hb
  go_enter Tryz.func66, Tryz.ntmps66
  go_wp2_with fail
  refine HC.out.mono ?_
  rintro e w1 ⟨rfl, k1, k2⟩
  have H1 := hide k1
  have H2 := hide k2
  clear k1 k2 HC
  go_wp2
  go_ret2
  exact ⟨_, rfl, H1.out, H2.out⟩
end Go.Proofs.YtdogecaonlmalaaGreat
