/- What mut.Get does at the bytes that begun reads. -/
import Derived.Test.YtdogecaonlmalaaGreatMut1
namespace Go.Proofs.YtdogecaonlmalaaGreat
open Go.RowKit

theorem run_from (b o n cap i k : Nat) (I : Int) (eI : I = (i : Int)) (hi : i < cap) (hij : i ≤ n) (ek : n - i = k) (W : World) :
    (Instr.slice 112 (.slice (some ⟨b, o, none⟩) n cap) (some (.int .i64 I)) none none).run Tryz.prog W = .ok (.slice (some ⟨b, o + i, none⟩) k (cap - i)) W := by
  subst eI; subst ek
  have h1 : ¬ cap = i := by omega
  have e2 : (Instr.sliceBound (.int .i64 (i : Int)) n .sliceB).run Tryz.prog W = .ok i W := by
    have := run_sliceBound (P := Tryz.prog) W .i64 (i : Int) n .sliceB (by omega) (by omega)
    simpa using this
  simp [Instr.slice, Instr.sliceBounds, run_underlying Tryz.underlying112, e2, h1, Addr.add]

/-- A reader of bytes. -/
def rObj (b o n cap k : Nat) : Obj := .cells #[.slice (some ⟨b, o, none⟩) n cap, .int .i64 k, .int .i64 0] 166 (0, 0)

theorem r_cells {w : World} {g b o n cap k : Nat} (h : w.heap[g]? = some (rObj b o n cap k)) :
    w.cell? ⟨g, 0, none⟩ = some (.slice (some ⟨b, o, none⟩) n cap) ∧ w.cell? ⟨g, 1, none⟩ = some (.int .i64 k) ∧ w.cell? ⟨g, 2, none⟩ = some (.int .i64 0) ∧ w.frozen? ⟨g, 1, none⟩ = false ∧ w.frozen? ⟨g, 2, none⟩ = false := by
  refine ⟨?_, ?_, ?_, ?_, ?_⟩ <;> simp [World.cell?, World.frozen?, h, rObj]

theorem r_set {w : World} {g b o n cap k : Nat} (h : w.heap[g]? = some (rObj b o n cap k)) (x : Value) :
    ((w.setCell ⟨g, 1, none⟩ x).setCell ⟨g, 2, none⟩ (.int .i64 0)).heap[g]? = some (.cells #[.slice (some ⟨b, o, none⟩) n cap, x, .int .i64 0] 166 (0, 0)) ∧ w.grownBy ((w.setCell ⟨g, 1, none⟩ x).setCell ⟨g, 2, none⟩ (.int .i64 0)) (some g) := by
  constructor
  · obtain ⟨hlt, he⟩ := Array.getElem?_eq_some_iff.1 h
    simp [World.setCell, Array.getElem_modify, hlt, he, rObj]
  · refine ⟨rfl, rfl, rfl, by simp [World.setCell], fun k _ hk => ?_⟩
    rw [Below.heap_setCell _ _ _ _ (by simp; intro e; exact hk (by rw [e])), Below.heap_setCell _ _ _ _ (by simp; intro e; exact hk (by rw [e]))]

set_option maxRecDepth 100000 in
set_option maxHeartbeats 800000 in
theorem number_1 (g b o n cap k : Nat) (c : Int) (l : List Int) (w : World) (hg : w.heap[g]? = some (rObj b o n cap k)) (h : Bs w (some ⟨b, o, none⟩) n cap l) (hk : k < n) (hc : l[k]? = some c) (h0 : 0 ≤ c) (h1 : c < 128) (hn : n ≤ 1000) :
    Calls Tryz.prog 132 #[.pointer (some ⟨g, 0, none⟩)] w fun e w' => e = .returned (.int .i64 c) ∧ w'.heap[g]? = some (rObj b o n cap (k + 1)) ∧ w.grownBy w' (some g) := by
  have hn2 := h.2.1
  have hl := h.1
  obtain ⟨c0, c1, c2, f1, f2⟩ := r_cells hg
  have hcut : Bs w (some ⟨b, o + k, none⟩) (n - k) (cap - k) (l.drop k) := by
    have := h.cut (i := k) (j := n) hk (Nat.le_refl _)
    rwa [List.take_of_length_le (by simp; omega)] at this
  have hgl : M.getL 0 0 (l.drop k) = (c.toNat, 1, 0) := by
    rw [drop_at l k n h.1 hk, hc]
    show M.getL 0 0 (c :: l.drop (k + 1)) = _
    rw [M.getL_done _ _ _ _ (by omega) h1 (by omega)]
    simp
  have hG := fun nq => get_any _ _ _ _ (w.drewN nq) (hcut.later (below_drewN (Below.refl w.heap.size w) nq) (Nat.le_refl _))
  simp only [hgl] at hG
  have ec : ((c.toNat : Nat) : Int) = c := by omega
  simp only [ec] at hG
  have HG := hide hG
  have HO := hide hg
  clear hG hgl hcut h hg ec hc hl
  have s1 := fun W => run_from b o n cap k (n - k) (k : Int) rfl (by omega) (by omega) rfl W
  go_enter Tryz.func132, Tryz.ntmps132
  go_wp2
  go_quiet ((go_at_call 56; exact Calls.quiet_of_same (HG.out _)))
  go_wp2
  go_ret
  have hD := below_drewN (Below.refl (w.heap.size + g + 1) w) nq
  have hR := r_set ((hD.block g (by omega)).trans HO.out) (.int .i64 ((k : Int) + 1))
  refine ⟨rfl, hR.1, grown_trans (below_grown (hD.mono (by omega)) _) hR.2⟩

set_option maxRecDepth 100000 in
set_option maxHeartbeats 800000 in
theorem signed_1 (g b o n cap k : Nat) (c : Int) (l : List Int) (w : World) (hg : w.heap[g]? = some (rObj b o n cap k)) (h : Bs w (some ⟨b, o, none⟩) n cap l) (hk : k < n) (hc : l[k]? = some c) (_h0 : 0 ≤ c) (h1 : c < 128) (hn : n ≤ 1000) :
    Calls Tryz.prog 133 #[.pointer (some ⟨g, 0, none⟩)] w fun e w' => e = .returned (.int .i64 (unfold c.toNat)) ∧ w'.heap[g]? = some (rObj b o n cap (k + 1)) ∧ w.grownBy w' (some g) := by
  have hn2 := h.2.1
  have hl := h.1
  obtain ⟨c0, c1, c2, f1, f2⟩ := r_cells hg
  have hcut : Bs w (some ⟨b, o + k, none⟩) (n - k) (cap - k) (l.drop k) := by
    have := h.cut (i := k) (j := n) hk (Nat.le_refl _)
    rwa [List.take_of_length_le (by simp; omega)] at this
  have hgl : M.getL 0 0 (l.drop k) = (c.toNat, 1, 0) := by
    rw [drop_at l k n h.1 hk, hc]
    show M.getL 0 0 (c :: l.drop (k + 1)) = _
    rw [M.getL_done _ _ _ _ (by omega) h1 (by omega)]
    simp
  have hG := fun nq => getInt_any _ _ _ _ (w.drewN nq) (hcut.later (below_drewN (Below.refl w.heap.size w) nq) (Nat.le_refl _))
  have hgi : getI (l.drop k) = (unfold c.toNat, 1, 0) := by simp [getI, hgl]
  simp only [hgi] at hG
  obtain ⟨U, HU⟩ : ∃ U, Hid (U = unfold c.toNat) := ⟨_, rfl⟩
  rw [← HU.out] at hG ⊢
  have HG := hide hG
  clear hgi
  have HO := hide hg
  clear hG hgl hcut h hg hc hl
  have s1 := fun W => run_from b o n cap k (n - k) (k : Int) rfl (by omega) (by omega) rfl W
  go_enter Tryz.func133, Tryz.ntmps133
  go_wp2
  go_quiet ((go_at_call 154; exact Calls.quiet_of_same (HG.out _)))
  go_wp2
  go_ret
  have hD := below_drewN (Below.refl (w.heap.size + g + 1) w) nq
  have hR := r_set ((hD.block g (by omega)).trans HO.out) (.int .i64 ((k : Int) + 1))
  refine ⟨rfl, hR.1, grown_trans (below_grown (hD.mono (by omega)) _) hR.2⟩


def mObj (a0 a1 a2 a3 a4 a5 : Int) : Obj := .cells #[.int .i64 a0, .int .i64 a1, .int .i64 a2, .int .i64 a3, .int .i64 a4, .int .i64 a5] 60 (0, 0)

theorem m_cells {w : World} {g : Nat} {a0 a1 a2 a3 a4 a5 : Int} (h : w.heap[g]? = some (mObj a0 a1 a2 a3 a4 a5)) :
    w.cell? ⟨g, 0, none⟩ = some (.int .i64 a0) ∧ w.cell? ⟨g, 1, none⟩ = some (.int .i64 a1) ∧ w.cell? ⟨g, 2, none⟩ = some (.int .i64 a2) ∧ w.cell? ⟨g, 3, none⟩ = some (.int .i64 a3) ∧ w.cell? ⟨g, 4, none⟩ = some (.int .i64 a4) ∧ w.cell? ⟨g, 5, none⟩ = some (.int .i64 a5) := by
  refine ⟨?_, ?_, ?_, ?_, ?_, ?_⟩ <;> simp [World.cell?, h, mObj]

theorem m_free {w : World} {g : Nat} {a0 a1 a2 a3 a4 a5 : Int} (h : w.heap[g]? = some (mObj a0 a1 a2 a3 a4 a5)) (j : Nat) : w.frozen? ⟨g, j, none⟩ = false := by
  simp [World.frozen?, h, mObj]

theorem m_set {w : World} {g : Nat} {a0 a1 a2 a3 a4 a5 : Int} (h : w.heap[g]? = some (mObj a0 a1 a2 a3 a4 a5)) (x : Int) :
    (w.setCell ⟨g, 0, none⟩ (.int .i64 x)).heap[g]? = some (mObj x a1 a2 a3 a4 a5) ∧ (w.setCell ⟨g, 1, none⟩ (.int .i64 x)).heap[g]? = some (mObj a0 x a2 a3 a4 a5) ∧
    (w.setCell ⟨g, 2, none⟩ (.int .i64 x)).heap[g]? = some (mObj a0 a1 x a3 a4 a5) ∧ (w.setCell ⟨g, 3, none⟩ (.int .i64 x)).heap[g]? = some (mObj a0 a1 a2 x a4 a5) ∧
    (w.setCell ⟨g, 4, none⟩ (.int .i64 x)).heap[g]? = some (mObj a0 a1 a2 a3 x a5) ∧ (w.setCell ⟨g, 5, none⟩ (.int .i64 x)).heap[g]? = some (mObj a0 a1 a2 a3 a4 x) := by
  obtain ⟨hlt, he⟩ := Array.getElem?_eq_some_iff.1 h
  refine ⟨?_, ?_, ?_, ?_, ?_, ?_⟩ <;> simp [World.setCell, Array.getElem_modify, hlt, he, mObj]

/-- What change keeps between its rows. -/
def Ch (g b o n cap k : Nat) (w0 w : World) (a0 a1 a2 a3 a4 a5 : Int) : Prop :=
  w.heap[g]? = some (rObj b o n cap k) ∧ w.heap[w0.heap.size]? = some (mObj 0 0 0 0 0 0) ∧ w.heap[w0.heap.size + 1]? = some (mObj a0 a1 a2 a3 a4 a5) ∧ w0.grownBy w (some g)

theorem lt_of_heap {w : World} {g : Nat} {o : Obj} (h : w.heap[g]? = some o) : g < w.heap.size := (Array.getElem?_eq_some_iff.1 h).1

theorem Ch.next {g b o n cap k k' : Nat} {w0 w w' : World} {a0 a1 a2 a3 a4 a5 : Int} (h : Ch g b o n cap k w0 w a0 a1 a2 a3 a4 a5) (hg0 : g < w0.heap.size) (h1 : w'.heap[g]? = some (rObj b o n cap k')) (h2 : w.grownBy w' (some g)) : Ch g b o n cap k' w0 w' a0 a1 a2 a3 a4 a5 :=
  ⟨h1, (h2.block _ (lt_of_heap h.2.1) (by simp; omega)).trans h.2.1, (h2.block _ (lt_of_heap h.2.2.1) (by simp; omega)).trans h.2.2.1, grown_trans h.2.2.2 h2⟩

theorem Ch.set {g b o n cap k : Nat} {w0 w : World} {a0 a1 a2 a3 a4 a5 b0 b1 b2 b3 b4 b5 : Int} (h : Ch g b o n cap k w0 w a0 a1 a2 a3 a4 a5) (hg0 : g < w0.heap.size) (j : Nat) (x : Value)
    (hs : (w.setCell ⟨w0.heap.size + 1, j, none⟩ x).heap[w0.heap.size + 1]? = some (mObj b0 b1 b2 b3 b4 b5)) : Ch g b o n cap k w0 (w.setCell ⟨w0.heap.size + 1, j, none⟩ x) b0 b1 b2 b3 b4 b5 := by
  obtain ⟨h1, h2, h3, h4⟩ := h
  refine ⟨?_, ?_, hs, ⟨h4.os, h4.tape, h4.output, by simp [World.setCell]; exact h4.size, fun k hk hne => ?_⟩⟩
  · rw [Below.heap_setCell _ _ _ _ (by simp; omega)]; exact h1
  · rw [Below.heap_setCell _ _ _ _ (by simp)]; exact h2
  · rw [Below.heap_setCell _ _ _ _ (by simp; omega)]; exact h4.block k hk hne

theorem Bs.keep {w0 w : World} {b o n cap g : Nat} {l : List Int} (h : Bs w0 (some ⟨b, o, none⟩) n cap l) (hb : b ≠ g) (hgr : w0.grownBy w (some g)) : Bs w (some ⟨b, o, none⟩) n cap l := by
  obtain ⟨h1, h2, h3, h4, h5, h6⟩ := h
  refine ⟨h1, h2, h3, h4, fun hn => ?_, h6⟩
  obtain ⟨b', o', e, hc⟩ := h5 hn
  obtain ⟨rfl, rfl⟩ : b = b' ∧ o = o' := by simpa using e
  exact ⟨b, o, rfl, fun i hi => hgr.cell (hc i hi) (by simpa using hb)⟩

def Keep (g : Nat) (ob : Obj) (w0 w : World) : Prop := w.heap[g]? = some ob ∧ w0.grownBy w (some g)

theorem Keep.set {g : Nat} {ob : Obj} {w0 w : World} (h : Keep g ob w0 w) (hg0 : g < w0.heap.size) {p : Addr} (hp : w0.heap.size ≤ p.block) (x : Value) : Keep g ob w0 (w.setCell p x) := by
  obtain ⟨h1, h4⟩ := h
  refine ⟨?_, ⟨h4.os, h4.tape, h4.output, by simp [World.setCell]; exact h4.size, fun k hk hne => ?_⟩⟩
  · rw [Below.heap_setCell _ _ _ _ (by omega)]; exact h1
  · rw [Below.heap_setCell _ _ _ _ (by omega)]; exact h4.block k hk hne

theorem size_2 (w : World) (o1 o2 : Obj) : ((w.alloc o1).alloc o2).heap.size = w.heap.size + 2 := by simp

set_option maxRecDepth 100000 in
set_option maxHeartbeats 1600000 in
theorem change_x (g b o cap : Nat) (w : World) (hg : w.heap[g]? = some (rObj b o 6 cap 0)) (h : Bs w (some ⟨b, o, none⟩) 6 cap [5, 1, 1, 5, 3, 17]) (hb : b ≠ g) :
    Calls Tryz.prog 106 #[.pointer (some ⟨g, 0, none⟩)] w fun e w' => e = .returned xMut ∧ w'.heap[g]? = some (rObj b o 6 cap 6) ∧ w.grownBy w' (some g) := by
  have hg0 := lt_of_heap hg
  have I0 : Hid (Ch g b o 6 cap 0 w ((w.alloc (mObj 0 0 0 0 0 0)).alloc (mObj 0 0 0 0 0 0)) 0 0 0 0 0 0) := by
    refine ⟨?_, ?_, ?_, ?_⟩
    · rw [Below.heap_alloc _ _ _ (by simp; omega), Below.heap_alloc _ _ _ hg0]; exact hg
    · rw [Below.heap_alloc _ _ _ (by simp)]; exact heap_alloc_new w _
    · have := heap_alloc_new (w.alloc (mObj 0 0 0 0 0 0)) (mObj 0 0 0 0 0 0)
      simpa using this
    · exact below_grown ((below_alloc w _ _ (Nat.le_refl _)).trans (below_alloc _ _ _ (by simp))) _
  have HH := hide h
  have HN := hide (fun (k : Nat) (c : Int) (W : World) (a0 a1 a2 a3 a4 a5 : Int) (hk : k < 6) (hc : [5, 1, 1, 5, 3, (17 : Int)][k]? = some c) (h0 : 0 ≤ c) (h1 : c < 128) (I : Ch g b o 6 cap k w W a0 a1 a2 a3 a4 a5) =>
    number_1 g b o 6 cap k c [5, 1, 1, 5, 3, 17] W I.1 (h.keep hb I.2.2.2) hk hc h0 h1 (by omega))
  clear hg h
  go_enter Tryz.func106, Tryz.ntmps106
  go_wp2_with fail
  refine (HN.out 0 5 _ _ _ _ _ _ _ (by omega) rfl (by omega) (by omega) I0.out).mono ?_
  rintro e w1 ⟨rfl, hg1, hgr1⟩
  have I1 := I0.out.next hg0 hg1 hgr1
  obtain ⟨c0, c1, c2, c3, c4, c5⟩ := m_cells I1.2.2.1
  have f := m_free I1.2.2.1
  have J1 := hide (I1.set hg0 0 (.int .i64 5) (m_set I1.2.2.1 5).1)
  clear I0 I1 hg1 hgr1
  go_wp2_with fail
  refine (HN.out 1 1 _ _ _ _ _ _ _ (by omega) rfl (by omega) (by omega) J1.out).mono ?_
  rintro e w2 ⟨rfl, hg2, hgr2⟩
  have I2 := J1.out.next hg0 hg2 hgr2
  clear c0 c1 c2 c3 c4 c5 f
  obtain ⟨c0, c1, c2, c3, c4, c5⟩ := m_cells I2.2.2.1
  have f := m_free I2.2.2.1
  have J2 := hide (I2.set hg0 1 (.int .i64 1) (m_set I2.2.2.1 1).2.1)
  clear J1 I2 hg2 hgr2
  go_wp2_with fail
  refine (HN.out 2 1 _ _ _ _ _ _ _ (by omega) rfl (by omega) (by omega) J2.out).mono ?_
  rintro e w3 ⟨rfl, hg3, hgr3⟩
  have I3 := J2.out.next hg0 hg3 hgr3
  clear c0 c1 c2 c3 c4 c5 f
  obtain ⟨c0, c1, c2, c3, c4, c5⟩ := m_cells I3.2.2.1
  have f := m_free I3.2.2.1
  have J3 := hide (I3.set hg0 2 (.int .i64 1) (m_set I3.2.2.1 1).2.2.1)
  clear J2 I3 hg3 hgr3
  go_wp2_with fail
  refine (HN.out 3 5 _ _ _ _ _ _ _ (by omega) rfl (by omega) (by omega) J3.out).mono ?_
  rintro e w4 ⟨rfl, hg4, hgr4⟩
  have I4 := J3.out.next hg0 hg4 hgr4
  clear c0 c1 c2 c3 c4 c5 f
  obtain ⟨c0, c1, c2, c3, c4, c5⟩ := m_cells I4.2.2.1
  have f := m_free I4.2.2.1
  have J4 := hide (I4.set hg0 3 (.int .i64 5) (m_set I4.2.2.1 5).2.2.2.1)
  clear J3 I4 hg4 hgr4
  have d0 := (m_cells J4.out.2.2.1).1
  go_wp2_with (go_at_call 119; go_in)
  refine (HN.out 4 3 _ _ _ _ _ _ _ (by omega) rfl (by omega) (by omega) J4.out).mono ?_
  rintro e w5 ⟨rfl, hg5, hgr5⟩
  have I5 := J4.out.next hg0 hg5 hgr5
  clear c0 c1 c2 c3 c4 c5 f d0
  obtain ⟨c0, c1, c2, c3, c4, c5⟩ := m_cells I5.2.2.1
  have f := m_free I5.2.2.1
  have J5 := hide (I5.set hg0 4 (.int .i64 3) (m_set I5.2.2.1 3).2.2.2.2.1)
  clear J4 I5 hg5 hgr5
  have d0 := (m_cells J5.out.2.2.1).1
  go_wp2_with (go_at_call 121; go_in)
  refine (signed_1 g b o 6 cap 5 17 [5, 1, 1, 5, 3, 17] _ J5.out.1 (HH.out.keep hb J5.out.2.2.2) (by omega) rfl (by omega) (by omega) (by omega)).mono ?_
  rintro e w6 ⟨rfl, hg6, hgr6⟩
  have I6 := J5.out.next hg0 hg6 hgr6
  clear c0 c1 c2 c3 c4 c5 f d0
  obtain ⟨c0, c1, c2, c3, c4, c5⟩ := m_cells I6.2.2.1
  have f := m_free I6.2.2.1
  have eu : unfold (17 : Int).toNat = -9 := by decide
  obtain ⟨r0, r1, r2, r3, r4, r5⟩ := m_cells I6.2.1
  have fr := m_free I6.2.1
  have HR0 := hide I6.2.1
  have KP : Hid (Keep g (rObj b o 6 cap 6) w w6) := ⟨I6.1, I6.2.2.2⟩
  rw [eu]
  clear J5 I6 hg6 hgr6 eu HN HH
  go_wp2
  have hr0 : (w6.setCell ⟨w.heap.size + 1, 5, none⟩ (.int .i64 (-9))).heap[w.heap.size]? = some (mObj 0 0 0 0 0 0) := by rw [Below.heap_setCell _ _ _ _ (by simp)]; exact HR0.out
  have hr1 := (m_set hr0 5).1
  have hr2 := (m_set hr1 1).2.1
  have hr3 := (m_set hr2 1).2.2.1
  have hr4 := (m_set hr3 5).2.2.2.1
  have hr5 := (m_set hr4 3).2.2.2.2.1
  have hr6 := (m_set hr5 (-9)).2.2.2.2.2
  have hk := ((((((KP.out.set hg0 (p := ⟨w.heap.size + 1, 5, none⟩) (by simp) (.int .i64 (-9))).set hg0 (p := ⟨w.heap.size, 0, none⟩) (by simp) (.int .i64 5)).set hg0 (p := ⟨w.heap.size, 1, none⟩) (by simp) (.int .i64 1)).set hg0 (p := ⟨w.heap.size, 2, none⟩) (by simp) (.int .i64 1)).set hg0 (p := ⟨w.heap.size, 3, none⟩) (by simp) (.int .i64 5)).set hg0 (p := ⟨w.heap.size, 4, none⟩) (by simp) (.int .i64 3)).set hg0 (p := ⟨w.heap.size, 5, none⟩) (by simp) (.int .i64 (-9))
  generalize ((((((w6.setCell ⟨w.heap.size + 1, 5, none⟩ (.int .i64 (-9))).setCell ⟨w.heap.size, 0, none⟩ (.int .i64 5)).setCell ⟨w.heap.size, 1, none⟩ (.int .i64 1)).setCell ⟨w.heap.size, 2, none⟩ (.int .i64 1)).setCell ⟨w.heap.size, 3, none⟩ (.int .i64 5)).setCell ⟨w.heap.size, 4, none⟩ (.int .i64 3)).setCell ⟨w.heap.size, 5, none⟩ (.int .i64 (-9)) = WF at hr6 hk ⊢
  clear hr0 hr1 hr2 hr3 hr4 hr5 c0 c1 c2 c3 c4 c5 r0 r1 r2 r3 r4 r5 f fr
  obtain ⟨q0, q1, q2, q3, q4, q5⟩ := m_cells hr6
  refine bodyPost_ret (v := xMut) (by simp [results, Tryz.results106, go_sem, xMut, q0, q1, q2, q3, q4, q5]) rfl ⟨rfl, hk⟩


theorem heap_drew (w : World) (g : Nat) : w.drew.heap[g]? = w.heap[g]? := rfl

theorem set6 {w w2 : World} {g : Nat} {a0 a1 a2 a3 a4 a5 : Int} (hg : w.heap.size ≤ g) (hb : Below w.heap.size w w2) (h : w2.heap[g]? = some (mObj a0 a1 a2 a3 a4 a5)) (b0 b1 b2 b3 b4 b5 : Int) :
    ((((((w2.setCell ⟨g, 0, none⟩ (.int .i64 b0)).setCell ⟨g, 1, none⟩ (.int .i64 b1)).setCell ⟨g, 2, none⟩ (.int .i64 b2)).setCell ⟨g, 3, none⟩ (.int .i64 b3)).setCell ⟨g, 4, none⟩ (.int .i64 b4)).setCell ⟨g, 5, none⟩ (.int .i64 b5)).drew.heap[g]? = some (mObj b0 b1 b2 b3 b4 b5) ∧ Below w.heap.size w ((((((w2.setCell ⟨g, 0, none⟩ (.int .i64 b0)).setCell ⟨g, 1, none⟩ (.int .i64 b1)).setCell ⟨g, 2, none⟩ (.int .i64 b2)).setCell ⟨g, 3, none⟩ (.int .i64 b3)).setCell ⟨g, 4, none⟩ (.int .i64 b4)).setCell ⟨g, 5, none⟩ (.int .i64 b5)).drew := by
  have hr1 := (m_set h b0).1
  have hr2 := (m_set hr1 b1).2.1
  have hr3 := (m_set hr2 b2).2.2.1
  have hr4 := (m_set hr3 b3).2.2.2.1
  have hr5 := (m_set hr4 b4).2.2.2.2.1
  have hr6 := (m_set hr5 b5).2.2.2.2.2
  refine ⟨(heap_drew _ _).trans hr6, Below.drew ?_⟩
  exact (((((hb.setCell (p := ⟨g, 0, none⟩) hg _).setCell (p := ⟨g, 1, none⟩) hg _).setCell (p := ⟨g, 2, none⟩) hg _).setCell (p := ⟨g, 3, none⟩) hg _).setCell (p := ⟨g, 4, none⟩) hg _).setCell (p := ⟨g, 5, none⟩) hg _

/-- How mut.Get ends. -/
theorem get_end {WF : World} {r : Nat} {tm : Array Value} {Q : Ending → World → Prop} (hr : WF.heap[r]? = some (mObj 5 1 1 5 3 (-9))) (h2 : tm[2]?.getD undef = .pointer (some ⟨r, 0, none⟩)) (h3 : tm[3]?.getD undef = .int .i64 6) (h4 : tm[4]?.getD undef = .int .i64 0)
    (hq : Q (.returned (.tuple #[xMut, .int .i64 6, .int .i64 0])) WF) : bodyPost Tryz.prog Tryz.f67 Q Exit.ret { tmps := tm, defers := [] } WF := by
  obtain ⟨q0, q1, q2, q3, q4, q5⟩ := m_cells hr
  refine bodyPost_ret (v := .tuple #[xMut, .int .i64 6, .int .i64 0]) ?_ rfl hq
  simp [results, Tryz.results67, go_sem, xMut, q0, q1, q2, q3, q4, q5, h2, h3, h4]

set_option maxRecDepth 100000 in
set_option maxHeartbeats 1600000 in
theorem mutGet_x (b o cap : Nat) (w : World) (h : Bs w (some ⟨b, o, none⟩) 6 cap [5, 1, 1, 5, 3, 17]) (hlt : b < w.heap.size) :
    Calls Tryz.prog 67 #[.slice (some ⟨b, o, none⟩) 6 cap] w fun e w' => e = .returned (.tuple #[xMut, .int .i64 6, .int .i64 0]) ∧ Below w.heap.size w w' := by
  have hb0 : Below w.heap.size w ((w.alloc (mObj 0 0 0 0 0 0)).alloc (rObj b o 6 cap 0)) := (below_alloc w _ _ (Nat.le_refl _)).trans (below_alloc _ _ _ (by simp))
  have hg0 : ((w.alloc (mObj 0 0 0 0 0 0)).alloc (rObj b o 6 cap 0)).heap[w.heap.size + 1]? = some (rObj b o 6 cap 0) := by
    have := heap_alloc_new (w.alloc (mObj 0 0 0 0 0 0)) (rObj b o 6 cap 0)
    simpa using this
  have hr0 : ((w.alloc (mObj 0 0 0 0 0 0)).alloc (rObj b o 6 cap 0)).heap[w.heap.size]? = some (mObj 0 0 0 0 0 0) := by
    rw [Below.heap_alloc _ _ _ (by simp)]; exact heap_alloc_new w _
  have H1 := hide (change_x (w.heap.size + 1) b o cap _ hg0 (h.later hb0 (Nat.le_refl _)) (by omega))
  have HB0 := hide hb0
  have HR0 := hide hr0
  clear hg0 hb0 hr0 h
  go_enter Tryz.func67, Tryz.ntmps67
  go_wp2_with fail
  refine H1.out.mono ?_
  unfold xMut
  rintro e w1 ⟨rfl, hg1, hgr1⟩
  have hr1 := (hgr1.block _ (lt_of_heap HR0.out) (by simp)).trans HR0.out
  have hsz : w.heap.size + 2 ≤ w1.heap.size := by have := hgr1.size; simpa using this
  have hga : ∀ O, (w1.alloc O).heap[w.heap.size + 1]? = some (rObj b o 6 cap 6) := fun O => by rw [Below.heap_alloc _ _ _ (by omega)]; exact hg1
  have c1 := fun O => (r_cells (hga O)).2.1
  have c2 := fun O => (r_cells (hga O)).2.2.1
  have hbw : Below w.heap.size w w1 := HB0.out.trans (grown_below hgr1 (by omega) (by simp; omega))
  have HX := hide hbw
  have HR1 := hide hr1
  have HG1 := hide hg1
  clear hr1 hg1 hgr1 H1 HB0 HR0 hbw hga
  go_wp2_with fail
  refine (may_x _).mono ?_
  rintro e w2 ⟨rfl, hb2⟩
  have hs2 : w1.heap.size + 1 ≤ w2.heap.size := by have := hb2.size; simpa using this
  have hg2 : w2.heap[w.heap.size + 1]? = some (rObj b o 6 cap 6) := by
    rw [hb2.block _ (by simp; omega), Below.heap_alloc _ _ _ (by omega)]; exact HG1.out
  have hr2 : w2.heap[w.heap.size]? = some (mObj 0 0 0 0 0 0) := by
    rw [hb2.block _ (by simp; omega), Below.heap_alloc _ _ _ (by omega)]; exact HR1.out
  have hx2 : w2.heap[w1.heap.size]? = some xObj := by
    rw [hb2.block _ (by simp)]; exact heap_alloc_new w1 _
  have HX2 := hide (HX.out.trans ((below_alloc w1 _ w.heap.size (by omega)).trans (hb2.mono (by simp; omega))))
  clear c1 c2 hb2 HX HR1 HG1
  obtain ⟨c0, c1, c2, f1, f2⟩ := r_cells hg2
  obtain ⟨r0, r1, r2, r3, r4, r5⟩ := m_cells hr2
  obtain ⟨x0, x1, x2, x3, x4, x5⟩ := x_cells hx2
  have fr := m_free hr2
  have HR2 := hide hr2
  clear hr2 hg2 hx2
  go_wp2
  go_region
  all_goals go_wp2
  have HS := set6 (Nat.le_refl _) HX2.out HR2.out 5 1 1 5 3 (-9)
  exact get_end HS.1 rfl rfl rfl ⟨rfl, HS.2⟩
end Go.Proofs.YtdogecaonlmalaaGreat
