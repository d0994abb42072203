/- mut.Get of whatever bytes: what the reader does. -/
import Derived.Test.YtgpfpmocdmeldaaGreatMutW
import Derived.Test.YtgpfpmocdmeldaaGreatMut2
import Derived.Deep.DeepCutAuto
namespace Go.Proofs.YtgpfpmocdmeldaaGreat
open Go.RowKit

/-- int64 of a uint64. -/
def toI (n : Nat) : Int := if n < 9223372036854775808 then (n : Int) else (n : Int) - 18446744073709551616

/-- A number read at t, if there was no error so far: the number, how far, the error's number. -/
def num1 (l : List Int) (t : Nat) (e : Int) : Int × Nat × Int :=
  if e ≠ 0 then (0, t, e) else (toI (M.getL 0 0 (l.drop t)).1, t + (M.getL 0 0 (l.drop t)).2.1, (M.getL 0 0 (l.drop t)).2.2)
def sgn1 (l : List Int) (t : Nat) (e : Int) : Int × Nat × Int :=
  if e ≠ 0 then (0, t, e) else ((getI (l.drop t)).1, t + (getI (l.drop t)).2.1, (getI (l.drop t)).2.2)

theorem getL_le (l : List Int) (hr : ∀ x ∈ l, 0 ≤ x ∧ x ≤ 255) : (M.getL 0 0 l).2.1 ≤ l.length ∧ (M.getL 0 0 l).2.1 ≤ 10 := by
  have hf := M.getL_facts l 0 0 (by omega) (by decide) hr
  rcases hf.2 with ⟨_, _, q1, q2⟩ | ⟨_, _, q⟩
  · exact ⟨by omega, q2⟩
  · rw [q]; omega
theorem getI_le (l : List Int) (hr : ∀ x ∈ l, 0 ≤ x ∧ x ≤ 255) : (getI l).2.1 ≤ l.length ∧ (getI l).2.1 ≤ 10 := by
  unfold getI
  split
  · exact getL_le l hr
  · simp

theorem num1_le (l : List Int) (t : Nat) (e : Int) (hr : ∀ x ∈ l, 0 ≤ x ∧ x ≤ 255) (ht : t ≤ l.length) : (num1 l t e).2.1 ≤ l.length := by
  unfold num1
  split
  · exact ht
  · have := (getL_le (l.drop t) (fun x hx => hr x (List.mem_of_mem_drop hx))).1
    rw [List.length_drop] at this
    show t + _ ≤ _
    omega
theorem sgn1_le (l : List Int) (t : Nat) (e : Int) (hr : ∀ x ∈ l, 0 ≤ x ∧ x ≤ 255) (ht : t ≤ l.length) : (sgn1 l t e).2.1 ≤ l.length := by
  unfold sgn1
  split
  · exact ht
  · have := (getI_le (l.drop t) (fun x hx => hr x (List.mem_of_mem_drop hx))).1
    rw [List.length_drop] at this
    show t + _ ≤ _
    omega

/-- A reader of bytes. -/
def rG (a : Option Addr) (n cap t : Nat) (e : Int) : Obj := .cells #[.slice a n cap, .int .i64 t, .int .i64 e] 81 (0, 0)

theorem rG_cells {w : World} {g : Nat} {a : Option Addr} {n cap t : Nat} {e : Int} (h : w.heap[g]? = some (rG a n cap t e)) :
    w.cell? ⟨g, 0, none⟩ = some (.slice a n cap) ∧ w.cell? ⟨g, 1, none⟩ = some (.int .i64 t) ∧ w.cell? ⟨g, 2, none⟩ = some (.int .i64 e) ∧ w.frozen? ⟨g, 1, none⟩ = false ∧ w.frozen? ⟨g, 2, none⟩ = false := by
  refine ⟨?_, ?_, ?_, ?_, ?_⟩ <;> simp [World.cell?, World.frozen?, h, rG]

theorem rG_set {w : World} {g : Nat} {a : Option Addr} {n cap t : Nat} {e : Int} (h : w.heap[g]? = some (rG a n cap t e)) (x y : Value) :
    ((w.setCell ⟨g, 1, none⟩ x).setCell ⟨g, 2, none⟩ y).heap[g]? = some (.cells #[.slice a n cap, x, y] 81 (0, 0)) ∧ w.grownBy ((w.setCell ⟨g, 1, none⟩ x).setCell ⟨g, 2, none⟩ y) (some g) := by
  constructor
  · obtain ⟨hlt, he⟩ := Array.getElem?_eq_some_iff.1 h
    simp [World.setCell, Array.getElem_modify, hlt, he, rG]
  · refine ⟨rfl, rfl, rfl, by simp [World.setCell], fun k _ hk => ?_⟩
    rw [Below.heap_setCell _ _ _ _ (by simp; intro e; exact hk (by rw [e])), Below.heap_setCell _ _ _ _ (by simp; intro e; exact hk (by rw [e]))]

set_option maxRecDepth 100000 in
set_option maxHeartbeats 800000 in
theorem number_any (g : Nat) (a : Option Addr) (n cap t : Nat) (e : Int) (l : List Int) (w0 w : World) (hg : w.heap[g]? = some (rG a n cap t e)) (h : Bs w0 a n cap l) (hb : Below w0.heap.size w0 w) (ht : t ≤ n) (hn : n ≤ 1000000) :
    Calls Tryz.prog 85 #[.pointer (some ⟨g, 0, none⟩)] w fun r w' => r = .returned (.int .i64 (num1 l t e).1) ∧ w'.heap[g]? = some (rG a n cap (num1 l t e).2.1 (num1 l t e).2.2) ∧ w.grownBy w' (some g) := by
  have hw := h.later hb (Nat.le_refl _)
  have hnc := h.2.1
  obtain ⟨c0, c1, c2, f1, f2⟩ := rG_cells hg
  have HO := hide hg
  by_cases he : e = 0
  · subst he
    have E : Hid (num1 l t 0 = (toI (M.getL 0 0 (l.drop t)).1, t + (M.getL 0 0 (l.drop t)).2.1, (M.getL 0 0 (l.drop t)).2.2)) := by show _ = _; rw [num1, if_neg (by simp)]
    have hfa := M.getL_facts (l.drop t) 0 0 (by omega) (by decide) (fun x hx => h.2.2.2.2.2 x (List.mem_of_mem_drop hx))
    have hle := getL_le (l.drop t) (fun x hx => h.2.2.2.2.2 x (List.mem_of_mem_drop hx))
    have hG := hide (fun nq => get_any _ _ _ _ (w.drewN nq) ((hw.later (below_drewN (Below.refl w.heap.size w) nq) (Nat.le_refl _)).fromAt t (n - t) ht rfl))
    have s1 := fun W => run_fromA a n cap t (n - t) (t : Int) rfl ht rfl W
    have h64 := hfa.1
    have htk := hle.2
    obtain ⟨N, HN⟩ : ∃ N, Hid (N = num1 l t 0) := ⟨_, rfl⟩
    rw [← HN.out] at E ⊢
    generalize M.getL 0 0 (l.drop t) = G at *
    obtain ⟨L, took, er⟩ := G
    simp only at h64 htk hG E
    clear hfa hle h hb hw HN hg
    by_cases hL : L < 9223372036854775808
    · have EI : Hid (toI L = (L : Int)) := by show _ = _; rw [toI, if_pos hL]
      go_enter Tryz.func85, Tryz.ntmps85
      go_wp2
      go_quiet ((go_at_call 23; exact Calls.quiet_of_same (hG.out _)))
      go_wp2
      go_ret
      have hD := below_drewN (Below.refl (w.heap.size + g + 1) w) nq
      have hR := rG_set ((hD.block g (by omega)).trans HO.out) (.int .i64 ((t : Int) + took)) (.int .i64 er)
      rw [E.out]
      exact ⟨ret_int (by rw [EI.out]), by unfold rG; simpa using hR.1, grown_trans (below_grown (hD.mono (by omega)) _) hR.2⟩
    · have EI : Hid (toI L = (L : Int) - 18446744073709551616) := by show _ = _; rw [toI, if_neg hL]
      go_enter Tryz.func85, Tryz.ntmps85
      go_wp2
      go_quiet ((go_at_call 23; exact Calls.quiet_of_same (hG.out _)))
      go_wp2
      go_ret
      have hD := below_drewN (Below.refl (w.heap.size + g + 1) w) nq
      have hR := rG_set ((hD.block g (by omega)).trans HO.out) (.int .i64 ((t : Int) + took)) (.int .i64 er)
      rw [E.out]
      exact ⟨ret_int (by show wrap64 (L : Int) = toI L; rw [EI.out]; unfold wrap64; omega), by unfold rG; simpa using hR.1, grown_trans (below_grown (hD.mono (by omega)) _) hR.2⟩
  · have E : Hid (num1 l t e = (0, t, e)) := by show _ = _; rw [num1, if_pos he]
    have hb0 : (e != 0) = true := by simpa using he
    clear h hb hw he hg
    go_enter Tryz.func85, Tryz.ntmps85
    go_wp2
    go_ret
    rw [E.out]
    exact ⟨rfl, HO.out, grown_refl _ _⟩
set_option maxRecDepth 100000 in
set_option maxHeartbeats 800000 in
theorem signed_any (g : Nat) (a : Option Addr) (n cap t : Nat) (e : Int) (l : List Int) (w0 w : World) (hg : w.heap[g]? = some (rG a n cap t e)) (h : Bs w0 a n cap l) (hb : Below w0.heap.size w0 w) (ht : t ≤ n) (hn : n ≤ 1000000) :
    Calls Tryz.prog 86 #[.pointer (some ⟨g, 0, none⟩)] w fun r w' => r = .returned (.int .i64 (sgn1 l t e).1) ∧ w'.heap[g]? = some (rG a n cap (sgn1 l t e).2.1 (sgn1 l t e).2.2) ∧ w.grownBy w' (some g) := by
  have hw := h.later hb (Nat.le_refl _)
  have hnc := h.2.1
  obtain ⟨c0, c1, c2, f1, f2⟩ := rG_cells hg
  have HO := hide hg
  by_cases he : e = 0
  · subst he
    have E : Hid (sgn1 l t 0 = ((getI (l.drop t)).1, t + (getI (l.drop t)).2.1, (getI (l.drop t)).2.2)) := by show _ = _; rw [sgn1, if_neg (by simp)]
    have hle := getI_le (l.drop t) (fun x hx => h.2.2.2.2.2 x (List.mem_of_mem_drop hx))
    have hG := hide (fun nq => getInt_any _ _ _ _ (w.drewN nq) ((hw.later (below_drewN (Below.refl w.heap.size w) nq) (Nat.le_refl _)).fromAt t (n - t) ht rfl))
    have s1 := fun W => run_fromA a n cap t (n - t) (t : Int) rfl ht rfl W
    have htk := hle.2
    obtain ⟨N, HN⟩ : ∃ N, Hid (N = sgn1 l t 0) := ⟨_, rfl⟩
    rw [← HN.out] at E ⊢
    generalize getI (l.drop t) = G at *
    obtain ⟨L, took, er⟩ := G
    simp only at htk hG E
    clear hle h hb hw HN hg
    go_enter Tryz.func86, Tryz.ntmps86
    go_wp2
    go_quiet ((go_at_call 97; exact Calls.quiet_of_same (hG.out _)))
    go_wp2
    go_ret
    have hD := below_drewN (Below.refl (w.heap.size + g + 1) w) nq
    have hR := rG_set ((hD.block g (by omega)).trans HO.out) (.int .i64 ((t : Int) + took)) (.int .i64 er)
    rw [E.out]
    exact ⟨rfl, by unfold rG; simpa using hR.1, grown_trans (below_grown (hD.mono (by omega)) _) hR.2⟩
  · have E : Hid (sgn1 l t e = (0, t, e)) := by show _ = _; rw [sgn1, if_pos he]
    have hb0 : (e != 0) = true := by simpa using he
    clear h hb hw he hg
    go_enter Tryz.func86, Tryz.ntmps86
    go_wp2
    go_ret
    rw [E.out]
    exact ⟨rfl, HO.out, grown_refl _ _⟩

/-- What change keeps between its rows. -/
def Cg (g : Nat) (R : Obj) (w0 w : World) (a0 a1 a2 a3 a4 a5 : Int) : Prop :=
  w.heap[g]? = some R ∧ w.heap[w0.heap.size]? = some (mObj 0 0 0 0 0 0) ∧ w.heap[w0.heap.size + 1]? = some (mObj a0 a1 a2 a3 a4 a5) ∧ w0.grownBy w (some g)

theorem Cg.next {g : Nat} {R R' : Obj} {w0 w w' : World} {a0 a1 a2 a3 a4 a5 : Int} (h : Cg g R w0 w a0 a1 a2 a3 a4 a5) (hg0 : g < w0.heap.size) (h1 : w'.heap[g]? = some R') (h2 : w.grownBy w' (some g)) : Cg g R' w0 w' a0 a1 a2 a3 a4 a5 :=
  ⟨h1, (h2.block _ (lt_of_heap h.2.1) (by simp; omega)).trans h.2.1, (h2.block _ (lt_of_heap h.2.2.1) (by simp; omega)).trans h.2.2.1, grown_trans h.2.2.2 h2⟩

theorem Cg.set {g : Nat} {R : Obj} {w0 w : World} {a0 a1 a2 a3 a4 a5 b0 b1 b2 b3 b4 b5 : Int} (h : Cg g R w0 w a0 a1 a2 a3 a4 a5) (hg0 : g < w0.heap.size) (j : Nat) (x : Value)
    (hs : (w.setCell ⟨w0.heap.size + 1, j, none⟩ x).heap[w0.heap.size + 1]? = some (mObj b0 b1 b2 b3 b4 b5)) : Cg g R w0 (w.setCell ⟨w0.heap.size + 1, j, none⟩ x) b0 b1 b2 b3 b4 b5 := by
  obtain ⟨h1, h2, h3, h4⟩ := h
  refine ⟨?_, ?_, hs, ⟨h4.os, h4.tape, h4.output, by simp [World.setCell]; exact h4.size, fun k hk hne => ?_⟩⟩
  · rw [Below.heap_setCell _ _ _ _ (by simp; omega)]; exact h1
  · rw [Below.heap_setCell _ _ _ _ (by simp)]; exact h2
  · rw [Below.heap_setCell _ _ _ _ (by simp; omega)]; exact h4.block k hk hne

theorem Cg.start (g : Nat) (R : Obj) (w : World) (hg : w.heap[g]? = some R) : Cg g R w ((w.alloc (mObj 0 0 0 0 0 0)).alloc (mObj 0 0 0 0 0 0)) 0 0 0 0 0 0 := by
  have hg0 := lt_of_heap hg
  refine ⟨?_, ?_, ?_, ?_⟩
  · rw [Below.heap_alloc _ _ _ (by simp; omega), Below.heap_alloc _ _ _ hg0]; exact hg
  · rw [Below.heap_alloc _ _ _ (by simp)]; exact heap_alloc_new w _
  · have := heap_alloc_new (w.alloc (mObj 0 0 0 0 0 0)) (mObj 0 0 0 0 0 0)
    simpa using this
  · exact below_grown ((below_alloc w _ _ (Nat.le_refl _)).trans (below_alloc _ _ _ (by simp))) _

/-- What mut's reader reads of bytes, number by number. -/
structure Chg (l : List Int) (A B C D F V : Int × Nat × Int) : Prop where
  a : A = num1 l 0 0
  b : B = num1 l A.2.1 A.2.2
  c : C = num1 l B.2.1 B.2.2
  d : D = num1 l C.2.1 C.2.2
  f : F = if hasF A.1 then num1 l D.2.1 D.2.2 else (0, D.2.1, D.2.2)
  v : V = if hasV A.1 then sgn1 l F.2.1 F.2.2 else (0, F.2.1, F.2.2)

theorem chg_end {WF : World} {r : Nat} {tm : Array Value} {Q : Ending → World → Prop} {k g n i f v : Int} (hr : WF.heap[r]? = some (mObj k g n i f v)) (h2 : tm[2]?.getD undef = .pointer (some ⟨r, 0, none⟩))
    (hq : Q (.returned (.agg #[.int .i64 k, .int .i64 g, .int .i64 n, .int .i64 i, .int .i64 f, .int .i64 v])) WF) : bodyPost Tryz.prog Tryz.f56 Q Exit.ret { tmps := tm, defers := [] } WF := by
  obtain ⟨q0, q1, q2, q3, q4, q5⟩ := m_cells hr
  refine bodyPost_ret (v := .agg #[.int .i64 k, .int .i64 g, .int .i64 n, .int .i64 i, .int .i64 f, .int .i64 v]) ?_ rfl hq
  simp [results, Tryz.results56, go_sem, q0, q1, q2, q3, q4, q5, h2]

theorem set6K {g : Nat} {R : Obj} {w W : World} (hK : Keep g R w W) (hg0 : g < w.heap.size) (hr : W.heap[w.heap.size]? = some (mObj 0 0 0 0 0 0)) (b0 b1 b2 b3 b4 b5 : Int) :
    ((((((W.setCell ⟨w.heap.size, 0, none⟩ (.int .i64 b0)).setCell ⟨w.heap.size, 1, none⟩ (.int .i64 b1)).setCell ⟨w.heap.size, 2, none⟩ (.int .i64 b2)).setCell ⟨w.heap.size, 3, none⟩ (.int .i64 b3)).setCell ⟨w.heap.size, 4, none⟩ (.int .i64 b4)).setCell ⟨w.heap.size, 5, none⟩ (.int .i64 b5)).heap[w.heap.size]? = some (mObj b0 b1 b2 b3 b4 b5) ∧ Keep g R w ((((((W.setCell ⟨w.heap.size, 0, none⟩ (.int .i64 b0)).setCell ⟨w.heap.size, 1, none⟩ (.int .i64 b1)).setCell ⟨w.heap.size, 2, none⟩ (.int .i64 b2)).setCell ⟨w.heap.size, 3, none⟩ (.int .i64 b3)).setCell ⟨w.heap.size, 4, none⟩ (.int .i64 b4)).setCell ⟨w.heap.size, 5, none⟩ (.int .i64 b5)) := by
  have hr1 := (m_set hr b0).1
  have hr2 := (m_set hr1 b1).2.1
  have hr3 := (m_set hr2 b2).2.2.1
  have hr4 := (m_set hr3 b3).2.2.2.1
  have hr5 := (m_set hr4 b4).2.2.2.2.1
  have hr6 := (m_set hr5 b5).2.2.2.2.2
  exact ⟨hr6, (((((hK.set hg0 (p := ⟨w.heap.size, 0, none⟩) (by simp) _).set hg0 (p := ⟨w.heap.size, 1, none⟩) (by simp) _).set hg0 (p := ⟨w.heap.size, 2, none⟩) (by simp) _).set hg0 (p := ⟨w.heap.size, 3, none⟩) (by simp) _).set hg0 (p := ⟨w.heap.size, 4, none⟩) (by simp) _).set hg0 (p := ⟨w.heap.size, 5, none⟩) (by simp) _⟩

set_option maxRecDepth 100000 in
set_option maxHeartbeats 3200000 in
theorem change_any (g : Nat) (a : Option Addr) (n cap : Nat) (l : List Int) (A B C D F V : Int × Nat × Int) (w0 w : World) (hg : w.heap[g]? = some (rG a n cap 0 0)) (h : Bs w0 a n cap l) (hb : Below w0.heap.size w0 w) (hgw : w0.heap.size ≤ g) (hn : n ≤ 1000000) (hc : Chg l A B C D F V) :
    Calls Tryz.prog 56 #[.pointer (some ⟨g, 0, none⟩)] w fun r w' => r = .returned (mV ⟨A.1, B.1, C.1, D.1, F.1, V.1⟩) ∧ w'.heap[g]? = some (rG a n cap V.2.1 V.2.2) ∧ w.grownBy w' (some g) := by
  have hg0 := lt_of_heap hg
  have hr := h.2.2.2.2.2
  have hl := h.1
  have lA : A.2.1 ≤ n := by rw [hc.a, ← hl]; exact num1_le l _ _ hr (by omega)
  have lB : B.2.1 ≤ n := by rw [hc.b, ← hl]; exact num1_le l _ _ hr (by omega)
  have lC : C.2.1 ≤ n := by rw [hc.c, ← hl]; exact num1_le l _ _ hr (by omega)
  have lD : D.2.1 ≤ n := by rw [hc.d, ← hl]; exact num1_le l _ _ hr (by omega)
  have lF : F.2.1 ≤ n := by
    rw [hc.f]
    split
    · rw [← hl]; exact num1_le l _ _ hr (by omega)
    · exact lD
  have I0 := hide (Cg.start g (rG a n cap 0 0) w hg)
  have HBW := hide (fun (W : World) (R : Obj) (x0 x1 x2 x3 x4 x5 : Int) (I : Cg g R w W x0 x1 x2 x3 x4 x5) => hb.trans (grown_below I.2.2.2 hgw hb.size))
  have HN := hide (fun (t : Nat) (e : Int) (W : World) (x0 x1 x2 x3 x4 x5 : Int) (ht : t ≤ n) (I : Cg g (rG a n cap t e) w W x0 x1 x2 x3 x4 x5) => number_any g a n cap t e l w0 W I.1 h (HBW.out _ _ _ _ _ _ _ _ I) ht hn)
  have HS := hide (fun (t : Nat) (e : Int) (W : World) (x0 x1 x2 x3 x4 x5 : Int) (ht : t ≤ n) (I : Cg g (rG a n cap t e) w W x0 x1 x2 x3 x4 x5) => signed_any g a n cap t e l w0 W I.1 h (HBW.out _ _ _ _ _ _ _ _ I) ht hn)
  have EA := hide hc.a
  have EB := hide hc.b
  have EC := hide hc.c
  have ED := hide hc.d
  have EF := hide hc.f
  have EV := hide hc.v
  unfold mV
  obtain ⟨Ax, At, Ae⟩ := A
  obtain ⟨Bx, Bt, Be⟩ := B
  obtain ⟨Cx, Ct, Ce⟩ := C
  obtain ⟨Dx, Dt, De⟩ := D
  obtain ⟨Fx, Ft, Fe⟩ := F
  obtain ⟨Vx, Vt, Ve⟩ := V
  simp only at *
  have CF := hide (fun w => hasField_any Ax w)
  have CV := hide (fun w => hasValue_any Ax w)
  have N1 := hide (HN.out 0 0 _ _ _ _ _ _ _ (by omega) I0.out)
  rw [← EA.out] at N1
  simp only at N1
  clear hg h hb hc hr hl HBW
  go_enter Tryz.func56, Tryz.ntmps56
  go_wp2_with fail
  refine N1.out.mono ?_
  rintro e w1 ⟨rfl, hg1, hgr1⟩
  have I1 := I0.out.next hg0 hg1 hgr1
  obtain ⟨c0, c1, c2, c3, c4, c5⟩ := m_cells I1.2.2.1
  have f := m_free I1.2.2.1
  have J1 := hide (I1.set hg0 0 (.int .i64 Ax) (m_set I1.2.2.1 Ax).1)
  have N2 := hide (HN.out At Ae _ _ _ _ _ _ _ lA J1.out)
  rw [← EB.out] at N2
  simp only at N2
  clear I0 I1 hg1 hgr1 N1
  go_wp2_with fail
  refine N2.out.mono ?_
  rintro e w2 ⟨rfl, hg2, hgr2⟩
  have I2 := J1.out.next hg0 hg2 hgr2
  clear c0 c1 c2 c3 c4 c5 f
  obtain ⟨c0, c1, c2, c3, c4, c5⟩ := m_cells I2.2.2.1
  have f := m_free I2.2.2.1
  have J2 := hide (I2.set hg0 1 (.int .i64 Bx) (m_set I2.2.2.1 Bx).2.1)
  have N3 := hide (HN.out Bt Be _ _ _ _ _ _ _ lB J2.out)
  rw [← EC.out] at N3
  simp only at N3
  clear J1 I2 hg2 hgr2 N2
  go_wp2_with fail
  refine N3.out.mono ?_
  rintro e w3 ⟨rfl, hg3, hgr3⟩
  have I3 := J2.out.next hg0 hg3 hgr3
  clear c0 c1 c2 c3 c4 c5 f
  obtain ⟨c0, c1, c2, c3, c4, c5⟩ := m_cells I3.2.2.1
  have f := m_free I3.2.2.1
  have J3 := hide (I3.set hg0 2 (.int .i64 Cx) (m_set I3.2.2.1 Cx).2.2.1)
  have N4 := hide (HN.out Ct Ce _ _ _ _ _ _ _ lC J3.out)
  rw [← ED.out] at N4
  simp only at N4
  clear J2 I3 hg3 hgr3 N3
  go_wp2_with fail
  refine N4.out.mono ?_
  rintro e w4 ⟨rfl, hg4, hgr4⟩
  have I4 := J3.out.next hg0 hg4 hgr4
  clear c0 c1 c2 c3 c4 c5 f
  obtain ⟨c0, c1, c2, c3, c4, c5⟩ := m_cells I4.2.2.1
  have f := m_free I4.2.2.1
  have J4 := hide (I4.set hg0 3 (.int .i64 Dx) (m_set I4.2.2.1 Dx).2.2.2.1)
  clear J3 I4 hg4 hgr4 N4
  have d0 := (m_cells J4.out.2.2.1).1
  go_wp2_with fail
  refine (CF.out _).mono ?_
  rintro e w4' ⟨rfl, rfl⟩
  cases hF : hasF Ax with
  | true =>
    have EF2 : Hid ((Fx, Ft, Fe) = num1 l Dt De) := by rw [EF.out, hF]; rfl
    have N5 := hide (HN.out Dt De _ _ _ _ _ _ _ lD J4.out)
    rw [← EF2.out] at N5
    simp only at N5
    go_wp2_with fail
    refine N5.out.mono ?_
    rintro e w5 ⟨rfl, hg5, hgr5⟩
    have I5 := J4.out.next hg0 hg5 hgr5
    clear c0 c1 c2 c3 c4 c5 f d0
    obtain ⟨c0, c1, c2, c3, c4, c5⟩ := m_cells I5.2.2.1
    have f := m_free I5.2.2.1
    have J5 := hide (I5.set hg0 4 (.int .i64 Fx) (m_set I5.2.2.1 Fx).2.2.2.2.1)
    clear J4 I5 hg5 hgr5 N5
    have d0 := (m_cells J5.out.2.2.1).1
    go_wp2_with fail
    refine (CV.out _).mono ?_
    rintro e w5' ⟨rfl, rfl⟩
    cases hV : hasV Ax with
    | true =>
      have EV2 : Hid ((Vx, Vt, Ve) = sgn1 l Ft Fe) := by rw [EV.out, hV]; rfl
      have N6 := hide (HS.out Ft Fe _ _ _ _ _ _ _ lF J5.out)
      rw [← EV2.out] at N6
      simp only at N6
      go_wp2_with fail
      refine N6.out.mono ?_
      rintro e w6 ⟨rfl, hg6, hgr6⟩
      have I6 := J5.out.next hg0 hg6 hgr6
      clear c0 c1 c2 c3 c4 c5 f d0
      obtain ⟨c0, c1, c2, c3, c4, c5⟩ := m_cells I6.2.2.1
      have f := m_free I6.2.2.1
      have J6 := hide (I6.set hg0 5 (.int .i64 Vx) (m_set I6.2.2.1 Vx).2.2.2.2.2)
      clear J5 I6 hg6 hgr6 N6
      go_upto_region 10 with fail
      generalize w6.setCell ⟨w.heap.size + 1, 5, none⟩ (.int .i64 Vx) = W6 at *
      clear c0 c1 c2 c3 c4 c5 f
      obtain ⟨c0, c1, c2, c3, c4, c5⟩ := m_cells J6.out.2.2.1
      obtain ⟨r0, r1, r2, r3, r4, r5⟩ := m_cells J6.out.2.1
      have fr := m_free J6.out.2.1
      have HE := hide (set6K (g := g) ⟨J6.out.1, J6.out.2.2.2⟩ hg0 J6.out.2.1 Ax Bx Cx Dx Fx Vx)
      clear J6
      go_wp2
      exact chg_end HE.out.1 rfl ⟨rfl, HE.out.2⟩
    | false =>
      have EV2 : (Vx, Vt, Ve) = ((0 : Int), Ft, Fe) := by rw [EV.out, hV]; rfl
      obtain ⟨rfl, rfl, rfl⟩ : Vx = 0 ∧ Vt = Ft ∧ Ve = Fe := by simpa using EV2
      clear c0 c1 c2 c3 c4 c5 f d0
      have J6 := J5
      clear J5
      have d0 := (m_cells J6.out.2.2.1).1
      go_upto_region 10 with fail
      generalize w5.setCell ⟨w.heap.size + 1, 4, none⟩ (.int .i64 Fx) = W6 at *
      clear d0
      obtain ⟨c0, c1, c2, c3, c4, c5⟩ := m_cells J6.out.2.2.1
      obtain ⟨r0, r1, r2, r3, r4, r5⟩ := m_cells J6.out.2.1
      have fr := m_free J6.out.2.1
      have HE := hide (set6K (g := g) ⟨J6.out.1, J6.out.2.2.2⟩ hg0 J6.out.2.1 Ax Bx Cx Dx Fx 0)
      clear J6
      go_wp2
      exact chg_end HE.out.1 rfl ⟨rfl, HE.out.2⟩
  | false =>
    have EF2 : (Fx, Ft, Fe) = ((0 : Int), Dt, De) := by rw [EF.out, hF]; rfl
    obtain ⟨rfl, rfl, rfl⟩ : Fx = 0 ∧ Ft = Dt ∧ Fe = De := by simpa using EF2
    have J5 := J4
    clear J4
    go_wp2_with fail
    refine (CV.out _).mono ?_
    rintro e w5' ⟨rfl, rfl⟩
    cases hV : hasV Ax with
    | true =>
      have EV2 : Hid ((Vx, Vt, Ve) = sgn1 l Ft Fe) := by rw [EV.out, hV]; rfl
      have N6 := hide (HS.out Ft Fe _ _ _ _ _ _ _ lF J5.out)
      rw [← EV2.out] at N6
      simp only at N6
      go_wp2_with fail
      refine N6.out.mono ?_
      rintro e w6 ⟨rfl, hg6, hgr6⟩
      have I6 := J5.out.next hg0 hg6 hgr6
      clear c0 c1 c2 c3 c4 c5 f d0
      obtain ⟨c0, c1, c2, c3, c4, c5⟩ := m_cells I6.2.2.1
      have f := m_free I6.2.2.1
      have J6 := hide (I6.set hg0 5 (.int .i64 Vx) (m_set I6.2.2.1 Vx).2.2.2.2.2)
      clear J5 I6 hg6 hgr6 N6
      go_upto_region 10 with fail
      generalize w6.setCell ⟨w.heap.size + 1, 5, none⟩ (.int .i64 Vx) = W6 at *
      clear c0 c1 c2 c3 c4 c5 f
      obtain ⟨c0, c1, c2, c3, c4, c5⟩ := m_cells J6.out.2.2.1
      obtain ⟨r0, r1, r2, r3, r4, r5⟩ := m_cells J6.out.2.1
      have fr := m_free J6.out.2.1
      have HE := hide (set6K (g := g) ⟨J6.out.1, J6.out.2.2.2⟩ hg0 J6.out.2.1 Ax Bx Cx Dx 0 Vx)
      clear J6
      go_wp2
      exact chg_end HE.out.1 rfl ⟨rfl, HE.out.2⟩
    | false =>
      have EV2 : (Vx, Vt, Ve) = ((0 : Int), Ft, Fe) := by rw [EV.out, hV]; rfl
      obtain ⟨rfl, rfl, rfl⟩ : Vx = 0 ∧ Vt = Ft ∧ Ve = Fe := by simpa using EV2
      clear c0 c1 c2 c3 c4 c5 f d0
      have J6 := J5
      clear J5
      have d0 := (m_cells J6.out.2.2.1).1
      go_upto_region 10 with fail
      generalize w4.setCell ⟨w.heap.size + 1, 3, none⟩ (.int .i64 Dx) = W6 at *
      clear d0
      obtain ⟨c0, c1, c2, c3, c4, c5⟩ := m_cells J6.out.2.2.1
      obtain ⟨r0, r1, r2, r3, r4, r5⟩ := m_cells J6.out.2.1
      have fr := m_free J6.out.2.1
      have HE := hide (set6K (g := g) ⟨J6.out.1, J6.out.2.2.2⟩ hg0 J6.out.2.1 Ax Bx Cx Dx 0 0)
      clear J6
      go_wp2
      exact chg_end HE.out.1 rfl ⟨rfl, HE.out.2⟩
end Go.Proofs.YtgpfpmocdmeldaaGreat
