/- mut.Get of whatever bytes: a contract; bytes of a change, read again. -/
import Derived.Test.YtgpfpmocdmeldaaGreatMutD
namespace Go.Proofs.YtgpfpmocdmeldaaGreat
open Go.RowKit

def zM : Mt := ⟨0, 0, 0, 0, 0, 0⟩
/-- What mut.Get answers: the change, how many bytes it took, the error's number. -/
def getM (A B C D F V : Int × Nat × Int) : Mt × Nat × Int :=
  if V.2.2 ≠ 0 then (zM, 0, V.2.2) else if mayB ⟨A.1, B.1, C.1, D.1, F.1, V.1⟩ then (⟨A.1, B.1, C.1, D.1, F.1, V.1⟩, V.2.1, 0) else (zM, 0, 1)

theorem chg_all (l : List Int) : ∃ A B C D F V, Chg l A B C D F V := ⟨_, _, _, _, _, _, ⟨rfl, rfl, rfl, rfl, rfl, rfl⟩⟩

/-- How mut.Get ends. -/
theorem get_endG {WF : World} {r : Nat} {tm : Array Value} {Q : Ending → World → Prop} {k g n i f v x y : Int} (hr : WF.heap[r]? = some (mObj k g n i f v)) (h2 : tm[2]?.getD undef = .pointer (some ⟨r, 0, none⟩)) (h3 : tm[3]?.getD undef = .int .i64 x) (h4 : tm[4]?.getD undef = .int .i64 y)
    (hq : Q (.returned (.tuple #[.agg #[.int .i64 k, .int .i64 g, .int .i64 n, .int .i64 i, .int .i64 f, .int .i64 v], .int .i64 x, .int .i64 y])) WF) : bodyPost Tryz.prog Tryz.f19 Q Exit.ret { tmps := tm, defers := [] } WF := by
  obtain ⟨q0, q1, q2, q3, q4, q5⟩ := m_cells hr
  refine bodyPost_ret (v := .tuple #[.agg #[.int .i64 k, .int .i64 g, .int .i64 n, .int .i64 i, .int .i64 f, .int .i64 v], .int .i64 x, .int .i64 y]) ?_ rfl hq
  simp [results, Tryz.results19, go_sem, q0, q1, q2, q3, q4, q5, h2, h3, h4]

theorem set6N {w w2 : World} {g : Nat} {a0 a1 a2 a3 a4 a5 : Int} (hg : w.heap.size ≤ g) (hb : Below w.heap.size w w2) (h : w2.heap[g]? = some (mObj a0 a1 a2 a3 a4 a5)) (b0 b1 b2 b3 b4 b5 : Int) :
    ((((((w2.setCell ⟨g, 0, none⟩ (.int .i64 b0)).setCell ⟨g, 1, none⟩ (.int .i64 b1)).setCell ⟨g, 2, none⟩ (.int .i64 b2)).setCell ⟨g, 3, none⟩ (.int .i64 b3)).setCell ⟨g, 4, none⟩ (.int .i64 b4)).setCell ⟨g, 5, none⟩ (.int .i64 b5)).heap[g]? = some (mObj b0 b1 b2 b3 b4 b5) ∧ Below w.heap.size w ((((((w2.setCell ⟨g, 0, none⟩ (.int .i64 b0)).setCell ⟨g, 1, none⟩ (.int .i64 b1)).setCell ⟨g, 2, none⟩ (.int .i64 b2)).setCell ⟨g, 3, none⟩ (.int .i64 b3)).setCell ⟨g, 4, none⟩ (.int .i64 b4)).setCell ⟨g, 5, none⟩ (.int .i64 b5)) := by
  have hr1 := (m_set h b0).1
  have hr2 := (m_set hr1 b1).2.1
  have hr3 := (m_set hr2 b2).2.2.1
  have hr4 := (m_set hr3 b3).2.2.2.1
  have hr5 := (m_set hr4 b4).2.2.2.2.1
  have hr6 := (m_set hr5 b5).2.2.2.2.2
  refine ⟨hr6, ?_⟩
  exact (((((hb.setCell (p := ⟨g, 0, none⟩) hg _).setCell (p := ⟨g, 1, none⟩) hg _).setCell (p := ⟨g, 2, none⟩) hg _).setCell (p := ⟨g, 3, none⟩) hg _).setCell (p := ⟨g, 4, none⟩) hg _).setCell (p := ⟨g, 5, none⟩) hg _

theorem ret_M {m m' : Mt} {b c b' c' : Int} (h1 : m = m') (h2 : b = b') (h3 : c = c') : Ending.returned (.tuple #[mV m, .int .i64 b, .int .i64 c]) = .returned (.tuple #[mV m', .int .i64 b', .int .i64 c']) := by rw [h1, h2, h3]

set_option maxRecDepth 100000 in
set_option maxHeartbeats 1600000 in
theorem mutGet_any (a : Option Addr) (n cap : Nat) (l : List Int) (w : World) (h : Bs w a n cap l) (hn : n ≤ 1000000) (A B C D F V : Int × Nat × Int) (hc : Chg l A B C D F V) :
    Calls Tryz.prog 19 #[.slice a n cap] w fun e w' => e = .returned (.tuple #[mV (getM A B C D F V).1, .int .i64 (getM A B C D F V).2.1, .int .i64 (getM A B C D F V).2.2]) ∧ Below w.heap.size w w' := by
  have hb0 : Below w.heap.size w ((w.alloc (mObj 0 0 0 0 0 0)).alloc (rG a n cap 0 0)) := (below_alloc w _ _ (Nat.le_refl _)).trans (below_alloc _ _ _ (by simp))
  have hg0 : ((w.alloc (mObj 0 0 0 0 0 0)).alloc (rG a n cap 0 0)).heap[w.heap.size + 1]? = some (rG a n cap 0 0) := by
    have := heap_alloc_new (w.alloc (mObj 0 0 0 0 0 0)) (rG a n cap 0 0)
    simpa using this
  have hr0 : ((w.alloc (mObj 0 0 0 0 0 0)).alloc (rG a n cap 0 0)).heap[w.heap.size]? = some (mObj 0 0 0 0 0 0) := by
    rw [Below.heap_alloc _ _ _ (by simp)]; exact heap_alloc_new w _
  have H1 := hide (change_any (w.heap.size + 1) a n cap l A B C D F V w _ hg0 h hb0 (by omega) hn hc)
  have HB0 := hide hb0
  have HR0 := hide hr0
  have CM := hide (fun w => may_any ⟨A.1, B.1, C.1, D.1, F.1, V.1⟩ w)
  obtain ⟨T, HT⟩ : ∃ T, Hid (T = getM A B C D F V) := ⟨_, rfl⟩
  rw [← HT.out]
  have hT := HT.out
  unfold getM at hT
  clear hg0 hb0 hr0 h hc HT
  obtain ⟨Ax, At, Ae⟩ := A
  obtain ⟨Bx, Bt, Be⟩ := B
  obtain ⟨Cx, Ct, Ce⟩ := C
  obtain ⟨Dx, Dt, De⟩ := D
  obtain ⟨Fx, Ft, Fe⟩ := F
  obtain ⟨Vx, Vt, Ve⟩ := V
  simp only at *
  obtain ⟨MB, HMB⟩ : ∃ x, Hid (x = mayB ⟨Ax, Bx, Cx, Dx, Fx, Vx⟩) := ⟨_, rfl⟩
  rw [← HMB.out] at CM hT
  have HTT := hide hT
  clear hT HMB
  unfold mV at H1 CM
  simp only at H1 CM
  go_enter Tryz.func19, Tryz.ntmps19
  go_wp2_with fail
  refine H1.out.mono ?_
  rintro e w1 ⟨rfl, hg1, hgr1⟩
  have hr1 := (hgr1.block _ (lt_of_heap HR0.out) (by simp)).trans HR0.out
  have hsz : w.heap.size + 2 ≤ w1.heap.size := by have := hgr1.size; simpa using this
  have hbw : Below w.heap.size w w1 := HB0.out.trans (grown_below hgr1 (by omega) (by simp; omega))
  have HGW : Hid ((w1.alloc (mObj Ax Bx Cx Dx Fx Vx)).heap[w.heap.size + 1]? = some (rG a n cap Vt Ve)) := by show _ = _; rw [Below.heap_alloc _ _ _ (by omega)]; exact hg1
  have HRW : Hid ((w1.alloc (mObj Ax Bx Cx Dx Fx Vx)).heap[w.heap.size]? = some (mObj 0 0 0 0 0 0)) := by show _ = _; rw [Below.heap_alloc _ _ _ (by omega)]; exact hr1
  have HXW := hide (heap_alloc_new w1 (mObj Ax Bx Cx Dx Fx Vx))
  have HBW := hide (hbw.trans (below_alloc w1 (mObj Ax Bx Cx Dx Fx Vx) w.heap.size hbw.size))
  obtain ⟨gx, hgx⟩ : ∃ gx, gx = w1.heap.size := ⟨_, rfl⟩
  rw [← hgx] at HXW
  have hgx2 : w.heap.size + 2 ≤ gx := by omega
  clear hr1 hg1 hgr1 H1 HB0 HR0 hbw hsz
  go_upto_region 3 with fail
  rw [← hgx]
  unfold mObj at HGW HRW HXW HBW
  generalize w1.alloc (.cells #[.int .i64 Ax, .int .i64 Bx, .int .i64 Cx, .int .i64 Dx, .int .i64 Fx, .int .i64 Vx] 40 (0, 0)) = W1 at *
  clear hgx
  by_cases he : Ve = 0
  · subst he
    obtain ⟨c0, c1, c2, f1, f2⟩ := rG_cells HGW.out
    obtain ⟨x0, x1, x2, x3, x4, x5⟩ := m_cells HXW.out
    go_wp2_with fail
    refine (CM.out _).mono ?_
    rintro e w2 ⟨rfl, hb2⟩
    have HG2 := hide ((hb2.block _ (lt_of_heap HGW.out)).trans HGW.out)
    have HR2 := hide ((hb2.block _ (lt_of_heap HRW.out)).trans HRW.out)
    have HX2 := hide ((hb2.block _ (lt_of_heap HXW.out)).trans HXW.out)
    have HB2 := hide (HBW.out.trans (hb2.mono HBW.out.size))
    clear c0 c1 c2 f1 f2 x0 x1 x2 x3 x4 x5 hb2 HGW HRW HXW HBW
    obtain ⟨r0, r1, r2, r3, r4, r5⟩ := m_cells HR2.out
    have fr := m_free HR2.out
    cases MB with
    | true =>
      have HT2 : Hid (T = (⟨Ax, Bx, Cx, Dx, Fx, Vx⟩, Vt, 0)) := by rw [HTT.out]; rfl
      obtain ⟨c0, c1, c2, f1, f2⟩ := rG_cells HG2.out
      obtain ⟨x0, x1, x2, x3, x4, x5⟩ := m_cells HX2.out
      go_wp2
      go_region
      all_goals go_wp2
      all_goals
        have HS := set6 (Nat.le_refl _) HB2.out HR2.out Ax Bx Cx Dx Fx Vx
        exact get_endG HS.1 rfl rfl rfl ⟨by rw [HT2.out]; rfl, HS.2⟩
    | false =>
      have HT2 : Hid (T = (zM, 0, 1)) := by rw [HTT.out]; rfl
      go_wp2
      have HS := set6N (Nat.le_refl _) HB2.out HR2.out 0 0 0 0 0 0
      exact get_endG HS.1 rfl rfl rfl ⟨by rw [HT2.out]; rfl, HS.2⟩
  · have hb : (Ve != 0) = true := by simpa using he
    have HT2 : Hid (T = (zM, 0, Ve)) := by rw [HTT.out, if_pos he]; rfl
    obtain ⟨c0, c1, c2, f1, f2⟩ := rG_cells HGW.out
    obtain ⟨r0, r1, r2, r3, r4, r5⟩ := m_cells HRW.out
    have fr := m_free HRW.out
    clear he
    go_wp2
    go_region
    all_goals go_wp2
    all_goals
      have HS := set6 (Nat.le_refl _) HBW.out HRW.out 0 0 0 0 0 0
      exact get_endG HS.1 rfl rfl rfl ⟨by rw [HT2.out]; rfl, HS.2⟩

/-! ### bytes of a change, read again -/
theorem toI_small (n : Nat) (h : n < 1000) : toI n = (n : Int) := by rw [toI, if_pos (by omega)]

theorem num1_at (p q : List Int) (x : Int) (h0 : 0 ≤ x) (h1 : x < 128) : num1 (p ++ x :: q) p.length 0 = (x, p.length + 1, 0) := by
  rw [num1, if_neg (by simp), List.drop_left, M.getL_done _ _ _ _ (by omega) h1 (by omega)]
  simp only [Nat.zero_add, Nat.mul_zero, Nat.pow_zero, Nat.mul_one]
  rw [toI_small _ (by omega)]
  have : ((x.toNat : Nat) : Int) = x := by omega
  rw [this]
theorem sgn1_at (p q : List Int) (x : Int) (h0 : -9223372036854775808 ≤ x) (h1 : x ≤ 9223372036854775807) : sgn1 (p ++ (M.numB 9 (fold x) ++ q)) p.length 0 = (x, p.length + (M.numB 9 (fold x)).length, 0) := by
  rw [sgn1, if_neg (by simp), List.drop_left, getI_put x q h0 h1]

/-- Reading the bytes of a change that may be, with whatever behind them. -/
theorem getM_mutB (m : Mt) (hm : mayB m = true) (hv : vOk m) (rest : List Int) (A B C D F V : Int × Nat × Int) (hc : Chg (mutB m ++ rest) A B C D F V) : getM A B C D F V = (m, (mutB m).length, 0) := by
  obtain ⟨p1, p2, p3, p4, p5, p6, p7⟩ := may_parts hm
  have ea : A = (m.k, 1, 0) := by
    rw [hc.a]
    have := num1_at [] ([m.g] ++ [m.n] ++ [m.i] ++ (if hasF m.k then [m.f] else []) ++ (if hasV m.k then M.numB 9 (fold m.v) else []) ++ rest) m.k (by omega) (by omega)
    simpa [mutB] using this
  have eb : B = (m.g, 2, 0) := by
    rw [hc.b, ea]
    have := num1_at [m.k] ([m.n] ++ [m.i] ++ (if hasF m.k then [m.f] else []) ++ (if hasV m.k then M.numB 9 (fold m.v) else []) ++ rest) m.g (by omega) (by omega)
    simpa [mutB] using this
  have ec : C = (m.n, 3, 0) := by
    rw [hc.c, eb]
    have := num1_at [m.k, m.g] ([m.i] ++ (if hasF m.k then [m.f] else []) ++ (if hasV m.k then M.numB 9 (fold m.v) else []) ++ rest) m.n (by omega) (by omega)
    simpa [mutB] using this
  have ed : D = (m.i, 4, 0) := by
    rw [hc.d, ec]
    have := num1_at [m.k, m.g, m.n] ((if hasF m.k then [m.f] else []) ++ (if hasV m.k then M.numB 9 (fold m.v) else []) ++ rest) m.i (by omega) (by omega)
    simpa [mutB] using this
  have ef : F = (m.f, 4 + (if hasF m.k then 1 else 0), 0) := by
    rw [hc.f, ea, ed]
    cases hF : hasF m.k with
    | true =>
      have := num1_at [m.k, m.g, m.n, m.i] ((if hasV m.k then M.numB 9 (fold m.v) else []) ++ rest) m.f (by omega) (by omega)
      simpa [mutB, hF] using this
    | false => simp [p6 hF]
  have ev : V = (m.v, (mutB m).length, 0) := by
    rw [hc.v, ea, ef]
    cases hV : hasV m.k with
    | true =>
      cases hF : hasF m.k with
      | true =>
        have := sgn1_at [m.k, m.g, m.n, m.i, m.f] rest m.v hv.1 hv.2
        have el : (mutB m).length = 5 + (M.numB 9 (fold m.v)).length := by simp [mutB, hF, hV]; omega
        rw [el]
        simpa [mutB, hF, hV] using this
      | false =>
        have := sgn1_at [m.k, m.g, m.n, m.i] rest m.v hv.1 hv.2
        have el : (mutB m).length = 4 + (M.numB 9 (fold m.v)).length := by simp [mutB, hF, hV]; omega
        rw [el]
        simpa [mutB, hF, hV] using this
    | false =>
      cases hF : hasF m.k with
      | true => simp [mutB, hF, hV, p7 hV]
      | false => simp [mutB, hF, hV, p7 hV]
  rw [getM, ea, eb, ec, ed, ef, ev]
  rw [if_neg (by simp), if_pos hm]
end Go.Proofs.YtgpfpmocdmeldaaGreat
