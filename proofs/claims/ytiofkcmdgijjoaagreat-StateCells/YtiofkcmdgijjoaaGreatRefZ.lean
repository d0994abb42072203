/- The document's state: are two rows of cells one? -/
import Derived.Test.YtiofkcmdgijjoaaGreatRefW
import Derived.Deep.QuietTactic
import Derived.BigQuiet
namespace Go.Proofs.YtiofkcmdgijjoaaGreat
open Go.RowKit Go.MapKept Go.ChangeMaps

/-- Cells that can be read. -/
def RdC (w : World) (v : Value) (cs : List Cl) : Prop := ∃ pa cap, v = .slice pa cs.length cap ∧ (0 < cs.length → ∃ b o, pa = some ⟨b, o, none⟩ ∧ ∀ i x, cs[i]? = some x → ∃ lp lc dp dc,
  w.cell? ⟨b, o + i * 7, none⟩ = some (.int .i64 x.k.g) ∧ w.cell? ⟨b, o + i * 7 + 1, none⟩ = some (.int .i64 x.k.n) ∧ w.cell? ⟨b, o + i * 7 + 2, none⟩ = some (.int .i64 x.k.i) ∧ w.cell? ⟨b, o + i * 7 + 3, none⟩ = some (.bool x.v.isSome) ∧ w.cell? ⟨b, o + i * 7 + 4, none⟩ = some (.int .i64 (x.v.getD 0)) ∧
  w.cell? ⟨b, o + i * 7 + 5, none⟩ = some (.slice lp x.l.length lc) ∧ w.cell? ⟨b, o + i * 7 + 6, none⟩ = some (.slice dp x.d.length dc) ∧ Rd w lp x.l.length lc x.l ∧ RdF w dp x.d.length dc x.d)
theorem RdC.later {w w' : World} {v : Value} {cs : List Cl} (h : RdC w v cs) (hb : Below w.heap.size w w') : RdC w' v cs := by
  obtain ⟨pa, cap, rfl, h2⟩ := h
  refine ⟨pa, cap, rfl, fun h0 => ?_⟩
  obtain ⟨b, o, rfl, h3⟩ := h2 h0
  refine ⟨b, o, rfl, fun i x hx => ?_⟩
  obtain ⟨lp, lc, dp, dc, q0, q1, q2, q3, q4, q5, q6, r1, r2⟩ := h3 i x hx
  exact ⟨lp, lc, dp, dc, same_cell hb q0, same_cell hb q1, same_cell hb q2, same_cell hb q3, same_cell hb q4, same_cell hb q5, same_cell hb q6, r1.later hb, r2.later hb⟩
theorem OwnR.rdC {w : World} {B : Nat} {v : Value} {xs : List Cr} (h : OwnR w B v xs) : RdC w v (xs.map Cr.c) := by
  rcases h.slice with ⟨rfl, rfl⟩ | ⟨g, cp, rfl, _⟩
  · exact ⟨none, 0, rfl, fun e => absurd e (by simp)⟩
  · refine ⟨_, cp, by rw [List.length_map], fun _ => ⟨g, 0, rfl, fun i x hx => ?_⟩⟩
    rw [List.getElem?_map] at hx
    obtain ⟨y, hy, rfl⟩ := Option.map_eq_some_iff.1 hx
    obtain ⟨p0, p1, p2, p3, p4, p5, p6⟩ := h.at hy
    have hok := h.all y (List.mem_of_getElem? hy)
    obtain ⟨lp, lc, e1, r1, _⟩ := RowI.slice hok.la.row
    obtain ⟨dp, dc, e2, r2⟩ := RowF.rd hok.da.row
    rw [e1] at p5
    rw [e2] at p6
    refine ⟨lp, lc, dp, dc, ?_, ?_, ?_, ?_, ?_, ?_, ?_, r1, r2⟩ <;> (rw [Nat.zero_add]; assumption)

theorem neqK (a : K3) (W : World) : (binOp .neq 28 (.agg #[.int .i64 a.g, .int .i64 a.n, .int .i64 a.i]) (.agg #[.int .i64 a.g, .int .i64 a.n, .int .i64 a.i])).run Tryz.prog W = .ok (.bool false) W := by
  simp [go_sem]
theorem neqF0 (f v : Int) (W : World) : (binOp .neq 43 (.agg #[.int .i64 f, .int .i64 v]) (.agg #[.int .i64 f, .int .i64 v])).run Tryz.prog W = .ok (.bool false) W := by
  simp [go_sem]

set_option maxRecDepth 100000 in
set_option maxHeartbeats 4000000 in
/-- Rows of the same cells. -/
theorem refEqC {w : World} {v1 v2 : Value} {cs : List Cl} (h1 : RdC w v1 cs) (h2 : RdC w v2 cs) (hn : cs.length ≤ 100000) (hs : ∀ x ∈ cs, x.l.length ≤ 1000 ∧ x.d.length ≤ 1000) :
    Calls Tryz.prog 25 #[v1, v2] w fun e w' => e = .returned (.bool true) ∧ Below w.heap.size w w' := by
  obtain ⟨a1, c1, rfl, g1⟩ := h1
  obtain ⟨a2, c2, rfl, g2⟩ := h2
  have HS := hide hs
  clear hs
  obtain ⟨N, hN⟩ : ∃ n, cs.length = n := ⟨_, rfl⟩
  rw [hN] at g1 g2 hn ⊢
  rcases Nat.eq_zero_or_pos N with rfl | hpos
  · clear g1 g2
    go_enter Tryz.func25, Tryz.ntmps25
    go_wp2
    go_loopw [5] (fun ix wr => ix = .int .i64 0 ∧ wr = w) (fun _ _ => 0)
    case atStart => exact ⟨rfl, rfl⟩
    case round =>
      obtain ⟨rfl, rfl⟩ := hrel
      go_wp2
      go_ret
      exact ⟨rfl, Below.refl _ _⟩
  · obtain ⟨b1, o1, rfl, G1⟩ := g1 hpos
    obtain ⟨b2, o2, rfl, G2⟩ := g2 hpos
    have HG1 := hide G1
    have HG2 := hide G2
    have HN := hide hN
    clear g1 g2 G1 G2 hN
    go_enter Tryz.func25, Tryz.ntmps25
    go_wp2
    go_loopg [5, 6, 7] N (fun gm ix _ _ wr => ∃ t : Nat, gm = N - t ∧ t ≤ N ∧ ix = .int .i64 t ∧ Hid (Below w.heap.size w wr))
    case atStart => exact ⟨0, rfl, by omega, rfl, Below.refl _ _⟩
    case round =>
      obtain ⟨i, rfl, hi, rfl, HB⟩ := hrel
      by_cases hil : i < N
      · obtain ⟨x, hx⟩ : ∃ x, cs[i]? = some x := ⟨_, List.getElem?_eq_getElem (by rw [HN.out]; exact hil)⟩
        obtain ⟨lp, lc, dp, dc, q0, q1, q2, q3, q4, q5, q6, r1, r2⟩ := HG1.out i x hx
        obtain ⟨lp', lc', dp', dc', y0, y1, y2, y3, y4, y5, y6, z1, z2⟩ := HG2.out i x hx
        have hsh := HS.out x (List.mem_of_getElem? hx)
        obtain ⟨xk, xv, xl, xd⟩ := x
        simp only at q0 q1 q2 q3 q4 q5 q6 y0 y1 y2 y3 y4 y5 y6 r1 r2 z1 z2 hsh
        have hk := neqK xk
        obtain ⟨ln, hln⟩ : ∃ n, xl.length = n := ⟨_, rfl⟩
        obtain ⟨dn, hdn⟩ : ∃ n, xd.length = n := ⟨_, rfl⟩
        rw [hln] at q5 y5 r1 z1 hsh
        rw [hdn] at q6 y6 r2 z2 hsh
        have HQ5 := hide q5
        have HQ6 := hide q6
        have HY5 := hide y5
        have HY6 := hide y6
        have q0 := same_cell HB.out q0
        have q1 := same_cell HB.out q1
        have q2 := same_cell HB.out q2
        have q3 := same_cell HB.out q3
        have q4 := same_cell HB.out q4
        have q5 := same_cell HB.out q5
        have q6 := same_cell HB.out q6
        have y0 := same_cell HB.out y0
        have y1 := same_cell HB.out y1
        have y2 := same_cell HB.out y2
        have y3 := same_cell HB.out y3
        have y4 := same_cell HB.out y4
        have y5 := same_cell HB.out y5
        have y6 := same_cell HB.out y6
        generalize xv.isSome = hb at *
        generalize xv.getD 0 = hv at *
        obtain ⟨hs1, hs2⟩ := hsh
        have HLN := hide hln
        have HDN := hide hdn
        clear hx hln hdn
        have HL : Hid (ln = 0 ∨ ∃ bl ol bl' ol', lp = some ⟨bl, ol, none⟩ ∧ lp' = some ⟨bl', ol', none⟩ ∧ ∀ k u, xl[k]? = some u → w.cell? ⟨bl, ol + k, none⟩ = some (.int .i64 u) ∧ w.cell? ⟨bl', ol' + k, none⟩ = some (.int .i64 u)) := by
          rcases Nat.eq_zero_or_pos ln with e | e
          · exact Or.inl e
          · obtain ⟨bl, ol, e1, e2⟩ := r1.addr e
            obtain ⟨bl', ol', e3, e4⟩ := z1.addr e
            exact Or.inr ⟨bl, ol, bl', ol', e1, e3, fun k u hu => ⟨e2 k u hu, e4 k u hu⟩⟩
        have HD : Hid (dn = 0 ∨ ∃ bd od bd' od', dp = some ⟨bd, od, none⟩ ∧ dp' = some ⟨bd', od', none⟩ ∧ ∀ k u, xd[k]? = some u → (w.cell? ⟨bd, od + k * 2, none⟩ = some (.int .i64 u.1) ∧ w.cell? ⟨bd, od + k * 2 + 1, none⟩ = some (.int .i64 u.2)) ∧ (w.cell? ⟨bd', od' + k * 2, none⟩ = some (.int .i64 u.1) ∧ w.cell? ⟨bd', od' + k * 2 + 1, none⟩ = some (.int .i64 u.2))) := by
          rcases Nat.eq_zero_or_pos dn with e | e
          · exact Or.inl e
          · obtain ⟨bd, od, e1, e2⟩ := r2.addr e
            obtain ⟨bd', od', e3, e4⟩ := z2.addr e
            exact Or.inr ⟨bd, od, bd', od', e1, e3, fun k u hu => ⟨e2 k u hu, e4 k u hu⟩⟩
        clear r1 r2 z1 z2
        have hiz : (i : Int) < (N : Int) := by omega
        have hin : (0 : Int) ≤ (i : Int) := by omega
        go_wp2_with fail
        go_quiet (fail)
        have HB := hide (below_drewN HB.out nq)
        clear q0 q1 q2 q3 q4 q5 q6 y0 y1 y2 y3 y4 y5 y6 hk
        generalize wr.drewN nq = wr at *
        go_wp2
        rcases HL.out with hl0 | ⟨bl, ol, bl', ol', rfl, rfl, el⟩ <;> rcases HD.out with hd0 | ⟨bd, od, bd', od', rfl, rfl, ed⟩
        all_goals
          clear HL HD
          go_loopg [6] ln (fun gm ix wr2 => ∃ t : Nat, gm = ln - t ∧ t ≤ ln ∧ ix = .int .i64 t ∧ Hid (Below w.heap.size w wr2))
          case atStart => exact ⟨0, rfl, by omega, rfl, HB⟩
          case round =>
            clear HB
            obtain ⟨t, rfl, ht, rfl, HB⟩ := hrel
            have q5 := same_cell HB.out HQ5.out
            have y5 := same_cell HB.out HY5.out
            by_cases htl : t < ln
            · first
                | (exfalso; omega)
                | (obtain ⟨u, hu⟩ : ∃ u, xl[t]? = some u := ⟨_, List.getElem?_eq_getElem (by rw [HLN.out]; exact htl)⟩
                   have e1 := same_cell HB.out (el t u hu).1
                   have e2 := same_cell HB.out (el t u hu).2
                   have htz : (t : Int) < (ln : Int) := by omega
                   have htn : (0 : Int) ≤ (t : Int) := by omega
                   clear hu
                   go_wp2
                   go_quiet (fail)
                   have HB2 := hide (below_drewN HB.out nq)
                   clear q5 y5 e1 e2 HB
                   go_wp2
                   go_roundg (ln - (t + 1))
                   case measure => omega
                   case rel => exact ⟨t + 1, rfl, by omega, by simp, HB2⟩)
            · have htz : ¬ (t : Int) < (ln : Int) := by omega
              go_wp2
              clear q5 y5
              go_loopg [7] dn (fun gm ix wr2 => ∃ t : Nat, gm = dn - t ∧ t ≤ dn ∧ ix = .int .i64 t ∧ Hid (Below w.heap.size w wr2))
              case atStart => exact ⟨0, rfl, by omega, rfl, HB⟩
              case round =>
                clear HB
                obtain ⟨t2, rfl, ht2, rfl, HB⟩ := hrel
                have q6 := same_cell HB.out HQ6.out
                have y6 := same_cell HB.out HY6.out
                by_cases htl2 : t2 < dn
                · first
                    | (exfalso; omega)
                    | (obtain ⟨⟨u1, u2⟩, hu⟩ : ∃ u, xd[t2]? = some u := ⟨_, List.getElem?_eq_getElem (by rw [HDN.out]; exact htl2)⟩
                       have e1 := same_cell HB.out (ed t2 _ hu).1.1
                       have e2 := same_cell HB.out (ed t2 _ hu).1.2
                       have e3 := same_cell HB.out (ed t2 _ hu).2.1
                       have e4 := same_cell HB.out (ed t2 _ hu).2.2
                       simp only at e1 e2 e3 e4
                       have hf := neqF0 u1 u2
                       have htz2 : (t2 : Int) < (dn : Int) := by omega
                       have htn2 : (0 : Int) ≤ (t2 : Int) := by omega
                       clear hu
                       go_wp2
                       go_quiet (fail)
                       have HB2 := hide (below_drewN HB.out nq)
                       clear q6 y6 e1 e2 e3 e4 HB hf
                       go_wp2
                       go_roundg (dn - (t2 + 1))
                       case measure => omega
                       case rel => exact ⟨t2 + 1, rfl, by omega, by simp, HB2⟩)
                · have htz2 : ¬ (t2 : Int) < (dn : Int) := by omega
                  go_wp2
                  clear q6 y6
                  go_roundg (N - (i + 1))
                  case measure => omega
                  case rel => exact ⟨i + 1, rfl, by omega, by simp, HB⟩
      · have hix : ¬ ((i : Nat) : Int) < (N : Int) := by omega
        go_wp2
        go_ret
        exact ⟨rfl, HB.out⟩
end Go.Proofs.YtiofkcmdgijjoaaGreat
