/- The document's state: are two rows of cells one? Whatever cells. -/
import Derived.Test.YtiofkcmdgijjoaaGreatRefZ
import Derived.Deep.QuietTactic
import Derived.BigQuiet
namespace Go.Proofs.YtiofkcmdgijjoaaGreat
open Go.RowKit Go.MapKept Go.ChangeMaps

theorem neqK2 {a b : K3} (h : a ≠ b) (W : World) : (binOp .neq 28 (.agg #[.int .i64 a.g, .int .i64 a.n, .int .i64 a.i]) (.agg #[.int .i64 b.g, .int .i64 b.n, .int .i64 b.i])).run Tryz.prog W = .ok (.bool true) W := by
  have h2 : ¬ (a.g = b.g ∧ a.n = b.n ∧ a.i = b.i) := fun e => h (K3.ext' e.1 e.2.1 e.2.2)
  by_cases h0 : a.g = b.g
  · by_cases h1 : a.n = b.n
    · have h3 : ¬ a.i = b.i := fun e => h2 ⟨h0, h1, e⟩
      simp [go_sem, h3]
    · simp [go_sem, h1]
  · simp [go_sem, h0]
theorem neqF2 {f v f' v' : Int} (h : (f, v) ≠ (f', v')) (W : World) : (binOp .neq 43 (.agg #[.int .i64 f, .int .i64 v]) (.agg #[.int .i64 f', .int .i64 v'])).run Tryz.prog W = .ok (.bool true) W := by
  have h2 : ¬ (f = f' ∧ v = v') := fun e => h (by rw [e.1, e.2])
  by_cases h0 : f = f'
  · have h1 : ¬ v = v' := fun e => h2 ⟨h0, e⟩
    simp [go_sem, h1]
  · simp [go_sem, h0]
theorem optZ_eq {x y : Option Int} (h1 : x.isSome = y.isSome) (h2 : x.getD 0 = y.getD 0) : x = y := by
  cases x <;> cases y <;> simp_all
theorem rF {R : Bool} {p : Prop} (h : R = true ↔ p) (hn : ¬ p) : R = false := by cases R with | false => rfl | true => exact absurd (h.1 rfl) hn
theorem rT {R : Bool} {p : Prop} (h : R = true ↔ p) (hn : p) : R = true := h.2 hn
theorem take_eq {α : Type} {a b : List α} {k : Nat} {x : α} (h : a.take k = b.take k) (ha : a[k]? = some x) (hb : b[k]? = some x) : a.take (k + 1) = b.take (k + 1) := by
  rw [take_snoc ha, take_snoc hb, h]

set_option maxRecDepth 100000 in
set_option maxHeartbeats 16000000 in
/-- Rows of whatever cells. -/
theorem refEqR {w : World} {v1 v2 : Value} {cs1 cs2 : List Cl} (h1 : RdC w v1 cs1) (h2 : RdC w v2 cs2) (hn : cs1.length ≤ 100000) (hs : ∀ x ∈ cs1, x.l.length ≤ 1000 ∧ x.d.length ≤ 1000) (R : Bool) (HR : Hid (R = true ↔ cs1 = cs2)) :
    Calls Tryz.prog 25 #[v1, v2] w fun e w' => e = .returned (.bool R) ∧ Below w.heap.size w w' := by
  obtain ⟨a1, c1, rfl, g1⟩ := h1
  obtain ⟨a2, c2, rfl, g2⟩ := h2
  have HS := hide hs
  clear hs
  obtain ⟨N, hN⟩ : ∃ n, cs1.length = n := ⟨_, rfl⟩
  obtain ⟨M, hM⟩ : ∃ n, cs2.length = n := ⟨_, rfl⟩
  rw [hN] at g1 hn ⊢
  rw [hM] at g2 ⊢
  by_cases hNM : N = M
  case neg =>
    have hne : ((N : Int) == (M : Int)) = false := by simp; omega
    have HN : Hid (cs1 ≠ cs2) := fun e => hNM (by rw [← hN, ← hM, e])
    obtain rfl : R = false := rF HR.out HN.out
    clear g1 g2 hN hM HS
    go_enter Tryz.func25, Tryz.ntmps25
    go_wp2
    go_ret
    exact ⟨rfl, Below.refl _ _⟩
  case pos =>
    subst hNM
    rcases Nat.eq_zero_or_pos N with rfl | hpos
    · have HE : Hid (cs1 = cs2) := by
        show _ = _
        rw [List.length_eq_zero_iff.1 hN, List.length_eq_zero_iff.1 hM]
      obtain rfl : R = true := rT HR.out HE.out
      clear g1 g2 hN hM
      go_enter Tryz.func25, Tryz.ntmps25
      go_wp2
      go_loopw [5] (fun ix wr => ix = .int .i64 0 ∧ wr = w) (fun _ _ => 0)
      case atStart => exact ⟨rfl, rfl⟩
      case round =>
        obtain ⟨rfl, rfl⟩ := hrel
        go_wp2
        go_ret
        exact ⟨rfl, Below.refl _ _⟩
    · obtain ⟨b1, o1, rfl, G1⟩ := g1 hpos
      obtain ⟨b2, o2, rfl, G2⟩ := g2 hpos
      have HG1 := hide G1
      have HG2 := hide G2
      have HN1 := hide hN
      have HN2 := hide hM
      clear g1 g2 G1 G2 hN hM
      go_enter Tryz.func25, Tryz.ntmps25
      go_wp2
      go_loopg [5, 6, 7] N (fun gm ix _ _ wr => ∃ t : Nat, gm = N - t ∧ t ≤ N ∧ ix = .int .i64 t ∧ Hid (cs1.take t = cs2.take t) ∧ Hid (Below w.heap.size w wr))
      case atStart => exact ⟨0, rfl, by omega, rfl, by show _ = _; rw [List.take_zero, List.take_zero], Below.refl _ _⟩
      case round =>
        obtain ⟨i, rfl, hi, rfl, HE, HB⟩ := hrel
        by_cases hil : i < N
        · obtain ⟨x, hx⟩ : ∃ x, cs1[i]? = some x := ⟨_, List.getElem?_eq_getElem (by rw [HN1.out]; exact hil)⟩
          obtain ⟨y, hy⟩ : ∃ y, cs2[i]? = some y := ⟨_, List.getElem?_eq_getElem (by rw [HN2.out]; exact hil)⟩
          obtain ⟨lp, lc, dp, dc, q0, q1, q2, q3, q4, q5, q6, r1, r2⟩ := HG1.out i x hx
          obtain ⟨lp', lc', dp', dc', y0, y1, y2, y3, y4, y5, y6, z1, z2⟩ := HG2.out i y hy
          have hsh := HS.out x (List.mem_of_getElem? hx)
          have HX := hide hx
          have HY := hide hy
          have HNX : Hid (x ≠ y → cs1 ≠ cs2) := fun e => ne_at hx hy e
          have HEX : Hid (x = y → cs1.take (i + 1) = cs2.take (i + 1)) := fun e => take_eq HE.out hx (by rw [e]; exact hy)
          clear hx hy
          obtain ⟨xk, xv, xl, xd⟩ := x
          obtain ⟨yk, yv, yl, yd⟩ := y
          simp only at q0 q1 q2 q3 q4 q5 q6 y0 y1 y2 y3 y4 y5 y6 r1 r2 z1 z2 hsh
          obtain ⟨ln, hln⟩ : ∃ n, xl.length = n := ⟨_, rfl⟩
          obtain ⟨dn, hdn⟩ : ∃ n, xd.length = n := ⟨_, rfl⟩
          obtain ⟨ln', hln'⟩ : ∃ n, yl.length = n := ⟨_, rfl⟩
          obtain ⟨dn', hdn'⟩ : ∃ n, yd.length = n := ⟨_, rfl⟩
          rw [hln] at q5 r1 hsh
          rw [hdn] at q6 r2 hsh
          rw [hln'] at y5 z1
          rw [hdn'] at y6 z2
          have HQ5 := hide q5
          have HQ6 := hide q6
          have HY5 := hide y5
          have HY6 := hide y6
          have q0 := same_cell HB.out q0
          have q1 := same_cell HB.out q1
          have q2 := same_cell HB.out q2
          have q3 := same_cell HB.out q3
          have q4 := same_cell HB.out q4
          have q5 := same_cell HB.out q5
          have q6 := same_cell HB.out q6
          have y0 := same_cell HB.out y0
          have y1 := same_cell HB.out y1
          have y2 := same_cell HB.out y2
          have y3 := same_cell HB.out y3
          have y4 := same_cell HB.out y4
          have y5 := same_cell HB.out y5
          have y6 := same_cell HB.out y6
          have HV := hide (@optZ_eq xv yv)
          have HVN : Hid ((xv.isSome ≠ yv.isSome → xv ≠ yv) ∧ (xv.getD 0 ≠ yv.getD 0 → xv ≠ yv)) := ⟨fun h e => h (by rw [e]), fun h e => h (by rw [e])⟩
          generalize xv.isSome = hb at *
          generalize xv.getD 0 = hv at *
          generalize yv.isSome = hb' at *
          generalize yv.getD 0 = hv' at *
          obtain ⟨hs1, hs2⟩ := hsh
          have HLN := hide hln
          have HDN := hide hdn
          have HLN' := hide hln'
          have HDN' := hide hdn'
          have hiz : (i : Int) < (N : Int) := by omega
          have hin : (0 : Int) ≤ (i : Int) := by omega
          by_cases hk : xk = yk
          case neg =>
            have HN : Hid (cs1 ≠ cs2) := HNX.out (fun e => hk (congrArg Cl.k e))
            have hkk := neqK2 hk
            clear hln hdn hln' hdn' r1 r2 z1 z2 HNX HEX HV HVN
            
            obtain rfl : R = false := rF HR.out HN.out
            go_wp2_with fail
            simp only [List.append_eq, List.cons_append, List.nil_append]
            go_quiet (fail)
            have HB2 := hide (below_drewN HB.out nq)
            clear q0 q1 q2 q3 q4 q5 q6 y0 y1 y2 y3 y4 y5 y6 HB HE
            generalize wr.drewN nq = wq at *
            go_wp2
            go_ret
            exact ⟨rfl, HB2.out⟩
          case pos =>
            subst hk
            have hkk := neqK xk
            by_cases hb0 : hb = hb'
            case neg =>
              have HN : Hid (cs1 ≠ cs2) := HNX.out (fun e => HVN.out.1 hb0 (congrArg Cl.v e))
              clear hln hdn hln' hdn' r1 r2 z1 z2 HNX HEX HV HVN
              cases hb <;> cases hb' <;> first | (exact absurd rfl hb0) | skip
              all_goals
                
                obtain rfl : R = false := rF HR.out HN.out
                go_wp2_with fail
                simp only [List.append_eq, List.cons_append, List.nil_append]
                go_quiet (fail)
                have HB2 := hide (below_drewN HB.out nq)
                clear q0 q1 q2 q3 q4 q5 q6 y0 y1 y2 y3 y4 y5 y6 HB HE
                generalize wr.drewN nq = wq at *
                go_wp2
                go_ret
                exact ⟨rfl, HB2.out⟩
            case pos =>
              subst hb0
              by_cases hv0 : hv = hv'
              case neg =>
                have HN : Hid (cs1 ≠ cs2) := HNX.out (fun e => HVN.out.2 hv0 (congrArg Cl.v e))
                have hvb : (hv == hv') = false := by simp [hv0]
                have hvc : (hv != hv') = true := by simp [hv0]
                clear hln hdn hln' hdn' r1 r2 z1 z2 HNX HEX HV HVN
                
                obtain rfl : R = false := rF HR.out HN.out
                go_wp2_with fail
                simp only [List.append_eq, List.cons_append, List.nil_append]
                go_quiet (fail)
                have HB2 := hide (below_drewN HB.out nq)
                clear q0 q1 q2 q3 q4 q5 q6 y0 y1 y2 y3 y4 y5 y6 HB HE
                generalize wr.drewN nq = wq at *
                go_wp2
                go_ret
                exact ⟨rfl, HB2.out⟩
              case pos =>
                subst hv0
                by_cases hl0 : ln = ln'
                case neg =>
                  have HN : Hid (cs1 ≠ cs2) := HNX.out (fun e => hl0 (by rw [← hln, ← hln']; exact congrArg List.length (congrArg Cl.l e)))
                  have hlb : (ln == ln') = false := by simp [hl0]
                  have hlc : (ln != ln') = true := by simp [hl0]
                  have hld : ((ln : Int) != (ln' : Int)) = true := by simp; omega
                  have hle : ((ln : Int) == (ln' : Int)) = false := by simp; omega
                  clear hln hdn hln' hdn' r1 r2 z1 z2 HNX HEX HV HVN
                  
                  obtain rfl : R = false := rF HR.out HN.out
                  go_wp2_with fail
                  simp only [List.append_eq, List.cons_append, List.nil_append]
                  go_quiet (fail)
                  have HB2 := hide (below_drewN HB.out nq)
                  clear q0 q1 q2 q3 q4 q5 q6 y0 y1 y2 y3 y4 y5 y6 HB HE
                  generalize wr.drewN nq = wq at *
                  go_wp2
                  go_ret
                  exact ⟨rfl, HB2.out⟩
                case pos =>
                  subst hl0
                  by_cases hd0 : dn = dn'
                  case neg =>
                    have HN : Hid (cs1 ≠ cs2) := HNX.out (fun e => hd0 (by rw [← hdn, ← hdn']; exact congrArg List.length (congrArg Cl.d e)))
                    have hdb : (dn == dn') = false := by simp [hd0]
                    have hdc : (dn != dn') = true := by simp [hd0]
                    have hdd : ((dn : Int) != (dn' : Int)) = true := by simp; omega
                    have hde : ((dn : Int) == (dn' : Int)) = false := by simp; omega
                    clear hln hdn hln' hdn' r1 r2 z1 z2 HNX HEX HV HVN
                    
                    obtain rfl : R = false := rF HR.out HN.out
                    go_wp2_with fail
                    simp only [List.append_eq, List.cons_append, List.nil_append]
                    go_quiet (fail)
                    have HB2 := hide (below_drewN HB.out nq)
                    clear q0 q1 q2 q3 q4 q5 q6 y0 y1 y2 y3 y4 y5 y6 HB HE
                    generalize wr.drewN nq = wq at *
                    go_wp2
                    go_ret
                    exact ⟨rfl, HB2.out⟩
                  case pos =>
                    subst hd0
                    have hxv : xv = yv := by have h := HV.out; exact h rfl rfl
                    subst hxv
                    have HNL : Hid (xl ≠ yl → cs1 ≠ cs2) := fun h => HNX.out (fun e => h (congrArg Cl.l e))
                    have HND : Hid (xd ≠ yd → cs1 ≠ cs2) := fun h => HNX.out (fun e => h (congrArg Cl.d e))
                    have HEE : Hid (xl = yl → xd = yd → cs1.take (i + 1) = cs2.take (i + 1)) := fun e1 e2 => HEX.out (by rw [e1, e2])
                    clear hln hdn hln' hdn' HNX HEX HV HVN HE
                    have HL : Hid (ln = 0 ∨ ∃ bl ol bl' ol', lp = some ⟨bl, ol, none⟩ ∧ lp' = some ⟨bl', ol', none⟩ ∧ (∀ k u, xl[k]? = some u → w.cell? ⟨bl, ol + k, none⟩ = some (.int .i64 u)) ∧ ∀ k u, yl[k]? = some u → w.cell? ⟨bl', ol' + k, none⟩ = some (.int .i64 u)) := by
                      rcases Nat.eq_zero_or_pos ln with e | e
                      · exact Or.inl e
                      · obtain ⟨bl, ol, e1, e2⟩ := r1.addr e
                        obtain ⟨bl', ol', e3, e4⟩ := z1.addr e
                        exact Or.inr ⟨bl, ol, bl', ol', e1, e3, e2, e4⟩
                    have HD : Hid (dn = 0 ∨ ∃ bd od bd' od', dp = some ⟨bd, od, none⟩ ∧ dp' = some ⟨bd', od', none⟩ ∧ (∀ k u, xd[k]? = some u → w.cell? ⟨bd, od + k * 2, none⟩ = some (.int .i64 u.1) ∧ w.cell? ⟨bd, od + k * 2 + 1, none⟩ = some (.int .i64 u.2)) ∧ ∀ k u, yd[k]? = some u → w.cell? ⟨bd', od' + k * 2, none⟩ = some (.int .i64 u.1) ∧ w.cell? ⟨bd', od' + k * 2 + 1, none⟩ = some (.int .i64 u.2)) := by
                      rcases Nat.eq_zero_or_pos dn with e | e
                      · exact Or.inl e
                      · obtain ⟨bd, od, e1, e2⟩ := r2.addr e
                        obtain ⟨bd', od', e3, e4⟩ := z2.addr e
                        exact Or.inr ⟨bd, od, bd', od', e1, e3, e2, e4⟩
                    clear r1 r2 z1 z2
                    go_wp2_with fail
                    simp only [List.append_eq, List.cons_append, List.nil_append]
                    go_quiet (fail)
                    have HB := hide (below_drewN HB.out nq)
                    clear q0 q1 q2 q3 q4 q5 q6 y0 y1 y2 y3 y4 y5 y6 hkk
                    generalize wr.drewN nq = wr at *
                    go_wp2
                    rcases HL.out with hl0 | ⟨bl, ol, bl', ol', rfl, rfl, el, el'⟩ <;> rcases HD.out with hd0 | ⟨bd, od, bd', od', rfl, rfl, ed, ed'⟩
                    all_goals
                      clear HL HD
                      go_loopg [6] ln (fun gm ix wr2 => ∃ t : Nat, gm = ln - t ∧ t ≤ ln ∧ ix = .int .i64 t ∧ Hid (xl.take t = yl.take t) ∧ Hid (Below w.heap.size w wr2))
                      case atStart => exact ⟨0, rfl, by omega, rfl, by show _ = _; rw [List.take_zero, List.take_zero], HB⟩
                      case round =>
                        clear HB
                        obtain ⟨t, rfl, ht, rfl, HE2, HB⟩ := hrel
                        have q5 := same_cell HB.out HQ5.out
                        have y5 := same_cell HB.out HY5.out
                        by_cases htl : t < ln
                        · first
                            | (exfalso; omega)
                            | (obtain ⟨u, hu⟩ : ∃ u, xl[t]? = some u := ⟨_, List.getElem?_eq_getElem (by rw [HLN.out]; exact htl)⟩
                               obtain ⟨u', hu'⟩ : ∃ u, yl[t]? = some u := ⟨_, List.getElem?_eq_getElem (by rw [HLN'.out]; exact htl)⟩
                               have e1 := same_cell HB.out (el t u hu)
                               have e2 := same_cell HB.out (el' t u' hu')
                               have htz : (t : Int) < (ln : Int) := by omega
                               have htn : (0 : Int) ≤ (t : Int) := by omega
                               by_cases huu : u = u'
                               · subst huu
                                 have HE3 := hide (take_eq HE2.out hu hu')
                                 clear hu hu' HE2
                                 go_wp2
                                 go_quiet (fail)
                                 have HB2 := hide (below_drewN HB.out nq)
                                 clear q5 y5 e1 e2 HB
                                 go_wp2
                                 go_roundg (ln - (t + 1))
                                 case measure => omega
                                 case rel => exact ⟨t + 1, rfl, by omega, by simp, HE3, HB2⟩
                               · have HN := hide (HNL.out (ne_at hu hu' huu))
                                 obtain rfl : R = false := rF HR.out HN.out
                                 have hub : (u == u') = false := by simp [huu]
                                 clear hu hu' HE2
                                 go_wp2
                                 go_quiet (fail)
                                 have HB2 := hide (below_drewN HB.out nq)
                                 clear q5 y5 e1 e2 HB
                                 go_wp2
                                 go_ret
                                 exact ⟨rfl, HB2.out⟩)
                        · have htz : ¬ (t : Int) < (ln : Int) := by omega
                          have HLE : Hid (xl = yl) := by
                            have := HE2.out
                            rwa [List.take_of_length_le (by rw [HLN.out]; omega), List.take_of_length_le (by rw [HLN'.out]; omega)] at this
                          go_wp2
                          clear q5 y5
                          go_loopg [7] dn (fun gm ix wr2 => ∃ t : Nat, gm = dn - t ∧ t ≤ dn ∧ ix = .int .i64 t ∧ Hid (xd.take t = yd.take t) ∧ Hid (Below w.heap.size w wr2))
                          case atStart => exact ⟨0, rfl, by omega, rfl, by show _ = _; rw [List.take_zero, List.take_zero], HB⟩
                          case round =>
                            clear HB
                            obtain ⟨t2, rfl, ht2, rfl, HE4, HB⟩ := hrel
                            have q6 := same_cell HB.out HQ6.out
                            have y6 := same_cell HB.out HY6.out
                            by_cases htl2 : t2 < dn
                            · first
                                | (exfalso; omega)
                                | (obtain ⟨⟨u1, u2⟩, hu⟩ : ∃ u, xd[t2]? = some u := ⟨_, List.getElem?_eq_getElem (by rw [HDN.out]; exact htl2)⟩
                                   obtain ⟨⟨u1', u2'⟩, hu'⟩ : ∃ u, yd[t2]? = some u := ⟨_, List.getElem?_eq_getElem (by rw [HDN'.out]; exact htl2)⟩
                                   have e1 := same_cell HB.out (ed t2 _ hu).1
                                   have e2 := same_cell HB.out (ed t2 _ hu).2
                                   have e3 := same_cell HB.out (ed' t2 _ hu').1
                                   have e4 := same_cell HB.out (ed' t2 _ hu').2
                                   simp only at e1 e2 e3 e4
                                   have htz2 : (t2 : Int) < (dn : Int) := by omega
                                   have htn2 : (0 : Int) ≤ (t2 : Int) := by omega
                                   by_cases huu : (u1, u2) = (u1', u2')
                                   · obtain ⟨rfl, rfl⟩ : u1 = u1' ∧ u2 = u2' := by simpa using huu
                                     have hf := neqF0 u1 u2
                                     have HE5 := hide (take_eq HE4.out hu hu')
                                     clear hu hu' HE4 huu
                                     go_wp2
                                     go_quiet (fail)
                                     have HB2 := hide (below_drewN HB.out nq)
                                     clear q6 y6 e1 e2 e3 e4 HB hf
                                     go_wp2
                                     go_roundg (dn - (t2 + 1))
                                     case measure => omega
                                     case rel => exact ⟨t2 + 1, rfl, by omega, by simp, HE5, HB2⟩
                                   · have HN := hide (HND.out (ne_at hu hu' huu))
                                     obtain rfl : R = false := rF HR.out HN.out
                                     have hf := neqF2 huu
                                     clear hu hu' HE4 huu
                                     go_wp2
                                     go_quiet (fail)
                                     have HB2 := hide (below_drewN HB.out nq)
                                     clear q6 y6 e1 e2 e3 e4 HB hf
                                     go_wp2
                                     go_ret
                                     exact ⟨rfl, HB2.out⟩)
                            · have htz2 : ¬ (t2 : Int) < (dn : Int) := by omega
                              have HEF : Hid (cs1.take (i + 1) = cs2.take (i + 1)) := by
                                refine HEE.out HLE.out ?_
                                have := HE4.out
                                rwa [List.take_of_length_le (by rw [HDN.out]; omega), List.take_of_length_le (by rw [HDN'.out]; omega)] at this
                              go_wp2
                              clear q6 y6
                              go_roundg (N - (i + 1))
                              case measure => omega
                              case rel => exact ⟨i + 1, rfl, by omega, by simp, HEF, HB⟩
        · have hix : ¬ ((i : Nat) : Int) < (N : Int) := by omega
          have HF : Hid (cs1 = cs2) := by
            have := HE.out
            rwa [List.take_of_length_le (by rw [HN1.out]; omega), List.take_of_length_le (by rw [HN2.out]; omega)] at this
          obtain rfl : R = true := rT HR.out HF.out
          go_wp2
          go_ret
          exact ⟨rfl, HB.out⟩
theorem refEqC2 {w : World} {v1 v2 : Value} {cs1 cs2 : List Cl} (h1 : RdC w v1 cs1) (h2 : RdC w v2 cs2) (hn : cs1.length ≤ 100000) (hs : ∀ x ∈ cs1, x.l.length ≤ 1000 ∧ x.d.length ≤ 1000) :
    Calls Tryz.prog 25 #[v1, v2] w fun e w' => ∃ r, e = .returned (.bool r) ∧ (r = true ↔ cs1 = cs2) ∧ Below w.heap.size w w' := by
  obtain ⟨R, hR⟩ : ∃ R : Bool, (R = true ↔ cs1 = cs2) := by
    by_cases h : cs1 = cs2
    · exact ⟨true, fun _ => h, fun _ => rfl⟩
    · exact ⟨false, fun e => (by cases e), fun e => absurd e h⟩
  refine (refEqR h1 h2 hn hs R hR).mono ?_
  rintro e w' ⟨r1, r2⟩
  exact ⟨_, r1, hR, r2⟩
end Go.Proofs.YtiofkcmdgijjoaaGreat
