/- Cells that come in: which may be, by the document. -/
import Derived.Test.YtiofkcmdgijjoaaGreatLdM
import Derived.Deep.CutRange
namespace Go.Proofs.YtiofkcmdgijjoaaGreat
open Go.RowKit Go.MapKept Go.ChangeMaps Go.Lib Go.Sort

set_option maxRecDepth 100000 in
set_option maxHeartbeats 16000000 in
theorem refMayCells (v : Value) (cs : List Cw) (w : World) (h : RdW w v cs) (hn : cs.length ≤ 100000) (R : Bool) (hR : Hid (R = true ↔ CsT cs cs.length)) :
    Calls Tryz.prog 29 #[v] w fun e w' => e = .returned (.bool R) ∧ Below w.heap.size w w' := by
  obtain ⟨pa, cp, rfl, hc⟩ := h
  have HC := hide hc
  clear hc
  obtain ⟨N, hN⟩ : ∃ N, cs.length = N := ⟨_, rfl⟩
  rw [hN] at HC hn hR ⊢
  have HN := hide hN
  clear hN
  go_enter Tryz.func29, Tryz.ntmps29
  go_wp2
  go_loopg [3] N (fun gm ix wr => ∃ t : Nat, gm = N - t ∧ t ≤ N ∧ ix = .int .i64 t ∧ Hid (CsT cs t) ∧ Hid (Below w.heap.size w wr))
  case atStart => exact ⟨0, rfl, by omega, rfl, csT_0 cs, Below.refl _ _⟩
  case round =>
    obtain ⟨t, rfl, ht, rfl, HT, HB⟩ := hrel
    by_cases htn : t < N
    · obtain ⟨b, o, rfl, hc⟩ := HC.out (by omega)
      obtain ⟨c, hct⟩ : ∃ c, cs[t]? = some c := ⟨_, List.getElem?_eq_getElem (by rw [HN.out]; exact htn)⟩
      obtain ⟨lp, lc, dp, dc, hA⟩ := hc t c hct
      have hA2 := hA.later HB.out
      obtain ⟨q0, q1, q2, q3, q4, q5, q6, rl, rd⟩ := hA2
      have HRD := hide hA.rd
      have HPV : Hid (∀ j, t = j + 1 → ∃ q, cs[j]? = some q ∧ ∀ W, Below w.heap.size w W → W.cell? ⟨b, o + j * 7, none⟩ = some (.int .i64 q.k.g) ∧ W.cell? ⟨b, o + j * 7 + 1, none⟩ = some (.int .i64 q.k.n) ∧ W.cell? ⟨b, o + j * 7 + 2, none⟩ = some (.int .i64 q.k.i)) := fun j e => by
        obtain ⟨q, hq⟩ : ∃ q, cs[j]? = some q := ⟨_, List.getElem?_eq_getElem (by rw [HN.out]; omega)⟩
        obtain ⟨_, _, _, _, hq7⟩ := hc j q hq
        exact ⟨q, hq, fun W hW => ⟨(hq7.later hW).c0, (hq7.later hW).c1, (hq7.later hW).c2⟩⟩
      have HCT := hide hct
      have HCO : Hid (CelOK c ↔ (keyB c.k.g c.k.n c.k.i = true ∧ (c.h = true ∨ 0 < c.l.length ∨ 0 < c.d.length) ∧ (c.h = true ∨ c.v = 0) ∧ c.l.length ≤ 100 ∧ FldT c.d c.d.length)) := Iff.rfl
      clear hc hct hA rl rd
      generalize hcc : c = c0 at HCT
      obtain ⟨⟨⟨cg, cn, ci⟩, kw⟩, ch, cv, cl, cd⟩ := c
      obtain ⟨ln, hln⟩ : ∃ n, cl.length = n := ⟨_, rfl⟩
      obtain ⟨dn, hdn⟩ : ∃ n, cd.length = n := ⟨_, rfl⟩
      simp only [hln, hdn] at q0 q1 q2 q3 q4 q5 q6 HRD HCO
      have HDN := hide hdn
      have HCC : Hid (CelOK c0 ↔ (keyB cg cn ci = true ∧ (ch = true ∨ 0 < ln ∨ 0 < dn) ∧ (ch = true ∨ cv = 0) ∧ ln ≤ 100 ∧ FldT cd dn)) := by
        rw [← hcc]
        exact HCO.out
      have hck : c0.k = ⟨(cg, cn, ci), kw⟩ := by rw [← hcc]
      clear hln hdn HCO hcc
      have hbb := below_alloc wr (.cells #[.int .i64 cg, .int .i64 cn, .int .i64 ci, .bool ch, .int .i64 cv, .slice lp ln lc, .slice dp dn dc] 73) wr.heap.size (Nat.le_refl _)
      have HBX := hide (heap_alloc_new wr (.cells #[.int .i64 cg, .int .i64 cn, .int .i64 ci, .bool ch, .int .i64 cv, .slice lp ln lc, .slice dp dn dc] 73))
      have HB1 := hide (HB.out.trans (hbb.mono HB.out.size))
      clear hbb HB
      obtain ⟨BB, hBB⟩ := bool_of (¬ (keyB cg cn ci = true ∧ (∀ j q, t = j + 1 → cs[j]? = some q → k3Less q.k c0.k = true) ∧ (ch = true ∨ 0 < ln ∨ 0 < dn) ∧ (ch = true ∨ cv = 0) ∧ ln ≤ 100))
      have HBBH := hide hBB
      have htz : (t : Int) < (N : Int) := by omega
      go_upto_region 5 with fail
      clear q0 q1 q2 q3 q4 q5 q6
      obtain ⟨bx, hbx⟩ : ∃ bx, wr.heap.size = bx := ⟨_, rfl⟩
      try rw [hbx]
      rw [hbx] at HBX
      generalize wr.alloc (.cells #[.int .i64 cg, .int .i64 cn, .int .i64 ci, .bool ch, .int .i64 cv, .slice lp ln lc, .slice dp dn dc] 73) = WA at *
      clear hbx
      have HWA : Hid (∀ WX, Below WA.heap.size WA WX → Below w.heap.size w WX ∧ WX.heap[bx]? = some (.cells #[.int .i64 cg, .int .i64 cn, .int .i64 ci, .bool ch, .int .i64 cv, .slice lp ln lc, .slice dp dn dc] 73 (0, 0))) := fun WX hW => ⟨HB1.out.trans (hW.mono HB1.out.size), boxed_old HBX.out hW⟩
      go_cut [63] from 16 to 63 (fun c wx => c = .bool BB ∧ Hid (Below w.heap.size w wx ∧ wx.heap[bx]? = some (.cells #[.int .i64 cg, .int .i64 cn, .int .i64 ci, .bool ch, .int .i64 cv, .slice lp ln lc, .slice dp dn dc] 73 (0, 0))))
      case first =>
        clear HBBH
        obtain ⟨n0, n1, n2, n3, n4, n5, n6⟩ := cells_seven HBX.out
        have z0 := cell_regrown n0
        have z1 := cell_regrown n1
        have z2 := cell_regrown n2
        have z3 := cell_regrown n3
        have z4 := cell_regrown n4
        have z5 := cell_regrown n5
        have z6 := cell_regrown n6
        clear n0 n1 n2 n3 n4 n5 n6
        obtain ⟨KB, hKB⟩ : ∃ K, keyB cg cn ci = K := ⟨_, rfl⟩
        have QK : Hid (∀ (d : Nat) (os : Array Obj), Calls Tryz.prog 57 #[.agg #[.int .i64 cg, .int .i64 cn, .int .i64 ci]] (grow (redrawn WA d) os) fun e w' => e = .returned (.bool KB) ∧ ∃ p : Regrown, w' = grow (redrawn WA p.d) p.os) := fun d os => by
          rw [← hKB]
          exact Calls.regrown_of (refKey_any cg cn ci _)
        cases KB with
        | false =>
          obtain rfl : BB = true := hBB.2 (fun e => by rw [hKB] at e; cases e.1)
          clear hBB
          clear HPV HT HCT HB1 HCC HRD hKB
          refine wp_region_quiet_below (by kernel_rfl) (by kernel_rfl) ?_
          repeat (go_big_quiet_step (((go_at_call 57; exact QK.out _ _))))
          refine wpQuiet_nil ?_
          intro _ hw'
          obtain ⟨⟨dq, osq⟩, hw''⟩ := hw'
          subst hw''
          have HF := hide (HWA.out _ (below_regrown WA dq osq))
          clear z0 z1 z2 z3 z4 z5 z6 HWA
          generalize grow (redrawn WA dq) osq = WX at *
          go_wp2
          go_meet
          case rel => exact ⟨rfl, HF⟩
        | true =>
          have hKB2 : keyB cg cn ci = true := hKB
          rcases Nat.eq_zero_or_pos t with h0 | hpos
          · have hORD : ∀ j q, t = j + 1 → cs[j]? = some q → k3Less q.k c0.k = true := fun j q e _ => by omega
            have i1 : decide ((t : Int) > 0) = false := decide_eq_false (by omega)
            have i2 : ¬ (0 : Int) < (t : Int) := by omega
            have i3 : decide ((0 : Int) < (t : Int)) = false := decide_eq_false i2
            have i4 : ¬ 0 < t := by omega
            have i5 : decide (0 < t) = false := decide_eq_false i4
            clear h0 HPV HT HCT HB1 HCC HRD hKB
            cases ch with
            | true =>
              by_cases hl : ln ≤ 100
              · have g1 : decide ((ln : Int) > 100) = false := decide_eq_false (by omega)
                have g2 : decide ((100 : Int) < (ln : Int)) = false := decide_eq_false (by omega)
                have g3 : ¬ (100 : Int) < (ln : Int) := by omega
                have g4 : ¬ 100 < ln := by omega
                have g5 : decide (100 < ln) = false := decide_eq_false g4
                obtain rfl : BB = false := mayF hBB (fun e => e ⟨hKB2, hORD, Or.inl rfl, Or.inl rfl, hl⟩)
                clear hBB
                refine wp_region_quiet_below (by kernel_rfl) (by kernel_rfl) ?_
                repeat (go_big_quiet_step (((go_at_call 57; exact QK.out _ _))))
                refine wpQuiet_nil ?_
                intro _ hw'
                obtain ⟨⟨dq, osq⟩, hw''⟩ := hw'
                subst hw''
                have HF := hide (HWA.out _ (below_regrown WA dq osq))
                clear z0 z1 z2 z3 z4 z5 z6 HWA
                generalize grow (redrawn WA dq) osq = WX at *
                go_wp2
                go_meet
                case rel => exact ⟨rfl, HF⟩
              · have g1 : decide ((ln : Int) > 100) = true := decide_eq_true (by omega)
                have g2 : decide ((100 : Int) < (ln : Int)) = true := decide_eq_true (by omega)
                have g3 : (100 : Int) < (ln : Int) := by omega
                have g4 : 100 < ln := by omega
                have g5 : decide (100 < ln) = true := decide_eq_true g4
                obtain rfl : BB = true := hBB.2 (fun e => hl e.2.2.2.2)
                clear hBB
                refine wp_region_quiet_below (by kernel_rfl) (by kernel_rfl) ?_
                repeat (go_big_quiet_step (((go_at_call 57; exact QK.out _ _))))
                refine wpQuiet_nil ?_
                intro _ hw'
                obtain ⟨⟨dq, osq⟩, hw''⟩ := hw'
                subst hw''
                have HF := hide (HWA.out _ (below_regrown WA dq osq))
                clear z0 z1 z2 z3 z4 z5 z6 HWA
                generalize grow (redrawn WA dq) osq = WX at *
                go_wp2
                go_meet
                case rel => exact ⟨rfl, HF⟩
            | false =>
              by_cases hv : cv = 0
              · have v1 : (cv != 0) = false := bne_eq_false_iff_eq.2 hv
                have v2 : (cv == 0) = true := beq_iff_eq.2 hv
                by_cases hl0 : ln = 0
                · have l1 : ((ln : Int) == 0) = true := beq_iff_eq.2 (by omega)
                  have l2 : (ln == 0) = true := beq_iff_eq.2 hl0
                  have g1 : decide ((ln : Int) > 100) = false := decide_eq_false (by omega)
                  have g2 : decide ((100 : Int) < (ln : Int)) = false := decide_eq_false (by omega)
                  have g3 : ¬ (100 : Int) < (ln : Int) := by omega
                  have g4 : ¬ 100 < ln := by omega
                  have g5 : decide (100 < ln) = false := decide_eq_false g4
                  by_cases hd0 : dn = 0
                  · have d1 : ((dn : Int) == 0) = true := beq_iff_eq.2 (by omega)
                    have d2 : (dn == 0) = true := beq_iff_eq.2 hd0
                    obtain rfl : BB = true := hBB.2 (fun e => by rcases e.2.2.1 with e | e | e; exact absurd e (by decide); omega; omega)
                    clear hBB
                    clear hv hl0 hd0
                    refine wp_region_quiet_below (by kernel_rfl) (by kernel_rfl) ?_
                    repeat (go_big_quiet_step (((go_at_call 57; exact QK.out _ _))))
                    refine wpQuiet_nil ?_
                    intro _ hw'
                    obtain ⟨⟨dq, osq⟩, hw''⟩ := hw'
                    subst hw''
                    have HF := hide (HWA.out _ (below_regrown WA dq osq))
                    clear z0 z1 z2 z3 z4 z5 z6 HWA
                    generalize grow (redrawn WA dq) osq = WX at *
                    go_wp2
                    go_meet
                    case rel => exact ⟨rfl, HF⟩
                  · have d1 : ((dn : Int) == 0) = false := beq_eq_false_iff_ne.2 (by omega)
                    have d2 : (dn == 0) = false := beq_eq_false_iff_ne.2 hd0
                    obtain rfl : BB = false := mayF hBB (fun e => e ⟨hKB2, hORD, Or.inr (Or.inr (by omega)), Or.inr hv, by omega⟩)
                    clear hBB
                    clear hv hl0
                    refine wp_region_quiet_below (by kernel_rfl) (by kernel_rfl) ?_
                    repeat (go_big_quiet_step (((go_at_call 57; exact QK.out _ _))))
                    refine wpQuiet_nil ?_
                    intro _ hw'
                    obtain ⟨⟨dq, osq⟩, hw''⟩ := hw'
                    subst hw''
                    have HF := hide (HWA.out _ (below_regrown WA dq osq))
                    clear z0 z1 z2 z3 z4 z5 z6 HWA
                    generalize grow (redrawn WA dq) osq = WX at *
                    go_wp2
                    go_meet
                    case rel => exact ⟨rfl, HF⟩
                · have l1 : ((ln : Int) == 0) = false := beq_eq_false_iff_ne.2 (by omega)
                  have l2 : (ln == 0) = false := beq_eq_false_iff_ne.2 hl0
                  by_cases hl : ln ≤ 100
                  · have g1 : decide ((ln : Int) > 100) = false := decide_eq_false (by omega)
                    have g2 : decide ((100 : Int) < (ln : Int)) = false := decide_eq_false (by omega)
                    have g3 : ¬ (100 : Int) < (ln : Int) := by omega
                    have g4 : ¬ 100 < ln := by omega
                    have g5 : decide (100 < ln) = false := decide_eq_false g4
                    obtain rfl : BB = false := mayF hBB (fun e => e ⟨hKB2, hORD, Or.inr (Or.inl (by omega)), Or.inr hv, hl⟩)
                    clear hBB
                    clear hv
                    refine wp_region_quiet_below (by kernel_rfl) (by kernel_rfl) ?_
                    repeat (go_big_quiet_step (((go_at_call 57; exact QK.out _ _))))
                    refine wpQuiet_nil ?_
                    intro _ hw'
                    obtain ⟨⟨dq, osq⟩, hw''⟩ := hw'
                    subst hw''
                    have HF := hide (HWA.out _ (below_regrown WA dq osq))
                    clear z0 z1 z2 z3 z4 z5 z6 HWA
                    generalize grow (redrawn WA dq) osq = WX at *
                    go_wp2
                    go_meet
                    case rel => exact ⟨rfl, HF⟩
                  · have g1 : decide ((ln : Int) > 100) = true := decide_eq_true (by omega)
                    have g2 : decide ((100 : Int) < (ln : Int)) = true := decide_eq_true (by omega)
                    have g3 : (100 : Int) < (ln : Int) := by omega
                    have g4 : 100 < ln := by omega
                    have g5 : decide (100 < ln) = true := decide_eq_true g4
                    obtain rfl : BB = true := hBB.2 (fun e => hl e.2.2.2.2)
                    clear hBB
                    clear hv
                    refine wp_region_quiet_below (by kernel_rfl) (by kernel_rfl) ?_
                    repeat (go_big_quiet_step (((go_at_call 57; exact QK.out _ _))))
                    refine wpQuiet_nil ?_
                    intro _ hw'
                    obtain ⟨⟨dq, osq⟩, hw''⟩ := hw'
                    subst hw''
                    have HF := hide (HWA.out _ (below_regrown WA dq osq))
                    clear z0 z1 z2 z3 z4 z5 z6 HWA
                    generalize grow (redrawn WA dq) osq = WX at *
                    go_wp2
                    go_meet
                    case rel => exact ⟨rfl, HF⟩
              · have v1 : (cv != 0) = true := bne_iff_ne.2 hv
                have v2 : (cv == 0) = false := beq_eq_false_iff_ne.2 hv
                obtain rfl : BB = true := hBB.2 (fun e => by rcases e.2.2.2.1 with e | e; exact absurd e (by decide); exact hv e)
                clear hBB
                refine wp_region_quiet_below (by kernel_rfl) (by kernel_rfl) ?_
                repeat (go_big_quiet_step (((go_at_call 57; exact QK.out _ _))))
                refine wpQuiet_nil ?_
                intro _ hw'
                obtain ⟨⟨dq, osq⟩, hw''⟩ := hw'
                subst hw''
                have HF := hide (HWA.out _ (below_regrown WA dq osq))
                clear z0 z1 z2 z3 z4 z5 z6 HWA
                generalize grow (redrawn WA dq) osq = WX at *
                go_wp2
                go_meet
                case rel => exact ⟨rfl, HF⟩
          · obtain ⟨j, rfl⟩ : ∃ j, t = j + 1 := ⟨t - 1, by omega⟩
            obtain ⟨⟨⟨⟨qg, qn, qi⟩, qw⟩, qh, qv, ql, qd⟩, hq, hqc⟩ := HPV.out j rfl
            obtain ⟨k0, k1, k2⟩ := hqc _ HB1.out
            have y0 := cell_regrown k0
            have y1 := cell_regrown k1
            have y2 := cell_regrown k2
            obtain ⟨LB, hLB⟩ : ∃ B, lessK (qg, qn, qi) (cg, cn, ci) = B := ⟨_, rfl⟩
            have QL : Hid (∀ (d : Nat) (os : Array Obj), Calls Tryz.prog 33 #[.agg #[.int .i64 qg, .int .i64 qn, .int .i64 qi], .agg #[.int .i64 cg, .int .i64 cn, .int .i64 ci]] (grow (redrawn WA d) os) fun e w' => e = .returned (.bool LB) ∧ ∃ p : Regrown, w' = grow (redrawn WA p.d) p.os) := fun d os => by
              rw [← hLB]
              exact Calls.regrown_of (refLess_any (qg, qn, qi) (cg, cn, ci) _)
            have hjz : (j : Int) < (N : Int) := by omega
            have hj0 : (0 : Int) ≤ (j : Int) := by omega
            have hsub : ((j + 1 : Nat) : Int) - 1 = (j : Int) := by omega
            have i1 : decide (((j + 1 : Nat) : Int) > 0) = true := decide_eq_true (by omega)
            have hLQ : ∀ j' q', j + 1 = j' + 1 → cs[j']? = some q' → k3Less q'.k c0.k = LB := fun j' q' e e' => by
              have : j' = j := by omega
              subst this
              rw [hq] at e'
              cases e'
              rw [hck]
              exact hLB
            clear k0 k1 k2 HT HCT HB1 HCC HRD hLB hqc HPV hKB
            cases LB with
            | false =>
              obtain rfl : BB = true := hBB.2 (fun e => by have h1 := e.2.1 j _ rfl hq; rw [hLQ j _ rfl hq] at h1; cases h1)
              clear hBB
              clear hLQ hq
              refine wp_region_quiet_below (by kernel_rfl) (by kernel_rfl) ?_
              repeat (go_big_quiet_step ((first | (go_at_call 57; exact QK.out _ _) | (go_at_call 33; exact QL.out _ _))))
              refine wpQuiet_nil ?_
              intro _ hw'
              obtain ⟨⟨dq, osq⟩, hw''⟩ := hw'
              subst hw''
              have HF := hide (HWA.out _ (below_regrown WA dq osq))
              clear z0 z1 z2 z3 z4 z5 z6 HWA
              generalize grow (redrawn WA dq) osq = WX at *
              go_wp2
              go_meet
              case rel => exact ⟨rfl, HF⟩
            | true =>
              have hORD : ∀ j' q', j + 1 = j' + 1 → cs[j']? = some q' → k3Less q'.k c0.k = true := hLQ
              clear hLQ hq
              cases ch with
              | true =>
                by_cases hl : ln ≤ 100
                · have g1 : decide ((ln : Int) > 100) = false := decide_eq_false (by omega)
                  have g2 : decide ((100 : Int) < (ln : Int)) = false := decide_eq_false (by omega)
                  have g3 : ¬ (100 : Int) < (ln : Int) := by omega
                  have g4 : ¬ 100 < ln := by omega
                  have g5 : decide (100 < ln) = false := decide_eq_false g4
                  obtain rfl : BB = false := mayF hBB (fun e => e ⟨hKB2, hORD, Or.inl rfl, Or.inl rfl, hl⟩)
                  clear hBB
                  refine wp_region_quiet_below (by kernel_rfl) (by kernel_rfl) ?_
                  repeat (go_big_quiet_step ((first | (go_at_call 57; exact QK.out _ _) | (go_at_call 33; exact QL.out _ _))))
                  refine wpQuiet_nil ?_
                  intro _ hw'
                  obtain ⟨⟨dq, osq⟩, hw''⟩ := hw'
                  subst hw''
                  have HF := hide (HWA.out _ (below_regrown WA dq osq))
                  clear z0 z1 z2 z3 z4 z5 z6 HWA
                  generalize grow (redrawn WA dq) osq = WX at *
                  go_wp2
                  go_meet
                  case rel => exact ⟨rfl, HF⟩
                · have g1 : decide ((ln : Int) > 100) = true := decide_eq_true (by omega)
                  have g2 : decide ((100 : Int) < (ln : Int)) = true := decide_eq_true (by omega)
                  have g3 : (100 : Int) < (ln : Int) := by omega
                  have g4 : 100 < ln := by omega
                  have g5 : decide (100 < ln) = true := decide_eq_true g4
                  obtain rfl : BB = true := hBB.2 (fun e => hl e.2.2.2.2)
                  clear hBB
                  refine wp_region_quiet_below (by kernel_rfl) (by kernel_rfl) ?_
                  repeat (go_big_quiet_step ((first | (go_at_call 57; exact QK.out _ _) | (go_at_call 33; exact QL.out _ _))))
                  refine wpQuiet_nil ?_
                  intro _ hw'
                  obtain ⟨⟨dq, osq⟩, hw''⟩ := hw'
                  subst hw''
                  have HF := hide (HWA.out _ (below_regrown WA dq osq))
                  clear z0 z1 z2 z3 z4 z5 z6 HWA
                  generalize grow (redrawn WA dq) osq = WX at *
                  go_wp2
                  go_meet
                  case rel => exact ⟨rfl, HF⟩
              | false =>
                by_cases hv : cv = 0
                · have v1 : (cv != 0) = false := bne_eq_false_iff_eq.2 hv
                  have v2 : (cv == 0) = true := beq_iff_eq.2 hv
                  by_cases hl0 : ln = 0
                  · have l1 : ((ln : Int) == 0) = true := beq_iff_eq.2 (by omega)
                    have l2 : (ln == 0) = true := beq_iff_eq.2 hl0
                    have g1 : decide ((ln : Int) > 100) = false := decide_eq_false (by omega)
                    have g2 : decide ((100 : Int) < (ln : Int)) = false := decide_eq_false (by omega)
                    have g3 : ¬ (100 : Int) < (ln : Int) := by omega
                    have g4 : ¬ 100 < ln := by omega
                    have g5 : decide (100 < ln) = false := decide_eq_false g4
                    by_cases hd0 : dn = 0
                    · have d1 : ((dn : Int) == 0) = true := beq_iff_eq.2 (by omega)
                      have d2 : (dn == 0) = true := beq_iff_eq.2 hd0
                      obtain rfl : BB = true := hBB.2 (fun e => by rcases e.2.2.1 with e | e | e; exact absurd e (by decide); omega; omega)
                      clear hBB
                      clear hv hl0 hd0
                      refine wp_region_quiet_below (by kernel_rfl) (by kernel_rfl) ?_
                      repeat (go_big_quiet_step ((first | (go_at_call 57; exact QK.out _ _) | (go_at_call 33; exact QL.out _ _))))
                      refine wpQuiet_nil ?_
                      intro _ hw'
                      obtain ⟨⟨dq, osq⟩, hw''⟩ := hw'
                      subst hw''
                      have HF := hide (HWA.out _ (below_regrown WA dq osq))
                      clear z0 z1 z2 z3 z4 z5 z6 HWA
                      generalize grow (redrawn WA dq) osq = WX at *
                      go_wp2
                      go_meet
                      case rel => exact ⟨rfl, HF⟩
                    · have d1 : ((dn : Int) == 0) = false := beq_eq_false_iff_ne.2 (by omega)
                      have d2 : (dn == 0) = false := beq_eq_false_iff_ne.2 hd0
                      obtain rfl : BB = false := mayF hBB (fun e => e ⟨hKB2, hORD, Or.inr (Or.inr (by omega)), Or.inr hv, by omega⟩)
                      clear hBB
                      clear hv hl0
                      refine wp_region_quiet_below (by kernel_rfl) (by kernel_rfl) ?_
                      repeat (go_big_quiet_step ((first | (go_at_call 57; exact QK.out _ _) | (go_at_call 33; exact QL.out _ _))))
                      refine wpQuiet_nil ?_
                      intro _ hw'
                      obtain ⟨⟨dq, osq⟩, hw''⟩ := hw'
                      subst hw''
                      have HF := hide (HWA.out _ (below_regrown WA dq osq))
                      clear z0 z1 z2 z3 z4 z5 z6 HWA
                      generalize grow (redrawn WA dq) osq = WX at *
                      go_wp2
                      go_meet
                      case rel => exact ⟨rfl, HF⟩
                  · have l1 : ((ln : Int) == 0) = false := beq_eq_false_iff_ne.2 (by omega)
                    have l2 : (ln == 0) = false := beq_eq_false_iff_ne.2 hl0
                    by_cases hl : ln ≤ 100
                    · have g1 : decide ((ln : Int) > 100) = false := decide_eq_false (by omega)
                      have g2 : decide ((100 : Int) < (ln : Int)) = false := decide_eq_false (by omega)
                      have g3 : ¬ (100 : Int) < (ln : Int) := by omega
                      have g4 : ¬ 100 < ln := by omega
                      have g5 : decide (100 < ln) = false := decide_eq_false g4
                      obtain rfl : BB = false := mayF hBB (fun e => e ⟨hKB2, hORD, Or.inr (Or.inl (by omega)), Or.inr hv, hl⟩)
                      clear hBB
                      clear hv
                      refine wp_region_quiet_below (by kernel_rfl) (by kernel_rfl) ?_
                      repeat (go_big_quiet_step ((first | (go_at_call 57; exact QK.out _ _) | (go_at_call 33; exact QL.out _ _))))
                      refine wpQuiet_nil ?_
                      intro _ hw'
                      obtain ⟨⟨dq, osq⟩, hw''⟩ := hw'
                      subst hw''
                      have HF := hide (HWA.out _ (below_regrown WA dq osq))
                      clear z0 z1 z2 z3 z4 z5 z6 HWA
                      generalize grow (redrawn WA dq) osq = WX at *
                      go_wp2
                      go_meet
                      case rel => exact ⟨rfl, HF⟩
                    · have g1 : decide ((ln : Int) > 100) = true := decide_eq_true (by omega)
                      have g2 : decide ((100 : Int) < (ln : Int)) = true := decide_eq_true (by omega)
                      have g3 : (100 : Int) < (ln : Int) := by omega
                      have g4 : 100 < ln := by omega
                      have g5 : decide (100 < ln) = true := decide_eq_true g4
                      obtain rfl : BB = true := hBB.2 (fun e => hl e.2.2.2.2)
                      clear hBB
                      clear hv
                      refine wp_region_quiet_below (by kernel_rfl) (by kernel_rfl) ?_
                      repeat (go_big_quiet_step ((first | (go_at_call 57; exact QK.out _ _) | (go_at_call 33; exact QL.out _ _))))
                      refine wpQuiet_nil ?_
                      intro _ hw'
                      obtain ⟨⟨dq, osq⟩, hw''⟩ := hw'
                      subst hw''
                      have HF := hide (HWA.out _ (below_regrown WA dq osq))
                      clear z0 z1 z2 z3 z4 z5 z6 HWA
                      generalize grow (redrawn WA dq) osq = WX at *
                      go_wp2
                      go_meet
                      case rel => exact ⟨rfl, HF⟩
                · have v1 : (cv != 0) = true := bne_iff_ne.2 hv
                  have v2 : (cv == 0) = false := beq_eq_false_iff_ne.2 hv
                  obtain rfl : BB = true := hBB.2 (fun e => by rcases e.2.2.2.1 with e | e; exact absurd e (by decide); exact hv e)
                  clear hBB
                  refine wp_region_quiet_below (by kernel_rfl) (by kernel_rfl) ?_
                  repeat (go_big_quiet_step ((first | (go_at_call 57; exact QK.out _ _) | (go_at_call 33; exact QL.out _ _))))
                  refine wpQuiet_nil ?_
                  intro _ hw'
                  obtain ⟨⟨dq, osq⟩, hw''⟩ := hw'
                  subst hw''
                  have HF := hide (HWA.out _ (below_regrown WA dq osq))
                  clear z0 z1 z2 z3 z4 z5 z6 HWA
                  generalize grow (redrawn WA dq) osq = WX at *
                  go_wp2
                  go_meet
                  case rel => exact ⟨rfl, HF⟩
      case rest =>
        obtain ⟨rfl, HF⟩ := hcut
        clear hBB HWA HBX HB1
        have HB1 := hide HF.out.1
        have HBX := hide HF.out.2
        clear HF
        cases BB with
        | true =>
          obtain rfl : R = false := mayF hR.out (by
            rw [← HN.out]
            intro e
            have h1 := e t c0 (by rw [HN.out]; exact htn) HCT.out
            have h2 := HCC.out.1 h1.1
            exact (HBBH.out.1 (by trivial)) ⟨h2.1, h1.2, h2.2.1, h2.2.2.1, h2.2.2.2.1⟩)
          clear HBBH HCC HT HPV HCT HRD
          go_wp2
          go_ret
          exact ⟨rfl, HB1.out⟩
        | false =>
          have hGood : (keyB cg cn ci = true ∧ (∀ j q, t = j + 1 → cs[j]? = some q → k3Less q.k c0.k = true) ∧ (ch = true ∨ 0 < ln ∨ 0 < dn) ∧ (ch = true ∨ cv = 0) ∧ ln ≤ 100) := Classical.byContradiction fun e => by
            have := HBBH.out.2 e
            cases this
          have HG := hide hGood
          clear hGood HBBH HPV
          go_wp2
          go_loopg [5] 9 (fun gm ix wx => ∃ k : Nat, gm = 9 - k ∧ k ≤ dn ∧ k ≤ 8 ∧ ix = .int .i64 k ∧ Hid (FldT cd k) ∧ Hid (Below w.heap.size w wx ∧ wx.heap[bx]? = some (.cells #[.int .i64 cg, .int .i64 cn, .int .i64 ci, .bool ch, .int .i64 cv, .slice lp ln lc, .slice dp dn dc] 73 (0, 0))))
          case atStart => exact ⟨0, rfl, by omega, by omega, rfl, fldT_0 cd, HB1.out, HBX.out⟩
          case round =>
            clear HB1 HBX
            obtain ⟨k, rfl, hk, hk8, rfl, HK, HW⟩ := hrel
            obtain ⟨n0, n1, n2, n3, n4, n5, n6⟩ := cells_seven HW.out.2
            by_cases hkn : k < dn
            · have hkz : (k : Int) < (dn : Int) := by omega
              have hk0 : (0 : Int) ≤ (k : Int) := by omega
              obtain ⟨bd, od, rfl, hcd⟩ := (HRD.out.later HW.out.1).addr (by omega)
              have hdc := HRD.out.le
              obtain ⟨⟨pf, pv⟩, hp⟩ : ∃ p, cd[k]? = some p := ⟨_, List.getElem?_eq_getElem (by rw [HDN.out]; exact hkn)⟩
              have e0 := (hcd k _ hp).1
              simp only at e0
              have HPQ : Hid (∀ j, k = j + 1 → ∃ q, cd[j]? = some q ∧ wr.cell? ⟨bd, od + j * 2, none⟩ = some (.int .i64 q.1)) := fun j e => by
                obtain ⟨q, hq⟩ : ∃ q, cd[j]? = some q := ⟨_, List.getElem?_eq_getElem (by rw [HDN.out]; omega)⟩
                exact ⟨q, hq, (hcd j _ hq).1⟩
              have HP := hide hp
              clear hcd hp
              have HWN : Hid (∀ n, Below w.heap.size w (wr.drewN n) ∧ (wr.drewN n).heap[bx]? = some (.cells #[.int .i64 cg, .int .i64 cn, .int .i64 ci, .bool ch, .int .i64 cv, .slice lp ln lc, .slice (some ⟨bd, od, none⟩) dn dc] 73 (0, 0))) := fun n => ⟨below_drewN HW.out.1 n, boxed_old HW.out.2 (below_drewN (Below.refl _ _) n)⟩
              have HRF : Hid (¬ FldT cd cd.length → R = false) := fun hbad => mayF hR.out (by
                rw [← HN.out]
                intro e
                have h1 := e t c0 (by rw [HN.out]; exact htn) HCT.out
                have h2 := (HCC.out.1 h1.1).2.2.2.2
                rw [← HDN.out] at h2
                exact hbad h2)
              by_cases hlo : pf < 0
              · obtain rfl : R = false := HRF.out (fldT_bad HP.out (fun e => by have := e.1; simp only at this; omega))
                have f1 : decide (pf < 0) = true := decide_eq_true hlo
                clear HP HK HPQ HRF HW HT HCT HCC HG HRD
                go_wp2
                go_quiet (fail)
                have HB2 := hide (HWN.out nq).1
                clear n0 n1 n2 n3 n4 n5 n6 e0 HWN
                go_wp2
                go_ret
                exact ⟨rfl, HB2.out⟩
              · have f1 : decide (pf < 0) = false := decide_eq_false hlo
                by_cases hhi : 8 ≤ pf
                · obtain rfl : R = false := HRF.out (fldT_bad HP.out (fun e => by have := e.2; simp only at this; omega))
                  have f2 : decide (8 ≤ pf) = true := decide_eq_true hhi
                  have f3 : decide (pf ≥ 8) = true := decide_eq_true hhi
                  clear HP HK HPQ HRF HW HT HCT HCC HG HRD
                  go_wp2
                  go_quiet (fail)
                  have HB2 := hide (HWN.out nq).1
                  clear n0 n1 n2 n3 n4 n5 n6 e0 HWN
                  go_wp2
                  go_ret
                  exact ⟨rfl, HB2.out⟩
                · have f2 : decide (8 ≤ pf) = false := decide_eq_false hhi
                  have f3 : decide (pf ≥ 8) = false := decide_eq_false hhi
                  rcases Nat.eq_zero_or_pos k with h0 | hpos
                  · obtain ⟨h1, h2⟩ := fldT_next HK.out HP.out ⟨by simp only; omega, by simp only; omega⟩ (fun j q e _ => by omega)
                    have HK2 := hide h1
                    have i1 : decide ((k : Int) > 0) = false := decide_eq_false (by omega)
                    have i2 : ¬ (0 : Int) < (k : Int) := by omega
                    have i3 : decide ((0 : Int) < (k : Int)) = false := decide_eq_false i2
                    have i4 : ¬ 0 < k := by omega
                    have i5 : decide (0 < k) = false := decide_eq_false i4
                    clear HP HK HPQ HRF HW h1 h0
                    go_wp2
                    go_quiet (fail)
                    have HB2 := hide (HWN.out nq)
                    clear n0 n1 n2 n3 n4 n5 n6 e0 HWN
                    go_wp2
                    go_roundg (9 - (k + 1))
                    case measure => omega
                    case rel => exact ⟨k + 1, rfl, by omega, by omega, by simp, HK2, HB2⟩
                  · obtain ⟨j, rfl⟩ : ∃ j, k = j + 1 := ⟨k - 1, by omega⟩
                    obtain ⟨⟨qf, qv⟩, hq, cq⟩ := HPQ.out j rfl
                    simp only at cq
                    have hjz : (j : Int) < (dn : Int) := by omega
                    have hj0 : (0 : Int) ≤ (j : Int) := by omega
                    have hsub : ((j + 1 : Nat) : Int) - 1 = (j : Int) := by omega
                    have i1 : decide (((j + 1 : Nat) : Int) > 0) = true := decide_eq_true (by omega)
                    by_cases hqp : qf < pf
                    · obtain ⟨h1, h2⟩ := fldT_next HK.out HP.out ⟨by simp only; omega, by simp only; omega⟩ (fun j' q' e e' => by
                        have : j' = j := by omega
                        subst this
                        rw [hq] at e'; cases e'; exact hqp)
                      have HK2 := hide h1
                      have g1 : ¬ pf ≤ qf := by omega
                      have g2 : decide (pf ≤ qf) = false := decide_eq_false g1
                      clear HP HK HPQ HRF HW h1 hq
                      go_wp2
                      go_quiet (fail)
                      have HB2 := hide (HWN.out nq)
                      clear n0 n1 n2 n3 n4 n5 n6 e0 HWN cq
                      go_wp2
                      go_roundg (9 - (j + 1 + 1))
                      case measure => omega
                      case rel => exact ⟨j + 1 + 1, rfl, by omega, by omega, by simp, HK2, HB2⟩
                    · obtain rfl : R = false := HRF.out (fldT_bad2 HP.out hq hqp)
                      have g1 : pf ≤ qf := by omega
                      have g2 : decide (pf ≤ qf) = true := decide_eq_true g1
                      clear HP HK HPQ HRF HW hq HT HCT HCC HG HRD
                      go_wp2
                      go_quiet (fail)
                      have HB2 := hide (HWN.out nq).1
                      clear n0 n1 n2 n3 n4 n5 n6 e0 HWN cq
                      go_wp2
                      go_ret
                      exact ⟨rfl, HB2.out⟩
            · have hkz : ¬ (k : Int) < (dn : Int) := by omega
              have HT2 : Hid (CsT cs (t + 1)) := by
                refine csT_next HT.out HCT.out (HCC.out.2 ⟨HG.out.1, HG.out.2.2.1, HG.out.2.2.2.1, HG.out.2.2.2.2, ?_⟩) HG.out.2.1
                have : k = dn := by omega
                rw [← this]
                exact HK.out
              have HBF := hide HW.out.1
              clear HW HK HT HCT HCC HG HRD
              go_wp2
              clear n0 n1 n2 n3 n4 n5 n6
              go_roundg (N - (t + 1))
              case measure => omega
              case rel => exact ⟨t + 1, rfl, by omega, by simp, HT2, HBF⟩
    · have htz : ¬ (t : Int) < (N : Int) := by omega
      obtain rfl : R = true := hR.out.2 (fun i c hi hc => HT.out i c (by omega) hc)
      go_wp2
      go_ret
      exact ⟨rfl, HB.out⟩
end Go.Proofs.YtiofkcmdgijjoaaGreat
