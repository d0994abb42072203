/- The document's own reader of a change: a contract of its GetMut. -/
import Derived.Test.YtgpfpmocdmeldaaGreatMutH
namespace Go.Proofs.YtgpfpmocdmeldaaGreat
open Go.RowKit

/-- How GetMut ends. -/
theorem rget_end {WF : World} {r : Nat} {tm : Array Value} {Q : Ending → World → Prop} {k g n i f v x y : Int} (hr : WF.heap[r]? = some (mObj k g n i f v)) (h2 : tm[2]?.getD undef = .pointer (some ⟨r, 0, none⟩)) (h3 : tm[3]?.getD undef = .int .i64 x) (h4 : tm[4]?.getD undef = .int .i64 y)
    (hq : Q (.returned (.tuple #[.agg #[.int .i64 k, .int .i64 g, .int .i64 n, .int .i64 i, .int .i64 f, .int .i64 v], .int .i64 x, .int .i64 y])) WF) : bodyPost Tryz.prog Tryz.f20 Q Exit.ret { tmps := tm, defers := [] } WF := by
  obtain ⟨q0, q1, q2, q3, q4, q5⟩ := m_cells hr
  refine bodyPost_ret (v := .tuple #[.agg #[.int .i64 k, .int .i64 g, .int .i64 n, .int .i64 i, .int .i64 f, .int .i64 v], .int .i64 x, .int .i64 y]) ?_ rfl hq
  simp [results, Tryz.results20, go_sem, q0, q1, q2, q3, q4, q5, h2, h3, h4]

theorem Gm.start (w : World) (l : List Int) : Gm w l 0 ((w.alloc (mObj 0 0 0 0 0 0)).alloc (.cells #[.int .u64 0, .int .u64 0, .int .u64 0, .int .u64 0, .int .u64 0] 83 (0, 0))) := by
  refine ⟨?_, ?_, (below_alloc w _ _ (Nat.le_refl _)).trans (below_alloc _ _ _ (by simp))⟩
  · rw [Below.heap_alloc _ _ _ (by simp)]; exact heap_alloc_new w _
  · have := heap_alloc_new (w.alloc (mObj 0 0 0 0 0 0)) (.cells #[.int .u64 0, .int .u64 0, .int .u64 0, .int .u64 0, .int .u64 0] 83 (0, 0))
    simpa [arrG, zF] using this

set_option maxRecDepth 100000 in
set_option maxHeartbeats 1600000 in
theorem refGetMut_any (a : Option Addr) (n cap : Nat) (l : List Int) (w : World) (h : Bs w a n cap l) (hn : n ≤ 1000000) (A B C D F V : Int × Nat × Int) (hc : Chg l A B C D F V) :
    Calls Tryz.prog 20 #[.slice a n cap] w fun e w' => e = .returned (.tuple #[mV (getM A B C D F V).1, .int .i64 (getM A B C D F V).2.1, .int .i64 (getM A B C D F V).2.2]) ∧ Below w.heap.size w w' := by
  have HR := hide h.2.2.2.2.2
  have HLN := hide h.1
  have HS := hide h
  have HC := hide hc
  have HG0 := hide (Gm.start w l)
  clear h hc
  unfold mObj at HG0
  go_enter Tryz.func20, Tryz.ntmps20
  go_wp2
  generalize ((w.alloc (.cells #[.int .i64 0, .int .i64 0, .int .i64 0, .int .i64 0, .int .i64 0, .int .i64 0] 40 (0, 0))).alloc (.cells #[.int .u64 0, .int .u64 0, .int .u64 0, .int .u64 0, .int .u64 0] 83 (0, 0))) = W0 at *
  go_loopw [6, 7, 8] (fun p q i wr => ∃ k t u : Nat, k ≤ u ∧ (u = 4 ∨ u = 5) ∧ t ≤ n ∧ i = .int .i64 k ∧ p = .int .i64 t ∧ q = .int .i64 u ∧ Hid (t = posL l k) ∧ Hid (u = wantL l k) ∧ Hid (∀ j, j < k → erL l j = 0) ∧ Hid (Gm w l k wr)) (fun _ _ i _ => 5 - (intOf i).toNat)
  case atStart => exact ⟨0, 0, 4, by omega, Or.inl rfl, by omega, rfl, rfl, rfl, rfl, rfl, fun j hj => absurd hj (by omega), HG0⟩
  case round =>
    obtain ⟨k, t, u, hku, hu, ht, rfl, rfl, rfl, HT, HU, HE, HG⟩ := hrel
    by_cases hlt : k < u
    · have hbs := (HS.out.later HG.out.2.2 (Nat.le_refl _)).fromAt t (n - t) ht rfl
      have G := refGet_any _ _ _ _ _ hbs
      have sN := fun W => run_fromA a n cap t (n - t) (t : Int) rfl ht rfl W
      have hf := M.getL_facts (l.drop t) 0 0 (by omega) (by decide) (fun x hx => HR.out x (List.mem_of_mem_drop hx))
      have hle := (getL_le (l.drop t) (fun x hx => HR.out x (List.mem_of_mem_drop hx))).1
      rw [List.length_drop, HLN.out] at hle
      have HN : Hid ((M.getL 0 0 (l.drop t)).1 = nmL l k) := by show _ = _; rw [HT.out]; rfl
      have HP : Hid (t + (M.getL 0 0 (l.drop t)).2.1 = posL l (k + 1)) := by show _ = _; rw [HT.out]; rfl
      have HX : Hid ((M.getL 0 0 (l.drop t)).2.2 = erL l k) := by show _ = _; rw [HT.out]; rfl
      have h64 := hf.1
      clear hf hbs
      generalize M.getL 0 0 (l.drop t) = R at *
      obtain ⟨N, d, E⟩ := R
      simp only at *
      have HGt := hide G
      clear G
      obtain ⟨z0, zf⟩ := arr_cells HG.out.2.1 k (by omega)
      by_cases hE : E = 0
      · subst hE
        have HE2 : Hid (∀ j, j < k + 1 → erL l j = 0) := fun j hj => by
          rcases Nat.lt_succ_iff_lt_or_eq.1 hj with h1 | h1
          · exact HE.out j h1
          · rw [h1, ← HX.out]
        have htd : t + d ≤ n := by omega
        by_cases hk0 : k = 0
        · have hkb : ((k : Int) == 0) = true := by simp; omega
          have h4 : u = 4 := by rw [HU.out, hk0]; rfl
          subst h4
          by_cases h56 : N = 5 ∨ N = 6
          · have hW : Hid (5 = wantL l (k + 1)) := by show _ = _; rw [wantL, if_pos ⟨by omega, by rw [← (show nmL l k = nmL l 0 by rw [hk0]), ← HN.out]; exact h56⟩]
            have hG2 := hide (HG.out.next (by omega) (N : Int) (by rw [← HN.out, trN, if_neg (by omega)]))
            have hsm : N ≤ 1000 := by omega
            have h56b : ((N : Int) == 5) = true ∨ (((N : Int) == 5) = false ∧ ((N : Int) == 6) = true) := by
              rcases h56 with rfl | rfl
              · exact Or.inl (by decide)
              · exact Or.inr ⟨by decide, by decide⟩
            clear h56 hk0
            rcases h56b with g5 | ⟨g5, g6⟩
            all_goals
              go_wp2_with fail
              refine HGt.out.mono ?_
              rintro e w1 ⟨rfl, rfl⟩
              go_wp2
              go_roundw
              case rel => exact ⟨k + 1, t + d, 5, by omega, Or.inr rfl, htd, by go_num, by go_num, rfl, HP.out, hW, HE2, hG2⟩
              case measure => simp [intOf]; omega
          · have hW : Hid (4 = wantL l (k + 1)) := by show _ = _; rw [wantL, if_neg (fun h => h56 (by rw [HN.out, hk0]; exact h.2))]
            have g5 : ((N : Int) == 5) = false := by simp; omega
            have g6 : ((N : Int) == 6) = false := by simp; omega
            by_cases hbig : 1000 < N
            · have hG2 := hide (HG.out.next2 (by omega) (N : Int) 1000 (by rw [← HN.out, trN, if_pos hbig]))
              clear h56 hk0
              go_wp2_with fail
              refine HGt.out.mono ?_
              rintro e w1 ⟨rfl, rfl⟩
              go_wp2
              go_roundw
              case rel => exact ⟨k + 1, t + d, 4, by omega, Or.inl rfl, htd, by go_num, by go_num, rfl, HP.out, hW, HE2, hG2⟩
              case measure => simp [intOf]; omega
            · have hG2 := hide (HG.out.next (by omega) (N : Int) (by rw [← HN.out, trN, if_neg (by omega)]))
              clear h56 hk0
              go_wp2_with fail
              refine HGt.out.mono ?_
              rintro e w1 ⟨rfl, rfl⟩
              go_wp2
              go_roundw
              case rel => exact ⟨k + 1, t + d, 4, by omega, Or.inl rfl, htd, by go_num, by go_num, rfl, HP.out, hW, HE2, hG2⟩
              case measure => simp [intOf]; omega
        · have hkb : ((k : Int) == 0) = false := by simp; omega
          have hW : Hid (u = wantL l (k + 1)) := by
            show _ = _
            rw [HU.out, wantL, wantL]
            have e1 : 0 < k := by omega
            have e2 : 0 < k + 1 := by omega
            simp only [e1, e2]
          by_cases hbig : 1000 < N
          · have hG2 := hide (HG.out.next2 (by omega) (N : Int) 1000 (by rw [← HN.out, trN, if_pos hbig]))
            clear hk0
            go_wp2_with fail
            refine HGt.out.mono ?_
            rintro e w1 ⟨rfl, rfl⟩
            go_wp2
            go_roundw
            case rel => exact ⟨k + 1, t + d, u, by omega, hu, htd, by go_num, by go_num, rfl, HP.out, hW, HE2, hG2⟩
            case measure => simp [intOf]; omega
          · have hG2 := hide (HG.out.next (by omega) (N : Int) (by rw [← HN.out, trN, if_neg (by omega)]))
            clear hk0
            go_wp2_with fail
            refine HGt.out.mono ?_
            rintro e w1 ⟨rfl, rfl⟩
            go_wp2
            go_roundw
            case rel => exact ⟨k + 1, t + d, u, by omega, hu, htd, by go_num, by go_num, rfl, HP.out, hW, HE2, hG2⟩
            case measure => simp [intOf]; omega
      · have hb : (E != 0) = true := by simpa using hE
        have HFin : Hid (getM A B C D F V = (zM, 0, E)) := by
          show _ = _
          rw [HX.out]
          exact getM_err l A B C D F V HC.out k (by rw [← HU.out]; exact hlt) HE.out (by rw [← HX.out]; exact hE)
        obtain ⟨r0, r1, r2, r3, r4, r5⟩ := m_cells HG.out.1
        have fr := m_free HG.out.1
        clear hE
        go_wp2_with fail
        refine HGt.out.mono ?_
        rintro e w1 ⟨rfl, rfl⟩
        go_wp2
        have HSx := set6N (Nat.le_refl _) HG.out.2.2 HG.out.1 0 0 0 0 0 0
        exact rget_end HSx.1 rfl rfl rfl ⟨by rw [HFin.out]; rfl, HSx.2⟩
    · obtain rfl : k = u := by omega
      obtain ⟨eA, eB, eC, eD, eF, hk45, hF5⟩ := chg_read l HR.out A B C D F V HC.out k HU.out HE.out
      have eV := HC.out.v
      rw [eA, eF, ← HT.out] at eV
      simp only at eV
      have hvt := hasV_tr (nmL l 0) (nmL_lt l HR.out 0)
      rw [← hvt] at eV
      have GM := getM_read l HR.out A B C D F V HC.out k HU.out HE.out
      have GE : ∀ v x e, V = (v, x, e) → e ≠ 0 → getM A B C D F V = (zM, 0, e) := by
        intro v x e hv he
        rw [getM, hv, if_pos he]
      have q0 : zF l k 0 = trN (nmL l 0) := by rw [zF, if_pos (by omega)]
      have q1 : zF l k 1 = trN (nmL l 1) := by rw [zF, if_pos (by omega)]
      have q2 : zF l k 2 = trN (nmL l 2) := by rw [zF, if_pos (by omega)]
      have q3 : zF l k 3 = trN (nmL l 3) := by rw [zF, if_pos (by omega)]
      have q4 : zF l k 4 = if decide (k = 5) then trN (nmL l 4) else 0 := by
        rcases hk45 with rfl | rfl
        · rfl
        · rw [zF, if_pos (by omega)]; rfl
      have z0 := (arr_cells HG.out.2.1 0 (by omega)).1
      have z1 := (arr_cells HG.out.2.1 1 (by omega)).1
      have z2 := (arr_cells HG.out.2.1 2 (by omega)).1
      have z3 := (arr_cells HG.out.2.1 3 (by omega)).1
      have z4 := (arr_cells HG.out.2.1 4 (by omega)).1
      rw [q0] at z0; rw [q1] at z1; rw [q2] at z2; rw [q3] at z3; rw [q4] at z4
      have b0 := trN_range (nmL l 0); have b1 := trN_range (nmL l 1); have b2 := trN_range (nmL l 2); have b3 := trN_range (nmL l 3)
      have b4 : 0 ≤ (if decide (k = 5) then trN (nmL l 4) else 0) ∧ (if decide (k = 5) then trN (nmL l 4) else 0) ≤ 1000 := by
        have := trN_range (nmL l 4)
        split <;> omega
      generalize (if decide (k = 5) then trN (nmL l 4) else 0) = K4 at *
      generalize trN (nmL l 0) = K0 at *
      generalize trN (nmL l 1) = K1 at *
      generalize trN (nmL l 2) = K2 at *
      generalize trN (nmL l 3) = K3 at *
      have hb := hide HG.out.2.2
      have hres := hide HG.out.1
      have HGM := hide GM
      have HGE := hide GE
      have EV := hide eV
      clear GM GE eA eB eC eD eF eV q0 q1 q2 q3 q4 hvt hF5 HE HU HG HC
      cases hV : hasV K0 with
      | true =>
        have h135 : (K0 == 1) = true ∨ ((K0 == 1) = false ∧ (K0 == 3) = true) ∨ ((K0 == 1) = false ∧ (K0 == 3) = false ∧ (K0 == 5) = true) := by
          simp [hasV] at hV
          rcases hV with rfl | rfl | rfl <;> simp
        have hbs := (HS.out.later hb.out (Nat.le_refl _)).fromAt t (n - t) ht rfl
        have hba := below_alloc wr (mObj K0 K1 K2 K3 K4 0) wr.heap.size (Nat.le_refl _)
        have G := refGetInt_any _ _ _ _ _ (hbs.later hba (Nat.le_refl _))
        have sN := fun W => run_fromA a n cap t (n - t) (t : Int) rfl ht rfl W
        have hle := (getI_le (l.drop t) (fun x hx => HR.out x (List.mem_of_mem_drop hx))).1
        rw [List.length_drop, HLN.out] at hle
        rw [hV] at EV
        have EV2 : Hid (V = ((getI (l.drop t)).1, t + (getI (l.drop t)).2.1, (getI (l.drop t)).2.2)) := by
          show _ = _
          rw [EV.out]; rfl
        clear EV hbs
        generalize getI (l.drop t) = R at *
        obtain ⟨v, d, E⟩ := R
        simp only at *
        have htd : t + d ≤ n := by omega
        have HGt := hide G
        have hbm := hide (hb.out.trans (hba.mono hb.out.size))
        have hrm := hide ((hba.block _ (lt_of_heap hres.out)).trans hres.out)
        have hmm := hide (heap_alloc_new wr (mObj K0 K1 K2 K3 K4 0))
        clear G hba
        unfold mObj at HGt hbm hrm hmm
        by_cases hE : E = 0
        · subst hE
          have HT2 := hide (HGM.out _ _ EV2.out)
          have CM := hide (fun w => refMay_any ⟨K0, K1, K2, K3, K4, v⟩ w)
          obtain ⟨MB, HMB⟩ : ∃ x, Hid (x = mayB ⟨K0, K1, K2, K3, K4, v⟩) := ⟨_, rfl⟩
          rw [← HMB.out] at CM HT2
          unfold mV at CM
          simp only at CM
          clear HGM HGE hV
          rcases h135 with g1 | ⟨g1, g3⟩ | ⟨g1, g3, g5⟩
          all_goals
            go_wp2_with fail
            refine HGt.out.mono ?_
            rintro e w1 ⟨rfl, rfl⟩
            go_wp2_with fail
            refine (CM.out _).mono ?_
            rintro e w2 ⟨rfl, hb2⟩
            have hba2 := below_alloc wr (mObj K0 K1 K2 K3 K4 v) wr.heap.size (Nat.le_refl _)
            have hm2 := (hb2.block _ (by simp)).trans (heap_alloc_new wr (mObj K0 K1 K2 K3 K4 v))
            have hr2 := (hb2.block _ (by have := lt_of_heap hres.out; simp; omega)).trans ((hba2.block _ (lt_of_heap hres.out)).trans hres.out)
            have hbw := (hb.out.trans (hba2.mono hb.out.size)).trans (hb2.mono (by have := hb.out.size; simp; omega))
            obtain ⟨m0, m1, m2, m3, m4, m5⟩ := m_cells hm2
            obtain ⟨r0, r1, r2, r3, r4, r5⟩ := m_cells hr2
            have fr := m_free hr2
            clear hba2 hb2 hm2
            cases MB with
            | true =>
              go_wp2
              have HSx := set6N (Nat.le_refl _) hbw hr2 K0 K1 K2 K3 K4 v
              exact rget_end HSx.1 rfl rfl rfl ⟨by rw [HT2.out]; rfl, HSx.2⟩
            | false =>
              go_wp2
              have HSx := set6N (Nat.le_refl _) hbw hr2 0 0 0 0 0 0
              exact rget_end HSx.1 rfl rfl rfl ⟨by rw [HT2.out]; rfl, HSx.2⟩
        · have hb : (E != 0) = true := by simpa using hE
          have HT2 := hide (HGE.out _ _ _ EV2.out hE)
          obtain ⟨r0, r1, r2, r3, r4, r5⟩ := m_cells hrm.out
          have fr := m_free hrm.out
          clear hE HGM HGE hV
          rcases h135 with g1 | ⟨g1, g3⟩ | ⟨g1, g3, g5⟩
          all_goals
            go_wp2_with fail
            refine HGt.out.mono ?_
            rintro e w1 ⟨rfl, rfl⟩
            go_wp2
            have HSx := set6N (Nat.le_refl _) hbm.out hrm.out 0 0 0 0 0 0
            exact rget_end HSx.1 rfl rfl rfl ⟨by rw [HT2.out]; rfl, HSx.2⟩
      | false =>
        have g1 : (K0 == 1) = false := by rw [hasV, decide_eq_false_iff_not] at hV; simp; omega
        have g3 : (K0 == 3) = false := by rw [hasV, decide_eq_false_iff_not] at hV; simp; omega
        have g5 : (K0 == 5) = false := by rw [hasV, decide_eq_false_iff_not] at hV; simp; omega
        rw [hV] at EV
        have HT2 := hide (HGM.out _ _ EV.out)
        have CM := hide (fun w => refMay_any ⟨K0, K1, K2, K3, K4, 0⟩ w)
        obtain ⟨MB, HMB⟩ : ∃ x, Hid (x = mayB ⟨K0, K1, K2, K3, K4, 0⟩) := ⟨_, rfl⟩
        rw [← HMB.out] at CM HT2
        unfold mV at CM
        simp only at CM
        clear HGM HGE hV EV
        go_wp2_with fail
        refine (CM.out _).mono ?_
        rintro e w2 ⟨rfl, hb2⟩
        have hba2 := below_alloc wr (mObj K0 K1 K2 K3 K4 0) wr.heap.size (Nat.le_refl _)
        have hm2 := (hb2.block _ (by simp)).trans (heap_alloc_new wr (mObj K0 K1 K2 K3 K4 0))
        have hr2 := (hb2.block _ (by have := lt_of_heap hres.out; simp; omega)).trans ((hba2.block _ (lt_of_heap hres.out)).trans hres.out)
        have hbw := (hb.out.trans (hba2.mono hb.out.size)).trans (hb2.mono (by have := hb.out.size; simp; omega))
        obtain ⟨m0, m1, m2, m3, m4, m5⟩ := m_cells hm2
        obtain ⟨r0, r1, r2, r3, r4, r5⟩ := m_cells hr2
        have fr := m_free hr2
        clear hba2 hb2 hm2
        cases MB with
        | true =>
          go_wp2
          have HSx := set6N (Nat.le_refl _) hbw hr2 K0 K1 K2 K3 K4 0
          exact rget_end HSx.1 rfl rfl rfl ⟨by rw [HT2.out]; rfl, HSx.2⟩
        | false =>
          go_wp2
          have HSx := set6N (Nat.le_refl _) hbw hr2 0 0 0 0 0 0
          exact rget_end HSx.1 rfl rfl rfl ⟨by rw [HT2.out]; rfl, HSx.2⟩
end Go.Proofs.YtgpfpmocdmeldaaGreat
