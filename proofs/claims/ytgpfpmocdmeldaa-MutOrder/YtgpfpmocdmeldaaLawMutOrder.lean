/- The statement MutOrder: changes one behind the other are written as one by one, and read back as they were, for all changes. -/
import Derived.Test.YtgpfpmocdmeldaaMutP
import Derived.Test.YtgpfpmocdmeldaaMutR
import Derived.Test.YtgpfpmocdmeldaaBegun
import Derived.Deep.DeepCutAuto
namespace Go.Proofs.Ytgpfpmocdmeldaa.mutOrder
open Go.ChangeShapes Go.WideShapes Go.ChangeAt Go.RowKit

theorem filter_take (ms : List Mt) (k : Nat) (m : Mt) (h : ms[k]? = some m) : (ms.take (k + 1)).filter mayB = (ms.take k).filter mayB ++ (if mayB m then [m] else []) := by
  obtain ⟨hk, rfl⟩ := List.getElem?_eq_some_iff.1 h
  rw [List.take_succ_eq_append_getElem hk, List.filter_append]
  cases h : mayB ms[k] <;> simp [h]

theorem putsB_may (L : List Mt) (h : ∀ m ∈ L, mayB m = true) (k : Nat) (m : Mt) (hk : L[k]? = some m) : putsB (L.drop k) = mutB m ++ putsB (L.drop (k + 1)) := by
  obtain ⟨hlt, rfl⟩ := List.getElem?_eq_some_iff.1 hk
  have e : putB L[k] = mutB L[k] := by simp [putB, h _ (List.getElem_mem hlt)]
  rw [List.drop_eq_getElem_cons hlt, ← e, putsB, putsB, List.map_cons, List.flatten_cons]

theorem mutB_pos (m : Mt) : 1 ≤ (mutB m).length := by simp [mutB]

set_option maxRecDepth 100000 in
set_option maxHeartbeats 4000000 in
theorem walk (pa : Option Addr) (c cc : Nat) (ms : List Mt) (w : World) (hP : Ms w pa c ms) (hw : ∀ m ∈ ms, wfM m) (_hcc : c ≤ cc) (_h63 : cc ≤ 9223372036854775807) :
    Calls Try.prog 7 #[.slice pa c cc] w fun e w' => e = .returned (.bool true) ∧ Below w.heap.size w w' := by
  have HP := hide hP
  have HW := hide hw
  have HML := hide hP.1
  clear hP hw
  go_enter Try.func7, Try.ntmps7
  go_wp2_with fail
  refine (begun_true _).mono ?_
  rintro e W0 ⟨rfl, hb1⟩
  have H1 := hide hb1
  have HP1 := hide (HP.out.later hb1 (Nat.le_refl _))
  clear hb1 HP
  go_wp2
  go_loopw [4, 5] (fun v i wr => ∃ k : Nat, k ≤ c ∧ k ≤ 15 ∧ i = .int .i64 k ∧ OwnM wr W0.heap.size v ((ms.take k).filter mayB) ∧ Below W0.heap.size W0 wr) (fun _ i _ => 15 - (intOf i).toNat)
  case atStart => exact ⟨0, by omega, by omega, rfl, by simpa using OwnM.nil _ _, Below.refl _ _⟩
  case round =>
    obtain ⟨k, hk, hk15, rfl, hown, hbel⟩ := hrel
    by_cases hin : k < c ∧ k < 15
    · obtain ⟨hlt, hlt15⟩ := hin
      obtain ⟨m, hm⟩ : ∃ m, ms[k]? = some m := ⟨_, List.getElem?_eq_getElem (by rw [HML.out]; exact hlt)⟩
      obtain ⟨b, o, rfl, hcell⟩ := HP1.out.2 (by omega)
      have hcell2 := (HP1.out.later hbel (Nat.le_refl _)).2 (by omega)
      obtain ⟨b', o', e, hcell3⟩ := hcell2
      obtain ⟨rfl, rfl⟩ : b = b' ∧ o = o' := by simpa using e
      obtain ⟨z0, z1, z2, z3, z4, z5⟩ := hcell3 k m hm
      have HT := hide (filter_take ms k m hm)
      have CM := hide (fun w => refMay_any m w)
      have hlen : ((ms.take k).filter mayB).length ≤ 15 := Nat.le_trans (List.length_filter_le _ _) (by rw [List.length_take]; omega)
      have HLEN := hide hlen
      have HO := hide hown
      have HBE := hide hbel
      have HMS := hide (fun (W : World) (h : Below wr.heap.size wr W) => ((HP1.out.later hbel (Nat.le_refl _)).later h (Nat.le_refl _)).2 (by omega))
      have HMM := hide hm
      obtain ⟨MB, HMB⟩ : ∃ x, Hid (x = mayB m) := ⟨_, rfl⟩
      rw [← HMB.out] at CM HT
      have HNW := hide (fun (W : World) => heap_alloc_new W (mtObj m))
      have HAP := hide (fun (W : World) (v : Value) (l : List Mt) (h : OwnM W W0.heap.size v l) => OwnM.later h (below_alloc W (mtObj m) W.heap.size (Nat.le_refl _)))
      have HBL := hide (fun (W : World) (h : W0.heap.size ≤ W.heap.size) => below_alloc W (mtObj m) W0.heap.size h)
      clear hcell hcell3 e hm hown hbel HMB hlen
      obtain ⟨mk, mg, mn, mi, mf, mx⟩ := m
      unfold mV at CM
      unfold mtObj at HNW HAP HBL
      simp only at *
      go_wp2_with fail
      refine (CM.out _).mono ?_
      rintro e w2 ⟨rfl, hb2⟩
      have HO2 := hide (HO.out.later hb2)
      have HB2 := hide (HBE.out.trans (hb2.mono HBE.out.size))
      obtain ⟨b', o', e, hcell3⟩ := HMS.out w2 hb2
      obtain ⟨rfl, rfl⟩ : b = b' ∧ o = o' := by simpa using e
      clear z0 z1 z2 z3 z4 z5
      obtain ⟨z0, z1, z2, z3, z4, z5⟩ := hcell3 k _ HMM.out
      simp only at z0 z1 z2 z3 z4 z5
      have hs2 := HB2.out.size
      clear hb2 hcell3 e HO HBE HMS CM
      cases MB with
      | true =>
        go_wp2_with (at_builtin; refine wpList_appM rfl (.tmp 31) (.tmp 36) rfl W0.heap.size _ _ rfl (HAP.out _ _ _ HO2.out) w2.heap.size ⟨mk, mg, mn, mi, mf, mx⟩ rfl (HNW.out _) (by have := HLEN.out; omega) (by simp; omega) ?_)
        intro v3 w3 ho3 hg3
        have hb3 := (HB2.out.trans (HBL.out w2 hs2)).grown hg3 (by simp; omega) (fun g hg => (HO2.out.lt g hg).1)
        have HO3 := hide ho3
        have HB3 := hide hb3
        clear ho3 hg3 hb3 z0 z1 z2 z3 z4 z5 HO2 HB2 HAP HBL HNW
        go_wp2
        go_roundw
        case rel => exact ⟨k + 1, by omega, by omega, by go_num, by rw [HT.out]; simpa using HO3.out, HB3.out⟩
        case measure => simp [intOf]; omega
      | false =>
        clear z0 z1 z2 z3 z4 z5
        go_wp2
        go_roundw
        case rel => exact ⟨k + 1, by omega, by omega, by go_num, by rw [HT.out]; simpa using HO2.out, HB2.out⟩
        case measure => simp [intOf]; omega
    · obtain ⟨L, HL⟩ : ∃ L, Hid (L = (ms.take k).filter mayB) := ⟨_, rfl⟩
      rw [← HL.out] at hown
      have HLM : Hid (∀ m ∈ L, mayB m = true ∧ vOk m) := by
        rw [HL.out]
        intro m hm
        have h1 := List.mem_filter.1 hm
        exact ⟨h1.2, (HW.out m (List.mem_of_mem_take h1.1)).ok⟩
      have hL15 : L.length ≤ 15 := by rw [HL.out]; exact Nat.le_trans (List.length_filter_le _ _) (by rw [List.length_take]; omega)
      obtain ⟨la, lc, rfl, hLM⟩ := hown.ms
      obtain ⟨n, hn⟩ : ∃ n, n = L.length := ⟨_, rfl⟩
      rw [← hn] at hLM hL15 ⊢
      have HLn : Hid (L.length = n) := hn.symm
      have HLS := hide hLM
      have H2 := hide (H1.out.trans (hbel.mono H1.out.size))
      obtain ⟨W1, rfl⟩ : ∃ V, V = wr := ⟨wr, rfl⟩
      have HPA := hide (mutPut_ms none 0 0 [] la n lc L W1 (Bs.nil _) (by omega) (by omega) HLS.out (fun m hm => (HLM.out m hm).2))
      clear hn hown hLM hbel H1 HP1 HL
      have hcs : ¬ k < c ∨ (k < c ∧ ¬ k < 15) := by omega
      clear hin
      rcases hcs with hh | ⟨hh, hh2⟩
      all_goals
        go_wp2_with fail
        refine HPA.out.mono ?_
        rintro e W2 ⟨v2, rfl, ho2, hb2⟩
        rw [List.nil_append] at ho2
        have hPL := putsB_len L
        rw [HLn.out] at hPL
        obtain ⟨aa, ac, rfl, haa⟩ := Bs.of_owns ho2
        have HA2 := hide haa
        have HLS2 := hide (HLS.out.later hb2 (Nat.le_refl _))
        have H3 := hide (H2.out.trans (hb2.mono H2.out.size))
        clear ho2 hb2 haa HPA H2 HLS
        go_wp2
        go_loopw [7, 42] (fun b i wr => ∃ (k q qc : Nat) (qa : Option Addr), k ≤ n ∧ i = .int .i64 k ∧ b = .slice qa q qc ∧ q ≤ 15 * k ∧ Bs wr qa q qc (putsB (L.take k)) ∧ Below W2.heap.size W2 wr) (fun _ i _ => n - (intOf i).toNat)
        case atStart => exact ⟨0, 0, 0, none, by omega, rfl, rfl, by omega, by simpa [putsB] using Bs.nil _, Below.refl _ _⟩
        case round =>
          obtain ⟨k, q, qc, qa, hk, rfl, rfl, hq, hbs, hbel⟩ := hrel
          by_cases hlt : k < n
          · obtain ⟨m, hm⟩ : ∃ m, L[k]? = some m := ⟨_, List.getElem?_eq_getElem (by rw [HLn.out]; exact hlt)⟩
            obtain ⟨b, o, rfl, hcell⟩ := (HLS2.out.later hbel (Nat.le_refl _)).2 (by omega)
            obtain ⟨z0, z1, z2, z3, z4, z5⟩ := hcell k m hm
            have hmv := (HLM.out m (List.mem_of_getElem? hm)).2
            have HT := hide (putsB_take L k m hm)
            have HPU := hide (mutPut_ms qa q qc (putsB (L.take k)) _ 1 1 [m] _ (hbs.later (below_alloc wr (mtObj m) wr.heap.size (Nat.le_refl _)) (Nat.le_refl _)) (by omega) (by omega) (Ms.one wr m) (fun x hx => by simp at hx; subst hx; exact hmv))
            have e1 : putsB [m] = putB m := by simp [putsB]
            rw [e1, ← HT.out] at HPU
            have hpl := putsB_len (L.take (k + 1))
            have hpl2 : (L.take (k + 1)).length ≤ k + 1 := by rw [List.length_take]; omega
            have HPL : Hid ((putsB (L.take (k + 1))).length ≤ 15 * (k + 1)) := by show _ ≤ _; omega
            have HBA := hide (hbel.trans (below_alloc wr (mtObj m) W2.heap.size hbel.size))
            clear hcell hm hmv hbs hbel HT e1 hpl hpl2
            obtain ⟨mk, mg, mn, mi, mf, mx⟩ := m
            unfold mtObj at HPU HBA
            simp only at *
            go_wp2_with fail
            refine HPU.out.mono ?_
            rintro e w3 ⟨v3, rfl, ho3, hb3⟩
            obtain ⟨a3, c3, rfl, hbs3⟩ := Bs.of_owns ho3
            have HB3 := hide (HBA.out.trans (hb3.mono HBA.out.size))
            have HS3 := hide hbs3
            clear ho3 hb3 hbs3 HPU HBA z0 z1 z2 z3 z4 z5
            go_wp2
            go_roundw
            case rel => exact ⟨k + 1, _, _, _, by omega, by go_num, rfl, HPL.out, HS3.out, HB3.out⟩
            case measure => simp [intOf]; omega
          · obtain rfl : n = k := by omega
            rw [List.take_of_length_le (by rw [HLn.out]; exact Nat.le_refl _)] at hbs
            have SM := hide (same_any _ _ _ _ _ _ _ _ _ (HA2.out.later hbel (Nat.le_refl _)) hbs true (by simp))
            have HA3 := hide (HA2.out.later hbel (Nat.le_refl _))
            have HLS3 := hide (HLS2.out.later hbel (Nat.le_refl _))
            have H4 := hide (H3.out.trans (hbel.mono H3.out.size))
            obtain ⟨W3, rfl⟩ : ∃ V, V = wr := ⟨wr, rfl⟩
            clear hbs hbel H3 HLS2 HA2
            go_wp2_with fail
            refine SM.out.mono ?_
            rintro e w4 ⟨rfl, rfl⟩
            clear SM
            have hqq : (putsB L).length ≤ 225 := by omega
            clear hPL hq
            go_wp2
            go_loopw [6, 59] (fun a i wr => ∃ (k q qc : Nat) (qa : Option Addr), k ≤ n ∧ i = .int .i64 k ∧ a = .slice qa q qc ∧ q ≤ 225 ∧ Bs wr qa q qc (putsB (L.drop k)) ∧ Below w4.heap.size w4 wr) (fun _ i _ => n - (intOf i).toNat)
            case atStart => exact ⟨0, _, _, aa, by omega, rfl, rfl, hqq, by simpa using HA3.out, Below.refl _ _⟩
            case round =>
              obtain ⟨k, q, qc, qa, hk, rfl, rfl, hq, hbs, hbel⟩ := hrel
              by_cases hlt : k < n
              · obtain ⟨m, hm⟩ : ∃ m, L[k]? = some m := ⟨_, List.getElem?_eq_getElem (by rw [HLn.out]; exact hlt)⟩
                have hmv := HLM.out m (List.mem_of_getElem? hm)
                have HT := hide (putsB_may L (fun m hm => (HLM.out m hm).1) k m hm)
                obtain ⟨A, B, C, D, F, V, hc⟩ := chg_all (putsB (L.drop k))
                have G := mutGet_any qa q qc _ wr hbs (by omega) A B C D F V hc
                rw [HT.out] at hc
                rw [getM_mutB m hmv.1 hmv.2 _ A B C D F V hc] at G
                obtain ⟨d, HD⟩ : ∃ d, Hid (d = (mutB m).length) := ⟨_, rfl⟩
                rw [← HD.out] at G
                have hd1 : 1 ≤ d := by rw [HD.out]; exact mutB_pos m
                have hdq : d ≤ q := by rw [← hbs.1, HT.out, List.length_append, HD.out]; omega
                have HG := hide G
                have hN := hbs.fromAt d (q - d) hdq rfl
                have eN : (putsB (L.drop k)).drop d = putsB (L.drop (k + 1)) := by rw [HT.out, HD.out]; simp
                rw [eN] at hN
                have HN := hide hN
                have sN := fun W => run_fromA qa q qc d (q - d) (d : Int) rfl hdq rfl W
                have HMS := hide (fun (W : World) (h : Below wr.heap.size wr W) => (HLS3.out.later (hbel.trans (h.mono hbel.size)) (Nat.le_refl _)).2 (by omega))
                have HMM := hide hm
                have HBE := hide hbel
                have NEQ := fun W => neq_same m W
                have HNW := hide (fun (W : World) => mt_cells (heap_alloc_new W (mtObj m)))
                have HAL := hide (fun (W : World) => below_alloc W (mtObj m) W.heap.size (Nat.le_refl _))
                have hbnd := hide hmv
                clear hc G hN eN hm hbel hmv hbs HT HD
                obtain ⟨mk, mg, mn, mi, mf, mx⟩ := m
                unfold mV at HG NEQ
                unfold mtObj at HNW HAL
                simp only at *
                go_wp2_with fail
                refine HG.out.mono ?_
                rintro e w5 ⟨rfl, hb5⟩
                have hb6 := hb5.trans ((HAL.out w5).mono hb5.size)
                obtain ⟨b, o, rfl, hcell⟩ := HMS.out _ hb6
                obtain ⟨z0, z1, z2, z3, z4, z5⟩ := hcell k _ HMM.out
                obtain ⟨y0, y1, y2, y3, y4, y5⟩ := HNW.out w5
                simp only at z0 z1 z2 z3 z4 z5
                have HB6 := hide (HBE.out.trans (hb6.mono HBE.out.size))
                have HN6 := hide (HN.out.later hb6 (Nat.le_refl _))
                clear hb5 hb6 hcell HG HMS HNW HAL HBE HN
                go_wp2
                generalize w5.alloc (.cells #[.int .i64 mk, .int .i64 mg, .int .i64 mn, .int .i64 mi, .int .i64 mf, .int .i64 mx] 60 (0, 0)) = W6 at *
                have g1 : decide ((d : Int) < 1) = false := by simp; omega
                have g2 : decide ((q : Int) < (d : Int)) = false := by simp; omega
                go_quiet (fail)
                go_wp2
                go_roundw
                case rel => exact ⟨k + 1, q - d, qc - d, cutA qa qc d, by omega, by go_num, rfl, by omega, HN6.out.later (below_drewN (Below.refl W6.heap.size W6) nq) (Nat.le_refl _), below_drewN HB6.out nq⟩
                case measure => simp [intOf]; omega
              · obtain rfl : n = k := by omega
                have hq0 : q = 0 := by
                  rw [← hbs.1, List.drop_of_length_le (by rw [HLn.out]; exact Nat.le_refl _)]; rfl
                subst hq0
                have HF := hide (H4.out.trans (hbel.mono H4.out.size))
                clear hbs hbel
                go_wp2
                go_ret
                exact ⟨rfl, HF.out⟩

theorem own : ownKnob Try.prog.godebug = none := by kernel_rfl
theorem laidOut : laidOutB Try.prog = true := by kernel_rfl

set_option maxRecDepth 100000 in
theorem lifted (os : Os) (started : os.Started) (H : Type) (enc : TypeId × Value → H) :
    ReturnsInHanded {} Try.checked os 7 .any (Rows.mutOrderSpec.pre6 enc Try.prog Try.f7 Rows.mutOrderRow.domain false) (Rows.mutOrderSpec.post enc Try.prog Try.f7 false true false false) := by
  refine returnsInHanded_of_change (C := Try.checked) own started (by kernel_rfl) Try.func7
    (ChangeSpec.witness6 (enc := enc) (C := Try.checked) false ⟨#[], #[.slice none 0 0], []⟩ 8 (by kernel_rfl) (by kernel_rfl) (by kernel_rfl) (by kernel_rfl)) ?_
  intro W base args ds gs before hval0 hW hcnd _
  have hval : ∀ (j : Nat) t v, Try.f7.params[j]? = some t → args[j]? = some v → Value.okWide Try.prog W .any base t v := hval0
  have hW' := hW
  obtain ⟨p, q, hA0, hV, rfl, hfz, hnd⟩ := hW
  have hA : DataW.TrodAll enc Try.prog W 0 (fun _ => true) true Try.f7.params.toList args.toList ds p := hA0
  rw [Try.params7] at hA hval
  obtain ⟨v0, vs0, d0, ds0, p0, q0, hargs, rfl, rfl, h0, r0⟩ := trodAll_cons hA
  obtain ⟨rfl, rfl, rfl⟩ := trodAll_nil r0
  obtain rfl : args = #[v0] := by cases args; simp_all
  obtain ⟨rfl, rfl⟩ := trodVars_none hV
  obtain ⟨a0, n0, c0, rfl⟩ := okWide_slice Try.underlying57 (hval 0 57 v0 rfl rfl)
  have k0 := h0
  have lt0 : ∀ x ∈ p0, x.block < W.heap.size := by obtain ⟨m, hm⟩ := k0; exact DataW.trod_lt m _ _ _ hm
  obtain ⟨z0, w0⟩ : ∃ ms, Ms W a0 n0 ms ∧ (∀ m ∈ ms, wfM m) ∧ n0 ≤ c0 ∧ c0 ≤ 9223372036854775807 := by
    obtain ⟨fuel, hf⟩ := h0
    rcases open_muts hf with hcs | ⟨x, l, c, ms, hcs, hl, hm, hM, hw⟩
    · simp [Value.cells] at hcs; obtain ⟨rfl, rfl, rfl⟩ := hcs; exact ⟨[], ⟨rfl, fun h => absurd h (Nat.lt_irrefl 0)⟩, by simp, Nat.le_refl _, by omega⟩
    · simp [Value.cells] at hcs; obtain ⟨rfl, rfl, rfl⟩ := hcs; exact ⟨ms, hM, hw, hl, by simpa [maxLen] using hm⟩
  clear hA0 hval0
  refine (walk a0 n0 c0 z0 W w0.1 w0.2.1 w0.2.2.1 w0.2.2.2).mono fun e W' ⟨he, bel⟩ => ?_
  subst he
  exact ⟨_, rfl, _, _, _, [], _, [], hW', trodAll_mk1 (shut_bool Try.underlying4 _), (trodAll_cons_mk (Below.trod laidOut (by kernel_rfl) (of_decide_eq_true (by kernel_rfl)) k0 bel lt0) trodAll_mk0), rfl, bel.frame _, fun h => by cases h⟩

theorem over : Rows.mutOrderRow.holds Try.pinned (OpenSpec.ofChange Rows.mutOrderSpec) :=
  OpenClaim.holds_of_wide 7 Try.f7 rfl rfl rfl rfl rfl rfl rfl ⟨rfl, rfl, rfl, rfl, rfl⟩ rfl rfl rfl rfl rfl (by kernel_rfl) Try.func7 (by kernel_rfl)
    (of_decide_eq_true (by kernel_rfl)) (by unfold Func.isWrapper; first | (rw [if_pos (by decide +kernel)]; kernel_rfl) | (rw [if_neg (by decide +kernel)]; exact ⟨rfl, rfl⟩))
    (fun os started H enc _ => lifted os started H enc)

theorem proved : Rows.MutOrderSaid := over
#print axioms proved
end Go.Proofs.Ytgpfpmocdmeldaa.mutOrder
