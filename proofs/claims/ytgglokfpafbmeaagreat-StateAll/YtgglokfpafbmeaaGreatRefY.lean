/- The document's state: Cells walked. -/
import Derived.Test.YtgglokfpafbmeaaGreatRefX
namespace Go.Proofs.YtgglokfpafbmeaaGreat
open Go.RowKit Go.MapKept Go.ChangeMaps

theorem spA_range {w : World} {r p : Nat} {c : Nat → Value} (h : Bx w r c) (hp : p + 19 ≤ 3648) : w.rangeAt r p (spA c p).toList := fun j v hv => by
  have hj : j < 19 := by
    have := (List.getElem?_eq_some_iff.1 hv).1
    rw [Array.length_toList, spA_size] at this
    exact this
  rw [Array.getElem?_toList, spA_at c p j hj] at hv
  obtain rfl := Option.some.inj hv
  exact h.cell (by omega)
theorem spA_own {w : World} {q p : Nat} {c : Nat → Value} (h : w.heap[q]? = some (.cells (spA c p) 104 (0, 0))) : w.rangeAt q 0 (spA c p).toList := fun j v hv => by
  have hj : j < 19 := by
    have := (List.getElem?_eq_some_iff.1 hv).1
    rw [Array.length_toList, spA_size] at this
    exact this
  rw [Array.getElem?_toList, spA_at c p j hj] at hv
  obtain rfl := Option.some.inj hv
  rw [Nat.zero_add]
  exact spA_cell h hj
theorem spA_one {c : Nat → Value} {κ : K3} {V : Option Int} {L : List Int} {D : List (Int × Int)} {l : Value} (h : SpOK c κ V L D l) (hl : l.oneCell' = true) : (spA c (offK κ)).all (·.oneCell') = true := by
  refine Array.all_eq_true_iff_forall_mem.2 (fun v hv => ?_)
  obtain ⟨o, ho, rfl⟩ := Array.mem_iff_getElem.1 hv
  rw [spA_size] at ho
  have h1 := spA_at c (offK κ) o ho
  rw [Array.getElem?_eq_getElem (by rw [spA_size]; exact ho)] at h1
  rw [Option.some.inj h1]
  exact h.one hl ho

set_option maxRecDepth 100000 in
set_option maxHeartbeats 1000000 in
theorem refCells {w : World} {O : Nat → Prop} {r : Nat} {a : Ab} (h : Rf w O r a) :
    Calls Tryz.prog 29 #[.pointer (some ⟨r, 0, none⟩)] w fun e w' => ∃ v, e = .returned v ∧ ∃ xs ks, Kof a ks ∧ xs.map Cr.c = ks.map a.at ∧ OwnQ w' w.heap.size v xs ∧ Below w.heap.size w w' := by
  obtain ⟨c, lv, hB, hS, hR⟩ := h.dat
  have HB := hide hB
  have HS := hide hS
  have HR := hide (fun κ hκ => (hR κ hκ).1)
  have HU := hide h.out
  have HK := hide h.ok
  have HL := hide h.ll
  clear hB hS hR h
  go_enter Tryz.func29, Tryz.ntmps29
  go_wp2
  go_loopg [3, 4, 5, 6, 7, 8, 9] 4 (fun gm v _ _ _ _ _ ix wr => ∃ t : Nat, gm = 4 - t ∧ t ≤ 4 ∧ ix = .int .i64 t ∧ Hid (CsD w wr a (t * 48) v))
  case atStart => exact ⟨0, rfl, by omega, rfl, CsD.zero w a⟩
  case round =>
    obtain ⟨g, rfl, hg, rfl, H1⟩ := hrel
    by_cases hgl : g < 4
    · have hdg : decide ((g : Int) < 4) = true := decide_eq_true (by omega)
      go_wp2_with fail
      try simp only [hdg]
      clear hdg
      go_loopg [3, 5, 6, 7, 8, 12] 2 (fun gm v _ _ _ _ ix wr => ∃ t : Nat, gm = 2 - t ∧ t ≤ 2 ∧ ix = .int .i64 t ∧ Hid (CsD w wr a (g * 48 + t * 24) v))
      case atStart => exact ⟨0, rfl, by omega, rfl, H1⟩
      case round =>
        clear H1
        obtain ⟨n, rfl, hn, rfl, H1⟩ := hrel
        by_cases hnl : n < 2
        · have hdn : decide ((n : Int) < 2) = true := decide_eq_true (by omega)
          go_wp2_with fail
          try simp only [hdn]
          clear hdn
          go_loopg [3, 6, 7, 8, 15] 24 (fun gm v _ _ _ ix wr => ∃ t : Nat, gm = 24 - t ∧ t ≤ 24 ∧ ix = .int .i64 t ∧ Hid (CsD w wr a (g * 48 + n * 24 + t) v))
          case atStart => exact ⟨0, rfl, by omega, rfl, H1⟩
          case round =>
            clear H1
            obtain ⟨i, rfl, hi, rfl, H1⟩ := hrel
            by_cases hil : i < 24
            · have hκ : InK (kN g n i hgl hnl hil) := ⟨by show (0 : Int) ≤ (g : Int); omega, by show (g : Int) < 4; omega, by show (0 : Int) ≤ (n : Int); omega, by show (n : Int) < 2; omega, by show (0 : Int) ≤ (i : Int); omega, by show (i : Int) < 24; omega⟩
              have hp : offK (kN g n i hgl hnl hil) = g * 912 + n * 456 + i * 19 := by
                show (g : Int).toNat * 912 + (n : Int).toNat * 456 + (i : Int).toNat * 19 = _
                simp
              have hkg : (kN g n i hgl hnl hil).g = (g : Int) := rfl
              have hkn : (kN g n i hgl hnl hil).n = (n : Int) := rfl
              have hki : (kN g n i hgl hnl hil).i = (i : Int) := rfl
              have hpl : g * 912 + n * 456 + i * 19 + 19 ≤ 3648 := by omega
              generalize kN g n i hgl hnl hil = κ at *
              have hsp := HS.out κ hκ
              have hrow := HR.out κ hκ
              obtain ⟨la, lc, e1, hrd, _⟩ := RowI.slice hrow
              have hBr := HB.out.at (H1.out.bel.block _ HB.out.lt)
              have hrg := spA_range hBr hpl
              have hone := spA_one hsp (rowI_one hrow)
              rw [hp] at hone
              obtain ⟨hth, hbw, hbq⟩ := spBox wr c (g * 912 + n * 456 + i * 19)
              have hsi : (Tryz.prog.info? 104).map (·.size) = some (spA c (g * 912 + n * 456 + i * 19)).toList.length := by rw [infoSp, Array.length_toList, spA_size]
              have hsi2 : (Tryz.prog.info? 104).map (·.size) = some (spA c (g * 912 + n * 456 + i * 19)).size := by rw [infoSp, spA_size]
              have g0 : (0 : Int) ≤ (g : Int) := by omega
              have g1 : (g : Int) < 4 := by omega
              have n0 : (0 : Int) ≤ (n : Int) := by omega
              have n1 : (n : Int) < 2 := by omega
              have i0 : (0 : Int) ≤ (i : Int) := by omega
              have i1 : (i : Int) < 24 := by omega
              have Hrg := hide hrg
              have Hone := hide hone
              have Hth := hide hth
              have Hsi := hide (And.intro hsi hsi2)
              have Hrg2 := hide (spA_own hbq)
              have HBW := hide hbw
              have HCF : Hid (∀ W, Calls Tryz.prog 61 #[.agg (spA c (g * 912 + n * 456 + i * 19))] W fun e w' => ∃ v, e = .returned v ∧ OwnF w' W.heap.size v (a.D κ) ∧ Below W.heap.size W w') := fun W => by
                rw [← hp]
                exact refFields c κ _ _ _ _ hsp (HK.out κ) W
              have H2 : Hid (CsD w ((wr.alloc (.cells spotZ.toArray 104)).setCells wr.heap.size 0 (spA c (g * 912 + n * 456 + i * 19)).toList) a (g * 48 + n * 24 + i) _) := H1.out.later hbw
              have HW1 : Hid (wr.heap.size < ((wr.alloc (.cells spotZ.toArray 104)).setCells wr.heap.size 0 (spA c (g * 912 + n * 456 + i * 19)).toList).heap.size) := lt_of_heap hbq
              have HBQ := hide hbq
              have HSP := hide hsp
              have HRW := hide (And.intro e1 hrow)
              clear hsp hrow hrd e1 hBr hrg hone hth hbw hbq hsi hsi2 H1
              obtain ⟨A, hA⟩ : ∃ A, spA c (g * 912 + n * 456 + i * 19) = A := ⟨_, rfl⟩
              rw [hA] at Hrg Hone Hth Hsi Hrg2 HBW HCF H2 HW1 HBQ
              have HA := hide hA
              clear hA
              go_wp2_with (first | (refine wpList_load_mid rfl 104 _ rfl r (g * 912 + n * 456 + i * 19) rfl A.toList _ Hrg.out Tryz.underlying104 rfl Hsi.out.1 ?_) | (refine wpList_allocSp rfl rfl ?_) | (refine wpList_store_mid rfl 104 _ _ rfl wr.heap.size 0 A rfl rfl Hth.out Hsi.out.2 Hone.out ?_) | (refine wpList_load_mid rfl 104 _ rfl wr.heap.size 0 rfl A.toList _ Hrg2.out Tryz.underlying104 rfl Hsi.out.1 ?_))
              refine (HCF.out _).mono ?_
              rintro e w2 ⟨v2, rfl, hvo, hb2⟩
              obtain ⟨dp, dc, rfl, hdr⟩ := RowF.rd (row_mono hvo (Nat.zero_le _))
              have hq2 := (hb2.block _ HW1.out).trans HBQ.out
              rw [← HA.out] at hq2
              have x0 := spA_cell hq2 (t := 0) (by omega)
              have x1 := spA_cell hq2 (t := 1) (by omega)
              have x2 := spA_cell hq2 (t := 2) (by omega)
              rw [← hp] at x0 x1 x2
              rw [Nat.add_zero, HSP.out.h] at x0
              rw [HSP.out.v] at x1
              rw [HSP.out.l, HRW.out.1] at x2
              have H3 := hide (H2.out.later hb2)
              have hcr : CrOK w2 0 ⟨a.at κ, .slice la (a.L κ).length lc, .slice dp (a.D κ).length dc⟩ := ⟨by rw [← HRW.out.1]; exact RowO.later HRW.out.2 (H2.out.bel.trans (hb2.mono H2.out.bel.size)), row_mono hvo (Nat.zero_le _)⟩
              obtain ⟨ks, xs, d1, d2, d3, hown, d5⟩ := H3.out.dat
              obtain ⟨v', w', hrun, hrow', hbel'⟩ := appC1 hown ⟨a.at κ, .slice la (a.L κ).length lc, .slice dp (a.D κ).length dc⟩ hcr (by omega) H3.out.bel.size
              have hm : offK κ = 19 * (g * 48 + n * 24 + i) := by rw [hp]; omega
              have HX : Hid (NeK a κ → CsD w w' a (g * 48 + n * 24 + (i + 1)) v') := fun hne => CsD.add d1 d2 d3 d5 H3.out.bel hκ hm hne _ rfl hrow' hbel'
              have HY : Hid (¬ NeK a κ → CsD w w2 a (g * 48 + n * 24 + (i + 1)) _) := fun hne => H3.out.skip hκ hm hne
              have hrun2 : ∀ ty, (Builtin.append_ #[56, 56] ty #[_, .slice (some ⟨w2.heap.size, 0, none⟩) 1 1]).run Tryz.prog (w2.alloc (.cells #[.int .i64 κ.g, .int .i64 κ.n, .int .i64 κ.i, .bool (a.V κ).isSome, .int .i64 ((a.V κ).getD 0), .slice la (a.L κ).length lc, .slice dp (a.D κ).length dc] 76)) = .ok v' w' := hrun
              rw [hkg, hkn, hki] at hrun2
              have HNE : Hid (NeK a κ ↔ ((a.V κ).isSome = true ∨ 0 < (a.L κ).length ∨ 0 < (a.D κ).length)) := by
                show NeK a κ ↔ _
                unfold NeK
                rw [List.length_pos_iff, List.length_pos_iff, Option.isSome_iff_ne_none]
              clear HA hrun hrow' hbel' hown hcr hq2 hvo hdr hb2 d1 d2 d3 d5 H3 H2 HRW HSP HBQ HW1 HCF HBW Hrg2 Hsi Hth Hone Hrg
              generalize (a.V κ).isSome = hb at *
              generalize (a.V κ).getD 0 = hv at *
              generalize (a.L κ).length = ln at *
              generalize (a.D κ).length = dn at *
              have HR2 := hide hrun2
              clear hrun2
              cases hb with
              | true =>
                have HZ := hide (HX.out (HNE.out.2 (Or.inl rfl)))
                clear HX HY HNE
                go_wp2_with (at_builtin; refine wpList_ran rfl (.tmp 43) (.tmp 56) _ _ rfl _ _ v' (by rfl) (by rfl) HR2.out ?_)
                go_roundg (24 - (i + 1))
                case measure => omega
                case rel => exact ⟨i + 1, rfl, by omega, by simp, HZ⟩
              | false =>
                by_cases hln : 0 < ln
                · have hlz : (0 : Int) < (ln : Int) := by omega
                  have HZ := hide (HX.out (HNE.out.2 (Or.inr (Or.inl hln))))
                  clear HX HY HNE
                  go_wp2_with (at_builtin; refine wpList_ran rfl (.tmp 43) (.tmp 56) _ _ rfl _ _ v' (by rfl) (by rfl) HR2.out ?_)
                  go_roundg (24 - (i + 1))
                  case measure => omega
                  case rel => exact ⟨i + 1, rfl, by omega, by simp, HZ⟩
                · have hlz : ¬ (0 : Int) < (ln : Int) := by omega
                  by_cases hdn : 0 < dn
                  · have hdz : (0 : Int) < (dn : Int) := by omega
                    have HZ := hide (HX.out (HNE.out.2 (Or.inr (Or.inr hdn))))
                    clear HX HY HNE
                    go_wp2_with (at_builtin; refine wpList_ran rfl (.tmp 43) (.tmp 56) _ _ rfl _ _ v' (by rfl) (by rfl) HR2.out ?_)
                    go_roundg (24 - (i + 1))
                    case measure => omega
                    case rel => exact ⟨i + 1, rfl, by omega, by simp, HZ⟩
                  · have hdz : ¬ (0 : Int) < (dn : Int) := by omega
                    have HZ := hide (HY.out (fun e => by
                      rcases HNE.out.1 e with e | e | e
                      · cases e
                      · exact hln e
                      · exact hdn e))
                    clear HX HY HNE HR2
                    go_wp2
                    go_roundg (24 - (i + 1))
                    case measure => omega
                    case rel => exact ⟨i + 1, rfl, by omega, by simp, HZ⟩
            · have hix : ¬ ((i : Nat) : Int) < 24 := by omega
              have e : g * 48 + n * 24 + i = g * 48 + (n + 1) * 24 := by omega
              rw [e] at H1
              go_wp2
              go_roundg (2 - (n + 1))
              case measure => omega
              case rel => exact ⟨n + 1, rfl, by omega, by simp, H1⟩
        · have hnx : ¬ ((n : Nat) : Int) < 2 := by omega
          have e : g * 48 + n * 24 = (g + 1) * 48 := by omega
          rw [e] at H1
          go_wp2
          go_roundg (4 - (g + 1))
          case measure => omega
          case rel => exact ⟨g + 1, rfl, by omega, by simp, H1⟩
    · have hgx : ¬ ((g : Nat) : Int) < 4 := by omega
      have e : g * 48 = 192 := by omega
      rw [e] at H1
      have HF := hide (H1.out.fin HU.out)
      clear H1
      go_wp2
      go_ret
      obtain ⟨xs, ks, h1, h2, h3, h4⟩ := HF.out
      exact ⟨_, rfl, xs, ks, h1, h2, h3, h4⟩
end Go.Proofs.YtgglokfpafbmeaaGreat
