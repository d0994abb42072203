/- The document's own changes: contracts of its Mut and GetMut. -/
import Derived.Test.YtgpfpmocdmeldaaGreatMutE
import Derived.Test.YtgpfpmocdmeldaaGreatMutR
import Derived.Test.YtgpfpmocdmeldaaGreatLawD
namespace Go.Proofs.YtgpfpmocdmeldaaGreat
open Go.RowKit

theorem four_at (k g n i : Int) (j : Nat) (hj : j < 4) (p1 : 0 ≤ k ∧ k < 128) (p2 : 0 ≤ g ∧ g < 128) (p3 : 0 ≤ n ∧ n < 128) (p4 : 0 ≤ i ∧ i < 128) :
    ∃ x : Nat, x < 128 ∧ (#[Value.int .i64 k, Value.int .i64 g, Value.int .i64 n, Value.int .i64 i] : Array Value)[j]? = some (.int .i64 (x : Int)) ∧ [k, g, n, i].take (j + 1) = [k, g, n, i].take j ++ [(x : Int)] := by
  rcases (show j = 0 ∨ j = 1 ∨ j = 2 ∨ j = 3 by omega) with rfl | rfl | rfl | rfl
  · exact ⟨k.toNat, by omega, by simp; omega, by simp; omega⟩
  · exact ⟨g.toNat, by omega, by simp; omega, by simp; omega⟩
  · exact ⟨n.toNat, by omega, by simp; omega, by simp; omega⟩
  · exact ⟨i.toNat, by omega, by simp; omega, by simp; omega⟩

theorem owns_base {w : World} {B B' : Nat} {v : Value} {l : List Int} (h : w.ownsInts B' 5 .u8 v l) (hB : B ≤ B') : w.ownsInts B 5 .u8 v l := by
  obtain ⟨⟨h1, h2⟩, h3⟩ := h
  refine ⟨⟨h1, ?_⟩, h3⟩
  rcases h2 with h2 | ⟨g, cap, cur, e, hg, rest⟩
  · exact Or.inl h2
  · exact Or.inr ⟨g, cap, cur, e, Nat.le_trans hB hg, rest⟩

set_option maxRecDepth 100000 in
set_option maxHeartbeats 1600000 in
theorem refMut_any (m : Mt) (hm : mayB m = true) (hv : vOk m) (w : World) :
    Calls Tryz.prog 17 #[mV m] w fun e w' => ∃ v', e = .returned v' ∧ w'.ownsInts w.heap.size 5 .u8 v' (mutB m) ∧ Below w.heap.size w w' := by
  obtain ⟨p1, p2, p3, p4, p5, _, _⟩ := may_parts hm
  have HV := hide hv
  obtain ⟨k, g, n, i, f, x⟩ := m
  have ha : Below w.heap.size w ((w.alloc (mtObj ⟨k, g, n, i, f, x⟩)).alloc (.cells #[.int .i64 k, .int .i64 g, .int .i64 n, .int .i64 i] 3)) := (below_alloc w _ _ (Nat.le_refl _)).trans (below_alloc _ _ _ (by simp))
  have h0 : ((w.alloc (mtObj ⟨k, g, n, i, f, x⟩)).alloc (.cells #[.int .i64 k, .int .i64 g, .int .i64 n, .int .i64 i] 3)).heap[w.heap.size]? = some (mtObj ⟨k, g, n, i, f, x⟩) := by
    rw [Below.heap_alloc _ _ _ (by simp)]; exact heap_alloc_new w _
  have h1 : ((w.alloc (mtObj ⟨k, g, n, i, f, x⟩)).alloc (.cells #[.int .i64 k, .int .i64 g, .int .i64 n, .int .i64 i] 3)).heap[w.heap.size + 1]? = some (.cells #[.int .i64 k, .int .i64 g, .int .i64 n, .int .i64 i] 3) := by
    have := heap_alloc_new (w.alloc (mtObj ⟨k, g, n, i, f, x⟩)) (.cells #[.int .i64 k, .int .i64 g, .int .i64 n, .int .i64 i] 3)
    simpa using this
  have HM := hide h0
  have HR := hide h1
  have HA := hide ha
  clear h0 h1 ha hv hm
  have EB : Hid (mutB ⟨k, g, n, i, f, x⟩ = [k, g, n, i] ++ (if hasF k then [f] else []) ++ (if hasV k then M.numB 9 (fold x) else [])) := by show _ = _; simp [mutB]
  unfold mtObj at HA HM HR
  unfold mV
  simp only at *
  go_enter Tryz.func17, Tryz.ntmps17
  go_wp2
  generalize (w.alloc (.cells #[.int .i64 k, .int .i64 g, .int .i64 n, .int .i64 i, .int .i64 f, .int .i64 x] 40 (0, 0))).alloc (.cells #[.int .i64 k, .int .i64 g, .int .i64 n, .int .i64 i] 3 (0, 0)) = W0 at *
  have hs0 := HA.out.size
  go_loopw [3, 19] (fun v i' wr => ∃ j : Nat, j ≤ 4 ∧ i' = .int .i64 j ∧ wr.ownsInts W0.heap.size 5 .u8 v ([k, g, n, i].take j) ∧ Below W0.heap.size W0 wr) (fun _ i' _ => 4 - (intOf i').toNat)
  case atStart => exact ⟨0, by omega, rfl, by simpa using World.ownsInts_nil _ _ _ _, Below.refl _ _⟩
  case round =>
    obtain ⟨j, hj, rfl, hown, hbel⟩ := hrel
    by_cases hlt : j < 4
    · obtain ⟨y, hy, hcy, hty⟩ := four_at k g n i j hlt (by omega) (by omega) (by omega) (by omega)
      have hrow := (hbel.block _ (lt_of_heap HR.out)).trans HR.out
      have hcell : wr.cell? ⟨w.heap.size + 1, j, none⟩ = some (.int .i64 (y : Int)) := by
        unfold World.cell?
        rw [hrow]
        simpa using hcy
      have HT := hide hty
      have HO := hide hown
      have HB := hide hbel
      have hlen : ([k, g, n, i].take j).length = j := by rw [List.length_take]; simp; omega
      have HLE := hide hlen
      clear hcy hrow hty hown hbel hlen
      generalize [k, g, n, i].take j = L at *
      go_wp2_with fail
      refine (refNum_bs y _ (by omega)).mono ?_
      rintro e w1 ⟨a1, k1, c1, X, rfl, HX, hk1, hk10, hbs, hb⟩
      have eX : X = [(y : Int)] := by rw [HX.out, M.numB_lt 9 y hy]
      subst eX
      have HO1 := hide (owns_later HO.out hb)
      have HB1 := hide (HB.out.trans (hb.mono HB.out.size))
      have hs1 := HB1.out.size
      have HBS := hide hbs
      clear hcell hb HO HB hbs
      go_wp2_with (at_builtin; refine wpList_app rfl (.tmp 23) (.tmp 26) rfl W0.heap.size _ L rfl HO1.out a1 k1 c1 [(y : Int)] rfl HBS.out (by have := HLE.out; omega) hs1 ?_)
      intro v2 w2 ho2 hg2 _
      have hb2 := HB1.out.trans (below_app HO1.out hg2 hs1)
      have HO2 := hide ho2
      have HB2 := hide hb2
      clear ho2 hg2 hb2 HBS HO1 HB1
      go_wp2
      go_roundw
      case rel => exact ⟨j + 1, by omega, by go_num, by rw [HT.out]; exact HO2.out, HB2.out⟩
      case measure => simp [intOf]; omega
    · obtain rfl : j = 4 := by omega
      have HO := hide (show wr.ownsInts W0.heap.size 5 .u8 _ [k, g, n, i] from hown)
      have HB := hide hbel
      have HMr := hide ((hbel.block _ (lt_of_heap HM.out)).trans HM.out)
      obtain ⟨c0, c1, c2, c3, c4, c5⟩ := mt_cells (m := ⟨k, g, n, i, f, x⟩) HMr.out
      simp only at c0 c1 c2 c3 c4 c5
      have hsr := hbel.size
      clear hown hbel
      have hfx : ∃ y : Nat, f = (y : Int) ∧ y < 128 := ⟨f.toNat, by omega, by omega⟩
      obtain ⟨y, rfl, hy⟩ := hfx
      by_cases hF : k = 5 ∨ k = 6
      · have eF : hasF k = true := by simp [hasF, hF]
        have hF1 : ((k == 5) = true ∧ hasV k = true) ∨ ((k == 5) = false ∧ (k == 6) = true ∧ (k == 1) = false ∧ (k == 3) = false ∧ hasV k = false) := by
          rcases hF with rfl | rfl
          · exact Or.inl ⟨by decide, by decide⟩
          · exact Or.inr ⟨by decide, by decide, by decide, by decide, by decide⟩
        have h13 : (k == 1) = false ∧ (k == 3) = false := by rcases hF with rfl | rfl <;> decide
        obtain ⟨g1, g3⟩ := h13
        have EB2 : Hid (mutB ⟨k, g, n, i, (y : Int), x⟩ = [k, g, n, i] ++ [(y : Int)] ++ (if hasV k then M.numB 9 (fold x) else [])) := by rw [EB.out, eF]; rfl
        clear hF
        rcases hF1 with ⟨g5, eV⟩ | ⟨g5, g6, _, _, eV⟩
        · go_wp2_with fail
          refine (refNum_bs y _ (by omega)).mono ?_
          rintro e w1 ⟨a1, k1, cc1, X, rfl, HX, hk1, hk10, hbs, hb⟩
          have eX : X = [(y : Int)] := by rw [HX.out, M.numB_lt 9 y hy]
          subst eX
          have HO1 := hide (owns_later HO.out hb)
          have HB1 := hide (HB.out.trans (hb.mono HB.out.size))
          have hs1 := HB1.out.size
          have HBS := hide hbs
          clear hb HO HB hbs c0 c1 c2 c3 c4 c5
          go_wp2_with (at_builtin; refine wpList_app rfl (.tmp 37) (.tmp 41) rfl W0.heap.size _ [k, g, n, i] rfl HO1.out a1 k1 cc1 [(y : Int)] rfl HBS.out (by simp; omega) hs1 ?_)
          intro v2 w2 ho2 hg2 _
          have HO2 := hide ho2
          have HB2 := hide (HB1.out.trans (below_app HO1.out hg2 hs1))
          have hs2 := HB2.out.size
          have HM2 := hide ((HB2.out.block _ (lt_of_heap HM.out)).trans HM.out)
          obtain ⟨c0, c1, c2, c3, c4, c5⟩ := mt_cells (m := ⟨k, g, n, i, (y : Int), x⟩) HM2.out
          simp only at c0 c1 c2 c3 c4 c5
          clear ho2 hg2 HBS HO1 HB1
          go_wp2_with fail
          refine (refInt_bs x _ HV.out.1 HV.out.2).mono ?_
          rintro e w3 ⟨a3, k3, cc3, X3, rfl, HX3, hk31, hk310, hbs3, hb3⟩
          have HO3 := hide (owns_later HO2.out hb3)
          have HB3 := hide (HB2.out.trans (hb3.mono HB2.out.size))
          have hs3 := HB3.out.size
          have HBS3 := hide hbs3
          clear c0 c1 c2 c3 c4 c5 hbs3 hb3 HO2 HB2
          go_wp2_with (at_builtin; refine wpList_app rfl (.tmp 56) (.tmp 59) rfl W0.heap.size _ ([k, g, n, i] ++ [(y : Int)]) rfl HO3.out a3 k3 cc3 X3 rfl HBS3.out (by simp; omega) hs3 ?_)
          intro v4 w4 ho4 hg4 _
          have HB4 := hide (HB3.out.trans (below_app HO3.out hg4 hs3))
          rw [HX3.out] at ho4
          have e4 : mutB ⟨k, g, n, i, (y : Int), x⟩ = [k, g, n, i] ++ [(y : Int)] ++ M.numB 9 (fold x) := by rw [EB2.out, eV]; rfl
          have ho5 : w4.ownsInts W0.heap.size 5 .u8 v4 (mutB ⟨k, g, n, i, (y : Int), x⟩) := by rw [e4]; simpa using ho4
          have HO4 := hide (owns_base ho5 hs0)
          have HF := hide (HA.out.trans (HB4.out.mono hs0))
          clear ho4 ho5 hg4 HB4 HBS3 HO3 HB3
          go_wp2
          go_ret
          exact ⟨_, rfl, HO4.out, HF.out⟩
        · go_wp2_with fail
          refine (refNum_bs y _ (by omega)).mono ?_
          rintro e w1 ⟨a1, k1, cc1, X, rfl, HX, hk1, hk10, hbs, hb⟩
          have eX : X = [(y : Int)] := by rw [HX.out, M.numB_lt 9 y hy]
          subst eX
          have HO1 := hide (owns_later HO.out hb)
          have HB1 := hide (HB.out.trans (hb.mono HB.out.size))
          have hs1 := HB1.out.size
          have HBS := hide hbs
          clear hb HO HB hbs c0 c1 c2 c3 c4 c5
          go_wp2_with (at_builtin; refine wpList_app rfl (.tmp 37) (.tmp 41) rfl W0.heap.size _ [k, g, n, i] rfl HO1.out a1 k1 cc1 [(y : Int)] rfl HBS.out (by simp; omega) hs1 ?_)
          intro v2 w2 ho2 hg2 _
          have e4 : mutB ⟨k, g, n, i, (y : Int), x⟩ = [k, g, n, i] ++ [(y : Int)] := by rw [EB2.out, eV]; simp
          have ho5 : w2.ownsInts W0.heap.size 5 .u8 v2 (mutB ⟨k, g, n, i, (y : Int), x⟩) := by rw [e4]; simpa using ho2
          have HO2 := hide (owns_base ho5 hs0)
          have HB2 := hide (HB1.out.trans (below_app HO1.out hg2 hs1))
          have HM2 := hide ((HB2.out.block _ (lt_of_heap HM.out)).trans HM.out)
          obtain ⟨c0, c1, c2, c3, c4, c5⟩ := mt_cells (m := ⟨k, g, n, i, (y : Int), x⟩) HM2.out
          simp only at c0 c1 c2 c3 c4 c5
          have HF := hide (HA.out.trans (HB2.out.mono hs0))
          clear ho2 ho5 hg2 HBS HO1 HB1
          go_wp2
          go_ret
          exact ⟨_, rfl, HO2.out, HF.out⟩
      · have eF : hasF k = false := by simp [hasF]; omega
        have g5 : (k == 5) = false := by simp; omega
        have g6 : (k == 6) = false := by simp; omega
        have EB2 : Hid (mutB ⟨k, g, n, i, (y : Int), x⟩ = [k, g, n, i] ++ (if hasV k then M.numB 9 (fold x) else [])) := by rw [EB.out, eF]; show _ = _; simp
        by_cases hV : k = 1 ∨ k = 3
        · have eV : hasV k = true := by simp [hasV]; omega
          have e4 : mutB ⟨k, g, n, i, (y : Int), x⟩ = [k, g, n, i] ++ M.numB 9 (fold x) := by rw [EB2.out, eV]; rfl
          have E4 := hide e4
          have hV1 : (k == 1) = true ∨ ((k == 1) = false ∧ (k == 3) = true) := by rcases hV with rfl | rfl <;> decide
          clear hV hF e4
          rcases hV1 with g1 | ⟨g1, g3⟩
          all_goals
            go_wp2_with fail
            refine (refInt_bs x _ HV.out.1 HV.out.2).mono ?_
            rintro e w3 ⟨a3, k3, cc3, X3, rfl, HX3, hk31, hk310, hbs3, hb3⟩
            have HO3 := hide (owns_later HO.out hb3)
            have HB3 := hide (HB.out.trans (hb3.mono HB.out.size))
            have hs3 := HB3.out.size
            have HBS3 := hide hbs3
            clear c0 c1 c2 c3 c4 c5 hbs3 hb3 HO HB
            go_wp2_with (at_builtin; refine wpList_app rfl (.tmp 56) (.tmp 59) rfl W0.heap.size _ [k, g, n, i] rfl HO3.out a3 k3 cc3 X3 rfl HBS3.out (by simp; omega) hs3 ?_)
            intro v4 w4 ho4 hg4 _
            have HB4 := hide (HB3.out.trans (below_app HO3.out hg4 hs3))
            have ho5 : w4.ownsInts W0.heap.size 5 .u8 v4 (mutB ⟨k, g, n, i, (y : Int), x⟩) := by rw [E4.out, ← HX3.out]; simpa using ho4
            have HO4 := hide (owns_base ho5 hs0)
            have HF := hide (HA.out.trans (HB4.out.mono hs0))
            clear ho4 ho5 hg4 HB4 HBS3 HO3 HB3
            go_wp2
            go_ret
            exact ⟨_, rfl, HO4.out, HF.out⟩
        · have eV : hasV k = false := by simp [hasV]; omega
          have g1 : (k == 1) = false := by simp; omega
          have g3 : (k == 3) = false := by simp; omega
          have e4 : mutB ⟨k, g, n, i, (y : Int), x⟩ = [k, g, n, i] := by rw [EB2.out, eV]; simp
          have ho := HO.out
          rw [← e4] at ho
          have HO4 := hide (owns_base ho hs0)
          have HF := hide (HA.out.trans (HB.out.mono hs0))
          clear hV hF ho e4 HO
          go_wp2
          go_ret
          exact ⟨_, rfl, HO4.out, HF.out⟩
end Go.Proofs.YtgpfpmocdmeldaaGreat
