/- The statement StoreRoom: a store takes as many bytes as there is room for and not one more, and what goes makes room, for all rooms and sizes. -/
import Derived.Test.YtgpfpmocdmeldaaStore6
import Derived.Test.YtgpfpmocdmeldaaLawG
import Derived.Test.YtgpfpmocdmeldaaBegun
import Derived.Deep.DeepCutAuto
namespace Go.Proofs.Ytgpfpmocdmeldaa.storeRoom
open Go.ChangeShapes Go.WideShapes Go.ChangeAt Go.RowKit Go.MapKept

set_option maxRecDepth 100000 in
set_option maxHeartbeats 4000000 in
theorem walk (room : Int) (a : Option Addr) (n c : Nat) (z : List Int) (w : World) (wr0 : (Lit.int .i64 room).wf = true) (h : Row .i64 w a n c z) :
    Calls Try.prog 4 #[.int .i64 room, .slice a n c] w fun e w' => e = .returned (.bool true) ∧ Below w.heap.size w w' := by
  have hro := wf_i64 wr0
  have HR := hide h
  have HZ := hide h.1
  clear wr0 h
  obtain ⟨r, i, hr, hr1, hr2, hi, hi3⟩ := len300 room
  go_enter Try.func4, Try.ntmps4
  go_wp2_with fail
  refine (begun_true _).mono ?_
  rintro e w1 ⟨rfl, hb1⟩
  have H1 := hide hb1
  have HR1 := hide (HR.out.later hb1 (Nat.le_refl _))
  clear hb1 HR
  go_wp2_with fail
  rw [hi]
  refine (storeNew6 _ (by omega) _).mono ?_
  rintro e w2 ⟨rfl, rfl⟩
  have h0 := heap_alloc_new w1 (stObj (1 + (i : Int)) 0 none)
  have hba := below_alloc w1 (stObj (1 + (i : Int)) 0 none) w1.heap.size (Nat.le_refl _)
  obtain ⟨g, Hg⟩ : ∃ g, Hid (g = w1.heap.size) := ⟨_, rfl⟩
  have hsz : (w1.alloc (stObj (1 + (i : Int)) 0 none)).heap.size = w1.heap.size + 1 := by simp
  rw [← Hg.out] at h0 hba hsz ⊢
  have HS0 : Hid (Sto (w1.alloc (stObj (1 + (i : Int)) 0 none)) g g (1 + (i : Int)) 0 none [] 0) := ⟨h0, Nat.le_refl _, (fun mb e => by cases e), fun _ => ⟨rfl, rfl⟩, by simp⟩
  have HBA := hide hba
  have hgw : w1.heap.size = g := Hg.out.symm
  clear h0 hba hr hr1 hr2 hi
  generalize w1.alloc (stObj (1 + (i : Int)) 0 none) = W1 at *
  go_wp2
  go_loopw [7, 8, 9] (fun us vh ix wr => ∃ (k u : Nat) (J : List Nat) (mo : Option Nat) (l : List (Ent ByteArray)) (cc : Nat), k ≤ n ∧ k ≤ 20 ∧ u ≤ 1 + i ∧ us = .int .i64 u ∧ ix = .int .i64 k ∧ Hid (Sto wr g g (1 + (i : Int)) u mo l cc) ∧ Hid (l.map Ent.k = J.map nameN) ∧ Hid (J.Pairwise (· < ·)) ∧ Hid (∀ j ∈ J, j < k) ∧ Hid (wr.ownsRow (g + 1) 3 1 vh (l.map lenI).length ((l.map lenI).map (Value.int .i64))) ∧ Hid (u = (l.map lenE).sum) ∧ Hid (∀ q, mo = some q → vh.ownBlock ≠ some q) ∧ Hid (Below g W1 wr) ∧ Hid (J.length ≤ k)) (fun _ _ ix _ => 20 - (intOf ix).toNat)
  case atStart => exact ⟨0, 0, [], none, [], 0, by omega, by omega, by omega, rfl, rfl, HS0, rfl, hide (by simp), hide (by simp), hide (by simpa using World.ownsRow_nil _ _ _ _), rfl, (fun q e => by cases e), Below.refl _ _, hide (by simp)⟩
  case round =>
    obtain ⟨k, u, J, mo, l, cc, hk, hk20, hu, rfl, rfl, HS, HK, HJ, HJk, HH, HU, HV, HB, HJl⟩ := hrel
    by_cases hin : k < n ∧ k < 20
    · obtain ⟨hlt, hlt20⟩ := hin
      have hW : Below g w1 wr := HBA.out.trans HB.out
      obtain ⟨rb, ro, rfl, hcell⟩ := (HR1.out.later hW (by omega)).2.2.2.2.1 (by omega)
      have hck := hcell k hlt
      have hwf := wf_i64 (HR1.out.2.2.2.2.2 (z.getD k 0) (by
        have : k < z.length := by rw [HZ.out]; exact hlt
        simp [this]))
      rw [List.getD_eq_getElem?_getD] at hck hwf
      generalize z[k]?.getD 0 = y at *
      obtain ⟨r, m, hr, hr1, hr2, hm, hm60⟩ := len60 y
      have hm' : r % 60 = (m : Int) := by omega
      clear hm
      have cv := conv_any (some ⟨wr.heap.size, 0, none⟩) 1 1 [97 + (k : Int)] (wr.alloc (.cells #[.int .u8 (97 + (k : Int))] 5)) (wr.alloc (.cells #[.int .u8 (97 + (k : Int))] 5)) (Bs.one wr (97 + (k : Int)) (by omega)) (fun _ _ h => h)
      have hnm := nameN_eq k hlt20
      have HNW := hide (names_new J k HJk.out hlt20)
      have hgs := lt_of_heap HS.out.obj
      have HA := hide (below_alloc wr (.cells #[.int .u8 (97 + (k : Int))] 5) wr.heap.size (Nat.le_refl _))
      have hsA : wr.heap.size + 1 ≤ (wr.alloc (.cells #[.int .u8 (97 + (k : Int))] 5)).heap.size := by simp
      clear hcell hW
      by_cases hfit : u + m ≤ 1 + i
      · have HA2 := hide (fun (W : World) => below_alloc W (.cells #[.int .i64 (m : Int)] 3) W.heap.size (Nat.le_refl _))
        have hEg : Hid ((l.map lenI).length ≤ 1000000) := by
          have e := congrArg List.length HK.out
          simp at e
          show _ ≤ _
          have := HJl.out
          simp; omega
        go_upto_region 17 with fail
        generalize wr.alloc (.cells #[.int .u8 (97 + (k : Int))] 5) = WA at *
        have hHA := World.ownsRow.kept HH.out (below_grown HA.out none) (by cases e : u8.ownBlock with | none => exact Or.inl rfl | some _ => exact Or.inr (by simp))
        have hHA2 := World.ownsRow.kept hHA (below_grown (HA2.out WA) none) (by cases e : u8.ownBlock with | none => exact Or.inl rfl | some _ => exact Or.inr (by simp))
        have HHA := hide hHA2
        have hlow := World.ownsRow.lt HH.out
        have HLOW := hide hlow
        have HVs := HV
        have hAS := HA.out.size
        clear hHA hHA2 cv hr hr1 hr2 hck hwf hlow
        have T1 : (WA.alloc (.cells #[.int .i64 (m : Int)] 3)).cell? ⟨WA.heap.size, 0, none⟩ = some (.int .i64 (m : Int)) := by simp
        have T2 : g + 1 ≤ (WA.alloc (.cells #[.int .i64 (m : Int)] 3)).heap.size := by simp; omega
        go_wp2_with (at_builtin; refine wpList_appIn rfl (.tmp 56) (.tmp 58) rfl (g + 1) _ (l.map lenI) rfl HHA.out WA.heap.size (m : Int) rfl T1 hEg.out T2 ?_)
        intro v2 W2 ho2 hg2 hk2
        have hsB : W2.heap.size ≥ WA.heap.size + 1 := by have := hg2.size; simpa using this
        have hS2 : Sto W2 g g (1 + (i : Int)) u mo l cc := by
          have q1 := (HS.out.later HA.out (Nat.le_refl _)).later (HA2.out WA) (Nat.le_refl _)
          refine ⟨?_, q1.low, fun mb e => ?_, q1.none, q1.vals⟩
          · rw [hg2.block g (lt_of_heap q1.obj) (fun e => by have := (HLOW.out g e.symm).1; omega)]
            exact q1.obj
          · obtain ⟨k1, k2, k3⟩ := q1.made mb e
            exact ⟨k1, k2, k3.kept hg2 (fun e' => HV.out mb e e')⟩
        have hB2 : Below g W1 W2 := ((HB.out.trans (HA.out.mono (by omega))).trans ((HA2.out WA).mono (by omega))).grown hg2 (by simp; omega) (fun q hq => by have := (HLOW.out q hq).1; omega)
        have hV2 : v2.ownBlock ≠ some g ∧ ∀ q, mo = some q → v2.ownBlock ≠ some q := by
          have key : ∀ q, q < WA.heap.size → u8.ownBlock ≠ some q → v2.ownBlock ≠ some q := by
            intro q hq hne e
            rcases hk2 with h1 | h1
            · exact hne (by rw [← h1]; exact e)
            · rw [e] at h1; simp at h1; omega
          refine ⟨key g (by omega) (fun e => by have := (HLOW.out g e).1; omega), fun q e => key q ?_ (HV.out q e)⟩
          have := (HS.out.made q e).2.2.lt
          omega
        have HS2 := hide hS2
        have HB2 := hide hB2
        have HV2 := hide hV2
        have HO2 := hide ho2
        have hg2l := lt_of_heap hS2.obj
        clear ho2 hg2 hk2 hS2 hB2 hV2 HHA HLOW HS HB HV HH HVs
        -- the put
        have mk := fun W => made_bytes m (by omega) W
        have hbm := Bs.made W2 m (by omega)
        have hbA := below_alloc W2 (.cells (madeCells #[.int .u8 0] m) 5) W2.heap.size (Nat.le_refl _)
        have HP := hide (storePut4 g g (1 + (i : Int)) u mo l cc (nameN k) _ m m _ _ (HS2.out.later hbA (Nat.le_refl _)) (by rw [HK.out]; exact HNW.out) (by rw [nameN_size]; omega) (by rw [nameN_size]; omega) hbm (fun ad e _ => by cases e; simp; omega) (by omega) (by omega) (by omega) (by omega) (by omega))
        have hO3 := World.ownsRow.kept HO2.out (below_grown hbA none) (by cases e : v2.ownBlock with | none => exact Or.inl rfl | some _ => exact Or.inr (by simp))
        have HO3 := hide hO3
        have HB3 := hide (HB2.out.trans (hbA.mono (by omega)))
        have hsz3 : W2.heap.size + 1 ≤ (W2.alloc (.cells (madeCells #[.int .u8 0] m) 5)).heap.size := by simp
        have hmoL : ∀ q, mo = some q → q < W2.heap.size := fun q e => (HS2.out.made q e).2.2.lt
        have HML := hide hmoL
        clear hbm hbA hO3 HO2 HB2 HS2 hmoL
        generalize madeCells #[.int .u8 0] m = MC at *
        go_wp2_with fail
        refine HP.out.mono ?_
        rintro e W4 ⟨hb4, hf4, hor⟩
        rcases hor with ⟨_, rfl, mb, hmo, hsz4, hmn, gv, hS4⟩ | ⟨hno, _⟩
        · have hO4 := row_fr HO3.out hf4 HV2.out.1 HV2.out.2
          have hB4 := HB3.out.trans hb4
          have hvl := World.ownsRow.lt HO3.out
          have hV4 : ∀ q, some mb = some q → v2.ownBlock ≠ some q := by
            rintro q e
            cases e
            cases hm' : mo with
            | some q =>
              have := hmo q hm'
              subst this
              exact HV2.out.2 _ hm'
            | none =>
              intro e
              have h1 := hmn hm'
              have h2 := (hvl _ e).2
              omega
          have HS4 := hide hS4
          have HO4 := hide hO4
          have HB4 := hide hB4
          have HV4 := hide hV4
          have hg4 := lt_of_heap hS4.obj
          clear hb4 hf4 hmo hsz4 hmn hS4 hO4 hB4 hvl hV4 HO3 HB3 HV2 HP HML mk
          go_wp2_with fail
          refine (storeUsed4 g _ _ _ W4 HS4.out.obj).mono ?_
          rintro e W5 ⟨rfl, rfl⟩
          have hA5 := below_alloc W5 (.cells #[.string (nameN k)] 9) W5.heap.size (Nat.le_refl _)
          have hin5 : nameN k ∈ (l ++ [(⟨nameN k, Value.slice (some ⟨gv, 0, none⟩) m m, cc⟩ : Ent ByteArray)]).map Ent.k := by simp
          obtain ⟨_, _, _, hat⟩ := atE_some hin5
          have HH5 := hide (storeHas4 g g W5.heap.size _ _ _ _ _ (nameN k) _ (HS4.out.later hA5 (Nat.le_refl _)) (by simp) true (by rw [hat]; rfl))
          have HS6 := hide (HS4.out.later hA5 (Nat.le_refl _))
          have HO6 := hide (World.ownsRow.kept HO4.out (below_grown hA5 none) (by cases e : v2.ownBlock with | none => exact Or.inl rfl | some _ => exact Or.inr (by simp)))
          have HB6 := hide (HB4.out.trans (hA5.mono (by omega)))
          clear hA5 hin5 hat HS4 HO4 HB4
          go_wp2_with fail
          refine HH5.out.mono ?_
          rintro e W6 ⟨rfl, rfl⟩
          clear HH5
          go_wp2
          go_roundw
          case rel =>
            refine ⟨k + 1, u + m, J ++ [k], some mb, _, cc + 1, by omega, by omega, by omega, by go_num, by go_num, hide (by simpa using HS6.out), hide (by simp [HK.out]), hide ?_, hide ?_, hide (by simpa [lenI, lenV] using HO6.out), hide (by rw [sum_snoc, ← HU.out]; rfl), HV4, HB6, hide (by have := HJl.out; simp; omega)⟩
            · rw [List.pairwise_append]
              exact ⟨HJ.out, by simp, fun x hx y hy => by simp at hy; subst hy; exact HJk.out x hx⟩
            · intro j hj
              rcases List.mem_append.1 hj with hj | hj
              · have := HJk.out j hj; omega
              · simp at hj; omega
          case measure => simp [intOf]; omega
        · exact absurd hno (by omega)
      · have HHA := hide (World.ownsRow.kept HH.out (below_grown HA.out none) (by cases e : u8.ownBlock with | none => exact Or.inl rfl | some _ => exact Or.inr (by simp)))
        have HS2 := hide (HS.out.later HA.out (Nat.le_refl _))
        have HB2 := hide (HB.out.trans (HA.out.mono (by omega)))
        have hlow := World.ownsRow.lt HH.out
        have HLOW := hide hlow
        have mk := fun W => made_bytes m (by omega) W
        go_upto_region 18 with fail
        generalize wr.alloc (.cells #[.int .u8 (97 + (k : Int))] 5) = WA at *
        have hg2l := lt_of_heap HS2.out.obj
        have hbm := Bs.made WA m (by omega)
        have hbA := below_alloc WA (.cells (madeCells #[.int .u8 0] m) 5) WA.heap.size (Nat.le_refl _)
        have HP := hide (storePut4 g g (1 + (i : Int)) u mo l cc (nameN k) _ m m _ _ (HS2.out.later hbA (Nat.le_refl _)) (by rw [HK.out]; exact HNW.out) (by rw [nameN_size]; omega) (by rw [nameN_size]; omega) hbm (fun ad e _ => by cases e; simp; omega) (by omega) (by omega) (by omega) (by omega) (by omega))
        have HO3 := hide (World.ownsRow.kept HHA.out (below_grown hbA none) (by cases e : u8.ownBlock with | none => exact Or.inl rfl | some _ => exact Or.inr (by simp)))
        have HB3 := hide (HB2.out.trans (hbA.mono (by omega)))
        clear hbm hbA HHA HB2 HS2 HS HB HH cv hr hr1 hr2 hck hwf hlow
        generalize madeCells #[.int .u8 0] m = MC at *
        go_wp2_with fail
        refine HP.out.mono ?_
        rintro e W4 ⟨hb4, hf4, hor⟩
        rcases hor with ⟨hyes, _⟩ | ⟨_, rfl, hS4⟩
        · exact absurd hyes (by omega)
        · have hO4 := row_fr HO3.out hf4 (fun e => by have := (HLOW.out g e).1; omega) HV.out
          have HS4 := hide hS4
          have HO4 := hide hO4
          have HB4 := hide (HB3.out.trans hb4)
          have hg4 := lt_of_heap hS4.obj
          clear hb4 hf4 hS4 hO4 HO3 HB3 HP mk HLOW
          go_wp2_with fail
          refine (storeUsed4 g _ _ _ W4 HS4.out.obj).mono ?_
          rintro e W5 ⟨rfl, rfl⟩
          have hA5 := below_alloc W5 (.cells #[.string (nameN k)] 9) W5.heap.size (Nat.le_refl _)
          have hat : atE l (nameN k) = none := atE_none (by rw [HK.out]; exact HNW.out)
          have HH5 := hide (storeHas4 g g W5.heap.size _ _ _ _ _ (nameN k) _ (HS4.out.later hA5 (Nat.le_refl _)) (by simp) false (by rw [hat]; rfl))
          have HS6 := hide (HS4.out.later hA5 (Nat.le_refl _))
          have HO6 := hide (World.ownsRow.kept HO4.out (below_grown hA5 none) (by cases e : u8.ownBlock with | none => exact Or.inl rfl | some _ => exact Or.inr (by simp)))
          have HB6 := hide (HB4.out.trans (hA5.mono (by omega)))
          clear hA5 hat HS4 HO4 HB4
          go_wp2_with fail
          refine HH5.out.mono ?_
          rintro e W6 ⟨rfl, rfl⟩
          clear HH5
          go_wp2
          go_roundw
          case rel =>
            exact ⟨k + 1, u, J, mo, l, cc, by omega, by omega, by omega, rfl, by go_num, HS6, HK, HJ, hide (fun j hj => by have := HJk.out j hj; omega), HO6, HU, HV, HB6, hide (by have := HJl.out; omega)⟩
          case measure => simp [intOf]; omega
    · obtain ⟨WE, rfl⟩ : ∃ V, V = wr := ⟨wr, rfl⟩
      have hcs : ¬ k < n ∨ (k < n ∧ ¬ k < 20) := by omega
      have hLJ := congrArg List.length HK.out
      rw [List.length_map, List.length_map] at hLJ
      have hJ20 := HJl.out
      have hlL : l.length ≤ 20 := by omega
      have HJ20 : Hid (∀ j ∈ J, j < 20) := fun j hj => by have := HJk.out j hj; omega
      have hgl := lt_of_heap HS.out.obj
      clear hin hLJ hJ20
      cases mo with
      | none =>
        obtain ⟨rfl, rfl⟩ := HS.out.none rfl
        have hu0 : u = 0 := HU.out
        subst hu0
        have HL6 := hide (storeList6_nil g _ _ ⟨#[111]⟩ WE HS.out.obj)
        have HO := hide HS.out.obj
        have HB' := hide (H1.out.trans ((HBA.out.trans HB.out).mono (by have := H1.out.size; omega)))
        clear HH HV HS HB
        rcases hcs with hh | ⟨hh, hh2⟩
        all_goals
          go_wp2_with fail
          refine HL6.out.mono ?_
          rintro e W2 ⟨rfl, hb2⟩
          have HL7 := hide (storeList6_nil g _ _ ⟨#[]⟩ W2 ((hb2.block _ (lt_of_heap HO.out)).trans HO.out))
          have HB2 := hide (HB'.out.trans (hb2.mono (by have := HB'.out.size; omega)))
          clear hb2 HL6
          go_wp2
          refine wp_loop_rounds 1 ?_
          rw [rounds_succ]
          go_wp2_with fail
          refine HL7.out.mono ?_
          rintro e W3 ⟨rfl, hb3⟩
          have HB3 := hide (HB2.out.trans (hb3.mono HB2.out.size))
          clear hb3 HL7
          go_wp2
          go_ret
          exact ⟨rfl, HB3.out⟩
      | some mb =>
        have hml := (HS.out.made mb rfl).2.2.lt
        have HOnes := hide (HS.out.made mb rfl).2.2.keys
        have HL5 := hide (storeList5 g g mb _ _ l cc ⟨#[111]⟩ WE HS.out (by omega))
        have hrow := rowI_cells HH.out
        rw [List.length_map] at hrow
        obtain ⟨pb, cb, rfl, hrow⟩ := hrow
        have hlow := World.ownsRow.lt HH.out
        have HROW : Hid (0 < l.length → ∃ gH, pb = some ⟨gH, 0, none⟩ ∧ gH ≠ g ∧ gH ≠ mb ∧ gH < WE.heap.size ∧ ∀ q x, l[q]? = some x → WE.cell? ⟨gH, q, none⟩ = some (.int .i64 (lenI x))) := by
          intro hp
          obtain ⟨gH, rfl, hc⟩ := hrow hp
          have h1 := hlow gH rfl
          refine ⟨gH, rfl, by omega, fun e => HV.out mb rfl (by rw [← e]; rfl), h1.2, fun q x hx => hc q _ (by rw [List.getElem?_map, hx]; rfl)⟩
        have hall : (l.map Ent.k).filter (preB ⟨#[111]⟩) = l.map Ent.k := by
          rw [List.filter_eq_self, HK.out]
          intro s hs
          obtain ⟨j, _, rfl⟩ := List.mem_map.1 hs
          exact pre_o j
        have HALL := hide hall
        have HB' := hide (H1.out.trans ((HBA.out.trans HB.out).mono (by have := H1.out.size; omega)))
        have HVals := hide HS.out.vals
        have hws := H1.out.size
        obtain ⟨L, hL⟩ : ∃ L, L = l.length := ⟨_, rfl⟩
        rw [← hL] at hlL ⊢
        have HLl : Hid (l.length = L) := hL.symm
        clear HH HV hrow hlow hall HB hL
        rcases hcs with hh | ⟨hh, hh2⟩
        all_goals
          go_wp2_with fail
          refine HL5.out.mono ?_
          rintro e W2 ⟨v, N, rfl, hoS, hperm, hb2⟩
          have eN : sortS N = l.map Ent.k := sortS_perm N (l.map Ent.k) (by rw [HALL.out] at hperm; exact hperm) (by rw [HK.out]; exact names_rise J HJ.out HJ20.out)
          rw [eN] at hoS
          obtain ⟨pN, cN, rfl, hN⟩ := hoS.cells
          rw [List.length_map, HLl.out] at hN ⊢
          have HN : Hid (0 < L → ∃ gN, pN = some ⟨gN, 0, none⟩ ∧ WE.heap.size ≤ gN ∧ gN < W2.heap.size ∧ ∀ q x, l[q]? = some x → W2.cell? ⟨gN, q, none⟩ = some (.string x.k)) := by
            intro hp
            obtain ⟨gN, rfl, h1, h2, h3⟩ := hN hp
            exact ⟨gN, rfl, h1, h2, fun q x hx => h3 q _ (by rw [List.getElem?_map, hx]; rfl)⟩
          have HS2 := hide (HS.out.later hb2 (Nat.le_refl _))
          have HB2 := hide (HB'.out.trans (hb2.mono (by have := HB'.out.size; omega)))
          have HRW : Hid (0 < L → ∃ gH, pb = some ⟨gH, 0, none⟩ ∧ gH ≠ g ∧ gH ≠ mb ∧ gH < W2.heap.size ∧ ∀ q x, l[q]? = some x → W2.cell? ⟨gH, q, none⟩ = some (.int .i64 (lenI x))) := by
            intro hp
            obtain ⟨gH, h1, h2, h3, h4, h5⟩ := HROW.out (by rw [HLl.out]; exact hp)
            exact ⟨gH, h1, h2, h3, Nat.lt_of_lt_of_le h4 hb2.size, fun q x hx => (hb2.cell (p := ⟨gH, q, none⟩) h4).trans (h5 q x hx)⟩
          have hb2s := hb2.size
          clear hoS hperm eN hN hb2 HL5 HROW
          go_wp2
          go_loopw [7, 85] (fun us ix wq => ∃ k2 u2 : Nat, k2 ≤ L ∧ u2 ≤ 1 + i ∧ us = .int .i64 u2 ∧ ix = .int .i64 k2 ∧ Hid (Sto wq g g (1 + (i : Int)) u2 (some mb) (l.drop k2) cc) ∧ Hid (u2 = ((l.drop k2).map lenE).sum) ∧ Hid (Fr W2 wq g (some mb)) ∧ Hid (Below g W2 wq)) (fun _ ix _ => L - (intOf ix).toNat)
          case atStart => exact ⟨0, u, by omega, hu, rfl, rfl, by simpa using HS2, by simpa using HU, (fun k _ _ _ => rfl), Below.refl _ _⟩
          case round =>
            obtain ⟨k2, u2, hk2, hu2, rfl, rfl, HQ, HQu, HQf, HQb⟩ := hrel
            have hgq := lt_of_heap HQ.out.obj
            by_cases hlt : k2 < L
            · obtain ⟨x, hx⟩ : ∃ x, l[k2]? = some x := ⟨_, List.getElem?_eq_getElem (by rw [HLl.out]; exact hlt)⟩
              obtain ⟨gN, rfl, n1, n2, n3⟩ := HN.out (by omega)
              obtain ⟨gH, rfl, q1, q2, q3, q4⟩ := HRW.out (by omega)
              obtain ⟨gv, nx, hxv⟩ := HVals.out x (List.mem_of_getElem? hx)
              obtain ⟨f1, f2, f3⟩ := first_at HOnes.out hx
              have hq2s := HQb.out.size
              have hcN : wr.cell? ⟨gN, k2, none⟩ = some (.string x.k) := by
                have e := HQf.out gN n2 (by omega) (by simp; omega)
                have := n3 k2 x hx
                unfold World.cell? at this ⊢
                rw [e]; exact this
              have hlx : lenI x = (nx : Int) := by simp [lenI, hxv, lenV]
              have hle : lenE x = nx := by simp [lenE, hxv, lenV]
              have hcW : W2.cell? ⟨gH, k2, none⟩ = some (.int .i64 (nx : Int)) := by rw [← hlx]; exact q4 k2 x hx
              have hsum : u2 = nx + ((l.drop (k2 + 1)).map lenE).sum := by rw [HQu.out, f3, hle]
              have hnu : nx ≤ u2 := by omega
              have HD := hide (storeDrop5 g g mb _ _ (l.drop k2) cc x.k nx gv wr HQ.out (by rw [f1, hxv]) (by omega) (by omega))
              have HSum := hide hsum
              have HF2 := hide f2
              have HX := hide hcW
              clear n3 q4 f1 f2 f3 hxv hx hlx hle hcW hsum
              go_wp2_with fail
              refine HD.out.mono ?_
              rintro e W5 ⟨rfl, hS5, hb5, hf5⟩
              rw [HF2.out] at hS5
              have hcH : W5.cell? ⟨gH, k2, none⟩ = some (.int .i64 (nx : Int)) := by
                have e1 := HQf.out gH q3 q1 (by simp; omega)
                have e2 := hf5 gH (by omega) q1 (by simp; omega)
                have := HX.out
                unfold World.cell? at this ⊢
                rw [e2, e1]; exact this
              have e5 : ((u2 : Int) - (nx : Int)) = ((u2 - nx : Nat) : Int) := by omega
              rw [e5] at hS5
              have HS5 := hide hS5
              have HFF : Hid (Fr W2 W5 g (some mb)) := fun q hq h1 h2 => (hf5 q (by omega) h1 h2).trans (HQf.out q hq h1 h2)
              have HBB := hide (HQb.out.trans hb5)
              have HUs := hide (storeUsed4 g _ _ _ W5 HS5.out.obj)
              clear hS5 hb5 hf5 HD HQ HQf HQb hcN
              go_wp2_with fail
              refine HUs.out.mono ?_
              rintro e W6 ⟨rfl, rfl⟩
              clear hcH HUs
              go_wp2
              go_roundw
              case rel => exact ⟨k2 + 1, u2 - nx, by omega, by omega, rfl, by go_num, HS5, hide (by have := HSum.out; omega), HFF, HBB⟩
              case measure => simp [intOf]; omega
            · obtain rfl : L = k2 := by omega
              have e0 : l.drop L = [] := List.drop_of_length_le (by rw [HLl.out]; exact Nat.le_refl _)
              rw [e0] at HQ HQu
              have hu0 : u2 = 0 := by rw [HQu.out]; rfl
              subst hu0
              have HLx := hide (storeList5 g g mb _ _ [] cc ⟨#[]⟩ wr HQ.out (by simp))
              have HBq := hide (HB2.out.trans (HQb.out.mono (by omega)))
              clear e0 HQ HQu HQf HQb
              go_wp2_with fail
              refine HLx.out.mono ?_
              rintro e W5 ⟨v, N, rfl, hoS, hp, hb5⟩
              have hN0 : N = [] := by simpa using hp
              subst hN0
              obtain ⟨pv, cv, rfl, _⟩ := hoS.cells
              have e1 : (sortS []).length = 0 := by simp [sortS]
              rw [e1]
              have HB5 := hide (HBq.out.trans (hb5.mono (by have := HBq.out.size; omega)))
              clear hoS hp hb5 e1 HLx
              go_wp2
              go_ret
              exact ⟨rfl, HB5.out⟩

theorem own : ownKnob Try.prog.godebug = none := by kernel_rfl
theorem laidOut : laidOutB Try.prog = true := by kernel_rfl

set_option maxRecDepth 100000 in
theorem lifted (os : Os) (started : os.Started) (H : Type) (enc : TypeId × Value → H) :
    ReturnsInHanded {} Try.checked os 4 .any (Rows.storeRoomSpec.pre6 enc Try.prog Try.f4 Rows.storeRoomRow.domain false) (Rows.storeRoomSpec.post enc Try.prog Try.f4 false true false false) := by
  refine returnsInHanded_of_change (C := Try.checked) own started (by kernel_rfl) Try.func4
    (ChangeSpec.witness6 (enc := enc) (C := Try.checked) false ⟨#[], #[.int .i64 0, .slice none 0 0], []⟩ 8 (by kernel_rfl) (by kernel_rfl) (by kernel_rfl) (by kernel_rfl)) ?_
  intro W base args ds gs before hval0 hW hcnd _
  have hval : ∀ (j : Nat) t v, Try.f4.params[j]? = some t → args[j]? = some v → Value.okWide Try.prog W .any base t v := hval0
  have hW' := hW
  obtain ⟨p, q, hA0, hV, rfl, hfz, hnd⟩ := hW
  have hA : DataW.TrodAll enc Try.prog W 0 (fun _ => true) true Try.f4.params.toList args.toList ds p := hA0
  rw [Try.params4] at hA hval
  obtain ⟨v0, vs0, d0, ds0, p0, q0, hargs, rfl, rfl, h0, r0⟩ := trodAll_cons hA
  obtain ⟨v1, vs1, d1, ds1, p1, q1, rfl, rfl, rfl, h1, r1⟩ := trodAll_cons r0
  obtain ⟨rfl, rfl, rfl⟩ := trodAll_nil r1
  obtain rfl : args = #[v0, v1] := by cases args; simp_all
  obtain ⟨rfl, rfl⟩ := trodVars_none hV
  obtain ⟨a0, rfl, rfl, rfl, w0⟩ := open_int Try.underlying3 (hval 0 3 v0 rfl rfl) h0
  obtain ⟨a1, n1, c1, rfl⟩ := okWide_slice Try.underlying29 (hval 1 29 v1 rfl rfl)
  have k1 := h1
  have lt1 : ∀ x ∈ p1, x.block < W.heap.size := by obtain ⟨m, hm⟩ := k1; exact DataW.trod_lt m _ _ _ hm
  obtain ⟨z1, w1⟩ : ∃ zs, Row .i64 W a1 n1 c1 zs := by
    obtain ⟨fuel, hf⟩ := h1
    rcases open_ints Try.underlying29 Try.underlying3 (by kernel_rfl) hf with ⟨hcs, _⟩ | ⟨x, l, c, zs, hcs, _, hl, hm, hz, _, hcell, hwz⟩
    · simp [Value.cells] at hcs; obtain ⟨rfl, rfl, rfl⟩ := hcs; exact ⟨[], row_none _ _⟩
    · simp [Value.cells] at hcs; obtain ⟨rfl, rfl, rfl⟩ := hcs; exact ⟨_, row_some hl hm (by simpa using hz) hcell hwz⟩
  clear hA0 hval0
  refine (walk a0 a1 n1 c1 z1 W w0 w1).mono fun e W' ⟨he, bel⟩ => ?_
  subst he
  exact ⟨_, rfl, _, _, _, [], _, [], hW', trodAll_mk1 (shut_bool Try.underlying4 _), (trodAll_cons_mk (shut_int Try.underlying3 w0) (trodAll_cons_mk (Below.trod laidOut (by kernel_rfl) (of_decide_eq_true (by kernel_rfl)) k1 bel lt1) trodAll_mk0)), rfl, bel.frame _, fun h => by cases h⟩

theorem over : Rows.storeRoomRow.holds Try.pinned (OpenSpec.ofChange Rows.storeRoomSpec) :=
  OpenClaim.holds_of_wide 4 Try.f4 rfl rfl rfl rfl rfl rfl rfl ⟨rfl, rfl, rfl, rfl, rfl⟩ rfl rfl rfl rfl rfl (by kernel_rfl) Try.func4 (by kernel_rfl)
    (of_decide_eq_true (by kernel_rfl)) (by unfold Func.isWrapper; first | (rw [if_pos (by decide +kernel)]; kernel_rfl) | (rw [if_neg (by decide +kernel)]; exact ⟨rfl, rfl⟩))
    (fun os started H enc _ => lifted os started H enc)

theorem proved : Rows.StoreRoomSaid := over
#print axioms proved
end Go.Proofs.Ytgpfpmocdmeldaa.storeRoom
