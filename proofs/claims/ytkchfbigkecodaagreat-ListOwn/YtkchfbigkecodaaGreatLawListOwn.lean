/- The statement ListOwn: what was put behind, and what is told, is the list's own, for all numbers. -/
import Derived.Test.YtkchfbigkecodaaGreatKeyC
import Derived.Test.YtkchfbigkecodaaGreatLstL
import Derived.Test.YtkchfbigkecodaaGreatBeg7
import Derived.Test.YtkchfbigkecodaaGreatLawA
namespace Go.Proofs.YtkchfbigkecodaaGreat.listOwn
open Go.ChangeShapes Go.WideShapes Go.ChangeAt Go.RowKit Go.MapKept Go.ChangeMaps

theorem run_uptoL (a : Option Addr) (n cap j : Nat) (J : Int) (eJ : J = (j : Int)) (hj : j ≤ cap) (W : World) :
    (Instr.slice 29 (.slice a n cap) none (some (.int .i64 J)) none).run Tryz.prog W = .ok (.slice a j cap) W := by
  subst eJ
  have e1 : (Instr.sliceBound (.int .i64 (j : Int)) cap .sliceAcap).run Tryz.prog W = .ok j W := by
    have := run_sliceBound (P := Tryz.prog) W .i64 (j : Int) cap .sliceAcap (by omega) (by omega)
    simpa using this
  simp [Instr.slice, Instr.sliceBounds, run_underlying Tryz.underlying29, e1]
  try (cases a <;> simp [Addr.add])

theorem rd_row {w : World} {a : Option Addr} {n cap : Nat} {zs : List Int} (h : Row .i64 w a n cap zs) (k : Nat) (hk : k ≤ n) : Rd w a k cap (zs.take k) := by
  obtain ⟨h1, h2, h3, h4, h5, _⟩ := h
  refine ⟨by simp; omega, fun e => ?_, fun ad ha j u hj => ?_, by omega⟩
  · have := h4 e; omega
  · rw [List.getElem?_map] at hj
    by_cases hjk : j < k
    · obtain ⟨b, o, e, hc⟩ := h5 (by omega)
      rw [ha] at e
      cases e
      rw [List.getElem?_take_of_lt hjk] at hj
      rw [add_none]
      have := hc j (by omega)
      rw [List.getD_eq_getElem?_getD, List.getElem?_eq_getElem (by omega)] at this
      rw [List.getElem?_eq_getElem (by omega)] at hj
      rw [this]
      simpa using hj
    · rw [List.getElem?_take_eq_none (by omega)] at hj
      cases hj

/-- A block of m numbers. -/
def HasI (W : World) (b m : Nat) : Prop := ∃ cur, W.heap[b]? = some (.cells cur 2 (0, 0)) ∧ ∀ i, i < m → ∃ x, cur[i]? = some (.int .i64 x)
theorem HasI.cell {W : World} {b m : Nat} (h : HasI W b m) {i : Nat} (hi : i < m) : ∃ x, W.cell? ⟨b, i, none⟩ = some (.int .i64 x) := by
  obtain ⟨cur, h1, h2⟩ := h
  obtain ⟨x, hx⟩ := h2 i hi
  exact ⟨x, by simp [World.cell?, h1, hx]⟩
theorem HasI.free {W : World} {b m : Nat} (h : HasI W b m) (i : Nat) : W.frozen? ⟨b, i, none⟩ = false := by
  obtain ⟨cur, h1, _⟩ := h
  simp [World.frozen?, h1]
theorem HasI.set {W : World} {b m : Nat} (h : HasI W b m) (i : Nat) (y : Int) : HasI (W.setCell ⟨b, i, none⟩ (.int .i64 y)) b m := by
  obtain ⟨cur, h1, h2⟩ := h
  obtain ⟨hlt, he⟩ := Array.getElem?_eq_some_iff.1 h1
  refine ⟨cur.setIfInBounds i (.int .i64 y), by simp [World.setCell, Array.getElem_modify, hlt, he], fun j hj => ?_⟩
  obtain ⟨x, hx⟩ := h2 j hj
  by_cases e : i = j
  · subst e
    have := (Array.getElem?_eq_some_iff.1 hx).1
    exact ⟨y, by simp [this]⟩
  · exact ⟨x, by rw [Array.getElem?_setIfInBounds_ne e]; exact hx⟩
theorem OwnI.at {W : World} {B b cp m : Nat} {z : List Int} (h : OwnI W B (.slice (some ⟨b, 0, none⟩) m cp) z) {j : Nat} {x : Int} (hj : z[j]? = some x) : W.cell? ⟨b, j, none⟩ = some (.int .i64 x) := by
  have h' : W.ownsRow B 2 1 (.slice (some ⟨b, 0, none⟩) m cp) z.length (z.map (Value.int .i64)) := by rw [← flatI]; exact h
  have := World.ownsRow.cells h' (g := b) rfl j (.int .i64 x) (by rw [List.getElem?_map, hj]; rfl)
  rwa [add_none, Nat.zero_add] at this
theorem HasI.lt {W : World} {b m : Nat} (h : HasI W b m) : b < W.heap.size := by
  obtain ⟨cur, h1, _⟩ := h
  exact lt_of_heap h1
theorem OwnI.has {W : World} {B b cp : Nat} {z : List Int} (h : OwnI W B (.slice (some ⟨b, 0, none⟩) z.length cp) z) : HasI W b z.length := by
  rcases h.2 with ⟨e, _⟩ | ⟨g, cap, cur, e, _, hh, _, _, _, ht⟩
  · cases e
  · cases e
    refine ⟨cur, hh, fun i hi => ⟨z[i], ?_⟩⟩
    have : (cur.toList.take (z.length * 1))[i]? = (z.flatMap i64C)[i]? := by rw [ht]
    rw [List.getElem?_take_of_lt (by omega), flatI, List.getElem?_map, List.getElem?_eq_getElem hi, Array.getElem?_toList] at this
    exact this
theorem OwnI.shape {W : World} {B : Nat} {v : Value} {z : List Int} (h : OwnI W B v z) (hz : z ≠ []) : ∃ b cp, v = .slice (some ⟨b, 0, none⟩) z.length cp ∧ z.length ≤ cp ∧ B ≤ b := by
  rcases h.2 with ⟨_, e⟩ | ⟨g, cap, cur, e, hg, _, h1, _⟩
  · exact absurd (List.length_eq_zero_iff.1 e) hz
  · exact ⟨g, cap, e, h1, hg⟩

/-- What may not be touched by the lists is fenced off. -/
theorem Lh.fence {w W W' : World} {g N : Nat} {E : Nat → Prop} {f : K3 → List Int} (h : Lh w W g E f N) (ht : Tch E W W') (hE : ∀ k, E k → w.heap.size ≤ k) : Lh w W' g (fun k => E k ∨ (W.heap.size ≤ k ∧ k < W'.heap.size)) f N := by
  have hl : LiS W (fun k => g ≤ k ∧ ¬ (E k ∨ (W.heap.size ≤ k ∧ k < W'.heap.size))) g f N := h.l.sub (fun k hk hl => ⟨hk.1, fun e => by
    rcases e with e | e
    · exact hk.2 e
    · omega⟩)
  refine ⟨hl.tch ht (fun k hk _ e => hk.2 (Or.inl e)), ?_, h.gw, h.b.trans (ht.below (fun k hk e => by have := hE k e; omega) h.b.size)⟩
  rintro k (e | e)
  · exact Nat.lt_of_lt_of_le (h.lt k e) ht.size
  · exact e.2

/-- The numbers of one block being turned. -/
structure Tn (W0 W : World) (b m : Nat) : Prop where
  has : HasI W b m
  tch : Tch (fun j => j = b) W0 W
theorem Tn.start {W0 : World} {b m : Nat} (h : HasI W0 b m) : Tn W0 W0 b m := ⟨h, Below.tch (Below.refl _ _)⟩
theorem Tn.set {W0 W : World} {b m : Nat} (h : Tn W0 W b m) (i : Nat) (y : Int) : Tn W0 (W.setCell ⟨b, i, none⟩ (.int .i64 y)) b m :=
  ⟨h.has.set i y, h.tch.trans ((Tch.of (grown_setCell W b i _)).mono (fun _ _ e => Option.some.inj e))⟩

set_option maxRecDepth 100000 in
set_option maxHeartbeats 8000000 in
theorem walk (a0 : Option Addr) (n0 c0 : Nat) (z0 : List Int) (w : World) (h : Row .i64 w a0 n0 c0 z0) :
    Calls Tryz.prog 13 #[.slice a0 n0 c0] w fun e w' => e = .returned (.bool true) ∧ Below w.heap.size w w' := by
  obtain ⟨k, hk⟩ : ∃ k, min n0 20 = k := ⟨_, rfl⟩
  have su := fun W => run_uptoL a0 n0 c0 k (k : Int) rfl (by have := h.2.1; omega) W
  have HRD := hide (rd_row h k (by omega))
  have hk20 : k ≤ 20 := by omega
  have hkI : min (n0 : Int) 20 = (k : Int) := by omega
  clear h
  go_enter Tryz.func13, Tryz.ntmps13
  go_wp2_with fail
  refine (begun7_true _).mono ?_
  rintro e w1 ⟨rfl, hb1⟩
  have HB1 := hide hb1
  clear hb1
  go_wp2_with fail
  refine (listNew _).mono ?_
  rintro e w2 ⟨rfl, rfl⟩
  have HL2 := hide (Lh.new w w1 HB1.out)
  go_wp2_with fail
  refine (key_317 _).mono ?_
  rintro e w3 ⟨rfl, hb3⟩
  -- the row that is put behind: 4, and those that came in
  have hb34 := hb3.trans ((below_alloc w3 (.cells #[.int .i64 3, .int .i64 1, .int .i64 7] 28) w3.heap.size (Nat.le_refl _)).mono hb3.size)
  have hb35 := hb34.trans ((below_alloc (w3.alloc (.cells #[.int .i64 3, .int .i64 1, .int .i64 7] 28)) (.cells #[.int .i64 4] 2) _ (Nat.le_refl _)).mono hb34.size)
  have hs4 : (w3.alloc (.cells #[.int .i64 3, .int .i64 1, .int .i64 7] 28)).heap.size = w3.heap.size + 1 := by simp
  have hbx := boxed_old (heap_alloc_new w3 (.cells #[.int .i64 3, .int .i64 1, .int .i64 7] 28)) (below_alloc (w3.alloc (.cells #[.int .i64 3, .int .i64 1, .int .i64 7] 28)) (.cells #[.int .i64 4] 2) _ (Nat.le_refl _))
  have hown : ((w3.alloc (.cells #[.int .i64 3, .int .i64 1, .int .i64 7] 28)).alloc (.cells #[.int .i64 4] 2)).ownsRow (w3.heap.size + 1) 2 1 (.slice (some ⟨w3.heap.size + 1, 0, none⟩) 1 1) [(4 : Int)].length ([(4 : Int)].flatMap i64C) := by
    have := World.ownsRow_lit (base := w3.heap.size + 1) (e := 2) (size := 1) (w3.alloc (.cells #[.int .i64 3, .int .i64 1, .int .i64 7] 28)) #[.int .i64 4] 1 (by simp) (by decide) rfl
    rw [hs4] at this
    exact this
  have hw35 := (HB1.out.trans ((below_alloc w1 (rmObj 92 none) w.heap.size HB1.out.size))).trans (hb35.mono (HB1.out.trans (below_alloc w1 _ w.heap.size HB1.out.size)).size)
  have hrd := HRD.out.later (hw35.mono (Nat.le_refl _))
  obtain ⟨vc, W5, hrun, hc, hgr⟩ := run_appB (w3.heap.size + 1) ((w3.alloc (.cells #[.int .i64 3, .int .i64 1, .int .i64 7] 28)).alloc (.cells #[.int .i64 4] 2)) _ [4] hown a0 k c0 _ hrd (by simp; omega) (by simp)
  obtain ⟨zz, hz⟩ : ∃ zz, [4] ++ z0.take k = zz := ⟨_, rfl⟩
  rw [hz] at hc
  have hzn : zz ≠ [] := by rw [← hz]; simp
  have hzl : zz.length ≤ 21 := by rw [← hz]; simp; omega
  have hc' : OwnI W5 (w3.heap.size + 1) vc zz := hc
  obtain ⟨bc, cpc, rfl, hcpc, hbc⟩ := OwnI.shape hc' hzn
  have hbx5 := (Tch.of hgr).old hbx (by simp [Value.ownBlock])
  obtain ⟨vw, W6, hrun2, hw6, hgr6⟩ := run_appB W5.heap.size W5 (.slice none 0 0) [] (World.ownsRow_nil _ _ _ _) (some ⟨bc, 0, none⟩) zz.length cpc zz (by
    obtain ⟨p, c, e, r, _⟩ := RowI.slice hc'.row
    cases e
    exact r) (by simp; omega) (Nat.le_refl _)
  rw [List.nil_append] at hw6
  have hw6' : OwnI W6 W5.heap.size vw zz := hw6
  obtain ⟨bw, cpw, rfl, hcpw, hbw⟩ := OwnI.shape hw6' hzn
  have hb56 : Below W5.heap.size W5 W6 := (Below.refl W5.heap.size W5).grown hgr6 (Nat.le_refl _) (fun k e => by cases e)
  have hs2 : (w1.alloc (rmObj 92 none)).heap.size = w1.heap.size + 1 := by simp
  have hb25 := hb35.grown hgr hb35.size (fun j e => by
    have : j = w3.heap.size + 1 := (Option.some.inj e).symm
    have := hb3.size
    omega)
  have hb26 := hb25.trans (hb56.mono hb25.size)
  have HL6 := hide (Lh.fence HL2.out (Below.tch hb26) (fun k e => e.elim))
  have HX6 := hide (boxed_old hbx5 hb56)
  have HC6 : Hid (OwnI W6 (w3.heap.size + 1) (.slice (some ⟨bc, 0, none⟩) zz.length cpc) zz) := own_tch (C := i64C) (S := fun _ => False) (Below.tch hb56) hc' (fun _ _ e => e)
  have HW6 := hide hw6'
  have HEB : Hid (w1.heap.size + 1 ≤ w3.heap.size ∧ w3.heap.size < W6.heap.size ∧ w3.heap.size + 1 ≤ bc ∧ bc < W6.heap.size ∧ bc < bw ∧ bw < W6.heap.size) := by
    have h1 := hb3.size
    rw [hs2] at h1
    have h2 := (OwnI.lt hc' bc rfl).2
    have h3 := (OwnI.lt hw6' bw rfl).2
    have h4 := hb56.size
    have h5 := lt_of_heap hbx5
    exact ⟨h1, by omega, hbc, by omega, by omega, h3⟩
  rw [hs2] at HL6
  have HR := hide hrun
  have HR2 := hide hrun2
  clear hb3 hb34 hb35 hs4 hbx hown hw35 hrd hrun hc hgr hc' hbx5 hrun2 hw6 hgr6 hw6' hb56 hs2 hb25 hb26 HL2 HB1 HRD hbc hbw hz
  obtain ⟨x0, x1, x2⟩ := cells_three HX6.out
  go_wp2_with (at_builtin; first | (refine wpList_ran rfl (.tmp 18) (.tmp 23) _ _ rfl _ _ (.slice (some ⟨bc, 0, none⟩) zz.length cpc) (by rfl) (by rfl) HR.out ?_; have HR3 := HR2; clear HR) | (refine wpList_ran rfl (.const (.slice none 0 0)) (.tmp 25) _ _ rfl _ _ (.slice (some ⟨bw, 0, none⟩) zz.length cpw) (by rfl) (by rfl) HR3.out ?_; clear HR3))
  clear HR2 su
  generalize w1.heap.size = g at *
  generalize w3.heap.size = q at *
  generalize hn6 : W6.heap.size = n6 at *
  have HNE := hide hn6
  clear hn6
  have HP : Hid (Calls Tryz.prog 23 #[.pointer (some ⟨g, 0, none⟩), .agg #[.int .i64 3, .int .i64 1, .int .i64 7], .slice (some ⟨bc, 0, none⟩) zz.length cpc] W6 fun e w' => e = .returned (.int .i64 0) ∧ Hid (Lh w w' g (fun k => False ∨ (g + 1 ≤ k ∧ k < n6)) (updR (fun _ => []) k317 zz) 1) ∧ Tch (fun k => g ≤ k ∧ ¬ (False ∨ (g + 1 ≤ k ∧ k < n6))) W6 w') := by
    obtain ⟨p, c, e, r, _⟩ := RowI.slice HC6.out.row
    cases e
    refine Calls.mono (HL6.out.push k317 _ _ _ zz r (by simp)) ?_
    rintro e w' ⟨r1, r2, r3⟩
    rw [if_pos (by simp; omega)] at r1 r2
    exact ⟨r1, r2, r3⟩
  go_wp2_with fail
  refine HP.out.mono ?_
  rintro e W7 ⟨rfl, HL7, r3⟩
  have hno : ∀ j, g + 1 ≤ j → j < n6 → ¬ (g ≤ j ∧ ¬ (False ∨ (g + 1 ≤ j ∧ j < n6))) := fun j h1 h2 e => e.2 (Or.inr ⟨h1, h2⟩)
  have HX7 := hide (r3.old HX6.out (hno _ HEB.out.1 HEB.out.2.1))
  have HC7 : Hid (HasI W7 bc zz.length) := OwnI.has (B := q + 1) (cp := cpc) (own_tch (C := i64C) r3 HC6.out (fun j e => by cases e; exact hno bc (by have := HEB.out; omega) (by have := HEB.out; omega)))
  have HW7 : Hid (OwnI W7 W5.heap.size (.slice (some ⟨bw, 0, none⟩) zz.length cpw) zz) := own_tch (C := i64C) r3 HW6.out (fun j e => by cases e; exact hno bw (by have := HEB.out; omega) (by have := HEB.out; omega))
  have HT7 := hide (Tn.start HC7.out)
  have HN6 : Hid (n6 ≤ W7.heap.size) := by have := r3.size; rw [HNE.out] at this; exact this
  clear r3 hno HP HL6 HX6 HC6 HW6 HC7 x0 x1 x2
  go_wp2_with fail
  go_loopw [34] (fun i wr => ∃ j : Nat, j ≤ zz.length ∧ i = .int .i64 j ∧ Hid (Tn W7 wr bc zz.length)) (fun i _ => zz.length - (intOf i).toNat)
  case atStart => exact ⟨0, by omega, rfl, HT7⟩
  case round =>
    clear HT7
    obtain ⟨j, hj, rfl, HT⟩ := hrel
    by_cases hlt : j < zz.length
    · obtain ⟨x, hx⟩ := HT.out.has.cell hlt
      have hf := HT.out.has.free j
      have hlc : j < cpc := by omega
      have HS := hide (HT.out.set j (wrap64 (x + 1)))
      clear HT
      go_wp2
      exact ⟨⟨j + 1, by omega, by simp, HS⟩, by simp [intOf]; omega⟩
    · have HL8 := hide (HL7.out.turn (HT.out.tch.mono (fun i _ e => by subst e; have := HEB.out; exact Or.inr ⟨by omega, by omega⟩)) (fun i e => by
        rcases e with e | e
        · exact e.elim
        · have := HL7.out.gw; omega))
      have HX8 := hide (HT.out.tch.old HX7.out (by have := HEB.out; omega))
      have HW8 : Hid (OwnI wr W5.heap.size (.slice (some ⟨bw, 0, none⟩) zz.length cpw) zz) := own_tch (C := i64C) HT.out.tch HW7.out (fun i e => by cases e; show ¬ (bw = bc); have := HEB.out; omega)
      have HSZ : Hid (n6 ≤ wr.heap.size) := Nat.le_trans HN6.out HT.out.tch.size
      clear HT HL7 HX7 HW7 HN6
      have HX : Hid (Calls Tryz.prog 26 #[.pointer (some ⟨g, 0, none⟩), .agg #[.int .i64 3, .int .i64 1, .int .i64 7]] wr fun e w' => ∃ ba cpa, e = .returned (.slice (some ⟨ba, 0, none⟩) zz.length cpa) ∧ zz.length ≤ cpa ∧ Hid (OwnI w' wr.heap.size (.slice (some ⟨ba, 0, none⟩) zz.length cpa) zz ∧ wr.heap.size ≤ ba ∧ Below wr.heap.size wr w')) := by
        refine Calls.mono (HL8.out.list k317 (by simp [updR]; omega)) ?_
        rintro e w' ⟨p, c, r1, r2, r3⟩
        have e3 : updR (fun _ => []) k317 zz k317 = zz := by simp [updR]
        rw [e3] at r1 r2
        obtain ⟨ba, cpa, e, h1, h2⟩ := OwnI.shape r2 hzn
        cases e
        exact ⟨ba, _, r1, h1, r2, h2, r3⟩
      obtain ⟨x0, x1, x2⟩ := cells_three HX8.out
      go_wp2_with fail
      refine HX.out.mono ?_
      rintro e W9 ⟨ba, cpa, rfl, hcpa, HA9⟩
      have HL9 := hide (Lh.fence HL8.out (Below.tch HA9.out.2.2) (fun i e => by
        rcases e with e | e
        · exact e.elim
        · have := HL8.out.gw; omega))
      have HX9 := hide (boxed_old HX8.out HA9.out.2.2)
      have HW9 : Hid (OwnI W9 W5.heap.size (.slice (some ⟨bw, 0, none⟩) zz.length cpw) zz) := own_tch (C := i64C) (S := fun _ => False) (Below.tch HA9.out.2.2) HW8.out (fun _ _ e => e)
      have HT9 := hide (Tn.start (OwnI.has HA9.out.1))
      have HEA : Hid (q < ba ∧ bw < ba ∧ wr.heap.size ≤ ba ∧ ba < W9.heap.size ∧ w.heap.size ≤ wr.heap.size) := by
        have h1 := HEB.out
        have h2 := HSZ.out
        have h3 := HA9.out.2.1
        have h4 := (OwnI.lt HA9.out.1 ba rfl).2
        have h5 := HL8.out.b.size
        exact ⟨by omega, by omega, h3, h4, h5⟩
      clear HX HL8 HX8 HW8 HA9 x0 x1 x2
      generalize wr.heap.size = n8 at *
      clear HSZ
      go_wp2_with fail
      go_loopw [49] (fun i wq => ∃ j : Nat, j ≤ zz.length ∧ i = .int .i64 j ∧ Hid (Tn W9 wq ba zz.length)) (fun i _ => zz.length - (intOf i).toNat)
      case atStart => exact ⟨0, by omega, rfl, HT9⟩
      case round =>
        clear HT9 hj hlt
        obtain ⟨j, hj, rfl, HT⟩ := hrel
        by_cases hlt : j < zz.length
        · obtain ⟨x, hx⟩ := HT.out.has.cell hlt
          have hf := HT.out.has.free j
          have hlc : j < cpa := by omega
          have HS := hide (HT.out.set j (wrap64 (x + 5)))
          clear HT
          go_wp2
          exact ⟨⟨j + 1, by omega, by simp, HS⟩, by simp [intOf]; omega⟩
        · have HLA := hide (HL9.out.turn (HT.out.tch.mono (fun i _ e => by subst e; exact Or.inr ⟨HEA.out.2.2.1, HEA.out.2.2.2.1⟩)) (fun i e => by
            rcases e with (e | e) | e
            · exact e.elim
            · have := HL9.out.gw; omega
            · have := HEA.out; omega))
          have HXA := hide (HT.out.tch.old HX9.out (by have := HEA.out; omega))
          have HWA : Hid (OwnI wr W5.heap.size (.slice (some ⟨bw, 0, none⟩) zz.length cpw) zz) := own_tch (C := i64C) HT.out.tch HW9.out (fun i e => by cases e; show ¬ (bw = ba); have := HEA.out; omega)
          clear HT HL9 HX9 HW9
          have HX : Hid (Calls Tryz.prog 26 #[.pointer (some ⟨g, 0, none⟩), .agg #[.int .i64 3, .int .i64 1, .int .i64 7]] wr fun e w' => ∃ bb cpb, e = .returned (.slice (some ⟨bb, 0, none⟩) zz.length cpb) ∧ zz.length ≤ cpb ∧ Hid (OwnI w' wr.heap.size (.slice (some ⟨bb, 0, none⟩) zz.length cpb) zz ∧ Below wr.heap.size wr w')) := by
            refine Calls.mono (HLA.out.list k317 (by simp [updR]; omega)) ?_
            rintro e w' ⟨p, c, r1, r2, r3⟩
            have e3 : updR (fun _ => []) k317 zz k317 = zz := by simp [updR]
            rw [e3] at r1 r2
            obtain ⟨bb, cpb, e, h1, h2⟩ := OwnI.shape r2 hzn
            cases e
            exact ⟨bb, _, r1, h1, r2, r3⟩
          obtain ⟨x0, x1, x2⟩ := cells_three HXA.out
          go_wp2_with fail
          refine HX.out.mono ?_
          rintro e WB ⟨bb, cpb, rfl, hcpb, HBB⟩
          have HWB : Hid (OwnI WB W5.heap.size (.slice (some ⟨bw, 0, none⟩) zz.length cpw) zz) := own_tch (C := i64C) (S := fun _ => False) (Below.tch HBB.out.2) HWA.out (fun _ _ e => e)
          have HE := hide (HLA.out.b.trans (HBB.out.2.mono HLA.out.b.size))
          have HVB := hide HBB.out.1
          clear HX HLA HXA HWA HBB HEA HEB x0 x1 x2
          go_wp2_with fail
          go_loopw [64] (fun i wz => ∃ j : Nat, j ≤ zz.length ∧ i = .int .i64 j ∧ Hid (Below WB.heap.size WB wz)) (fun i _ => zz.length - (intOf i).toNat)
          case atStart => exact ⟨0, by omega, rfl, Below.refl _ _⟩
          case round =>
            clear hj hlt
            obtain ⟨j, hj, rfl, HB⟩ := hrel
            by_cases hlt : j < zz.length
            · obtain ⟨x, hx⟩ : ∃ x, zz[j]? = some x := ⟨_, List.getElem?_eq_getElem hlt⟩
              have h1 := OwnI.at (own_tch (C := i64C) (S := fun _ => False) (Below.tch HB.out) HVB.out (fun _ _ e => e)) hx
              have h2 := OwnI.at (own_tch (C := i64C) (S := fun _ => False) (Below.tch HB.out) HWB.out (fun _ _ e => e)) hx
              have hlc : j < cpb := by omega
              have hld : j < cpw := by omega
              clear hx
              go_wp2
              go_quiet (fail)
              go_wp2
              exact ⟨⟨j + 1, by omega, by simp, below_drewN HB.out _⟩, by simp [intOf]; omega⟩
            · have HF := hide (HE.out.trans (HB.out.mono HE.out.size))
              clear HB HE HVB HWB
              go_wp2
              go_ret
              exact ⟨rfl, HF.out⟩

theorem own : ownKnob Tryz.prog.godebug = none := by kernel_rfl
theorem laidOut : laidOutB Tryz.prog = true := by kernel_rfl

set_option maxRecDepth 100000 in
theorem lifted (os : Os) (started : os.Started) (H : Type) (enc : TypeId × Value → H) :
    ReturnsInHanded {} Tryz.checked os 13 .any (Rows.listOwnSpec.pre6 enc Tryz.prog Tryz.f13 Rows.listOwnRow.domain false) (Rows.listOwnSpec.post enc Tryz.prog Tryz.f13 false true false false) := by
  refine returnsInHanded_of_change (C := Tryz.checked) own started (by kernel_rfl) Tryz.func13
    (ChangeSpec.witness6 (enc := enc) (C := Tryz.checked) false ⟨#[], #[.slice none 0 0], []⟩ 8 (by kernel_rfl) (by kernel_rfl) (by kernel_rfl) (by kernel_rfl)) ?_
  intro W base args ds gs before hval0 hW hcnd _
  have hval : ∀ (j : Nat) t v, Tryz.f13.params[j]? = some t → args[j]? = some v → Value.okWide Tryz.prog W .any base t v := hval0
  have hW' := hW
  obtain ⟨p, q, hA0, hV, rfl, hfz, hnd⟩ := hW
  have hA : DataW.TrodAll enc Tryz.prog W 0 (fun _ => true) true Tryz.f13.params.toList args.toList ds p := hA0
  rw [Tryz.params13] at hA hval
  obtain ⟨v0, vs0, d0, ds0, p0, q0, hargs, rfl, rfl, h0, r0⟩ := trodAll_cons hA
  obtain ⟨rfl, rfl, rfl⟩ := trodAll_nil r0
  obtain rfl : args = #[v0] := by cases args; simp_all
  obtain ⟨rfl, rfl⟩ := trodVars_none hV
  obtain ⟨a0, n0, c0, rfl⟩ := okWide_slice Tryz.underlying29 (hval 0 29 v0 rfl rfl)
  have k0 := h0
  have lt0 : ∀ x ∈ p0, x.block < W.heap.size := by obtain ⟨m, hm⟩ := k0; exact DataW.trod_lt m _ _ _ hm
  obtain ⟨z0, w0⟩ : ∃ zs, Row .i64 W a0 n0 c0 zs := by
    obtain ⟨fuel, hf⟩ := h0
    rcases open_ints Tryz.underlying29 Tryz.underlying2 (by kernel_rfl) hf with ⟨hcs, _⟩ | ⟨x, l, c, zs, hcs, _, hl, hm, hz, _, hcell, hwz⟩
    · simp [Value.cells] at hcs; obtain ⟨rfl, rfl, rfl⟩ := hcs; exact ⟨[], row_none _ _⟩
    · simp [Value.cells] at hcs; obtain ⟨rfl, rfl, rfl⟩ := hcs; exact ⟨_, row_some hl hm (by simpa using hz) hcell hwz⟩
  clear hA0 hval0
  refine (walk a0 n0 c0 z0 W w0).mono fun e W' ⟨he, bel⟩ => ?_
  subst he
  exact ⟨_, rfl, _, _, _, [], _, [], hW', trodAll_mk1 (shut_bool Tryz.underlying4 _), (trodAll_cons_mk (Below.trod laidOut (by kernel_rfl) (of_decide_eq_true (by kernel_rfl)) k0 bel lt0) trodAll_mk0), rfl, bel.frame _, fun h => by cases h⟩

theorem over : Rows.listOwnRow.holds Tryz.pinned (OpenSpec.ofChange Rows.listOwnSpec) :=
  OpenClaim.holds_of_wide 13 Tryz.f13 rfl rfl rfl rfl rfl rfl rfl ⟨rfl, rfl, rfl, rfl, rfl⟩ rfl rfl rfl rfl rfl (by kernel_rfl) Tryz.func13 (by kernel_rfl)
    (of_decide_eq_true (by kernel_rfl)) (by unfold Func.isWrapper; first | (rw [if_pos (by decide +kernel)]; kernel_rfl) | (rw [if_neg (by decide +kernel)]; exact ⟨rfl, rfl⟩))
    (fun os started H enc _ => lifted os started H enc)

theorem proved : Rows.ListOwnSaid := over
#print axioms proved
end Go.Proofs.YtkchfbigkecodaaGreat.listOwn
