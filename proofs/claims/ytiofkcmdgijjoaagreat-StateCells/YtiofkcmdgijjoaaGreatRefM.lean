/- Which changes may be, by the document (for a seat without the first group's helpers). -/
import Derived.Test.YtiofkcmdgijjoaaGreatMutM
namespace Go.Proofs.YtiofkcmdgijjoaaGreat
open Go.RowKit

set_option maxRecDepth 100000 in
set_option maxHeartbeats 800000 in
theorem refKey_any (g n i : Int) (w : World) : Calls Tryz.prog 57 #[.agg #[.int .i64 g, .int .i64 n, .int .i64 i]] w fun r w' => r = .returned (.bool (keyB g n i)) ∧ Below w.heap.size w w' := by
  have HB := hide (below_alloc w (.cells #[.int .i64 g, .int .i64 n, .int .i64 i] 28) w.heap.size (Nat.le_refl _))
  by_cases h1 : 0 ≤ g
  · by_cases h2 : g < 4
    · by_cases h3 : 0 ≤ n ∧ n < 2
      · have h34 : ((n == 0) = true) ∨ ((n == 0) = false ∧ (n == 1) = true) := by
          by_cases h0 : n = 0
          · exact .inl (by simpa using h0)
          · exact .inr ⟨by simpa using h0, by simp; omega⟩
        by_cases h5 : 0 ≤ i
        · have E : Hid (keyB g n i = decide (i < 24)) := by show _ = _; simp [keyB, inR, h1, h2, h3, h5]
          clear h3
          rcases h34 with h3 | ⟨h3, h4⟩
          all_goals
            go_enter Tryz.func57, Tryz.ntmps57
            go_wp2
            go_ret
            exact ⟨ret_bool (by rw [E.out]), HB.out⟩
        · have E : Hid (keyB g n i = false) := by show _ = _; simp [keyB, inR, h5]
          clear h3
          rcases h34 with h3 | ⟨h3, h4⟩
          all_goals
            go_enter Tryz.func57, Tryz.ntmps57
            go_wp2
            go_ret
            exact ⟨ret_bool (by rw [E.out]), HB.out⟩
      · have E : Hid (keyB g n i = false) := by show _ = _; simp [keyB, inR]; omega
        have h3' : (n == 0) = false := by simp; omega
        have h4' : (n == 1) = false := by simp; omega
        clear h3
        go_enter Tryz.func57, Tryz.ntmps57
        go_wp2
        go_ret
        exact ⟨ret_bool (by rw [E.out]), HB.out⟩
    · have E : Hid (keyB g n i = false) := by show _ = _; simp [keyB, inR, h2]
      go_enter Tryz.func57, Tryz.ntmps57
      go_wp2
      go_ret
      exact ⟨ret_bool (by rw [E.out]), HB.out⟩
  · have E : Hid (keyB g n i = false) := by show _ = _; simp [keyB, inR, h1]
    go_enter Tryz.func57, Tryz.ntmps57
    go_wp2
    go_ret
    exact ⟨ret_bool (by rw [E.out]), HB.out⟩

theorem kind_cases (k : Int) : (k < 1) ∨ (6 < k) ∨ k = 1 ∨ k = 2 ∨ k = 3 ∨ k = 4 ∨ k = 5 ∨ k = 6 := by omega

set_option maxRecDepth 100000 in
set_option maxHeartbeats 1600000 in
theorem refMay_any (m : Mt) (w : World) : Calls Tryz.prog 48 #[mV m] w fun r w' => r = .returned (.bool (mayB m)) ∧ Below w.heap.size w w' := by
  have hb0 := below_alloc w (mtObj m) w.heap.size (Nat.le_refl _)
  have hg0 := heap_alloc_new w (mtObj m)
  have CY := hide (fun w => refKey_any m.g m.n m.i w)
  obtain ⟨k, g, n, i, f, v⟩ := m
  unfold mV at *
  unfold mtObj at hb0 hg0
  simp only at *
  have HB := hide hb0
  have HG := hide hg0
  clear hb0 hg0
  rcases kind_cases k with hk | hk | hk
  · have E : Hid (mayB ⟨k, g, n, i, f, v⟩ = false) := by show _ = _; simp [mayB, kindB]; omega
    have q1 : (k == 1) = false := by simp; omega
    have q3 : (k == 3) = false := by simp; omega
    have q5 : (k == 5) = false := by simp; omega
    have q6 : (k == 6) = false := by simp; omega
    go_enter Tryz.func48, Tryz.ntmps48
    go_wp2
    go_ret
    exact ⟨ret_bool (by rw [E.out]), HB.out⟩
  · have E : Hid (mayB ⟨k, g, n, i, f, v⟩ = false) := by show _ = _; simp [mayB, kindB]; omega
    have q1 : (k == 1) = false := by simp; omega
    have q3 : (k == 3) = false := by simp; omega
    have q5 : (k == 5) = false := by simp; omega
    have q6 : (k == 6) = false := by simp; omega
    have hk1 : 1 ≤ k := by omega
    go_enter Tryz.func48, Tryz.ntmps48
    go_wp2
    go_ret
    exact ⟨ret_bool (by rw [E.out]), HB.out⟩
  · cases h2 : keyB g n i with
    | false =>
      have E : Hid (mayB ⟨k, g, n, i, f, v⟩ = false) := by show _ = _; simp [mayB, h2]
      rw [h2] at CY
      rcases hk with rfl | rfl | rfl | rfl | rfl | rfl
      all_goals
        go_enter Tryz.func48, Tryz.ntmps48
        go_wp2_with fail
        refine (CY.out _).mono ?_
        rintro e w2 ⟨rfl, hb2⟩
        have HE := hide (HB.out.trans (hb2.mono HB.out.size))
        clear hb2
        go_wp2
        go_ret
        exact ⟨ret_bool (by rw [E.out]), HE.out⟩
    | true =>
      rw [h2] at CY
      rcases hk with rfl | rfl | rfl | rfl | rfl | rfl
      · by_cases hf : f = 0
        · have hfb : (f == 0) = true := by simpa using hf
          have E : Hid (mayB ⟨1, g, n, i, f, v⟩ = true) := by show _ = _; simp [mayB, h2, kindB, fieldB, hasF, valueB, hasV, hf]
          clear hf
          go_enter Tryz.func48, Tryz.ntmps48
          go_wp2_with fail
          refine (CY.out _).mono ?_
          rintro e w2 ⟨rfl, hb2⟩
          have HE := hide (HB.out.trans (hb2.mono HB.out.size))
          have HG2 := hide ((hb2.block _ (lt_of_heap HG.out)).trans HG.out)
          obtain ⟨c0, c1, c2, c3, c4, c5⟩ := mt_cells (m := ⟨1, g, n, i, f, v⟩) HG2.out
          simp only at c0 c1 c2 c3 c4 c5
          clear hb2
          go_wp2
          go_ret
          exact ⟨ret_bool (by rw [E.out]), HE.out⟩
        · have hfb : (f == 0) = false := by simpa using hf
          have E : Hid (mayB ⟨1, g, n, i, f, v⟩ = false) := by show _ = _; simp [mayB, h2, kindB, fieldB, hasF, valueB, hasV, hf]
          clear hf
          go_enter Tryz.func48, Tryz.ntmps48
          go_wp2_with fail
          refine (CY.out _).mono ?_
          rintro e w2 ⟨rfl, hb2⟩
          have HE := hide (HB.out.trans (hb2.mono HB.out.size))
          have HG2 := hide ((hb2.block _ (lt_of_heap HG.out)).trans HG.out)
          obtain ⟨c0, c1, c2, c3, c4, c5⟩ := mt_cells (m := ⟨1, g, n, i, f, v⟩) HG2.out
          simp only at c0 c1 c2 c3 c4 c5
          clear hb2
          go_wp2
          go_ret
          exact ⟨ret_bool (by rw [E.out]), HE.out⟩
      · by_cases hf : f = 0
        · have hfb : (f == 0) = true := by simpa using hf
          by_cases hv : v = 0
          · have hvb : (v == 0) = true := by simpa using hv
            have E : Hid (mayB ⟨2, g, n, i, f, v⟩ = true) := by show _ = _; simp [mayB, h2, kindB, fieldB, hasF, valueB, hasV, hf, hv]
            clear hf hv
            go_enter Tryz.func48, Tryz.ntmps48
            go_wp2_with fail
            refine (CY.out _).mono ?_
            rintro e w2 ⟨rfl, hb2⟩
            have HE := hide (HB.out.trans (hb2.mono HB.out.size))
            have HG2 := hide ((hb2.block _ (lt_of_heap HG.out)).trans HG.out)
            obtain ⟨c0, c1, c2, c3, c4, c5⟩ := mt_cells (m := ⟨2, g, n, i, f, v⟩) HG2.out
            simp only at c0 c1 c2 c3 c4 c5
            clear hb2
            go_wp2
            go_ret
            exact ⟨ret_bool (by rw [E.out]), HE.out⟩
          · have hvb : (v == 0) = false := by simpa using hv
            have E : Hid (mayB ⟨2, g, n, i, f, v⟩ = false) := by show _ = _; simp [mayB, h2, kindB, fieldB, hasF, valueB, hasV, hf, hv]
            clear hf hv
            go_enter Tryz.func48, Tryz.ntmps48
            go_wp2_with fail
            refine (CY.out _).mono ?_
            rintro e w2 ⟨rfl, hb2⟩
            have HE := hide (HB.out.trans (hb2.mono HB.out.size))
            have HG2 := hide ((hb2.block _ (lt_of_heap HG.out)).trans HG.out)
            obtain ⟨c0, c1, c2, c3, c4, c5⟩ := mt_cells (m := ⟨2, g, n, i, f, v⟩) HG2.out
            simp only at c0 c1 c2 c3 c4 c5
            clear hb2
            go_wp2
            go_ret
            exact ⟨ret_bool (by rw [E.out]), HE.out⟩
        · have hfb : (f == 0) = false := by simpa using hf
          have E : Hid (mayB ⟨2, g, n, i, f, v⟩ = false) := by show _ = _; simp [mayB, h2, kindB, fieldB, hasF, valueB, hasV, hf]
          clear hf
          go_enter Tryz.func48, Tryz.ntmps48
          go_wp2_with fail
          refine (CY.out _).mono ?_
          rintro e w2 ⟨rfl, hb2⟩
          have HE := hide (HB.out.trans (hb2.mono HB.out.size))
          have HG2 := hide ((hb2.block _ (lt_of_heap HG.out)).trans HG.out)
          obtain ⟨c0, c1, c2, c3, c4, c5⟩ := mt_cells (m := ⟨2, g, n, i, f, v⟩) HG2.out
          simp only at c0 c1 c2 c3 c4 c5
          clear hb2
          go_wp2
          go_ret
          exact ⟨ret_bool (by rw [E.out]), HE.out⟩
      · by_cases hf : f = 0
        · have hfb : (f == 0) = true := by simpa using hf
          have E : Hid (mayB ⟨3, g, n, i, f, v⟩ = true) := by show _ = _; simp [mayB, h2, kindB, fieldB, hasF, valueB, hasV, hf]
          clear hf
          go_enter Tryz.func48, Tryz.ntmps48
          go_wp2_with fail
          refine (CY.out _).mono ?_
          rintro e w2 ⟨rfl, hb2⟩
          have HE := hide (HB.out.trans (hb2.mono HB.out.size))
          have HG2 := hide ((hb2.block _ (lt_of_heap HG.out)).trans HG.out)
          obtain ⟨c0, c1, c2, c3, c4, c5⟩ := mt_cells (m := ⟨3, g, n, i, f, v⟩) HG2.out
          simp only at c0 c1 c2 c3 c4 c5
          clear hb2
          go_wp2
          go_ret
          exact ⟨ret_bool (by rw [E.out]), HE.out⟩
        · have hfb : (f == 0) = false := by simpa using hf
          have E : Hid (mayB ⟨3, g, n, i, f, v⟩ = false) := by show _ = _; simp [mayB, h2, kindB, fieldB, hasF, valueB, hasV, hf]
          clear hf
          go_enter Tryz.func48, Tryz.ntmps48
          go_wp2_with fail
          refine (CY.out _).mono ?_
          rintro e w2 ⟨rfl, hb2⟩
          have HE := hide (HB.out.trans (hb2.mono HB.out.size))
          have HG2 := hide ((hb2.block _ (lt_of_heap HG.out)).trans HG.out)
          obtain ⟨c0, c1, c2, c3, c4, c5⟩ := mt_cells (m := ⟨3, g, n, i, f, v⟩) HG2.out
          simp only at c0 c1 c2 c3 c4 c5
          clear hb2
          go_wp2
          go_ret
          exact ⟨ret_bool (by rw [E.out]), HE.out⟩
      · by_cases hf : f = 0
        · have hfb : (f == 0) = true := by simpa using hf
          by_cases hv : v = 0
          · have hvb : (v == 0) = true := by simpa using hv
            have E : Hid (mayB ⟨4, g, n, i, f, v⟩ = true) := by show _ = _; simp [mayB, h2, kindB, fieldB, hasF, valueB, hasV, hf, hv]
            clear hf hv
            go_enter Tryz.func48, Tryz.ntmps48
            go_wp2_with fail
            refine (CY.out _).mono ?_
            rintro e w2 ⟨rfl, hb2⟩
            have HE := hide (HB.out.trans (hb2.mono HB.out.size))
            have HG2 := hide ((hb2.block _ (lt_of_heap HG.out)).trans HG.out)
            obtain ⟨c0, c1, c2, c3, c4, c5⟩ := mt_cells (m := ⟨4, g, n, i, f, v⟩) HG2.out
            simp only at c0 c1 c2 c3 c4 c5
            clear hb2
            go_wp2
            go_ret
            exact ⟨ret_bool (by rw [E.out]), HE.out⟩
          · have hvb : (v == 0) = false := by simpa using hv
            have E : Hid (mayB ⟨4, g, n, i, f, v⟩ = false) := by show _ = _; simp [mayB, h2, kindB, fieldB, hasF, valueB, hasV, hf, hv]
            clear hf hv
            go_enter Tryz.func48, Tryz.ntmps48
            go_wp2_with fail
            refine (CY.out _).mono ?_
            rintro e w2 ⟨rfl, hb2⟩
            have HE := hide (HB.out.trans (hb2.mono HB.out.size))
            have HG2 := hide ((hb2.block _ (lt_of_heap HG.out)).trans HG.out)
            obtain ⟨c0, c1, c2, c3, c4, c5⟩ := mt_cells (m := ⟨4, g, n, i, f, v⟩) HG2.out
            simp only at c0 c1 c2 c3 c4 c5
            clear hb2
            go_wp2
            go_ret
            exact ⟨ret_bool (by rw [E.out]), HE.out⟩
        · have hfb : (f == 0) = false := by simpa using hf
          have E : Hid (mayB ⟨4, g, n, i, f, v⟩ = false) := by show _ = _; simp [mayB, h2, kindB, fieldB, hasF, valueB, hasV, hf]
          clear hf
          go_enter Tryz.func48, Tryz.ntmps48
          go_wp2_with fail
          refine (CY.out _).mono ?_
          rintro e w2 ⟨rfl, hb2⟩
          have HE := hide (HB.out.trans (hb2.mono HB.out.size))
          have HG2 := hide ((hb2.block _ (lt_of_heap HG.out)).trans HG.out)
          obtain ⟨c0, c1, c2, c3, c4, c5⟩ := mt_cells (m := ⟨4, g, n, i, f, v⟩) HG2.out
          simp only at c0 c1 c2 c3 c4 c5
          clear hb2
          go_wp2
          go_ret
          exact ⟨ret_bool (by rw [E.out]), HE.out⟩
      · by_cases hf : 0 ≤ f
        · by_cases hf8 : f < 8
          · have hfk := hf8
            have E : Hid (mayB ⟨5, g, n, i, f, v⟩ = true) := by show _ = _; simp [mayB, h2, kindB, fieldB, hasF, valueB, hasV, inR, hf, hf8]
            go_enter Tryz.func48, Tryz.ntmps48
            go_wp2_with fail
            refine (CY.out _).mono ?_
            rintro e w2 ⟨rfl, hb2⟩
            have HE := hide (HB.out.trans (hb2.mono HB.out.size))
            have HG2 := hide ((hb2.block _ (lt_of_heap HG.out)).trans HG.out)
            obtain ⟨c0, c1, c2, c3, c4, c5⟩ := mt_cells (m := ⟨5, g, n, i, f, v⟩) HG2.out
            simp only at c0 c1 c2 c3 c4 c5
            clear hb2
            go_wp2
            go_ret
            exact ⟨ret_bool (by rw [E.out]), HE.out⟩
          · have hfk := hf8
            have E : Hid (mayB ⟨5, g, n, i, f, v⟩ = false) := by show _ = _; simp [mayB, h2, kindB, fieldB, hasF, valueB, hasV, inR, hf8]
            go_enter Tryz.func48, Tryz.ntmps48
            go_wp2_with fail
            refine (CY.out _).mono ?_
            rintro e w2 ⟨rfl, hb2⟩
            have HE := hide (HB.out.trans (hb2.mono HB.out.size))
            have HG2 := hide ((hb2.block _ (lt_of_heap HG.out)).trans HG.out)
            obtain ⟨c0, c1, c2, c3, c4, c5⟩ := mt_cells (m := ⟨5, g, n, i, f, v⟩) HG2.out
            simp only at c0 c1 c2 c3 c4 c5
            clear hb2
            go_wp2
            go_ret
            exact ⟨ret_bool (by rw [E.out]), HE.out⟩
        · have hfk := hf
          have E : Hid (mayB ⟨5, g, n, i, f, v⟩ = false) := by show _ = _; simp [mayB, h2, kindB, fieldB, hasF, valueB, hasV, inR, hf]
          go_enter Tryz.func48, Tryz.ntmps48
          go_wp2_with fail
          refine (CY.out _).mono ?_
          rintro e w2 ⟨rfl, hb2⟩
          have HE := hide (HB.out.trans (hb2.mono HB.out.size))
          have HG2 := hide ((hb2.block _ (lt_of_heap HG.out)).trans HG.out)
          obtain ⟨c0, c1, c2, c3, c4, c5⟩ := mt_cells (m := ⟨5, g, n, i, f, v⟩) HG2.out
          simp only at c0 c1 c2 c3 c4 c5
          clear hb2
          go_wp2
          go_ret
          exact ⟨ret_bool (by rw [E.out]), HE.out⟩
      · by_cases hf : 0 ≤ f
        · by_cases hf8 : f < 8
          · by_cases hv : v = 0
            · have hvb : (v == 0) = true := by simpa using hv
              have E : Hid (mayB ⟨6, g, n, i, f, v⟩ = true) := by show _ = _; simp [mayB, h2, kindB, fieldB, hasF, valueB, hasV, inR, hf, hf8, hv]
              clear hv
              go_enter Tryz.func48, Tryz.ntmps48
              go_wp2_with fail
              refine (CY.out _).mono ?_
              rintro e w2 ⟨rfl, hb2⟩
              have HE := hide (HB.out.trans (hb2.mono HB.out.size))
              have HG2 := hide ((hb2.block _ (lt_of_heap HG.out)).trans HG.out)
              obtain ⟨c0, c1, c2, c3, c4, c5⟩ := mt_cells (m := ⟨6, g, n, i, f, v⟩) HG2.out
              simp only at c0 c1 c2 c3 c4 c5
              clear hb2
              go_wp2
              go_ret
              exact ⟨ret_bool (by rw [E.out]), HE.out⟩
            · have hvb : (v == 0) = false := by simpa using hv
              have E : Hid (mayB ⟨6, g, n, i, f, v⟩ = false) := by show _ = _; simp [mayB, h2, kindB, fieldB, hasF, valueB, hasV, inR, hf, hf8, hv]
              clear hv
              go_enter Tryz.func48, Tryz.ntmps48
              go_wp2_with fail
              refine (CY.out _).mono ?_
              rintro e w2 ⟨rfl, hb2⟩
              have HE := hide (HB.out.trans (hb2.mono HB.out.size))
              have HG2 := hide ((hb2.block _ (lt_of_heap HG.out)).trans HG.out)
              obtain ⟨c0, c1, c2, c3, c4, c5⟩ := mt_cells (m := ⟨6, g, n, i, f, v⟩) HG2.out
              simp only at c0 c1 c2 c3 c4 c5
              clear hb2
              go_wp2
              go_ret
              exact ⟨ret_bool (by rw [E.out]), HE.out⟩
          · have hfk := hf8
            have E : Hid (mayB ⟨6, g, n, i, f, v⟩ = false) := by show _ = _; simp [mayB, h2, kindB, fieldB, hasF, valueB, hasV, inR, hf8]
            go_enter Tryz.func48, Tryz.ntmps48
            go_wp2_with fail
            refine (CY.out _).mono ?_
            rintro e w2 ⟨rfl, hb2⟩
            have HE := hide (HB.out.trans (hb2.mono HB.out.size))
            have HG2 := hide ((hb2.block _ (lt_of_heap HG.out)).trans HG.out)
            obtain ⟨c0, c1, c2, c3, c4, c5⟩ := mt_cells (m := ⟨6, g, n, i, f, v⟩) HG2.out
            simp only at c0 c1 c2 c3 c4 c5
            clear hb2
            go_wp2
            go_ret
            exact ⟨ret_bool (by rw [E.out]), HE.out⟩
        · have hfk := hf
          have E : Hid (mayB ⟨6, g, n, i, f, v⟩ = false) := by show _ = _; simp [mayB, h2, kindB, fieldB, hasF, valueB, hasV, inR, hf]
          go_enter Tryz.func48, Tryz.ntmps48
          go_wp2_with fail
          refine (CY.out _).mono ?_
          rintro e w2 ⟨rfl, hb2⟩
          have HE := hide (HB.out.trans (hb2.mono HB.out.size))
          have HG2 := hide ((hb2.block _ (lt_of_heap HG.out)).trans HG.out)
          obtain ⟨c0, c1, c2, c3, c4, c5⟩ := mt_cells (m := ⟨6, g, n, i, f, v⟩) HG2.out
          simp only at c0 c1 c2 c3 c4 c5
          clear hb2
          go_wp2
          go_ret
          exact ⟨ret_bool (by rw [E.out]), HE.out⟩
end Go.Proofs.YtiofkcmdgijjoaaGreat
