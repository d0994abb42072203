/- The statement ListHundred: a hundred, and not one more, at once or one by one; other lists are not touched, for all numbers. -/
import Derived.Test.YtkchfbigkecodaaGreatKeyC
import Derived.Test.YtkchfbigkecodaaGreatLstL
import Derived.Test.YtkchfbigkecodaaGreatBeg7
import Derived.Test.YtkchfbigkecodaaGreatLawA
namespace Go.Proofs.YtkchfbigkecodaaGreat.listHundred
open Go.ChangeShapes Go.WideShapes Go.ChangeAt Go.RowKit Go.MapKept Go.ChangeMaps

/-- What is held: the lists, the two keys' boxes. -/
structure Hd (w W : World) (g q : Nat) (f : K3 → List Int) (N : Nat) : Prop where
  l : Lh w W g (fun k => (False ∨ k = q) ∨ k = q + 1) f N
  k : W.heap[q]? = some (.cells #[.int .i64 1, .int .i64 0, .int .i64 3] 28)
  o : W.heap[q + 1]? = some (.cells #[.int .i64 1, .int .i64 1, .int .i64 3] 28)
theorem Hd.later {w W W' : World} {g q N : Nat} {f : K3 → List Int} (h : Hd w W g q f N) (hb : Below W.heap.size W W') : Hd w W' g q f N := ⟨h.l.later hb, boxed_old h.k hb, boxed_old h.o hb⟩
theorem Hd.turn {w W W' : World} {g q N M : Nat} {f f' : K3 → List Int} (h : Hd w W g q f N) (hl : Lh w W' g (fun k => (False ∨ k = q) ∨ k = q + 1) f' M) (ht : Tch (fun k => g ≤ k ∧ ¬ ((False ∨ k = q) ∨ k = q + 1)) W W') : Hd w W' g q f' M :=
  ⟨hl, ht.old h.k (fun e => e.2 (Or.inl (Or.inr rfl))), ht.old h.o (fun e => e.2 (Or.inr rfl))⟩
theorem Hd.cells {w w' : World} {g q N : Nat} {f : K3 → List Int} (h : Hd w w' g q f N) : w'.cell? ⟨q, 0, none⟩ = some (.int .i64 1) ∧ w'.cell? ⟨q, 1, none⟩ = some (.int .i64 0) ∧ w'.cell? ⟨q, 2, none⟩ = some (.int .i64 3) := cells_three h.k

/-- The lists, step by step. -/
def f1 : K3 → List Int := updR (fun _ => []) k113 [5]
def f2 (n : Nat) : K3 → List Int := if n ≤ 100 then updR f1 k103 (List.replicate n 0) else f1
def hv (n : Nat) : Nat := if n ≤ 100 then n else 0
def f3 (n m : Nat) : K3 → List Int := if hv n + m ≤ 100 then updR (f2 n) k103 (f2 n k103 ++ List.replicate m 0) else f2 n
def hw (n m : Nat) : Nat := if hv n + m ≤ 100 then hv n + m else hv n
theorem f1_k : f1 k103 = [] := by decide
theorem f1_o : f1 k113 = [5] := by decide
theorem f2_len (n : Nat) : (f2 n k103).length = hv n := by
  unfold f2 hv
  by_cases h : n ≤ 100
  · simp [h, updR]
  · simp [h, f1_k]
theorem f3_len (n m : Nat) : (f3 n m k103).length = hw n m := by
  have := f2_len n
  unfold f3 hw
  by_cases h : hv n + m ≤ 100
  · simp [h, updR, this]
  · simp [h, this]
theorem ne_ko : k113 ≠ k103 := by decide
theorem f2_o (n : Nat) : f2 n k113 = [5] := by
  unfold f2
  by_cases h : n ≤ 100
  · rw [if_pos h, updR, if_neg ne_ko, f1_o]
  · rw [if_neg h, f1_o]
theorem f3_o (n m : Nat) : f3 n m k113 = [5] := by
  unfold f3
  by_cases h : hv n + m ≤ 100
  · rw [if_pos h, updR, if_neg ne_ko, f2_o]
  · rw [if_neg h, f2_o]
theorem f2_non (n : Nat) (b : K3) (h1 : b ≠ k103) (h2 : b ≠ k113) : f2 n b = [] := by
  unfold f2
  by_cases h : n ≤ 100
  · rw [if_pos h, updR, if_neg h1, f1, updR, if_neg h2]
  · rw [if_neg h, f1, updR, if_neg h2]
theorem f3_non (n m : Nat) (b : K3) (h1 : b ≠ k103) (h2 : b ≠ k113) : f3 n m b = [] := by
  unfold f3
  by_cases h : hv n + m ≤ 100
  · rw [if_pos h, updR, if_neg h1, f2_non n b h1 h2]
  · rw [if_neg h, f2_non n b h1 h2]
theorem hv_le (n : Nat) : hv n ≤ 100 := by unfold hv; split <;> omega
theorem hw_le (n m : Nat) : hw n m ≤ 100 := by have := hv_le n; unfold hw; split <;> omega
theorem last_keys {n m : Nat} {ks : List K3} (h : ∀ k, k ∈ ks ↔ updR (f3 n m) k103 [] k ≠ []) (hr : RiseK ks) : ks.length = 1 := by
  have : ks = [k113] := rise_eq hr (List.pairwise_singleton _ _) (fun k => by
    rw [h k, List.mem_singleton]
    by_cases e1 : k = k103
    · subst e1; simp [updR]; exact fun e => ne_ko e.symm
    · rw [updR, if_neg e1]
      by_cases e2 : k = k113
      · subst e2; simp [f3_o]
      · simp [f3_non n m k e1 e2, e2])
  rw [this]; rfl

theorem Hd.made {w W : World} {g q N : Nat} {f : K3 → List Int} (h : Hd w W g q f N) (n : Nat) (hf : (f k103).length ≤ 100) : Calls Tryz.prog 23 #[.pointer (some ⟨g, 0, none⟩), .agg #[.int .i64 1, .int .i64 0, .int .i64 3], .slice (some ⟨W.heap.size, 0, none⟩) n n] (W.alloc (.cells (madeCells #[.int .i64 0] n) 2)).drew
    fun e w' => e = .returned (.int .i64 (if (f k103).length + n ≤ 100 then 0 else 4)) ∧ Hid (Hd w w' g q (if (f k103).length + n ≤ 100 then updR f k103 (f k103 ++ List.replicate n 0) else f) (N + 1)) ∧ (w'.cell? ⟨q, 0, none⟩ = some (.int .i64 1) ∧ w'.cell? ⟨q, 1, none⟩ = some (.int .i64 0) ∧ w'.cell? ⟨q, 2, none⟩ = some (.int .i64 3)) := by
  have hb := (below_alloc W (.cells (madeCells #[.int .i64 0] n) 2) W.heap.size (Nat.le_refl _)).drew
  have h1 := h.later hb
  refine (h1.l.push k103 (some ⟨W.heap.size, 0, none⟩) n n (List.replicate n 0) ((rd_made n W).later (Below.refl _ _).drew) hf).mono ?_
  rintro e w' ⟨r1, r2, r3⟩
  have h2 := h1.turn r2 r3
  exact ⟨r1, h2, h2.cells⟩

set_option maxRecDepth 100000 in
set_option maxHeartbeats 8000000 in
theorem walk (n0 m0 : Int) (w : World) (_w0 : (Lit.int .i64 n0).wf = true) (_w1 : (Lit.int .i64 m0).wf = true) :
    Calls Tryz.prog 8 #[.int .i64 n0, .int .i64 m0] w fun e w' => e = .returned (.bool true) ∧ Below w.heap.size w w' := by
  obtain ⟨r0, n, e0, b0, b0', s0, hn⟩ := len110 n0
  obtain ⟨r1, m, e1, b1, b1', s1, hm⟩ := len30 m0
  have mk := fun W => made_i64 n (by omega) W
  have mk2 := fun W => made_i64 m (by omega) W
  clear _w0 _w1
  go_enter Tryz.func8, Tryz.ntmps8
  go_wp2_with fail
  refine (begun7_true _).mono ?_
  rintro e w1 ⟨rfl, hb1⟩
  have HB1 := hide hb1
  clear hb1
  go_wp2_with fail
  refine (listNew _).mono ?_
  rintro e w2 ⟨rfl, rfl⟩
  have HL2 := hide (Lh.new w w1 HB1.out)
  clear HB1
  go_wp2_with fail
  refine (key_103 _).mono ?_
  rintro e w3 ⟨rfl, hb3⟩
  go_wp2_with fail
  refine (key_113 _).mono ?_
  rintro e w4 ⟨rfl, hb4⟩
  have hb5 := hb3.trans (hb4.mono hb3.size)
  have hl5 := ((HL2.out.later hb5).box (.cells #[.int .i64 1, .int .i64 0, .int .i64 3] 28)).box (.cells #[.int .i64 1, .int .i64 1, .int .i64 3] 28)
  have hsz : (w4.alloc (.cells #[.int .i64 1, .int .i64 0, .int .i64 3] 28)).heap.size = w4.heap.size + 1 := by simp
  rw [hsz] at hl5
  have HH5 : Hid (Hd w ((w4.alloc (.cells #[.int .i64 1, .int .i64 0, .int .i64 3] 28)).alloc (.cells #[.int .i64 1, .int .i64 1, .int .i64 3] 28)) w1.heap.size w4.heap.size (fun _ => []) 0) :=
    ⟨hl5, boxed_old (heap_alloc_new w4 _) (below_alloc _ _ _ (Nat.le_refl _)), by have := heap_alloc_new (w4.alloc (.cells #[.int .i64 1, .int .i64 0, .int .i64 3] 28)) (.cells #[.int .i64 1, .int .i64 1, .int .i64 3] 28); rwa [hsz] at this⟩
  clear hb3 hb4 hb5 hl5 hsz HL2
  generalize hg : w1.heap.size = g at *
  clear hg
  obtain ⟨x0, x1, x2⟩ := cells_three HH5.out.o
  have hb6 := below_alloc ((w4.alloc (.cells #[.int .i64 1, .int .i64 0, .int .i64 3] 28)).alloc (.cells #[.int .i64 1, .int .i64 1, .int .i64 3] 28)) (.cells #[.int .i64 5] 2) _ (Nat.le_refl _)
  have HH6 := hide (HH5.out.later hb6)
  have HRD : Hid (Rd (((w4.alloc (.cells #[.int .i64 1, .int .i64 0, .int .i64 3] 28)).alloc (.cells #[.int .i64 1, .int .i64 1, .int .i64 3] 28)).alloc (.cells #[.int .i64 5] 2)) (some ⟨((w4.alloc (.cells #[.int .i64 1, .int .i64 0, .int .i64 3] 28)).alloc (.cells #[.int .i64 1, .int .i64 1, .int .i64 3] 28)).heap.size, 0, none⟩) 1 1 [5]) := rd_one 5 _
  have HQ : Hid (((w4.alloc (.cells #[.int .i64 1, .int .i64 0, .int .i64 3] 28)).alloc (.cells #[.int .i64 1, .int .i64 1, .int .i64 3] 28)).heap.size = w4.heap.size + 1 + 1) := by show _ = _; simp
  rw [HQ.out] at HRD
  clear hb6 HH5 HQ
  go_wp2_with fail
  generalize ((w4.alloc (.cells #[.int .i64 1, .int .i64 0, .int .i64 3] 28)).alloc (.cells #[.int .i64 1, .int .i64 1, .int .i64 3] 28)).alloc (.cells #[.int .i64 5] 2) = W6 at *
  generalize w4.heap.size = q at *
  have HC : Hid (Calls Tryz.prog 23 #[.pointer (some ⟨g, 0, none⟩), .agg #[.int .i64 1, .int .i64 1, .int .i64 3], .slice (some ⟨q + 1 + 1, 0, none⟩) 1 1] W6 fun e w' => e = .returned (.int .i64 0) ∧ Hid (Hd w w' g q f1 1)) := by
    refine Calls.mono (HH6.out.l.push k113 (some ⟨q + 1 + 1, 0, none⟩) 1 1 [5] HRD.out (by simp)) ?_
    rintro e w' ⟨r1, r2, r3⟩
    exact ⟨r1, HH6.out.turn r2 r3⟩
  refine HC.out.mono ?_
  rintro e W7 ⟨rfl, HH7⟩
  clear HC HH6 HRD x0 x1 x2
  have s0d : W7.drew.cell? ⟨q, 0, none⟩ = some (.int .i64 1) ∧ W7.drew.cell? ⟨q, 1, none⟩ = some (.int .i64 0) ∧ W7.drew.cell? ⟨q, 2, none⟩ = some (.int .i64 3) := HH7.out.cells
  obtain ⟨ra, hra⟩ : ∃ ra : Int, ra = if n ≤ 100 then 0 else 4 := ⟨_, rfl⟩
  have HRA := hide hra
  clear hra
  have HP : Hid (Calls Tryz.prog 23 #[.pointer (some ⟨g, 0, none⟩), .agg #[.int .i64 1, .int .i64 0, .int .i64 3], .slice (some ⟨W7.heap.size, 0, none⟩) n n] (W7.alloc (.cells (madeCells #[.int .i64 0] n) 2)).drew fun e w' => e = .returned (.int .i64 ra) ∧ Hid (Hd w w' g q (f2 n) 2) ∧ (w'.cell? ⟨q, 0, none⟩ = some (.int .i64 1) ∧ w'.cell? ⟨q, 1, none⟩ = some (.int .i64 0) ∧ w'.cell? ⟨q, 2, none⟩ = some (.int .i64 3))) := by
    rw [HRA.out]
    have := HH7.out.made n (by rw [f1_k]; simp)
    simp only [f1_k, List.length_nil, Nat.zero_add, List.nil_append] at this
    exact this
  have s0e : (W7.alloc (.cells (madeCells #[.int .i64 0] n) 2)).drew.cell? ⟨q, 0, none⟩ = some (.int .i64 1) ∧ (W7.alloc (.cells (madeCells #[.int .i64 0] n) 2)).drew.cell? ⟨q, 1, none⟩ = some (.int .i64 0) ∧ (W7.alloc (.cells (madeCells #[.int .i64 0] n) 2)).drew.cell? ⟨q, 2, none⟩ = some (.int .i64 3) :=
    (HH7.out.later (below_alloc W7 _ W7.heap.size (Nat.le_refl _)).drew).cells
  clear HH7
  go_wp2
  go_region_held3 (fun w' => w'.cell? ⟨q, 0, none⟩ = some (.int .i64 1) ∧ w'.cell? ⟨q, 1, none⟩ = some (.int .i64 0) ∧ w'.cell? ⟨q, 2, none⟩ = some (.int .i64 3)) (first | with_reducible exact s0d | with_reducible exact s0e | with_reducible exact s1) ((go_at_call 23; with_reducible refine HP.out.mono ?_; rintro e W8 ⟨rfl, HH8, s1⟩))
  all_goals
    by_cases hc : n ≤ 100
    · have hra : ra = 0 := by rw [HRA.out, if_pos hc]
      subst hra
      have hgt : ¬ (100 : Int) < (n : Int) := by omega
      by_cases hc2 : n + m ≤ 100
      · obtain ⟨L, hLe⟩ : ∃ L : Nat, (n : Int) + (m : Int) = (L : Int) := ⟨n + m, by simp⟩
        have HW : Hid (hw n m = L) := by show _ = _; unfold hw hv; rw [if_pos hc, if_pos hc2]; omega
        have hcL : ¬ (100 : Int) < (L : Int) := by omega
        have hcl : (L : Int) ≤ 9223372036854775807 := by omega
        have HP2 : Hid (Calls Tryz.prog 23 #[.pointer (some ⟨g, 0, none⟩), .agg #[.int .i64 1, .int .i64 0, .int .i64 3], .slice (some ⟨W8.heap.size, 0, none⟩) m m] ((W8.alloc (.cells (madeCells #[.int .i64 0] m) 2)).drew) fun e w' => e = .returned (.int .i64 0) ∧ Hid (Hd w w' g q (f3 n m) 3) ∧ (w'.cell? ⟨q, 0, none⟩ = some (.int .i64 1) ∧ w'.cell? ⟨q, 1, none⟩ = some (.int .i64 0) ∧ w'.cell? ⟨q, 2, none⟩ = some (.int .i64 3))) := by
          have := HH8.out.made m (by rw [f2_len]; exact hv_le n)
          rw [f2_len n] at this
          have hv' : hv n = n := by unfold hv; rw [if_pos hc]
          have hcc : hv n + m ≤ 100 := by omega
          rw [if_pos hcc, if_pos hcc] at this
          have e : f3 n m = updR (f2 n) k103 (f2 n k103 ++ List.replicate m 0) := by unfold f3; rw [if_pos hcc]
          rw [e]
          exact this
        have s0f : (W8.alloc (.cells (madeCells #[.int .i64 0] m) 2)).drew.cell? ⟨q, 0, none⟩ = some (.int .i64 1) ∧ (W8.alloc (.cells (madeCells #[.int .i64 0] m) 2)).drew.cell? ⟨q, 1, none⟩ = some (.int .i64 0) ∧ (W8.alloc (.cells (madeCells #[.int .i64 0] m) 2)).drew.cell? ⟨q, 2, none⟩ = some (.int .i64 3) :=
          (HH8.out.later (below_alloc W8 _ W8.heap.size (Nat.le_refl _)).drew).cells
        have s0g : W8.drew.cell? ⟨q, 0, none⟩ = some (.int .i64 1) ∧ W8.drew.cell? ⟨q, 1, none⟩ = some (.int .i64 0) ∧ W8.drew.cell? ⟨q, 2, none⟩ = some (.int .i64 3) := HH8.out.cells
        clear HH8 s1 HRA HP s0d s0e
        go_wp2
        go_region_held3 (fun w' => w'.cell? ⟨q, 0, none⟩ = some (.int .i64 1) ∧ w'.cell? ⟨q, 1, none⟩ = some (.int .i64 0) ∧ w'.cell? ⟨q, 2, none⟩ = some (.int .i64 3)) (first | with_reducible exact s0g | with_reducible exact s0f | with_reducible exact s2) ((go_at_call 23; with_reducible refine HP2.out.mono ?_; rintro e W9 ⟨rfl, HH9, s2⟩))
        all_goals
          clear HP2 s0f s0g
          obtain ⟨z0, z1, z2⟩ := s2
          have HX : Hid (Calls Tryz.prog 26 #[.pointer (some ⟨g, 0, none⟩), .agg #[.int .i64 1, .int .i64 0, .int .i64 3]] W9 fun e w' => ∃ p c, e = .returned (.slice p L c) ∧ Hid (Hd w w' g q (f3 n m) 3)) := by
            refine Calls.mono (HH9.out.l.list k103 (by rw [f3_len]; exact hw_le n m)) ?_
            rintro e w' ⟨p, c, r1, _, r3⟩
            rw [f3_len, HW.out] at r1
            exact ⟨p, c, r1, HH9.out.later r3⟩
          go_wp2_with fail
          refine HX.out.mono ?_
          rintro e WA ⟨p1, c1, rfl, HHA⟩
          clear HX HH9 z0 z1 z2
          obtain ⟨z0, z1, z2⟩ := cells_three HHA.out.o
          have HX : Hid (Calls Tryz.prog 26 #[.pointer (some ⟨g, 0, none⟩), .agg #[.int .i64 1, .int .i64 1, .int .i64 3]] WA fun e w' => ∃ p c, e = .returned (.slice p 1 c) ∧ Hid (Hd w w' g q (f3 n m) 3)) := by
            refine Calls.mono (HHA.out.l.list k113 (by rw [f3_o]; simp)) ?_
            rintro e w' ⟨p, c, r1, _, r3⟩
            rw [f3_o] at r1
            exact ⟨p, c, r1, HHA.out.later r3⟩
          go_wp2_with fail
          refine HX.out.mono ?_
          rintro e WB ⟨p2, c2, rfl, HHB⟩
          clear HX HHA z0 z1 z2
          obtain ⟨z0, z1, z2⟩ := cells_three HHB.out.k
          have HX : Hid (Calls Tryz.prog 24 #[.pointer (some ⟨g, 0, none⟩), .agg #[.int .i64 1, .int .i64 0, .int .i64 3]] WB fun e w' => e = .returned (.int .i64 (L : Nat)) ∧ Hid (Hd w w' g q (updR (f3 n m) k103 []) 3)) := by
            refine Calls.mono (HHB.out.l.clear k103) ?_
            rintro e w' ⟨r1, r2, r3⟩
            rw [f3_len, HW.out] at r1
            exact ⟨r1, HHB.out.turn r2 r3⟩
          go_wp2_with fail
          refine HX.out.mono ?_
          rintro e WC ⟨rfl, HHC⟩
          clear HX HHB z0 z1 z2
          obtain ⟨z0, z1, z2⟩ := cells_three HHC.out.k
          have HX : Hid (Calls Tryz.prog 26 #[.pointer (some ⟨g, 0, none⟩), .agg #[.int .i64 1, .int .i64 0, .int .i64 3]] WC fun e w' => ∃ p c, e = .returned (.slice p 0 c) ∧ Hid (Hd w w' g q (updR (f3 n m) k103 []) 3)) := by
            refine Calls.mono (HHC.out.l.list k103 (by simp [updR])) ?_
            rintro e w' ⟨p, c, r1, _, r3⟩
            rw [show (updR (f3 n m) k103 [] k103) = [] by simp [updR]] at r1
            exact ⟨p, c, r1, HHC.out.later r3⟩
          go_wp2_with fail
          refine HX.out.mono ?_
          rintro e WD ⟨p3, c3, rfl, HHD⟩
          clear HX HHC z0 z1 z2
          obtain ⟨z0, z1, z2⟩ := cells_three HHD.out.k
          have HX : Hid (Calls Tryz.prog 23 #[.pointer (some ⟨g, 0, none⟩), .agg #[.int .i64 1, .int .i64 0, .int .i64 3], .slice none 0 0] WD fun e w' => e = .returned (.int .i64 0) ∧ Hid (Hd w w' g q (updR (f3 n m) k103 []) 4)) := by
            refine Calls.mono (HHD.out.l.push k103 none 0 0 [] ⟨rfl, fun _ => ⟨rfl, rfl⟩, fun a ha => (by cases ha), Nat.le_refl _⟩ (by simp [updR])) ?_
            rintro e w' ⟨r1, r2, r3⟩
            rw [show (updR (f3 n m) k103 [] k103) = [] by simp [updR]] at r1 r2
            rw [if_pos (by simp)] at r1 r2
            have e2 : updR (updR (f3 n m) k103 []) k103 ([] ++ []) = updR (f3 n m) k103 [] := by funext b; unfold updR; split <;> rfl
            rw [e2] at r2
            exact ⟨r1, HHD.out.turn r2 r3⟩
          go_wp2_with fail
          refine HX.out.mono ?_
          rintro e WE ⟨rfl, HHE⟩
          clear HX HHD z0 z1 z2
          have HX : Hid (Calls Tryz.prog 25 #[.pointer (some ⟨g, 0, none⟩)] WE fun e w' => ∃ p c, e = .returned (.slice p 1 c) ∧ Hid (Below w.heap.size w w')) := by
            refine Calls.mono (HHE.out.l.keys (by omega)) ?_
            rintro e w' ⟨p, c, ks, r1, r2, r3, _, r5⟩
            rw [last_keys r2 r3] at r1
            exact ⟨p, c, r1, (HHE.out.later r5).l.b⟩
          go_wp2_with fail
          refine HX.out.mono ?_
          rintro e WF ⟨p4, c4, rfl, HBF⟩
          clear HX HHE
          go_wp2
          go_ret
          exact ⟨rfl, HBF.out⟩
      · have HW : Hid (hw n m = n) := by show _ = _; unfold hw hv; rw [if_pos hc, if_neg hc2]
        have hcL : (100 : Int) < (n : Int) + (m : Int) := by omega
        have HP2 : Hid (Calls Tryz.prog 23 #[.pointer (some ⟨g, 0, none⟩), .agg #[.int .i64 1, .int .i64 0, .int .i64 3], .slice (some ⟨W8.heap.size, 0, none⟩) m m] ((W8.alloc (.cells (madeCells #[.int .i64 0] m) 2)).drew) fun e w' => e = .returned (.int .i64 4) ∧ Hid (Hd w w' g q (f3 n m) 3) ∧ (w'.cell? ⟨q, 0, none⟩ = some (.int .i64 1) ∧ w'.cell? ⟨q, 1, none⟩ = some (.int .i64 0) ∧ w'.cell? ⟨q, 2, none⟩ = some (.int .i64 3))) := by
          have := HH8.out.made m (by rw [f2_len]; exact hv_le n)
          rw [f2_len n] at this
          have hv' : hv n = n := by unfold hv; rw [if_pos hc]
          have hcc : ¬ hv n + m ≤ 100 := by omega
          rw [if_neg hcc, if_neg hcc] at this
          have e : f3 n m = f2 n := by unfold f3; rw [if_neg hcc]
          rw [e]
          exact this
        have s0f : (W8.alloc (.cells (madeCells #[.int .i64 0] m) 2)).drew.cell? ⟨q, 0, none⟩ = some (.int .i64 1) ∧ (W8.alloc (.cells (madeCells #[.int .i64 0] m) 2)).drew.cell? ⟨q, 1, none⟩ = some (.int .i64 0) ∧ (W8.alloc (.cells (madeCells #[.int .i64 0] m) 2)).drew.cell? ⟨q, 2, none⟩ = some (.int .i64 3) :=
          (HH8.out.later (below_alloc W8 _ W8.heap.size (Nat.le_refl _)).drew).cells
        have s0g : W8.drew.cell? ⟨q, 0, none⟩ = some (.int .i64 1) ∧ W8.drew.cell? ⟨q, 1, none⟩ = some (.int .i64 0) ∧ W8.drew.cell? ⟨q, 2, none⟩ = some (.int .i64 3) := HH8.out.cells
        clear HH8 s1 HRA HP s0d s0e
        go_wp2
        go_region_held3 (fun w' => w'.cell? ⟨q, 0, none⟩ = some (.int .i64 1) ∧ w'.cell? ⟨q, 1, none⟩ = some (.int .i64 0) ∧ w'.cell? ⟨q, 2, none⟩ = some (.int .i64 3)) (first | with_reducible exact s0g | with_reducible exact s0f | with_reducible exact s2) ((go_at_call 23; with_reducible refine HP2.out.mono ?_; rintro e W9 ⟨rfl, HH9, s2⟩))
        all_goals
          clear HP2 s0f s0g
          obtain ⟨z0, z1, z2⟩ := s2
          have HX : Hid (Calls Tryz.prog 26 #[.pointer (some ⟨g, 0, none⟩), .agg #[.int .i64 1, .int .i64 0, .int .i64 3]] W9 fun e w' => ∃ p c, e = .returned (.slice p n c) ∧ Hid (Hd w w' g q (f3 n m) 3)) := by
            refine Calls.mono (HH9.out.l.list k103 (by rw [f3_len]; exact hw_le n m)) ?_
            rintro e w' ⟨p, c, r1, _, r3⟩
            rw [f3_len, HW.out] at r1
            exact ⟨p, c, r1, HH9.out.later r3⟩
          go_wp2_with fail
          refine HX.out.mono ?_
          rintro e WA ⟨p1, c1, rfl, HHA⟩
          clear HX HH9 z0 z1 z2
          obtain ⟨z0, z1, z2⟩ := cells_three HHA.out.o
          have HX : Hid (Calls Tryz.prog 26 #[.pointer (some ⟨g, 0, none⟩), .agg #[.int .i64 1, .int .i64 1, .int .i64 3]] WA fun e w' => ∃ p c, e = .returned (.slice p 1 c) ∧ Hid (Hd w w' g q (f3 n m) 3)) := by
            refine Calls.mono (HHA.out.l.list k113 (by rw [f3_o]; simp)) ?_
            rintro e w' ⟨p, c, r1, _, r3⟩
            rw [f3_o] at r1
            exact ⟨p, c, r1, HHA.out.later r3⟩
          go_wp2_with fail
          refine HX.out.mono ?_
          rintro e WB ⟨p2, c2, rfl, HHB⟩
          clear HX HHA z0 z1 z2
          obtain ⟨z0, z1, z2⟩ := cells_three HHB.out.k
          have HX : Hid (Calls Tryz.prog 24 #[.pointer (some ⟨g, 0, none⟩), .agg #[.int .i64 1, .int .i64 0, .int .i64 3]] WB fun e w' => e = .returned (.int .i64 (n : Nat)) ∧ Hid (Hd w w' g q (updR (f3 n m) k103 []) 3)) := by
            refine Calls.mono (HHB.out.l.clear k103) ?_
            rintro e w' ⟨r1, r2, r3⟩
            rw [f3_len, HW.out] at r1
            exact ⟨r1, HHB.out.turn r2 r3⟩
          go_wp2_with fail
          refine HX.out.mono ?_
          rintro e WC ⟨rfl, HHC⟩
          clear HX HHB z0 z1 z2
          obtain ⟨z0, z1, z2⟩ := cells_three HHC.out.k
          have HX : Hid (Calls Tryz.prog 26 #[.pointer (some ⟨g, 0, none⟩), .agg #[.int .i64 1, .int .i64 0, .int .i64 3]] WC fun e w' => ∃ p c, e = .returned (.slice p 0 c) ∧ Hid (Hd w w' g q (updR (f3 n m) k103 []) 3)) := by
            refine Calls.mono (HHC.out.l.list k103 (by simp [updR])) ?_
            rintro e w' ⟨p, c, r1, _, r3⟩
            rw [show (updR (f3 n m) k103 [] k103) = [] by simp [updR]] at r1
            exact ⟨p, c, r1, HHC.out.later r3⟩
          go_wp2_with fail
          refine HX.out.mono ?_
          rintro e WD ⟨p3, c3, rfl, HHD⟩
          clear HX HHC z0 z1 z2
          obtain ⟨z0, z1, z2⟩ := cells_three HHD.out.k
          have HX : Hid (Calls Tryz.prog 23 #[.pointer (some ⟨g, 0, none⟩), .agg #[.int .i64 1, .int .i64 0, .int .i64 3], .slice none 0 0] WD fun e w' => e = .returned (.int .i64 0) ∧ Hid (Hd w w' g q (updR (f3 n m) k103 []) 4)) := by
            refine Calls.mono (HHD.out.l.push k103 none 0 0 [] ⟨rfl, fun _ => ⟨rfl, rfl⟩, fun a ha => (by cases ha), Nat.le_refl _⟩ (by simp [updR])) ?_
            rintro e w' ⟨r1, r2, r3⟩
            rw [show (updR (f3 n m) k103 [] k103) = [] by simp [updR]] at r1 r2
            rw [if_pos (by simp)] at r1 r2
            have e2 : updR (updR (f3 n m) k103 []) k103 ([] ++ []) = updR (f3 n m) k103 [] := by funext b; unfold updR; split <;> rfl
            rw [e2] at r2
            exact ⟨r1, HHD.out.turn r2 r3⟩
          go_wp2_with fail
          refine HX.out.mono ?_
          rintro e WE ⟨rfl, HHE⟩
          clear HX HHD z0 z1 z2
          have HX : Hid (Calls Tryz.prog 25 #[.pointer (some ⟨g, 0, none⟩)] WE fun e w' => ∃ p c, e = .returned (.slice p 1 c) ∧ Hid (Below w.heap.size w w')) := by
            refine Calls.mono (HHE.out.l.keys (by omega)) ?_
            rintro e w' ⟨p, c, ks, r1, r2, r3, _, r5⟩
            rw [last_keys r2 r3] at r1
            exact ⟨p, c, r1, (HHE.out.later r5).l.b⟩
          go_wp2_with fail
          refine HX.out.mono ?_
          rintro e WF ⟨p4, c4, rfl, HBF⟩
          clear HX HHE
          go_wp2
          go_ret
          exact ⟨rfl, HBF.out⟩
    · have hra : ra = 4 := by rw [HRA.out, if_neg hc]
      subst hra
      have hgt : (100 : Int) < (n : Int) := by omega
      have hc3 : ¬ ((n : Int) ≤ 100) := by omega
      have HW : Hid (hw n m = m) := by show _ = _; unfold hw hv; rw [if_neg hc, if_pos (by omega)]; omega
      have hcL : ¬ (100 : Int) < (m : Int) := by omega
      have HP2 : Hid (Calls Tryz.prog 23 #[.pointer (some ⟨g, 0, none⟩), .agg #[.int .i64 1, .int .i64 0, .int .i64 3], .slice (some ⟨W8.heap.size, 0, none⟩) m m] ((W8.alloc (.cells (madeCells #[.int .i64 0] m) 2)).drew) fun e w' => e = .returned (.int .i64 0) ∧ Hid (Hd w w' g q (f3 n m) 3) ∧ (w'.cell? ⟨q, 0, none⟩ = some (.int .i64 1) ∧ w'.cell? ⟨q, 1, none⟩ = some (.int .i64 0) ∧ w'.cell? ⟨q, 2, none⟩ = some (.int .i64 3))) := by
        have := HH8.out.made m (by rw [f2_len]; exact hv_le n)
        rw [f2_len n] at this
        have hv' : hv n = 0 := by unfold hv; rw [if_neg hc]
        have hcc : hv n + m ≤ 100 := by omega
        rw [if_pos hcc, if_pos hcc] at this
        have e : f3 n m = updR (f2 n) k103 (f2 n k103 ++ List.replicate m 0) := by unfold f3; rw [if_pos hcc]
        rw [e]
        exact this
      have s0f : (W8.alloc (.cells (madeCells #[.int .i64 0] m) 2)).drew.cell? ⟨q, 0, none⟩ = some (.int .i64 1) ∧ (W8.alloc (.cells (madeCells #[.int .i64 0] m) 2)).drew.cell? ⟨q, 1, none⟩ = some (.int .i64 0) ∧ (W8.alloc (.cells (madeCells #[.int .i64 0] m) 2)).drew.cell? ⟨q, 2, none⟩ = some (.int .i64 3) :=
        (HH8.out.later (below_alloc W8 _ W8.heap.size (Nat.le_refl _)).drew).cells
      have s0g : W8.drew.cell? ⟨q, 0, none⟩ = some (.int .i64 1) ∧ W8.drew.cell? ⟨q, 1, none⟩ = some (.int .i64 0) ∧ W8.drew.cell? ⟨q, 2, none⟩ = some (.int .i64 3) := HH8.out.cells
      clear HH8 s1 HRA HP s0d s0e
      go_wp2
      go_region_held3 (fun w' => w'.cell? ⟨q, 0, none⟩ = some (.int .i64 1) ∧ w'.cell? ⟨q, 1, none⟩ = some (.int .i64 0) ∧ w'.cell? ⟨q, 2, none⟩ = some (.int .i64 3)) (first | with_reducible exact s0g | with_reducible exact s0f | with_reducible exact s2) ((go_at_call 23; with_reducible refine HP2.out.mono ?_; rintro e W9 ⟨rfl, HH9, s2⟩))
      all_goals
        clear HP2 s0f s0g
        obtain ⟨z0, z1, z2⟩ := s2
        have HX : Hid (Calls Tryz.prog 26 #[.pointer (some ⟨g, 0, none⟩), .agg #[.int .i64 1, .int .i64 0, .int .i64 3]] W9 fun e w' => ∃ p c, e = .returned (.slice p m c) ∧ Hid (Hd w w' g q (f3 n m) 3)) := by
          refine Calls.mono (HH9.out.l.list k103 (by rw [f3_len]; exact hw_le n m)) ?_
          rintro e w' ⟨p, c, r1, _, r3⟩
          rw [f3_len, HW.out] at r1
          exact ⟨p, c, r1, HH9.out.later r3⟩
        go_wp2_with fail
        refine HX.out.mono ?_
        rintro e WA ⟨p1, c1, rfl, HHA⟩
        clear HX HH9 z0 z1 z2
        obtain ⟨z0, z1, z2⟩ := cells_three HHA.out.o
        have HX : Hid (Calls Tryz.prog 26 #[.pointer (some ⟨g, 0, none⟩), .agg #[.int .i64 1, .int .i64 1, .int .i64 3]] WA fun e w' => ∃ p c, e = .returned (.slice p 1 c) ∧ Hid (Hd w w' g q (f3 n m) 3)) := by
          refine Calls.mono (HHA.out.l.list k113 (by rw [f3_o]; simp)) ?_
          rintro e w' ⟨p, c, r1, _, r3⟩
          rw [f3_o] at r1
          exact ⟨p, c, r1, HHA.out.later r3⟩
        go_wp2_with fail
        refine HX.out.mono ?_
        rintro e WB ⟨p2, c2, rfl, HHB⟩
        clear HX HHA z0 z1 z2
        obtain ⟨z0, z1, z2⟩ := cells_three HHB.out.k
        have HX : Hid (Calls Tryz.prog 24 #[.pointer (some ⟨g, 0, none⟩), .agg #[.int .i64 1, .int .i64 0, .int .i64 3]] WB fun e w' => e = .returned (.int .i64 (m : Nat)) ∧ Hid (Hd w w' g q (updR (f3 n m) k103 []) 3)) := by
          refine Calls.mono (HHB.out.l.clear k103) ?_
          rintro e w' ⟨r1, r2, r3⟩
          rw [f3_len, HW.out] at r1
          exact ⟨r1, HHB.out.turn r2 r3⟩
        go_wp2_with fail
        refine HX.out.mono ?_
        rintro e WC ⟨rfl, HHC⟩
        clear HX HHB z0 z1 z2
        obtain ⟨z0, z1, z2⟩ := cells_three HHC.out.k
        have HX : Hid (Calls Tryz.prog 26 #[.pointer (some ⟨g, 0, none⟩), .agg #[.int .i64 1, .int .i64 0, .int .i64 3]] WC fun e w' => ∃ p c, e = .returned (.slice p 0 c) ∧ Hid (Hd w w' g q (updR (f3 n m) k103 []) 3)) := by
          refine Calls.mono (HHC.out.l.list k103 (by simp [updR])) ?_
          rintro e w' ⟨p, c, r1, _, r3⟩
          rw [show (updR (f3 n m) k103 [] k103) = [] by simp [updR]] at r1
          exact ⟨p, c, r1, HHC.out.later r3⟩
        go_wp2_with fail
        refine HX.out.mono ?_
        rintro e WD ⟨p3, c3, rfl, HHD⟩
        clear HX HHC z0 z1 z2
        obtain ⟨z0, z1, z2⟩ := cells_three HHD.out.k
        have HX : Hid (Calls Tryz.prog 23 #[.pointer (some ⟨g, 0, none⟩), .agg #[.int .i64 1, .int .i64 0, .int .i64 3], .slice none 0 0] WD fun e w' => e = .returned (.int .i64 0) ∧ Hid (Hd w w' g q (updR (f3 n m) k103 []) 4)) := by
          refine Calls.mono (HHD.out.l.push k103 none 0 0 [] ⟨rfl, fun _ => ⟨rfl, rfl⟩, fun a ha => (by cases ha), Nat.le_refl _⟩ (by simp [updR])) ?_
          rintro e w' ⟨r1, r2, r3⟩
          rw [show (updR (f3 n m) k103 [] k103) = [] by simp [updR]] at r1 r2
          rw [if_pos (by simp)] at r1 r2
          have e2 : updR (updR (f3 n m) k103 []) k103 ([] ++ []) = updR (f3 n m) k103 [] := by funext b; unfold updR; split <;> rfl
          rw [e2] at r2
          exact ⟨r1, HHD.out.turn r2 r3⟩
        go_wp2_with fail
        refine HX.out.mono ?_
        rintro e WE ⟨rfl, HHE⟩
        clear HX HHD z0 z1 z2
        have HX : Hid (Calls Tryz.prog 25 #[.pointer (some ⟨g, 0, none⟩)] WE fun e w' => ∃ p c, e = .returned (.slice p 1 c) ∧ Hid (Below w.heap.size w w')) := by
          refine Calls.mono (HHE.out.l.keys (by omega)) ?_
          rintro e w' ⟨p, c, ks, r1, r2, r3, _, r5⟩
          rw [last_keys r2 r3] at r1
          exact ⟨p, c, r1, (HHE.out.later r5).l.b⟩
        go_wp2_with fail
        refine HX.out.mono ?_
        rintro e WF ⟨p4, c4, rfl, HBF⟩
        clear HX HHE
        go_wp2
        go_ret
        first | exact ⟨rfl, HBF.out⟩ | exact ⟨ret_bool (by simp; omega), HBF.out⟩

theorem own : ownKnob Tryz.prog.godebug = none := by kernel_rfl
theorem laidOut : laidOutB Tryz.prog = true := by kernel_rfl

set_option maxRecDepth 100000 in
theorem lifted (os : Os) (started : os.Started) (H : Type) (enc : TypeId × Value → H) :
    ReturnsInHanded {} Tryz.checked os 8 .any (Rows.listHundredSpec.pre6 enc Tryz.prog Tryz.f8 Rows.listHundredRow.domain false) (Rows.listHundredSpec.post enc Tryz.prog Tryz.f8 false true false false) := by
  refine returnsInHanded_of_change (C := Tryz.checked) own started (by kernel_rfl) Tryz.func8
    (ChangeSpec.witness6 (enc := enc) (C := Tryz.checked) false ⟨#[], #[.int .i64 0, .int .i64 0], []⟩ 8 (by kernel_rfl) (by kernel_rfl) (by kernel_rfl) (by kernel_rfl)) ?_
  intro W base args ds gs before hval0 hW hcnd _
  have hval : ∀ (j : Nat) t v, Tryz.f8.params[j]? = some t → args[j]? = some v → Value.okWide Tryz.prog W .any base t v := hval0
  have hW' := hW
  obtain ⟨p, q, hA0, hV, rfl, hfz, hnd⟩ := hW
  have hA : DataW.TrodAll enc Tryz.prog W 0 (fun _ => true) true Tryz.f8.params.toList args.toList ds p := hA0
  rw [Tryz.params8] at hA hval
  obtain ⟨v0, vs0, d0, ds0, p0, q0, hargs, rfl, rfl, h0, r0⟩ := trodAll_cons hA
  obtain ⟨v1, vs1, d1, ds1, p1, q1, rfl, rfl, rfl, h1, r1⟩ := trodAll_cons r0
  obtain ⟨rfl, rfl, rfl⟩ := trodAll_nil r1
  obtain rfl : args = #[v0, v1] := by cases args; simp_all
  obtain ⟨rfl, rfl⟩ := trodVars_none hV
  obtain ⟨a0, rfl, rfl, rfl, w0⟩ := open_int Tryz.underlying3 (hval 0 3 v0 rfl rfl) h0
  obtain ⟨a1, rfl, rfl, rfl, w1⟩ := open_int Tryz.underlying3 (hval 1 3 v1 rfl rfl) h1
  clear hA0 hval0
  refine (walk a0 a1 W w0 w1).mono fun e W' ⟨he, bel⟩ => ?_
  subst he
  exact ⟨_, rfl, _, _, _, [], _, [], hW', trodAll_mk1 (shut_bool Tryz.underlying4 _), (trodAll_cons_mk (shut_int Tryz.underlying3 w0) (trodAll_cons_mk (shut_int Tryz.underlying3 w1) trodAll_mk0)), rfl, bel.frame _, fun h => by cases h⟩

theorem over : Rows.listHundredRow.holds Tryz.pinned (OpenSpec.ofChange Rows.listHundredSpec) :=
  OpenClaim.holds_of_wide 8 Tryz.f8 rfl rfl rfl rfl rfl rfl rfl ⟨rfl, rfl, rfl, rfl, rfl⟩ rfl rfl rfl rfl rfl (by kernel_rfl) Tryz.func8 (by kernel_rfl)
    (of_decide_eq_true (by kernel_rfl)) (by unfold Func.isWrapper; first | (rw [if_pos (by decide +kernel)]; kernel_rfl) | (rw [if_neg (by decide +kernel)]; exact ⟨rfl, rfl⟩))
    (fun os started H enc _ => lifted os started H enc)

theorem proved : Rows.ListHundredSaid := over
#print axioms proved
end Go.Proofs.YtkchfbigkecodaaGreat.listHundred
