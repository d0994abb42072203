/- Keys: contracts of mut.Less and of the document's order. -/
import Derived.Test.YtdogecaonlmalaaGreatMap1
import Derived.Deep.RegionHeld3
namespace Go.Proofs.YtdogecaonlmalaaGreat
open Go.RowKit

/-- cmp.Compare of two ints. -/
def cmpI (x y : Int) : Int := if x < y then -1 else if y < x then 1 else 0

set_option maxRecDepth 100000 in
theorem isNaN_any (x : Int) (w : World) : Calls Tryz.prog 148 #[.int .i64 x] w fun e w' => e = .returned (.bool false) ∧ w' = w := by
  go_enter Tryz.func148, Tryz.ntmps148
  go_wp2
  go_ret
  exact ⟨rfl, rfl⟩

set_option maxRecDepth 100000 in
theorem compare_any (x y : Int) (w : World) : Calls Tryz.prog 117 #[.int .i64 x, .int .i64 y] w fun e w' => e = .returned (.int .i64 (cmpI x y)) ∧ w' = w := by
  by_cases h1 : x < y
  · have E : Hid (cmpI x y = -1) := by show _ = _; rw [cmpI, if_pos h1]
    go_enter Tryz.func117, Tryz.ntmps117
    go_wp2_with fail
    refine (isNaN_any _ _).mono ?_
    rintro e w1 ⟨rfl, rfl⟩
    go_wp2_with fail
    refine (isNaN_any _ _).mono ?_
    rintro e w1 ⟨rfl, rfl⟩
    go_wp2
    go_ret
    exact ⟨ret_int (by rw [E.out]), rfl⟩
  · by_cases h2 : y < x
    · have E : Hid (cmpI x y = 1) := by show _ = _; rw [cmpI, if_neg h1, if_pos h2]
      go_enter Tryz.func117, Tryz.ntmps117
      go_wp2_with fail
      refine (isNaN_any _ _).mono ?_
      rintro e w1 ⟨rfl, rfl⟩
      go_wp2_with fail
      refine (isNaN_any _ _).mono ?_
      rintro e w1 ⟨rfl, rfl⟩
      go_wp2
      go_ret
      exact ⟨ret_int (by rw [E.out]), rfl⟩
    · have E : Hid (cmpI x y = 0) := by show _ = _; rw [cmpI, if_neg h1, if_neg h2]
      go_enter Tryz.func117, Tryz.ntmps117
      go_wp2_with fail
      refine (isNaN_any _ _).mono ?_
      rintro e w1 ⟨rfl, rfl⟩
      go_wp2_with fail
      refine (isNaN_any _ _).mono ?_
      rintro e w1 ⟨rfl, rfl⟩
      go_wp2
      go_ret
      exact ⟨ret_int (by rw [E.out]), rfl⟩

/-- cmp.Or of three. -/
def or3 (x y z : Int) : Int := if x ≠ 0 then x else if y ≠ 0 then y else z

theorem cells_three {w : World} {g : Nat} {x y z : Value} {T : TypeId} {mk : Nat × Nat} (h : w.heap[g]? = some (.cells #[x, y, z] T mk)) : w.cell? ⟨g, 0, none⟩ = some x ∧ w.cell? ⟨g, 1, none⟩ = some y ∧ w.cell? ⟨g, 2, none⟩ = some z := by
  refine ⟨?_, ?_, ?_⟩ <;> simp [World.cell?, h]

set_option maxRecDepth 100000 in
theorem or_any (x y z : Int) (g : Nat) (w : World) (c0 : w.cell? ⟨g, 0, none⟩ = some (.int .i64 x)) (c1 : w.cell? ⟨g, 1, none⟩ = some (.int .i64 y)) (c2 : w.cell? ⟨g, 2, none⟩ = some (.int .i64 z)) :
    Calls Tryz.prog 116 #[.slice (some ⟨g, 0, none⟩) 3 3] w fun e w' => e = .returned (.int .i64 (or3 x y z)) ∧ w' = w := by
  by_cases hx : x = 0
  · by_cases hy : y = 0
    · by_cases hz : z = 0
      · have E : Hid (or3 x y z = 0) := by show _ = _; rw [or3, if_neg (by simpa using hx), if_neg (by simpa using hy), hz]
        subst hx; subst hy; subst hz
        go_enter Tryz.func116, Tryz.ntmps116
        go_wp2
        refine wp_loop_rounds 4 ?_
        rw [rounds_succ]
        go_wp2
        rw [rounds_succ]
        go_wp2
        rw [rounds_succ]
        go_wp2
        rw [rounds_succ]
        go_wp2
        go_ret
        exact ⟨ret_int (by rw [E.out]), rfl⟩
      · have E : Hid (or3 x y z = z) := by show _ = _; rw [or3, if_neg (by simpa using hx), if_neg (by simpa using hy)]
        subst hx; subst hy
        have hzb : (z != 0) = true := by simpa using hz
        go_enter Tryz.func116, Tryz.ntmps116
        go_wp2
        refine wp_loop_rounds 3 ?_
        rw [rounds_succ]
        go_wp2
        rw [rounds_succ]
        go_wp2
        rw [rounds_succ]
        go_wp2
        go_ret
        exact ⟨ret_int (by rw [E.out]), rfl⟩
    · have E : Hid (or3 x y z = y) := by show _ = _; rw [or3, if_neg (by simpa using hx), if_pos hy]
      subst hx
      have hyb : (y != 0) = true := by simpa using hy
      go_enter Tryz.func116, Tryz.ntmps116
      go_wp2
      refine wp_loop_rounds 2 ?_
      rw [rounds_succ]
      go_wp2
      rw [rounds_succ]
      go_wp2
      go_ret
      exact ⟨ret_int (by rw [E.out]), rfl⟩
  · have E : Hid (or3 x y z = x) := by show _ = _; rw [or3, if_pos hx]
    have hxb : (x != 0) = true := by simpa using hx
    go_enter Tryz.func116, Tryz.ntmps116
    go_wp2
    refine wp_loop_rounds 1 ?_
    rw [rounds_succ]
    go_wp2
    go_ret
    exact ⟨ret_int (by rw [E.out]), rfl⟩

/-- The order of keys. -/
def lessK (a b : Int × Int × Int) : Bool := if a.1 ≠ b.1 then decide (a.1 < b.1) else if a.2.1 ≠ b.2.1 then decide (a.2.1 < b.2.1) else decide (a.2.2 < b.2.2)

theorem lessK_or (a b : Int × Int × Int) : decide (or3 (cmpI a.1 b.1) (cmpI a.2.1 b.2.1) (cmpI a.2.2 b.2.2) < 0) = lessK a b := by
  have key : ∀ x y : Int, (cmpI x y < 0 ↔ x < y) ∧ (cmpI x y = 0 ↔ x = y) := by
    intro x y
    unfold cmpI
    split
    · constructor <;> omega
    · split <;> constructor <;> omega
  obtain ⟨p1, p2⟩ := key a.1 b.1
  obtain ⟨q1, q2⟩ := key a.2.1 b.2.1
  obtain ⟨r1, r2⟩ := key a.2.2 b.2.2
  unfold or3 lessK
  by_cases h1 : a.1 = b.1
  · rw [if_neg (show ¬ cmpI a.1 b.1 ≠ 0 from fun h => h (p2.2 h1)), if_neg (show ¬ a.1 ≠ b.1 from fun h => h h1)]
    by_cases h2 : a.2.1 = b.2.1
    · rw [if_neg (show ¬ cmpI a.2.1 b.2.1 ≠ 0 from fun h => h (q2.2 h2)), if_neg (show ¬ a.2.1 ≠ b.2.1 from fun h => h h2)]
      exact decide_eq_decide.2 r1
    · rw [if_pos (show cmpI a.2.1 b.2.1 ≠ 0 from fun e => h2 (q2.1 e)), if_pos (show a.2.1 ≠ b.2.1 from h2)]
      exact decide_eq_decide.2 q1
  · rw [if_pos (show cmpI a.1 b.1 ≠ 0 from fun e => h1 (p2.1 e)), if_pos (show a.1 ≠ b.1 from h1)]
    exact decide_eq_decide.2 p1

def keyV (a : Int × Int × Int) : Value := .agg #[.int .i64 a.1, .int .i64 a.2.1, .int .i64 a.2.2]
def keyObj (a : Int × Int × Int) : Obj := .cells #[.int .i64 a.1, .int .i64 a.2.1, .int .i64 a.2.2] 28

set_option maxRecDepth 100000 in
set_option maxHeartbeats 400000 in
theorem less_any (a b : Int × Int × Int) (w : World) : Calls Tryz.prog 79 #[keyV a, keyV b] w fun e w' => e = .returned (.bool (lessK a b)) ∧ Below w.heap.size w w' := by
  have h0 : ((w.alloc (keyObj a)).alloc (keyObj b)).heap[w.heap.size]? = some (keyObj a) := by
    rw [Below.heap_alloc _ _ _ (by simp)]; exact heap_alloc_new w _
  have h1 : ((w.alloc (keyObj a)).alloc (keyObj b)).heap[w.heap.size + 1]? = some (keyObj b) := by
    have := heap_alloc_new (w.alloc (keyObj a)) (keyObj b)
    simpa using this
  have hb := (below_alloc w (keyObj a) w.heap.size (Nat.le_refl _)).trans (below_alloc (w.alloc (keyObj a)) (keyObj b) w.heap.size (by simp))
  have hsz : ((w.alloc (keyObj a)).alloc (keyObj b)).heap.size = w.heap.size + 2 := by simp
  have HL := hide (lessK_or a b)
  unfold keyObj at *
  unfold keyV
  obtain ⟨a0, a1, a2⟩ := a
  obtain ⟨b0, b1, b2⟩ := b
  simp only at *
  go_enter Tryz.func79, Tryz.ntmps79
  go_wp2
  generalize (w.alloc (.cells #[.int .i64 a0, .int .i64 a1, .int .i64 a2] 28)).alloc (.cells #[.int .i64 b0, .int .i64 b1, .int .i64 b2] 28) = W at *
  obtain ⟨p0, p1, p2⟩ := cells_three h0
  obtain ⟨q0, q1, q2⟩ := cells_three h1
  have HB := hide hb
  clear h0 h1 hb
  have hz := HB.out.size
  clear hsz
  generalize w.heap.size + 1 = g1 at *
  go_region_held3 (fun w' => w'.cell? ⟨w.heap.size, 0, none⟩ = some (.int .i64 a0) ∧ w'.cell? ⟨w.heap.size, 1, none⟩ = some (.int .i64 a1) ∧ w'.cell? ⟨w.heap.size, 2, none⟩ = some (.int .i64 a2) ∧ w'.cell? ⟨g1, 0, none⟩ = some (.int .i64 b0) ∧ w'.cell? ⟨g1, 1, none⟩ = some (.int .i64 b1) ∧ w'.cell? ⟨g1, 2, none⟩ = some (.int .i64 b2)) (first | exact ⟨p0, p1, p2, q0, q1, q2⟩ | go_keep) (first | (go_at_call 117; (refine (compare_any _ _ _).mono ?_; rintro e W1 ⟨rfl, rfl⟩)) | (go_at_call 116; (refine (or_any (cmpI a0 b0) (cmpI a1 b1) (cmpI a2 b2) _ _ ?_ ?_ ?_).mono ?_; (focus (simp; done)); (focus (simp; done)); (focus (simp; done)); rintro e W2 ⟨rfl, rfl⟩)))
  all_goals
    go_wp2
    go_ret
    refine ⟨ret_bool HL.out, ?_⟩
    repeat (first | exact HB.out | refine Below.drew ?_ | refine Below.alloc ?_ (by first | exact hz | (simp; omega)) _)

set_option maxRecDepth 100000 in
set_option maxHeartbeats 400000 in
theorem refLess_any (a b : Int × Int × Int) (w : World) : Calls Tryz.prog 30 #[keyV a, keyV b] w fun e w' => e = .returned (.bool (lessK a b)) ∧ Below w.heap.size w w' := by
  have HB := hide ((below_alloc w (keyObj a) w.heap.size (Nat.le_refl _)).trans (below_alloc (w.alloc (keyObj a)) (keyObj b) w.heap.size (by simp)))
  unfold keyObj at HB
  unfold keyV
  obtain ⟨a0, a1, a2⟩ := a
  obtain ⟨b0, b1, b2⟩ := b
  simp only at *
  by_cases h0 : a0 = b0
  · by_cases h1 : a1 = b1
    · have E : Hid (lessK (a0, a1, a2) (b0, b1, b2) = decide (a2 < b2)) := by show _ = _; simp [lessK, h0, h1]
      subst h0; subst h1
      go_enter Tryz.func30, Tryz.ntmps30
      go_wp2
      go_ret
      exact ⟨ret_bool (by rw [E.out]), HB.out⟩
    · have E : Hid (lessK (a0, a1, a2) (b0, b1, b2) = decide (a1 < b1)) := by show _ = _; simp [lessK, h0, h1]
      subst h0
      have hb : (a1 != b1) = true := by simpa using h1
      go_enter Tryz.func30, Tryz.ntmps30
      go_wp2
      go_ret
      exact ⟨ret_bool (by rw [E.out]), HB.out⟩
  · have E : Hid (lessK (a0, a1, a2) (b0, b1, b2) = decide (a0 < b0)) := by show _ = _; simp [lessK, h0]
    have hb : (a0 != b0) = true := by simpa using h0
    go_enter Tryz.func30, Tryz.ntmps30
    go_wp2
    go_ret
    exact ⟨ret_bool (by rw [E.out]), HB.out⟩

theorem lessK_irr (a : Int × Int × Int) : lessK a a = false := by simp [lessK]
theorem lessK_asym (a b : Int × Int × Int) (h : lessK a b = true) : lessK b a = false := by
  unfold lessK at *
  obtain ⟨a0, a1, a2⟩ := a
  obtain ⟨b0, b1, b2⟩ := b
  simp only at *
  by_cases h0 : a0 = b0
  · subst h0
    by_cases h1 : a1 = b1
    · subst h1
      simp at h ⊢
      omega
    · have h1' : ¬ b1 = a1 := fun e => h1 e.symm
      simp [h1] at h
      simp [h1']
      omega
  · have h0' : ¬ b0 = a0 := fun e => h0 e.symm
    simp [h0] at h
    simp [h0']
    omega
theorem lessK_total (a b : Int × Int × Int) (h : lessK a b = false) (h' : lessK b a = false) : a = b := by
  unfold lessK at *
  obtain ⟨a0, a1, a2⟩ := a
  obtain ⟨b0, b1, b2⟩ := b
  simp only at *
  by_cases h0 : a0 = b0
  · subst h0
    by_cases h1 : a1 = b1
    · subst h1
      simp at h h'
      have : a2 = b2 := by omega
      rw [this]
    · have h1' : ¬ b1 = a1 := fun e => h1 e.symm
      simp [h1] at h
      simp [h1'] at h'
      omega
  · have h0' : ¬ b0 = a0 := fun e => h0 e.symm
    simp [h0] at h
    simp [h0'] at h'
    omega
theorem lessK_trans (a b c : Int × Int × Int) (h : lessK a b = true) (h' : lessK b c = true) : lessK a c = true := by
  unfold lessK at *
  obtain ⟨a0, a1, a2⟩ := a
  obtain ⟨b0, b1, b2⟩ := b
  obtain ⟨c0, c1, c2⟩ := c
  simp only at *
  have e1 : a0 < b0 ∨ (a0 = b0 ∧ (a1 < b1 ∨ (a1 = b1 ∧ a2 < b2))) := by
    by_cases h0 : a0 = b0
    · by_cases h1 : a1 = b1
      · simp [h0, h1] at h; omega
      · simp [h0, h1] at h; omega
    · simp [h0] at h; omega
  have e2 : b0 < c0 ∨ (b0 = c0 ∧ (b1 < c1 ∨ (b1 = c1 ∧ b2 < c2))) := by
    by_cases h0 : b0 = c0
    · by_cases h1 : b1 = c1
      · simp [h0, h1] at h'; omega
      · simp [h0, h1] at h'; omega
    · simp [h0] at h'; omega
  clear h h'
  by_cases h0 : a0 = c0
  · by_cases h1 : a1 = c1
    · simp [h0, h1]; omega
    · simp [h0, h1]; omega
  · simp [h0]; omega
end Go.Proofs.YtdogecaonlmalaaGreat
