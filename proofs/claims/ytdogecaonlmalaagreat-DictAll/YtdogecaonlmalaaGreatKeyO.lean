/- The order of keys of state, as package keys hands it to the library's sort. -/
import Derived.Test.YtdogecaonlmalaaGreatMutL
import Derived.Test.YtdogecaonlmalaaGreatKeyK
import Derived.Shelf.SlSortCmp.InsertionK
namespace Go.Proofs.YtdogecaonlmalaaGreat
open Go.RowKit Go.Sort Go.Shelf

theorem grow_drew_grow (w : World) (q q' : Nat) (os os' : Array Obj) : grow ((grow (w.drewN q) os).drewN q') os' = grow (w.drewN (q + q')) (os ++ os') := by
  have : (grow (w.drewN q) os).drewN q' = grow (w.drewN (q + q')) os := by
    simp [grow, World.drewN, Nat.add_assoc]
  rw [this, grow_grow]

theorem world3 (w : World) (A B S : Obj) : (((w.alloc A).alloc B).alloc S).drew = grow (w.drewN 1) #[A, B, S] := by
  have h : ((w.heap.push A).push B).push S = w.heap ++ #[A, B, S] := by apply Array.ext'; simp
  show ({ w with heap := ((w.heap.push A).push B).push S, drawn := w.drawn + 1 } : World) = { w with heap := w.heap ++ #[A, B, S], drawn := w.drawn + 1 }
  rw [h]
theorem world2 (w : World) (A B : Obj) (q : Nat) (os : Array Obj) : grow (((w.alloc A).alloc B).drewN q) os = grow (w.drewN q) (#[A, B] ++ os) := by
  have h : (w.heap.push A).push B ++ os = w.heap ++ (#[A, B] ++ os) := by apply Array.ext'; simp
  show ({ w with heap := (w.heap.push A).push B ++ os, drawn := w.drawn + q } : World) = { w with heap := w.heap ++ (#[A, B] ++ os), drawn := w.drawn + q }
  rw [h]

set_option maxRecDepth 100000 in
set_option maxHeartbeats 800000 in
theorem less_ex (a b : Int × Int × Int) (w : World) : Calls Tryz.prog 79 #[keyV a, keyV b] w fun e w' => e = .returned (.bool (lessK a b)) ∧ ∃ os, w' = grow (w.drewN 1) os := by
  have h0 : ((w.alloc (keyObj a)).alloc (keyObj b)).heap[w.heap.size]? = some (keyObj a) := by
    rw [Below.heap_alloc _ _ _ (by simp)]; exact heap_alloc_new w _
  have h1 : ((w.alloc (keyObj a)).alloc (keyObj b)).heap[w.heap.size + 1]? = some (keyObj b) := by
    have := heap_alloc_new (w.alloc (keyObj a)) (keyObj b)
    simpa using this
  have HW : Hid (∀ o, ∃ os, (((w.alloc (keyObj a)).alloc (keyObj b)).alloc o).drew = grow (w.drewN 1) os) := fun o => ⟨#[keyObj a, keyObj b, o], world3 w _ _ o⟩
  have HL := hide (lessK_or a b)
  unfold keyObj at *
  unfold keyV
  obtain ⟨a0, a1, a2⟩ := a
  obtain ⟨b0, b1, b2⟩ := b
  simp only at *
  go_enter Tryz.func79, Tryz.ntmps79
  go_wp2
  generalize (w.alloc (.cells #[.int .i64 a0, .int .i64 a1, .int .i64 a2] 28)).alloc (.cells #[.int .i64 b0, .int .i64 b1, .int .i64 b2] 28) = W at *
  obtain ⟨p0, p1, p2⟩ := cells_three h0
  obtain ⟨q0, q1, q2⟩ := cells_three h1
  clear h0 h1
  generalize w.heap.size + 1 = g1 at *
  have hz : w.heap.size ≤ W.heap.size := Nat.le_of_lt (lt_of_cell p0)
  go_region_held3 (fun w' => w'.cell? ⟨w.heap.size, 0, none⟩ = some (.int .i64 a0) ∧ w'.cell? ⟨w.heap.size, 1, none⟩ = some (.int .i64 a1) ∧ w'.cell? ⟨w.heap.size, 2, none⟩ = some (.int .i64 a2) ∧ w'.cell? ⟨g1, 0, none⟩ = some (.int .i64 b0) ∧ w'.cell? ⟨g1, 1, none⟩ = some (.int .i64 b1) ∧ w'.cell? ⟨g1, 2, none⟩ = some (.int .i64 b2)) (first | exact ⟨p0, p1, p2, q0, q1, q2⟩ | go_keep) (first | (go_at_call 117; (refine (compare_any _ _ _).mono ?_; rintro e W1 ⟨rfl, rfl⟩)) | (go_at_call 116; (refine (or_any (cmpI a0 b0) (cmpI a1 b1) (cmpI a2 b2) _ _ ?_ ?_ ?_).mono ?_; (focus (simp; done)); (focus (simp; done)); (focus (simp; done)); rintro e W2 ⟨rfl, rfl⟩)))
  all_goals
    go_wp2
    go_ret
    refine ⟨ret_bool HL.out, ?_⟩
    exact HW.out _

/-- The order as the library asks for it. -/
def ordI (a b : Int × Int × Int) : Int := if lessK a b then -1 else if lessK b a then 1 else 0

theorem grow_old {W : World} {k q : Nat} {os : Array Obj} {o : Obj} (h : W.heap[k]? = some o) : (grow (W.drewN q) os).heap[k]? = some o := by
  have hlt := lt_of_heap h
  rw [heap_grow_old _ _ (by simpa [World.drewN] using hlt)]
  exact h

set_option maxRecDepth 100000 in
set_option maxHeartbeats 800000 in
theorem order_ex (a b : Int × Int × Int) (w : World) : Calls Tryz.prog 49 #[keyV a, keyV b] w fun e w' => e = .returned (.int .i64 (ordI a b)) ∧ ∃ q os, w' = grow (w.drewN q) os := by
  have h0 : ((w.alloc (keyObj a)).alloc (keyObj b)).heap[w.heap.size]? = some (keyObj a) := by
    rw [Below.heap_alloc _ _ _ (by simp)]; exact heap_alloc_new w _
  have h1 : ((w.alloc (keyObj a)).alloc (keyObj b)).heap[w.heap.size + 1]? = some (keyObj b) := by
    have := heap_alloc_new (w.alloc (keyObj a)) (keyObj b)
    simpa using this
  have HW : Hid (∀ q os, ∃ q' os', grow (((w.alloc (keyObj a)).alloc (keyObj b)).drewN q) os = grow (w.drewN q') os') := fun q os => ⟨q, #[keyObj a, keyObj b] ++ os, world2 w _ _ q os⟩
  have HA := hide (fun W => less_ex a b W)
  have HB := hide (fun W => less_ex b a W)
  have HO : Hid (ordI a b = if lessK a b then -1 else if lessK b a then 1 else 0) := rfl
  generalize ordI a b = oi at *
  generalize lessK a b = ab at *
  generalize lessK b a = ba at *
  unfold keyObj at *
  unfold keyV at *
  obtain ⟨a0, a1, a2⟩ := a
  obtain ⟨b0, b1, b2⟩ := b
  simp only at *
  obtain ⟨p0, p1, p2⟩ := cells_three h0
  obtain ⟨q0, q1, q2⟩ := cells_three h1
  have H0 := hide h0
  have H1 := hide h1
  clear h0 h1
  go_enter Tryz.func49, Tryz.ntmps49
  go_wp2_with fail
  generalize (w.alloc (.cells #[.int .i64 a0, .int .i64 a1, .int .i64 a2] 28)).alloc (.cells #[.int .i64 b0, .int .i64 b1, .int .i64 b2] 28) = W at *
  refine (HA.out W).mono ?_
  rintro e W1 ⟨rfl, os, rfl⟩
  cases ab with
  | true =>
    have E : oi = -1 := HO.out
    subst E
    go_wp2
    go_ret
    exact ⟨rfl, HW.out 1 os⟩
  | false =>
    clear p0 p1 p2 q0 q1 q2
    obtain ⟨p0, p1, p2⟩ := cells_three (grow_old (q := 1) (os := os) H0.out)
    obtain ⟨q0, q1, q2⟩ := cells_three (grow_old (q := 1) (os := os) H1.out)
    go_wp2_with fail
    refine (HB.out _).mono ?_
    rintro e W2 ⟨rfl, os', rfl⟩
    rw [grow_drew_grow]
    have HE := HW.out (1 + 1) (os ++ os')
    cases ba with
    | true =>
      have E : oi = 1 := HO.out
      subst E
      go_wp2
      go_ret
      exact ⟨rfl, HE⟩
    | false =>
      have E : oi = 0 := HO.out
      subst E
      go_wp2
      go_ret
      exact ⟨rfl, HE⟩

def k3T (a : K3) : Int × Int × Int := (a.g, a.n, a.i)
def k3Ord (a b : K3) : Int := ordI (k3T a) (k3T b)
def k3Less (a b : K3) : Bool := lessK (k3T a) (k3T b)

theorem k3Lt (a b : K3) : ltOf k3Ord a b = k3Less a b := by
  unfold ltOf k3Ord ordI k3Less
  cases lessK (k3T a) (k3T b) with
  | true => rfl
  | false => cases lessK (k3T b) (k3T a) <;> rfl

theorem k3_total (a b : K3) (h : k3Less a b = false) (h' : k3Less b a = false) : a = b := by
  have := lessK_total _ _ h h'
  simp [k3T] at this
  exact K3.ext' this.1 this.2.1 this.2.2

theorem k3_swo : SWO (ltOf k3Ord) := by
  refine ⟨fun x => ?_, fun x y z h1 h2 => ?_, fun x y z h1 h2 => ?_⟩
  · rw [k3Lt]; exact lessK_irr _
  · rw [k3Lt] at *; exact lessK_trans _ _ _ h1 h2
  · rw [k3Lt] at *
    cases h : k3Less x z with
    | false => rfl
    | true =>
      -- x < z, ¬ x < y, ¬ y < z
      by_cases e : x = y
      · subst e; rw [h] at h2; cases h2
      · cases h3 : k3Less y x with
        | true =>
          have := lessK_trans _ _ _ h3 h
          rw [show k3Less y z = lessK (k3T y) (k3T z) from rfl, this] at h2; cases h2
        | false => exact absurd (k3_total x y h1 h3) e

theorem k3_cmp [Inhabited K3] (blk off n : Nat) (w : World) : CmpLays Tryz.prog 49 #[] k3C 3 k3Ord blk off n w := by
  intro m os dk _ x y
  have := order_ex (k3T x) (k3T y) (sortWorldK k3C 3 w blk off m dk os)
  exact this
end Go.Proofs.YtdogecaonlmalaaGreat
