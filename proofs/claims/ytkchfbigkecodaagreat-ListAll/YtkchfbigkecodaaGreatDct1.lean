/- What package dict asks of the library: fields compared, a place found among them. -/
import Derived.Test.YtkchfbigkecodaaGreatLst4
import Derived.Test.YtkchfbigkecodaaGreatKeySD
namespace Go.Proofs.YtkchfbigkecodaaGreat
open Go.RowKit Go.MapKept Go.ChangeMaps

/-- A field: its number, its value. -/
def fdC (p : Int × Int) : List Value := [.int .i64 p.1, .int .i64 p.2]
abbrev RowF := RowO 56 2 fdC

def ordZ (x y : Int) : Int := if x < y then -1 else if y < x then 1 else 0

set_option maxRecDepth 100000 in
theorem nan0 (x : Int) (w : World) : Calls Tryz.prog 101 #[.int .i64 x] w fun e w' => e = .returned (.bool false) ∧ w' = w := by
  go_enter Tryz.func101, Tryz.ntmps101
  go_wp2
  go_ret
  exact ⟨by simp, rfl⟩

set_option maxRecDepth 100000 in
theorem cmpZ (x y : Int) (w : World) : Calls Tryz.prog 72 #[.int .i64 x, .int .i64 y] w fun e w' => e = .returned (.int .i64 (ordZ x y)) ∧ w' = w := by
  by_cases h1 : x < y
  · rw [show ordZ x y = -1 from if_pos h1]
    go_enter Tryz.func72, Tryz.ntmps72
    go_wp2_with fail
    refine (nan0 x w).mono ?_
    rintro e w1 ⟨rfl, rfl⟩
    go_wp2_with fail
    refine (nan0 y _).mono ?_
    rintro e w1 ⟨rfl, rfl⟩
    go_wp2_with fail
    go_ret
    exact ⟨rfl, rfl⟩
  · by_cases h2 : y < x
    · rw [show ordZ x y = 1 by unfold ordZ; rw [if_neg h1, if_pos h2]]
      go_enter Tryz.func72, Tryz.ntmps72
      go_wp2_with fail
      refine (nan0 x w).mono ?_
      rintro e w1 ⟨rfl, rfl⟩
      go_wp2_with fail
      refine (nan0 y _).mono ?_
      rintro e w1 ⟨rfl, rfl⟩
      go_wp2_with fail
      go_ret
      exact ⟨rfl, rfl⟩
    · rw [show ordZ x y = 0 by unfold ordZ; rw [if_neg h1, if_neg h2]]
      go_enter Tryz.func72, Tryz.ntmps72
      go_wp2_with fail
      refine (nan0 x w).mono ?_
      rintro e w1 ⟨rfl, rfl⟩
      go_wp2_with fail
      refine (nan0 y _).mono ?_
      rintro e w1 ⟨rfl, rfl⟩
      go_wp2_with fail
      go_ret
      exact ⟨rfl, rfl⟩

set_option maxRecDepth 100000 in
theorem placeCmp (a b t : Int) (w : World) : Calls Tryz.prog 71 #[.agg #[.int .i64 a, .int .i64 b], .int .i64 t] w fun e w' => e = .returned (.int .i64 (ordZ a t)) ∧ Below w.heap.size w w' := by
  have HB := hide (below_alloc w (.cells #[.int .i64 a, .int .i64 b] 56) w.heap.size (Nat.le_refl _))
  go_enter Tryz.func71, Tryz.ntmps71
  go_wp2_with fail
  refine (cmpZ a t _).mono ?_
  rintro e w1 ⟨rfl, rfl⟩
  go_wp2
  go_ret
  exact ⟨rfl, HB.out⟩

/-- How many fields lie ahead of a number. -/
def lowF (z : List (Int × Int)) (t : Int) : Nat := z.countP fun p => decide (p.1 < t)
/-- Fields by rising numbers. -/
def RiseF (z : List (Int × Int)) : Prop := z.Pairwise fun a b => a.1 < b.1

theorem RiseF.lt {z : List (Int × Int)} (h : RiseF z) {i j : Nat} (hij : i < j) {a b : Int × Int} (ha : z[i]? = some a) (hb : z[j]? = some b) : a.1 < b.1 := by
  obtain ⟨h1, rfl⟩ := List.getElem?_eq_some_iff.1 ha
  obtain ⟨h2, rfl⟩ := List.getElem?_eq_some_iff.1 hb
  exact List.pairwise_iff_getElem.1 h i j h1 h2 hij

theorem low_of {z : List (Int × Int)} {t : Int} {i : Nat} (hi : i ≤ z.length) (h1 : ∀ j a, j < i → z[j]? = some a → a.1 < t) (h2 : ∀ j a, i ≤ j → z[j]? = some a → ¬ a.1 < t) : lowF z t = i := by
  unfold lowF
  induction z generalizing i with
  | nil => simp at hi; simp [hi]
  | cons x z ih =>
    cases i with
    | zero =>
      rw [List.countP_eq_zero]
      intro y hy
      obtain ⟨j, hj, rfl⟩ := List.getElem_of_mem hy
      have := h2 j _ (Nat.zero_le _) (List.getElem?_eq_getElem hj)
      simpa using this
    | succ i =>
      have hx : x.1 < t := h1 0 x (by omega) rfl
      rw [List.countP_cons_of_pos (by simpa using hx), ih (i := i) (by simpa using hi) (fun j a hj ha => h1 (j + 1) a (by omega) (by simpa using ha)) (fun j a hj ha => h2 (j + 1) a (by omega) (by simpa using ha))]

/-- What is asked of the search between its two ends. -/
def Srch (z : List (Int × Int)) (t : Int) (i j : Nat) : Prop := i ≤ j ∧ j ≤ z.length ∧ (∀ q a, q < i → z[q]? = some a → a.1 < t) ∧ (∀ q a, j ≤ q → z[q]? = some a → ¬ a.1 < t)
theorem Srch.low {z : List (Int × Int)} {t : Int} {i j : Nat} (h : Srch z t i j) (hij : ¬ i < j) : lowF z t = i := by
  obtain ⟨h1, h2, h3, h4⟩ := h
  exact low_of (by omega) h3 (fun q a hq => h4 q a (by omega))
theorem Srch.up {z : List (Int × Int)} {t : Int} {i j m : Nat} (h : Srch z t i j) (hz : RiseF z) {a : Int × Int} (hm : z[m]? = some a) (hlt : a.1 < t) (hj : m < j) : Srch z t (m + 1) j :=
  ⟨by omega, h.2.1, fun q b hq hb => by
    by_cases e : q = m
    · subst e; rw [hm] at hb; cases hb; exact hlt
    · have := hz.lt (show q < m by omega) hb hm
      omega, h.2.2.2⟩
theorem Srch.down {z : List (Int × Int)} {t : Int} {i j m : Nat} (h : Srch z t i j) (hz : RiseF z) {a : Int × Int} (hm : z[m]? = some a) (hlt : ¬ a.1 < t) (hi : i ≤ m) (hj : m < j) : Srch z t i m :=
  ⟨hi, by have := h.2.1; omega, h.2.2.1, fun q b hq hb => by
    by_cases e : q = m
    · subst e; rw [hm] at hb; cases hb; exact hlt
    · have := hz.lt (show m < q by omega) hm hb
      omega⟩

/-- A field read. -/
theorem RowF.at {w : World} {g cp : Nat} {z : List (Int × Int)} (h : RowF w (.slice (some ⟨g, 0, none⟩) z.length cp) z) {j : Nat} {a : Int × Int} (hj : z[j]? = some a) :
    w.cell? ⟨g, j * 2, none⟩ = some (.int .i64 a.1) ∧ w.cell? ⟨g, j * 2 + 1, none⟩ = some (.int .i64 a.2) := by
  have key : ∀ (z : List (Int × Int)) (j : Nat), z[j]? = some a → (z.flatMap fdC)[j * 2]? = some (.int .i64 a.1) ∧ (z.flatMap fdC)[j * 2 + 1]? = some (.int .i64 a.2) := by
    intro z
    induction z with
    | nil => intro j hj; simp at hj
    | cons x z ih =>
      intro j hj
      rw [List.flatMap_cons]
      cases j with
      | zero => simp at hj; subst hj; simp [fdC]
      | succ j =>
        have := ih j (by simpa using hj)
        rw [show (j + 1) * 2 = j * 2 + 2 by omega]
        constructor
        · rw [List.getElem?_append_right (by simp [fdC])]; simpa [fdC] using this.1
        · rw [List.getElem?_append_right (by simp [fdC])]; simpa [fdC] using this.2
  obtain ⟨k1, k2⟩ := key z j hj
  have c1 := World.ownsRow.cells h (g := g) rfl _ _ k1
  have c2 := World.ownsRow.cells h (g := g) rfl _ _ k2
  rw [add_none, Nat.zero_add] at c1 c2
  exact ⟨c1, c2⟩

/-- A row of fields lies so. -/
theorem RowF.slice {w : World} {v : Value} {z : List (Int × Int)} (h : RowF w v z) : (v = .slice none 0 0 ∧ z = []) ∨ ∃ g cp, v = .slice (some ⟨g, 0, none⟩) z.length cp ∧ z.length ≤ cp ∧ g < w.heap.size := by
  rcases h.2 with ⟨rfl, hn⟩ | ⟨g, cap, cur, rfl, _, hh, h1, _, _, _⟩
  · exact Or.inl ⟨rfl, List.length_eq_zero_iff.1 hn⟩
  · exact Or.inr ⟨g, cap, rfl, h1, lt_of_heap hh⟩
end Go.Proofs.YtkchfbigkecodaaGreat
