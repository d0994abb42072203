/- Contracts of num's writers once more, told as slices that may be read; cuts of slices. -/
import Derived.Test.YtgncindcpbbkoaaLawC
import Derived.Test.YtgncindcpbbkoaaDisk4
namespace Go.Proofs.Ytgncindcpbbkoaa
open Go.RowKit

theorem Bs.drop {w : World} {b o n cap : Nat} {l : List Int} (h : Bs w (some ⟨b, o, none⟩) n cap l) (i k : Nat) (hi : i < n) (hk : n - i = k) : Bs w (some ⟨b, o + i, none⟩) k (cap - i) (l.drop i) := by
  subst hk
  have := h.cut (i := i) (j := n) hi (Nat.le_refl _)
  rwa [List.take_of_length_le (by simp [h.1])] at this

theorem put_bs (a : Option Addr) (n cap m : Nat) (l : List Int) (w : World) (h : Bs w a n cap l) (hn : n ≤ 1099511627776) (hm : m < 18446744073709551616) :
    Calls Try.prog 17 #[.slice a n cap, .int .u64 m] w fun e w' => ∃ g d k c X, e = .returned (.slice (some ⟨g, 0, none⟩) k c) ∧ Hid (X = l ++ M.numB 9 m) ∧ Hid (d = (M.numB 9 m).length) ∧ n + d ≤ k ∧ k ≤ n + d ∧ 1 ≤ d ∧ d ≤ 10 ∧ k ≤ c ∧ c ≤ 9223372036854775807 ∧ Bs w' (some ⟨g, 0, none⟩) k c X ∧ Below w.heap.size w w' := by
  refine (put_any a n cap m l w h hn hm).mono ?_
  rintro e w' ⟨v, rfl, ho, hb⟩
  have hd := M.numB_len 9 m
  obtain ⟨g, c, rfl, _, hbs⟩ := owns_shape ho (by simp; omega)
  have e1 : (l ++ M.numB 9 m).length = n + (M.numB 9 m).length := by rw [List.length_append, h.1]
  rw [e1] at hbs ⊢
  exact ⟨g, _, _, c, _, rfl, rfl, rfl, Nat.le_refl _, Nat.le_refl _, hd.1, hd.2, hbs.2.1, hbs.2.2.1, hbs, hb⟩

theorem putInt_bs (a : Option Addr) (n cap : Nat) (x : Int) (l : List Int) (w : World) (h : Bs w a n cap l) (hn : n ≤ 1099511627776) (h0 : -9223372036854775808 ≤ x) (h1 : x ≤ 9223372036854775807) :
    Calls Try.prog 18 #[.slice a n cap, .int .i64 x] w fun e w' => ∃ g d k c X, e = .returned (.slice (some ⟨g, 0, none⟩) k c) ∧ Hid (X = l ++ M.numB 9 (fold x)) ∧ Hid (d = (M.numB 9 (fold x)).length) ∧ n + d ≤ k ∧ k ≤ n + d ∧ 1 ≤ d ∧ d ≤ 10 ∧ k ≤ c ∧ c ≤ 9223372036854775807 ∧ Bs w' (some ⟨g, 0, none⟩) k c X ∧ Below w.heap.size w w' := by
  refine (putInt_any a n cap x l w h hn h0 h1).mono ?_
  rintro e w' ⟨v, rfl, ho, hb⟩
  have hd := M.numB_len 9 (fold x)
  obtain ⟨g, c, rfl, _, hbs⟩ := owns_shape ho (by simp; omega)
  have e1 : (l ++ M.numB 9 (fold x)).length = n + (M.numB 9 (fold x)).length := by rw [List.length_append, h.1]
  rw [e1] at hbs ⊢
  exact ⟨g, _, _, c, _, rfl, rfl, rfl, Nat.le_refl _, Nat.le_refl _, hd.1, hd.2, hbs.2.1, hbs.2.2.1, hbs, hb⟩

theorem refNum_bs (m : Nat) (w : World) (hm : m < 18446744073709551616) :
    Calls Try.prog 20 #[.int .u64 m] w fun e w' => ∃ a k c X, e = .returned (.slice a k c) ∧ Hid (X = M.numB 9 m) ∧ 1 ≤ k ∧ k ≤ 10 ∧ Bs w' a k c X ∧ Below w.heap.size w w' := by
  refine (refNum_any m w hm).mono ?_
  rintro e w' ⟨v, rfl, ho, hb⟩
  have hd := M.numB_len 9 m
  obtain ⟨a, c, rfl, hbs⟩ := Bs.of_owns ho
  exact ⟨a, _, c, _, rfl, rfl, hd.1, hd.2, hbs, hb⟩

theorem refInt_bs (x : Int) (w : World) (h0 : -9223372036854775808 ≤ x) (h1 : x ≤ 9223372036854775807) :
    Calls Try.prog 21 #[.int .i64 x] w fun e w' => ∃ a k c X, e = .returned (.slice a k c) ∧ Hid (X = M.numB 9 (fold x)) ∧ 1 ≤ k ∧ k ≤ 10 ∧ Bs w' a k c X ∧ Below w.heap.size w w' := by
  refine (refInt_any x w h0 h1).mono ?_
  rintro e w' ⟨v, rfl, ho, hb⟩
  have hd := M.numB_len 9 (fold x)
  obtain ⟨a, c, rfl, hbs⟩ := Bs.of_owns ho
  exact ⟨a, _, c, _, rfl, rfl, hd.1, hd.2, hbs, hb⟩

theorem getI_put (x : Int) (more : List Int) (h0 : -9223372036854775808 ≤ x) (h1 : x ≤ 9223372036854775807) : getI (M.numB 9 (fold x) ++ more) = (x, (M.numB 9 (fold x)).length, 0) := by
  rw [getI, M.getL_put _ _ (fold_lt x h0 h1), if_pos rfl, unfold_fold x h0 h1]

/-- An operation whose guard holds is as one without a guard. -/
theorem wpList_unguard {P : Program} {ops : Array Oper} {Q : Exit → Act → World → Prop} {a : Act} {w : World} {rest : List Oper} {o : Oper} (hw : Region.wanted o (yielded ops a.tmps) = true) (h : wpList P ops Q ({ o with guard := none } :: rest) a w) : wpList P ops Q (o :: rest) a w := by
  unfold wpList at h ⊢
  rw [if_pos hw]
  rw [if_pos (by simp [Region.wanted])] at h
  exact h
end Go.Proofs.Ytgncindcpbbkoaa
