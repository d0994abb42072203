/- Contracts of the document's writers of numbers, told as slices that may be read. -/
import Derived.Test.YtjkfobgeklnblaaLawC
import Derived.Test.YtjkfobgeklnblaaLawG
namespace Go.Proofs.Ytjkfobgeklnblaa
open Go.RowKit

theorem refNum_bs (m : Nat) (w : World) (hm : m < 18446744073709551616) :
    Calls Try.prog 20 #[.int .u64 m] w fun e w' => ∃ a k c X, e = .returned (.slice a k c) ∧ Hid (X = M.numB 9 m) ∧ 1 ≤ k ∧ k ≤ 10 ∧ Bs w' a k c X ∧ Below w.heap.size w w' := by
  refine (refNum_any m w hm).mono ?_
  rintro e w' ⟨v, rfl, ho, hb⟩
  have hd := M.numB_len 9 m
  obtain ⟨a, c, rfl, hbs⟩ := Bs.of_owns ho
  exact ⟨a, _, c, _, rfl, rfl, hd.1, hd.2, hbs, hb⟩

theorem refInt_bs (x : Int) (w : World) (h0 : -9223372036854775808 ≤ x) (h1 : x ≤ 9223372036854775807) :
    Calls Try.prog 21 #[.int .i64 x] w fun e w' => ∃ a k c X, e = .returned (.slice a k c) ∧ Hid (X = M.numB 9 (fold x)) ∧ 1 ≤ k ∧ k ≤ 10 ∧ Bs w' a k c X ∧ Below w.heap.size w w' := by
  refine (refInt_any x w h0 h1).mono ?_
  rintro e w' ⟨v, rfl, ho, hb⟩
  have hd := M.numB_len 9 (fold x)
  obtain ⟨a, c, rfl, hbs⟩ := Bs.of_owns ho
  exact ⟨a, _, c, _, rfl, rfl, hd.1, hd.2, hbs, hb⟩
end Go.Proofs.Ytjkfobgeklnblaa
