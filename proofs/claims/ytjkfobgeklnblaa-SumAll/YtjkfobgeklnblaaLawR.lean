/- Contracts of the document's own writers of numbers. -/
import Derived.Test.YtjkfobgeklnblaaLawB
namespace Go.Proofs.Ytjkfobgeklnblaa
open Go.RowKit

set_option maxRecDepth 100000 in
set_option maxHeartbeats 400000 in
theorem refNum_any (n : Nat) (w : World) (hn : n < 18446744073709551616) :
    Calls Try.prog 20 #[.int .u64 n] w fun e w' => ∃ v', e = .returned v' ∧ w'.ownsInts w.heap.size 5 .u8 v' (M.numB 9 n) ∧ Below w.heap.size w w' := by
  go_enter Try.func20, Try.ntmps20
  go_wp2
  go_loopw [3, 0] (fun v' m wr => ∃ (f k : Nat) (pre : List Int), m = .int .u64 k ∧ k < 2 ^ (7 * f) * 128 ∧ k < 18446744073709551616 ∧ wr.ownsInts w.heap.size 5 .u8 v' pre ∧ pre.length + f = 9 ∧ Hid (pre ++ M.numB f k = M.numB 9 n) ∧ Below w.heap.size w wr) (fun _ m _ => (intOf m).toNat)
  case atStart => exact ⟨9, n, [], rfl, by omega, hn, World.ownsInts_nil _ _ _ _, rfl, rfl, Below.refl _ _⟩
  case round =>
    obtain ⟨f, k, pre, rfl, hk, hk64, hown, hf, HP, hbel⟩ := hrel
    have HK : Hid (k < 2 ^ (7 * f) * 128) := hk
    have HF : Hid (pre.length + f = 9) := hf
    have hpl : pre.length ≤ 9 := by omega
    have hll : pre.length + 1 ≤ 70368744177664 := by omega
    have hBr : w.heap.size ≤ wr.heap.size := hbel.size
    clear hk hf
    by_cases hlt : 128 ≤ k
    · obtain ⟨g, rfl⟩ : ∃ g, f = g + 1 := by
        cases f with
        | zero => exact absurd (M.pow7_zero k HK.out) (by omega)
        | succ g => exact ⟨g, rfl⟩
      go_wp2_with (at_builtin; refine wpList_app rfl (.tmp 6) (.tmp 11) rfl w.heap.size _ pre rfl (owns_alloc hown _) (some ⟨wr.heap.size, 0, none⟩) 1 1 [(k : Int) % 128 + 128] rfl (Bs.one _ _ (by omega)) hll (by simp; omega) ?_)
      intro v' w1 hown1 hg1 _
      have R : Hid ((pre ++ [(k : Int) % 128 + 128]) ++ M.numB g (k / 128) = M.numB 9 n) := M.numB_step g k n pre hlt HP.out
      have R2 : Hid (k / 128 < 2 ^ (7 * g) * 128) := M.pow7_div g k HK.out
      have R3 : Hid ((pre ++ [(k : Int) % 128 + 128]).length + g = 9) := by have := HF.out; show _ = _; simp; omega
      have R4 : Below w.heap.size w w1 := hbel.trans (((Below.refl w.heap.size wr).alloc hBr _).trans (below_app (owns_alloc hown _) hg1 (by simp; omega)))
      clear hg1 hown HP HF HK
      go_wp2
      go_roundw
      case rel => exact ⟨g, k / 128, pre ++ [(k : Int) % 128 + 128], by go_num, R2.out, by omega, hown1, R3.out, R, R4⟩
      case measure => simp [intOf]; omega
    · go_wp2_with (at_builtin; refine wpList_app rfl (.tmp 15) (.tmp 18) rfl w.heap.size _ pre rfl (owns_alloc hown _) (some ⟨wr.heap.size, 0, none⟩) 1 1 [(k : Int)] rfl (Bs.one _ _ (by omega)) hll (by simp; omega) ?_)
      intro v' w1 hown1 hg1 _
      have R := M.numB_last f k n pre (by omega) HP.out
      have R4 : Below w.heap.size w w1 := hbel.trans (((Below.refl w.heap.size wr).alloc hBr _).trans (below_app (owns_alloc hown _) hg1 (by simp; omega)))
      rw [R] at hown1
      go_wp2
      go_ret
      exact ⟨_, rfl, hown1, R4⟩

theorem rfold_neg (x : Int) (hx : x < 0) (h1 : -9223372036854775808 ≤ x) : (2 * (-(x + 1)) + 1) = (fold x : Int) := by
  simp only [fold, if_pos hx]; omega

set_option maxRecDepth 100000 in
theorem refInt_any (x : Int) (w : World) (h0 : -9223372036854775808 ≤ x) (h1 : x ≤ 9223372036854775807) :
    Calls Try.prog 21 #[.int .i64 x] w fun e w' => ∃ v', e = .returned v' ∧ w'.ownsInts w.heap.size 5 .u8 v' (M.numB 9 (fold x)) ∧ Below w.heap.size w w' := by
  have HN := hide (refNum_any (fold x) w (fold_lt x h0 h1))
  by_cases hx : x < 0
  · have HE := hide (rfold_neg x hx h0)
    rw [← HE.out] at HN
    go_enter Try.func21, Try.ntmps21
    go_wp2_with fail
    refine HN.out.mono ?_
    rintro e w1 ⟨v, rfl, ho, hb⟩
    go_wp2
    go_ret
    exact ⟨_, rfl, ho, hb⟩
  · have HE := hide (fold_pos_eq x (by omega))
    rw [← HE.out] at HN
    go_enter Try.func21, Try.ntmps21
    go_wp2_with fail
    refine HN.out.mono ?_
    rintro e w1 ⟨v, rfl, ho, hb⟩
    go_wp2
    go_ret
    exact ⟨_, rfl, ho, hb⟩
end Go.Proofs.Ytjkfobgeklnblaa
