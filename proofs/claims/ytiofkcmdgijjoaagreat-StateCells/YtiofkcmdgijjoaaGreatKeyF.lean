/- The laws' key, of whatever numbers. -/
import Derived.Test.YtiofkcmdgijjoaaGreatKeyC
namespace Go.Proofs.YtiofkcmdgijjoaaGreat
open Go.RowKit Go.MapKept Go.ChangeMaps

theorem wf_small (x : Int) (h0 : -9223372036854775808 ≤ x) (h1 : x ≤ 9223372036854775807) : (Lit.int .i64 x).wf = true := by
  have e1 : IntKind.i64.min = -9223372036854775808 := by decide
  have e2 : IntKind.i64.max = 9223372036854775807 := by decide
  simp [Lit.wf, e1, e2]
  omega
theorem wf_bits (b : Int) : (Lit.int .i64 (bits BinOp.and IntKind.i64 b 1)).wf = true := by
  refine wf_small _ ?_ ?_ <;> (unfold bits; rw [IntKind.wrap_i64]; omega)
def keyF (a b c : Int) : K3 := ⟨((a.tmod 4 + 4) % 4, bits BinOp.and IntKind.i64 b 1, (c.tmod 24 + 24) % 24), wf_small ((a.tmod 4 + 4) % 4) (by omega) (by omega), wf_bits b, wf_small ((c.tmod 24 + 24) % 24) (by omega) (by omega)⟩
theorem len4 (x : Int) : ∃ (r : Int) (i : Nat), x.tmod 4 = r ∧ -4 < r ∧ r < 4 ∧ (r + 4) % 4 = (i : Int) ∧ i < 4 := by
  obtain ⟨r, i, h1, h2, h3, h4, h5⟩ := placeK x 4 (by omega)
  exact ⟨r, i, h1, by omega, by omega, h4, h5⟩
theorem len24 (x : Int) : ∃ (r : Int) (i : Nat), x.tmod 24 = r ∧ -24 < r ∧ r < 24 ∧ (r + 24) % 24 = (i : Int) ∧ i < 24 := by
  obtain ⟨r, i, h1, h2, h3, h4, h5⟩ := placeK x 24 (by omega)
  exact ⟨r, i, h1, by omega, by omega, h4, h5⟩

set_option maxRecDepth 100000 in
theorem key_any (a b c : Int) (w : World) : Calls Tryz.prog 20 #[.int .i64 a, .int .i64 b, .int .i64 c] w fun e w' => e = .returned (k3E (keyF a b c)) ∧ Below w.heap.size w w' := by
  obtain ⟨ra, ia, e1, b1, b2, e2, hi⟩ := len4 a
  obtain ⟨rc, ic, f1, g1, g2, f2, hj⟩ := len24 c
  have HK : Hid (k3E (keyF a b c) = .agg #[.int .i64 ia, .int .i64 (bits BinOp.and IntKind.i64 b 1), .int .i64 ic]) := by
    show _ = _
    unfold k3E keyF
    simp only [e1, f1, e2, f2]
  rw [HK.out]
  go_enter Tryz.func20, Tryz.ntmps20
  go_wp2
  obtain ⟨q0, q1, q2⟩ := cells_three (heap_alloc_new w (.cells #[.int .i64 ia, .int .i64 (bits BinOp.and IntKind.i64 b 1), .int .i64 ic] 28))
  refine bodyPost_ret (v := .agg #[.int .i64 ia, .int .i64 (bits BinOp.and IntKind.i64 b 1), .int .i64 ic]) (by simp [results, Tryz.results20, go_sem, q0, q1, q2]) rfl ⟨rfl, below_alloc _ _ _ (Nat.le_refl _)⟩
end Go.Proofs.YtiofkcmdgijjoaaGreat
