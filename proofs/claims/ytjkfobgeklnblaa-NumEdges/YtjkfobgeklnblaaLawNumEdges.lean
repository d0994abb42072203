/- The statement NumEdges: the greatest numbers, the least one and numbers of eleven bytes are written and read as the document says, with no condition. -/
import Derived.Test.YtjkfobgeklnblaaBegun
import Derived.ProofKit
import Derived.OpenShut
import Derived.ShutString
import Derived.ChangeOld
namespace Go.Proofs.Ytjkfobgeklnblaa.numEdges
open Go.ChangeShapes Go.WideShapes Go.ChangeAt Go.RowKit

theorem own : ownKnob Try.prog.godebug = none := by kernel_rfl

theorem putMin (w : World) : Calls Try.prog 18 #[.slice none 0 0, .int .i64 (-9223372036854775808)] w fun e w' => ∃ a c, e = .returned (.slice a 10 c) ∧ Bs w' a 10 c [255, 255, 255, 255, 255, 255, 255, 255, 255, 1] ∧ Below w.heap.size w w' := by
  refine (putInt_nil (-9223372036854775808) w (by omega) (by omega)).mono ?_
  rintro e w1 ⟨a, k, c, L, rfl, hb, HL, _, _, hbel⟩
  have e : L = [255, 255, 255, 255, 255, 255, 255, 255, 255, 1] := by rw [HL.out]; decide
  subst e
  obtain rfl : k = 10 := hb.1.symm
  exact ⟨a, c, rfl, hb, hbel⟩

theorem getMin (a : Option Addr) (c : Nat) (w : World) (h : Bs w a 10 c [255, 255, 255, 255, 255, 255, 255, 255, 255, 1]) : Calls Try.prog 23 #[.slice a 10 c] w fun e w' => e = .returned (.tuple #[.int .i64 (-9223372036854775808), .int .i64 10, .int .i64 0]) ∧ w' = w := by
  refine (getInt_any a 10 c _ w h).mono ?_
  rintro e w1 ⟨rfl, rfl⟩
  exact ⟨ret_3 (by decide) (by decide) (by decide), rfl⟩

theorem putMax (w : World) : Calls Try.prog 17 #[.slice none 0 0, .int .u64 18446744073709551615] w fun e w' => ∃ a c, e = .returned (.slice a 10 c) ∧ Bs w' a 10 c [255, 255, 255, 255, 255, 255, 255, 255, 255, 1] ∧ Below w.heap.size w w' := by
  have := put_nil 18446744073709551615 w (by omega)
  refine Calls.mono (show Calls Try.prog 17 #[.slice none 0 0, .int .u64 18446744073709551615] w _ from this) ?_
  rintro e w1 ⟨a, k, c, L, rfl, hb, HL, _, _, hbel⟩
  have e : L = [255, 255, 255, 255, 255, 255, 255, 255, 255, 1] := by rw [HL.out]; decide
  subst e
  obtain rfl : k = 10 := hb.1.symm
  exact ⟨a, c, rfl, hb, hbel⟩

theorem getMax (a : Option Addr) (c : Nat) (w : World) (h : Bs w a 10 c [255, 255, 255, 255, 255, 255, 255, 255, 255, 1]) : Calls Try.prog 22 #[.slice a 10 c] w fun e w' => e = .returned (.tuple #[.int .u64 18446744073709551615, .int .i64 10, .int .i64 0]) ∧ w' = w := by
  refine (get_any a 10 c _ w h).mono ?_
  rintro e w1 ⟨rfl, rfl⟩
  exact ⟨ret_3 (by decide) (by decide) (by decide), rfl⟩

theorem getLit (l : List Int) (n : Nat) (C : Array Value) (w : World) (x : Int) (hC : C = (l.map (Value.int .u8)).toArray) (hl : l.length = n) (hr : ∀ x ∈ l, 0 ≤ x ∧ x ≤ 255) (hn : n ≤ 1000) (hx : M.getL 0 0 l = (0, 0, x)) :
    Calls Try.prog 22 #[.slice (some ⟨w.heap.size, 0, none⟩) n n] (w.alloc (.cells C 5)) fun e w' => e = .returned (.tuple #[.int .u64 0, .int .i64 0, .int .i64 x]) ∧ Below w.heap.size w w' := by
  subst hC
  subst hl
  refine (get_any _ _ _ l _ (Bs.lit w l (0, 0) hr hn)).mono ?_
  rintro e w1 ⟨rfl, rfl⟩
  rw [hx]
  exact ⟨rfl, below_alloc w _ _ (Nat.le_refl _)⟩

theorem putOne (x : Int) (y : Int) (w : World) (h0 : -9223372036854775808 ≤ x) (h1 : x ≤ 9223372036854775807) (hy : M.numB 9 (fold x) = [y]) : Calls Try.prog 18 #[.slice none 0 0, .int .i64 x] w fun e w' => ∃ a c, e = .returned (.slice a 1 c) ∧ Bs w' a 1 c [y] ∧ Below w.heap.size w w' := by
  refine (putInt_nil x w h0 h1).mono ?_
  rintro e w1 ⟨a, k, c, L, rfl, hb, HL, _, _, hbel⟩
  have e : L = [y] := by rw [HL.out]; exact hy
  subst e
  obtain rfl : k = 1 := hb.1.symm
  exact ⟨a, c, rfl, hb, hbel⟩

theorem conv1 (a : Option Addr) (c : Nat) (x : Int) (W : World) (h : Bs W a 1 c [x]) : (convert 23 9 (.slice a 1 c)).run Try.prog W = .ok (.string (strOfNums [x])) W := by
  obtain ⟨b, o, rfl, hc⟩ := h.2.2.2.2.1 (by omega)
  exact run_convert_bytes_arg (P := Try.prog) W 23 5 Try.underlying23 Try.underlying5 b o 1 c [x] rfl hc 9 Try.underlying9

set_option maxRecDepth 100000 in
theorem sameOne (a b : Option Addr) (c d : Nat) (x : Int) (w : World) (h1 : Bs w a 1 c [x]) (h2 : Bs w b 1 d [x]) :
    Calls Try.prog 19 #[.slice a 1 c, .slice b 1 d] w fun e w' => e = .returned (.bool true) ∧ w' = w := by
  have c1 := conv1 a c x w h1
  have c2 := conv1 b d x w h2
  generalize strOfNums [x] = S at *
  clear h1 h2
  go_enter Try.func19, Try.ntmps19
  go_wp2
  go_ret
  exact ⟨rfl, rfl⟩

theorem litOne (w : World) (x : Int) (h : 0 ≤ x ∧ x ≤ 255) : Bs (w.alloc (.cells #[.int .u8 x] 5)) (some ⟨w.heap.size, 0, none⟩) 1 1 [x] := Bs.one w x h

set_option maxRecDepth 100000 in
set_option maxHeartbeats 2000000 in
theorem walk (w : World) :
    Calls Try.prog 14 #[] w fun e w' => e = .returned (.bool true) ∧ Below w.heap.size w w' := by
  go_enter Try.func14, Try.ntmps14
  go_wp2_with fail
  refine (putMin _).mono ?_
  rintro e w1 ⟨a1, c1, rfl, k1, hb1⟩
  go_wp2_with fail
  refine (getMin _ _ _ k1).mono ?_
  rintro e w1' ⟨rfl, rfl⟩
  clear k1
  go_wp2_with fail
  refine (putMax _).mono ?_
  rintro e w2 ⟨a2, c2, rfl, k2, hb2⟩
  have H2 := hide (hb1.trans (hb2.mono hb1.size))
  clear hb1 hb2
  go_wp2_with fail
  refine (getMax _ _ _ k2).mono ?_
  rintro e w2' ⟨rfl, rfl⟩
  clear k2
  go_wp2_with fail
  refine (getLit [255, 255, 255, 255, 255, 255, 255, 255, 255, 2] 10 _ w2' 1 rfl rfl (by decide) (by omega) (by decide)).mono ?_
  rintro e w3 ⟨rfl, hb3⟩
  have H3 := hide (H2.out.trans (hb3.mono H2.out.size))
  clear hb3
  go_wp2_with fail
  refine (getLit [255, 255, 255, 255, 255, 255, 255, 255, 255, 255, 1] 11 _ w3 1 rfl rfl (by decide) (by omega) (by decide)).mono ?_
  rintro e w4 ⟨rfl, hb4⟩
  have H4 := hide (H3.out.trans (hb4.mono H3.out.size))
  clear hb4
  go_wp2_with fail
  refine (getLit [128] 1 _ w4 8 rfl rfl (by decide) (by omega) (by decide)).mono ?_
  rintro e w5 ⟨rfl, hb5⟩
  have H5 := hide (H4.out.trans (hb5.mono H4.out.size))
  clear hb5
  go_wp2_with fail
  refine (getLit [128, 0] 2 _ w5 1 rfl rfl (by decide) (by omega) (by decide)).mono ?_
  rintro e w6 ⟨rfl, hb6⟩
  have H6 := hide (H5.out.trans (hb6.mono H5.out.size))
  clear hb6
  go_wp2_with fail
  refine (begun_true _).mono ?_
  rintro e w7 ⟨rfl, hb7⟩
  have H7 := hide (H6.out.trans (hb7.mono H6.out.size))
  clear hb7
  go_wp2_with fail
  refine (putOne (-1) 1 _ (by omega) (by omega) (by decide)).mono ?_
  rintro e w8 ⟨a8, c8, rfl, k8, hb8⟩
  have H8 := hide (H7.out.trans (hb8.mono H7.out.size))
  have S8 := hide (sameOne a8 _ c8 _ 1 _ (k8.later (below_alloc w8 (.cells #[.int .u8 1] 5) w8.heap.size (Nat.le_refl _)) (Nat.le_refl _)) (litOne w8 1 (by omega)))
  clear hb8 k8
  go_wp2_with fail
  refine S8.out.mono ?_
  rintro e w8' ⟨rfl, rfl⟩
  have H8' := hide (H8.out.alloc H8.out.size (.cells #[.int .u8 1] 5))
  clear S8
  go_wp2_with fail
  refine (putOne 1 2 _ (by omega) (by omega) (by decide)).mono ?_
  rintro e w9 ⟨a9, c9, rfl, k9, hb9⟩
  have H9 := hide (H8'.out.trans (hb9.mono H8'.out.size))
  have S9 := hide (sameOne a9 _ c9 _ 2 _ (k9.later (below_alloc w9 (.cells #[.int .u8 2] 5) w9.heap.size (Nat.le_refl _)) (Nat.le_refl _)) (litOne w9 2 (by omega)))
  clear hb9 k9
  go_wp2_with fail
  refine S9.out.mono ?_
  rintro e w9' ⟨rfl, rfl⟩
  have H9' := hide (H9.out.alloc H9.out.size (.cells #[.int .u8 2] 5))
  clear S9
  go_wp2
  go_ret
  exact ⟨rfl, H9'.out⟩

set_option maxRecDepth 100000 in
theorem lifted (os : Os) (started : os.Started) (H : Type) (enc : TypeId × Value → H) :
    ReturnsInHanded {} Try.checked os 14 .any (Rows.numEdgesSpec.pre6 enc Try.prog Try.f14 Rows.numEdgesRow.domain false) (Rows.numEdgesSpec.post enc Try.prog Try.f14 false true false false) := by
  refine returnsInHanded_of_change (C := Try.checked) own started (by kernel_rfl) Try.func14
    (ChangeSpec.witness6 (enc := enc) (C := Try.checked) false ⟨#[], #[], []⟩ 8 (by kernel_rfl) (by kernel_rfl) (by kernel_rfl) (by kernel_rfl)) ?_
  intro W base args ds gs before hval0 hW hcnd _
  have hW' := hW
  obtain ⟨p, q, hA0, hV, rfl, hfz, hnd⟩ := hW
  have hA : DataW.TrodAll enc Try.prog W 0 (fun _ => true) true Try.f14.params.toList args.toList ds p := hA0
  rw [Try.params14] at hA
  obtain ⟨rfl, rfl, rfl⟩ := trodAll_none hA
  obtain ⟨rfl, rfl⟩ := trodVars_none hV
  clear hA0 hval0
  simp only [List.append_nil] at hW'
  refine (walk W).mono fun e W' ⟨he, bel⟩ => ?_
  subst he
  exact ⟨_, rfl, _, _, _, [], [], [], hW', trodAll_mk1 (shut_bool Try.underlying4 _), trodAll_mk0, rfl, bel.frame _, fun h => by cases h⟩

theorem over : Rows.numEdgesRow.holds Try.pinned (OpenSpec.ofChange Rows.numEdgesSpec) :=
  OpenClaim.holds_of_wide 14 Try.f14 rfl rfl rfl rfl rfl rfl rfl ⟨rfl, rfl, rfl, rfl, rfl⟩ rfl rfl rfl rfl rfl (by kernel_rfl) Try.func14 (by kernel_rfl)
    (of_decide_eq_true (by kernel_rfl)) (by unfold Func.isWrapper; first | (rw [if_pos (by decide +kernel)]; kernel_rfl) | (rw [if_neg (by decide +kernel)]; exact ⟨rfl, rfl⟩))
    (fun os started H enc _ => lifted os started H enc)

theorem proved : Rows.NumEdgesSaid := over
#print axioms proved
end Go.Proofs.Ytjkfobgeklnblaa.numEdges
