/- The statement SumKnown: the sums of some texts are as reckoned by hand, with no condition. -/
import Derived.Test.YtjdbkmjhjcmoaaaBegun
import Derived.ProofKit
import Derived.OpenShut
import Derived.ShutString
import Derived.ChangeOld
namespace Go.Proofs.Ytjdbkmjhjcmoaaa.sumKnown
open Go.ChangeShapes Go.WideShapes Go.ChangeAt Go.RowKit

theorem own : ownKnob Try.prog.godebug = none := by kernel_rfl

theorem of_lit (l : List Int) (n : Nat) (C : Array Value) (mk : Nat × Nat) (w : World) (S : Int) (hC : C = (l.map (Value.int .u8)).toArray) (hl : l.length = n) (hr : ∀ x ∈ l, 0 ≤ x ∧ x ≤ 255) (hn : n ≤ 1000) (hS : (sumOf l : Int) = S) :
    Calls Try.prog 11 #[.slice (some ⟨w.heap.size + 1, 0, none⟩) 1 1] ((w.alloc (.cells C 5 mk)).alloc (.cells #[.slice (some ⟨w.heap.size, 0, none⟩) n n] 24)) fun e w' => e = .returned (.int .u32 S) ∧ Below w.heap.size w w' := by
  subst hC
  subst hl
  have hb1 := Bs.lit w l mk hr hn
  have hB := below_alloc w (.cells (l.map (Value.int .u8)).toArray 5 mk) w.heap.size (Nat.le_refl _)
  have hs : (w.alloc (.cells (l.map (Value.int .u8)).toArray 5 mk)).heap.size = w.heap.size + 1 := by simp
  generalize w.alloc (.cells (l.map (Value.int .u8)).toArray 5 mk) = W at *
  have hP := Ps.one hb1
  rw [hs] at hP
  have hBa := below_alloc W (.cells #[.slice (some ⟨w.heap.size, 0, none⟩) l.length l.length] 24) W.heap.size (Nat.le_refl _)
  refine (of_one 1 hP).mono ?_
  rintro e w' ⟨T, rfl, HT, _, hb⟩
  exact ⟨ret_int (by rw [HT.out]; exact hS), hB.trans ((hBa.mono hB.size).trans (hb.mono (Nat.le_trans hB.size hBa.size)))⟩

theorem of_mid (w : World) :
    Calls Try.prog 11 #[.slice (some ⟨w.heap.size + 1, 0, none⟩) 3 3] ((w.alloc (.cells #[.int .u8 97] 5 (1, 2))).alloc (.cells #[.slice none 0 0, .slice (some ⟨w.heap.size, 0, none⟩) 1 1, .slice none 0 0] 24)) fun e w' => e = .returned (.int .u32 6422626) ∧ Below w.heap.size w w' := by
  have hb1 := Bs.lit w [97] (1, 2) (by decide) (by decide)
  have hB := below_alloc w (.cells #[.int .u8 97] 5 (1, 2)) w.heap.size (Nat.le_refl _)
  have hs : (w.alloc (.cells #[.int .u8 97] 5 (1, 2))).heap.size = w.heap.size + 1 := by simp
  have hb1' : Bs (w.alloc (.cells #[.int .u8 97] 5 (1, 2))) (some ⟨w.heap.size, 0, none⟩) 1 1 [97] := hb1
  clear hb1
  generalize w.alloc (.cells #[.int .u8 97] 5 (1, 2)) = W at *
  have hh := heap_alloc_new W (.cells #[.slice none 0 0, .slice (some ⟨w.heap.size, 0, none⟩) 1 1, .slice none 0 0] 24)
  have hBa := below_alloc W (.cells #[.slice none 0 0, .slice (some ⟨w.heap.size, 0, none⟩) 1 1, .slice none 0 0] 24) W.heap.size (Nat.le_refl _)
  obtain ⟨k0, k1, k2⟩ := cells3 hh
  rw [hs] at k0 k1 k2
  have hP : Ps (W.alloc (.cells #[.slice none 0 0, .slice (some ⟨w.heap.size, 0, none⟩) 1 1, .slice none 0 0] 24)) (some ⟨w.heap.size + 1, 0, none⟩) 3 [[], [97], []] := by
    refine ⟨rfl, fun _ => ⟨_, 0, rfl, fun i hi => ?_⟩⟩
    rcases (show i = 0 ∨ i = 1 ∨ i = 2 by omega) with rfl | rfl | rfl
    · exact ⟨_, _, _, k0, Bs.nil _⟩
    · exact ⟨_, _, _, k1, hb1'.later hBa (Nat.le_refl _)⟩
    · exact ⟨_, _, _, k2, Bs.nil _⟩
  refine (of_any _ 3 3 _ _ hP (by omega)).mono ?_
  rintro e w' ⟨rfl, hb⟩
  exact ⟨ret_int (by decide), hB.trans ((hBa.mono hB.size).trans (hb.mono (Nat.le_trans hB.size hBa.size)))⟩

set_option maxRecDepth 100000 in
set_option maxHeartbeats 2000000 in
theorem walk (w : World) :
    Calls Try.prog 4 #[] w fun e w' => e = .returned (.bool true) ∧ Below w.heap.size w w' := by
  have kc := fun (w : World) (C : Array Value) (n c : Nat) => Lib.run_convert_bytes_const (P := Try.prog) w 24 5 C n c Try.underlying24 Try.underlying5
  go_enter Try.func4, Try.ntmps4
  go_wp2_with fail
  refine (begun_true _).mono ?_
  rintro e w1 ⟨rfl, hb1⟩
  have H1 := hide hb1
  clear hb1
  go_wp2_with fail
  refine (of_lit [97] 1 _ (1, 2) w1 6422626 rfl rfl (by decide) (by omega) (by decide)).mono ?_
  rintro e w2 ⟨rfl, hb2⟩
  have H2 := hide (H1.out.trans (hb2.mono H1.out.size))
  clear hb2
  go_wp2_with fail
  refine (of_lit [97, 98] 2 _ (2, 3) w2 19267780 rfl rfl (by decide) (by omega) (by decide)).mono ?_
  rintro e w3 ⟨rfl, hb3⟩
  have H3 := hide (H2.out.trans (hb3.mono H2.out.size))
  clear hb3
  go_wp2_with fail
  refine (of_lit [0, 0, 0] 3 _ (0, 0) w3 196609 rfl rfl (by decide) (by omega) (by decide)).mono ?_
  rintro e w4 ⟨rfl, hb4⟩
  have H4 := hide (H3.out.trans (hb4.mono H3.out.size))
  clear hb4
  go_wp2_with fail
  refine (of_mid w4).mono ?_
  rintro e w5 ⟨rfl, hb5⟩
  have H5 := hide (H4.out.trans (hb5.mono H4.out.size))
  clear hb5
  go_wp2_with fail
  refine (of_lit [97] 1 _ (1, 2) w5 6422626 rfl rfl (by decide) (by omega) (by decide)).mono ?_
  rintro e w6 ⟨rfl, hb6⟩
  have H6 := hide (H5.out.trans (hb6.mono H5.out.size))
  clear hb6
  go_wp2
  go_ret
  exact ⟨rfl, H6.out⟩

set_option maxRecDepth 100000 in
theorem lifted (os : Os) (started : os.Started) (H : Type) (enc : TypeId × Value → H) :
    ReturnsInHanded {} Try.checked os 4 .any (Rows.sumKnownSpec.pre6 enc Try.prog Try.f4 Rows.sumKnownRow.domain false) (Rows.sumKnownSpec.post enc Try.prog Try.f4 false true false false) := by
  refine returnsInHanded_of_change (C := Try.checked) own started (by kernel_rfl) Try.func4
    (ChangeSpec.witness6 (enc := enc) (C := Try.checked) false ⟨#[], #[], []⟩ 8 (by kernel_rfl) (by kernel_rfl) (by kernel_rfl) (by kernel_rfl)) ?_
  intro W base args ds gs before hval0 hW hcnd _
  have hW' := hW
  obtain ⟨p, q, hA0, hV, rfl, hfz, hnd⟩ := hW
  have hA : DataW.TrodAll enc Try.prog W 0 (fun _ => true) true Try.f4.params.toList args.toList ds p := hA0
  rw [Try.params4] at hA
  obtain ⟨rfl, rfl, rfl⟩ := trodAll_none hA
  obtain ⟨rfl, rfl⟩ := trodVars_none hV
  clear hA0 hval0
  simp only [List.append_nil] at hW'
  refine (walk W).mono fun e W' ⟨he, bel⟩ => ?_
  subst he
  exact ⟨_, rfl, _, _, _, [], [], [], hW', trodAll_mk1 (shut_bool Try.underlying4 _), trodAll_mk0, rfl, bel.frame _, fun h => by cases h⟩

theorem over : Rows.sumKnownRow.holds Try.pinned (OpenSpec.ofChange Rows.sumKnownSpec) :=
  OpenClaim.holds_of_wide 4 Try.f4 rfl rfl rfl rfl rfl rfl rfl ⟨rfl, rfl, rfl, rfl, rfl⟩ rfl rfl rfl rfl rfl (by kernel_rfl) Try.func4 (by kernel_rfl)
    (of_decide_eq_true (by kernel_rfl)) (by unfold Func.isWrapper; first | (rw [if_pos (by decide +kernel)]; kernel_rfl) | (rw [if_neg (by decide +kernel)]; exact ⟨rfl, rfl⟩))
    (fun os started H enc _ => lifted os started H enc)

theorem proved : Rows.SumKnownSaid := over
#print axioms proved
end Go.Proofs.Ytjdbkmjhjcmoaaa.sumKnown
