/- The statement PartsNone: what a sum, a store and a disk that are not there answer, and what no bytes and no change are, with no condition. -/
import Derived.Test.YtgpfpmocdmeldaaGreatFrameA
import Derived.Test.YtgpfpmocdmeldaaGreatBegun
namespace Go.Proofs.YtgpfpmocdmeldaaGreat.partsNone
open Go.ChangeShapes Go.WideShapes Go.ChangeAt Go.RowKit

set_option maxRecDepth 100000 in
theorem storeGetN (s : ByteArray) (w : World) : Calls Tryz.prog 21 #[.pointer none, .string s] w fun e w' => e = .returned (.tuple #[.slice none 0 0, .int .i64 9]) ∧ w' = w := by
  go_enter Tryz.func21, Tryz.ntmps21
  go_wp2
  go_ret2
  exact ⟨rfl, rfl⟩

set_option maxRecDepth 100000 in
theorem diskReadN (s : ByteArray) (w : World) : Calls Tryz.prog 22 #[.pointer none, .string s] w fun e w' => e = .returned (.tuple #[.slice none 0 0, .int .i64 9]) ∧ w' = w := by
  go_enter Tryz.func22, Tryz.ntmps22
  go_wp2
  go_ret2
  exact ⟨rfl, rfl⟩

set_option maxRecDepth 100000 in
theorem valueN (w : World) : Calls Tryz.prog 24 #[.pointer none] w fun e w' => e = .returned (.int .u32 1) ∧ w' = w := by
  go_enter Tryz.func24, Tryz.ntmps24
  go_wp2
  go_ret
  exact ⟨rfl, rfl⟩

set_option maxRecDepth 100000 in
theorem addN (v : Value) (w : World) : Calls Tryz.prog 25 #[.pointer none, v] w fun e w' => e = .returned (.pointer none) ∧ w' = w := by
  go_enter Tryz.func25, Tryz.ntmps25
  go_wp2
  go_ret
  exact ⟨rfl, rfl⟩

set_option maxRecDepth 100000 in
theorem putN (s : ByteArray) (v : Value) (b : Bool) (w : World) : Calls Tryz.prog 26 #[.pointer none, .string s, v, .bool b] w fun e w' => e = .returned (.int .i64 9) ∧ w' = w := by
  go_enter Tryz.func26, Tryz.ntmps26
  go_wp2
  go_ret
  exact ⟨rfl, rfl⟩

set_option maxRecDepth 100000 in
theorem dropN (s : ByteArray) (w : World) : Calls Tryz.prog 27 #[.pointer none, .string s] w fun e w' => e = .returned (.int .i64 9) ∧ w' = w := by
  go_enter Tryz.func27, Tryz.ntmps27
  go_wp2
  go_ret
  exact ⟨rfl, rfl⟩

set_option maxRecDepth 100000 in
theorem listN (s : ByteArray) (w : World) : Calls Tryz.prog 28 #[.pointer none, .string s] w fun e w' => e = .returned (.slice none 0 0) ∧ w' = w := by
  go_enter Tryz.func28, Tryz.ntmps28
  go_wp2
  go_ret
  exact ⟨rfl, rfl⟩

set_option maxRecDepth 100000 in
theorem usedN (w : World) : Calls Tryz.prog 29 #[.pointer none] w fun e w' => e = .returned (.int .i64 0) ∧ w' = w := by
  go_enter Tryz.func29, Tryz.ntmps29
  go_wp2
  go_ret
  exact ⟨rfl, rfl⟩

set_option maxRecDepth 100000 in
theorem hasN (v : Value) (w : World) : Calls Tryz.prog 30 #[.pointer none, v] w fun e w' => e = .returned (.bool false) ∧ w' = w := by
  go_enter Tryz.func30, Tryz.ntmps30
  go_wp2
  go_ret
  exact ⟨rfl, rfl⟩

set_option maxRecDepth 100000 in
theorem appendN (s : ByteArray) (v : Value) (w : World) : Calls Tryz.prog 31 #[.pointer none, .string s, v] w fun e w' => e = .returned (.int .i64 9) ∧ w' = w := by
  go_enter Tryz.func31, Tryz.ntmps31
  go_wp2
  go_ret
  exact ⟨rfl, rfl⟩

set_option maxRecDepth 100000 in
theorem looseN (w : World) : Calls Tryz.prog 32 #[.pointer none] w fun e w' => e = .returned (.int .i64 0) ∧ w' = w := by
  go_enter Tryz.func32, Tryz.ntmps32
  go_wp2
  go_ret
  exact ⟨rfl, rfl⟩

set_option maxRecDepth 100000 in
theorem dlistN (w : World) : Calls Tryz.prog 33 #[.pointer none] w fun e w' => e = .returned (.slice none 0 0) ∧ w' = w := by
  go_enter Tryz.func33, Tryz.ntmps33
  go_wp2
  go_ret
  exact ⟨rfl, rfl⟩

set_option maxRecDepth 100000 in
theorem newN (w : World) : Calls Tryz.prog 35 #[.int .i64 (-1)] w fun e w' => e = .returned (.pointer none) ∧ w' = w := by
  go_enter Tryz.func35, Tryz.ntmps35
  go_wp2
  go_ret
  exact ⟨rfl, rfl⟩

theorem getN (w : World) : Calls Tryz.prog 23 #[.slice none 0 0] w fun e w' => e = .returned (.tuple #[.int .u64 0, .int .i64 0, .int .i64 8]) ∧ w' = w := by
  refine (get_any none 0 0 [] w (Bs.nil _)).mono ?_
  rintro e w' ⟨rfl, rfl⟩
  exact ⟨rfl, rfl⟩

theorem getF_nil : getF [] = ([], 0, 8) := by simp [getF, M.getL_nil]

theorem frameGetN (w : World) : Calls Tryz.prog 13 #[.slice none 0 0] w fun e w' => ∃ a k c, e = .returned (.tuple #[.slice a k c, .int .i64 0, .int .i64 8]) ∧ Below w.heap.size w w' := by
  refine (frameGet_any none 0 0 [] w (Bs.nil _)).mono ?_
  rintro e w' ⟨a, k, c, rfl, _, hb⟩
  rw [getF_nil]
  exact ⟨a, k, c, rfl, hb⟩

theorem frameAllN (w : World) : Calls Tryz.prog 11 #[.slice none 0 0] w fun e w' => ∃ a k c, e = .returned (.tuple #[.slice a k c, .int .i64 0, .int .i64 0]) ∧ Below w.heap.size w w' := by
  refine (frameAll_any none 0 0 [] w (Bs.nil _) (by omega)).mono ?_
  rintro e w' ⟨a, k, c, rfl, _, _, hb⟩
  rw [allF_nil]
  exact ⟨a, k, c, rfl, hb⟩

set_option maxRecDepth 100000 in
theorem crashN (w : World) : Calls Tryz.prog 34 #[.pointer none, .int .i64 0, .int .i64 0] w fun e w' => ∃ g, e = .returned (.pointer (some ⟨g, 0, none⟩)) ∧ Below w.heap.size w w' := by
  go_enter Tryz.func34, Tryz.ntmps34
  go_wp2_with fail
  refine (diskNew_any _).mono ?_
  rintro e w' ⟨rfl, rfl⟩
  go_wp2
  go_ret
  exact ⟨_, rfl, below_alloc _ _ _ (Nat.le_refl _)⟩

/-- No change. -/
def zMut : Value := .agg #[.int .i64 0, .int .i64 0, .int .i64 0, .int .i64 0, .int .i64 0, .int .i64 0]
def zObj : Obj := .cells #[.int .i64 0, .int .i64 0, .int .i64 0, .int .i64 0, .int .i64 0, .int .i64 0] 40 (0, 0)

theorem z_cells {w : World} {g : Nat} (h : w.heap[g]? = some zObj) :
    w.cell? ⟨g, 0, none⟩ = some (.int .i64 0) ∧ w.cell? ⟨g, 1, none⟩ = some (.int .i64 0) ∧ w.cell? ⟨g, 2, none⟩ = some (.int .i64 0) ∧ w.cell? ⟨g, 3, none⟩ = some (.int .i64 0) ∧ w.cell? ⟨g, 4, none⟩ = some (.int .i64 0) ∧ w.cell? ⟨g, 5, none⟩ = some (.int .i64 0) := by
  refine ⟨?_, ?_, ?_, ?_, ?_, ?_⟩ <;> simp [World.cell?, h, zObj]

set_option maxRecDepth 100000 in
set_option maxHeartbeats 400000 in
theorem mayN (w : World) : Calls Tryz.prog 15 #[zMut] w fun e w' => e = .returned (.bool false) ∧ Below w.heap.size w w' := by
  unfold zMut
  go_enter Tryz.func15, Tryz.ntmps15
  go_wp2
  go_ret
  refine ⟨rfl, ?_⟩
  repeat (first | exact Below.refl _ _ | refine Below.drew ?_ | refine Below.alloc ?_ (by first | (simp; done) | (simp; omega)) _)

set_option maxRecDepth 100000 in
set_option maxHeartbeats 800000 in
theorem mutPutN (g : Nat) (w : World) (hg : w.heap[g]? = some zObj) : Calls Tryz.prog 18 #[.slice none 0 0, .slice (some ⟨g, 0, none⟩) 1 1] w fun e w' => ∃ a c, e = .returned (.slice a 0 c) ∧ Below w.heap.size w w' := by
  have hlt := lt_of_heap hg
  have HG := hide hg
  clear hg
  go_enter Tryz.func18, Tryz.ntmps18
  go_wp2_with fail
  refine (copyRoomM none 0 0 15 [] _ (Bs.nil _) (by omega) (by omega)).mono ?_
  rintro e w1 ⟨rfl, hown1, hb1⟩
  obtain ⟨c0, c1, c2, c3, c4, c5⟩ := z_cells ((hb1.block g hlt).trans HG.out)
  have HM := hide mayN
  unfold zMut at HM
  go_wp2
  refine wp_loop_rounds 2 ?_
  rw [rounds_succ]
  go_wp2_with fail
  refine (HM.out _).mono ?_
  rintro e w2 ⟨rfl, hb2⟩
  have hb12 : Below w.heap.size w w2 := hb1.trans ((below_alloc w1 _ w.heap.size hb1.size).trans (hb2.mono (by simp; have := hb1.size; omega)))
  clear c0 c1 c2 c3 c4 c5 HG
  go_wp2
  rw [rounds_succ]
  go_wp2
  go_ret
  exact ⟨_, _, rfl, hb12⟩

set_option maxRecDepth 100000 in
set_option maxHeartbeats 2000000 in
theorem walk (w : World) :
    Calls Tryz.prog 5 #[] w fun e w' => e = .returned (.bool true) ∧ Below w.heap.size w w' := by
  go_enter Tryz.func5, Tryz.ntmps5
  go_wp2_with fail
  refine (storeGetN _ _).mono ?_
  rintro e w1 ⟨rfl, rfl⟩
  go_wp2_with fail
  refine (diskReadN _ _).mono ?_
  rintro e w1 ⟨rfl, rfl⟩
  go_wp2_with fail
  refine (getN _).mono ?_
  rintro e w1 ⟨rfl, rfl⟩
  go_wp2_with fail
  refine (frameGetN _).mono ?_
  rintro e w2 ⟨a2, k2, c2, rfl, hb2⟩
  have H2 := hide hb2
  clear hb2
  go_wp2_with fail
  refine (frameAllN _).mono ?_
  rintro e w3 ⟨a3, k3, c3, rfl, hb3⟩
  have H3 := hide (H2.out.trans (hb3.mono H2.out.size))
  clear hb3 H2
  go_wp2_with fail
  refine (begun_true _).mono ?_
  rintro e w4 ⟨rfl, hb4⟩
  have H4 := hide (H3.out.trans (hb4.mono H3.out.size))
  clear hb4 H3
  go_wp2_with fail
  refine (valueN _).mono ?_
  rintro e w5 ⟨rfl, rfl⟩
  go_wp2_with fail
  refine (addN _ _).mono ?_
  rintro e w6 ⟨rfl, rfl⟩
  have H6 := hide (H4.out.trans (((below_alloc w5 (.cells #[.int .u8 1] 5) w5.heap.size (Nat.le_refl _)).trans (below_alloc _ (.cells #[.slice (some ⟨w5.heap.size, 0, none⟩) 1 1] 23) _ (by simp))).mono H4.out.size))
  generalize (w5.alloc (.cells #[.int .u8 1] 5)).alloc (.cells #[.slice (some ⟨w5.heap.size, 0, none⟩) 1 1] 23) = W6 at *
  clear H4
  go_wp2_with fail
  refine (putN _ _ _ _).mono ?_
  rintro e w7 ⟨rfl, rfl⟩
  go_wp2_with fail
  refine (dropN _ _).mono ?_
  rintro e w8 ⟨rfl, rfl⟩
  go_wp2_with fail
  refine (listN _ _).mono ?_
  rintro e w9 ⟨rfl, rfl⟩
  go_wp2_with fail
  refine (usedN _).mono ?_
  rintro e wA ⟨rfl, rfl⟩
  go_wp2_with fail
  refine (hasN _ _).mono ?_
  rintro e wB ⟨rfl, rfl⟩
  have HB := hide (H6.out.trans ((below_alloc wA (.cells #[.string ⟨#[97]⟩] 9) wA.heap.size (Nat.le_refl _)).mono H6.out.size))
  generalize wA.alloc (.cells #[.string ⟨#[97]⟩] 9) = WB at *
  clear H6
  go_wp2_with fail
  refine (appendN _ _ _).mono ?_
  rintro e wC ⟨rfl, rfl⟩
  go_wp2_with fail
  refine (looseN _).mono ?_
  rintro e wD ⟨rfl, rfl⟩
  go_wp2_with fail
  refine (dlistN _).mono ?_
  rintro e wE ⟨rfl, rfl⟩
  go_wp2_with fail
  refine (crashN _).mono ?_
  rintro e wF ⟨gF, rfl, hbF⟩
  have HF := hide (HB.out.trans (hbF.mono HB.out.size))
  clear hbF HB
  have HM := hide mayN
  unfold zMut at HM
  go_wp2_with fail
  refine (HM.out _).mono ?_
  rintro e wG ⟨rfl, hbG⟩
  have HG := hide (HF.out.trans (hbG.mono HF.out.size))
  clear hbG HF
  go_wp2_with fail
  have hz := heap_alloc_new wG zObj
  have HZ := hide (mutPutN wG.heap.size _ hz)
  have HGa := hide (HG.out.trans ((below_alloc wG zObj wG.heap.size (Nat.le_refl _)).mono HG.out.size))
  clear hz HG
  unfold zObj at HZ HGa
  refine HZ.out.mono ?_
  rintro e wH ⟨aH, cH, rfl, hbH⟩
  have HH := hide (HGa.out.trans (hbH.mono HGa.out.size))
  clear hbH HGa HZ
  go_wp2_with fail
  refine (newN _).mono ?_
  rintro e wI ⟨rfl, rfl⟩
  go_wp2
  go_ret
  exact ⟨rfl, HH.out⟩

theorem own : ownKnob Tryz.prog.godebug = none := by kernel_rfl

set_option maxRecDepth 100000 in
theorem lifted (os : Os) (started : os.Started) (H : Type) (enc : TypeId × Value → H) :
    ReturnsInHanded {} Tryz.checked os 5 .any (Rows.partsNoneSpec.pre6 enc Tryz.prog Tryz.f5 Rows.partsNoneRow.domain false) (Rows.partsNoneSpec.post enc Tryz.prog Tryz.f5 false true false false) := by
  refine returnsInHanded_of_change (C := Tryz.checked) own started (by kernel_rfl) Tryz.func5
    (ChangeSpec.witness6 (enc := enc) (C := Tryz.checked) false ⟨#[], #[], []⟩ 8 (by kernel_rfl) (by kernel_rfl) (by kernel_rfl) (by kernel_rfl)) ?_
  intro W base args ds gs before hval0 hW hcnd _
  have hW' := hW
  obtain ⟨p, q, hA0, hV, rfl, hfz, hnd⟩ := hW
  have hA : DataW.TrodAll enc Tryz.prog W 0 (fun _ => true) true Tryz.f5.params.toList args.toList ds p := hA0
  rw [Tryz.params5] at hA
  obtain ⟨rfl, rfl, rfl⟩ := trodAll_none hA
  obtain ⟨rfl, rfl⟩ := trodVars_none hV
  clear hA0 hval0
  simp only [List.append_nil] at hW'
  refine (walk W).mono fun e W' ⟨he, bel⟩ => ?_
  subst he
  exact ⟨_, rfl, _, _, _, [], [], [], hW', trodAll_mk1 (shut_bool Tryz.underlying4 _), trodAll_mk0, rfl, bel.frame _, fun h => by cases h⟩

theorem over : Rows.partsNoneRow.holds Tryz.pinned (OpenSpec.ofChange Rows.partsNoneSpec) :=
  OpenClaim.holds_of_wide 5 Tryz.f5 rfl rfl rfl rfl rfl rfl rfl ⟨rfl, rfl, rfl, rfl, rfl⟩ rfl rfl rfl rfl rfl (by kernel_rfl) Tryz.func5 (by kernel_rfl)
    (of_decide_eq_true (by kernel_rfl)) (by unfold Func.isWrapper; first | (rw [if_pos (by decide +kernel)]; kernel_rfl) | (rw [if_neg (by decide +kernel)]; exact ⟨rfl, rfl⟩))
    (fun os started H enc _ => lifted os started H enc)

theorem proved : Rows.PartsNoneSaid := over
#print axioms proved
end Go.Proofs.YtgpfpmocdmeldaaGreat.partsNone
