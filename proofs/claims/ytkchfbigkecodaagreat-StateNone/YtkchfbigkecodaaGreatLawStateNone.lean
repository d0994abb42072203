/- The statement StateNone: nothing: a closed sentence, no condition. -/
import Derived.Test.YtkchfbigkecodaaGreatBeg7
import Derived.Test.YtkchfbigkecodaaGreatLawA
namespace Go.Proofs.YtkchfbigkecodaaGreat.stateNone
open Go.ChangeShapes Go.WideShapes Go.ChangeAt Go.RowKit Go.MapKept Go.ChangeMaps

set_option maxRecDepth 100000 in
theorem n_set (w : World) : Calls Tryz.prog 17 #[.pointer none, .agg #[.int .i64 0, .int .i64 0, .int .i64 0], .int .i64 1] w fun e w' => e = .returned (.tuple #[]) ∧ Below w.heap.size w w' := by
  go_enter Tryz.func17, Tryz.ntmps17
  go_wp2
  refine bodyPost_ret (v := .tuple #[]) (by simp [results, Tryz.results17, go_sem]) rfl ?_
  first | exact ⟨rfl, Below.refl _ _⟩ | exact ⟨rfl, below_alloc _ _ _ (Nat.le_refl _)⟩ | exact ⟨rfl, (below_alloc _ _ _ (Nat.le_refl _)).trans (below_alloc _ _ _ (by simp))⟩

set_option maxRecDepth 100000 in
theorem n_value (w : World) : Calls Tryz.prog 21 #[.pointer none, .agg #[.int .i64 0, .int .i64 0, .int .i64 0]] w fun e w' => e = .returned (.tuple #[.int .i64 0, .bool false]) ∧ Below w.heap.size w w' := by
  go_enter Tryz.func21, Tryz.ntmps21
  go_wp2
  go_ret2
  first | exact ⟨rfl, Below.refl _ _⟩ | exact ⟨rfl, below_alloc _ _ _ (Nat.le_refl _)⟩ | exact ⟨rfl, (below_alloc _ _ _ (Nat.le_refl _)).trans (below_alloc _ _ _ (by simp))⟩

set_option maxRecDepth 100000 in
theorem n_field (w : World) : Calls Tryz.prog 32 #[.pointer none, .agg #[.int .i64 0, .int .i64 0, .int .i64 0], .int .i64 0] w fun e w' => e = .returned (.tuple #[.int .i64 0, .bool false]) ∧ Below w.heap.size w w' := by
  go_enter Tryz.func32, Tryz.ntmps32
  go_wp2
  go_ret2
  first | exact ⟨rfl, Below.refl _ _⟩ | exact ⟨rfl, below_alloc _ _ _ (Nat.le_refl _)⟩ | exact ⟨rfl, (below_alloc _ _ _ (Nat.le_refl _)).trans (below_alloc _ _ _ (by simp))⟩

set_option maxRecDepth 100000 in
theorem n_unset (w : World) : Calls Tryz.prog 18 #[.pointer none, .agg #[.int .i64 0, .int .i64 0, .int .i64 0]] w fun e w' => e = .returned (.bool false) ∧ Below w.heap.size w w' := by
  go_enter Tryz.func18, Tryz.ntmps18
  go_wp2
  go_ret
  first | exact ⟨rfl, Below.refl _ _⟩ | exact ⟨rfl, below_alloc _ _ _ (Nat.le_refl _)⟩ | exact ⟨rfl, (below_alloc _ _ _ (Nat.le_refl _)).trans (below_alloc _ _ _ (by simp))⟩

set_option maxRecDepth 100000 in
theorem n_vkeys (w : World) : Calls Tryz.prog 19 #[.pointer none] w fun e w' => e = .returned (.slice none 0 0) ∧ Below w.heap.size w w' := by
  go_enter Tryz.func19, Tryz.ntmps19
  go_wp2
  go_ret
  first | exact ⟨rfl, Below.refl _ _⟩ | exact ⟨rfl, below_alloc _ _ _ (Nat.le_refl _)⟩ | exact ⟨rfl, (below_alloc _ _ _ (Nat.le_refl _)).trans (below_alloc _ _ _ (by simp))⟩

set_option maxRecDepth 100000 in
theorem n_push (q : Nat) (w : World) : Calls Tryz.prog 23 #[.pointer none, .agg #[.int .i64 0, .int .i64 0, .int .i64 0], .slice (some ⟨q, 0, none⟩) 1 1] w fun e w' => e = .returned (.int .i64 9) ∧ Below w.heap.size w w' := by
  go_enter Tryz.func23, Tryz.ntmps23
  go_wp2
  go_ret
  first | exact ⟨rfl, Below.refl _ _⟩ | exact ⟨rfl, below_alloc _ _ _ (Nat.le_refl _)⟩ | exact ⟨rfl, (below_alloc _ _ _ (Nat.le_refl _)).trans (below_alloc _ _ _ (by simp))⟩

set_option maxRecDepth 100000 in
theorem n_clear (w : World) : Calls Tryz.prog 24 #[.pointer none, .agg #[.int .i64 0, .int .i64 0, .int .i64 0]] w fun e w' => e = .returned (.int .i64 0) ∧ Below w.heap.size w w' := by
  go_enter Tryz.func24, Tryz.ntmps24
  go_wp2
  go_ret
  first | exact ⟨rfl, Below.refl _ _⟩ | exact ⟨rfl, below_alloc _ _ _ (Nat.le_refl _)⟩ | exact ⟨rfl, (below_alloc _ _ _ (Nat.le_refl _)).trans (below_alloc _ _ _ (by simp))⟩

set_option maxRecDepth 100000 in
theorem n_list (w : World) : Calls Tryz.prog 26 #[.pointer none, .agg #[.int .i64 0, .int .i64 0, .int .i64 0]] w fun e w' => e = .returned (.slice none 0 0) ∧ Below w.heap.size w w' := by
  go_enter Tryz.func26, Tryz.ntmps26
  go_wp2
  go_ret
  first | exact ⟨rfl, Below.refl _ _⟩ | exact ⟨rfl, below_alloc _ _ _ (Nat.le_refl _)⟩ | exact ⟨rfl, (below_alloc _ _ _ (Nat.le_refl _)).trans (below_alloc _ _ _ (by simp))⟩

set_option maxRecDepth 100000 in
theorem n_lkeys (w : World) : Calls Tryz.prog 25 #[.pointer none] w fun e w' => e = .returned (.slice none 0 0) ∧ Below w.heap.size w w' := by
  go_enter Tryz.func25, Tryz.ntmps25
  go_wp2
  go_ret
  first | exact ⟨rfl, Below.refl _ _⟩ | exact ⟨rfl, below_alloc _ _ _ (Nat.le_refl _)⟩ | exact ⟨rfl, (below_alloc _ _ _ (Nat.le_refl _)).trans (below_alloc _ _ _ (by simp))⟩

set_option maxRecDepth 100000 in
theorem n_put (w : World) : Calls Tryz.prog 28 #[.pointer none, .agg #[.int .i64 0, .int .i64 0, .int .i64 0], .int .i64 0, .int .i64 1] w fun e w' => e = .returned (.int .i64 9) ∧ Below w.heap.size w w' := by
  go_enter Tryz.func28, Tryz.ntmps28
  go_wp2
  go_ret
  first | exact ⟨rfl, Below.refl _ _⟩ | exact ⟨rfl, below_alloc _ _ _ (Nat.le_refl _)⟩ | exact ⟨rfl, (below_alloc _ _ _ (Nat.le_refl _)).trans (below_alloc _ _ _ (by simp))⟩

set_option maxRecDepth 100000 in
theorem n_cut (w : World) : Calls Tryz.prog 29 #[.pointer none, .agg #[.int .i64 0, .int .i64 0, .int .i64 0], .int .i64 0] w fun e w' => e = .returned (.bool false) ∧ Below w.heap.size w w' := by
  go_enter Tryz.func29, Tryz.ntmps29
  go_wp2
  go_ret
  first | exact ⟨rfl, Below.refl _ _⟩ | exact ⟨rfl, below_alloc _ _ _ (Nat.le_refl _)⟩ | exact ⟨rfl, (below_alloc _ _ _ (Nat.le_refl _)).trans (below_alloc _ _ _ (by simp))⟩

set_option maxRecDepth 100000 in
theorem n_dict (w : World) : Calls Tryz.prog 31 #[.pointer none, .agg #[.int .i64 0, .int .i64 0, .int .i64 0]] w fun e w' => e = .returned (.slice none 0 0) ∧ Below w.heap.size w w' := by
  go_enter Tryz.func31, Tryz.ntmps31
  go_wp2
  go_ret
  first | exact ⟨rfl, Below.refl _ _⟩ | exact ⟨rfl, below_alloc _ _ _ (Nat.le_refl _)⟩ | exact ⟨rfl, (below_alloc _ _ _ (Nat.le_refl _)).trans (below_alloc _ _ _ (by simp))⟩

set_option maxRecDepth 100000 in
theorem n_dkeys (w : World) : Calls Tryz.prog 30 #[.pointer none] w fun e w' => e = .returned (.slice none 0 0) ∧ Below w.heap.size w w' := by
  go_enter Tryz.func30, Tryz.ntmps30
  go_wp2
  go_ret
  first | exact ⟨rfl, Below.refl _ _⟩ | exact ⟨rfl, below_alloc _ _ _ (Nat.le_refl _)⟩ | exact ⟨rfl, (below_alloc _ _ _ (Nat.le_refl _)).trans (below_alloc _ _ _ (by simp))⟩

set_option maxRecDepth 100000 in
theorem n_sdo (w : World) : Calls Tryz.prog 33 #[.pointer none, .slice none 0 0] w fun e w' => e = .returned (.int .i64 9) ∧ Below w.heap.size w w' := by
  go_enter Tryz.func33, Tryz.ntmps33
  go_wp2
  go_ret
  first | exact ⟨rfl, Below.refl _ _⟩ | exact ⟨rfl, below_alloc _ _ _ (Nat.le_refl _)⟩ | exact ⟨rfl, (below_alloc _ _ _ (Nat.le_refl _)).trans (below_alloc _ _ _ (by simp))⟩

set_option maxRecDepth 100000 in
theorem n_load (w : World) : Calls Tryz.prog 34 #[.pointer none, .slice none 0 0] w fun e w' => e = .returned (.int .i64 9) ∧ Below w.heap.size w w' := by
  go_enter Tryz.func34, Tryz.ntmps34
  go_wp2
  go_ret
  first | exact ⟨rfl, Below.refl _ _⟩ | exact ⟨rfl, below_alloc _ _ _ (Nat.le_refl _)⟩ | exact ⟨rfl, (below_alloc _ _ _ (Nat.le_refl _)).trans (below_alloc _ _ _ (by simp))⟩

set_option maxRecDepth 100000 in
theorem n_cells (w : World) : Calls Tryz.prog 35 #[.pointer none] w fun e w' => e = .returned (.slice none 0 0) ∧ Below w.heap.size w w' := by
  go_enter Tryz.func35, Tryz.ntmps35
  go_wp2
  go_ret
  first | exact ⟨rfl, Below.refl _ _⟩ | exact ⟨rfl, below_alloc _ _ _ (Nat.le_refl _)⟩ | exact ⟨rfl, (below_alloc _ _ _ (Nat.le_refl _)).trans (below_alloc _ _ _ (by simp))⟩


set_option maxRecDepth 100000 in
theorem n_fill (s : Nat) (w : World) : Calls Tryz.prog 58 #[.pointer (some ⟨s, 0, none⟩), .slice none 0 0] w fun e w' => e = .returned (.tuple #[]) ∧ Below w.heap.size w w' := by
  go_enter Tryz.func58, Tryz.ntmps58
  go_wp2
  go_loopw [10] (fun i wr => i = .int .i64 0 ∧ wr = w) (fun _ _ => 0)
  case atStart => exact ⟨rfl, rfl⟩
  case round =>
    obtain ⟨rfl, rfl⟩ := hrel
    go_wp2
    go_end0
    exact ⟨rfl, Below.refl _ _⟩

set_option maxRecDepth 100000 in
theorem n_copy (w : World) : Calls Tryz.prog 36 #[.pointer none] w fun e w' => e = .returned (.pointer (some ⟨w.heap.size + 1 + 1 + 1, 0, none⟩)) ∧ Below w.heap.size w w' := by
  have hb := newSt_below w
  have HB := hide hb
  clear hb
  go_enter Tryz.func36, Tryz.ntmps36
  go_wp2_with fail
  refine (stateNew w).mono ?_
  rintro e w1 ⟨rfl, rfl⟩
  generalize newSt w = w1 at *
  go_wp2_with fail
  refine (n_cells w1).mono ?_
  rintro e w2 ⟨rfl, hb2⟩
  have HB2 := hide (HB.out.trans (hb2.mono HB.out.size))
  clear hb2 HB
  go_wp2_with fail
  refine (n_fill _ w2).mono ?_
  rintro e w3 ⟨rfl, hb3⟩
  have HB3 := hide (HB2.out.trans (hb3.mono HB2.out.size))
  clear hb3 HB2
  go_wp2
  go_ret
  exact ⟨rfl, HB3.out⟩

set_option maxRecDepth 100000 in
theorem n_eq (w : World) : Calls Tryz.prog 37 #[.pointer none, .pointer (some ⟨w.heap.size + 1 + 1 + 1, 0, none⟩)] (newSt w) fun e w' => e = .returned (.bool true) ∧ Below (newSt w).heap.size (newSt w) w' := by
  have hnew : AbS (newSt w) (fun k => w.heap.size ≤ k) (w.heap.size + 1 + 1 + 1) w.heap.size (w.heap.size + 1) (w.heap.size + 1 + 1) ab0 0 := StaS.new w _ (fun k hk => hk)
  have HC := hide (fun (W : World) (hW : Below (newSt w).heap.size (newSt w) W) => stateCells _ _ _ _ _ 0 ab0 W (StaS.later hnew hW) (by omega) (fun k => by simp [ab0]) (fun k => by simp [ab0]))
  clear hnew
  generalize newSt w = w1 at *
  go_enter Tryz.func37, Tryz.ntmps37
  go_wp2_with fail
  refine (n_cells w1).mono ?_
  rintro e w2 ⟨rfl, hb2⟩
  have HC2 := hide (HC.out _ hb2)
  have HB2 := hide hb2
  clear hb2 HC
  go_wp2_with fail
  refine HC2.out.mono ?_
  rintro e w3 ⟨v, xs, ks, rfl, k1, _, k3, k4, k5⟩
  have e0 : ks = [] := rise_eq k1.1 List.Pairwise.nil (fun k => by rw [k1.2 k]; simp [ab0])
  subst e0
  have e1 : xs = [] := by simpa using k3
  subst e1
  have : DecidableEq Cl := fun _ _ => Classical.propDecidable _
  have HQ := hide (equalCr (.slice none 0 0) v [] [] w3 (OwnR.nil _ _) (k4.mono (Nat.zero_le _)) (fun x hx => by simp at hx) (fun x hx => by simp at hx) (by simp) (by simp))
  have HB3 := hide (HB2.out.trans (k5.mono HB2.out.size))
  clear k1 k3 k4 k5 HC2 HB2
  go_wp2_with fail
  refine HQ.out.mono ?_
  rintro e w4 ⟨rfl, hb4⟩
  have HB4 := hide (HB3.out.trans (hb4.mono HB3.out.size))
  clear hb4 HB3 HQ
  go_wp2
  go_ret
  exact ⟨by simp, HB4.out⟩
theorem n_do (w : World) : Calls Tryz.prog 33 #[.pointer (some ⟨w.heap.size + 1 + 1 + 1, 0, none⟩), .slice none 0 0] (newSt w) fun e w' => e = .returned (.int .i64 0) ∧ Below w.heap.size w w' := by
  have hnew : AbS (newSt w) (fun k => w.heap.size ≤ k) (w.heap.size + 1 + 1 + 1) w.heap.size (w.heap.size + 1) (w.heap.size + 1 + 1) ab0 0 := StaS.new w _ (fun k hk => hk)
  have hb := newSt_below w
  refine (do_ok _ _ _ _ _ 0 ab0 none 0 0 [] (newSt w) hnew (fun k => by simp [ab0]) ⟨rfl, fun h => absurd h (Nat.lt_irrefl 0)⟩ (by omega) (fun k hk => Nat.le_trans hb.size hk) (fun b o e => by cases e) (fun x hx => by simp at hx) (fun k => by simp [runQ]; exact fun b => ⟨List.Pairwise.nil, fun p hp => by simp [ab0] at hp⟩) rfl rfl).mono ?_
  rintro e w' ⟨r1, _, r3⟩
  exact ⟨r1, hb.trans (r3.below (fun k hk e => by have : w.heap.size ≤ k := e; omega) hb.size)⟩


set_option maxRecDepth 100000 in
set_option maxHeartbeats 8000000 in
theorem walk (W0 : World) : Calls Tryz.prog 6 #[] W0 fun e w' => e = .returned (.bool true) ∧ Below W0.heap.size W0 w' := by
  have HB0 : Hid (Below W0.heap.size W0 W0) := Below.refl _ _
  go_enter Tryz.func6, Tryz.ntmps6
  go_wp2_with fail
  refine (n_set W0).mono ?_
  rintro e W1 ⟨rfl, hb⟩
  have HB1 := hide (HB0.out.trans (hb.mono HB0.out.size))
  clear hb HB0
  go_wp2_with fail
  refine (n_value W1).mono ?_
  rintro e W2 ⟨rfl, hb⟩
  have HB2 := hide (HB1.out.trans (hb.mono HB1.out.size))
  clear hb HB1
  go_wp2_with fail
  refine (n_field W2).mono ?_
  rintro e W3 ⟨rfl, hb⟩
  have HB3 := hide (HB2.out.trans (hb.mono HB2.out.size))
  clear hb HB2
  go_wp2_with fail
  refine (begun7_true W3).mono ?_
  rintro e W4 ⟨rfl, hb⟩
  have HB4 := hide (HB3.out.trans (hb.mono HB3.out.size))
  clear hb HB3
  go_wp2_with fail
  refine (n_unset W4).mono ?_
  rintro e W5 ⟨rfl, hb⟩
  have HB5 := hide (HB4.out.trans (hb.mono HB4.out.size))
  clear hb HB4
  go_wp2_with fail
  refine (n_vkeys W5).mono ?_
  rintro e W6 ⟨rfl, hb⟩
  have HB6 := hide (HB5.out.trans (hb.mono HB5.out.size))
  clear hb HB5
  go_wp2_with fail
  refine (n_push W6.heap.size _).mono ?_
  rintro e W7 ⟨rfl, hb⟩
  have hba := below_alloc W6 (.cells #[.int .i64 1] 2) W6.heap.size (Nat.le_refl _)
  have HB7 := hide (HB6.out.trans ((hba.trans (hb.mono hba.size)).mono HB6.out.size))
  clear hb hba HB6
  go_wp2_with fail
  refine (n_clear W7).mono ?_
  rintro e W8 ⟨rfl, hb⟩
  have HB8 := hide (HB7.out.trans (hb.mono HB7.out.size))
  clear hb HB7
  go_wp2_with fail
  refine (n_list W8).mono ?_
  rintro e W9 ⟨rfl, hb⟩
  have HB9 := hide (HB8.out.trans (hb.mono HB8.out.size))
  clear hb HB8
  go_wp2_with fail
  refine (n_lkeys W9).mono ?_
  rintro e W10 ⟨rfl, hb⟩
  have HB10 := hide (HB9.out.trans (hb.mono HB9.out.size))
  clear hb HB9
  go_wp2_with fail
  refine (n_put W10).mono ?_
  rintro e W11 ⟨rfl, hb⟩
  have HB11 := hide (HB10.out.trans (hb.mono HB10.out.size))
  clear hb HB10
  go_wp2_with fail
  refine (n_cut W11).mono ?_
  rintro e W12 ⟨rfl, hb⟩
  have HB12 := hide (HB11.out.trans (hb.mono HB11.out.size))
  clear hb HB11
  go_wp2_with fail
  refine (n_dict W12).mono ?_
  rintro e W13 ⟨rfl, hb⟩
  have HB13 := hide (HB12.out.trans (hb.mono HB12.out.size))
  clear hb HB12
  go_wp2_with fail
  refine (n_dkeys W13).mono ?_
  rintro e W14 ⟨rfl, hb⟩
  have HB14 := hide (HB13.out.trans (hb.mono HB13.out.size))
  clear hb HB13
  go_wp2_with fail
  refine (n_sdo W14).mono ?_
  rintro e W15 ⟨rfl, hb⟩
  have HB15 := hide (HB14.out.trans (hb.mono HB14.out.size))
  clear hb HB14
  go_wp2_with fail
  refine (n_load W15).mono ?_
  rintro e W16 ⟨rfl, hb⟩
  have HB16 := hide (HB15.out.trans (hb.mono HB15.out.size))
  clear hb HB15
  go_wp2_with fail
  refine (n_cells W16).mono ?_
  rintro e W17 ⟨rfl, hb⟩
  have HB17 := hide (HB16.out.trans (hb.mono HB16.out.size))
  clear hb HB16
  go_wp2_with fail
  refine (n_copy W17).mono ?_
  rintro e W18 ⟨rfl, hb⟩
  have HB18 := hide (HB17.out.trans (hb.mono HB17.out.size))
  clear hb HB17
  go_wp2_with fail
  refine (stateNew W18).mono ?_
  rintro e Wx ⟨rfl, rfl⟩
  have HN := hide (newSt_below W18)
  go_wp2_with fail
  refine (n_eq W18).mono ?_
  rintro e W19 ⟨rfl, hb⟩
  have HB19 := hide (HB18.out.trans ((HN.out.trans (hb.mono HN.out.size)).mono HB18.out.size))
  clear hb HB18 HN
  go_wp2_with fail
  refine (stateNew W19).mono ?_
  rintro e Wx ⟨rfl, rfl⟩
  go_wp2_with fail
  refine (n_do W19).mono ?_
  rintro e W20 ⟨rfl, hb⟩
  have HB20 := hide (HB19.out.trans (hb.mono HB19.out.size))
  clear hb HB19
  go_wp2
  go_ret
  exact ⟨rfl, HB20.out⟩

theorem own : ownKnob Tryz.prog.godebug = none := by kernel_rfl

set_option maxRecDepth 100000 in
theorem lifted (os : Os) (started : os.Started) (H : Type) (enc : TypeId × Value → H) :
    ReturnsInHanded {} Tryz.checked os 6 .any (Rows.stateNoneSpec.pre6 enc Tryz.prog Tryz.f6 Rows.stateNoneRow.domain false) (Rows.stateNoneSpec.post enc Tryz.prog Tryz.f6 false true false false) := by
  refine returnsInHanded_of_change (C := Tryz.checked) own started (by kernel_rfl) Tryz.func6
    (ChangeSpec.witness6 (enc := enc) (C := Tryz.checked) false ⟨#[], #[], []⟩ 8 (by kernel_rfl) (by kernel_rfl) (by kernel_rfl) (by kernel_rfl)) ?_
  intro W base args ds gs before hval0 hW hcnd _
  have hW' := hW
  obtain ⟨p, q, hA0, hV, rfl, hfz, hnd⟩ := hW
  have hA : DataW.TrodAll enc Tryz.prog W 0 (fun _ => true) true Tryz.f6.params.toList args.toList ds p := hA0
  rw [Tryz.params6] at hA
  obtain ⟨rfl, rfl, rfl⟩ := trodAll_none hA
  obtain ⟨rfl, rfl⟩ := trodVars_none hV
  clear hA0 hval0
  simp only [List.append_nil] at hW'
  refine (walk W).mono fun e W' ⟨he, bel⟩ => ?_
  subst he
  exact ⟨_, rfl, _, _, _, [], [], [], hW', trodAll_mk1 (shut_bool Tryz.underlying4 _), trodAll_mk0, rfl, bel.frame _, fun h => by cases h⟩

theorem over : Rows.stateNoneRow.holds Tryz.pinned (OpenSpec.ofChange Rows.stateNoneSpec) :=
  OpenClaim.holds_of_wide 6 Tryz.f6 rfl rfl rfl rfl rfl rfl rfl ⟨rfl, rfl, rfl, rfl, rfl⟩ rfl rfl rfl rfl rfl (by kernel_rfl) Tryz.func6 (by kernel_rfl)
    (of_decide_eq_true (by kernel_rfl)) (by unfold Func.isWrapper; first | (rw [if_pos (by decide +kernel)]; kernel_rfl) | (rw [if_neg (by decide +kernel)]; exact ⟨rfl, rfl⟩))
    (fun os started H enc _ => lifted os started H enc)

theorem proved : Rows.StateNoneSaid := over
#print axioms proved
end Go.Proofs.YtkchfbigkecodaaGreat.stateNone
