/- The statement FrameTorn: a frame without its end is torn, wherever it ends, for every text and cut. -/
import Derived.Test.YtjkfobgeklnblaaFrameT
import Derived.Test.YtjkfobgeklnblaaBegun
namespace Go.Proofs.Ytjkfobgeklnblaa.frameTorn
open Go.ChangeShapes Go.WideShapes Go.ChangeAt Go.RowKit

set_option maxRecDepth 100000 in
set_option maxHeartbeats 2000000 in
theorem walk (a : Option Addr) (n c : Nat) (z : List Int) (cut : Int) (w : World) (h : Row .u8 w a n c z) (w1 : (Lit.int .i64 cut).wf = true) :
    Calls Try.prog 12 #[.slice a n c, .int .i64 cut] w fun e w' => e = .returned (.bool true) ∧ Below w.heap.size w w' := by
  have hcut := wf_i64 w1
  have HB := hide h.bs
  clear w1 h
  go_enter Try.func12, Try.ntmps12
  go_wp2_with fail
  refine (begun_true _).mono ?_
  rintro e w1 ⟨rfl, hb1⟩
  have H1 := hide hb1
  have HB1 := hide (HB.out.later hb1 (Nat.le_refl _))
  clear hb1 HB
  go_wp2_with fail
  refine (short_any _ _ _ 200 _ _ _ HB1.out (by omega) (by rfl)).mono ?_
  rintro e w1' ⟨k, L, rfl, rfl, hkn, hk4, HL, hbs⟩
  have HS := hide hbs
  have HLK := hide hbs.1
  clear HB1 hbs HL
  go_wp2_with fail
  refine (framePut_one none 0 0 [] a k c L w1' (Bs.nil _) HS.out (by omega) (by omega)).mono ?_
  rintro e w2 ⟨g2, d2, k2, c2, X2, rfl, HX2, HD2, hk2, hk2', hd2, hd2', hg2, hc2, hc2', hbs2, hb2⟩
  have H2 := hide (H1.out.trans (hb2.mono H1.out.size))
  have P2 := hide hbs2
  have hX2 : X2 = frameB L := by rw [HX2.out]; simp
  have HXX := hide hX2
  clear hb2 hbs2 H1 HS hX2 HX2
  obtain ⟨r, i, hr, hr1, hr2, hi, hik⟩ := place cut k2 (by omega)
  have s1 := fun W => run_uptoA (some ⟨g2, 0, none⟩) k2 c2 i (i : Int) rfl (by omega) W
  have hk5 : ¬ (k2 : Int) < 5 := by omega
  have P3 := hide (P2.out.take i (by omega))
  have HG := hide (frameGet_any _ _ _ _ _ P3.out)
  have e1 : getF (X2.take i) = ([], 0, 8) := by
    rw [HXX.out]
    exact getF_torn L i (by rw [HLK.out]; omega) (by rw [← HD2.out]; omega)
  rw [e1] at HG
  clear e1
  go_wp2_with fail
  refine HG.out.mono ?_
  rintro e w3 ⟨a3, k3, c3, rfl, hbs3, hb3⟩
  have H3 := hide (H2.out.trans (hb3.mono H2.out.size))
  have P4 := hide (P2.out.later hb3 (Nat.le_refl _))
  have P5 := hide (P3.out.later hb3 (Nat.le_refl _))
  have HLX := hide P4.out.1
  clear hbs3 hb3 HG H2 P2 P3
  have C4 : Hid (∀ W v l, W.ownsInts w3.heap.size 5 .u8 v (X2 ++ X2.take i) → Below w3.heap.size w3 W → ∃ pa pc, v = .slice pa (k2 + i) pc ∧ Calls Try.prog 38 #[.slice pa (k2 + i) pc] W fun e w' => l = 0 → ∃ qa qc, e = .returned (.tuple #[.slice qa 1 qc, .int .i64 (k2 : Int), .int .i64 (if i = 0 then 0 else 8)]) ∧ Below w.heap.size w w') := by
    intro W v l ho hb
    obtain ⟨pa, pc, rfl, hbs⟩ := owns_bs ho (n := k2 + i) (by simp [HLX.out]; omega)
    refine ⟨pa, pc, rfl, (frameAll_any _ _ _ _ _ hbs (by omega)).mono ?_⟩
    rintro e w' ⟨qa, m, qc, rfl, hP, _, hb'⟩ _
    obtain ⟨f, hf⟩ : ∃ f, k2 + i = f + 2 := ⟨k2 + i - 2, by omega⟩
    have e2 : allF (k2 + i) (X2 ++ X2.take i) = ([L], k2, if i = 0 then 0 else 8) := by
      rw [hf, HXX.out, allF_torn L i f (by rw [HLK.out]; omega) (by rw [← HD2.out]; omega), ← HD2.out]
      have : d2 = k2 := by omega
      rw [this]
    rw [e2] at hP ⊢
    obtain rfl : m = 1 := hP.1.symm
    exact ⟨qa, qc, rfl, H3.out.trans ((hb.trans (hb'.mono hb.size)).mono H3.out.size)⟩
  have HW1 : Hid (Below w3.heap.size w3 w3.drew) := (Below.refl _ _).drew
  have hsz5 : X2.length + i ≤ 70368744177664 := by rw [HLX.out]; omega
  have hlx : X2.length + 0 ≤ 70368744177664 := by omega
  by_cases hi0 : i = 0
  · have hib : ((i : Int) == 0) = true := by simp; omega
    rw [if_pos hi0] at C4
    clear hi0
    go_wp2
    go_region_held3 (fun _ => True) (exact trivial) (first | (refine step_app rfl (.const (.slice none 0 0)) (.tmp 43) rfl w3.heap.size _ [] (by simp [Act.eval]) (World.ownsInts_nil _ _ _ _) _ _ _ X2 (by simp [Act.eval]) (P4.out.later HW1.out (Nat.le_refl _)) (by simp; omega) (Nat.le_refl _) ?_; intro v4 w4 ho4 hg4; have hb4 : Below w3.heap.size w3 w4 := HW1.out.trans (below_app (World.ownsInts_nil _ _ _ _) hg4 (Nat.le_refl _)); have hz4 := hb4.size) | (refine step_app rfl (.tmp 44) (.tmp 47) rfl w3.heap.size v4 X2 (by simp [Act.eval]) ho4 _ _ _ (X2.take i) (by simp [Act.eval]) (P5.out.later hb4 (Nat.le_refl _)) hsz5 hz4 ?_; intro v5 w5 ho5 hg5; have hb5 := hb4.trans (below_app ho4 hg5 hz4); obtain ⟨pa, pc, rfl, hC⟩ := C4.out w5 v5 0 ho5 hb5) | (go_at_call 38; (refine hC.mono ?_; rintro e w6 hq; obtain ⟨qa, qc, rfl, hb6⟩ := hq rfl)))
    all_goals
      have H6 := hide hb6
      clear hb6 hC hb5 hb4 ho4 hg4 ho5 hg5
      go_wp2
      go_ret
      exact ⟨rfl, H6.out⟩
  · have hib : ((i : Int) == 0) = false := by simp; omega
    have hib2 : (0 : Int) < (i : Int) := by omega
    rw [if_neg hi0] at C4
    clear hi0
    go_wp2
    go_region_held3 (fun _ => True) (exact trivial) (first | (refine step_app rfl (.const (.slice none 0 0)) (.tmp 43) rfl w3.heap.size _ [] (by simp [Act.eval]) (World.ownsInts_nil _ _ _ _) _ _ _ X2 (by simp [Act.eval]) (P4.out.later HW1.out (Nat.le_refl _)) (by simp; omega) (Nat.le_refl _) ?_; intro v4 w4 ho4 hg4; have hb4 : Below w3.heap.size w3 w4 := HW1.out.trans (below_app (World.ownsInts_nil _ _ _ _) hg4 (Nat.le_refl _)); have hz4 := hb4.size) | (refine step_app rfl (.tmp 44) (.tmp 47) rfl w3.heap.size v4 X2 (by simp [Act.eval]) ho4 _ _ _ (X2.take i) (by simp [Act.eval]) (P5.out.later hb4 (Nat.le_refl _)) hsz5 hz4 ?_; intro v5 w5 ho5 hg5; have hb5 := hb4.trans (below_app ho4 hg5 hz4); obtain ⟨pa, pc, rfl, hC⟩ := C4.out w5 v5 0 ho5 hb5) | (go_at_call 38; (refine hC.mono ?_; rintro e w6 hq; obtain ⟨qa, qc, rfl, hb6⟩ := hq rfl)))
    all_goals
      have H6 := hide hb6
      clear hb6 hC hb5 hb4 ho4 hg4 ho5 hg5
      go_wp2
      go_ret
      exact ⟨rfl, H6.out⟩

theorem own : ownKnob Try.prog.godebug = none := by kernel_rfl
theorem laidOut : laidOutB Try.prog = true := by kernel_rfl

set_option maxRecDepth 100000 in
theorem lifted (os : Os) (started : os.Started) (H : Type) (enc : TypeId × Value → H) :
    ReturnsInHanded {} Try.checked os 12 .any (Rows.frameTornSpec.pre6 enc Try.prog Try.f12 Rows.frameTornRow.domain false) (Rows.frameTornSpec.post enc Try.prog Try.f12 false true false false) := by
  refine returnsInHanded_of_change (C := Try.checked) own started (by kernel_rfl) Try.func12
    (ChangeSpec.witness6 (enc := enc) (C := Try.checked) false ⟨#[], #[.slice none 0 0, .int .i64 0], []⟩ 8 (by kernel_rfl) (by kernel_rfl) (by kernel_rfl) (by kernel_rfl)) ?_
  intro W base args ds gs before hval0 hW hcnd _
  have hval : ∀ (j : Nat) t v, Try.f12.params[j]? = some t → args[j]? = some v → Value.okWide Try.prog W .any base t v := hval0
  have hW' := hW
  obtain ⟨p, q, hA0, hV, rfl, hfz, hnd⟩ := hW
  have hA : DataW.TrodAll enc Try.prog W 0 (fun _ => true) true Try.f12.params.toList args.toList ds p := hA0
  rw [Try.params12] at hA hval
  obtain ⟨v0, vs0, d0, ds0, p0, q0, hargs, rfl, rfl, h0, r0⟩ := trodAll_cons hA
  obtain ⟨v1, vs1, d1, ds1, p1, q1, rfl, rfl, rfl, h1, r1⟩ := trodAll_cons r0
  obtain ⟨rfl, rfl, rfl⟩ := trodAll_nil r1
  obtain rfl : args = #[v0, v1] := by cases args; simp_all
  obtain ⟨rfl, rfl⟩ := trodVars_none hV
  obtain ⟨a0, n0, c0, rfl⟩ := okWide_slice Try.underlying23 (hval 0 23 v0 rfl rfl)
  have k0 := h0
  have lt0 : ∀ x ∈ p0, x.block < W.heap.size := by obtain ⟨m, hm⟩ := k0; exact DataW.trod_lt m _ _ _ hm
  obtain ⟨z0, w0⟩ : ∃ zs, Row .u8 W a0 n0 c0 zs := by
    obtain ⟨fuel, hf⟩ := h0
    rcases open_ints Try.underlying23 Try.underlying5 (by kernel_rfl) hf with ⟨hcs, _⟩ | ⟨x, l, c, zs, hcs, _, hl, hm, hz, _, hcell, hwz⟩
    · simp [Value.cells] at hcs; obtain ⟨rfl, rfl, rfl⟩ := hcs; exact ⟨[], row_none _ _⟩
    · simp [Value.cells] at hcs; obtain ⟨rfl, rfl, rfl⟩ := hcs; exact ⟨_, row_some hl hm (by simpa using hz) hcell hwz⟩
  obtain ⟨a1, rfl, rfl, rfl, w1⟩ := open_int Try.underlying3 (hval 1 3 v1 rfl rfl) h1
  clear hA0 hval0
  refine (walk a0 n0 c0 z0 a1 W w0 w1).mono fun e W' ⟨he, bel⟩ => ?_
  subst he
  exact ⟨_, rfl, _, _, _, [], _, [], hW', trodAll_mk1 (shut_bool Try.underlying4 _), (trodAll_cons_mk (Below.trod laidOut (by kernel_rfl) (of_decide_eq_true (by kernel_rfl)) k0 bel lt0) (trodAll_cons_mk (shut_int Try.underlying3 w1) trodAll_mk0)), rfl, bel.frame _, fun h => by cases h⟩

theorem over : Rows.frameTornRow.holds Try.pinned (OpenSpec.ofChange Rows.frameTornSpec) :=
  OpenClaim.holds_of_wide 12 Try.f12 rfl rfl rfl rfl rfl rfl rfl ⟨rfl, rfl, rfl, rfl, rfl⟩ rfl rfl rfl rfl rfl (by kernel_rfl) Try.func12 (by kernel_rfl)
    (of_decide_eq_true (by kernel_rfl)) (by unfold Func.isWrapper; first | (rw [if_pos (by decide +kernel)]; kernel_rfl) | (rw [if_neg (by decide +kernel)]; exact ⟨rfl, rfl⟩))
    (fun os started H enc _ => lifted os started H enc)

theorem proved : Rows.FrameTornSaid := over
#print axioms proved
end Go.Proofs.Ytjkfobgeklnblaa.frameTorn
