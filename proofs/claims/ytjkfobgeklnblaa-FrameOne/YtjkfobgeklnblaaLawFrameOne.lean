/- The statement FrameOne: a frame of which one byte is another one is not that frame, for every text, place and byte. -/
import Derived.Test.YtjkfobgeklnblaaFrameM
import Derived.Test.YtjkfobgeklnblaaBegun
namespace Go.Proofs.Ytjkfobgeklnblaa.frameOne
open Go.ChangeShapes Go.WideShapes Go.ChangeAt Go.RowKit

set_option maxRecDepth 100000 in
set_option maxHeartbeats 2000000 in
theorem walk (a : Option Addr) (n c : Nat) (z : List Int) (at' x : Int) (w : World) (h : Row .u8 w a n c z) (w1 : (Lit.int .i64 at').wf = true) (w2 : (Lit.int .u8 x).wf = true) :
    Calls Try.prog 11 #[.slice a n c, .int .i64 at', .int .u8 x] w fun e w' => e = .returned (.bool true) ∧ Below w.heap.size w w' := by
  have hat := wf_i64 w1
  have hx := of_wf_u8 w2
  have HB := hide h.bs
  clear w1 w2 h
  go_enter Try.func11, Try.ntmps11
  go_wp2_with fail
  refine (begun_true _).mono ?_
  rintro e w1 ⟨rfl, hb1⟩
  have H1 := hide hb1
  have HB1 := hide (HB.out.later hb1 (Nat.le_refl _))
  clear hb1 HB
  go_wp2_with fail
  refine (short_any _ _ _ 100 _ _ _ HB1.out (by omega) (by rfl)).mono ?_
  rintro e w1' ⟨k, L, rfl, rfl, hkn, hk4, HL, hbs⟩
  have HS := hide hbs
  clear HB1 hbs HL
  go_wp2_with fail
  refine (framePut_one none 0 0 [] a k c L w1' (Bs.nil _) HS.out (by omega) (by omega)).mono ?_
  rintro e w2 ⟨g2, d2, k2, c2, X2, rfl, HX2, HD2, hk2, hk2', hd2, hd2', hg2, hc2, hc2', hbs2, hb2⟩
  have H2 := hide (H1.out.trans (hb2.mono H1.out.size))
  have HS2 := hide (HS.out.later hb2 (Nat.le_refl _))
  have P2 := hide hbs2
  have hX2 : X2 = frameB L := by rw [HX2.out]; simp
  have HXX := hide hX2
  clear hb2 hbs2 H1 HS hX2
  by_cases hx0 : x = 0
  · have hxb : (x == 0) = true := by simpa using hx0
    have hk0 : 0 < k2 := by omega
    clear hx0
    go_wp2
    go_ret
    exact ⟨rfl, H2.out⟩
  · have hxb : (x == 0) = false := by simpa using hx0
    have hkb : ((k2 : Int) == 0) = false := by simp; omega
    have hlen := P2.out.1
    go_wp2_with (at_builtin; refine wpList_app rfl (.const (.slice none 0 0)) (.tmp 32) rfl w2.heap.size _ [] rfl (World.ownsInts_nil _ _ _ _) _ _ _ X2 rfl P2.out (by simp; omega) (Nat.le_refl _) ?_)
    intro v3 w3 hown3 hg3 _
    have hb3 := below_app (World.ownsInts_nil w2 w2.heap.size 5 .u8) hg3 (Nat.le_refl _)
    obtain ⟨g3, c3, rfl, hg3w, _⟩ := owns_shape hown3 (by omega)
    obtain ⟨r, i, hr, hr1, hr2, hi, hik⟩ := place at' k2 (by omega)
    have hcr := range_of P2.out.2.2.2.2.2 i
    obtain ⟨y, hy, hy0, hy1, hyne⟩ := xor_u8 (X2[i]?.getD 0) x hcr hx
    obtain ⟨d0, d1, d3, d4⟩ := setAt (i := i) (y := y) hown3 (by omega) ⟨hy0, hy1⟩
    have hb4 := hb3.trans (grown_below d4 hg3w hb3.size)
    have H4 := hide (H2.out.trans (hb4.mono H2.out.size))
    have HS4 := hide (HS2.out.later hb4 (Nat.le_refl _))
    obtain ⟨a4, c4, e4, hbs4⟩ := owns_bs d3 (n := k2) (by simp [hlen])
    obtain ⟨rfl, rfl⟩ : a4 = some ⟨g3, 0, none⟩ ∧ c4 = c3 := by rw [hlen] at e4; simpa using e4.symm
    have HY := hide (hyne hx0)
    have HLK := hide HS4.out.1
    have HLR := hide HS4.out.2.2.2.2.2
    have HG := hide (frameGet_any _ _ _ _ _ hbs4)
    rw [hlen]
    clear hb3 hb4 hg3 hown3 hcr d3 d4 e4 hbs4 hlen hyne P2
    by_cases hi0 : 0 < i
    · obtain ⟨j, rfl⟩ : ∃ j, i = j + 1 := ⟨i - 1, by omega⟩
      have e1 : getF (X2.set (j + 1) y) = ([], 0, 7) := by
        have e2 := HXX.out
        have e3 := HY.out
        rw [e2] at e3 ⊢
        exact getF_turn L j y (by rw [HLK.out]; omega) HLR.out (by rw [← HD2.out]; omega) ⟨hy0, hy1⟩ e3
      rw [e1] at HG
      have hi0' : (0 : Int) < (j : Int) + 1 := by omega
      clear e1 hi0
      go_wp2_with fail
      have e0 : (w3.setCell ⟨g3, j + 1, none⟩ (.int .u8 y)).heap.size = w3.heap.size := by simp [World.setCell]
      generalize w3.setCell ⟨g3, j + 1, none⟩ (.int .u8 y) = W4 at *
      refine HG.out.mono ?_
      rintro e w5 ⟨a5, k5, c5, rfl, hbs5, hb5⟩
      obtain rfl : k5 = 0 := hbs5.1.symm
      have H5 := hide (H4.out.trans (hb5.mono H4.out.size))
      clear hbs5 hb5 HG
      go_wp2
      go_ret
      exact ⟨rfl, H5.out⟩
    · obtain rfl : i = 0 := by omega
      have e1 : (getF (X2.set 0 y)).2.2 ≠ 0 ∨ (getF (X2.set 0 y)).1 ≠ L := by
        have e2 := HXX.out
        have e3 := HY.out
        rw [e2] at e3 ⊢
        refine getF_first L y (by rw [HLK.out]; omega) HLR.out ⟨hy0, hy1⟩ ?_
        rw [frameB_short L (by rw [HLK.out]; omega)] at e3
        simpa using e3
      have HE1 := hide e1
      clear e1 hi0
      go_wp2_with fail
      have e0 : (w3.setCell ⟨g3, 0, none⟩ (.int .u8 y)).heap.size = w3.heap.size := by simp [World.setCell]
      generalize w3.setCell ⟨g3, 0, none⟩ (.int .u8 y) = W4 at *
      generalize getF (X2.set 0 y) = G at *
      obtain ⟨G1, G2, G3⟩ := G
      refine HG.out.mono ?_
      rintro e w5 ⟨a5, k5, c5, rfl, hbs5, hb5⟩
      have H5 := hide (H4.out.trans (hb5.mono H4.out.size))
      have HS5 := HS4.out.later hb5 (Nat.le_refl _)
      by_cases hG3 : G3 = 0
      · have hne : G1 ≠ L := by
          rcases HE1.out with h | h
          · exact absurd hG3 h
          · exact h
        have hgb : (G3 != 0) = false := by simpa using hG3
        have SM := hide (same_any _ _ _ _ _ _ _ _ _ hbs5 HS5 false (by simpa using hne))
        clear hbs5 hb5 HG hG3 hne HS5
        go_wp2_with fail
        refine SM.out.mono ?_
        rintro e w6 ⟨rfl, rfl⟩
        go_wp2
        go_ret
        exact ⟨rfl, H5.out⟩
      · have hgb : (G3 != 0) = true := by simpa using hG3
        clear hbs5 hb5 HG hG3 HS5
        go_wp2
        go_ret
        exact ⟨rfl, H5.out⟩

theorem own : ownKnob Try.prog.godebug = none := by kernel_rfl
theorem laidOut : laidOutB Try.prog = true := by kernel_rfl

set_option maxRecDepth 100000 in
theorem lifted (os : Os) (started : os.Started) (H : Type) (enc : TypeId × Value → H) :
    ReturnsInHanded {} Try.checked os 11 .any (Rows.frameOneSpec.pre6 enc Try.prog Try.f11 Rows.frameOneRow.domain false) (Rows.frameOneSpec.post enc Try.prog Try.f11 false true false false) := by
  refine returnsInHanded_of_change (C := Try.checked) own started (by kernel_rfl) Try.func11
    (ChangeSpec.witness6 (enc := enc) (C := Try.checked) false ⟨#[], #[.slice none 0 0, .int .i64 0, .int .u8 0], []⟩ 8 (by kernel_rfl) (by kernel_rfl) (by kernel_rfl) (by kernel_rfl)) ?_
  intro W base args ds gs before hval0 hW hcnd _
  have hval : ∀ (j : Nat) t v, Try.f11.params[j]? = some t → args[j]? = some v → Value.okWide Try.prog W .any base t v := hval0
  have hW' := hW
  obtain ⟨p, q, hA0, hV, rfl, hfz, hnd⟩ := hW
  have hA : DataW.TrodAll enc Try.prog W 0 (fun _ => true) true Try.f11.params.toList args.toList ds p := hA0
  rw [Try.params11] at hA hval
  obtain ⟨v0, vs0, d0, ds0, p0, q0, hargs, rfl, rfl, h0, r0⟩ := trodAll_cons hA
  obtain ⟨v1, vs1, d1, ds1, p1, q1, rfl, rfl, rfl, h1, r1⟩ := trodAll_cons r0
  obtain ⟨v2, vs2, d2, ds2, p2, q2, rfl, rfl, rfl, h2, r2⟩ := trodAll_cons r1
  obtain ⟨rfl, rfl, rfl⟩ := trodAll_nil r2
  obtain rfl : args = #[v0, v1, v2] := by cases args; simp_all
  obtain ⟨rfl, rfl⟩ := trodVars_none hV
  obtain ⟨a0, n0, c0, rfl⟩ := okWide_slice Try.underlying23 (hval 0 23 v0 rfl rfl)
  have k0 := h0
  have lt0 : ∀ x ∈ p0, x.block < W.heap.size := by obtain ⟨m, hm⟩ := k0; exact DataW.trod_lt m _ _ _ hm
  obtain ⟨z0, w0⟩ : ∃ zs, Row .u8 W a0 n0 c0 zs := by
    obtain ⟨fuel, hf⟩ := h0
    rcases open_ints Try.underlying23 Try.underlying5 (by kernel_rfl) hf with ⟨hcs, _⟩ | ⟨x, l, c, zs, hcs, _, hl, hm, hz, _, hcell, hwz⟩
    · simp [Value.cells] at hcs; obtain ⟨rfl, rfl, rfl⟩ := hcs; exact ⟨[], row_none _ _⟩
    · simp [Value.cells] at hcs; obtain ⟨rfl, rfl, rfl⟩ := hcs; exact ⟨_, row_some hl hm (by simpa using hz) hcell hwz⟩
  obtain ⟨a1, rfl, rfl, rfl, w1⟩ := open_int Try.underlying3 (hval 1 3 v1 rfl rfl) h1
  obtain ⟨a2, rfl, rfl, rfl, w2⟩ := open_int Try.underlying5 (hval 2 5 v2 rfl rfl) h2
  clear hA0 hval0
  refine (walk a0 n0 c0 z0 a1 a2 W w0 w1 w2).mono fun e W' ⟨he, bel⟩ => ?_
  subst he
  exact ⟨_, rfl, _, _, _, [], _, [], hW', trodAll_mk1 (shut_bool Try.underlying4 _), (trodAll_cons_mk (Below.trod laidOut (by kernel_rfl) (of_decide_eq_true (by kernel_rfl)) k0 bel lt0) (trodAll_cons_mk (shut_int Try.underlying3 w1) (trodAll_cons_mk (shut_int Try.underlying5 w2) trodAll_mk0))), rfl, bel.frame _, fun h => by cases h⟩

theorem over : Rows.frameOneRow.holds Try.pinned (OpenSpec.ofChange Rows.frameOneSpec) :=
  OpenClaim.holds_of_wide 11 Try.f11 rfl rfl rfl rfl rfl rfl rfl ⟨rfl, rfl, rfl, rfl, rfl⟩ rfl rfl rfl rfl rfl (by kernel_rfl) Try.func11 (by kernel_rfl)
    (of_decide_eq_true (by kernel_rfl)) (by unfold Func.isWrapper; first | (rw [if_pos (by decide +kernel)]; kernel_rfl) | (rw [if_neg (by decide +kernel)]; exact ⟨rfl, rfl⟩))
    (fun os started H enc _ => lifted os started H enc)

theorem proved : Rows.FrameOneSaid := over
#print axioms proved
end Go.Proofs.Ytjkfobgeklnblaa.frameOne
