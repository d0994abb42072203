/- The statement SumOne: one byte that is another one turns the sum, for every slice of bytes, every place and every byte. -/
import Derived.Test.YtjkfobgeklnblaaLawC
import Derived.Test.YtjkfobgeklnblaaBegun
namespace Go.Proofs.Ytjkfobgeklnblaa.sumOne
open Go.ChangeShapes Go.WideShapes Go.ChangeAt Go.RowKit

set_option maxRecDepth 100000 in
set_option maxHeartbeats 2000000 in
theorem walk (a : Option Addr) (n c : Nat) (z : List Int) (at' x : Int) (w : World) (h : Row .u8 w a n c z) (w1 : (Lit.int .i64 at').wf = true) (w2 : (Lit.int .u8 x).wf = true) :
    Calls Try.prog 6 #[.slice a n c, .int .i64 at', .int .u8 x] w fun e w' => e = .returned (.bool true) ∧ Below w.heap.size w w' := by
  have hat := wf_i64 w1
  have hx := of_wf_u8 w2
  have HB := hide h.bs
  clear w1 w2 h
  go_enter Try.func6, Try.ntmps6
  go_wp2_with fail
  refine (begun_true _).mono ?_
  rintro e w1 ⟨rfl, hb1⟩
  have H1 := hide hb1
  have HB1 := hide (HB.out.later hb1 (Nat.le_refl _))
  clear hb1 HB
  go_wp2_with fail
  refine (short_any _ _ _ 400 _ _ _ HB1.out (by omega) (by rfl)).mono ?_
  rintro e w1' ⟨k, L, rfl, rfl, hkn, hk4, HL, hbs⟩
  have HS := hide hbs
  clear HB1 hbs
  by_cases hk : k = 0
  · subst hk
    go_wp2
    go_ret
    exact ⟨rfl, H1.out⟩
  · by_cases hx0 : x = 0
    · have hxb : (x == 0) = true := by simpa using hx0
      have hkb : ((k : Int) == 0) = false := by simpa using hk
      clear hx0
      go_wp2
      go_ret
      exact ⟨rfl, H1.out⟩
    · have hxb : (x == 0) = false := by simpa using hx0
      have hkb : ((k : Int) == 0) = false := by simpa using hk
      have hlen := HS.out.1
      go_wp2_with (at_builtin; refine wpList_app rfl (.const (.slice none 0 0)) (.tmp 21) rfl w1'.heap.size _ [] rfl (World.ownsInts_nil _ _ _ _) a _ c L rfl HS.out (by simp; omega) (Nat.le_refl _) ?_)
      intro v2 w2 hown2 hg2 _
      have hb2 := below_app (World.ownsInts_nil w1' w1'.heap.size 5 .u8) hg2 (Nat.le_refl _)
      obtain ⟨g2, c2, rfl, hg2w, _⟩ := owns_shape hown2 (by omega)
      obtain ⟨r, i, hr, hr1, hr2, hi, hik⟩ := place at' k (by omega)
      have hcr := range_of HS.out.2.2.2.2.2 i
      obtain ⟨y, hy, hy0, hy1, hyne⟩ := xor_u8 (L[i]?.getD 0) x hcr hx
      obtain ⟨d0, d1, d2, d3⟩ := setAt (i := i) (y := y) hown2 (by omega) ⟨hy0, hy1⟩
      have hne : sumOf L ≠ sumOf (L.set i y) := by
        rw [set_at L i y (by omega)]
        conv => lhs; rw [split_at L i (by omega)]
        exact sum_turn _ _ _ _ (by simpa using hcr) ⟨hy0, hy1⟩ (fun e => hyne hx0 (by rw [← e]; simp))
      have hb3 := hb2.trans (grown_below d3 hg2w hb2.size)
      have H3 := hide hb3
      have HL3 := hide (HS.out.later hb3 (Nat.le_refl _))
      obtain ⟨a4, c4, e4, hbs4⟩ := Bs.of_owns d2
      have e5 : (L.set i y).length = k := by simp [hlen]
      rw [e5] at e4 hbs4
      obtain ⟨rfl, rfl⟩ : a4 = some ⟨g2, 0, none⟩ ∧ c4 = c2 := by rw [hlen] at e4; simpa using e4.symm
      have HC3 := hide hbs4
      have HNE := hide hne
      rw [hlen]
      clear hb2 hb3 hg2 hown2 hne hcr d2 d3 e4 hbs4 e5 hlen hyne hy0 hy1
      go_wp2_with fail
      have e0 : (w2.setCell ⟨g2, i, none⟩ (.int .u8 y)).heap.size = w2.heap.size := by simp [World.setCell]
      generalize w2.setCell ⟨g2, i, none⟩ (.int .u8 y) = W3 at *
      rw [← e0]
      refine (of_one 1 (Ps.one HL3.out)).mono ?_
      rintro e w5 ⟨S5, rfl, HS5, _, hb5⟩
      have hb35 : Below W3.heap.size W3 w5 := (below_alloc W3 _ _ (Nat.le_refl _)).trans (hb5.mono (by simp))
      have H5 := hide hb35
      have HC5 := hide (HC3.out.later hb35 (Nat.le_refl _))
      clear hb5 hb35 HL3 HC3
      go_wp2_with fail
      refine (of_one 1 (Ps.one HC5.out)).mono ?_
      rintro e w6 ⟨S6, rfl, HS6, _, hb6⟩
      have hb56 : Below w5.heap.size w5 w6 := (below_alloc w5 _ _ (Nat.le_refl _)).trans (hb6.mono (by simp))
      have hb36 := H5.out.trans (hb56.mono H5.out.size)
      have hb16 := H3.out.trans (hb36.mono H3.out.size)
      have H6 := hide (H1.out.trans (hb16.mono H1.out.size))
      have hS : ((S5 : Int) != (S6 : Int)) = true := by
        have := HNE.out
        rw [← HS5.out, ← HS6.out] at this
        simp; omega
      clear hb6 hb56 hb36 hb16
      go_wp2
      go_ret
      exact ⟨rfl, H6.out⟩

theorem own : ownKnob Try.prog.godebug = none := by kernel_rfl
theorem laidOut : laidOutB Try.prog = true := by kernel_rfl

set_option maxRecDepth 100000 in
theorem lifted (os : Os) (started : os.Started) (H : Type) (enc : TypeId × Value → H) :
    ReturnsInHanded {} Try.checked os 6 .any (Rows.sumOneSpec.pre6 enc Try.prog Try.f6 Rows.sumOneRow.domain false) (Rows.sumOneSpec.post enc Try.prog Try.f6 false true false false) := by
  refine returnsInHanded_of_change (C := Try.checked) own started (by kernel_rfl) Try.func6
    (ChangeSpec.witness6 (enc := enc) (C := Try.checked) false ⟨#[], #[.slice none 0 0, .int .i64 0, .int .u8 0], []⟩ 8 (by kernel_rfl) (by kernel_rfl) (by kernel_rfl) (by kernel_rfl)) ?_
  intro W base args ds gs before hval0 hW hcnd _
  have hval : ∀ (j : Nat) t v, Try.f6.params[j]? = some t → args[j]? = some v → Value.okWide Try.prog W .any base t v := hval0
  have hW' := hW
  obtain ⟨p, q, hA0, hV, rfl, hfz, hnd⟩ := hW
  have hA : DataW.TrodAll enc Try.prog W 0 (fun _ => true) true Try.f6.params.toList args.toList ds p := hA0
  rw [Try.params6] at hA hval
  obtain ⟨v0, vs0, d0, ds0, p0, q0, hargs, rfl, rfl, h0, r0⟩ := trodAll_cons hA
  obtain ⟨v1, vs1, d1, ds1, p1, q1, rfl, rfl, rfl, h1, r1⟩ := trodAll_cons r0
  obtain ⟨v2, vs2, d2, ds2, p2, q2, rfl, rfl, rfl, h2, r2⟩ := trodAll_cons r1
  obtain ⟨rfl, rfl, rfl⟩ := trodAll_nil r2
  obtain rfl : args = #[v0, v1, v2] := by cases args; simp_all
  obtain ⟨rfl, rfl⟩ := trodVars_none hV
  obtain ⟨a0, n0, c0, rfl⟩ := okWide_slice Try.underlying23 (hval 0 23 v0 rfl rfl)
  have k0 := h0
  have lt0 : ∀ x ∈ p0, x.block < W.heap.size := by obtain ⟨m, hm⟩ := k0; exact DataW.trod_lt m _ _ _ hm
  obtain ⟨z0, w0⟩ : ∃ zs, Row .u8 W a0 n0 c0 zs := by
    obtain ⟨fuel, hf⟩ := h0
    rcases open_ints Try.underlying23 Try.underlying5 (by kernel_rfl) hf with ⟨hcs, _⟩ | ⟨x, l, c, zs, hcs, _, hl, hm, hz, _, hcell, hwz⟩
    · simp [Value.cells] at hcs; obtain ⟨rfl, rfl, rfl⟩ := hcs; exact ⟨[], row_none _ _⟩
    · simp [Value.cells] at hcs; obtain ⟨rfl, rfl, rfl⟩ := hcs; exact ⟨_, row_some hl hm (by simpa using hz) hcell hwz⟩
  obtain ⟨a1, rfl, rfl, rfl, w1⟩ := open_int Try.underlying3 (hval 1 3 v1 rfl rfl) h1
  obtain ⟨a2, rfl, rfl, rfl, w2⟩ := open_int Try.underlying5 (hval 2 5 v2 rfl rfl) h2
  clear hA0 hval0
  refine (walk a0 n0 c0 z0 a1 a2 W w0 w1 w2).mono fun e W' ⟨he, bel⟩ => ?_
  subst he
  exact ⟨_, rfl, _, _, _, [], _, [], hW', trodAll_mk1 (shut_bool Try.underlying4 _), (trodAll_cons_mk (Below.trod laidOut (by kernel_rfl) (of_decide_eq_true (by kernel_rfl)) k0 bel lt0) (trodAll_cons_mk (shut_int Try.underlying3 w1) (trodAll_cons_mk (shut_int Try.underlying5 w2) trodAll_mk0))), rfl, bel.frame _, fun h => by cases h⟩

theorem over : Rows.sumOneRow.holds Try.pinned (OpenSpec.ofChange Rows.sumOneSpec) :=
  OpenClaim.holds_of_wide 6 Try.f6 rfl rfl rfl rfl rfl rfl rfl ⟨rfl, rfl, rfl, rfl, rfl⟩ rfl rfl rfl rfl rfl (by kernel_rfl) Try.func6 (by kernel_rfl)
    (of_decide_eq_true (by kernel_rfl)) (by unfold Func.isWrapper; first | (rw [if_pos (by decide +kernel)]; kernel_rfl) | (rw [if_neg (by decide +kernel)]; exact ⟨rfl, rfl⟩))
    (fun os started H enc _ => lifted os started H enc)

theorem proved : Rows.SumOneSaid := over
#print axioms proved
end Go.Proofs.Ytjkfobgeklnblaa.sumOne
