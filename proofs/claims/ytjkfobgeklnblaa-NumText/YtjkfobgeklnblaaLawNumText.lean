/- The statement NumText: a text with its length written and read back, too long for the bound, torn wherever it ends, for every text, bound, cut and all bytes ahead of it. -/
import Derived.Test.YtjkfobgeklnblaaLawE
import Derived.Test.YtjkfobgeklnblaaBegun
namespace Go.Proofs.Ytjkfobgeklnblaa.numText
open Go.ChangeShapes Go.WideShapes Go.ChangeAt Go.RowKit

set_option maxRecDepth 100000 in
set_option maxHeartbeats 4000000 in
theorem walk (s : ByteArray) (most cut : Int) (a : Option Addr) (n c : Nat) (z : List Int) (w : World) (w0 : s.size ≤ maxLen) (w1 : (Lit.int .i64 most).wf = true) (w2 : (Lit.int .i64 cut).wf = true) (h : Row .u8 w a n c z) :
    Calls Try.prog 4 #[.string s, .int .i64 most, .int .i64 cut, .slice a n c] w fun e w' => e = .returned (.bool true) ∧ Below w.heap.size w w' := by
  have hm := wf_i64 w1
  have hc := wf_i64 w2
  have HB := hide h.bs
  unfold maxLen at w0
  clear w1 w2 h
  go_enter Try.func4, Try.ntmps4
  go_wp2_with fail
  refine (begun_true _).mono ?_
  rintro e w1 ⟨rfl, hb1⟩
  have H1 := hide hb1
  have HB1 := hide (HB.out.later hb1 (Nat.le_refl _))
  clear hb1 HB
  go_wp2_with fail
  refine (text_any s 200 _ _ w0 (by omega) (by rfl)).mono ?_
  rintro e w1' ⟨t, rfl, rfl, ht, Ht⟩
  go_wp2_with fail
  refine (short_any _ _ _ 10 _ _ _ HB1.out (by omega) (by rfl)).mono ?_
  rintro e w1' ⟨k, L, rfl, rfl, hkn, hk4, HL, hbs⟩
  have T1 := hide hbs
  clear HB1 hbs HL Ht
  go_wp2_with fail
  refine (numText_bs a k c t L _ T1.out (by omega) (by omega)).mono ?_
  rintro e w3 ⟨g2, d2, k2, c2, X2, rfl, HX2, HD2, hk2, hk2', hd2, hd2', hc2, hc2', hbs2, hb2⟩
  have H3 := hide (H1.out.trans (hb2.mono H1.out.size))
  have T3 := hide (T1.out.later hb2 (Nat.le_refl _))
  have P3 := hide hbs2
  have hl := T3.out.1
  clear H1 T1 hb2 hbs2
  go_wp2_with (at_builtin; refine wpList_app rfl (.const (.slice none 0 0)) (.tmp 25) rfl w3.heap.size _ [] rfl (World.ownsInts_nil _ _ _ _) a _ c L rfl T3.out (by simp; omega) (Nat.le_refl _) ?_)
  intro v4 w4 ho4 hg4 _
  have C4 := hide (below_app (World.ownsInts_nil w3 w3.heap.size 5 .u8) hg4 (Nat.le_refl _))
  have O4 := hide ho4
  clear hg4 ho4
  go_wp2_with fail
  refine (refText_bs t _ (by omega)).mono ?_
  rintro e w5 ⟨a5, k5, c5, X5, rfl, HX5, hk5, hbs5, hb5⟩
  have C5 := hide (C4.out.trans (hb5.mono C4.out.size))
  have O5 := hide (owns_later O4.out hb5)
  have B5 := hide hbs5
  have hs5 := C5.out.size
  clear O4 hb5 hbs5 C4
  go_wp2_with (at_builtin; refine wpList_app rfl (.tmp 26) (.tmp 28) rfl w3.heap.size _ L rfl O5.out a5 k5 c5 X5 rfl B5.out (by omega) hs5 ?_)
  intro v6 w6 ho6 hg6 _
  have C6 := hide (C5.out.trans (below_app O5.out hg6 hs5))
  obtain ⟨a6, c6, rfl, hbs6⟩ := owns_bs ho6 (n := k + k5) (by rw [List.length_append, hl, B5.out.1])
  have S6 := hide (same_any _ _ _ _ _ _ _ _ _ (P3.out.later C6.out (Nat.le_refl _)) hbs6 true (by simp [HX2.out, HX5.out]))
  have H6 := hide (H3.out.trans (C6.out.mono H3.out.size))
  have P6 := hide (P3.out.later C6.out (Nat.le_refl _))
  clear C5 C6 O5 B5 hg6 ho6 hbs6 hs5 T3 P3 H3
  go_wp2_with fail
  refine S6.out.mono ?_
  rintro e w6' ⟨rfl, rfl⟩
  clear S6
  obtain ⟨m2, hm2⟩ : ∃ m2, k2 - k = m2 := ⟨_, rfl⟩
  have hm2a : m2 ≤ d2 + t.size := by omega
  have hm2b : d2 + t.size ≤ m2 := by omega
  have s1 := fun W => run_from g2 0 k2 c2 k m2 (k : Int) rfl (by omega) (by omega) hm2 W
  have D2 := hide (P6.out.drop k m2 (by omega) hm2)
  have e2 : X2.drop k = M.numB 9 t.size ++ sB t := by rw [HX2.out, ← hl]; simp
  rw [e2, Nat.zero_add] at D2
  clear e2 hm2 P6
  have G1 := getText_any _ _ _ most _ _ D2.out hm.1 hm.2
  rw [getT_put t most (by omega), ← HD2.out] at G1
  by_cases hlt : most < (t.size : Int)
  · rw [if_pos hlt] at G1
    have HG1 := hide G1
    clear G1
    go_wp2_with fail
    refine HG1.out.mono ?_
    rintro e w7 ⟨rfl, rfl⟩
    go_wp2
    go_ret
    exact ⟨rfl, H6.out⟩
  · rw [if_neg hlt] at G1
    have HG1 := hide G1
    obtain ⟨r, i, hr, hr1, hr2, hi, hik⟩ := place cut m2 (by omega)
    have hle : (t.size : Int) ≤ most := by omega
    have G2 := getText_any _ _ _ most _ _ (D2.out.take i (by omega)) hm.1 hm.2
    rw [getT_torn t most i (by omega) hle (by rw [← HD2.out]; omega)] at G2
    have HG2 := hide G2
    have s2 := fun W => run_uptoA (some ⟨g2, k, none⟩) m2 (c2 - k) i (i : Int) rfl (by omega) W
    have q1 : (((d2 + t.size : Nat) : Int) != (m2 : Int)) = false := by
      have : d2 + t.size = m2 := by omega
      rw [this]; simp
    rw [Int.natCast_add] at q1
    clear G1 G2
    go_wp2_with fail
    refine HG1.out.mono ?_
    rintro e w7 ⟨rfl, rfl⟩
    go_wp2_with fail
    refine HG2.out.mono ?_
    rintro e w8 ⟨rfl, rfl⟩
    go_wp2
    go_ret
    exact ⟨rfl, H6.out⟩

theorem own : ownKnob Try.prog.godebug = none := by kernel_rfl
theorem laidOut : laidOutB Try.prog = true := by kernel_rfl

set_option maxRecDepth 100000 in
theorem lifted (os : Os) (started : os.Started) (H : Type) (enc : TypeId × Value → H) :
    ReturnsInHanded {} Try.checked os 4 .any (Rows.numTextSpec.pre6 enc Try.prog Try.f4 Rows.numTextRow.domain false) (Rows.numTextSpec.post enc Try.prog Try.f4 false true false false) := by
  refine returnsInHanded_of_change (C := Try.checked) own started (by kernel_rfl) Try.func4
    (ChangeSpec.witness6 (enc := enc) (C := Try.checked) false ⟨#[], #[.string ByteArray.empty, .int .i64 0, .int .i64 0, .slice none 0 0], []⟩ 8 (by kernel_rfl) (by kernel_rfl) (by kernel_rfl) (by kernel_rfl)) ?_
  intro W base args ds gs before hval0 hW hcnd _
  have hval : ∀ (j : Nat) t v, Try.f4.params[j]? = some t → args[j]? = some v → Value.okWide Try.prog W .any base t v := hval0
  have hW' := hW
  obtain ⟨p, q, hA0, hV, rfl, hfz, hnd⟩ := hW
  have hA : DataW.TrodAll enc Try.prog W 0 (fun _ => true) true Try.f4.params.toList args.toList ds p := hA0
  rw [Try.params4] at hA hval
  obtain ⟨v0, vs0, d0, ds0, p0, q0, hargs, rfl, rfl, h0, r0⟩ := trodAll_cons hA
  obtain ⟨v1, vs1, d1, ds1, p1, q1, rfl, rfl, rfl, h1, r1⟩ := trodAll_cons r0
  obtain ⟨v2, vs2, d2, ds2, p2, q2, rfl, rfl, rfl, h2, r2⟩ := trodAll_cons r1
  obtain ⟨v3, vs3, d3, ds3, p3, q3, rfl, rfl, rfl, h3, r3⟩ := trodAll_cons r2
  obtain ⟨rfl, rfl, rfl⟩ := trodAll_nil r3
  obtain rfl : args = #[v0, v1, v2, v3] := by cases args; simp_all
  obtain ⟨rfl, rfl⟩ := trodVars_none hV
  obtain ⟨a0, rfl, rfl, rfl, w0⟩ := Go.ChangeMaps.open_string Try.underlying9 (hval 0 9 v0 rfl rfl) h0
  obtain ⟨a1, rfl, rfl, rfl, w1⟩ := open_int Try.underlying3 (hval 1 3 v1 rfl rfl) h1
  obtain ⟨a2, rfl, rfl, rfl, w2⟩ := open_int Try.underlying3 (hval 2 3 v2 rfl rfl) h2
  obtain ⟨a3, n3, c3, rfl⟩ := okWide_slice Try.underlying23 (hval 3 23 v3 rfl rfl)
  have k3 := h3
  have lt3 : ∀ x ∈ p3, x.block < W.heap.size := by obtain ⟨m, hm⟩ := k3; exact DataW.trod_lt m _ _ _ hm
  obtain ⟨z3, w3⟩ : ∃ zs, Row .u8 W a3 n3 c3 zs := by
    obtain ⟨fuel, hf⟩ := h3
    rcases open_ints Try.underlying23 Try.underlying5 (by kernel_rfl) hf with ⟨hcs, _⟩ | ⟨x, l, c, zs, hcs, _, hl, hm, hz, _, hcell, hwz⟩
    · simp [Value.cells] at hcs; obtain ⟨rfl, rfl, rfl⟩ := hcs; exact ⟨[], row_none _ _⟩
    · simp [Value.cells] at hcs; obtain ⟨rfl, rfl, rfl⟩ := hcs; exact ⟨_, row_some hl hm (by simpa using hz) hcell hwz⟩
  clear hA0 hval0
  refine (walk a0 a1 a2 a3 n3 c3 z3 W w0 w1 w2 w3).mono fun e W' ⟨he, bel⟩ => ?_
  subst he
  exact ⟨_, rfl, _, _, _, [], _, [], hW', trodAll_mk1 (shut_bool Try.underlying4 _), (trodAll_cons_mk (Go.ChangeMaps.shut_string Try.underlying9 w0) (trodAll_cons_mk (shut_int Try.underlying3 w1) (trodAll_cons_mk (shut_int Try.underlying3 w2) (trodAll_cons_mk (Below.trod laidOut (by kernel_rfl) (of_decide_eq_true (by kernel_rfl)) k3 bel lt3) trodAll_mk0)))), rfl, bel.frame _, fun h => by cases h⟩

theorem over : Rows.numTextRow.holds Try.pinned (OpenSpec.ofChange Rows.numTextSpec) :=
  OpenClaim.holds_of_wide 4 Try.f4 rfl rfl rfl rfl rfl rfl rfl ⟨rfl, rfl, rfl, rfl, rfl⟩ rfl rfl rfl rfl rfl (by kernel_rfl) Try.func4 (by kernel_rfl)
    (of_decide_eq_true (by kernel_rfl)) (by unfold Func.isWrapper; first | (rw [if_pos (by decide +kernel)]; kernel_rfl) | (rw [if_neg (by decide +kernel)]; exact ⟨rfl, rfl⟩))
    (fun os started H enc _ => lifted os started H enc)

theorem proved : Rows.NumTextSaid := over
#print axioms proved
end Go.Proofs.Ytjkfobgeklnblaa.numText
