/- The statement NumAll: any number written and read back, any bytes read as the document reads them, for every number and all bytes. -/
import Derived.Test.YtjkfobgeklnblaaLawD
import Derived.Test.YtjkfobgeklnblaaBegun
namespace Go.Proofs.Ytjkfobgeklnblaa.numAll
open Go.ChangeShapes Go.WideShapes Go.ChangeAt Go.RowKit

def Two (W : World) (a a' : Option Addr) (k c k' c' : Nat) (L L' : List Int) : Prop := Bs W a k c L ∧ Bs W a' k' c' L'
theorem Two.later {W W' : World} {a a' : Option Addr} {k c k' c' : Nat} {L L' : List Int} (h : Two W a a' k c k' c' L L') (hb : Below W.heap.size W W') : Two W' a a' k c k' c' L L' :=
  ⟨h.1.later hb (Nat.le_refl _), h.2.later hb (Nat.le_refl _)⟩

set_option maxRecDepth 100000 in
set_option maxHeartbeats 4000000 in
theorem walk (n0 x : Int) (a : Option Addr) (n c : Nat) (z : List Int) (a' : Option Addr) (n' c' : Nat) (z' : List Int) (w : World) (w0 : (Lit.int .u64 n0).wf = true) (w1 : (Lit.int .i64 x).wf = true) (h : Row .u8 w a n c z) (h' : Row .u8 w a' n' c' z') :
    Calls Try.prog 3 #[.int .u64 n0, .int .i64 x, .slice a n c, .slice a' n' c'] w fun e w' => e = .returned (.bool true) ∧ Below w.heap.size w w' := by
  have hx := wf_i64 w1
  have hn := wf_u64 w0
  obtain ⟨m, rfl⟩ := Int.eq_ofNat_of_zero_le hn.1
  have hm : m < 18446744073709551616 := by omega
  have HB := hide h.bs
  have HB' := hide h'.bs
  clear w1 w0 h h' hn
  go_enter Try.func3, Try.ntmps3
  go_wp2_with fail
  refine (begun_true _).mono ?_
  rintro e w1 ⟨rfl, hb1⟩
  have H1 := hide hb1
  have HB1 := hide (HB.out.later hb1 (Nat.le_refl _))
  have HB1' := hide (HB'.out.later hb1 (Nat.le_refl _))
  clear hb1 HB HB'
  go_wp2_with fail
  refine (short_any _ _ _ 20 _ _ _ HB1.out (by omega) (by rfl)).mono ?_
  rintro e w1' ⟨k, L, rfl, rfl, hkn, hk4, HL, hbs⟩
  go_wp2_with fail
  refine (short_any _ _ _ 20 _ _ _ HB1'.out (by omega) (by rfl)).mono ?_
  rintro e w1'' ⟨k', L', rfl, rfl, hkn', hk4', HL', hbs'⟩
  have T1 := hide (show Two w1'' a a' k c k' c' L L' from ⟨hbs, hbs'⟩)
  clear HB1 HB1' hbs hbs' HL HL'
  go_wp2_with fail
  refine (put_bs a k c m L _ T1.out.1 (by omega) hm).mono ?_
  rintro e w2 ⟨g2, d2, k2, c2, X2, rfl, HX2, HD2, hk2, hk2', hd2, hd2', hc2, hc2', hbs2, hb2⟩
  have H2 := hide (H1.out.trans (hb2.mono H1.out.size))
  have T2 := hide (T1.out.later hb2)
  have P2 := hide hbs2
  clear H1 T1 hb2 hbs2
  go_wp2_with fail
  refine (putInt_bs a k c x L _ T2.out.1 (by omega) hx.1 hx.2).mono ?_
  rintro e w3 ⟨g3, d3, k3, c3, X3, rfl, HX3, HD3, hk3, hk3', hd3, hd3', hc3, hc3', hbs3, hb3⟩
  have H3 := hide (H2.out.trans (hb3.mono H2.out.size))
  have T3 := hide (T2.out.later hb3)
  have P3 := hide (show Two w3 _ _ k2 c2 k3 c3 X2 X3 from ⟨P2.out.later hb3 (Nat.le_refl _), hbs3⟩)
  have hl := T3.out.1.1
  clear H2 T2 P2 hb3 hbs3
  -- p is as the document says
  go_wp2_with (at_builtin; refine wpList_app rfl (.const (.slice none 0 0)) (.tmp 38) rfl w3.heap.size _ [] rfl (World.ownsInts_nil _ _ _ _) a _ c L rfl T3.out.1 (by simp; omega) (Nat.le_refl _) ?_)
  intro v4 w4 ho4 hg4 _
  have C4 := hide (below_app (World.ownsInts_nil w3 w3.heap.size 5 .u8) hg4 (Nat.le_refl _))
  have O4 := hide ho4
  clear hg4 ho4
  go_wp2_with fail
  refine (refNum_bs m _ hm).mono ?_
  rintro e w5 ⟨a5, k5, c5, X5, rfl, HX5, hk5, hk5', hbs5, hb5⟩
  have C5 := hide (C4.out.trans (hb5.mono C4.out.size))
  have O5 := hide (owns_later O4.out hb5)
  have B5 := hide hbs5
  have hs5 := C5.out.size
  clear O4 hb5 hbs5 C4
  go_wp2_with (at_builtin; refine wpList_app rfl (.tmp 39) (.tmp 41) rfl w3.heap.size _ L rfl O5.out a5 k5 c5 X5 rfl B5.out (by omega) hs5 ?_)
  intro v6 w6 ho6 hg6 _
  have C6 := hide (C5.out.trans (below_app O5.out hg6 hs5))
  obtain ⟨a6, c6, rfl, hbs6⟩ := owns_bs ho6 (n := k + k5) (by rw [List.length_append, hl, B5.out.1])
  have S6 := hide (same_any _ _ _ _ _ _ _ _ _ (P3.out.later C6.out).1 hbs6 true (by simp [HX2.out, HX5.out]))
  have H6 := hide (H3.out.trans (C6.out.mono H3.out.size))
  have T6 := hide (T3.out.later C6.out)
  have P6 := hide (P3.out.later C6.out)
  clear C5 C6 O5 B5 hg6 ho6 hbs6 hs5 T3 P3 H3
  go_wp2_with fail
  refine S6.out.mono ?_
  rintro e w6' ⟨rfl, rfl⟩
  clear S6
  -- and q
  go_wp2_with (at_builtin; refine wpList_unguard (by rfl) ?_; refine wpList_app rfl (.const (.slice none 0 0)) (.tmp 47) rfl w6'.heap.size _ [] rfl (World.ownsInts_nil _ _ _ _) a _ c L rfl T6.out.1 (by simp; omega) (Nat.le_refl _) ?_)
  intro v7 w7 ho7 hg7 _
  have C7 := hide (below_app (World.ownsInts_nil w6' w6'.heap.size 5 .u8) hg7 (Nat.le_refl _))
  have O7 := hide ho7
  clear hg7 ho7
  go_wp2_with fail
  refine (refInt_bs x _ hx.1 hx.2).mono ?_
  rintro e w8 ⟨a8, k8, c8, X8, rfl, HX8, hk8, hk8', hbs8, hb8⟩
  have C8 := hide (C7.out.trans (hb8.mono C7.out.size))
  have O8 := hide (owns_later O7.out hb8)
  have B8 := hide hbs8
  have hs8 := C8.out.size
  clear O7 hb8 hbs8 C7
  go_wp2_with (at_builtin; refine wpList_unguard (by rfl) ?_; refine wpList_app rfl (.tmp 48) (.tmp 50) rfl w6'.heap.size _ L rfl O8.out a8 k8 c8 X8 rfl B8.out (by omega) hs8 ?_)
  intro v9 w9 ho9 hg9 _
  have C9 := hide (C8.out.trans (below_app O8.out hg9 hs8))
  obtain ⟨a9, c9, rfl, hbs9⟩ := owns_bs ho9 (n := k + k8) (by rw [List.length_append, hl, B8.out.1])
  have S9 := hide (same_any _ _ _ _ _ _ _ _ _ (P6.out.later C9.out).2 hbs9 true (by simp [HX3.out, HX8.out]))
  have H9 := hide (H6.out.trans (C9.out.mono H6.out.size))
  have T9 := hide (T6.out.later C9.out)
  have P9 := hide (P6.out.later C9.out)
  clear C8 C9 O8 B8 hg9 ho9 hbs9 hs8 T6 P6 H6
  go_wp2_with fail
  refine S9.out.mono ?_
  rintro e w9' ⟨rfl, rfl⟩
  clear S9
  -- read back
  have s1 := fun W => run_from g2 0 k2 c2 k d2 (k : Int) rfl (by omega) (by omega) (by omega) W
  have s2 := fun W => run_from g3 0 k3 c3 k d3 (k : Int) rfl (by omega) (by omega) (by omega) W
  have D2 := hide (P9.out.1.drop k d2 (by omega) (by omega))
  have D3 := hide (P9.out.2.drop k d3 (by omega) (by omega))
  have e2 : X2.drop k = M.numB 9 m := by rw [HX2.out, ← hl]; simp
  have e3 : X3.drop k = M.numB 9 (fold x) := by rw [HX3.out, ← hl]; simp
  rw [e2, Nat.zero_add] at D2
  rw [e3, Nat.zero_add] at D3
  clear e2 e3
  go_wp2_with (at_builtin; refine wpList_app rfl (.const (.slice none 0 0)) (.tmp 59) rfl w9'.heap.size _ [] rfl (World.ownsInts_nil _ _ _ _) _ _ _ (M.numB 9 m) rfl D2.out (by simp; omega) (Nat.le_refl _) ?_)
  intro vA wA hoA hgA _
  have CA := hide (below_app (World.ownsInts_nil w9' w9'.heap.size 5 .u8) hgA (Nat.le_refl _))
  have OA := hide hoA
  have TA := hide (T9.out.later CA.out)
  have hsA := CA.out.size
  clear hgA hoA
  go_wp2_with (at_builtin; refine wpList_app rfl (.tmp 60) (.tmp 61) rfl w9'.heap.size _ (M.numB 9 m) rfl OA.out a' k' c' L' rfl TA.out.2 (by have := HD2.out; omega) hsA ?_)
  intro vB wB hoB hgB _
  have CB := hide (CA.out.trans (below_app OA.out hgB hsA))
  obtain ⟨aB, cB, rfl, hbsB⟩ := owns_bs hoB (n := d2 + k') (by rw [List.length_append, ← HD2.out, TA.out.2.1])
  have G1 := get_any _ _ _ _ _ hbsB
  rw [M.getL_put m L' hm, ← HD2.out] at G1
  have HG1 := hide G1
  have HB := hide (H9.out.trans (CB.out.mono H9.out.size))
  have TB := hide (T9.out.later CB.out)
  have DB := hide (D3.out.later CB.out (Nat.le_refl _))
  clear CA CB OA TA hgB hoB hbsB hsA T9 P9 H9 D2 D3 G1
  go_wp2_with fail
  refine HG1.out.mono ?_
  rintro e wB' ⟨rfl, rfl⟩
  clear HG1
  go_wp2_with (at_builtin; refine wpList_app rfl (.const (.slice none 0 0)) (.tmp 71) rfl wB'.heap.size _ [] rfl (World.ownsInts_nil _ _ _ _) _ _ _ (M.numB 9 (fold x)) rfl DB.out (by simp; omega) (Nat.le_refl _) ?_)
  intro vC wC hoC hgC _
  have CC := hide (below_app (World.ownsInts_nil wB' wB'.heap.size 5 .u8) hgC (Nat.le_refl _))
  have OC := hide hoC
  have TC := hide (TB.out.later CC.out)
  have hsC := CC.out.size
  clear hgC hoC
  go_wp2_with (at_builtin; refine wpList_app rfl (.tmp 72) (.tmp 73) rfl wB'.heap.size _ (M.numB 9 (fold x)) rfl OC.out a' k' c' L' rfl TC.out.2 (by have := HD3.out; omega) hsC ?_)
  intro vD wD hoD hgD _
  have CD := hide (CC.out.trans (below_app OC.out hgD hsC))
  obtain ⟨aD, cD, rfl, hbsD⟩ := owns_bs hoD (n := d3 + k') (by rw [List.length_append, ← HD3.out, TC.out.2.1])
  have G2 := getInt_any _ _ _ _ _ hbsD
  rw [getI_put x L' hx.1 hx.2, ← HD3.out] at G2
  have HG2 := hide G2
  have HD := hide (HB.out.trans (CD.out.mono HB.out.size))
  have TD := hide (TB.out.later CD.out)
  clear CC CD OC TC hgD hoD hbsD hsC TB HB DB G2 s1 s2
  go_wp2_with fail
  refine HG2.out.mono ?_
  rintro e wD' ⟨rfl, rfl⟩
  clear HG2
  have q1 : ((d2 : Int) != (k2 : Int) - (k : Int)) = false := by
    have : (d2 : Int) = (k2 : Int) - (k : Int) := by omega
    rw [this]; simp
  have q2 : ((d3 : Int) != (k3 : Int) - (k : Int)) = false := by
    have : (d3 : Int) = (k3 : Int) - (k : Int) := by omega
    rw [this]; simp
  have G3 := get_any _ _ _ _ _ TD.out.2
  have G4 := refGet_any _ _ _ _ _ TD.out.2
  have G5 := getInt_any _ _ _ _ _ TD.out.2
  have G6 := refGetInt_any _ _ _ _ _ TD.out.2
  generalize M.getL 0 0 L' = G at *
  generalize getI L' = I at *
  have HG3 := hide G3
  have HG4 := hide G4
  have HG5 := hide G5
  have HG6 := hide G6
  clear G3 G4 G5 G6
  go_wp2_with fail
  refine HG3.out.mono ?_
  rintro e w1' ⟨rfl, rfl⟩
  go_wp2_with fail
  refine HG4.out.mono ?_
  rintro e w1' ⟨rfl, rfl⟩
  go_wp2_with fail
  refine HG5.out.mono ?_
  rintro e w1' ⟨rfl, rfl⟩
  go_wp2_with fail
  refine HG6.out.mono ?_
  rintro e w1' ⟨rfl, rfl⟩
  go_wp2
  go_ret
  exact ⟨rfl, HD.out⟩

theorem own : ownKnob Try.prog.godebug = none := by kernel_rfl
theorem laidOut : laidOutB Try.prog = true := by kernel_rfl

set_option maxRecDepth 100000 in
theorem lifted (os : Os) (started : os.Started) (H : Type) (enc : TypeId × Value → H) :
    ReturnsInHanded {} Try.checked os 3 .any (Rows.numAllSpec.pre6 enc Try.prog Try.f3 Rows.numAllRow.domain false) (Rows.numAllSpec.post enc Try.prog Try.f3 false true false false) := by
  refine returnsInHanded_of_change (C := Try.checked) own started (by kernel_rfl) Try.func3
    (ChangeSpec.witness6 (enc := enc) (C := Try.checked) false ⟨#[], #[.int .u64 0, .int .i64 0, .slice none 0 0, .slice none 0 0], []⟩ 8 (by kernel_rfl) (by kernel_rfl) (by kernel_rfl) (by kernel_rfl)) ?_
  intro W base args ds gs before hval0 hW hcnd _
  have hval : ∀ (j : Nat) t v, Try.f3.params[j]? = some t → args[j]? = some v → Value.okWide Try.prog W .any base t v := hval0
  have hW' := hW
  obtain ⟨p, q, hA0, hV, rfl, hfz, hnd⟩ := hW
  have hA : DataW.TrodAll enc Try.prog W 0 (fun _ => true) true Try.f3.params.toList args.toList ds p := hA0
  rw [Try.params3] at hA hval
  obtain ⟨v0, vs0, d0, ds0, p0, q0, hargs, rfl, rfl, h0, r0⟩ := trodAll_cons hA
  obtain ⟨v1, vs1, d1, ds1, p1, q1, rfl, rfl, rfl, h1, r1⟩ := trodAll_cons r0
  obtain ⟨v2, vs2, d2, ds2, p2, q2, rfl, rfl, rfl, h2, r2⟩ := trodAll_cons r1
  obtain ⟨v3, vs3, d3, ds3, p3, q3, rfl, rfl, rfl, h3, r3⟩ := trodAll_cons r2
  obtain ⟨rfl, rfl, rfl⟩ := trodAll_nil r3
  obtain rfl : args = #[v0, v1, v2, v3] := by cases args; simp_all
  obtain ⟨rfl, rfl⟩ := trodVars_none hV
  obtain ⟨a0, rfl, rfl, rfl, w0⟩ := open_int Try.underlying22 (hval 0 22 v0 rfl rfl) h0
  obtain ⟨a1, rfl, rfl, rfl, w1⟩ := open_int Try.underlying2 (hval 1 2 v1 rfl rfl) h1
  obtain ⟨a2, n2, c2, rfl⟩ := okWide_slice Try.underlying23 (hval 2 23 v2 rfl rfl)
  have k2 := h2
  have lt2 : ∀ x ∈ p2, x.block < W.heap.size := by obtain ⟨m, hm⟩ := k2; exact DataW.trod_lt m _ _ _ hm
  obtain ⟨z2, w2⟩ : ∃ zs, Row .u8 W a2 n2 c2 zs := by
    obtain ⟨fuel, hf⟩ := h2
    rcases open_ints Try.underlying23 Try.underlying5 (by kernel_rfl) hf with ⟨hcs, _⟩ | ⟨x, l, c, zs, hcs, _, hl, hm, hz, _, hcell, hwz⟩
    · simp [Value.cells] at hcs; obtain ⟨rfl, rfl, rfl⟩ := hcs; exact ⟨[], row_none _ _⟩
    · simp [Value.cells] at hcs; obtain ⟨rfl, rfl, rfl⟩ := hcs; exact ⟨_, row_some hl hm (by simpa using hz) hcell hwz⟩
  obtain ⟨a3, n3, c3, rfl⟩ := okWide_slice Try.underlying23 (hval 3 23 v3 rfl rfl)
  have k3 := h3
  have lt3 : ∀ x ∈ p3, x.block < W.heap.size := by obtain ⟨m, hm⟩ := k3; exact DataW.trod_lt m _ _ _ hm
  obtain ⟨z3, w3⟩ : ∃ zs, Row .u8 W a3 n3 c3 zs := by
    obtain ⟨fuel, hf⟩ := h3
    rcases open_ints Try.underlying23 Try.underlying5 (by kernel_rfl) hf with ⟨hcs, _⟩ | ⟨x, l, c, zs, hcs, _, hl, hm, hz, _, hcell, hwz⟩
    · simp [Value.cells] at hcs; obtain ⟨rfl, rfl, rfl⟩ := hcs; exact ⟨[], row_none _ _⟩
    · simp [Value.cells] at hcs; obtain ⟨rfl, rfl, rfl⟩ := hcs; exact ⟨_, row_some hl hm (by simpa using hz) hcell hwz⟩
  clear hA0 hval0
  refine (walk a0 a1 a2 n2 c2 z2 a3 n3 c3 z3 W w0 w1 w2 w3).mono fun e W' ⟨he, bel⟩ => ?_
  subst he
  exact ⟨_, rfl, _, _, _, [], _, [], hW', trodAll_mk1 (shut_bool Try.underlying4 _), (trodAll_cons_mk (shut_int Try.underlying22 w0) (trodAll_cons_mk (shut_int Try.underlying2 w1) (trodAll_cons_mk (Below.trod laidOut (by kernel_rfl) (of_decide_eq_true (by kernel_rfl)) k2 bel lt2) (trodAll_cons_mk (Below.trod laidOut (by kernel_rfl) (of_decide_eq_true (by kernel_rfl)) k3 bel lt3) trodAll_mk0)))), rfl, bel.frame _, fun h => by cases h⟩

theorem over : Rows.numAllRow.holds Try.pinned (OpenSpec.ofChange Rows.numAllSpec) :=
  OpenClaim.holds_of_wide 3 Try.f3 rfl rfl rfl rfl rfl rfl rfl ⟨rfl, rfl, rfl, rfl, rfl⟩ rfl rfl rfl rfl rfl (by kernel_rfl) Try.func3 (by kernel_rfl)
    (of_decide_eq_true (by kernel_rfl)) (by unfold Func.isWrapper; first | (rw [if_pos (by decide +kernel)]; kernel_rfl) | (rw [if_neg (by decide +kernel)]; exact ⟨rfl, rfl⟩))
    (fun os started H enc _ => lifted os started H enc)

theorem proved : Rows.NumAllSaid := over
#print axioms proved
end Go.Proofs.Ytjkfobgeklnblaa.numAll
