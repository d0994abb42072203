/- The statement StoreOwn: what was put, and what was told, is the store's own, for all bytes. -/
import Derived.Test.YtjdbkmjhjcmoaaaStore3
import Derived.Test.YtjdbkmjhjcmoaaaBegun
namespace Go.Proofs.Ytjdbkmjhjcmoaaa.storeOwn
open Go.ChangeShapes Go.WideShapes Go.ChangeAt Go.RowKit

theorem bs_but {w w' : World} {b n c : Nat} {l : List Int} {row : Nat} (h : Bs w (some ⟨b, 0, none⟩) n c l) (hg : w.grownBy w' (some row)) (hne : b ≠ row) : Bs w' (some ⟨b, 0, none⟩) n c l := by
  obtain ⟨h1, h2, h3, h4, h5, h6⟩ := h
  refine ⟨h1, h2, h3, h4, fun hn => ?_, h6⟩
  obtain ⟨b', o, e, hc⟩ := h5 hn
  obtain ⟨rfl, rfl⟩ : b = b' ∧ 0 = o := by simpa using e
  exact ⟨_, 0, rfl, fun i hi => hg.cell (hc i hi) (by simpa using hne)⟩

theorem x17 : bits .xor .u8 1 7 = 6 := by decide

set_option maxRecDepth 100000 in
set_option maxHeartbeats 2000000 in
theorem walk (a : Option Addr) (n c : Nat) (z : List Int) (w : World) (h : Row .u8 w a n c z) :
    Calls Try.prog 5 #[.slice a n c] w fun e w' => e = .returned (.bool true) ∧ Below w.heap.size w w' := by
  have HB := hide h.bs
  clear h
  go_enter Try.func5, Try.ntmps5
  go_wp2_with fail
  refine (begun_true _).mono ?_
  rintro e w1 ⟨rfl, hb1⟩
  have H1 := hide hb1
  have hba := below_alloc w1 (.cells #[.int .u8 1] 5) w1.heap.size (Nat.le_refl _)
  have HB1 := hide ((HB.out.later hb1 (Nat.le_refl _)).later hba (Nat.le_refl _))
  have HO1 := hide (owns_one w1 1 (by omega))
  have hs1 : w1.heap.size ≤ (w1.alloc (.cells #[.int .u8 1] 5)).heap.size := hba.size
  have HBA := hide hba
  clear hb1 HB hba
  go_wp2_with fail
  generalize w1.alloc (.cells #[.int .u8 1] 5) = W1 at *
  refine (short_any _ _ _ 50 _ _ _ HB1.out (by omega) (by rfl)).mono ?_
  rintro e w1' ⟨k, L, rfl, rfl, hkn, hk4, HL, hbs⟩
  have HS := hide hbs
  have HLK := hide hbs.1
  clear HB1 hbs HL
  go_wp2_with (at_builtin; refine wpList_app rfl (.tmp 13) (.tmp 15) rfl w1.heap.size _ [1] rfl HO1.out a _ c L rfl HS.out (by simp; omega) hs1 ?_)
  intro v2 w2 ho2 hg2 _
  have hb2 := HBA.out.trans (below_app HO1.out hg2 hs1)
  have H2 := hide (H1.out.trans (hb2.mono H1.out.size))
  obtain ⟨g2, c2, rfl, _, hbs2⟩ := owns_shape ho2 (by simp)
  have hlt2 : g2 < w2.heap.size := (ho2.1.lt g2 rfl).2
  obtain ⟨X, HX⟩ : ∃ X : List Int, Hid (X = 1 :: L) := ⟨_, rfl⟩
  have hlX : ((1 : Int) :: L).length = k + 1 := by simp [HLK.out]
  rw [hlX] at hbs2 ⊢
  rw [← HX.out] at hbs2
  have P2 := hide hbs2
  have HXL : Hid (X.length = k + 1) := by rw [HX.out]; exact hlX
  have HX0 : Hid (X[0]?.getD 0 = 1) := by rw [HX.out]; show _ = _; simp
  clear hbs2 ho2 hg2 hb2 HO1 HBA H1 HS hlX
  go_wp2_with fail
  refine (storeNew_any _).mono ?_
  rintro e w3 ⟨rfl, rfl⟩
  have hb3 := below_alloc w2 (stObj 0 0 none) w2.heap.size (Nat.le_refl _)
  have HG3 := hide (heap_alloc_new w2 (stObj 0 0 none))
  have P3 := hide (P2.out.later hb3 (Nat.le_refl _))
  have H3 := hide (H2.out.trans (hb3.mono H2.out.size))
  have hs3 : (w2.alloc (stObj 0 0 none)).heap.size = w2.heap.size + 1 := by simp
  obtain ⟨g, Hg⟩ : ∃ g, Hid (g = w2.heap.size) := ⟨_, rfl⟩
  have hgw : w.heap.size ≤ g := by rw [Hg.out]; exact H2.out.size
  rw [← Hg.out] at HG3 hlt2 ⊢
  have hs3' : w2.heap.size + 1 = g + 1 := by rw [Hg.out]
  generalize w2.alloc (stObj 0 0 none) = W3 at *
  have HS3 : Hid (W3.heap.size = g + 1) := by rw [← hs3']; exact hs3
  clear hb3 P2 H2 hs3 hs3' Hg
  go_wp2_with (at_builtin; refine wpList_app rfl (.const (.slice none 0 0)) (.tmp 18) rfl W3.heap.size _ [] rfl (World.ownsInts_nil _ _ _ _) _ _ _ X rfl P3.out (by simp; omega) (Nat.le_refl _) ?_)
  intro v4 w4 ho4 hg4 _
  have hb4 := below_app (World.ownsInts_nil W3 W3.heap.size 5 .u8) hg4 (Nat.le_refl _)
  obtain ⟨g4, c4, rfl, hg4w, hbs4⟩ := owns_shape ho4 (by rw [HXL.out]; omega)
  have hlt4 : g4 < w4.heap.size := (ho4.1.lt g4 rfl).2
  have hgg4 : g ≠ g4 := by have := HS3.out; omega
  have HG4 := hide ((hb4.block g (by have := HS3.out; omega)).trans HG3.out)
  have P4 := hide (P3.out.later hb4 (Nat.le_refl _))
  have H4 := hide (H3.out.trans (hb4.mono H3.out.size))
  have O4 := hide ho4
  rw [HXL.out] at hbs4
  have B4 := hide hbs4
  rw [HXL.out]
  clear hb4 hg4 ho4 hbs4 HG3 P3 H3
  have HP := hide (storePut_first2 g ⟨#[97]⟩ _ (k + 1) c4 X w4 HG4.out (by decide) (by decide) B4.out (by omega))
  go_wp2_with fail
  refine HP.out.mono ?_
  rintro e w5 ⟨mb, gv, rfl, h1, h2, h3, h4, h5⟩
  have HOne := hide (One.mk h1 h2 h3)
  have P5 := hide (bs_but P4.out h4 (by omega))
  have C5 := hide (bs_but B4.out h4 (Ne.symm hgg4))
  have hmb : mb ≠ g4 := by
    rintro rfl
    have := C5.out.at0 0 (by omega)
    simp [World.cell?, h2] at this
  have O5 : w5.ownsInts W3.heap.size 5 .u8 (.slice (some ⟨g4, 0, none⟩) X.length c4) X := ⟨O4.out.1.kept h4 (Or.inr (by simp [Value.ownBlock]; exact fun e => hgg4 e.symm)), O4.out.2⟩
  have H5 := hide (H4.out.trans (grown_below h4 hgw H4.out.size))
  obtain ⟨d0, d1, d2, d3⟩ := setAt (i := 0) (y := 6) O5 (by rw [HXL.out]; omega) (by omega)
  have d0' : w5.cell? ⟨g4, 0, none⟩ = some (.int .u8 1) := by rw [d0, List.getD_eq_getElem?_getD, HX0.out]
  have HOne6 := hide (HOne.out.but d3 hgg4 hmb (by omega))
  have P6 := hide (bs_but P5.out d3 (by have := HS3.out; omega))
  have H6 := hide (H5.out.trans (grown_below d3 (by have := HS3.out; omega) H5.out.size))
  obtain ⟨a6, c6, e6, hbs6⟩ := owns_bs d2 (n := k + 1) (by simp [HXL.out])
  rw [HXL.out] at e6
  obtain ⟨rfl, rfl⟩ : some ⟨g4, 0, none⟩ = a6 ∧ c4 = c6 := by simpa using e6
  have C6 := hide hbs6
  have hx17 := x17
  clear h1 h2 h3 h4 h5 HP HOne P5 C5 O5 d0 d2 d3 e6 hbs6 H5 O4 B4 HG4 P4 H4 hmb
  go_wp2_with fail
  generalize w5.setCell ⟨g4, 0, none⟩ (.int .u8 6) = W6 at *
  have HGe := hide (storeGet_one g mb gv (k + 1) 0 ((k + 1 : Nat) : Int) ⟨#[97]⟩ X W6 HOne6.out.obj HOne6.out.map HOne6.out.val (by omega))
  refine HGe.out.mono ?_
  rintro e w7 ⟨g7, rfl, ho7, hb7⟩
  obtain ⟨a7, c7, e7, hbs7⟩ := owns_bs ho7 HXL.out
  obtain ⟨rfl, rfl⟩ : some ⟨g7, 0, none⟩ = a7 ∧ k + 1 = c7 := by simpa using e7
  have SM := hide (same_any _ _ _ _ _ _ _ _ _ hbs7 (P6.out.later hb7 (Nat.le_refl _)) true (by simp))
  have ho7' : w7.ownsInts W6.heap.size 5 .u8 (.slice (some ⟨g7, 0, none⟩) X.length (k + 1)) X := by rw [HXL.out]; exact ho7
  obtain ⟨d0, d1, d2, d3⟩ := setAt (i := 0) (y := 6) ho7' (by rw [HXL.out]; omega) (by omega)
  have d0'' : w7.cell? ⟨g7, 0, none⟩ = some (.int .u8 1) := by rw [d0, List.getD_eq_getElem?_getD, HX0.out]
  have hg7 : W6.heap.size ≤ g7 := (ho7'.1.lt g7 rfl).1
  have hb8 := hb7.trans (grown_below d3 hg7 hb7.size)
  have HOne8 := hide (HOne6.out.later hb8)
  have P8 := hide (P6.out.later hb8 (Nat.le_refl _))
  have C8 := hide (C6.out.later hb8 (Nat.le_refl _))
  have H8 := hide (H6.out.trans (hb8.mono H6.out.size))
  clear ho7 hb7 e7 hbs7 ho7' d0 d2 d3 hb8 HGe HOne6 P6 C6 H6 hg7 d0'
  go_wp2_with fail
  refine SM.out.mono ?_
  rintro e w7' ⟨rfl, rfl⟩
  clear SM
  go_wp2_with fail
  generalize w7'.setCell ⟨g7, 0, none⟩ (.int .u8 6) = W8 at *
  have HGe := hide (storeGet_one g mb gv (k + 1) 0 ((k + 1 : Nat) : Int) ⟨#[97]⟩ X W8 HOne8.out.obj HOne8.out.map HOne8.out.val (by omega))
  refine HGe.out.mono ?_
  rintro e w9 ⟨g9, rfl, ho9, hb9⟩
  obtain ⟨a9, c9, e9, hbs9⟩ := owns_bs ho9 HXL.out
  obtain ⟨rfl, rfl⟩ : some ⟨g9, 0, none⟩ = a9 ∧ k + 1 = c9 := by simpa using e9
  have P9 := hide (P8.out.later hb9 (Nat.le_refl _))
  have C9 := hide (C8.out.later hb9 (Nat.le_refl _))
  have O9 := hide (HOne8.out.later hb9)
  have H9 := hide (H8.out.trans (hb9.mono H8.out.size))
  have SM := hide (same_any _ _ _ _ _ _ _ _ _ hbs9 P9.out true (by simp))
  have A1 := hide (storePut_again g mb gv (k + 1) 0 ((k + 1 : Nat) : Int) ⟨#[97]⟩ _ _ _ X X true w9 O9.out.obj O9.out.map O9.out.val P9.out (by decide) (by decide) (by omega))
  rw [if_pos rfl] at A1
  have hne : X ≠ X.set 0 6 := by
    intro e
    have e2 := congrArg (fun l => l[0]?.getD 0) e
    simp only [HX0.out, List.getElem?_set_self (show 0 < X.length by rw [HXL.out]; omega)] at e2
    simp at e2
  have A2 := hide (storePut_again g mb gv (k + 1) 0 ((k + 1 : Nat) : Int) ⟨#[97]⟩ _ _ _ X (X.set 0 6) false w9 O9.out.obj O9.out.map O9.out.val C9.out (by decide) (by decide) (by omega))
  rw [if_neg hne] at A2
  clear ho9 hb9 e9 hbs9 hne P8 C8 HOne8 H8 HGe d0''
  go_wp2_with fail
  refine SM.out.mono ?_
  rintro e wA ⟨rfl, rfl⟩
  go_wp2_with fail
  refine A1.out.mono ?_
  rintro e wA ⟨rfl, rfl⟩
  go_wp2_with fail
  refine A2.out.mono ?_
  rintro e wA ⟨rfl, rfl⟩
  go_wp2
  go_ret
  exact ⟨rfl, H9.out⟩

theorem own : ownKnob Try.prog.godebug = none := by kernel_rfl
theorem laidOut : laidOutB Try.prog = true := by kernel_rfl

set_option maxRecDepth 100000 in
theorem lifted (os : Os) (started : os.Started) (H : Type) (enc : TypeId × Value → H) :
    ReturnsInHanded {} Try.checked os 5 .any (Rows.storeOwnSpec.pre6 enc Try.prog Try.f5 Rows.storeOwnRow.domain false) (Rows.storeOwnSpec.post enc Try.prog Try.f5 false true false false) := by
  refine returnsInHanded_of_change (C := Try.checked) own started (by kernel_rfl) Try.func5
    (ChangeSpec.witness6 (enc := enc) (C := Try.checked) false ⟨#[], #[.slice none 0 0], []⟩ 8 (by kernel_rfl) (by kernel_rfl) (by kernel_rfl) (by kernel_rfl)) ?_
  intro W base args ds gs before hval0 hW hcnd _
  have hval : ∀ (j : Nat) t v, Try.f5.params[j]? = some t → args[j]? = some v → Value.okWide Try.prog W .any base t v := hval0
  have hW' := hW
  obtain ⟨p, q, hA0, hV, rfl, hfz, hnd⟩ := hW
  have hA : DataW.TrodAll enc Try.prog W 0 (fun _ => true) true Try.f5.params.toList args.toList ds p := hA0
  rw [Try.params5] at hA hval
  obtain ⟨v0, vs0, d0, ds0, p0, q0, hargs, rfl, rfl, h0, r0⟩ := trodAll_cons hA
  obtain ⟨rfl, rfl, rfl⟩ := trodAll_nil r0
  obtain rfl : args = #[v0] := by cases args; simp_all
  obtain ⟨rfl, rfl⟩ := trodVars_none hV
  obtain ⟨a0, n0, c0, rfl⟩ := okWide_slice Try.underlying24 (hval 0 24 v0 rfl rfl)
  have k0 := h0
  have lt0 : ∀ x ∈ p0, x.block < W.heap.size := by obtain ⟨m, hm⟩ := k0; exact DataW.trod_lt m _ _ _ hm
  obtain ⟨z0, w0⟩ : ∃ zs, Row .u8 W a0 n0 c0 zs := by
    obtain ⟨fuel, hf⟩ := h0
    rcases open_ints Try.underlying24 Try.underlying5 (by kernel_rfl) hf with ⟨hcs, _⟩ | ⟨x, l, c, zs, hcs, _, hl, hm, hz, _, hcell, hwz⟩
    · simp [Value.cells] at hcs; obtain ⟨rfl, rfl, rfl⟩ := hcs; exact ⟨[], row_none _ _⟩
    · simp [Value.cells] at hcs; obtain ⟨rfl, rfl, rfl⟩ := hcs; exact ⟨_, row_some hl hm (by simpa using hz) hcell hwz⟩
  clear hA0 hval0
  refine (walk a0 n0 c0 z0 W w0).mono fun e W' ⟨he, bel⟩ => ?_
  subst he
  exact ⟨_, rfl, _, _, _, [], _, [], hW', trodAll_mk1 (shut_bool Try.underlying4 _), (trodAll_cons_mk (Below.trod laidOut (by kernel_rfl) (of_decide_eq_true (by kernel_rfl)) k0 bel lt0) trodAll_mk0), rfl, bel.frame _, fun h => by cases h⟩

theorem over : Rows.storeOwnRow.holds Try.pinned (OpenSpec.ofChange Rows.storeOwnSpec) :=
  OpenClaim.holds_of_wide 5 Try.f5 rfl rfl rfl rfl rfl rfl rfl ⟨rfl, rfl, rfl, rfl, rfl⟩ rfl rfl rfl rfl rfl (by kernel_rfl) Try.func5 (by kernel_rfl)
    (of_decide_eq_true (by kernel_rfl)) (by unfold Func.isWrapper; first | (rw [if_pos (by decide +kernel)]; kernel_rfl) | (rw [if_neg (by decide +kernel)]; exact ⟨rfl, rfl⟩))
    (fun os started H enc _ => lifted os started H enc)

theorem proved : Rows.StoreOwnSaid := over
#print axioms proved
end Go.Proofs.Ytjdbkmjhjcmoaaa.storeOwn
