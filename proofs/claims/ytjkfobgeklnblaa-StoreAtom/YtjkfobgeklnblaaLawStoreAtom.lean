/- The statement StoreAtom: a put that fails leaves nothing, and tried again it is there whole, for every name, all bytes and every number of failures. -/
import Derived.Test.YtjkfobgeklnblaaLawE
import Derived.Test.YtjkfobgeklnblaaStore2
import Derived.Test.YtjkfobgeklnblaaBegun
namespace Go.Proofs.Ytjkfobgeklnblaa.storeAtom
open Go.ChangeShapes Go.WideShapes Go.ChangeAt Go.RowKit

theorem len5 (x : Int) : ∃ (r : Int) (i : Nat), x.tmod 5 = r ∧ -5 < r ∧ r < 5 ∧ (r + 5) % 5 = (i : Int) ∧ i < 5 := by
  obtain ⟨r, i, h1, h2, h3, h4, h5⟩ := place x 5 (by omega)
  exact ⟨r, i, h1, by omega, by omega, h4, h5⟩

theorem has_str (w : World) (g : Nat) (s : ByteArray) (h : w.heap[g]? = some (stObj 0 0 none)) : Calls Try.prog 41 #[.pointer (some ⟨g, 0, none⟩), .slice (some ⟨w.heap.size, 0, none⟩) 1 1] (w.alloc (.cells #[.string s] 9)) fun e w' => e = .returned (.bool false) ∧ Below w.heap.size w w' := by
  have hb := below_alloc w (.cells #[.string s] 9) w.heap.size (Nat.le_refl _)
  have hc := cell_one_new w (.string s) 9 0 _ rfl
  rw [Go.Proofs.Ytjkfobgeklnblaa.add_none] at hc
  refine (storeHas_none g w.heap.size 0 s _ ((hb.block _ (lt_of_heap h)).trans h) hc).mono ?_
  rintro e w' ⟨rfl, hb'⟩
  exact ⟨rfl, hb.trans (hb'.mono hb.size)⟩

set_option maxRecDepth 100000 in
set_option maxHeartbeats 2000000 in
theorem walk (s : ByteArray) (a : Option Addr) (n c : Nat) (z : List Int) (f : Int) (w : World) (w0 : s.size ≤ maxLen) (h : Row .u8 w a n c z) (w2 : (Lit.int .i64 f).wf = true) :
    Calls Try.prog 13 #[.string s, .slice a n c, .int .i64 f] w fun e w' => e = .returned (.bool true) ∧ Below w.heap.size w w' := by
  have hf := wf_i64 w2
  have HB := hide h.bs
  unfold maxLen at w0
  clear w2 h
  obtain ⟨r, F, hr, hr1, hr2, hF, hF5⟩ := len5 f
  go_enter Try.func13, Try.ntmps13
  go_wp2_with fail
  refine (begun_true _).mono ?_
  rintro e w1 ⟨rfl, hb1⟩
  have H1 := hide hb1
  have HB1 := hide (HB.out.later hb1 (Nat.le_refl _))
  clear hb1 HB
  go_wp2_with fail
  refine (text_any s 30 _ _ w0 (by omega) (by rfl)).mono ?_
  rintro e w1' ⟨t, rfl, rfl, ht, Ht⟩
  go_wp2_with fail
  refine (short_any _ _ _ 60 _ _ _ HB1.out (by omega) (by rfl)).mono ?_
  rintro e w1' ⟨k, L, rfl, rfl, hkn, hk4, HL, hbs⟩
  have T1 := hide hbs
  clear HB1 hbs HL Ht
  go_wp2_with fail
  refine (storeNew_any _).mono ?_
  rintro e w2 ⟨rfl, rfl⟩
  have hnm : (({ data := #[110] } : ByteArray) ++ t).size = 1 + t.size := by rw [ByteArray.size_append]; rfl
  rw [hF]
  generalize ({ data := #[110] } : ByteArray) ++ t = nm at *
  have hnm1 : 1 ≤ nm.size := by omega
  have hnm2 : nm.size ≤ 40 := by omega
  clear hnm
  have hg1 := heap_alloc_new w1' (stObj 0 0 none)
  have hb2 := below_alloc w1' (stObj 0 0 none) w1'.heap.size (Nat.le_refl _)
  have T2 := hide (T1.out.later hb2 (Nat.le_refl _))
  have H2 := hide (H1.out.trans (hb2.mono H1.out.size))
  have HG := hide hg1
  have hlt2 := lt_of_heap hg1
  obtain ⟨g, Hg⟩ : ∃ g, Hid (g = w1'.heap.size) := ⟨_, rfl⟩
  rw [← Hg.out] at HG hlt2 ⊢
  generalize w1'.alloc (stObj 0 0 none) = W1 at *
  have HGw : Hid (w.heap.size ≤ g) := by rw [Hg.out]; exact H1.out.size
  clear hg1 hb2 T1 H1 hF hr hr1 hr2 Hg
  go_wp2
  go_loopw [9] (fun i wr => ∃ kk : Nat, kk ≤ F ∧ i = .int .i64 kk ∧ Hid (Below W1.heap.size W1 wr)) (fun i _ => F - (intOf i).toNat)
  case atStart => exact ⟨0, by omega, rfl, Below.refl _ _⟩
  case round =>
    obtain ⟨kk, hkk, rfl, HBe⟩ := hrel
    have HG3 := hide ((HBe.out.block g hlt2).trans HG.out)
    by_cases hlt : kk < F
    · have HP := hide (storePut_fail g nm a k c wr HG3.out hnm1 hnm2 (by omega))
      go_wp2_with fail
      refine HP.out.mono ?_
      rintro e w3 ⟨rfl, hb3⟩
      have HG4 := hide ((hb3.block _ (lt_of_heap HG3.out)).trans HG3.out)
      have HB3 := hide (HBe.out.trans (hb3.mono HBe.out.size))
      clear hb3 HP
      go_wp2_with fail
      refine (has_str w3 g nm HG4.out).mono ?_
      rintro e w4 ⟨rfl, hb4⟩
      have HG5 := hide ((hb4.block _ (lt_of_heap HG4.out)).trans HG4.out)
      have HB4 := hide (HB3.out.trans (hb4.mono HB3.out.size))
      clear hb4 HG4 HB3
      go_wp2_with fail
      refine (storeUsed_any g 0 0 none w4 HG5.out).mono ?_
      rintro e w5 ⟨rfl, rfl⟩
      go_wp2
      go_roundw
      case rel => exact ⟨kk + 1, by omega, by go_num, HB4⟩
      case measure => simp [intOf]; omega
    · have T3 := hide (T2.out.later HBe.out (Nat.le_refl _))
      have H3 := hide (H2.out.trans (HBe.out.mono H2.out.size))
      clear T2 H2 HG
      go_wp2_with fail
      refine (storeNew_any _).mono ?_
      rintro e w3 ⟨rfl, rfl⟩
      have hb4 := below_alloc wr (stObj 0 0 none) wr.heap.size (Nat.le_refl _)
      have hn4 := heap_alloc_new wr (stObj 0 0 none)
      have T4 := hide (T3.out.later hb4 (Nat.le_refl _))
      have H4 := hide (H3.out.trans (hb4.mono H3.out.size))
      have HG4 := hide ((hb4.block _ (lt_of_heap HG3.out)).trans HG3.out)
      have HN4 := hide hn4
      generalize wr.alloc (stObj 0 0 none) = W4 at *
      clear hb4 hn4 T3 H3 HG3
      go_wp2_with fail
      refine (storeGet_none wr.heap.size 0 0 nm W4 HN4.out).mono ?_
      rintro e w5 ⟨rfl, rfl⟩
      have HP := hide (storePut_first2 g nm a k c L w5 HG4.out hnm1 hnm2 T4.out (by omega))
      go_wp2_with fail
      refine HP.out.mono ?_
      rintro e w6 ⟨mb, gv, rfl, h1, h2, h3, h4, _⟩
      have H6 := hide (H4.out.trans (grown_below h4 HGw.out H4.out.size))
      have T6 : Hid (Bs w6 a k c L) := by
        obtain ⟨q1, q2, q3, q4, q5, q6⟩ := T4.out
        refine ⟨q1, q2, q3, q4, fun hp => ?_, q6⟩
        obtain ⟨b, o, rfl, hc⟩ := q5 hp
        refine ⟨b, o, rfl, fun i hi => h4.cell (hc i hi) ?_⟩
        intro e
        have hbg : b = g := by simpa using e
        subst hbg
        have := hc 0 hp
        have hG := HG4.out
        simp [World.cell?, hG, stObj] at this
        rcases o with _ | _ | _ | o <;> simp at this
      have HGe := hide (storeGet_one g mb gv k 0 k nm L w6 h1 h2 h3 (by omega))
      clear h1 h2 h3 h4 HP HG4 HN4 T4 H4
      go_wp2_with fail
      refine HGe.out.mono ?_
      rintro e w7 ⟨g7, rfl, ho7, hb7⟩
      obtain ⟨a8, c8, e8, hbs8⟩ := owns_bs ho7 T6.out.1
      obtain ⟨rfl, rfl⟩ : some ⟨g7, 0, none⟩ = a8 ∧ k = c8 := by simpa using e8
      have SM := hide (same_any _ _ _ _ _ _ _ _ _ hbs8 (T6.out.later hb7 (Nat.le_refl _)) true (by simp))
      have H7 := hide (H6.out.trans (hb7.mono H6.out.size))
      clear ho7 hb7 e8 hbs8 HGe
      go_wp2_with fail
      refine SM.out.mono ?_
      rintro e w8 ⟨rfl, rfl⟩
      go_wp2
      go_ret
      exact ⟨rfl, H7.out⟩

theorem own : ownKnob Try.prog.godebug = none := by kernel_rfl
theorem laidOut : laidOutB Try.prog = true := by kernel_rfl

set_option maxRecDepth 100000 in
theorem lifted (os : Os) (started : os.Started) (H : Type) (enc : TypeId × Value → H) :
    ReturnsInHanded {} Try.checked os 13 .any (Rows.storeAtomSpec.pre6 enc Try.prog Try.f13 Rows.storeAtomRow.domain false) (Rows.storeAtomSpec.post enc Try.prog Try.f13 false true false false) := by
  refine returnsInHanded_of_change (C := Try.checked) own started (by kernel_rfl) Try.func13
    (ChangeSpec.witness6 (enc := enc) (C := Try.checked) false ⟨#[], #[.string ByteArray.empty, .slice none 0 0, .int .i64 0], []⟩ 8 (by kernel_rfl) (by kernel_rfl) (by kernel_rfl) (by kernel_rfl)) ?_
  intro W base args ds gs before hval0 hW hcnd _
  have hval : ∀ (j : Nat) t v, Try.f13.params[j]? = some t → args[j]? = some v → Value.okWide Try.prog W .any base t v := hval0
  have hW' := hW
  obtain ⟨p, q, hA0, hV, rfl, hfz, hnd⟩ := hW
  have hA : DataW.TrodAll enc Try.prog W 0 (fun _ => true) true Try.f13.params.toList args.toList ds p := hA0
  rw [Try.params13] at hA hval
  obtain ⟨v0, vs0, d0, ds0, p0, q0, hargs, rfl, rfl, h0, r0⟩ := trodAll_cons hA
  obtain ⟨v1, vs1, d1, ds1, p1, q1, rfl, rfl, rfl, h1, r1⟩ := trodAll_cons r0
  obtain ⟨v2, vs2, d2, ds2, p2, q2, rfl, rfl, rfl, h2, r2⟩ := trodAll_cons r1
  obtain ⟨rfl, rfl, rfl⟩ := trodAll_nil r2
  obtain rfl : args = #[v0, v1, v2] := by cases args; simp_all
  obtain ⟨rfl, rfl⟩ := trodVars_none hV
  obtain ⟨a0, rfl, rfl, rfl, w0⟩ := Go.ChangeMaps.open_string Try.underlying9 (hval 0 9 v0 rfl rfl) h0
  obtain ⟨a1, n1, c1, rfl⟩ := okWide_slice Try.underlying23 (hval 1 23 v1 rfl rfl)
  have k1 := h1
  have lt1 : ∀ x ∈ p1, x.block < W.heap.size := by obtain ⟨m, hm⟩ := k1; exact DataW.trod_lt m _ _ _ hm
  obtain ⟨z1, w1⟩ : ∃ zs, Row .u8 W a1 n1 c1 zs := by
    obtain ⟨fuel, hf⟩ := h1
    rcases open_ints Try.underlying23 Try.underlying5 (by kernel_rfl) hf with ⟨hcs, _⟩ | ⟨x, l, c, zs, hcs, _, hl, hm, hz, _, hcell, hwz⟩
    · simp [Value.cells] at hcs; obtain ⟨rfl, rfl, rfl⟩ := hcs; exact ⟨[], row_none _ _⟩
    · simp [Value.cells] at hcs; obtain ⟨rfl, rfl, rfl⟩ := hcs; exact ⟨_, row_some hl hm (by simpa using hz) hcell hwz⟩
  obtain ⟨a2, rfl, rfl, rfl, w2⟩ := open_int Try.underlying3 (hval 2 3 v2 rfl rfl) h2
  clear hA0 hval0
  refine (walk a0 a1 n1 c1 z1 a2 W w0 w1 w2).mono fun e W' ⟨he, bel⟩ => ?_
  subst he
  exact ⟨_, rfl, _, _, _, [], _, [], hW', trodAll_mk1 (shut_bool Try.underlying4 _), (trodAll_cons_mk (Go.ChangeMaps.shut_string Try.underlying9 w0) (trodAll_cons_mk (Below.trod laidOut (by kernel_rfl) (of_decide_eq_true (by kernel_rfl)) k1 bel lt1) (trodAll_cons_mk (shut_int Try.underlying3 w2) trodAll_mk0))), rfl, bel.frame _, fun h => by cases h⟩

theorem over : Rows.storeAtomRow.holds Try.pinned (OpenSpec.ofChange Rows.storeAtomSpec) :=
  OpenClaim.holds_of_wide 13 Try.f13 rfl rfl rfl rfl rfl rfl rfl ⟨rfl, rfl, rfl, rfl, rfl⟩ rfl rfl rfl rfl rfl (by kernel_rfl) Try.func13 (by kernel_rfl)
    (of_decide_eq_true (by kernel_rfl)) (by unfold Func.isWrapper; first | (rw [if_pos (by decide +kernel)]; kernel_rfl) | (rw [if_neg (by decide +kernel)]; exact ⟨rfl, rfl⟩))
    (fun os started H enc _ => lifted os started H enc)

theorem proved : Rows.StoreAtomSaid := over
#print axioms proved
end Go.Proofs.Ytjkfobgeklnblaa.storeAtom
