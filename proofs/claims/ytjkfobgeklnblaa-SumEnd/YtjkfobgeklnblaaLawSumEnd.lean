/- The statement SumEnd: a byte more turns the sum, and two neighbours changed for one another turn it just where they are unlike, for every slice of bytes, every place and every byte. -/
import Derived.Test.YtjkfobgeklnblaaLawC
import Derived.Test.YtjkfobgeklnblaaBegun
namespace Go.Proofs.Ytjkfobgeklnblaa.sumEnd
open Go.ChangeShapes Go.WideShapes Go.ChangeAt Go.RowKit

theorem place2 (at' : Int) (k : Nat) (hk : 2 ≤ k) : ∃ (r : Int) (i : Nat), at'.tmod ((k : Int) - 1) = r ∧ -((k : Int) - 1) < r ∧ r < (k : Int) - 1 ∧ (r + (k : Int) - 1) % ((k : Int) - 1) = (i : Int) ∧ i + 1 < k := by
  have h1 := Int.tmod_lt_of_pos at' (b := (k : Int) - 1) (by omega)
  have h2 := Int.lt_tmod_of_pos at' (b := (k : Int) - 1) (by omega)
  refine ⟨_, ((at'.tmod ((k : Int) - 1) + (k : Int) - 1) % ((k : Int) - 1)).toNat, rfl, h2, h1, ?_, ?_⟩
  · have := Int.emod_nonneg (at'.tmod ((k : Int) - 1) + (k : Int) - 1) (b := (k : Int) - 1) (by omega)
    omega
  · have := Int.emod_lt_of_pos (at'.tmod ((k : Int) - 1) + (k : Int) - 1) (b := (k : Int) - 1) (by omega)
    have := Int.emod_nonneg (at'.tmod ((k : Int) - 1) + (k : Int) - 1) (b := (k : Int) - 1) (by omega)
    omega

theorem ps_two {w : World} {a a' : Option Addr} {n n' c c' : Nat} {l l' : List Int} (h : Bs w a n c l) (h' : Bs w a' n' c' l') : Ps (w.alloc (.cells #[.slice a n c, .slice a' n' c'] 23)) (some ⟨w.heap.size, 0, none⟩) 2 [l, l'] := by
  have hh := heap_alloc_new w (.cells #[.slice a n c, .slice a' n' c'] 23)
  have hBa := below_alloc w (.cells #[.slice a n c, .slice a' n' c'] 23) w.heap.size (Nat.le_refl _)
  obtain ⟨k0, k1⟩ := cells2 hh
  refine ⟨rfl, fun _ => ⟨_, 0, rfl, fun i hi => ?_⟩⟩
  rcases (show i = 0 ∨ i = 1 by omega) with rfl | rfl
  · exact ⟨_, _, _, k0, h.later hBa (Nat.le_refl _)⟩
  · exact ⟨_, _, _, k1, h'.later hBa (Nat.le_refl _)⟩

theorem of_two {w : World} {a : Option Addr} {n c : Nat} {l : List Int} (x : Int) (hx : 0 ≤ x ∧ x ≤ 255) (h : Bs w a n c l) :
    Calls Try.prog 33 #[.slice (some ⟨w.heap.size + 1, 0, none⟩) 2 2] ((w.alloc (.cells #[.int .u8 x] 5)).alloc (.cells #[.slice a n c, .slice (some ⟨w.heap.size, 0, none⟩) 1 1] 23)) fun e w' => ∃ S : Nat, e = .returned (.int .u32 S) ∧ Hid (S = sumOf (l ++ [x])) ∧ Below w.heap.size w w' := by
  have h1 := Bs.one w x hx
  have hB := below_alloc w (.cells #[.int .u8 x] 5) w.heap.size (Nat.le_refl _)
  have h0 := h.later hB (Nat.le_refl _)
  have hs : (w.alloc (.cells #[.int .u8 x] 5)).heap.size = w.heap.size + 1 := by simp
  generalize w.alloc (.cells #[.int .u8 x] 5) = W at *
  have hP := ps_two h0 h1
  have hB2 := below_alloc W (.cells #[.slice a n c, .slice (some ⟨w.heap.size, 0, none⟩) 1 1] 23) w.heap.size (by omega)
  rw [hs] at hP
  refine (of_any _ 2 2 _ _ hP (by omega)).mono ?_
  rintro e w' ⟨rfl, hb⟩
  refine ⟨_, rfl, ?_, hB.trans (hB2.trans (hb.mono (by simp; omega)))⟩
  show _ = _
  simp

set_option maxRecDepth 100000 in
set_option maxHeartbeats 2000000 in
theorem walk (a : Option Addr) (n c : Nat) (z : List Int) (at' x : Int) (w : World) (h : Row .u8 w a n c z) (w1 : (Lit.int .i64 at').wf = true) (w2 : (Lit.int .u8 x).wf = true) :
    Calls Try.prog 10 #[.slice a n c, .int .i64 at', .int .u8 x] w fun e w' => e = .returned (.bool true) ∧ Below w.heap.size w w' := by
  have hat := wf_i64 w1
  have hx := of_wf_u8 w2
  have HB := hide h.bs
  clear w1 w2 h
  go_enter Try.func10, Try.ntmps10
  go_wp2_with fail
  refine (begun_true _).mono ?_
  rintro e w1 ⟨rfl, hb1⟩
  have H1 := hide hb1
  have HB1 := hide (HB.out.later hb1 (Nat.le_refl _))
  clear hb1 HB
  go_wp2_with fail
  refine (short_any _ _ _ 250 _ _ _ HB1.out (by omega) (by rfl)).mono ?_
  rintro e w1' ⟨k, L, rfl, rfl, hkn, hk4, HL, hbs⟩
  have HS := hide hbs
  have hlen := hbs.1
  have HM := hide (sum_more L x hbs.2.2.2.2.2 (by omega) hx)
  clear HB1 hbs
  go_wp2_with fail
  refine (of_one 1 (Ps.one HS.out)).mono ?_
  rintro e w5 ⟨S5, rfl, HS5, _, hb5⟩
  have hb15 : Below w1'.heap.size w1' w5 := (below_alloc w1' _ _ (Nat.le_refl _)).trans (hb5.mono (by simp))
  have H5 := hide hb15
  have HL5 := hide (HS.out.later hb15 (Nat.le_refl _))
  clear hb5 hb15 HS
  go_wp2_with fail
  refine (of_two x hx HL5.out).mono ?_
  rintro e w6 ⟨S6, rfl, HS6, hb6⟩
  have hS : ((S5 : Int) == (S6 : Int)) = false := by
    have := HM.out
    rw [← HS5.out, ← HS6.out] at this
    simp; omega
  have hb16 := H5.out.trans (hb6.mono H5.out.size)
  have H6 := hide (H1.out.trans (hb16.mono H1.out.size))
  have HL6 := hide (HL5.out.later hb6 (Nat.le_refl _))
  clear hb6 hb16 H5 HL5 HM HS5 HS6 H1
  by_cases hk2 : k < 2
  · go_wp2
    go_ret
    exact ⟨rfl, H6.out⟩
  · obtain ⟨r, i, hr, hr1, hr2, hi, hik⟩ := place2 at' k (by omega)
    go_wp2_with (at_builtin; refine wpList_app rfl (.const (.slice none 0 0)) (.tmp 40) rfl w6.heap.size _ [] rfl (World.ownsInts_nil _ _ _ _) a _ c L rfl HL6.out (by simp; omega) (Nat.le_refl _) ?_)
    intro v2 w2 hown2 hg2 _
    have hb2 := below_app (World.ownsInts_nil w6 w6.heap.size 5 .u8) hg2 (Nat.le_refl _)
    obtain ⟨g2, c2, rfl, hg2w, _⟩ := owns_shape hown2 (by omega)
    have rx := range_of HL6.out.2.2.2.2.2 i
    have ry := range_of HL6.out.2.2.2.2.2 (i + 1)
    obtain ⟨c0, f0, d0, e0⟩ := setAt (i := i) (y := L[i + 1]?.getD 0) hown2 (by omega) ry
    obtain ⟨c1, f1, _, _⟩ := setAt (i := i + 1) (y := L[i + 1]?.getD 0) hown2 (by omega) ry
    have el : (L.set i (L[i + 1]?.getD 0)).length = L.length := by simp
    rw [← el] at d0
    obtain ⟨_, f2, d1, e1⟩ := setAt (i := i + 1) (y := L[i]?.getD 0) d0 (by omega) rx
    rw [el] at d1
    have hb3 := (hb2.trans (grown_below e0 hg2w hb2.size)).trans (grown_below e1 hg2w (Nat.le_trans hb2.size e0.size))
    rw [hlen] at d1 ⊢
    have hsw : (decide (sumOf L = sumOf ((L.set i (L[i + 1]?.getD 0)).set (i + 1) (L[i]?.getD 0)))) = decide (L[i + 1]?.getD 0 = L[i]?.getD 0) := by
      have e1 : L = L.take i ++ L[i]?.getD 0 :: L[i + 1]?.getD 0 :: L.drop (i + 2) := by
        conv => lhs; rw [split_at L i (by omega)]
        rw [← drop_at L (i + 1) k hlen hik]; simp
      have e2 : (L.set i (L[i + 1]?.getD 0)).set (i + 1) (L[i]?.getD 0) = L.take i ++ L[i + 1]?.getD 0 :: L[i]?.getD 0 :: L.drop (i + 2) := by
        rw [set_at L i _ (by omega), List.set_append_right _ _ (by simp; omega), drop_at L (i + 1) k hlen hik]
        have : i + 1 - (L.take i).length = 1 := by simp; omega
        rw [this]
        rfl
      have e3 : sumOf L = sumOf (L.take i ++ L[i]?.getD 0 :: L[i + 1]?.getD 0 :: L.drop (i + 2)) := congrArg sumOf e1
      rw [e2, e3, decide_eq_decide, sum_swap _ _ _ _ rx ry]
      exact eq_comm
    have hM : Bs ((w2.setCell ⟨g2, i, none⟩ (.int .u8 (L[i + 1]?.getD 0))).setCell ⟨g2, i + 1, none⟩ (.int .u8 (L[i]?.getD 0))) (some ⟨g2, 0, none⟩) k c2 ((L.set i (L[i + 1]?.getD 0)).set (i + 1) (L[i]?.getD 0)) := by
      obtain ⟨a4, c4, e4, hbs4⟩ := Bs.of_owns d1
      have e5 : ((L.set i (L[i + 1]?.getD 0)).set (i + 1) (L[i]?.getD 0)).length = k := by simp [hlen]
      rw [e5] at e4 hbs4
      obtain ⟨rfl, rfl⟩ : a4 = some ⟨g2, 0, none⟩ ∧ c4 = c2 := by simpa using e4.symm
      exact hbs4
    have q0 := hM.at0 i (by omega)
    have q1 := hM.at0 (i + 1) hik
    have q0' : ((w2.setCell ⟨g2, i, none⟩ (.int .u8 (L[i + 1]?.getD 0))).setCell ⟨g2, i + 1, none⟩ (.int .u8 (L[i]?.getD 0))).cell? ⟨g2, i, none⟩ = some (.int .u8 (L[i + 1]?.getD 0)) := by
      rw [q0]; simp [hlen, show i < k by omega]
    have q1' : ((w2.setCell ⟨g2, i, none⟩ (.int .u8 (L[i + 1]?.getD 0))).setCell ⟨g2, i + 1, none⟩ (.int .u8 (L[i]?.getD 0))).cell? ⟨g2, i + 1, none⟩ = some (.int .u8 (L[i]?.getD 0)) := by
      rw [q1]; simp [hlen, hik]
    have Q0 := hide q0'
    have Q1 := hide q1'
    have HM3 := hide hM
    have HSW := hide hsw
    have HLEN := hide hlen
    have H3 := hide hb3
    have HL3 := hide (HL6.out.later hb3 (Nat.le_refl _))
    clear hb2 hb3 d0 d1 e0 e1 el hg2 hown2 q0 q1 q0' q1' hM hsw hlen
    go_wp2
    go_region
    generalize hX : (L.set i (L[i + 1]?.getD 0)).set (i + 1) (L[i]?.getD 0) = X at *
    generalize (w2.setCell ⟨g2, i, none⟩ (.int .u8 (L[i + 1]?.getD 0))).setCell ⟨g2, i + 1, none⟩ (.int .u8 (L[i]?.getD 0)) = W3 at *
    generalize L[i]?.getD 0 = x0 at *
    generalize L[i + 1]?.getD 0 = y0 at *
    clear c0 c1 f0 f1 f2 hX
    have C1 : Hid (∀ W q, Below W3.heap.size W3 W → W.cell? ⟨q, 0, none⟩ = some (.slice a k c) → Calls Try.prog 33 #[.slice (some ⟨q, 0, none⟩) 1 1] W fun e w' => e = .returned (.int .u32 (sumOf L)) ∧ Below W3.heap.size W3 w' ∧ W3.heap.size ≤ w'.heap.size ∧ (∀ b o, b < W.heap.size → w'.cell? ⟨b, o, none⟩ = W.cell? ⟨b, o, none⟩) ∧ w'.cell? ⟨g2, i, none⟩ = some (.int .u8 y0) ∧ w'.cell? ⟨g2, i + 1, none⟩ = some (.int .u8 x0)) := by
      intro W q hW hq
      refine (of_any _ 1 1 [L] W ⟨rfl, fun _ => ⟨q, 0, rfl, fun j hj => ?_⟩⟩ (by omega)).mono ?_
      · obtain rfl : j = 0 := by omega
        exact ⟨_, _, _, hq, HL3.out.later hW (Nat.le_refl _)⟩
      · rintro e w' ⟨rfl, hb⟩
        have hb' := hW.trans (hb.mono hW.size)
        exact ⟨ret_int (by simp), hb', hb'.size, (fun b o h => hb.cell (p := ⟨b, o, none⟩) h), (hb'.cell (lt_of_cell Q0.out)).trans Q0.out, (hb'.cell (lt_of_cell Q1.out)).trans Q1.out⟩
    have C2 : Hid (∀ W q, Below W3.heap.size W3 W → W.cell? ⟨q, 0, none⟩ = some (.slice (some ⟨g2, 0, none⟩) k c2) → Calls Try.prog 33 #[.slice (some ⟨q, 0, none⟩) 1 1] W fun e w' => e = .returned (.int .u32 (sumOf X)) ∧ Below W3.heap.size W3 w' ∧ W3.heap.size ≤ w'.heap.size ∧ (∀ b o, b < W.heap.size → w'.cell? ⟨b, o, none⟩ = W.cell? ⟨b, o, none⟩) ∧ w'.cell? ⟨g2, i, none⟩ = some (.int .u8 y0) ∧ w'.cell? ⟨g2, i + 1, none⟩ = some (.int .u8 x0)) := by
      intro W q hW hq
      refine (of_any _ 1 1 [X] W ⟨rfl, fun _ => ⟨q, 0, rfl, fun j hj => ?_⟩⟩ (by omega)).mono ?_
      · obtain rfl : j = 0 := by omega
        exact ⟨_, _, _, hq, HM3.out.later hW (Nat.le_refl _)⟩
      · rintro e w' ⟨rfl, hb⟩
        have hb' := hW.trans (hb.mono hW.size)
        exact ⟨ret_int (by simp), hb', hb'.size, (fun b o h => hb.cell (p := ⟨b, o, none⟩) h), (hb'.cell (lt_of_cell Q0.out)).trans Q0.out, (hb'.cell (lt_of_cell Q1.out)).trans Q1.out⟩
    have q0 := Q0.out
    have q1 := Q1.out
    have hB3 := Below.refl W3.heap.size W3
    have hs1 : ((sumOf L : Int) == (sumOf X : Int)) = decide (y0 = x0) := by
      rw [← HSW.out]
      by_cases e : sumOf L = sumOf X
      · simp [e]
      · rw [decide_eq_false e]; exact beq_eq_false_iff_ne.2 (by omega)
    generalize sumOf L = S1 at *
    generalize sumOf X = S2 at *
    have hlt3 := lt_of_cell q0
    have hi0 : (0 : Int) ≤ (i : Int) := by omega
    have hi1 : (i : Int) < (k : Int) := by omega
    have hi2 : (i : Int) + 1 < (k : Int) := by omega
    have hi3 : (0 : Int) ≤ (i : Int) + 1 := by omega
    have hi4 : IntKind.i64.wrap ((i : Int) + 1) = (i : Int) + 1 := by rw [IntKind.wrap_i64]; omega
    have hi5 : ((i : Int) + 1).toNat = i + 1 := by omega
    have HF : Hid (∀ W, Below W3.heap.size W3 W → Below w.heap.size w W) := fun W hW => H6.out.trans ((H3.out.mono H6.out.size).trans (hW.mono (Nat.le_trans H6.out.size H3.out.size)))
    by_cases hxy : y0 = x0
    · have hs2 : ((S1 : Int) == (S2 : Int)) = true := by rw [hs1]; simp [hxy]
      have hs3 : (y0 == x0) = true := by simp [hxy]
      clear hs1 hxy HSW
      go_wp2
      go_region_held3 (fun w' => w'.cell? ⟨g2, i, none⟩ = some (.int .u8 y0) ∧ w'.cell? ⟨g2, i + 1, none⟩ = some (.int .u8 x0)) (first | exact ⟨q0, q1⟩ | exact ⟨q50, q51⟩ | exact ⟨q60, q61⟩ | go_keep) (first | (go_at_call 33; (refine (C1.out _ _ ?_ ?_).mono ?_; (focus (repeat (first | exact hB3 | assumption | refine Below.drew ?_ | refine Below.alloc ?_ (by first | exact Nat.le_refl _ | omega | (simp; done) | (simp; omega)) _))); (focus (first | (simp; done) | (rw [hk5 _ _ (by simp; try omega)]; simp; done))); rintro e W5 ⟨rfl, hB5, hz5, hk5, q50, q51⟩)) | (go_at_call 33; (refine (C2.out _ _ ?_ ?_).mono ?_; (focus (repeat (first | exact hB3 | assumption | refine Below.drew ?_ | refine Below.alloc ?_ (by first | exact Nat.le_refl _ | omega | (simp; done) | (simp; omega)) _))); (focus (first | (simp; done) | (rw [hk5 _ _ (by simp; try omega)]; simp; done))); rintro e W6 ⟨rfl, hB6, hz6, hk6, q60, q61⟩)))
      all_goals
        go_wp2
        go_ret
        exact ⟨rfl, HF.out _ (by repeat (first | assumption | refine Below.drew ?_ | refine Below.alloc ?_ (by first | exact Nat.le_refl _ | omega | (simp; done) | (simp; omega)) _))⟩
    · have hs2 : ((S1 : Int) == (S2 : Int)) = false := by rw [hs1]; simp [hxy]
      have hs3 : (y0 == x0) = false := by simp [hxy]
      clear hs1 hxy HSW
      go_wp2
      go_region_held3 (fun w' => w'.cell? ⟨g2, i, none⟩ = some (.int .u8 y0) ∧ w'.cell? ⟨g2, i + 1, none⟩ = some (.int .u8 x0)) (first | exact ⟨q0, q1⟩ | exact ⟨q50, q51⟩ | exact ⟨q60, q61⟩ | go_keep) (first | (go_at_call 33; (refine (C1.out _ _ ?_ ?_).mono ?_; (focus (repeat (first | exact hB3 | assumption | refine Below.drew ?_ | refine Below.alloc ?_ (by first | exact Nat.le_refl _ | omega | (simp; done) | (simp; omega)) _))); (focus (first | (simp; done) | (rw [hk5 _ _ (by simp; try omega)]; simp; done))); rintro e W5 ⟨rfl, hB5, hz5, hk5, q50, q51⟩)) | (go_at_call 33; (refine (C2.out _ _ ?_ ?_).mono ?_; (focus (repeat (first | exact hB3 | assumption | refine Below.drew ?_ | refine Below.alloc ?_ (by first | exact Nat.le_refl _ | omega | (simp; done) | (simp; omega)) _))); (focus (first | (simp; done) | (rw [hk5 _ _ (by simp; try omega)]; simp; done))); rintro e W6 ⟨rfl, hB6, hz6, hk6, q60, q61⟩)))
      all_goals
        go_wp2
        go_ret
        exact ⟨rfl, HF.out _ (by repeat (first | assumption | refine Below.drew ?_ | refine Below.alloc ?_ (by first | exact Nat.le_refl _ | omega | (simp; done) | (simp; omega)) _))⟩

theorem own : ownKnob Try.prog.godebug = none := by kernel_rfl
theorem laidOut : laidOutB Try.prog = true := by kernel_rfl

set_option maxRecDepth 100000 in
theorem lifted (os : Os) (started : os.Started) (H : Type) (enc : TypeId × Value → H) :
    ReturnsInHanded {} Try.checked os 10 .any (Rows.sumEndSpec.pre6 enc Try.prog Try.f10 Rows.sumEndRow.domain false) (Rows.sumEndSpec.post enc Try.prog Try.f10 false true false false) := by
  refine returnsInHanded_of_change (C := Try.checked) own started (by kernel_rfl) Try.func10
    (ChangeSpec.witness6 (enc := enc) (C := Try.checked) false ⟨#[], #[.slice none 0 0, .int .i64 0, .int .u8 0], []⟩ 8 (by kernel_rfl) (by kernel_rfl) (by kernel_rfl) (by kernel_rfl)) ?_
  intro W base args ds gs before hval0 hW hcnd _
  have hval : ∀ (j : Nat) t v, Try.f10.params[j]? = some t → args[j]? = some v → Value.okWide Try.prog W .any base t v := hval0
  have hW' := hW
  obtain ⟨p, q, hA0, hV, rfl, hfz, hnd⟩ := hW
  have hA : DataW.TrodAll enc Try.prog W 0 (fun _ => true) true Try.f10.params.toList args.toList ds p := hA0
  rw [Try.params10] at hA hval
  obtain ⟨v0, vs0, d0, ds0, p0, q0, hargs, rfl, rfl, h0, r0⟩ := trodAll_cons hA
  obtain ⟨v1, vs1, d1, ds1, p1, q1, rfl, rfl, rfl, h1, r1⟩ := trodAll_cons r0
  obtain ⟨v2, vs2, d2, ds2, p2, q2, rfl, rfl, rfl, h2, r2⟩ := trodAll_cons r1
  obtain ⟨rfl, rfl, rfl⟩ := trodAll_nil r2
  obtain rfl : args = #[v0, v1, v2] := by cases args; simp_all
  obtain ⟨rfl, rfl⟩ := trodVars_none hV
  obtain ⟨a0, n0, c0, rfl⟩ := okWide_slice Try.underlying23 (hval 0 23 v0 rfl rfl)
  have k0 := h0
  have lt0 : ∀ x ∈ p0, x.block < W.heap.size := by obtain ⟨m, hm⟩ := k0; exact DataW.trod_lt m _ _ _ hm
  obtain ⟨z0, w0⟩ : ∃ zs, Row .u8 W a0 n0 c0 zs := by
    obtain ⟨fuel, hf⟩ := h0
    rcases open_ints Try.underlying23 Try.underlying5 (by kernel_rfl) hf with ⟨hcs, _⟩ | ⟨x, l, c, zs, hcs, _, hl, hm, hz, _, hcell, hwz⟩
    · simp [Value.cells] at hcs; obtain ⟨rfl, rfl, rfl⟩ := hcs; exact ⟨[], row_none _ _⟩
    · simp [Value.cells] at hcs; obtain ⟨rfl, rfl, rfl⟩ := hcs; exact ⟨_, row_some hl hm (by simpa using hz) hcell hwz⟩
  obtain ⟨a1, rfl, rfl, rfl, w1⟩ := open_int Try.underlying3 (hval 1 3 v1 rfl rfl) h1
  obtain ⟨a2, rfl, rfl, rfl, w2⟩ := open_int Try.underlying5 (hval 2 5 v2 rfl rfl) h2
  clear hA0 hval0
  refine (walk a0 n0 c0 z0 a1 a2 W w0 w1 w2).mono fun e W' ⟨he, bel⟩ => ?_
  subst he
  exact ⟨_, rfl, _, _, _, [], _, [], hW', trodAll_mk1 (shut_bool Try.underlying4 _), (trodAll_cons_mk (Below.trod laidOut (by kernel_rfl) (of_decide_eq_true (by kernel_rfl)) k0 bel lt0) (trodAll_cons_mk (shut_int Try.underlying3 w1) (trodAll_cons_mk (shut_int Try.underlying5 w2) trodAll_mk0))), rfl, bel.frame _, fun h => by cases h⟩

theorem over : Rows.sumEndRow.holds Try.pinned (OpenSpec.ofChange Rows.sumEndSpec) :=
  OpenClaim.holds_of_wide 10 Try.f10 rfl rfl rfl rfl rfl rfl rfl ⟨rfl, rfl, rfl, rfl, rfl⟩ rfl rfl rfl rfl rfl (by kernel_rfl) Try.func10 (by kernel_rfl)
    (of_decide_eq_true (by kernel_rfl)) (by unfold Func.isWrapper; first | (rw [if_pos (by decide +kernel)]; kernel_rfl) | (rw [if_neg (by decide +kernel)]; exact ⟨rfl, rfl⟩))
    (fun os started H enc _ => lifted os started H enc)

theorem proved : Rows.SumEndSaid := over
#print axioms proved
end Go.Proofs.Ytjkfobgeklnblaa.sumEnd
