/- The statement FrameLong: texts of four thousand and ninety-six bytes go into a frame, and not one more, for every length about that bound and every byte. -/
import Derived.Test.YtjkfobgeklnblaaFrameT
import Derived.Test.YtjkfobgeklnblaaBegun
namespace Go.Proofs.Ytjkfobgeklnblaa.frameLong
open Go.ChangeShapes Go.WideShapes Go.ChangeAt Go.RowKit

def fill (k n : Nat) (x : Int) : List Int := List.replicate k x ++ List.replicate (n - k) 0
theorem fill_len (k n : Nat) (x : Int) (h : k ≤ n) : (fill k n x).length = n := by simp [fill]; omega
theorem fill_set (k n : Nat) (x : Int) (h : k < n) : (fill k n x).set k x = fill (k + 1) n x := by
  unfold fill
  rw [List.set_append_right _ _ (by simp)]
  simp only [List.length_replicate, Nat.sub_self]
  obtain ⟨m, hm⟩ : ∃ m, n - k = m + 1 := ⟨n - k - 1, by omega⟩
  rw [hm, show n - (k + 1) = m from by omega, List.replicate_succ, List.set_cons_zero, List.replicate_succ']
  simp
theorem fill_zero (n : Nat) (x : Int) : fill 0 n x = List.replicate n 0 := by simp [fill]

theorem owns_made (w : World) (n : Nat) (hn : n ≤ 100000) : (w.alloc (.cells (madeCells #[.int .u8 0] n) 5)).ownsInts w.heap.size 5 .u8 (.slice (some ⟨w.heap.size, 0, none⟩) n n) (List.replicate n 0) := by
  have hl : (List.replicate n (0 : Int)).length = n := by simp
  have hm : (madeCells #[.int .u8 0] n).toList = List.replicate n (Value.int .u8 0) := toList_madeCells_one _ _
  refine ⟨?_, fun z hz => wf_u8 (by rw [List.eq_of_mem_replicate hz]; omega)⟩
  rw [hl]
  refine ⟨by simp, .inr ⟨_, _, _, rfl, Nat.le_refl _, heap_alloc_new w _, Nat.le_refl _, by simp [maxLen]; omega, ?_, ?_⟩⟩
  · rw [← Array.length_toList, hm]; simp
  · rw [hm]; simp

set_option maxRecDepth 100000 in
set_option maxHeartbeats 400000 in
theorem framePut_long (a0 : Option Addr) (n0 c0 : Nat) (l0 : List Int) (a : Option Addr) (n c : Nat) (t : List Int) (W : World) (h0 : Bs W a0 n0 c0 l0) (h : Bs W a n c t) (hn0 : n0 ≤ 1000000) (hn : 4096 < n) :
    Calls Try.prog 35 #[.slice a0 n0 c0, .slice (some ⟨W.heap.size, 0, none⟩) 1 1] (W.alloc (.cells #[.slice a n c] 23)) fun e w' => ∃ a' c', e = .returned (.slice a' n0 c') ∧ Bs w' a' n0 c' l0 ∧ Below W.heap.size W w' := by
  have hb := below_alloc W (.cells #[.slice a n c] 23) W.heap.size (Nat.le_refl _)
  have hP := Ps.one h
  have H1 := anyTooLong_any (some ⟨W.heap.size, 0, none⟩) 1 1 [t] _ (by omega) hP
  have e1 : tooLong [t] = true := by simp [tooLong, h.1]; omega
  rw [e1] at H1
  have HT := hide H1
  have HC := hide (copyRoomF a0 n0 c0 0 l0 _ (h0.later hb (Nat.le_refl _)) (by omega) (by omega))
  have HL := hide h0.1
  have HB := hide hb
  clear H1 hP e1 hb h h0
  generalize W.alloc (.cells #[.slice a n c] 23) = W1 at *
  go_enter Try.func35, Try.ntmps35
  go_wp2_with fail
  refine HT.out.mono ?_
  rintro e w1 ⟨rfl, rfl⟩
  go_wp2_with fail
  refine HC.out.mono ?_
  rintro e w2 ⟨rfl, ho2, hb2⟩
  obtain ⟨a4, c4, e4, hbs4⟩ := owns_bs ho2 HL.out
  obtain ⟨rfl, rfl⟩ : a4 = some ⟨w1.heap.size, 0, none⟩ ∧ c4 = n0 + 0 := by simpa using e4.symm
  go_wp2
  go_ret
  exact ⟨_, _, rfl, hbs4, HB.out.trans (hb2.mono HB.out.size)⟩

theorem len12 (x : Int) : ∃ (r : Int) (i : Nat), x.tmod 12 = r ∧ -12 < r ∧ r < 12 ∧ (r + 12) % 12 = (i : Int) ∧ i < 12 := by
  obtain ⟨r, i, h1, h2, h3, h4, h5⟩ := place x 12 (by omega)
  exact ⟨r, i, h1, by omega, by omega, h4, h5⟩

set_option maxRecDepth 100000 in
set_option maxHeartbeats 2000000 in
theorem walk (n0 x : Int) (w : World) (w1 : (Lit.int .i64 n0).wf = true) (w2 : (Lit.int .u8 x).wf = true) :
    Calls Try.prog 7 #[.int .i64 n0, .int .u8 x] w fun e w' => e = .returned (.bool true) ∧ Below w.heap.size w w' := by
  have hat := wf_i64 w1
  have hx := of_wf_u8 w2
  clear w1 w2
  obtain ⟨i0, hi0, hz0, hz1, hz2⟩ := info_parts infoB
  obtain ⟨r, d, hr, hr1, hr2, hd, hd12⟩ := len12 n0
  obtain ⟨n, hn⟩ : ∃ n, n = 4090 + d := ⟨_, rfl⟩
  have hnI : (4090 : Int) + (d : Int) = (n : Int) := by omega
  have hn1 : n ≤ 4101 := by omega
  have hn2 : 4090 ≤ n := by omega
  have hmk : ∀ w : World, (Instr.makeSlice 23 (.int .i64 n) (.int .i64 n)).run Try.prog w = .ok (.slice (some ⟨w.heap.size, 0, none⟩) n n) (w.alloc (.cells (madeCells #[.int .u8 0] n) 5)) := by
    intro w
    have := run_make (P := Try.prog) w 23 5 i0 _ Try.underlying23 hi0 hz0 .i64 .i64 n n (by omega) (by omega) (by rw [hz2]; omega) (by omega)
    rw [this, hz1]
    have e1 : ((n : Int)).toNat = n := by omega
    rw [e1, Nat.mul_one]
    rfl
  clear hi0 hz0 hz1 hz2 hn
  go_enter Try.func7, Try.ntmps7
  go_wp2_with fail
  refine (begun_true _).mono ?_
  rintro e W0 ⟨rfl, hb1⟩
  have H1 := hide hb1
  clear hb1
  have HM := hide (owns_made W0 n (by omega))
  have HMB := hide (below_alloc W0 (.cells (madeCells #[.int .u8 0] n) 5) W0.heap.size (Nat.le_refl _))
  rw [← fill_zero n x] at HM
  go_wp2
  generalize W0.alloc (.cells (madeCells #[.int .u8 0] n) 5) = W1 at *
  clear hmk
  go_loopw [24] (fun i wr => ∃ k : Nat, k ≤ n ∧ i = .int .i64 k ∧ Hid (wr.ownsInts W0.heap.size 5 .u8 (.slice (some ⟨W0.heap.size, 0, none⟩) n n) (fill k n x)) ∧ Hid (Below W0.heap.size W0 wr)) (fun i _ => n - (intOf i).toNat)
  case atStart => exact ⟨0, by omega, rfl, HM, HMB⟩
  case round =>
    obtain ⟨k, hk, rfl, HO, HBe⟩ := hrel
    by_cases hlt : k < n
    · have ho := HO.out
      have hfl := fill_len k n x hk
      rw [show n = (fill k n x).length from hfl.symm] at ho
      have ho2 : wr.ownsInts W0.heap.size 5 .u8 (.slice (some ⟨W0.heap.size, 0, none⟩) (fill k n x).length n) (fill k n x) := by rw [hfl]; exact HO.out
      obtain ⟨c0, f0, d0, e0⟩ := setAt (i := k) (y := x) ho2 (by omega) hx
      rw [hfl, fill_set k n x hlt] at d0
      have HD0 := hide d0
      have HE0 := hide (HBe.out.trans (grown_below e0 (Nat.le_refl _) HBe.out.size))
      clear ho hfl ho2 d0 e0
      go_wp2
      go_roundw
      case rel => exact ⟨k + 1, by omega, by go_num, HD0, HE0⟩
      case measure => simp [intOf]; omega
    · obtain rfl : k = n := by omega
      obtain ⟨a1, c1, e1, hbs1⟩ := owns_bs HO.out (n := k) (fill_len k k x (Nat.le_refl _))
      obtain ⟨rfl, rfl⟩ : some ⟨W0.heap.size, 0, none⟩ = a1 ∧ k = c1 := by simpa using e1
      have hb2 := below_alloc wr (.cells #[.int .u8 7] 5) wr.heap.size (Nat.le_refl _)
      have h7 := Bs.one wr 7 (by omega)
      have ht := hbs1.later hb2 (Nat.le_refl _)
      have hs2 : (wr.alloc (.cells #[.int .u8 7] 5)).heap.size = wr.heap.size + 1 := by simp
      have H2 := hide ((H1.out.trans (HBe.out.mono H1.out.size)).trans (hb2.mono (Nat.le_trans H1.out.size HBe.out.size)))
      have hZ : w.heap.size ≤ wr.heap.size + 1 := by have := H2.out.size; omega
      have H7 := hide h7
      have HT := hide ht
      clear hb2 h7 ht e1 hbs1
      by_cases hlong : 4096 < k
      · have HP := hide (framePut_long _ _ _ _ _ _ _ _ _ H7.out HT.out (by omega) hlong)
        rw [hs2] at HP
        have hlI : (4096 : Int) < (k : Int) := by omega
        go_wp2_with fail
        refine HP.out.mono ?_
        rintro e w3 ⟨a3, c3, rfl, hbs3, hb3⟩
        have hb4 := below_alloc w3 (.cells #[.int .u8 7] 5) w3.heap.size (Nat.le_refl _)
        have SM := hide (same_any _ _ _ _ _ _ _ _ _ (hbs3.later hb4 (Nat.le_refl _)) (Bs.one w3 7 (by omega)) true (by simp))
        have H4 := hide ((H2.out.trans (hb3.mono hZ)).trans (hb4.mono (Nat.le_trans H2.out.size hb3.size)))
        clear HP hbs3 hb3 hb4
        go_wp2_with fail
        refine SM.out.mono ?_
        rintro e w4 ⟨rfl, rfl⟩
        go_wp2
        go_ret
        exact ⟨rfl, H4.out⟩
      · have HP := hide (framePut_one _ _ _ _ _ _ _ _ _ H7.out HT.out (by omega) (by omega))
        rw [hs2] at HP
        have hlI : ¬ (4096 : Int) < (k : Int) := by omega
        go_wp2_with fail
        refine HP.out.mono ?_
        rintro e w3 ⟨g3, d3, k3, c3, X3, rfl, HX3, HD3, hk3, hk3', hd3, hd3', hg3, hc3, hc3', hbs3, hb3⟩
        have s1 := fun W => run_from g3 0 k3 c3 1 d3 (1 : Int) rfl (by omega) (by omega) (by omega) W
        have P3 := hide (hbs3.drop 1 d3 (by omega) (by omega))
        have e1 : X3.drop 1 = frameB (fill k k x) ++ [] := by rw [HX3.out]; simp
        rw [e1, Nat.zero_add] at P3
        have HG := hide (frameGet_any _ _ _ _ _ P3.out)
        rw [getF_whole (fill k k x) [] (by rw [fill_len k k x (Nat.le_refl _)]; omega), ← HD3.out] at HG
        have H3 := hide (H2.out.trans (hb3.mono hZ))
        have HT3 := hide (HT.out.later hb3 (Nat.le_of_eq hs2))
        clear HP hbs3 hb3 e1
        go_wp2_with fail
        refine HG.out.mono ?_
        rintro e w4 ⟨a4, k4, c4, rfl, hbs4, hb4⟩
        have SM := hide (same_any _ _ _ _ _ _ _ _ _ (HT3.out.later hb4 (Nat.le_refl _)) hbs4 true (by simp))
        have H4 := hide (H3.out.trans (hb4.mono H3.out.size))
        have q1 : ((d3 : Int) == (k3 : Int) - 1) = true := by
          have : (d3 : Int) = (k3 : Int) - 1 := by omega
          rw [this]; simp
        clear hbs4 hb4 HG
        go_wp2_with fail
        refine SM.out.mono ?_
        rintro e w5 ⟨rfl, rfl⟩
        go_wp2
        go_ret
        exact ⟨rfl, H4.out⟩

theorem own : ownKnob Try.prog.godebug = none := by kernel_rfl
theorem laidOut : laidOutB Try.prog = true := by kernel_rfl

set_option maxRecDepth 100000 in
theorem lifted (os : Os) (started : os.Started) (H : Type) (enc : TypeId × Value → H) :
    ReturnsInHanded {} Try.checked os 7 .any (Rows.frameLongSpec.pre6 enc Try.prog Try.f7 Rows.frameLongRow.domain false) (Rows.frameLongSpec.post enc Try.prog Try.f7 false true false false) := by
  refine returnsInHanded_of_change (C := Try.checked) own started (by kernel_rfl) Try.func7
    (ChangeSpec.witness6 (enc := enc) (C := Try.checked) false ⟨#[], #[.int .i64 0, .int .u8 0], []⟩ 8 (by kernel_rfl) (by kernel_rfl) (by kernel_rfl) (by kernel_rfl)) ?_
  intro W base args ds gs before hval0 hW hcnd _
  have hval : ∀ (j : Nat) t v, Try.f7.params[j]? = some t → args[j]? = some v → Value.okWide Try.prog W .any base t v := hval0
  have hW' := hW
  obtain ⟨p, q, hA0, hV, rfl, hfz, hnd⟩ := hW
  have hA : DataW.TrodAll enc Try.prog W 0 (fun _ => true) true Try.f7.params.toList args.toList ds p := hA0
  rw [Try.params7] at hA hval
  obtain ⟨v0, vs0, d0, ds0, p0, q0, hargs, rfl, rfl, h0, r0⟩ := trodAll_cons hA
  obtain ⟨v1, vs1, d1, ds1, p1, q1, rfl, rfl, rfl, h1, r1⟩ := trodAll_cons r0
  obtain ⟨rfl, rfl, rfl⟩ := trodAll_nil r1
  obtain rfl : args = #[v0, v1] := by cases args; simp_all
  obtain ⟨rfl, rfl⟩ := trodVars_none hV
  obtain ⟨a0, rfl, rfl, rfl, w0⟩ := open_int Try.underlying3 (hval 0 3 v0 rfl rfl) h0
  obtain ⟨a1, rfl, rfl, rfl, w1⟩ := open_int Try.underlying5 (hval 1 5 v1 rfl rfl) h1
  clear hA0 hval0
  refine (walk a0 a1 W w0 w1).mono fun e W' ⟨he, bel⟩ => ?_
  subst he
  exact ⟨_, rfl, _, _, _, [], _, [], hW', trodAll_mk1 (shut_bool Try.underlying4 _), (trodAll_cons_mk (shut_int Try.underlying3 w0) (trodAll_cons_mk (shut_int Try.underlying5 w1) trodAll_mk0)), rfl, bel.frame _, fun h => by cases h⟩

theorem over : Rows.frameLongRow.holds Try.pinned (OpenSpec.ofChange Rows.frameLongSpec) :=
  OpenClaim.holds_of_wide 7 Try.f7 rfl rfl rfl rfl rfl rfl rfl ⟨rfl, rfl, rfl, rfl, rfl⟩ rfl rfl rfl rfl rfl (by kernel_rfl) Try.func7 (by kernel_rfl)
    (of_decide_eq_true (by kernel_rfl)) (by unfold Func.isWrapper; first | (rw [if_pos (by decide +kernel)]; kernel_rfl) | (rw [if_neg (by decide +kernel)]; exact ⟨rfl, rfl⟩))
    (fun os started H enc _ => lifted os started H enc)

theorem proved : Rows.FrameLongSaid := over
#print axioms proved
end Go.Proofs.Ytjkfobgeklnblaa.frameLong
