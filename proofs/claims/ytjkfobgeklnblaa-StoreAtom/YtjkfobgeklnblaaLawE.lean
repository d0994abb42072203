/- Texts: contracts of num.Text, num.GetText and of the document's own. -/
import Derived.Test.YtjkfobgeklnblaaLawD
namespace Go.Proofs.Ytjkfobgeklnblaa
open Go.RowKit

set_option maxRecDepth 100000 in
theorem text_any (s : ByteArray) (m : Nat) (J : Int) (w : World) (_hs : s.size ≤ 9223372036854775807) (_hm : m ≤ 100000) (hJ : J = (m : Int)) :
    Calls Try.prog 26 #[.string s, .int .i64 J] w fun e w' => ∃ t, e = .returned (.string t) ∧ w' = w ∧ t.size ≤ m ∧ Hid (sB t = (sB s).take m) := by
  subst hJ
  by_cases hle : s.size ≤ m
  · have HE : Hid ((s.extract 0 s.size).size ≤ m ∧ sB (s.extract 0 s.size) = (sB s).take m) := by
      refine ⟨by simp; omega, ?_⟩
      rw [List.take_of_length_le (by rw [sB_len]; exact hle)]
      simp [sB]
    go_enter Try.func26, Try.ntmps26
    go_wp2
    go_ret
    exact ⟨_, rfl, rfl, by have := HE.out.1; simpa using this, by have := HE.out.2; show _ = _; simpa using this⟩
  · have hlt : m < s.size := by omega
    have HE : Hid ((s.extract 0 m).size ≤ m ∧ sB (s.extract 0 m) = (sB s).take m) := by
      refine ⟨by simp; omega, ?_⟩
      simp [sB, List.map_take]
    go_enter Try.func26, Try.ntmps26
    go_wp2
    go_ret
    exact ⟨_, rfl, rfl, HE.out.1, HE.out.2⟩

set_option maxRecDepth 100000 in
set_option maxHeartbeats 400000 in
theorem numText_any (a : Option Addr) (n cap : Nat) (s : ByteArray) (l : List Int) (w : World) (h : Bs w a n cap l) (hn : n ≤ 1099511627776) (hs : s.size ≤ 1000000) :
    Calls Try.prog 27 #[.slice a n cap, .string s] w fun e w' => ∃ v', e = .returned v' ∧ w'.ownsInts w.heap.size 5 .u8 v' (l ++ (M.numB 9 s.size ++ sB s)) ∧ Below w.heap.size w w' := by
  have hl := h.1
  have HC := hide (copyRoom a n cap (10 + s.size) l w h hn (by omega))
  have hd := (M.numB_len 9 s.size).2
  go_enter Try.func27, Try.ntmps27
  go_wp2_with fail
  refine HC.out.mono ?_
  rintro e w1 ⟨rfl, ho1, hb1⟩
  go_wp2_with fail
  refine (write_any w.heap.size _ l s.size _ ho1 hb1.size (by omega) (by omega)).mono ?_
  rintro e w2 ⟨v2, rfl, ho2, hb2⟩
  have hB2 := Nat.le_trans hb1.size hb2.size
  have HL2 := hide (show (l ++ M.numB 9 s.size).length + s.size ≤ 70368744177664 by rw [List.length_append]; omega)
  go_wp2_with (at_builtin; refine wpList_appS rfl (.tmp 15) (.tmp 16) rfl w.heap.size _ _ rfl ho2 s rfl HL2.out hB2 ?_)
  intro v3 w3 ho3 hg3
  have hb3 := (hb1.trans hb2).trans (below_app ho2 hg3 hB2)
  go_wp2
  go_ret
  exact ⟨_, rfl, ho3, hb3⟩

theorem numText_bs (a : Option Addr) (n cap : Nat) (s : ByteArray) (l : List Int) (w : World) (h : Bs w a n cap l) (hn : n ≤ 1099511627776) (hs : s.size ≤ 1000000) :
    Calls Try.prog 27 #[.slice a n cap, .string s] w fun e w' => ∃ g d k c X, e = .returned (.slice (some ⟨g, 0, none⟩) k c) ∧ Hid (X = l ++ (M.numB 9 s.size ++ sB s)) ∧ Hid (d = (M.numB 9 s.size).length) ∧ n + d + s.size ≤ k ∧ k ≤ n + d + s.size ∧ 1 ≤ d ∧ d ≤ 10 ∧ k ≤ c ∧ c ≤ 9223372036854775807 ∧ Bs w' (some ⟨g, 0, none⟩) k c X ∧ Below w.heap.size w w' := by
  refine (numText_any a n cap s l w h hn hs).mono ?_
  rintro e w' ⟨v, rfl, ho, hb⟩
  have hd := M.numB_len 9 s.size
  obtain ⟨g, c, rfl, _, hbs⟩ := owns_shape ho (by simp; omega)
  have e1 : (l ++ (M.numB 9 s.size ++ sB s)).length = n + (M.numB 9 s.size).length + s.size := by rw [List.length_append, List.length_append, h.1, sB_len]; omega
  rw [e1] at hbs ⊢
  exact ⟨g, _, _, c, _, rfl, rfl, rfl, Nat.le_refl _, Nat.le_refl _, hd.1, hd.2, hbs.2.1, hbs.2.2.1, hbs, hb⟩

set_option maxRecDepth 100000 in
theorem refText_any (s : ByteArray) (w : World) (hs : s.size ≤ 1000000) :
    Calls Try.prog 28 #[.string s] w fun e w' => ∃ v', e = .returned v' ∧ w'.ownsInts w.heap.size 5 .u8 v' (M.numB 9 s.size ++ sB s) ∧ Below w.heap.size w w' := by
  have hd := (M.numB_len 9 s.size).2
  go_enter Try.func28, Try.ntmps28
  go_wp2_with fail
  refine (refNum_any s.size _ (by omega)).mono ?_
  rintro e w1 ⟨v1, rfl, ho1, hb1⟩
  go_wp2_with (at_builtin; refine wpList_appS rfl (.tmp 6) (.tmp 7) rfl w.heap.size _ _ rfl ho1 s rfl (by omega) hb1.size ?_)
  intro v3 w3 ho3 hg3
  have hb3 := hb1.trans (below_app ho1 hg3 hb1.size)
  go_wp2
  go_ret
  exact ⟨_, rfl, ho3, hb3⟩

theorem refText_bs (s : ByteArray) (w : World) (hs : s.size ≤ 1000000) :
    Calls Try.prog 28 #[.string s] w fun e w' => ∃ a k c X, e = .returned (.slice a k c) ∧ Hid (X = M.numB 9 s.size ++ sB s) ∧ k ≤ s.size + 10 ∧ Bs w' a k c X ∧ Below w.heap.size w w' := by
  refine (refText_any s w hs).mono ?_
  rintro e w' ⟨v, rfl, ho, hb⟩
  have hd := M.numB_len 9 s.size
  obtain ⟨a, c, rfl, hbs⟩ := Bs.of_owns ho
  exact ⟨a, _, c, _, rfl, rfl, by rw [List.length_append, sB_len]; omega, hbs, hb⟩

/-- What num.GetText reads: the text, how far, the error's number. -/
def getT (l : List Int) (most : Int) : ByteArray × Nat × Int :=
  if (M.getL 0 0 l).2.2 ≠ 0 then (ByteArray.empty, 0, (M.getL 0 0 l).2.2)
  else if most < 0 ∨ most < (M.getL 0 0 l).1 then (ByteArray.empty, 0, 10)
  else if l.length - (M.getL 0 0 l).2.1 < (M.getL 0 0 l).1 then (ByteArray.empty, 0, 8)
  else (strOfNums ((l.drop (M.getL 0 0 l).2.1).take (M.getL 0 0 l).1), (M.getL 0 0 l).2.1 + (M.getL 0 0 l).1, 0)

theorem ret_T {s s' : ByteArray} {b c b' c' : Int} (h1 : s = s') (h2 : b = b') (h3 : c = c') : Ending.returned (.tuple #[.string s, .int .i64 b, .int .i64 c]) = .returned (.tuple #[.string s', .int .i64 b', .int .i64 c']) := by rw [h1, h2, h3]

set_option maxRecDepth 100000 in
set_option maxHeartbeats 400000 in
theorem getText_any (a : Option Addr) (n cap : Nat) (most : Int) (l : List Int) (w : World) (h : Bs w a n cap l) (h0 : -9223372036854775808 ≤ most) (h1 : most ≤ 9223372036854775807) :
    Calls Try.prog 29 #[.slice a n cap, .int .i64 most] w fun e w' => e = .returned (.tuple #[.string (getT l most).1, .int .i64 (getT l most).2.1, .int .i64 (getT l most).2.2]) ∧ w' = w := by
  have hf := M.getL_facts l 0 0 (by omega) (by decide) h.2.2.2.2.2
  have hg := get_any a n cap l w h
  have hl := h.1
  have hnc := h.2.1
  have hc63 := h.2.2.1
  have HB := hide h
  obtain ⟨T, HT⟩ : ∃ T, Hid (T = getT l most) := ⟨_, rfl⟩
  rw [← HT.out]
  have ht := HT.out
  unfold getT at ht
  generalize M.getL 0 0 l = G at *
  obtain ⟨L, took, e⟩ := G
  simp only [Nat.zero_add] at hf ht
  have HG := hide hg
  clear hg h
  by_cases he : e = 0
  · subst he
    have hf2 : L < 18446744073709551616 ∧ 1 ≤ took ∧ took ≤ n ∧ took ≤ 10 := by
      refine ⟨hf.1, ?_⟩
      rcases hf.2 with ⟨_, q1, q2, q3⟩ | ⟨q1, _, _⟩
      · exact ⟨q1, by omega, q3⟩
      · omega
    obtain ⟨hL, ht1, htn, ht10⟩ := hf2
    clear hf
    rw [if_neg (by simp)] at ht
    by_cases hm : most < 0
    · rw [if_pos (Or.inl hm)] at ht
      have HT2 := hide ht
      clear ht
      go_enter Try.func29, Try.ntmps29
      go_wp2_with fail
      refine HG.out.mono ?_
      rintro e w1 ⟨rfl, rfl⟩
      go_wp2
      go_ret3
      rw [HT2.out]
      exact ⟨rfl, rfl⟩
    · by_cases hm2 : most < (L : Int)
      · rw [if_pos (Or.inr hm2)] at ht
        have HT2 := hide ht
        have hm3 : (0 : Int) ≤ most := by omega
        clear ht
        go_enter Try.func29, Try.ntmps29
        go_wp2_with fail
        refine HG.out.mono ?_
        rintro e w1 ⟨rfl, rfl⟩
        go_wp2
        go_ret3
        rw [HT2.out]
        exact ⟨rfl, rfl⟩
      · rw [if_neg (by omega)] at ht
        have hm3 : (0 : Int) ≤ most := by omega
        have hm4 : (L : Int) ≤ most := by omega
        rw [hl] at ht
        by_cases hr : n - took < L
        · rw [if_pos hr] at ht
          have HT2 := hide ht
          have hr2 : (n : Int) - took < L := by omega
          have hr3 : (0 : Int) ≤ (n : Int) - took := by omega
          clear ht hr
          go_enter Try.func29, Try.ntmps29
          go_wp2_with fail
          refine HG.out.mono ?_
          rintro e w1 ⟨rfl, rfl⟩
          go_wp2
          go_ret3
          rw [HT2.out]
          exact ⟨rfl, rfl⟩
        · rw [if_neg hr] at ht
          have HT2 := hide ht
          have hr2 : (L : Int) ≤ (n : Int) - took := by omega
          have hr3 : (0 : Int) ≤ (n : Int) - took := by omega
          have hL3 : (L : Int) ≤ 9223372036854775807 := by omega
          have hsum : (took : Int) + L ≤ n := by omega
          have s1 := fun W => run_cutA a n cap took (took + L) L (took : Int) ((took : Int) + L) rfl (by omega) (by omega) (by omega) (by omega) W
          have cv := conv_any _ _ _ _ w w (HB.out.cutAt took (took + L) L (by omega) (by omega) (by omega)) (fun _ _ h => h)
          generalize (l.drop took).take L = Y at *
          clear ht hr
          go_enter Try.func29, Try.ntmps29
          go_wp2_with fail
          refine HG.out.mono ?_
          rintro e w1 ⟨rfl, rfl⟩
          go_wp2
          go_ret3
          rw [HT2.out]
          exact ⟨ret_T rfl (by simp) rfl, rfl⟩
  · rw [if_pos he] at ht
    have HT2 := hide ht
    have hb : (e != 0) = true := by simpa using he
    clear hf ht he
    go_enter Try.func29, Try.ntmps29
    go_wp2_with fail
    refine HG.out.mono ?_
    rintro e w1 ⟨rfl, rfl⟩
    go_wp2
    go_ret3
    rw [HT2.out]
    exact ⟨rfl, rfl⟩

theorem getT_put (t : ByteArray) (most : Int) (hs : t.size ≤ 1000000) : getT (M.numB 9 t.size ++ sB t) most = if most < t.size then (ByteArray.empty, 0, 10) else (t, (M.numB 9 t.size).length + t.size, 0) := by
  unfold getT
  rw [M.getL_put _ _ (by omega)]
  simp only
  rw [if_neg (by simp)]
  by_cases h : most < t.size
  · rw [if_pos (by omega), if_pos h]
  · rw [if_neg (by omega), if_neg h, if_neg (by rw [List.length_append, sB_len]; omega)]
    rw [List.drop_left, List.take_of_length_le (by rw [sB_len]; exact Nat.le_refl _), str_sB]

theorem getT_torn (t : ByteArray) (most : Int) (i : Nat) (hs : t.size ≤ 1000000) (hm : (t.size : Int) ≤ most) (hi : i < (M.numB 9 t.size).length + t.size) : getT ((M.numB 9 t.size ++ sB t).take i) most = (ByteArray.empty, 0, 8) := by
  unfold getT
  by_cases h : i < (M.numB 9 t.size).length
  · rw [List.take_append_of_le_length (by omega), getL_torn 9 _ _ _ _ rfl h]
    rfl
  · rw [List.take_append, List.take_of_length_le (by omega), M.getL_put _ _ (by omega)]
    simp only
    rw [if_neg (by simp), if_neg (by omega), if_pos (by rw [List.length_append, List.length_take, sB_len]; omega)]
theorem run_uptoU (a : Option Addr) (n cap j : Nat) (J : Int) (eJ : J = (j : Int)) (hj : j ≤ cap) (W : World) :
    (Instr.slice 58 (.slice a n cap) none (some (.int .i64 J)) none).run Try.prog W = .ok (.slice a j cap) W := by
  subst eJ
  have e1 : (Instr.sliceBound (.int .i64 (j : Int)) cap .sliceAcap).run Try.prog W = .ok j W := by
    have := run_sliceBound (P := Try.prog) W .i64 (j : Int) cap .sliceAcap (by omega) (by omega)
    simpa using this
  simp [Instr.slice, Instr.sliceBounds, run_underlying Try.underlying58, e1]
  try (cases a <;> simp [Addr.add])

theorem run_uptoI (a : Option Addr) (n cap j : Nat) (J : Int) (eJ : J = (j : Int)) (hj : j ≤ cap) (W : World) :
    (Instr.slice 59 (.slice a n cap) none (some (.int .i64 J)) none).run Try.prog W = .ok (.slice a j cap) W := by
  subst eJ
  have e1 : (Instr.sliceBound (.int .i64 (j : Int)) cap .sliceAcap).run Try.prog W = .ok j W := by
    have := run_sliceBound (P := Try.prog) W .i64 (j : Int) cap .sliceAcap (by omega) (by omega)
    simpa using this
  simp [Instr.slice, Instr.sliceBounds, run_underlying Try.underlying59, e1]
  try (cases a <;> simp [Addr.add])
end Go.Proofs.Ytjkfobgeklnblaa
