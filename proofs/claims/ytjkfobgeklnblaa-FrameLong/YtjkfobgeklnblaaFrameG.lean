/- frame.Get of whatever bytes, and frame.All: contracts. -/
import Derived.Test.YtjkfobgeklnblaaLawF
namespace Go.Proofs.Ytjkfobgeklnblaa
open Go.RowKit

/-- What frame.Get reads: the text, how many bytes it took, the error's number. -/
def getF (l : List Int) : List Int × Nat × Int :=
  if (M.getL 0 0 l).2.2 ≠ 0 then ([], 0, (M.getL 0 0 l).2.2)
  else if 4096 < (M.getL 0 0 l).1 then ([], 0, 10)
  else if l.length < (M.getL 0 0 l).2.1 + 4 + (M.getL 0 0 l).1 then ([], 0, 8)
  else if readL ((l.drop (M.getL 0 0 l).2.1).take 4) ≠ sumOf ((l.drop ((M.getL 0 0 l).2.1 + 4)).take (M.getL 0 0 l).1) then ([], 0, 7)
  else ((l.drop ((M.getL 0 0 l).2.1 + 4)).take (M.getL 0 0 l).1, (M.getL 0 0 l).2.1 + 4 + (M.getL 0 0 l).1, 0)

set_option maxRecDepth 100000 in
set_option maxHeartbeats 800000 in
theorem frameGet_body (b o n cap L took : Nat) (l : List Int) (w : World) (h : Bs w (some ⟨b, o, none⟩) n cap l) (hg : M.getL 0 0 l = (L, took, 0)) (hL4 : L ≤ 4096) (ht : 1 ≤ took) (ht10 : took ≤ 10) (hfit : took + 4 + L ≤ n) :
    Calls Try.prog 36 #[.slice (some ⟨b, o, none⟩) n cap] w fun e w' => ∃ a' k c, e = .returned (.tuple #[.slice a' k c, .int .i64 (getF l).2.1, .int .i64 (getF l).2.2]) ∧ Bs w' a' k c (getF l).1 ∧ (∀ ad, a' = some ad → w.heap.size ≤ ad.block ∧ ad.block < w'.heap.size) ∧ Below w.heap.size w w' := by
  have hn := h.2.1
  have hcap := h.2.2.1
  have H1 := get_any (some ⟨b, o, none⟩) n cap l w h
  have hT : getF l = if readL ((l.drop took).take 4) ≠ sumOf ((l.drop (took + 4)).take L) then ([], 0, 7) else ((l.drop (took + 4)).take L, took + 4 + L, 0) := by
    unfold getF
    rw [hg]
    simp only
    rw [if_neg (by simp), if_neg (by omega), if_neg (by rw [h.1]; omega)]
  rw [hg] at H1
  have HG := hide H1
  have HB1 : Hid (∀ W, Below w.heap.size w W → Bs W (some ⟨b, o + took, none⟩) 4 (cap - took) ((l.drop took).take 4)) := by
    intro W hW
    have := (h.cut (i := took) (j := took + 4) (by omega) (by omega)).later hW (Nat.le_refl _)
    simpa using this
  have HB2 : Hid (∀ W, Below w.heap.size w W → Bs W (cutA (some ⟨b, o, none⟩) cap (took + 4)) L (cap - (took + 4)) ((l.drop (took + 4)).take L)) := by
    intro W hW
    exact (h.cutAt (took + 4) (took + 4 + L) L (by omega) (by omega) (by omega)).later hW (Nat.le_refl _)
  obtain ⟨X1, HX1⟩ : ∃ X, Hid (X = (l.drop took).take 4) := ⟨_, rfl⟩
  obtain ⟨X2, HX2⟩ : ∃ X, Hid (X = (l.drop (took + 4)).take L) := ⟨_, rfl⟩
  rw [← HX1.out] at HB1 hT
  rw [← HX2.out] at HB2 hT
  have C1 : Hid (∀ W, Below w.heap.size w W → Calls Try.prog 60 #[.slice (some ⟨b, o + took, none⟩) 4 (cap - took)] W fun e w' => e = .returned (.int .u32 (readL X1)) ∧ w' = W) :=
    fun W hW => readSum_any _ _ _ X1 W (HB1.out W hW) (by omega) (by omega)
  have HW1 : Hid (Below w.heap.size w w.drew) := (Below.refl _ _).drew
  have HW2 : Hid (∀ o, Below w.heap.size w (w.alloc o).drew) := fun o => ((Below.refl _ _).alloc (Nat.le_refl _) _).drew
  have C2 : Hid (Calls Try.prog 33 #[.slice (some ⟨w.heap.size, 0, none⟩) 1 1] (w.alloc (.cells #[.slice (cutA (some ⟨b, o, none⟩) cap (took + 4)) L (cap - (took + 4))] 23)).drew fun e w' => e = .returned (.int .u32 (sumOf X2)) ∧ Below w.heap.size w w') := by
    refine (of_one 1 (Ps.drew (Ps.one (HB2.out w (Below.refl _ _))))).mono ?_
    rintro e w' ⟨S, rfl, HS, _, hb⟩
    refine ⟨ret_int (by rw [HS.out]), ?_⟩
    exact (HW2.out _).trans (hb.mono (by simp))
  have s1 := fun W => run_cut b o n cap took (took + 4) 4 (took : Int) ((took : Int) + 4) rfl (by omega) (by omega) (by omega) (by omega) (by omega) W
  have s2 := fun W => run_cutA (some ⟨b, o, none⟩) n cap (took + 4) (took + 4 + L) L ((took : Int) + 4) ((took : Int) + 4 + L) (by omega) (by omega) (by omega) (by omega) (by omega) W
  obtain ⟨T, HT⟩ : ∃ T, Hid (T = getF l) := ⟨_, rfl⟩
  rw [← HT.out] at hT ⊢
  clear hg H1 h
  generalize cutA (some ⟨b, o, none⟩) cap (took + 4) = A2 at *
  by_cases hs : readL X1 = sumOf X2
  · rw [if_neg (by simpa using hs)] at hT
    have HT2 := hide hT
    have hne : (((readL X1 : Nat) : Int) != ((sumOf X2 : Nat) : Int)) = false := by rw [hs]; simp
    clear hT hs
    go_enter Try.func36, Try.ntmps36
    go_wp2_with fail
    refine HG.out.mono ?_
    rintro e w1 ⟨rfl, rfl⟩
    go_wp2
    go_region_with (first | (go_at_call 60; (refine (C1.out _ ?_).mono ?_; (first | exact HW1.out | exact HW2.out _); rintro e W1 ⟨rfl, rfl⟩)) | (go_at_call 33; (refine C2.out.mono ?_; rintro e W2 ⟨rfl, hb2⟩)))
    all_goals
      have C3 := hide (copyRoomF A2 L (cap - (took + 4)) 0 X2 W2 (HB2.out W2 hb2) (by omega) (by omega))
      go_wp2_with fail
      refine C3.out.mono ?_
      rintro e w3 ⟨rfl, hown3, hb3⟩
      obtain ⟨a4, c4, e4, hbs4⟩ := owns_bs hown3 (HB2.out W2 hb2).1
      obtain ⟨rfl, rfl⟩ : a4 = some ⟨W2.heap.size, 0, none⟩ ∧ c4 = L + 0 := by simpa using e4.symm
      go_wp2
      go_ret3
      rw [HT2.out]
      exact ⟨_, _, _, rfl, hbs4, (fun ad e => by cases e; exact ⟨hb2.size, (hown3.1.lt _ rfl).2⟩), hb2.trans (hb3.mono hb2.size)⟩
  · rw [if_pos hs] at hT
    have HT2 := hide hT
    have hne : (((readL X1 : Nat) : Int) != ((sumOf X2 : Nat) : Int)) = true := by simp; omega
    clear hT hs
    go_enter Try.func36, Try.ntmps36
    go_wp2_with fail
    refine HG.out.mono ?_
    rintro e w1 ⟨rfl, rfl⟩
    go_wp2
    go_region_with (first | (go_at_call 60; (refine (C1.out _ ?_).mono ?_; (first | exact HW1.out | exact HW2.out _); rintro e W1 ⟨rfl, rfl⟩)) | (go_at_call 33; (refine C2.out.mono ?_; rintro e W2 ⟨rfl, hb2⟩)))
    all_goals
      go_wp2
      go_ret3
      rw [HT2.out]
      exact ⟨_, _, _, rfl, Bs.nil _, (fun ad e => by cases e), hb2⟩

set_option maxRecDepth 100000 in
set_option maxHeartbeats 400000 in
theorem frameGet_new (a : Option Addr) (n cap : Nat) (l : List Int) (w : World) (h : Bs w a n cap l) :
    Calls Try.prog 36 #[.slice a n cap] w fun e w' => ∃ a' k c, e = .returned (.tuple #[.slice a' k c, .int .i64 (getF l).2.1, .int .i64 (getF l).2.2]) ∧ Bs w' a' k c (getF l).1 ∧ (∀ ad, a' = some ad → w.heap.size ≤ ad.block ∧ ad.block < w'.heap.size) ∧ Below w.heap.size w w' := by
  have hf := M.getL_facts l 0 0 (by omega) (by decide) h.2.2.2.2.2
  obtain ⟨L, took, e, hG⟩ : ∃ L took e, M.getL 0 0 l = (L, took, e) := ⟨_, _, _, rfl⟩
  rw [hG] at hf
  simp only [Nat.zero_add] at hf
  have hl := h.1
  have hcap := h.2.2.1
  have hnc := h.2.1
  by_cases he : e = 0
  · subst he
    have hf2 : 1 ≤ took ∧ took ≤ n ∧ took ≤ 10 := by
      rcases hf.2 with ⟨_, q1, q2, q3⟩ | ⟨q1, _, _⟩
      · exact ⟨q1, by omega, q3⟩
      · omega
    by_cases hL : L ≤ 4096
    · by_cases hfit : took + 4 + L ≤ n
      · obtain ⟨b, o, rfl, _⟩ := h.2.2.2.2.1 (by omega)
        exact frameGet_body b o n cap L took l w h hG hL hf2.1 hf2.2.2 hfit
      · have hT : getF l = ([], 0, 8) := by
          unfold getF
          rw [hG]
          simp only
          rw [if_neg (by simp), if_neg (by omega), if_pos (by omega)]
        have g1 := get_any a n cap l w h
        rw [hG] at g1
        have HG := hide g1
        rw [hT]
        have hfit2 : (n : Int) < (took : Int) + 4 + L := by omega
        have ht1 := hf2.1
        have ht2 := hf2.2.2
        clear g1 hG hT hf hfit
        go_enter Try.func36, Try.ntmps36
        go_wp2_with fail
        refine HG.out.mono ?_
        rintro e w1 ⟨rfl, rfl⟩
        go_wp2
        go_ret3
        exact ⟨_, _, _, rfl, Bs.nil _, (fun ad e => by cases e), Below.refl _ _⟩
    · have hT : getF l = ([], 0, 10) := by
        unfold getF
        rw [hG]
        simp only
        rw [if_neg (by simp), if_pos (by omega)]
      have g1 := get_any a n cap l w h
      rw [hG] at g1
      have HG := hide g1
      rw [hT]
      have hL2 : (4096 : Int) < (L : Int) := by omega
      clear g1 hG hT hf hL
      go_enter Try.func36, Try.ntmps36
      go_wp2_with fail
      refine HG.out.mono ?_
      rintro e w1 ⟨rfl, rfl⟩
      go_wp2
      go_ret3
      exact ⟨_, _, _, rfl, Bs.nil _, (fun ad e => by cases e), Below.refl _ _⟩
  · have hT : getF l = ([], 0, e) := by
      unfold getF
      rw [hG]
      simp only
      rw [if_pos he]
    have g1 := get_any a n cap l w h
    rw [hG] at g1
    have HG := hide g1
    rw [hT]
    have hb : (e != 0) = true := by simpa using he
    clear g1 hG hT hf he
    go_enter Try.func36, Try.ntmps36
    go_wp2_with fail
    refine HG.out.mono ?_
    rintro e w1 ⟨rfl, rfl⟩
    go_wp2
    go_ret3
    exact ⟨_, _, _, rfl, Bs.nil _, (fun ad e => by cases e), Below.refl _ _⟩

theorem frameGet_any (a : Option Addr) (n cap : Nat) (l : List Int) (w : World) (h : Bs w a n cap l) :
    Calls Try.prog 36 #[.slice a n cap] w fun e w' => ∃ a' k c, e = .returned (.tuple #[.slice a' k c, .int .i64 (getF l).2.1, .int .i64 (getF l).2.2]) ∧ Bs w' a' k c (getF l).1 ∧ Below w.heap.size w w' := by
  refine (frameGet_new a n cap l w h).mono ?_
  rintro e w' ⟨a', k, c, rfl, h1, _, h2⟩
  exact ⟨a', k, c, rfl, h1, h2⟩

/-- What frame.Get answers: an error and nothing, or a text and how many bytes it took. -/
theorem getF_facts (l : List Int) (hr : ∀ x ∈ l, 0 ≤ x ∧ x ≤ 255) : ((getF l).2.2 = 0 ∧ 5 ≤ (getF l).2.1 ∧ (getF l).2.1 ≤ l.length) ∨ ((getF l).2.2 ≠ 0 ∧ (getF l).1 = [] ∧ (getF l).2.1 = 0) := by
  have hf := M.getL_facts l 0 0 (by omega) (by decide) hr
  unfold getF
  generalize M.getL 0 0 l = G at *
  obtain ⟨L, took, e⟩ := G
  simp only [Nat.zero_add] at hf ⊢
  split
  · rename_i h; exact Or.inr ⟨h, rfl, rfl⟩
  · rename_i h
    split
    · exact Or.inr ⟨by simp, rfl, rfl⟩
    · split
      · exact Or.inr ⟨by simp, rfl, rfl⟩
      · rename_i h3
        split
        · exact Or.inr ⟨by simp, rfl, rfl⟩
        · refine Or.inl ⟨rfl, ?_, ?_⟩
          · rcases hf.2 with ⟨_, q1, _, _⟩ | ⟨q1, _, _⟩
            · simp only; omega
            · omega
          · simp only; omega
end Go.Proofs.Ytjkfobgeklnblaa
