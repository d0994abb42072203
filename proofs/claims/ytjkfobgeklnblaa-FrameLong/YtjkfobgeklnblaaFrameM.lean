/- Frames of which a byte is another one, or the end is gone: plain facts; frame.Put of one text. -/
import Derived.Test.YtjkfobgeklnblaaFrameG
namespace Go.Proofs.Ytjkfobgeklnblaa
open Go.RowKit

theorem readL_inj : ∀ (l m : List Int), l.length = m.length → (∀ x ∈ l, 0 ≤ x ∧ x ≤ 255) → (∀ x ∈ m, 0 ≤ x ∧ x ≤ 255) → readL l = readL m → l = m
  | [], [], _, _, _, _ => rfl
  | [], _ :: _, h, _, _, _ => by simp at h
  | _ :: _, [], h, _, _, _ => by simp at h
  | x :: l, y :: m, h, hl, hm, e => by
    have hx := hl x (List.mem_cons_self ..)
    have hy := hm y (List.mem_cons_self ..)
    simp only [readL] at e
    have e1 : x = y := by omega
    have e2 : readL l = readL m := by omega
    rw [e1, readL_inj l m (by simpa using h) (fun z hz => hl z (List.mem_cons_of_mem _ hz)) (fun z hz => hm z (List.mem_cons_of_mem _ hz)) e2]

theorem getL_small (m : Nat) (r : List Int) (h : m < 128) : M.getL 0 0 ((m : Int) :: r) = (m, 1, 0) := by
  rw [M.getL_done _ _ _ _ (by omega) (by omega) (by omega)]
  simp

/-- A short frame, its sum and its text whatever they are. -/
theorem getF_short (m : Nat) (s4 tt more : List Int) (h : m < 128) (hs : s4.length = 4) (ht : tt.length = m) :
    getF ((m : Int) :: (s4 ++ (tt ++ more))) = if readL s4 ≠ sumOf tt then ([], 0, 7) else (tt, 5 + m, 0) := by
  unfold getF
  rw [getL_small m _ h]
  simp only
  have e1 : (List.drop 1 ((m : Int) :: (s4 ++ (tt ++ more)))).take 4 = s4 := by
    rw [List.drop_succ_cons, List.drop_zero, List.take_append_of_le_length (by omega), List.take_of_length_le (by omega)]
  have e2 : (List.drop (1 + 4) ((m : Int) :: (s4 ++ (tt ++ more)))).take m = tt := by
    rw [show 1 + 4 = 4 + 1 from rfl, List.drop_succ_cons, ← hs, List.drop_left, List.take_append_of_le_length (by omega), List.take_of_length_le (by omega)]
  rw [if_neg (by simp), if_neg (by omega), if_neg (by simp; omega), e1, e2]

theorem frameB_short (t : List Int) (h : t.length < 128) : frameB t = (t.length : Int) :: (sum4 (sumOf t) ++ t) := by
  unfold frameB
  rw [M.numB_lt _ _ h]
  rfl

theorem getF_frame (t more : List Int) (h : t.length < 128) : getF (frameB t ++ more) = (t, 5 + t.length, 0) := by
  rw [frameB_short t h, List.cons_append, List.append_assoc, getF_short t.length _ t more h (sum4_len _) rfl]
  rw [if_neg (by rw [readL_sum4 _ (sumOf_lt t)]; simp)]

/-- A byte behind the first is another one: the sum is another one. -/
theorem getF_turn (t : List Int) (k : Nat) (y : Int) (h : t.length < 128) (hr : ∀ x ∈ t, 0 ≤ x ∧ x ≤ 255) (hk : k + 1 < (frameB t).length) (hy : 0 ≤ y ∧ y ≤ 255) (hne : y ≠ (frameB t)[k + 1]?.getD 0) : getF ((frameB t).set (k + 1) y) = ([], 0, 7) := by
  rw [frameB_short t h] at hk hne ⊢
  rw [List.set_cons_succ]
  rw [List.getElem?_cons_succ] at hne
  simp only [List.length_cons, List.length_append, sum4_len] at hk
  by_cases h4 : k < 4
  · rw [List.set_append_left _ _ (by rw [sum4_len]; exact h4)]
    rw [List.getElem?_append_left (by rw [sum4_len]; exact h4)] at hne
    have := getF_short t.length ((sum4 (sumOf t)).set k y) t [] h (by rw [List.length_set]; exact sum4_len _) rfl
    rw [List.append_nil] at this
    rw [this, if_pos]
    intro e
    have e2 : readL ((sum4 (sumOf t)).set k y) = readL (sum4 (sumOf t)) := by rw [e, readL_sum4 _ (sumOf_lt t)]
    have e3 := readL_inj _ _ (by simp) (fun x hx => by
      rcases List.mem_or_eq_of_mem_set hx with hx | rfl
      · exact sum4_range _ x hx
      · exact hy) (sum4_range _) e2
    have e4 := congrArg (fun l => l[k]?.getD 0) e3
    simp only [List.getElem?_set_self (show k < (sum4 (sumOf t)).length by rw [sum4_len]; exact h4)] at e4
    exact hne e4
  · rw [List.set_append_right _ _ (by rw [sum4_len]; omega), sum4_len]
    rw [List.getElem?_append_right (by rw [sum4_len]; omega), sum4_len] at hne
    have := getF_short t.length (sum4 (sumOf t)) (t.set (k - 4) y) [] h (sum4_len _) (by simp)
    rw [List.append_nil] at this
    rw [this, if_pos]
    rw [readL_sum4 _ (sumOf_lt t)]
    have hk4 : k - 4 < t.length := by omega
    rw [set_at t (k - 4) y hk4]
    conv => lhs; rw [split_at t (k - 4) hk4]
    refine sum_turn _ _ _ _ ?_ hy (fun e => hne ?_)
    · have := range_of hr (k - 4)
      simpa using this
    · rw [← e]; simp

/-- The first byte is another one: an error, or another text. -/
theorem getF_first (t : List Int) (y : Int) (h : t.length < 128) (hr : ∀ x ∈ t, 0 ≤ x ∧ x ≤ 255) (hy : 0 ≤ y ∧ y ≤ 255) (hne : y ≠ (t.length : Int)) : (getF ((frameB t).set 0 y)).2.2 ≠ 0 ∨ (getF ((frameB t).set 0 y)).1 ≠ t := by
  rw [frameB_short t h, List.set_cons_zero]
  have hrr : ∀ x ∈ y :: (sum4 (sumOf t) ++ t), 0 ≤ x ∧ x ≤ 255 := by
    intro x hx
    rcases List.mem_cons.1 hx with rfl | hx
    · exact hy
    · rcases List.mem_append.1 hx with hx | hx
      · exact sum4_range _ x hx
      · exact hr x hx
  by_cases he : (getF (y :: (sum4 (sumOf t) ++ t))).2.2 = 0
  · refine Or.inr fun e => ?_
    have hl := congrArg List.length e
    have hlen : (y :: (sum4 (sumOf t) ++ t)).length = 5 + t.length := by simp [sum4_len]; omega
    have hf := M.getL_facts _ 0 0 (by omega) (by decide) hrr
    unfold getF at he hl
    by_cases h8 : y < 128
    · obtain ⟨m, rfl⟩ := Int.eq_ofNat_of_zero_le hy.1
      rw [getL_small m _ (by omega)] at he hl
      simp only at he hl
      rw [if_neg (by simp)] at he hl
      split at he
      · simp at he
      · rename_i h1
        rw [if_neg h1] at hl
        split at he
        · simp at he
        · rename_i h2
          rw [if_neg h2] at hl
          split at he
          · simp at he
          · rename_i h3
            rw [if_neg h3] at hl
            simp only [List.length_take, List.length_drop, hlen] at hl
            omega
    · have h2 : 2 ≤ (M.getL 0 0 (y :: (sum4 (sumOf t) ++ t))).2.1 ∨ (M.getL 0 0 (y :: (sum4 (sumOf t) ++ t))).2.2 ≠ 0 := by
        rw [M.getL_more _ _ _ _ (by omega) (by omega)]
        have hb := Nat.mod_lt y.toNat (show 128 > 0 by omega)
        have hf2 := M.getL_facts (sum4 (sumOf t) ++ t) (0 + 1) (0 + y.toNat % 128 * 2 ^ (7 * 0)) (by omega) (by simp; omega) (fun x hx => hrr x (List.mem_cons_of_mem _ hx))
        rcases hf2.2 with ⟨_, q, _, _⟩ | ⟨q, _, _⟩
        · exact Or.inl (by omega)
        · exact Or.inr (by omega)
      generalize M.getL 0 0 (y :: (sum4 (sumOf t) ++ t)) = G at *
      obtain ⟨L, took, e0⟩ := G
      simp only at he hl h2
      split at he
      · rename_i h0; exact absurd he h0
      · rename_i h0
        rw [if_neg h0] at hl
        split at he
        · simp at he
        · rename_i h1
          rw [if_neg h1] at hl
          split at he
          · simp at he
          · rename_i h3
            rw [if_neg h3] at hl
            split at he
            · simp at he
            · rename_i h4
              rw [if_neg h4] at hl
              simp only [List.length_take, List.length_drop, hlen] at hl
              rw [hlen] at h3
              omega
  · exact Or.inl he

theorem framesB_one (t : List Int) : framesB [t] = frameB t := by simp [framesB]

/-- frame.Put of one text that is not too long. -/
theorem framePut_one (a0 : Option Addr) (n0 c0 : Nat) (l0 : List Int) (a : Option Addr) (n c : Nat) (t : List Int) (W : World) (h0 : Bs W a0 n0 c0 l0) (h : Bs W a n c t) (hn0 : n0 ≤ 1000000) (hn : n ≤ 4096) :
    Calls Try.prog 35 #[.slice a0 n0 c0, .slice (some ⟨W.heap.size, 0, none⟩) 1 1] (W.alloc (.cells #[.slice a n c] 23)) fun e w' => ∃ g d k c X, e = .returned (.slice (some ⟨g, 0, none⟩) k c) ∧ Hid (X = l0 ++ frameB t) ∧ Hid (d = (frameB t).length) ∧ n0 + d ≤ k ∧ k ≤ n0 + d ∧ 5 + n ≤ d ∧ d ≤ 14 + n ∧ W.heap.size ≤ g ∧ k ≤ c ∧ c ≤ 9223372036854775807 ∧ Bs w' (some ⟨g, 0, none⟩) k c X ∧ Below W.heap.size W w' := by
  have hb := below_alloc W (.cells #[.slice a n c] 23) W.heap.size (Nat.le_refl _)
  have hcell := cell_one_new W (.slice a n c) 23 0 (.slice a n c) rfl
  rw [Go.Proofs.Ytjkfobgeklnblaa.add_none] at hcell
  have ht := h.1
  refine (framePut_some a0 n0 c0 l0 W.heap.size 0 1 1 [t] _ (h0.later hb (Nat.le_refl _)) (by omega) rfl (by omega) (by simp [roomL]; omega) (fun i hi => ?_) (by simp [tooLong]; omega)).mono ?_
  · obtain rfl : i = 0 := by omega
    exact ⟨_, _, _, hcell, h.later hb (Nat.le_refl _)⟩
  · rintro e w' ⟨v, rfl, ho, hb'⟩
    rw [framesB_one] at ho
    have hd := M.numB_len 9 t.length
    have hd1 : (frameB t).length = (M.numB 9 t.length).length + (4 + t.length) := by simp only [frameB, List.length_append, sum4_len]
    have hd2 : 5 + n ≤ (frameB t).length ∧ (frameB t).length ≤ 14 + n := by omega
    obtain ⟨g, c', rfl, hg, hbs⟩ := owns_shape ho (by rw [List.length_append]; omega)
    have e1 : (l0 ++ frameB t).length = n0 + (frameB t).length := by rw [List.length_append, h0.1]
    rw [e1] at hbs ⊢
    exact ⟨g, _, _, c', _, rfl, rfl, rfl, Nat.le_refl _, Nat.le_refl _, hd2.1, hd2.2, Nat.le_trans hb.size hg, hbs.2.1, hbs.2.2.1, hbs, hb.trans (hb'.mono hb.size)⟩
end Go.Proofs.Ytjkfobgeklnblaa
