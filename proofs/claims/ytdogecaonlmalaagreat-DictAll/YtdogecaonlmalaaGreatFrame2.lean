/- What frame.Put and frame.Get do: contracts. -/
import Derived.Test.YtdogecaonlmalaaGreatFrame1
namespace Go.Proofs.YtdogecaonlmalaaGreat
open Go.RowKit

theorem ret_bool {a b : Bool} (h : a = b) : Ending.returned (.bool a) = .returned (.bool b) := by rw [h]

def tooLong (ls : List (List Int)) : Bool := ls.any fun t => decide (4096 < t.length)

theorem tooLong_hit (ls : List (List Int)) (k : Nat) (hk : k < ls.length) (h : 4096 < (ls.getD k []).length) : tooLong ls = true := by
  unfold tooLong
  rw [List.any_eq_true]
  rw [List.getD_eq_getElem?_getD, List.getElem?_eq_getElem hk] at h
  exact ⟨ls[k], List.getElem_mem hk, by simpa using h⟩

theorem tooLong_miss (ls : List (List Int)) (h : ∀ j, j < ls.length → (ls.getD j []).length ≤ 4096) : tooLong ls = false := by
  unfold tooLong
  rw [List.any_eq_false]
  intro t ht
  obtain ⟨i, hi, rfl⟩ := List.getElem_of_mem ht
  have := h i hi
  rw [List.getD_eq_getElem?_getD, List.getElem?_eq_getElem hi] at this
  simp only [Option.getD_some] at this
  simp; omega

set_option maxRecDepth 100000 in
set_option maxHeartbeats 800000 in
theorem anyTooLong_some (b o m mc : Nat) (ls : List (List Int)) (w : World) (hl : ls.length = m) (hm : m ≤ 1099511627776)
    (hc : ∀ i, i < m → ∃ a n c, w.cell? ⟨b, o + i, none⟩ = some (.slice a n c) ∧ Bs w a n c (ls.getD i [])) :
    Calls Tryz.prog 91 #[.slice (some ⟨b, o, none⟩) m mc] w fun e w' => e = .returned (.bool (tooLong ls)) ∧ w' = w := by
  have HL : Hid (ls.length = m) := hl
  clear hl
  go_enter Tryz.func91, Tryz.ntmps91
  go_wp2
  go_loop [7] (fun i => ∃ k : Nat, k ≤ m ∧ i = .int .i64 k ∧ Hid (∀ j, j < k → (ls.getD j []).length ≤ 4096)) (fun i => m - (intOf i).toNat)
  case atStart => exact ⟨0, by omega, rfl, fun j hj => absurd hj (Nat.not_lt_zero j)⟩
  case round =>
    obtain ⟨k, hk, rfl, HK⟩ := hrel
    by_cases hlt : k < m
    · obtain ⟨a, n, c, hcell, hb⟩ := hc k hlt
      have HB := hide hb.1
      have hb2 := hb.2.1
      have hb3 := hb.2.2.1
      clear hc hb
      by_cases h4 : 4096 < n
      · go_wp2
        go_ret
        exact ⟨ret_bool (tooLong_hit ls k (by rw [HL.out]; exact hlt) (by rw [HB.out]; exact h4)).symm, rfl⟩
      · go_wp2
        go_round
        case rel =>
          refine ⟨k + 1, by omega, by go_num, fun j hj => ?_⟩
          rcases Nat.lt_succ_iff_lt_or_eq.1 hj with h | rfl
          · exact HK.out j h
          · rw [HB.out]; omega
        case measure => simp [intOf]; omega
    · obtain rfl : k = m := by omega
      clear hc
      go_wp2
      go_ret
      exact ⟨ret_bool (tooLong_miss ls (by rw [HL.out]; exact HK.out)).symm, rfl⟩

set_option maxRecDepth 100000 in
theorem anyTooLong_none (a : Option Addr) (mc : Nat) (w : World) :
    Calls Tryz.prog 91 #[.slice a 0 mc] w fun e w' => e = .returned (.bool false) ∧ w' = w := by
  go_enter Tryz.func91, Tryz.ntmps91
  go_wp2
  refine wp_loop_rounds 1 ?_
  rw [rounds_succ]
  go_wp2
  go_ret
  exact ⟨rfl, rfl⟩

theorem anyTooLong_any (pa : Option Addr) (m mc : Nat) (ls : List (List Int)) (w : World) (hm : m ≤ 1099511627776) (h : Ps w pa m ls) :
    Calls Tryz.prog 91 #[.slice pa m mc] w fun e w' => e = .returned (.bool (tooLong ls)) ∧ w' = w := by
  by_cases hn : m = 0
  · subst hn
    obtain rfl : ls = [] := List.length_eq_zero_iff.1 h.1
    exact anyTooLong_none pa mc w
  · obtain ⟨b, o, rfl, hc⟩ := h.2 (by omega)
    exact anyTooLong_some b o m mc ls w h.1 hm hc

def roomL (ls : List (List Int)) : Nat := (ls.map fun t => 6 + t.length).sum

theorem roomL_take (ls : List (List Int)) (k : Nat) (hk : k < ls.length) : roomL (ls.take (k + 1)) = roomL (ls.take k) + (6 + (ls.getD k []).length) := by
  unfold roomL
  rw [List.take_succ_eq_append_getElem hk, List.map_append, List.sum_append]
  simp [List.getD_eq_getElem?_getD, hk]
theorem roomL_take_le (ls : List (List Int)) (k : Nat) : roomL (ls.take k) ≤ roomL ls := by
  conv => rhs; rw [← List.take_append_drop k ls]
  unfold roomL
  rw [List.map_append, List.sum_append]
  omega

set_option maxRecDepth 100000 in
set_option maxHeartbeats 800000 in
theorem roomFor_some (b o m mc : Nat) (ls : List (List Int)) (w : World) (hl : ls.length = m) (hm : m ≤ 1099511627776) (hr : roomL ls ≤ 1099511627776)
    (hc : ∀ i, i < m → ∃ a n c, w.cell? ⟨b, o + i, none⟩ = some (.slice a n c) ∧ Bs w a n c (ls.getD i [])) :
    Calls Tryz.prog 92 #[.slice (some ⟨b, o, none⟩) m mc] w fun e w' => e = .returned (.int .i64 (roomL ls)) ∧ w' = w := by
  have HL : Hid (ls.length = m) := hl
  clear hl
  go_enter Tryz.func92, Tryz.ntmps92
  go_wp2
  go_loop [3, 8] (fun r i => ∃ k R : Nat, k ≤ m ∧ i = .int .i64 k ∧ r = .int .i64 R ∧ Hid (R = roomL (ls.take k)) ∧ R ≤ 1099511627776) (fun _ i => m - (intOf i).toNat)
  case atStart => exact ⟨0, 0, by omega, rfl, rfl, rfl, by omega⟩
  case round =>
    obtain ⟨k, R, hk, rfl, rfl, HR, hR⟩ := hrel
    by_cases hlt : k < m
    · obtain ⟨a, n, c, hcell, hb⟩ := hc k hlt
      have hb2 := hb.2.1
      have hb3 := hb.2.2.1
      have HN : Hid (R + (6 + n) = roomL (ls.take (k + 1))) := by show _ = _; rw [roomL_take ls k (by rw [HL.out]; exact hlt), ← HR.out, hb.1]
      have hle : R + (6 + n) ≤ 1099511627776 := by rw [HN.out]; exact Nat.le_trans (roomL_take_le ls _) hr
      clear hc hb
      go_wp2
      go_round
      case rel => exact ⟨k + 1, R + (6 + n), by omega, by go_num, by go_num, HN, hle⟩
      case measure => simp [intOf]; omega
    · obtain rfl : k = m := by omega
      have e : R = roomL ls := by rw [HR.out, List.take_of_length_le (by rw [HL.out]; exact Nat.le_refl _)]
      have HE := hide e
      clear hc e
      go_wp2
      go_ret
      exact ⟨ret_int (by rw [HE.out]), rfl⟩

set_option maxRecDepth 100000 in
theorem roomFor_none (a : Option Addr) (mc : Nat) (w : World) :
    Calls Tryz.prog 92 #[.slice a 0 mc] w fun e w' => e = .returned (.int .i64 0) ∧ w' = w := by
  go_enter Tryz.func92, Tryz.ntmps92
  go_wp2
  refine wp_loop_rounds 1 ?_
  rw [rounds_succ]
  go_wp2
  go_ret
  exact ⟨rfl, rfl⟩

theorem roomFor_any (pa : Option Addr) (m mc : Nat) (ls : List (List Int)) (w : World) (hm : m ≤ 1099511627776) (hr : roomL ls ≤ 1099511627776) (h : Ps w pa m ls) :
    Calls Tryz.prog 92 #[.slice pa m mc] w fun e w' => e = .returned (.int .i64 (roomL ls)) ∧ w' = w := by
  by_cases hn : m = 0
  · subst hn
    obtain rfl : ls = [] := List.length_eq_zero_iff.1 h.1
    exact roomFor_none pa mc w
  · obtain ⟨b, o, rfl, hc⟩ := h.2 (by omega)
    exact roomFor_some b o m mc ls w h.1 hm hr hc

def framesB (ls : List (List Int)) : List Int := (ls.map frameB).flatten

theorem framesB_take (ls : List (List Int)) (k : Nat) (hk : k < ls.length) : framesB (ls.take (k + 1)) = framesB (ls.take k) ++ frameB (ls.getD k []) := by
  unfold framesB
  rw [List.take_succ_eq_append_getElem hk, List.map_append, List.flatten_append]
  simp [List.getD_eq_getElem?_getD, hk]

theorem frameB_len (t : List Int) : (frameB t).length ≤ 14 + t.length := by
  have := M.numB_len 9 t.length
  simp only [frameB, List.length_append, sum4_len]
  omega

theorem framesB_len (ls : List (List Int)) (k : Nat) : (framesB (ls.take k)).length ≤ 3 * roomL ls := by
  refine Nat.le_trans ?_ (Nat.mul_le_mul_left 3 (roomL_take_le ls k))
  generalize ls.take k = m
  induction m with
  | nil => simp [framesB]
  | cons t m ih =>
    have := frameB_len t
    simp only [framesB, roomL, List.map_cons, List.flatten_cons, List.length_append, List.sum_cons] at *
    omega

set_option maxRecDepth 100000 in
set_option maxHeartbeats 800000 in
/-- The loop of frame.Put, behind its first rows. -/
theorem framePut_some (a : Option Addr) (n cap : Nat) (l : List Int) (b o m mc : Nat) (ls : List (List Int)) (w : World) (h : Bs w a n cap l) (hn : n ≤ 274877906944) (hl : ls.length = m) (hm : m ≤ 274877906944) (hr : roomL ls ≤ 274877906944)
    (hc : ∀ i, i < m → ∃ a n c, w.cell? ⟨b, o + i, none⟩ = some (.slice a n c) ∧ Bs w a n c (ls.getD i [])) (hlong : tooLong ls = false) :
    Calls Tryz.prog 59 #[.slice a n cap, .slice (some ⟨b, o, none⟩) m mc] w fun e w' => ∃ v', e = .returned v' ∧ w'.ownsInts w.heap.size 5 .u8 v' (l ++ framesB ls) ∧ Below w.heap.size w w' := by
  have HL : Hid (ls.length = m) := hl
  have h1 := anyTooLong_some b o m mc ls w hl (by omega) hc
  rw [hlong] at h1
  have H1 := hide h1
  have H2 := hide (roomFor_some b o m mc ls w hl (by omega) (by omega) hc)
  have HC := hide hc
  have HLE := hide (framesB_len ls)
  have hll : l.length = n := h.1
  clear h1 hl hc hlong
  obtain ⟨R, HR⟩ : ∃ R, Hid (R = roomL ls) := ⟨_, rfl⟩
  rw [← HR.out] at hr H2
  have HLE2 : Hid (∀ k, (framesB (ls.take k)).length ≤ 3 * R) := by rw [HR.out]; exact HLE
  have H3 := hide (copyRoomF a n cap R l w h (by omega) (by omega))
  have HN := hide hll
  clear HLE hll
  go_enter Tryz.func59, Tryz.ntmps59
  go_wp2_with fail
  refine H1.out.mono ?_
  rintro e w1 ⟨rfl, rfl⟩
  go_wp2_with fail
  refine H2.out.mono ?_
  rintro e w1 ⟨rfl, rfl⟩
  go_wp2_with fail
  refine H3.out.mono ?_
  rintro e w2 ⟨rfl, hown2, hb2⟩
  clear H1 H2 H3
  go_wp2
  go_loopw [5, 18] (fun v' i wr => ∃ k : Nat, k ≤ m ∧ i = .int .i64 k ∧ wr.ownsInts w1.heap.size 5 .u8 v' (l ++ framesB (ls.take k)) ∧ Below w1.heap.size w1 wr) (fun _ i _ => m - (intOf i).toNat)
  case atStart => exact ⟨0, by omega, rfl, by simpa [framesB] using hown2, hb2⟩
  case round =>
    obtain ⟨k, hk, rfl, hown, hbel⟩ := hrel
    by_cases hlt : k < m
    · obtain ⟨ta, tn, tc, hcell0, hb⟩ := HC.out k hlt
      have hcell : wr.cell? ⟨b, o + k, none⟩ = some (.slice ta tn tc) := (hbel.cell (p := ⟨b, o + k, none⟩) (lt_of_cell hcell0)).trans hcell0
      have htn : tn ≤ 274877906944 := by
        have e1 := roomL_take ls k (by rw [HL.out]; exact hlt)
        have e2 := roomL_take_le ls (k + 1)
        rw [hb.1] at e1
        have e3 := HR.out
        omega
      have hlen : (l ++ framesB (ls.take k)).length ≤ 1099511627776 := by
        rw [List.length_append, HN.out]
        have := HLE2.out k
        omega
      have H4 := hide (frameWrite_any w1.heap.size u5 _ ta tn tc _ w1 wr hown hbel.size hlen hb hbel (Nat.le_refl _) (by omega))
      have HF := hide (framesB_take ls k (by rw [HL.out]; exact hlt))
      clear hb hown hlen hcell0
      go_wp2_with fail
      refine H4.out.mono ?_
      rintro e w3 ⟨v3, rfl, hown3, hb3⟩
      have R1 : Hid (w3.ownsInts w1.heap.size 5 .u8 v3 (l ++ framesB (ls.take (k + 1)))) := by
        show World.ownsInts _ _ _ _ _ _
        rw [HF.out]; simpa using hown3
      have R2 := hbel.trans hb3
      clear H4 hown3 hb3 HF
      go_wp2
      go_roundw
      case rel => exact ⟨k + 1, by omega, by go_num, R1.out, R2⟩
      case measure => simp [intOf]; omega
    · obtain rfl : k = m := by omega
      have R1 : Hid (wr.ownsInts w1.heap.size 5 .u8 u5 (l ++ framesB ls)) := by
        show World.ownsInts _ _ _ _ _ _
        rwa [List.take_of_length_le (by rw [HL.out]; exact Nat.le_refl _)] at hown
      clear hown
      go_wp2
      go_ret
      exact ⟨_, rfl, R1.out, hbel⟩

end Go.Proofs.YtdogecaonlmalaaGreat
