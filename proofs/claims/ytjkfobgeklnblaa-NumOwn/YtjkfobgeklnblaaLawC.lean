/- Contracts of the document's own readers of numbers and of its sum. -/
import Derived.Test.YtjkfobgeklnblaaLawR
namespace Go.Proofs.Ytjkfobgeklnblaa
open Go.RowKit

theorem gr_bound (acc k wt : Nat) (c : Int) (h0 : 0 ≤ c) (h1 : c ≤ 255) (hk : k ≤ 9) (h9 : k = 9 → c ≤ 1) (ha : acc < 2 ^ (7 * k)) (hw : wt = 2 ^ (7 * k)) :
    0 ≤ c % 128 * (wt : Int) ∧ (acc : Int) + c % 128 * (wt : Int) ≤ 18446744073709551615 ∧ (acc : Int) + c % 128 * (wt : Int) = ((acc + (c % 128).toNat * 2 ^ (7 * k) : Nat) : Int) := by
  subst hw
  obtain ⟨b2, b1, _⟩ := getL_bound acc k c h0 h1 hk h9 ha
  have e : c % 128 * ((2 ^ (7 * k) : Nat) : Int) = (((c % 128).toNat * 2 ^ (7 * k) : Nat) : Int) := by
    rw [Int.natCast_mul]
    congr 1
    omega
  rw [e]
  omega

theorem wt_le (k wt : Nat) (hk : k ≤ 9) (hw : wt = 2 ^ (7 * k)) : wt ≤ 9223372036854775808 := by
  subst hw
  have : (2 : Nat) ^ (7 * k) ≤ 2 ^ 63 := Nat.pow_le_pow_right (by omega) (by omega)
  have e63 : (2 : Nat) ^ 63 = 9223372036854775808 := by decide
  omega

theorem gr_step (l : List Int) (n k acc wt : Nat) (hl : l.length = n) (hk : k < n) (hk9 : k ≤ 9) (h9 : ¬ k = 9) (hr : 0 ≤ l[k]?.getD 0 ∧ l[k]?.getD 0 ≤ 255) (ha : acc < 2 ^ (7 * k)) (hw : wt = 2 ^ (7 * k)) (hg : M.getL k acc (l.drop k) = M.getL 0 0 l) (hc : 128 ≤ l[k]?.getD 0) :
    ∃ acc' : Nat, (acc : Int) + l[k]?.getD 0 % 128 * wt = (acc' : Int) ∧ acc' < 2 ^ (7 * (k + 1)) ∧ M.getL (k + 1) acc' (l.drop (k + 1)) = M.getL 0 0 l ∧ wt * 128 = 2 ^ (7 * (k + 1)) := by
  obtain ⟨_, b1, _⟩ := getL_bound acc k (l[k]?.getD 0) hr.1 hr.2 hk9 (fun h => absurd h h9) ha
  obtain ⟨_, _, e⟩ := gr_bound acc k wt (l[k]?.getD 0) hr.1 hr.2 hk9 (fun h => absurd h h9) ha hw
  refine ⟨_, e, b1, ?_, by rw [hw, M.pow7]⟩
  rw [← hg, drop_at l k n hl hk, M.getL_more _ _ _ _ (by omega) hc]
  congr 1
  have : (l[k]?.getD 0).toNat % 128 = (l[k]?.getD 0 % 128).toNat := by omega
  rw [this]

theorem gr_done (l : List Int) (n k acc wt : Nat) (hl : l.length = n) (hk : k < n) (hk9 : k ≤ 9) (h9 : k = 9 → l[k]?.getD 0 ≤ 1) (hr : 0 ≤ l[k]?.getD 0 ∧ l[k]?.getD 0 ≤ 255) (ha : acc < 2 ^ (7 * k)) (hw : wt = 2 ^ (7 * k)) (hg : M.getL k acc (l.drop k) = M.getL 0 0 l) (hc : l[k]?.getD 0 < 128) (hz : ¬ (0 < k ∧ l[k]?.getD 0 = 0)) :
    (acc : Int) + l[k]?.getD 0 % 128 * wt = ((M.getL 0 0 l).1 : Int) ∧ (M.getL 0 0 l).2.1 = k + 1 ∧ (M.getL 0 0 l).2.2 = 0 := by
  obtain ⟨_, _, e⟩ := gr_bound acc k wt (l[k]?.getD 0) hr.1 hr.2 hk9 h9 ha hw
  rw [← hg, drop_at l k n hl hk, M.getL_done _ _ _ _ (by omega) hc hz, e]
  have : l[k]?.getD 0 % 128 = l[k]?.getD 0 := by omega
  rw [this]
  exact ⟨rfl, rfl, rfl⟩

set_option maxRecDepth 100000 in
set_option maxHeartbeats 800000 in
theorem refGet_some (b o n cap : Nat) (l : List Int) (w : World) (hl : l.length = n) (hn : n ≤ 9223372036854775807) (hr : ∀ i : Nat, 0 ≤ l[i]?.getD 0 ∧ l[i]?.getD 0 ≤ 255)
    (hc : ∀ i, i < n → w.cell? ⟨b, o + i, none⟩ = some (.int .u8 (l.getD i 0))) :
    Calls Try.prog 24 #[.slice (some ⟨b, o, none⟩) n cap] w fun e w' => e = .returned (.tuple #[.int .u64 (M.getL 0 0 l).1, .int .i64 (M.getL 0 0 l).2.1, .int .i64 (M.getL 0 0 l).2.2]) ∧ w' = w := by
  have HL : Hid (l.length = n) := hl
  clear hl
  go_enter Try.func24, Try.ntmps24
  go_wp2
  go_loop [5, 6, 7] (fun x y i => ∃ (k acc wt : Nat), k ≤ n ∧ k ≤ 9 ∧ i = .int .i64 k ∧ x = .int .u64 acc ∧ y = .int .u64 wt ∧ Hid (acc < 2 ^ (7 * k)) ∧ Hid (wt = 2 ^ (7 * k)) ∧ Hid (M.getL k acc (l.drop k) = M.getL 0 0 l)) (fun _ _ i => 10 - (intOf i).toNat)
  case atStart => exact ⟨0, 0, 1, by omega, by omega, rfl, rfl, rfl, by show _ < _; simp, rfl, rfl⟩
  case round =>
    obtain ⟨k, acc, wt, hk, hk9, rfl, rfl, rfl, HA, HW, HG⟩ := hrel
    have hrk := hr k
    have hwt := wt_le k wt hk9 HW.out
    by_cases hlt : k < n
    · have hcell := hc k hlt
      clear hc hr
      have ha64 : acc ≤ 18446744073709551615 := by have := wt_le k _ hk9 rfl; have := HA.out; omega
      by_cases h9 : k = 9
      · subst h9
        by_cases hcc : (1 : Int) < l[9]?.getD 0
        · obtain ⟨e1, e2, e3⟩ := g_form l n 9 acc HL.out hlt HG.out (Or.inr ⟨rfl, hcc⟩)
          have HE1 := hide e1; have HE2 := hide e2; have HE3 := hide e3
          clear e1 e2 e3
          go_wp2
          go_ret3
          exact ⟨ret_3 (by rw [HE1.out]; rfl) (by rw [HE2.out]; rfl) (by rw [HE3.out]), rfl⟩
        · have hle : l[9]?.getD 0 ≤ 1 := by omega
          obtain ⟨p1, p2, hcl⟩ := gr_bound acc 9 wt (l[9]?.getD 0) hrk.1 hrk.2 hk9 (fun _ => hle) HA.out HW.out
          clear hcl
          have hlt8 : l[9]?.getD 0 < 128 := by omega
          by_cases hz : l[9]?.getD 0 = 0
          · obtain ⟨e1, e2, e3⟩ := g_form l n 9 acc HL.out hlt HG.out (Or.inl ⟨by omega, hz⟩)
            have HE1 := hide e1; have HE2 := hide e2; have HE3 := hide e3
            have hzb : (l[9]?.getD 0 == 0) = true := by simpa using hz
            clear e1 e2 e3 hz
            go_wp2
            go_ret3
            exact ⟨ret_3 (by rw [HE1.out]; rfl) (by rw [HE2.out]; rfl) (by rw [HE3.out]), rfl⟩
          · obtain ⟨e1, e2, e3⟩ := gr_done l n 9 acc wt HL.out hlt hk9 (fun _ => hle) hrk HA.out HW.out HG.out hlt8 (fun h => hz h.2)
            have HE1 := hide e1; have HE2 := hide e2; have HE3 := hide e3
            have hzb : (l[9]?.getD 0 == 0) = false := by simpa using hz
            clear e1 e2 e3 hz
            go_wp2
            go_ret3
            exact ⟨ret_3 HE1.out (by rw [HE2.out]; rfl) (by rw [HE3.out]), rfl⟩
      · obtain ⟨p1, p2, hcl⟩ := gr_bound acc k wt (l[k]?.getD 0) hrk.1 hrk.2 hk9 (fun h => absurd h h9) HA.out HW.out
        clear hcl
        have hkb : ((k : Int) == 9) = false := by simp; omega
        by_cases hcc : 128 ≤ l[k]?.getD 0
        · obtain ⟨acc', e1, e2, e3, e4⟩ := gr_step l n k acc wt HL.out hlt hk9 h9 hrk HA.out HW.out HG.out hcc
          have hw2 : wt * 128 ≤ 9223372036854775808 := wt_le (k + 1) _ (by omega) e4
          have HE1 := hide e1; have HE2 := hide e2; have HE3 := hide e3; have HE4 := hide e4
          clear e1 e2 e3 e4
          go_wp2
          go_round
          case rel => exact ⟨k + 1, acc', wt * 128, by omega, by omega, by go_num, by rw [HE1.out], by go_num, HE2.out, HE4.out, HE3.out⟩
          case measure => simp [intOf]; omega
        · have hlt8 : l[k]?.getD 0 < 128 := by omega
          by_cases hz : 0 < k ∧ l[k]?.getD 0 = 0
          · obtain ⟨e1, e2, e3⟩ := g_form l n k acc HL.out hlt HG.out (Or.inl hz)
            have HE1 := hide e1; have HE2 := hide e2; have HE3 := hide e3
            have hzb : (l[k]?.getD 0 == 0) = true := by simpa using hz.2
            have hk0 := hz.1
            clear e1 e2 e3 hz
            go_wp2
            go_ret3
            exact ⟨ret_3 (by rw [HE1.out]; rfl) (by rw [HE2.out]; rfl) (by rw [HE3.out]), rfl⟩
          · obtain ⟨e1, e2, e3⟩ := gr_done l n k acc wt HL.out hlt hk9 (fun h => absurd h h9) hrk HA.out HW.out HG.out hlt8 hz
            have HE1 := hide e1; have HE2 := hide e2; have HE3 := hide e3
            clear e1 e2 e3
            by_cases hk0 : 0 < k
            · have hzb : (l[k]?.getD 0 == 0) = false := by simp; omega
              clear hz
              go_wp2
              go_ret3
              exact ⟨ret_3 HE1.out (by rw [HE2.out]; simp) (by rw [HE3.out]), rfl⟩
            · clear hz
              go_wp2
              go_ret3
              exact ⟨ret_3 HE1.out (by rw [HE2.out]; simp) (by rw [HE3.out]), rfl⟩
    · clear hc hr
      obtain ⟨e1, e2, e3⟩ := g_end l n k acc HL.out hlt HG.out
      have HE1 := hide e1; have HE2 := hide e2; have HE3 := hide e3
      clear e1 e2 e3
      go_wp2
      go_ret3
      exact ⟨ret_3 (by rw [HE1.out]; rfl) (by rw [HE2.out]; rfl) (by rw [HE3.out]), rfl⟩

set_option maxRecDepth 100000 in
theorem refGet_none (a : Option Addr) (cap : Nat) (w : World) :
    Calls Try.prog 24 #[.slice a 0 cap] w fun e w' => e = .returned (.tuple #[.int .u64 (M.getL 0 0 []).1, .int .i64 (M.getL 0 0 []).2.1, .int .i64 (M.getL 0 0 []).2.2]) ∧ w' = w := by
  go_enter Try.func24, Try.ntmps24
  go_wp2
  refine wp_loop_rounds 1 ?_
  rw [rounds_succ]
  go_wp2
  go_ret3
  exact ⟨rfl, rfl⟩

/-- The document's reader of a number: the same as num.Get. -/
theorem refGet_any (a : Option Addr) (n cap : Nat) (l : List Int) (w : World) (h : Bs w a n cap l) :
    Calls Try.prog 24 #[.slice a n cap] w fun e w' => e = .returned (.tuple #[.int .u64 (M.getL 0 0 l).1, .int .i64 (M.getL 0 0 l).2.1, .int .i64 (M.getL 0 0 l).2.2]) ∧ w' = w := by
  obtain ⟨h1, h2, h3, h4, h5, h6⟩ := h
  by_cases hn : n = 0
  · subst hn
    obtain rfl : l = [] := List.length_eq_zero_iff.1 h1
    exact refGet_none a cap w
  · obtain ⟨b, o, rfl, hc⟩ := h5 (by omega)
    exact refGet_some b o n cap l w h1 (by omega) (range_of h6) hc

theorem unf_odd (n : Nat) (ho : n % 2 = 1) : -((n : Int) / 2) - 1 = unfold n := by rw [unfold, if_pos ho]
theorem unf_even (n : Nat) (ho : ¬ n % 2 = 1) : (n : Int) / 2 = unfold n := by rw [unfold, if_neg ho]

set_option maxRecDepth 100000 in
theorem refGetInt_any (a : Option Addr) (n cap : Nat) (l : List Int) (w : World) (h : Bs w a n cap l) :
    Calls Try.prog 25 #[.slice a n cap] w fun e w' => e = .returned (.tuple #[.int .i64 (getI l).1, .int .i64 (getI l).2.1, .int .i64 (getI l).2.2]) ∧ w' = w := by
  have hf := M.getL_facts l 0 0 (by omega) (by decide) h.2.2.2.2.2
  by_cases hz : (M.getL 0 0 l).2.2 = 0
  · have E : Hid (getI l = (unfold (M.getL 0 0 l).1, (M.getL 0 0 l).2.1, 0)) := by show _ = _; rw [getI, if_pos hz]
    have hg := refGet_any a n cap l w h
    rw [hz] at hg
    have h64 := hf.1
    clear hz hf h
    generalize getI l = I at *
    generalize M.getL 0 0 l = G at *
    obtain ⟨g, k, r⟩ := G
    have HG := hide hg
    clear hg
    simp only at h64
    by_cases ho : g % 2 = 1
    · have hb : ((g : Int) % 2 == 1) = true := by simp; omega
      have HU := hide (unf_odd g ho)
      clear ho
      go_enter Try.func25, Try.ntmps25
      go_wp2_with fail
      refine HG.out.mono ?_
      rintro e w1 ⟨rfl, rfl⟩
      go_wp2
      go_ret3
      rw [E.out]
      exact ⟨ret_3 HU.out rfl rfl, rfl⟩
    · have hb : ((g : Int) % 2 == 1) = false := by simp; omega
      have HU := hide (unf_even g ho)
      clear ho
      go_enter Try.func25, Try.ntmps25
      go_wp2_with fail
      refine HG.out.mono ?_
      rintro e w1 ⟨rfl, rfl⟩
      go_wp2
      go_ret3
      rw [E.out]
      exact ⟨ret_3 HU.out rfl rfl, rfl⟩
  · have E : Hid (getI l = (0, 0, (M.getL 0 0 l).2.2)) := by show _ = _; rw [getI, if_neg hz]
    have hg := refGet_any a n cap l w h
    have hb : ((M.getL 0 0 l).2.2 != 0) = true := by simpa using hz
    clear hz hf
    generalize getI l = I at *
    generalize M.getL 0 0 l = G at *
    go_enter Try.func25, Try.ntmps25
    go_wp2_with fail
    refine hg.mono ?_
    rintro e w1 ⟨rfl, rfl⟩
    go_wp2
    go_ret3
    rw [E.out]
    exact ⟨rfl, rfl⟩

theorem refSum_step (l : List Int) (k : Nat) (hk : k < l.length) (hc : 0 ≤ l[k]?.getD 0) (S : Nat × Nat) (hS : S = sumS (0, 0) (l.take k)) :
    (((S.1 + 1) % 65521 : Nat) + l[k]?.getD 0) % 65521 = ((((sumS (0, 0) (l.take (k + 1))).1 + 1) % 65521 : Nat) : Int) ∧ ((S.2 : Int) + (((sumS (0, 0) (l.take (k + 1))).1 + 1) % 65521 : Nat)) % 65521 = ((sumS (0, 0) (l.take (k + 1))).2 : Int) := by
  have e : l.take (k + 1) = l.take k ++ [l[k]?.getD 0] := by
    rw [List.take_succ_eq_append_getElem hk]
    simp [hk]
  rw [e, sumS_snoc, ← hS]
  simp only [sumStep]
  omega

set_option maxRecDepth 100000 in
set_option maxHeartbeats 800000 in
theorem refSum_some (b o n cap : Nat) (l : List Int) (w : World) (hl : l.length = n) (hn : n ≤ 9223372036854775807) (hr : ∀ i : Nat, 0 ≤ l[i]?.getD 0 ∧ l[i]?.getD 0 ≤ 255)
    (hc : ∀ i, i < n → w.cell? ⟨b, o + i, none⟩ = some (.int .u8 (l.getD i 0))) :
    Calls Try.prog 32 #[.slice (some ⟨b, o, none⟩) n cap] w fun e w' => e = .returned (.int .u32 (sumOf l)) ∧ w' = w := by
  have HL : Hid (l.length = n) := hl
  clear hl
  go_enter Try.func32, Try.ntmps32
  go_wp2
  go_loop [3, 4, 5] (fun x y i => ∃ (k p q : Nat), k ≤ n ∧ i = .int .i64 k ∧ x = .int .i64 p ∧ y = .int .i64 q ∧ p < 65521 ∧ q < 65521 ∧ Hid (p = ((sumS (0, 0) (l.take k)).1 + 1) % 65521) ∧ Hid (q = (sumS (0, 0) (l.take k)).2)) (fun _ _ i => n - (intOf i).toNat)
  case atStart => exact ⟨0, 1, 0, by omega, rfl, rfl, rfl, by omega, by omega, rfl, rfl⟩
  case round =>
    obtain ⟨k, p, q, hk, rfl, rfl, rfl, hp, hq, HP, HQ⟩ := hrel
    have hrk := hr k
    by_cases hlt : k < n
    · have hcell := hc k hlt
      clear hc hr
      have hs := refSum_step l k (by rw [HL.out]; exact hlt) hrk.1 _ rfl
      rw [← HP.out, ← HQ.out] at hs
      obtain ⟨P', HP'⟩ : ∃ P', Hid (P' = ((sumS (0, 0) (l.take (k + 1))).1 + 1) % 65521) := ⟨_, rfl⟩
      obtain ⟨Q', HQ'⟩ : ∃ Q', Hid (Q' = (sumS (0, 0) (l.take (k + 1))).2) := ⟨_, rfl⟩
      rw [← HP'.out, ← HQ'.out] at hs
      have hp' : P' < 65521 := by have := hs.1; omega
      have hq' : Q' < 65521 := by have := hs.2; omega
      have HS1 := hide hs.1
      have HS2 := hide hs.2
      clear hs
      go_wp2
      go_round
      case rel => exact ⟨k + 1, P', Q', by omega, by go_num, by rw [HS1.out], by rw [HS1.out, HS2.out], hp', hq', HP', HQ'⟩
      case measure => simp [intOf]; omega
    · obtain rfl : k = n := by omega
      have e : (sumOf l : Int) = (q : Int) * 65536 + p := by
        have e1 := HP.out; have e2 := HQ.out
        rw [List.take_of_length_le (by rw [HL.out]; exact Nat.le_refl _)] at e1 e2
        rw [sumOf, sumV, ← e1, ← e2]; omega
      have HE := hide e
      clear hc hr e
      go_wp2
      go_ret
      exact ⟨ret_int (by rw [HE.out]), rfl⟩

set_option maxRecDepth 100000 in
theorem refSum_none (a : Option Addr) (cap : Nat) (w : World) :
    Calls Try.prog 32 #[.slice a 0 cap] w fun e w' => e = .returned (.int .u32 (sumOf [])) ∧ w' = w := by
  go_enter Try.func32, Try.ntmps32
  go_wp2
  refine wp_loop_rounds 1 ?_
  rw [rounds_succ]
  go_wp2
  go_ret
  exact ⟨rfl, rfl⟩

theorem refSum_any (a : Option Addr) (n cap : Nat) (l : List Int) (w : World) (h : Bs w a n cap l) :
    Calls Try.prog 32 #[.slice a n cap] w fun e w' => e = .returned (.int .u32 (sumOf l)) ∧ w' = w := by
  obtain ⟨h1, h2, h3, h4, h5, h6⟩ := h
  by_cases hn : n = 0
  · subst hn
    obtain rfl : l = [] := List.length_eq_zero_iff.1 h1
    exact refSum_none a cap w
  · obtain ⟨b, o, rfl, hc⟩ := h5 (by omega)
    exact refSum_some b o n cap l w h1 (by omega) (range_of h6) hc
end Go.Proofs.Ytjkfobgeklnblaa
