/- What package num's own functions do: contracts. -/
import Derived.Test.YtdogecaonlmalaaGreatNum1
namespace Go.Proofs.YtdogecaonlmalaaGreat
open Go.RowKit

set_option maxRecDepth 100000 in
set_option maxHeartbeats 400000 in
theorem put_any (a : Option Addr) (n cap m : Nat) (l : List Int) (w : World) (h : Bs w a n cap l) (hn : n ≤ 1099511627776) (hm : m < 18446744073709551616) :
    Calls Tryz.prog 57 #[.slice a n cap, .int .u64 m] w fun e w' => ∃ v', e = .returned v' ∧ w'.ownsInts w.heap.size 5 .u8 v' (l ++ M.numB 9 m) ∧ Below w.heap.size w w' := by
  go_enter Tryz.func57, Tryz.ntmps57
  go_wp2_with fail
  refine (copyRoom a n cap 10 l _ h hn (by omega)).mono ?_
  rintro e w1 ⟨rfl, hown, hb⟩
  go_wp2_with fail
  refine (write_any w.heap.size _ l m _ hown hb.size (by rw [h.1]; exact hn) hm).mono ?_
  rintro e w2 ⟨v', rfl, hown2, hb2⟩
  go_wp2
  go_ret
  exact ⟨_, rfl, hown2, hb.trans hb2⟩

def fold (x : Int) : Nat := if x < 0 then (2 * (-x - 1) + 1).toNat else (2 * x).toNat

theorem fold_neg_eq (x : Int) (hx : x < 0) (h1 : -9223372036854775808 ≤ x) : IntKind.u64.wrap (IntKind.u64.wrap (2 * IntKind.u64.wrap (bits .xor .i64 (-1) x)) + 1) = fold x := by
  rw [i64_not_any x h1 (by omega), IntKind.wrap_u64, IntKind.wrap_u64, IntKind.wrap_u64]
  simp only [fold, if_pos hx]
  omega

theorem fold_pos_eq (x : Int) (hx : 0 ≤ x) : 2 * x = fold x := by
  simp only [fold]
  rw [if_neg (by omega)]
  omega

theorem fold_lt (x : Int) (h0 : -9223372036854775808 ≤ x) (h1 : x ≤ 9223372036854775807) : fold x < 18446744073709551616 := by
  unfold fold; split <;> omega

theorem fold_any (x : Int) (w : World) (h0 : -9223372036854775808 ≤ x) (h1 : x ≤ 9223372036854775807) :
    Calls Tryz.prog 155 #[.int .i64 x] w fun e w' => e = .returned (.int .u64 (fold x)) ∧ w' = w := by
  by_cases hx : x < 0
  · go_enter Tryz.func155, Tryz.ntmps155
    go_wp2
    go_ret
    exact ⟨ret_int (fold_neg_eq x hx h0), rfl⟩
  · go_enter Tryz.func155, Tryz.ntmps155
    go_wp2
    go_ret
    exact ⟨ret_int (fold_pos_eq x (by omega)), rfl⟩

def unfold (n : Nat) : Int := if n % 2 = 1 then -((n : Int) / 2) - 1 else (n : Int) / 2

theorem unfold_odd_eq (n : Nat) (hn : n < 18446744073709551616) (ho : n % 2 = 1) : bits .xor .i64 (-1) ((n : Int) / 2) = unfold n := by
  rw [i64_not_any _ (by omega) (by omega)]
  simp only [unfold, if_pos ho]
  omega

theorem unfold_any (n : Nat) (w : World) (hn : n < 18446744073709551616) :
    Calls Tryz.prog 164 #[.int .u64 n] w fun e w' => e = .returned (.int .i64 (unfold n)) ∧ w' = w := by
  by_cases ho : n % 2 = 1
  · have hb : ((n : Int) % 2 == 1) = true := by simp; omega
    have HO : Hid (n % 2 = 1) := ho
    clear ho
    go_enter Tryz.func164, Tryz.ntmps164
    go_wp2
    go_ret
    exact ⟨ret_int (unfold_odd_eq n hn HO.out), rfl⟩
  · have hb : ((n : Int) % 2 == 1) = false := by simp; omega
    have HO : Hid (¬ n % 2 = 1) := ho
    clear ho
    go_enter Tryz.func164, Tryz.ntmps164
    go_wp2
    go_ret
    exact ⟨ret_int (by rw [unfold, if_neg HO.out]), rfl⟩

theorem unfold_fold (x : Int) (h0 : -9223372036854775808 ≤ x) (h1 : x ≤ 9223372036854775807) : unfold (fold x) = x := by
  unfold unfold fold
  split <;> split <;> omega

theorem unfold_range (n : Nat) (hn : n < 18446744073709551616) : -9223372036854775808 ≤ unfold n ∧ unfold n ≤ 9223372036854775807 := by
  unfold unfold
  split <;> omega

set_option maxRecDepth 100000 in
set_option maxHeartbeats 400000 in
theorem putInt_any (a : Option Addr) (n cap : Nat) (x : Int) (l : List Int) (w : World) (h : Bs w a n cap l) (hn : n ≤ 1099511627776) (h0 : -9223372036854775808 ≤ x) (h1 : x ≤ 9223372036854775807) :
    Calls Tryz.prog 135 #[.slice a n cap, .int .i64 x] w fun e w' => ∃ v', e = .returned v' ∧ w'.ownsInts w.heap.size 5 .u8 v' (l ++ M.numB 9 (fold x)) ∧ Below w.heap.size w w' := by
  go_enter Tryz.func135, Tryz.ntmps135
  go_wp2_with fail
  refine (fold_any x _ h0 h1).mono ?_
  rintro e w1 ⟨rfl, rfl⟩
  go_wp2_with fail
  refine (put_any a n cap (fold x) l _ h hn (fold_lt x h0 h1)).mono ?_
  rintro e w2 ⟨v', rfl, hown2, hb2⟩
  go_wp2
  go_ret
  exact ⟨_, rfl, hown2, hb2⟩

theorem drop_at (l : List Int) (k n : Nat) (hl : l.length = n) (hk : k < n) : l.drop k = l[k]?.getD 0 :: l.drop (k + 1) := by
  rw [List.drop_eq_getElem_cons (by omega)]
  have : k < l.length := by omega
  simp [this]

theorem getL_bound (acc k : Nat) (c : Int) (h0 : 0 ≤ c) (h1 : c ≤ 255) (hk : k ≤ 9) (h9 : k = 9 → c ≤ 1) (ha : acc < 2 ^ (7 * k)) :
    acc + (c % 128).toNat * 2 ^ (7 * k) < 18446744073709551616 ∧ acc + (c % 128).toNat * 2 ^ (7 * k) < 2 ^ (7 * (k + 1)) ∧ bits .or .u64 (acc : Int) (IntKind.u64.wrap (c % 128 * 2 ^ (7 * k))) = ((acc + (c % 128).toNat * 2 ^ (7 * k) : Nat) : Int) := by
  have hd : (c % 128).toNat ≤ 127 := by omega
  have e64 : (2 : Nat) ^ 64 = 18446744073709551616 := by decide
  have b1 : acc + (c % 128).toNat * 2 ^ (7 * k) < 2 ^ (7 * (k + 1)) := by
    rw [M.pow7]
    have := Nat.mul_le_mul_right (2 ^ (7 * k)) hd
    omega
  have b2 : acc + (c % 128).toNat * 2 ^ (7 * k) < 18446744073709551616 := by
    by_cases h : k = 9
    · subst h
      have e63 : (2 : Nat) ^ (7 * 9) = 9223372036854775808 := by decide
      rw [e63] at ha ⊢
      have := h9 rfl
      omega
    · have : (2 : Nat) ^ (7 * (k + 1)) ≤ 2 ^ 63 := Nat.pow_le_pow_right (by omega) (by omega)
      have e63 : (2 : Nat) ^ 63 = 9223372036854775808 := by decide
      omega
  refine ⟨b2, b1, ?_⟩
  have e : c % 128 * 2 ^ (7 * k) = (((c % 128).toNat * 2 ^ (7 * k) : Nat) : Int) := by
    rw [Int.natCast_mul, Int.natCast_pow]
    congr 1
    omega
  have ew : IntKind.u64.wrap (((c % 128).toNat * 2 ^ (7 * k) : Nat) : Int) = (((c % 128).toNat * 2 ^ (7 * k) : Nat) : Int) := by
    rw [IntKind.wrap_u64]
    omega
  rw [e, ew]
  exact or_add acc k _ ha b2

theorem g_step (l : List Int) (n k acc : Nat) (hl : l.length = n) (hk : k < n) (hk9 : k ≤ 9) (h9 : ¬ k = 9) (hr : 0 ≤ l[k]?.getD 0 ∧ l[k]?.getD 0 ≤ 255) (ha : acc < 2 ^ (7 * k)) (hg : M.getL k acc (l.drop k) = M.getL 0 0 l) (hc : 128 ≤ l[k]?.getD 0) :
    ∃ acc' : Nat, bits .or .u64 (acc : Int) (IntKind.u64.wrap (l[k]?.getD 0 % 128 * 2 ^ (7 * k))) = (acc' : Int) ∧ acc' < 2 ^ (7 * (k + 1)) ∧ M.getL (k + 1) acc' (l.drop (k + 1)) = M.getL 0 0 l := by
  obtain ⟨_, b1, e⟩ := getL_bound acc k (l[k]?.getD 0) hr.1 hr.2 hk9 (fun h => absurd h h9) ha
  refine ⟨_, e, b1, ?_⟩
  rw [← hg, drop_at l k n hl hk, M.getL_more _ _ _ _ (by omega) hc]
  congr 1
  have : (l[k]?.getD 0).toNat % 128 = (l[k]?.getD 0 % 128).toNat := by omega
  rw [this]

theorem g_done (l : List Int) (n k acc : Nat) (hl : l.length = n) (hk : k < n) (hk9 : k ≤ 9) (h9 : k = 9 → l[k]?.getD 0 ≤ 1) (hr : 0 ≤ l[k]?.getD 0 ∧ l[k]?.getD 0 ≤ 255) (ha : acc < 2 ^ (7 * k)) (hg : M.getL k acc (l.drop k) = M.getL 0 0 l) (hc : l[k]?.getD 0 < 128) (hz : ¬ (0 < k ∧ l[k]?.getD 0 = 0)) :
    bits .or .u64 (acc : Int) (IntKind.u64.wrap (l[k]?.getD 0 % 128 * 2 ^ (7 * k))) = ((M.getL 0 0 l).1 : Int) ∧ (M.getL 0 0 l).2.1 = k + 1 ∧ (M.getL 0 0 l).2.2 = 0 := by
  obtain ⟨_, b1, e⟩ := getL_bound acc k (l[k]?.getD 0) hr.1 hr.2 hk9 h9 ha
  rw [← hg, drop_at l k n hl hk, M.getL_done _ _ _ _ (by omega) hc hz, e]
  have : l[k]?.getD 0 % 128 = l[k]?.getD 0 := by omega
  rw [this]
  exact ⟨rfl, rfl, rfl⟩

theorem g_form (l : List Int) (n k acc : Nat) (hl : l.length = n) (hk : k < n) (hg : M.getL k acc (l.drop k) = M.getL 0 0 l) (hc : (0 < k ∧ l[k]?.getD 0 = 0) ∨ (k = 9 ∧ 1 < l[k]?.getD 0)) :
    (M.getL 0 0 l).1 = 0 ∧ (M.getL 0 0 l).2.1 = 0 ∧ (M.getL 0 0 l).2.2 = 1 := by
  rw [← hg, drop_at l k n hl hk]
  rcases hc with ⟨h1, h2⟩ | ⟨h1, h2⟩
  · rw [M.getL_zero _ _ _ _ h1 h2]; exact ⟨rfl, rfl, rfl⟩
  · rw [M.getL_form _ _ _ _ h1 h2]; exact ⟨rfl, rfl, rfl⟩

theorem g_end (l : List Int) (n k acc : Nat) (hl : l.length = n) (hk : ¬ k < n) (hg : M.getL k acc (l.drop k) = M.getL 0 0 l) :
    (M.getL 0 0 l).1 = 0 ∧ (M.getL 0 0 l).2.1 = 0 ∧ (M.getL 0 0 l).2.2 = 8 := by
  rw [← hg, List.drop_eq_nil_of_le (by omega)]; exact ⟨rfl, rfl, rfl⟩

theorem ret_3 {k1 k2 k3 : IntKind} {a b c a' b' c' : Int} (h1 : a = a') (h2 : b = b') (h3 : c = c') : Ending.returned (.tuple #[.int k1 a, .int k2 b, .int k3 c]) = .returned (.tuple #[.int k1 a', .int k2 b', .int k3 c']) := by rw [h1, h2, h3]

set_option maxRecDepth 100000 in
set_option maxHeartbeats 800000 in
theorem get_some (b o n cap : Nat) (l : List Int) (w : World) (hl : l.length = n) (hn : n ≤ 9223372036854775807) (hr : ∀ i : Nat, 0 ≤ l[i]?.getD 0 ∧ l[i]?.getD 0 ≤ 255)
    (hc : ∀ i, i < n → w.cell? ⟨b, o + i, none⟩ = some (.int .u8 (l.getD i 0))) (h10 : n ≤ 10) :
    Calls Tryz.prog 56 #[.slice (some ⟨b, o, none⟩) n cap] w fun e w' => e = .returned (.tuple #[.int .u64 (M.getL 0 0 l).1, .int .i64 (M.getL 0 0 l).2.1, .int .i64 (M.getL 0 0 l).2.2]) ∧ w' = w := by
  have HL : Hid (l.length = n) := hl
  clear hl
  go_enter Tryz.func56, Tryz.ntmps56
  go_wp2
  go_loop [5, 10] (fun x i => ∃ (k acc : Nat), k ≤ n ∧ k ≤ 9 ∧ i = .int .i64 k ∧ x = .int .u64 acc ∧ Hid (acc < 2 ^ (7 * k)) ∧ Hid (M.getL k acc (l.drop k) = M.getL 0 0 l)) (fun _ i => 10 - (intOf i).toNat)
  case atStart => exact ⟨0, 0, by omega, by omega, rfl, rfl, by show _ < _; simp, rfl⟩
  case round =>
    obtain ⟨k, acc, hk, hk9, rfl, rfl, HA, HG⟩ := hrel
    have hrk := hr k
    by_cases hlt : k < n
    · by_cases h9 : k = 9
      · subst h9
        have hcell := hc 9 hlt
        clear hc hr
        go_wp2
        · have hcc : (1 : Int) < l[9]?.getD 0 := by assumption
          obtain ⟨e1, e2, e3⟩ := g_form l n 9 acc HL.out hlt HG.out (Or.inr ⟨rfl, hcc⟩)
          go_ret3
          exact ⟨ret_3 (by rw [e1]; rfl) (by rw [e2]; rfl) (by rw [e3]), rfl⟩
        · have hz : (l[9]?.getD 0 == 0) = true := by assumption
          obtain ⟨e1, e2, e3⟩ := g_form l n 9 acc HL.out hlt HG.out (Or.inl ⟨by omega, by simpa using hz⟩)
          go_ret3
          exact ⟨ret_3 (by rw [e1]; rfl) (by rw [e2]; rfl) (by rw [e3]), rfl⟩
        · have hz : (l[9]?.getD 0 == 0) = false := by assumption
          have hcc : l[9]?.getD 0 ≤ 1 := by assumption
          obtain ⟨e1, e2, e3⟩ := g_done l n 9 acc HL.out hlt hk9 (fun _ => hcc) hrk HA.out HG.out (by omega) (fun h => by simp [h.2] at hz)
          have ew : IntKind.u64.wrap (l[9]?.getD 0 % 128 * 2 ^ (7 * 9)) = l[9]?.getD 0 % 128 * 9223372036854775808 := by rw [IntKind.wrap_u64]; omega
          rw [ew] at e1
          go_ret3
          exact ⟨ret_3 e1 (by rw [e2]; rfl) (by rw [e3]), rfl⟩
      · have hcell := hc k hlt
        clear hc hr
        go_wp2
        · have hcc : 128 ≤ l[k]?.getD 0 := by assumption
          obtain ⟨acc', e1, e2, e3⟩ := g_step l n k acc HL.out hlt hk9 h9 hrk HA.out HG.out hcc
          go_round
          case rel => exact ⟨k + 1, acc', by omega, by omega, by go_num, by rw [e1], e2, e3⟩
          case measure => simp [intOf]; omega
        · have hz : (l[k]?.getD 0 == 0) = true := by assumption
          have hp : 0 < k := by assumption
          obtain ⟨e1, e2, e3⟩ := g_form l n k acc HL.out hlt HG.out (Or.inl ⟨hp, by simpa using hz⟩)
          go_ret3
          exact ⟨ret_3 (by rw [e1]; rfl) (by rw [e2]; rfl) (by rw [e3]), rfl⟩
        · have hz : (l[k]?.getD 0 == 0) = false := by assumption
          have hcc : l[k]?.getD 0 < 128 := by assumption
          obtain ⟨e1, e2, e3⟩ := g_done l n k acc HL.out hlt hk9 (fun h => absurd h h9) hrk HA.out HG.out hcc (fun h => by simp [h.2] at hz)
          go_ret3
          exact ⟨ret_3 e1 (by rw [e2]; simp) (by rw [e3]), rfl⟩
        · have hp : ¬ 0 < k := by assumption
          have hcc : l[k]?.getD 0 < 128 := by assumption
          obtain ⟨e1, e2, e3⟩ := g_done l n k acc HL.out hlt hk9 (fun h => absurd h h9) hrk HA.out HG.out hcc (fun h => hp h.1)
          go_ret3
          exact ⟨ret_3 e1 (by rw [e2]; simp) (by rw [e3]), rfl⟩
    · clear hc hr
      go_wp2
      obtain ⟨e1, e2, e3⟩ := g_end l n k acc HL.out hlt HG.out
      go_ret3
      exact ⟨ret_3 (by rw [e1]; rfl) (by rw [e2]; rfl) (by rw [e3]), rfl⟩

set_option maxRecDepth 100000 in
set_option maxHeartbeats 800000 in
theorem get_long (b o n cap : Nat) (l : List Int) (w : World) (hl : l.length = n) (hn : n ≤ 9223372036854775807) (hr : ∀ i : Nat, 0 ≤ l[i]?.getD 0 ∧ l[i]?.getD 0 ≤ 255)
    (hc : ∀ i, i < n → w.cell? ⟨b, o + i, none⟩ = some (.int .u8 (l.getD i 0))) (h10 : 10 < n) :
    Calls Tryz.prog 56 #[.slice (some ⟨b, o, none⟩) n cap] w fun e w' => e = .returned (.tuple #[.int .u64 (M.getL 0 0 l).1, .int .i64 (M.getL 0 0 l).2.1, .int .i64 (M.getL 0 0 l).2.2]) ∧ w' = w := by
  have HL : Hid (l.length = n) := hl
  clear hl
  go_enter Tryz.func56, Tryz.ntmps56
  go_wp2
  go_loop [5, 10] (fun x i => ∃ (k acc : Nat), k ≤ n ∧ k ≤ 9 ∧ i = .int .i64 k ∧ x = .int .u64 acc ∧ Hid (acc < 2 ^ (7 * k)) ∧ Hid (M.getL k acc (l.drop k) = M.getL 0 0 l)) (fun _ i => 10 - (intOf i).toNat)
  case atStart => exact ⟨0, 0, by omega, by omega, rfl, rfl, by show _ < _; simp, rfl⟩
  case round =>
    obtain ⟨k, acc, hk, hk9, rfl, rfl, HA, HG⟩ := hrel
    have hrk := hr k
    have hlt : k < n := by omega
    · by_cases h9 : k = 9
      · subst h9
        have hcell := hc 9 hlt
        clear hc hr
        go_wp2
        · have hcc : (1 : Int) < l[9]?.getD 0 := by assumption
          obtain ⟨e1, e2, e3⟩ := g_form l n 9 acc HL.out hlt HG.out (Or.inr ⟨rfl, hcc⟩)
          go_ret3
          exact ⟨ret_3 (by rw [e1]; rfl) (by rw [e2]; rfl) (by rw [e3]), rfl⟩
        · have hz : (l[9]?.getD 0 == 0) = true := by assumption
          obtain ⟨e1, e2, e3⟩ := g_form l n 9 acc HL.out hlt HG.out (Or.inl ⟨by omega, by simpa using hz⟩)
          go_ret3
          exact ⟨ret_3 (by rw [e1]; rfl) (by rw [e2]; rfl) (by rw [e3]), rfl⟩
        · have hz : (l[9]?.getD 0 == 0) = false := by assumption
          have hcc : l[9]?.getD 0 ≤ 1 := by assumption
          obtain ⟨e1, e2, e3⟩ := g_done l n 9 acc HL.out hlt hk9 (fun _ => hcc) hrk HA.out HG.out (by omega) (fun h => by simp [h.2] at hz)
          have ew : IntKind.u64.wrap (l[9]?.getD 0 % 128 * 2 ^ (7 * 9)) = l[9]?.getD 0 % 128 * 9223372036854775808 := by rw [IntKind.wrap_u64]; omega
          rw [ew] at e1
          go_ret3
          exact ⟨ret_3 e1 (by rw [e2]; rfl) (by rw [e3]), rfl⟩
      · have hcell := hc k hlt
        clear hc hr
        go_wp2
        · have hcc : 128 ≤ l[k]?.getD 0 := by assumption
          obtain ⟨acc', e1, e2, e3⟩ := g_step l n k acc HL.out hlt hk9 h9 hrk HA.out HG.out hcc
          go_round
          case rel => exact ⟨k + 1, acc', by omega, by omega, by go_num, by rw [e1], e2, e3⟩
          case measure => simp [intOf]; omega
        · have hz : (l[k]?.getD 0 == 0) = true := by assumption
          have hp : 0 < k := by assumption
          obtain ⟨e1, e2, e3⟩ := g_form l n k acc HL.out hlt HG.out (Or.inl ⟨hp, by simpa using hz⟩)
          go_ret3
          exact ⟨ret_3 (by rw [e1]; rfl) (by rw [e2]; rfl) (by rw [e3]), rfl⟩
        · have hz : (l[k]?.getD 0 == 0) = false := by assumption
          have hcc : l[k]?.getD 0 < 128 := by assumption
          obtain ⟨e1, e2, e3⟩ := g_done l n k acc HL.out hlt hk9 (fun h => absurd h h9) hrk HA.out HG.out hcc (fun h => by simp [h.2] at hz)
          go_ret3
          exact ⟨ret_3 e1 (by rw [e2]; simp) (by rw [e3]), rfl⟩
        · have hp : ¬ 0 < k := by assumption
          have hcc : l[k]?.getD 0 < 128 := by assumption
          obtain ⟨e1, e2, e3⟩ := g_done l n k acc HL.out hlt hk9 (fun h => absurd h h9) hrk HA.out HG.out hcc (fun h => hp h.1)
          go_ret3
          exact ⟨ret_3 e1 (by rw [e2]; simp) (by rw [e3]), rfl⟩

set_option maxRecDepth 100000 in
theorem get_none (a : Option Addr) (cap : Nat) (w : World) :
    Calls Tryz.prog 56 #[.slice a 0 cap] w fun e w' => e = .returned (.tuple #[.int .u64 (M.getL 0 0 []).1, .int .i64 (M.getL 0 0 []).2.1, .int .i64 (M.getL 0 0 []).2.2]) ∧ w' = w := by
  go_enter Tryz.func56, Tryz.ntmps56
  go_wp2
  refine wp_loop_rounds 1 ?_
  rw [rounds_succ]
  go_wp2
  go_ret3
  exact ⟨rfl, rfl⟩

/-- Get: whatever bytes. -/
theorem get_any (a : Option Addr) (n cap : Nat) (l : List Int) (w : World) (h : Bs w a n cap l) :
    Calls Tryz.prog 56 #[.slice a n cap] w fun e w' => e = .returned (.tuple #[.int .u64 (M.getL 0 0 l).1, .int .i64 (M.getL 0 0 l).2.1, .int .i64 (M.getL 0 0 l).2.2]) ∧ w' = w := by
  obtain ⟨h1, h2, h3, h4, h5, h6⟩ := h
  have hr : ∀ i : Nat, 0 ≤ l[i]?.getD 0 ∧ l[i]?.getD 0 ≤ 255 := by
    intro i
    cases e : l[i]? with
    | none => simp
    | some x => simpa using h6 x (List.mem_of_getElem? e)
  by_cases hn : n = 0
  · subst hn
    obtain rfl : l = [] := List.length_eq_zero_iff.1 h1
    exact get_none a cap w
  · obtain ⟨b, o, rfl, hc⟩ := h5 (by omega)
    by_cases h10 : n ≤ 10
    · exact get_some b o n cap l w h1 (by omega) hr hc h10
    · exact get_long b o n cap l w h1 (by omega) hr hc (by omega)

def getI (l : List Int) : Int × Nat × Int := if (M.getL 0 0 l).2.2 = 0 then (unfold (M.getL 0 0 l).1, (M.getL 0 0 l).2.1, 0) else (0, 0, (M.getL 0 0 l).2.2)

set_option maxRecDepth 100000 in
theorem getInt_any (a : Option Addr) (n cap : Nat) (l : List Int) (w : World) (h : Bs w a n cap l) :
    Calls Tryz.prog 154 #[.slice a n cap] w fun e w' => e = .returned (.tuple #[.int .i64 (getI l).1, .int .i64 (getI l).2.1, .int .i64 (getI l).2.2]) ∧ w' = w := by
  have hf := M.getL_facts l 0 0 (by omega) (by decide) h.2.2.2.2.2
  by_cases hz : (M.getL 0 0 l).2.2 = 0
  · have E : Hid (getI l = (unfold (M.getL 0 0 l).1, (M.getL 0 0 l).2.1, 0)) := by show _ = _; rw [getI, if_pos hz]
    have hu := unfold_any (M.getL 0 0 l).1 w hf.1
    have hg := get_any a n cap l w h
    rw [hz] at hg
    clear hz hf
    generalize getI l = I at *
    generalize M.getL 0 0 l = G at *
    go_enter Tryz.func154, Tryz.ntmps154
    go_wp2_with fail
    refine hg.mono ?_
    rintro e w1 ⟨rfl, rfl⟩
    go_wp2_with fail
    refine hu.mono ?_
    rintro e w1 ⟨rfl, rfl⟩
    go_wp2
    go_ret3
    rw [E.out]
    exact ⟨rfl, rfl⟩
  · have E : Hid (getI l = (0, 0, (M.getL 0 0 l).2.2)) := by show _ = _; rw [getI, if_neg hz]
    have hg := get_any a n cap l w h
    have hb : ((M.getL 0 0 l).2.2 != 0) = true := by simpa using hz
    clear hz hf
    generalize getI l = I at *
    generalize M.getL 0 0 l = G at *
    go_enter Tryz.func154, Tryz.ntmps154
    go_wp2_with fail
    refine hg.mono ?_
    rintro e w1 ⟨rfl, rfl⟩
    go_wp2
    go_ret3
    rw [E.out]
    exact ⟨rfl, rfl⟩

end Go.Proofs.YtdogecaonlmalaaGreat
