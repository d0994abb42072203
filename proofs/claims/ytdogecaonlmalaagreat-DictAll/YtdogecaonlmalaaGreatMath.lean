/- Plain arithmetic of numbers written seven bits a byte: what is written, what is read, and that reading gives back what was written. -/
namespace Go.Proofs.YtdogecaonlmalaaGreat.M

/-- The bytes of n, seven bits each, the least first; f: at most f + 1 bytes. -/
def numB : Nat → Nat → List Int
  | 0, n => [(n : Int)]
  | f + 1, n => if n < 128 then [(n : Int)] else ((n % 128 + 128 : Nat) : Int) :: numB f (n / 128)

theorem numB_lt (f n : Nat) (h : n < 128) : numB f n = [(n : Int)] := by cases f <;> simp [numB, h]
theorem numB_ge (f n : Nat) (h : 128 ≤ n) : numB (f + 1) n = ((n % 128 + 128 : Nat) : Int) :: numB f (n / 128) := by
  simp only [numB]; rw [if_neg (by omega)]

theorem numB_len (f n : Nat) : 1 ≤ (numB f n).length ∧ (numB f n).length ≤ f + 1 := by
  induction f generalizing n with
  | zero => simp [numB]
  | succ f ih =>
    by_cases h : n < 128
    · rw [numB_lt _ _ h]; simp
    · rw [numB_ge _ _ (by omega)]
      have := ih (n / 128)
      simp only [List.length_cons]; omega

theorem pow7 (i : Nat) : 2 ^ (7 * (i + 1)) = 2 ^ (7 * i) * 128 := by
  rw [show 7 * (i + 1) = 7 * i + 7 from by omega, Nat.pow_add]

theorem numB_range (f n : Nat) (h : n < 2 ^ (7 * f) * 128) : ∀ x ∈ numB f n, 0 ≤ x ∧ x ≤ 255 := by
  induction f generalizing n with
  | zero => intro x hx; simp [numB] at hx h; omega
  | succ f ih =>
    intro x hx
    by_cases hn : n < 128
    · rw [numB_lt _ _ hn] at hx; simp at hx; omega
    · rw [numB_ge _ _ (by omega)] at hx
      rcases List.mem_cons.1 hx with hx | hx
      · omega
      · refine ih (n / 128) ?_ x hx
        rw [pow7] at h
        exact Nat.div_lt_of_lt_mul (by omega)

theorem pow7_le (f : Nat) (h : f ≤ 9) : 2 ^ (7 * f) * 128 ≤ 1180591620717411303424 := by
  have : 2 ^ (7 * f) ≤ 2 ^ 63 := Nat.pow_le_pow_right (by omega) (by omega)
  have e : (2 : Nat) ^ 63 = 9223372036854775808 := by decide
  omega

theorem pow7_div (f k : Nat) (h : k < 2 ^ (7 * (f + 1)) * 128) : k / 128 < 2 ^ (7 * f) * 128 := by
  rw [pow7] at h
  exact Nat.div_lt_of_lt_mul (by omega)

theorem pow7_zero (k : Nat) (h : k < 2 ^ (7 * 0) * 128) : k < 128 := by simpa using h

theorem numB_step (f k n : Nat) (pre : List Int) (h : 128 ≤ k) (e : pre ++ numB (f + 1) k = numB 9 n) : (pre ++ [(k : Int) % 128 + 128]) ++ numB f (k / 128) = numB 9 n := by
  rw [← e, numB_ge _ _ h]
  simp

theorem numB_last (f k n : Nat) (pre : List Int) (h : k < 128) (e : pre ++ numB f k = numB 9 n) : pre ++ [(k : Int)] = numB 9 n := by
  rw [← e, numB_lt _ _ h]

/-- What is read of bytes: the number, how many bytes it took, the error's number. -/
def getL (i acc : Nat) : List Int → Nat × Nat × Int
  | [] => (0, 0, 8)
  | c :: r => if i = 9 ∧ 1 < c then (0, 0, 1) else if 128 ≤ c then getL (i + 1) (acc + (c.toNat % 128) * 2 ^ (7 * i)) r else if 0 < i ∧ c = 0 then (0, 0, 1) else (acc + c.toNat * 2 ^ (7 * i), i + 1, 0)

theorem getL_nil (i acc : Nat) : getL i acc [] = (0, 0, 8) := rfl
theorem getL_form (i acc : Nat) (c : Int) (r : List Int) (h : i = 9) (h1 : 1 < c) : getL i acc (c :: r) = (0, 0, 1) := by simp [getL, h, h1]
theorem getL_more (i acc : Nat) (c : Int) (r : List Int) (h : ¬ (i = 9 ∧ 1 < c)) (h1 : 128 ≤ c) : getL i acc (c :: r) = getL (i + 1) (acc + (c.toNat % 128) * 2 ^ (7 * i)) r := by
  simp only [getL]; rw [if_neg h, if_pos h1]
theorem getL_zero (i acc : Nat) (c : Int) (r : List Int) (h : 0 < i) (h1 : c = 0) : getL i acc (c :: r) = (0, 0, 1) := by
  subst h1; simp [getL, h]
theorem getL_done (i acc : Nat) (c : Int) (r : List Int) (h : ¬ (i = 9 ∧ 1 < c)) (h1 : c < 128) (h2 : ¬ (0 < i ∧ c = 0)) : getL i acc (c :: r) = (acc + c.toNat * 2 ^ (7 * i), i + 1, 0) := by
  simp only [getL]; rw [if_neg h, if_neg (by omega), if_neg h2]

theorem getL_numB (f : Nat) : ∀ (i acc m : Nat) (more : List Int), f + i = 9 → m * 2 ^ (7 * i) < 2 ^ 64 → (i = 0 ∨ m ≠ 0) →
    getL i acc (numB f m ++ more) = (acc + m * 2 ^ (7 * i), i + (numB f m).length, 0) := by
  induction f with
  | zero =>
    intro i acc m more hi hm h0
    obtain rfl : i = 9 := by omega
    have h2 : m < 2 := by
      have : (2 : Nat) ^ (7 * 9) = 9223372036854775808 := by decide
      have e : (2 : Nat) ^ 64 = 18446744073709551616 := by decide
      rw [this, e] at hm; omega
    simp only [numB, List.cons_append, List.nil_append]
    rw [getL_done _ _ _ _ (by omega) (by omega) (by omega)]
    simp
  | succ f ih =>
    intro i acc m more hi hm h0
    by_cases hl : m < 128
    · rw [numB_lt _ _ hl]
      simp only [List.cons_append, List.nil_append]
      rw [getL_done _ _ _ _ (by omega) (by omega) (by omega)]
      simp
    · rw [numB_ge _ _ (by omega)]
      simp only [List.cons_append]
      rw [getL_more _ _ _ _ (by omega) (by omega)]
      have hp := pow7 i
      have hd : m / 128 * 2 ^ (7 * (i + 1)) ≤ m * 2 ^ (7 * i) := by
        rw [hp, Nat.mul_comm (2 ^ (7 * i)) 128, ← Nat.mul_assoc]
        exact Nat.mul_le_mul_right _ (Nat.div_mul_le_self m 128)
      rw [ih (i + 1) _ (m / 128) more (by omega) (by omega) (Or.inr (by omega))]
      have e1 : (((m % 128 + 128 : Nat) : Int).toNat % 128) = m % 128 := by omega
      rw [e1]
      have e2 : m % 128 * 2 ^ (7 * i) + m / 128 * 2 ^ (7 * (i + 1)) = m * 2 ^ (7 * i) := by
        rw [hp, Nat.mul_comm (2 ^ (7 * i)) 128, ← Nat.mul_assoc, ← Nat.add_mul]
        congr 1; omega
      simp only [List.length_cons]
      rw [Nat.add_assoc acc, e2]
      congr 2; omega

theorem getL_facts : ∀ (l : List Int) (i acc : Nat), i ≤ 9 → acc < 2 ^ (7 * i) → (∀ x ∈ l, 0 ≤ x ∧ x ≤ 255) →
    (getL i acc l).1 < 18446744073709551616 ∧ (((getL i acc l).2.2 = 0 ∧ i + 1 ≤ (getL i acc l).2.1 ∧ (getL i acc l).2.1 ≤ i + l.length ∧ (getL i acc l).2.1 ≤ 10) ∨ (((getL i acc l).2.2 = 1 ∨ (getL i acc l).2.2 = 8) ∧ (getL i acc l).1 = 0 ∧ (getL i acc l).2.1 = 0))
  | [], i, acc, _, _, _ => by rw [getL_nil]; exact ⟨by decide, Or.inr ⟨Or.inr rfl, rfl, rfl⟩⟩
  | c :: r, i, acc, hi, ha, hr => by
    have hc := hr c (List.mem_cons_self ..)
    by_cases h1 : i = 9 ∧ 1 < c
    · rw [getL_form _ _ _ _ h1.1 h1.2]; exact ⟨by decide, Or.inr ⟨Or.inl rfl, rfl, rfl⟩⟩
    · have hd : c.toNat % 128 ≤ 127 := by omega
      have hb := Nat.mul_le_mul_right (2 ^ (7 * i)) hd
      have hp := pow7 i
      by_cases h2 : 128 ≤ c
      · rw [getL_more _ _ _ _ h1 h2]
        have := getL_facts r (i + 1) (acc + c.toNat % 128 * 2 ^ (7 * i)) (by omega) (by omega) (fun x hx => hr x (List.mem_cons_of_mem _ hx))
        simp only [List.length_cons]
        refine ⟨this.1, ?_⟩
        rcases this.2 with ⟨a, b, d, e⟩ | h
        · exact Or.inl ⟨a, by omega, by omega, e⟩
        · exact Or.inr h
      · by_cases h3 : 0 < i ∧ c = 0
        · rw [getL_zero _ _ _ _ h3.1 h3.2]; exact ⟨by decide, Or.inr ⟨Or.inl rfl, rfl, rfl⟩⟩
        · rw [getL_done _ _ _ _ h1 (by omega) h3]
          simp only [List.length_cons]
          refine ⟨?_, Or.inl ⟨by trivial, by omega, by omega, by omega⟩⟩
          have hct : c.toNat = c.toNat % 128 := by omega
          rw [← hct] at hb
          by_cases h9 : i = 9
          · subst h9
            have e63 : (2 : Nat) ^ (7 * 9) = 9223372036854775808 := by decide
            rw [e63] at ha ⊢
            omega
          · have : (2 : Nat) ^ (7 * (i + 1)) ≤ 2 ^ 63 := Nat.pow_le_pow_right (by omega) (by omega)
            have e63 : (2 : Nat) ^ 63 = 9223372036854775808 := by decide
            show acc + c.toNat * 2 ^ (7 * i) < _
            omega

/-- A whole number as num.Put writes it, and as num.Get reads it with whatever behind it. -/
theorem getL_put (m : Nat) (more : List Int) (h : m < 18446744073709551616) : getL 0 0 (numB 9 m ++ more) = (m, (numB 9 m).length, 0) := by
  have := getL_numB 9 0 0 m more rfl (by have e : (2 : Nat) ^ 64 = 18446744073709551616 := by decide
                                         rw [e]; simpa using h) (Or.inl rfl)
  simpa using this

end Go.Proofs.YtdogecaonlmalaaGreat.M
