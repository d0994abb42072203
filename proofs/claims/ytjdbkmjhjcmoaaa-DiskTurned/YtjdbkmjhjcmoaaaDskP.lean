/- Files as the document has them: bytes by names; what appends make of them. -/
import Derived.Test.YtjdbkmjhjcmoaaaMapS
namespace Go.Proofs.Ytjdbkmjhjcmoaaa

/-- Bytes by names. -/
abbrev Files := ByteArray → Option (List Int)

def addF (F : Files) (s : ByteArray) (z : List Int) : Files := fun t => if t = s then some ((F s).getD [] ++ z) else F t
def redoF (F : Files) : List (ByteArray × Nat) → List Int → Files
  | [], _ => F
  | (s, n) :: cs, lo => if n ≤ lo.length then redoF (addF F s (lo.take n)) cs (lo.drop n) else if lo = [] then F else addF F s lo

/-- What G has begins with what F has. -/
def leF (F G : Files) : Prop := ∀ s x, F s = some x → ∃ y, G s = some y ∧ x <+: y

theorem leF.refl (F : Files) : leF F F := fun _ x h => ⟨x, h, List.prefix_refl x⟩
theorem leF.trans {F G H : Files} (h : leF F G) (k : leF G H) : leF F H := fun s x hx => by
  obtain ⟨y, hy, p⟩ := h s x hx
  obtain ⟨z, hz, q⟩ := k s y hy
  exact ⟨z, hz, p.trans q⟩
theorem le_addF (F : Files) (s : ByteArray) (z : List Int) : leF F (addF F s z) := fun t x hx => by
  unfold addF
  by_cases e : t = s
  · subst e
    exact ⟨_, if_pos rfl, by rw [hx]; exact List.prefix_append _ _⟩
  · exact ⟨x, by rw [if_neg e, hx], List.prefix_refl x⟩
theorem addF_mono (F : Files) (s : ByteArray) {z z' : List Int} (h : z <+: z') : leF (addF F s z) (addF F s z') := fun t x hx => by
  unfold addF at hx ⊢
  by_cases e : t = s
  · rw [if_pos e] at hx ⊢
    cases hx
    refine ⟨_, rfl, ?_⟩
    obtain ⟨u, rfl⟩ := h
    exact ⟨u, by simp⟩
  · rw [if_neg e] at hx ⊢
    exact ⟨x, hx, List.prefix_refl x⟩
theorem le_redoF (F : Files) (cs : List (ByteArray × Nat)) (lo : List Int) : leF F (redoF F cs lo) := by
  induction cs generalizing F lo with
  | nil => exact leF.refl F
  | cons p cs ih =>
    obtain ⟨s, n⟩ := p
    unfold redoF
    split
    · exact (le_addF F s _).trans (ih _ _)
    · split
      · exact leF.refl F
      · exact le_addF F s lo
/-- Fewer bytes make no more. -/
theorem redoF_take (F : Files) (cs : List (ByteArray × Nat)) (lo : List Int) (k : Nat) (hs : (cs.map (·.2)).sum ≤ lo.length) : leF (redoF F cs (lo.take k)) (redoF F cs lo) := by
  induction cs generalizing F lo k with
  | nil => exact leF.refl F
  | cons p cs ih =>
    obtain ⟨s, n⟩ := p
    have hs' : n + (cs.map (·.2)).sum ≤ lo.length := by simpa using hs
    have h1 : redoF F ((s, n) :: cs) lo = redoF (addF F s (lo.take n)) cs (lo.drop n) := by
      rw [redoF, if_pos (by omega)]
    rw [h1]
    by_cases h : n ≤ (lo.take k).length
    · rw [redoF, if_pos h]
      have hk : n ≤ k := by rw [List.length_take] at h; omega
      rw [List.take_take, Nat.min_eq_left hk, List.drop_take]
      exact ih _ _ _ (by rw [List.length_drop]; omega)
    · rw [redoF, if_neg h]
      have hp : lo.take k <+: lo.take n := by
        rw [List.length_take] at h
        have : k ≤ n := by omega
        rw [← Nat.min_eq_left this, ← List.take_take]
        exact List.take_prefix _ _
      split
      · exact (le_addF F s _).trans (le_redoF _ _ _)
      · exact (addF_mono F s hp).trans (le_redoF _ _ _)

theorem redoF_snoc (F : Files) (cs : List (ByteArray × Nat)) (lo : List Int) (s : ByteArray) (z : List Int) (hs : (cs.map (·.2)).sum = lo.length) : redoF F (cs ++ [(s, z.length)]) (lo ++ z) = addF (redoF F cs lo) s z := by
  induction cs generalizing F lo with
  | nil =>
    have : lo = [] := List.length_eq_zero_iff.1 (by simpa using hs.symm)
    subst this
    simp [redoF]
  | cons p cs ih =>
    obtain ⟨t, n⟩ := p
    have hs' : n + (cs.map (·.2)).sum = lo.length := by simpa using hs
    rw [List.cons_append, redoF, if_pos (by rw [List.length_append]; omega), List.take_append_of_le_length (by omega), List.drop_append_of_le_length (by omega), ih _ _ (by rw [List.length_drop]; omega)]
    conv => rhs; rw [redoF, if_pos (by omega)]

/-- No file is longer. -/
def capF (F : Files) (M : Nat) : Prop := ∀ s z, F s = some z → z.length ≤ M
theorem capF.mono {F : Files} {M M' : Nat} (h : capF F M) (hM : M ≤ M') : capF F M' := fun s z hz => Nat.le_trans (h s z hz) hM
theorem capF.add {F : Files} {M : Nat} (h : capF F M) (s : ByteArray) (z : List Int) : capF (addF F s z) (M + z.length) := fun t x hx => by
  unfold addF at hx
  by_cases e : t = s
  · rw [if_pos e] at hx
    cases hx
    rw [List.length_append]
    cases hF : F s with
    | none => simp
    | some y => have := h s y hF; simp; omega
  · rw [if_neg e] at hx
    have := h t x hx; omega
theorem capF.redo {F : Files} {M : Nat} (h : capF F M) (cs : List (ByteArray × Nat)) (lo : List Int) : capF (redoF F cs lo) (M + lo.length) := by
  induction cs generalizing F M lo with
  | nil => exact h.mono (by omega)
  | cons p cs ih =>
    obtain ⟨s, n⟩ := p
    unfold redoF
    split
    · refine (ih (h.add s (lo.take n)) (lo.drop n)).mono ?_
      rw [List.length_take, List.length_drop]; omega
    · split
      · exact h.mono (by omega)
      · exact h.add s lo
end Go.Proofs.Ytjdbkmjhjcmoaaa
