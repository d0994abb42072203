/- Contracts of the small functions that the laws of this seat ask: Short, same; a byte set, a place. -/
import Derived.Test.YtjdbkmjhjcmoaaaLawA
namespace Go.Proofs.Ytjdbkmjhjcmoaaa
open Go.RowKit

set_option maxRecDepth 100000 in
theorem short_any (a : Option Addr) (n cap m : Nat) (J : Int) (l : List Int) (w : World) (h : Bs w a n cap l) (_hm : m ≤ 100000) (hJ : J = (m : Int)) :
    Calls Try.prog 12 #[.slice a n cap, .int .i64 J] w fun e w' => ∃ k L, e = .returned (.slice a k cap) ∧ w' = w ∧ k ≤ n ∧ k ≤ m ∧ Hid (L = l.take m) ∧ Bs w a k cap L := by
  subst hJ
  have hcap := h.2.2.1
  have hnc := h.2.1
  have HB := hide h
  have hl := h.1
  by_cases hle : n ≤ m
  · have s1 := fun W => run_uptoA a n cap n (n : Int) rfl hnc W
    have HE : Hid (l = l.take m) := by show _ = _; rw [List.take_of_length_le (by omega)]
    clear h hl
    go_enter Try.func12, Try.ntmps12
    go_wp2
    go_ret
    exact ⟨n, l, rfl, rfl, Nat.le_refl _, hle, HE, HB.out⟩
  · have s1 := fun W => run_uptoA a n cap m (m : Int) rfl (by omega) W
    have hlt : m < n := by omega
    have HT := hide (h.take m (by omega))
    clear h hl
    go_enter Try.func12, Try.ntmps12
    go_wp2
    go_ret
    exact ⟨m, _, rfl, rfl, by omega, Nat.le_refl _, rfl, HT.out⟩

set_option maxRecDepth 100000 in
theorem same_any (a a' : Option Addr) (n n' c c' : Nat) (l l' : List Int) (w : World) (h : Bs w a n c l) (h' : Bs w a' n' c' l') (B : Bool) (hB : B = decide (l = l')) :
    Calls Try.prog 16 #[.slice a n c, .slice a' n' c'] w fun e w' => e = .returned (.bool B) ∧ w' = w := by
  have c1 := conv_any a n c l w w h (fun _ _ h => h)
  have c2 := conv_any a' n' c' l' w w h' (fun _ _ h => h)
  have hb := str_beq l l' h.2.2.2.2.2 h'.2.2.2.2.2 B hB
  clear h h' hB
  generalize strOfNums l = s at *
  generalize strOfNums l' = s' at *
  go_enter Try.func16, Try.ntmps16
  go_wp2
  go_ret
  exact ⟨rfl, rfl⟩

/-- A byte of the call's own set to another one. -/
theorem setAt {w : World} {B g c i : Nat} {l : List Int} {y : Int} (h : w.ownsInts B 5 .u8 (.slice (some ⟨g, 0, none⟩) l.length c) l) (hi : i < l.length) (hy : 0 ≤ y ∧ y ≤ 255) :
    w.cell? ⟨g, i, none⟩ = some (.int .u8 (l.getD i 0)) ∧ w.frozen? ⟨g, i, none⟩ = false ∧ (w.setCell ⟨g, i, none⟩ (.int .u8 y)).ownsInts B 5 .u8 (.slice (some ⟨g, 0, none⟩) l.length c) (l.set i y) ∧ w.grownBy (w.setCell ⟨g, i, none⟩ (.int .u8 y)) (some g) := by
  have h1 := h.1.cellAt i (by simpa using hi)
  have h2 := h.1.frozenAt i
  obtain ⟨h3, h4⟩ := h.1.stored i (.int .u8 y)
  refine ⟨by rw [h1]; simp [hi], h2, ⟨?_, fun z hz => ?_⟩, h4⟩
  · have e2 : (l.map (Value.int .u8)).set i (.int .u8 y) = (l.set i y).map (Value.int .u8) := by rw [List.map_set]
    have e1 : (l.set i y).length = l.length := by simp
    rw [e1, ← e2]
    exact h3
  · rcases List.mem_or_eq_of_mem_set hz with hz | rfl
    · exact h.2 z hz
    · exact wf_u8 hy

theorem xor_u8 (a x : Int) (ha : 0 ≤ a ∧ a ≤ 255) (hx : 0 ≤ x ∧ x ≤ 255) : ∃ y, bits .xor .u8 a x = y ∧ 0 ≤ y ∧ y ≤ 255 ∧ (x ≠ 0 → y ≠ a) := by
  obtain ⟨n, rfl⟩ := Int.eq_ofNat_of_zero_le ha.1
  obtain ⟨m, rfl⟩ := Int.eq_ofNat_of_zero_le hx.1
  have e1 : (BitVec.ofInt 8 (n : Int)).toNat = n := by
    rw [BitVec.ofInt_natCast, BitVec.toNat_ofNat]; exact Nat.mod_eq_of_lt (by omega)
  have e2 : (BitVec.ofInt 8 (m : Int)).toNat = m := by
    rw [BitVec.ofInt_natCast, BitVec.toNat_ofNat]; exact Nat.mod_eq_of_lt (by omega)
  have hlt : n ^^^ m < 2 ^ 8 := Nat.xor_lt_two_pow (by omega) (by omega)
  have e : bits .xor .u8 (n : Int) (m : Int) = ((n ^^^ m : Nat) : Int) := by
    show IntKind.u8.wrap ((BitVec.ofInt 8 (n : Int) ^^^ BitVec.ofInt 8 (m : Int)).toNat : Int) = _
    rw [BitVec.toNat_xor, e1, e2, IntKind.wrap_u8]
    omega
  refine ⟨_, e, by omega, by omega, fun hm he => hm ?_⟩
  have he' : n ^^^ m = n := by omega
  have := congrArg (fun t => n ^^^ t) he'
  simp only [← Nat.xor_assoc, Nat.xor_self, Nat.zero_xor] at this
  omega

/-- (at % k + k) % k as Go reckons it: a place. -/
theorem place (at' : Int) (k : Nat) (hk : 0 < k) : ∃ (r : Int) (i : Nat), at'.tmod (k : Int) = r ∧ -(k : Int) < r ∧ r < (k : Int) ∧ (r + (k : Int)) % (k : Int) = (i : Int) ∧ i < k := by
  have h1 := Int.tmod_lt_of_pos at' (b := (k : Int)) (by omega)
  have h2 := Int.lt_tmod_of_pos at' (b := (k : Int)) (by omega)
  refine ⟨_, ((at'.tmod (k : Int) + (k : Int)) % (k : Int)).toNat, rfl, h2, h1, ?_, ?_⟩
  · have := Int.emod_nonneg (at'.tmod (k : Int) + (k : Int)) (b := (k : Int)) (by omega)
    omega
  · have := Int.emod_lt_of_pos (at'.tmod (k : Int) + (k : Int)) (b := (k : Int)) (by omega)
    have := Int.emod_nonneg (at'.tmod (k : Int) + (k : Int)) (b := (k : Int)) (by omega)
    omega

theorem split_at (l : List Int) (i : Nat) (hi : i < l.length) : l = l.take i ++ l.getD i 0 :: l.drop (i + 1) := by
  conv => lhs; rw [← List.take_append_drop i l]
  rw [List.drop_eq_getElem_cons hi]
  simp [hi]
theorem set_at (l : List Int) (i : Nat) (y : Int) (hi : i < l.length) : l.set i y = l.take i ++ y :: l.drop (i + 1) := by
  rw [List.set_eq_take_append_cons_drop, if_pos hi]

theorem Bs.at {w : World} {b o n cap : Nat} {l : List Int} (h : Bs w (some ⟨b, o, none⟩) n cap l) (i : Nat) (hi : i < n) : w.cell? ⟨b, o + i, none⟩ = some (.int .u8 (l[i]?.getD 0)) := by
  obtain ⟨h1, h2, h3, h4, h5, h6⟩ := h
  obtain ⟨b', o', e, hc⟩ := h5 (by omega)
  obtain ⟨rfl, rfl⟩ : b = b' ∧ o = o' := by simpa using e
  rw [hc i hi, List.getD_eq_getElem?_getD]
theorem Bs.at0 {w : World} {b n cap : Nat} {l : List Int} (h : Bs w (some ⟨b, 0, none⟩) n cap l) (i : Nat) (hi : i < n) : w.cell? ⟨b, i, none⟩ = some (.int .u8 (l[i]?.getD 0)) := by
  have := h.at i hi
  rwa [Nat.zero_add] at this

/-- What the call owns, as a slice. -/
theorem owns_bs {w : World} {B n : Nat} {v : Value} {l : List Int} (h : w.ownsInts B 5 .u8 v l) (hn : l.length = n) : ∃ a c, v = .slice a n c ∧ Bs w a n c l := by
  subst hn
  exact Bs.of_owns h
end Go.Proofs.Ytjdbkmjhjcmoaaa
