/- The document's own reader of a change: a contract of its GetMut. -/
import Derived.Test.YtgpfpmocdmeldaaGreatMutF
namespace Go.Proofs.YtgpfpmocdmeldaaGreat
open Go.RowKit

/-- Where the k-th number begins; that number; its error. -/
def posL (l : List Int) : Nat → Nat
  | 0 => 0
  | k + 1 => posL l k + (M.getL 0 0 (l.drop (posL l k))).2.1
def nmL (l : List Int) (k : Nat) : Nat := (M.getL 0 0 (l.drop (posL l k))).1
def erL (l : List Int) (k : Nat) : Int := (M.getL 0 0 (l.drop (posL l k))).2.2
def trN (n : Nat) : Int := if 1000 < n then 1000 else (n : Int)
def arrG (f : Nat → Int) : Obj := .cells #[.int .u64 (f 0), .int .u64 (f 1), .int .u64 (f 2), .int .u64 (f 3), .int .u64 (f 4)] 83 (0, 0)
def zF (l : List Int) (k : Nat) (j : Nat) : Int := if j < k then trN (nmL l j) else 0
def wantL (l : List Int) (k : Nat) : Nat := if 0 < k ∧ (nmL l 0 = 5 ∨ nmL l 0 = 6) then 5 else 4

theorem posL_le (l : List Int) (hr : ∀ x ∈ l, 0 ≤ x ∧ x ≤ 255) (k : Nat) : posL l k ≤ l.length := by
  induction k with
  | zero => exact Nat.zero_le _
  | succ k ih =>
    have := (getL_le (l.drop (posL l k)) (fun x hx => hr x (List.mem_of_mem_drop hx))).1
    rw [List.length_drop] at this
    show _ + _ ≤ _
    omega

theorem nmL_lt (l : List Int) (hr : ∀ x ∈ l, 0 ≤ x ∧ x ≤ 255) (k : Nat) : nmL l k < 18446744073709551616 :=
  (M.getL_facts (l.drop (posL l k)) 0 0 (by omega) (by decide) (fun x hx => hr x (List.mem_of_mem_drop hx))).1

theorem num1_pos (l : List Int) (k : Nat) : num1 l (posL l k) 0 = (toI (nmL l k), posL l (k + 1), erL l k) := by
  rw [num1, if_neg (by simp)]; rfl

theorem arr_cells {w : World} {g : Nat} {f : Nat → Int} (h : w.heap[g]? = some (arrG f)) (j : Nat) (hj : j < 5) : w.cell? ⟨g, j, none⟩ = some (.int .u64 (f j)) ∧ w.frozen? ⟨g, j, none⟩ = false := by
  rcases (show j = 0 ∨ j = 1 ∨ j = 2 ∨ j = 3 ∨ j = 4 by omega) with rfl | rfl | rfl | rfl | rfl <;> simp [World.cell?, World.frozen?, h, arrG]

theorem arr_set {w : World} {g : Nat} {f : Nat → Int} (h : w.heap[g]? = some (arrG f)) (j : Nat) (hj : j < 5) (x : Int) (f' : Nat → Int) (hf : ∀ i, i < 5 → f' i = if i = j then x else f i) : (w.setCell ⟨g, j, none⟩ (.int .u64 x)).heap[g]? = some (arrG f') := by
  obtain ⟨hlt, he⟩ := Array.getElem?_eq_some_iff.1 h
  have f0 := hf 0 (by omega); have f1 := hf 1 (by omega); have f2 := hf 2 (by omega); have f3 := hf 3 (by omega); have f4 := hf 4 (by omega)
  rcases (show j = 0 ∨ j = 1 ∨ j = 2 ∨ j = 3 ∨ j = 4 by omega) with rfl | rfl | rfl | rfl | rfl <;> simp [World.setCell, Array.getElem_modify, hlt, he, arrG, f0, f1, f2, f3, f4]

/-- What GetMut keeps between its rounds. -/
def Gm (w : World) (l : List Int) (k : Nat) (W : World) : Prop :=
  W.heap[w.heap.size]? = some (mObj 0 0 0 0 0 0) ∧ W.heap[w.heap.size + 1]? = some (arrG (zF l k)) ∧ Below w.heap.size w W

theorem Gm.next {w W : World} {l : List Int} {k : Nat} (h : Gm w l k W) (hk : k < 5) (x : Int) (hx : x = trN (nmL l k)) : Gm w l (k + 1) (W.setCell ⟨w.heap.size + 1, k, none⟩ (.int .u64 x)) := by
  obtain ⟨h1, h2, h3⟩ := h
  refine ⟨?_, arr_set h2 k hk x _ (fun i _ => ?_), h3.setCell (p := ⟨w.heap.size + 1, k, none⟩) (by simp) _⟩
  · rw [Below.heap_setCell _ _ _ _ (by simp)]; exact h1
  · unfold zF
    by_cases e : i = k
    · subst e; rw [if_pos (by omega), if_pos rfl, hx]
    · rw [if_neg e]
      by_cases e2 : i < k
      · rw [if_pos (by omega), if_pos e2]
      · rw [if_neg (by omega), if_neg e2]

theorem Gm.next2 {w W : World} {l : List Int} {k : Nat} (h : Gm w l k W) (hk : k < 5) (y x : Int) (hx : x = trN (nmL l k)) : Gm w l (k + 1) ((W.setCell ⟨w.heap.size + 1, k, none⟩ (.int .u64 y)).setCell ⟨w.heap.size + 1, k, none⟩ (.int .u64 x)) := by
  obtain ⟨h1, h2, h3⟩ := h
  have h2' := arr_set h2 k hk y (fun i => if i = k then y else zF l k i) (fun i _ => rfl)
  refine ⟨?_, arr_set h2' k hk x _ (fun i _ => ?_), (h3.setCell (p := ⟨w.heap.size + 1, k, none⟩) (by simp) _).setCell (p := ⟨w.heap.size + 1, k, none⟩) (by simp) _⟩
  · rw [Below.heap_setCell _ _ _ _ (by simp), Below.heap_setCell _ _ _ _ (by simp)]; exact h1
  · unfold zF
    by_cases e : i = k
    · subst e; rw [if_pos (by omega), if_pos rfl, hx]
    · simp only [if_neg e]
      by_cases e2 : i < k
      · rw [if_pos (by omega), if_pos e2]
      · rw [if_neg (by omega), if_neg e2]

/-- An error at the k-th number is the answer's error. -/
theorem hasF_toI (n : Nat) (h : n = 5 ∨ n = 6) : hasF (toI n) = true := by
  rw [toI_small n (by omega)]
  rcases h with rfl | rfl <;> decide

set_option maxHeartbeats 800000 in
theorem getM_err (l : List Int) (A B C D F V : Int × Nat × Int) (hc : Chg l A B C D F V) (k : Nat) (hk : k < wantL l k) (h0 : ∀ j, j < k → erL l j = 0) (he : erL l k ≠ 0) : getM A B C D F V = (zM, 0, erL l k) := by
  have ea := hc.a; have eb := hc.b; have ec := hc.c; have ed := hc.d; have ef := hc.f; have ev := hc.v
  have eA : A = (toI (nmL l 0), posL l 1, erL l 0) := by rw [ea]; exact num1_pos l 0
  have hV : V.2.2 = erL l k := by
    rcases (show k = 0 ∨ k = 1 ∨ k = 2 ∨ k = 3 ∨ k = 4 by unfold wantL at hk; split at hk <;> omega) with rfl | rfl | rfl | rfl | rfl
    · rw [eA] at eb; simp only [num1, if_pos he] at eb
      rw [eb] at ec; simp only [num1, if_pos he] at ec
      rw [ec] at ed; simp only [num1, if_pos he] at ed
      have ef2 : F.2.2 = erL l 0 := by rw [ef, ed]; split <;> simp [num1, he]
      rw [ev]; split <;> simp [sgn1, ef2, he]
    · have e0 := h0 0 (by omega)
      rw [eA, e0] at eb; rw [num1_pos l 1] at eb
      rw [eb] at ec; simp only [num1, if_pos he] at ec
      rw [ec] at ed; simp only [num1, if_pos he] at ed
      have ef2 : F.2.2 = erL l 1 := by rw [ef, ed]; split <;> simp [num1, he]
      rw [ev]; split <;> simp [sgn1, ef2, he]
    · have e0 := h0 0 (by omega); have e1 := h0 1 (by omega)
      rw [eA, e0] at eb; rw [num1_pos l 1, e1] at eb
      rw [eb] at ec; rw [num1_pos l 2] at ec
      rw [ec] at ed; simp only [num1, if_pos he] at ed
      have ef2 : F.2.2 = erL l 2 := by rw [ef, ed]; split <;> simp [num1, he]
      rw [ev]; split <;> simp [sgn1, ef2, he]
    · have e0 := h0 0 (by omega); have e1 := h0 1 (by omega); have e2 := h0 2 (by omega)
      rw [eA, e0] at eb; rw [num1_pos l 1, e1] at eb
      rw [eb] at ec; rw [num1_pos l 2, e2] at ec
      rw [ec] at ed; rw [num1_pos l 3] at ed
      have ef2 : F.2.2 = erL l 3 := by rw [ef, ed]; split <;> simp [num1, he]
      rw [ev]; split <;> simp [sgn1, ef2, he]
    · have e0 := h0 0 (by omega); have e1 := h0 1 (by omega); have e2 := h0 2 (by omega); have e3 := h0 3 (by omega)
      rw [eA, e0] at eb; rw [num1_pos l 1, e1] at eb
      rw [eb] at ec; rw [num1_pos l 2, e2] at ec
      rw [ec] at ed; rw [num1_pos l 3, e3] at ed
      have h56 : nmL l 0 = 5 ∨ nmL l 0 = 6 := by
        unfold wantL at hk
        split at hk
        · next h => exact h.2
        · omega
      have hF : hasF A.1 = true := by rw [eA]; exact hasF_toI _ h56
      have ef2 : F.2.2 = erL l 4 := by rw [ef, hF, ed]; show (num1 l (posL l 4) 0).2.2 = _; rw [num1_pos l 4]
      rw [ev]; split <;> simp [sgn1, ef2, he]
  rw [getM, hV, if_pos he]

/-- All numbers read: what was read. -/
theorem chg_read (l : List Int) (hr : ∀ x ∈ l, 0 ≤ x ∧ x ≤ 255) (A B C D F V : Int × Nat × Int) (hc : Chg l A B C D F V) (k : Nat) (hk : k = wantL l k) (h0 : ∀ j, j < k → erL l j = 0) :
    A = (toI (nmL l 0), posL l 1, 0) ∧ B = (toI (nmL l 1), posL l 2, 0) ∧ C = (toI (nmL l 2), posL l 3, 0) ∧ D = (toI (nmL l 3), posL l 4, 0) ∧ F = (if k = 5 then toI (nmL l 4) else 0, posL l k, 0) ∧ (k = 4 ∨ k = 5) ∧ (hasF (toI (nmL l 0)) = decide (k = 5)) := by
  have ea := hc.a; have eb := hc.b; have ec := hc.c; have ed := hc.d; have ef := hc.f
  have hk45 : k = 4 ∨ k = 5 := by unfold wantL at hk; split at hk <;> omega
  have eA : A = (toI (nmL l 0), posL l 1, 0) := by rw [ea]; exact (num1_pos l 0).trans (by rw [h0 0 (by omega)])
  rw [eA] at eb; rw [num1_pos l 1, h0 1 (by omega)] at eb
  rw [eb] at ec; rw [num1_pos l 2, h0 2 (by omega)] at ec
  rw [ec] at ed; rw [num1_pos l 3, h0 3 (by omega)] at ed
  have hF : hasF (toI (nmL l 0)) = decide (k = 5) := by
    unfold wantL at hk
    split at hk
    · next h => rw [hasF_toI _ h.2, hk]; rfl
    · next h =>
      have hlt := nmL_lt l hr 0
      have : ¬ (nmL l 0 = 5 ∨ nmL l 0 = 6) := fun e => h ⟨by omega, e⟩
      have h5 : ¬ k = 5 := by omega
      simp only [h5, decide_false, hasF, decide_eq_false_iff_not]
      intro h'
      unfold toI at h'
      split at h' <;> omega
  refine ⟨eA, eb, ec, ed, ?_, hk45, hF⟩
  rw [ef, eA, ed]
  simp only [hF]
  rcases hk45 with rfl | rfl
  · simp
  · simp only [decide_true, if_true]
    rw [num1_pos l 4, h0 4 (by omega)]

/-- Numbers beyond a thousand are none of a change. -/
theorem may_tr (a b c d f : Nat) (ha : a < 18446744073709551616) (hb : b < 18446744073709551616) (hc : c < 18446744073709551616) (hd : d < 18446744073709551616) (hf : f < 18446744073709551616) (fx : Bool) (v : Int) : mayB ⟨trN a, trN b, trN c, trN d, if fx then trN f else 0, v⟩ = mayB ⟨toI a, toI b, toI c, toI d, if fx then toI f else 0, v⟩ ∧ (mayB ⟨toI a, toI b, toI c, toI d, if fx then toI f else 0, v⟩ = true → (⟨trN a, trN b, trN c, trN d, if fx then trN f else 0, v⟩ : Mt) = ⟨toI a, toI b, toI c, toI d, if fx then toI f else 0, v⟩) := by
  have big : ∀ n : Nat, n < 18446744073709551616 → trN n = toI n ∨ (trN n = 1000 ∧ (toI n < 0 ∨ 1000 < toI n)) := by
    intro n _
    unfold trN toI
    split <;> split <;> omega
  have key : mayB ⟨trN a, trN b, trN c, trN d, if fx then trN f else 0, v⟩ = true ∨ mayB ⟨toI a, toI b, toI c, toI d, if fx then toI f else 0, v⟩ = true → (⟨trN a, trN b, trN c, trN d, if fx then trN f else 0, v⟩ : Mt) = ⟨toI a, toI b, toI c, toI d, if fx then toI f else 0, v⟩ := by
    intro h
    have ha := big a ha; have hb := big b hb; have hcc := big c hc; have hd := big d hd; have hf := big f hf
    rcases h with h | h
    · obtain ⟨p1, p2, p3, p4, p5, _, _⟩ := may_parts h
      simp only at p1 p2 p3 p4 p5
      have e1 : trN a = toI a := by omega
      have e2 : trN b = toI b := by omega
      have e3 : trN c = toI c := by omega
      have e4 : trN d = toI d := by omega
      have e5 : (if fx = true then trN f else 0) = (if fx = true then toI f else 0) := by
        cases fx with
        | true => simp at p5 ⊢; omega
        | false => rfl
      rw [e1, e2, e3, e4, e5]
    · obtain ⟨p1, p2, p3, p4, p5, _, _⟩ := may_parts h
      simp only at p1 p2 p3 p4 p5
      have e1 : trN a = toI a := by omega
      have e2 : trN b = toI b := by omega
      have e3 : trN c = toI c := by omega
      have e4 : trN d = toI d := by omega
      have e5 : (if fx = true then trN f else 0) = (if fx = true then toI f else 0) := by
        cases fx with
        | true => simp at p5 ⊢; omega
        | false => rfl
      rw [e1, e2, e3, e4, e5]
  refine ⟨?_, fun h => key (Or.inr h)⟩
  cases h1 : mayB ⟨trN a, trN b, trN c, trN d, if fx then trN f else 0, v⟩ with
  | true => rw [key (Or.inl h1)] at h1; exact h1.symm
  | false =>
    cases h2 : mayB ⟨toI a, toI b, toI c, toI d, if fx then toI f else 0, v⟩ with
    | true => rw [← key (Or.inr h2), h1] at h2; exact h2
    | false => rfl
theorem hasV_tr (n : Nat) (h : n < 18446744073709551616) : hasV (trN n) = hasV (toI n) := by
  unfold hasV trN toI
  congr 1
  rw [eq_iff_iff]
  split <;> split <;> omega

/-- All numbers read, and the value: the answer. -/
theorem getM_read (l : List Int) (hr : ∀ x ∈ l, 0 ≤ x ∧ x ≤ 255) (A B C D F V : Int × Nat × Int) (hc : Chg l A B C D F V) (k : Nat) (hk : k = wantL l k) (h0 : ∀ j, j < k → erL l j = 0) (v : Int) (x : Nat) (hv : V = (v, x, 0)) :
    getM A B C D F V = if mayB ⟨trN (nmL l 0), trN (nmL l 1), trN (nmL l 2), trN (nmL l 3), if decide (k = 5) then trN (nmL l 4) else 0, v⟩ then (⟨trN (nmL l 0), trN (nmL l 1), trN (nmL l 2), trN (nmL l 3), if decide (k = 5) then trN (nmL l 4) else 0, v⟩, x, 0) else (zM, 0, 1) := by
  obtain ⟨eA, eB, eC, eD, eF, _, _⟩ := chg_read l hr A B C D F V hc k hk h0
  have hm := may_tr (nmL l 0) (nmL l 1) (nmL l 2) (nmL l 3) (nmL l 4) (nmL_lt l hr 0) (nmL_lt l hr 1) (nmL_lt l hr 2) (nmL_lt l hr 3) (nmL_lt l hr 4) (decide (k = 5)) v
  have e5 : (if k = 5 then toI (nmL l 4) else 0) = if decide (k = 5) = true then toI (nmL l 4) else 0 := by simp
  rw [getM, hv, eA, eB, eC, eD, eF, if_neg (by simp)]
  simp only
  rw [e5, hm.1]
  generalize (⟨trN (nmL l 0), trN (nmL l 1), trN (nmL l 2), trN (nmL l 3), if decide (k = 5) then trN (nmL l 4) else 0, v⟩ : Mt) = P' at *
  generalize (⟨toI (nmL l 0), toI (nmL l 1), toI (nmL l 2), toI (nmL l 3), if decide (k = 5) then toI (nmL l 4) else 0, v⟩ : Mt) = P at *
  cases h : mayB P with
  | true => rw [hm.2 h]
  | false => rfl

theorem trN_range (n : Nat) : 0 ≤ trN n ∧ trN n ≤ 1000 := by unfold trN; split <;> omega
end Go.Proofs.YtgpfpmocdmeldaaGreat
