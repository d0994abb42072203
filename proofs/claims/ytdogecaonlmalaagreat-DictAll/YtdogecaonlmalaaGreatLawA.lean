/- Facts that the laws of this seat share: slices that came in, Short, same, plain sums. -/
import Derived.Test.YtdogecaonlmalaaGreatFrame3
import Derived.ProofKit
import Derived.OpenShut
import Derived.ShutString
import Derived.ChangeOld
namespace Go.Proofs.YtdogecaonlmalaaGreat
open Go.RowKit

/-- What a slice of integers that came in is: nil, or n of them, the numbers zs. -/
def Row (k : IntKind) (w : World) (a : Option Addr) (n cap : Nat) (zs : List Int) : Prop :=
  zs.length = n ∧ n ≤ cap ∧ cap ≤ 9223372036854775807 ∧ (a = none → cap = 0) ∧
  (0 < n → ∃ b o, a = some ⟨b, o, none⟩ ∧ ∀ i, i < n → w.cell? ⟨b, o + i, none⟩ = some (.int k (zs.getD i 0))) ∧ ∀ x ∈ zs, (Lit.int k x).wf = true

theorem row_none (k : IntKind) (w : World) : Row k w none 0 0 [] := ⟨rfl, Nat.le_refl _, by omega, fun _ => rfl, fun h => absurd h (Nat.lt_irrefl 0), by simp⟩

theorem row_some {k : IntKind} {w : World} {x : Addr} {n cap : Nat} {zs : List Int} (hl : n ≤ cap) (hm : cap ≤ maxLen) (hz : zs.length = cap) (hcell : ∀ i, i < zs.length → w.cell? (x.add i) = some (.int k (zs.getD i 0))) (hw : ∀ z ∈ zs, (Lit.int k z).wf = true) :
    Row k w (some x) n cap (zs.take n) := by
  refine ⟨by simp; omega, hl, by simpa [maxLen] using hm, (fun e => by cases e), fun hn => ?_, fun z hz' => hw z (List.mem_of_mem_take hz')⟩
  obtain ⟨b, o, sp⟩ := x
  have hc := hcell 0 (by omega)
  have hs : sp = none := by simpa [Addr.add] using World.cell?_spot hc
  subst hs
  refine ⟨b, o, rfl, fun i hi => ?_⟩
  have := hcell i (by omega)
  rw [Go.Proofs.YtdogecaonlmalaaGreat.add_none] at this
  rw [this]
  simp only [List.getD_eq_getElem?_getD, List.getElem?_take, if_pos hi]

theorem Row.bs {w : World} {a : Option Addr} {n cap : Nat} {zs : List Int} (h : Row .u8 w a n cap zs) : Bs w a n cap zs :=
  ⟨h.1, h.2.1, h.2.2.1, h.2.2.2.1, h.2.2.2.2.1, fun x hx => by have := h.2.2.2.2.2 x hx; simp [Lit.wf] at this; exact this⟩

theorem wf_i64 {x : Int} (h : (Lit.int .i64 x).wf = true) : -9223372036854775808 ≤ x ∧ x ≤ 9223372036854775807 := by
  simp [Lit.wf] at h; exact h
theorem wf_u64 {x : Int} (h : (Lit.int .u64 x).wf = true) : 0 ≤ x ∧ x ≤ 18446744073709551615 := by
  simp [Lit.wf] at h; exact h
theorem of_wf_u8 {x : Int} (h : (Lit.int .u8 x).wf = true) : 0 ≤ x ∧ x ≤ 255 := by
  simp [Lit.wf] at h; exact h

theorem Bs.take {w : World} {a : Option Addr} {n cap : Nat} {l : List Int} (h : Bs w a n cap l) (k : Nat) (hk : k ≤ n) : Bs w a k cap (l.take k) := by
  obtain ⟨h1, h2, h3, h4, h5, h6⟩ := h
  refine ⟨by simp; omega, by omega, h3, h4, fun hn => ?_, fun x hx => h6 x (List.mem_of_mem_take hx)⟩
  obtain ⟨b, o, rfl, hc⟩ := h5 (by omega)
  refine ⟨b, o, rfl, fun i hi => ?_⟩
  rw [hc i (by omega)]
  simp only [List.getD_eq_getElem?_getD, List.getElem?_take, if_pos hi]

theorem run_uptoA (a : Option Addr) (n cap j : Nat) (J : Int) (eJ : J = (j : Int)) (hj : j ≤ cap) (W : World) :
    (Instr.slice 112 (.slice a n cap) none (some (.int .i64 J)) none).run Tryz.prog W = .ok (.slice a j cap) W := by
  subst eJ
  have e1 : (Instr.sliceBound (.int .i64 (j : Int)) cap .sliceAcap).run Tryz.prog W = .ok j W := by
    have := run_sliceBound (P := Tryz.prog) W .i64 (j : Int) cap .sliceAcap (by omega) (by omega)
    simpa using this
  simp [Instr.slice, Instr.sliceBounds, run_underlying Tryz.underlying112, e1]
  try (cases a <;> simp [Addr.add])

/-! ### sums -/
def tot (l : List Int) : Nat := (l.map Int.toNat).sum

theorem sumS_fst (l : List Int) (s : Nat × Nat) (h : s.1 < 65521) : (sumS s l).1 = (s.1 + tot l) % 65521 := by
  induction l generalizing s with
  | nil => simp [tot, sumS]; omega
  | cons c l ih =>
    show (sumS (sumStep s c) l).1 = _
    rw [ih _ (sumStep_lt s c).1]
    simp only [sumStep, tot, List.map_cons, List.sum_cons]
    omega

theorem sumV_inj {s t : Nat × Nat} (hs : s.1 < 65521 ∧ s.2 < 65521) (ht : t.1 < 65521 ∧ t.2 < 65521) (h : sumV s = sumV t) : s.1 = t.1 ∧ s.2 = t.2 := by
  unfold sumV at h
  omega

theorem sumOf_inj {l m : List Int} (h : sumOf l = sumOf m) : (sumS (0, 0) l).1 = (sumS (0, 0) m).1 ∧ (sumS (0, 0) l).2 = (sumS (0, 0) m).2 :=
  sumV_inj (sumS_lt _ _ (by decide)) (sumS_lt _ _ (by decide)) h

theorem tot_append (l m : List Int) : tot (l ++ m) = tot l + tot m := by simp [tot]
theorem tot_cons (x : Int) (m : List Int) : tot (x :: m) = x.toNat + tot m := by simp [tot]
theorem tot_le (l : List Int) (h : ∀ x ∈ l, 0 ≤ x ∧ x ≤ 255) : tot l ≤ 255 * l.length := by
  induction l with
  | nil => simp [tot]
  | cons c l ih =>
    have h1 := h c (List.mem_cons_self ..)
    have h2 := ih (fun x hx => h x (List.mem_cons_of_mem _ hx))
    rw [tot_cons, List.length_cons]
    omega

/-- One byte that is another one turns the sum. -/
theorem sum_turn (p q : List Int) (x y : Int) (hx : 0 ≤ x ∧ x ≤ 255) (hy : 0 ≤ y ∧ y ≤ 255) (hne : x ≠ y) : sumOf (p ++ x :: q) ≠ sumOf (p ++ y :: q) := by
  intro h
  have h1 := (sumOf_inj h).1
  rw [sumS_fst _ _ (by decide), sumS_fst _ _ (by decide), tot_append, tot_append, tot_cons, tot_cons] at h1
  simp only [Nat.zero_add] at h1
  omega

/-- One byte more turns the sum of few bytes. -/
theorem sum_more (l : List Int) (x : Int) (hl : ∀ x ∈ l, 0 ≤ x ∧ x ≤ 255) (hn : l.length ≤ 250) (_hx : 0 ≤ x ∧ x ≤ 255) : sumOf l ≠ sumOf (l ++ [x]) := by
  intro h
  obtain ⟨h1, h2⟩ := sumOf_inj h
  have hs := sumS_lt (0, 0) l (by decide)
  have hf := sumS_fst l (0, 0) (by decide)
  have ht := tot_le l hl
  rw [sumS_snoc] at h1 h2
  simp only [sumStep, Nat.zero_add] at h1 h2 hf
  omega

theorem sumS_apart (q : List Int) (s t : Nat × Nat) (h1 : s.1 = t.1) (h2 : s.2 < 65521) (h3 : t.2 < 65521) (hne : s.2 ≠ t.2) : (sumS s q).2 ≠ (sumS t q).2 := by
  induction q generalizing s t with
  | nil => exact hne
  | cons c q ih =>
    refine ih (sumStep s c) (sumStep t c) ?_ (sumStep_lt s c).2 (sumStep_lt t c).2 ?_
    · simp only [sumStep, h1]
    · simp only [sumStep, h1]
      omega

/-- Two bytes changed for one another. -/
theorem sum_swap (p q : List Int) (x y : Int) (hx : 0 ≤ x ∧ x ≤ 255) (hy : 0 ≤ y ∧ y ≤ 255) : sumOf (p ++ x :: y :: q) = sumOf (p ++ y :: x :: q) ↔ x = y := by
  constructor
  · intro h
    have h2 := (sumOf_inj h).2
    rw [sumS_append, sumS_append] at h2
    by_cases hne : x = y
    · exact hne
    · exfalso
      refine sumS_apart q (sumStep (sumStep (sumS (0, 0) p) x) y) (sumStep (sumStep (sumS (0, 0) p) y) x) ?_ (sumStep_lt _ _).2 (sumStep_lt _ _).2 ?_ h2
      · simp only [sumStep]; omega
      · have hs := sumS_lt (0, 0) p (by decide)
        simp only [sumStep]; omega
  · rintro rfl; rfl

/-! ### strings of bytes -/
theorem strOfNums_inj (l m : List Int) (hl : ∀ x ∈ l, 0 ≤ x ∧ x ≤ 255) (hm : ∀ x ∈ m, 0 ≤ x ∧ x ≤ 255) (h : strOfNums l = strOfNums m) : l = m := by
  have e := congrArg (fun s => s.data.toList) h
  simp only [strOfNums_data] at e
  clear h
  induction l generalizing m with
  | nil => cases m with
    | nil => rfl
    | cons y m => simp at e
  | cons x l ih => cases m with
    | nil => simp at e
    | cons y m =>
      simp only [List.map_cons, List.cons.injEq] at e
      have hx := hl x (List.mem_cons_self ..)
      have hy := hm y (List.mem_cons_self ..)
      have e1 : x = y := by
        have := congrArg UInt8.toNat e.1
        simp only [UInt8.toNat_ofNat'] at this
        omega
      rw [e1, ih m (fun z hz => hl z (List.mem_cons_of_mem _ hz)) (fun z hz => hm z (List.mem_cons_of_mem _ hz)) e.2]

theorem conv_any (a : Option Addr) (n cap : Nat) (l : List Int) (w W : World) (h : Bs w a n cap l) (hW : ∀ p v, w.cell? p = some v → W.cell? p = some v) : (convert 112 9 (.slice a n cap)).run Tryz.prog W = .ok (.string (strOfNums l)) W := by
  obtain ⟨h1, h2, h3, h4, h5, h6⟩ := h
  by_cases hn : n = 0
  · subst hn
    obtain rfl : l = [] := List.length_eq_zero_iff.1 h1
    cases a with
    | none => exact run_convert_bytes_nil (P := Tryz.prog) W 112 5 Tryz.underlying112 Tryz.underlying5 0 cap 9 Tryz.underlying9
    | some ad =>
      rw [run_convert_bytes_string W 112 9 5 _ 0 cap Tryz.underlying112 Tryz.underlying5 Tryz.underlying9, run_bytesToString W _ 0 cap [] (by have := run_loadCells_list (P := Tryz.prog) W ad [] (fun j v hj => by simp at hj); simpa using this)]
      rfl
  · obtain ⟨b, o, rfl, hc⟩ := h5 (by omega)
    exact run_convert_bytes_arg (P := Tryz.prog) W 112 5 Tryz.underlying112 Tryz.underlying5 b o n cap l h1 (fun i hi => hW _ _ (hc i hi)) 9 Tryz.underlying9

theorem str_toList (l : List Int) : (strOfNums l).toList = l.map fun n => UInt8.ofNat n.toNat := by
  rw [ByteArray.toList_eq]; rfl

theorem str_beq (l m : List Int) (hl : ∀ x ∈ l, 0 ≤ x ∧ x ≤ 255) (hm : ∀ x ∈ m, 0 ≤ x ∧ x ≤ 255) (B : Bool) (hB : B = decide (l = m)) : ((strOfNums l).toList == (strOfNums m).toList) = B := by
  subst hB
  rw [str_toList, str_toList]
  by_cases h : l = m
  · subst h; simp
  · rw [decide_eq_false h]
    refine beq_eq_false_iff_ne.2 fun e => h (strOfNums_inj l m hl hm ?_)
    unfold strOfNums
    rw [e]
end Go.Proofs.YtdogecaonlmalaaGreat
