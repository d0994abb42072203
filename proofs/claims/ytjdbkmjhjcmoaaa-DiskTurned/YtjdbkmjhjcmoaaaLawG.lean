/- Contracts of num's writers told as slices that may be read; cuts of whatever slice of bytes; appends of strings. -/
import Derived.Test.YtjdbkmjhjcmoaaaLawB
import Derived.Test.YtjdbkmjhjcmoaaaDisk4
import Derived.Lib.AppendStr
namespace Go.Proofs.Ytjdbkmjhjcmoaaa
open Go.RowKit

theorem Bs.drop {w : World} {b o n cap : Nat} {l : List Int} (h : Bs w (some ⟨b, o, none⟩) n cap l) (i k : Nat) (hi : i < n) (hk : n - i = k) : Bs w (some ⟨b, o + i, none⟩) k (cap - i) (l.drop i) := by
  subst hk
  have := h.cut (i := i) (j := n) hi (Nat.le_refl _)
  rwa [List.take_of_length_le (by simp [h.1])] at this

theorem put_bs (a : Option Addr) (n cap m : Nat) (l : List Int) (w : World) (h : Bs w a n cap l) (hn : n ≤ 1099511627776) (hm : m < 18446744073709551616) :
    Calls Try.prog 9 #[.slice a n cap, .int .u64 m] w fun e w' => ∃ g d k c X, e = .returned (.slice (some ⟨g, 0, none⟩) k c) ∧ Hid (X = l ++ M.numB 9 m) ∧ Hid (d = (M.numB 9 m).length) ∧ n + d ≤ k ∧ k ≤ n + d ∧ 1 ≤ d ∧ d ≤ 10 ∧ k ≤ c ∧ c ≤ 9223372036854775807 ∧ Bs w' (some ⟨g, 0, none⟩) k c X ∧ Below w.heap.size w w' := by
  refine (put_any a n cap m l w h hn hm).mono ?_
  rintro e w' ⟨v, rfl, ho, hb⟩
  have hd := M.numB_len 9 m
  obtain ⟨g, c, rfl, _, hbs⟩ := owns_shape ho (by simp; omega)
  have e1 : (l ++ M.numB 9 m).length = n + (M.numB 9 m).length := by rw [List.length_append, h.1]
  rw [e1] at hbs ⊢
  exact ⟨g, _, _, c, _, rfl, rfl, rfl, Nat.le_refl _, Nat.le_refl _, hd.1, hd.2, hbs.2.1, hbs.2.2.1, hbs, hb⟩

theorem putInt_bs (a : Option Addr) (n cap : Nat) (x : Int) (l : List Int) (w : World) (h : Bs w a n cap l) (hn : n ≤ 1099511627776) (h0 : -9223372036854775808 ≤ x) (h1 : x ≤ 9223372036854775807) :
    Calls Try.prog 75 #[.slice a n cap, .int .i64 x] w fun e w' => ∃ g d k c X, e = .returned (.slice (some ⟨g, 0, none⟩) k c) ∧ Hid (X = l ++ M.numB 9 (fold x)) ∧ Hid (d = (M.numB 9 (fold x)).length) ∧ n + d ≤ k ∧ k ≤ n + d ∧ 1 ≤ d ∧ d ≤ 10 ∧ k ≤ c ∧ c ≤ 9223372036854775807 ∧ Bs w' (some ⟨g, 0, none⟩) k c X ∧ Below w.heap.size w w' := by
  refine (putInt_any a n cap x l w h hn h0 h1).mono ?_
  rintro e w' ⟨v, rfl, ho, hb⟩
  have hd := M.numB_len 9 (fold x)
  obtain ⟨g, c, rfl, _, hbs⟩ := owns_shape ho (by simp; omega)
  have e1 : (l ++ M.numB 9 (fold x)).length = n + (M.numB 9 (fold x)).length := by rw [List.length_append, h.1]
  rw [e1] at hbs ⊢
  exact ⟨g, _, _, c, _, rfl, rfl, rfl, Nat.le_refl _, Nat.le_refl _, hd.1, hd.2, hbs.2.1, hbs.2.2.1, hbs, hb⟩

theorem getI_put (x : Int) (more : List Int) (h0 : -9223372036854775808 ≤ x) (h1 : x ≤ 9223372036854775807) : getI (M.numB 9 (fold x) ++ more) = (x, (M.numB 9 (fold x)).length, 0) := by
  rw [getI, M.getL_put _ _ (fold_lt x h0 h1), if_pos rfl, unfold_fold x h0 h1]

/-- An operation whose guard holds is as one without a guard. -/
theorem wpList_unguard {P : Program} {ops : Array Oper} {Q : Exit → Act → World → Prop} {a : Act} {w : World} {rest : List Oper} {o : Oper} (hw : Region.wanted o (yielded ops a.tmps) = true) (h : wpList P ops Q ({ o with guard := none } :: rest) a w) : wpList P ops Q (o :: rest) a w := by
  unfold wpList at h ⊢
  rw [if_pos hw]
  rw [if_pos (by simp [Region.wanted])] at h
  exact h

/-- A string's bytes as numbers. -/
def sB (s : ByteArray) : List Int := s.data.toList.map fun b => (b.toNat : Int)

theorem sB_len (s : ByteArray) : (sB s).length = s.size := by simp [sB]

theorem sB_range (s : ByteArray) : ∀ x ∈ sB s, 0 ≤ x ∧ x ≤ 255 := by
  intro x hx
  simp only [sB, List.mem_map] at hx
  obtain ⟨b, _, rfl⟩ := hx
  have := b.toNat_lt
  omega

theorem sB_cells (s : ByteArray) : Lib.strCells s = (sB s).map (Value.int .u8) := by simp [Lib.strCells, sB]

theorem str_sB (s : ByteArray) : strOfNums (sB s) = s := by
  have : (strOfNums (sB s)).data.toList = s.data.toList := by
    rw [strOfNums_data, sB, List.map_map]
    conv => rhs; rw [← List.map_id s.data.toList]
    refine List.map_congr_left fun b _ => ?_
    simp
  cases s with | mk d =>
    have h2 := congrArg List.toArray this
    simpa [strOfNums] using h2

/-- append(own, s...) of a string. -/
theorem wpList_appS {w : World} {ops : Array Oper} {rest : List Oper} {o : Oper} {a : Act} {Q : Exit → Act → World → Prop} (hgd : o.guard = none) (s x : Operand)
    (ho : o.op = .call { callee := .builtin .append, args := #[s, x], argTypes := #[24, 9] })
    (B : Nat) (v : Value) (l : List Int) (hs : a.eval s = v) (hown : w.ownsInts B 5 .u8 v l) (t : ByteArray) (hx : a.eval x = .string t) (hsz : l.length + t.size ≤ 70368744177664) (hB : B ≤ w.heap.size)
    (h : ∀ v' w', w'.ownsInts B 5 .u8 v' (l ++ sB t) → w.grownBy w' v.ownBlock → wpList Try.prog ops Q rest (a.put o.dst v') w') :
    wpList Try.prog ops Q (o :: rest) a w := by
  obtain ⟨i0, hi, hz0, hz1, hz2⟩ := info_parts infoB
  refine Lib.wpList_append_own_string w hgd s x 24 9 ho B 5 i0 Try.underlying24 Try.underlying9 hi hz0 hz1 hz2 v l.length (l.map (Value.int .u8)) hs hown.1 t hx (by simp only [maxLen]; omega) (by omega) hB ?_
  intro v' w' h2 h3 _
  refine h v' w' ⟨?_, fun z hz => ?_⟩ h3
  · have e : (l ++ sB t).length = l.length + t.size := by rw [List.length_append, sB_len]
    rw [e, List.map_append, ← sB_cells]
    exact h2
  · rcases List.mem_append.1 hz with hz | hz
    · exact hown.2 z hz
    · exact wf_u8 (sB_range t z hz)

/-- Where a slice begins that is cut at i. -/
def cutA (a : Option Addr) (cap i : Nat) : Option Addr := if cap = i then a else a.map (·.add i)

theorem run_cutA (a : Option Addr) (n cap i j k : Nat) (I J : Int) (eI : I = (i : Int)) (eJ : J = (j : Int)) (hij : i ≤ j) (hj : j ≤ cap) (ek : j - i = k) (W : World) :
    (Instr.slice 24 (.slice a n cap) (some (.int .i64 I)) (some (.int .i64 J)) none).run Try.prog W = .ok (.slice (cutA a cap i) k (cap - i)) W := by
  subst eI; subst eJ; subst ek
  have e1 : (Instr.sliceBound (.int .i64 (j : Int)) cap .sliceAcap).run Try.prog W = .ok j W := by
    have := run_sliceBound (P := Try.prog) W .i64 (j : Int) cap .sliceAcap (by omega) (by omega)
    simpa using this
  have e2 : (Instr.sliceBound (.int .i64 (i : Int)) j .sliceB).run Try.prog W = .ok i W := by
    have := run_sliceBound (P := Try.prog) W .i64 (i : Int) j .sliceB (by omega) (by omega)
    simpa using this
  simp [Instr.slice, Instr.sliceBounds, run_underlying Try.underlying24, e1, e2, cutA]

theorem run_fromA (a : Option Addr) (n cap i k : Nat) (I : Int) (eI : I = (i : Int)) (hij : i ≤ n) (ek : n - i = k) (W : World) :
    (Instr.slice 24 (.slice a n cap) (some (.int .i64 I)) none none).run Try.prog W = .ok (.slice (cutA a cap i) k (cap - i)) W := by
  subst eI; subst ek
  have e2 : (Instr.sliceBound (.int .i64 (i : Int)) n .sliceB).run Try.prog W = .ok i W := by
    have := run_sliceBound (P := Try.prog) W .i64 (i : Int) n .sliceB (by omega) (by omega)
    simpa using this
  simp [Instr.slice, Instr.sliceBounds, run_underlying Try.underlying24, e2, cutA]

theorem Bs.cutAt {w : World} {a : Option Addr} {n cap : Nat} {l : List Int} (h : Bs w a n cap l) (i j k : Nat) (hij : i ≤ j) (hj : j ≤ n) (ek : j - i = k) : Bs w (cutA a cap i) k (cap - i) ((l.drop i).take k) := by
  subst ek
  obtain ⟨h1, h2, h3, h4, h5, h6⟩ := h
  refine ⟨by simp; omega, by omega, by omega, fun e => ?_, fun hn => ?_, fun x hx => h6 x (List.mem_of_mem_drop (List.mem_of_mem_take hx))⟩
  · unfold cutA at e
    split at e
    · omega
    · cases a with
      | none => have := h4 rfl; omega
      | some _ => cases e
  · obtain ⟨b, o, rfl, hc⟩ := h5 (by omega)
    refine ⟨b, o + i, ?_, fun x hx => ?_⟩
    · unfold cutA
      rw [if_neg (by omega)]
      simp [Go.Proofs.Ytjdbkmjhjcmoaaa.add_none]
    · rw [Nat.add_assoc, hc (i + x) (by omega)]
      simp only [List.getD_eq_getElem?_getD, List.getElem?_take, List.getElem?_drop, if_pos hx]

theorem Bs.fromAt {w : World} {a : Option Addr} {n cap : Nat} {l : List Int} (h : Bs w a n cap l) (i k : Nat) (hi : i ≤ n) (ek : n - i = k) : Bs w (cutA a cap i) k (cap - i) (l.drop i) := by
  have := h.cutAt i n k hi (Nat.le_refl _) ek
  rwa [List.take_of_length_le (by simp [h.1]; omega)] at this

/-- A number without its end is torn. -/
theorem getL_torn (f : Nat) : ∀ (m i j acc : Nat), f + j = 9 → i < (M.numB f m).length → M.getL j acc ((M.numB f m).take i) = (0, 0, 8) := by
  induction f with
  | zero =>
    intro m i j acc hj hi
    simp [M.numB] at hi
    subst hi
    simp [M.getL_nil]
  | succ f ih =>
    intro m i j acc hj hi
    by_cases h : m < 128
    · rw [M.numB_lt _ _ h] at hi ⊢
      simp at hi
      subst hi
      simp [M.getL_nil]
    · rw [M.numB_ge _ _ (by omega)] at hi ⊢
      cases i with
      | zero => simp [M.getL_nil]
      | succ i =>
        rw [List.take_succ_cons, M.getL_more _ _ _ _ (by omega) (by omega)]
        exact ih _ _ _ _ (by omega) (by simpa using hi)

theorem Row.take {k : IntKind} {w : World} {a : Option Addr} {n cap : Nat} {l : List Int} (h : Row k w a n cap l) (m : Nat) (hm : m ≤ n) : Row k w a m cap (l.take m) := by
  obtain ⟨h1, h2, h3, h4, h5, h6⟩ := h
  refine ⟨by simp; omega, by omega, h3, h4, fun hn => ?_, fun x hx => h6 x (List.mem_of_mem_take hx)⟩
  obtain ⟨b, o, rfl, hc⟩ := h5 (by omega)
  refine ⟨b, o, rfl, fun i hi => ?_⟩
  rw [hc i (by omega)]
  simp only [List.getD_eq_getElem?_getD, List.getElem?_take, if_pos hi]

theorem Row.later {k : IntKind} {w w' : World} {a : Option Addr} {n cap B : Nat} {l : List Int} (h : Row k w a n cap l) (hb : Below B w w') (hB : w.heap.size ≤ B) : Row k w' a n cap l := by
  obtain ⟨h1, h2, h3, h4, h5, h6⟩ := h
  refine ⟨h1, h2, h3, h4, fun hn => ?_, h6⟩
  obtain ⟨b, o, rfl, hc⟩ := h5 hn
  refine ⟨b, o, rfl, fun i hi => ?_⟩
  have h0 := hc i hi
  have hlt := lt_of_cell h0
  rw [hb.cell (p := ⟨b, o + i, none⟩) (by simp at hlt ⊢; omega)]
  exact h0

theorem row_min {k : IntKind} {w : World} {a : Option Addr} {n c : Nat} {z : List Int} (h : Row k w a n c z) (m : Nat) : ∃ j l, j ≤ m ∧ j ≤ n ∧ (n ≤ m → j = n) ∧ (¬ n ≤ m → j = m) ∧ Row k w a j c l := by
  by_cases hn : n ≤ m
  · exact ⟨n, z, hn, Nat.le_refl _, fun _ => rfl, fun h' => absurd hn h', h⟩
  · exact ⟨m, _, Nat.le_refl _, by omega, fun h' => absurd h' hn, fun _ => rfl, h.take m (by omega)⟩
end Go.Proofs.Ytjdbkmjhjcmoaaa
