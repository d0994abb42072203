/- What package sum's functions do to memory: contracts. -/
import Derived.Test.YtdogecaonlmalaaGreatNum2
import Derived.BigRegion
import Derived.BigQuiet
import Derived.Deep.QuietTactic
namespace Go.Proofs.YtdogecaonlmalaaGreat
open Go.RowKit

theorem hide {p : Prop} (h : p) : Hid p := h

/-- The two sums behind one byte more. -/
def sumStep (s : Nat × Nat) (c : Int) : Nat × Nat := ((s.1 + c.toNat) % 65521, (s.2 + (s.1 + c.toNat) % 65521 + 1) % 65521)
def sumS (s : Nat × Nat) (l : List Int) : Nat × Nat := l.foldl sumStep s
def sumV (s : Nat × Nat) : Nat := s.2 * 65536 + (s.1 + 1) % 65521
def sumOf (l : List Int) : Nat := sumV (sumS (0, 0) l)

theorem sumStep_lt (s : Nat × Nat) (c : Int) : (sumStep s c).1 < 65521 ∧ (sumStep s c).2 < 65521 := ⟨Nat.mod_lt _ (by omega), Nat.mod_lt _ (by omega)⟩
theorem sumS_nil (s : Nat × Nat) : sumS s [] = s := rfl
theorem sumS_append (s : Nat × Nat) (l m : List Int) : sumS s (l ++ m) = sumS (sumS s l) m := by simp [sumS]
theorem sumS_snoc (s : Nat × Nat) (l : List Int) (c : Int) : sumS s (l ++ [c]) = sumStep (sumS s l) c := by simp [sumS]
theorem sumS_lt (s : Nat × Nat) (l : List Int) (h : s.1 < 65521 ∧ s.2 < 65521) : (sumS s l).1 < 65521 ∧ (sumS s l).2 < 65521 := by
  induction l generalizing s with
  | nil => exact h
  | cons c l ih => exact ih (sumStep s c) (sumStep_lt s c)

def sumObj (s : Nat × Nat) : Obj := .cells #[.int .u32 s.1, .int .u32 s.2] 194 (0, 0)

theorem sum_cells {w : World} {g : Nat} {s : Nat × Nat} (h : w.heap[g]? = some (sumObj s)) :
    w.cell? ⟨g, 0, none⟩ = some (.int .u32 s.1) ∧ w.cell? ⟨g, 1, none⟩ = some (.int .u32 s.2) ∧ w.frozen? ⟨g, 0, none⟩ = false ∧ w.frozen? ⟨g, 1, none⟩ = false := by
  refine ⟨?_, ?_, ?_, ?_⟩ <;> simp [World.cell?, World.frozen?, h, sumObj]

theorem sum_set {w : World} {g : Nat} {s : Nat × Nat} (h : w.heap[g]? = some (sumObj s)) (x y : Value) :
    ((w.setCell ⟨g, 0, none⟩ x).setCell ⟨g, 1, none⟩ y).drew.heap[g]? = some (.cells #[x, y] 194 (0, 0)) ∧ w.grownBy ((w.setCell ⟨g, 0, none⟩ x).setCell ⟨g, 1, none⟩ y).drew (some g) := by
  constructor
  · obtain ⟨hlt, he⟩ := Array.getElem?_eq_some_iff.1 h
    show ((w.setCell ⟨g, 0, none⟩ x).setCell ⟨g, 1, none⟩ y).heap[g]? = _
    simp [World.setCell, Array.getElem_modify, hlt, he, sumObj]
  · refine grown_drew ⟨rfl, rfl, rfl, by simp [World.setCell], fun k _ hk => ?_⟩
    rw [Below.heap_setCell _ _ _ _ (by simp; intro e; exact hk (by rw [e])), Below.heap_setCell _ _ _ _ (by simp; intro e; exact hk (by rw [e]))]

theorem sum_round {wr : World} {g k n : Nat} {s S : Nat × Nat} {l : List Int} (hS : sumS s (l.take k) = S) (h : wr.heap[g]? = some (sumObj S)) (hl : l.length = n) (hk : k < n) (hc : 0 ≤ l[k]?.getD 0) :
    ((wr.setCell ⟨g, 0, none⟩ (.int .u32 (((S.1 : Int) + l[k]?.getD 0) % 65521))).setCell ⟨g, 1, none⟩ (.int .u32 (((S.2 : Int) + ((S.1 : Int) + l[k]?.getD 0) % 65521 + 1) % 65521))).drew.heap[g]? = some (sumObj (sumS s (l.take (k + 1)))) := by
  rw [(sum_set h _ _).1]
  have e : l.take (k + 1) = l.take k ++ [l[k]?.getD 0] := by
    rw [List.take_succ_eq_append_getElem (by omega)]
    have : k < l.length := by omega
    simp [this]
  rw [e, sumS_snoc, hS]
  simp only [sumObj, sumStep]
  have e1 : (((S.1 + (l[k]?.getD 0).toNat) % 65521 : Nat) : Int) = ((S.1 : Int) + l[k]?.getD 0) % 65521 := by omega
  have e2 : (((S.2 + (S.1 + (l[k]?.getD 0).toNat) % 65521 + 1) % 65521 : Nat) : Int) = ((S.2 : Int) + ((S.1 : Int) + l[k]?.getD 0) % 65521 + 1) % 65521 := by omega
  rw [e1, e2]

set_option maxRecDepth 100000 in
set_option maxHeartbeats 800000 in
theorem addPart_some (g b o n cap : Nat) (s : Nat × Nat) (l : List Int) (w : World) (hg : w.heap[g]? = some (sumObj s)) (hs : s.1 < 65521 ∧ s.2 < 65521) (hl : l.length = n) (hn : n ≤ 9223372036854775807)
    (hr : ∀ i : Nat, 0 ≤ l[i]?.getD 0 ∧ l[i]?.getD 0 ≤ 255)
    (hc : ∀ i, i < n → w.cell? ⟨b, o + i, none⟩ = some (.int .u8 (l.getD i 0))) (hgb : b ≠ g) :
    Calls Tryz.prog 136 #[.pointer (some ⟨g, 0, none⟩), .slice (some ⟨b, o, none⟩) n cap] w fun e w' => e = .returned (.tuple #[]) ∧ w'.heap[g]? = some (sumObj (sumS s l)) ∧ w.grownBy w' (some g) := by
  have HL : Hid (l.length = n) := hl
  clear hl
  go_enter Tryz.func136, Tryz.ntmps136
  go_wp2
  go_loopw [8] (fun i wr => ∃ k : Nat, k ≤ n ∧ i = .int .i64 k ∧ Hid (wr.heap[g]? = some (sumObj (sumS s (l.take k)))) ∧ w.grownBy wr (some g)) (fun i _ => n - (intOf i).toNat)
  case atStart => exact ⟨0, by omega, rfl, hg, ⟨rfl, rfl, rfl, Nat.le_refl _, fun _ _ _ => rfl⟩⟩
  case round =>
    obtain ⟨k, hk, rfl, HG, hgr⟩ := hrel
    by_cases hlt : k < n
    · have hcell : wr.cell? ⟨b, o + k, none⟩ = some (.int .u8 (l.getD k 0)) := by
        have := hc k hlt
        exact hgr.cell this (by simp [hgb])
      have hlk := sumS_lt s (l.take k) hs
      have hrk := hr k
      obtain ⟨c0, c1, f0, f1⟩ := sum_cells HG.out
      generalize hS : sumS s (l.take k) = S at *
      have R := sum_round hS HG.out HL.out hlt hrk.1
      have R2 := fun x y => (sum_set (w := wr) HG.out x y).2
      have HR := hide R
      have HR2 := hide R2
      clear R R2 hS hc hr
      have hw1 : IntKind.u32.wrap ((S.2 : Int) + ((S.1 : Int) + l[k]?.getD 0) % 65521) = (S.2 : Int) + ((S.1 : Int) + l[k]?.getD 0) % 65521 := by rw [IntKind.wrap_u32]; omega
      have hw2 : IntKind.u32.wrap ((S.2 : Int) + ((S.1 : Int) + l[k]?.getD 0) % 65521 + 1) = (S.2 : Int) + ((S.1 : Int) + l[k]?.getD 0) % 65521 + 1 := by rw [IntKind.wrap_u32]; omega
      have k0 : (wr.setCell ⟨g, 0, none⟩ (.int .u32 (((S.1 : Int) + l[k]?.getD 0) % 65521))).cell? ⟨g, 0, none⟩ = some (.int .u32 (((S.1 : Int) + l[k]?.getD 0) % 65521)) := World.cell?_setCell_same _ _ _ c0
      have k1 : (wr.setCell ⟨g, 0, none⟩ (.int .u32 (((S.1 : Int) + l[k]?.getD 0) % 65521))).cell? ⟨g, 1, none⟩ = some (.int .u32 S.2) := by rw [World.cell?_setCell_other _ _ _ _ (by simp)]; exact c1
      go_wp2
      go_region
      all_goals go_wp2
      go_roundw
      case rel => exact ⟨k + 1, by omega, by go_num, HR.out, grown_trans hgr (HR2.out _ _)⟩
      case measure => simp [intOf]; omega
    · obtain rfl : k = n := by omega
      go_wp2
      go_end0
      refine ⟨rfl, ?_, hgr⟩
      have := HG.out
      rwa [List.take_of_length_le (by rw [HL.out]; exact Nat.le_refl _)] at this

set_option maxRecDepth 100000 in
theorem addPart_none (g : Nat) (a : Option Addr) (cap : Nat) (w : World) :
    Calls Tryz.prog 136 #[.pointer (some ⟨g, 0, none⟩), .slice a 0 cap] w fun e w' => e = .returned (.tuple #[]) ∧ w' = w := by
  go_enter Tryz.func136, Tryz.ntmps136
  go_wp2
  refine wp_loop_rounds 1 ?_
  rw [rounds_succ]
  go_wp2
  go_end0
  exact ⟨rfl, rfl⟩

theorem range_of {l : List Int} (h6 : ∀ x ∈ l, 0 ≤ x ∧ x ≤ 255) (i : Nat) : 0 ≤ l[i]?.getD 0 ∧ l[i]?.getD 0 ≤ 255 := by
  cases e : l[i]? with
  | none => simp
  | some x => simpa using h6 x (List.mem_of_getElem? e)

theorem addPart_any (g n cap : Nat) (a : Option Addr) (s : Nat × Nat) (l : List Int) (w : World) (hg : w.heap[g]? = some (sumObj s)) (hs : s.1 < 65521 ∧ s.2 < 65521) (h : Bs w a n cap l) :
    Calls Tryz.prog 136 #[.pointer (some ⟨g, 0, none⟩), .slice a n cap] w fun e w' => e = .returned (.tuple #[]) ∧ w'.heap[g]? = some (sumObj (sumS s l)) ∧ w.grownBy w' (some g) := by
  obtain ⟨h1, h2, h3, h4, h5, h6⟩ := h
  by_cases hn : n = 0
  · subst hn
    obtain rfl : l = [] := List.length_eq_zero_iff.1 h1
    refine (addPart_none g a cap w).mono ?_
    rintro e w' ⟨rfl, rfl⟩
    exact ⟨rfl, hg, grown_refl _ _⟩
  · obtain ⟨b, o, rfl, hc⟩ := h5 (by omega)
    refine addPart_some g b o n cap s l w hg hs h1 (by omega) (range_of h6) hc ?_
    rintro rfl
    have := hc 0 (by omega)
    simp [World.cell?, hg, sumObj] at this
    rcases o with _ | _ | o <;> simp at this

set_option maxRecDepth 100000 in
theorem value_any (g : Nat) (s : Nat × Nat) (w : World) (hg : w.heap[g]? = some (sumObj s)) (hs : s.1 < 65521 ∧ s.2 < 65521) :
    Calls Tryz.prog 111 #[.pointer (some ⟨g, 0, none⟩)] w fun e w' => e = .returned (.int .u32 (sumV s)) ∧ ∃ n, w' = w.drewN n := by
  obtain ⟨c0, c1, f0, f1⟩ := sum_cells hg
  have HG := hide hg
  clear hg
  go_enter Tryz.func111, Tryz.ntmps111
  go_wp2
  go_quiet (fail)
  go_wp2
  go_ret
  exact ⟨ret_int (by simp [sumV]), nq, rfl⟩

/-- A slice of slices of bytes. -/
def Ps (w : World) (pa : Option Addr) (m : Nat) (ls : List (List Int)) : Prop :=
  ls.length = m ∧ (0 < m → ∃ b o, pa = some ⟨b, o, none⟩ ∧ ∀ i, i < m → ∃ a n c, w.cell? ⟨b, o + i, none⟩ = some (.slice a n c) ∧ Bs w a n c (ls.getD i []))

theorem cell_sum {w : World} {g : Nat} {s : Nat × Nat} (hg : w.heap[g]? = some (sumObj s)) {p : Addr} {v : Value} (h : w.cell? p = some v) (hp : p.block = g) : ∃ x : Nat, v = .int .u32 x := by
  obtain ⟨b, o, sp⟩ := p
  have hp' : b = g := hp
  subst hp'
  cases sp with
  | some _ => simp [World.cell?, hg, sumObj] at h
  | none =>
    rcases o with _ | _ | o
    · simp [World.cell?, hg, sumObj] at h; exact ⟨_, h.symm⟩
    · simp [World.cell?, hg, sumObj] at h; exact ⟨_, h.symm⟩
    · simp [World.cell?, hg, sumObj] at h

theorem Bs.grown {w wr : World} {g : Nat} {s : Nat × Nat} {a : Option Addr} {n cap : Nat} {l : List Int} (h : Bs w a n cap l) (hg : w.heap[g]? = some (sumObj s)) (hgr : w.grownBy wr (some g)) : Bs wr a n cap l := by
  obtain ⟨h1, h2, h3, h4, h5, h6⟩ := h
  refine ⟨h1, h2, h3, h4, fun hn => ?_, h6⟩
  obtain ⟨b, o, rfl, hc⟩ := h5 hn
  refine ⟨b, o, rfl, fun i hi => hgr.cell (hc i hi) ?_⟩
  intro e
  obtain ⟨x, hx⟩ := cell_sum hg (hc i hi) (by simpa using e)
  cases hx

theorem take_flat (ls : List (List Int)) (k : Nat) (h : k < ls.length) : (ls.take (k + 1)).flatten = (ls.take k).flatten ++ ls.getD k [] := by
  rw [List.take_succ_eq_append_getElem h, List.flatten_append]
  simp [List.getD_eq_getElem?_getD, h]

set_option maxRecDepth 100000 in
set_option maxHeartbeats 800000 in
theorem add_some (g b o m mc : Nat) (s : Nat × Nat) (ls : List (List Int)) (w : World) (hg : w.heap[g]? = some (sumObj s)) (hs : s.1 < 65521 ∧ s.2 < 65521) (hl : ls.length = m) (hm : m ≤ 1099511627776)
    (hc : ∀ i, i < m → ∃ a n c, w.cell? ⟨b, o + i, none⟩ = some (.slice a n c) ∧ Bs w a n c (ls.getD i [])) :
    Calls Tryz.prog 110 #[.pointer (some ⟨g, 0, none⟩), .slice (some ⟨b, o, none⟩) m mc] w fun e w' => e = .returned (.pointer (some ⟨g, 0, none⟩)) ∧ w'.heap[g]? = some (sumObj (sumS s ls.flatten)) ∧ w.grownBy w' (some g) := by
  have HL : Hid (ls.length = m) := hl
  have HG0 := hide hg
  clear hl hg
  go_enter Tryz.func110, Tryz.ntmps110
  go_wp2
  go_loopw [11] (fun i wr => ∃ k : Nat, k ≤ m ∧ i = .int .i64 k ∧ Hid (wr.heap[g]? = some (sumObj (sumS s (ls.take k).flatten))) ∧ w.grownBy wr (some g)) (fun i _ => m - (intOf i).toNat)
  case atStart => exact ⟨0, by omega, rfl, HG0.out, grown_refl _ _⟩
  case round =>
    obtain ⟨k, hk, rfl, HG, hgr⟩ := hrel
    by_cases hlt : k < m
    · obtain ⟨a, n, c, hcell0, hb0⟩ := hc k hlt
      have hcell : wr.cell? ⟨b, o + k, none⟩ = some (.slice a n c) := hgr.cell hcell0 (fun e => by
        obtain ⟨x, hx⟩ := cell_sum HG0.out hcell0 (by simpa using e)
        cases hx)
      have hb : Bs wr a n c (ls.getD k []) := hb0.grown HG0.out hgr
      have HP := hide (addPart_any g n c a _ _ wr HG.out (sumS_lt s _ hs) hb)
      clear hc hb0 hb hcell0
      go_wp2_with fail
      refine HP.out.mono ?_
      rintro e w1 ⟨rfl, hg1, hgr1⟩
      have R : Hid (w1.heap[g]? = some (sumObj (sumS s (ls.take (k + 1)).flatten))) := by
        show _ = _
        rw [take_flat _ _ (by rw [HL.out]; exact hlt), sumS_append]
        exact hg1
      have R2 := grown_trans hgr hgr1
      clear hg1 hgr1 HP
      go_wp2
      go_roundw
      case rel => exact ⟨k + 1, by omega, by go_num, R, R2⟩
      case measure => simp [intOf]; omega
    · obtain rfl : k = m := by omega
      clear hc
      go_wp2
      go_ret
      refine ⟨rfl, ?_, hgr⟩
      have := HG.out
      rwa [List.take_of_length_le (by rw [HL.out]; exact Nat.le_refl _)] at this

set_option maxRecDepth 100000 in
theorem addEmpty (g mc : Nat) (a : Option Addr) (w : World) :
    Calls Tryz.prog 110 #[.pointer (some ⟨g, 0, none⟩), .slice a 0 mc] w fun e w' => e = .returned (.pointer (some ⟨g, 0, none⟩)) ∧ w' = w := by
  go_enter Tryz.func110, Tryz.ntmps110
  go_wp2
  refine wp_loop_rounds 1 ?_
  rw [rounds_succ]
  go_wp2
  go_ret
  exact ⟨rfl, rfl⟩

theorem add_any (g m mc : Nat) (pa : Option Addr) (s : Nat × Nat) (ls : List (List Int)) (w : World) (hg : w.heap[g]? = some (sumObj s)) (hs : s.1 < 65521 ∧ s.2 < 65521) (hm : m ≤ 1099511627776) (h : Ps w pa m ls) :
    Calls Tryz.prog 110 #[.pointer (some ⟨g, 0, none⟩), .slice pa m mc] w fun e w' => e = .returned (.pointer (some ⟨g, 0, none⟩)) ∧ w'.heap[g]? = some (sumObj (sumS s ls.flatten)) ∧ w.grownBy w' (some g) := by
  by_cases hn : m = 0
  · subst hn
    obtain rfl : ls = [] := List.length_eq_zero_iff.1 h.1
    refine (addEmpty g mc pa w).mono ?_
    rintro e w' ⟨rfl, rfl⟩
    exact ⟨rfl, hg, grown_refl _ _⟩
  · obtain ⟨b, o, rfl, hc⟩ := h.2 (by omega)
    exact add_some g b o m mc s ls w hg hs h.1 hm hc

set_option maxRecDepth 100000 in
theorem new_any (w : World) :
    Calls Tryz.prog 109 #[] w fun e w' => e = .returned (.pointer (some ⟨w.heap.size, 0, none⟩)) ∧ w' = w.alloc (sumObj (0, 0)) := by
  go_enter Tryz.func109, Tryz.ntmps109
  go_wp2
  go_ret
  exact ⟨rfl, rfl⟩

theorem Ps.later {w w' : World} {pa : Option Addr} {m : Nat} {ls : List (List Int)} (h : Ps w pa m ls) (hb : Below w.heap.size w w') : Ps w' pa m ls := by
  refine ⟨h.1, fun hm => ?_⟩
  obtain ⟨b, o, rfl, hc⟩ := h.2 hm
  refine ⟨b, o, rfl, fun i hi => ?_⟩
  obtain ⟨a, n, c, h1, h2⟩ := hc i hi
  exact ⟨a, n, c, (hb.cell (p := ⟨b, o + i, none⟩) (lt_of_cell h1)).trans h1, h2.later hb (Nat.le_refl _)⟩

set_option maxRecDepth 100000 in
set_option maxHeartbeats 400000 in
theorem of_any (pa : Option Addr) (m mc : Nat) (ls : List (List Int)) (w : World) (h : Ps w pa m ls) (hm : m ≤ 1099511627776) :
    Calls Tryz.prog 70 #[.slice pa m mc] w fun e w' => e = .returned (.int .u32 (sumOf ls.flatten)) ∧ Below w.heap.size w w' := by
  have hb1 : Below w.heap.size w (w.alloc (sumObj (0, 0))) := (Below.refl _ _).alloc (Nat.le_refl _) _
  have hg1 : (w.alloc (sumObj (0, 0))).heap[w.heap.size]? = some (sumObj (0, 0)) := heap_alloc_new w _
  have H1 := hide (add_any w.heap.size m mc pa (0, 0) ls _ hg1 (by decide) hm (h.later hb1))
  clear hg1
  go_enter Tryz.func70, Tryz.ntmps70
  go_wp2_with fail
  refine (new_any _).mono ?_
  rintro e w1 ⟨rfl, rfl⟩
  go_wp2_with fail
  refine H1.out.mono ?_
  rintro e w1 ⟨rfl, hg2, hgr⟩
  go_wp2_with fail
  refine (value_any _ _ _ hg2 (sumS_lt _ _ (by decide))).mono ?_
  rintro e w2 ⟨rfl, nq, rfl⟩
  go_wp2
  go_ret
  refine ⟨rfl, ?_⟩
  have := hb1.trans (grown_below hgr (Nat.le_refl _) (by simp))
  exact ⟨this.os, this.tape, this.output, this.size, this.block⟩

end Go.Proofs.YtdogecaonlmalaaGreat
