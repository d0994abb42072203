/- Rows of strings that are the call's own; the library's sort of them. -/
import Derived.Test.YtjdbkmjhjcmoaaaSort0
import Derived.Test.YtjdbkmjhjcmoaaaMapS
import Derived.Shelf.Slices.In.SortNone
import Derived.Sort.OwnSorted
import Derived.Maps.AppendAt
namespace Go.Proofs.Ytjdbkmjhjcmoaaa
open Go.RowKit Go.Sort

theorem infoSt : (Try.prog.info? 9).map (fun i => (i.zero, i.size, i.bytes)) = some (some (.string ByteArray.empty), 1, 16) := by kernel_rfl

/-- A row of strings that is the call's own. -/
def OwnS (w : World) (B : Nat) (v : Value) (ss : List ByteArray) : Prop := w.ownsRow B 9 1 v ss.length (ss.map Value.string)

theorem OwnS.nil (w : World) (B : Nat) : OwnS w B (.slice none 0 0) [] := World.ownsRow_nil _ _ _ _
theorem OwnS.kept {w w' : World} {B : Nat} {v : Value} {ss : List ByteArray} {row : Option Nat} (h : OwnS w B v ss) (hg : w.grownBy w' row) (hne : v.ownBlock = none ∨ v.ownBlock ≠ row) : OwnS w' B v ss := World.ownsRow.kept h hg hne
theorem OwnS.later {w w' : World} {B : Nat} {v : Value} {ss : List ByteArray} (h : OwnS w B v ss) (hb : Below w.heap.size w w') : OwnS w' B v ss :=
  World.ownsRow.kept h (below_grown hb none) (by cases e : v.ownBlock with | none => exact Or.inl rfl | some _ => exact Or.inr (by simp))
theorem OwnS.lt {w : World} {B : Nat} {v : Value} {ss : List ByteArray} (h : OwnS w B v ss) : ∀ k, v.ownBlock = some k → B ≤ k ∧ k < w.heap.size := World.ownsRow.lt h

/-- append(own, s) of a row of strings. -/
theorem wpList_appSt {w : World} {ops : Array Oper} {rest : List Oper} {o : Oper} {a : Act} {Q : Exit → Act → World → Prop} (hgd : o.guard = none) (s x : Operand)
    (ho : o.op = .call { callee := .builtin .append, args := #[s, x], argTypes := #[48, 48] })
    (B : Nat) (v : Value) (ss : List ByteArray) (hs : a.eval s = v) (hown : OwnS w B v ss) (q : Nat) (t : ByteArray) (hx : a.eval x = .slice (some ⟨q, 0, none⟩) 1 1) (hq : w.cell? ⟨q, 0, none⟩ = some (.string t)) (hsz : ss.length ≤ 1000000) (hB : B ≤ w.heap.size)
    (h : ∀ v' w', OwnS w' B v' (ss ++ [t]) → w.grownBy w' v.ownBlock → (v'.ownBlock = v.ownBlock ∨ v'.ownBlock = some w.heap.size) → wpList Try.prog ops Q rest (a.put o.dst v') w') :
    wpList Try.prog ops Q (o :: rest) a w := by
  obtain ⟨i0, hi, hz0, hz1, hz2⟩ := info_parts infoSt
  refine wpList_append_own_at w hgd s x 48 ho B 9 i0 (.string ByteArray.empty) 1 16 Try.underlying48 hi hz0 hz1 hz2 rfl (by decide) v ss.length (ss.map Value.string) hs hown ⟨q, 0, none⟩ 1 1 [.string t] hx rfl ?_ (by simp [Value.oneCell']) (by simp only [maxLen]; omega) (by omega) hB ?_
  · intro j u hj
    have : j = 0 := by
      cases j with
      | zero => rfl
      | succ j => simp at hj
    subst this
    simp at hj
    subst hj
    rw [Go.Proofs.Ytjdbkmjhjcmoaaa.add_none]
    exact hq
  · intro v' w' h2 h3 _ h5
    refine h v' w' ?_ h3 h5
    unfold OwnS
    rw [List.length_append, List.map_append]
    exact h2

/-- The cells of a row of strings. -/
theorem OwnS.cells {w : World} {B : Nat} {v : Value} {ss : List ByteArray} (h : OwnS w B v ss) : ∃ pa c, v = .slice pa ss.length c ∧ (0 < ss.length → ∃ g, pa = some ⟨g, 0, none⟩ ∧ B ≤ g ∧ g < w.heap.size ∧ ∀ i s, ss[i]? = some s → w.cell? ⟨g, i, none⟩ = some (.string s)) := by
  obtain ⟨h1, h2⟩ := h
  rcases h2 with ⟨rfl, h0⟩ | ⟨g, cap, cur, rfl, hg, hh, hn, hm, hs, ht⟩
  · rw [h0]; exact ⟨none, 0, rfl, fun h => absurd h (by omega)⟩
  · refine ⟨_, cap, rfl, fun _ => ⟨g, rfl, hg, lt_of_heap hh, fun i s hi => ?_⟩⟩
    have hil := (List.getElem?_eq_some_iff.1 hi).1
    have hc : cur[i]? = some (.string s) := by
      have e : (cur.toList.take (ss.length * 1))[i]? = (ss.map Value.string)[i]? := by rw [ht]
      rw [List.getElem?_take, if_pos (by omega), List.getElem?_map, hi] at e
      simpa using e
    simp [World.cell?, hh, hc]

/-- Strings in their order. -/
def sortS (ss : List ByteArray) : List ByteArray := ((ss.map fun s => s.data.toList).mergeSort fun x y => decide (x ≤ y)).map fun l => ⟨l.toArray⟩

theorem sortS_len (ss : List ByteArray) : (sortS ss).length = ss.length := by simp [sortS]

theorem enc_bytes (ss : List ByteArray) : (ss.map fun s => s.data.toList).map encStr = ss.map Value.string := by
  rw [List.map_map]
  refine List.map_congr_left fun s _ => ?_
  simp [encStr]

theorem sort_any (B : Nat) (v : Value) (ss : List ByteArray) (w : World) (h : OwnS w B v ss) (hsz : ss.length ≤ 1000000) :
    Calls Try.prog 80 #[v] w fun e w' => e = .returned (.tuple #[]) ∧ OwnS w' B v (sortS ss) ∧ w.grownBy w' v.ownBlock := by
  obtain ⟨h1, h2⟩ := h
  rcases h2 with ⟨rfl, h0⟩ | ⟨g, cap, cur, rfl, hg, hh, hn, hm, hs, ht⟩
  · have hn : ss = [] := List.length_eq_zero_iff.1 h0
    subst hn
    refine (Any.slices_Sort_string_none sortLays none 0 w).mono ?_
    rintro e w' ⟨rfl, rfl⟩
    exact ⟨rfl, by simpa [sortS] using OwnS.nil _ _, below_grown (Below.refl _ _) _⟩
  · have hl : (ss.map fun s => s.data.toList).length = ss.length := by simp
    have hH : Holds encStr w g 0 (ss.map fun s => s.data.toList).toArray := holds_of_block hh (by rw [hl, enc_bytes, ← ht, Nat.mul_one])
    have hc := Any.slices_Sort_string sortLays g 0 cap (ss.map fun s => s.data.toList) w hH (lt_of_heap hh) (by rw [hl]; omega)
    rw [hl] at hc
    refine hc.mono ?_
    rintro e w' ⟨rfl, n, os, rfl⟩
    refine ⟨rfl, ?_, grownBy_sorted _⟩
    have hr := ownsRow_sorted (w := w) (base := B) (g := g) (cap := cap) (n := n) (os := os) (ss := ss.map fun s => s.data.toList) (ts := (ss.map fun s => s.data.toList).mergeSort fun x y => decide (x ≤ y)) (by simp) hg hh (by rw [hl]; exact hn) hm hs
    have e1 : (sortS ss).map Value.string = ((ss.map fun s => s.data.toList).mergeSort fun x y => decide (x ≤ y)).map encStr := by
      rw [sortS, List.map_map]
      rfl
    unfold OwnS
    rw [sortS_len, e1]
    rw [hl] at hr
    exact hr

/-- Strings that lie in their order stay, whatever the order in which they came. -/
theorem sortS_perm (ss ts : List ByteArray) (hp : ss.Perm ts) (hs : (ts.map fun s => s.data.toList).Pairwise (· ≤ ·)) : sortS ss = ts := by
  have e : (ss.map fun s => s.data.toList).mergeSort (fun x y => decide (x ≤ y)) = ts.map fun s => s.data.toList := by
    refine List.Perm.eq_of_pairwise (le := (· ≤ ·)) (fun a b _ _ h1 h2 => List.le_antisymm h1 h2) ?_ hs ((List.mergeSort_perm _ _).trans (hp.map _))
    have := List.pairwise_mergeSort (le := fun (x y : List UInt8) => decide (x ≤ y)) (fun a b c h1 h2 => by simp only [decide_eq_true_eq] at *; exact List.le_trans h1 h2) (fun a b => by simp only [Bool.or_eq_true, decide_eq_true_eq]; exact List.le_total a b) (ss.map fun s => s.data.toList)
    exact this.imp fun h => by simpa using h
  rw [sortS, e, List.map_map]
  conv => rhs; rw [← List.map_id ts]
  rfl
end Go.Proofs.Ytjdbkmjhjcmoaaa
