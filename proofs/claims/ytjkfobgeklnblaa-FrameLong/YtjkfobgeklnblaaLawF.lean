/- Slices of slices of bytes that a call makes itself. -/
import Derived.Test.YtjkfobgeklnblaaLawG
namespace Go.Proofs.Ytjkfobgeklnblaa
open Go.RowKit

theorem infoP : (Try.prog.info? 23).map (fun i => (i.zero, i.size, i.bytes)) = some (some (.slice none 0 0), 1, 24) := by kernel_rfl

def sv (p : Option Addr × Nat × Nat) : Value := .slice p.1 p.2.1 p.2.2
/-- A row of slices that is the call's own. -/
def OwnP (w : World) (B : Nat) (v : Value) (ps : List (Option Addr × Nat × Nat)) : Prop := w.ownsRow B 23 1 v ps.length (ps.map sv)

theorem OwnP.nil (w : World) (B : Nat) : OwnP w B (.slice none 0 0) [] := World.ownsRow_nil _ _ _ _

theorem wpList_appP {w : World} {ops : Array Oper} {rest : List Oper} {o : Oper} {a : Act} {Q : Exit → Act → World → Prop} (hgd : o.guard = none) (s x : Operand)
    (ho : o.op = .call { callee := .builtin .append, args := #[s, x], argTypes := #[46, 46] })
    (B : Nat) (v : Value) (ps : List (Option Addr × Nat × Nat)) (hs : a.eval s = v) (hown : OwnP w B v ps) (q : Nat) (p : Option Addr × Nat × Nat) (hx : a.eval x = .slice (some ⟨q, 0, none⟩) 1 1) (hq : w.cell? ⟨q, 0, none⟩ = some (sv p)) (hsz : ps.length ≤ 1000000) (hB : B ≤ w.heap.size)
    (h : ∀ v' w', OwnP w' B v' (ps ++ [p]) → w.grownBy w' v.ownBlock → wpList Try.prog ops Q rest (a.put o.dst v') w') :
    wpList Try.prog ops Q (o :: rest) a w := by
  obtain ⟨i0, hi, hz0, hz1, hz2⟩ := info_parts infoP
  refine wpList_append_own_at w hgd s x 46 ho B 23 i0 (.slice none 0 0) 1 24 Try.underlying46 hi hz0 hz1 hz2 rfl (by decide) v ps.length (ps.map sv) hs hown ⟨q, 0, none⟩ 1 1 [sv p] hx rfl ?_ (by simp [sv, Value.oneCell']) (by simp only [maxLen]; omega) (by omega) hB ?_
  · intro j u hj
    have : j = 0 := by
      cases j with
      | zero => rfl
      | succ j => simp at hj
    subst this
    simp at hj
    subst hj
    rw [Go.Proofs.Ytjkfobgeklnblaa.add_none]
    exact hq
  · intro v' w' h2 h3 _ _
    refine h v' w' ?_ h3
    unfold OwnP
    rw [List.length_append, List.map_append]
    exact h2

theorem OwnP.kept {w w' : World} {B : Nat} {v : Value} {ps : List (Option Addr × Nat × Nat)} {row : Option Nat} (h : OwnP w B v ps) (hg : w.grownBy w' row) (hne : v.ownBlock = none ∨ v.ownBlock ≠ row) : OwnP w' B v ps := World.ownsRow.kept h hg hne
theorem OwnP.later {w w' : World} {B : Nat} {v : Value} {ps : List (Option Addr × Nat × Nat)} (h : OwnP w B v ps) (hb : Below w.heap.size w w') : OwnP w' B v ps :=
  h.kept (below_grown hb none) (by cases e : v.ownBlock with | none => exact Or.inl rfl | some _ => exact Or.inr (by simp))
theorem OwnP.lt {w : World} {B : Nat} {v : Value} {ps : List (Option Addr × Nat × Nat)} (h : OwnP w B v ps) : ∀ k, v.ownBlock = some k → B ≤ k ∧ k < w.heap.size := World.ownsRow.lt h

/-- All of them may be read. -/
def Bss (w : World) (ps : List (Option Addr × Nat × Nat)) (ls : List (List Int)) : Prop :=
  ls.length = ps.length ∧ ∀ i, i < ps.length → Bs w (ps.getD i (none, 0, 0)).1 (ps.getD i (none, 0, 0)).2.1 (ps.getD i (none, 0, 0)).2.2 (ls.getD i [])

theorem Bss.nil (w : World) : Bss w [] [] := ⟨rfl, fun i hi => absurd hi (by simp)⟩
theorem Bss.later {w w' : World} {B : Nat} {ps : List (Option Addr × Nat × Nat)} {ls : List (List Int)} (h : Bss w ps ls) (hb : Below B w w') (hB : w.heap.size ≤ B) : Bss w' ps ls :=
  ⟨h.1, fun i hi => (h.2 i hi).later hb hB⟩
theorem Bss.snoc {w : World} {ps : List (Option Addr × Nat × Nat)} {ls : List (List Int)} {a : Option Addr} {n c : Nat} {l : List Int} (h : Bss w ps ls) (hb : Bs w a n c l) : Bss w (ps ++ [(a, n, c)]) (ls ++ [l]) := by
  refine ⟨by simp [h.1], fun i hi => ?_⟩
  rw [List.length_append, List.length_singleton] at hi
  by_cases hlt : i < ps.length
  · have := h.2 i hlt
    have e1 : (ps ++ [(a, n, c)]).getD i (none, 0, 0) = ps.getD i (none, 0, 0) := by simp only [List.getD_eq_getElem?_getD]; rw [List.getElem?_append_left hlt]
    have e2 : (ls ++ [l]).getD i [] = ls.getD i [] := by simp only [List.getD_eq_getElem?_getD]; rw [List.getElem?_append_left (by rw [h.1]; exact hlt)]
    rw [e1, e2]
    exact this
  · obtain rfl : i = ps.length := by omega
    have e1 : (ps ++ [(a, n, c)]).getD ps.length (none, 0, 0) = (a, n, c) := by simp
    have e2 : (ls ++ [l]).getD ps.length [] = l := by rw [← h.1]; simp
    rw [e1, e2]
    exact hb

theorem OwnP.ps {w : World} {B : Nat} {v : Value} {ps : List (Option Addr × Nat × Nat)} {ls : List (List Int)} (h : OwnP w B v ps) (hb : Bss w ps ls) : ∃ pa c, v = .slice pa ps.length c ∧ Ps w pa ps.length ls := by
  obtain ⟨h1, h2⟩ := h
  rcases h2 with ⟨rfl, h0⟩ | ⟨g, cap, cur, rfl, hg, hh, hn, hm, hs, ht⟩
  · have : ps = [] := List.length_eq_zero_iff.1 h0
    subst this
    exact ⟨none, 0, rfl, hb.1, fun h => absurd h (by simp)⟩
  · refine ⟨some ⟨g, 0, none⟩, cap, rfl, hb.1, fun _ => ⟨g, 0, rfl, fun i hi => ?_⟩⟩
    have e : (cur.toList.take (ps.length * 1))[i]? = (ps.map sv)[i]? := by rw [ht]
    rw [List.getElem?_take, if_pos (by omega)] at e
    refine ⟨_, _, _, ?_, hb.2 i hi⟩
    simp [World.cell?, hh, hi] at e ⊢
    simpa [hi, sv] using e

/-- A pointer is itself. -/
theorem sizeSum : (Try.prog.info? 88).map (·.size) = some 2 := by kernel_rfl
theorem neq_sum (g : Nat) (w : World) : (binOp .neq 44 (.pointer (some ⟨g, 0, none⟩)) (.pointer (some ⟨g, 0, none⟩))).run Try.prog w = .ok (.bool false) w := by
  have hs : (sizeOf 88).run Try.prog w = .ok 2 w := by
    have h := sizeSum
    cases hi : Try.prog.info? 88 with
    | none => simp [hi] at h
    | some i =>
      simp [hi] at h
      simp [sizeOf, typeInfo, hi, h, Sem.run_bind]
  have hsa : (sameAddr ⟨g, 0, none⟩ ⟨g, 0, none⟩).run Try.prog w = .ok true w := by
    simp [sameAddr]
  have he : ∀ d, (Op.equalIn (d + 1) 44 (.pointer (some ⟨g, 0, none⟩)) (.pointer (some ⟨g, 0, none⟩))).run Try.prog w = .ok true w := by
    intro d
    simp [Op.equalIn, run_underlying Try.underlying44, hs, hsa]
  have he2 : (Op.equal 44 (.pointer (some ⟨g, 0, none⟩)) (.pointer (some ⟨g, 0, none⟩))).run Try.prog w = .ok true w := he 9999
  simp only [binOp]
  simp [he2]
end Go.Proofs.Ytjkfobgeklnblaa
