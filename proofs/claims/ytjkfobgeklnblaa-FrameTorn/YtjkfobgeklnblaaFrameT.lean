/- Frames without their end; an append inside a region that draws its order. -/
import Derived.Test.YtjkfobgeklnblaaFrameA
import Derived.Deep.RegionLaw
namespace Go.Proofs.Ytjkfobgeklnblaa
open Go.RowKit

theorem drop_num (m : Nat) (r : List Int) : (M.numB 9 m ++ r).drop (M.numB 9 m).length = r := List.drop_left

/-- A whole frame, with whatever behind it. -/
theorem getF_whole (t more : List Int) (h : t.length ≤ 4096) : getF (frameB t ++ more) = (t, (frameB t).length, 0) := by
  have e0 : frameB t ++ more = M.numB 9 t.length ++ (sum4 (sumOf t) ++ (t ++ more)) := by simp [frameB]
  have el : (frameB t).length = (M.numB 9 t.length).length + 4 + t.length := by simp only [frameB, List.length_append, sum4_len]; omega
  rw [e0]
  unfold getF
  rw [M.getL_put _ _ (by omega)]
  simp only
  have e1 : ((M.numB 9 t.length ++ (sum4 (sumOf t) ++ (t ++ more))).drop (M.numB 9 t.length).length).take 4 = sum4 (sumOf t) := by
    rw [drop_num, List.take_append_of_le_length (by rw [sum4_len]; omega), List.take_of_length_le (by rw [sum4_len]; omega)]
  have e2 : ((M.numB 9 t.length ++ (sum4 (sumOf t) ++ (t ++ more))).drop ((M.numB 9 t.length).length + 4)).take t.length = t := by
    rw [← List.drop_drop, drop_num, ← sum4_len (sumOf t), List.drop_left, List.take_append_of_le_length (Nat.le_refl _), List.take_of_length_le (Nat.le_refl _)]
  rw [e1, e2, if_neg (by simp), if_neg (by omega), if_neg (by simp only [List.length_append, sum4_len]; omega), if_neg (by rw [readL_sum4 _ (sumOf_lt t)]; simp), el]

theorem getF_torn (t : List Int) (i : Nat) (h : t.length ≤ 4096) (hi : i < (frameB t).length) : getF ((frameB t).take i) = ([], 0, 8) := by
  have el : (frameB t).length = (M.numB 9 t.length).length + 4 + t.length := by simp only [frameB, List.length_append, sum4_len]; omega
  unfold getF
  by_cases hd : i < (M.numB 9 t.length).length
  · have e : M.getL 0 0 ((frameB t).take i) = (0, 0, 8) := by
      rw [frameB, List.take_append_of_le_length (by omega)]
      exact getL_torn 9 _ _ _ _ rfl hd
    rw [e]
    rfl
  · have e : M.getL 0 0 ((frameB t).take i) = (t.length, (M.numB 9 t.length).length, 0) := by
      rw [frameB, List.take_append, List.take_of_length_le (by omega)]
      exact M.getL_put _ _ (by omega)
    rw [e]
    simp only
    rw [if_neg (by simp), if_neg (by omega), if_pos (by rw [List.length_take]; omega)]

theorem allF_torn (t : List Int) (i f : Nat) (h : t.length ≤ 4096) (hi : i < (frameB t).length) : allF (f + 2) (frameB t ++ (frameB t).take i) = ([t], (frameB t).length, if i = 0 then 0 else 8) := by
  have hne : frameB t ++ (frameB t).take i ≠ [] := by
    intro e
    have := congrArg List.length e
    simp at this
    rw [this.1] at hi
    simp at hi
  have hg := getF_whole t ((frameB t).take i) h
  rw [allF_ok (f + 1) _ hne (by rw [hg]), hg]
  simp only [List.drop_left]
  by_cases h0 : i = 0
  · subst h0
    simp [allF_nil]
  · have hne2 : (frameB t).take i ≠ [] := by
      intro e
      have := congrArg List.length e
      simp at this
      rcases this with h | h
      · exact h0 h
      · rw [h] at hi; simp at hi
    rw [allF_err f _ hne2 (by rw [getF_torn t i h hi]; simp), getF_torn t i h hi, if_neg h0]
    simp

/-- append(own, bytes...) where the order is drawn. -/
theorem step_app {w : World} {ops : Array Oper} {o : Oper} {a : Act} {K : Act → World → Prop} {Q : Exit → Act → World → Prop} {E : Prop} (hgd : o.guard = none) (s x : Operand)
    (ho : o.op = .call { callee := .builtin .append, args := #[s, x], argTypes := #[23, 23] })
    (B : Nat) (v : Value) (l : List Int) (hs : a.eval s = v) (hown : w.ownsInts B 5 .u8 v l)
    (ao : Option Addr) (m c : Nat) (news : List Int) (hx : a.eval x = .slice ao m c) (hb : Bs w ao m c news) (hsz : l.length + m ≤ 70368744177664) (hB : B ≤ w.heap.size)
    (h : ∀ v' w', w'.ownsInts B 5 .u8 v' (l ++ news) → w.grownBy w' v.ownBlock → K (a.put o.dst v') w') :
    if Region.wanted o (yielded ops a.tmps) = true then Oper.wp Try.prog o a w K Q else E := by
  have hw : Region.wanted o (yielded ops a.tmps) = true := by simp [Region.wanted, hgd]
  rw [if_pos hw]
  obtain ⟨i0, hi, hz0, hz1, hz2⟩ := info_parts infoB
  have hl := hb.1
  have main : ∃ v' w', (Builtin.append_ #[23, 23] o.type #[v, .slice ao m c]).run Try.prog w = .ok v' w' ∧ w'.ownsInts B 5 .u8 v' (l ++ news) ∧ w.grownBy w' v.ownBlock := by
    cases ao with
    | none =>
      have hc : c = 0 := hb.2.2.2.1 rfl
      have hm : m = 0 := by have := hb.2.1; omega
      subst hc; subst hm
      have e : news = [] := List.length_eq_zero_iff.1 hl
      subst e
      have hrun := run_append_owned_none (P := Try.prog) (w := w) B 23 o.type 5 i0 1 Try.underlying23 hi v l.length (l.map (Value.int .u8)) hown.1
      exact ⟨v, w, hrun, by simpa using hown, ⟨rfl, rfl, rfl, Nat.le_refl _, fun _ _ _ => rfl⟩⟩
    | some ad =>
      obtain ⟨v', w', hr, h2, h3, _, _⟩ := run_append_own_at (P := Try.prog) w B 23 o.type 5 i0 (.int .u8 0) 1 1 Try.underlying23 hi hz0 hz1 hz2 rfl (by decide) v l.length (l.map (Value.int .u8)) hown.1 ad m c (news.map (Value.int .u8)) (by simp [hl]) (fun j u hj => by
        by_cases hm : m = 0
        · subst hm
          obtain rfl : news = [] := List.length_eq_zero_iff.1 hl
          simp at hj
        · obtain ⟨b, of, e, _⟩ := hb.2.2.2.2.1 (by omega)
          obtain rfl : ad = ⟨b, of, none⟩ := by simpa using e
          exact hb.cells j u hj) (ints_oneCell .u8 news) (by simp only [maxLen]; omega) (by omega) hB
      refine ⟨v', w', hr, ⟨?_, fun z hz => ?_⟩, h3⟩
      · have e : (l ++ news).length = l.length + m := by simp [hl]
        rw [e, List.map_append]
        exact h2
      · rcases List.mem_append.1 hz with hz | hz
        · exact hown.2 z hz
        · exact wf_u8 (hb.2.2.2.2.2 z hz)
  obtain ⟨v', w', hrun, h2, h3⟩ := main
  unfold Oper.wp
  simp [execOp, ho, resolve, invoke, builtin, hs, hx, hrun, Result.andThen]
  exact h v' w' h2 h3
end Go.Proofs.Ytjkfobgeklnblaa
