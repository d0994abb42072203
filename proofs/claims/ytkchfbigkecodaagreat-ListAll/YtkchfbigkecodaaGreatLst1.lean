/- What package list does: a push, without the walks. -/
import Derived.Test.YtkchfbigkecodaaGreatRowM
import Derived.Deep.RegionLaw
namespace Go.Proofs.YtkchfbigkecodaaGreat
open Go.RowKit Go.MapKept Go.ChangeMaps

def i64C (x : Int) : List Value := [.int .i64 x]
theorem flatI (z : List Int) : z.flatMap i64C = z.map (Value.int .i64) := by
  induction z with
  | nil => rfl
  | cons x z ih => rw [List.flatMap_cons, ih]; rfl
abbrev RowI := RowO 2 1 i64C
abbrev Li := Rm 92 2 1 i64C
abbrev LiS := RmS 92 2 1 i64C

theorem undL : Tryz.prog.underlying 42 = some (.map 28 29) := Tryz.underlying42
theorem infoI : (Tryz.prog.info? 2).map (fun i => (i.zero, i.size, i.bytes)) = some (some (.int .i64 0), 1, 8) := by kernel_rfl
theorem zeroLs (w : World) : (zeroValue 29).run Tryz.prog w = .ok (.slice none 0 0) w := by
  have hz : Tryz.t29.zero = some (.slice none 0 0) := by kernel_rfl
  simp [zeroValue, hz]
theorem lists_ne : (92 : TypeId) ≠ 2 := by decide

/-- append(own, numbers...). -/
theorem run_appI (w : World) (v : Value) (l : List Int) (hown : RowI w v l) (ao : Option Addr) (m c : Nat) (news : List Int) (hr : Rd w ao m c news) (hsz : l.length + m ≤ 1000000) :
    ∃ v' w', (∀ ty, (Builtin.append_ #[29, 29] ty #[v, .slice ao m c]).run Tryz.prog w = .ok v' w') ∧ RowI w' v' (l ++ news) ∧ w.grownBy w' v.ownBlock ∧ (v'.ownBlock = v.ownBlock ∨ v'.ownBlock = some w.heap.size) := by
  obtain ⟨i0, hi, hz0, hz1, hz2⟩ := info_parts infoI
  cases ao with
  | none =>
    obtain ⟨rfl, rfl⟩ := hr.nil rfl
    have e : news = [] := List.length_eq_zero_iff.1 hr.len
    subst e
    exact ⟨v, w, fun ty => run_append_owned_none (P := Tryz.prog) (w := w) 0 29 ty 2 i0 1 Tryz.underlying29 hi v l.length (l.flatMap i64C) hown, by simpa using hown, ⟨rfl, rfl, rfl, Nat.le_refl _, fun _ _ _ => rfl⟩, Or.inl rfl⟩
  | some ad =>
    have key := fun ty => run_append_own_at (P := Tryz.prog) w 0 29 ty 2 i0 (.int .i64 0) 1 8 Tryz.underlying29 hi hz0 hz1 hz2 rfl (by decide) v l.length (l.flatMap i64C) hown ad m c (news.map (Value.int .i64)) (by simp [hr.len]) (hr.cells ad rfl) (ints_oneCell .i64 news) (by simp only [maxLen]; omega) (by omega) (Nat.zero_le _)
    obtain ⟨v', w', hrun, h2, h3, _, h5⟩ := key 0
    refine ⟨v', w', fun ty => hrun, ?_, h3, h5⟩
    show w'.ownsRow 0 _ 1 v' (l ++ news).length ((l ++ news).flatMap i64C)
    rw [List.flatMap_append, flatI news, List.length_append, hr.len]
    exact h2

/-- m[k] = append(m[k], numbers...): the entry taken, the append, the entry stored into. -/
theorem Li.app {w : World} {O : Nat → Prop} {g N r : Nat} {f : K3 → List Int} {l : List (Ent K3)} {c : Nat} (h : Li w O g f N (some r) l c) (hO : ∀ k, w.heap.size ≤ k → O k) (k : K3) (ao : Option Addr) (m cp : Nat) (z : List Int) (hr : Rd w ao m cp z) (hz : z ≠ []) (hsz : (f k).length + m ≤ 100000) :
    ∃ w1 b v0 v1 w2 w3, (Instr.mapEntry 42 (.map (some r)) (k3E k)).run Tryz.prog w = .ok (.tuple #[v0, .int .i64 b]) w1 ∧ (∀ ty, (Builtin.append_ #[29, 29] ty #[v0, .slice ao m cp]).run Tryz.prog w1 = .ok v1 w2) ∧
      (Instr.entryStore 42 (.map (some r)) (.int .i64 b) v1).run Tryz.prog w2 = .ok () w3 ∧ LiS w3 O g (updR f k (f k ++ z)) (N + 1) ∧ Tch O w w3 := by
  obtain ⟨o1, o2, hm⟩ := h.made r rfl
  obtain ⟨w1, l1, c1, x, hx, hxk, hrun, hm1, hg1, _, hsub, hsup, hlen, hxv⟩ := hm.entry k3Keyd undL (zeroLs w) k
  have hrow := h.rowAt k
  have hne : ∀ {v : Value} {zz : List Int}, RowI w v zz → v.ownBlock ≠ some r := fun ho e' => by
    obtain ⟨cur, hc⟩ := ho.kind e'
    rw [hm.heap] at hc
    simp at hc
  have hT1 := Tch.of hg1
  have hrow1 : RowI w1 ((atE l k).getD (.slice none 0 0)) (f k) := RowO.tch hT1 hrow (fun j hj e' => hne hrow (by rw [hj]; exact e'))
  have hr1 : Rd w1 ao m cp z := hr.tch hT1 (fun j hj a y ha => no_int_map (k := j) (by simp at hj; subst hj; exact hm.heap) a y ha)
  obtain ⟨v1, w2, hap, ho2, hg2, hat⟩ := run_appI w1 _ _ hrow1 ao m cp z hr1 (by omega)
  have hs1 : w.heap.size ≤ w1.heap.size := hg1.size
  have hm2 : Mp k3E w2 r l1 c1 := hm1.kept hg2 (hne hrow)
  obtain ⟨w3, hst, hm3, hg3⟩ := hm2.store 42 x hx v1
  rw [hxk] at hm3
  have hrlt := hm.lt
  have hv1r : v1.ownBlock ≠ some r := by
    rcases hat with e' | e'
    · rw [e']; exact hne hrow
    · rw [e']; simp; omega
  have ho3 : RowI w3 v1 (f k ++ z) := RowO.tch (Tch.of hg3) ho2 (fun j hj e' => hv1r (by rw [hj]; exact e'))
  have hv0r : ∀ j, ((atE l k).getD (.slice none 0 0)).ownBlock = some j → ∃ y ∈ l, y.k = k ∧ y.v.ownBlock = some j := by
    intro j hj
    rcases h.atK k with ⟨_, ha, _⟩ | ⟨y, hy, hk, ha, _⟩
    · rw [ha] at hj; cases hj
    · rw [ha] at hj; exact ⟨y, hy, hk, hj⟩
  have hT : Tch (fun j => j = r ∨ ∃ y ∈ l, y.k = k ∧ y.v.ownBlock = some j) w w3 :=
    ((hT1.mono (fun j _ e' => Or.inl (by simpa using e'))).trans ((Tch.of hg2).mono (fun j _ e' => Or.inr (hv0r j e'.symm)))).trans ((Tch.of hg3).mono (fun j _ e' => Or.inl (by simpa using e')))
  have hmem : ∀ y ∈ setE l1 k v1, (y.k = k ∧ y.v = v1) ∨ (y.k ≠ k ∧ y ∈ l) := fun y hy => by
    unfold setE at hy
    obtain ⟨q, hq, rfl⟩ := List.mem_map.1 hy
    by_cases e' : q.k = k
    · rw [if_pos e']; exact Or.inl ⟨e', rfl⟩
    · rw [if_neg e']; exact Or.inr ⟨e', (hsub q hq).resolve_right e'⟩
  obtain ⟨hR, hTO⟩ := h.turn k (f k ++ z) (by simp [hz]) hm3 (by rw [setE_keys]; exact List.mem_map.2 ⟨x, hx, hxk⟩) (fun y hy hyk => ((hmem y hy).resolve_left (fun a => hyk a.1)).2)
    (fun y hy hyk => by unfold setE; exact List.mem_map.2 ⟨y, hsup y hy, if_neg hyk⟩) v1 (fun y hy hyk => ((hmem y hy).resolve_right (fun a => a.1 hyk)).2) ho3
    (fun j hj => by
      rcases hat with e' | e'
      · exact Or.inl (hv0r j (e'.symm.trans hj))
      · rw [e'] at hj; simp at hj; subst hj; exact Or.inr ⟨hs1, hO _ hs1⟩) (by simp [setE]; exact hlen) hT lists_ne
  exact ⟨w1, _, _, v1, w2, w3, hrun, hap, hst, ⟨_, _, _, hR⟩, hTO⟩

/-- A builtin append that is run already, in a region that draws. -/
theorem step_ran {w w' : World} {ops : Array Oper} {o : Oper} {a : Act} {K : Act → World → Prop} {Q : Exit → Act → World → Prop} {E : Prop} (hgd : o.guard = none) (s x : Operand) (t t' : TypeId)
    (ho : o.op = .call { callee := .builtin .append, args := #[s, x], argTypes := #[t, t'] }) (v v2 v' : Value) (hs : a.eval s = v) (hx : a.eval x = v2)
    (hrun : ∀ ty, (Builtin.append_ #[t, t'] ty #[v, v2]).run Tryz.prog w = .ok v' w') (h : K (a.put o.dst v') w') :
    if Region.wanted o (yielded ops a.tmps) = true then Oper.wp Tryz.prog o a w K Q else E := by
  have hw : Region.wanted o (yielded ops a.tmps) = true := by simp [Region.wanted, hgd]
  rw [if_pos hw]
  unfold Oper.wp
  simp [execOp, ho, resolve, invoke, builtin, hs, hx, hrun, Result.andThen]
  exact h
end Go.Proofs.YtkchfbigkecodaaGreat
