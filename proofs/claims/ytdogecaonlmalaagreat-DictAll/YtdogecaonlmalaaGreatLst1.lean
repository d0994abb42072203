/- What package list does: a push, without the walks. What package list does: New, put, Push. What package list does: Push, Clear, List. What package list does: Clear, List, ListKeys. -/
import Derived.Test.YtdogecaonlmalaaGreatRowM
import Derived.Deep.RegionLaw
import Derived.Test.YtdogecaonlmalaaGreatMutL
import Derived.Test.YtdogecaonlmalaaGreatKeyS
namespace Go.Proofs.YtdogecaonlmalaaGreat
open Go.RowKit Go.MapKept Go.ChangeMaps

def i64C (x : Int) : List Value := [.int .i64 x]
theorem flatI (z : List Int) : z.flatMap i64C = z.map (Value.int .i64) := by
  induction z with
  | nil => rfl
  | cons x z ih => rw [List.flatMap_cons, ih]; rfl
abbrev RowI := RowO 2 1 i64C
abbrev Li := Rm 82 2 1 i64C
abbrev LiS := RmS 82 2 1 i64C

theorem infoI : (Tryz.prog.info? 2).map (fun i => (i.zero, i.size, i.bytes)) = some (some (.int .i64 0), 1, 8) := by kernel_rfl
theorem zeroLs (w : World) : (zeroValue 29).run Tryz.prog w = .ok (.slice none 0 0) w := by
  have hz : Tryz.t29.zero = some (.slice none 0 0) := by kernel_rfl
  simp [zeroValue, hz]
theorem lists_ne : (82 : TypeId) ≠ 2 := by decide

/-- append(own, numbers...). -/
theorem run_appI (w : World) (v : Value) (l : List Int) (hown : RowI w v l) (ao : Option Addr) (m c : Nat) (news : List Int) (hr : Rd w ao m c news) (hsz : l.length + m ≤ 1000000) :
    ∃ v' w', (∀ ty, (Builtin.append_ #[29, 29] ty #[v, .slice ao m c]).run Tryz.prog w = .ok v' w') ∧ RowI w' v' (l ++ news) ∧ w.grownBy w' v.ownBlock ∧ (v'.ownBlock = v.ownBlock ∨ v'.ownBlock = some w.heap.size) := by
  obtain ⟨i0, hi, hz0, hz1, hz2⟩ := info_parts infoI
  cases ao with
  | none =>
    obtain ⟨rfl, rfl⟩ := hr.nil rfl
    have e : news = [] := List.length_eq_zero_iff.1 hr.len
    subst e
    exact ⟨v, w, fun ty => run_append_owned_none (P := Tryz.prog) (w := w) 0 29 ty 2 i0 1 Tryz.underlying29 hi v l.length (l.flatMap i64C) hown, by simpa using hown, ⟨rfl, rfl, rfl, Nat.le_refl _, fun _ _ _ => rfl⟩, Or.inl rfl⟩
  | some ad =>
    have key := fun ty => run_append_own_at (P := Tryz.prog) w 0 29 ty 2 i0 (.int .i64 0) 1 8 Tryz.underlying29 hi hz0 hz1 hz2 rfl (by decide) v l.length (l.flatMap i64C) hown ad m c (news.map (Value.int .i64)) (by simp [hr.len]) (hr.cells ad rfl) (ints_oneCell .i64 news) (by simp only [maxLen]; omega) (by omega) (Nat.zero_le _)
    obtain ⟨v', w', hrun, h2, h3, _, h5⟩ := key 0
    refine ⟨v', w', fun ty => hrun, ?_, h3, h5⟩
    show w'.ownsRow 0 _ 1 v' (l ++ news).length ((l ++ news).flatMap i64C)
    rw [List.flatMap_append, flatI news, List.length_append, hr.len]
    exact h2

/-- m[k] = append(m[k], numbers...): the entry taken, the append, the entry stored into. -/
theorem Li.app {w : World} {O : Nat → Prop} {g N r : Nat} {f : K3 → List Int} {l : List (Ent K3)} {c : Nat} (h : Li w O g f N (some r) l c) (hO : ∀ k, w.heap.size ≤ k → O k) (k : K3) (ao : Option Addr) (m cp : Nat) (z : List Int) (hr : Rd w ao m cp z) (hz : z ≠ []) (hsz : (f k).length + m ≤ 100000) :
    ∃ w1 b v0 v1 w2 w3, (Instr.mapEntry 80 (.map (some r)) (k3E k)).run Tryz.prog w = .ok (.tuple #[v0, .int .i64 b]) w1 ∧ (∀ ty, (Builtin.append_ #[29, 29] ty #[v0, .slice ao m cp]).run Tryz.prog w1 = .ok v1 w2) ∧
      (Instr.entryStore 80 (.map (some r)) (.int .i64 b) v1).run Tryz.prog w2 = .ok () w3 ∧ LiS w3 O g (updR f k (f k ++ z)) (N + 1) ∧ Tch O w w3 := by
  obtain ⟨o1, o2, hm⟩ := h.made r rfl
  obtain ⟨w1, l1, c1, x, hx, hxk, hrun, hm1, hg1, _, hsub, hsup, hlen, hxv⟩ := hm.entry k3Keyd undL (zeroLs w) k
  have hrow := h.rowAt k
  have hne : ∀ {v : Value} {zz : List Int}, RowI w v zz → v.ownBlock ≠ some r := fun ho e' => by
    obtain ⟨cur, hc⟩ := ho.kind e'
    rw [hm.heap] at hc
    simp at hc
  have hT1 := Tch.of hg1
  have hrow1 : RowI w1 ((atE l k).getD (.slice none 0 0)) (f k) := RowO.tch hT1 hrow (fun j hj e' => hne hrow (by rw [hj]; exact e'))
  have hr1 : Rd w1 ao m cp z := hr.tch hT1 (fun j hj a y ha => no_int_map (k := j) (by simp at hj; subst hj; exact hm.heap) a y ha)
  obtain ⟨v1, w2, hap, ho2, hg2, hat⟩ := run_appI w1 _ _ hrow1 ao m cp z hr1 (by omega)
  have hs1 : w.heap.size ≤ w1.heap.size := hg1.size
  have hm2 : Mp k3E w2 r l1 c1 := hm1.kept hg2 (hne hrow)
  obtain ⟨w3, hst, hm3, hg3⟩ := hm2.store 80 x hx v1
  rw [hxk] at hm3
  have hrlt := hm.lt
  have hv1r : v1.ownBlock ≠ some r := by
    rcases hat with e' | e'
    · rw [e']; exact hne hrow
    · rw [e']; simp; omega
  have ho3 : RowI w3 v1 (f k ++ z) := RowO.tch (Tch.of hg3) ho2 (fun j hj e' => hv1r (by rw [hj]; exact e'))
  have hv0r : ∀ j, ((atE l k).getD (.slice none 0 0)).ownBlock = some j → ∃ y ∈ l, y.k = k ∧ y.v.ownBlock = some j := by
    intro j hj
    rcases h.atK k with ⟨_, ha, _⟩ | ⟨y, hy, hk, ha, _⟩
    · rw [ha] at hj; cases hj
    · rw [ha] at hj; exact ⟨y, hy, hk, hj⟩
  have hT : Tch (fun j => j = r ∨ ∃ y ∈ l, y.k = k ∧ y.v.ownBlock = some j) w w3 :=
    ((hT1.mono (fun j _ e' => Or.inl (by simpa using e'))).trans ((Tch.of hg2).mono (fun j _ e' => Or.inr (hv0r j e'.symm)))).trans ((Tch.of hg3).mono (fun j _ e' => Or.inl (by simpa using e')))
  have hmem : ∀ y ∈ setE l1 k v1, (y.k = k ∧ y.v = v1) ∨ (y.k ≠ k ∧ y ∈ l) := fun y hy => by
    unfold setE at hy
    obtain ⟨q, hq, rfl⟩ := List.mem_map.1 hy
    by_cases e' : q.k = k
    · rw [if_pos e']; exact Or.inl ⟨e', rfl⟩
    · rw [if_neg e']; exact Or.inr ⟨e', (hsub q hq).resolve_right e'⟩
  obtain ⟨hR, hTO⟩ := h.turn k (f k ++ z) (by simp [hz]) hm3 (by rw [setE_keys]; exact List.mem_map.2 ⟨x, hx, hxk⟩) (fun y hy hyk => ((hmem y hy).resolve_left (fun a => hyk a.1)).2)
    (fun y hy hyk => by unfold setE; exact List.mem_map.2 ⟨y, hsup y hy, if_neg hyk⟩) v1 (fun y hy hyk => ((hmem y hy).resolve_right (fun a => a.1 hyk)).2) ho3
    (fun j hj => by
      rcases hat with e' | e'
      · exact Or.inl (hv0r j (e'.symm.trans hj))
      · rw [e'] at hj; simp at hj; subst hj; exact Or.inr ⟨hs1, hO _ hs1⟩) (by simp [setE]; exact hlen) hT lists_ne
  exact ⟨w1, _, _, v1, w2, w3, hrun, hap, hst, ⟨_, _, _, hR⟩, hTO⟩

/-- A builtin append that is run already, in a region that draws. -/
theorem step_ran {w w' : World} {ops : Array Oper} {o : Oper} {a : Act} {K : Act → World → Prop} {Q : Exit → Act → World → Prop} {E : Prop} (hgd : o.guard = none) (s x : Operand) (t t' : TypeId)
    (ho : o.op = .call { callee := .builtin .append, args := #[s, x], argTypes := #[t, t'] }) (v v2 v' : Value) (hs : a.eval s = v) (hx : a.eval x = v2)
    (hrun : ∀ ty, (Builtin.append_ #[t, t'] ty #[v, v2]).run Tryz.prog w = .ok v' w') (h : K (a.put o.dst v') w') :
    if Region.wanted o (yielded ops a.tmps) = true then Oper.wp Tryz.prog o a w K Q else E := by
  have hw : Region.wanted o (yielded ops a.tmps) = true := by simp [Region.wanted, hgd]
  rw [if_pos hw]
  unfold Oper.wp
  simp [execOp, ho, resolve, invoke, builtin, hs, hx, hrun, Result.andThen]
  exact h
end Go.Proofs.YtdogecaonlmalaaGreat

namespace Go.Proofs.YtdogecaonlmalaaGreat
open Go.RowKit Go.MapKept Go.ChangeMaps

set_option maxRecDepth 100000 in
theorem listNew (w : World) : Calls Tryz.prog 13 #[] w fun e w' => e = .returned (.pointer (some ⟨w.heap.size, 0, none⟩)) ∧ w' = w.alloc (rmObj 82 none) := by
  go_enter Tryz.func13, Tryz.ntmps13
  go_wp2
  go_ret
  exact ⟨rfl, rfl⟩

/-- The map that put makes. -/
theorem Rm.fresh {α : Type} {T e : TypeId} {sz : Nat} {C : α → List Value} {w : World} {O : Nat → Prop} {g N : Nat} {f : K3 → List α} {l : List (Ent K3)} {c : Nat} (h : Rm T e sz C w O g f N none l c) (hO : ∀ k, w.heap.size ≤ k → O k) (o : Obj) :
    Rm T e sz C (((w.setCell ⟨g, 0, none⟩ (.map (some (w.heap.size + 1)))).alloc o).alloc (.map #[] 0)) O g f N (some (w.heap.size + 1)) [] 0 ∧
    Tch (fun k => k = g) w (((w.setCell ⟨g, 0, none⟩ (.map (some (w.heap.size + 1)))).alloc o).alloc (.map #[] 0)) ∧
    (((w.setCell ⟨g, 0, none⟩ (.map (some (w.heap.size + 1)))).alloc o).alloc (.map #[] 0)).heap[w.heap.size]? = some o := by
  have hglt := lt_of_heap h.obj
  have hl := h.nomap rfl
  subst hl
  have hs0 : (w.setCell ⟨g, 0, none⟩ (.map (some (w.heap.size + 1)))).heap.size = w.heap.size := by simp [World.setCell]
  have hs1 : ((w.setCell ⟨g, 0, none⟩ (.map (some (w.heap.size + 1)))).alloc o).heap.size = w.heap.size + 1 := by simp [hs0]
  refine ⟨⟨?_, h.own, fun r e => ?_, fun e => (by cases e), fun x hx => (by simp at hx), h.non, fun x hx => (by simp at hx), h.len⟩, ?_, ?_⟩
  · rw [Below.heap_alloc _ _ _ (by rw [hs1]; omega), Below.heap_alloc _ _ _ (by rw [hs0]; omega)]
    exact rm_set h.obj _
  · cases e
    have hmp := Mp.new (E := k3E) ((w.setCell ⟨g, 0, none⟩ (.map (some (w.heap.size + 1)))).alloc o)
    rw [hs1] at hmp
    exact ⟨hO _ (by omega), by omega, hmp⟩
  · exact (((Tch.of (grown_setCell w g 0 (.map (some (w.heap.size + 1))))).mono (fun k _ e => by simpa using e)).trans (Below.tch (below_alloc _ _ _ (Nat.le_refl _)))).trans (Below.tch (below_alloc _ _ _ (Nat.le_refl _)))
  · rw [Below.heap_alloc _ _ _ (by rw [hs1]; omega)]
    have := heap_alloc_new (w.setCell ⟨g, 0, none⟩ (.map (some (w.heap.size + 1)))) o
    rwa [hs0] at this

set_option maxRecDepth 100000 in
set_option maxHeartbeats 1600000 in
theorem listPut (O : Nat → Prop) (g N : Nat) (f : K3 → List Int) (k : K3) (ao : Option Addr) (m cp : Nat) (z : List Int) (w : World) (h : LiS w O g f N) (hO : ∀ k, w.heap.size ≤ k → O k) (hr : Rd w ao m cp z) (hz : z ≠ []) (hsz : (f k).length + m ≤ 100000) :
    Calls Tryz.prog 31 #[.pointer (some ⟨g, 0, none⟩), k3E k, .slice ao m cp] w fun e w' => e = .returned (.tuple #[]) ∧ LiS w' O g (updR f k (f k ++ z)) (N + 1) ∧ Tch O w w' := by
  have hmm := @run_makeMap Tryz.prog
  have hnm := fun (W : World) (r : Option Nat) => run_eql_map_nil (P := Tryz.prog) W 80 28 29 r undL
  obtain ⟨mo, l, c, h⟩ := h
  have hb := below_alloc w (k3O k) w.heap.size (Nat.le_refl _)
  have h1 := h.later hb
  obtain ⟨q0, qf⟩ := rm_cell h1.obj
  have hbx := heap_alloc_new w (k3O k)
  have hglt := lt_of_heap h.obj
  cases mo with
  | some r =>
    obtain ⟨x0, x1, x2⟩ := cells_three hbx
    have hD := (Below.refl (w.alloc (k3O k)).heap.size (w.alloc (k3O k))).drew
    obtain ⟨W1, b, v0, v1, W2, W3, e1, e2, e3, hV, hT⟩ := Li.app (h1.later hD) (fun j hj => hO j (by simp at hj; omega)) k ao m cp z ((hr.later hb).later hD) hz hsz
    have HV := hide hV
    have HT : Hid (Tch O w W3) := ((Below.tch hb).trans (Below.tch hD)).trans hT
    have HE2 := hide e2
    clear h h1 hbx hb hV hT hO hD hr e2
    unfold k3O k3E at *
    go_enter Tryz.func31, Tryz.ntmps31
    go_wp2
    go_region_law (refine step_ran rfl _ _ _ _ rfl v0 (.slice ao m cp) v1 (by rfl) (by rfl) HE2.out ?_)
    all_goals
      go_wp2
      go_end0
      exact ⟨rfl, HV.out, HT.out⟩
  | none =>
    obtain ⟨h2, hT2, hbx2⟩ := h.fresh hO (k3O k)
    obtain ⟨x0, x1, x2⟩ := cells_three hbx2
    obtain ⟨y0, _⟩ := rm_cell h2.obj
    have hr2 := hr.tch hT2 (fun j hj a y ha => no_int_rm (k := j) (by subst hj; exact h.obj) a y ha)
    have hD := (Below.refl (((w.setCell ⟨g, 0, none⟩ (.map (some (w.heap.size + 1)))).alloc (k3O k)).alloc (.map #[] 0)).heap.size (((w.setCell ⟨g, 0, none⟩ (.map (some (w.heap.size + 1)))).alloc (k3O k)).alloc (.map #[] 0))).drew
    obtain ⟨W1, b, v0, v1, W2, W3, e1, e2, e3, hV, hT⟩ := Li.app (h2.later hD) (fun j hj => hO j (by have := hT2.size; have h5 : w.heap.size ≤ j := Nat.le_trans this hj; exact h5)) k ao m cp z (hr2.later hD) hz hsz
    have HV := hide hV
    have HT : Hid (Tch O w W3) := ((hT2.mono (fun j _ e' => e' ▸ h.own)).trans (Below.tch hD)).trans hT
    have HE2 := hide e2
    clear h h1 h2 hbx hbx2 hb hV hT hT2 hO hD hr hr2 e2
    unfold k3O k3E at *
    go_enter Tryz.func31, Tryz.ntmps31
    go_wp2
    go_region_law (refine step_ran rfl _ _ _ _ rfl v0 (.slice ao m cp) v1 (by rfl) (by rfl) HE2.out ?_)
    all_goals
      go_wp2
      go_end0
      exact ⟨rfl, HV.out, HT.out⟩
end Go.Proofs.YtdogecaonlmalaaGreat

namespace Go.Proofs.YtdogecaonlmalaaGreat
open Go.RowKit Go.MapKept Go.ChangeMaps

/-- The look at a key: its row. -/
theorem Li.look {w : World} {O : Nat → Prop} {g N : Nat} {f : K3 → List Int} {mo : Option Nat} {l : List (Ent K3)} {c : Nat} (h : Li w O g f N mo l c) (k : K3) :
    (Instr.lookup 80 (.map mo) (k3E k) false).run Tryz.prog w = .ok ((atE l k).getD (.slice none 0 0)) w := by
  cases mo with
  | none =>
    have := look_nilE k3Keyd undL (zeroLs w) k false
    rw [h.nomap rfl, atE_nil]
    exact this
  | some r => exact (h.made r rfl).2.2.look k3Keyd undL (zeroLs w) k false

theorem RowI.slice {w : World} {v : Value} {z : List Int} (h : RowI w v z) : ∃ ao cp, v = .slice ao z.length cp ∧ Rd w ao z.length cp z ∧ (ao = none ↔ z = [] ∧ cp = 0 ∧ v = .slice none 0 0) := by
  rcases h.2 with ⟨rfl, hn⟩ | ⟨g, cap, cur, rfl, _, _, h1, _, _, _⟩
  · have e : z = [] := List.length_eq_zero_iff.1 hn
    subst e
    exact ⟨none, 0, rfl, ⟨rfl, fun _ => ⟨rfl, rfl⟩, fun a ha => (by cases ha), Nat.le_refl _⟩, by simp⟩
  · refine ⟨_, cap, rfl, ⟨rfl, fun e => (by cases e), fun a ha j u hj => ?_, h1⟩, by simp⟩
    cases ha
    exact World.ownsRow.cells h (g := g) rfl j u (by rw [flatI]; exact hj)

theorem updR_self {α : Type} (f : K3 → List α) (k : K3) : updR f k (f k) = f := by
  funext b
  unfold updR
  by_cases e : b = k
  · rw [if_pos e, e]
  · rw [if_neg e]

set_option maxRecDepth 100000 in
set_option maxHeartbeats 1600000 in
/-- Push: all are behind the list, if there is room. -/
theorem listPush (O : Nat → Prop) (g N : Nat) (f : K3 → List Int) (k : K3) (ao : Option Addr) (m cp : Nat) (z : List Int) (w : World) (h : LiS w O g f N) (hO : ∀ k, w.heap.size ≤ k → O k) (hr : Rd w ao m cp z) (hf : (f k).length ≤ 100) :
    Calls Tryz.prog 18 #[.pointer (some ⟨g, 0, none⟩), k3E k, .slice ao m cp] w fun e w' => e = .returned (.int .i64 (if (f k).length + m ≤ 100 then 0 else 4)) ∧ LiS w' O g (if (f k).length + m ≤ 100 then updR f k (f k ++ z) else f) (N + 1) ∧ Tch O w w' := by
  have hb := below_alloc w (k3O k) w.heap.size (Nat.le_refl _)
  have HH := hide h
  obtain ⟨mo, l, c, h⟩ := h
  have h1 := h.later hb
  obtain ⟨q0, qf⟩ := rm_cell h1.obj
  have hbx := heap_alloc_new w (k3O k)
  obtain ⟨x0, x1, x2⟩ := cells_three hbx
  have lk : ∀ n, (Instr.lookup 80 (.map mo) (k3E k) false).run Tryz.prog ((w.alloc (k3O k)).drewN n) = .ok ((atE l k).getD (.slice none 0 0)) ((w.alloc (k3O k)).drewN n) := fun n =>
    Li.look (h1.later (below_drewN (Below.refl (w.alloc (k3O k)).heap.size (w.alloc (k3O k))) n)) k
  have hrow := h1.rowAt k
  generalize (atE l k).getD (.slice none 0 0) = v at lk hrow
  obtain ⟨ao', cp', rfl, _, _⟩ := RowI.slice hrow
  have HP : Hid (∀ n, z ≠ [] → (f k).length + m ≤ 100000 → Calls Tryz.prog 31 #[.pointer (some ⟨g, 0, none⟩), k3E k, .slice ao m cp] ((w.alloc (k3O k)).drewN n) fun e w' => e = .returned (.tuple #[]) ∧ LiS w' O g (updR f k (f k ++ z)) (N + 1) ∧ Tch O w w') := fun n hz hl => by
    have hD := hb.trans (below_drewN (Below.refl w.heap.size (w.alloc (k3O k))) n)
    refine (listPut O g N f k ao m cp z _ (HH.out.later hD) (fun j hj => hO j (Nat.le_trans hD.size hj)) (hr.later hD) hz hl).mono ?_
    rintro e w' ⟨r1, r2, r3⟩
    exact ⟨r1, r2, (Below.tch hD).trans r3⟩
  have HN : Hid (∀ n, LiS ((w.alloc (k3O k)).drewN n) O g f (N + 1) ∧ Tch O w ((w.alloc (k3O k)).drewN n)) := fun n => by
    have hD := hb.trans (below_drewN (Below.refl w.heap.size (w.alloc (k3O k))) n)
    exact ⟨(HH.out.later hD).more (by omega), Below.tch hD⟩
  have hm := hr.len
  clear h h1 hbx hb hr hO hrow HH
  unfold k3O k3E at *
  by_cases hroom : (f k).length + m ≤ 100
  · have c1 : ¬ (100 - ((f k).length : Int)) < (m : Int) := by omega
    by_cases hm0 : 0 < m
    · have hz : z ≠ [] := fun e => by rw [e] at hm; simp at hm; omega
      simp only [if_pos hroom]
      go_enter Tryz.func18, Tryz.ntmps18
      go_wp2
      go_quiet (fail)
      go_wp2_with fail
      all_goals first
        | (exfalso; omega)
        | skip
      refine (HP.out nq hz (by omega)).mono ?_
      rintro e w1 ⟨rfl, k1, k2⟩
      have K1 := hide k1
      have K2 := hide k2
      clear k1 k2 HP HN lk x0 x1 x2 q0 qf
      go_wp2
      go_ret
      exact ⟨rfl, K1.out, K2.out⟩
    · obtain rfl : z = [] := List.length_eq_zero_iff.1 (by omega)
      simp only [if_pos hroom, List.append_nil, updR_self]
      clear HP
      go_enter Tryz.func18, Tryz.ntmps18
      go_wp2
      go_quiet (fail)
      go_wp2_with fail
      all_goals first
        | (exfalso; omega)
        | skip
      have HNq := hide (HN.out nq)
      clear HN lk x0 x1 x2 q0 qf
      go_ret
      exact ⟨rfl, HNq.out.1, HNq.out.2⟩
  · have c1 : (100 - ((f k).length : Int)) < (m : Int) := by omega
    simp only [if_neg hroom]
    clear HP
    go_enter Tryz.func18, Tryz.ntmps18
    go_wp2
    go_quiet (fail)
    go_wp2_with fail
    all_goals first
      | (exfalso; omega)
      | skip
    have HNq := hide (HN.out nq)
    clear HN lk x0 x1 x2 q0 qf
    go_ret
    exact ⟨rfl, HNq.out.1, HNq.out.2⟩
end Go.Proofs.YtdogecaonlmalaaGreat

namespace Go.Proofs.YtdogecaonlmalaaGreat
open Go.RowKit Go.MapKept Go.ChangeMaps

theorem del_nil {kt et T : TypeId} (hT : Tryz.prog.underlying T = some (.map kt et)) {K : Type} [DecidableEq K] {E : K → Value} (kd : Keyd E kt) (a : K) (ty : TypeId) (w : World) :
    (Builtin.delete_ #[T, kt] ty #[.map none, E a]).run Tryz.prog w = .ok (.tuple #[]) w := by
  have h1 := fun e => kd.chk e a w
  simp [Builtin.delete_, run_underlying hT, h1]

set_option maxRecDepth 100000 in
set_option maxHeartbeats 1600000 in
/-- Clear. -/
theorem listClear (O : Nat → Prop) (g N : Nat) (f : K3 → List Int) (k : K3) (w : World) (h : LiS w O g f N) :
    Calls Tryz.prog 52 #[.pointer (some ⟨g, 0, none⟩), k3E k] w fun e w' => e = .returned (.int .i64 (f k).length) ∧ LiS w' O g (updR f k []) N ∧ Tch O w w' := by
  have hb := below_alloc w (k3O k) w.heap.size (Nat.le_refl _)
  obtain ⟨mo, l, c, h⟩ := h
  have h1 := h.later hb
  obtain ⟨q0, qf⟩ := rm_cell h1.obj
  have hbx := heap_alloc_new w (k3O k)
  obtain ⟨x0, x1, x2⟩ := cells_three hbx
  have lk : ∀ n, (Instr.lookup 80 (.map mo) (k3E k) false).run Tryz.prog ((w.alloc (k3O k)).drewN n) = .ok ((atE l k).getD (.slice none 0 0)) ((w.alloc (k3O k)).drewN n) := fun n =>
    Li.look (h1.later (below_drewN (Below.refl (w.alloc (k3O k)).heap.size (w.alloc (k3O k))) n)) k
  have hrow := h1.rowAt k
  generalize (atE l k).getD (.slice none 0 0) = v at lk hrow
  obtain ⟨ao', cp', rfl, _, _⟩ := RowI.slice hrow
  have de : ∃ W' : Nat → World, (∀ n ty, (Builtin.delete_ #[80, 28] ty #[.map mo, k3E k]).run Tryz.prog ((w.alloc (k3O k)).drewN (n + 1)) = .ok (.tuple #[]) (W' n)) ∧ (∀ n, LiS (W' n) O g (updR f k []) N ∧ Tch O w (W' n)) := by
    have hD : ∀ n, Below w.heap.size w ((w.alloc (k3O k)).drewN (n + 1)) := fun n => hb.trans (below_drewN (Below.refl w.heap.size (w.alloc (k3O k))) (n + 1))
    cases mo with
    | none =>
      refine ⟨fun n => ((w.alloc (k3O k)).drewN (n + 1)), fun n ty => del_nil undL k3Keyd k ty _, fun n => ⟨?_, Below.tch (hD n)⟩⟩
      have e : updR f k [] = f := by
        funext b
        unfold updR
        by_cases e : b = k
        · rw [if_pos e, h.non b (by rw [h.nomap rfl]; simp)]
        · rw [if_neg e]
      rw [e]
      exact ⟨_, _, _, h.later (hD n)⟩
    | some r =>
      have key : ∀ n, ∃ W', (∀ ty, (Builtin.delete_ #[80, 28] ty #[.map (some r), k3E k]).run Tryz.prog ((w.alloc (k3O k)).drewN (n + 1)) = .ok (.tuple #[]) W') ∧ LiS W' O g (updR f k []) N ∧ Tch O w W' := fun n => by
        obtain ⟨W', a1, a2, a3⟩ := (h.later (hD n)).cut undL k
        exact ⟨W', a1, a2, (Below.tch (hD n)).trans a3⟩
      exact ⟨fun n => (key n).choose, fun n => (key n).choose_spec.1, fun n => (key n).choose_spec.2⟩
  obtain ⟨W', de, hW⟩ := de
  have HW := hide hW
  clear h h1 hbx hb hrow hW
  unfold k3O k3E at *
  go_enter Tryz.func52, Tryz.ntmps52
  go_wp2
  go_quiet (fail)
  go_wp2
  go_region_with (fail)
  all_goals
    have HNq := hide (HW.out nq)
    clear HW lk x0 x1 x2 q0 qf de
    go_wp2
    go_ret
    exact ⟨rfl, HNq.out.1, HNq.out.2⟩

/-- append that is run already. -/
theorem wpList_ran {w w' : World} {ops : Array Oper} {rest : List Oper} {o : Oper} {a : Act} {Q : Exit → Act → World → Prop} (hgd : o.guard = none) (s x : Operand) (t t' : TypeId)
    (ho : o.op = .call { callee := .builtin .append, args := #[s, x], argTypes := #[t, t'] }) (v v2 v' : Value) (hs : a.eval s = v) (hx : a.eval x = v2)
    (hrun : ∀ ty, (Builtin.append_ #[t, t'] ty #[v, v2]).run Tryz.prog w = .ok v' w') (h : wpList Tryz.prog ops Q rest (a.put o.dst v') w') :
    wpList Tryz.prog ops Q (o :: rest) a w := by
  refine wpList_plain hgd fun K hK => ?_
  unfold Oper.wp execOp
  simp only [ho, resolve, invoke, builtin, Sem.run_bind, Sem.run_pure, Result.andThen_ok, List.map_toArray, List.map_cons, List.map_nil, hs, hx, hrun]
  exact hK _ _ h

/-- append to numbers of one's own, made since B. -/
theorem run_appB (B : Nat) (w : World) (v : Value) (l : List Int) (hown : w.ownsRow B 2 1 v l.length (l.flatMap i64C)) (ao : Option Addr) (m c : Nat) (news : List Int) (hr : Rd w ao m c news) (hsz : l.length + m ≤ 1000000) (hB : B ≤ w.heap.size) :
    ∃ v' w', (∀ ty, (Builtin.append_ #[29, 29] ty #[v, .slice ao m c]).run Tryz.prog w = .ok v' w') ∧ w'.ownsRow B 2 1 v' (l ++ news).length ((l ++ news).flatMap i64C) ∧ w.grownBy w' v.ownBlock := by
  obtain ⟨i0, hi, hz0, hz1, hz2⟩ := info_parts infoI
  cases ao with
  | none =>
    obtain ⟨rfl, rfl⟩ := hr.nil rfl
    have e : news = [] := List.length_eq_zero_iff.1 hr.len
    subst e
    exact ⟨v, w, fun ty => run_append_owned_none (P := Tryz.prog) (w := w) B 29 ty 2 i0 1 Tryz.underlying29 hi v l.length (l.flatMap i64C) hown, by simpa using hown, ⟨rfl, rfl, rfl, Nat.le_refl _, fun _ _ _ => rfl⟩⟩
  | some ad =>
    have key := fun ty => run_append_own_at (P := Tryz.prog) w B 29 ty 2 i0 (.int .i64 0) 1 8 Tryz.underlying29 hi hz0 hz1 hz2 rfl (by decide) v l.length (l.flatMap i64C) hown ad m c (news.map (Value.int .i64)) (by simp [hr.len]) (hr.cells ad rfl) (ints_oneCell .i64 news) (by simp only [maxLen]; omega) (by omega) hB
    obtain ⟨v', w', hrun, h2, h3, _, _⟩ := key 0
    refine ⟨v', w', fun ty => hrun, ?_, h3⟩
    rw [List.flatMap_append, flatI news, List.length_append, hr.len]
    exact h2

theorem row_mono {w : World} {B B' : Nat} {e : TypeId} {sz : Nat} {v : Value} {n : Nat} {xs : List Value} (h : w.ownsRow B e sz v n xs) (hB : B' ≤ B) : w.ownsRow B' e sz v n xs := by
  obtain ⟨h1, h2⟩ := h
  refine ⟨h1, ?_⟩
  rcases h2 with h2 | ⟨g, cap, cur, h3, h4, h5⟩
  · exact Or.inl h2
  · exact Or.inr ⟨g, cap, cur, h3, Nat.le_trans hB h4, h5⟩

/-- A row of numbers made since B. -/
def OwnI (w : World) (B : Nat) (v : Value) (z : List Int) : Prop := w.ownsRow B 2 1 v z.length (z.flatMap i64C)
theorem OwnI.row {w : World} {B : Nat} {v : Value} {z : List Int} (h : OwnI w B v z) : RowI w v z := row_mono h (Nat.zero_le _)
theorem OwnI.lt {w : World} {B : Nat} {v : Value} {z : List Int} (h : OwnI w B v z) : ∀ k, v.ownBlock = some k → B ≤ k ∧ k < w.heap.size := World.ownsRow.lt h

set_option maxRecDepth 100000 in
/-- slices.Clone of numbers. -/
theorem cloneI (ao : Option Addr) (m cp : Nat) (z : List Int) (w : World) (hr : Rd w ao m cp z) (hm : m ≤ 100000) :
    Calls Tryz.prog 39 #[.slice ao m cp] w fun e w' => ∃ v, e = .returned v ∧ OwnI w' w.heap.size v z ∧ Below w.heap.size w w' := by
  have q29 : ∀ (w : World) (a : Option Addr) (n c n' c' : Nat), (binOp .eql 29 (.slice a n c) (.slice none n' c')).run Tryz.prog w = .ok (.bool a.isNone) w := fun w a n c n' c' => Lib.run_eql_slice_nil w _ _ a n c n' c' Tryz.underlying29
  cases ao with
  | none =>
    obtain ⟨rfl, rfl⟩ := hr.nil rfl
    obtain rfl : z = [] := List.length_eq_zero_iff.1 hr.len
    clear hr
    go_enter Tryz.func39, Tryz.ntmps39
    go_wp2
    go_ret
    exact ⟨_, rfl, World.ownsRow_nil _ _ _ _, Below.refl _ _⟩
  | some ad =>
    have hb := below_alloc w (.cells #[] 2) w.heap.size (Nat.le_refl _)
    have hl := World.ownsRow_lit (base := w.heap.size) (e := 2) (size := 1) w #[] 0 (Nat.le_refl _) (by decide) rfl
    obtain ⟨v', W', hrun, h2, h3⟩ := run_appB w.heap.size (w.alloc (.cells #[] 2)) _ [] hl (some ad) m cp z (hr.later hb) (by simp; omega) (by simp)
    simp only [List.nil_append] at h2
    have H2 : Hid (OwnI W' w.heap.size v' z) := h2
    have H3 := hide (hb.grown h3 hb.size (fun k hk => (World.ownsRow.lt hl k hk).1))
    have HR := hide hrun
    clear h2 h3 hl hb hr hrun
    go_enter Tryz.func39, Tryz.ntmps39
    go_wp2_with (at_builtin; refine wpList_ran rfl (.tmp 5) (.tmp 6) _ _ rfl _ _ v' (by rfl) (by rfl) HR.out ?_)
    go_ret
    exact ⟨_, rfl, H2.out, H3.out⟩

set_option maxRecDepth 100000 in
/-- List. -/
theorem listList (O : Nat → Prop) (g N : Nat) (f : K3 → List Int) (k : K3) (w : World) (h : LiS w O g f N) (hf : (f k).length ≤ 100) :
    Calls Tryz.prog 22 #[.pointer (some ⟨g, 0, none⟩), k3E k] w fun e w' => ∃ v, e = .returned v ∧ OwnI w' w.heap.size v (f k) ∧ Below w.heap.size w w' := by
  have hb := below_alloc w (k3O k) w.heap.size (Nat.le_refl _)
  obtain ⟨mo, l, c, h⟩ := h
  have h1 := h.later hb
  obtain ⟨q0, qf⟩ := rm_cell h1.obj
  have hbx := heap_alloc_new w (k3O k)
  obtain ⟨x0, x1, x2⟩ := cells_three hbx
  have hdr := (Below.refl (w.alloc (k3O k)).heap.size (w.alloc (k3O k))).drew
  have lk : (Instr.lookup 80 (.map mo) (k3E k) false).run Tryz.prog (w.alloc (k3O k)).drew = .ok ((atE l k).getD (.slice none 0 0)) (w.alloc (k3O k)).drew := Li.look (h1.later hdr) k
  have hrow := h1.rowAt k
  generalize (atE l k).getD (.slice none 0 0) = v at lk hrow
  obtain ⟨ao', cp', rfl, hrd, _⟩ := RowI.slice hrow
  have hC : Calls Tryz.prog 39 #[.slice ao' (f k).length cp'] (w.alloc (k3O k)).drew fun e w' => ∃ v, e = .returned v ∧ OwnI w' w.heap.size v (f k) ∧ Below w.heap.size w w' := by
    have hD := hdr
    refine (cloneI ao' _ cp' (f k) _ (hrd.later hD) (by omega)).mono ?_
    rintro e w' ⟨v, r1, r2, r3⟩
    have hs := (hb.trans (hD.mono hb.size)).size
    exact ⟨v, r1, row_mono r2 hs, (hb.trans (hD.mono hb.size)).trans (r3.mono hs)⟩
  have HC := hide hC
  clear h h1 hbx hb hrow hC hrd hdr
  unfold k3O k3E at *
  go_enter Tryz.func22, Tryz.ntmps22
  go_wp2
  go_region_with (go_at_call 39; (refine HC.out.mono ?_; rintro e W1 ⟨v, rfl, k1, k2⟩; have HK := hide (And.intro k1 k2); clear k1 k2))
  all_goals
    clear lk HC x0 x1 x2 q0 qf
    go_wp2
    go_ret
    exact ⟨_, rfl, HK.out.1, HK.out.2⟩

set_option maxRecDepth 100000 in
/-- ListKeys. -/
theorem listKeys (O : Nat → Prop) (g N : Nat) (f : K3 → List Int) (w : World) (h : LiS w O g f N) (hN : N ≤ 1000) :
    Calls Tryz.prog 54 #[.pointer (some ⟨g, 0, none⟩)] w fun e w' => ∃ v ks, e = .returned v ∧ (∀ k, k ∈ ks ↔ f k ≠ []) ∧ RiseK ks ∧ OwnK w' w.heap.size v ks ∧ Below w.heap.size w w' := by
  obtain ⟨mo, l, c, h⟩ := h
  obtain ⟨q0, _⟩ := rm_cell h.obj
  have HAT := hide h.mem
  cases mo with
  | some r =>
    have HS := hide (sortedL r l c w (h.made r rfl).2.2 (by have := h.len; omega))
    clear h
    go_enter Tryz.func54, Tryz.ntmps54
    go_wp2_with fail
    refine HS.out.mono ?_
    rintro e w1 ⟨v, ks, rfl, k1, k2, k3, k4⟩
    have H1 : Hid (∀ k, k ∈ ks ↔ f k ≠ []) := fun k => k1.mem_iff.trans (HAT.out k)
    have H2 := hide k2
    have H3 := hide k3
    have H4 := hide k4
    clear k1 k2 k3 k4 HS
    go_wp2
    go_ret
    exact ⟨v, ks, rfl, H1.out, H2.out, H3.out, H4.out⟩
  | none =>
    have hl := h.nomap rfl
    subst hl
    clear h
    go_enter Tryz.func54, Tryz.ntmps54
    go_wp2_with fail
    refine (sortedNilL w).mono ?_
    rintro e w1 ⟨v, rfl, k3, k4⟩
    have H3 := hide k3
    have H4 := hide k4
    clear k3 k4
    go_wp2
    go_ret
    exact ⟨v, [], rfl, fun k => by have := HAT.out k; simpa using this, List.Pairwise.nil, H3.out, H4.out⟩
end Go.Proofs.YtdogecaonlmalaaGreat
