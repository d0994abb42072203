/- The library's Insert of one field among others. The library's Insert of one field among others, where there is no room; the library's Delete of one field. The library's Delete of one field. A field put among whatever fields. PutField at whatever key. CutField, Field at whatever key. Fields as functions of their numbers. Dictionaries as a law holds them. -/
import Derived.Test.YtdogecaonlmalaaGreatDct1
import Derived.Deep.RegionLaw
import Derived.Shelf.RegionOpenPlain
namespace Go.Proofs.YtdogecaonlmalaaGreat
open Go.RowKit Go.MapKept Go.ChangeMaps

/-- Fields from the i-th on. -/
theorem run_fromF (g n cap i : Nat) (hi : i ≤ n) : ∃ x, (i < cap → x = some ⟨g, i * 2, none⟩) ∧
    ∀ W : World, (Instr.slice 39 (.slice (some ⟨g, 0, none⟩) n cap) (some (.int .i64 (i : Int))) none none).run Tryz.prog W = .ok (.slice x (n - i) (cap - i)) W := by
  have e2 : ∀ W, (Instr.sliceBound (.int .i64 (i : Int)) n .sliceB).run Tryz.prog W = .ok i W := fun W => by
    have := run_sliceBound (P := Tryz.prog) W .i64 (i : Int) n .sliceB (by omega) (by omega)
    simpa using this
  obtain ⟨i0, hi0, _, hz1, _⟩ := info_parts infoF
  have hz1' : i0.size = 2 := hz1
  by_cases hic : cap = i
  · subst hic
    refine ⟨some ⟨g, 0, none⟩, fun h => absurd h (Nat.lt_irrefl _), fun W => ?_⟩
    simp [Instr.slice, Instr.sliceBounds, run_underlying Tryz.underlying39, e2, sizeOf, typeInfo, hi0, hz1']
  · refine ⟨some ⟨g, i * 2, none⟩, fun _ => rfl, fun W => ?_⟩
    simp [Instr.slice, Instr.sliceBounds, run_underlying Tryz.underlying39, e2, sizeOf, typeInfo, hi0, hz1', hic, Addr.add]
    omega
theorem run_uptoF (g n cap j : Nat) (hj : j ≤ cap) (W : World) :
    (Instr.slice 39 (.slice (some ⟨g, 0, none⟩) n cap) none (some (.int .i64 (j : Int))) none).run Tryz.prog W = .ok (.slice (some ⟨g, 0, none⟩) j cap) W := by
  have e1 : (Instr.sliceBound (.int .i64 (j : Int)) cap .sliceAcap).run Tryz.prog W = .ok j W := by
    have := run_sliceBound (P := Tryz.prog) W .i64 (j : Int) cap .sliceAcap (by omega) (by omega)
    simpa using this
  simp [Instr.slice, Instr.sliceBounds, run_underlying Tryz.underlying39, e1, Addr.add]

/-- A field laid among others, in place: those behind it one further on, then the field. -/
theorem row_insert {w : World} {g cap i : Nat} {z : List (Int × Int)} {a : Int × Int} (h : RowF w (.slice (some ⟨g, 0, none⟩) z.length cap) z) (hi : i ≤ z.length) (hr : z.length + 1 ≤ cap) :
    RowF ((w.setCells g ((i + 1) * 2) ((z.drop i).flatMap fdC)).setCells g (i * 2) (fdC a)) (.slice (some ⟨g, 0, none⟩) (z.take i ++ a :: z.drop i).length cap) (z.take i ++ a :: z.drop i) := by
  have hcell := World.ownsRow.cells h (g := g) rfl
  obtain ⟨hl, ⟨e, _⟩ | ⟨g', cap', cur, e, hB, hh, hn, hm, hs, ht⟩⟩ := h
  · cases e
  · cases e
    have hsome : ∀ j, j < cap * 2 → (w.cell? ⟨g, j, none⟩).isSome = true := fun j hj => by simp [World.cell?, hh, hs, hj]
    have hld : ((z.drop i).flatMap fdC).length = (z.length - i) * 2 := by rw [flatF_len, List.length_drop]
    obtain ⟨c1, k1, s1⟩ := setCells_block ((z.drop i).flatMap fdC) ((i + 1) * 2) w cur hh
    obtain ⟨c2, k2, s2⟩ := setCells_block (fdC a) (i * 2) _ c1 k1
    have hlen : (z.take i ++ a :: z.drop i).length = z.length + 1 := by simp; omega
    have hsome1 : ∀ j, j < cap * 2 → ((w.setCells g ((i + 1) * 2) ((z.drop i).flatMap fdC)).cell? ⟨g, j, none⟩).isSome = true := fun j hj => by simp [World.cell?, k1, s1, hs, hj]
    refine row_of_cells (Nat.zero_le _) k2 (by rw [s2, s1, hs]) (by rw [hlen]; exact hr) hm (by rw [flatF_len]) ?_
    intro j u hj
    have hx : (z.take i ++ a :: z.drop i).flatMap fdC = (z.take i).flatMap fdC ++ (fdC a ++ (z.drop i).flatMap fdC) := by rw [List.flatMap_append, List.flatMap_cons]
    have hlt : ((z.take i).flatMap fdC).length = i * 2 := by rw [flatF_len, List.length_take, Nat.min_eq_left hi]
    rw [hx] at hj
    by_cases h1 : j < i * 2
    · rw [List.getElem?_append_left (by omega)] at hj
      rw [World.cell?_setCells_out g _ _ _ _ (fun _ _ => Or.inl h1), World.cell?_setCells_out g _ _ _ _ (fun _ _ => Or.inl (by show j < (i + 1) * 2; omega))]
      have e2 : (z.flatMap fdC)[j]? = some u := by
        have hz : z.flatMap fdC = (z.take i).flatMap fdC ++ (z.drop i).flatMap fdC := by rw [← List.flatMap_append, List.take_append_drop]
        rw [hz, List.getElem?_append_left (by omega)]
        exact hj
      have := hcell j u e2
      rwa [add_none, Nat.zero_add] at this
    · rw [List.getElem?_append_right (by omega), hlt] at hj
      by_cases h2 : j - i * 2 < 2
      · rw [List.getElem?_append_left (by simp [fdC]; omega)] at hj
        obtain ⟨hj1, rfl⟩ := List.getElem?_eq_some_iff.1 hj
        have := World.cell?_setCells_in g (fdC a) (i * 2) (w.setCells g ((i + 1) * 2) ((z.drop i).flatMap fdC)) (fun t ht => hsome1 _ (by simp [fdC] at ht; omega)) (j - i * 2) hj1
        rw [show i * 2 + (j - i * 2) = j by omega] at this
        exact this
      · rw [List.getElem?_append_right (by simp [fdC]; omega)] at hj
        have e3 : j - i * 2 - (fdC a).length = j - i * 2 - 2 := rfl
        rw [e3] at hj
        obtain ⟨hj1, rfl⟩ := List.getElem?_eq_some_iff.1 hj
        rw [World.cell?_setCells_out g _ _ _ _ (fun _ _ => Or.inr (by show i * 2 + (fdC a).length ≤ j; simp [fdC]; omega))]
        have := World.cell?_setCells_in g ((z.drop i).flatMap fdC) ((i + 1) * 2) w (fun t ht => hsome _ (by rw [hld] at ht; omega)) (j - i * 2 - 2) hj1
        rw [show (i + 1) * 2 + (j - i * 2 - 2) = j by omega] at this
        exact this

/-- What an Insert of one field does. -/
def InsOK (w w' : World) (e : Ending) (v : Value) (z' : List (Int × Int)) : Prop := ∃ v', e = .returned v' ∧ RowF w' v' z' ∧ w.grownBy w' v.ownBlock ∧ (v'.ownBlock = v.ownBlock ∨ ∃ j, v'.ownBlock = some j ∧ w.heap.size ≤ j)

set_option maxRecDepth 100000 in
/-- At the end of some fields. -/
theorem insertEnd (g cap : Nat) (z : List (Int × Int)) (a : Int × Int) (q : Nat) (w : World) (h : RowF w (.slice (some ⟨g, 0, none⟩) z.length cap) z) (hq : w.heap[q]? = some (fdO a)) (hz : z.length ≤ 1000) :
    Calls Tryz.prog 43 #[.slice (some ⟨g, 0, none⟩) z.length cap, .int .i64 (z.length : Int), .slice (some ⟨q, 0, none⟩) 1 1] w fun e w' => InsOK w w' e (.slice (some ⟨g, 0, none⟩) z.length cap) (z ++ [a]) := by
  obtain ⟨x, _, hx⟩ := run_fromF g z.length cap z.length (Nat.le_refl _)
  obtain ⟨v', W', hrun, h2, h3, h4⟩ := run_appF 0 w (.slice (some ⟨g, 0, none⟩) z.length cap) z h ⟨q, 0, none⟩ 1 1 [a] rfl (fdO_cells hq) (by omega) (Nat.zero_le _)
  have HE : Hid (InsOK w W' (.returned v') (.slice (some ⟨g, 0, none⟩) z.length cap) (z ++ [a])) :=
    ⟨v', rfl, h2, h3, h4.imp id (fun e => ⟨_, e, Nat.le_refl _⟩)⟩
  have HR := hide hrun
  clear h2 h3 h4 hrun hq h
  go_enter Tryz.func43, Tryz.ntmps43
  go_wp2_with (at_builtin; refine wpList_ran rfl (.tmp 23) (.tmp 24) _ _ rfl _ _ v' (by rfl) (by rfl) HR.out ?_)
  go_ret
  exact HE.out

/-- copy that is run already, in a region that draws; and in one that does not. -/
theorem step_cp {w w' : World} {ops : Array Oper} {o : Oper} {a : Act} {K : Act → World → Prop} {Q : Exit → Act → World → Prop} {E : Prop} (hgd : o.guard = none) (s x : Operand) (t t' : TypeId)
    (ho : o.op = .call { callee := .builtin .copy, args := #[s, x], argTypes := #[t, t'] }) (v v2 v' : Value) (hs : a.eval s = v) (hx : a.eval x = v2)
    (hrun : ∀ ty, (Builtin.copy_ #[t, t'] ty #[v, v2]).run Tryz.prog w = .ok v' w') (h : K (a.put o.dst v') w') :
    if Region.wanted o (yielded ops a.tmps) = true then Oper.wp Tryz.prog o a w K Q else E := by
  have hw : Region.wanted o (yielded ops a.tmps) = true := by simp [Region.wanted, hgd]
  rw [if_pos hw]
  unfold Oper.wp execOp
  simp only [ho, resolve, invoke, builtin, Sem.run_bind, Sem.run_pure, Result.andThen_ok, List.map_toArray, List.map_cons, List.map_nil, hs, hx, hrun]
  exact h
theorem wpList_cp {w w' : World} {ops : Array Oper} {rest : List Oper} {o : Oper} {a : Act} {Q : Exit → Act → World → Prop} (hgd : o.guard = none) (s x : Operand) (t t' : TypeId)
    (ho : o.op = .call { callee := .builtin .copy, args := #[s, x], argTypes := #[t, t'] }) (v v2 v' : Value) (hs : a.eval s = v) (hx : a.eval x = v2)
    (hrun : ∀ ty, (Builtin.copy_ #[t, t'] ty #[v, v2]).run Tryz.prog w = .ok v' w') (h : wpList Tryz.prog ops Q rest (a.put o.dst v') w') :
    wpList Tryz.prog ops Q (o :: rest) a w := by
  refine wpList_plain hgd fun K hK => ?_
  unfold Oper.wp execOp
  simp only [ho, resolve, invoke, builtin, Sem.run_bind, Sem.run_pure, Result.andThen_ok, List.map_toArray, List.map_cons, List.map_nil, hs, hx, hrun]
  exact hK _ _ h

theorem drew_cells (b : Nat) : ∀ (vs : List Value) (o : Nat) (w : World), w.drew.setCells b o vs = (w.setCells b o vs).drew := by
  intro vs
  induction vs with
  | nil => intro o w; rfl
  | cons v vs ih => intro o w; rw [World.setCells, World.setCells, ← ih]; rfl

set_option maxRecDepth 100000 in
set_option maxHeartbeats 2000000 in
/-- Among some fields, where there is room. -/
theorem insertRoom (g cap i : Nat) (z : List (Int × Int)) (a : Int × Int) (q : Nat) (w : World) (h : RowF w (.slice (some ⟨g, 0, none⟩) z.length cap) z) (hq : w.heap[q]? = some (fdO a)) (hqg : q ≠ g) (hi : i < z.length) (hz : z.length ≤ 1000) (hr : z.length + 1 ≤ cap) :
    Calls Tryz.prog 43 #[.slice (some ⟨g, 0, none⟩) z.length cap, .int .i64 (i : Int), .slice (some ⟨q, 0, none⟩) 1 1] w fun e w' => InsOK w w' e (.slice (some ⟨g, 0, none⟩) z.length cap) (z.take i ++ a :: z.drop i) := by
  have hins := row_insert (a := a) h (Nat.le_of_lt hi) hr
  have hcell := World.ownsRow.cells h (g := g) rfl
  obtain ⟨hl, ⟨e, _⟩ | ⟨g', cap', cur, e, hB, hh, hn, hm, hs, ht⟩⟩ := h
  · cases e
  · cases e
    obtain ⟨x0, _, r0⟩ := run_fromF g z.length cap i (Nat.le_of_lt hi)
    have r1 := fun W => run_uptoF g z.length cap (z.length + 1) hr W
    obtain ⟨x2, e2, r2⟩ := run_fromF g (z.length + 1) cap (i + 1) (by omega)
    obtain ⟨x3, e3, r3⟩ := run_fromF g (z.length + 1) cap i (by omega)
    have e2' := e2 (by omega)
    have e3' := e3 (by omega)
    subst e2'
    subst e3'
    clear e2 e3
    have r1' : ∀ W : World, (Instr.slice 39 (.slice (some ⟨g, 0, none⟩) z.length cap) none (some (.int .i64 ((z.length : Int) + 1))) none).run Tryz.prog W = .ok (.slice (some ⟨g, 0, none⟩) (z.length + 1) cap) W := fun W => by simpa using r1 W
    have r2' : ∀ W : World, (Instr.slice 39 (.slice (some ⟨g, 0, none⟩) (z.length + 1) cap) (some (.int .i64 ((i : Int) + 1))) none none).run Tryz.prog W = .ok (.slice (some ⟨g, (i + 1) * 2, none⟩) (z.length - i) (cap - (i + 1))) W := fun W => by
      have := r2 W
      rw [show z.length + 1 - (i + 1) = z.length - i by omega] at this
      simpa using this
    have mixed : Tryz.prog.follows Departure.mixedOrders = true := by kernel_rfl
    clear r1 r2
    have hsq : w.shape? q = some (43, 2) := by simp [World.shape?, hq, fdO]
    have hsg : w.shape? g = some (43, cap * 2) := by simp [World.shape?, hh, hs]
    have hfq : ∀ j, w.frozen? ⟨q, j, none⟩ = false := fun j => by simp [World.frozen?, hq, fdO]
    have hfg : ∀ j, w.frozen? ⟨g, j, none⟩ = false := fun j => by simp [World.frozen?, hh]
    have hov : ∀ lb cb, (callFunc 73 #[.slice (some ⟨q, 0, none⟩) 1 1, .slice (some ⟨g, (i + 1) * 2, none⟩) lb cb]).run Tryz.prog w = .ok (.value (.bool false)) w := fun lb cb => by
      rw [run_callFunc_extern Tryz.func73 (by kernel_rfl) (by kernel_rfl) (by kernel_rfl) (e := Extern.SlicesOverlaps.overlaps #[39, 39] #[4]) (by kernel_rfl),
        Lib.run_overlaps_apart w 39 4 43 Tryz.underlying39 2 Tryz.sizeOf43 ⟨q, 0, none⟩ ⟨g, (i + 1) * 2, none⟩ 1 1 lb cb hqg _ _ _ _ hsq hsg (by omega) (hfq 0) (hfq 2)]
      rfl
    have hld : ((z.drop i).flatMap fdC).length = (z.length - i) * 2 := by rw [flatF_len, List.length_drop]
    have hsome : ∀ j, j < cap * 2 → (w.cell? ⟨g, j, none⟩).isSome = true := fun j hj => by simp [World.cell?, hh, hs, hj]
    have hzz : z.flatMap fdC = (z.take i).flatMap fdC ++ (z.drop i).flatMap fdC := by rw [← List.flatMap_append, List.take_append_drop]
    have hlt : ((z.take i).flatMap fdC).length = i * 2 := by rw [flatF_len, List.length_take, Nat.min_eq_left (by omega)]
    have hcp1 : ∀ ty, (Builtin.copy_ #[39, 39] ty #[.slice (some ⟨g, (i + 1) * 2, none⟩) (z.length - i) (cap - (i + 1)), .slice (some ⟨g, i * 2, none⟩) (z.length + 1 - i) (cap - i)]).run Tryz.prog w.drew = .ok (goInt (Nat.min (z.length + 1 - i) (z.length - i))) (w.drew.setCells g ((i + 1) * 2) ((z.drop i).flatMap fdC)) := fun ty =>
      run_copyF w.drew ty g ((i + 1) * 2) (z.length - i) (cap - (i + 1)) ⟨g, i * 2, none⟩ (z.length + 1 - i) (cap - i) ((z.drop i).flatMap fdC) (by rw [hld]; show _ = min (z.length + 1 - i) (z.length - i) * 2; omega)
        (fun j v hj => by
          rw [add_none]
          have hj2 : j < ((z.drop i).flatMap fdC).length := (List.getElem?_eq_some_iff.1 hj).1
          have := hcell (i * 2 + j) v (by rw [hzz, List.getElem?_append_right (by omega), hlt, show i * 2 + j - i * 2 = j by omega]; exact hj)
          rwa [add_none, Nat.zero_add] at this)
        (fun j hj => by rw [hld] at hj; exact hsome _ (by omega)) (fun j _ => hfg _) (fdC_one _)
    obtain ⟨c1, k1, s1⟩ := setCells_block ((z.drop i).flatMap fdC) ((i + 1) * 2) w cur hh
    have hgr1 := setCells_grown g ((z.drop i).flatMap fdC) ((i + 1) * 2) w
    have hq1 : (w.setCells g ((i + 1) * 2) ((z.drop i).flatMap fdC)).heap[q]? = some (fdO a) := (hgr1.block q (lt_of_heap hq) (fun e => hqg (Option.some.inj e))).trans hq
    have hgr2 := setCells_grown g (fdC a) (i * 2) (w.setCells g ((i + 1) * 2) ((z.drop i).flatMap fdC))
    rw [drew_cells] at hcp1
    generalize w.setCells g ((i + 1) * 2) ((z.drop i).flatMap fdC) = W1 at *
    have hcp2 : ∀ ty, (Builtin.copy_ #[39, 39] ty #[.slice (some ⟨g, i * 2, none⟩) (z.length + 1 - i) (cap - i), .slice (some ⟨q, 0, none⟩) 1 1]).run Tryz.prog W1.drew = .ok (goInt (Nat.min 1 (z.length + 1 - i))) (W1.drew.setCells g (i * 2) (fdC a)) := fun ty =>
      run_copyF W1.drew ty g (i * 2) (z.length + 1 - i) (cap - i) ⟨q, 0, none⟩ 1 1 (fdC a) (by show 2 = min 1 (z.length + 1 - i) * 2; omega)
        (fun j v hj => fdO_cells (w := W1.drew) hq1 j v (by simpa using hj))
        (fun j hj => by simp [fdC] at hj; show (W1.cell? _).isSome = true; simp [World.cell?, k1, s1, hs]; omega) (fun j _ => by show W1.frozen? _ = false; simp [World.frozen?, k1]) (fun u hu => by simp [fdC] at hu; rcases hu with rfl | rfl <;> rfl)
    have hgw : w.grownBy W1 (some g) := hgr1
    rw [drew_cells] at hcp2
    generalize W1.setCells g (i * 2) (fdC a) = W2 at *
    have HE : Hid (InsOK w W2.drew (.returned (.slice (some ⟨g, 0, none⟩) (z.length + 1) cap)) (.slice (some ⟨g, 0, none⟩) z.length cap) (z.take i ++ a :: z.drop i)) := by
      have hlen : (z.take i ++ a :: z.drop i).length = z.length + 1 := by simp; omega
      have h2 : w.grownBy W2 (some g) := ⟨hgr2.os.trans hgw.os, hgr2.tape.trans hgw.tape, hgr2.output.trans hgw.output, Nat.le_trans hgw.size hgr2.size, fun k hk hne => (hgr2.block k (Nat.lt_of_lt_of_le hk hgw.size) hne).trans (hgw.block k hk hne)⟩
      refine ⟨_, rfl, ?_, ?_, Or.inl rfl⟩
      · have : RowF W2.drew _ (z.take i ++ a :: z.drop i) := RowO.later hins (Below.refl _ _).drew
        rwa [hlen] at this
      · have hd := (Below.refl W2.heap.size W2).drew
        exact ⟨hd.os.trans h2.os, hd.tape.trans h2.tape, hd.output.trans h2.output, Nat.le_trans h2.size hd.size, fun k hk hne => (hd.block k (Nat.lt_of_lt_of_le hk h2.size)).trans (h2.block k hk hne)⟩
    have hne : ¬ ((i : Int) = (z.length : Int)) := by omega
    have hw1 : IntKind.i64.wrap ((i : Int) + 1) = (i : Int) + 1 := by rw [IntKind.wrap_i64]; omega
    have hcl : ¬ ((cap : Int) < (z.length : Int) + 1) := by omega
    have HC1 := hide hcp1
    have HC2 := hide hcp2
    clear hcp1 hcp2 hins hcell hl hh hm hs ht hsq hsg hfq hfg hld hsome hzz hlt k1 s1 hgr1 hq1 hgr2 hgw hB hq
    go_enter Tryz.func43, Tryz.ntmps43
    go_wp2_with (simp only [hov])
    go_region_law_o (refine step_cp rfl _ _ 39 39 rfl _ _ _ (by simp [Act.eval, Act.put]) (by simp [Act.eval, Act.put]) HC1.out ?_)
    have hc2 := HC2.out
    go_wp2
    go_ret
    exact HE.out
end Go.Proofs.YtdogecaonlmalaaGreat

namespace Go.Proofs.YtdogecaonlmalaaGreat
open Go.RowKit Go.MapKept Go.ChangeMaps

/-- Some fields laid anew, one more among them. -/
theorem row_grown {w : World} {g G i : Nat} {z : List (Int × Int)} {a : Int × Int} {cur : Array Value} (hh : w.heap[g]? = some (.cells cur 43 (0, 0))) (hs : cur.size = G * 2) (hG : z.length + 1 ≤ G) (hm : G ≤ maxLen) (hi : i ≤ z.length)
    (hc : ∀ j u, ((z.take i).flatMap fdC)[j]? = some u → w.cell? ⟨g, j, none⟩ = some u) :
    RowF ((w.setCells g (i * 2) (fdC a)).setCells g ((i + 1) * 2) ((z.drop i).flatMap fdC)) (.slice (some ⟨g, 0, none⟩) (z.take i ++ a :: z.drop i).length G) (z.take i ++ a :: z.drop i) := by
  have hsome : ∀ j, j < G * 2 → (w.cell? ⟨g, j, none⟩).isSome = true := fun j hj => by simp [World.cell?, hh, hs, hj]
  have hld : ((z.drop i).flatMap fdC).length = (z.length - i) * 2 := by rw [flatF_len, List.length_drop]
  obtain ⟨c1, k1, s1⟩ := setCells_block (fdC a) (i * 2) w cur hh
  obtain ⟨c2, k2, s2⟩ := setCells_block ((z.drop i).flatMap fdC) ((i + 1) * 2) _ c1 k1
  have hlen : (z.take i ++ a :: z.drop i).length = z.length + 1 := by simp; omega
  have hsome1 : ∀ j, j < G * 2 → ((w.setCells g (i * 2) (fdC a)).cell? ⟨g, j, none⟩).isSome = true := fun j hj => by simp [World.cell?, k1, s1, hs, hj]
  refine row_of_cells (Nat.zero_le _) k2 (by rw [s2, s1, hs]) (by rw [hlen]; exact hG) hm (by rw [flatF_len]) ?_
  intro j u hj
  have hx : (z.take i ++ a :: z.drop i).flatMap fdC = (z.take i).flatMap fdC ++ (fdC a ++ (z.drop i).flatMap fdC) := by rw [List.flatMap_append, List.flatMap_cons]
  have hlt : ((z.take i).flatMap fdC).length = i * 2 := by rw [flatF_len, List.length_take, Nat.min_eq_left hi]
  rw [hx] at hj
  by_cases h1 : j < i * 2
  · rw [List.getElem?_append_left (by omega)] at hj
    rw [World.cell?_setCells_out g _ _ _ _ (fun _ _ => Or.inl (by show j < (i + 1) * 2; omega)), World.cell?_setCells_out g _ _ _ _ (fun _ _ => Or.inl h1)]
    exact hc j u hj
  · rw [List.getElem?_append_right (by omega), hlt] at hj
    by_cases h2 : j - i * 2 < 2
    · rw [List.getElem?_append_left (by simp [fdC]; omega)] at hj
      obtain ⟨hj1, rfl⟩ := List.getElem?_eq_some_iff.1 hj
      rw [World.cell?_setCells_out g _ _ _ _ (fun _ _ => Or.inl (by show j < (i + 1) * 2; omega))]
      have := World.cell?_setCells_in g (fdC a) (i * 2) w (fun t ht => hsome _ (by simp [fdC] at ht; omega)) (j - i * 2) hj1
      rw [show i * 2 + (j - i * 2) = j by omega] at this
      exact this
    · rw [List.getElem?_append_right (by simp [fdC]; omega)] at hj
      have e3 : j - i * 2 - (fdC a).length = j - i * 2 - 2 := rfl
      rw [e3] at hj
      obtain ⟨hj1, rfl⟩ := List.getElem?_eq_some_iff.1 hj
      have := World.cell?_setCells_in g ((z.drop i).flatMap fdC) ((i + 1) * 2) (w.setCells g (i * 2) (fdC a)) (fun t ht => hsome1 _ (by rw [hld] at ht; omega)) (j - i * 2 - 2) hj1
      rw [show (i + 1) * 2 + (j - i * 2 - 2) = j by omega] at this
      exact this

/-- What lies in the row that grows. -/
theorem grow_world (g cap i : Nat) (z : List (Int × Int)) (a : Int × Int) (q : Nat) (w : World) (h : RowF w (.slice (some ⟨g, 0, none⟩) z.length cap) z) (hq : w.heap[q]? = some (fdO a)) (hi : i < z.length) (hz : z.length ≤ 1000) (hr : cap < z.length + 1) :
    ∃ G W1 W2 W3, z.length + 1 ≤ G ∧ G ≤ 9223372036854775807 ∧ cap = z.length ∧
      (∀ ty, (Builtin.append_ #[39, 3] ty #[.slice (some ⟨g, 0, none⟩) i cap, .int .i64 ((z.length : Int) + 1 - i)]).run Tryz.prog w = .ok (.slice (some ⟨w.heap.size, 0, none⟩) (z.length + 1) G) W1) ∧
      (∀ ty, (Builtin.copy_ #[39, 39] ty #[.slice (some ⟨w.heap.size, i * 2, none⟩) (z.length + 1 - i) (G - i), .slice (some ⟨q, 0, none⟩) 1 1]).run Tryz.prog W1 = .ok (goInt (Nat.min 1 (z.length + 1 - i))) W2) ∧
      (∀ ty, (Builtin.copy_ #[39, 39] ty #[.slice (some ⟨w.heap.size, (i + 1) * 2, none⟩) (z.length - i) (G - (i + 1)), .slice (some ⟨g, i * 2, none⟩) (z.length - i) (cap - i)]).run Tryz.prog W2.drew = .ok (goInt (Nat.min (z.length - i) (z.length - i))) W3) ∧
      InsOK w W3 (.returned (.slice (some ⟨w.heap.size, 0, none⟩) (z.length + 1) G)) (.slice (some ⟨g, 0, none⟩) z.length cap) (z.take i ++ a :: z.drop i) := by
  have hcell := World.ownsRow.cells h (g := g) rfl
  have hgw := (World.ownsRow.lt h g rfl).2
  have hcap : cap = z.length := by
    rcases RowF.slice h with ⟨e, _⟩ | ⟨g', cp', e, h1, _⟩
    · cases e
    · simp at e; omega
  obtain ⟨i0, hi0, hz0, hz1, hzb⟩ := info_parts infoF
  have hzs : i0.size = 2 := hz1
  have hzb' : i0.bytes = 16 := hzb
  have hzz : z.flatMap fdC = (z.take i).flatMap fdC ++ (z.drop i).flatMap fdC := by rw [← List.flatMap_append, List.take_append_drop]
  have hlt : ((z.take i).flatMap fdC).length = i * 2 := by rw [flatF_len, List.length_take, Nat.min_eq_left (by omega)]
  have hld : ((z.drop i).flatMap fdC).length = (z.length - i) * 2 := by rw [flatF_len, List.length_drop]
  have hik : i + (z.length + 1 - i) = z.length + 1 := by omega
  have hold : (Builtin.firstCells i0.size i (.slice (some ⟨g, 0, none⟩) i cap)).run Tryz.prog w.drew = .ok ((z.take i).flatMap fdC).toArray w.drew := by
    rw [hzs]
    exact run_firstCells_some w.drew 2 i ⟨g, 0, none⟩ i cap ((z.take i).flatMap fdC) hlt (fun j v hj => hcell j v (by
      have := (List.getElem?_eq_some_iff.1 hj).1
      rw [hzz, List.getElem?_append_left this]; exact hj))
  have happ := fun ty => Lib.run_append_grow_zeros (P := Tryz.prog) w 39 3 ty 43 i0 _ .i64 .i64 Tryz.underlying39 Tryz.underlying3 hi0 hz0 (some ⟨g, 0, none⟩) i cap ((z.take i).flatMap fdC) hold (z.length + 1 - i) (by omega) (by omega) (by omega) (by omega) (by rw [hzb']; omega) (by rw [hzb', hik]; exact growslice_fits hr (by omega))
  rw [hik] at happ
  obtain ⟨G, hG⟩ : ∃ G, G = grownCap w (z.length + 1) cap 43 := ⟨_, rfl⟩
  rw [← hG] at happ
  have hGn : z.length + 1 ≤ G := by rw [hG]; exact grownCap_ge w _ _ _
  have hGm : G ≤ maxLen := by rw [hG]; exact grownCap_le_maxLen w _ _ _ (by unfold maxLen; omega)
  obtain ⟨ROW, hROW⟩ : ∃ ROW : Array Value, ROW = ((z.take i).flatMap fdC).toArray ++ Builtin.zeroCells (Value.agg #[.int .i64 0, .int .i64 0]).cells (z.length + 1 - i) ++ Builtin.zeroCells (Value.agg #[.int .i64 0, .int .i64 0]).cells (G - (z.length + 1)) := ⟨_, rfl⟩
  rw [← hROW] at happ
  have hRs : ROW.size = G * 2 := by
    rw [hROW]
    simp [size_zeroCells, Value.cells]
    have := flatF_len (z.take i)
    rw [List.length_take, Nat.min_eq_left (by omega)] at this
    simp at this
    omega
  have hR1 : ∀ j u, ((z.take i).flatMap fdC)[j]? = some u → ROW[j]? = some u := fun j u hj => by
    have := (List.getElem?_eq_some_iff.1 hj).1
    rw [hROW, Array.append_assoc, Array.getElem?_append_left (by simpa using this)]
    simpa using hj
  obtain ⟨W1, hW1⟩ : ∃ W1, W1 = w.drew.alloc (.cells ROW 43) := ⟨_, rfl⟩
  rw [← hW1] at happ
  have hk : (((z.length + 1 - i : Nat)) : Int) = (z.length : Int) + 1 - i := by omega
  rw [hk] at happ
  have hh1 : W1.heap[w.heap.size]? = some (.cells ROW 43 (0, 0)) := by rw [hW1]; exact heap_alloc_new w.drew _
  have hs1 : ∀ j, j < G * 2 → (W1.cell? ⟨w.heap.size, j, none⟩).isSome = true := fun j hj => by simp [World.cell?, hh1, hRs, hj]
  have hg1 : w.grownBy W1 none := by
    have hb := below_alloc w.drew (.cells ROW 43) w.heap.size (Nat.le_refl _)
    rw [hW1]
    exact ⟨hb.os, hb.tape, hb.output, hb.size, fun k hk _ => hb.block k hk⟩
  have hcp1 : ∀ ty, (Builtin.copy_ #[39, 39] ty #[.slice (some ⟨w.heap.size, i * 2, none⟩) (z.length + 1 - i) (G - i), .slice (some ⟨q, 0, none⟩) 1 1]).run Tryz.prog W1 = .ok (goInt (Nat.min 1 (z.length + 1 - i))) (W1.setCells w.heap.size (i * 2) (fdC a)) := fun ty =>
    run_copyF W1 ty w.heap.size (i * 2) (z.length + 1 - i) (G - i) ⟨q, 0, none⟩ 1 1 (fdC a) (by show 2 = min 1 (z.length + 1 - i) * 2; omega)
      (fun j v hj => fdO_cells (w := W1) ((hg1.block q (lt_of_heap hq) (by simp)).trans hq) j v (by simpa using hj))
      (fun j hj => by simp [fdC] at hj; exact hs1 _ (by omega)) (fun j _ => by simp [World.frozen?, hh1]) (fun u hu => by simp [fdC] at hu; rcases hu with rfl | rfl <;> rfl)
  obtain ⟨c1, k1, s1⟩ := setCells_block (fdC a) (i * 2) W1 ROW hh1
  have hg2 := setCells_grown w.heap.size (fdC a) (i * 2) W1
  obtain ⟨W2, hW2⟩ : ∃ W2, W2 = W1.setCells w.heap.size (i * 2) (fdC a) := ⟨_, rfl⟩
  rw [← hW2] at hcp1 k1 hg2
  have hgo : W2.heap[g]? = w.heap[g]? := (hg2.block g (Nat.lt_of_lt_of_le hgw hg1.size) (fun e => by simp at e; omega)).trans (hg1.block g hgw (by simp))
  have hcp2 : ∀ ty, (Builtin.copy_ #[39, 39] ty #[.slice (some ⟨w.heap.size, (i + 1) * 2, none⟩) (z.length - i) (G - (i + 1)), .slice (some ⟨g, i * 2, none⟩) (z.length - i) (cap - i)]).run Tryz.prog W2.drew = .ok (goInt (Nat.min (z.length - i) (z.length - i))) (W2.drew.setCells w.heap.size ((i + 1) * 2) ((z.drop i).flatMap fdC)) := fun ty =>
    run_copyF W2.drew ty w.heap.size ((i + 1) * 2) (z.length - i) (G - (i + 1)) ⟨g, i * 2, none⟩ (z.length - i) (cap - i) ((z.drop i).flatMap fdC) (by rw [hld]; show _ = min (z.length - i) (z.length - i) * 2; omega)
      (fun j v hj => by
        rw [add_none]
        have := hcell (i * 2 + j) v (by rw [hzz, List.getElem?_append_right (by omega), hlt, show i * 2 + j - i * 2 = j by omega]; exact hj)
        rw [add_none, Nat.zero_add] at this
        show W2.cell? _ = _
        rw [World.cell?_of_block (w := w) (by exact hgo)]; exact this)
      (fun j hj => by rw [hld] at hj; show (W2.cell? _).isSome = true; simp [World.cell?, k1, s1, hRs]; omega) (fun j _ => by show W2.frozen? _ = false; simp [World.frozen?, k1]) (fdC_one _)
  refine ⟨G, W1, W2, W2.drew.setCells w.heap.size ((i + 1) * 2) ((z.drop i).flatMap fdC), hGn, by unfold maxLen at hGm; omega, hcap, happ, hcp1, hcp2, _, rfl, ?_, ?_, Or.inr ⟨_, rfl, Nat.le_refl _⟩⟩
  · have hrow := row_grown (a := a) hh1 hRs hGn hGm (Nat.le_of_lt hi) (fun j u hj => by
      have := hR1 j u hj
      simpa [World.cell?, hh1] using this)
    have hlen : (z.take i ++ a :: z.drop i).length = z.length + 1 := by simp; omega
    rw [← hW2, hlen] at hrow
    rw [drew_cells]
    exact RowO.later hrow (Below.refl _ _).drew
  · have hg3 := setCells_grown w.heap.size ((z.drop i).flatMap fdC) ((i + 1) * 2) W2.drew
    refine ⟨hg3.os.trans (hg2.os.trans hg1.os), hg3.tape.trans (hg2.tape.trans hg1.tape), hg3.output.trans (hg2.output.trans hg1.output), Nat.le_trans hg1.size (Nat.le_trans hg2.size hg3.size), fun k hk _ => ?_⟩
    have l1 := Nat.lt_of_lt_of_le hk hg1.size
    exact ((hg3.block k (Nat.lt_of_lt_of_le l1 hg2.size) (fun e => by simp at e; omega)).trans (hg2.block k l1 (fun e => by simp at e; omega))).trans (hg1.block k hk (by simp))

set_option maxRecDepth 100000 in
set_option maxHeartbeats 2000000 in
/-- Among some fields, where there is no room. -/
theorem insertGrow (g cap i : Nat) (z : List (Int × Int)) (a : Int × Int) (q : Nat) (w : World) (h : RowF w (.slice (some ⟨g, 0, none⟩) z.length cap) z) (hq : w.heap[q]? = some (fdO a)) (hi : i < z.length) (hz : z.length ≤ 1000) (hr : cap < z.length + 1) :
    Calls Tryz.prog 43 #[.slice (some ⟨g, 0, none⟩) z.length cap, .int .i64 (i : Int), .slice (some ⟨q, 0, none⟩) 1 1] w fun e w' => InsOK w w' e (.slice (some ⟨g, 0, none⟩) z.length cap) (z.take i ++ a :: z.drop i) := by
  obtain ⟨G, W1, W2, W3, hG, hGm, hcap, hap, hcp1, hcp2, hE⟩ := grow_world g cap i z a q w h hq hi hz hr
  obtain ⟨x0, y0, r0⟩ := run_fromF g z.length cap i (Nat.le_of_lt hi)
  have y0' := y0 (by omega)
  have r1 := fun W => run_uptoF g z.length cap i (by omega) W
  obtain ⟨x2, y2, r2⟩ := run_fromF w.heap.size (z.length + 1) G i (by omega)
  have y2' := y2 (by omega)
  obtain ⟨x3, y3, r3⟩ := run_fromF w.heap.size (z.length + 1) G (i + 1) (by omega)
  have y3' := y3 (by omega)
  subst y0' y2' y3'
  have r3' : ∀ W : World, (Instr.slice 39 (.slice (some ⟨w.heap.size, 0, none⟩) (z.length + 1) G) (some (.int .i64 ((i : Int) + 1))) none none).run Tryz.prog W = .ok (.slice (some ⟨w.heap.size, (i + 1) * 2, none⟩) (z.length - i) (G - (i + 1))) W := fun W => by
    have := r3 W
    rw [show z.length + 1 - (i + 1) = z.length - i by omega] at this
    simpa using this
  have mixed : Tryz.prog.follows Departure.mixedOrders = true := by kernel_rfl
  have HE := hide hE
  have HA := hide hap
  have HC1 := hide hcp1
  have HC2 := hide hcp2
  have hne : ¬ ((i : Int) = (z.length : Int)) := by omega
  have hw1 : IntKind.i64.wrap ((i : Int) + 1) = (i : Int) + 1 := by rw [IntKind.wrap_i64]; omega
  have hcl : (cap : Int) < (z.length : Int) + 1 := by omega
  generalize w.heap.size = g' at *
  clear hE hap hcp1 hcp2 h hq y0 y2 y3 r3 hcap
  go_enter Tryz.func43, Tryz.ntmps43
  have hc1 := HC1.out
  go_wp2_with (at_builtin; refine wpList_ran rfl (.tmp 34) (.tmp 39) _ _ rfl _ _ _ (by rfl) (by rfl) HA.out ?_)
  go_region_law_o (refine step_cp rfl _ _ 39 39 rfl _ _ _ (by simp [Act.eval, Act.put]) (by simp [Act.eval, Act.put]) HC2.out ?_)
  go_wp2
  go_ret
  exact HE.out
end Go.Proofs.YtdogecaonlmalaaGreat

namespace Go.Proofs.YtdogecaonlmalaaGreat
open Go.RowKit Go.MapKept Go.ChangeMaps

theorem zeroFd (w : World) : (zeroValue 43).run Tryz.prog w = .ok (.agg #[.int .i64 0, .int .i64 0]) w := by
  have hz : Tryz.t43.zero = some (.agg #[.int .i64 0, .int .i64 0]) := by kernel_rfl
  simp [zeroValue, hz]

/-- Fields from i on, up to j; and with a third bound. -/
theorem run_midF (g n cap i j : Nat) (hij : i ≤ j) (hj : j ≤ cap) (hi : i < cap) (W : World) :
    (Instr.slice 39 (.slice (some ⟨g, 0, none⟩) n cap) (some (.int .i64 (i : Int))) (some (.int .i64 (j : Int))) none).run Tryz.prog W = .ok (.slice (some ⟨g, i * 2, none⟩) (j - i) (cap - i)) W := by
  have e1 : (Instr.sliceBound (.int .i64 (j : Int)) cap .sliceAcap).run Tryz.prog W = .ok j W := by
    have := run_sliceBound (P := Tryz.prog) W .i64 (j : Int) cap .sliceAcap (by omega) (by omega)
    simpa using this
  have e2 : (Instr.sliceBound (.int .i64 (i : Int)) j .sliceB).run Tryz.prog W = .ok i W := by
    have := run_sliceBound (P := Tryz.prog) W .i64 (i : Int) j .sliceB (by omega) (by omega)
    simpa using this
  obtain ⟨i0, hi0, _, hz1, _⟩ := info_parts infoF
  have hz1' : i0.size = 2 := hz1
  have hne : ¬ cap = i := by omega
  simp [Instr.slice, Instr.sliceBounds, run_underlying Tryz.underlying39, e1, e2, sizeOf, typeInfo, hi0, hz1', hne, Addr.add]
  omega
theorem run_cut3F (g n cap i j k : Nat) (hij : i ≤ j) (hjk : j ≤ k) (hk : k ≤ cap) : ∃ x, ∀ W : World,
    (Instr.slice 39 (.slice (some ⟨g, 0, none⟩) n cap) (some (.int .i64 (i : Int))) (some (.int .i64 (j : Int))) (some (.int .i64 (k : Int)))).run Tryz.prog W = .ok x W := by
  have e0 : ∀ W, (Instr.sliceBound (.int .i64 (k : Int)) cap .slice3Acap).run Tryz.prog W = .ok k W := fun W => by
    have := run_sliceBound (P := Tryz.prog) W .i64 (k : Int) cap .slice3Acap (by omega) (by omega)
    simpa using this
  have e1 : ∀ W, (Instr.sliceBound (.int .i64 (j : Int)) k .slice3B).run Tryz.prog W = .ok j W := fun W => by
    have := run_sliceBound (P := Tryz.prog) W .i64 (j : Int) k .slice3B (by omega) (by omega)
    simpa using this
  have e2 : ∀ W, (Instr.sliceBound (.int .i64 (i : Int)) j .slice3C).run Tryz.prog W = .ok i W := fun W => by
    have := run_sliceBound (P := Tryz.prog) W .i64 (i : Int) j .slice3C (by omega) (by omega)
    simpa using this
  obtain ⟨i0, hi0, _, hz1, _⟩ := info_parts infoF
  have hz1' : i0.size = 2 := hz1
  by_cases hne : k = i
  · refine ⟨.slice (some ⟨g, 0, none⟩) (j - i) (k - i), fun W => ?_⟩
    subst hne
    simp [Instr.slice, Instr.sliceBounds, run_underlying Tryz.underlying39, e0, e1, e2, sizeOf, typeInfo, hi0, hz1']
  · refine ⟨.slice (some ⟨g, i * 2, none⟩) (j - i) (k - i), fun W => ?_⟩
    simp [Instr.slice, Instr.sliceBounds, run_underlying Tryz.underlying39, e0, e1, e2, sizeOf, typeInfo, hi0, hz1', hne, Addr.add]
    omega
theorem run_fromA (g n cap i : Nat) (hi : i ≤ n) : ∃ A : Addr, (i < cap → A = ⟨g, i * 2, none⟩) ∧
    ∀ W : World, (Instr.slice 39 (.slice (some ⟨g, 0, none⟩) n cap) (some (.int .i64 (i : Int))) none none).run Tryz.prog W = .ok (.slice (some A) (n - i) (cap - i)) W := by
  have e2 : ∀ W, (Instr.sliceBound (.int .i64 (i : Int)) n .sliceB).run Tryz.prog W = .ok i W := fun W => by
    have := run_sliceBound (P := Tryz.prog) W .i64 (i : Int) n .sliceB (by omega) (by omega)
    simpa using this
  obtain ⟨i0, hi0, _, hz1, _⟩ := info_parts infoF
  have hz1' : i0.size = 2 := hz1
  by_cases hic : cap = i
  · subst hic
    refine ⟨⟨g, 0, none⟩, fun h => absurd h (Nat.lt_irrefl _), fun W => ?_⟩
    simp [Instr.slice, Instr.sliceBounds, run_underlying Tryz.underlying39, e2, sizeOf, typeInfo, hi0, hz1']
  · refine ⟨⟨g, i * 2, none⟩, fun _ => rfl, fun W => ?_⟩
    simp [Instr.slice, Instr.sliceBounds, run_underlying Tryz.underlying39, e2, sizeOf, typeInfo, hi0, hz1', hic, Addr.add]
    omega

/-- One field struck: those behind it one nearer, nothing behind them. -/
theorem row_del {w : World} {g cap i : Nat} {z : List (Int × Int)} (h : RowF w (.slice (some ⟨g, 0, none⟩) z.length cap) z) (hi : i < z.length) :
    RowF ((w.setCells g (i * 2) ((z.drop (i + 1)).flatMap fdC)).setCells g ((z.length - 1) * 2) (fdC (0, 0))) (.slice (some ⟨g, 0, none⟩) (z.take i ++ z.drop (i + 1)).length cap) (z.take i ++ z.drop (i + 1)) := by
  have hcell := World.ownsRow.cells h (g := g) rfl
  obtain ⟨hl, ⟨e, _⟩ | ⟨g', cap', cur, e, hB, hh, hn, hm, hs, ht⟩⟩ := h
  · cases e
  · cases e
    have hsome : ∀ j, j < cap * 2 → (w.cell? ⟨g, j, none⟩).isSome = true := fun j hj => by simp [World.cell?, hh, hs, hj]
    have hld : ((z.drop (i + 1)).flatMap fdC).length = (z.length - (i + 1)) * 2 := by rw [flatF_len, List.length_drop]
    obtain ⟨c1, k1, s1⟩ := setCells_block ((z.drop (i + 1)).flatMap fdC) (i * 2) w cur hh
    obtain ⟨c2, k2, s2⟩ := setCells_block (fdC (0, 0)) ((z.length - 1) * 2) _ c1 k1
    have hlen : (z.take i ++ z.drop (i + 1)).length = z.length - 1 := by simp; omega
    refine row_of_cells (Nat.zero_le _) k2 (by rw [s2, s1, hs]) (by rw [hlen]; omega) hm (by rw [flatF_len]) ?_
    intro j u hj
    have hx : (z.take i ++ z.drop (i + 1)).flatMap fdC = (z.take i).flatMap fdC ++ (z.drop (i + 1)).flatMap fdC := by rw [List.flatMap_append]
    have hlt : ((z.take i).flatMap fdC).length = i * 2 := by rw [flatF_len, List.length_take, Nat.min_eq_left (by omega)]
    have hjl : j < (z.length - 1) * 2 := by
      have := (List.getElem?_eq_some_iff.1 hj).1
      rw [hx, List.length_append, hlt, hld] at this
      omega
    rw [hx] at hj
    rw [World.cell?_setCells_out g _ _ _ _ (fun _ _ => Or.inl (by show j < (z.length - 1) * 2; omega))]
    by_cases h1 : j < i * 2
    · rw [List.getElem?_append_left (by omega)] at hj
      rw [World.cell?_setCells_out g _ _ _ _ (fun _ _ => Or.inl h1)]
      have e2 : (z.flatMap fdC)[j]? = some u := by
        have hz : z.flatMap fdC = (z.take i).flatMap fdC ++ (z.drop i).flatMap fdC := by rw [← List.flatMap_append, List.take_append_drop]
        rw [hz, List.getElem?_append_left (by omega)]
        exact hj
      have := hcell j u e2
      rwa [add_none, Nat.zero_add] at this
    · rw [List.getElem?_append_right (by omega), hlt] at hj
      obtain ⟨hj1, rfl⟩ := List.getElem?_eq_some_iff.1 hj
      have := World.cell?_setCells_in g ((z.drop (i + 1)).flatMap fdC) (i * 2) w (fun t ht => hsome _ (by rw [hld] at ht; omega)) (j - i * 2) hj1
      rw [show i * 2 + (j - i * 2) = j by omega] at this
      exact this

/-- What the append and the clear in it do. -/
theorem del_world (g cap i : Nat) (z : List (Int × Int)) (A : Addr) (w : World) (h : RowF w (.slice (some ⟨g, 0, none⟩) z.length cap) z) (hA : i + 1 < cap → A = ⟨g, (i + 1) * 2, none⟩) (hi : i < z.length) :
    z.length ≤ cap ∧ cap ≤ 9223372036854775807 ∧ ∃ W1 W2, (∀ ty, (Builtin.append_ #[39, 39] ty #[.slice (some ⟨g, 0, none⟩) i cap, .slice (some A) (z.length - (i + 1)) (cap - (i + 1))]).run Tryz.prog w = .ok (.slice (some ⟨g, 0, none⟩) (z.length - 1) cap) W1) ∧
      (∀ ty, (Builtin.clear_ #[39] ty #[.slice (some ⟨g, (z.length - 1) * 2, none⟩) 1 (cap - (z.length - 1))]).run Tryz.prog W1 = .ok (.tuple #[]) W2) ∧
      RowF W2 (.slice (some ⟨g, 0, none⟩) (z.take i ++ z.drop (i + 1)).length cap) (z.take i ++ z.drop (i + 1)) ∧ w.grownBy W2 (some g) := by
  have hdel := row_del h hi
  have hcell := World.ownsRow.cells h (g := g) rfl
  obtain ⟨hl, ⟨e, _⟩ | ⟨g', cap', cur, e, hB, hh, hn, hm, hs, ht⟩⟩ := h
  · cases e
  · cases e
    obtain ⟨i0, hi0, hz0, hz1, hzb⟩ := info_parts infoF
    have hzs : i0.size = 2 := hz1
    have hld : ((z.drop (i + 1)).flatMap fdC).length = (z.length - (i + 1)) * 2 := by rw [flatF_len, List.length_drop]
    have hzz : z.flatMap fdC = (z.take (i + 1)).flatMap fdC ++ (z.drop (i + 1)).flatMap fdC := by rw [← List.flatMap_append, List.take_append_drop]
    have hlt : ((z.take (i + 1)).flatMap fdC).length = (i + 1) * 2 := by rw [flatF_len, List.length_take, Nat.min_eq_left (by omega)]
    have hsome : ∀ j, j < cap * 2 → (w.cell? ⟨g, j, none⟩).isSome = true := fun j hj => by simp [World.cell?, hh, hs, hj]
    have hap : ∀ ty, (Builtin.append_ #[39, 39] ty #[.slice (some ⟨g, 0, none⟩) i cap, .slice (some A) (z.length - (i + 1)) (cap - (i + 1))]).run Tryz.prog w = .ok (.slice (some ⟨g, 0, none⟩) (z.length - 1) cap) (w.setCells g (i * 2) ((z.drop (i + 1)).flatMap fdC)) := fun ty => by
      have := run_append_room_cells (P := Tryz.prog) w 39 ty 43 i0 Tryz.underlying39 hi0 g 0 i cap A (z.length - (i + 1)) (cap - (i + 1)) ((z.drop (i + 1)).flatMap fdC) (by rw [hzs, hld])
        (fun j u hj => by
          have hj1 := (List.getElem?_eq_some_iff.1 hj).1
          rw [hA (by rw [hld] at hj1; omega), add_none]
          have := hcell ((i + 1) * 2 + j) u (by rw [hzz, List.getElem?_append_right (by omega), hlt, show (i + 1) * 2 + j - (i + 1) * 2 = j by omega]; exact hj)
          rwa [add_none, Nat.zero_add] at this) (fdC_one _) (by omega)
        (fun j hj => by rw [hld] at hj; rw [hzs]; exact hsome _ (by omega)) (fun j _ => by simp [World.frozen?, hh])
      rw [hzs, Nat.zero_add, show i + (z.length - (i + 1)) = z.length - 1 by omega] at this
      exact this
    obtain ⟨c1, k1, s1⟩ := setCells_block ((z.drop (i + 1)).flatMap fdC) (i * 2) w cur hh
    have hg1 := setCells_grown g ((z.drop (i + 1)).flatMap fdC) (i * 2) w
    obtain ⟨W1, hW1⟩ : ∃ W1, W1 = w.setCells g (i * 2) ((z.drop (i + 1)).flatMap fdC) := ⟨_, rfl⟩
    rw [← hW1] at hap hdel k1 hg1
    have hcl : ∀ ty, (Builtin.clear_ #[39] ty #[.slice (some ⟨g, (z.length - 1) * 2, none⟩) 1 (cap - (z.length - 1))]).run Tryz.prog W1 = .ok (.tuple #[]) (W1.setCells g ((z.length - 1) * 2) (fdC (0, 0))) := fun ty => by
      have hst := run_storeCells_cells (P := Tryz.prog) g ((z.length - 1) * 2) (fdC (0, 0)) 0 W1 (fun j hj => by simp [fdC] at hj; simp [World.cell?, k1, s1, hs]; omega) (fun j _ => by simp [World.frozen?, k1]) (fun u hu => by simp [fdC] at hu; subst hu; rfl)
      have hzc : (Builtin.zeroCells (Value.agg #[.int .i64 0, .int .i64 0]).cells 1).toList = fdC (0, 0) := by kernel_rfl
      simp only [Nat.add_zero] at hst
      simp [Builtin.clear_, run_underlying Tryz.underlying39, hzc, hst]
    exact ⟨hn, by unfold maxLen at hm; omega, _, _, hap, hcl, hdel, grown_trans hg1 (setCells_grown g (fdC (0, 0)) ((z.length - 1) * 2) W1)⟩

set_option maxRecDepth 100000 in
set_option maxHeartbeats 2000000 in
/-- slices.Delete of one field. -/
theorem deleteF (g cap i : Nat) (z : List (Int × Int)) (w : World) (h : RowF w (.slice (some ⟨g, 0, none⟩) z.length cap) z) (hi : i < z.length) (hz : z.length ≤ 1000) :
    Calls Tryz.prog 27 #[.slice (some ⟨g, 0, none⟩) z.length cap, .int .i64 (i : Int), .int .i64 ((i : Int) + 1)] w fun e w' => e = .returned (.slice (some ⟨g, 0, none⟩) (z.length - 1) cap) ∧ RowF w' (.slice (some ⟨g, 0, none⟩) (z.take i ++ z.drop (i + 1)).length cap) (z.take i ++ z.drop (i + 1)) ∧ w.grownBy w' (some g) := by
  obtain ⟨A, hA, r3⟩ := run_fromA g z.length cap (i + 1) (by omega)
  have hD := (Below.refl w.heap.size w).drew
  obtain ⟨hcap, hm, W1, W2, hap, hcl, hrow, hgr⟩ := del_world g cap i z A w.drew (h.later hD) hA hi
  obtain ⟨x, r1⟩ := run_cut3F g z.length cap i (i + 1) z.length (by omega) (by omega) hcap
  have r2 := fun W => run_uptoF g z.length cap i (by omega) W
  have r4 := fun W => run_midF g (z.length - 1) cap (z.length - 1) z.length (by omega) hcap (by omega) W
  have r1' : ∀ W : World, (Instr.slice 39 (.slice (some ⟨g, 0, none⟩) z.length cap) (some (.int .i64 (i : Int))) (some (.int .i64 ((i : Int) + 1))) (some (.int .i64 (z.length : Int)))).run Tryz.prog W = .ok x W := fun W => by simpa using r1 W
  have r3' : ∀ W : World, (Instr.slice 39 (.slice (some ⟨g, 0, none⟩) z.length cap) (some (.int .i64 ((i : Int) + 1))) none none).run Tryz.prog W = .ok (.slice (some A) (z.length - (i + 1)) (cap - (i + 1))) W := fun W => by simpa using r3 W
  have r4' : ∀ W : World, (Instr.slice 39 (.slice (some ⟨g, 0, none⟩) (z.length - 1) cap) (some (.int .i64 ((z.length - 1 : Nat) : Int))) (some (.int .i64 (z.length : Int))) none).run Tryz.prog W = .ok (.slice (some ⟨g, (z.length - 1) * 2, none⟩) 1 (cap - (z.length - 1))) W := fun W => by
    have := r4 W
    rw [show z.length - (z.length - 1) = 1 by omega] at this
    exact this
  have mixed : Tryz.prog.follows Departure.mixedOrders = true := by kernel_rfl
  have HA := hide hap
  have HE := hide (And.intro hrow (⟨hgr.os, hgr.tape, hgr.output, hgr.size, hgr.block⟩ : w.grownBy W2 (some g)))
  have hne : ¬ ((i : Int) = (i : Int) + 1) := by omega
  clear hap hrow hgr hD h r1 r3 r4
  go_enter Tryz.func27, Tryz.ntmps27
  go_wp2_with fail
  go_region_law_o (refine step_ran rfl _ _ _ _ rfl _ _ _ (by rfl) (by rfl) HA.out ?_)
  go_wp2
  go_ret
  exact ⟨rfl, HE.out.1, HE.out.2⟩
end Go.Proofs.YtdogecaonlmalaaGreat

namespace Go.Proofs.YtdogecaonlmalaaGreat
open Go.RowKit Go.MapKept Go.ChangeMaps

/-- The value of one field turned. -/
theorem row_set {w : World} {g cap i : Nat} {z : List (Int × Int)} {a : Int × Int} {n : Int} (h : RowF w (.slice (some ⟨g, 0, none⟩) z.length cap) z) (ha : z[i]? = some a) :
    RowF (w.setCell ⟨g, i * 2 + 1, none⟩ (.int .i64 n)) (.slice (some ⟨g, 0, none⟩) (z.set i (a.1, n)).length cap) (z.set i (a.1, n)) := by
  have hcell := World.ownsRow.cells h (g := g) rfl
  obtain ⟨hi, rfl⟩ := List.getElem?_eq_some_iff.1 ha
  obtain ⟨hl, ⟨e, _⟩ | ⟨g', cap', cur, e, hB, hh, hn, hm, hs, ht⟩⟩ := h
  · cases e
  · cases e
    have hset : z.set i (z[i].1, n) = z.take i ++ (z[i].1, n) :: z.drop (i + 1) := by rw [List.set_eq_take_append_cons_drop, if_pos hi]
    have hz : z = z.take i ++ z[i] :: z.drop (i + 1) := by
      conv => lhs; rw [← List.take_append_drop i z]
      rw [List.drop_eq_getElem_cons hi]
    have hx : (z.set i (z[i].1, n)).flatMap fdC = (z.take i).flatMap fdC ++ (.int .i64 z[i].1 :: .int .i64 n :: (z.drop (i + 1)).flatMap fdC) := by rw [hset, List.flatMap_append, List.flatMap_cons]; rfl
    have hy : z.flatMap fdC = (z.take i).flatMap fdC ++ (.int .i64 z[i].1 :: .int .i64 z[i].2 :: (z.drop (i + 1)).flatMap fdC) := by
      conv => lhs; rw [hz]
      rw [List.flatMap_append, List.flatMap_cons]; rfl
    have hlt : ((z.take i).flatMap fdC).length = i * 2 := by rw [flatF_len, List.length_take, Nat.min_eq_left (by omega)]
    obtain ⟨c1, k1, s1⟩ := setCell_block (o := i * 2 + 1) (v := .int .i64 n) hh
    refine row_of_cells (Nat.zero_le _) k1 (by rw [s1, hs]) (by rw [List.length_set]; exact hn) hm (by rw [flatF_len]) ?_
    intro j u hj
    show (w.setCells g (i * 2 + 1) [.int .i64 n]).cell? ⟨g, j, none⟩ = some u
    by_cases e : j = i * 2 + 1
    · subst e
      rw [hx, List.getElem?_append_right (by omega), hlt, show i * 2 + 1 - i * 2 = 1 by omega] at hj
      simp at hj
      subst hj
      have := World.cell?_setCells_in g [.int .i64 n] (i * 2 + 1) w (fun t ht => by simp at ht; subst ht; simp [World.cell?, hh, hs]; omega) 0 (by simp)
      simpa using this
    · have hj2 : (z.flatMap fdC)[j]? = some u := by
        rw [hx] at hj
        rw [hy]
        by_cases h1 : j < i * 2
        · rw [List.getElem?_append_left (by omega)] at hj ⊢; exact hj
        · rw [List.getElem?_append_right (by omega), hlt] at hj ⊢
          obtain ⟨t, ht⟩ : ∃ t, j - i * 2 = t := ⟨_, rfl⟩
          rw [ht] at hj ⊢
          match t, hj with
          | 0, hj => simpa using hj
          | 1, hj => omega
          | t + 2, hj => simpa using hj
      rw [World.cell?_setCells_out g _ _ _ _ (fun _ _ => by show j < i * 2 + 1 ∨ i * 2 + 1 + 1 ≤ j; omega)]
      have := hcell j u hj2
      rwa [add_none, Nat.zero_add] at this

theorem low_le (z : List (Int × Int)) (t : Int) : lowF z t ≤ z.length := List.countP_le_length
theorem hasT_some {z : List (Int × Int)} {t : Int} (h : hasT z t = true) : ∃ a, z[lowF z t]? = some a ∧ a.1 = t := by
  unfold hasT at h
  cases ha : z[lowF z t]? with
  | none => rw [ha] at h; cases h
  | some a =>
    rw [ha] at h
    refine ⟨a, rfl, ?_⟩
    have h2 : ordZ a.1 t = 0 := by simpa using h
    unfold ordZ at h2
    split at h2
    · omega
    · split at h2
      · omega
      · omega

theorem InsOK.from {w w2 w' : World} {e : Ending} {v : Value} {z : List (Int × Int)} (hb : Below w.heap.size w w2) (h : InsOK w2 w' e v z) : InsOK w w' e v z := by
  obtain ⟨v', h1, h2, h3, h4⟩ := h
  refine ⟨v', h1, h2, grown_trans (below_grown hb _) h3, ?_⟩
  rcases h4 with h4 | ⟨j, h4, h5⟩
  · exact Or.inl h4
  · exact Or.inr ⟨j, h4, Nat.le_trans hb.size h5⟩

theorem insertAny (i : Nat) (v : Value) (z : List (Int × Int)) (a : Int × Int) (q : Nat) (w : World) (h : RowF w v z) (hq : w.heap[q]? = some (fdO a)) (hqv : v.ownBlock ≠ some q) (hi : i ≤ z.length) (hz : z.length ≤ 1000) :
    Calls Tryz.prog 43 #[v, .int .i64 (i : Int), .slice (some ⟨q, 0, none⟩) 1 1] w fun e w' => InsOK w w' e v (z.take i ++ a :: z.drop i) := by
  rcases RowF.slice h with ⟨rfl, rfl⟩ | ⟨g, cp, rfl, hc, hg⟩
  · obtain rfl : i = 0 := by simpa using hi
    refine (insert0 a q w hq).mono ?_
    rintro e w' ⟨v', r1, r2, r3⟩
    obtain ⟨j, hj, hge⟩ := r2.some (by simp)
    exact ⟨v', r1, r2.row, below_grown r3 _, Or.inr ⟨j, hj, hge⟩⟩
  · have hqg : q ≠ g := fun e => hqv (by rw [e]; rfl)
    by_cases he : i = z.length
    · subst he
      rw [List.take_length, List.drop_length]
      exact insertEnd g cp z a q w h hq hz
    · have hlt : i < z.length := by omega
      by_cases hr : z.length + 1 ≤ cp
      · exact insertRoom g cp i z a q w h hq hqg hlt hz hr
      · exact insertGrow g cp i z a q w h hq hlt hz (by omega)

def putZ (z : List (Int × Int)) (f v : Int) : List (Int × Int) := if hasT z f then z.set (lowF z f) (f, v) else z.take (lowF z f) ++ (f, v) :: z.drop (lowF z f)
def cutZ (z : List (Int × Int)) (f : Int) : List (Int × Int) := if hasT z f then z.eraseIdx (lowF z f) else z
theorem putZ_ne (z : List (Int × Int)) (f v : Int) : putZ z f v ≠ [] := by
  unfold putZ
  split
  · rename_i h
    obtain ⟨a, ha, _⟩ := hasT_some h
    intro e
    have := (List.getElem?_eq_some_iff.1 ha).1
    have h2 := congrArg List.length e
    simp at h2
    subst h2
    simp at this
  · simp

set_option maxRecDepth 100000 in
/-- with, of whatever fields. -/
theorem withF (v : Value) (z : List (Int × Int)) (f n : Int) (w : World) (h : RowF w v z) (hz : RiseF z) (hl : z.length ≤ 1000) :
    Calls Tryz.prog 25 #[v, .int .i64 f, .int .i64 n] w fun e w' => InsOK w w' e v (putZ z f n) := by
  have HP := hide (placeF z v f w h hz hl)
  by_cases ht : hasT z f = true
  · obtain ⟨a, ha, rfl⟩ := hasT_some ht
    have hlt := (List.getElem?_eq_some_iff.1 ha).1
    rcases RowF.slice h with ⟨rfl, rfl⟩ | ⟨g, cp, rfl, hc, hg⟩
    · simp at hlt
    have HX : Hid (∀ w1, Below w.heap.size w w1 → InsOK w (w1.setCell ⟨g, lowF z a.1 * 2 + 1, none⟩ (.int .i64 n)) (.returned (.slice (some ⟨g, 0, none⟩) z.length cp)) (.slice (some ⟨g, 0, none⟩) z.length cp) (putZ z a.1 n)) := fun w1 hb => by
      have hr := row_set (n := n) (RowO.later h hb) ha
      unfold putZ
      rw [if_pos ht]
      refine ⟨_, rfl, ?_, grown_trans (below_grown hb _) (grown_setCell w1 g _ _), Or.inl rfl⟩
      rwa [List.length_set] at hr
    have HC : Hid (∀ w1, Below w.heap.size w w1 → w1.cell? ⟨g, lowF z a.1 * 2 + 1, none⟩ = some (.int .i64 a.2) ∧ w1.frozen? ⟨g, lowF z a.1 * 2 + 1, none⟩ = false) := fun w1 hb => by
      have h1 := RowO.later h hb
      refine ⟨(RowF.at h1 ha).2, ?_⟩
      obtain ⟨cur, hk⟩ := h1.kind (k := g) rfl
      simp [World.frozen?, hk]
    rw [ht] at HP
    generalize lowF z a.1 = i at *
    clear h hz ha ht
    go_enter Tryz.func25, Tryz.ntmps25
    go_wp2_with fail
    refine HP.out.mono ?_
    rintro e w1 ⟨rfl, hb⟩
    obtain ⟨c1, c2⟩ := HC.out w1 hb
    have HE := hide (HX.out w1 hb)
    clear HX HC HP hb
    go_wp2
    go_ret
    exact HE.out
  · have hf : hasT z f = false := by simpa using ht
    have HI : Hid (∀ w1, Below w.heap.size w w1 → Calls Tryz.prog 43 #[v, .int .i64 (lowF z f : Int), .slice (some ⟨w1.heap.size, 0, none⟩) 1 1] (w1.alloc (fdO (f, n))) fun e w' => InsOK w w' e v (putZ z f n)) := fun w1 hb => by
      have hb2 := below_alloc w1 (fdO (f, n)) w1.heap.size (Nat.le_refl _)
      have hbb := hb.trans (hb2.mono hb.size)
      refine (insertAny (lowF z f) v z (f, n) w1.heap.size _ (RowO.later h hbb) (heap_alloc_new w1 _) (fun e => ?_) (low_le z f) hl).mono ?_
      · have := (RowO.later h hb).ltb e
        omega
      · intro e w' hh
        unfold putZ
        rw [if_neg ht]
        exact hh.from hbb
    obtain ⟨ao, cp, rfl⟩ : ∃ ao cp, v = .slice ao z.length cp := by
      rcases RowF.slice h with ⟨rfl, rfl⟩ | ⟨g, cp, rfl, _⟩
      · exact ⟨_, _, rfl⟩
      · exact ⟨_, _, rfl⟩
    rw [hf] at HP
    generalize putZ z f n = z' at *
    generalize lowF z f = i at *
    clear h hz ht hf
    unfold fdO at HI
    go_enter Tryz.func25, Tryz.ntmps25
    go_wp2_with fail
    refine HP.out.mono ?_
    rintro e w1 ⟨rfl, hb⟩
    have HI1 := hide (HI.out w1 hb)
    clear HI HP hb
    go_wp2_with fail
    refine HI1.out.mono ?_
    rintro e w2 ⟨v', rfl, k1⟩
    have K1 := hide k1
    clear k1 HI1
    go_wp2
    go_ret
    exact ⟨_, rfl, K1.out⟩
end Go.Proofs.YtdogecaonlmalaaGreat

namespace Go.Proofs.YtdogecaonlmalaaGreat
open Go.RowKit Go.MapKept Go.ChangeMaps

theorem same_cell3 {a b : World} {row : Option Nat} {p : Addr} {v : Value} (h : a.grownBy b row) (hc : a.cell? p = Option.some v) (hr : row ≠ Option.some p.block) : b.cell? p = Option.some v := by
  rw [World.cell?_of_block (h.block _ (World.block_lt_of_cell? a _ hc) (fun e => hr e.symm))]; exact hc
theorem Di.apart {w : World} {O : Nat → Prop} {g N r : Nat} {fd : K3 → List (Int × Int)} {l : List (Ent K3)} {c : Nat} (h : Di w O g fd N (some r) l c) (k : K3) :
    ((atE l k).getD (.slice none 0 0)).ownBlock ≠ some r ∧ ((atE l k).getD (.slice none 0 0)).ownBlock ≠ some g ∧ ∀ j, ((atE l k).getD (.slice none 0 0)).ownBlock = some j → j < w.heap.size := by
  have hr := h.rowAt k
  refine ⟨fun e => ?_, fun e => ?_, fun j hj => hr.ltb hj⟩
  · obtain ⟨cur, hc⟩ := hr.kind e
    rw [(h.made r rfl).2.2.heap] at hc
    simp at hc
  · obtain ⟨cur, hc⟩ := hr.kind e
    rw [h.obj] at hc
    simp [rmObj] at hc
theorem Di.upd {w w' : World} {O : Nat → Prop} {g N r : Nat} {fd : K3 → List (Int × Int)} {l : List (Ent K3)} {c : Nat} (h : Di w O g fd N (some r) l c) (hO : ∀ k, w.heap.size ≤ k → O k) (k : K3) {v : Value} {z : List (Int × Int)} (hz : z ≠ []) (r2 : RowF w' v z) (r3 : w.grownBy w' ((atE l k).getD (.slice none 0 0)).ownBlock)
    (r4 : v.ownBlock = ((atE l k).getD (.slice none 0 0)).ownBlock ∨ ∃ j, v.ownBlock = some j ∧ w.heap.size ≤ j) :
    ∃ w2, (Instr.mapUpdate 67 (.map (some r)) (k3E k) v).run Tryz.prog w' = .ok () w2 ∧ DiS w2 O g (updR fd k z) (N + 1) ∧ Tch O w w2 ∧ w'.grownBy w2 (some r) := by
  obtain ⟨w2, q1, q2, q3⟩ := h.put undD dicts_ne k z hz (w1 := w') r3 v r2 (r4.imp id (fun ⟨j, a, b⟩ => ⟨j, a, b, hO j b⟩))
  obtain ⟨_, _, hm⟩ := h.made r rfl
  have hm' : Mp k3E w' r l c := hm.kept r3 (h.apart k).1
  have hg : w'.grownBy w2 (Option.some r) := by
    by_cases hs : k ∈ l.map Ent.k
    · obtain ⟨w3, p1, _, p3⟩ := hm'.set k3Keyd undD k v hs
      have e := q1.symm.trans p1
      simp at e
      rw [e]; exact p3
    · obtain ⟨w3, p1, _, p3⟩ := hm'.put k3Keyd undD k v hs
      have e := q1.symm.trans p1
      simp at e
      rw [e]; exact p3
  exact ⟨w2, q1, q2, q3, hg⟩

/-- The call of with and the update behind it. -/
theorem Di.putX {w : World} {O : Nat → Prop} {g N r : Nat} {fd : K3 → List (Int × Int)} {l : List (Ent K3)} {c : Nat} (h : Di w O g fd N (some r) l c) (hO : ∀ k, w.heap.size ≤ k → O k) (k : K3) (hz : RiseF (fd k)) (hl : (fd k).length ≤ 100) (f n : Int) :
    Calls Tryz.prog 25 #[(atE l k).getD (.slice none 0 0), .int .i64 f, .int .i64 n] w fun e w' => ∃ v w2, e = .returned v ∧ (Instr.mapUpdate 67 (.map (some r)) (k3E k) v).run Tryz.prog w' = .ok () w2 ∧ DiS w2 O g (updR fd k (putZ (fd k) f n)) (N + 1) ∧ Tch O w w2 ∧ w.grownBy w' ((atE l k).getD (.slice none 0 0)).ownBlock ∧ w'.grownBy w2 (some r) := by
  refine (withF _ (fd k) f n w (h.rowAt k) hz (by omega)).mono ?_
  rintro e w' ⟨v, r1, r2, r3, r4⟩
  obtain ⟨w2, q1, q2, q3, q4⟩ := h.upd hO k (putZ_ne _ _ _) r2 r3 r4
  exact ⟨v, w2, r1, q1, q2, q3, r3, q4⟩

set_option maxRecDepth 100000 in
set_option maxHeartbeats 1600000 in
/-- PutField at a key that has fields. -/
theorem dictPut1 (O : Nat → Prop) (g N : Nat) (fd : K3 → List (Int × Int)) (k : K3) (f n : Int) (w : World) (h : DiS w O g fd N) (hO : ∀ k, w.heap.size ≤ k → O k) (hk : fd k ≠ []) (hz : RiseF (fd k)) (hl : (fd k).length ≤ 100) (h0 : 0 ≤ f) (h8 : f < 8) :
    Calls Tryz.prog 6 #[.pointer (some ⟨g, 0, none⟩), k3E k, .int .i64 f, .int .i64 n] w fun e w' => e = .returned (.int .i64 0) ∧ DiS w' O g (updR fd k (putZ (fd k) f n)) (N + 1) ∧ Tch O w w' := by
  have hnm := fun (W : World) (r : Option Nat) => run_eql_map_nil (P := Tryz.prog) W 67 28 39 r undD
  have c0 : ¬ f < 0 := by omega
  have c8 : ¬ 8 ≤ f := by omega
  obtain ⟨mo, l, c, h⟩ := h
  have hb := below_alloc w (k3O k) w.heap.size (Nat.le_refl _)
  have h1 := h.later hb
  obtain ⟨q0, qf⟩ := rm_cell h1.obj
  have hbx := heap_alloc_new w (k3O k)
  have hglt := lt_of_heap h.obj
  cases mo with
  | none => exact absurd (h.non k (by rw [h.nomap rfl]; simp)) hk
  | some r =>
    obtain ⟨x0, x1, x2⟩ := cells_three hbx
    have hD := (Below.refl (w.alloc (k3O k)).heap.size (w.alloc (k3O k))).drew
    have lk : (Instr.lookup 67 (.map (some r)) (k3E k) false).run Tryz.prog (w.alloc (k3O k)).drew = .ok ((atE l k).getD (.slice none 0 0)) (w.alloc (k3O k)).drew := Di.look (h1.later hD) k
    have hX := Di.putX (h1.later hD) (fun j hj => hO j (Nat.le_trans (hb.trans (hD.mono hb.size)).size hj)) k hz hl f n
    obtain ⟨a1, a2, a3⟩ := Di.apart h k
    obtain ⟨ao, cp, hv, _⟩ := RowF.rd (h.rowAt k)
    generalize (atE l k).getD (.slice none 0 0) = v0 at lk hX a1 a2 a3 hv
    subst hv
    have HC : Hid (Calls Tryz.prog 25 #[.slice ao (fd k).length cp, .int .i64 f, .int .i64 n] (w.alloc (k3O k)).drew fun e w' => ∃ v w2, e = .returned v ∧ (Instr.mapUpdate 67 (.map (some r)) (k3E k) v).run Tryz.prog w' = .ok () w2 ∧ DiS w2 O g (updR fd k (putZ (fd k) f n)) (N + 1) ∧ Tch O w w2 ∧ (w'.cell? ⟨g, 0, none⟩ = some (.map (some r)) ∧ w'.cell? ⟨w.heap.size, 0, none⟩ = some (.int .i64 k.g) ∧ w'.cell? ⟨w.heap.size, 1, none⟩ = some (.int .i64 k.n) ∧ w'.cell? ⟨w.heap.size, 2, none⟩ = some (.int .i64 k.i)) ∧ w2.cell? ⟨g, 0, none⟩ = some (.map (some r)) ∧ w2.cell? ⟨w.heap.size, 0, none⟩ = some (.int .i64 k.g) ∧ w2.cell? ⟨w.heap.size, 1, none⟩ = some (.int .i64 k.n) ∧ w2.cell? ⟨w.heap.size, 2, none⟩ = some (.int .i64 k.i)) := by
      refine hX.mono ?_
      rintro e w' ⟨v, w2, r1, r2, r3, r4, r5, r6⟩
      have nb : (Value.slice ao (fd k).length cp).ownBlock ≠ some w.heap.size := fun e => by have := a3 _ e; omega
      have c0' := same_cell3 r5 (same_cell hD q0) a2
      have c1' := same_cell3 r5 (same_cell hD x0) nb
      have c2' := same_cell3 r5 (same_cell hD x1) nb
      have c3' := same_cell3 r5 (same_cell hD x2) nb
      exact ⟨v, w2, r1, r2, r3, ((Below.tch hb).trans (Below.tch hD)).trans r4, ⟨c0', c1', c2', c3'⟩, same_cell2 r6 c0' (fun e' => (h.made r rfl).2.1 e'.symm), same_cell2 r6 c1' (fun e' => by have := (h.made r rfl).2.2.lt; simp at e'; omega), same_cell2 r6 c2' (fun e' => by have := (h.made r rfl).2.2.lt; simp at e'; omega), same_cell2 r6 c3' (fun e' => by have := (h.made r rfl).2.2.lt; simp at e'; omega)⟩
    clear h h1 hbx hb hO hD hX a1 a2 a3 hz hl hk
    unfold k3O k3E at *
    go_enter Tryz.func6, Tryz.ntmps6
    go_wp2
    go_region_held3 (fun w' => w'.cell? ⟨g, 0, none⟩ = some (.map (some r)) ∧ w'.cell? ⟨w.heap.size, 0, none⟩ = some (.int .i64 k.g) ∧ w'.cell? ⟨w.heap.size, 1, none⟩ = some (.int .i64 k.n) ∧ w'.cell? ⟨w.heap.size, 2, none⟩ = some (.int .i64 k.i)) (first | exact ⟨q0, x0, x1, x2⟩ | exact k4 | exact k8) ((go_at_call 25; refine HC.out.mono ?_; rintro e W1 ⟨v, W2, rfl, k1, k2, k3, k4, k8⟩; have K2 := hide k2; have K3 := hide k3; clear k2 k3))
    all_goals
      clear lk HC x0 x1 x2 q0 qf
      go_wp2
      go_ret
      exact ⟨rfl, K2.out, K3.out⟩

theorem putZ_nil (f v : Int) : putZ [] f v = [(f, v)] := rfl
/-- PutField. -/
theorem dictPut (O : Nat → Prop) (g N : Nat) (fd : K3 → List (Int × Int)) (k : K3) (f n : Int) (w : World) (h : DiS w O g fd N) (hO : ∀ k, w.heap.size ≤ k → O k) (hz : RiseF (fd k)) (hl : (fd k).length ≤ 100) (h0 : 0 ≤ f) (h8 : f < 8) :
    Calls Tryz.prog 6 #[.pointer (some ⟨g, 0, none⟩), k3E k, .int .i64 f, .int .i64 n] w fun e w' => e = .returned (.int .i64 0) ∧ DiS w' O g (updR fd k (putZ (fd k) f n)) (N + 1) ∧ Tch O w w' := by
  by_cases hk : fd k = []
  · have := dictPut0 O g N fd k f n w h hO hk h0 h8
    rw [hk, putZ_nil]
    exact this
  · exact dictPut1 O g N fd k f n w h hO hk hz hl h0 h8
end Go.Proofs.YtdogecaonlmalaaGreat

namespace Go.Proofs.YtdogecaonlmalaaGreat
open Go.RowKit Go.MapKept Go.ChangeMaps


set_option maxRecDepth 100000 in
theorem Di.cutX {w : World} {O : Nat → Prop} {g N r : Nat} {fd : K3 → List (Int × Int)} {l : List (Ent K3)} {c : Nat} (h : Di w O g fd N (some r) l c) (hO : ∀ k, w.heap.size ≤ k → O k) (k : K3) (hl : (fd k).length ≤ 100) (f : Int) (ht : hasT (fd k) f = true) (h1 : (fd k).length ≠ 1) :
    Calls Tryz.prog 27 #[(atE l k).getD (.slice none 0 0), .int .i64 (lowF (fd k) f : Nat), .int .i64 ((lowF (fd k) f : Nat) + 1)] w fun e w' => ∃ v w2, e = .returned v ∧ (Instr.mapUpdate 67 (.map (some r)) (k3E k) v).run Tryz.prog w' = .ok () w2 ∧ DiS w2 O g (updR fd k (cutZ (fd k) f)) (N + 1) ∧ Tch O w w2 ∧ w.grownBy w' ((atE l k).getD (.slice none 0 0)).ownBlock ∧ w'.grownBy w2 (some r) := by
  obtain ⟨a, ha, _⟩ := hasT_some ht
  have hlt := (List.getElem?_eq_some_iff.1 ha).1
  have hrow := h.rowAt k
  have hup := fun {w' v z} (hz : z ≠ []) r2 r3 r4 => h.upd (w' := w') hO k (v := v) (z := z) hz r2 r3 r4
  generalize (atE l k).getD (.slice none 0 0) = v0 at *
  rcases RowF.slice hrow with ⟨_, e⟩ | ⟨g1, cp, rfl, _, _⟩
  · rw [e] at hlt; simp at hlt
  · refine (deleteF g1 cp (lowF (fd k) f) (fd k) w hrow hlt (by omega)).mono ?_
    rintro e w' ⟨r1, r2, r3⟩
    have hlen : ((fd k).take (lowF (fd k) f) ++ (fd k).drop (lowF (fd k) f + 1)).length = (fd k).length - 1 := by simp; omega
    have hne : (fd k).take (lowF (fd k) f) ++ (fd k).drop (lowF (fd k) f + 1) ≠ [] := fun e => by
      have := congrArg List.length e
      rw [hlen] at this
      simp at this
      omega
    rw [hlen] at r2
    obtain ⟨w2, q1, q2, q3, q4⟩ := hup hne r2 r3 (Or.inl rfl)
    refine ⟨_, w2, r1, q1, ?_, q3, r3, q4⟩
    unfold cutZ
    rw [if_pos ht, List.eraseIdx_eq_take_drop_succ]
    exact q2

set_option maxRecDepth 100000 in
set_option maxHeartbeats 2000000 in
/-- CutField. -/
theorem dictCut (O : Nat → Prop) (g N : Nat) (fd : K3 → List (Int × Int)) (k : K3) (f : Int) (w : World) (h : DiS w O g fd N) (hO : ∀ k, w.heap.size ≤ k → O k) (hz : RiseF (fd k)) (hl : (fd k).length ≤ 100) :
    Calls Tryz.prog 7 #[.pointer (some ⟨g, 0, none⟩), k3E k, .int .i64 f] w fun e w' => e = .returned (.bool (hasT (fd k) f)) ∧ DiS w' O g (updR fd k (cutZ (fd k) f)) (N + 1) ∧ Tch O w w' := by
  have hb := below_alloc w (k3O k) w.heap.size (Nat.le_refl _)
  obtain ⟨mo, l, c, h⟩ := h
  have h1 := h.later hb
  obtain ⟨q0, qf⟩ := rm_cell h1.obj
  have hbx := heap_alloc_new w (k3O k)
  obtain ⟨x0, x1, x2⟩ := cells_three hbx
  have lk : ∀ n, (Instr.lookup 67 (.map mo) (k3E k) false).run Tryz.prog ((w.alloc (k3O k)).drewN n) = .ok ((atE l k).getD (.slice none 0 0)) ((w.alloc (k3O k)).drewN n) := fun n =>
    Di.look (h1.later (below_drewN (Below.refl (w.alloc (k3O k)).heap.size (w.alloc (k3O k))) n)) k
  have hrow := h1.rowAt k
  have HP : Hid (∀ n, Calls Tryz.prog 26 #[(atE l k).getD (.slice none 0 0), .int .i64 f] ((w.alloc (k3O k)).drewN n) fun e w' => e = .returned (.tuple #[.int .i64 (lowF (fd k) f : Nat), .bool (hasT (fd k) f)]) ∧ Below (w.alloc (k3O k)).heap.size (w.alloc (k3O k)) w') := fun n => by
    have hD := below_drewN (Below.refl (w.alloc (k3O k)).heap.size (w.alloc (k3O k))) n
    refine (placeF (fd k) _ f _ (RowO.later hrow hD) hz (by omega)).mono ?_
    rintro e w' ⟨r1, r2⟩
    exact ⟨r1, hD.trans (r2.mono hD.size)⟩
  by_cases ht : hasT (fd k) f = true
  · obtain ⟨a, ha, _⟩ := hasT_some ht
    have hlt := (List.getElem?_eq_some_iff.1 ha).1
    cases mo with
    | none => rw [h.non k (by rw [h.nomap rfl]; simp)] at hlt; simp at hlt
    | some r =>
      by_cases hl1 : (fd k).length = 1
      · have HD : Hid (∀ w1, Below (w.alloc (k3O k)).heap.size (w.alloc (k3O k)) w1 → ∃ W', (∀ ty, (Builtin.delete_ #[67, 28] ty #[.map (some r), k3E k]).run Tryz.prog w1.drew = .ok (.tuple #[]) W') ∧ DiS W' O g (updR fd k (cutZ (fd k) f)) (N + 1) ∧ Tch O w W') := fun w1 hw1 => by
          have hD := hw1.drew
          obtain ⟨W', a1, a2, a3⟩ := (h1.later hD).cut undD k
          refine ⟨W', a1, ?_, ((Below.tch hb).trans (Below.tch hD)).trans a3⟩
          have e : cutZ (fd k) f = [] := by
            unfold cutZ
            rw [if_pos ht]
            refine List.length_eq_zero_iff.1 ?_
            rw [List.length_eraseIdx, if_pos hlt]
            omega
          rw [e]
          exact a2.more (Nat.le_succ _)
        have HCE : Hid (∀ w1, Below (w.alloc (k3O k)).heap.size (w.alloc (k3O k)) w1 → w1.cell? ⟨g, 0, none⟩ = some (.map (some r)) ∧ w1.cell? ⟨w.heap.size, 0, none⟩ = some (.int .i64 k.g) ∧ w1.cell? ⟨w.heap.size, 1, none⟩ = some (.int .i64 k.n) ∧ w1.cell? ⟨w.heap.size, 2, none⟩ = some (.int .i64 k.i)) := fun w1 hw1 => ⟨same_cell hw1 q0, same_cell hw1 x0, same_cell hw1 x1, same_cell hw1 x2⟩
        obtain ⟨ao, cp, hv, _⟩ := RowF.rd hrow
        have hli : ((fd k).length : Int) = 1 := by omega
        rw [hv] at lk HP
        rw [ht] at HP ⊢
        generalize lowF (fd k) f = i at *
        generalize (fd k).length = n at *
        clear h h1 hbx hb hrow hv hz hO ha hlt hl hl1
        unfold k3O k3E at *
        go_enter Tryz.func7, Tryz.ntmps7
        go_wp2
        go_quiet (fail)
        go_wp2_with fail
        refine (HP.out nq).mono ?_
        rintro e w1 ⟨rfl, hw1⟩
        obtain ⟨W', de, hV, hT⟩ := HD.out w1 hw1
        have HV := hide hV
        have HT := hide hT
        clear x0 x1 x2 q0 qf lk HP HD hV hT
        obtain ⟨q0, x0, x1, x2⟩ := HCE.out w1 hw1
        clear HCE hw1
        go_wp2
        go_region_with (fail)
        all_goals
          clear de
          go_wp2
          go_ret
          exact ⟨rfl, HV.out, HT.out⟩
      · obtain ⟨a1, a2, a3⟩ := Di.apart h k
        have HC : Hid (∀ w1, Below (w.alloc (k3O k)).heap.size (w.alloc (k3O k)) w1 → Calls Tryz.prog 27 #[(atE l k).getD (.slice none 0 0), .int .i64 (lowF (fd k) f : Nat), .int .i64 ((lowF (fd k) f : Nat) + 1)] w1.drew fun e w' => ∃ v w2, e = .returned v ∧ (Instr.mapUpdate 67 (.map (some r)) (k3E k) v).run Tryz.prog w' = .ok () w2 ∧ DiS w2 O g (updR fd k (cutZ (fd k) f)) (N + 1) ∧ Tch O w w2 ∧ (w'.cell? ⟨g, 0, none⟩ = some (.map (some r)) ∧ w'.cell? ⟨w.heap.size, 0, none⟩ = some (.int .i64 k.g) ∧ w'.cell? ⟨w.heap.size, 1, none⟩ = some (.int .i64 k.n) ∧ w'.cell? ⟨w.heap.size, 2, none⟩ = some (.int .i64 k.i)) ∧ w2.cell? ⟨g, 0, none⟩ = some (.map (some r)) ∧ w2.cell? ⟨w.heap.size, 0, none⟩ = some (.int .i64 k.g) ∧ w2.cell? ⟨w.heap.size, 1, none⟩ = some (.int .i64 k.n) ∧ w2.cell? ⟨w.heap.size, 2, none⟩ = some (.int .i64 k.i)) := fun w1 hw1 => by
          have hD := hw1.drew
          refine (Di.cutX (h1.later hD) (fun j hj => hO j (Nat.le_trans (hb.trans (hD.mono hb.size)).size hj)) k hl f ht hl1).mono ?_
          rintro e w' ⟨v, w2, r1, r2, r3, r4, r5, r6⟩
          have nb : ((atE l k).getD (.slice none 0 0)).ownBlock ≠ some w.heap.size := fun e => by have := a3 _ e; omega
          have c0' := same_cell3 r5 (same_cell hD q0) a2
          have c1' := same_cell3 r5 (same_cell hD x0) nb
          have c2' := same_cell3 r5 (same_cell hD x1) nb
          have c3' := same_cell3 r5 (same_cell hD x2) nb
          exact ⟨v, w2, r1, r2, r3, ((Below.tch hb).trans (Below.tch hD)).trans r4, ⟨c0', c1', c2', c3'⟩, same_cell2 r6 c0' (fun e' => (h.made r rfl).2.1 e'.symm), same_cell2 r6 c1' (fun e' => by have := (h.made r rfl).2.2.lt; simp at e'; omega), same_cell2 r6 c2' (fun e' => by have := (h.made r rfl).2.2.lt; simp at e'; omega), same_cell2 r6 c3' (fun e' => by have := (h.made r rfl).2.2.lt; simp at e'; omega)⟩
        have HCE : Hid (∀ w1, Below (w.alloc (k3O k)).heap.size (w.alloc (k3O k)) w1 → w1.cell? ⟨g, 0, none⟩ = some (.map (some r)) ∧ w1.cell? ⟨w.heap.size, 0, none⟩ = some (.int .i64 k.g) ∧ w1.cell? ⟨w.heap.size, 1, none⟩ = some (.int .i64 k.n) ∧ w1.cell? ⟨w.heap.size, 2, none⟩ = some (.int .i64 k.i)) := fun w1 hw1 => ⟨same_cell hw1 q0, same_cell hw1 x0, same_cell hw1 x1, same_cell hw1 x2⟩
        obtain ⟨ao, cp, hv, _⟩ := RowF.rd hrow
        have hli : ¬ ((fd k).length : Int) = 1 := by omega
        rw [hv] at lk HP HC
        rw [ht] at HP ⊢
        have hib : (lowF (fd k) f : Int) ≤ 100 := by omega
        generalize lowF (fd k) f = i at *
        generalize cutZ (fd k) f = z' at *
        generalize (fd k).length = n at *
        clear h h1 hbx hb hrow hv hz hO ha hlt hl hl1 a1 a2 a3
        have hw : IntKind.i64.wrap ((i : Int) + 1) = (i : Int) + 1 := by rw [IntKind.wrap_i64]; omega
        unfold k3O k3E at *
        go_enter Tryz.func7, Tryz.ntmps7
        go_wp2
        go_quiet (fail)
        go_wp2_with fail
        refine (HP.out nq).mono ?_
        rintro e w1 ⟨rfl, hw1⟩
        have HC1 := hide (HC.out w1 hw1)
        clear x0 x1 x2 q0 qf lk HP HC
        obtain ⟨q0, x0, x1, x2⟩ := HCE.out w1 hw1
        clear HCE hw1
        go_wp2
        go_region_held3 (fun w' => w'.cell? ⟨g, 0, none⟩ = some (.map (some r)) ∧ w'.cell? ⟨w.heap.size, 0, none⟩ = some (.int .i64 k.g) ∧ w'.cell? ⟨w.heap.size, 1, none⟩ = some (.int .i64 k.n) ∧ w'.cell? ⟨w.heap.size, 2, none⟩ = some (.int .i64 k.i)) (first | exact ⟨q0, x0, x1, x2⟩ | exact k4 | exact k8) ((go_at_call 27; refine HC1.out.mono ?_; rintro e W1 ⟨v, W2, rfl, k1, k2, k3, k4, k8⟩; have K2 := hide k2; have K3 := hide k3; clear k2 k3))
        all_goals
          clear HC1 x0 x1 x2 q0
          go_wp2
          go_ret
          exact ⟨rfl, K2.out, K3.out⟩
  · have hf : hasT (fd k) f = false := by simpa using ht
    have HN : Hid (∀ w1, Below (w.alloc (k3O k)).heap.size (w.alloc (k3O k)) w1 → DiS w1 O g (updR fd k (cutZ (fd k) f)) (N + 1) ∧ Tch O w w1) := fun w1 hw1 => by
      have e : cutZ (fd k) f = fd k := by unfold cutZ; rw [if_neg ht]
      rw [e, updR_self]
      exact ⟨RmS.more ⟨_, _, _, h1.later hw1⟩ (Nat.le_succ _), (Below.tch hb).trans (Below.tch hw1)⟩
    obtain ⟨ao, cp, hv, _⟩ := RowF.rd hrow
    rw [hv] at lk HP
    rw [hf] at HP ⊢
    generalize cutZ (fd k) f = z' at *
    generalize lowF (fd k) f = i at *
    generalize (fd k).length = n at *
    clear h h1 hbx hb hrow hv hz hO hl ht hf
    unfold k3O k3E at *
    go_enter Tryz.func7, Tryz.ntmps7
    go_wp2
    go_quiet (fail)
    go_wp2_with fail
    refine (HP.out nq).mono ?_
    rintro e w1 ⟨rfl, hw1⟩
    have H1 := hide (HN.out w1 hw1)
    clear x0 x1 x2 q0 qf lk HP HN hw1
    go_wp2
    go_ret
    exact ⟨rfl, H1.out.1, H1.out.2⟩

/-- What a field holds. -/
def fldZ (z : List (Int × Int)) (f : Int) : Option Int := if hasT z f then (z[lowF z f]?).map (·.2) else Option.none

set_option maxRecDepth 100000 in
set_option maxHeartbeats 2000000 in
/-- Field. -/
theorem dictField (O : Nat → Prop) (g N : Nat) (fd : K3 → List (Int × Int)) (k : K3) (f : Int) (w : World) (h : DiS w O g fd N) (hz : RiseF (fd k)) (hl : (fd k).length ≤ 100) :
    Calls Tryz.prog 11 #[.pointer (some ⟨g, 0, none⟩), k3E k, .int .i64 f] w fun e w' => e = .returned (.tuple #[.int .i64 ((fldZ (fd k) f).getD 0), .bool (fldZ (fd k) f).isSome]) ∧ Below w.heap.size w w' := by
  have hb := below_alloc w (k3O k) w.heap.size (Nat.le_refl _)
  obtain ⟨mo, l, c, h⟩ := h
  have h1 := h.later hb
  obtain ⟨q0, qf⟩ := rm_cell h1.obj
  have hbx := heap_alloc_new w (k3O k)
  obtain ⟨x0, x1, x2⟩ := cells_three hbx
  have lk : ∀ n, (Instr.lookup 67 (.map mo) (k3E k) false).run Tryz.prog ((w.alloc (k3O k)).drewN n) = .ok ((atE l k).getD (.slice none 0 0)) ((w.alloc (k3O k)).drewN n) := fun n =>
    Di.look (h1.later (below_drewN (Below.refl (w.alloc (k3O k)).heap.size (w.alloc (k3O k))) n)) k
  have hrow := h1.rowAt k
  have HP : Hid (∀ n, Calls Tryz.prog 26 #[(atE l k).getD (.slice none 0 0), .int .i64 f] ((w.alloc (k3O k)).drewN n) fun e w' => e = .returned (.tuple #[.int .i64 (lowF (fd k) f : Nat), .bool (hasT (fd k) f)]) ∧ Below (w.alloc (k3O k)).heap.size (w.alloc (k3O k)) w') := fun n => by
    have hD := below_drewN (Below.refl (w.alloc (k3O k)).heap.size (w.alloc (k3O k))) n
    refine (placeF (fd k) _ f _ (RowO.later hrow hD) hz (by omega)).mono ?_
    rintro e w' ⟨r1, r2⟩
    exact ⟨r1, hD.trans (r2.mono hD.size)⟩
  have HB : Hid (∀ w1, Below (w.alloc (k3O k)).heap.size (w.alloc (k3O k)) w1 → Below w.heap.size w w1) := fun w1 hw => hb.trans (hw.mono hb.size)
  by_cases ht : hasT (fd k) f = true
  · obtain ⟨a, ha, _⟩ := hasT_some ht
    have hlt := (List.getElem?_eq_some_iff.1 ha).1
    have hF : fldZ (fd k) f = some a.2 := by unfold fldZ; rw [if_pos ht, ha]; rfl
    rw [hF]
    rcases RowF.slice hrow with ⟨_, e⟩ | ⟨g1, cp, hv, hc, _⟩
    · rw [e] at hlt; simp at hlt
    rw [hv] at lk HP hrow
    have HCE : Hid (∀ w1, Below (w.alloc (k3O k)).heap.size (w.alloc (k3O k)) w1 → w1.cell? ⟨g1, lowF (fd k) f * 2 + 1, none⟩ = some (.int .i64 a.2)) := fun w1 hw1 => (RowF.at (RowO.later hrow hw1) ha).2
    rw [ht] at HP
    have hic : lowF (fd k) f < cp := by omega
    generalize lowF (fd k) f = i at *
    generalize (fd k).length = n at *
    clear h h1 hbx hb hrow hv hz hl ht ha hF hc
    unfold k3O k3E at *
    go_enter Tryz.func11, Tryz.ntmps11
    go_wp2
    go_quiet (fail)
    go_wp2_with fail
    refine (HP.out nq).mono ?_
    rintro e w1 ⟨rfl, hw1⟩
    have hce := HCE.out w1 hw1
    have HB1 := hide (HB.out w1 hw1)
    clear x0 x1 x2 q0 qf lk HP HCE HB hw1
    go_wp2
    go_ret2
    exact ⟨rfl, HB1.out⟩
  · have hf : hasT (fd k) f = false := by simpa using ht
    have hF : fldZ (fd k) f = none := by unfold fldZ; rw [if_neg ht]
    rw [hF]
    obtain ⟨ao, cp, hv, _⟩ := RowF.rd hrow
    rw [hv] at lk HP
    rw [hf] at HP
    generalize lowF (fd k) f = i at *
    generalize (fd k).length = n at *
    clear h h1 hbx hb hrow hv hz hl ht hf hF
    unfold k3O k3E at *
    go_enter Tryz.func11, Tryz.ntmps11
    go_wp2
    go_quiet (fail)
    go_wp2_with fail
    refine (HP.out nq).mono ?_
    rintro e w1 ⟨rfl, hw1⟩
    have HB1 := hide (HB.out w1 hw1)
    clear x0 x1 x2 q0 qf lk HP HB hw1
    go_wp2
    go_ret2
    exact ⟨rfl, HB1.out⟩
end Go.Proofs.YtdogecaonlmalaaGreat

namespace Go.Proofs.YtdogecaonlmalaaGreat
open Go.RowKit Go.MapKept Go.ChangeMaps

theorem RiseF.cons {x : Int × Int} {z : List (Int × Int)} : RiseF (x :: z) ↔ (∀ y ∈ z, x.1 < y.1) ∧ RiseF z := List.pairwise_cons
theorem low_lt {x : Int × Int} {z : List (Int × Int)} {t : Int} (h : x.1 < t) : lowF (x :: z) t = lowF z t + 1 := by
  unfold lowF
  rw [List.countP_cons_of_pos (by simpa using h)]
theorem low_ge {x : Int × Int} {z : List (Int × Int)} {t : Int} (hz : RiseF (x :: z)) (h : ¬ x.1 < t) : lowF (x :: z) t = 0 := by
  unfold lowF
  rw [List.countP_eq_zero]
  intro y hy
  rcases List.mem_cons.1 hy with rfl | hy
  · simpa using h
  · have := (RiseF.cons.1 hz).1 y hy
    simp
    omega
theorem has_nil (t : Int) : hasT [] t = false := rfl
theorem has_lt {x : Int × Int} {z : List (Int × Int)} {t : Int} (h : x.1 < t) : hasT (x :: z) t = hasT z t := by
  unfold hasT
  rw [low_lt h, List.getElem?_cons_succ]
theorem has_eq {x : Int × Int} {z : List (Int × Int)} {t : Int} (hz : RiseF (x :: z)) (h : x.1 = t) : hasT (x :: z) t = true := by
  unfold hasT
  rw [low_ge hz (by omega)]
  simp [ordZ, h]
theorem has_gt {x : Int × Int} {z : List (Int × Int)} {t : Int} (hz : RiseF (x :: z)) (h : t < x.1) : hasT (x :: z) t = false := by
  unfold hasT
  rw [low_ge hz (by omega)]
  have h1 : ¬ x.1 < t := by omega
  simp [ordZ, h, h1]

theorem put_lt {x : Int × Int} {z : List (Int × Int)} {f : Int} (v : Int) (h : x.1 < f) : putZ (x :: z) f v = x :: putZ z f v := by
  unfold putZ
  rw [has_lt h, low_lt h]
  split <;> simp
theorem put_eq {x : Int × Int} {z : List (Int × Int)} {f : Int} (v : Int) (hz : RiseF (x :: z)) (h : x.1 = f) : putZ (x :: z) f v = (f, v) :: z := by
  unfold putZ
  rw [has_eq hz h, low_ge hz (by omega)]
  simp
theorem put_gt {x : Int × Int} {z : List (Int × Int)} {f : Int} (v : Int) (hz : RiseF (x :: z)) (h : f < x.1) : putZ (x :: z) f v = (f, v) :: x :: z := by
  unfold putZ
  rw [has_gt hz h, low_ge hz (by omega)]
  simp
theorem cut_lt {x : Int × Int} {z : List (Int × Int)} {f : Int} (h : x.1 < f) : cutZ (x :: z) f = x :: cutZ z f := by
  unfold cutZ
  rw [has_lt h, low_lt h]
  split <;> simp
theorem cut_eq {x : Int × Int} {z : List (Int × Int)} {f : Int} (hz : RiseF (x :: z)) (h : x.1 = f) : cutZ (x :: z) f = z := by
  unfold cutZ
  rw [has_eq hz h, low_ge hz (by omega)]
  simp
theorem cut_gt {x : Int × Int} {z : List (Int × Int)} {f : Int} (hz : RiseF (x :: z)) (h : f < x.1) : cutZ (x :: z) f = x :: z := by
  unfold cutZ
  rw [has_gt hz h]
  simp
theorem fld_nil (f : Int) : fldZ [] f = Option.none := rfl
theorem fld_lt {x : Int × Int} {z : List (Int × Int)} {f : Int} (h : x.1 < f) : fldZ (x :: z) f = fldZ z f := by
  unfold fldZ
  rw [has_lt h, low_lt h, List.getElem?_cons_succ]
theorem fld_eq {x : Int × Int} {z : List (Int × Int)} {f : Int} (hz : RiseF (x :: z)) (h : x.1 = f) : fldZ (x :: z) f = some x.2 := by
  unfold fldZ
  rw [has_eq hz h, low_ge hz (by omega)]
  rfl
theorem fld_gt {x : Int × Int} {z : List (Int × Int)} {f : Int} (hz : RiseF (x :: z)) (h : f < x.1) : fldZ (x :: z) f = Option.none := by
  unfold fldZ
  rw [has_gt hz h]
  rfl

theorem mem_put {z : List (Int × Int)} (f v : Int) (hz : RiseF z) {p : Int × Int} (h : p ∈ putZ z f v) : p = (f, v) ∨ p ∈ z := by
  induction z with
  | nil => rw [putZ_nil] at h; simpa using h
  | cons x z ih =>
    rcases Int.lt_trichotomy x.1 f with h1 | h1 | h1
    · rw [put_lt v h1] at h
      rcases List.mem_cons.1 h with h | h
      · exact Or.inr (by rw [h]; exact List.mem_cons_self)
      · rcases ih (RiseF.cons.1 hz).2 h with h | h
        · exact Or.inl h
        · exact Or.inr (List.mem_cons_of_mem _ h)
    · rw [put_eq v hz h1] at h
      rcases List.mem_cons.1 h with h | h
      · exact Or.inl h
      · exact Or.inr (List.mem_cons_of_mem _ h)
    · rw [put_gt v hz h1] at h
      rcases List.mem_cons.1 h with h | h
      · exact Or.inl h
      · exact Or.inr h
theorem mem_cut {z : List (Int × Int)} (f : Int) {p : Int × Int} (h : p ∈ cutZ z f) : p ∈ z := by
  unfold cutZ at h
  split at h
  · exact List.mem_of_mem_eraseIdx h
  · exact h
theorem rise_put {z : List (Int × Int)} (f v : Int) (hz : RiseF z) : RiseF (putZ z f v) := by
  induction z with
  | nil => rw [putZ_nil]; exact List.pairwise_singleton _ _
  | cons x z ih =>
    obtain ⟨hx, hz'⟩ := RiseF.cons.1 hz
    rcases Int.lt_trichotomy x.1 f with h1 | h1 | h1
    · rw [put_lt v h1]
      refine RiseF.cons.2 ⟨fun y hy => ?_, ih hz'⟩
      rcases mem_put f v hz' hy with rfl | hy
      · exact h1
      · exact hx y hy
    · rw [put_eq v hz h1]
      exact RiseF.cons.2 ⟨fun y hy => by have := hx y hy; show f < y.1; omega, hz'⟩
    · rw [put_gt v hz h1]
      refine RiseF.cons.2 ⟨fun y hy => ?_, hz⟩
      rcases List.mem_cons.1 hy with rfl | hy
      · exact h1
      · have := hx y hy; show f < y.1; omega
theorem rise_cut {z : List (Int × Int)} (f : Int) (hz : RiseF z) : RiseF (cutZ z f) := by
  unfold cutZ
  split
  · exact List.Pairwise.sublist (List.eraseIdx_sublist _ _) hz
  · exact hz
theorem fld_above {z : List (Int × Int)} {b : Int} (hz : RiseF z) (h : ∀ y ∈ z, b < y.1) : fldZ z b = Option.none := by
  cases z with
  | nil => rfl
  | cons x z => exact fld_gt hz (h x List.mem_cons_self)
theorem fld_put {z : List (Int × Int)} (f v : Int) (hz : RiseF z) (b : Int) : fldZ (putZ z f v) b = if b = f then some v else fldZ z b := by
  have one : ∀ {y : List (Int × Int)}, RiseF ((f, v) :: y) → (∀ c, f < c → fldZ y c = fldZ z c) → (∀ c, c < f → fldZ z c = Option.none) → fldZ ((f, v) :: y) b = if b = f then some v else fldZ z b := by
    intro y hy h1 h2
    rcases Int.lt_trichotomy f b with h | h | h
    · rw [fld_lt (x := (f, v)) h, if_neg (by omega), h1 b h]
    · rw [fld_eq hy h, if_pos h.symm]
    · rw [fld_gt hy h, if_neg (by omega), h2 b h]
  induction z with
  | nil =>
    rw [putZ_nil]
    exact one (List.pairwise_singleton _ _) (fun _ _ => rfl) (fun _ _ => rfl)
  | cons x z ih =>
    have hr := rise_put f v hz
    obtain ⟨hx, hz'⟩ := RiseF.cons.1 hz
    rcases Int.lt_trichotomy x.1 f with h1 | h1 | h1
    · rw [put_lt v h1] at hr ⊢
      have ih' := ih hz' (by
        intro y hy q1 q2
        rcases Int.lt_trichotomy f b with h | h | h
        · rw [fld_lt (x := (f, v)) h, if_neg (by omega), q1 b h]
        · rw [fld_eq hy h, if_pos h.symm]
        · rw [fld_gt hy h, if_neg (by omega), q2 b h])
      rcases Int.lt_trichotomy x.1 b with h | h | h
      · rw [fld_lt h, fld_lt h, ih']
      · rw [fld_eq hr h, fld_eq hz h, if_neg (by omega)]
      · rw [fld_gt hr h, fld_gt hz h, if_neg (by omega)]
    · rw [put_eq v hz h1] at hr ⊢
      refine one hr (fun c hc => (fld_lt (by omega)).symm) (fun c hc => fld_gt hz (by omega))
    · rw [put_gt v hz h1] at hr ⊢
      exact one hr (fun c hc => rfl) (fun c hc => fld_gt hz (by omega))
theorem fld_cut {z : List (Int × Int)} (f : Int) (hz : RiseF z) (b : Int) : fldZ (cutZ z f) b = if b = f then Option.none else fldZ z b := by
  induction z with
  | nil => unfold cutZ; simp [has_nil, fld_nil]
  | cons x z ih =>
    have hr := rise_cut f hz
    obtain ⟨hx, hz'⟩ := RiseF.cons.1 hz
    rcases Int.lt_trichotomy x.1 f with h1 | h1 | h1
    · rw [cut_lt h1] at hr ⊢
      rcases Int.lt_trichotomy x.1 b with h | h | h
      · rw [fld_lt h, fld_lt h, ih hz']
      · rw [fld_eq hr h, fld_eq hz h, if_neg (by omega)]
      · rw [fld_gt hr h, fld_gt hz h]; split <;> rfl
    · rw [cut_eq hz h1]
      rcases Int.lt_trichotomy x.1 b with h | h | h
      · rw [fld_lt h, if_neg (by omega)]
      · rw [if_pos (by omega), fld_above hz' (fun y hy => by have := hx y hy; omega)]
      · rw [if_neg (by omega), fld_gt hz h, fld_above hz' (fun y hy => by have := hx y hy; omega)]
    · rw [cut_gt hz h1]
      by_cases e : b = f
      · rw [if_pos e, fld_gt hz (by omega)]
      · rw [if_neg e]
theorem fld_mem {z : List (Int × Int)} (hz : RiseF z) (f v : Int) : fldZ z f = some v ↔ (f, v) ∈ z := by
  induction z with
  | nil => simp [fld_nil]
  | cons x z ih =>
    obtain ⟨hx, hz'⟩ := RiseF.cons.1 hz
    rw [List.mem_cons]
    rcases Int.lt_trichotomy x.1 f with h | h | h
    · rw [fld_lt h, ih hz']
      exact ⟨Or.inr, fun hh => hh.resolve_left (fun e => by rw [← e] at h; exact absurd h (Int.lt_irrefl _))⟩
    · rw [fld_eq hz h]
      refine ⟨fun e => Or.inl ?_, fun hh => ?_⟩
      · simp at e; rw [← e, ← h]
      · rcases hh with e | e
        · rw [← e]
        · have := hx _ e; simp at this; omega
    · rw [fld_gt hz h]
      refine ⟨fun e => (by cases e), fun hh => ?_⟩
      rcases hh with e | e
      · rw [← e] at h; exact absurd h (Int.lt_irrefl _)
      · have := hx _ e; simp at this; omega
theorem has_fld (z : List (Int × Int)) (f : Int) : hasT z f = (fldZ z f).isSome := by
  unfold fldZ
  by_cases h : hasT z f = true
  · obtain ⟨a, ha, _⟩ := hasT_some h
    rw [h, if_pos rfl, ha]; rfl
  · rw [if_neg h]; simpa using h

/-- Fields by rising numbers of 0 to 7. -/
def OkF (z : List (Int × Int)) : Prop := RiseF z ∧ ∀ p ∈ z, 0 ≤ p.1 ∧ p.1 < 8
theorem OkF.nil : OkF [] := ⟨List.Pairwise.nil, by simp⟩
theorem OkF.put {z : List (Int × Int)} {f : Int} (v : Int) (h : OkF z) (h0 : 0 ≤ f) (h8 : f < 8) : OkF (putZ z f v) :=
  ⟨rise_put f v h.1, fun p hp => by
    rcases mem_put f v h.1 hp with rfl | hp
    · exact ⟨h0, h8⟩
    · exact h.2 p hp⟩
theorem OkF.cut {z : List (Int × Int)} (f : Int) (h : OkF z) : OkF (cutZ z f) := ⟨rise_cut f h.1, fun p hp => h.2 p (mem_cut f hp)⟩
/-- How many of the numbers below k have a field. -/
def cntF (F : Int → Option Int) (k : Nat) : Nat := (List.range k).countP fun i : Nat => (F (i : Int)).isSome
theorem cntF_succ (F : Int → Option Int) (k : Nat) : cntF F (k + 1) = cntF F k + if (F (k : Int)).isSome then 1 else 0 := by
  unfold cntF
  rw [List.range_succ, List.countP_append]
  simp [List.countP_cons]
theorem cntF_le (F : Int → Option Int) (k : Nat) : cntF F k ≤ k := by
  unfold cntF
  have := List.countP_le_length (p := fun i : Nat => (F (i : Int)).isSome) (l := List.range k)
  rwa [List.length_range] at this
theorem cntF_range (F : Int → Option Int) : ∀ (k m : Nat), m ≤ k → (∀ i : Nat, m ≤ i → i < k → F (i : Int) = Option.none) → cntF F k = cntF F m := by
  intro k
  induction k with
  | zero => intro m hm _; rw [show m = 0 by omega]
  | succ k ih =>
    intro m hm h
    by_cases e : m = k + 1
    · rw [e]
    · rw [cntF_succ, h k (by omega) (by omega), ih m (by omega) (fun i h1 h2 => h i h1 (by omega))]
      simp
theorem len_low {z : List (Int × Int)} (hz : RiseF z) : ∀ (m : Nat), (∀ p ∈ z, (m : Int) ≤ p.1) → ∀ k, m ≤ k → (∀ p ∈ z, p.1 < (k : Int)) → cntF (fldZ z) k = z.length := by
  induction z with
  | nil =>
    intro m _ k _ _
    have := cntF_range (fldZ []) k 0 (by omega) (fun i _ _ => rfl)
    rw [this]; rfl
  | cons x z ih =>
    intro m hm k hk h
    obtain ⟨hx, hz'⟩ := RiseF.cons.1 hz
    have hx0 := hm x List.mem_cons_self
    have hxk := h x List.mem_cons_self
    obtain ⟨n, hn⟩ : ∃ n : Nat, (n : Int) = x.1 := ⟨x.1.toNat, by omega⟩
    have h1 := ih hz' (n + 1) (fun p hp => by have := hx p hp; omega) k (by omega) (fun p hp => h p (List.mem_cons_of_mem _ hp))
    rw [List.length_cons, ← h1]
    -- up to n nothing, at n one, behind n alike
    have key : ∀ j : Nat, cntF (fldZ (x :: z)) (n + 1 + j) = cntF (fldZ z) (n + 1 + j) + 1 := by
      intro j
      induction j with
      | zero =>
        rw [Nat.add_zero, cntF_succ, cntF_succ, hn, fld_eq hz rfl, fld_above hz' (fun y hy => by have := hx y hy; omega)]
        have e1 := cntF_range (fldZ (x :: z)) n 0 (by omega) (fun i _ hi => fld_gt hz (by omega))
        have e2 := cntF_range (fldZ z) n 0 (by omega) (fun i _ hi => fld_above hz' (fun y hy => by have := hx y hy; omega))
        rw [e1, e2]
        simp [cntF]
      | succ j ihj =>
        rw [← Nat.add_assoc, cntF_succ, cntF_succ, ihj, fld_lt (by omega)]
        omega
    have := key (k - (n + 1))
    rwa [show n + 1 + (k - (n + 1)) = k by omega] at this
theorem OkF.len {z : List (Int × Int)} (h : OkF z) : cntF (fldZ z) 8 = z.length := len_low h.1 0 (fun p hp => (h.2 p hp).1) 8 (by omega) (fun p hp => (h.2 p hp).2)
theorem OkF.le {z : List (Int × Int)} (h : OkF z) : z.length ≤ 8 := by have := h.len; have := cntF_le (fldZ z) 8; omega
end Go.Proofs.YtdogecaonlmalaaGreat

namespace Go.Proofs.YtdogecaonlmalaaGreat
open Go.RowKit Go.MapKept Go.ChangeMaps

/-- Dictionaries at g; the blocks E are the law's own. -/
structure Dh (w W : World) (g : Nat) (E : Nat → Prop) (fd : K3 → List (Int × Int)) (N : Nat) : Prop where
  d : DiS W (fun k => g ≤ k ∧ ¬ E k) g fd N
  lt : ∀ k, E k → k < W.heap.size
  gw : w.heap.size ≤ g
  b : Below w.heap.size w W
  ok : ∀ k, OkF (fd k)
section
variable {w W : World} {g N : Nat} {E : Nat → Prop} {fd : K3 → List (Int × Int)}
theorem DiS.here {W : World} {O : Nat → Prop} {g N : Nat} {fd : K3 → List (Int × Int)} (h : DiS W O g fd N) : g < W.heap.size := by
  obtain ⟨mo, l, c, h⟩ := h
  exact lt_of_heap h.obj
theorem Dh.later {W' : World} (h : Dh w W g E fd N) (hb : Below W.heap.size W W') : Dh w W' g E fd N :=
  ⟨RmS.later h.d hb, fun k hk => Nat.lt_of_lt_of_le (h.lt k hk) hb.size, h.gw, h.b.trans (hb.mono h.b.size), h.ok⟩
theorem Dh.out (h : Dh w W g E fd N) : ∀ k, W.heap.size ≤ k → g ≤ k ∧ ¬ E k := fun k hk => ⟨by have := DiS.here h.d; omega, fun e => by have := h.lt k e; omega⟩
/-- One more block is the law's own. -/
theorem Dh.box (h : Dh w W g E fd N) (o : Obj) : Dh w (W.alloc o) g (fun k => E k ∨ k = W.heap.size) fd N := by
  have hb := below_alloc W o W.heap.size (Nat.le_refl _)
  have h1 := h.later hb
  have hl : DiS W (fun k => g ≤ k ∧ ¬ (E k ∨ k = W.heap.size)) g fd N := RmS.sub h.d (fun k hk hl => ⟨hk.1, fun e => by
    rcases e with e | e
    · exact hk.2 e
    · omega⟩)
  refine ⟨RmS.later hl hb, ?_, h.gw, h1.b, h.ok⟩
  rintro k (e | e)
  · exact h1.lt k e
  · subst e; simp
theorem Dh.drop {E' : Nat → Prop} (h : Dh w W g E fd N) (hE : ∀ j, E' j → E j) : Dh w W g E' fd N :=
  ⟨RmS.sub h.d (fun k hk _ => ⟨hk.1, fun e => hk.2 (hE k e)⟩), fun j hj => h.lt j (hE j hj), h.gw, h.b, h.ok⟩
/-- The law writes into what is its own. -/
theorem Dh.turn {W' : World} (h : Dh w W g E fd N) (ht : Tch E W W') (hE : ∀ k, E k → w.heap.size ≤ k) : Dh w W' g E fd N :=
  ⟨RmS.tch h.d ht (fun k hk _ e => hk.2 e), fun k hk => Nat.lt_of_lt_of_le (h.lt k hk) ht.size, h.gw, h.b.trans (ht.below (fun k hk e => by have := hE k e; omega) h.b.size), h.ok⟩
theorem Dh.put (h : Dh w W g E fd N) (k : K3) (f n : Int) (h0 : 0 ≤ f) (h8 : f < 8) :
    Calls Tryz.prog 6 #[.pointer (some ⟨g, 0, none⟩), k3E k, .int .i64 f, .int .i64 n] W fun e w' => e = .returned (.int .i64 0) ∧ Dh w w' g E (updR fd k (putZ (fd k) f n)) (N + 1) ∧ Tch (fun k => g ≤ k ∧ ¬ E k) W w' := by
  refine (dictPut _ g N fd k f n W h.d h.out (h.ok k).1 (by have := (h.ok k).le; omega) h0 h8).mono ?_
  rintro e w' ⟨r1, r2, r3⟩
  refine ⟨r1, ⟨r2, fun k hk => Nat.lt_of_lt_of_le (h.lt k hk) r3.size, h.gw, h.b.trans (r3.below (fun k hk e => by have := h.gw; omega) h.b.size), fun j => ?_⟩, r3⟩
  unfold updR
  by_cases e : j = k
  · rw [if_pos e]; exact (h.ok k).put n h0 h8
  · rw [if_neg e]; exact h.ok j
theorem Dh.cut (h : Dh w W g E fd N) (k : K3) (f : Int) :
    Calls Tryz.prog 7 #[.pointer (some ⟨g, 0, none⟩), k3E k, .int .i64 f] W fun e w' => e = .returned (.bool (fldZ (fd k) f).isSome) ∧ Dh w w' g E (updR fd k (cutZ (fd k) f)) (N + 1) ∧ Tch (fun k => g ≤ k ∧ ¬ E k) W w' := by
  refine (dictCut _ g N fd k f W h.d h.out (h.ok k).1 (by have := (h.ok k).le; omega)).mono ?_
  rintro e w' ⟨r1, r2, r3⟩
  refine ⟨by rw [r1, has_fld], ⟨r2, fun k hk => Nat.lt_of_lt_of_le (h.lt k hk) r3.size, h.gw, h.b.trans (r3.below (fun k hk e => by have := h.gw; omega) h.b.size), fun j => ?_⟩, r3⟩
  unfold updR
  by_cases e : j = k
  · rw [if_pos e]; exact (h.ok k).cut f
  · rw [if_neg e]; exact h.ok j
theorem Dh.field (h : Dh w W g E fd N) (k : K3) (f : Int) :
    Calls Tryz.prog 11 #[.pointer (some ⟨g, 0, none⟩), k3E k, .int .i64 f] W fun e w' => e = .returned (.tuple #[.int .i64 ((fldZ (fd k) f).getD 0), .bool (fldZ (fd k) f).isSome]) ∧ Below W.heap.size W w' :=
  dictField _ g N fd k f W h.d (h.ok k).1 (by have := (h.ok k).le; omega)
theorem Dh.dict (h : Dh w W g E fd N) (k : K3) :
    Calls Tryz.prog 9 #[.pointer (some ⟨g, 0, none⟩), k3E k] W fun e w' => ∃ p c, e = .returned (.slice p (fd k).length c) ∧ OwnF w' W.heap.size (.slice p (fd k).length c) (fd k) ∧ Below W.heap.size W w' := by
  refine (dictDict _ g N fd k W h.d (by have := (h.ok k).le; omega)).mono ?_
  rintro e w' ⟨v, r1, r2, r3⟩
  obtain ⟨p, c, rfl, _⟩ := RowF.rd r2.row
  exact ⟨p, c, r1, r2, r3⟩
end
theorem Dh.new (w w1 : World) (hb : Below w.heap.size w w1) : Dh w (w1.alloc (rmObj 69 none)) w1.heap.size (fun _ => False) (fun _ => []) 0 :=
  ⟨RmS.new w1 _ ⟨Nat.le_refl _, fun e => e⟩, fun _ e => e.elim, hb.size, hb.trans (below_alloc _ _ _ hb.size), fun _ => OkF.nil⟩
end Go.Proofs.YtdogecaonlmalaaGreat
