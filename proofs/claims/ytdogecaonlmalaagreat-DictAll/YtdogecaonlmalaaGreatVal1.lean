/- What package value does. -/
import Derived.Test.YtdogecaonlmalaaGreatKeyS
import Derived.Test.YtdogecaonlmalaaGreatMapF
namespace Go.Proofs.YtdogecaonlmalaaGreat
open Go.RowKit Go.MapKept Go.ChangeMaps

def vlObj (mo : Option Nat) : Obj := .cells #[.map mo] 79 (0, 0)

/-- Values at g: its map, all its blocks among O. -/
structure Vl (w : World) (O : Nat → Prop) (g : Nat) (f : K3 → Option Int) (N : Nat) (mo : Option Nat) (l : List (Ent K3)) (c : Nat) : Prop where
  obj : w.heap[g]? = some (vlObj mo)
  own : O g
  made : ∀ r, mo = some r → O r ∧ r ≠ g ∧ Mp k3E w r l c
  none : mo = none → l = []
  at' : ∀ k, atE l k = (f k).map (Value.int .i64)
  len : l.length ≤ N
def VlS (w : World) (O : Nat → Prop) (g : Nat) (f : K3 → Option Int) (N : Nat) : Prop := ∃ mo l c, Vl w O g f N mo l c

theorem Vl.tch {S : Nat → Prop} {w w' : World} {O : Nat → Prop} {g N : Nat} {f : K3 → Option Int} {mo : Option Nat} {l : List (Ent K3)} {c : Nat} (h : Vl w O g f N mo l c) (ht : Tch S w w') (hS : ∀ k, O k → ¬ S k) : Vl w' O g f N mo l c :=
  ⟨ht.old h.obj (hS g h.own), h.own, fun r e => ⟨(h.made r e).1, (h.made r e).2.1, (h.made r e).2.2.at (ht.block r (h.made r e).2.2.lt (hS r (h.made r e).1))⟩, h.none, h.at', h.len⟩
theorem Vl.later {w w' : World} {O : Nat → Prop} {g N : Nat} {f : K3 → Option Int} {mo : Option Nat} {l : List (Ent K3)} {c : Nat} (h : Vl w O g f N mo l c) (hb : Below w.heap.size w w') : Vl w' O g f N mo l c :=
  h.tch (S := fun _ => False) (Below.tch hb) (fun _ _ e => e)
theorem VlS.later {w w' : World} {O : Nat → Prop} {g N : Nat} {f : K3 → Option Int} (h : VlS w O g f N) (hb : Below w.heap.size w w') : VlS w' O g f N := by
  obtain ⟨mo, l, c, h⟩ := h
  exact ⟨mo, l, c, h.later hb⟩
theorem VlS.tch {S : Nat → Prop} {w w' : World} {O : Nat → Prop} {g N : Nat} {f : K3 → Option Int} (h : VlS w O g f N) (ht : Tch S w w') (hS : ∀ k, O k → ¬ S k) : VlS w' O g f N := by
  obtain ⟨mo, l, c, h⟩ := h
  exact ⟨mo, l, c, h.tch ht hS⟩

theorem vl_cell {w : World} {g : Nat} {mo : Option Nat} (h : w.heap[g]? = some (vlObj mo)) : w.cell? ⟨g, 0, none⟩ = some (.map mo) ∧ w.frozen? ⟨g, 0, none⟩ = false := by
  refine ⟨?_, ?_⟩ <;> simp [World.cell?, World.frozen?, h, vlObj]
theorem vl_set {w : World} {g : Nat} {mo : Option Nat} (h : w.heap[g]? = some (vlObj mo)) (m : Option Nat) : (w.setCell ⟨g, 0, none⟩ (.map m)).heap[g]? = some (vlObj m) := by
  obtain ⟨hlt, he⟩ := Array.getElem?_eq_some_iff.1 h
  simp [World.setCell, Array.getElem_modify, hlt, he, vlObj]

theorem zeroI (w : World) : (zeroValue 2).run Tryz.prog w = .ok (.int .i64 0) w := by
  have hz : Tryz.t2.zero = some (.int .i64 0) := by kernel_rfl
  simp [zeroValue, hz]

set_option maxRecDepth 100000 in
theorem valueNew (w : World) : Calls Tryz.prog 12 #[] w fun e w' => e = .returned (.pointer (some ⟨w.heap.size, 0, none⟩)) ∧ w' = w.alloc (vlObj none) := by
  go_enter Tryz.func12, Tryz.ntmps12
  go_wp2
  go_ret
  exact ⟨rfl, rfl⟩
theorem VlS.new (w : World) (O : Nat → Prop) (hO : O w.heap.size) : VlS (w.alloc (vlObj none)) O w.heap.size (fun _ => none) 0 :=
  ⟨none, [], 0, heap_alloc_new w _, hO, fun r e => (by cases e), fun _ => rfl, fun k => rfl, Nat.le_refl _⟩

set_option maxRecDepth 100000 in
/-- Value. -/
theorem valueGet (O : Nat → Prop) (g N : Nat) (f : K3 → Option Int) (k : K3) (w : World) (h : VlS w O g f N) :
    Calls Tryz.prog 17 #[.pointer (some ⟨g, 0, none⟩), k3E k] w fun e w' => e = .returned (.tuple #[.int .i64 ((f k).getD 0), .bool (f k).isSome]) ∧ Below w.heap.size w w' := by
  obtain ⟨mo, l, c, h⟩ := h
  have hb := below_alloc w (k3O k) w.heap.size (Nat.le_refl _)
  have h1 := h.later hb
  obtain ⟨q0, _⟩ := vl_cell h1.obj
  have hbx := heap_alloc_new w (k3O k)
  obtain ⟨x0, x1, x2⟩ := cells_three hbx
  have lk : ∀ n, (Instr.lookup 77 (.map mo) (k3E k) true).run Tryz.prog ((w.alloc (k3O k)).drewN n) = .ok (.tuple #[.int .i64 ((f k).getD 0), .bool (f k).isSome]) ((w.alloc (k3O k)).drewN n) := by
    intro n
    have hD := below_drewN (Below.refl (w.alloc (k3O k)).heap.size (w.alloc (k3O k))) n
    have h2 := h1.later hD
    have ha := h2.at' k
    have e : ((atE l k).getD (.int .i64 0) = .int .i64 ((f k).getD 0)) ∧ (atE l k).isSome = (f k).isSome := by
      rw [ha]; cases f k <;> exact ⟨rfl, rfl⟩
    cases mo with
    | none =>
      have := look_nilE k3Keyd undV (zeroI ((w.alloc (k3O k)).drewN n)) k true
      rw [h2.none rfl] at e
      simp only [atE_nil, Option.getD_none, Option.isSome_none] at e
      rw [← e.1, ← e.2]
      exact this
    | some r =>
      have := (h2.made r rfl).2.2.look k3Keyd undV (zeroI ((w.alloc (k3O k)).drewN n)) k true
      rw [← e.1, ← e.2]
      exact this
  have HB := hide hb
  clear h h1 hbx hb
  unfold k3O k3E at *
  generalize (f k).getD 0 = vn at *
  generalize (f k).isSome = vb at *
  go_enter Tryz.func17, Tryz.ntmps17
  go_wp2
  go_quiet (fail)
  have lk' := lk nq
  go_wp2
  go_ret2
  exact ⟨rfl, below_drewN HB.out _⟩

def updK (f : K3 → Option Int) (k : K3) (n : Option Int) : K3 → Option Int := fun b => if b = k then n else f b

theorem Vl.put {w : World} {O : Nat → Prop} {g N r : Nat} {f : K3 → Option Int} {l : List (Ent K3)} {c : Nat} (h : Vl w O g f N (some r) l c) (k : K3) (n : Int) :
    ∃ w', (Instr.mapUpdate 77 (.map (some r)) (k3E k) (.int .i64 n)).run Tryz.prog w = .ok () w' ∧ VlS w' O g (updK f k (some n)) (N + 1) ∧ Tch O w w' := by
  obtain ⟨o1, o2, hm⟩ := h.made r rfl
  obtain ⟨w', l', c', h1, h2, h3, h4, h5⟩ := hm.upd2 k3Keyd undV k (.int .i64 n)
  refine ⟨w', h1, ⟨some r, l', c', (Tch.of h3).old h.obj (fun e => o2 (Option.some.inj e).symm), h.own, fun r' e => (by cases e; exact ⟨o1, o2, h2⟩), fun e => (by cases e), fun b => ?_, by have := h.len; omega⟩, (Tch.of h3).mono (fun k _ e => (Option.some.inj e).symm ▸ o1)⟩
  rw [h4 b, updK]
  by_cases e : b = k
  · rw [if_pos e, if_pos e]; rfl
  · rw [if_neg e, if_neg e]; exact h.at' b

set_option maxRecDepth 100000 in
set_option maxHeartbeats 800000 in
/-- Set. -/
theorem valueSet (O : Nat → Prop) (g N : Nat) (f : K3 → Option Int) (k : K3) (n : Int) (w : World) (h : VlS w O g f N) (hO : ∀ k, w.heap.size ≤ k → O k) :
    Calls Tryz.prog 16 #[.pointer (some ⟨g, 0, none⟩), k3E k, .int .i64 n] w fun e w' => e = .returned (.tuple #[]) ∧ VlS w' O g (updK f k (some n)) (N + 1) ∧ Tch O w w' := by
  have hmm := @run_makeMap Tryz.prog
  have hnm := fun (W : World) (r : Option Nat) => run_eql_map_nil (P := Tryz.prog) W 77 28 2 r undV
  obtain ⟨mo, l, c, h⟩ := h
  have hb := below_alloc w (k3O k) w.heap.size (Nat.le_refl _)
  have h1 := h.later hb
  obtain ⟨q0, qf⟩ := vl_cell h1.obj
  have hbx := heap_alloc_new w (k3O k)
  have hglt := lt_of_heap h.obj
  cases mo with
  | some r =>
    obtain ⟨x0, x1, x2⟩ := cells_three hbx
    obtain ⟨W', mu, hV, hT⟩ := (h1.later (Below.refl (w.alloc (k3O k)).heap.size (w.alloc (k3O k))).drew).put k n
    have HV := hide hV
    have HT : Hid (Tch O w W') := ((Below.tch hb).trans (Below.tch (Below.refl (w.alloc (k3O k)).heap.size (w.alloc (k3O k))).drew)).trans hT
    clear h h1 hbx hb hV hT hO
    unfold k3O k3E at *
    go_enter Tryz.func16, Tryz.ntmps16
    go_wp2
    go_region_with (fail)
    all_goals
      go_wp2
      go_end0
      exact ⟨rfl, HV.out, HT.out⟩
  | none =>
    have hl := h.none rfl
    subst hl
    have hf : ∀ k, f k = none := fun k => by
      have := h.at' k
      rw [atE_nil] at this
      cases hk : f k with
      | none => rfl
      | some x => rw [hk] at this; cases this
    have hs0 : (w.setCell ⟨g, 0, none⟩ (.map (some (w.heap.size + 1)))).heap.size = w.heap.size := by simp [World.setCell]
    have hs1 : ((w.setCell ⟨g, 0, none⟩ (.map (some (w.heap.size + 1)))).alloc (k3O k)).heap.size = w.heap.size + 1 := by simp [hs0]
    have hT2 : Tch O w (((w.setCell ⟨g, 0, none⟩ (.map (some (w.heap.size + 1)))).alloc (k3O k)).alloc (.map #[] 0)) :=
      (((Tch.of (grown_setCell w g 0 (.map (some (w.heap.size + 1))))).mono (fun k _ e => (Option.some.inj e).symm ▸ h.own)).trans (Below.tch (below_alloc _ _ _ (Nat.le_refl _)))).trans (Below.tch (below_alloc _ _ _ (Nat.le_refl _)))
    have h2 : Vl (((w.setCell ⟨g, 0, none⟩ (.map (some (w.heap.size + 1)))).alloc (k3O k)).alloc (.map #[] 0)) O g f N (some (w.heap.size + 1)) [] 0 := by
      refine ⟨?_, h.own, fun r e => ?_, fun e => (by cases e), fun k => by rw [hf k]; rfl, h.len⟩
      · rw [Below.heap_alloc _ _ _ (by rw [hs1]; omega), Below.heap_alloc _ _ _ (by rw [hs0]; omega)]
        exact vl_set h.obj _
      · cases e
        have hmp := Mp.new (E := k3E) ((w.setCell ⟨g, 0, none⟩ (.map (some (w.heap.size + 1)))).alloc (k3O k))
        rw [hs1] at hmp
        exact ⟨hO _ (by omega), by omega, hmp⟩
    have hbx2 : (((w.setCell ⟨g, 0, none⟩ (.map (some (w.heap.size + 1)))).alloc (k3O k)).alloc (.map #[] 0)).heap[w.heap.size]? = some (k3O k) := by
      rw [Below.heap_alloc _ _ _ (by rw [hs1]; omega)]
      have := heap_alloc_new (w.setCell ⟨g, 0, none⟩ (.map (some (w.heap.size + 1)))) (k3O k)
      rwa [hs0] at this
    obtain ⟨x0, x1, x2⟩ := cells_three hbx2
    obtain ⟨y0, _⟩ := vl_cell h2.obj
    obtain ⟨W', mu, hV, hT⟩ := (h2.later (Below.refl _ _).drew).put k n
    have HV := hide hV
    have HT : Hid (Tch O w W') := (hT2.trans (Below.tch (Below.refl _ _).drew)).trans hT
    clear h h1 h2 hbx hbx2 hb hV hT hT2 hO hf hs1 hs0
    unfold k3O k3E at *
    go_enter Tryz.func16, Tryz.ntmps16
    go_wp2
    go_region_with (fail)
    all_goals
      go_wp2
      go_end0
      exact ⟨rfl, HV.out, HT.out⟩

theorem Vl.cut {w : World} {O : Nat → Prop} {g N r : Nat} {f : K3 → Option Int} {l : List (Ent K3)} {c : Nat} (h : Vl w O g f N (some r) l c) (k : K3) :
    ∃ w', (∀ ty, (Builtin.delete_ #[77, 28] ty #[.map (some r), k3E k]).run Tryz.prog w = .ok (.tuple #[]) w') ∧ VlS w' O g (updK f k Option.none) N ∧ Tch O w w' := by
  obtain ⟨o1, o2, hm⟩ := h.made r rfl
  obtain ⟨w', h1, h2, h3⟩ := hm.del k3Keyd undV 0 k
  refine ⟨w', fun ty => ?_, ⟨some r, delE l k, c, (Tch.of h3).old h.obj (fun e => o2 (Option.some.inj e).symm), h.own, fun r' e => (by cases e; exact ⟨o1, o2, h2⟩), fun e => (by cases e), fun b => ?_, Nat.le_trans (by unfold delE; exact List.length_filter_le _ _) h.len⟩, (Tch.of h3).mono (fun k _ e => (Option.some.inj e).symm ▸ o1)⟩
  · exact h1
  · rw [atE_delE, updK]
    by_cases e : b = k
    · rw [if_pos e, if_pos e]; rfl
    · rw [if_neg e, if_neg e]; exact h.at' b

set_option maxRecDepth 100000 in
set_option maxHeartbeats 800000 in
/-- Unset. -/
theorem valueUnset (O : Nat → Prop) (g N : Nat) (f : K3 → Option Int) (k : K3) (w : World) (h : VlS w O g f N) :
    Calls Tryz.prog 51 #[.pointer (some ⟨g, 0, none⟩), k3E k] w fun e w' => e = .returned (.bool (f k).isSome) ∧ VlS w' O g (updK f k none) N ∧ Tch O w w' := by
  have hb := below_alloc w (k3O k) w.heap.size (Nat.le_refl _)
  have HG := hide (valueGet O g N f k _ (h.later hb))
  have HH := hide h
  have HB := hide hb
  have hbx := heap_alloc_new w (k3O k)
  have HX := hide hbx
  obtain ⟨x0, x1, x2⟩ := cells_three hbx
  clear h hb hbx
  cases hfk : f k with
  | none =>
    rw [hfk] at HG
    have HE : Hid (updK f k none = f) := by
      show _ = _
      funext b
      unfold updK
      by_cases e : b = k
      · rw [if_pos e, e, hfk]
      · rw [if_neg e]
    simp only [Option.getD_none, Option.isSome_none] at *
    unfold k3O k3E at *
    go_enter Tryz.func51, Tryz.ntmps51
    go_wp2_with fail
    refine HG.out.mono ?_
    rintro e w1 ⟨rfl, hb1⟩
    have HV : Hid (VlS w1 O g f N ∧ Tch O w w1) := ⟨(HH.out.later HB.out).later hb1, (Below.tch HB.out).trans (Below.tch hb1)⟩
    clear hb1 HG HH HB x0 x1 x2
    go_wp2
    go_ret
    exact ⟨rfl, by rw [HE.out]; exact HV.out.1, HV.out.2⟩
  | some z =>
    rw [hfk] at HG
    simp only [Option.getD_some, Option.isSome_some] at *
    unfold k3O k3E at *
    go_enter Tryz.func51, Tryz.ntmps51
    go_wp2_with fail
    refine HG.out.mono ?_
    rintro e w1 ⟨rfl, hb1⟩
    obtain ⟨mo, l, c, h1⟩ := (HH.out.later HB.out).later hb1
    have hmo : ∃ r, mo = some r := by
      cases mo with
      | some r => exact ⟨r, rfl⟩
      | none =>
        have h2 := h1.at' k
        rw [h1.none rfl, atE_nil, hfk] at h2
        cases h2
    obtain ⟨r, rfl⟩ := hmo
    obtain ⟨q0, _⟩ := vl_cell h1.obj
    have hbx1 : w1.heap[w.heap.size]? = _ := (hb1.block _ (by simp)).trans HX.out
    obtain ⟨y0, y1, y2⟩ := cells_three hbx1
    obtain ⟨W', de, hV, hT⟩ := (h1.later (Below.refl w1.heap.size w1).drew).cut k
    have HV := hide hV
    have HT : Hid (Tch O w W') := (((Below.tch HB.out).trans (Below.tch hb1)).trans (Below.tch (Below.refl w1.heap.size w1).drew)).trans hT
    unfold k3E at de
    clear hb1 HG HH HB x0 x1 x2 h1 hbx1 hV hT HX
    go_wp2
    go_region_with (fail)
    all_goals
      go_wp2
      go_ret
      exact ⟨rfl, HV.out, HT.out⟩

set_option maxRecDepth 100000 in
/-- ValueKeys. -/
theorem valueKeys (O : Nat → Prop) (g N : Nat) (f : K3 → Option Int) (w : World) (h : VlS w O g f N) (hN : N ≤ 1000) :
    Calls Tryz.prog 53 #[.pointer (some ⟨g, 0, none⟩)] w fun e w' => ∃ v ks, e = .returned v ∧ (∀ k, k ∈ ks ↔ f k ≠ none) ∧ RiseK ks ∧ OwnK w' w.heap.size v ks ∧ Below w.heap.size w w' := by
  obtain ⟨mo, l, c, h⟩ := h
  obtain ⟨q0, _⟩ := vl_cell h.obj
  have hat : ∀ k, k ∈ l.map Ent.k ↔ f k ≠ none := fun k => by
    rw [atE_key, h.at' k]
    cases f k <;> simp
  have HAT := hide hat
  cases mo with
  | some r =>
    have HS := hide (sortedV r l c w (h.made r rfl).2.2 (by have := h.len; omega))
    clear h hat
    go_enter Tryz.func53, Tryz.ntmps53
    go_wp2_with fail
    refine HS.out.mono ?_
    rintro e w1 ⟨v, ks, rfl, k1, k2, k3, k4⟩
    have H1 : Hid (∀ k, k ∈ ks ↔ f k ≠ none) := fun k => k1.mem_iff.trans (HAT.out k)
    have H2 := hide k2
    have H3 := hide k3
    have H4 := hide k4
    clear k1 k2 k3 k4 HS
    go_wp2
    go_ret
    exact ⟨v, ks, rfl, H1.out, H2.out, H3.out, H4.out⟩
  | none =>
    have hl := h.none rfl
    subst hl
    clear h hat
    go_enter Tryz.func53, Tryz.ntmps53
    go_wp2_with fail
    refine (sortedNilV w).mono ?_
    rintro e w1 ⟨v, rfl, k3, k4⟩
    have H3 := hide k3
    have H4 := hide k4
    clear k3 k4
    go_wp2
    go_ret
    exact ⟨v, [], rfl, fun k => by have := HAT.out k; simpa using this, List.Pairwise.nil, H3.out, H4.out⟩
end Go.Proofs.YtdogecaonlmalaaGreat
