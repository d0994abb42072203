/- Load of a state: of cells that may be, and of others. -/
import Derived.Test.YtiofkcmdgijjoaaGreatStaF
import Derived.Test.YtiofkcmdgijjoaaGreatLdM
namespace Go.Proofs.YtiofkcmdgijjoaaGreat
open Go.RowKit Go.MapKept Go.ChangeMaps

theorem rise_of : ∀ (l : List K3), (∀ i a b, l[i]? = some a → l[i + 1]? = some b → k3Less a b = true) → RiseK l
  | [], _ => List.Pairwise.nil
  | x :: l, h => by
    have ih := rise_of l (fun i a b ha hb => h (i + 1) a b (by simpa using ha) (by simpa using hb))
    refine List.Pairwise.cons (fun y hy => ?_) ih
    cases l with
    | nil => cases hy
    | cons z l =>
      have h0 := h 0 x z rfl rfl
      rcases List.mem_cons.1 hy with rfl | hy
      · exact h0
      · exact lessK_trans _ _ _ h0 ((List.pairwise_cons.1 ih).1 y hy)
theorem riseF_of : ∀ (l : List (Int × Int)), (∀ i a b, l[i]? = some a → l[i + 1]? = some b → a.1 < b.1) → RiseF l
  | [], _ => List.Pairwise.nil
  | x :: l, h => by
    have ih := riseF_of l (fun i a b ha hb => h (i + 1) a b (by simpa using ha) (by simpa using hb))
    refine List.Pairwise.cons (fun y hy => ?_) ih
    cases l with
    | nil => cases hy
    | cons z l =>
      have h0 := h 0 x z rfl rfl
      rcases List.mem_cons.1 hy with rfl | hy
      · exact h0
      · have := (List.pairwise_cons.1 ih).1 y hy
        omega
theorem fldT_ok {d : List (Int × Int)} (h : FldT d d.length) : OkF d := by
  refine ⟨riseF_of d (fun i a b ha hb => (h (i + 1) b (List.getElem?_eq_some_iff.1 hb).1 hb).2 i a rfl ha), fun p hp => ?_⟩
  obtain ⟨i, hi⟩ := List.getElem?_of_mem hp
  exact (h i p (List.getElem?_eq_some_iff.1 hi).1 hi).1
/-- What some cells make. -/
def ofC (cs : List Cl) : Ab :=
  ⟨fun k => match cs.find? (fun c => decide (c.k = k)) with | some c => c.v | Option.none => Option.none,
   fun k => match cs.find? (fun c => decide (c.k = k)) with | some c => c.l | Option.none => [],
   fun k => match cs.find? (fun c => decide (c.k = k)) with | some c => c.d | Option.none => []⟩
theorem find_self : ∀ (cs : List Cl), (cs.map Cl.k).Nodup → ∀ c ∈ cs, cs.find? (fun x => decide (x.k = c.k)) = some c
  | [], _, c, hc => by cases hc
  | x :: cs, hn, c, hc => by
    rw [List.map_cons, List.nodup_cons] at hn
    by_cases e : x.k = c.k
    · rcases List.mem_cons.1 hc with rfl | hc
      · rw [List.find?_cons_of_pos (by simp)]
      · exact absurd (by rw [e]; exact List.mem_map.2 ⟨c, hc, rfl⟩) hn.1
    · rcases List.mem_cons.1 hc with rfl | hc
      · exact absurd rfl e
      · rw [List.find?_cons_of_neg (by simpa using e)]
        exact find_self cs hn.2 c hc
theorem ofC_at {cs : List Cl} (hn : (cs.map Cl.k).Nodup) {c : Cl} (hc : c ∈ cs) : (ofC cs).at c.k = c := by
  have h := find_self cs hn c hc
  unfold ofC Ab.at
  simp only [h]
theorem ofC_not {cs : List Cl} {k : K3} (hk : k ∉ cs.map Cl.k) : (ofC cs).V k = Option.none ∧ (ofC cs).L k = [] ∧ (ofC cs).D k = [] := by
  have h : cs.find? (fun c => decide (c.k = k)) = Option.none := by
    rw [List.find?_eq_none]
    intro c hc e
    exact hk (List.mem_map.2 ⟨c, hc, by simpa using e⟩)
  unfold ofC
  refine ⟨?_, ?_, ?_⟩ <;> simp only [h]
/-- Cells that may be. -/
structure LdOK (cs : List Cl) : Prop where
  rise : RiseK (cs.map Cl.k)
  some : ∀ c ∈ cs, c.v ≠ none ∨ c.l ≠ [] ∨ c.d ≠ []
  l : ∀ c ∈ cs, c.l.length ≤ 100
  d : ∀ c ∈ cs, OkF c.d
theorem LdOK.all {cs : List Cl} (h : LdOK cs) : Kof (ofC cs) (cs.map Cl.k) ∧ (cs.map Cl.k).map (ofC cs).at = cs ∧ AbOK (ofC cs) ∧ ∀ k, ((ofC cs).L k).length ≤ 100 := by
  have hn := h.rise.nodup
  have hat : (cs.map Cl.k).map (ofC cs).at = cs := by
    rw [List.map_map]
    conv => rhs; rw [← List.map_id cs]
    exact List.map_congr_left (fun c hc => ofC_at hn hc)
  have key : ∀ k, (k ∈ cs.map Cl.k ∧ ∃ c ∈ cs, c.k = k ∧ (ofC cs).V k = c.v ∧ (ofC cs).L k = c.l ∧ (ofC cs).D k = c.d) ∨ (k ∉ cs.map Cl.k) := fun k => by
    by_cases hk : k ∈ cs.map Cl.k
    · left
      obtain ⟨c, hc, rfl⟩ := List.mem_map.1 hk
      have e := ofC_at hn hc
      exact ⟨hk, c, hc, rfl, congrArg Cl.v e, congrArg Cl.l e, congrArg Cl.d e⟩
    · exact Or.inr hk
  refine ⟨⟨h.rise, fun k => ?_⟩, hat, fun k => ?_, fun k => ?_⟩
  · rcases key k with ⟨hk, c, hc, _, e1, e2, e3⟩ | hk
    · refine ⟨fun _ => ?_, fun _ => hk⟩
      rw [e1, e2, e3]
      exact h.some c hc
    · obtain ⟨e1, e2, e3⟩ := ofC_not hk
      exact ⟨fun e => absurd e hk, fun e => by rcases e with e | e | e; exact absurd e1 e; exact absurd e2 e; exact absurd e3 e⟩
  · rcases key k with ⟨hk, c, hc, _, e1, e2, e3⟩ | hk
    · rw [e3]; exact h.d c hc
    · rw [(ofC_not hk).2.2]; exact ⟨List.Pairwise.nil, fun p hp => by cases hp⟩
  · rcases key k with ⟨hk, c, hc, _, e1, e2, e3⟩ | hk
    · rw [e2]; exact h.l c hc
    · rw [(ofC_not hk).2.1]; exact Nat.zero_le _
theorem csT_ld {cs : List Cw} (h : CsT cs cs.length) : LdOK (cs.map Cw.cl) ∧ ∀ c ∈ cs, c.h = false → c.v = 0 := by
  have hc : ∀ c ∈ cs, CelOK c := fun c hc => by
    obtain ⟨i, hi⟩ := List.getElem?_of_mem hc
    exact (h i c (List.getElem?_eq_some_iff.1 hi).1 hi).1
  refine ⟨⟨rise_of _ (fun i a b ha hb => ?_), fun x hx => ?_, fun x hx => ?_, fun x hx => ?_⟩, fun c hm hh => ?_⟩
  · rw [List.map_map, List.getElem?_map] at ha hb
    obtain ⟨c, hc1, rfl⟩ := Option.map_eq_some_iff.1 ha
    obtain ⟨c', hc2, rfl⟩ := Option.map_eq_some_iff.1 hb
    exact (h (i + 1) c' (List.getElem?_eq_some_iff.1 hc2).1 hc2).2 i c rfl hc1
  · obtain ⟨c, hm, rfl⟩ := List.mem_map.1 hx
    rcases (hc c hm).2.1 with e | e | e
    · exact Or.inl (by unfold Cw.cl; rw [e]; simp)
    · exact Or.inr (Or.inl (fun e2 => by have e3 : c.l = [] := e2; rw [e3] at e; simp at e))
    · exact Or.inr (Or.inr (fun e2 => by have e3 : c.d = [] := e2; rw [e3] at e; simp at e))
  · obtain ⟨c, hm, rfl⟩ := List.mem_map.1 hx
    exact (hc c hm).2.2.2.1
  · obtain ⟨c, hm, rfl⟩ := List.mem_map.1 hx
    exact fldT_ok (hc c hm).2.2.2.2
  · rcases (hc c hm).2.2.1 with e | e
    · rw [hh] at e; cases e
    · exact e

/-- Rows that the walk made, that are none of O. -/
theorem OwnR.rdK {w : World} {O : Nat → Prop} {B : Nat} {v : Value} {xs : List Cr} (h : OwnR w B v xs) (hA : Apart w O v xs) : RdK w O v (xs.map Cr.c) := by
  rcases h.slice with ⟨rfl, rfl⟩ | ⟨g, cp, rfl, _⟩
  · exact ⟨Option.none, 0, rfl, fun e => absurd e (by simp)⟩
  · refine ⟨_, cp, by rw [List.length_map], fun _ => ⟨g, 0, rfl, fun i x hx => ?_⟩⟩
    rw [List.getElem?_map] at hx
    obtain ⟨y, hy, rfl⟩ := Option.map_eq_some_iff.1 hx
    have hok := h.all y (List.mem_of_getElem? hy)
    obtain ⟨lp, lc, e1, _, _⟩ := RowI.slice hok.la.row
    obtain ⟨dp, dc, e2, _⟩ := RowF.rd hok.da.row
    refine ⟨lp, lc, dp, dc, fun W hW => ?_⟩
    have hW' := OwnR.tch h hA hW
    obtain ⟨p0, p1, p2, p3, p4, p5, p6⟩ := hW'.at hy
    have hok' := hW'.all y (List.mem_of_getElem? hy)
    obtain ⟨lp', lc', e1', r1, _⟩ := RowI.slice hok'.la.row
    obtain ⟨dp', dc', e2', r2⟩ := RowF.rd hok'.da.row
    rw [e1] at p5
    rw [e2] at p6
    rw [e1] at e1'
    rw [e2] at e2'
    obtain ⟨rfl, rfl⟩ : lp = lp' ∧ lc = lc' := by simpa using e1'
    obtain ⟨rfl, rfl⟩ : dp = dp' ∧ dc = dc' := by simpa using e2'
    refine ⟨?_, ?_, ?_, ?_, ?_, ?_, ?_, r1, r2⟩ <;> (rw [Nat.zero_add]; assumption)

set_option maxRecDepth 100000 in
/-- Load of cells that may not be. -/
theorem loadNo (s : Nat) (v : Value) (cs : List Cw) (w : World) (hX : RdW w v cs) (hlen : cs.length ≤ 100000) (hn : ¬ CsT cs cs.length) :
    Calls Tryz.prog 28 #[.pointer (some ⟨s, 0, none⟩), v] w fun e w' => e = .returned (.int .i64 1) ∧ Below w.heap.size w w' := by
  have HM := hide (cellsMay_any v cs w hX hlen false ⟨fun e => (by cases e), fun e => absurd e hn⟩)
  clear hX hn
  go_enter Tryz.func28, Tryz.ntmps28
  go_wp2_with fail
  refine HM.out.mono ?_
  rintro e w1 ⟨rfl, hb⟩
  have HB := hide hb
  clear hb HM
  go_wp2
  go_ret
  exact ⟨rfl, HB.out⟩

set_option maxRecDepth 100000 in
/-- Load of cells that may be. -/
theorem loadYes {O : Nat → Prop} {s gv gl gd N : Nat} {a : Ab} (v : Value) (cs : List Cw) (w : World) (h : Sg w O s gv gl gd a N) (hO : ∀ k, w.heap.size ≤ k → O k) (hN : N ≤ 1000) (hX : RdW w v cs) (hK : RdK w O v (cs.map Cw.cl)) (hlen : cs.length ≤ 100000) (hy : CsT cs cs.length) :
    Calls Tryz.prog 28 #[.pointer (some ⟨s, 0, none⟩), v] w fun e w' => e = .returned (.int .i64 0) ∧ (∃ M, AbS w' O s gv gl gd (ofC (cs.map Cw.cl)) M) ∧ Tch O w w' := by
  have hld := (csT_ld hy).1
  obtain ⟨k1, k2, k3, k4⟩ := hld.all
  have hfo : FillOK ab0 (cs.map Cw.cl) := by
    have := fillOK k1 k4 (fun k => by have := OkF.le (k3 k); omega) (Or.inl ⟨putOK, k3⟩) (fun k => (k3 k).1)
    rwa [k2] at this
  have hfa : fillA ab0 (cs.map Cw.cl) = ofC (cs.map Cw.cl) := by
    have := fill_all (ofC (cs.map Cw.cl)) (fun k => (k3 k).1) k1
    rwa [k2] at this
  have HM := hide (cellsMay_any v cs w hX hlen true ⟨fun _ => hy, fun _ => rfl⟩)
  have HC : Hid (∀ W, Below w.heap.size w W → Calls Tryz.prog 46 #[.pointer (some ⟨s, 0, none⟩)] W fun e w' => e = .returned (.tuple #[]) ∧ w' = W) := fun W hW => stateComplete s gv gl gd W (StaS.later h.st hW).obj
  have HE : Hid (∀ W, Below w.heap.size w W → Calls Tryz.prog 55 #[.pointer (some ⟨s, 0, none⟩)] W fun e w' => e = .returned (.tuple #[]) ∧ Hid ((∃ M, AbS w' O s gv gl gd ab0 M) ∧ Tch O W w')) := fun W hW =>
    stateEmpty O s gv gl gd a N W (StaS.later h.st hW) (fun k hk => hO k (Nat.le_trans hW.size hk)) hN h.ll h.dl (fun k => (h.ok k).1)
  have HF : Hid (∀ W M, AbS W O s gv gl gd ab0 M → Tch O w W → Calls Tryz.prog 56 #[.pointer (some ⟨s, 0, none⟩), v] W fun e w' => e = .returned (.tuple #[]) ∧ Hid ((∃ M, AbS w' O s gv gl gd (ofC (cs.map Cw.cl)) M) ∧ Tch O W w')) := fun W M hs ht => by
    have := fill_rd O s gv gl gd ab0 M v (cs.map Cw.cl) W hs (fun k hk => hO k (Nat.le_trans ht.size hk)) (by
      obtain ⟨pa, cap, e, q⟩ := hK
      refine ⟨pa, cap, e, fun h0 => ?_⟩
      obtain ⟨b, o, e2, q2⟩ := q h0
      refine ⟨b, o, e2, fun i x hx => ?_⟩
      obtain ⟨lp, lc, dp, dc, q3⟩ := q2 i x hx
      exact ⟨lp, lc, dp, dc, fun W' hW' => q3 W' (ht.trans hW')⟩) hfo (by rw [List.length_map]; exact hlen)
    rwa [hfa] at this
  clear hX hK hO h hfo hfa k1 k2 k3 k4 hld hy
  go_enter Tryz.func28, Tryz.ntmps28
  go_wp2_with fail
  refine HM.out.mono ?_
  rintro e w1 ⟨rfl, hb⟩
  have HB := hide hb
  clear hb HM
  go_wp2_with fail
  refine (HC.out _ HB.out).mono ?_
  rintro e w2 ⟨rfl, rfl⟩
  clear HC
  go_wp2_with fail
  refine (HE.out _ HB.out).mono ?_
  rintro e w3 ⟨rfl, H3⟩
  clear HE
  obtain ⟨⟨M, hM⟩, hT⟩ := H3.out
  have HT : Hid (Tch O w w3) := (Below.tch HB.out).trans hT
  have HFF := hide (HF.out w3 M hM HT.out)
  clear H3 hM hT HF HB
  go_wp2_with fail
  refine HFF.out.mono ?_
  rintro e w4 ⟨rfl, H4⟩
  clear HFF
  have HEND : Hid ((∃ M, AbS w4 O s gv gl gd (ofC (cs.map Cw.cl)) M) ∧ Tch O w w4) := ⟨H4.out.1, HT.out.trans H4.out.2⟩
  clear H4 HT
  go_wp2
  go_ret
  exact ⟨rfl, HEND.out⟩
end Go.Proofs.YtiofkcmdgijjoaaGreat
