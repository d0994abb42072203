/- Lists, and a law's own map of rows beside them (for the statement ListAll). -/
import Derived.Test.YtkchfbigkecodaaGreatLstL
import Derived.Test.YtkchfbigkecodaaGreatRisK
import Derived.Test.YtkchfbigkecodaaGreatKopR
namespace Go.Proofs.YtkchfbigkecodaaGreat
open Go.RowKit Go.MapKept Go.ChangeMaps

/-- The lists hold f, the law's map at r holds fm, in rows of the law's own; the blocks E are the law's own. -/
structure LA (w W : World) (g r : Nat) (E : Nat → Prop) (f fm : K3 → List Int) (N : Nat) (l : List (Ent K3)) (c : Nat) : Prop where
  h : Lh w W g E f N
  m : Mp k3E W r l c
  re : E r
  ew : ∀ k, E k → w.heap.size ≤ k
  row : ∀ x ∈ l, RowI W x.v (fm x.k) ∧ ∀ j, x.v.ownBlock = some j → E j
  non : ∀ k, k ∉ l.map Ent.k → fm k = []
  ll : ∀ k, (f k).length ≤ 100
section
variable {w W W' : World} {g r N c : Nat} {E : Nat → Prop} {f fm : K3 → List Int} {l : List (Ent K3)}
theorem LA.later (h : LA w W g r E f fm N l c) (hb : Below W.heap.size W W') : LA w W' g r E f fm N l c :=
  ⟨h.h.later hb, h.m.at (hb.block _ h.m.lt), h.re, h.ew, fun x hx => ⟨RowO.later (h.row x hx).1 hb, (h.row x hx).2⟩, h.non, h.ll⟩
/-- What was made since is the law's own. -/
theorem LA.fence (h : LA w W g r E f fm N l c) (hb : Below W.heap.size W W') : LA w W' g r (fun k => E k ∨ (W.heap.size ≤ k ∧ k < W'.heap.size)) f fm N l c := by
  have h1 := h.later hb
  have hl : LiS W (fun k => g ≤ k ∧ ¬ (E k ∨ (W.heap.size ≤ k ∧ k < W'.heap.size))) g f N := h.h.l.sub (fun k hk hl => ⟨hk.1, fun e => by
    rcases e with e | e
    · exact hk.2 e
    · omega⟩)
  refine ⟨⟨hl.later hb, ?_, h.h.gw, h1.h.b⟩, h1.m, Or.inl h.re, ?_, fun x hx => ⟨(h1.row x hx).1, fun j hj => Or.inl ((h1.row x hx).2 j hj)⟩, h.non, h.ll⟩
  · rintro k (e | e)
    · exact h1.h.lt k e
    · exact e.2
  · rintro k (e | e)
    · exact h.ew k e
    · have := h.h.b.size; omega
/-- The lists do something. -/
theorem LA.turn {f' : K3 → List Int} {N' : Nat} (h : LA w W g r E f fm N l c) (h1 : Lh w W' g E f' N') (ht : Tch (fun k => g ≤ k ∧ ¬ E k) W W') (hl : ∀ k, (f' k).length ≤ 100) : LA w W' g r E f' fm N' l c :=
  ⟨h1, h.m.at (ht.block _ h.m.lt (fun e => e.2 h.re)), h.re, h.ew, fun x hx => ⟨RowO.tch ht (h.row x hx).1 (fun j hj e => e.2 ((h.row x hx).2 j hj)), (h.row x hx).2⟩, h.non, hl⟩
theorem LA.at (h : LA w W g r E f fm N l c) (k : K3) : RowI W ((atE l k).getD (.slice none 0 0)) (fm k) := by
  by_cases hs : k ∈ l.map Ent.k
  · obtain ⟨x, hx, e, ha⟩ := atE_some hs
    rw [ha, ← e]
    exact (h.row x hx).1
  · rw [atE_none hs, h.non k hs]
    exact RowO.nil _ _ _ _
theorem LA.look (h : LA w W g r E f fm N l c) (k : K3) : (Instr.lookup 42 (.map (some r)) (k3E k) false).run Tryz.prog W = .ok ((atE l k).getD (.slice none 0 0)) W :=
  h.m.look k3Keyd undL (zeroLs W) k false
theorem LA.push (h : LA w W g r E f fm N l c) (k : K3) (ao : Option Addr) (m cp : Nat) (z : List Int) (hr : Rd W ao m cp z) :
    Calls Tryz.prog 23 #[.pointer (some ⟨g, 0, none⟩), k3E k, .slice ao m cp] W fun e w' => e = .returned (.int .i64 (if (f k).length + m ≤ 100 then 0 else 4)) ∧ LA w w' g r E (if (f k).length + m ≤ 100 then updR f k (f k ++ z) else f) fm (N + 1) l c ∧ Tch (fun k => g ≤ k ∧ ¬ E k) W w' := by
  refine (h.h.push k ao m cp z hr (h.ll k)).mono ?_
  rintro e w' ⟨r1, r2, r3⟩
  refine ⟨r1, h.turn r2 r3 (fun j => ?_), r3⟩
  have hz := hr.len
  by_cases hc : (f k).length + m ≤ 100
  · rw [if_pos hc, updR]
    by_cases ej : j = k
    · rw [if_pos ej, List.length_append]; omega
    · rw [if_neg ej]; exact h.ll j
  · rw [if_neg hc]; exact h.ll j
theorem LA.clear (h : LA w W g r E f fm N l c) (k : K3) :
    Calls Tryz.prog 24 #[.pointer (some ⟨g, 0, none⟩), k3E k] W fun e w' => e = .returned (.int .i64 (f k).length) ∧ LA w w' g r E (updR f k []) fm N l c ∧ Tch (fun k => g ≤ k ∧ ¬ E k) W w' := by
  refine (h.h.clear k).mono ?_
  rintro e w' ⟨r1, r2, r3⟩
  refine ⟨r1, h.turn r2 r3 (fun j => ?_), r3⟩
  unfold updR
  split
  · simp
  · exact h.ll j
/-- The law notes a row of its own. -/
theorem LA.note (h : LA w W g r E f fm N l c) (k : K3) (v : Value) (z : List Int) (hv : RowI W v z) (he : ∀ j, v.ownBlock = some j → E j) :
    ∃ W2 l' c', (Instr.mapUpdate 42 (.map (some r)) (k3E k) v).run Tryz.prog W = .ok () W2 ∧ LA w W2 g r E f (updR fm k z) N l' c' ∧ Tch (fun j => j = r) W W2 := by
  have hnr : ∀ {y : Value} {u : List Int}, RowI W y u → ∀ j, y.ownBlock = some j → j ≠ r := fun ho j hj e => by
    obtain ⟨cur, hc⟩ := ho.kind hj
    rw [e, h.m.heap] at hc
    simp at hc
  have key : ∀ {W2 : World} {l' : List (Ent K3)} {c' : Nat}, Mp k3E W2 r l' c' → W.grownBy W2 (some r) → (∀ x ∈ l', (x.k = k ∧ x.v = v) ∨ (x.k ≠ k ∧ x ∈ l)) → (∀ j, j ∈ l'.map Ent.k ↔ (j = k ∨ j ∈ l.map Ent.k)) → LA w W2 g r E f (updR fm k z) N l' c' ∧ Tch (fun j => j = r) W W2 := by
    intro W2 l' c' hm hg hx hk
    have ht := (Tch.of hg).mono (S' := fun j => j = r) (fun _ _ e => Option.some.inj e)
    refine ⟨⟨⟨h.h.l.tch ht (fun j hj _ e => hj.2 (by rw [e]; exact h.re)), fun j hj => Nat.lt_of_lt_of_le (h.h.lt j hj) ht.size, h.h.gw, h.h.b.trans (ht.below (fun j hj e => by have := h.ew r h.re; omega) h.h.b.size)⟩, hm, h.re, h.ew, fun x hxm => ?_, fun j hj => ?_, h.ll⟩, ht⟩
    · rcases hx x hxm with ⟨e1, e2⟩ | ⟨e1, e2⟩
      · rw [e1, e2, updR, if_pos rfl]
        exact ⟨RowO.tch ht hv (fun j hj => hnr hv j hj), he⟩
      · rw [updR, if_neg e1]
        exact ⟨RowO.tch ht (h.row x e2).1 (fun j hj => hnr (h.row x e2).1 j hj), (h.row x e2).2⟩
    · have := fun e => hj ((hk j).2 e)
      rw [updR, if_neg (fun e => this (Or.inl e))]
      exact h.non j (fun e => this (Or.inr e))
  by_cases hs : k ∈ l.map Ent.k
  · obtain ⟨W2, h1, h2, h3⟩ := h.m.set k3Keyd undL k v hs
    obtain ⟨q1, q2⟩ := key h2 h3 (fun x hx => by
      unfold setE at hx
      obtain ⟨y, hy, rfl⟩ := List.mem_map.1 hx
      by_cases e' : y.k = k
      · rw [if_pos e']; exact Or.inl ⟨e', rfl⟩
      · rw [if_neg e']; exact Or.inr ⟨e', hy⟩) (fun j => by rw [setE_keys]; exact ⟨Or.inr, fun e => e.elim (fun e => by rw [e]; exact hs) id⟩)
    exact ⟨W2, _, _, h1, q1, q2⟩
  · obtain ⟨W2, h1, h2, h3⟩ := h.m.put k3Keyd undL k v hs
    obtain ⟨q1, q2⟩ := key h2 h3 (fun x hx => by
      rcases List.mem_append.1 hx with hx | hx
      · exact Or.inr ⟨fun e => hs (by rw [← e]; exact List.mem_map.2 ⟨x, hx, rfl⟩), hx⟩
      · simp at hx; subst hx; exact Or.inl ⟨rfl, rfl⟩) (fun j => by simp [or_comm])
    exact ⟨W2, _, _, h1, q1, q2⟩
/-- How many of the entries have a row that is not empty. -/
def cntL (fm : K3 → List Int) (l : List (Ent K3)) : Nat := l.countP fun x => decide (fm x.k ≠ [])
theorem LA.count (h : LA w W g r E f f N l c) {ks : List K3} (hk : ∀ k, k ∈ ks ↔ f k ≠ []) (hr : RiseK ks) : ks.length = cntL f l := by
  unfold cntL
  rw [List.countP_eq_length_filter, ← List.length_map (f := Ent.k)]
  have hn : ((l.filter fun x => decide (f x.k ≠ [])).map Ent.k).Nodup := h.m.keys.sublist (List.Sublist.map _ List.filter_sublist)
  have hm : ∀ k, k ∈ (l.filter fun x => decide (f x.k ≠ [])).map Ent.k ↔ f k ≠ [] := fun k => by
    refine ⟨fun hh => ?_, fun hh => ?_⟩
    · obtain ⟨x, hx, rfl⟩ := List.mem_map.1 hh
      simpa using (List.mem_filter.1 hx).2
    · have hs : k ∈ l.map Ent.k := Classical.byContradiction fun e => hh (h.non k e)
      obtain ⟨x, hx, rfl⟩ := List.mem_map.1 hs
      exact List.mem_map.2 ⟨x, List.mem_filter.2 ⟨hx, by simpa using hh⟩, rfl⟩
  exact Nat.le_antisymm (nodup_le hr.nodup (fun k hh => (hm k).2 ((hk k).1 hh))) (nodup_le hn (fun k hh => (hk k).2 ((hm k).1 hh)))
end

theorem run_uptoI (a : Option Addr) (n cap j : Nat) (hj : j ≤ cap) (W : World) :
    (Instr.slice 29 (.slice a n cap) none (some (.int .i64 (j : Int))) none).run Tryz.prog W = .ok (.slice a j cap) W := by
  have e1 : (Instr.sliceBound (.int .i64 (j : Int)) cap .sliceAcap).run Tryz.prog W = .ok j W := by
    have := run_sliceBound (P := Tryz.prog) W .i64 (j : Int) cap .sliceAcap (by omega) (by omega)
    simpa using this
  simp [Instr.slice, Instr.sliceBounds, run_underlying Tryz.underlying29, e1]
  try (cases a <;> simp [Addr.add])
theorem Rd.take {w : World} {a : Option Addr} {n cap : Nat} {z : List Int} (h : Rd w a n cap z) (m : Nat) (hm : m ≤ n) : Rd w a m cap (z.take m) := by
  have h1 := h.len
  refine ⟨by simp; omega, fun e => ?_, fun ad ha j u hj => ?_, by have := h.le; omega⟩
  · have := h.nil e; omega
  · refine h.cells ad ha j u ?_
    rw [List.getElem?_map] at hj ⊢
    by_cases hjm : j < m
    · rwa [List.getElem?_take_of_lt hjm] at hj
    · rw [List.getElem?_take_eq_none (by omega)] at hj; cases hj

/-- The law's range goes a step. -/
theorem LA.step {w W W' : World} {g r N c i : Nat} {E : Nat → Prop} {f fm : K3 → List Int} {l todo : List (Ent K3)} (h : LA w W g r E f fm N l c) (hit : Itr k3E W i r l todo c) (hir : i ≠ r) (hE : E i) (hg : W.grownBy W' (some i)) : LA w W' g r E f fm N l c := by
  have ht := (Tch.of hg).mono (S' := fun j => j = i) (fun _ _ e => Option.some.inj e)
  obtain ⟨_, seen, c0, hi, _⟩ := hit
  refine ⟨⟨h.h.l.tch ht (fun j hj _ e => hj.2 (by rw [e]; exact hE)), fun j hj => Nat.lt_of_lt_of_le (h.h.lt j hj) ht.size, h.h.gw, h.h.b.trans (ht.below (fun j hj e => by have := h.ew i hE; omega) h.h.b.size)⟩, h.m.at (ht.block _ h.m.lt (fun e => hir e.symm)), h.re, h.ew, fun x hx => ⟨RowO.tch ht (h.row x hx).1 (fun j hj e => ?_), (h.row x hx).2⟩, h.non, h.ll⟩
  obtain ⟨cur, hc⟩ := (h.row x hx).1.kind hj
  rw [e, hi] at hc
  simp at hc
theorem cntL_perm {fm : K3 → List Int} {l : List (Ent K3)} {x : Ent K3} {l' : List (Ent K3)} (h : l.Perm (x :: l')) : cntL fm l = cntL fm l' + if (fm x.k).length = 0 then 0 else 1 := by
  unfold cntL
  rw [h.countP_eq, List.countP_cons]
  congr 1
  by_cases e : fm x.k = []
  · simp [e]
  · have : ¬ (fm x.k).length = 0 := fun h => e (List.length_eq_zero_iff.1 h)
    simp [e]

theorem LA.few {w W : World} {g r N c : Nat} {E : Nat → Prop} {f : K3 → List Int} {l : List (Ent K3)} (h : LA w W g r E f f N l c) : cntL f l ≤ N := by
  unfold cntL
  rw [List.countP_eq_length_filter, ← List.length_map (f := Ent.k)]
  refine h.h.l.klen (h.m.keys.sublist (List.Sublist.map _ List.filter_sublist)) (fun k hk => ?_)
  obtain ⟨x, hx, rfl⟩ := List.mem_map.1 hk
  simpa using (List.mem_filter.1 hx).2
/-- The law writes into a block of its own that is no row of the map's. -/
theorem LA.poke {w W W' : World} {g r N c i : Nat} {E : Nat → Prop} {f fm : K3 → List Int} {l : List (Ent K3)} (h : LA w W g r E f fm N l c) (hir : i ≠ r) (hE : E i) (hx : ∀ x ∈ l, x.v.ownBlock ≠ some i) (ht : Tch (fun j => j = i) W W') : LA w W' g r E f fm N l c :=
  ⟨⟨h.h.l.tch ht (fun j hj _ e => hj.2 (by rw [e]; exact hE)), fun j hj => Nat.lt_of_lt_of_le (h.h.lt j hj) ht.size, h.h.gw, h.h.b.trans (ht.below (fun j hj e => by have := h.ew i hE; omega) h.h.b.size)⟩, h.m.at (ht.block _ h.m.lt (fun e => hir e.symm)), h.re, h.ew, fun x hm => ⟨RowO.tch ht (h.row x hm).1 (fun j hj e => hx x hm (by rw [hj, e])), (h.row x hm).2⟩, h.non, h.ll⟩
/-- Numbers in a block, from the jj-th on as they were told. -/
def Gt (W : World) (gg : Nat) (z : List Int) (jj : Nat) : Prop := ∃ cur : Array Value, W.heap[gg]? = some (.cells cur 2 (0, 0)) ∧ z.length ≤ cur.size ∧ ∀ i x, jj ≤ i → z[i]? = some x → cur[i]? = some (.int .i64 x)
theorem Gt.cell {W : World} {gg jj : Nat} {z : List Int} (h : Gt W gg z jj) {x : Int} (hx : z[jj]? = some x) : W.cell? ⟨gg, jj, none⟩ = some (.int .i64 x) ∧ W.frozen? ⟨gg, jj, none⟩ = false := by
  obtain ⟨cur, h1, _, h3⟩ := h
  have := h3 jj x (Nat.le_refl _) hx
  exact ⟨by simp [World.cell?, h1, this], by simp [World.frozen?, h1]⟩
theorem Gt.set {W : World} {gg jj : Nat} {z : List Int} (h : Gt W gg z jj) (v : Value) : Gt (W.setCell ⟨gg, jj, none⟩ v) gg z (jj + 1) := by
  obtain ⟨cur, h1, h2, h3⟩ := h
  obtain ⟨hlt, he⟩ := Array.getElem?_eq_some_iff.1 h1
  refine ⟨cur.setIfInBounds jj v, by simp [World.setCell, Array.getElem_modify, hlt, he], by simpa using h2, fun i x hi hx => ?_⟩
  rw [Array.getElem?_setIfInBounds_ne (by omega)]
  exact h3 i x (by omega) hx
theorem OwnI.gt {W : World} {B n cap : Nat} {pg : Option Addr} {z : List Int} (h : OwnI W B (.slice pg n cap) z) (hn : 0 < n) : ∃ gg, pg = some ⟨gg, 0, none⟩ ∧ B ≤ gg ∧ Gt W gg z 0 ∧ n ≤ cap := by
  have hr := h
  rcases h.2 with ⟨e, _⟩ | ⟨gg, cap', cur, e, hB, hh, h1, _, hs, ht⟩
  · simp at e; omega
  · simp at e
    obtain ⟨rfl, rfl, rfl⟩ := e
    refine ⟨gg, rfl, hB, ⟨cur, hh, by omega, fun i x _ hx => ?_⟩, h1⟩
    have := World.ownsRow.cells hr (g := gg) rfl i (.int .i64 x) (by rw [flatI, List.getElem?_map, hx]; rfl)
    rw [add_none, Nat.zero_add] at this
    simpa [World.cell?, hh] using this
end Go.Proofs.YtkchfbigkecodaaGreat
