/- A disk of whatever many files: its parts in memory; Append. -/
import Derived.Test.YtjdbkmjhjcmoaaaDskT
namespace Go.Proofs.Ytjdbkmjhjcmoaaa
open Go.RowKit Go.MapKept Go.ChangeMaps

/-- A disk at g: its two maps at r1 and r2, all its blocks among O. -/
structure DskAt (w : World) (O : Nat → Prop) (g r1 r2 : Nat) (F G : Files) (cs : List (ByteArray × Nat)) (lo : List Int) (l1 : List (Ent ByteArray)) (c1 : Nat) (l2 : List (Ent ByteArray)) (c2 : Nat) (sv lv : Value) : Prop where
  obj : w.heap[g]? = some (dObj (some r1) (some r2) sv lv)
  now : Fil w r1 l1 c1 F
  syn : Fil w r2 l2 c2 G
  since : OwnC w sv cs
  loose : w.ownsInts 0 5 .u8 lv lo
  r12 : r1 ≠ r2
  rows : ∀ k, rowsOf l1 k → ¬ rowsOf l2 k
  lrow : ∀ k, lv.ownBlock = some k → ¬ rowsOf l1 k ∧ ¬ rowsOf l2 k
  own : O g ∧ O r1 ∧ O r2 ∧ (∀ k, rowsOf l1 k → O k) ∧ (∀ k, rowsOf l2 k → O k) ∧ (∀ k, sv.ownBlock = some k → O k) ∧ (∀ k, lv.ownBlock = some k → O k)

def DskM (w : World) (O : Nat → Prop) (g r1 r2 : Nat) (F G : Files) (cs : List (ByteArray × Nat)) (lo : List Int) : Prop :=
  ∃ l1 c1 l2 c2 sv lv, DskAt w O g r1 r2 F G cs lo l1 c1 l2 c2 sv lv

theorem dObj_not_change (nm sm : Option Nat) (sv lv : Value) (cur : Array Value) : dObj nm sm sv lv ≠ .cells cur 104 (0, 0) := by
  intro e; simp [dObj] at e
theorem OwnC.kind {w : World} {g : Nat} {v : Value} {cs : List (ByteArray × Nat)} {o : Obj} (h : OwnC w v cs) (hg : w.heap[g]? = some o) (ho : ∀ cur, o ≠ .cells cur 104 (0, 0)) : v.ownBlock ≠ some g := by
  intro e
  rcases h.2 with ⟨rfl, _⟩ | ⟨g', cap, cur, rfl, _, hh, _⟩
  · cases e
  · simp [Value.ownBlock] at e
    subst e
    rw [hg] at hh
    exact ho _ (Option.some.inj hh)
theorem OwnC.row {w : World} {k : Nat} {v v' : Value} {z : List Int} {cs : List (ByteArray × Nat)} (h : OwnC w v cs) (ho : w.ownsInts 0 5 .u8 v' z) (hk : v.ownBlock = some k) : v'.ownBlock ≠ some k := by
  rcases h.2 with ⟨rfl, _⟩ | ⟨g', cap, cur, rfl, _, hh, _⟩
  · cases hk
  · simp [Value.ownBlock] at hk
    subst hk
    exact kind_owns ho hh (change_kind cur)

/-- What the parts of a disk are apart from. -/
theorem DskAt.apart {w : World} {O : Nat → Prop} {g r1 r2 : Nat} {F G : Files} {cs : List (ByteArray × Nat)} {lo : List Int} {l1 : List (Ent ByteArray)} {c1 : Nat} {l2 : List (Ent ByteArray)} {c2 : Nat} {sv lv : Value} (h : DskAt w O g r1 r2 F G cs lo l1 c1 l2 c2 sv lv) :
    g ≠ r1 ∧ g ≠ r2 ∧ ¬ rowsOf l1 g ∧ ¬ rowsOf l2 g ∧ ¬ rowsOf l1 r2 ∧ ¬ rowsOf l2 r1 ∧ sv.ownBlock ≠ some g ∧ sv.ownBlock ≠ some r1 ∧ sv.ownBlock ≠ some r2 ∧ lv.ownBlock ≠ some g ∧ lv.ownBlock ≠ some r1 ∧ lv.ownBlock ≠ some r2 ∧ (∀ k, sv.ownBlock = some k → ¬ rowsOf l1 k ∧ ¬ rowsOf l2 k ∧ lv.ownBlock ≠ some k) := by
  have m1 := h.now.mp.heap
  have m2 := h.syn.mp.heap
  have hm : ∀ {es : Array MapEntry} {c : Nat}, ∀ c', Obj.map es c ≠ .cells c' 5 (0, 0) := fun c' e => by cases e
  have hm' : ∀ {es : Array MapEntry} {c : Nat}, ∀ c', Obj.map es c ≠ .cells c' 104 (0, 0) := fun c' e => by cases e
  refine ⟨?_, ?_, h.now.apart h.obj (dObj_kind _ _ _ _), h.syn.apart h.obj (dObj_kind _ _ _ _), h.now.apart m2 hm, h.syn.apart m1 hm, h.since.kind h.obj (dObj_not_change _ _ _ _), h.since.kind m1 hm', h.since.kind m2 hm', kind_owns h.loose h.obj (dObj_kind _ _ _ _), kind_owns h.loose m1 hm, kind_owns h.loose m2 hm, fun k hk => ⟨?_, ?_, h.since.row h.loose hk⟩⟩
  · rintro rfl
    have := h.obj; rw [m1] at this; simp [dObj] at this
  · rintro rfl
    have := h.obj; rw [m2] at this; simp [dObj] at this
  · rintro ⟨x, hx, e⟩
    obtain ⟨z, _, ho⟩ := h.now.row x hx
    exact h.since.row ho hk e
  · rintro ⟨x, hx, e⟩
    obtain ⟨z, _, ho⟩ := h.syn.row x hx
    exact h.since.row ho hk e

theorem DskM.tch {S : Nat → Prop} {w w' : World} {O : Nat → Prop} {g r1 r2 : Nat} {F G : Files} {cs : List (ByteArray × Nat)} {lo : List Int} (h : DskM w O g r1 r2 F G cs lo) (ht : Tch S w w') (hS : ∀ k, O k → ¬ S k) : DskM w' O g r1 r2 F G cs lo := by
  obtain ⟨l1, c1, l2, c2, sv, lv, h⟩ := h
  obtain ⟨o1, o2, o3, o4, o5, o6, o7⟩ := h.own
  exact ⟨l1, c1, l2, c2, sv, lv, ht.old h.obj (hS _ o1), h.now.tch ht (hS _ o2) (fun k hk => hS k (o4 k hk)), h.syn.tch ht (hS _ o3) (fun k hk => hS k (o5 k hk)), h.since.tch ht (fun k hk => hS k (o6 k hk)), ht.owns h.loose (fun k hk => hS k (o7 k hk)), h.r12, h.rows, h.lrow, h.own⟩
theorem DskM.later {w w' : World} {O : Nat → Prop} {g r1 r2 : Nat} {F G : Files} {cs : List (ByteArray × Nat)} {lo : List Int} (h : DskM w O g r1 r2 F G cs lo) (hb : Below w.heap.size w w') : DskM w' O g r1 r2 F G cs lo :=
  h.tch (S := fun _ => False) (Below.tch hb) (fun _ _ e => e)
theorem DskM.narrow {w : World} {O O' : Nat → Prop} {g r1 r2 : Nat} {F G : Files} {cs : List (ByteArray × Nat)} {lo : List Int} (h : DskM w O g r1 r2 F G cs lo) (hO : ∀ k, k < w.heap.size → O k → O' k) : DskM w O' g r1 r2 F G cs lo := by
  obtain ⟨l1, c1, l2, c2, sv, lv, h⟩ := h
  obtain ⟨o1, o2, o3, o4, o5, o6, o7⟩ := h.own
  exact ⟨l1, c1, l2, c2, sv, lv, h.obj, h.now, h.syn, h.since, h.loose, h.r12, h.rows, h.lrow, hO _ (lt_of_heap h.obj) o1, hO _ h.now.mp.lt o2, hO _ h.syn.mp.lt o3, fun k hk => hO k (h.now.lt.2 k hk) (o4 k hk), fun k hk => hO k (h.syn.lt.2 k hk) (o5 k hk), fun k hk => hO k (World.ownsRow.lt h.since k hk).2 (o6 k hk), fun k hk => hO k (h.loose.1.lt k hk).2 (o7 k hk)⟩

theorem DskM.cells {w : World} {O : Nat → Prop} {g r1 r2 : Nat} {F G : Files} {cs : List (ByteArray × Nat)} {lo : List Int} (h : DskM w O g r1 r2 F G cs lo) : w.cell? ⟨g, 0, none⟩ = some (.map (some r1)) ∧ w.cell? ⟨g, 1, none⟩ = some (.map (some r2)) := by
  obtain ⟨l1, c1, l2, c2, sv, lv, h⟩ := h
  have := d_cells h.obj
  exact ⟨this.1, this.2.1⟩

/-- The loose bytes have grown. -/
theorem DskAt.grewLoose {w w1 : World} {O : Nat → Prop} {g r1 r2 : Nat} {F G : Files} {cs : List (ByteArray × Nat)} {lo lo' : List Int} {l1 : List (Ent ByteArray)} {c1 : Nat} {l2 : List (Ent ByteArray)} {c2 : Nat} {sv lv lv' : Value} (h : DskAt w O g r1 r2 F G cs lo l1 c1 l2 c2 sv lv) (hO : ∀ k, w.heap.size ≤ k → O k) (hg : w.grownBy w1 lv.ownBlock) (ho : w1.ownsInts 0 5 .u8 lv' lo') (hl : lv'.ownBlock = lv.ownBlock ∨ lv'.ownBlock = some w.heap.size) :
    DskM (w1.setCell ⟨g, 3, none⟩ lv') O g r1 r2 F G cs lo' ∧ Tch O w (w1.setCell ⟨g, 3, none⟩ lv') ∧ w1.heap[g]? = some (dObj (some r1) (some r2) sv lv) := by
  obtain ⟨a1, a2, a3, a4, a5, a6, a7, a8, a9, a10, a11, a12, a13⟩ := h.apart
  obtain ⟨o1, o2, o3, o4, o5, o6, o7⟩ := h.own
  have hT : Tch (fun k => some k = lv.ownBlock) w w1 := Tch.of hg
  have hgc := grown_setCell w1 g 3 lv'
  have hT2 : Tch (fun k => some k = some g) w1 (w1.setCell ⟨g, 3, none⟩ lv') := Tch.of hgc
  have k1 := hT.old h.obj (fun e => a10 e.symm)
  have hl' : ∀ k, lv'.ownBlock = some k → lv.ownBlock = some k ∨ k = w.heap.size := by
    intro k hk
    rcases hl with e | e
    · exact Or.inl (e.symm.trans hk)
    · rw [hk] at e; right; simpa using e
  have hlg : ∀ k, lv'.ownBlock = some k → ¬ some k = some g := by
    intro k hk e
    have e' : k = g := by simpa using e
    subst e'
    rcases hl' k hk with e | e
    · exact a10 e
    · have := lt_of_heap h.obj; omega
  refine ⟨⟨l1, c1, l2, c2, sv, lv', ⟨(d_set k1 none lv').2.2.2, ?_, ?_, ?_, hT2.owns ho hlg, h.r12, h.rows, fun k hk => ?_, o1, o2, o3, o4, o5, o6, fun k hk => ?_⟩⟩, ?_, k1⟩
  · exact (h.now.tch hT (fun e => a11 e.symm) (fun k hk e => (h.lrow k e.symm).1 hk)).tch hT2 (fun e => a1 (by simpa using e.symm)) (fun k hk e => a3 (Option.some.inj e ▸ hk))
  · exact (h.syn.tch hT (fun e => a12 e.symm) (fun k hk e => (h.lrow k e.symm).2 hk)).tch hT2 (fun e => a2 (by simpa using e.symm)) (fun k hk e => a4 (Option.some.inj e ▸ hk))
  · exact (h.since.tch hT (fun k hk e => (a13 k hk).2.2 e.symm)).tch hT2 (fun k hk e => a7 (by rw [hk]; exact e))
  · rcases hl' k hk with e | e
    · exact h.lrow k e
    · exact ⟨fun hk => by have := h.now.lt.2 k hk; omega, fun hk => by have := h.syn.lt.2 k hk; omega⟩
  · rcases hl' k hk with e | e
    · exact o7 k e
    · exact hO k (by omega)
  · exact (hT.mono (fun k _ e => o7 k e.symm)).trans (hT2.mono (fun k _ e => (Option.some.inj e).symm ▸ o1))

/-- One more change noted. -/
theorem DskAt.grewSince {w w1 : World} {O : Nat → Prop} {g r1 r2 : Nat} {F G : Files} {cs cs' : List (ByteArray × Nat)} {lo : List Int} {l1 : List (Ent ByteArray)} {c1 : Nat} {l2 : List (Ent ByteArray)} {c2 : Nat} {sv sv' lv : Value} (h : DskAt w O g r1 r2 F G cs lo l1 c1 l2 c2 sv lv) (hO : ∀ k, w.heap.size ≤ k → O k) (hg : w.grownBy w1 sv.ownBlock) (ho : OwnC w1 sv' cs') (hl : sv'.ownBlock = sv.ownBlock ∨ sv'.ownBlock = some w.heap.size) :
    DskM (w1.setCell ⟨g, 2, none⟩ sv') O g r1 r2 F G cs' lo ∧ Tch O w (w1.setCell ⟨g, 2, none⟩ sv') ∧ w1.heap[g]? = some (dObj (some r1) (some r2) sv lv) := by
  obtain ⟨a1, a2, a3, a4, a5, a6, a7, a8, a9, a10, a11, a12, a13⟩ := h.apart
  obtain ⟨o1, o2, o3, o4, o5, o6, o7⟩ := h.own
  have hT : Tch (fun k => some k = sv.ownBlock) w w1 := Tch.of hg
  have hgc := grown_setCell w1 g 2 sv'
  have hT2 : Tch (fun k => some k = some g) w1 (w1.setCell ⟨g, 2, none⟩ sv') := Tch.of hgc
  have k1 := hT.old h.obj (fun e => a7 e.symm)
  have hl' : ∀ k, sv'.ownBlock = some k → sv.ownBlock = some k ∨ k = w.heap.size := by
    intro k hk
    rcases hl with e | e
    · exact Or.inl (e.symm.trans hk)
    · rw [hk] at e; right; simpa using e
  have hlg : ∀ k, sv'.ownBlock = some k → ¬ some k = some g := by
    intro k hk e
    have e' : k = g := by simpa using e
    subst e'
    rcases hl' k hk with e | e
    · exact a7 e
    · have := lt_of_heap h.obj; omega
  refine ⟨⟨l1, c1, l2, c2, sv', lv, ⟨(d_set k1 none sv').2.2.1, ?_, ?_, ho.tch hT2 hlg, ?_, h.r12, h.rows, h.lrow, o1, o2, o3, o4, o5, fun k hk => ?_, o7⟩⟩, ?_, k1⟩
  · exact (h.now.tch hT (fun e => a8 e.symm) (fun k hk e => (a13 k e.symm).1 hk)).tch hT2 (fun e => a1 (by simpa using e.symm)) (fun k hk e => a3 (Option.some.inj e ▸ hk))
  · exact (h.syn.tch hT (fun e => a9 e.symm) (fun k hk e => (a13 k e.symm).2.1 hk)).tch hT2 (fun e => a2 (by simpa using e.symm)) (fun k hk e => a4 (Option.some.inj e ▸ hk))
  · exact hT2.owns (hT.owns h.loose (fun k hk e => (a13 k e.symm).2.2 hk)) (fun k hk e => a10 (by rw [hk]; exact e))
  · rcases hl' k hk with e | e
    · exact o6 k e
    · exact hO k (by omega)
  · exact (hT.mono (fun k _ e => o6 k e.symm)).trans (hT2.mono (fun k _ e => (Option.some.inj e).symm ▸ o1))

/-- The files at hand have grown. -/
theorem DskAt.grewNow {w w1 : World} {O : Nat → Prop} {g r1 r2 : Nat} {F F' G : Files} {cs : List (ByteArray × Nat)} {lo : List Int} {l1 : List (Ent ByteArray)} {c1 : Nat} {l2 : List (Ent ByteArray)} {c2 : Nat} {sv lv : Value} (h : DskAt w O g r1 r2 F G cs lo l1 c1 l2 c2 sv lv) (hO : ∀ k, w.heap.size ≤ k → O k) (hg : Grew w w1 r1 l1 F') :
    DskM w1 O g r1 r2 F' G cs lo ∧ Tch O w w1 := by
  obtain ⟨a1, a2, a3, a4, a5, a6, a7, a8, a9, a10, a11, a12, a13⟩ := h.apart
  obtain ⟨o1, o2, o3, o4, o5, o6, o7⟩ := h.own
  obtain ⟨l', c', k1, k2, k3⟩ := hg
  refine ⟨⟨l', c', l2, c2, sv, lv, ⟨k2.old h.obj (fun e => e.elim a1 a3), k1, h.syn.tch k2 (fun e => e.elim (fun e => h.r12 e.symm) a5) (fun k hk e => e.elim (fun e => a6 (by rw [← e]; exact hk)) (fun e => h.rows k e hk)), h.since.tch k2 (fun k hk e => e.elim (fun e => a8 (by rw [← e]; exact hk)) (a13 k hk).1), k2.owns h.loose (fun k hk e => e.elim (fun e => a11 (by rw [← e]; exact hk)) (h.lrow k hk).1), h.r12, fun k hk hk2 => ?_, fun k hk => ⟨fun hk' => ?_, (h.lrow k hk).2⟩, o1, o2, o3, fun k hk => ?_, o5, o6, o7⟩⟩, k2.mono (fun k _ e => e.elim (fun e => by rw [e]; exact o2) (o4 k))⟩
  · rcases k3 k hk with e | e
    · exact h.rows k e hk2
    · have := h.syn.lt.2 k hk2; omega
  · rcases k3 k hk' with e | e
    · exact (h.lrow k hk).1 e
    · have := (h.loose.1.lt k hk).2; omega
  · rcases k3 k hk with e | e
    · exact o4 k e
    · exact hO k e

/-- The synced files have grown. -/
theorem DskAt.grewSyn {w w1 : World} {O : Nat → Prop} {g r1 r2 : Nat} {F G G' : Files} {cs : List (ByteArray × Nat)} {lo : List Int} {l1 : List (Ent ByteArray)} {c1 : Nat} {l2 : List (Ent ByteArray)} {c2 : Nat} {sv lv : Value} (h : DskAt w O g r1 r2 F G cs lo l1 c1 l2 c2 sv lv) (hO : ∀ k, w.heap.size ≤ k → O k) (hg : Grew w w1 r2 l2 G') :
    DskM w1 O g r1 r2 F G' cs lo ∧ Tch O w w1 := by
  obtain ⟨a1, a2, a3, a4, a5, a6, a7, a8, a9, a10, a11, a12, a13⟩ := h.apart
  obtain ⟨o1, o2, o3, o4, o5, o6, o7⟩ := h.own
  obtain ⟨l', c', k1, k2, k3⟩ := hg
  refine ⟨⟨l1, c1, l', c', sv, lv, ⟨k2.old h.obj (fun e => e.elim a2 a4), h.now.tch k2 (fun e => e.elim h.r12 a6) (fun k hk e => e.elim (fun e => a5 (by rw [← e]; exact hk)) (fun e => h.rows k hk e)), k1, h.since.tch k2 (fun k hk e => e.elim (fun e => a9 (by rw [← e]; exact hk)) (a13 k hk).2.1), k2.owns h.loose (fun k hk e => e.elim (fun e => a12 (by rw [← e]; exact hk)) (h.lrow k hk).2), h.r12, fun k hk hk2 => ?_, fun k hk => ⟨(h.lrow k hk).1, fun hk' => ?_⟩, o1, o2, o3, o4, fun k hk => ?_, o6, o7⟩⟩, k2.mono (fun k _ e => e.elim (fun e => by rw [e]; exact o3) (o5 k))⟩
  · rcases k3 k hk2 with e | e
    · exact h.rows k hk e
    · have := h.now.lt.2 k hk; omega
  · rcases k3 k hk' with e | e
    · exact (h.lrow k hk).2 e
    · have := (h.loose.1.lt k hk).2; omega
  · rcases k3 k hk with e | e
    · exact o5 k e
    · exact hO k e
end Go.Proofs.Ytjdbkmjhjcmoaaa
