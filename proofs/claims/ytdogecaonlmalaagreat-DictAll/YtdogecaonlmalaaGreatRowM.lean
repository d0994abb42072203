/- Rows kept at keys of state: a struct that holds a map of rows, each row a block of its own. -/
import Derived.Test.YtdogecaonlmalaaGreatKeyK
import Derived.Test.YtdogecaonlmalaaGreatMapE
import Derived.Test.YtdogecaonlmalaaGreatDisk1
import Derived.Maps.AppendAt
namespace Go.Proofs.YtdogecaonlmalaaGreat
open Go.RowKit Go.MapKept Go.ChangeMaps

def rmObj (T : TypeId) (mo : Option Nat) : Obj := .cells #[.map mo] T (0, 0)

/-- A row that is one's own, of elements laid by C. -/
def RowO {α : Type} (e : TypeId) (sz : Nat) (C : α → List Value) (w : World) (v : Value) (z : List α) : Prop := w.ownsRow 0 e sz v z.length (z.flatMap C)

theorem RowO.tch {α : Type} {e : TypeId} {sz : Nat} {C : α → List Value} {S : Nat → Prop} {a b : World} {v : Value} {z : List α} (h : Tch S a b) (ho : RowO e sz C a v z) (hs : ∀ k, v.ownBlock = some k → ¬ S k) : RowO e sz C b v z := by
  obtain ⟨h1, h2⟩ := ho
  refine ⟨h1, ?_⟩
  rcases h2 with h2 | ⟨g, cap, cur, rfl, hg, hh, r⟩
  · exact Or.inl h2
  · exact Or.inr ⟨g, cap, cur, rfl, hg, h.old hh (hs g rfl), r⟩
theorem RowO.later {α : Type} {e : TypeId} {sz : Nat} {C : α → List Value} {a b : World} {v : Value} {z : List α} (ho : RowO e sz C a v z) (h : Below a.heap.size a b) : RowO e sz C b v z :=
  ho.tch (S := fun _ => False) (Below.tch h) (fun _ _ e => e)
theorem RowO.kind {α : Type} {e : TypeId} {sz : Nat} {C : α → List Value} {w : World} {v : Value} {z : List α} (ho : RowO e sz C w v z) {k : Nat} (hk : v.ownBlock = some k) : ∃ cur, w.heap[k]? = some (.cells cur e (0, 0)) := by
  rcases ho.2 with ⟨rfl, _⟩ | ⟨g, cap, cur, rfl, _, hh, _⟩
  · cases hk
  · simp only [Value.ownBlock, Option.some.injEq] at hk; subst hk; exact ⟨cur, hh⟩
theorem RowO.ltb {α : Type} {e : TypeId} {sz : Nat} {C : α → List Value} {w : World} {v : Value} {z : List α} (ho : RowO e sz C w v z) {k : Nat} (hk : v.ownBlock = some k) : k < w.heap.size := (World.ownsRow.lt ho k hk).2
theorem RowO.nil {α : Type} (e : TypeId) (sz : Nat) (C : α → List Value) (w : World) : RowO e sz C w (.slice none 0 0) [] := World.ownsRow_nil _ _ _ _

/-- A struct at g that holds rows at keys; all its blocks are among O. -/
structure Rm {α : Type} (T e : TypeId) (sz : Nat) (C : α → List Value) (w : World) (O : Nat → Prop) (g : Nat) (f : K3 → List α) (N : Nat) (mo : Option Nat) (l : List (Ent K3)) (c : Nat) : Prop where
  obj : w.heap[g]? = some (rmObj T mo)
  own : O g
  made : ∀ r, mo = some r → O r ∧ r ≠ g ∧ Mp k3E w r l c
  nomap : mo = none → l = []
  row : ∀ x ∈ l, f x.k ≠ [] ∧ RowO e sz C w x.v (f x.k) ∧ ∀ k, x.v.ownBlock = some k → O k
  non : ∀ s, s ∉ l.map Ent.k → f s = []
  sep : ∀ x ∈ l, ∀ y ∈ l, ∀ k, x.v.ownBlock = some k → y.v.ownBlock = some k → x.k = y.k
  len : l.length ≤ N
def RmS {α : Type} (T e : TypeId) (sz : Nat) (C : α → List Value) (w : World) (O : Nat → Prop) (g : Nat) (f : K3 → List α) (N : Nat) : Prop := ∃ mo l c, Rm T e sz C w O g f N mo l c

section
variable {α : Type} {T e : TypeId} {sz : Nat} {C : α → List Value} {w w' : World} {O : Nat → Prop} {g N : Nat} {f : K3 → List α} {mo : Option Nat} {l : List (Ent K3)} {c : Nat}

theorem Rm.tch {S : Nat → Prop} (h : Rm T e sz C w O g f N mo l c) (ht : Tch S w w') (hS : ∀ k, O k → k < w.heap.size → ¬ S k) : Rm T e sz C w' O g f N mo l c :=
  ⟨ht.old h.obj (hS g h.own (lt_of_heap h.obj)), h.own, fun r e => ⟨(h.made r e).1, (h.made r e).2.1, (h.made r e).2.2.at (ht.block r (h.made r e).2.2.lt (hS r (h.made r e).1 (h.made r e).2.2.lt))⟩, h.nomap,
    fun x hx => ⟨(h.row x hx).1, RowO.tch ht (h.row x hx).2.1 (fun k hk => hS k ((h.row x hx).2.2 k hk) ((h.row x hx).2.1.ltb hk)), (h.row x hx).2.2⟩, h.non, h.sep, h.len⟩
theorem Rm.later (h : Rm T e sz C w O g f N mo l c) (hb : Below w.heap.size w w') : Rm T e sz C w' O g f N mo l c :=
  h.tch (S := fun _ => False) (Below.tch hb) (fun _ _ _ e => e)
theorem RmS.later (h : RmS T e sz C w O g f N) (hb : Below w.heap.size w w') : RmS T e sz C w' O g f N := by
  obtain ⟨mo, l, c, h⟩ := h
  exact ⟨mo, l, c, h.later hb⟩
theorem RmS.tch {S : Nat → Prop} (h : RmS T e sz C w O g f N) (ht : Tch S w w') (hS : ∀ k, O k → k < w.heap.size → ¬ S k) : RmS T e sz C w' O g f N := by
  obtain ⟨mo, l, c, h⟩ := h
  exact ⟨mo, l, c, h.tch ht hS⟩
theorem RmS.more {M : Nat} (h : RmS T e sz C w O g f N) (hN : N ≤ M) : RmS T e sz C w O g f M := by
  obtain ⟨mo, l, c, h⟩ := h
  exact ⟨mo, l, c, h.obj, h.own, h.made, h.nomap, h.row, h.non, h.sep, Nat.le_trans h.len hN⟩
/-- Only blocks that are there matter. -/
theorem RmS.sub {O' : Nat → Prop} (h : RmS T e sz C w O g f N) (hO : ∀ k, O k → k < w.heap.size → O' k) : RmS T e sz C w O' g f N := by
  obtain ⟨mo, l, c, h⟩ := h
  exact ⟨mo, l, c, h.obj, hO g h.own (lt_of_heap h.obj), fun r e => ⟨hO r (h.made r e).1 (h.made r e).2.2.lt, (h.made r e).2⟩, h.nomap,
    fun x hx => ⟨(h.row x hx).1, (h.row x hx).2.1, fun k hk => hO k ((h.row x hx).2.2 k hk) ((h.row x hx).2.1.ltb hk)⟩, h.non, h.sep, h.len⟩

theorem rm_cell {mo : Option Nat} (h : w.heap[g]? = some (rmObj T mo)) : w.cell? ⟨g, 0, none⟩ = some (.map mo) ∧ w.frozen? ⟨g, 0, none⟩ = false := by
  refine ⟨?_, ?_⟩ <;> simp [World.cell?, World.frozen?, h, rmObj]
theorem rm_set {mo : Option Nat} (h : w.heap[g]? = some (rmObj T mo)) (m : Option Nat) : (w.setCell ⟨g, 0, none⟩ (.map m)).heap[g]? = some (rmObj T m) := by
  obtain ⟨hlt, he⟩ := Array.getElem?_eq_some_iff.1 h
  simp [World.setCell, Array.getElem_modify, hlt, he, rmObj]

theorem RmS.new (w : World) (O : Nat → Prop) (hO : O w.heap.size) : RmS T e sz C (w.alloc (rmObj T none)) O w.heap.size (fun _ => []) 0 :=
  ⟨none, [], 0, heap_alloc_new w _, hO, fun r e => (by cases e), fun _ => rfl, fun x hx => (by simp at hx), fun _ _ => rfl, fun x hx => (by simp at hx), Nat.le_refl _⟩

/-- What lies at a key. -/
theorem Rm.atK (h : Rm T e sz C w O g f N mo l c) (k : K3) : (k ∉ l.map Ent.k ∧ atE l k = none ∧ f k = []) ∨ ∃ x ∈ l, x.k = k ∧ atE l k = some x.v ∧ f k ≠ [] ∧ RowO e sz C w x.v (f k) := by
  by_cases hs : k ∈ l.map Ent.k
  · obtain ⟨x, hx, e, ha⟩ := atE_some hs
    obtain ⟨h1, h2, _⟩ := h.row x hx
    rw [e] at h1 h2
    exact Or.inr ⟨x, hx, e, ha, h1, h2⟩
  · exact Or.inl ⟨hs, atE_none hs, h.non k hs⟩
theorem Rm.rowAt (h : Rm T e sz C w O g f N mo l c) (k : K3) : RowO e sz C w ((atE l k).getD (.slice none 0 0)) (f k) := by
  rcases h.atK k with ⟨_, h2, h3⟩ | ⟨x, _, _, h2, _, h4⟩
  · rw [h2, h3]; exact RowO.nil _ _ _ _
  · rw [h2]; exact h4
theorem Rm.mem (h : Rm T e sz C w O g f N mo l c) (k : K3) : k ∈ l.map Ent.k ↔ f k ≠ [] := by
  rcases h.atK k with ⟨h1, _, h3⟩ | ⟨x, hx, e, _, h3, _⟩
  · exact ⟨fun hh => absurd hh h1, fun hh => absurd h3 hh⟩
  · exact ⟨fun _ => h3, fun _ => List.mem_map.2 ⟨x, hx, e⟩⟩

def updR (f : K3 → List α) (k : K3) (z : List α) : K3 → List α := fun b => if b = k then z else f b

/-- The row at one key has become another one, which is not empty. -/
theorem Rm.turn {r : Nat} (h : Rm T e sz C w O g f N (some r) l c) (k : K3) (z1 : List α) (hz : z1 ≠ []) {w2 : World} {l2 : List (Ent K3)} {c2 : Nat} (hm : Mp k3E w2 r l2 c2) (hin : k ∈ l2.map Ent.k)
    (h1 : ∀ x ∈ l2, x.k ≠ k → x ∈ l) (h2 : ∀ x ∈ l, x.k ≠ k → x ∈ l2) (v1 : Value) (hv : ∀ x ∈ l2, x.k = k → x.v = v1) (ho : RowO e sz C w2 v1 z1)
    (hb : ∀ j, v1.ownBlock = some j → (∃ x ∈ l, x.k = k ∧ x.v.ownBlock = some j) ∨ (w.heap.size ≤ j ∧ O j)) (hl : l2.length ≤ l.length + 1)
    (ht : Tch (fun j => j = r ∨ ∃ x ∈ l, x.k = k ∧ x.v.ownBlock = some j) w w2) (hTe : T ≠ e) : Rm T e sz C w2 O g (updR f k z1) (N + 1) (some r) l2 c2 ∧ Tch O w w2 := by
  obtain ⟨o1, o2, hmp⟩ := h.made r rfl
  have hT2 : Tch O w w2 := ht.mono (fun j _ hj => by
    rcases hj with rfl | ⟨x, hx, _, e⟩
    · exact o1
    · exact (h.row x hx).2.2 j e)
  -- no row lies at g or r
  have ng : ∀ x ∈ l, x.v.ownBlock ≠ some g := fun x hx e => by
    obtain ⟨cur, hc⟩ := (h.row x hx).2.1.kind e
    rw [h.obj] at hc
    simp [rmObj] at hc
    exact hTe hc.2
  have nr : ∀ x ∈ l, x.v.ownBlock ≠ some r := fun x hx e => by
    obtain ⟨cur, hc⟩ := (h.row x hx).2.1.kind e
    rw [hmp.heap] at hc
    simp at hc
  have other : ∀ x ∈ l, x.k ≠ k → ∀ j, x.v.ownBlock = some j → ¬ (j = r ∨ ∃ y ∈ l, y.k = k ∧ y.v.ownBlock = some j) := by
    intro x hx hxk j hj hc
    rcases hc with rfl | ⟨y, hy, hyk, e⟩
    · exact nr x hx hj
    · exact hxk ((h.sep x hx y hy j hj e).trans hyk)
  have apart : ∀ x ∈ l, x.k ≠ k → ∀ j, x.v.ownBlock = some j → v1.ownBlock ≠ some j := by
    intro x hx hxk j hj hc
    rcases hb j hc with ⟨y, hy, hyk, e⟩ | ⟨hge, _⟩
    · exact hxk ((h.sep x hx y hy j hj e).trans hyk)
    · have := (h.row x hx).2.1.ltb hj
      omega
  refine ⟨⟨ht.old h.obj ?_, h.own, fun r' e => ?_, fun e => (by cases e), fun x hx => ?_, fun s hs => ?_, fun x hx y hy j hj hk => ?_, by have := h.len; omega⟩, hT2⟩
  · rintro (e | ⟨x, hx, _, e⟩)
    · exact o2 e.symm
    · exact ng x hx e
  · cases e; exact ⟨o1, o2, hm⟩
  · by_cases hxk : x.k = k
    · rw [hv x hx hxk, hxk, updR, if_pos rfl]
      refine ⟨hz, ho, fun j hj => ?_⟩
      rcases hb j hj with ⟨y, hy, _, e⟩ | ⟨_, o⟩
      · exact (h.row y hy).2.2 j e
      · exact o
    · have hx' := h1 x hx hxk
      obtain ⟨a1, a2, a3⟩ := h.row x hx'
      rw [updR, if_neg hxk]
      exact ⟨a1, RowO.tch ht a2 (other x hx' hxk), a3⟩
  · rw [updR, if_neg (fun e => hs (by rw [e]; exact hin))]
    refine h.non s (fun hm' => hs ?_)
    obtain ⟨x, hx, e⟩ := List.mem_map.1 hm'
    by_cases hxk : x.k = k
    · rw [← e, hxk]; exact hin
    · exact List.mem_map.2 ⟨x, h2 x hx hxk, e⟩
  · by_cases hxk : x.k = k
    · by_cases hyk : y.k = k
      · rw [hxk, hyk]
      · rw [hv x hx hxk] at hj
        exact absurd hj (apart y (h1 y hy hyk) hyk j hk)
    · by_cases hyk : y.k = k
      · rw [hv y hy hyk] at hk
        exact absurd hk (apart x (h1 x hx hxk) hxk j hj)
      · exact h.sep x (h1 x hx hxk) y (h1 y hy hyk) j hj hk

/-- A key struck. -/
theorem Rm.cut {mt kt : TypeId} {r : Nat} (h : Rm T e sz C w O g f N (some r) l c) (hu : Tryz.prog.underlying mt = some (.map 28 kt)) (k : K3) :
    ∃ w', (∀ ty, (Builtin.delete_ #[mt, 28] ty #[.map (some r), k3E k]).run Tryz.prog w = .ok (.tuple #[]) w') ∧ RmS T e sz C w' O g (updR f k []) N ∧ Tch O w w' := by
  obtain ⟨o1, o2, hm⟩ := h.made r rfl
  obtain ⟨w', h1, h2, h3⟩ := hm.del k3Keyd hu 0 k
  have ng : ∀ x ∈ l, x.v.ownBlock ≠ some r := fun x hx e => by
    obtain ⟨cur, hc⟩ := (h.row x hx).2.1.kind e
    rw [hm.heap] at hc
    simp at hc
  have hsub : ∀ x ∈ delE l k, x ∈ l ∧ x.k ≠ k := fun x hx => by
    unfold delE at hx
    have := List.mem_filter.1 hx
    exact ⟨this.1, by simpa using this.2⟩
  have ht := Tch.of h3
  refine ⟨w', fun _ => h1, ⟨some r, delE l k, c, ht.old h.obj (fun e => o2 (Option.some.inj e).symm), h.own, fun r' e => (by cases e; exact ⟨o1, o2, h2⟩), fun e => (by cases e), fun x hx => ?_, fun s hs => ?_, fun x hx y hy => h.sep x (hsub x hx).1 y (hsub y hy).1, Nat.le_trans (by unfold delE; exact List.length_filter_le _ _) h.len⟩, ht.mono (fun k _ e => (Option.some.inj e).symm ▸ o1)⟩
  · obtain ⟨a1, a2, a3⟩ := h.row x (hsub x hx).1
    rw [updR, if_neg (hsub x hx).2]
    exact ⟨a1, RowO.tch ht a2 (fun j hj e => ng x (hsub x hx).1 (by rw [hj]; exact e)), a3⟩
  · rw [updR]
    by_cases e : s = k
    · rw [if_pos e]
    · rw [if_neg e]
      refine h.non s (fun hm' => hs ?_)
      obtain ⟨x, hx, ex⟩ := List.mem_map.1 hm'
      refine List.mem_map.2 ⟨x, ?_, ex⟩
      unfold delE
      exact List.mem_filter.2 ⟨hx, by simp [ex, e]⟩

/-- A row noted at a key by an update. -/
theorem Rm.put {mt kt : TypeId} {r : Nat} (h : Rm T e sz C w O g f N (some r) l c) (hu : Tryz.prog.underlying mt = some (.map 28 kt)) (hTe : T ≠ e) (k : K3) (z1 : List α) (hz : z1 ≠ [])
    {w1 : World} (hg : w.grownBy w1 ((atE l k).getD (.slice none 0 0)).ownBlock) (v1 : Value) (ho : RowO e sz C w1 v1 z1) (hl : v1.ownBlock = ((atE l k).getD (.slice none 0 0)).ownBlock ∨ ∃ j, v1.ownBlock = some j ∧ w.heap.size ≤ j ∧ O j) :
    ∃ w2, (Instr.mapUpdate mt (.map (some r)) (k3E k) v1).run Tryz.prog w1 = .ok () w2 ∧ RmS T e sz C w2 O g (updR f k z1) (N + 1) ∧ Tch O w w2 := by
  obtain ⟨o1, o2, hm⟩ := h.made r rfl
  have hv0r : ∀ j, ((atE l k).getD (.slice none 0 0)).ownBlock = some j → ∃ x ∈ l, x.k = k ∧ x.v.ownBlock = some j := by
    intro j hj
    rcases h.atK k with ⟨_, ha, _⟩ | ⟨x, hx, hk, ha, _⟩
    · rw [ha] at hj; cases hj
    · rw [ha] at hj; exact ⟨x, hx, hk, hj⟩
  have hne : ((atE l k).getD (.slice none 0 0)).ownBlock ≠ some r := fun er => by
    obtain ⟨x, hx, _, e'⟩ := hv0r r er
    obtain ⟨cur, hc⟩ := (h.row x hx).2.1.kind e'
    rw [hm.heap] at hc
    simp at hc
  have hm1 : Mp k3E w1 r l c := hm.kept hg hne
  have hv1r : v1.ownBlock ≠ some r := by
    rcases hl with e' | ⟨j, e', hj, _⟩
    · rw [e']; exact hne
    · rw [e']; intro e''; have := hm.lt; simp at e''; omega
  have hT1 : Tch (fun j => j = r ∨ ∃ x ∈ l, x.k = k ∧ x.v.ownBlock = some j) w w1 := (Tch.of hg).mono (fun j _ e' => Or.inr (hv0r j e'.symm))
  have hbl : ∀ j, v1.ownBlock = some j → (∃ x ∈ l, x.k = k ∧ x.v.ownBlock = some j) ∨ (w.heap.size ≤ j ∧ O j) := by
    intro j hj
    rcases hl with e' | ⟨i, e', hi⟩
    · exact Or.inl (hv0r j (e'.symm.trans hj))
    · rw [e'] at hj; simp at hj; subst hj; exact Or.inr hi
  by_cases hs : k ∈ l.map Ent.k
  · obtain ⟨w2, hrun, hm2, hg2⟩ := hm1.set k3Keyd hu k v1 hs
    have ho2 : RowO e sz C w2 v1 z1 := RowO.tch (Tch.of hg2) ho (fun j hj e' => hv1r (by rw [hj]; exact e'))
    have hmem : ∀ x ∈ setE l k v1, (x.k = k ∧ x.v = v1) ∨ (x.k ≠ k ∧ x ∈ l) := fun x hx => by
      unfold setE at hx
      obtain ⟨y, hy, rfl⟩ := List.mem_map.1 hx
      by_cases e' : y.k = k
      · rw [if_pos e']; exact Or.inl ⟨e', rfl⟩
      · rw [if_neg e']; exact Or.inr ⟨e', hy⟩
    obtain ⟨hR, hT⟩ := h.turn k z1 hz hm2 (by rw [setE_keys]; exact hs) (fun x hx hxk => ((hmem x hx).resolve_left (fun a => hxk a.1)).2)
      (fun x hx hxk => by unfold setE; exact List.mem_map.2 ⟨x, hx, if_neg hxk⟩) v1 (fun x hx hxk => ((hmem x hx).resolve_right (fun a => a.1 hxk)).2) ho2 hbl (by simp [setE]) (hT1.trans ((Tch.of hg2).mono (fun j _ e' => Or.inl (by simpa using e')))) hTe
    exact ⟨w2, hrun, ⟨_, _, _, hR⟩, hT⟩
  · obtain ⟨w2, hrun, hm2, hg2⟩ := hm1.put k3Keyd hu k v1 hs
    have ho2 : RowO e sz C w2 v1 z1 := RowO.tch (Tch.of hg2) ho (fun j hj e' => hv1r (by rw [hj]; exact e'))
    have hin : ∀ x ∈ l, x.k ≠ k := fun x hx e' => hs (by rw [← e']; exact List.mem_map.2 ⟨x, hx, rfl⟩)
    obtain ⟨hR, hT⟩ := h.turn k z1 hz hm2 (by simp) (fun x hx hxk => by
        rcases List.mem_append.1 hx with hx | hx
        · exact hx
        · simp at hx; subst hx; exact absurd rfl hxk)
      (fun x hx _ => List.mem_append_left _ hx) v1 (fun x hx hxk => by
        rcases List.mem_append.1 hx with hx | hx
        · exact absurd hxk (hin x hx)
        · simp at hx; subst hx; rfl) ho2 hbl (by simp) (hT1.trans ((Tch.of hg2).mono (fun j _ e' => Or.inl (by simpa using e')))) hTe
    exact ⟨w2, hrun, ⟨_, _, _, hR⟩, hT⟩
end

/-- A row that may be read: elements of 64 bits. -/
structure Rd (w : World) (ao : Option Addr) (m c : Nat) (z : List Int) : Prop where
  len : z.length = m
  nil : ao = none → m = 0 ∧ c = 0
  cells : ∀ a, ao = some a → ∀ j u, (z.map (Value.int .i64))[j]? = some u → w.cell? (a.add j) = some u
  le : m ≤ c
theorem Rd.tch {S : Nat → Prop} {w w' : World} {ao : Option Addr} {m c : Nat} {z : List Int} (h : Rd w ao m c z) (ht : Tch S w w') (hS : ∀ k, S k → ∀ (a : Addr) x, a.block = k → w.cell? a ≠ some (.int .i64 x)) : Rd w' ao m c z := by
  refine ⟨h.len, h.nil, fun a ha j u hj => ?_, h.le⟩
  have hc := h.cells a ha j u hj
  obtain ⟨x, _, rfl⟩ : ∃ x, z[j]? = some x ∧ Value.int .i64 x = u := by simpa using hj
  have hb : w'.heap[(a.add j).block]? = w.heap[(a.add j).block]? := ht.block _ (World.block_lt_of_cell? w _ hc) (fun hs => hS _ hs (a.add j) x rfl hc)
  rw [World.cell?_of_block hb]; exact hc
theorem Rd.later {w w' : World} {ao : Option Addr} {m c : Nat} {z : List Int} (h : Rd w ao m c z) (hb : Below w.heap.size w w') : Rd w' ao m c z :=
  h.tch (S := fun _ => False) (Below.tch hb) (fun _ e => e.elim)
theorem no_int_map {w : World} {k : Nat} {es : Array MapEntry} {n : Nat} (h : w.heap[k]? = some (.map es n)) (a : Addr) (x : Int) (ha : a.block = k) : w.cell? a ≠ some (.int .i64 x) := by
  subst ha
  simp [World.cell?, h]
theorem no_int_rm {w : World} {T : TypeId} {k : Nat} {mo : Option Nat} (h : w.heap[k]? = some (rmObj T mo)) (a : Addr) (x : Int) (ha : a.block = k) : w.cell? a ≠ some (.int .i64 x) := by
  subst ha
  intro hc
  simp [World.cell?, h, rmObj] at hc
  obtain ⟨_, h2⟩ := hc
  cases ho : a.off with
  | zero => rw [ho] at h2; simp at h2
  | succ n => rw [ho] at h2; simp at h2
end Go.Proofs.YtdogecaonlmalaaGreat
